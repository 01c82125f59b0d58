/-
  The law's put.
  filled: a dictionary of the hashes of a list, numbered.
-/
import Derived.Test.YtbdpecpmdglalaaGreatStLaw
import Derived.Test.YtbdpecpmdglalaaGreatPrAny
import Derived.Test.YtbdpecpmdglalaaGreatPoFl
import Derived.Test.YtbdpecpmdglalaaGreatOpn
namespace Go.Proofs.YtbdpecpmdglalaaGreat
open Go.RowKit Go.WideShapes

/-- What a put of a key makes of a dictionary: it turns the value of the pair that has it, or adds a pair. -/
def PutR (K : Nat → Prop) (B : Nat) (w0 : World) (d : Nat) (t : Tb) (most : Int) (v : Nat) (uh key value : Int) (w' : World) : Prop :=
  (∃ n, Of t.es uh n ∧ (nth t.es n).key = key ∧ (∀ k, k < n → Of t.es uh k → (nth t.es k).key ≠ key) ∧ ∃ g gi r h ev, Pd K B w0 w' d g gi r h ev (t.putv n value) most (v + 1)) ∨
  ((∀ n, Of t.es uh n → (nth t.es n).key ≠ key) ∧ ∃ g gi r h ev, Pd K B w0 w' d g gi r h ev (t.add uh key value) most (v + 1))
theorem tu_new (w : World) (u : Tu) {w1 : World} (h : w.alloc (.cells #[.int .i64 u.kind, .int .i64 u.key, .bool u.found, .int .i64 u.value, .int .i64 u.entry] 48) = w1) : w1.cell? ⟨w.heap.size, 0, none⟩ = some (.int .i64 u.kind) ∧ Below w.heap.size w w1 := by
  have hb : Blk w1 w.heap.size 5 (fun j => #[Value.int .i64 u.kind, .int .i64 u.key, .bool u.found, .int .i64 u.value, .int .i64 u.entry].getD j .nilFunc) := by rw [← h]; exact Blk.new w _ _
  exact ⟨hb.c 0 (by omega), by rw [← h]; exact (Below.refl _ w).alloc (Nat.le_refl _) _⟩
set_option maxRecDepth 100000 in
set_option maxHeartbeats 4000000 in
theorem put9_any {K : Nat → Prop} {B : Nat} {w0 w : World} {d g gi r h : Nat} {ev : Value} {t : Tb} {most : Int} {v : Nat} (p : Pd K B w0 w d g gi r h ev t most v) (ft : Fit t v) (hl : (t.live : Int) < most) (hsz : t.es.length ≤ 1990) (uh key value : Int) :
    Calls Tryz.prog 14 #[.pointer (some ⟨d, 0, none⟩), .int .i64 uh, .int .i64 key, .int .i64 value] w fun e w' => e = .returned (.bool true) ∧ PutR K B w0 d t most v uh key value w' ∧ Kp K w w' := by
  have CB := rd_begin p 2 (by decide) (by decide) uh key value
  have HFT := Lib.hid ft
  clear p ft
  go_enter Tryz.func14, Tryz.ntmps14
  go_wp2_with fail
  refine CB.mono ?_
  rintro e w1 ⟨x, rfl, hR1, hK1⟩
  clear CB
  have h1 := eqMa x
  have HR1 := Lib.hid hR1
  clear hR1
  go_wp2_with fail
  clear h1
  go_loopw [10, 11] (fun iv _ wr => ∃ (i : Nat) (told : Int), iv = .int .i64 (i : Int) ∧ (i : Int) ≤ told + 1 ∧ told < (t.es.length : Int) ∧ Hid (Rdy K B w0 wr d x t most v 2 uh key value told) ∧ Hid (∀ k : Nat, (k : Int) ≤ told → Of t.es uh k → (nth t.es k).key ≠ key) ∧ Kp K w wr) (fun iv _ _ => 2000 - (intOf iv).toNat)
  case atStart => exact ⟨0, -1, rfl, by omega, by omega, HR1, (fun k hk => by omega), hK1⟩
  case round =>
    clear HR1 hK1
    obtain ⟨i, told, rfl, hi, htl, HR, HN, hK⟩ := hrel
    have t1 : (i : Int) < 2000 := by omega
    have CS := rd_step HR.out HFT.out
    have e1 : IntKind.i64.wrap ((i : Int) + 1) = ((i + 1 : Nat) : Int) := by rw [i64_small (by omega) (by omega)]; omega
    clear HR
    go_wp2_with fail
    refine CS.mono ?_
    rintro e w2 ⟨u, rfl, hQ, hK2⟩
    clear CS
    obtain ⟨w3, hw3⟩ : ∃ y, w2.alloc (.cells #[.int .i64 u.kind, .int .i64 u.key, .bool u.found, .int .i64 u.value, .int .i64 u.entry] 48) = y := ⟨_, rfl⟩
    obtain ⟨c0, hB3⟩ := tu_new w2 u hw3
    have HW3 := Lib.hid hw3
    clear hw3
    rcases hQ with ⟨n, hO, htn, hmin, (⟨hky, hu, g2, gi2, r2, h2, ev2, hP⟩ | ⟨hky, hu, g2, gi2, r2, h2, ev2, s2, j2, f2, hA⟩)⟩ | ⟨hnone, hM⟩
    · have HF : Hid (PutR K B w0 d t most v uh key value w3) := .inl ⟨n, hO, hky, (fun k hk hOk => by
        by_cases hkt : (k : Int) ≤ told
        · exact HN.out k hkt hOk
        · have := hmin k hOk (by omega); omega), g2, gi2, r2, h2, ev2, hP.below hB3⟩
      have HK : Hid (Kp K w w3) := (hK.trans hK2).trans (hP.kept hB3)
      subst hu
      clear hP hky hO hmin
      unfold tuV
      simp only at c0 HW3
      go_upto_region 8 with fail
      rw [HW3.out]
      go_wp2
      go_ret
      exact ⟨rfl, HF.out, HK.out⟩
    · have CT := rd_tell (w := w3) (ky := (nth t.es n).key) (by rw [hu] at hA; exact hA.below hB3)
      have hnl : n < t.es.length := hO.1
      have HN2 : Hid (∀ k : Nat, (k : Int) ≤ (n : Int) → Of t.es uh k → (nth t.es k).key ≠ key) := fun k hk hOk => by
        by_cases hkt : (k : Int) ≤ told
        · exact HN.out k hkt hOk
        · have := hmin k hOk (by omega)
          rw [show k = n by omega]
          exact hky
      have HK : Hid (Kp K w w3) := (hK.trans hK2).trans (hA.pd.kept hB3)
      subst hu
      clear hA hky hO hmin
      unfold tuV
      simp only at c0 HW3
      go_upto_region 8 with fail
      rw [HW3.out]
      go_wp2_with fail
      refine CT.mono ?_
      rintro e w4 ⟨rfl, hR4, hK4⟩
      clear CT
      have HR4 := Lib.hid hR4
      clear hR4
      go_wp2_with fail
      go_roundw
      case rel => exact ⟨i + 1, (n : Int), rfl, by omega, by omega, HR4, HN2, HK.out.trans hK4⟩
      case measure => simp [intOf]; omega
    · rcases hM with ⟨_, _, hu, g2, gi2, r2, h2, ev2, hP⟩ | ⟨_, q, _⟩ | ⟨q, _⟩
      · have HF : Hid (PutR K B w0 d t most v uh key value w3) := .inr ⟨fun n hn => HN.out n (hnone n hn) hn, g2, gi2, r2, h2, ev2, hP.below hB3⟩
        have HK : Hid (Kp K w w3) := (hK.trans hK2).trans (hP.kept hB3)
        subst hu
        clear hP hnone
        unfold tuV
        simp only at c0 HW3
        go_upto_region 8 with fail
        rw [HW3.out]
        go_wp2
        go_ret
        exact ⟨rfl, HF.out, HK.out⟩
      · exact absurd hl q
      · exact absurd (.inl rfl) q
end Go.Proofs.YtbdpecpmdglalaaGreat
namespace Go.Proofs.YtbdpecpmdglalaaGreat
open Go.RowKit Go.WideShapes

/-- A put of a key that was not there, and of one that was. -/
theorem Fl.put_new {K : Nat → Prop} {B : Nat} {w0 : World} {d : Nat} {most : Int} {v : Nat} {l : List Int} {vs : Nat → Int} {i : Nat} {t : Tb} {w' : World} (h : Fl l vs i t) {uh key value : Int} (hk : ∀ n : Nat, n < i → (n : Int) ≠ key) (p : PutR K B w0 d t most v uh key value w') : ∃ g gi r h ev, Pd K B w0 w' d g gi r h ev (t.add uh key value) most (v + 1) := by
  rcases p with ⟨n, hO, hky, _⟩ | ⟨_, p⟩
  · have hn := ((h.of _ n).1 hO).1
    rw [h.key hn] at hky
    exact absurd hky (hk n hn)
  · exact p
theorem Fl.put_old {K : Nat → Prop} {B : Nat} {w0 : World} {d : Nat} {most : Int} {v : Nat} {l : List Int} {vs : Nat → Int} {i : Nat} {t : Tb} {w' : World} (h : Fl l vs i t) {value : Int} {k : Nat} (hk : k < i) (p : PutR K B w0 d t most v (l[k]?.getD 0) (k : Int) value w') : ∃ g gi r h ev, Pd K B w0 w' d g gi r h ev (t.putv k value) most (v + 1) := by
  rcases p with ⟨n, hO, hky, _, q⟩ | ⟨hno, _⟩
  · have hn := ((h.of _ n).1 hO).1
    rw [h.key hn] at hky
    have : n = k := by omega
    subst this
    exact q
  · exact absurd (h.key hk) (hno k ((h.of _ k).2 ⟨hk, rfl⟩))
/-- A dictionary that was filled. -/
def FilR (w w' : World) (d n0 : Nat) (l : List Int) : Prop := ∃ t g gi r h ev, Pd (fun _ => False) w.heap.size w w' d g gi r h ev t 1000 n0 ∧ Fl l (fun i => 5 * (i : Int)) n0 t
set_option maxRecDepth 100000 in
set_option maxHeartbeats 4000000 in
theorem filled_any (a0 : Option Addr) (n0 c0 : Nat) (l : List Int) (w : World) (h0 : SlI w a0 n0 c0 l) (hb0 : n0 ≤ 200) :
    Calls Tryz.prog 9 #[.slice a0 n0 c0] w fun e w' => ∃ d, e = .returned (.tuple #[.pointer (some ⟨d, 0, none⟩), .bool true]) ∧ FilR w w' d n0 l := by
  obtain ⟨b, off, hb, hn, hcap, hcell⟩ := h0.open
  clear h0
  have CN := lw_new w 1000 (by decide) (by decide)
  have HC : Hid (∀ W j, Below w.heap.size w W → j < n0 → a0 = some ⟨b, off, none⟩ ∧ W.cell? ⟨b, off + j, none⟩ = some (.int .i64 (l[j]?.getD 0))) := fun W j hW hj => ⟨(hb (by omega)).1, (hW.cell (p := ⟨b, off + j, none⟩) (hb (by omega)).2).trans (hcell j hj)⟩
  clear hb hcell hn
  go_enter Tryz.func9, Tryz.ntmps9
  go_wp2_with fail
  refine CN.mono ?_
  rintro e w1 ⟨d, g, gi, r, h, rfl, hP⟩
  clear CN
  have h1 := eqD d
  have HP := Lib.hid hP
  clear hP
  go_wp2_with fail
  go_loopw [6] (fun iv wr => ∃ i : Nat, i ≤ n0 ∧ iv = .int .i64 (i : Int) ∧ Hid (∃ t g gi r h ev, Pd (fun _ => False) w.heap.size w wr d g gi r h ev t 1000 i ∧ Fl l (fun i => 5 * (i : Int)) i t)) (fun iv _ => n0 - (intOf iv).toNat)
  case atStart => exact ⟨0, Nat.zero_le _, rfl, ⟨Tb.new, g, gi, r, h, _, HP.out, Fl.new l _⟩⟩
  case round =>
    clear HP
    obtain ⟨i, hi, rfl, HI⟩ := hrel
    by_cases hil : i < n0
    · have ti : (i : Int) < (n0 : Int) := by omega
      obtain ⟨t, g2, gi2, r2, h2, ev2, hP, hA⟩ := HI.out
      obtain ⟨ha0, hc⟩ := HC.out wr i hP.bl hil
      subst ha0
      have CP := put9_any hP (hA.fit (by omega) (by omega)) (by rw [hA.live]; omega) (by rw [hA.len]; omega) (l[i]?.getD 0) (i : Int) (5 * (i : Int))
      have e5 : IntKind.i64.wrap (5 * (i : Int)) = 5 * (i : Int) := i64_small (by omega) (by omega)
      have e1 : IntKind.i64.wrap ((i : Int) + 1) = ((i + 1 : Nat) : Int) := by rw [i64_small (by omega) (by omega)]; omega
      have HA := Lib.hid hA
      have HOK := Lib.hid hP.dc.ok
      clear hP hA HI
      go_wp2_with fail
      refine CP.mono ?_
      rintro e w2 ⟨rfl, hPR, _⟩
      clear CP
      have HN : Hid (∃ t g gi r h ev, Pd (fun _ => False) w.heap.size w w2 d g gi r h ev t 1000 (i + 1) ∧ Fl l (fun i => 5 * (i : Int)) (i + 1) t) := by
        obtain ⟨g, gi, r, h, ev, p⟩ := HA.out.put_new (fun n hn => by omega) hPR
        exact ⟨_, g, gi, r, h, ev, p, HA.out.add HOK.out (by omega)⟩
      clear hPR
      go_wp2_with fail
      go_roundw
      case rel => exact ⟨i + 1, by omega, rfl, HN⟩
      case measure => simp [intOf]; omega
    · obtain rfl : i = n0 := by omega
      have ti : ¬ (i : Int) < (i : Int) := by omega
      obtain ⟨t, g2, gi2, r2, h2, ev2, hP, hA⟩ := HI.out
      have HP2 := Lib.hid hP
      have HA := Lib.hid hA
      clear hP hA HI
      go_wp2
      go_ret2
      exact ⟨d, rfl, ⟨t, g2, gi2, r2, h2, ev2, HP2.out, HA.out⟩⟩
end Go.Proofs.YtbdpecpmdglalaaGreat
