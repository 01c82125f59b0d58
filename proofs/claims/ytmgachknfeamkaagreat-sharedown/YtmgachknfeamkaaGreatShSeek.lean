/-
  A namespace's seek.
-/
import Derived.Test.YtmgachknfeamkaaGreatShMem
namespace Go.Proofs.YtmgachknfeamkaaGreat
open Go.RowKit Go.WideShapes

/-- How a seek stands behind a Next: at an entry of the hash, or at its end. -/
def SeekS (w wr : World) (s g : Nat) (t : Tb) (mv : Value) (M : Int → Int → World → Prop) (a b : Int) (u k : Int) (f : Nat) (e8 e9 : Value) : Prop :=
  ∃ j : Nat, j ≤ f ∧ Ex (mB mv) w wr ∧ M a (b + ((j + 1 : Nat) : Int)) wr ∧
   ((∃ n : Nat, e8 = .int .i64 (n : Int) ∧ e9 = .bool true ∧ j < f ∧ Of t.es u n ∧ Sk wr s (.pointer (some ⟨g, 0, none⟩)) t.turn u t.L (j + 1) (n : Int) (j + 1) ∧ Told t.es t.L t.c u (j + 1) (n : Int) ∧ (∀ m : Nat, Of t.es u m → m < n → (nth t.es m).key ≠ k) ∧ (∀ p, Pos t.es t.L t.c n p → p = j)) ∨
    (e8 = .int .i64 (-1) ∧ e9 = .bool false ∧ j = f ∧ ∀ m, Of t.es u m → (nth t.es m).key ≠ k))
def skMeas (L : Nat) (e8 e9 : Value) : Nat := match e9 with
  | .bool true => L + 1 - (intOf e8).toNat
  | _ => 0
theorem told_pos {es : List En} {L : Nat} {c : Nat → Int} {u : Int} {j n : Nat} {told : Int} (h1 : Told es L c u j told) (h2 : Told es L c u (j + 1) (n : Int)) (h3 : told < (n : Int)) (hO : Of es u n) {p : Nat} (hp : Pos es L c n p) : p = j := by
  have a := (h2 n hO p hp).2 (Int.le_refl _)
  have b : ¬ p < j := fun h => by have := (h1 n hO p hp).1 h; omega
  omega
theorem seekS_of {w W W' : World} {s g : Nat} {t : Tb} {mv : Value} {M : Int → Int → World → Prop} {a b : Int} {u k : Int} {f i : Nat} {told : Int} {e : Ending} (hx : Ex (mB mv) w W) (hs : w.heap.size ≤ s) (hno : ∀ m : Nat, Of t.es u m → (m : Int) ≤ told → (nth t.es m).key ≠ k) (hF : IsF t.c (uw u) t.L f)
    (q : ∃ j, i ≤ j ∧ j ≤ f ∧ ((∃ n : Nat, e = .returned (.tuple #[.int .i64 (n : Int), .bool true]) ∧ Of t.es u n ∧ told < (n : Int) ∧ t.c (trl (uw u) t.L j) = (n : Int) ∧ Told t.es t.L t.c u j told ∧ Told t.es t.L t.c u (j + 1) (n : Int) ∧ (∀ m, Of t.es u m → told < (m : Int) → n ≤ m) ∧ Nx W s g t mv M a (b + (i : Int)) u i i j (.pointer (some ⟨g, 0, none⟩)) (n : Int) W') ∨
      (e = .returned (.tuple #[.int .i64 (-1), .bool false]) ∧ j = f ∧ (∀ n, Of t.es u n → (n : Int) ≤ told) ∧ Nx W s g t mv M a (b + (i : Int)) u i i j (.pointer none) told W'))) :
    ∃ e8 e9, e = .returned (.tuple #[e8, e9]) ∧ SeekS w W' s g t mv M a b u k f e8 e9 ∧ ((∃ n : Nat, e8 = .int .i64 (n : Int) ∧ e9 = .bool true ∧ told < (n : Int) ∧ n < t.es.length) ∨ (e8 = .int .i64 (-1) ∧ e9 = .bool false)) := by
  obtain ⟨j, h1, h2, (⟨n, rfl, h3, h4, h5, h6, h7, h8, h9⟩ | ⟨rfl, h3, h4, h5⟩)⟩ := q
  · refine ⟨_, _, rfl, ⟨j, h2, hx.next h9.ex (fun k' hk' y => ?_), ?_, .inl ⟨n, rfl, rfl, ?_, h3, ?_, h7, fun m hm hmn => ?_, fun p hp => told_pos h6 h7 h4 h3 hp⟩⟩, .inl ⟨n, rfl, rfl, h4, h3.1⟩⟩
    · rcases y with y | y
      · omega
      · exact y
    · have := h9.m
      rw [show b + (i : Int) + ((j + 1 - i : Nat) : Int) = b + ((j + 1 : Nat) : Int) by omega] at this
      exact this
    · rcases Nat.lt_or_ge j f with c | c
      · exact c
      · have e : j = f := by omega
        rw [e] at h5
        have := hF.1
        rw [h5] at this
        omega
    · have := h9.sk
      rw [show i + (j + 1 - i) = j + 1 by omega] at this
      exact this
    · by_cases c : (m : Int) ≤ told
      · exact hno m hm c
      · have := h8 m hm (by omega)
        omega
  · refine ⟨_, _, rfl, ⟨j, h2, hx.next h5.ex (fun k' hk' y => ?_), ?_, .inr ⟨rfl, rfl, h3, fun m hm => hno m hm (h4 m hm)⟩⟩, .inr ⟨rfl, rfl⟩⟩
    · rcases y with y | y
      · omega
      · exact y
    · have := h5.m
      rw [show b + (i : Int) + ((j + 1 - i : Nat) : Int) = b + ((j + 1 : Nat) : Int) by omega] at this
      exact this
/-- What a seek finds, and how many cells it visits. -/
def SkR (t : Tb) (u k res : Int) (jj : Nat) : Prop :=
  (∃ n : Nat, res = (n : Int) ∧ Fnd t.es k n ∧ ∀ p, Pos t.es t.L t.c n p → jj = p + 1) ∨ (res = -1 ∧ (∀ n, ¬ Fnd t.es k n) ∧ ∀ p, IsF t.c (uw u) t.L p → jj = p + 1)
set_option maxRecDepth 100000 in
set_option maxHeartbeats 4000000 in
theorem seek_gen {w : World} {s q f g gi r h : Nat} {ev : Value} {t : Tb} {mv : Value} {M : Int → Int → World → Prop} {a b : Int} {T : TypeId} {Fn : FuncId} {nm : ByteArray} {k : Int} (hnm : nm.size ≤ 3000)
    (x0 : w.cell? ⟨s, 0, none⟩ = some (.pointer (some ⟨f, 0, none⟩))) (x1 : w.cell? ⟨s, 1, none⟩ = some (.iface T (.pointer (some ⟨q, 0, none⟩))))
    (hm : ∀ w, (method 349 T (.pointer (some ⟨q, 0, none⟩)) "lexicon/shared.table").run Tryz.prog w = .ok (Fn, .pointer (some ⟨q, 0, none⟩)) w) (he : ∀ args w, (callFunc Fn args).run Tryz.prog w = .ok (.enter Fn args) w)
    (CN : Calls Tryz.prog 78 #[.pointer (some ⟨f, 0, none⟩), .string nm] w fun e w' => e = .returned (.int .i64 k) ∧ w' = w)
    (CT : Calls Tryz.prog Fn #[.pointer (some ⟨q, 0, none⟩)] w fun e w' => e = .returned (.pointer (some ⟨g, 0, none⟩)) ∧ w' = w)
    (hD : Dt w g gi r h ev t mv) (hO : t.Ok) (hMo : MtOk mv M) (hMv : MvOk mv M) (hM : M a b w) (hb : 0 ≤ b ∧ b ≤ 10000000000) (hlen : t.es.length ≤ 100000) (hu : ∀ n, Fnd t.es k n → Of t.es (hsT nm) n) :
    Calls Tryz.prog 45 #[.pointer (some ⟨s, 0, none⟩), .string nm] w fun e w' => ∃ (res : Int) (jj : Nat), e = .returned (.int .i64 res) ∧ SkR t (hsT nm) k res jj ∧ M a (b + (jj : Int)) w' ∧ Ex (mB mv) w w' := by
  obtain ⟨u, hue⟩ : ∃ u, hsT nm = u := ⟨_, rfl⟩
  have CX := text_h nm w hnm
  rw [hue] at CX hu
  rw [hue]
  clear hue
  have CS := seek_any hD u
  obtain ⟨fi, hfi, hF⟩ := hO.inv.first u
  have hL : 2 ^ t.L ≤ 1048576 := Nat.le_trans (Nat.pow_le_pow_right (n := 2) (by decide) hD.cl.sz.le) (by decide)
  have HD := Lib.hid hD
  have HO := Lib.hid hO
  have HMo := Lib.hid hMo
  have HMv := Lib.hid hMv
  have HM := Lib.hid hM
  have HU := Lib.hid hu
  have HF := Lib.hid hF
  have HFI := Lib.hid hfi
  have HL := Lib.hid hL
  clear hD hO hMo hMv hM hu hF hfi hL
  go_enter Tryz.func45, Tryz.ntmps45
  go_wp2_with fail
  refine CN.mono ?_
  rintro e w1 ⟨rfl, rfl⟩
  clear CN
  go_wp2_with fail
  refine CT.mono ?_
  rintro e w2 ⟨rfl, rfl⟩
  clear CT
  go_wp2_with fail
  refine CX.mono ?_
  rintro e w3 ⟨rfl, rfl⟩
  clear CX
  go_wp2_with fail
  refine CS.mono ?_
  rintro e w4 ⟨sk, rfl, hsk, hSk, hB4⟩
  clear CS
  have hD4 := HD.out.below hB4
  have hx4 : Ex (mB mv) w3 w4 := ex_of hB4
  have C1 := next7_any hD4 HO.out.inv HMo.out HMv.out (a := a) (b := b) (HMo.out.below HM.out hB4) ⟨hb.1, by omega⟩ hSk (fun hc => by have := HD.out.lt _ hc; omega) (fun hc => by have := HMo.out.lt _ _ _ _ HM.out hc; omega) (by omega) (told_zero _ _ _ _) HF.out HFI.out (Nat.zero_le _) (by omega) hlen
  have C1' := C1.mono (R' := fun e w' => ∃ e8 e9, e = .returned (.tuple #[e8, e9]) ∧ SeekS w3 w' sk g t mv M a b u k fi e8 e9) (fun e w' hq => by
    obtain ⟨e8, e9, h1, h2, _⟩ := seekS_of (k := k) (i := 0) (b := b) (told := -1) hx4 hsk (fun m _ hm => by omega) HF.out (by simpa using hq)
    exact ⟨e8, e9, h1, h2⟩)
  clear C1 hSk hB4 hD4 hx4
  go_wp2_with fail
  refine C1'.mono ?_
  rintro e w5 ⟨e8, e9, rfl, hS5⟩
  clear C1'
  have HS5 := Lib.hid hS5
  clear hS5
  go_wp2_with fail
  go_loopw [8, 9, 10, 11] (fun e8 e9 _ _ wr => SeekS w3 wr sk g t mv M a b u k fi e8 e9) (fun e8 e9 _ _ _ => skMeas t.es.length e8 e9)
  case atStart => exact HS5.out
  case round =>
    clear HS5
    obtain ⟨j, hj, hx, hm', (⟨n, rfl, rfl, hjf, hO, hK, hT, hno, hp⟩ | ⟨rfl, rfl, rfl, hno⟩)⟩ := hrel
    · have hDr := HD.out.met hx
      have CA := at7_yes hDr n hO.1 hO.2.1
      obtain ⟨E, hE⟩ : ∃ E, nth t.es n = E := ⟨_, rfl⟩
      rw [hE] at CA
      have HE := Lib.hid hE
      have HX := Lib.hid hx
      have HMM := Lib.hid hm'
      have HOf := Lib.hid hO
      have HK := Lib.hid hK
      have HT := Lib.hid hT
      have HNO := Lib.hid hno
      have HP := Lib.hid hp
      have HDR := Lib.hid hDr
      have hnl := hO.1
      clear hx hm' hO hK hT hno hp hDr hE
      go_wp2_with fail
      refine CA.mono ?_
      rintro e w6 ⟨rfl, hB6⟩
      clear CA
      obtain ⟨w7, hw7⟩ : ∃ y, w6.alloc (.cells #[.bool E.live, .int .i64 E.hash, .int .i64 E.key, .int .i64 E.value, .int .i64 E.birth] 96) = y := ⟨_, rfl⟩
      have hB7 : Below wr.heap.size wr w7 := by rw [← hw7]; exact hB6.alloc hB6.size _
      have hX7 : Blk w7 w6.heap.size 5 (fun j => #[Value.bool E.live, .int .i64 E.hash, .int .i64 E.key, .int .i64 E.value, .int .i64 E.birth].getD j .nilFunc) := by rw [← hw7]; exact Blk.new w6 _ _
      have p2 : w7.cell? ⟨w6.heap.size, 2, none⟩ = some (.int .i64 E.key) := hX7.c 2 (by omega)
      have hM7 := HMo.out.below HMM.out hB7
      have hx7 : Ex (mB mv) w3 w7 := HX.out.trans (ex_of hB7)
      have HW7 := Lib.hid hw7
      clear hw7 hX7 hB6
      by_cases hk : E.key = k
      · have HR : Hid (SkR t u k (n : Int) (j + 1)) := .inl ⟨n, rfl, ⟨hnl, HOf.out.2.1, by rw [HE.out]; exact hk⟩, fun p hp => by rw [HP.out p hp]⟩
        have tq : (E.key == k) = true := by simp [hk]
        have HM7 := Lib.hid hM7
        have HX7 := Lib.hid hx7
        clear hM7 hx7 hB7
        rw [hk] at p2 HW7 ⊢
        clear hk tq
        go_upto_region 8 with fail
        rw [HW7.out]
        go_wp2
        go_ret
        exact ⟨(n : Int), j + 1, rfl, HR.out, HM7.out, HX7.out⟩
      · have tq : (E.key == k) = false := by simp [hk]
        have tq2 : (E.key = k) = False := by simp [hk]
        have hno2 : ∀ m : Nat, Of t.es u m → (m : Int) ≤ (n : Int) → (nth t.es m).key ≠ k := fun m hm hmn => by
          rcases Nat.lt_or_ge m n with c | c
          · exact HNO.out m hm c
          · rw [show m = n by omega, HE.out]; exact hk
        have hlw := HX.out.size
        have C2 := next7_any (HDR.out.below hB7) HO.out.inv HMo.out HMv.out (a := a) (b := b + ((j + 1 : Nat) : Int)) hM7 ⟨by omega, by have := HFI.out; have := HL.out; omega⟩ (HK.out.of hB7 (by omega)) (fun hc => by have := HD.out.lt _ hc; omega) (fun hc => by have := HMo.out.lt _ _ _ _ HM.out hc; omega) (by have := HFI.out; have := HL.out; omega) HT.out HF.out HFI.out hjf (by omega) hlen
        have C2' := C2.mono (R' := fun e w' => ∃ e8 e9, e = .returned (.tuple #[e8, e9]) ∧ SeekS w3 w' sk g t mv M a b u k fi e8 e9 ∧ skMeas t.es.length e8 e9 < t.es.length + 1 - n) (fun e w' hq => by
          obtain ⟨e8, e9, h1, h2, h3⟩ := seekS_of (k := k) (i := j + 1) (b := b) hx7 hsk hno2 HF.out hq
          refine ⟨e8, e9, h1, h2, ?_⟩
          rcases h3 with ⟨m, rfl, rfl, h4, h5⟩ | ⟨rfl, rfl⟩
          · show t.es.length + 1 - (intOf (.int .i64 (m : Int))).toNat < _
            simp [intOf]
            omega
          · show 0 < _
            omega)
        clear C2 hM7 hx7 hB7 hno2 HK HT HNO
        go_upto_region 8 with fail
        rw [HW7.out]
        go_wp2_with fail
        refine C2'.mono ?_
        rintro e w8 ⟨e8, e9, rfl, hS8, hms⟩
        clear C2'
        have HS8 := Lib.hid hS8
        have HMS := Lib.hid hms
        clear hS8 hms
        go_wp2_with fail
        go_roundw
        case rel => exact HS8.out
        case measure =>
          have := HMS.out
          show skMeas t.es.length e8 e9 < t.es.length + 1 - (intOf (.int .i64 (n : Int))).toNat
          simp [intOf]
          omega
    · have HR : Hid (SkR t u k (-1) (j + 1)) := .inr ⟨rfl, fun n hn => hno n (HU.out n hn) hn.2.2, fun p hp => by rw [hp.uniq HF.out]⟩
      have HX := Lib.hid hx
      have HMM := Lib.hid hm'
      clear hx hm' hno
      go_wp2
      go_ret
      exact ⟨-1, j + 1, rfl, HR.out, HMM.out, HX.out⟩
end Go.Proofs.YtmgachknfeamkaaGreat
