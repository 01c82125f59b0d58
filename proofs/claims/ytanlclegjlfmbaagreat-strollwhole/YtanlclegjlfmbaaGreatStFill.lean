/-
  filled: a dictionary of the hashes of a list, numbered.
-/
import Derived.Test.YtanlclegjlfmbaaGreatStPut
import Derived.Test.YtanlclegjlfmbaaGreatPoMath
import Derived.Test.YtanlclegjlfmbaaGreatOpn
namespace Go.Proofs.YtanlclegjlfmbaaGreat
open Go.RowKit Go.WideShapes

/-- Entries of the hashes of l, numbered, with these values. -/
structure Fl (l : List Int) (vs : Nat → Int) (i : Nat) (t : Tb) : Prop where
  len : t.es.length = i
  at' : ∀ n, n < i → nth t.es n = ⟨true, l[n]?.getD 0, (n : Int), vs n, (n : Int)⟩
  dead : deadN t.es = 0
  births : t.births = i
  made : t.made ≤ i + 1
  turn : t.turn = i
  born : t.Born
theorem Fl.new (l : List Int) (vs : Nat → Int) : Fl l vs 0 Tb.new := ⟨rfl, fun _ h => absurd h (Nat.not_lt_zero _), rfl, rfl, Nat.le_refl _, rfl, new_born⟩
theorem Fl.add {l : List Int} {vs : Nat → Int} {i : Nat} {t : Tb} (h : Fl l vs i t) (ok : t.Ok) (hi : i < 100000) : Fl l vs (i + 1) (t.add (l[i]?.getD 0) (i : Int) (vs i)) := by
  have r := t.add_rest (l[i]?.getD 0) (i : Int) (vs i)
  have ok' := ok.add (l[i]?.getD 0) (i : Int) (vs i) (by rw [h.births]; exact hi)
  have e := t.add_es (l[i]?.getD 0) (i : Int) (vs i)
  rw [liveL_all h.dead, h.births] at e
  have hf := ok'.few
  have hl := liveL_len (t.add (l[i]?.getD 0) (i : Int) (vs i)).es
  rw [r.1, h.births] at hf
  have hlen : (liveL (t.add (l[i]?.getD 0) (i : Int) (vs i)).es).length = i + 1 := by rw [e]; simp [h.len]
  have hd : deadN (t.add (l[i]?.getD 0) (i : Int) (vs i)).es = 0 := by omega
  have he := (liveL_all hd).symm.trans e
  refine ⟨by rw [he]; simp [h.len], fun n hn => ?_, hd, by rw [r.1, h.births], by have := h.made; omega, by rw [r.2.2.2, h.turn], h.born.add _ _ _⟩
  rw [he]
  rcases Nat.lt_or_ge n i with z | z
  · rw [nth_app_lt (by rw [h.len]; exact z)]
    exact h.at' n z
  · have : n = i := by omega
    subst this
    have := nth_app_eq t.es ⟨true, l[n]?.getD 0, (n : Int), vs n, (n : Int)⟩
    rw [h.len] at this
    exact this
theorem Fl.of {l : List Int} {vs : Nat → Int} {i : Nat} {t : Tb} (h : Fl l vs i t) (u : Int) (n : Nat) : Of t.es u n ↔ n < i ∧ l[n]?.getD 0 = u := by
  constructor
  · rintro ⟨h1, _, h3⟩
    rw [h.len] at h1
    rw [h.at' n h1] at h3
    exact ⟨h1, h3⟩
  · rintro ⟨h1, h2⟩
    rw [Of, h.at' n h1]
    exact ⟨by rw [h.len]; exact h1, rfl, h2⟩
theorem Fl.key {l : List Int} {vs : Nat → Int} {i : Nat} {t : Tb} (h : Fl l vs i t) {n : Nat} (hn : n < i) : (nth t.es n).key = (n : Int) := by rw [h.at' n hn]
theorem Fl.live {l : List Int} {vs : Nat → Int} {i : Nat} {t : Tb} (h : Fl l vs i t) : t.live = i := by rw [Tb.live, h.dead, h.len]; omega
theorem Fl.fit {l : List Int} {vs : Nat → Int} {i v : Nat} {t : Tb} (h : Fl l vs i t) (hi : i ≤ 50000) (hv : v ≤ 1000000) : Fit t v := ⟨by have := h.made; omega, by rw [h.turn]; omega, by rw [h.births]; omega, by omega⟩
theorem Fl.putv {l : List Int} {vs : Nat → Int} {i : Nat} {t : Tb} (h : Fl l vs i t) {k : Nat} (hk : k < i) (x : Int) : Fl l (upd vs k x) i (t.putv k x) := by
  have hkl : k < t.es.length := by rw [h.len]; exact hk
  have hlv : (nth t.es k).live = true := by rw [h.at' k hk]
  refine ⟨by show (t.es.set k _).length = i; rw [List.length_set]; exact h.len, fun n hn => ?_, ?_, h.births, h.made, h.turn, h.born.putv k x⟩
  · show nth (t.es.set k _) n = _
    rw [nth_set hkl]
    unfold upd
    by_cases e : n = k
    · subst e
      rw [if_pos rfl, if_pos rfl, h.at' n hk]
    · rw [if_neg e, if_neg e]
      exact h.at' n hn
  · show deadN (t.es.set k _) = 0
    have := deadN_put t.es k ⟨(nth t.es k).live, (nth t.es k).hash, (nth t.es k).key, x, (nth t.es k).birth⟩ hlv hlv
    exact this.trans h.dead
/-- A put of a key that was not there, and of one that was. -/
theorem Fl.put_new {K : Nat → Prop} {B : Nat} {w0 : World} {d : Nat} {most : Int} {v : Nat} {l : List Int} {vs : Nat → Int} {i : Nat} {t : Tb} {w' : World} (h : Fl l vs i t) {uh key value : Int} (hk : ∀ n : Nat, n < i → (n : Int) ≠ key) (p : PutR K B w0 d t most v uh key value w') : ∃ g gi r h ev, Pd K B w0 w' d g gi r h ev (t.add uh key value) most (v + 1) := by
  rcases p with ⟨n, hO, hky, _⟩ | ⟨_, p⟩
  · have hn := ((h.of _ n).1 hO).1
    rw [h.key hn] at hky
    exact absurd hky (hk n hn)
  · exact p
theorem Fl.put_old {K : Nat → Prop} {B : Nat} {w0 : World} {d : Nat} {most : Int} {v : Nat} {l : List Int} {vs : Nat → Int} {i : Nat} {t : Tb} {w' : World} (h : Fl l vs i t) {value : Int} {k : Nat} (hk : k < i) (p : PutR K B w0 d t most v (l[k]?.getD 0) (k : Int) value w') : ∃ g gi r h ev, Pd K B w0 w' d g gi r h ev (t.putv k value) most (v + 1) := by
  rcases p with ⟨n, hO, hky, _, q⟩ | ⟨hno, _⟩
  · have hn := ((h.of _ n).1 hO).1
    rw [h.key hn] at hky
    have : n = k := by omega
    subst this
    exact q
  · exact absurd (h.key hk) (hno k ((h.of _ k).2 ⟨hk, rfl⟩))
/-- A dictionary that was filled. -/
def FilR (w w' : World) (d n0 : Nat) (l : List Int) : Prop := ∃ t g gi r h ev, Pd (fun _ => False) w.heap.size w w' d g gi r h ev t 1000 n0 ∧ Fl l (fun i => 5 * (i : Int)) n0 t
set_option maxRecDepth 100000 in
set_option maxHeartbeats 4000000 in
theorem filled_any (a0 : Option Addr) (n0 c0 : Nat) (l : List Int) (w : World) (h0 : SlI w a0 n0 c0 l) (hb0 : n0 ≤ 200) :
    Calls Tryz.prog 13 #[.slice a0 n0 c0] w fun e w' => ∃ d, e = .returned (.tuple #[.pointer (some ⟨d, 0, none⟩), .bool true]) ∧ FilR w w' d n0 l := by
  obtain ⟨b, off, hb, hn, hcap, hcell⟩ := h0.open
  clear h0
  have CN := lw_new w 1000 (by decide) (by decide)
  have HC : Hid (∀ W j, Below w.heap.size w W → j < n0 → a0 = some ⟨b, off, none⟩ ∧ W.cell? ⟨b, off + j, none⟩ = some (.int .i64 (l[j]?.getD 0))) := fun W j hW hj => ⟨(hb (by omega)).1, (hW.cell (p := ⟨b, off + j, none⟩) (hb (by omega)).2).trans (hcell j hj)⟩
  clear hb hcell hn
  go_enter Tryz.func13, Tryz.ntmps13
  go_wp2_with fail
  refine CN.mono ?_
  rintro e w1 ⟨d, g, gi, r, h, rfl, hP⟩
  clear CN
  have h1 := eqD d
  have HP := Lib.hid hP
  clear hP
  go_wp2_with fail
  go_loopw [6] (fun iv wr => ∃ i : Nat, i ≤ n0 ∧ iv = .int .i64 (i : Int) ∧ Hid (∃ t g gi r h ev, Pd (fun _ => False) w.heap.size w wr d g gi r h ev t 1000 i ∧ Fl l (fun i => 5 * (i : Int)) i t)) (fun iv _ => n0 - (intOf iv).toNat)
  case atStart => exact ⟨0, Nat.zero_le _, rfl, ⟨Tb.new, g, gi, r, h, _, HP.out, Fl.new l _⟩⟩
  case round =>
    clear HP
    obtain ⟨i, hi, rfl, HI⟩ := hrel
    by_cases hil : i < n0
    · have ti : (i : Int) < (n0 : Int) := by omega
      obtain ⟨t, g2, gi2, r2, h2, ev2, hP, hA⟩ := HI.out
      obtain ⟨ha0, hc⟩ := HC.out wr i hP.bl hil
      subst ha0
      have CP := put9_any hP (hA.fit (by omega) (by omega)) (by rw [hA.live]; omega) (by rw [hA.len]; omega) (l[i]?.getD 0) (i : Int) (5 * (i : Int))
      have e5 : IntKind.i64.wrap (5 * (i : Int)) = 5 * (i : Int) := i64_small (by omega) (by omega)
      have e1 : IntKind.i64.wrap ((i : Int) + 1) = ((i + 1 : Nat) : Int) := by rw [i64_small (by omega) (by omega)]; omega
      have HA := Lib.hid hA
      have HOK := Lib.hid hP.dc.ok
      clear hP hA HI
      go_wp2_with fail
      refine CP.mono ?_
      rintro e w2 ⟨rfl, hPR, _⟩
      clear CP
      have HN : Hid (∃ t g gi r h ev, Pd (fun _ => False) w.heap.size w w2 d g gi r h ev t 1000 (i + 1) ∧ Fl l (fun i => 5 * (i : Int)) (i + 1) t) := by
        obtain ⟨g, gi, r, h, ev, p⟩ := HA.out.put_new (fun n hn => by omega) hPR
        exact ⟨_, g, gi, r, h, ev, p, HA.out.add HOK.out (by omega)⟩
      clear hPR
      go_wp2_with fail
      go_roundw
      case rel => exact ⟨i + 1, by omega, rfl, HN⟩
      case measure => simp [intOf]; omega
    · obtain rfl : i = n0 := by omega
      have ti : ¬ (i : Int) < (i : Int) := by omega
      obtain ⟨t, g2, gi2, r2, h2, ev2, hP, hA⟩ := HI.out
      have HP2 := Lib.hid hP
      have HA := Lib.hid hA
      clear hP hA HI
      go_wp2
      go_ret2
      exact ⟨d, rfl, ⟨t, g2, gi2, r2, h2, ev2, HP2.out, HA.out⟩⟩
end Go.Proofs.YtanlclegjlfmbaaGreat
