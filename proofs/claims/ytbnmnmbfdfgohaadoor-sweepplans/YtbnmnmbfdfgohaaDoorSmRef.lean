/-
  The reference's slots in memory: All, Is, Free, Add.
-/
import Derived.Test.YtbnmnmbfdfgohaaDoorSwWay
import Derived.Deep.RegionHeld3
import Derived.Deep.CutRange
namespace Go.Proofs.YtbnmnmbfdfgohaaDoor
open Go.RowKit Go.WideShapes

def tkv (ss : List So) : List Value := ss.map fun e => Value.bool e.taken
theorem tkv_len (ss : List So) : (tkv ss).length = ss.length := by simp [tkv]
theorem tkv_get (ss : List So) (j : Nat) (h : j < ss.length) : (tkv ss)[j]? = some (.bool (nts ss j).taken) := by
  simp [tkv, nts, h]
theorem tkv_set (ss : List So) (j : Nat) (e : So) : tkv (ss.set j e) = (tkv ss).set j (.bool e.taken) := by simp [tkv, List.map_set]
/-- The reference's slots: at block q; vs: what stands in the row of lists, which lie below block B. -/
structure Rq (w : World) (q : Nat) (ss : List So) (lv tv : Value) (vs : List Value) (B : Nat) : Prop where
  c0 : w.cell? ⟨q, 0, none⟩ = some lv
  c1 : w.cell? ⟨q, 1, none⟩ = some tv
  z : ∀ j, w.frozen? ⟨q, j, none⟩ = false
  row : w.ownsRow 0 23 1 lv ss.length vs
  tk : w.ownsRow 0 4 1 tv ss.length (tkv ss)
  val : ∀ i, i < ss.length → (nts ss i).taken = true → ∃ a n c, vs[i]? = some (.slice a n c) ∧ Lz w B a n c (nts ss i).has.l
  nr : lv.ownBlock ≠ some q
  nt : tv.ownBlock ≠ some q
  ne : ∀ k, lv.ownBlock = some k → tv.ownBlock = some k → False
  sm : ss.length ≤ 100000
  one : ∀ u ∈ vs, u.oneCell' = true
def RX (q : Nat) (lv tv : Value) (k : Nat) : Prop := k = q ∨ lv.ownBlock = some k ∨ tv.ownBlock = some k
def RqV (w : World) (q : Nat) (ss : List So) (Y : Nat → Prop) (B : Nat) : Prop := ∃ lv tv vs, Rq w q ss lv tv vs B ∧ (∀ k, RX q lv tv k → Y k) ∧ (∀ k, Y k → B ≤ k ∧ k < w.heap.size) ∧ B ≤ w.heap.size
theorem Rq.same {w w' : World} {q : Nat} {ss : List So} {lv tv : Value} {vs : List Value} {B : Nat} (h : Rq w q ss lv tv vs B) (e : ∀ k, RX q lv tv k → w'.heap[k]? = w.heap[k]?) (hb : Below B w w') : Rq w' q ss lv tv vs B := by
  have eq := e q (Or.inl rfl)
  refine ⟨(World.cell?_of_block (a := ⟨q, 0, none⟩) eq).trans h.c0, (World.cell?_of_block (a := ⟨q, 1, none⟩) eq).trans h.c1, fun j => (World.frozen?_of_block (a := ⟨q, j, none⟩) eq).trans (h.z j), ownsS_same h.row (fun k hk => e k (Or.inr (Or.inl hk))), ownsS_same h.tk (fun k hk => e k (Or.inr (Or.inr hk))), fun i hi ht => ?_, h.nr, h.nt, h.ne, h.sm, h.one⟩
  obtain ⟨a, n, c, h1, h2⟩ := h.val i hi ht
  exact ⟨a, n, c, h1, h2.below hb⟩
theorem RqV.keep {w w' : World} {q : Nat} {ss : List So} {X Y : Nat → Prop} {B : Nat} (h : RqV w q ss Y B) (x : Ex X w w') (d : ∀ k, X k → ¬ Y k ∧ B ≤ k) : RqV w' q ss Y B := by
  obtain ⟨lv, tv, vs, h1, h2, h3, h4⟩ := h
  exact ⟨lv, tv, vs, h1.same (fun k hk => x.block k (h3 k (h2 k hk)).2 (fun hx => (d k hx).1 (h2 k hk))) (x.below (fun k hk => (d k hk).2) h4), h2, fun k hk => ⟨(h3 k hk).1, Nat.lt_of_lt_of_le (h3 k hk).2 x.size⟩, Nat.le_trans h4 x.size⟩
theorem Rq.tcell {w : World} {q t n cap : Nat} {ss : List So} {lv : Value} {vs : List Value} {Z : Nat} (h : Rq w q ss lv (.slice (some ⟨t, 0, none⟩) n cap) vs Z) (j : Nat) (hj : j < ss.length) : n = ss.length ∧ w.cell? ⟨t, j, none⟩ = some (.bool (nts ss j).taken) := by
  have hn : n = ss.length := by
    rcases h.tk.2 with ⟨e, _⟩ | ⟨g', cap', cur, e, _⟩
    · cases e
    · cases e
      rfl
  subst hn
  refine ⟨rfl, ?_⟩
  rw [h.tk.cellAt j (by omega), tkv_get ss j hj]
def tk (ss : List So) (k : Nat) : Bool := (nts ss k).taken
set_option maxRecDepth 100000 in
theorem rall_any {w : World} {q : Nat} {ss : List So} {lv tv : Value} {vs : List Value} {Z : Nat} (h : Rq w q ss lv tv vs Z) : Calls Tryd.prog 30 #[.pointer (some ⟨q, 0, none⟩)] w fun e w' => ∃ v, e = .returned v ∧ IntsR w.heap.size w' v (nbs (tk ss) ss.length) ∧ Below w.heap.size w w' := by
  obtain ⟨la, lc, rfl⟩ := ownsS_shape h.row
  obtain ⟨ta, tc, rfl⟩ := ownsS_shape h.tk
  have hsm := h.sm
  have hqlt : q < w.heap.size := lt_of_cell h.c0
  have HR := Lib.hid h
  obtain ⟨i0, hi, hz0, hz1, hz2⟩ := info_parts Tryd.infoN
  clear h
  go_enter Tryd.func30, Tryd.ntmps30
  go_wp2_with fail
  go_loopw [3, 4] (fun v3 v4 wr => ∃ j : Nat, j ≤ ss.length ∧ v4 = .int .i64 (j : Int) ∧ IntsR w.heap.size wr v3 (nbs (tk ss) j) ∧ Below w.heap.size w wr) (fun _ v4 _ => ss.length - (intOf v4).toNat)
  case atStart => exact ⟨0, Nat.zero_le _, rfl, IntsR.nil _ _, Below.refl _ _⟩
  case round =>
    obtain ⟨j, hj, rfl, hI, hB⟩ := hrel
    have c0 := (hB.cell (p := ⟨q, 0, none⟩) hqlt).trans HR.out.c0
    have c1 := (hB.cell (p := ⟨q, 1, none⟩) hqlt).trans HR.out.c1
    by_cases hjl : j < ss.length
    · have tj : (j : Int) < (ss.length : Int) := by omega
      have tj0 : (0 : Int) ≤ (j : Int) := by omega
      have ej : IntKind.i64.wrap ((j : Int) + 1) = ((j + 1 : Nat) : Int) := by rw [i64_small (by omega) (by omega)]; omega
      obtain ⟨t, tc2, e, htlt⟩ := ownsS_some HR.out.tk (by omega)
      injection e with e1 e2 e3
      subst e1 e3
      have r0 := (hB.cell (p := ⟨t, j, none⟩) htlt).trans (HR.out.tcell j hjl).2
      have hix := nbs_succ (tk ss) j
      have hil := nbs_le (tk ss) j
      have htk0 : tk ss j = (nts ss j).taken := rfl
      rw [htk0] at hix
      clear htk0
      cases ht : (nts ss j).taken
      · rw [ht] at r0 hix
        simp only [Bool.false_eq_true, if_false, List.append_nil] at hix
        have HI := Lib.hid hI
        have HB := Lib.hid hB
        have HX := Lib.hid hix
        clear hI hB hix
        go_wp2_with fail
        go_roundw
        case rel => exact ⟨j + 1, by omega, rfl, by rw [HX.out]; exact HI.out, HB.out⟩
        case measure =>
          simp [intOf]
          omega
      · rw [ht] at r0 hix
        simp only [if_true] at hix
        have hown : wr.ownsRow w.heap.size 3 1 u3 (nbs (tk ss) j).length ((nbs (tk ss) j).map fun x : Int => Value.int .i64 x) := hI
        have hws := hB.size
        have HB := Lib.hid hB
        have HX := Lib.hid hix
        clear hI hB hix
        go_wp2_with (at_builtin; refine wpListS_append_own rfl _ _ 23 rfl w.heap.size 3 i0 (.int .i64 0) 1 8 Tryd.underlying23 hi hz0 hz1 hz2 rfl (by decide) _ _ _ rfl (World.ownsRow.alloc hown _) ⟨wr.heap.size, 0, none⟩ 1 1 [.int .i64 (j : Int)] rfl rfl (newR_one _ _ _) (fun u hu => by simp at hu; subst hu; rfl) (by unfold maxLen; omega) (by omega) (by simp; omega) ?_)
        intro v' w5 hown2 hgrow hat
        have HI5 := Lib.hid (intsR_snoc hown2)
        have HB5 := Lib.hid (belowR_grown HB.out (Nat.le_refl _) hown hgrow)
        clear hown2 hgrow hat hown
        go_wp2_with fail
        go_roundw
        case rel => exact ⟨j + 1, by omega, rfl, by rw [HX.out]; exact HI5.out, HB5.out⟩
        case measure =>
          simp [intOf]
          omega
    · obtain rfl : j = ss.length := by omega
      have tj : ((ss.length : Int) < (ss.length : Int)) = False := by simp
      have HI := Lib.hid hI
      have HB := Lib.hid hB
      clear hI hB
      go_wp2
      go_ret
      exact ⟨_, rfl, HI.out, HB.out⟩
theorem rowS_len {w : World} {B : Nat} {e : TypeId} {size n k cap g : Nat} {xs : List Value} (h : w.ownsRow B e size (.slice (some ⟨g, 0, none⟩) k cap) n xs) : k = n := by
  rcases h.2 with ⟨e, _⟩ | ⟨g', cap', cur, e, _⟩
  · cases e
  · cases e
    rfl
theorem ris_any {w : World} {q : Nat} {ss : List So} {lv tv : Value} {vs : List Value} {Z : Nat} (h : Rq w q ss lv tv vs Z) (i : Int) : Calls Tryd.prog 19 #[.pointer (some ⟨q, 0, none⟩), .int .i64 i] w fun e w' => e = .returned (.bool (isT ss i)) ∧ w' = w := by
  obtain ⟨la, lc, rfl⟩ := ownsS_shape h.row
  have c0 := h.c0
  have c1 := h.c1
  by_cases hi : 0 ≤ i
  · by_cases hl : i < (ss.length : Int)
    · obtain ⟨k, rfl⟩ : ∃ k : Nat, i = (k : Int) := ⟨i.toNat, by omega⟩
      rw [isT_nat ss k (by omega)]
      obtain ⟨t, tc, rfl, _⟩ := ownsS_some h.tk (by omega)
      have r0 := (h.tcell k (by omega)).2
      clear h
      generalize (nts ss k).taken = b at *
      go_enter Tryd.func19, Tryd.ntmps19
      go_wp2
      go_ret
      exact ⟨rfl, rfl⟩
    · rw [isT_no (by omega)]
      have t1 : (i < (ss.length : Int)) = False := by simp; omega
      clear h
      go_enter Tryd.func19, Tryd.ntmps19
      go_wp2
      go_ret
      exact ⟨rfl, rfl⟩
  · rw [isT_no (by omega)]
    have t1 : (0 ≤ i) = False := by simp; omega
    clear h
    go_enter Tryd.func19, Tryd.ntmps19
    go_wp2
    go_ret
    exact ⟨rfl, rfl⟩
end Go.Proofs.YtbnmnmbfdfgohaaDoor
