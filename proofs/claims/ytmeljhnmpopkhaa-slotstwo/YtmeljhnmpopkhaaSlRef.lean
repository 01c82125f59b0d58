/-
  The reference's slots in memory, and what its All tells.
-/
import Derived.Test.YtmeljhnmpopkhaaSlNil
import Derived.Deep.RegionHeld3
import Derived.Deep.CutRange
namespace Go.Proofs.Ytmeljhnmpopkhaa
open Go.RowKit Go.WideShapes

def tkv (ss : List So) : List Value := ss.map fun e => Value.bool e.taken
theorem tkv_len (ss : List So) : (tkv ss).length = ss.length := by simp [tkv]
theorem tkv_get (ss : List So) (j : Nat) (h : j < ss.length) : (tkv ss)[j]? = some (.bool (nts ss j).taken) := by
  simp [tkv, nts, h]
theorem tkv_set (ss : List So) (j : Nat) (e : So) : tkv (ss.set j e) = (tkv ss).set j (.bool e.taken) := by simp [tkv, List.map_set]
/-- The reference's slots: at block q; vs: what stands in the row of lists; Z: the blocks of those lists. -/
structure Rq (w : World) (q : Nat) (ss : List So) (lv tv : Value) (vs : List Value) (Z : Nat → Prop) : Prop where
  c0 : w.cell? ⟨q, 0, none⟩ = some lv
  c1 : w.cell? ⟨q, 1, none⟩ = some tv
  z : ∀ j, w.frozen? ⟨q, j, none⟩ = false
  row : w.ownsRow 0 27 1 lv ss.length vs
  tk : w.ownsRow 0 4 1 tv ss.length (tkv ss)
  val : ∀ i, i < ss.length → (nts ss i).taken = true → ∃ b, Z b ∧ vs[i]? = some (.slice (some ⟨b, 0, none⟩) 1 1) ∧ w.cell? ⟨b, 0, none⟩ = some (.int .i64 (nts ss i).has)
  nr : lv.ownBlock ≠ some q
  nt : tv.ownBlock ≠ some q
  ne : ∀ k, lv.ownBlock = some k → tv.ownBlock = some k → False
  sm : ss.length ≤ 100000
  one : ∀ u ∈ vs, u.oneCell' = true
def RX (q : Nat) (lv tv : Value) (k : Nat) : Prop := k = q ∨ lv.ownBlock = some k ∨ tv.ownBlock = some k
def RqV (w : World) (q : Nat) (ss : List So) (Y Z : Nat → Prop) : Prop := ∃ lv tv vs, Rq w q ss lv tv vs Z ∧ (∀ k, RX q lv tv k → Y k) ∧ (∀ k, Y k → k < w.heap.size) ∧ (∀ k, Z k → k < w.heap.size) ∧ (∀ k, Z k → ¬ Y k)
theorem Rq.same {w w' : World} {q : Nat} {ss : List So} {lv tv : Value} {vs : List Value} {Z : Nat → Prop} (h : Rq w q ss lv tv vs Z) (e : ∀ k, RX q lv tv k ∨ Z k → w'.heap[k]? = w.heap[k]?) : Rq w' q ss lv tv vs Z := by
  have eq := e q (Or.inl (Or.inl rfl))
  refine ⟨(World.cell?_of_block (a := ⟨q, 0, none⟩) eq).trans h.c0, (World.cell?_of_block (a := ⟨q, 1, none⟩) eq).trans h.c1, fun j => (World.frozen?_of_block (a := ⟨q, j, none⟩) eq).trans (h.z j), ownsS_same h.row (fun k hk => e k (Or.inl (Or.inr (Or.inl hk)))), ownsS_same h.tk (fun k hk => e k (Or.inl (Or.inr (Or.inr hk)))), fun i hi ht => ?_, h.nr, h.nt, h.ne, h.sm, h.one⟩
  obtain ⟨b, hb, h1, h2⟩ := h.val i hi ht
  exact ⟨b, hb, h1, (World.cell?_of_block (a := ⟨b, 0, none⟩) (e b (Or.inr hb))).trans h2⟩
theorem RqV.keep {w w' : World} {q : Nat} {ss : List So} {X Y Z : Nat → Prop} (h : RqV w q ss Y Z) (x : Ex X w w') (d : ∀ k, X k → ¬ Y k ∧ ¬ Z k) : RqV w' q ss Y Z := by
  obtain ⟨lv, tv, vs, h1, h2, h3, h4, h5⟩ := h
  refine ⟨lv, tv, vs, h1.same (fun k hk => ?_), h2, fun k hk => Nat.lt_of_lt_of_le (h3 k hk) x.size, fun k hk => Nat.lt_of_lt_of_le (h4 k hk) x.size, h5⟩
  rcases hk with hk | hk
  · exact x.block k (h3 k (h2 k hk)) (fun hx => (d k hx).1 (h2 k hk))
  · exact x.block k (h4 k hk) (fun hx => (d k hx).2 hk)
theorem Rq.tcell {w : World} {q t n cap : Nat} {ss : List So} {lv : Value} {vs : List Value} {Z : Nat → Prop} (h : Rq w q ss lv (.slice (some ⟨t, 0, none⟩) n cap) vs Z) (j : Nat) (hj : j < ss.length) : n = ss.length ∧ w.cell? ⟨t, j, none⟩ = some (.bool (nts ss j).taken) := by
  have hn : n = ss.length := by
    rcases h.tk.2 with ⟨e, _⟩ | ⟨g', cap', cur, e, _⟩
    · cases e
    · cases e
      rfl
  subst hn
  refine ⟨rfl, ?_⟩
  rw [h.tk.cellAt j (by omega), tkv_get ss j hj]
/-- The numbers of the taken slots among the first. -/
def ixp (ss : List So) (j : Nat) : List Int := ((List.range j).filter fun k => (nts ss k).taken).map fun k : Nat => (k : Int)
theorem ixp_succ (ss : List So) (j : Nat) : ixp ss (j + 1) = ixp ss j ++ (if (nts ss j).taken then [(j : Int)] else []) := by
  unfold ixp
  rw [List.range_succ, List.filter_append, List.map_append]
  congr 1
  cases h : (nts ss j).taken <;> simp [h]
theorem ixp_pre (ss : List So) (j d : Nat) : ∃ r, ixp ss (j + d) = ixp ss j ++ r := by
  induction d with
  | zero => exact ⟨[], by simp⟩
  | succ d ih =>
    obtain ⟨r, hr⟩ := ih
    exact ⟨r ++ (if (nts ss (j + d)).taken then [((j + d : Nat) : Int)] else []), by rw [← Nat.add_assoc, ixp_succ, hr, List.append_assoc]⟩
theorem ixp_at (ss : List So) (j n : Nat) (hj : j < n) (ht : (nts ss j).taken = true) : (ixp ss n)[(ixp ss j).length]? = some (j : Int) := by
  obtain ⟨r, hr⟩ := ixp_pre ss (j + 1) (n - (j + 1))
  rw [show j + 1 + (n - (j + 1)) = n by omega, ixp_succ, if_pos ht] at hr
  rw [hr, List.append_assoc, List.getElem?_append_right (Nat.le_refl _)]
  simp
theorem ixp_len (ss : List So) (j n : Nat) (hj : j < n) (ht : (nts ss j).taken = true) : (ixp ss j).length < (ixp ss n).length := (List.getElem?_eq_some_iff.1 (ixp_at ss j n hj ht)).1
theorem ixp_cnt (ss : List So) (j : Nat) (hj : j ≤ ss.length) : (ixp ss j).length = cntS (ss.take j) := by
  induction j with
  | zero => simp [ixp, cntS]
  | succ j ih =>
    have hlt : j < ss.length := by omega
    rw [ixp_succ, List.length_append, ih (by omega), List.take_add_one, cntS_app, List.getElem?_eq_getElem hlt]
    have : nts ss j = ss[j] := by simp [nts, hlt]
    rw [this]
    cases h : ss[j].taken <;> simp [cntS, h]
theorem ixp_all (ss : List So) : (ixp ss ss.length).length = cntS ss := by rw [ixp_cnt ss _ (Nat.le_refl _), List.take_length]
theorem ixp_le (ss : List So) (j : Nat) : (ixp ss j).length ≤ j := by
  unfold ixp
  rw [List.length_map]
  exact Nat.le_trans (List.length_filter_le _ _) (by simp)
set_option maxRecDepth 100000 in
theorem rall_any {w : World} {q : Nat} {ss : List So} {lv tv : Value} {vs : List Value} {Z : Nat → Prop} (h : Rq w q ss lv tv vs Z) : Calls Try.prog 11 #[.pointer (some ⟨q, 0, none⟩)] w fun e w' => ∃ v, e = .returned v ∧ IntsR w.heap.size w' v (ixp ss ss.length) ∧ Below w.heap.size w w' := by
  obtain ⟨la, lc, rfl⟩ := ownsS_shape h.row
  obtain ⟨ta, tc, rfl⟩ := ownsS_shape h.tk
  have hsm := h.sm
  have hqlt : q < w.heap.size := lt_of_cell h.c0
  have HR := Lib.hid h
  obtain ⟨i0, hi, hz0, hz1, hz2⟩ := info_parts Try.infoN
  clear h
  go_enter Try.func11, Try.ntmps11
  go_wp2_with fail
  go_loopw [3, 4] (fun v3 v4 wr => ∃ j : Nat, j ≤ ss.length ∧ v4 = .int .i64 (j : Int) ∧ IntsR w.heap.size wr v3 (ixp ss j) ∧ Below w.heap.size w wr) (fun _ v4 _ => ss.length - (intOf v4).toNat)
  case atStart => exact ⟨0, Nat.zero_le _, rfl, IntsR.nil _ _, Below.refl _ _⟩
  case round =>
    obtain ⟨j, hj, rfl, hI, hB⟩ := hrel
    have c0 := (hB.cell (p := ⟨q, 0, none⟩) hqlt).trans HR.out.c0
    have c1 := (hB.cell (p := ⟨q, 1, none⟩) hqlt).trans HR.out.c1
    by_cases hjl : j < ss.length
    · have tj : (j : Int) < (ss.length : Int) := by omega
      have tj0 : (0 : Int) ≤ (j : Int) := by omega
      have ej : IntKind.i64.wrap ((j : Int) + 1) = ((j + 1 : Nat) : Int) := by rw [i64_small (by omega) (by omega)]; omega
      obtain ⟨t, tc2, e, htlt⟩ := ownsS_some HR.out.tk (by omega)
      injection e with e1 e2 e3
      subst e1 e3
      have r0 := (hB.cell (p := ⟨t, j, none⟩) htlt).trans (HR.out.tcell j hjl).2
      have hix := ixp_succ ss j
      have hil := ixp_le ss j
      cases ht : (nts ss j).taken
      · rw [ht] at r0 hix
        simp only [Bool.false_eq_true, if_false, List.append_nil] at hix
        have HI := Lib.hid hI
        have HB := Lib.hid hB
        have HX := Lib.hid hix
        clear hI hB hix
        go_wp2_with fail
        go_roundw
        case rel => exact ⟨j + 1, by omega, rfl, by rw [HX.out]; exact HI.out, HB.out⟩
        case measure =>
          simp [intOf]
          omega
      · rw [ht] at r0 hix
        simp only [if_true] at hix
        have hown : wr.ownsRow w.heap.size 3 1 u3 (ixp ss j).length ((ixp ss j).map fun x : Int => Value.int .i64 x) := hI
        have hws := hB.size
        have HB := Lib.hid hB
        have HX := Lib.hid hix
        clear hI hB hix
        go_wp2_with (at_builtin; refine wpListS_append_own rfl _ _ 27 rfl w.heap.size 3 i0 (.int .i64 0) 1 8 Try.underlying27 hi hz0 hz1 hz2 rfl (by decide) _ _ _ rfl (World.ownsRow.alloc hown _) ⟨wr.heap.size, 0, none⟩ 1 1 [.int .i64 (j : Int)] rfl rfl (newR_one _ _ _) (fun u hu => by simp at hu; subst hu; rfl) (by unfold maxLen; omega) (by omega) (by simp; omega) ?_)
        intro v' w5 hown2 hgrow hat
        have HI5 := Lib.hid (intsR_snoc hown2)
        have HB5 := Lib.hid (belowR_grown HB.out (Nat.le_refl _) hown hgrow)
        clear hown2 hgrow hat hown
        go_wp2_with fail
        go_roundw
        case rel => exact ⟨j + 1, by omega, rfl, by rw [HX.out]; exact HI5.out, HB5.out⟩
        case measure =>
          simp [intOf]
          omega
    · obtain rfl : j = ss.length := by omega
      have tj : ((ss.length : Int) < (ss.length : Int)) = False := by simp
      have HI := Lib.hid hI
      have HB := Lib.hid hB
      clear hI hB
      go_wp2
      go_ret
      exact ⟨_, rfl, HI.out, HB.out⟩
end Go.Proofs.Ytmeljhnmpopkhaa
