/-
  A walk more.
  The law's goal.
-/
import Derived.Test.YtejfmajbggmghaaGreatSpX
namespace Go.Proofs.YtejfmajbggmghaaGreat
open Go.RowKit Go.WideShapes

def St8.walk (S : St8) (q : Wk) (vm vn : Value) : St8 := { S with nw := S.nw + 1, ws := updA S.ws S.nw q, rm := vm, rn := vn }
theorem walk_fin {B : Nat} {w w' : World} {X : Nat} {S : St8} {most : Int} {c : Nat} (h : J9 B w X S most c) (h20 : S.nw < 20) {q : Wk} {vm vn : Value}
    (hx : Ex (fun i => i = X ∨ S.rm.ownBlock = some i ∨ S.rn.ownBlock = some i) w w')
    (hq : (w.heap.size ≤ q.s ∧ q.s < w'.heap.size) ∧ (w.heap.size ≤ q.k ∧ q.k < w'.heap.size) ∧ (w.heap.size ≤ q.b ∧ q.b < w'.heap.size) ∧ q.s ≠ q.k ∧ q.s ≠ q.b ∧ q.k ≠ q.b)
    (hwv : Wv w' (S.ds 0).d (S.ds 0).d2 q)
    (hvm : w'.ownsRow 0 42 1 vm (S.nw + 1) (ptrs (fun j => (S.ws j).s) S.nw ++ [.pointer (some ⟨q.s, 0, none⟩)])) (hvn : w'.ownsRow 0 63 1 vn (S.nw + 1) (ptrs (fun j => (S.ws j).k) S.nw ++ [.pointer (some ⟨q.k, 0, none⟩)]))
    (hbm : ∀ i, vm.ownBlock = some i → S.rm.ownBlock = some i ∨ (w.heap.size ≤ i ∧ i ≠ q.s ∧ i ≠ q.k ∧ i ≠ q.b)) (hbn : ∀ i, vn.ownBlock = some i → S.rn.ownBlock = some i ∨ (w.heap.size ≤ i ∧ i ≠ q.s ∧ i ≠ q.k ∧ i ≠ q.b))
    (hmn : ∀ i, vm.ownBlock = some i → vn.ownBlock = some i → False)
    (hX : Blk w' X 4 (x8F (S.walk q vm vn))) : J9 B w' X (S.walk q vm vn) most c ∧ Below B w w' := by
  obtain ⟨lab, sp⟩ := h.p.sep
  obtain ⟨l2, y1, y2⟩ := h.wk.sep
  have hsz := hx.size
  have hnd := h.nd
  have hnm := h.nm
  have old : ∀ i, i < w.heap.size → lab i ≠ 0 → lab i ≠ 3 → lab i ≠ 4 → w'.heap[i]? = w.heap[i]? := fun i hi h0 h1 h2 => hx.block i hi (fun h => by
    rcases h with h | h | h
    · exact h0 (by rw [h]; exact sp.x.1)
    · exact h1 (sp.rm i h).1
    · exact h2 (sp.rn i h).1)
  have old2 : ∀ i, i < w.heap.size → l2 i ≠ 0 → w'.heap[i]? = w.heap[i]? := fun i hi h0 => hx.block i hi (fun h => by
    rcases h with h | h | h
    · exact h0 (y1 i (.inl h))
    · exact h0 (y1 i (.inr (.inl h)))
    · exact h0 (y1 i (.inr (.inr (.inl h)))))
  obtain ⟨⟨s1, s2⟩, ⟨k1, k2⟩, ⟨b1, b2⟩, n1, n2, n3⟩ := hq
  have em : ptrs (fun j => (updA S.ws S.nw q j).s) (S.nw + 1) = ptrs (fun j => (S.ws j).s) S.nw ++ [.pointer (some ⟨q.s, 0, none⟩)] := by
    rw [ptrs, updA_at, ptrs_congr (g := fun j => (S.ws j).s) S.nw (fun i hi => by rw [updA_ne _ _ (by omega)])]
  have en : ptrs (fun j => (updA S.ws S.nw q j).k) (S.nw + 1) = ptrs (fun j => (S.ws j).k) S.nw ++ [.pointer (some ⟨q.k, 0, none⟩)] := by
    rw [ptrs, updA_at, ptrs_congr (g := fun j => (S.ws j).k) S.nw (fun i hi => by rw [updA_ne _ _ (by omega)])]
  have hlm : ∀ i, vm.ownBlock = some i → i < w'.heap.size := fun i hi => (World.ownsRow.lt hvm i hi).2
  have hln : ∀ i, vn.ownBlock = some i → i < w'.heap.size := fun i hi => (World.ownsRow.lt hvn i hi).2
  have hall : ∀ i, (S.walk q vm vn).all X i → S.all X i ∨ (w.heap.size ≤ i ∧ i ≠ q.s ∧ i ≠ q.k ∧ i ≠ q.b) := by
    rintro i (z | z | z | z | z)
    · exact .inl (.inl z)
    · exact (hbm i z).elim (fun z => .inl (.inr (.inl z))) .inr
    · exact (hbn i z).elim (fun z => .inl (.inr (.inr (.inl z)))) .inr
    · exact .inl (.inr (.inr (.inr (.inl z))))
    · exact .inl (.inr (.inr (.inr (.inr z))))
  have hp : P8 w' X (S.walk q vm vn) (.pointer none) (.pointer none) noM 0 0 most c := by
    refine ⟨hX, ?_, ?_, h.p.nd, h.p.nm, fun i hi => ?_, fun j hj => absurd hj (by show ¬ j < S.nm; omega), trivial, .inl rfl, h.p.ab, ?_⟩
    · show w'.ownsRow 0 _ 1 vm (S.nw + 1) (ptrs (fun j => (updA S.ws S.nw q j).s) (S.nw + 1))
      rw [em]; exact hvm
    · show w'.ownsRow 0 _ 1 vn (S.nw + 1) (ptrs (fun j => (updA S.ws S.nw q j).k) (S.nw + 1))
      rw [en]; exact hvn
    · exact (h.p.dk i hi).same (fun b hb => by have := sp.dp i hi b hb; exact old b this.2 (by omega) (by omega) (by omega)) (fun b hb => by have := sp.dr i hi b hb; exact old b this.2 (by omega) (by omega) (by omega))
    · have dm : ∀ i, Decidable (vm.ownBlock = some i) := fun i => Classical.propDecidable _
      refine ⟨fun i => if i < w.heap.size then lab i else if vm.ownBlock = some i then 3 else 4, ⟨?_, by have := sp.x.2; omega⟩, fun b hb => (noneB hb).elim, fun b hb => (noneB hb).elim, fun b hb => ?_, fun b hb => ?_, fun i hi b hb => ?_, fun i hi b hb => ?_, fun j hj => absurd hj (by show ¬ j < S.nm; omega), fun j hj => absurd hj (by show ¬ j < S.nm; omega)⟩
      · show (if X < w.heap.size then lab X else _) = 0
        rw [if_pos sp.x.2]; exact sp.x.1
      · show (if b < w.heap.size then lab b else if vm.ownBlock = some b then 3 else 4) = 3 ∧ _
        rcases hbm b hb with z | z
        · have := sp.rm b z; rw [if_pos this.2]; exact ⟨this.1, by omega⟩
        · rw [if_neg (by omega), if_pos (show vm.ownBlock = some b from hb)]; exact ⟨rfl, hlm b hb⟩
      · show (if b < w.heap.size then lab b else if vm.ownBlock = some b then 3 else 4) = 4 ∧ _
        rcases hbn b hb with z | z
        · have := sp.rn b z; rw [if_pos this.2]; exact ⟨this.1, by omega⟩
        · rw [if_neg (by omega), if_neg (show ¬ vm.ownBlock = some b from fun e => hmn b e hb)]; exact ⟨rfl, hln b hb⟩
      · show (if b < w.heap.size then lab b else _) = 5 + 4 * i ∧ _
        have := sp.dp i hi b hb; rw [if_pos this.2]; exact ⟨this.1, by omega⟩
      · show (if b < w.heap.size then lab b else _) = 6 + 4 * i ∧ _
        have := sp.dr i hi b hb; rw [if_pos this.2]; exact ⟨this.1, by omega⟩
  refine ⟨⟨hp, h.nd, h.nm, ⟨by show S.nw + 1 ≤ 20; omega, fun j hj => ?_, fun i => if i < w.heap.size then l2 i else if i = q.s then 3 * S.nw + 1 else if i = q.k then 3 * S.nw + 2 else if i = q.b then 3 * S.nw + 3 else 0, fun i hi => ?_, fun j hj => ?_⟩, fun i hi => ?_, Nat.le_trans h.hB hsz⟩, ⟨hx.os, hx.tape, hx.output, hsz, fun i hi => hx.block i (Nat.lt_of_lt_of_le hi h.hB) (fun z => ?_)⟩⟩
  · show Wv w' (S.ds 0).d (S.ds 0).d2 (updA S.ws S.nw q j)
    by_cases e : j = S.nw
    · rw [e, updA_at]; exact hwv
    · rw [updA_ne _ _ e]
      have hj' : j < S.nw := by have : j < S.nw + 1 := hj; omega
      obtain ⟨a1, a2, a3⟩ := y2 j hj'
      exact (h.wk.wv j hj').same (old2 _ a1.2 (by omega)) (old2 _ a2.2 (by omega)) (old2 _ a3.2 (by omega))
  · show (if i < w.heap.size then l2 i else if i = q.s then 3 * S.nw + 1 else if i = q.k then 3 * S.nw + 2 else if i = q.b then 3 * S.nw + 3 else 0) = 0
    rcases hall i hi with z | z
    · rw [if_pos (h.lt i z)]; exact y1 i z
    · rw [if_neg (by omega), if_neg z.2.1, if_neg z.2.2.1, if_neg z.2.2.2]
  · have ew : (S.walk q vm vn).ws j = updA S.ws S.nw q j := rfl
    rw [ew]
    by_cases e : j = S.nw
    · rw [e, updA_at]
      refine ⟨⟨?_, s2⟩, ⟨?_, k2⟩, ⟨?_, b2⟩⟩
      · show (if q.s < w.heap.size then l2 q.s else if q.s = q.s then 3 * S.nw + 1 else _) = _
        rw [if_neg (by omega), if_pos rfl]
      · show (if q.k < w.heap.size then l2 q.k else if q.k = q.s then 3 * S.nw + 1 else if q.k = q.k then 3 * S.nw + 2 else _) = _
        rw [if_neg (by omega), if_neg (fun z => n1 z.symm), if_pos rfl]
      · show (if q.b < w.heap.size then l2 q.b else if q.b = q.s then 3 * S.nw + 1 else if q.b = q.k then 3 * S.nw + 2 else if q.b = q.b then 3 * S.nw + 3 else _) = _
        rw [if_neg (by omega), if_neg (fun z => n2 z.symm), if_neg (fun z => n3 z.symm), if_pos rfl]
    · rw [updA_ne _ _ e]
      have hj' : j < S.nw := by have : j < S.nw + 1 := hj; omega
      obtain ⟨a1, a2, a3⟩ := y2 j hj'
      refine ⟨⟨?_, by omega⟩, ⟨?_, by omega⟩, ⟨?_, by omega⟩⟩
      · show (if (S.ws j).s < w.heap.size then l2 (S.ws j).s else _) = _
        rw [if_pos a1.2]; exact a1.1
      · show (if (S.ws j).k < w.heap.size then l2 (S.ws j).k else _) = _
        rw [if_pos a2.2]; exact a2.1
      · show (if (S.ws j).b < w.heap.size then l2 (S.ws j).b else _) = _
        rw [if_pos a3.2]; exact a3.1
  · rcases hi with z | ⟨j, hj, z⟩
    · exact (hall i z).elim (fun z => h.lo i (.inl z)) (fun z => Nat.le_trans h.hB z.1)
    · have z' : i = (updA S.ws S.nw q j).s ∨ i = (updA S.ws S.nw q j).k ∨ i = (updA S.ws S.nw q j).b := z
      by_cases e : j = S.nw
      · rw [e, updA_at] at z'
        have := h.hB
        omega
      · rw [updA_ne _ _ e] at z'
        exact h.lo i (.inr ⟨j, by have : j < S.nw + 1 := hj; omega, z'⟩)
  · rcases z with z | z | z
    · have := h.lo i (.inl (.inl z)); omega
    · have := h.lo i (.inl (.inr (.inl z))); omega
    · have := h.lo i (.inl (.inr (.inr (.inl z)))); omega
/-- Next, on both sides: the walk j and the document's tell the same. -/
theorem next_both {B : Nat} {w : World} {X : Nat} {S : St8} {most : Int} {c : Nat} (h : J9 B w X S most c) (hc : c ≤ 50000) {j : Nat} (hj : j < S.nw) :
    ∃ (x : En) (o : Int) (Pw : World → Prop), (Calls Tryz.prog 11 #[.pointer (some ⟨(S.ws j).s, 0, none⟩)] w fun e w1 => e = .returned (.tuple #[eV x, .int .i64 o]) ∧ Pw w1) ∧
      ∀ w1, Pw w1 → Ex (fun i => i = (S.ws j).s) w w1 ∧ ∀ w1', Below w1.heap.size w1 w1' → Calls Tryz.prog 18 #[.pointer (some ⟨(S.ws j).k, 0, none⟩)] w1' fun e w2 => e = .returned (.tuple #[eV x, .int .i64 o]) ∧ Ex (fun i => i = (S.ws j).k) w1' w2 ∧ J9 B w2 X S most c ∧ Below B w w2 := by
  obtain ⟨l2, y1, y2⟩ := h.wk.sep
  obtain ⟨a1, a2, a3⟩ := y2 j hj
  have hdk := h.p.dk 0 (by rw [h.nd]; decide)
  have hlen : (S.ds 0).t.es.length ≤ 100000 := Nat.le_trans hdk.dc.ok.few hdk.dc.ok.all
  have hbb : (S.ds 0).t.births ≤ 50000 := Nat.le_trans hdk.bd.births hc
  have fin : ∀ w1 w1' w2, Ex (fun i => i = (S.ws j).s) w w1 → Below w1.heap.size w1 w1' → Ex (fun i => i = (S.ws j).k) w1' w2 → Wv w2 (S.ds 0).d (S.ds 0).d2 (S.ws j) → J9 B w2 X S most c ∧ Below B w w2 := fun w1 w1' w2 x1 hb x2 hv => by
    have x12 : Ex (fun i => i = (S.ws j).s ∨ i = (S.ws j).k) w w2 := ((x1.mono (fun _ _ z => .inl z)).next (ex_of (X := fun _ => False) hb) (fun _ _ z => z.elim)).next x2 (fun _ _ z => .inr z)
    have key : ∀ i, i < w.heap.size → l2 i ≠ 3 * j + 1 → l2 i ≠ 3 * j + 2 → w2.heap[i]? = w.heap[i]? := fun i hi z1 z2 => x12.block i hi (fun z => by
      rcases z with z | z
      · exact z1 (by rw [z]; exact a1.1)
      · exact z2 (by rw [z]; exact a2.1))
    have kall : ∀ i, S.all X i → w2.heap[i]? = w.heap[i]? := fun i hi => key i (h.lt i hi) (by rw [y1 i hi]; omega) (by rw [y1 i hi]; omega)
    have hs := x12.size
    refine ⟨⟨h.p.keep mtOk_nil hs (fun i z => ?_), h.nd, h.nm, ⟨h.wk.nw, fun i hi => ?_, l2, y1, fun i hi => ?_⟩, h.lo, Nat.le_trans h.hB hs⟩, ⟨x12.os, x12.tape, x12.output, hs, fun i hi => x12.block i (Nat.lt_of_lt_of_le hi h.hB) (fun z => ?_)⟩⟩
    · rcases z with z | z | z
      · exact kall i z
      · exact (noneB z).elim
      · exact (noneB z).elim
    · by_cases e : i = j
      · rw [e]; exact hv
      · obtain ⟨c1, c2, c3⟩ := y2 i hi
        exact (h.wk.wv i hi).same (key _ c1.2 (by omega) (by omega)) (key _ c2.2 (by omega) (by omega)) (key _ c3.2 (by omega) (by omega))
    · obtain ⟨c1, c2, c3⟩ := y2 i hi
      exact ⟨⟨c1.1, by omega⟩, ⟨c2.1, by omega⟩, ⟨c3.1, by omega⟩⟩
    · have g1 := h.lo _ (.inr ⟨j, hj, .inl rfl⟩)
      have g2 := h.lo _ (.inr ⟨j, hj, .inr (.inl rfl)⟩)
      rcases z with z | z
      · rw [z] at hi; omega
      · rw [z] at hi; omega
  have nks : (S.ws j).k ≠ (S.ws j).s := fun e => by rw [e] at a2; omega
  have nbs : (S.ws j).b ≠ (S.ws j).s := fun e => by rw [e] at a3; omega
  have nbk : (S.ws j).b ≠ (S.ws j).k := fun e => by rw [e] at a3; omega
  -- what the document's side finds
  have mid : ∀ w1 w1', Ex (fun i => i = (S.ws j).s) w w1 → Below w1.heap.size w1 w1' → w1'.heap[(S.ws j).k]? = w.heap[(S.ws j).k]? ∧ w1'.heap[(S.ws j).b]? = w.heap[(S.ws j).b]? ∧ w1'.heap[(S.ws j).s]? = w1.heap[(S.ws j).s]? ∧ Rdc w1' (S.ds 0).d2 (S.ds 0).g2 (S.ds 0).q2 (S.ds 0).ev2 (S.ds 0).t (.pointer none) most (S.ds 0).v := fun w1 w1' x1 hb => by
    have hs := x1.size
    refine ⟨(hb.block _ (by omega)).trans (x1.block _ a2.2 nks), (hb.block _ (by omega)).trans (x1.block _ a3.2 nbs), hb.block _ (by omega), hdk.rc.same fun i hi => ?_⟩
    have hi' : S.all X i := .inr (.inr (.inr (.inl ⟨0, by rw [h.nd]; decide, .inr hi⟩)))
    have hl := h.lt i hi'
    exact (hb.block _ (by omega)).trans (x1.block _ hl (fun e => by have := y1 i hi'; rw [e] at this; omega))
  rcases h.wk.wv j hj with ⟨back, size, told, last, begun, h1, h2, h3⟩ | ⟨br, F, h1, h2, h3⟩
  · by_cases hsz : ((S.ds 0).t.live : Int) = size
    · subst hsz
      have ht2 : back = false → told < 9223372036854775807 := fun e => by have := h3.hi e; omega
      obtain ⟨e0, he0⟩ := fd_some back (S.ds 0).t.es told
      obtain ⟨x, yb, hV, hy⟩ := fd_det back (S.ds 0).t.es told e0 he0
      have C1 := next_go hdk.dc hdk.born h1 h3.lo ht2 (y0 := x.live) (y1 := x.hash) (y2 := x.key) (y3 := x.value) (y4 := x.birth) (yb := yb) hy
      refine ⟨if yb = true then x else En.zero, if yb = true then 0 else 10, fun w1 => (if yb = true then Sr w1 (S.ws j).s (S.ds 0).d back ((S.ds 0).t.live : Int) x.birth (S.ws j).b else Blk w1 (S.ws j).s 5 (soF false)) ∧ Ex (fun i => i = (S.ws j).s) w w1, C1.mono fun e w1 ⟨g1, g2, g3⟩ => ⟨by rw [g1]; cases yb <;> rfl, g2, g3⟩, ?_⟩
      rintro w1 ⟨g2, g3⟩
      refine ⟨g3, fun w1' hb => ?_⟩
      obtain ⟨m1, m2, m3, m4⟩ := mid w1 w1' g3 hb
      refine (rnext9_go m4 hlen hdk.born (by omega) (h2.same m1) h3).mono ?_
      rintro e w2 ⟨x', yb', hV', rfl, hk, hx2⟩
      obtain ⟨rfl, rfl⟩ := fdV_one hV' hV
      refine ⟨by cases yb' <;> rfl, hx2, fin w1 w1' w2 g3 hb hx2 ?_⟩
      have ks : w2.heap[(S.ws j).s]? = w1.heap[(S.ws j).s]? := (hx2.block _ (by have := g3.size; have := hb.size; omega) (fun e => nks e.symm)).trans m3
      have kb : w2.heap[(S.ws j).b]? = w1.heap[(S.ws j).b]? := (hx2.block _ (by have := g3.size; have := hb.size; omega) nbk).trans (hb.block _ (by have := g3.size; omega))
      cases yb' with
      | true =>
        rw [if_pos rfl] at g2 hk
        refine .inl ⟨back, _, x'.birth, x'.birth, true, g2.same ks kb, hk, ?_⟩
        rcases hV with ⟨_, n, hn, rfl⟩ | ⟨y, _⟩
        · have hnl : n < (S.ds 0).t.es.length := by
            cases back with
            | true => rw [if_pos rfl] at hn; exact hn.1
            | false => simp only [Bool.false_eq_true, if_false] at hn; exact hn.1
          have g := hdk.born.at hnl
          exact ⟨by omega, fun _ => by omega, fun _ => rfl, fun y => by cases y⟩
        · cases y
      | false =>
        simp only [Bool.false_eq_true, if_false] at g2 hk
        exact .inr ⟨false, _, Blk.same g2 ks, hk, rfl⟩
    · have C1 := next_size hdk.dc h1 hsz
      refine ⟨En.zero, 9, fun w1 => Blk w1 (S.ws j).s 5 (soF true) ∧ Ex (fun i => i = (S.ws j).s) w w1, C1.mono fun e w1 ⟨g1, g2, g3⟩ => ⟨g1, g2, g3⟩, ?_⟩
      rintro w1 ⟨g2, g3⟩
      refine ⟨g3, fun w1' hb => ?_⟩
      obtain ⟨m1, m2, m3, m4⟩ := mid w1 w1' g3 hb
      refine (rnext9_size m4 (h2.same m1) hsz).mono ?_
      rintro e w2 ⟨rfl, hk, hx2⟩
      have ks : w2.heap[(S.ws j).s]? = w1.heap[(S.ws j).s]? := (hx2.block _ (by have := g3.size; have := hb.size; omega) (fun e => nks e.symm)).trans m3
      exact ⟨rfl, hx2, fin w1 w1' w2 g3 hb hx2 (.inr ⟨true, _, Blk.same g2 ks, hk, rfl⟩)⟩
  · cases br with
    | true =>
      have C1 := next_broken h1
      refine ⟨En.zero, 9, fun w1 => Blk w1 (S.ws j).s 5 (soF true) ∧ Ex (fun i => i = (S.ws j).s) w w1, C1.mono fun e w1 ⟨g1, g2, g3⟩ => ⟨g1, g2, g3⟩, ?_⟩
      rintro w1 ⟨g2, g3⟩
      refine ⟨g3, fun w1' hb => ?_⟩
      obtain ⟨m1, m2, m3, m4⟩ := mid w1 w1' g3 hb
      refine (rnext9_over (h2.same m1) h3 (by decide)).mono ?_
      rintro e w2 ⟨rfl, hb2⟩
      have hx2 : Ex (fun i => i = (S.ws j).k) w1' w2 := ex_of hb2
      have ks : w2.heap[(S.ws j).s]? = w1.heap[(S.ws j).s]? := (hx2.block _ (by have := g3.size; have := hb.size; omega) (fun e => nks e.symm)).trans m3
      exact ⟨rfl, hx2, fin w1 w1' w2 g3 hb hx2 (.inr ⟨true, F, Blk.same g2 ks, (h2.same m1).of hb2 (by omega), h3⟩)⟩
    | false =>
      have C1 := next_over h1
      refine ⟨En.zero, 10, fun w1 => Blk w1 (S.ws j).s 5 (soF false) ∧ Ex (fun i => i = (S.ws j).s) w w1, C1.mono fun e w1 ⟨g1, g2⟩ => ⟨g1, h1.of g2 (by omega), ex_of g2⟩, ?_⟩
      rintro w1 ⟨g2, g3⟩
      refine ⟨g3, fun w1' hb => ?_⟩
      obtain ⟨m1, m2, m3, m4⟩ := mid w1 w1' g3 hb
      refine (rnext9_over (h2.same m1) h3 (by decide)).mono ?_
      rintro e w2 ⟨rfl, hb2⟩
      have hx2 : Ex (fun i => i = (S.ws j).k) w1' w2 := ex_of hb2
      have ks : w2.heap[(S.ws j).s]? = w1.heap[(S.ws j).s]? := (hx2.block _ (by have := g3.size; have := hb.size; omega) (fun e => nks e.symm)).trans m3
      exact ⟨rfl, hx2, fin w1 w1' w2 g3 hb hx2 (.inr ⟨false, F, Blk.same g2 ks, (h2.same m1).of hb2 (by omega), h3⟩)⟩
end Go.Proofs.YtejfmajbggmghaaGreat
namespace Go.Proofs.YtejfmajbggmghaaGreat
open Go.RowKit Go.WideShapes

theorem UpN.zero {S S' S'' : St8} (h : UpN 0 S S') (g : UpN 0 S' S'') : UpN 0 S S'' := fun i c hb => g i c (h i c hb)
/-- How far a machine has come that was begun at the state S1. -/
structure Lp (w0 : World) (X : Nat) (S1 : St8) (most : Int) (c : Nat) (S' : St8) (w : World) : Prop where
  p : ∃ a b, P8 w X S' (.pointer none) (.pointer none) noM a b most c
  kp : Kept S1 S'
  fx : ∀ k, S'.all X k → S1.all X k ∨ w0.heap.size ≤ k
  ex : Ex (fun k => S1.all X k ∨ mB (.pointer none) k ∨ mB (.pointer none) k) w0 w
theorem Lp.below {w0 w w' : World} {X : Nat} {S1 S' : St8} {most : Int} {c : Nat} (h : Lp w0 X S1 most c S' w) (hb : Below w.heap.size w w') : Lp w0 X S1 most c S' w' := by
  obtain ⟨a, b, hp⟩ := h.p
  exact ⟨⟨a, b, hp.below mtOk_nil hb⟩, h.kp, h.fx, h.ex.next (ex_of (X := fun _ => False) hb) (fun _ _ y => y.elim)⟩
theorem Lp.step {w0 w w' : World} {X : Nat} {S1 S' S'' : St8} {most : Int} {c c' : Nat} {a' b' : Int} (h : Lp w0 X S1 most c S' w) (d : D8 w X S' (.pointer none) (.pointer none) noM most c' S'' a' b' w') (k : Kept S' S'') : Lp w0 X S1 most c' S'' w' :=
  ⟨⟨a', b', d.p⟩, h.kp.trans k, fun i hi => (d.fx i hi).elim (h.fx i) (fun y => .inr (Nat.le_trans h.ex.size y)), h.ex.next d.ex (fun i hl y => by
    rcases y with y | y | y
    · rcases h.fx i y with z | z
      · exact .inl z
      · omega
    · exact (noneB y).elim
    · exact (noneB y).elim)⟩
theorem Lp.fin {B : Nat} {w w2 w' : World} {X : Nat} {S S1 S' : St8} {most : Int} {c cx n : Nat} (h : J9 B w X S most c) (hb : Below w.heap.size w w2) (f1 : ∀ i, S1.all X i → S.all X i ∨ w.heap.size ≤ i) (e1 : S1.nd = S.nd ∧ S1.nw = S.nw ∧ S1.ws = S.ws ∧ S1.ds = S.ds) (l : Lp w2 X S1 most cx S' w') (hu : UpN n S1 S') : ∃ S', J9 B w' X S' most (c + n) ∧ Below B w w' := by
  obtain ⟨a, b, hp⟩ := l.p
  have e0 : S'.nd = 1 := (l.kp.nd.trans e1.1).trans h.nd
  have hbp : ∀ i, i < S'.nd → Bp (S'.ds i) (c + n) := fun i hi => hu i c (by rw [e1.2.2.2]; exact (h.p.dk i (by rw [h.nd]; omega)).bd)
  refine ⟨S'.bare, h.turn (hp.bare hbp) e0 rfl (fun i hi => ?_) ?_ (l.kp.nw.trans e1.2.1) (l.kp.ws.trans e1.2.2.1) ?_⟩
  · rcases l.fx i (St8.bare_all hi) with y | y
    · exact f1 i y
    · exact .inr (Nat.le_trans hb.size y)
  · refine (ex_of hb).next l.ex (fun i hl y => ?_)
    rcases y with y | y | y
    · rcases f1 i y with z | z
      · exact .inl z
      · omega
    · exact .inr (.inl y)
    · exact .inr (.inr y)
  · have := l.kp.d 0
    rw [e1.2.2.2] at this
    exact this
/-- What a step of the law leaves. -/
def Out9 (B : Nat) (w : World) (X : Nat) (most : Int) (c : Nat) (w' : World) : Prop := ∃ S', J9 B w' X S' most c ∧ Below B w w'
theorem eqM9 (d : Nat) (w : World) : (binOp .eql 40 (.pointer (some ⟨d, 0, none⟩)) (.pointer none)).run Tryz.prog w = .ok (.bool false) w := by kernel_rfl
set_option maxRecDepth 100000 in
set_option maxHeartbeats 8000000 in
theorem goal_any {B : Nat} {w : World} {X : Nat} {S : St8} {most : Int} {c : Nat} (h : J9 B w X S most c) (hc : c ≤ 40000) (g : Nat) (hg : 1 ≤ g ∧ g ≤ 4) (x0 x1 x2 x3 : Int) (sb : Bool) (x5 : Int) :
    Calls Tryz.prog 14 #[.pointer (some ⟨X, 0, none⟩), .int .i64 (g : Int), .agg #[.int .i64 x0, .int .i64 x1, .int .i64 x2, .int .i64 x3, .bool sb, .int .i64 x5]] w fun e w' => e = .returned (.bool true) ∧ Out9 B w X most (c + 1) w' := by
  obtain ⟨w0, hw0⟩ : ∃ V, w.alloc (.cells #[.int .i64 x0, .int .i64 x1, .int .i64 x2, .int .i64 x3, .bool sb, .int .i64 x5] 38) = V := ⟨_, rfl⟩
  have hb0 : Below w.heap.size w w0 := by rw [← hw0]; exact (Below.refl _ w).alloc (Nat.le_refl _) _
  have hB0 : Blk w0 w.heap.size 6 (fun j => #[Value.int .i64 x0, .int .i64 x1, .int .i64 x2, .int .i64 x3, .bool sb, .int .i64 x5].getD j .nilFunc) := by rw [← hw0]; exact Blk.new w _ _
  have hJ0 := h.below hb0
  have lX : X < w0.drew.heap.size := hJ0.lt X (.inl rfl)
  have lS : w.heap.size < w0.drew.heap.size := hB0.lt (by omega)
  obtain ⟨d, hd⟩ : ∃ y, S.cur.d = y := ⟨_, rfl⟩
  obtain ⟨d2, hd2⟩ : ∃ y, S.cur.d2 = y := ⟨_, rfl⟩
  have HX0 : Hid (Blk w0.drew X 4 (x8F S)) := hJ0.p.hx.same rfl
  have HC0 : Hid (Blk w0.drew w.heap.size 6 _) := hB0.same rfl
  have HS1 : Hid (∀ V, Below w0.drew.heap.size w0.drew V → V.cell? ⟨X, 0, none⟩ = some (.pointer (some ⟨d, 0, none⟩)) ∧ V.cell? ⟨w.heap.size, 2, none⟩ = some (.int .i64 x2) ∧ V.cell? ⟨w.heap.size, 1, none⟩ = some (.int .i64 x1) ∧ V.cell? ⟨w.heap.size, 3, none⟩ = some (.int .i64 x3)) := fun V hb => by
    have h1 := HX0.out.of hb (by omega)
    have h2 := HC0.out.of hb (by omega)
    exact ⟨by rw [← hd]; exact h1.c 0 (by omega), h2.c 2 (by omega), h2.c 1 (by omega), h2.c 3 (by omega)⟩
  have HS2 : Hid (∀ V, Below w0.drew.heap.size w0.drew V → V.cell? ⟨X, 1, none⟩ = some (.pointer (some ⟨d2, 0, none⟩)) ∧ V.cell? ⟨w.heap.size, 2, none⟩ = some (.int .i64 x2) ∧ V.cell? ⟨w.heap.size, 1, none⟩ = some (.int .i64 x1) ∧ V.cell? ⟨w.heap.size, 3, none⟩ = some (.int .i64 x3)) := fun V hb => by
    have h1 := HX0.out.of hb (by omega)
    have h2 := HC0.out.of hb (by omega)
    exact ⟨by rw [← hd2]; exact h1.c 1 (by omega), h2.c 2 (by omega), h2.c 1 (by omega), h2.c 3 (by omega)⟩
  have s0 := HS1.out w0.drew (Below.refl _ _)
  have C1 := begin_yes d g hg.1 hg.2 x2 x1 x3 w0.drew
  have HJ := Lib.hid h
  have HBd : Hid (Below w.heap.size w w0.drew) := hb0.drew
  have HW0 := Lib.hid hw0
  clear h hb0 hB0 hJ0 hw0
  go_enter Tryz.func14, Tryz.ntmps14
  go_upto_region 1 with fail
  rw [HW0.out]
  go_region_held3 (fun V => V.cell? ⟨X, 0, none⟩ = some (.pointer (some ⟨d, 0, none⟩)) ∧ V.cell? ⟨w.heap.size, 2, none⟩ = some (.int .i64 x2) ∧ V.cell? ⟨w.heap.size, 1, none⟩ = some (.int .i64 x1) ∧ V.cell? ⟨w.heap.size, 3, none⟩ = some (.int .i64 x3)) (first | with_reducible exact s0 | with_reducible exact s1 | fail)
    (first | (go_at_call 8; refine C1.mono ?_; rintro e w1 ⟨x, rfl, hx, hmc, hb1⟩; have s1 := HS1.out w1 hb1; have s2 := HS2.out w1.drew hb1.drew; have HB1 := Lib.hid hb1; have HMC := Lib.hid hmc; clear hb1 hmc) | fail)
  clear C1 s0 s1
  have C2 := rbegin_yes d2 g hg.1 hg.2 x2 x1 x3 w1.drew
  go_upto_region 2 with fail
  go_region_held3 (fun V => V.cell? ⟨X, 1, none⟩ = some (.pointer (some ⟨d2, 0, none⟩)) ∧ V.cell? ⟨w.heap.size, 2, none⟩ = some (.int .i64 x2) ∧ V.cell? ⟨w.heap.size, 1, none⟩ = some (.int .i64 x1) ∧ V.cell? ⟨w.heap.size, 3, none⟩ = some (.int .i64 x3)) (first | with_reducible exact s2 | with_reducible exact s3 | fail)
    (first | (go_at_call 32; refine C2.mono ?_; rintro e w2 ⟨y, rfl, hy, hrm, hb2⟩; have s3 := HS2.out w2 (HB1.out.drew.trans (hb2.mono HB1.out.size)); have HB2 := Lib.hid hb2; have HRM := Lib.hid hrm; clear hb2 hrm) | fail)
  clear C2 s2 s3 HS1 HS2 HX0 HC0
  have q1 := eqM9 x
  have lx1 : x < w1.heap.size := HMC.out.lt (by omega)
  have ly1 : y < w2.heap.size := HRM.out.lt (by omega)
  have hbw : Below w.heap.size w w2 := HBd.out.trans ((HB1.out.mono HBd.out.size).drew.trans (HB2.out.mono (Nat.le_trans HBd.out.size HB1.out.size)))
  have hs1 : w0.drew.heap.size ≤ x := hx
  have hs2 : w1.heap.size ≤ y := hy
  obtain ⟨hp, hf⟩ := HJ.out.p.push mtOk_nil (by rw [HJ.out.nm]; decide) hg (x := x) (y := y) (n1 := w1.heap.size) hbw ⟨by omega, lx1, hs2, ly1⟩ (by rw [hd]; exact Blk.of (w := w1.drew) (Blk.same HMC.out rfl) HB2.out (by omega)) (by rw [hd2]; exact HRM.out)
  have hm0 : S.nm = 0 := HJ.out.nm
  have hx0 : ((S.push (mq0 S x y g x2 x1 x3)).ms 0).x = x := by show (updA S.ms S.nm _ 0).x = x; rw [hm0, updA_at]; rfl
  have hy0 : ((S.push (mq0 S x y g x2 x1 x3)).ms 0).y = y := by show (updA S.ms S.nm _ 0).y = y; rw [hm0, updA_at]; rfl
  have hn0 : (S.push (mq0 S x y g x2 x1 x3)).nm = 1 := by show S.nm + 1 = 1; rw [hm0]
  have HFIN : Hid (∀ n S' cx w', Lp w2 X (S.push (mq0 S x y g x2 x1 x3)) most cx S' w' → UpN n (S.push (mq0 S x y g x2 x1 x3)) S' → ∃ S', J9 B w' X S' most (c + n) ∧ Below B w w') := fun n S' cx w' l hu => Lp.fin HJ.out hbw hf ⟨rfl, rfl, rfl, rfl⟩ l hu
  have HL0 : Hid (Lp w2 X (S.push (mq0 S x y g x2 x1 x3)) most c (S.push (mq0 S x y g x2 x1 x3)) w2) := ⟨⟨0, 0, hp⟩, Kept.refl _, fun _ z => .inl z, Ex.refl _ _⟩
  clear hp hf hbw hx hy hs1 hs2 HMC HRM HB1 HB2 HBd HW0 lx1 ly1 lX lS hd hd2 hm0
  generalize S.push (mq0 S x y g x2 x1 x3) = S1 at *
  go_wp2_with fail
  go_loopw [9] (fun iv wr => ∃ i : Nat, i ≤ 600 ∧ iv = .int .i64 (i : Int) ∧ ∃ S', Lp w2 X S1 most (c + 2 * i) S' wr ∧ UpN 0 S1 S') (fun iv _ => 600 - (intOf iv).toNat)
  case atStart => exact ⟨0, Nat.zero_le _, rfl, S1, HL0.out, UpN.refl _ _⟩
  case round =>
    clear HL0 q1
    obtain ⟨i, hi, rfl, S', hL, hU⟩ := hrel
    by_cases hlt : i < 600
    case neg =>
      obtain rfl : i = 600 := by omega
      have t1 : ¬ ((600 : Nat) : Int) < 600 := by omega
      obtain ⟨S9, hJ9⟩ := HFIN.out 1 S' _ wr hL (fun k cc hb => (hU k cc hb).le (Nat.le_succ _))
      have HJ9 := Lib.hid hJ9
      clear hJ9 hL hU
      go_wp2_with fail
      go_ret
      exact ⟨rfl, ⟨S9, HJ9.out⟩⟩
    case pos =>
      have t1 : (i : Int) < 600 := by omega
      have e1 : IntKind.i64.wrap ((i : Int) + 1) = ((i + 1 : Nat) : Int) := by rw [i64_small (by omega) (by omega)]; omega
      obtain ⟨pa, pb, hP⟩ := hL.p
      have hj : 0 < S'.nm := by rw [hL.kp.nm, hn0]; decide
      obtain ⟨Pw, hcl, C1, H2⟩ := step_both hP mtOk_nil mvOk_nil (by omega) hj
      have ex0 : (S'.ms 0).x = x := (hL.kp.ms 0).1.trans hx0
      have ey0 : (S'.ms 0).y = y := (hL.kp.ms 0).2.1.trans hy0
      rw [ex0] at C1
      have H2' := Lib.hid H2
      have HCL := Lib.hid hcl
      have HL := Lib.hid hL
      have HU := Lib.hid hU
      clear hP H2 hcl hL hU
      unfold tuV at C1
      go_wp2_with fail
      refine C1.mono ?_
      rintro e w3 ⟨u, rfl, hPw⟩
      clear C1
      obtain ⟨w4, hw4⟩ : ∃ V, w3.alloc (.cells #[.int .i64 u.kind, .int .i64 u.key, .bool u.found, .int .i64 u.value, .int .i64 u.entry] 45) = V := ⟨_, rfl⟩
      have hB4 : Below w3.heap.size w3 w4 := by rw [← hw4]; exact (Below.refl _ w3).alloc (Nat.le_refl _) _
      have hX4 : Blk w4 w3.heap.size 5 (fun j => #[Value.int .i64 u.kind, .int .i64 u.key, .bool u.found, .int .i64 u.value, .int .i64 u.entry].getD j .nilFunc) := by rw [← hw4]; exact Blk.new w3 _ _
      obtain ⟨hxA, C2⟩ := H2'.out u w4 (HCL.out u w3 w4 hPw hB4)
      rw [ey0] at C2
      have hl3 : S'.all X X ∧ wr.heap.size ≤ w3.heap.size := ⟨.inl rfl, (H2'.out u w3 hPw).1.size⟩
      have HX4 := Lib.hid hX4
      have HW4 := Lib.hid hw4
      have HPL : Hid (∀ k, S'.all X k → k < wr.heap.size) := fun k hk => by obtain ⟨_, _, hP⟩ := HL.out.p; exact hP.lt k (.inl hk)
      unfold tuV at C2
      clear hw4 hB4 hX4 hPw
      go_upto_region 9 with fail
      rw [HW4.out]
      go_wp2_with fail
      refine C2.mono ?_
      rintro e w5 ⟨rfl, hxB, S'', a', b', hD, hK, hU1, hU0, hsc⟩
      clear C2
      have hL5 := HL.out.step hD hK
      obtain ⟨w6, hw6⟩ : ∃ V, w5.alloc (.cells #[.int .i64 u.kind, .int .i64 u.key, .bool u.found, .int .i64 u.value, .int .i64 u.entry] 45) = V := ⟨_, rfl⟩
      have hB6 : Below w5.heap.size w5 w6 := by rw [← hw6]; exact (Below.refl _ w5).alloc (Nat.le_refl _) _
      have hX6 : Blk w6 w5.heap.size 5 (fun j => #[Value.int .i64 u.kind, .int .i64 u.key, .bool u.found, .int .i64 u.value, .int .i64 u.entry].getD j .nilFunc) := by rw [← hw6]; exact Blk.new w5 _ _
      have hk := fun h : 0 < S'.nm => h
      have hx4 : w5.heap[w3.heap.size]? = w4.heap[w3.heap.size]? := hxB.block _ (HX4.out.lt (by omega)) (fun z => by
        have hall : ∀ k, S'.all X k → k ≠ w3.heap.size := fun k hk e => by have := HPL.out k hk; omega
        have hmh : (S'.ms 0).k < S'.nd := by obtain ⟨_, _, hP⟩ := HL.out.p; exact (hP.mh 0 hj).1
        rcases z with z | z | ⟨_, z⟩
        · exact hall _ (.inr (.inr (.inr (.inl ⟨_, hmh, .inr z⟩)))) rfl
        · exact noneB z
        · exact hall _ (.inr (.inr (.inr (.inr ⟨0, hj, .inr z⟩)))) rfl)
      have hX46 : Blk w6 w3.heap.size 5 _ := (Blk.same HX4.out hx4).of hB6 (by omega)
      have hL6 := hL5.below hB6
      have a0 : w6.cell? ⟨w3.heap.size, 0, none⟩ = some (.int .i64 u.kind) := hX46.c 0 (by omega)
      have b0 : w6.cell? ⟨w5.heap.size, 0, none⟩ = some (.int .i64 u.kind) := hX6.c 0 (by omega)
      have HW6 := Lib.hid hw6
      have HL6 := Lib.hid hL6
      have HU1 := Lib.hid hU1
      have HU0 := Lib.hid hU0
      clear hw6 hB6 hX6 hX46 hL6 hL5 hD hxB hxA hx4 hsc HX4 HPL hk hl3
      have t2 : (u.kind != u.kind) = false := by simp
      go_upto_region 10 with fail
      rw [HW6.out]
      by_cases hk1 : u.kind = 1
      case neg =>
        have t3 : (u.kind != 1) = true := by rw [bne_iff_ne]; exact hk1
        obtain ⟨S9, hJ9⟩ := HFIN.out 1 S'' _ w6 HL6.out (fun k cc hb => HU1.out k cc (HU.out k cc hb))
        have HJ9 := Lib.hid hJ9
        clear hJ9
        go_wp2_with fail
        go_ret
        exact ⟨rfl, ⟨S9, HJ9.out⟩⟩
      case pos =>
        have t3 : (u.kind != 1) = false := by rw [hk1]; rfl
        obtain ⟨pa2, pb2, hP2⟩ := HL6.out.p
        have hj2 : 0 < S''.nm := by rw [HL6.out.kp.nm, hn0]; decide
        obtain ⟨Pw2, CT1, HT2⟩ := tell_both hP2 mtOk_nil hj2 false
        have ex2 : (S''.ms 0).x = x := (HL6.out.kp.ms 0).1.trans hx0
        have ey2 : (S''.ms 0).y = y := (HL6.out.kp.ms 0).2.1.trans hy0
        rw [ex2] at CT1
        have HT2' := Lib.hid HT2
        clear hP2 HT2
        go_wp2_with fail
        refine CT1.mono ?_
        rintro e w7 ⟨r, rfl, hPw2⟩
        clear CT1 a0 b0
        obtain ⟨hxA2, CT2⟩ := HT2'.out r w7 hPw2
        rw [ey2] at CT2
        clear hPw2 hxA2
        go_wp2_with fail
        refine CT2.mono ?_
        rintro e w8 ⟨rfl, S3, a3, b3, hD3, hK3, hU3⟩
        clear CT2
        have hL8 := HL6.out.step hD3 hK3
        have HL8 := Lib.hid hL8
        have HU3 := Lib.hid hU3
        clear hD3 hK3 hL8 hU3
        go_wp2_with fail
        go_roundw
        case rel => exact ⟨i + 1, by omega, by go_num, S3, by have := HL8.out; rwa [show c + 2 * i + 1 + 1 = c + 2 * (i + 1) by omega] at this, (HU.out.zero (HU0.out hk1)).zero HU3.out⟩
        case measure => simp [intOf]; omega
end Go.Proofs.YtejfmajbggmghaaGreat
