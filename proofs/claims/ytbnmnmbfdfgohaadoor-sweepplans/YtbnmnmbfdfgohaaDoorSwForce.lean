/-
  Force.
-/
import Derived.Test.YtbnmnmbfdfgohaaDoorSwTick
import Derived.Test.YtbnmnmbfdfgohaaDoorSwShelf
import Derived.Sort.OwnSortedInts
import Derived.Lib.RowBridge
namespace Go.Proofs.YtbnmnmbfdfgohaaDoor
open Go.RowKit Go.WideShapes Go.Sort

/-- Of a rising row: what stands at its places without doubles. -/
theorem upTo_facts (d : Array Int) (h : ∀ i j, i ≤ j → j < d.size → d[i]! ≤ d[j]!) : ∀ m, m ≤ d.size → (Lib.compactUpTo d m).Pairwise (· < ·) ∧ (∀ x, x ∈ Lib.compactUpTo d m ↔ ∃ j, j < m ∧ d[j]! = x) := by
  intro m
  induction m with
  | zero => intro _; exact ⟨by simp [Lib.compactUpTo], fun x => by simp [Lib.compactUpTo]⟩
  | succ m ih =>
    intro hm
    obtain ⟨h1, h2⟩ := ih (by omega)
    rw [Lib.compactUpTo_succ]
    by_cases hk : Lib.keeps d m = true
    · rw [if_pos hk]
      refine ⟨List.pairwise_append.2 ⟨h1, by simp, fun x hx y hy => ?_⟩, fun x => ?_⟩
      · simp at hy
        rw [hy]
        obtain ⟨j, hj, rfl⟩ := (h2 x).1 hx
        have hne : d[m]! ≠ d[m - 1]! := by
          simp [Lib.keeps] at hk
          rcases hk with e | e
          · omega
          · simpa using e
        have a1 := h j (m - 1) (by omega) (by omega)
        have a2 := h (m - 1) m (by omega) (by omega)
        omega
      · rw [List.mem_append, h2 x]
        constructor
        · rintro (⟨j, hj, e⟩ | e)
          · exact ⟨j, by omega, e⟩
          · simp at e; exact ⟨m, by omega, by rw [e]⟩
        · rintro ⟨j, hj, e⟩
          by_cases hjm : j < m
          · exact Or.inl ⟨j, hjm, e⟩
          · obtain rfl : j = m := by omega
            exact Or.inr (by rw [← e]; simp)
    · rw [if_neg hk, List.append_nil]
      refine ⟨h1, fun x => ?_⟩
      have he : m ≠ 0 ∧ d[m]! = d[m - 1]! := by
        simp [Lib.keeps] at hk
        exact ⟨hk.1, by simpa using hk.2⟩
      rw [h2 x]
      constructor
      · rintro ⟨j, hj, e⟩; exact ⟨j, by omega, e⟩
      · rintro ⟨j, hj, e⟩
        by_cases hjm : j < m
        · exact ⟨j, hjm, e⟩
        · obtain rfl : j = m := by omega
          exact ⟨j - 1, by omega, by rw [← he.2]; exact e⟩
/-- The numbers of a plan. -/
def pls (l : List Int) : List Int := Lib.compact ((l.filter fun x => decide (1 ≤ x)).mergeSort fun x y => decide (x ≤ y))
theorem pls_facts (l : List Int) : (pls l).Pairwise (· < ·) ∧ ∀ x, x ∈ pls l ↔ x ∈ l ∧ 1 ≤ x := by
  obtain ⟨zs, hzs⟩ : ∃ zs, (l.filter fun x => decide (1 ≤ x)).mergeSort (fun x y => decide (x ≤ y)) = zs := ⟨_, rfl⟩
  have hp : zs.Pairwise (fun x y => decide (x ≤ y) = true) := by
    rw [← hzs]
    exact List.pairwise_mergeSort (fun a b c h1 h2 => by simp at h1 h2 ⊢; omega) (fun a b => by simp; omega) _
  have hm : ∀ x, x ∈ zs ↔ x ∈ l ∧ 1 ≤ x := fun x => by rw [← hzs, (List.mergeSort_perm _ _).mem_iff]; simp
  have hg : ∀ j, j < zs.length → zs.toArray[j]! = zs[j]?.getD 0 := fun j hj => by simp [hj]
  have hs : ∀ i j, i ≤ j → j < zs.toArray.size → zs.toArray[i]! ≤ zs.toArray[j]! := fun i j hij hj => by
    have hj' : j < zs.length := by simpa using hj
    rw [hg i (by omega), hg j hj', List.getElem?_eq_getElem (by omega : i < zs.length), List.getElem?_eq_getElem hj']
    by_cases e : i = j
    · subst e; simp
    · have := List.pairwise_iff_getElem.1 hp i j (by omega) hj' (by omega)
      simpa using this
  obtain ⟨h1, h2⟩ := upTo_facts zs.toArray hs zs.length (by simp)
  unfold pls
  rw [hzs]
  refine ⟨h1, fun x => ?_⟩
  unfold Lib.compact
  rw [h2 x, ← hm x]
  constructor
  · rintro ⟨j, hj, e⟩
    rw [hg j hj, List.getElem?_eq_getElem hj] at e
    simp at e
    rw [← e]
    exact List.getElem_mem hj
  · intro hx
    obtain ⟨j, hj, e⟩ := List.getElem_of_mem hx
    exact ⟨j, hj, by rw [hg j hj, List.getElem?_eq_getElem hj]; simpa using e⟩
theorem holdsI {B : Nat} {w : World} {g n cap : Nat} {l : List Int} (h : IntsR B w (.slice (some ⟨g, 0, none⟩) n cap) l) : Holds (Value.int .i64) w g 0 l.toArray ∧ n = l.length ∧ l.length ≤ cap ∧ B ≤ g ∧ g < w.heap.size := by
  have h0 : w.ownsRow B 3 1 (.slice (some ⟨g, 0, none⟩) n cap) l.length (l.map fun x : Int => Value.int .i64 x) := h
  obtain rfl : n = l.length := by
    rcases h0.2 with ⟨e, _⟩ | ⟨_, _, _, e, _⟩
    · cases e
    · cases e; rfl
  have hc : l.length ≤ cap := by
    rcases h0.2 with ⟨e, _⟩ | ⟨_, _, _, e, _, _, h3, _⟩
    · cases e
    · cases e; exact h3
  refine ⟨fun j hj => ⟨?_, h0.frozenAt _⟩, rfl, hc, (World.ownsRow.lt h0 g rfl).1, (World.ownsRow.lt h0 g rfl).2⟩
  have hj' : j < l.length := by simpa using hj
  rw [Nat.zero_add, h0.cellAt j (by omega)]
  simp [hj']
theorem grow_none (w : World) : grow w #[] = w := by
  simp [grow]
/-- The library's sort of a row of one's own. -/
theorem sorted_any {B : Nat} {w : World} {v : Value} {l : List Int} (h : IntsR B w v l) (hl : l.length ≤ 100000) (hB : B ≤ w.heap.size) : Calls Tryd.prog 32 #[v] w fun e w' => e = .returned (.tuple #[]) ∧ IntsR B w' v (l.mergeSort fun x y => decide (x ≤ y)) ∧ Below B w w' := by
  by_cases h0 : l.length = 0
  · obtain rfl : l = [] := List.eq_nil_of_length_eq_zero h0
    obtain ⟨a, c, rfl⟩ := ownsS_shape h
    refine (Tryd.slices_Sort_int_none a c w).mono ?_
    rintro e w' ⟨rfl, rfl⟩
    exact ⟨rfl, by simpa using h, Below.refl _ _⟩
  · obtain ⟨g, cap, rfl, _⟩ := ownsS_some h (by omega)
    obtain ⟨hh, hn, hc, hg, hgl⟩ := holdsI h
    have hcur := h.2
    rcases hcur with ⟨e, _⟩ | ⟨g', cap', cur, e, h1, h2, h3, h4, h5, h6⟩
    · cases e
    cases e
    have C := Tryd.slices_Sort_int g 0 cap l w hh hgl (by omega)
    refine C.mono ?_
    rintro e w' ⟨rfl, n, os, rfl⟩
    have hlen : (l.mergeSort fun x y => decide (x ≤ y)).length = l.length := List.length_mergeSort _
    refine ⟨rfl, ?_, ?_⟩
    · have := ownsRow_sortedI (w := w) (base := B) (g := g) (cap := cap) (n := n) (e := 3) (os := os) (cur := cur) (ss := l) (ts := l.mergeSort fun x y => decide (x ≤ y)) hlen h1 h2 h3 h4 h5
      unfold IntsR
      rw [hlen]
      exact this
    · have hgr := grownBy_sortedI (w := w) (g := g) (n := n) (os := os) (l.mergeSort fun x y => decide (x ≤ y)).toArray
      exact (Below.refl B w).grown hgr hB (fun k e => by injection e with e; omega)
/-- The library's taking out of doubles. -/
theorem compact_any {B : Nat} {w : World} {v : Value} {l : List Int} (h : IntsR B w v l) (hl : l.length ≤ 100000) (hB : B ≤ w.heap.size) : Calls Tryd.prog 33 #[v] w fun e w' => ∃ v', e = .returned v' ∧ IntsR B w' v' (Lib.compact l) ∧ Below B w w' := by
  by_cases h0 : l.length = 0
  · obtain rfl : l = [] := List.eq_nil_of_length_eq_zero h0
    obtain ⟨a, c, rfl⟩ := ownsS_shape h
    refine (Tryd.slices_Compact_int_empty a c w).mono ?_
    rintro e w' ⟨rfl, rfl⟩
    exact ⟨_, rfl, by simpa [Lib.compact, Lib.compactUpTo] using h, Below.refl _ _⟩
  · obtain ⟨g, cap, rfl, _⟩ := ownsS_some h (by omega)
    obtain ⟨hh, hn, hc, hg, hgl⟩ := holdsI h
    have hcur := h.2
    rcases hcur with ⟨e, _⟩ | ⟨g', cap', cur, e, h1, h2, h3, h4, h5, h6⟩
    · cases e
    cases e
    have C := Tryd.slices_Compact_int g 0 cap l w hh (by omega) hc
    refine C.mono ?_
    rintro e w' ⟨rfl, q, rfl⟩
    have hcl := Lib.compact_length_le l
    obtain ⟨ts, hts⟩ : ∃ ts, Lib.compact l ++ List.replicate (l.length - (Lib.compact l).length) 0 = ts := ⟨_, rfl⟩
    have hlen : ts.length = l.length := by rw [← hts]; simp; omega
    rw [hts]
    refine ⟨_, rfl, ?_, ?_⟩
    · have h7 := ownsRow_sortedI (w := w) (base := B) (g := g) (cap := cap) (n := q) (e := 3) (os := #[]) (cur := cur) (ss := l) (ts := ts) hlen h1 h2 h3 h4 h5
      rw [grow_none] at h7
      have h8 := ownsS_cut h7 (Lib.compact l).length hcl
      unfold IntsR
      rw [show ((Lib.compact l).map fun x : Int => Value.int .i64 x) = ((ts.map (Value.int .i64)).take ((Lib.compact l).length * 1)) by rw [← hts]; simp]
      exact h8
    · have hgr := grownBy_sortedI (w := w) (g := g) (n := q) (os := #[]) ts.toArray
      rw [grow_none] at hgr
      exact (Below.refl B w).grown hgr hB (fun k e => by injection e with e; omega)
set_option maxRecDepth 100000 in
theorem force_any {w : World} {B : Nat} {a : Option Addr} {n c : Nat} {l : List Int} (h : Lz w B a n c l) (hB : B ≤ w.heap.size) (hn : n ≤ 1000) : Calls Tryd.prog 20 #[.slice a n c] w fun e w' => ∃ b, e = .returned (.pointer (some ⟨b, 0, none⟩)) ∧ Pl w' (fun k => w.heap.size ≤ k ∧ k < w'.heap.size) b 0 (pls l) ∧ Below w.heap.size w w' := by
  obtain ⟨i0, hi, hz0, hz1, hz2⟩ := info_parts Tryd.infoN
  obtain ⟨hln, hc, hbd, lb, off, ha, hcell⟩ := h
  have HA := Lib.hid ha
  have HC := Lib.hid hcell
  have HN := Lib.hid hln
  clear ha hcell hbd hln
  go_enter Tryd.func20, Tryd.ntmps20
  go_wp2_with fail
  go_loopw [3, 8] (fun v3 v8 wr => ∃ j : Nat, j ≤ n ∧ v8 = .int .i64 (j : Int) ∧ IntsR w.heap.size wr v3 ((l.take j).filter fun x => decide (1 ≤ x)) ∧ Below w.heap.size w wr) (fun _ v8 _ => n - (intOf v8).toNat)
  case atStart => exact ⟨0, Nat.zero_le _, rfl, by simpa using IntsR.nil _ _, Below.refl _ _⟩
  case round =>
    obtain ⟨j, hj, rfl, hI, hBw⟩ := hrel
    by_cases hjl : j < n
    · have tj : (j : Int) < (n : Int) := by omega
      have tj0 : (0 : Int) ≤ (j : Int) := by omega
      have ej : IntKind.i64.wrap ((j : Int) + 1) = ((j + 1 : Nat) : Int) := by rw [i64_small (by omega) (by omega)]; omega
      obtain ⟨rfl, hlb⟩ := HA.out (by omega)
      have cj := (hBw.cell (p := ⟨lb, off + j, none⟩) (by show lb < _; omega)).trans (HC.out j hjl)
      have htk : l.take (j + 1) = l.take j ++ [l[j]?.getD 0] := by
        rw [List.take_add_one, List.getElem?_eq_getElem (by have := HN.out; omega)]
        simp
      have HTK := Lib.hid htk
      clear htk
      have hfl : ((l.take j).filter fun x => decide (1 ≤ x)).length ≤ 1000 := by
        have := List.length_filter_le (fun x : Int => decide (1 ≤ x)) (l.take j)
        rw [List.length_take] at this
        omega
      generalize l[j]?.getD 0 = x at *
      by_cases hx : 1 ≤ x
      · have hown : wr.ownsRow w.heap.size 3 1 u3 ((l.take j).filter fun x => decide (1 ≤ x)).length (((l.take j).filter fun x => decide (1 ≤ x)).map fun x : Int => Value.int .i64 x) := hI
        have HB := Lib.hid hBw
        have HQ : Hid (((l.take (j + 1)).filter fun x => decide (1 ≤ x)) = ((l.take j).filter fun x => decide (1 ≤ x)) ++ [x]) := by show _ = _; rw [HTK.out, List.filter_append]; simp [hx]
        have hws := hBw.size
        clear hI hBw
        generalize ((l.take j).filter fun x => decide (1 ≤ x)) = Q at *
        go_wp2_with (at_builtin; refine wpListS_append_own rfl _ _ 23 rfl w.heap.size 3 i0 (.int .i64 0) 1 8 Tryd.underlying23 hi hz0 hz1 hz2 rfl (by decide) _ _ _ rfl (World.ownsRow.alloc hown _) ⟨wr.heap.size, 0, none⟩ 1 1 [.int .i64 x] rfl rfl (newR_one _ _ _) (fun u hu => by simp at hu; subst hu; rfl) (by unfold maxLen; omega) (by omega) (by simp; omega) ?_)
        intro v' w5 hown2 hgrow hat
        have HI5 := Lib.hid (intsR_snoc hown2)
        have HB5 := Lib.hid (belowR_grown HB.out (Nat.le_refl _) hown hgrow)
        clear hown2 hgrow hat hown
        go_wp2_with fail
        go_roundw
        case rel => exact ⟨j + 1, by omega, rfl, by rw [HQ.out]; exact HI5.out, HB5.out⟩
        case measure => simp [intOf]; omega
      · have tx : (1 ≤ x) = False := by simp; omega
        have HQ : Hid (((l.take (j + 1)).filter fun x => decide (1 ≤ x)) = ((l.take j).filter fun x => decide (1 ≤ x))) := by show _ = _; rw [HTK.out, List.filter_append]; simp [hx]
        have HI := Lib.hid hI
        have HB := Lib.hid hBw
        clear hI hBw
        go_wp2_with fail
        go_roundw
        case rel => exact ⟨j + 1, by omega, rfl, by rw [HQ.out]; exact HI.out, HB.out⟩
        case measure => simp [intOf]; omega
    · obtain rfl : j = n := by omega
      have tj : ((j : Int) < (j : Int)) = False := by simp
      rw [List.take_of_length_le (by have := HN.out; omega)] at hI
      have hfl : (l.filter fun x => decide (1 ≤ x)).length ≤ 1000 := by
        have := List.length_filter_le (fun x : Int => decide (1 ≤ x)) l
        have := HN.out
        omega
      have C1 := sorted_any hI (by omega) hBw.size
      have HB := Lib.hid hBw
      clear hI hBw
      go_wp2_with fail
      refine C1.mono ?_
      clear C1
      rintro e w2 ⟨rfl, hI2, hB2⟩
      have hB02 := HB.out.trans hB2
      have C2 := compact_any hI2 (by rw [List.length_mergeSort]; omega) hB02.size
      have HB02 := Lib.hid hB02
      clear hI2 hB2 hB02 HB
      go_wp2_with fail
      refine C2.mono ?_
      clear C2
      rintro e w3 ⟨v3, rfl, hI3, hB3⟩
      have hB03 := HB02.out.trans hB3
      obtain ⟨va, vc, hv⟩ := ownsS_shape hI3
      subst hv
      obtain ⟨a3, c3, g3, hv3, hc3, ho3⟩ := hI3.open
      injection hv3 with q1 q2 q3
      subst q1 q3
      have hpl : ∀ w4, w3.alloc (.cells #[.int .i64 0, .slice va (Lib.compact (List.mergeSort (l.filter fun x => decide (1 ≤ x)) fun x y => decide (x ≤ y))).length vc] 43) = w4 → Pl w4 (fun k => w.heap.size ≤ k ∧ k < w4.heap.size) w3.heap.size 0 (pls l) ∧ Below w.heap.size w w4 := fun w4 hw4 => by
        have hb4 : Below w3.heap.size w3 w4 := by rw [← hw4]; exact (Below.refl _ w3).alloc (Nat.le_refl _) _
        have hX4 : Blk w4 w3.heap.size 2 (fun j => #[Value.int .i64 0, .slice va (pls l).length vc].getD j .nilFunc) := by rw [← hw4]; exact Blk.new w3 _ _
        have hs4 : w3.heap.size < w4.heap.size := by rw [← hw4]; simp
        refine ⟨⟨⟨hB03.size, hs4⟩, hX4.c 0 (by omega), hX4.z, va, vc, hX4.c 1 (by omega), hc3, g3, 0, fun h0 => ?_, fun j hj => ?_⟩, hB03.trans (hb4.mono hB03.size)⟩
        · obtain ⟨r1, r2, r3, r4⟩ := ho3 h0
          exact ⟨r1, by omega, by omega, r3, by omega⟩
        · obtain ⟨r1, r2, r3, r4⟩ := ho3 (Nat.lt_of_le_of_lt (Nat.zero_le _) hj)
          rw [Nat.zero_add]
          exact (hb4.cell (p := ⟨g3, j, none⟩) r2).trans (r4.c j hj)
      have HPL := Lib.hid hpl
      clear hI3 hB3 hB03 hc3 ho3 hpl q2
      go_wp2
      go_ret
      obtain ⟨h1, h2⟩ := HPL.out _ rfl
      exact ⟨_, rfl, h1, h2⟩
end Go.Proofs.YtbnmnmbfdfgohaaDoor
