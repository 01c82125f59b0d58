/-
  What divideBy does: a row of words by one word, in place.
-/
import Derived.Shelf.RegionOpen
import Derived.Test.YteplmnnpmekngabAddInt
namespace Go.Proofs.Yteplmnnpmekngab
open Go.RowKit Go.Shelf
attribute [local go_sem] Oper.semAt_some

/-- From w to w' there may be new blocks; of the old ones only the n cells at ⟨g, off⟩ may have turned. -/
structure RowTurn (w w' : World) (g off n : Nat) : Prop where
  os : w'.os = w.os
  tape : w'.tape = w.tape
  output : w'.output = w.output
  size : w.heap.size ≤ w'.heap.size
  block : ∀ k, k < w.heap.size → k ≠ g → w'.heap[k]? = w.heap[k]?
  cell : ∀ o, (o < off ∨ off + n ≤ o) → w'.cell? ⟨g, o, none⟩ = w.cell? ⟨g, o, none⟩
  frozen : ∀ o, w'.frozen? ⟨g, o, none⟩ = w.frozen? ⟨g, o, none⟩
theorem RowTurn.refl (w : World) (g off n : Nat) : RowTurn w w g off n := ⟨rfl, rfl, rfl, Nat.le_refl _, fun _ _ _ => rfl, fun _ _ => rfl, fun _ => rfl⟩
theorem RowTurn.of_below {w w' : World} (h : Below w.heap.size w w') (g off n : Nat) (hg : g < w.heap.size) : RowTurn w w' g off n :=
  ⟨h.os, h.tape, h.output, h.size, fun k hk _ => h.block k hk, fun o _ => h.cell (p := ⟨g, o, none⟩) hg, fun o => h.frozen (p := ⟨g, o, none⟩) hg⟩
theorem RowTurn.trans {a b c : World} {g off n : Nat} (h : RowTurn a b g off n) (k : RowTurn b c g off n) : RowTurn a c g off n :=
  ⟨k.os.trans h.os, k.tape.trans h.tape, k.output.trans h.output, Nat.le_trans h.size k.size, fun i hi hg => (k.block i (Nat.lt_of_lt_of_le hi h.size) hg).trans (h.block i hi hg), fun o ho => (k.cell o ho).trans (h.cell o ho), fun o => (k.frozen o).trans (h.frozen o)⟩
theorem RowTurn.set {w w' : World} {g off n : Nat} (h : RowTurn w w' g off n) (i : Nat) (hi : i < n) (v : Value) : RowTurn w (w'.setCell ⟨g, off + i, none⟩ v) g off n := by
  refine ⟨h.os, h.tape, h.output, by simpa [World.setCell] using h.size, fun k hk hg => ?_, fun o ho => ?_, fun o => ?_⟩
  · rw [Below.heap_setCell _ _ _ _ hg]; exact h.block k hk hg
  · rw [World.cell?_setCell_other _ _ _ _ (by intro e; injection e with _ e; omega)]; exact h.cell o ho
  · rw [World.frozen?_setCell]; exact h.frozen o
/-- A store into a block that is no old one. -/
theorem RowTurn.setNew {w w' : World} {g off n : Nat} (h : RowTurn w w' g off n) (hg : g < w.heap.size) {p : Addr} (hp : w.heap.size ≤ p.block) (v : Value) : RowTurn w (w'.setCell p v) g off n := by
  have hne : p.block ≠ g := by omega
  refine ⟨h.os, h.tape, h.output, by simpa [World.setCell] using h.size, fun k hk hg => ?_, fun o ho => ?_, fun o => ?_⟩
  · rw [Below.heap_setCell _ _ _ _ (by omega)]; exact h.block k hk hg
  · rw [World.cell?_setCell_other _ _ _ _ (fun e => hne (by rw [e]))]; exact h.cell o ho
  · rw [World.frozen?_setCell]; exact h.frozen o
theorem RowTurn.below {w w' : World} {g off n B : Nat} (h : RowTurn w w' g off n) (hB : B ≤ g) (hs : B ≤ w.heap.size) : Below B w w' :=
  ⟨h.os, h.tape, h.output, h.size, fun k hk => h.block k (by omega) (by omega)⟩
theorem RowTurn.drewR {w w' : World} {g off n : Nat} (h : RowTurn w w' g off n) : RowTurn w w'.drew g off n := ⟨h.os, h.tape, h.output, h.size, h.block, h.cell, h.frozen⟩
theorem grownBy_setCell'' (W : World) (p : Addr) (u : Value) : W.grownBy (W.setCell p u) (some p.block) :=
  ⟨rfl, rfl, rfl, by simp [World.setCell], fun k _ hk => Below.heap_setCell _ _ _ _ (fun e => hk (by rw [e]))⟩
theorem _root_.Go.Boxed.drewB {W : World} {B : Nat} {t : TypeId} {v : Value} (h : Boxed W B t v) : Boxed W.drew B t v := h
theorem ownFrom_rowTurn {β : Type} {w₀ : World} {g off n B : Nat} (hg : g < w₀.heap.size) (hB : w₀.heap.size ≤ B) : OwnFrom B (fun (_ : β) W => RowTurn w₀ W g off n) := by
  intro _ X Y row hs hgr hr
  have hgb : Y.heap[g]? = X.heap[g]? := hgr.block g (Nat.lt_of_lt_of_le hg hs.size) (fun e => by have := (hr g e.symm).1; omega)
  refine ⟨hgr.os.trans hs.os, hgr.tape.trans hs.tape, hgr.output.trans hs.output, Nat.le_trans hs.size hgr.size, fun k hk hne => ?_, fun o ho => ?_, fun o => ?_⟩
  · exact (hgr.block k (Nat.lt_of_lt_of_le hk hs.size) (fun e => by have := (hr k e.symm).1; omega)).trans (hs.block k hk hne)
  · exact (World.cell?_of_block (a := ⟨g, o, none⟩) hgb).trans (hs.cell o ho)
  · exact (World.frozen?_of_block (a := ⟨g, o, none⟩) hgb).trans (hs.frozen o)
theorem own_seg {β : Type} (k : IntKind) (b off : Nat) (f : β → List Nat) : Own (fun s W => Seg k W b off (f s)) :=
  fun _ _ _ _ hs hg hr j hj => cell_kept (hs j hj) hg hr

theorem div_step {xs qs : List Nat} {k by_ r x : Nat} (hk : k < xs.length) (hx : xs[k]?.getD 0 = x) (h : val (xs.drop (k + 1)) = val qs * by_ + r) :
    val (xs.drop k) = val ((r * 4294967296 + x) / by_ :: qs) * by_ + (r * 4294967296 + x) % by_ := by
  have e : xs.drop k = x :: xs.drop (k + 1) := by
    rw [List.drop_eq_getElem_cons hk, ← hx, List.getElem?_eq_getElem hk]; rfl
  rw [e]
  simp only [val]
  rw [h]
  have h1 := Nat.div_add_mod (r * 4294967296 + x) by_
  rw [Nat.add_mul, Nat.mul_comm ((r * 4294967296 + x) / by_) by_]
  have h2 : 4294967296 * val qs * by_ = 4294967296 * (val qs * by_) := Nat.mul_assoc _ _ _
  rw [h2]
  omega
theorem div_word {by_ r x : Nat} (hr : r < by_) (hx : x < 4294967296) : (r * 4294967296 + x) / by_ < 4294967296 := by
  rw [Nat.div_lt_iff_lt_mul (by omega)]
  have : (r + 1) * 4294967296 ≤ by_ * 4294967296 := Nat.mul_le_mul_right _ hr
  rw [Nat.mul_comm by_] at this
  omega
theorem set_take (xs qs : List Nat) (k q : Nat) (hk : k < xs.length) : (xs.take (k + 1) ++ qs).set k q = xs.take k ++ (q :: qs) := by
  rw [take_succ_get xs k hk, List.append_assoc, List.set_append_right _ _ (by rw [List.length_take]; exact Nat.min_le_left _ _), List.length_take, Nat.min_eq_left (by omega), Nat.sub_self]
  rfl

theorem or_join (r x : Nat) (hr : r < 4294967296) (hx : x < 4294967296) : bits BinOp.or IntKind.u64 ((r : Int) * 4294967296) (x : Int) = (r : Int) * 4294967296 + x := by
  refine bits_join .u64 64 (by decide) (fun n h0 h1 => by rw [IntKind.wrap_u64]; omega) 32 _ _ (by omega) (by omega) (by omega) (by omega) (by omega) (by omega)

set_option maxRecDepth 100000 in
set_option maxHeartbeats 2000000 in
theorem divideBy_some (g off len cap by_ : Nat) (av : Option Addr) (xs : List Nat) (w : World) (hlen : len ≤ 1000000) (hx : xs.length = len) (hav : 0 < len → av = some ⟨g, off, none⟩) (hg : g < w.heap.size) (sx : Seg .u32 w g off xs) (fx : Free w g off xs.length) (ox : okw xs) (hb0 : 0 < by_) (hb1 : by_ < 4294967296) :
    Calls Try.prog 31 #[.slice av len cap, .int .u64 (by_ : Int)] w fun e w' => e = .returned (.int .u32 ((val xs % by_ : Nat) : Int)) ∧ (∃ qs : List Nat, qs.length = len ∧ okw qs ∧ val qs = val xs / by_ ∧ Seg .u32 w' g off qs) ∧ RowTurn w w' g off len := by
  refine (callsIn_wide (n := 3)).1 ?_
  refine callsIn_of_wp_marks Try.func31 rfl trivial ?_ rfl
  simp only [Try.ntmps31, List.size_toArray, List.length_cons, List.length_nil, Nat.reduceAdd, Nat.reduceSub, Array.replicate_succ, Array.replicate_zero, List.push_toArray, List.append_toArray, List.nil_append, List.cons_append]
  gi_wp2_with (refine ⟨trivial, ?_⟩; gi_at_call 27; refine (callsIn_wide.2 (back_any _ _ _ _)).mono ?_; rintro e w' ⟨rfl, rfl⟩)
  have b0 := Boxed.new w 22 (.slice av len cap)
  have b1 := Boxed.new (w.alloc (.cells #[.slice av len cap] 22)) 53 (.int .u64 (by_ : Int))
  have b2 := Boxed.new ((w.alloc (.cells #[.slice av len cap] 22)).alloc (.cells #[.int .u64 (by_ : Int)] 53)) 53 (.int .u64 ((0 : Nat) : Int))
  have b3 := Boxed.new (((w.alloc (.cells #[.slice av len cap] 22)).alloc (.cells #[.int .u64 (by_ : Int)] 53)).alloc (.cells #[.int .u64 ((0 : Nat) : Int)] 53)) 22 (.slice av len cap)
  simp only [World.size_alloc] at b1 b2 b3
  have hB0 : Below w.heap.size w ((((w.alloc (.cells #[.slice av len cap] 22)).alloc (.cells #[.int .u64 (by_ : Int)] 53)).alloc (.cells #[.int .u64 ((0 : Nat) : Int)] 53)).alloc (.cells #[.slice av len cap] 22)) :=
    ((((Below.refl _ w).alloc (Nat.le_refl _) _).alloc (by simp) _).alloc (by simp; omega) _).alloc (by simp; omega) _
  have sx0 := sx.below hB0 hg
  refine back_loop (S := Nat × List Nat × Nat) (w.heap.size + 1 + 1 + 1) g off len cap av (by omega) rfl rfl hlen (fun s => s.1)
    (fun s W => (s.1 ≤ len ∧ s.2.1.length = len - s.1 ∧ okw s.2.1 ∧ s.2.2 < by_ ∧ val (xs.drop s.1) = val s.2.1 * by_ + s.2.2) ∧ Seg .u32 W g off (xs.take s.1 ++ s.2.1) ∧ Boxed W w.heap.size 22 (.slice av len cap) ∧ Boxed W (w.heap.size + 1) 53 (.int .u64 (by_ : Int)) ∧ Boxed W (w.heap.size + 1 + 1) 53 (.int .u64 (s.2.2 : Int)) ∧ Boxed W (w.heap.size + 1 + 1 + 1) 22 (.slice av len cap) ∧ RowTurn w W g off len)
    (fun _ _ => False)
    (OwnFrom.and (ownFrom_pure _ _) (OwnFrom.and (Own.from (own_seg _ _ _ (fun s : Nat × List Nat × Nat => xs.take s.1 ++ s.2.1)) _) (OwnFrom.and (OwnFrom.box _ _ _ _) (OwnFrom.and (OwnFrom.box _ _ _ _) (OwnFrom.and (OwnFrom.box _ _ _ (fun s : Nat × List Nat × Nat => .int .u64 (s.2.2 : Int))) (OwnFrom.and (OwnFrom.box _ _ _ _) (ownFrom_rowTurn hg (by simp; omega))))))))
    (fun c => ownFrom_pure _ (fun _ => False))
    ?read (len, [], 0) rfl ⟨⟨Nat.le_refl _, by simp, okw_nil, hb0, by rw [List.drop_of_length_le (by omega)]; simp [val]⟩, by simpa [List.take_of_length_le (show xs.length ≤ len by omega)] using sx0, ((b0.alloc _).alloc _).alloc _, (b1.alloc _).alloc _, b2.alloc _, b3, RowTurn.of_below hB0 g off len hg⟩
    (fun i v => { tmps := #[.slice av len cap, .int .u64 (by_ : Int), .pointer (some ⟨w.heap.size, 0, none⟩), .pointer (some ⟨w.heap.size + 1, 0, none⟩), .int .u32 0, .pointer (some ⟨w.heap.size + 1 + 1, 0, none⟩), .int .i64 (i : Int), .int .u32 (v : Int), undef, .slice av len cap,
      .func (.func 40) #[] #[.pointer (some ⟨w.heap.size + 1 + 1 + 1, 0, none⟩)], .int .i64 (i : Int), .int .u32 (v : Int), undef, undef, undef, undef, undef, undef, undef, undef, undef, undef, undef, undef, undef, undef, undef, undef, undef], defers := [] }) ?assign ?body ?done ?stop
  case read =>
    rintro ⟨k, qs, r⟩ W ⟨⟨hk, hq, _⟩, hs, _, _, _, bx, _⟩
    refine ⟨hk, bx.cell, fun h => ⟨hav (Nat.lt_of_lt_of_le h hk), xs[k - 1]?.getD 0, ?_⟩⟩
    simp only at h hk hs ⊢
    rw [hs (k - 1) (by simp; omega), List.getElem?_append_left (by simp; omega), List.getElem?_take_of_lt (by omega)]
  case assign =>
    intro l i v W K hK
    gi_wp2
    exact hK
  case body =>
    rintro l ⟨k, qs, r⟩ v W ⟨⟨hk, hq, hqo, hr, hval⟩, hs, h0, h1, h2, h3, ht⟩ hpos e1 hv
    simp only at hk hq hqo hr hval hs h2 hpos hv
    cases k with
    | zero => exact absurd hpos (by simp)
    | succ k =>
      simp only [Nat.add_sub_cancel] at hv ⊢
      have hv0 : W.cell? ⟨g, off + k, none⟩ = some (.int .u32 ((xs[k]?.getD 0 : Nat) : Int)) := by
        rw [hs k (by simp; omega), List.getElem?_append_left (by simp; omega), List.getElem?_take_of_lt (by omega)]
      obtain rfl : xs[k]?.getD 0 = v := by
        rw [hv0] at hv
        injection hv with hv
        injection hv with _ hv
        omega
      have hx1 := okw_get ox k
      have hc0 := h0.cell
      have hc1 := h1.cell
      have hc2 := h2.cell
      have hf2 := h2.frozen
      have hfk : W.frozen? ⟨g, off + k, none⟩ = false := (ht.frozen _).trans (fx k (by omega))
      rw [e1] at hc0
      obtain ⟨x, hx'⟩ : ∃ x, xs[k]?.getD 0 = x := ⟨_, rfl⟩
      rw [hx'] at hv hv0 hx1 ⊢
      have HX : Hid (xs[k]?.getD 0 = x) := hx'
      have HQ : Hid (qs.length = len - (k + 1)) := hq
      have HV : Hid (val (xs.drop (k + 1)) = val qs * by_ + r) := hval
      have HE : Hid (xs.length = len) := hx
      have hor := or_join r x (by omega) hx1
      have hm : Try.prog.follows .mixedOrders = true := by kernel_rfl
      clear hx' hq hval hx hv0
      gi_wp2
      subst e1
      refine wpIn_mono (Q := fun e a' W' => e = .normal ∧ a' = { tmps := #[.slice (some ⟨g, off, none⟩) len cap, .int .u64 (by_ : Int), .pointer (some ⟨w.heap.size, 0, none⟩), .pointer (some ⟨w.heap.size + 1, 0, none⟩), .int .u32 0, .pointer (some ⟨w.heap.size + 1 + 1, 0, none⟩), .int .i64 (k : Int),
          .int .u32 (x : Int), .int .u64 ((r : Int) * 4294967296 + x), .slice (some ⟨g, off, none⟩) len cap, .func (.func 40) #[] #[.pointer (some ⟨w.heap.size + 1 + 1 + 1, 0, none⟩)], .int .i64 (k : Int), .int .u32 (x : Int), .int .u64 (r : Int),
          .int .u64 ((r : Int) * 4294967296), .int .u32 (x : Int), .int .u64 (x : Int), .int .u64 ((r : Int) * 4294967296 + x), .slice (some ⟨g, off, none⟩) len cap, .int .i64 (k : Int), .int .u64 ((r : Int) * 4294967296 + x), .int .u64 (by_ : Int), .int .u64 (((r : Int) * 4294967296 + x) / by_),
          .int .u32 (((r : Int) * 4294967296 + x) / by_ % 4294967296), .pointer (some ⟨g, off + k, none⟩), undef, undef, undef, undef, undef], defers := [] } ∧ W' = (W.setCell ⟨g, off + k, none⟩ (.int .u32 (((r : Int) * 4294967296 + x) / by_ % 4294967296))).drew) ?_ ?_
      · clear h0 h1 h3 hs hc2 hf2 h2 ht HX HQ HV HE hqo hlen hg sx fx ox hpos hor
        have hd : ¬ (by_ : Int) = 0 := by omega
        gi_region_o
        all_goals exact ⟨rfl, rfl, rfl⟩
      rintro e a' W' ⟨rfl, rfl, rfl⟩
      have hc2' : ((W.setCell ⟨g, off + k, none⟩ (.int .u32 (((r : Int) * 4294967296 + x) / by_ % 4294967296))).drew).cell? ⟨w.heap.size + 1 + 1, 0, none⟩ = some (.int .u64 (r : Int)) := by
        show (W.setCell _ _).cell? _ = _
        rw [World.cell?_setCell_other _ _ _ _ (by intro e; injection e with e; omega)]
        exact hc2
      have hc1' : ((W.setCell ⟨g, off + k, none⟩ (.int .u32 (((r : Int) * 4294967296 + x) / by_ % 4294967296))).drew).cell? ⟨w.heap.size + 1, 0, none⟩ = some (.int .u64 (by_ : Int)) := by
        show (W.setCell _ _).cell? _ = _
        rw [World.cell?_setCell_other _ _ _ _ (by intro e; injection e with e; omega)]
        exact hc1
      have hf2' : ((W.setCell ⟨g, off + k, none⟩ (.int .u32 (((r : Int) * 4294967296 + x) / by_ % 4294967296))).drew).frozen? ⟨w.heap.size + 1 + 1, 0, none⟩ = false := by
        show (W.setCell _ _).frozen? _ = _
        rw [World.frozen?_setCell]
        exact hf2
      obtain ⟨W1, hW1⟩ : ∃ W1, (W.setCell ⟨g, off + k, none⟩ (.int .u32 (((r : Int) * 4294967296 + x) / by_ % 4294967296))).drew = W1 := ⟨_, rfl⟩
      rw [hW1] at hc2' hc1' hf2' ⊢
      have HW : Hid ((W.setCell ⟨g, off + k, none⟩ (.int .u32 (((r : Int) * 4294967296 + x) / by_ % 4294967296))).drew = W1) := hW1
      clear hW1 hc0 hc1 hc2 hf2 hv hfk
      have hd : ¬ (by_ : Int) = 0 := by omega
      gi_wp2
      have eq : ((r : Int) * 4294967296 + x) / by_ % 4294967296 = (((r * 4294967296 + x) / by_ : Nat) : Int) := by
        have hq := div_word hr hx1
        rw [show ((r : Int) * 4294967296 + x) / by_ = (((r * 4294967296 + x) / by_ : Nat) : Int) by simp]
        generalize (r * 4294967296 + x) / by_ = q at hq ⊢
        omega
      have er : ((r : Int) * 4294967296 + x) % by_ = (((r * 4294967296 + x) % by_ : Nat) : Int) := by simp
      rw [eq] at HW
      rw [er]
      have hW1 := HW.out
      have hne : g ≠ w.heap.size + 1 + 1 := by omega
      have hsz : W.heap.size = W1.heap.size := by rw [← hW1]; simp [World.setCell, World.drew]
      refine ⟨?_, (k, ((r * 4294967296 + x) / by_) :: qs, (r * 4294967296 + x) % by_), rfl, ⟨by omega, by simp [HQ.out]; omega, okw_cons.2 ⟨div_word hr hx1, hqo⟩, Nat.mod_lt _ hb0, div_step (by rw [HE.out]; omega) HX.out HV.out⟩, ?_, ?_, ?_, ?_, ?_, ?_⟩
      · rw [← hW1]
        exact (((KeepsOthers.setCell _ _ _).trans (KeepsOthers.drew _)).trans (KeepsOthers.setCell _ _ _)).from _
      · have h5 : Seg .u32 W1 g off (xs.take k ++ ((r * 4294967296 + x) / by_) :: qs) := by
          rw [← hW1, ← set_take xs qs k _ (by rw [HE.out]; omega)]
          exact hs.set k (by simp [HQ.out]; rw [HE.out]; omega) _
        intro j hj
        rw [World.cell?_setCell_other _ _ _ _ (by intro e; injection e with e; omega)]
        exact h5 j hj
      · rw [← hW1]; exact ((Boxed.kept h0 (grownBy_setCell'' W _ _) (by simp; omega)).drewB).other (by omega) _
      · rw [← hW1]; exact ((Boxed.kept h1 (grownBy_setCell'' W _ _) (by simp; omega)).drewB).other (by omega) _
      · rw [← hW1]; exact ((Boxed.kept h2 (grownBy_setCell'' W _ _) (by simp; omega)).drewB).set _
      · rw [← hW1]; exact ((Boxed.kept h3 (grownBy_setCell'' W _ _) (by simp; omega)).drewB).other (by omega) _
      · rw [← hW1]; exact RowTurn.setNew (RowTurn.drewR (ht.set k (by omega) _)) hg (by simp; omega) _
  case done =>
    rintro D ⟨k, qs, r⟩ W hD hk0 ⟨⟨_, hq, hqo, hr, hval⟩, hs, h0, h1, h2, h3, ht⟩ hK
    simp only at hk0 hq hqo hr hval hs h2
    subst hk0
    have hc2 := h2.cell
    simp only [List.drop_zero] at hval
    have hv1 : val qs = val xs / by_ := by
      rw [hval, Nat.mul_comm, Nat.mul_add_div hb0, Nat.div_eq_of_lt hr]; rfl
    have hv2 : r = val xs % by_ := by
      rw [hval, Nat.mul_comm, Nat.mul_add_mod, Nat.mod_eq_of_lt hr]
    have HV1 : Hid (val qs = val xs / by_) := hv1
    have HV2 : Hid (r = val xs % by_) := hv2
    clear hv1 hv2 hval
    gi_wp2
    refine ⟨by simp, .inl ⟨_, _, rfl, run_takeDeferred hK, ?_⟩⟩
    have hs5 := hs
    refine ⟨_, results_tmp rfl _ _ _, ?_, ⟨qs, by omega, hqo, HV1.out, ?_⟩, ?_⟩
    · have e := HV2.out
      subst e
      simp
    · intro j hj
      have := hs j (by simpa using hj)
      simp only [List.take_zero, List.nil_append] at this
      exact cell_kept this (grownBy_putObj' _ D (.deferred none)) (fun r e => by cases e; exact ⟨_, hK, rfl⟩)
    · exact ownFrom_rowTurn (β := Unit) hg (Nat.le_refl _) () _ _ (some D) ht (grownBy_putObj' _ D (.deferred none)) (fun r e => by cases e; exact ⟨by simp at hD; omega, _, hK, rfl⟩)
  case stop =>
    rintro D c W _ h _
    exact h.elim
end Go.Proofs.Yteplmnnpmekngab
