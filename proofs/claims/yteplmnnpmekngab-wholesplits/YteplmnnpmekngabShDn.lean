/-
  What shiftDown of package whole does.
-/
import Derived.Laws.OwnMore
import Derived.Test.YteplmnnpmekngabRDiv3
import Derived.Test.YteplmnnpmekngabDivBy
import Derived.Test.YteplmnnpmekngabShUp
namespace Go.Proofs.Yteplmnnpmekngab
open Go.RowKit Go.Shelf
attribute [local go_sem] Oper.semAt_some

/-- make, inside a fence: as long as it has room. -/
theorem madeIn {F : Fence} {n : Nat} {P : Program} (w : World) {ops : Array Oper} {rest : List Oper} {o : Oper} {a : Act} {Q : Exit → Act → World → Prop}
    (hg : o.guard = none) (l c : Operand) (t : TypeId) (hop : o.op = Op.makeSlice t l c) (base : Nat) (e : TypeId) (i : TypeInfo) (z : Value) (size : Nat) (h1 : P.underlying t = some (.slice e)) (h2 : P.info? e = some i) (h3 : i.zero = some z) (h4 : i.size = size)
    (kl kc : IntKind) (L C : Int) (m : Nat) (hl : a.eval l = .int kl L) (hc : a.eval c = .int kc C) (hL : L = (m : Int)) (hC : C = (m : Int)) (b2 : i.bytes * m ≤ 281474976710656) (b3 : m ≤ maxLen) (b4 : base ≤ w.heap.size)
    (hK : ∀ w', w'.ownsRow base e size (.slice (some ⟨w.heap.size, 0, none⟩) m m) m (madeCells z.cells (m * size)).toList → w.grownBy w' none → wpListIn F n P ops Q rest (a.put o.dst (.slice (some ⟨w.heap.size, 0, none⟩) m m)) w') :
    wpListIn F n P ops Q (o :: rest) a w := by
  subst hL
  subst hC
  refine wpListIn_plain hg fun K hK' => ?_
  obtain ⟨w', hrun, r1, r2⟩ := run_make_full (P := P) w base t e i z size h1 h2 h3 h4 kl kc m b2 b3 b4
  unfold Oper.wpIn
  refine ⟨by simp [Oper.about, hop], ?_⟩
  rw [Oper.semAt_plain F _ _ (by rw [hop]; intro c hc'; cases hc')]
  simp [execOp, hop, hl, hc, hrun, Result.andThen]
  exact hK' _ _ (hK w' r1 r2)

/-- A word that is shifted down, with what comes from the word above it. -/
theorem down_step {V A x s : Nat} (hs : s < 32) (hx : x < 4294967296) (h : V % 2 ^ s = A % 2 ^ s) :
    (x + 4294967296 * V) / 2 ^ s = (A * 4294967296 + x) / 2 ^ s % 4294967296 + 4294967296 * (V / 2 ^ s) ∧ (x + 4294967296 * V) % 2 ^ s = x % 2 ^ s := by
  have hp : 0 < 2 ^ s := Nat.two_pow_pos s
  have e : (4294967296 : Nat) = 2 ^ s * 2 ^ (32 - s) := by rw [← Nat.pow_add, show s + (32 - s) = 32 by omega]
  obtain ⟨R, hR⟩ : ∃ R, V % 2 ^ s = R := ⟨_, rfl⟩
  have hRlt : R < 2 ^ s := by rw [← hR]; exact Nat.mod_lt _ hp
  have eV := Nat.div_add_mod V (2 ^ s)
  have eA := Nat.div_add_mod A (2 ^ s)
  rw [← h] at eA
  rw [hR] at eV eA
  have hq : (R * 4294967296 + x) / 2 ^ s < 4294967296 := by
    rw [Nat.div_lt_iff_lt_mul hp]
    have : (R + 1) * 4294967296 ≤ 2 ^ s * 4294967296 := Nat.mul_le_mul_right _ hRlt
    omega
  constructor
  · have e1 : x + 4294967296 * V = (R * 4294967296 + x) + 2 ^ s * (4294967296 * (V / 2 ^ s)) := by
      conv => lhs; rw [← eV]
      rw [Nat.mul_add, Nat.mul_left_comm]
      omega
    have e2 : A * 4294967296 + x = (R * 4294967296 + x) + 2 ^ s * (A / 2 ^ s * 4294967296) := by
      conv => lhs; rw [← eA]
      rw [Nat.add_mul, Nat.mul_assoc]
      omega
    rw [e1, e2, Nat.add_mul_div_left _ _ hp, Nat.add_mul_div_left _ _ hp, Nat.add_mul_mod_self_right, Nat.mod_eq_of_lt hq]
  · rw [e, Nat.mul_assoc, Nat.add_mul_mod_self_left]
theorem repl_set (k q : Nat) (qs : List Nat) : (List.replicate (k + 1) 0 ++ qs).set k q = List.replicate k 0 ++ (q :: qs) := by
  rw [List.replicate_succ', List.append_assoc]
  rw [List.set_append_right _ _ (by simp)]
  simp

theorem own_row {β : Type} (k : IntKind) (t : TypeId) (g : Nat) (f : β → List Nat) : Own (fun s W => Row k t W g (f s)) := fun s X Y row hs hg hrow =>
  (hg.block g hs.lt (fun e' => by obtain ⟨o, ho, hc⟩ := hrow g e'.symm; rw [show X.heap[g]? = _ from hs] at ho; cases ho; cases hc)).trans hs
theorem Row.other {k : IntKind} {t : TypeId} {w : World} {g : Nat} {xs : List Nat} (h : Row k t w g xs) {p : Addr} (hne : p.block ≠ g) (u : Value) : Row k t (w.setCell p u) g xs :=
  ((grownBy_setCell'' w p u).block g h.lt (fun e => hne (by cases e; rfl))).trans h
theorem Row.drewW {k : IntKind} {t : TypeId} {w : World} {g : Nat} {xs : List Nat} (h : Row k t w g xs) : Row k t w.drew g xs := h

set_option maxRecDepth 100000 in
set_option maxHeartbeats 4000000 in
theorem shiftDown_any (av : Option Addr) (len cap s : Nat) (xs : List Nat) (w : World) (h : Sl .u32 w (.slice av len cap) xs) (bx : xs.length ≤ 100000) (ox : okw xs) (hs : s < 32) :
    Calls Try.prog 47 #[.slice av len cap, .int .i64 (s : Int)] w fun e w' => ∃ (g : Nat) (Q : List Nat), e = .returned (.slice (some ⟨g, 0, none⟩) xs.length xs.length) ∧ w.heap.size ≤ g ∧ Q.length = xs.length ∧ okw Q ∧ val Q = val xs / 2 ^ s ∧ Seg .u32 w' g 0 Q ∧ Free w' g 0 Q.length ∧ Below w.heap.size w w' := by
  obtain rfl := h.len
  obtain ⟨b, off, ha, sx⟩ := h.place
  clear h
  obtain ⟨i0, hi, hz0, hz1, hz2⟩ := info_parts Try.infoWord
  refine (callsIn_wide (n := 3)).1 ?_
  refine callsIn_of_wp_marks Try.func47 rfl trivial ?_ rfl
  simp only [Try.ntmps47, List.size_toArray, List.length_cons, List.length_nil, Nat.reduceAdd, Nat.reduceSub, Array.replicate_succ, Array.replicate_zero, List.push_toArray, List.append_toArray, List.nil_append, List.cons_append]
  gi_wp2_with (first
    | (gi_at_make; refine madeIn _ rfl _ _ 22 rfl w.heap.size 52 i0 (.int .u32 0) 1 Try.underlying22 hi hz0 hz1 .i64 .i64 _ _ xs.length rfl rfl rfl rfl (by rw [hz2]; omega) (by unfold maxLen; omega) (by simp) ?_; intro w1 hown1 hgrow1)
    | (refine ⟨trivial, ?_⟩; gi_at_call 27; refine (callsIn_wide.2 (back_any _ _ _ _)).mono ?_; rintro e w' ⟨rfl, rfl⟩))
  have hb0 : Below w.heap.size w (w.alloc (.cells #[.int .i64 (s : Int)] 3)) := (Below.refl _ _).alloc (Nat.le_refl _) _
  have hb1 : Below w.heap.size w w1 := hb0.grown hgrow1 (by simp) (fun k e => by cases e)
  have hr1 : Row .u32 52 w1 (w.heap.size + 1) (List.replicate xs.length 0) := row_made (by simpa using hown1)
  have x0 : Boxed w1 w.heap.size 3 (.int .i64 (s : Int)) := (Boxed.new w 3 (.int .i64 (s : Int))).kept hgrow1 (fun e => by cases e)
  have hlt1 := hr1.lt
  have x1 := Boxed.new w1 22 (.slice (some ⟨w.heap.size + 1, 0, none⟩) xs.length xs.length)
  have x2 := Boxed.new (w1.alloc (.cells #[.slice (some ⟨w.heap.size + 1, 0, none⟩) xs.length xs.length] 22)) 53 (.int .u64 ((0 : Nat) : Int))
  have x3 := Boxed.new ((w1.alloc (.cells #[.slice (some ⟨w.heap.size + 1, 0, none⟩) xs.length xs.length] 22)).alloc (.cells #[.int .u64 ((0 : Nat) : Int)] 53)) 22 (.slice av xs.length cap)
  simp only [World.size_alloc] at x2 x3
  clear hown1 hgrow1 hb0
  have hM := hb1.size
  have hB : Below w.heap.size w (((w1.alloc (.cells #[.slice (some ⟨w.heap.size + 1, 0, none⟩) xs.length xs.length] 22)).alloc (.cells #[.int .u64 ((0 : Nat) : Int)] 53)).alloc (.cells #[.slice av xs.length cap] 22)) :=
    ((hb1.alloc hM _).alloc (by simp; omega) _).alloc (by simp; omega) _
  have hrow : Row .u32 52 (((w1.alloc (.cells #[.slice (some ⟨w.heap.size + 1, 0, none⟩) xs.length xs.length] 22)).alloc (.cells #[.int .u64 ((0 : Nat) : Int)] 53)).alloc (.cells #[.slice av xs.length cap] 22)) (w.heap.size + 1) (List.replicate xs.length 0 ++ []) := by
    rw [List.append_nil]
    exact hr1.belowW (((below_alloc w1 _).trans ((below_alloc _ _).mono (by simp))).trans ((below_alloc _ _).mono (by simp; omega)))
  obtain ⟨M, hMe⟩ : ∃ M, w1.heap.size = M := ⟨_, rfl⟩
  have hsz : (((w1.alloc (.cells #[.slice (some ⟨w.heap.size + 1, 0, none⟩) xs.length xs.length] 22)).alloc (.cells #[.int .u64 ((0 : Nat) : Int)] 53)).alloc (.cells #[.slice av xs.length cap] 22)).heap.size = M + 1 + 1 + 1 := by simp [hMe]
  have y0 : Boxed (((w1.alloc (.cells #[.slice (some ⟨w.heap.size + 1, 0, none⟩) xs.length xs.length] 22)).alloc (.cells #[.int .u64 ((0 : Nat) : Int)] 53)).alloc (.cells #[.slice av xs.length cap] 22)) w.heap.size 3 (.int .i64 (s : Int)) := ((x0.alloc _).alloc _).alloc _
  replace x1 := (x1.alloc (.cells #[.int .u64 ((0 : Nat) : Int)] 53)).alloc (.cells #[.slice av xs.length cap] 22)
  replace x2 := x2.alloc (.cells #[.slice av xs.length cap] 22)
  rw [hMe] at x1 x2 x3 hM hlt1 ⊢
  obtain ⟨W0, hW0⟩ : ∃ W0, ((w1.alloc (.cells #[.slice (some ⟨w.heap.size + 1, 0, none⟩) xs.length xs.length] 22)).alloc (.cells #[.int .u64 ((0 : Nat) : Int)] 53)).alloc (.cells #[.slice av xs.length cap] 22) = W0 := ⟨_, rfl⟩
  rw [hW0] at x1 x2 x3 y0 hB hrow hsz
  have hW0' : ((w1.alloc (.cells #[.slice (some ⟨w.heap.size + 1, 0, none⟩) xs.length xs.length] 22)).alloc (.cells #[.int .u64 0] 53)).alloc (.cells #[.slice av xs.length cap] 22) = W0 := hW0
  rw [hW0']
  clear hW0 hW0' hr1 x0 hMe hb1
  have hpos2 : 0 < 2 ^ s := Nat.two_pow_pos s
  refine back_loop (S := Nat × List Nat × Nat) (M + 1 + 1) b off xs.length cap av (by omega) rfl rfl (by omega) (fun t => t.1)
    (fun t W => (t.1 ≤ xs.length ∧ t.2.1.length = xs.length - t.1 ∧ okw t.2.1 ∧ t.2.2 < 4294967296 ∧ val t.2.1 = val (xs.drop t.1) / 2 ^ s ∧ val (xs.drop t.1) % 2 ^ s = t.2.2 % 2 ^ s) ∧ Row .u32 52 W (w.heap.size + 1) (List.replicate t.1 0 ++ t.2.1) ∧ Boxed W w.heap.size 3 (.int .i64 (s : Int)) ∧ Boxed W M 22 (.slice (some ⟨w.heap.size + 1, 0, none⟩) xs.length xs.length) ∧ Boxed W (M + 1) 53 (.int .u64 (t.2.2 : Int)) ∧ Boxed W (M + 1 + 1) 22 (.slice av xs.length cap) ∧ Below w.heap.size w W)
    (fun _ _ => False)
    (OwnFrom.and (ownFrom_pure _ _) (OwnFrom.and (Own.from (own_row _ _ _ (fun t : Nat × List Nat × Nat => List.replicate t.1 0 ++ t.2.1)) _) (OwnFrom.and (OwnFrom.box _ _ _ _) (OwnFrom.and (OwnFrom.box _ _ _ _) (OwnFrom.and (OwnFrom.box _ _ _ (fun t : Nat × List Nat × Nat => .int .u64 (t.2.2 : Int))) (OwnFrom.and (OwnFrom.box _ _ _ _) (ownFrom_below (Nat.le_refl _) (by omega))))))))
    (fun c => ownFrom_pure _ (fun _ => False))
    ?read (xs.length, [], 0) rfl ⟨⟨Nat.le_refl _, by simp, okw_nil, by show 0 < 4294967296; omega, by rw [List.drop_of_length_le (by omega)]; simp [val], by rw [List.drop_of_length_le (by omega)]; simp [val]⟩, hrow, y0, x1, x2, x3, hB⟩
    (fun i v => { tmps := #[.slice av xs.length cap, .int .i64 (s : Int), undef, .pointer (some ⟨w.heap.size, 0, none⟩), .slice none 0 0, .pointer (some ⟨M, 0, none⟩), .pointer (some ⟨M + 1, 0, none⟩), .int .i64 (i : Int), .int .u32 (v : Int), undef, .slice av xs.length cap, .int .i64 (xs.length : Int), .slice (some ⟨w.heap.size + 1, 0, none⟩) xs.length xs.length, .slice av xs.length cap,
      .func (.func 40) #[] #[.pointer (some ⟨M + 1 + 1, 0, none⟩)], .int .i64 (i : Int), .int .u32 (v : Int), undef, undef, undef, undef, undef, undef, undef, undef, undef, undef, undef, undef, undef, undef, undef], defers := [] }) ?assign ?body ?done ?stop
  case read =>
    rintro ⟨k, qs, A⟩ W ⟨⟨hk, _⟩, _, _, _, _, bx3, hbe⟩
    simp only at hk
    refine ⟨hk, bx3.cell, fun h => ?_⟩
    simp only at h
    obtain ⟨e1, hlt⟩ := ha (fun e => by rw [e] at hk; simp at hk; omega)
    exact ⟨e1, _, sx.below hbe hlt (k - 1) (by omega)⟩
  case assign =>
    intro l i v W K hK
    gi_wp2
    exact hK
  case body =>
    rintro l ⟨k, qs, A⟩ v W ⟨⟨hk, hq, hqo, hA, hval, hlow⟩, hrw, h0, h1, h2, h3, hbe⟩ hpos e1 hv
    simp only at hk hq hqo hA hval hlow hrw h2 hpos hv
    cases k with
    | zero => exact absurd hpos (by simp)
    | succ k =>
      have hxn : xs ≠ [] := fun e => by rw [e] at hk; simp at hk
      have hlt := (ha hxn).2
      simp only [Nat.add_sub_cancel] at hv ⊢
      have hv0 : W.cell? ⟨b, off + k, none⟩ = some (.int .u32 ((xs[k]?.getD 0 : Nat) : Int)) := sx.below hbe hlt k (by omega)
      obtain rfl : xs[k]?.getD 0 = v := by
        rw [hv0] at hv
        injection hv with hv
        injection hv with _ hv
        omega
      have hx1 := okw_get ox k
      have HX : Hid (val (xs.drop k) = xs[k]?.getD 0 + 4294967296 * val (xs.drop (k + 1))) := val_drop_get xs k (by omega)
      obtain ⟨x, hx'⟩ : ∃ x, xs[k]?.getD 0 = x := ⟨_, rfl⟩
      rw [hx'] at hx1 HX ⊢
      have hstep := down_step (V := val (xs.drop (k + 1))) hs hx1 hlow
      rw [← HX.out, ← hval] at hstep
      have hor := or_join A x hA hx1
      have hc0 := h0.cell
      have hc1 := h1.cell
      have hc2 := h2.cell
      have hf2 := h2.frozen
      have hck := hrw.cell k (by simp; omega)
      have hfk := hrw.fr k
      have eq : ((A : Int) * 4294967296 + x) / 2 ^ s = (((A * 4294967296 + x) / 2 ^ s : Nat) : Int) := by rw [Int.natCast_ediv, Int.natCast_add, Int.natCast_mul, Int.natCast_pow]; rfl
      obtain ⟨D, hD⟩ : ∃ D, (A * 4294967296 + x) / 2 ^ s = D := ⟨_, rfl⟩
      have hD1 : D < 18446744073709551616 := by rw [← hD]; exact Nat.lt_of_le_of_lt (Nat.div_le_self _ _) (by omega)
      rw [hD] at eq hstep
      obtain ⟨q, hqq⟩ : ∃ q, D % 4294967296 = q := ⟨_, rfl⟩
      have hq1 : q < 4294967296 := by rw [← hqq]; exact Nat.mod_lt _ (by decide)
      rw [hqq] at hstep
      have eq2 : (D : Int) % 4294967296 = (q : Int) := by omega
      have HS : Hid (val (xs.drop k) / 2 ^ s = q + 4294967296 * val qs ∧ val (xs.drop k) % 2 ^ s = x % 2 ^ s) := hstep
      have HQ : Hid (qs.length = xs.length - (k + 1)) := hq
      have hm : Try.prog.follows .mixedOrders = true := by kernel_rfl
      clear hv hv0 hx' hval hlow hqq hstep hq HX hD
      gi_wp2
      refine wpIn_mono (Q := fun e a' W' => e = .normal ∧ a' = { tmps := #[.slice av xs.length cap, .int .i64 (s : Int), undef, .pointer (some ⟨w.heap.size, 0, none⟩), .slice none 0 0, .pointer (some ⟨M, 0, none⟩), .pointer (some ⟨M + 1, 0, none⟩), .int .i64 (k : Int), .int .u32 (x : Int), .int .u64 ((A : Int) * 4294967296 + x), .slice av xs.length cap, .int .i64 (xs.length : Int), .slice (some ⟨w.heap.size + 1, 0, none⟩) xs.length xs.length, .slice av xs.length cap,
          .func (.func 40) #[] #[.pointer (some ⟨M + 1 + 1, 0, none⟩)], .int .i64 (k : Int), .int .u32 (x : Int), .int .u64 (A : Int), .int .u64 ((A : Int) * 4294967296), .int .u32 (x : Int), .int .u64 (x : Int), .int .u64 ((A : Int) * 4294967296 + x),
          .slice (some ⟨w.heap.size + 1, 0, none⟩) xs.length xs.length, .int .i64 (k : Int), .int .u64 ((A : Int) * 4294967296 + x), .int .i64 (s : Int), .int .u64 (D : Int), .int .u32 (q : Int), .pointer (some ⟨w.heap.size + 1, k, none⟩), undef, undef, undef], defers := [] } ∧ W' = (W.setCell ⟨w.heap.size + 1, k, none⟩ (.int .u32 (q : Int))).drew) ?_ ?_
      · clear e1 h0 h1 h3 hrw hc2 hf2 h2 hbe HQ HS hqo hpos hor hrow x1 x2 x3 y0 hB hsz sx ox ha
        gi_region_o
        all_goals exact ⟨rfl, rfl, rfl⟩
      rintro e a' W' ⟨rfl, rfl, rfl⟩
      have hne : M + 1 ≠ w.heap.size + 1 := by omega
      have h2' : Boxed ((W.setCell ⟨w.heap.size + 1, k, none⟩ (.int .u32 (q : Int))).drew) (M + 1) 53 (.int .u64 (A : Int)) := (Boxed.kept h2 (grownBy_setCell'' W _ _) (by simp; omega)).drewB
      have hc2' := h2'.cell
      have hf2' := h2'.frozen
      have hrw' : Row .u32 52 ((W.setCell ⟨w.heap.size + 1, k, none⟩ (.int .u32 (q : Int))).drew) (w.heap.size + 1) (List.replicate k 0 ++ q :: qs) := by
        rw [← repl_set]
        exact (hrw.turn2 k q).drewW
      have h0' : Boxed ((W.setCell ⟨w.heap.size + 1, k, none⟩ (.int .u32 (q : Int))).drew) w.heap.size 3 (.int .i64 (s : Int)) := (Boxed.kept h0 (grownBy_setCell'' W _ _) (by simp)).drewB
      have h1' : Boxed ((W.setCell ⟨w.heap.size + 1, k, none⟩ (.int .u32 (q : Int))).drew) M 22 (.slice (some ⟨w.heap.size + 1, 0, none⟩) xs.length xs.length) := (Boxed.kept h1 (grownBy_setCell'' W _ _) (by simp; omega)).drewB
      have h3' : Boxed ((W.setCell ⟨w.heap.size + 1, k, none⟩ (.int .u32 (q : Int))).drew) (M + 1 + 1) 22 (.slice av xs.length cap) := (Boxed.kept h3 (grownBy_setCell'' W _ _) (by simp; omega)).drewB
      have hbe' : Below w.heap.size w ((W.setCell ⟨w.heap.size + 1, k, none⟩ (.int .u32 (q : Int))).drew) := (hbe.setCell (p := ⟨w.heap.size + 1, k, none⟩) (by simp) _).drew
      have hkeep : Hid (KeepsFrom W0.heap.size W ((W.setCell ⟨w.heap.size + 1, k, none⟩ (.int .u32 (q : Int))).drew)) := ((KeepsOthers.setCell _ _ _).trans (KeepsOthers.drew _)).from _
      obtain ⟨W1, hW1⟩ : ∃ W1, (W.setCell ⟨w.heap.size + 1, k, none⟩ (.int .u32 (q : Int))).drew = W1 := ⟨_, rfl⟩
      rw [hW1] at h2' hc2' hf2' hrw' h0' h1' h3' hbe' hkeep ⊢
      clear hW1 hc0 hc1 hc2 hf2 hck hfk h0 h1 h2 h3 hrw hbe
      gi_wp2
      refine ⟨hkeep.out.trans ((KeepsOthers.setCell _ _ _).from _), (k, q :: qs, x), rfl, ⟨by omega, by simp [HQ.out]; omega, okw_cons.2 ⟨hq1, hqo⟩, hx1, ?_, HS.out.2⟩, hrw'.other (by simp; omega) _, h0'.other (by omega) _, h1'.other (by omega) _, h2'.set _, h3'.other (by omega) _, hbe'.setCell (p := ⟨M + 1, 0, none⟩) (by simp; omega) _⟩
      simp only
      rw [HS.out.1]
      rfl
  case done =>
    rintro D ⟨k, qs, A⟩ W hD hk0 ⟨⟨_, hq, hqo, hA, hval, hlow⟩, hrw, h0, h1, h2, h3, hbe⟩ hK
    simp only at hk0 hq hqo hval hrw
    subst hk0
    have hc1 := h1.cell
    have HV : Hid (val qs = val xs / 2 ^ s) := hval
    simp only [List.replicate_zero, List.nil_append] at hrw
    clear hval hlow
    gi_wp2
    refine ⟨by simp, .inl ⟨_, _, rfl, run_takeDeferred hK, ?_⟩⟩
    have hK2 := grownBy_putObj' W D (.deferred none)
    have hrw2 : Row .u32 52 (W.putObj D (.deferred none)) (w.heap.size + 1) qs := own_row (β := Unit) .u32 52 _ (fun _ => qs) () _ _ (some D) hrw hK2 (fun r e => by cases e; exact ⟨_, hK, rfl⟩)
    refine ⟨_, results_tmp rfl _ _ _, w.heap.size + 1, rfl, by omega, qs, by omega, hqo, HV.out, hrw2.seg, hrw2.free _ _, ?_⟩
    exact ownFrom_below (β := Unit) (Nat.le_refl _) (Nat.le_refl _) () _ _ (some D) hbe hK2 (fun r e => by cases e; exact ⟨by omega, _, hK, rfl⟩)
  case stop =>
    rintro D c W _ h _
    exact h.elim
end Go.Proofs.Yteplmnnpmekngab
