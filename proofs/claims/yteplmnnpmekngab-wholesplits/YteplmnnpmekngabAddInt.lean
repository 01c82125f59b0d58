/-
  What Add, Sub, Negate and Of do.
-/
import Derived.Test.YteplmnnpmekngabSum
namespace Go.Proofs.Yteplmnnpmekngab
open Go.RowKit

/-- What Add and Sub answer: refused, if one is long, or the result would be. -/
def SumRes (B : Nat) (w : World) (v : Value) (k : Int) (x y : Nat) (z : Int) : Prop :=
  ((pw 256 ≤ x ∨ pw 256 ≤ y) ∧ k = 3 ∧ v = .agg #[.bool false, .slice none 0 0]) ∨ ((x < pw 256 ∧ y < pw 256) ∧ Res B w v k z)
theorem SumRes.form {B : Nat} {w : World} {v : Value} {k z : Int} {x y : Nat} (h : SumRes B w v k x y z) : ∃ neg a n cap, v = .agg #[.bool neg, .slice a n cap] := by
  rcases h with ⟨_, _, e⟩ | ⟨_, h⟩
  · exact ⟨false, none, 0, 0, e⟩
  · exact h.form
theorem SumRes.put {B : Nat} {w : World} {v : Value} {k z : Int} {x y : Nat} (h : SumRes B w v k x y z) {N : Nat} {neg : Bool} {a : Option Addr} {n cap : Nat} (hb : Box2 w N neg a n cap) (q : Bool) (s : Value) : SumRes B (put2 w N q s) v k x y z := by
  rcases h with h | ⟨h1, h2⟩
  · exact Or.inl h
  · exact Or.inr ⟨h1, h2.put hb q s⟩
theorem SumRes.mono {B B' : Nat} {w : World} {v : Value} {k z : Int} {x y : Nat} (h : SumRes B w v k x y z) (hB : B' ≤ B) : SumRes B' w v k x y z := by
  rcases h with h | ⟨h1, h2⟩
  · exact Or.inl h
  · exact Or.inr ⟨h1, h2.mono hB⟩
/-- Three boxes of an Int each, laid one behind the other. -/
theorem boxes3 (w : World) (n0 n1 n2 : Bool) (a0 a1 a2 : Option Addr) (l0 c0 l1 c1 l2 c2 : Nat) (t : TypeId) :
    let W := ((w.alloc (.cells #[.bool n0, .slice a0 l0 c0] t)).alloc (.cells #[.bool n1, .slice a1 l1 c1] t)).alloc (.cells #[.bool n2, .slice a2 l2 c2] t)
    Box2 W w.heap.size n0 a0 l0 c0 ∧ Box2 W (w.heap.size + 1) n1 a1 l1 c1 ∧ Box2 W (w.heap.size + 1 + 1) n2 a2 l2 c2 ∧ Below w.heap.size w W := by
  intro W
  refine ⟨((Box2.new w n0 a0 l0 c0 t).below ((Below.refl _ _).alloc (Nat.le_refl _) _)).below ((Below.refl _ _).alloc (Nat.le_refl _) _), ?_, ?_, (((Below.refl w.heap.size w).alloc (Nat.le_refl _) _).alloc (by simp) _).alloc (by simp; omega) _⟩
  · have := (Box2.new (w.alloc (.cells #[.bool n0, .slice a0 l0 c0] t)) n1 a1 l1 c1 t).below ((Below.refl _ _).alloc (Nat.le_refl _) (.cells #[.bool n2, .slice a2 l2 c2] t))
    simpa using this
  · have := Box2.new ((w.alloc (.cells #[.bool n0, .slice a0 l0 c0] t)).alloc (.cells #[.bool n1, .slice a1 l1 c1] t)) n2 a2 l2 c2 t
    simpa using this

set_option maxRecDepth 100000 in
set_option maxHeartbeats 1000000 in
theorem add_any (na nb : Bool) (ax ay : Option Addr) (nx cx ny cy : Nat) (xs ys : List Nat) (w : World) (hx : Sl .u32 w (.slice ax nx cx) xs) (hy : Sl .u32 w (.slice ay ny cy) ys) (ox : okw xs) (oy : okw ys)
    (bx : xs.length ≤ 1000000) (by_ : ys.length ≤ 1000000) :
    Calls Try.prog 15 #[.agg #[.bool na, .slice ax nx cx], .agg #[.bool nb, .slice ay ny cy]] w fun e w' => ∃ neg a n cap k, e = .returned (.tuple #[.agg #[.bool neg, .slice a n cap], .int .i64 k]) ∧ SumRes w.heap.size w' (.agg #[.bool neg, .slice a n cap]) k (val xs) (val ys) (zv na (val xs) + zv nb (val ys)) ∧ Below w.heap.size w w' := by
  obtain ⟨hA, hB, hR, hB0⟩ := boxes3 w na nb false ax ay none nx cx ny cy 0 0 24
  go_enter Try.func15, Try.ntmps15
  go_wp2_with fail
  refine (sum_any na nb nb ax ay nx cx ny cy xs ys _ (hx.below hB0) (hy.below hB0) ox oy bx by_).mono ?_
  rintro e w1 ⟨v, k, rfl, hs, hb1⟩
  have hs' : SumRes _ w1 v k (val xs) (val ys) (zv na (val xs) + zv nb (val ys)) := hs
  clear hs
  obtain ⟨n3, a3, l3, c3, rfl⟩ := hs'.form
  have hR1 := hR.below hb1
  have r0 := hR1.c0
  have r1 := hR1.c1
  have rf0 := hR1.f0
  have rf1 := hR1.f1
  have hBw : Below w.heap.size w w1 := hB0.trans (hb1.mono hB0.size)
  have hs2 := (hs'.mono hB0.size).put hR1 n3 (.slice a3 l3 c3)
  have hfin := hR1.put n3 a3 l3 c3
  have hg0 := hfin.c0
  have hg1 := hfin.c1
  unfold put2 at hg0 hg1
  clear hA hB hR hs'
  go_wp2
  refine bodyPost_ret (v := .tuple #[.agg #[.bool n3, .slice a3 l3 c3], .int .i64 k]) ?_ rfl ⟨_, _, _, _, _, rfl, hs2, below_put2 (N := w.heap.size + 1 + 1) hBw (by omega) n3 (.slice a3 l3 c3)⟩
  simp [results, Try.f15, go_sem, hg0, hg1]

/-- Two boxes of an Int each. -/
theorem boxes2 (w : World) (n0 n1 : Bool) (a0 a1 : Option Addr) (l0 c0 l1 c1 : Nat) (t : TypeId) :
    let W := (w.alloc (.cells #[.bool n0, .slice a0 l0 c0] t)).alloc (.cells #[.bool n1, .slice a1 l1 c1] t)
    Box2 W w.heap.size n0 a0 l0 c0 ∧ Box2 W (w.heap.size + 1) n1 a1 l1 c1 ∧ Below w.heap.size w W := by
  intro W
  refine ⟨(Box2.new w n0 a0 l0 c0 t).below ((Below.refl _ _).alloc (Nat.le_refl _) _), ?_, ((Below.refl w.heap.size w).alloc (Nat.le_refl _) _).alloc (by simp) _⟩
  have := Box2.new (w.alloc (.cells #[.bool n0, .slice a0 l0 c0] t)) n1 a1 l1 c1 t
  simpa using this
theorem IntIs.form {B : Nat} {w : World} {v : Value} {z : Int} (h : IntIs B w v z) : ∃ neg a n cap, v = .agg #[.bool neg, .slice a n cap] := by
  obtain ⟨neg, a, n, cap, xs, e, _⟩ := h
  exact ⟨neg, a, n, cap, e⟩
theorem zv_not (a : Bool) (x : Nat) : zv (!a) x = - zv a x := by
  unfold zv; cases a <;> simp

set_option maxRecDepth 100000 in
set_option maxHeartbeats 1000000 in
theorem negate_any (na : Bool) (ax : Option Addr) (nx cx : Nat) (xs : List Nat) (w : World) (hx : Sl .u32 w (.slice ax nx cx) xs) (ox : okw xs) (bx : xs.length ≤ 1000000) :
    Calls Try.prog 14 #[.agg #[.bool na, .slice ax nx cx]] w fun e w' => ∃ neg a n cap, e = .returned (.agg #[.bool neg, .slice a n cap]) ∧ IntIs w.heap.size w' (.agg #[.bool neg, .slice a n cap]) (- zv na (val xs)) ∧ Below w.heap.size w w' := by
  have hbs := boxes2 w na false ax none nx cx 0 0 24
  go_enter Try.func14, Try.ntmps14
  go_wp2_with fail
  obtain ⟨W0, hW0⟩ : ∃ W0, (w.alloc (.cells #[.bool na, .slice ax nx cx] 24)).alloc (.cells #[.bool false, .slice none 0 0] 24) = W0 := ⟨_, rfl⟩
  simp only [hW0] at hbs
  rw [hW0]
  clear hW0
  obtain ⟨hA, hR, hB0⟩ := hbs
  have hx0 := hx.below hB0
  have a0 := hA.c0
  have a1 := hA.c1
  go_region_held3 (fun W => W.cell? ⟨w.heap.size, 0, none⟩ = some (.bool na) ∧ W.cell? ⟨w.heap.size, 1, none⟩ = some (.slice ax nx cx))
    (first | exact ⟨a0, a1⟩ | exact ⟨by assumption, by assumption⟩ | (have hh : _ ∧ _ := (by assumption); exact ⟨cell_below hh.1 (by assumption), cell_below hh.2 (by assumption)⟩) | (have hh : _ ∧ _ := (by assumption); exact ⟨((World.cell?_setCell_other _ _ _ _ (by intro e; injection e with e; omega)).trans ((World.cell?_setCell_other _ _ _ _ (by intro e; injection e with e; omega)).trans hh.1)), ((World.cell?_setCell_other _ _ _ _ (by intro e; injection e with e; omega)).trans ((World.cell?_setCell_other _ _ _ _ (by intro e; injection e with e; omega)).trans hh.2))⟩))
    (first | (go_at_call 20; refine (trim_any ax nx cx xs _ (hx0.below below_drew) bx).mono ?_; rintro e w1 ⟨rfl, rfl⟩)
           | (go_at_call 29; refine (clone_any ax _ cx (trimL xs) _ (hx0.below below_drew).trimmed (Nat.le_trans (trimL_le xs) bx)).mono ?_; rintro e w2 ⟨a2, c2, rfl, ho2, hb2⟩; have hR2 := (hR.below below_drew).below hb2)
           | (go_at_call 23; refine (formed_any (!na) a2 _ c2 _ (trimL xs) _ ho2 (okw_trimL ox) (Nat.le_trans (trimL_le xs) bx)).mono ?_; rintro e w3 ⟨v3, rfl, hI, hb3⟩; obtain ⟨n3, a3, l3, c3, rfl⟩ := hI.form; have hR3 := hR2.below hb3; have s0 := hR3.c0; have s1 := hR3.c1; have sf0 := hR3.f0; have sf1 := hR3.f1))
  have hfin := hR3.put n3 a3 l3 c3
  have hg0 := hfin.c0
  have hg1 := hfin.c1
  unfold put2 at hg0 hg1
  have hBw : Below w.heap.size w w3 := (hB0.drew.trans (hb2.mono hB0.size)).trans (hb3.mono (Nat.le_trans hB0.size hb2.size))
  have hI2 := (hI.mono (B' := w.heap.size) hB0.size).put hR3 n3 (.slice a3 l3 c3)
  rw [val_trimL, zv_not] at hI2
  go_wp2
  refine bodyPost_ret (v := .agg #[.bool n3, .slice a3 l3 c3]) ?_ rfl ⟨_, _, _, _, rfl, hI2, below_put2 (N := w.heap.size + 1) hBw (by omega) n3 (.slice a3 l3 c3)⟩
  simp [results, Try.f14, go_sem, hg0, hg1]

theorem val_two (n : Nat) : val [n % 4294967296, n / 4294967296] = n := by simp only [val]; omega
theorem okw_two (n : Nat) (h : n < 18446744073709551616) : okw [n % 4294967296, n / 4294967296] := okw_cons.2 ⟨by omega, okw_cons.2 ⟨by omega, okw_nil⟩⟩
/-- Two words that the call has laid. -/
theorem ow_two (w : World) (n : Nat) (t : TypeId) (x : Bool) (a : Option Addr) (l c : Nat) (s : TypeId) :
    Ow .u32 w.heap.size ((w.alloc (.cells #[.bool x, .slice a l c] s)).alloc (.cells #[.int .u32 ((n % 4294967296 : Nat) : Int), .int .u32 ((n / 4294967296 : Nat) : Int)] t)) (.slice (some ⟨w.heap.size + 1, 0, none⟩) 2 2) [n % 4294967296, n / 4294967296] := by
  have hr : Row .u32 t ((w.alloc (.cells #[.bool x, .slice a l c] s)).alloc (.cells #[.int .u32 ((n % 4294967296 : Nat) : Int), .int .u32 ((n / 4294967296 : Nat) : Int)] t)) (w.heap.size + 1) [n % 4294967296, n / 4294967296] := by
    have := World.alloc_heap_new (w.alloc (.cells #[.bool x, .slice a l c] s)) (.cells #[.int .u32 ((n % 4294967296 : Nat) : Int), .int .u32 ((n / 4294967296 : Nat) : Int)] t)
    rw [World.size_alloc] at this
    exact this
  exact ⟨_, 2, rfl, by simp, fun _ => ⟨_, 0, rfl, by omega, hr.seg, hr.free _ _⟩⟩

set_option maxRecDepth 100000 in
set_option maxHeartbeats 1000000 in
theorem of_any (v : Int) (w : World) (h1 : -9223372036854775808 ≤ v) (h2 : v ≤ 9223372036854775807) :
    Calls Try.prog 12 #[.int .i64 v] w fun e w' => ∃ neg a n cap, e = .returned (.agg #[.bool neg, .slice a n cap]) ∧ IntIs w.heap.size w' (.agg #[.bool neg, .slice a n cap]) v ∧ Below w.heap.size w w' := by
  by_cases hv : v < 0
  · obtain ⟨n, rfl⟩ : ∃ n : Nat, v = -(n : Int) := ⟨(-v).toNat, by omega⟩
    have hn : n < 18446744073709551616 := by omega
    have hw : IntKind.u64.wrap (-IntKind.u64.wrap (-(n : Int))) = (n : Int) := by rw [IntKind.wrap_u64, IntKind.wrap_u64]; omega
    have e1 : (n : Int) % 4294967296 = ((n % 4294967296 : Nat) : Int) := by omega
    have e2 : (n : Int) / 4294967296 % 4294967296 = ((n / 4294967296 : Nat) : Int) := by omega
    have HW : Hid (IntKind.u64.wrap (-IntKind.u64.wrap (-(n : Int))) = (n : Int)) := hw
    clear hw
    have E1 : Hid ((n : Int) % 4294967296 = ((n % 4294967296 : Nat) : Int)) := e1
    have E2 : Hid ((n : Int) / 4294967296 % 4294967296 = ((n / 4294967296 : Nat) : Int)) := e2
    clear e1 e2
    go_enter Try.func12, Try.ntmps12
    go_wp2_with fail
    rw [HW.out, E1.out, E2.out]
    refine (formed_any true (some ⟨w.heap.size + 1, 0, none⟩) 2 2 w.heap.size [n % 4294967296, n / 4294967296] _ (ow_two w n _ false none 0 0 24) (okw_two n hn) (by simp)).mono ?_
    rintro e w1 ⟨v1, rfl, hI, hb1⟩
    obtain ⟨n3, a3, l3, c3, rfl⟩ := hI.form
    have hR1 := ((Box2.new w false none 0 0 24).below ((Below.refl _ _).alloc (Nat.le_refl _) _)).below hb1
    have s0 := hR1.c0
    have s1 := hR1.c1
    have sf0 := hR1.f0
    have sf1 := hR1.f1
    have hfin := hR1.put n3 a3 l3 c3
    have hg0 := hfin.c0
    have hg1 := hfin.c1
    unfold put2 at hg0 hg1
    have hB0 : Below w.heap.size w ((w.alloc (.cells #[.bool false, .slice none 0 0] 24)).alloc (.cells #[.int .u32 ((n % 4294967296 : Nat) : Int), .int .u32 ((n / 4294967296 : Nat) : Int)] 52)) := ((Below.refl w.heap.size w).alloc (Nat.le_refl _) _).alloc (by simp) _
    have hBw : Below w.heap.size w w1 := hB0.trans (hb1.mono hB0.size)
    have hI2 := hI.put hR1 n3 (.slice a3 l3 c3)
    rw [val_two] at hI2
    have hI3 : IntIs w.heap.size (put2 w1 w.heap.size n3 (.slice a3 l3 c3)) (.agg #[.bool n3, .slice a3 l3 c3]) (-(n : Int)) := by simpa [zv] using hI2
    clear hI hI2
    go_wp2
    refine bodyPost_ret (v := .agg #[.bool n3, .slice a3 l3 c3]) ?_ rfl ⟨_, _, _, _, rfl, hI3, below_put2 (N := w.heap.size) hBw (Nat.le_refl _) n3 (.slice a3 l3 c3)⟩
    simp [results, Try.f12, go_sem, hg0, hg1]
  · obtain ⟨n, rfl⟩ : ∃ n : Nat, v = (n : Int) := ⟨v.toNat, by omega⟩
    have hn : n < 18446744073709551616 := by omega
    have E1 : Hid ((n : Int) % 4294967296 = ((n % 4294967296 : Nat) : Int)) := by show _ = _; omega
    have E2 : Hid ((n : Int) / 4294967296 = ((n / 4294967296 : Nat) : Int)) := by show _ = _; omega
    go_enter Try.func12, Try.ntmps12
    go_wp2_with fail
    rw [E1.out, E2.out]
    refine (formed_any false (some ⟨w.heap.size + 1, 0, none⟩) 2 2 w.heap.size [n % 4294967296, n / 4294967296] _ (ow_two w n _ false none 0 0 24) (okw_two n hn) (by simp)).mono ?_
    rintro e w1 ⟨v1, rfl, hI, hb1⟩
    obtain ⟨n3, a3, l3, c3, rfl⟩ := hI.form
    have hR1 := ((Box2.new w false none 0 0 24).below ((Below.refl _ _).alloc (Nat.le_refl _) _)).below hb1
    have s0 := hR1.c0
    have s1 := hR1.c1
    have sf0 := hR1.f0
    have sf1 := hR1.f1
    have hfin := hR1.put n3 a3 l3 c3
    have hg0 := hfin.c0
    have hg1 := hfin.c1
    unfold put2 at hg0 hg1
    have hB0 : Below w.heap.size w ((w.alloc (.cells #[.bool false, .slice none 0 0] 24)).alloc (.cells #[.int .u32 ((n % 4294967296 : Nat) : Int), .int .u32 ((n / 4294967296 : Nat) : Int)] 52)) := ((Below.refl w.heap.size w).alloc (Nat.le_refl _) _).alloc (by simp) _
    have hBw : Below w.heap.size w w1 := hB0.trans (hb1.mono hB0.size)
    have hI2 := hI.put hR1 n3 (.slice a3 l3 c3)
    rw [val_two] at hI2
    have hI3 : IntIs w.heap.size (put2 w1 w.heap.size n3 (.slice a3 l3 c3)) (.agg #[.bool n3, .slice a3 l3 c3]) (n : Int) := by simpa [zv] using hI2
    clear hI hI2
    go_wp2
    refine bodyPost_ret (v := .agg #[.bool n3, .slice a3 l3 c3]) ?_ rfl ⟨_, _, _, _, rfl, hI3, below_put2 (N := w.heap.size) hBw (Nat.le_refl _) n3 (.slice a3 l3 c3)⟩
    simp [results, Try.f12, go_sem, hg0, hg1]
end Go.Proofs.Yteplmnnpmekngab
