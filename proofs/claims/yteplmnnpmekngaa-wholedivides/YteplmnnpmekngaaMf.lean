/-
  What Rest of package whole does.
  What Rest of the reference does.
  WholeRests, walked.
-/
import Derived.Test.YteplmnnpmekngaaDiv64
import Derived.Test.YteplmnnpmekngaaAddInt
import Derived.Test.YteplmnnpmekngaaDivBy
import Derived.Test.YteplmnnpmekngaaAwake
namespace Go.Proofs.Yteplmnnpmekngaa
open Go.RowKit Go.Shelf
attribute [local go_sem] Oper.semAt_some

theorem below_alloc' (w : World) (o : Obj) : Below w.heap.size w (w.alloc o) := (Below.refl _ _).alloc (Nat.le_refl _) _
theorem boxed_below {W W' : World} {N : Nat} {t : TypeId} {v : Value} (h : Boxed W N t v) (hb : Below W.heap.size W W') : Boxed W' N t v := (hb.block N h.lt).trans h
theorem keeps_below {B : Nat} {W W' : World} (hb : Below W.heap.size W W') : KeepsFrom B W W' := ⟨hb.size, fun k _ _ hk _ => (hb.block k (Array.getElem?_eq_some_iff.1 hk).1).trans hk⟩

theorem mod_step (V x m : Nat) : (x + 4294967296 * V) % m = (V % m * 4294967296 + x) % m := by
  rw [Nat.add_mod (V % m * 4294967296), Nat.mul_mod, Nat.mod_mod, ← Nat.mul_mod, ← Nat.add_mod, Nat.add_comm, Nat.mul_comm]
theorem neg_mod_zero {v m : Nat} (h : v % m = 0) : (-(v : Int)) % (m : Int) = 0 := by
  obtain ⟨q, rfl⟩ := Nat.dvd_of_mod_eq_zero h
  rw [show (-((m * q : Nat) : Int)) = (m : Int) * (-(q : Int)) by push_cast; rw [Int.mul_neg]]
  exact Int.mul_emod_right _ _
theorem neg_mod_pos {v m r : Nat} (h : v % m = r) (h0 : r ≠ 0) (hr : r < m) : (-(v : Int)) % (m : Int) = (m : Int) - r := by
  have e := Nat.div_add_mod v m
  rw [h] at e
  generalize v / m = q at e
  have e2 : (-(v : Int)) = ((m : Int) - r) + (m : Int) * (-((q : Int) + 1)) := by
    rw [← e, Int.mul_neg, Int.mul_add]
    push_cast
    omega
  rw [e2, Int.add_mul_emod_self_left, Int.emod_eq_of_lt (by omega) (by omega)]

theorem rest_arg (neg : Bool) (a : Option Addr) (n cap : Nat) (m : Int) (w : World) (hm : m < 1 ∨ 4611686018427387904 < m) :
    Calls Try.prog 27 #[.agg #[.bool neg, .slice a n cap], .int .i64 m] w fun e w' => e = .returned (.tuple #[.int .i64 0, .int .i64 1]) ∧ Below w.heap.size w w' := by
  go_enter Try.func27, Try.ntmps27
  rcases Int.lt_or_le m 1 with h | h
  · have t1 : m < 1 := h
    go_wp2
    refine bodyPost_ret (v := .tuple #[.int .i64 0, .int .i64 1]) ?_ rfl ⟨rfl, below_alloc' _ _⟩
    simp [results, Try.f27, go_sem]
  · have t1 : ¬ m < 1 := by omega
    have t2 : 4611686018427387904 < m := by omega
    clear hm h
    go_wp2
    refine bodyPost_ret (v := .tuple #[.int .i64 0, .int .i64 1]) ?_ rfl ⟨rfl, below_alloc' _ _⟩
    simp [results, Try.f27, go_sem]

set_option maxRecDepth 100000 in
set_option maxHeartbeats 2000000 in
theorem rest_some (neg : Bool) (a : Option Addr) (n cap : Nat) (xs : List Nat) (m : Nat) (w : World) (h : Sl .u32 w (.slice a n cap) xs) (ox : okw xs) (hbig : xs.length ≤ 1000000) (m1 : 1 ≤ m) (m2 : m ≤ 4611686018427387904) :
    Calls Try.prog 27 #[.agg #[.bool neg, .slice a n cap], .int .i64 (m : Int)] w fun e w' => e = .returned (.tuple #[.int .i64 (zv neg (val xs) % (m : Int)), .int .i64 0]) ∧ Below w.heap.size w w' := by
  have t1 : ¬ (m : Int) < 1 := by omega
  have t2 : ¬ (4611686018427387904 : Int) < m := by omega
  have hb : Below w.heap.size w (w.alloc (.cells #[.bool neg, .slice a n cap] 24)) := below_alloc' _ _
  have ht := trim_any a n cap xs _ (h.below hb) hbig
  have hT := h.trimmed
  have hv := val_trimL xs
  have hl := trimL_le xs
  have ho := okw_trimL ox
  rw [← hv]
  have len := hT.len
  obtain ⟨ys, hys⟩ : ∃ ys, trimL xs = ys := ⟨_, rfl⟩
  rw [hys] at hT hl ho len ⊢
  rw [len] at hT ht
  clear hv hys len
  obtain ⟨b, off, ha, sx⟩ : ∃ b off, (0 < ys.length → a = some ⟨b, off, none⟩ ∧ b < w.heap.size) ∧ Seg .u32 w b off ys := by
    obtain ⟨ax', cx', ex, _, hx⟩ := hT
    injection ex with ex1 ex2 ex3
    subst ex1; subst ex3
    by_cases h0 : ys = []
    · subst h0
      exact ⟨0, 0, fun h => absurd h (by simp), fun j h => absurd h (by simp)⟩
    · obtain ⟨b, off, e1, sx⟩ := hx h0
      exact ⟨b, off, fun _ => ⟨e1, sx.lt h0⟩, sx⟩
  clear hT
  refine (callsIn_wide (n := 3)).1 ?_
  refine callsIn_of_wp_marks Try.func27 rfl trivial ?_ rfl
  simp only [Try.ntmps27, List.size_toArray, List.length_cons, List.length_nil, Nat.reduceAdd, Nat.reduceSub, Array.replicate_succ, Array.replicate_zero, List.push_toArray, List.append_toArray, List.nil_append, List.cons_append]
  gi_wp2_with (first | (refine ⟨trivial, ?_⟩; gi_at_call 45; refine (callsIn_wide.2 ht).mono ?_; rintro e w' ⟨rfl, rfl⟩) | (refine ⟨trivial, ?_⟩; gi_at_call 61; refine (callsIn_wide.2 (back_any _ _ _ _)).mono ?_; rintro e w' ⟨rfl, rfl⟩))
  have b2 := Boxed.new ((w.alloc (.cells #[.bool neg, .slice a n cap] 24)).alloc (.cells #[.int .u64 (m : Int)] 69)) 69 (.int .u64 ((0 : Nat) : Int))
  have b3 := Boxed.new (((w.alloc (.cells #[.bool neg, .slice a n cap] 24)).alloc (.cells #[.int .u64 (m : Int)] 69)).alloc (.cells #[.int .u64 ((0 : Nat) : Int)] 69)) 22 (.slice a ys.length cap)
  have b1 := Boxed.new (w.alloc (.cells #[.bool neg, .slice a n cap] 24)) 69 (.int .u64 (m : Int))
  have c0 := (Box2.new w neg a n cap 24).below (below_alloc' _ (.cells #[.int .u64 (m : Int)] 69))
  simp only [World.size_alloc] at b1 b2 b3
  have hw1 : Below w.heap.size w ((w.alloc (.cells #[.bool neg, .slice a n cap] 24)).alloc (.cells #[.int .u64 (m : Int)] 69)) := ((Below.refl _ w).alloc (Nat.le_refl _) _).alloc (by simp) _
  have hs1 : ((w.alloc (.cells #[.bool neg, .slice a n cap] 24)).alloc (.cells #[.int .u64 (m : Int)] 69)).heap.size = w.heap.size + 1 + 1 := by simp
  obtain ⟨w1, hW1⟩ : ∃ w1, (w.alloc (.cells #[.bool neg, .slice a n cap] 24)).alloc (.cells #[.int .u64 (m : Int)] 69) = w1 := ⟨_, rfl⟩
  rw [hW1] at b1 b2 b3 c0 hw1 hs1 ⊢
  clear hW1 ht hb
  have hB0 : Below w1.heap.size w1 ((w1.alloc (.cells #[.int .u64 ((0 : Nat) : Int)] 69)).alloc (.cells #[.slice a ys.length cap] 22)) := ((Below.refl _ w1).alloc (Nat.le_refl _) _).alloc (by simp) _
  refine back_loop (S := Nat × Nat) (w.heap.size + 1 + 1 + 1) b off ys.length cap a (by omega) rfl rfl (by omega) (fun s => s.1)
    (fun s W => (s.1 ≤ ys.length ∧ s.2 < m ∧ val (ys.drop s.1) % m = s.2) ∧ Boxed W (w.heap.size + 1 + 1) 69 (.int .u64 (s.2 : Int)) ∧ Boxed W (w.heap.size + 1 + 1 + 1) 22 (.slice a ys.length cap) ∧ Below w1.heap.size w1 W)
    (fun _ _ => False)
    (OwnFrom.and (ownFrom_pure _ _) (OwnFrom.and (OwnFrom.box _ _ _ (fun s : Nat × Nat => .int .u64 (s.2 : Int))) (OwnFrom.and (OwnFrom.box _ _ _ _) (ownFrom_below (Nat.le_refl _) (by simp; omega)))))
    (fun c => ownFrom_pure _ (fun _ => False))
    ?read (ys.length, 0) rfl ⟨⟨Nat.le_refl _, by simp; omega, by simp [val]⟩, b2.alloc _, b3, hB0⟩
    ?act ?assign ?body ?done ?stop
  case act =>
    exact (fun i v => { tmps := #[Value.agg #[Value.bool neg, Value.slice a n cap], Value.int IntKind.i64 ↑m,
          Value.pointer (some { block := w.heap.size, off := 0 }), undef, Value.int IntKind.i64 0,
          Value.int IntKind.i64 0, Value.slice a ys.length cap,
          Value.pointer (some { block := w.heap.size + 1, off := 0 }),
          Value.pointer (some { block := w.heap.size + 1 + 1, off := 0 }), undef, Value.int .u32 (v : Int), Value.int IntKind.i64 ↑m,
          Value.bool false, Value.bool false, Value.int IntKind.i64 ↑m, Value.bool false, Value.bool false,
          Value.pointer (some { block := w.heap.size, off := 1 }), Value.slice a n cap, Value.slice a ys.length cap,
          Value.int IntKind.i64 ↑m, Value.int IntKind.u64 ↑m, Value.slice a ys.length cap,
          Value.func (Fn.func 76) #[] #[Value.pointer (some { block := w.heap.size + 1 + 1 + 1, off := 0 })], Value.int .i64 (i : Int), Value.int .u32 (v : Int),
          undef, undef, undef, undef, undef, undef, undef, undef, undef, undef, undef, undef, undef, undef, undef, undef,
          undef, undef, undef, undef, undef, undef, undef], defers := [] })
  case read =>
    rintro ⟨k, r⟩ W ⟨⟨hk, _⟩, _, bx, hb⟩
    refine ⟨hk, bx.cell, fun h => ⟨(ha (Nat.lt_of_lt_of_le h hk)).1, ys[k - 1]?.getD 0, ?_⟩⟩
    have hlt := (ha (Nat.lt_of_lt_of_le h hk)).2
    simp only at h hk
    exact ((sx.below hw1 hlt).below hb (by omega)) (k - 1) (by omega)
  case assign =>
    intro l i v W K hK
    gi_wp2
    exact hK
  case body =>
    rintro l ⟨k, r⟩ v W ⟨⟨hk, hr, hval⟩, h2, h3, hb⟩ hpos e1 hv
    simp only at hk hr hval h2 hpos hv
    cases k with
    | zero => exact absurd hpos (by simp)
    | succ k =>
      have hlt := (ha (by omega)).2
      simp only [Nat.add_sub_cancel] at hv ⊢
      have hv0 : W.cell? ⟨b, off + k, none⟩ = some (.int .u32 ((ys[k]?.getD 0 : Nat) : Int)) := ((sx.below hw1 hlt).below hb (by omega)) k (by omega)
      obtain rfl : ys[k]?.getD 0 = v := by
        rw [hv0] at hv
        injection hv with hv
        injection hv with _ hv
        omega
      have hx1 := okw_get ho k
      have HX : Hid (val (ys.drop k) = ys[k]?.getD 0 + 4294967296 * val (ys.drop (k + 1))) := by
        rw [List.drop_eq_getElem_cons (show k < ys.length by omega), List.getElem?_eq_getElem (show k < ys.length by omega)]; rfl
      obtain ⟨x, hx'⟩ : ∃ x, ys[k]?.getD 0 = x := ⟨_, rfl⟩
      rw [hx'] at hx1 HX ⊢
      have HV : Hid (val (ys.drop (k + 1)) % m = r) := hval
      have hb1 := boxed_below b1 hb
      have k1 := hb1.cell
      have k2 := h2.cell
      have f2 := h2.frozen
      obtain ⟨H, hH⟩ : ∃ k, r / 4294967296 = k := ⟨_, rfl⟩
      obtain ⟨L, hL⟩ : ∃ k, r * 4294967296 % 18446744073709551616 = k := ⟨_, rfl⟩
      have e5 : (r : Int) / 4294967296 = (H : Int) := by omega
      have e6 : IntKind.u64.wrap ((r : Int) * 4294967296) = (L : Int) := by rw [IntKind.wrap_u64]; omega
      have e7 := or_shift L x 32 (by omega) (by omega) hx1 (by omega)
      obtain ⟨Z, hZ⟩ : ∃ k, L + x = k := ⟨_, rfl⟩
      rw [hZ] at e7
      have hd := div64_any H Z m (by omega) (by omega) (by omega) W
      have eN : H * 18446744073709551616 + Z = r * 4294967296 + x := by omega
      rw [eN] at hd
      clear hv hv0 hx' hval hH hL hZ eN hpos
      gi_wp2_with (refine ⟨trivial, ?_⟩; gi_at_call 62; refine (CallsIn.inRound l (callsIn_wide.2 hd)).mono ?_; rintro e w' ⟨⟨q, rfl⟩, hb5⟩; have k2' := (boxed_below h2 hb5).cell; have f2' := (boxed_below h2 hb5).frozen; have k1' := (boxed_below hb1 hb5).cell)
      have er : ((r : Int) * 4294967296 + x) % m = (((r * 4294967296 + x) % m : Nat) : Int) := by rw [Int.natCast_emod, Int.natCast_add, Int.natCast_mul]; rfl
      rw [er]
      refine ⟨(keeps_below hb5).trans ((KeepsOthers.setCell _ _ _).from _), (k, (r * 4294967296 + x) % m), rfl, ⟨by simp only; omega, Nat.mod_lt _ (by omega), ?_⟩, (boxed_below h2 hb5).set _, (boxed_below h3 hb5).other (by omega) _, ?_⟩
      · simp only
        rw [HX.out, ← HV.out]
        exact mod_step _ _ _
      · exact (hb.trans (hb5.mono hb.size)).setCell (p := ⟨w.heap.size + 1 + 1, 0, none⟩) (by simp only; omega) _
  case done =>
    rintro D ⟨k, r⟩ W hD hk0 ⟨⟨_, hr, hval⟩, h2, h3, hb⟩ hK
    simp only at hk0 hr hval h2
    subst hk0
    have c1 := c0.below hb
    have k0 := c1.c0
    have k1 := (boxed_below b1 hb).cell
    have k2 := h2.cell
    have f2 := h2.frozen
    simp only [List.drop_zero] at hval
    have HV : Hid (val ys % m = r) := hval
    have hD' : w1.heap.size ≤ D := by simp at hD; omega
    have hbe : Below w.heap.size w W := hw1.trans (hb.mono (by omega))
    clear hval hD c0 b1 b2 b3 ha sx hB0
    cases neg with
    | false =>
      gi_wp2
      have HW : Hid ((val ys : Int) % (m : Int) = (r : Int)) := (by show _ = _; rw [← HV.out]; push_cast; rfl)
      clear HV hr k2 f2 h2 k1 k0 t1 t2
      generalize (r : Int) = ρ at HW ⊢
      refine ⟨by simp, .inl ⟨_, _, rfl, run_takeDeferred hK, ?_⟩⟩
      refine ⟨.tuple #[.int .i64 ρ, .int .i64 0], by simp [results, Try.f27, go_sem], ?_, hbe.trans (belowK_b (w := w) (Nat.le_refl _) _ D _ _ (by omega) hK rfl rfl)⟩
      rw [show zv false (val ys) = (val ys : Int) from rfl, HW.out]
    | true =>
      by_cases h0 : r = 0
      · subst h0
        gi_wp2
        refine ⟨by simp, .inl ⟨_, _, rfl, run_takeDeferred hK, ?_⟩⟩
        refine ⟨.tuple #[.int .i64 0, .int .i64 0], by simp [results, Try.f27, go_sem], ?_, hbe.trans (belowK_b (w := w) (Nat.le_refl _) _ D _ _ (by omega) hK rfl rfl)⟩
        rw [show zv true (val ys) = -(val ys : Int) from rfl, neg_mod_zero HV.out]
      · have t3 : (0 : Int) < r := by omega
        have t4 : (r : Int) ≤ m := by omega
        gi_wp2
        have hK' := (KeepsOthers.setCell W ⟨w.heap.size + 1 + 1, 0, none⟩ (.int .u64 ((m : Int) - r))).same D _ hK rfl
        refine ⟨by simp, .inl ⟨_, _, rfl, run_takeDeferred hK', ?_⟩⟩
        refine ⟨.tuple #[.int .i64 ((m : Int) - r), .int .i64 0], by simp [results, Try.f27, go_sem], ?_, (hbe.setCell (p := ⟨w.heap.size + 1 + 1, 0, none⟩) (by simp; omega) _).trans (belowK_b (w := w) (Nat.le_refl _) _ D _ _ (by omega) hK' rfl rfl)⟩
        rw [show zv true (val ys) = -(val ys : Int) from rfl, neg_mod_pos HV.out h0 hr]
  case stop =>
    rintro D c W _ h _
    exact h.elim
end Go.Proofs.Yteplmnnpmekngaa
namespace Go.Proofs.Yteplmnnpmekngaa
open Go.RowKit Go.Shelf

theorem pw_two (k : Nat) : pw k = 2 ^ (32 * k) := by
  induction k with
  | zero => rfl
  | succ k ih => rw [show 32 * (k + 1) = 32 + 32 * k by omega, Nat.pow_add, ← ih, show k + 1 = 1 + k by omega, pw_add]; rfl
theorem val_drop_get (xs : List Nat) (p : Nat) (h : p < xs.length) : val (xs.drop p) = xs[p]?.getD 0 + 4294967296 * val (xs.drop (p + 1)) := by
  rw [List.drop_eq_getElem_cons h, List.getElem?_eq_getElem h]; rfl
/-- A number's bit is its word's. -/
theorem val_bit {xs : List Nat} (ox : okw xs) (p s : Nat) (h : p < xs.length) (hs : s < 32) : val xs / 2 ^ (32 * p + s) % 2 = xs[p]?.getD 0 / 2 ^ s % 2 := by
  have h1 := val_split xs p (by omega)
  have h2 := val_lt (okw_take ox p)
  rw [List.length_take, Nat.min_eq_left (by omega)] at h2
  have e : val xs / 2 ^ (32 * p + s) = val (xs.drop p) / 2 ^ s := by
    rw [Nat.pow_add, ← Nat.div_div_eq_div_mul, ← pw_two, h1, Nat.add_mul_div_left _ _ (pw_pos p), Nat.div_eq_of_lt h2, Nat.zero_add]
  rw [e, val_drop_get xs p h]
  have e2 : (4294967296 : Nat) = 2 ^ s * 2 ^ (32 - s) := by rw [← Nat.pow_add, show s + (32 - s) = 32 by omega]
  rw [e2, Nat.mul_assoc, Nat.add_mul_div_left _ _ (Nat.two_pow_pos s)]
  have e3 : (2 : Nat) ^ (32 - s) = 2 * 2 ^ (31 - s) := by rw [show 32 - s = 1 + (31 - s) by omega, Nat.pow_add]
  rw [e3, Nat.mul_assoc, Nat.add_mul_mod_self_left]
theorem half_step (V i : Nat) : V / 2 ^ i = 2 * (V / 2 ^ (i + 1)) + V / 2 ^ i % 2 := by
  rw [Nat.pow_succ, ← Nat.div_div_eq_div_mul]; omega
theorem rest_step {V i m r b : Nat} (hr : r < m) (e : V / 2 ^ (i + 1) % m = r) (hb : V / 2 ^ i % 2 = b) : V / 2 ^ i % m = if m ≤ 2 * r + b then 2 * r + b - m else 2 * r + b := by
  have h := half_step V i
  rw [hb] at h
  have hb2 : b < 2 := by rw [← hb]; exact Nat.mod_lt _ (by decide)
  have e2 : (2 * (V / 2 ^ (i + 1)) + b) % m = (2 * r + b) % m := by
    rw [← e, Nat.add_mod (2 * (V / 2 ^ (i + 1) % m)), Nat.mul_mod 2 (V / 2 ^ (i + 1) % m), Nat.mod_mod, ← Nat.mul_mod, ← Nat.add_mod]
  rw [h, e2]
  split
  · rw [Nat.mod_eq_sub_mod (by omega), Nat.mod_eq_of_lt (by omega)]
  · exact Nat.mod_eq_of_lt (by omega)

theorem and_one_u32 (x : Int) (h0 : 0 ≤ x) (h1 : x < 4294967296) : bits BinOp.and IntKind.u32 x 1 = x % 2 := by
  have h := bits_mask .u32 32 (by decide) (fun n h0 h1 => by rw [IntKind.wrap_u32]; omega) 1 (by decide) x h0 (by omega)
  simpa using h

theorem refRest_arg (neg : Bool) (a : Option Addr) (n cap : Nat) (m : Int) (w : World) (hm : m < 1 ∨ 4611686018427387904 < m) :
    Calls Try.prog 28 #[.agg #[.bool neg, .slice a n cap], .int .i64 m] w fun e w' => e = .returned (.tuple #[.int .i64 0, .int .i64 1]) ∧ Below w.heap.size w w' := by
  go_enter Try.func28, Try.ntmps28
  rcases Int.lt_or_le m 1 with h | h
  · have t1 : m < 1 := h
    go_wp2
    refine bodyPost_ret (v := .tuple #[.int .i64 0, .int .i64 1]) ?_ rfl ⟨rfl, below_alloc' _ _⟩
    simp [results, Try.f28, go_sem]
  · have t1 : ¬ m < 1 := by omega
    have t2 : 4611686018427387904 < m := by omega
    clear hm h
    go_wp2
    refine bodyPost_ret (v := .tuple #[.int .i64 0, .int .i64 1]) ?_ rfl ⟨rfl, below_alloc' _ _⟩
    simp [results, Try.f28, go_sem]

set_option maxRecDepth 100000 in
set_option maxHeartbeats 2000000 in
theorem refRest_some (neg : Bool) (a : Option Addr) (n cap : Nat) (xs : List Nat) (m : Nat) (w : World) (h : Sl .u32 w (.slice a n cap) xs) (ox : okw xs) (hbig : xs.length ≤ 1000000) (m1 : 1 ≤ m) (m2 : m ≤ 4611686018427387904) :
    Calls Try.prog 28 #[.agg #[.bool neg, .slice a n cap], .int .i64 (m : Int)] w fun e w' => e = .returned (.tuple #[.int .i64 (zv neg (val xs) % (m : Int)), .int .i64 0]) ∧ Below w.heap.size w w' := by
  have t1 : ¬ (m : Int) < 1 := by omega
  have t2 : ¬ (4611686018427387904 : Int) < m := by omega
  have hb : Below w.heap.size w (w.alloc (.cells #[.bool neg, .slice a n cap] 24)) := below_alloc' _ _
  have hn := h.len
  subst hn
  obtain ⟨b, off, ha, sx⟩ : ∃ b off, (0 < xs.length → a = some ⟨b, off, none⟩ ∧ b < w.heap.size) ∧ Seg .u32 w b off xs := by
    obtain ⟨ax', cx', ex, _, hx⟩ := h
    injection ex with ex1 ex2 ex3
    subst ex1; subst ex3
    by_cases h0 : xs = []
    · subst h0
      exact ⟨0, 0, fun h => absurd h (by simp), fun j h => absurd h (by simp)⟩
    · obtain ⟨b, off, e1, sx⟩ := hx h0
      exact ⟨b, off, fun _ => ⟨e1, sx.lt h0⟩, sx⟩
  have c0 := Box2.new w neg a xs.length cap 24
  have k0 := c0.c0
  have k1 := c0.c1
  go_enter Try.func28, Try.ntmps28
  go_wp2_with fail
  obtain ⟨w1, hW1⟩ : ∃ w1, w.alloc (.cells #[.bool neg, .slice a xs.length cap] 24) = w1 := ⟨_, rfl⟩
  rw [hW1] at hb c0 k0 k1 ⊢
  clear hW1
  go_loop [6, 7] (fun r i => ∃ j r' : Nat, i = .int .i64 ((j : Int) - 1) ∧ r = .int .u64 (r' : Int) ∧ j ≤ 32 * xs.length ∧ r' < m ∧ val xs / 2 ^ j % m = r') (fun _ i => (intOf i + 1).toNat)
  case atStart =>
    refine ⟨32 * xs.length, 0, ?_, rfl, Nat.le_refl _, by omega, ?_⟩
    · simp
    · rw [← pw_two, Nat.div_eq_of_lt (val_lt ox), Nat.zero_mod]
  case round =>
    obtain ⟨j, r, rfl, rfl, hj, hr, hv⟩ := hrel
    cases j with
    | zero =>
      rw [show ((0 : Nat) : Int) - 1 = -1 from rfl]
      simp only [Nat.pow_zero, Nat.div_one] at hv
      have HV : Hid (val xs % m = r) := hv
      clear hv ha sx h
      cases neg with
      | false =>
        go_wp2
        refine bodyPost_ret (v := .tuple #[.int .i64 (r : Int), .int .i64 0]) ?_ rfl ⟨?_, hb⟩
        · simp [results, Try.f28, go_sem]
        · rw [show zv false (val xs) = (val xs : Int) from rfl, ← HV.out, Int.natCast_emod]
      | true =>
        by_cases h0 : r = 0
        · subst h0
          go_wp2
          refine bodyPost_ret (v := .tuple #[.int .i64 0, .int .i64 0]) ?_ rfl ⟨?_, hb⟩
          · simp [results, Try.f28, go_sem]
          · rw [show zv true (val xs) = -(val xs : Int) from rfl, neg_mod_zero HV.out]
        · have t3 : (0 : Int) < r := by omega
          have t4 : (r : Int) ≤ m := by omega
          go_wp2
          refine bodyPost_ret (v := .tuple #[.int .i64 ((m : Int) - r), .int .i64 0]) ?_ rfl ⟨?_, hb⟩
          · simp [results, Try.f28, go_sem]
          · rw [show zv true (val xs) = -(val xs : Int) from rfl, neg_mod_pos HV.out h0 hr]
    | succ i =>
      obtain ⟨p, s, hi, hs⟩ : ∃ p s, i = 32 * p + s ∧ s < 32 := ⟨i / 32, i % 32, by omega, by omega⟩
      have hp : p < xs.length := by omega
      obtain ⟨e1, hlt⟩ := ha (by omega)
      have hc := (sx.below hb hlt) p hp
      have i1 : ((i + 1 : Nat) : Int) - 1 = (i : Int) := by omega
      rw [i1]
      have e2 : (i : Int) / 32 = (p : Int) := by omega
      have e3 : (i : Int) % 32 = (s : Int) := by omega
      have e4 : i / 32 = p := by omega
      have hx1 := okw_get ox p
      have HV : Hid (val xs / 2 ^ (i + 1) % m = r) := hv
      have HB := val_bit ox p s hp hs
      rw [← hi] at HB
      obtain ⟨x, hx⟩ : ∃ x, xs[p]?.getD 0 = x := ⟨_, rfl⟩
      rw [hx] at hc HB hx1
      have HB' : Hid (val xs / 2 ^ i % 2 = x / 2 ^ s % 2) := HB
      clear hv hi HB hx i1
      obtain ⟨y, hy⟩ : ∃ k, x / 2 ^ s = k := ⟨_, rfl⟩
      rw [hy] at HB'
      have hy1 : y < 4294967296 := by rw [← hy]; exact Nat.lt_of_le_of_lt (Nat.div_le_self _ _) hx1
      have e5 : (x : Int) / 2 ^ s = (y : Int) := by rw [← hy]; push_cast; rfl
      obtain ⟨c, hc2⟩ : ∃ k, y % 2 = k := ⟨_, rfl⟩
      have e6 : bits BinOp.and IntKind.u32 (y : Int) 1 = (c : Int) := by rw [and_one_u32 _ (by omega) (by omega)]; omega
      have hc3 : c < 2 := by omega
      rw [hc2] at HB'
      have st := rest_step hr HV.out HB'.out
      clear hy hc2
      by_cases hge : m ≤ 2 * r + c
      · rw [if_pos hge] at st
        have HS : Hid (val xs / 2 ^ i % m = 2 * r + c - m) := st
        have t5 : (m : Int) ≤ 2 * (r : Int) + c := by omega
        clear st HV HB'
        go_wp2_with fail
        go_round
        case rel =>
          refine ⟨i, 2 * r + c - m, rfl, ?_, by omega, by omega, HS.out⟩
          congr 1; omega
        case measure => simp [intOf]
      · rw [if_neg hge] at st
        have HS : Hid (val xs / 2 ^ i % m = 2 * r + c) := st
        have t5 : ¬ (m : Int) ≤ 2 * (r : Int) + c := by omega
        clear st HV HB'
        go_wp2_with fail
        go_round
        case rel => exact ⟨i, 2 * r + c, rfl, by push_cast; rfl, by omega, by omega, HS.out⟩
        case measure => simp [intOf]

/-- Rest of the reference and Rest of package whole: the same answers. -/
theorem rest_both (neg : Bool) (a : Option Addr) (n cap : Nat) (xs : List Nat) (m : Int) (ox : okw xs) (hbig : xs.length ≤ 1000000) : ∃ r k : Int, ∀ w, Sl .u32 w (.slice a n cap) xs →
    (Calls Try.prog 27 #[.agg #[.bool neg, .slice a n cap], .int .i64 m] w fun e w' => e = .returned (.tuple #[.int .i64 r, .int .i64 k]) ∧ Below w.heap.size w w') ∧
    (Calls Try.prog 28 #[.agg #[.bool neg, .slice a n cap], .int .i64 m] w fun e w' => e = .returned (.tuple #[.int .i64 r, .int .i64 k]) ∧ Below w.heap.size w w') := by
  by_cases h : m < 1 ∨ 4611686018427387904 < m
  · exact ⟨0, 1, fun w _ => ⟨rest_arg neg a n cap m w h, refRest_arg neg a n cap m w h⟩⟩
  · obtain ⟨k, rfl⟩ : ∃ k : Nat, m = (k : Int) := ⟨m.toNat, by omega⟩
    exact ⟨zv neg (val xs) % (k : Int), 0, fun w hs => ⟨rest_some neg a n cap xs k w hs ox hbig (by omega) (by omega), refRest_some neg a n cap xs k w hs ox hbig (by omega) (by omega)⟩⟩
end Go.Proofs.Yteplmnnpmekngaa
namespace Go.Proofs.Yteplmnnpmekngaa
open Go.RowKit

theorem large_any (neg : Bool) (a : Option Addr) (n cap : Nat) (w : World) :
    Calls Try.prog 9 #[.agg #[.bool neg, .slice a n cap]] w fun e w' => e = .returned (.bool (decide (600 < n))) ∧ Below w.heap.size w w' := by
  go_enter Try.func9, Try.ntmps9
  go_wp2
  go_ret
  refine ⟨?_, (Below.refl _ _).alloc (Nat.le_refl _) _⟩
  simp
  omega

theorem rests_walk (neg : Bool) (a : Option Addr) (n cap : Nat) (xs : List Nat) (m : Int) (w : World) (hx : Sl .u32 w (.slice a n cap) xs) (ox : okw xs) :
    Calls Try.prog 5 #[.agg #[.bool neg, .slice a n cap], .int .i64 m] w fun e w' => e = .returned (.bool true) ∧ Below w.heap.size w w' := by
  have c0 := Box2.new w neg a n cap 24
  have hb0 : Below w.heap.size w (w.alloc (.cells #[.bool neg, .slice a n cap] 24)) := below_alloc' _ _
  have q0 := c0.c0
  have q1 := c0.c1
  go_enter Try.func5, Try.ntmps5
  go_wp2_with fail
  obtain ⟨w0, hW⟩ : ∃ w0, w.alloc (.cells #[.bool neg, .slice a n cap] 24) = w0 := ⟨_, rfl⟩
  rw [hW] at c0 hb0 q0 q1 ⊢
  clear hW
  refine (large_any neg a n cap _).mono ?_
  rintro e w1 ⟨rfl, hb1⟩
  replace c0 := c0.below hb1
  replace hb1 : Below w.heap.size w w1 := hb0.trans (hb1.mono hb0.size)
  clear hb0 q0 q1
  have q0 := c0.c0
  have q1 := c0.c1
  by_cases hl : 600 < n
  · have e1 : decide (600 < n) = true := by simpa using hl
    rw [e1]
    clear e1
    go_wp2_with fail
    refine (awake_any w1).mono ?_
    rintro e w2 ⟨rfl, hb2⟩
    go_wp2
    go_ret
    exact ⟨rfl, hb1.trans (hb2.mono hb1.size)⟩
  · have e1 : decide (600 < n) = false := by simpa using hl
    rw [e1]
    clear e1
    obtain ⟨r, k, hR⟩ := rest_both neg a n cap xs m ox (by have := hx.len; omega)
    go_wp2_with fail
    refine (hR w1 (hx.below hb1)).1.mono ?_
    rintro e w2 ⟨rfl, hb2⟩
    replace c0 := c0.below hb2
    replace hb2 : Below w.heap.size w w2 := hb1.trans (hb2.mono hb1.size)
    clear hb1 q0 q1
    have q0 := c0.c0
    have q1 := c0.c1
    go_wp2_with fail
    refine (hR w2 (hx.below hb2)).2.mono ?_
    rintro e w3 ⟨rfl, hb3⟩
    replace hb3 : Below w.heap.size w w3 := hb2.trans (hb3.mono hb2.size)
    clear hb2 q0 q1 hR
    go_wp2_with fail
    refine (awake_any w3).mono ?_
    rintro e w4 ⟨rfl, hb4⟩
    go_wp2
    go_ret
    exact ⟨rfl, hb3.trans (hb4.mono hb3.size)⟩
end Go.Proofs.Yteplmnnpmekngaa
