/-
  What Rest of package whole does.
-/
import Derived.Test.YteplmnnpmekngabDiv64
import Derived.Test.YteplmnnpmekngabAddInt
import Derived.Test.YteplmnnpmekngabDivBy
namespace Go.Proofs.Yteplmnnpmekngab
open Go.RowKit Go.Shelf
attribute [local go_sem] Oper.semAt_some

theorem below_alloc' (w : World) (o : Obj) : Below w.heap.size w (w.alloc o) := (Below.refl _ _).alloc (Nat.le_refl _) _
theorem boxed_below {W W' : World} {N : Nat} {t : TypeId} {v : Value} (h : Boxed W N t v) (hb : Below W.heap.size W W') : Boxed W' N t v := (hb.block N h.lt).trans h
theorem keeps_below {B : Nat} {W W' : World} (hb : Below W.heap.size W W') : KeepsFrom B W W' := ⟨hb.size, fun k _ _ hk _ => (hb.block k (Array.getElem?_eq_some_iff.1 hk).1).trans hk⟩

theorem mod_step (V x m : Nat) : (x + 4294967296 * V) % m = (V % m * 4294967296 + x) % m := by
  rw [Nat.add_mod (V % m * 4294967296), Nat.mul_mod, Nat.mod_mod, ← Nat.mul_mod, ← Nat.add_mod, Nat.add_comm, Nat.mul_comm]
theorem neg_mod_zero {v m : Nat} (h : v % m = 0) : (-(v : Int)) % (m : Int) = 0 := by
  obtain ⟨q, rfl⟩ := Nat.dvd_of_mod_eq_zero h
  rw [show (-((m * q : Nat) : Int)) = (m : Int) * (-(q : Int)) by push_cast; rw [Int.mul_neg]]
  exact Int.mul_emod_right _ _
theorem neg_mod_pos {v m r : Nat} (h : v % m = r) (h0 : r ≠ 0) (hr : r < m) : (-(v : Int)) % (m : Int) = (m : Int) - r := by
  have e := Nat.div_add_mod v m
  rw [h] at e
  generalize v / m = q at e
  have e2 : (-(v : Int)) = ((m : Int) - r) + (m : Int) * (-((q : Int) + 1)) := by
    rw [← e, Int.mul_neg, Int.mul_add]
    push_cast
    omega
  rw [e2, Int.add_mul_emod_self_left, Int.emod_eq_of_lt (by omega) (by omega)]

theorem rest_arg (neg : Bool) (a : Option Addr) (n cap : Nat) (m : Int) (w : World) (hm : m < 1 ∨ 4611686018427387904 < m) :
    Calls Try.prog 11 #[.agg #[.bool neg, .slice a n cap], .int .i64 m] w fun e w' => e = .returned (.tuple #[.int .i64 0, .int .i64 1]) ∧ Below w.heap.size w w' := by
  go_enter Try.func11, Try.ntmps11
  rcases Int.lt_or_le m 1 with h | h
  · have t1 : m < 1 := h
    go_wp2
    refine bodyPost_ret (v := .tuple #[.int .i64 0, .int .i64 1]) ?_ rfl ⟨rfl, below_alloc' _ _⟩
    simp [results, Try.f11, go_sem]
  · have t1 : ¬ m < 1 := by omega
    have t2 : 4611686018427387904 < m := by omega
    clear hm h
    go_wp2
    refine bodyPost_ret (v := .tuple #[.int .i64 0, .int .i64 1]) ?_ rfl ⟨rfl, below_alloc' _ _⟩
    simp [results, Try.f11, go_sem]

set_option maxRecDepth 100000 in
set_option maxHeartbeats 2000000 in
theorem rest_some (neg : Bool) (a : Option Addr) (n cap : Nat) (xs : List Nat) (m : Nat) (w : World) (h : Sl .u32 w (.slice a n cap) xs) (ox : okw xs) (hbig : xs.length ≤ 1000000) (m1 : 1 ≤ m) (m2 : m ≤ 4611686018427387904) :
    Calls Try.prog 11 #[.agg #[.bool neg, .slice a n cap], .int .i64 (m : Int)] w fun e w' => e = .returned (.tuple #[.int .i64 (zv neg (val xs) % (m : Int)), .int .i64 0]) ∧ Below w.heap.size w w' := by
  have t1 : ¬ (m : Int) < 1 := by omega
  have t2 : ¬ (4611686018427387904 : Int) < m := by omega
  have hb : Below w.heap.size w (w.alloc (.cells #[.bool neg, .slice a n cap] 24)) := below_alloc' _ _
  have ht := trim_any a n cap xs _ (h.below hb) hbig
  have hT := h.trimmed
  have hv := val_trimL xs
  have hl := trimL_le xs
  have ho := okw_trimL ox
  rw [← hv]
  have len := hT.len
  obtain ⟨ys, hys⟩ : ∃ ys, trimL xs = ys := ⟨_, rfl⟩
  rw [hys] at hT hl ho len ⊢
  rw [len] at hT ht
  clear hv hys len
  obtain ⟨b, off, ha, sx⟩ : ∃ b off, (0 < ys.length → a = some ⟨b, off, none⟩ ∧ b < w.heap.size) ∧ Seg .u32 w b off ys := by
    obtain ⟨ax', cx', ex, _, hx⟩ := hT
    injection ex with ex1 ex2 ex3
    subst ex1; subst ex3
    by_cases h0 : ys = []
    · subst h0
      exact ⟨0, 0, fun h => absurd h (by simp), fun j h => absurd h (by simp)⟩
    · obtain ⟨b, off, e1, sx⟩ := hx h0
      exact ⟨b, off, fun _ => ⟨e1, sx.lt h0⟩, sx⟩
  clear hT
  refine (callsIn_wide (n := 3)).1 ?_
  refine callsIn_of_wp_marks Try.func11 rfl trivial ?_ rfl
  simp only [Try.ntmps11, List.size_toArray, List.length_cons, List.length_nil, Nat.reduceAdd, Nat.reduceSub, Array.replicate_succ, Array.replicate_zero, List.push_toArray, List.append_toArray, List.nil_append, List.cons_append]
  gi_wp2_with (first | (refine ⟨trivial, ?_⟩; gi_at_call 20; refine (callsIn_wide.2 ht).mono ?_; rintro e w' ⟨rfl, rfl⟩) | (refine ⟨trivial, ?_⟩; gi_at_call 27; refine (callsIn_wide.2 (back_any _ _ _ _)).mono ?_; rintro e w' ⟨rfl, rfl⟩))
  have b2 := Boxed.new ((w.alloc (.cells #[.bool neg, .slice a n cap] 24)).alloc (.cells #[.int .u64 (m : Int)] 53)) 53 (.int .u64 ((0 : Nat) : Int))
  have b3 := Boxed.new (((w.alloc (.cells #[.bool neg, .slice a n cap] 24)).alloc (.cells #[.int .u64 (m : Int)] 53)).alloc (.cells #[.int .u64 ((0 : Nat) : Int)] 53)) 22 (.slice a ys.length cap)
  have b1 := Boxed.new (w.alloc (.cells #[.bool neg, .slice a n cap] 24)) 53 (.int .u64 (m : Int))
  have c0 := (Box2.new w neg a n cap 24).below (below_alloc' _ (.cells #[.int .u64 (m : Int)] 53))
  simp only [World.size_alloc] at b1 b2 b3
  have hw1 : Below w.heap.size w ((w.alloc (.cells #[.bool neg, .slice a n cap] 24)).alloc (.cells #[.int .u64 (m : Int)] 53)) := ((Below.refl _ w).alloc (Nat.le_refl _) _).alloc (by simp) _
  have hs1 : ((w.alloc (.cells #[.bool neg, .slice a n cap] 24)).alloc (.cells #[.int .u64 (m : Int)] 53)).heap.size = w.heap.size + 1 + 1 := by simp
  obtain ⟨w1, hW1⟩ : ∃ w1, (w.alloc (.cells #[.bool neg, .slice a n cap] 24)).alloc (.cells #[.int .u64 (m : Int)] 53) = w1 := ⟨_, rfl⟩
  rw [hW1] at b1 b2 b3 c0 hw1 hs1 ⊢
  clear hW1 ht hb
  have hB0 : Below w1.heap.size w1 ((w1.alloc (.cells #[.int .u64 ((0 : Nat) : Int)] 53)).alloc (.cells #[.slice a ys.length cap] 22)) := ((Below.refl _ w1).alloc (Nat.le_refl _) _).alloc (by simp) _
  refine back_loop (S := Nat × Nat) (w.heap.size + 1 + 1 + 1) b off ys.length cap a (by omega) rfl rfl (by omega) (fun s => s.1)
    (fun s W => (s.1 ≤ ys.length ∧ s.2 < m ∧ val (ys.drop s.1) % m = s.2) ∧ Boxed W (w.heap.size + 1 + 1) 53 (.int .u64 (s.2 : Int)) ∧ Boxed W (w.heap.size + 1 + 1 + 1) 22 (.slice a ys.length cap) ∧ Below w1.heap.size w1 W)
    (fun _ _ => False)
    (OwnFrom.and (ownFrom_pure _ _) (OwnFrom.and (OwnFrom.box _ _ _ (fun s : Nat × Nat => .int .u64 (s.2 : Int))) (OwnFrom.and (OwnFrom.box _ _ _ _) (ownFrom_below (Nat.le_refl _) (by simp; omega)))))
    (fun c => ownFrom_pure _ (fun _ => False))
    ?read (ys.length, 0) rfl ⟨⟨Nat.le_refl _, by simp; omega, by simp [val]⟩, b2.alloc _, b3, hB0⟩
    ?act ?assign ?body ?done ?stop
  case act =>
    exact (fun i v => { tmps := #[Value.agg #[Value.bool neg, Value.slice a n cap], Value.int IntKind.i64 ↑m,
          Value.pointer (some { block := w.heap.size, off := 0 }), undef, Value.int IntKind.i64 0,
          Value.int IntKind.i64 0, Value.slice a ys.length cap,
          Value.pointer (some { block := w.heap.size + 1, off := 0 }),
          Value.pointer (some { block := w.heap.size + 1 + 1, off := 0 }), undef, Value.int .u32 (v : Int), Value.int IntKind.i64 ↑m,
          Value.bool false, Value.bool false, Value.int IntKind.i64 ↑m, Value.bool false, Value.bool false,
          Value.pointer (some { block := w.heap.size, off := 1 }), Value.slice a n cap, Value.slice a ys.length cap,
          Value.int IntKind.i64 ↑m, Value.int IntKind.u64 ↑m, Value.slice a ys.length cap,
          Value.func (Fn.func 40) #[] #[Value.pointer (some { block := w.heap.size + 1 + 1 + 1, off := 0 })], Value.int .i64 (i : Int), Value.int .u32 (v : Int),
          undef, undef, undef, undef, undef, undef, undef, undef, undef, undef, undef, undef, undef, undef, undef, undef,
          undef, undef, undef, undef, undef, undef, undef], defers := [] })
  case read =>
    rintro ⟨k, r⟩ W ⟨⟨hk, _⟩, _, bx, hb⟩
    refine ⟨hk, bx.cell, fun h => ⟨(ha (Nat.lt_of_lt_of_le h hk)).1, ys[k - 1]?.getD 0, ?_⟩⟩
    have hlt := (ha (Nat.lt_of_lt_of_le h hk)).2
    simp only at h hk
    exact ((sx.below hw1 hlt).below hb (by omega)) (k - 1) (by omega)
  case assign =>
    intro l i v W K hK
    gi_wp2
    exact hK
  case body =>
    rintro l ⟨k, r⟩ v W ⟨⟨hk, hr, hval⟩, h2, h3, hb⟩ hpos e1 hv
    simp only at hk hr hval h2 hpos hv
    cases k with
    | zero => exact absurd hpos (by simp)
    | succ k =>
      have hlt := (ha (by omega)).2
      simp only [Nat.add_sub_cancel] at hv ⊢
      have hv0 : W.cell? ⟨b, off + k, none⟩ = some (.int .u32 ((ys[k]?.getD 0 : Nat) : Int)) := ((sx.below hw1 hlt).below hb (by omega)) k (by omega)
      obtain rfl : ys[k]?.getD 0 = v := by
        rw [hv0] at hv
        injection hv with hv
        injection hv with _ hv
        omega
      have hx1 := okw_get ho k
      have HX : Hid (val (ys.drop k) = ys[k]?.getD 0 + 4294967296 * val (ys.drop (k + 1))) := by
        rw [List.drop_eq_getElem_cons (show k < ys.length by omega), List.getElem?_eq_getElem (show k < ys.length by omega)]; rfl
      obtain ⟨x, hx'⟩ : ∃ x, ys[k]?.getD 0 = x := ⟨_, rfl⟩
      rw [hx'] at hx1 HX ⊢
      have HV : Hid (val (ys.drop (k + 1)) % m = r) := hval
      have hb1 := boxed_below b1 hb
      have k1 := hb1.cell
      have k2 := h2.cell
      have f2 := h2.frozen
      obtain ⟨H, hH⟩ : ∃ k, r / 4294967296 = k := ⟨_, rfl⟩
      obtain ⟨L, hL⟩ : ∃ k, r * 4294967296 % 18446744073709551616 = k := ⟨_, rfl⟩
      have e5 : (r : Int) / 4294967296 = (H : Int) := by omega
      have e6 : IntKind.u64.wrap ((r : Int) * 4294967296) = (L : Int) := by rw [IntKind.wrap_u64]; omega
      have e7 := or_shift L x 32 (by omega) (by omega) hx1 (by omega)
      obtain ⟨Z, hZ⟩ : ∃ k, L + x = k := ⟨_, rfl⟩
      rw [hZ] at e7
      have hd := div64_any H Z m (by omega) (by omega) (by omega) W
      have eN : H * 18446744073709551616 + Z = r * 4294967296 + x := by omega
      rw [eN] at hd
      clear hv hv0 hx' hval hH hL hZ eN hpos
      gi_wp2_with (refine ⟨trivial, ?_⟩; gi_at_call 28; refine (CallsIn.inRound l (callsIn_wide.2 hd)).mono ?_; rintro e w' ⟨⟨q, rfl⟩, hb5⟩; have k2' := (boxed_below h2 hb5).cell; have f2' := (boxed_below h2 hb5).frozen; have k1' := (boxed_below hb1 hb5).cell)
      have er : ((r : Int) * 4294967296 + x) % m = (((r * 4294967296 + x) % m : Nat) : Int) := by rw [Int.natCast_emod, Int.natCast_add, Int.natCast_mul]; rfl
      rw [er]
      refine ⟨(keeps_below hb5).trans ((KeepsOthers.setCell _ _ _).from _), (k, (r * 4294967296 + x) % m), rfl, ⟨by simp only; omega, Nat.mod_lt _ (by omega), ?_⟩, (boxed_below h2 hb5).set _, (boxed_below h3 hb5).other (by omega) _, ?_⟩
      · simp only
        rw [HX.out, ← HV.out]
        exact mod_step _ _ _
      · exact (hb.trans (hb5.mono hb.size)).setCell (p := ⟨w.heap.size + 1 + 1, 0, none⟩) (by simp only; omega) _
  case done =>
    rintro D ⟨k, r⟩ W hD hk0 ⟨⟨_, hr, hval⟩, h2, h3, hb⟩ hK
    simp only at hk0 hr hval h2
    subst hk0
    have c1 := c0.below hb
    have k0 := c1.c0
    have k1 := (boxed_below b1 hb).cell
    have k2 := h2.cell
    have f2 := h2.frozen
    simp only [List.drop_zero] at hval
    have HV : Hid (val ys % m = r) := hval
    have hD' : w1.heap.size ≤ D := by simp at hD; omega
    have hbe : Below w.heap.size w W := hw1.trans (hb.mono (by omega))
    clear hval hD c0 b1 b2 b3 ha sx hB0
    cases neg with
    | false =>
      gi_wp2
      have HW : Hid ((val ys : Int) % (m : Int) = (r : Int)) := (by show _ = _; rw [← HV.out]; push_cast; rfl)
      clear HV hr k2 f2 h2 k1 k0 t1 t2
      generalize (r : Int) = ρ at HW ⊢
      refine ⟨by simp, .inl ⟨_, _, rfl, run_takeDeferred hK, ?_⟩⟩
      refine ⟨.tuple #[.int .i64 ρ, .int .i64 0], by simp [results, Try.f11, go_sem], ?_, hbe.trans (belowK_b (w := w) (Nat.le_refl _) _ D _ _ (by omega) hK rfl rfl)⟩
      rw [show zv false (val ys) = (val ys : Int) from rfl, HW.out]
    | true =>
      by_cases h0 : r = 0
      · subst h0
        gi_wp2
        refine ⟨by simp, .inl ⟨_, _, rfl, run_takeDeferred hK, ?_⟩⟩
        refine ⟨.tuple #[.int .i64 0, .int .i64 0], by simp [results, Try.f11, go_sem], ?_, hbe.trans (belowK_b (w := w) (Nat.le_refl _) _ D _ _ (by omega) hK rfl rfl)⟩
        rw [show zv true (val ys) = -(val ys : Int) from rfl, neg_mod_zero HV.out]
      · have t3 : (0 : Int) < r := by omega
        have t4 : (r : Int) ≤ m := by omega
        gi_wp2
        have hK' := (KeepsOthers.setCell W ⟨w.heap.size + 1 + 1, 0, none⟩ (.int .u64 ((m : Int) - r))).same D _ hK rfl
        refine ⟨by simp, .inl ⟨_, _, rfl, run_takeDeferred hK', ?_⟩⟩
        refine ⟨.tuple #[.int .i64 ((m : Int) - r), .int .i64 0], by simp [results, Try.f11, go_sem], ?_, (hbe.setCell (p := ⟨w.heap.size + 1 + 1, 0, none⟩) (by simp; omega) _).trans (belowK_b (w := w) (Nat.le_refl _) _ D _ _ (by omega) hK' rfl rfl)⟩
        rw [show zv true (val ys) = -(val ys : Int) from rfl, neg_mod_pos HV.out h0 hr]
  case stop =>
    rintro D c W _ h _
    exact h.elim
end Go.Proofs.Yteplmnnpmekngab
