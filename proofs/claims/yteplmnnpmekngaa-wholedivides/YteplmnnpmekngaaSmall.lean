/-
  The reference: Of; and Small, both of them.
-/
import Derived.Test.YteplmnnpmekngaaRParseN
namespace Go.Proofs.Yteplmnnpmekngaa
open Go.RowKit

set_option maxHeartbeats 1000000 in
theorem rof_any (v : Int) (w : World) (h1 : -9223372036854775808 ≤ v) (h2 : v ≤ 9223372036854775807) :
    Calls Try.prog 37 #[.int .i64 v] w fun e w' => ∃ neg a n cap, e = .returned (.agg #[.bool neg, .slice a n cap]) ∧ IntIs w.heap.size w' (.agg #[.bool neg, .slice a n cap]) v ∧ Below w.heap.size w w' := by
  by_cases hv : v < 0
  · obtain ⟨n, rfl⟩ : ∃ n : Nat, v = -(n : Int) := ⟨(-v).toNat, by omega⟩
    have hn : n < 18446744073709551616 := by omega
    have hw : IntKind.u64.wrap (-IntKind.u64.wrap (-(n : Int))) = (n : Int) := by rw [IntKind.wrap_u64, IntKind.wrap_u64]; omega
    have e1 : (n : Int) % 4294967296 = ((n % 4294967296 : Nat) : Int) := by omega
    have e2 : (n : Int) / 4294967296 % 4294967296 = ((n / 4294967296 : Nat) : Int) := by omega
    have HW : Hid (IntKind.u64.wrap (-IntKind.u64.wrap (-(n : Int))) = (n : Int)) := hw
    clear hw
    have E1 : Hid ((n : Int) % 4294967296 = ((n % 4294967296 : Nat) : Int)) := e1
    have E2 : Hid ((n : Int) / 4294967296 % 4294967296 = ((n / 4294967296 : Nat) : Int)) := e2
    clear e1 e2
    go_enter Try.func37, Try.ntmps37
    go_wp2_with fail
    rw [HW.out, E1.out, E2.out]
    refine (rmade_any true (some ⟨w.heap.size + 1, 0, none⟩) 2 2 [n % 4294967296, n / 4294967296] _ (ow_two w n _ false none 0 0 24).sl (okw_two n hn) (by simp)).mono ?_
    rintro e w1 ⟨n3, a3, l3, c3, rfl, hI, hb1⟩
    replace hI := hI.mono (B' := w.heap.size) (by simp; omega)
    have hR1 := ((Box2.new w false none 0 0 24).below ((Below.refl _ _).alloc (Nat.le_refl _) _)).below hb1
    have s0 := hR1.c0
    have s1 := hR1.c1
    have sf0 := hR1.f0
    have sf1 := hR1.f1
    have hfin := hR1.put n3 a3 l3 c3
    have hg0 := hfin.c0
    have hg1 := hfin.c1
    unfold put2 at hg0 hg1
    have hB0 : Below w.heap.size w ((w.alloc (.cells #[.bool false, .slice none 0 0] 24)).alloc (.cells #[.int .u32 ((n % 4294967296 : Nat) : Int), .int .u32 ((n / 4294967296 : Nat) : Int)] 55)) := ((Below.refl w.heap.size w).alloc (Nat.le_refl _) _).alloc (by simp) _
    have hBw : Below w.heap.size w w1 := hB0.trans (hb1.mono hB0.size)
    have hI2 := hI.put hR1 n3 (.slice a3 l3 c3)
    rw [val_two] at hI2
    have hI3 : IntIs w.heap.size (put2 w1 w.heap.size n3 (.slice a3 l3 c3)) (.agg #[.bool n3, .slice a3 l3 c3]) (-(n : Int)) := by simpa [zv] using hI2
    clear hI hI2
    go_wp2
    refine bodyPost_ret (v := .agg #[.bool n3, .slice a3 l3 c3]) ?_ rfl ⟨_, _, _, _, rfl, hI3, below_put2 (N := w.heap.size) hBw (Nat.le_refl _) n3 (.slice a3 l3 c3)⟩
    simp [results, Try.f37, go_sem, hg0, hg1]
  · obtain ⟨n, rfl⟩ : ∃ n : Nat, v = (n : Int) := ⟨v.toNat, by omega⟩
    have hn : n < 18446744073709551616 := by omega
    have E1 : Hid ((n : Int) % 4294967296 = ((n % 4294967296 : Nat) : Int)) := by show _ = _; omega
    have E2 : Hid ((n : Int) / 4294967296 = ((n / 4294967296 : Nat) : Int)) := by show _ = _; omega
    go_enter Try.func37, Try.ntmps37
    go_wp2_with fail
    rw [E1.out, E2.out]
    refine (rmade_any false (some ⟨w.heap.size + 1, 0, none⟩) 2 2 [n % 4294967296, n / 4294967296] _ (ow_two w n _ false none 0 0 24).sl (okw_two n hn) (by simp)).mono ?_
    rintro e w1 ⟨n3, a3, l3, c3, rfl, hI, hb1⟩
    replace hI := hI.mono (B' := w.heap.size) (by simp; omega)
    have hR1 := ((Box2.new w false none 0 0 24).below ((Below.refl _ _).alloc (Nat.le_refl _) _)).below hb1
    have s0 := hR1.c0
    have s1 := hR1.c1
    have sf0 := hR1.f0
    have sf1 := hR1.f1
    have hfin := hR1.put n3 a3 l3 c3
    have hg0 := hfin.c0
    have hg1 := hfin.c1
    unfold put2 at hg0 hg1
    have hB0 : Below w.heap.size w ((w.alloc (.cells #[.bool false, .slice none 0 0] 24)).alloc (.cells #[.int .u32 ((n % 4294967296 : Nat) : Int), .int .u32 ((n / 4294967296 : Nat) : Int)] 55)) := ((Below.refl w.heap.size w).alloc (Nat.le_refl _) _).alloc (by simp) _
    have hBw : Below w.heap.size w w1 := hB0.trans (hb1.mono hB0.size)
    have hI2 := hI.put hR1 n3 (.slice a3 l3 c3)
    rw [val_two] at hI2
    have hI3 : IntIs w.heap.size (put2 w1 w.heap.size n3 (.slice a3 l3 c3)) (.agg #[.bool n3, .slice a3 l3 c3]) (n : Int) := by simpa [zv] using hI2
    clear hI hI2
    go_wp2
    refine bodyPost_ret (v := .agg #[.bool n3, .slice a3 l3 c3]) ?_ rfl ⟨_, _, _, _, rfl, hI3, below_put2 (N := w.heap.size) hBw (Nat.le_refl _) n3 (.slice a3 l3 c3)⟩
    simp [results, Try.f37, go_sem, hg0, hg1]

/-- An Int as an int, if it is one. -/
def smallOk (z : Int) : Bool := decide (-9223372036854775808 ≤ z ∧ z ≤ 9223372036854775807)
def smallZ (z : Int) : Int := if -9223372036854775808 ≤ z ∧ z ≤ 9223372036854775807 then z else 0
theorem or_low (L A s : Nat) (hA : A % 2 ^ s = 0) (hA1 : A < 18446744073709551616) (hL : L < 2 ^ s) (hL1 : L < 18446744073709551616) : bits BinOp.or IntKind.u64 (L : Int) (A : Int) = ((A + L : Nat) : Int) := by
  have hc : bits BinOp.or IntKind.u64 (L : Int) (A : Int) = bits BinOp.or IntKind.u64 (A : Int) (L : Int) := by simp only [bits, BitVec.or_comm]
  rw [hc]
  exact or_shift A L s hA hA1 hL hL1
theorem val_bound {xs : List Nat} (o : okw xs) (t : Tr xs) : xs.length ≤ 2 ↔ val xs < 18446744073709551616 := by
  have h := len_le_iff t o 2
  rw [show pw 2 = 18446744073709551616 from rfl] at h
  exact h
theorem take_val {ys : List Nat} (o : okw ys) (k : Nat) (hk : k < ys.length) (h2 : ys.length ≤ 2) : val (ys.take (k + 1)) = ys[k]?.getD 0 * 2 ^ (32 * k) + val (ys.take k) ∧ val (ys.take k) < 2 ^ (32 * k) ∧ ys[k]?.getD 0 * 2 ^ (32 * k) < 18446744073709551616 ∧ ys[k]?.getD 0 * 2 ^ (32 * k) % 2 ^ (32 * k) = 0 := by
  have h1 := val_take_succ ys k hk
  have h3 := val_lt (okw_take o k)
  rw [List.length_take, Nat.min_eq_left (by omega), pw_two] at h3
  rw [pw_two, Nat.mul_comm] at h1
  have h4 := okw_get o k
  refine ⟨by omega, h3, ?_, Nat.mul_mod_left _ _⟩
  rcases (show k = 0 ∨ k = 1 by omega) with rfl | rfl
  · simp; omega
  · simp; omega

set_option maxRecDepth 100000 in
set_option maxHeartbeats 4000000 in
theorem small_any (neg : Bool) (a : Option Addr) (n cap : Nat) (xs : List Nat) (w : World) (h : Sl .u32 w (.slice a n cap) xs) (ox : okw xs) (hbig : xs.length ≤ 1000000) :
    Calls Try.prog 32 #[.agg #[.bool neg, .slice a n cap]] w fun e w' => e = .returned (.tuple #[.int .i64 (smallZ (zv neg (val xs))), .bool (smallOk (zv neg (val xs)))]) ∧ Below w.heap.size w w' := by
  have hb : Below w.heap.size w (w.alloc (.cells #[.bool neg, .slice a n cap] 24)) := below_alloc _ _
  have ht := trim_any a n cap xs _ (h.below hb) hbig
  have hT := h.trimmed
  have ho := okw_trimL ox
  have tr := Tr_trimL xs
  have hl := trimL_le xs
  rw [← val_trimL xs]
  have len := hT.len
  obtain ⟨ys, hys⟩ : ∃ ys, trimL xs = ys := ⟨_, rfl⟩
  rw [hys] at hT ho tr len hl ⊢
  rw [len] at hT ht
  have hbd := val_bound ho tr
  have c0 := Box2.new w neg a n cap 24
  obtain ⟨b, off, pl, sg⟩ := hT.place
  clear hys len
  go_enter Try.func32, Try.ntmps32
  go_wp2_with fail
  obtain ⟨w0, hW⟩ : ∃ w0, w.alloc (.cells #[.bool neg, .slice a n cap] 24) = w0 := ⟨_, rfl⟩
  rw [hW] at c0 hb ht ⊢
  clear hW
  refine ht.mono ?_
  rintro e w' ⟨rfl, rfl⟩
  have q0 := c0.c0
  clear ht
  by_cases h2 : 2 < ys.length
  · have t1 : (2 : Int) < ys.length := by omega
    have hz : smallZ (zv neg (val ys)) = 0 ∧ smallOk (zv neg (val ys)) = false := by
      have : ¬ val ys < 18446744073709551616 := fun h => by have := hbd.2 h; omega
      have hv := zv_abs neg (val ys)
      have hno : ¬ (-9223372036854775808 ≤ zv neg (val ys) ∧ zv neg (val ys) ≤ 9223372036854775807) := by omega
      exact ⟨by unfold smallZ; rw [if_neg hno], by unfold smallOk; simpa using hno⟩
    have HZ : Hid (smallZ (zv neg (val ys)) = 0 ∧ smallOk (zv neg (val ys)) = false) := hz
    clear hz hbd
    go_wp2
    refine bodyPost_ret (v := .tuple #[.int .i64 0, .bool false]) ?_ rfl ⟨by rw [HZ.out.1, HZ.out.2], hb⟩
    simp [results, Try.f32, go_sem]
  · have t1 : ¬ (2 : Int) < ys.length := by omega
    have hv64 := hbd.1 (by omega)
    clear hbd
    go_wp2_with fail
    go_loop [5, 16] (fun s i => ∃ k : Nat, k ≤ ys.length ∧ i = .int .i64 (k : Int) ∧ s = .int .u64 ((val (ys.take k) : Nat) : Int)) (fun _ i => ys.length - (intOf i).toNat)
    case atStart => exact ⟨0, Nat.zero_le _, rfl, by simp [val]⟩
    case round =>
      obtain ⟨k, hk, rfl, rfl⟩ := hrel
      by_cases hlt : k < ys.length
      · obtain ⟨v1, v2, v3, v4⟩ := take_val ho k hlt (by omega)
        obtain ⟨ea, hla⟩ := pl (fun e => by rw [e] at hlt; simp at hlt)
        have hc := (sg.below hb hla) k hlt
        have hx1 := okw_get ho k
        obtain ⟨x, hx⟩ : ∃ x, ys[k]?.getD 0 = x := ⟨_, rfl⟩
        rw [hx] at hc v1 v3 v4 hx1
        obtain ⟨V, hV⟩ : ∃ V, val (ys.take k) = V := ⟨_, rfl⟩
        rw [hV] at v1 v2 ⊢
        obtain ⟨A, hA⟩ : ∃ A, x * 2 ^ (32 * k) = A := ⟨_, rfl⟩
        rw [hA] at v1 v3 v4
        have e1 : IntKind.u64.wrap ((x : Int) * 2 ^ (32 * k)) = (A : Int) := by
          rw [show (x : Int) * 2 ^ (32 * k) = ((x * 2 ^ (32 * k) : Nat) : Int) by push_cast; rfl, hA]
          exact wrap_cast _ v3
        have e2 := or_low V A (32 * k) v4 v3 v2 (Nat.lt_of_lt_of_le v2 (by rcases (show k = 0 ∨ k = 1 by omega) with rfl | rfl <;> simp))
        obtain ⟨S, hS⟩ : ∃ S, A + V = S := ⟨_, rfl⟩
        rw [hS] at e2 v1
        have HS : Hid (val (ys.take (k + 1)) = S) := v1
        have t2 : (k : Int) < ys.length := by omega
        have hk1 : k ≤ 1 := by omega
        clear hx hV hA hS v1 v2 v3 v4
        subst ea
        go_wp2_with fail
        refine ⟨⟨k + 1, by omega, by go_num, by rw [HS.out]⟩, by simp [intOf]; omega⟩
      · obtain rfl : k = ys.length := by omega
        have t2 : ¬ (ys.length : Int) < ys.length := by omega
        rw [List.take_length]
        clear sg pl
        obtain ⟨V, hV⟩ : ∃ V, val ys = V := ⟨_, rfl⟩
        rw [hV] at hv64 ⊢
        have HV : Hid (val ys = V) := hV
        clear hV
        cases neg with
        | true =>
          by_cases hc : V ≤ 9223372036854775808
          · have t3 : (V : Int) ≤ 9223372036854775808 := by omega
            have e3 : IntKind.i64.wrap (IntKind.u64.wrap (-(V : Int))) = -(V : Int) := by rw [IntKind.wrap_i64, IntKind.wrap_u64]; omega
            have HZ : Hid (smallZ (zv true (val ys)) = -(V : Int) ∧ smallOk (zv true (val ys)) = true) := (by
              rw [HV.out]
              have hin : -9223372036854775808 ≤ -(V : Int) ∧ -(V : Int) ≤ 9223372036854775807 := by omega
              exact ⟨by unfold smallZ; rw [show zv true V = -(V : Int) from rfl, if_pos hin], by unfold smallOk; rw [show zv true V = -(V : Int) from rfl]; simpa using hin⟩)
            go_wp2
            refine bodyPost_ret (v := .tuple #[.int .i64 (-(V : Int)), .bool true]) ?_ rfl ⟨by rw [HZ.out.1, HZ.out.2], hb⟩
            simp [results, Try.f32, go_sem]
          · have t3 : ¬ (V : Int) ≤ 9223372036854775808 := by omega
            have HZ : Hid (smallZ (zv true (val ys)) = 0 ∧ smallOk (zv true (val ys)) = false) := (by
              rw [HV.out]
              have hno : ¬ (-9223372036854775808 ≤ -(V : Int) ∧ -(V : Int) ≤ 9223372036854775807) := by omega
              exact ⟨by unfold smallZ; rw [show zv true V = -(V : Int) from rfl, if_neg hno], by unfold smallOk; rw [show zv true V = -(V : Int) from rfl]; simpa using hno⟩)
            go_wp2
            refine bodyPost_ret (v := .tuple #[.int .i64 0, .bool false]) ?_ rfl ⟨by rw [HZ.out.1, HZ.out.2], hb⟩
            simp [results, Try.f32, go_sem]
        | false =>
          by_cases hc : V < 9223372036854775808
          · have t3 : (V : Int) < 9223372036854775808 := by omega
            have HZ : Hid (smallZ (zv false (val ys)) = (V : Int) ∧ smallOk (zv false (val ys)) = true) := (by
              rw [HV.out]
              have hin : -9223372036854775808 ≤ (V : Int) ∧ (V : Int) ≤ 9223372036854775807 := by omega
              exact ⟨by unfold smallZ; rw [show zv false V = (V : Int) from rfl, if_pos hin], by unfold smallOk; rw [show zv false V = (V : Int) from rfl]; simpa using hin⟩)
            go_wp2
            refine bodyPost_ret (v := .tuple #[.int .i64 (V : Int), .bool true]) ?_ rfl ⟨by rw [HZ.out.1, HZ.out.2], hb⟩
            simp [results, Try.f32, go_sem]
          · have t3 : ¬ (V : Int) < 9223372036854775808 := by omega
            have HZ : Hid (smallZ (zv false (val ys)) = 0 ∧ smallOk (zv false (val ys)) = false) := (by
              rw [HV.out]
              have hno : ¬ (-9223372036854775808 ≤ (V : Int) ∧ (V : Int) ≤ 9223372036854775807) := by omega
              exact ⟨by unfold smallZ; rw [show zv false V = (V : Int) from rfl, if_neg hno], by unfold smallOk; rw [show zv false V = (V : Int) from rfl]; simpa using hno⟩)
            go_wp2
            refine bodyPost_ret (v := .tuple #[.int .i64 0, .bool false]) ?_ rfl ⟨by rw [HZ.out.1, HZ.out.2], hb⟩
            simp [results, Try.f32, go_sem]
end Go.Proofs.Yteplmnnpmekngaa
