/-
  The reference: Small.
-/
import Derived.Test.YtfcnljdededdjaaSmall
namespace Go.Proofs.Ytfcnljdededdjaa
open Go.RowKit

set_option maxRecDepth 100000 in
set_option maxHeartbeats 4000000 in
theorem rsmall_any (neg : Bool) (a : Option Addr) (n cap : Nat) (xs : List Nat) (w : World) (h : Sl .u32 w (.slice a n cap) xs) (ox : okw xs) (hbig : xs.length ≤ 1000000) :
    Calls Try.prog 12 #[.agg #[.bool neg, .slice a n cap]] w fun e w' => e = .returned (.tuple #[.int .i64 (smallZ (zv neg (val xs))), .bool (smallOk (zv neg (val xs)))]) ∧ Below w.heap.size w w' := by
  have hb : Below w.heap.size w (w.alloc (.cells #[.bool neg, .slice a n cap] 24)) := below_alloc _ _
  have c0 := Box2.new w neg a n cap 24
  go_enter Try.func12, Try.ntmps12
  go_wp2_with fail
  obtain ⟨w0, hW⟩ : ∃ w0, w.alloc (.cells #[.bool neg, .slice a n cap] 24) = w0 := ⟨_, rfl⟩
  rw [hW] at c0 hb ⊢
  clear hW
  refine (rform_any neg a n cap xs w0 (h.below hb) ox hbig).mono ?_
  rintro e w3 ⟨n3, a3, l3, c3, rfl, hI3, hb3⟩
  replace c0 := c0.below hb3
  replace hI3 := hI3.mono hb.size
  have hB3 : Below w.heap.size w w3 := hb.trans (hb3.mono hb.size)
  have r0 := c0.c0
  have r1 := c0.c1
  have rf0 := c0.f0
  have rf1 := c0.f1
  go_upto_region 2 with fail
  clear r0 r1 rf0 rf1
  have hA4 := c0.put n3 a3 l3 c3
  have hI4 := hI3.put c0 n3 (.slice a3 l3 c3)
  have hB4 := below_put2 (N := w.heap.size) hB3 (Nat.le_refl _) n3 (.slice a3 l3 c3)
  obtain ⟨w4, hw4⟩ : ∃ w4, (w3.setCell ⟨w.heap.size, 0, none⟩ (.bool n3)).setCell ⟨w.heap.size, 1, none⟩ (.slice a3 l3 c3) = w4 := ⟨_, rfl⟩
  have hw5 : put2 w3 w.heap.size n3 (.slice a3 l3 c3) = w4 := hw4
  rw [hw5] at hA4 hI4 hB4
  rw [hw4]
  clear hw4 hw5 hI3 hB3 hb3 c0 hb
  clear w3 w0
  obtain ⟨ys, oY, ho, fm, ez⟩ := hI4.open
  have len := oY.len
  subst len
  have tr := fm.tr
  have hbd := val_bound ho tr
  have HQ : Hid (zv n3 (val ys) = zv neg (val xs)) := ez
  obtain ⟨b, off, pl, sg⟩ := oY.sl.place
  have q0 := hA4.c0
  have q1 := hA4.c1
  have lb : ys.length ≤ 1000000 := by
    have h1 := zv_abs n3 (val ys)
    rw [ez, zv_abs] at h1
    have := Tr_len_le tr xs.length (by rw [← h1]; exact val_lt ox)
    omega
  clear ez hI4 oY fm
  by_cases h2 : 2 < ys.length
  · have t1 : (2 : Int) < ys.length := by omega
    have hz : smallZ (zv n3 (val ys)) = 0 ∧ smallOk (zv n3 (val ys)) = false := by
      have : ¬ val ys < 18446744073709551616 := fun h => by have := hbd.2 h; omega
      have hv := zv_abs n3 (val ys)
      have hno : ¬ (-9223372036854775808 ≤ zv n3 (val ys) ∧ zv n3 (val ys) ≤ 9223372036854775807) := by omega
      exact ⟨by unfold smallZ; rw [if_neg hno], by unfold smallOk; simpa using hno⟩
    have HZ : Hid (smallZ (zv n3 (val ys)) = 0 ∧ smallOk (zv n3 (val ys)) = false) := hz
    clear hz hbd
    go_wp2
    refine bodyPost_ret (v := .tuple #[.int .i64 0, .bool false]) ?_ rfl ⟨by rw [← HQ.out, HZ.out.1, HZ.out.2], hB4⟩
    simp [results, Try.f12, go_sem]
  · have t1 : ¬ (2 : Int) < ys.length := by omega
    have hv64 := hbd.1 (by omega)
    clear hbd
    go_wp2_with fail
    go_loop [4, 5] (fun s i => ∃ k : Nat, k ≤ ys.length ∧ i = .int .i64 (k : Int) ∧ s = .int .u64 ((val (ys.take k) : Nat) : Int)) (fun _ i => ys.length - (intOf i).toNat)
    case atStart => exact ⟨0, Nat.zero_le _, rfl, by simp [val]⟩
    case round =>
      obtain ⟨k, hk, rfl, rfl⟩ := hrel
      by_cases hlt : k < ys.length
      · obtain ⟨v1, v2, v3, v4⟩ := take_val ho k hlt (by omega)
        obtain ⟨ea, hla⟩ := pl (fun e => by rw [e] at hlt; simp at hlt)
        have hc := sg k hlt
        have hx1 := okw_get ho k
        obtain ⟨x, hx⟩ : ∃ x, ys[k]?.getD 0 = x := ⟨_, rfl⟩
        rw [hx] at hc v1 v3 v4 hx1
        obtain ⟨V, hV⟩ : ∃ V, val (ys.take k) = V := ⟨_, rfl⟩
        rw [hV] at v1 v2 ⊢
        obtain ⟨A, hA⟩ : ∃ A, x * 2 ^ (32 * k) = A := ⟨_, rfl⟩
        rw [hA] at v1 v3 v4
        have e1 : IntKind.u64.wrap ((x : Int) * 2 ^ (32 * k)) = (A : Int) := by
          rw [show (x : Int) * 2 ^ (32 * k) = ((x * 2 ^ (32 * k) : Nat) : Int) by push_cast; rfl, hA]
          exact wrap_cast _ v3
        have e2 := or_low V A (32 * k) v4 v3 v2 (Nat.lt_of_lt_of_le v2 (by rcases (show k = 0 ∨ k = 1 by omega) with rfl | rfl <;> simp))
        obtain ⟨S, hS⟩ : ∃ S, A + V = S := ⟨_, rfl⟩
        rw [hS] at e2 v1
        have HS : Hid (val (ys.take (k + 1)) = S) := v1
        have t2 : (k : Int) < ys.length := by omega
        have hk1 : k ≤ 1 := by omega
        clear hx hV hA hS v1 v2 v3 v4
        subst ea
        go_wp2_with fail
        refine ⟨⟨k + 1, by omega, by go_num, by rw [HS.out]⟩, by simp [intOf]; omega⟩
      · obtain rfl : k = ys.length := by omega
        have t2 : ¬ (ys.length : Int) < ys.length := by omega
        rw [List.take_length]
        clear sg pl
        obtain ⟨V, hV⟩ : ∃ V, val ys = V := ⟨_, rfl⟩
        rw [hV] at hv64 ⊢
        have HV : Hid (val ys = V) := hV
        clear hV
        cases n3 with
        | true =>
          by_cases hc : V ≤ 9223372036854775808
          · have t3 : ¬ (9223372036854775808 : Int) < V := by omega
            have e3 : IntKind.i64.wrap (IntKind.u64.wrap (-(V : Int))) = -(V : Int) := by rw [IntKind.wrap_i64, IntKind.wrap_u64]; omega
            have HZ : Hid (smallZ (zv true (val ys)) = -(V : Int) ∧ smallOk (zv true (val ys)) = true) := (by
              rw [HV.out]
              have hin : -9223372036854775808 ≤ -(V : Int) ∧ -(V : Int) ≤ 9223372036854775807 := by omega
              exact ⟨by unfold smallZ; rw [show zv true V = -(V : Int) from rfl, if_pos hin], by unfold smallOk; rw [show zv true V = -(V : Int) from rfl]; simpa using hin⟩)
            go_wp2
            refine bodyPost_ret (v := .tuple #[.int .i64 (-(V : Int)), .bool true]) ?_ rfl ⟨by rw [← HQ.out, HZ.out.1, HZ.out.2], hB4⟩
            simp [results, Try.f12, go_sem]
          · have t3 : (9223372036854775808 : Int) < V := by omega
            have HZ : Hid (smallZ (zv true (val ys)) = 0 ∧ smallOk (zv true (val ys)) = false) := (by
              rw [HV.out]
              have hno : ¬ (-9223372036854775808 ≤ -(V : Int) ∧ -(V : Int) ≤ 9223372036854775807) := by omega
              exact ⟨by unfold smallZ; rw [show zv true V = -(V : Int) from rfl, if_neg hno], by unfold smallOk; rw [show zv true V = -(V : Int) from rfl]; simpa using hno⟩)
            go_wp2
            refine bodyPost_ret (v := .tuple #[.int .i64 0, .bool false]) ?_ rfl ⟨by rw [← HQ.out, HZ.out.1, HZ.out.2], hB4⟩
            simp [results, Try.f12, go_sem]
        | false =>
          by_cases hc : V < 9223372036854775808
          · have t3 : ¬ (9223372036854775808 : Int) ≤ V := by omega
            have HZ : Hid (smallZ (zv false (val ys)) = (V : Int) ∧ smallOk (zv false (val ys)) = true) := (by
              rw [HV.out]
              have hin : -9223372036854775808 ≤ (V : Int) ∧ (V : Int) ≤ 9223372036854775807 := by omega
              exact ⟨by unfold smallZ; rw [show zv false V = (V : Int) from rfl, if_pos hin], by unfold smallOk; rw [show zv false V = (V : Int) from rfl]; simpa using hin⟩)
            go_wp2
            refine bodyPost_ret (v := .tuple #[.int .i64 (V : Int), .bool true]) ?_ rfl ⟨by rw [← HQ.out, HZ.out.1, HZ.out.2], hB4⟩
            simp [results, Try.f12, go_sem]
          · have t3 : (9223372036854775808 : Int) ≤ V := by omega
            have HZ : Hid (smallZ (zv false (val ys)) = 0 ∧ smallOk (zv false (val ys)) = false) := (by
              rw [HV.out]
              have hno : ¬ (-9223372036854775808 ≤ (V : Int) ∧ (V : Int) ≤ 9223372036854775807) := by omega
              exact ⟨by unfold smallZ; rw [show zv false V = (V : Int) from rfl, if_neg hno], by unfold smallOk; rw [show zv false V = (V : Int) from rfl]; simpa using hno⟩)
            go_wp2
            refine bodyPost_ret (v := .tuple #[.int .i64 0, .bool false]) ?_ rfl ⟨by rw [← HQ.out, HZ.out.1, HZ.out.2], hB4⟩
            simp [results, Try.f12, go_sem]
end Go.Proofs.Ytfcnljdededdjaa
