/-
  What takeTimes does: v, t times, is taken from a row that has a word more.
-/
import Derived.Test.YteplmnnpmekngabSums
namespace Go.Proofs.Yteplmnnpmekngab
open Go.RowKit

/-- A digit's difference, as takeTimes has it. -/
theorem sub_word' {x y c : Nat} (hx : x < 4294967296) (hy : y < 4294967296) (hc : c ≤ 1) : ∃ T D C : Nat, IntKind.u64.wrap (IntKind.u64.wrap ((x : Int) - y) - c) = (T : Int) ∧ (T : Int) % 4294967296 = (D : Int) ∧ (T : Int) / 9223372036854775808 = (C : Int) ∧ D < 4294967296 ∧ C ≤ 1 ∧ x + 4294967296 * C = D + y + c ∧ T < 18446744073709551616 := by
  simp only [IntKind.wrap_u64]
  by_cases h : y + c ≤ x
  · exact ⟨x - y - c, x - y - c, 0, by omega, by omega, by omega, by omega, by omega, by omega, by omega⟩
  · exact ⟨x + 18446744073709551616 - y - c, x + 4294967296 - y - c, 1, by omega, by omega, by omega, by omega, by omega, by omega, by omega⟩
theorem take_step {Q ps vs : List Nat} {k t v p c b D m c' b' : Nat} (h : val Q + t * val (vs.take k) = val ps + pw k * (c + b)) (hp : Q[k]?.getD 0 = p) (hv : vs[k]?.getD 0 = v) (hlt : k < Q.length) (h1 : t * v + c = m + 4294967296 * c') (h2 : p + 4294967296 * b' = D + m + b) :
    val (Q.set k D) + t * val (vs.take (k + 1)) = val ps + pw (k + 1) * (c' + b') := by
  have s := val_set Q k D hlt
  rw [hp] at s
  have e1 : pw k * (t * v + c) = pw k * (m + 4294967296 * c') := by rw [h1]
  have e2 : pw k * (p + 4294967296 * b') = pw k * (D + m + b) := by rw [h2]
  have e3 : t * (pw k * v) = pw k * (t * v) := by rw [← Nat.mul_assoc, Nat.mul_comm t, Nat.mul_assoc]
  have e4 : pw (k + 1) * (c' + b') = pw k * (4294967296 * c') + pw k * (4294967296 * b') := by
    rw [pw, Nat.mul_comm 4294967296 (pw k), Nat.mul_assoc, Nat.mul_add, Nat.mul_add]
  rw [val_take_succ', hv, Nat.mul_add, e3, e4]
  simp only [Nat.mul_add] at e1 e2 h
  omega
theorem take_last {Q ps vs : List Nat} {n t p c b D b' : Nat} (hn : vs.length = n) (h : val Q + t * val (vs.take n) = val ps + pw n * (c + b)) (hp : Q[n]?.getD 0 = p) (hlt : n < Q.length) (h2 : p + 4294967296 * b' = D + c + b) :
    val (Q.set n D) + t * val vs = val ps + pw (n + 1) * b' := by
  have := take_step (v := 0) (m := c) (c' := 0) h hp (get_past (by omega)) hlt (by omega) h2
  rw [List.take_of_length_le (by omega), Nat.zero_add] at this
  exact this

set_option maxRecDepth 100000 in
set_option maxHeartbeats 2000000 in
theorem take_any (g off bv ov n cp cv t : Nat) (ps vs : List Nat) (w : World) (hn : vs.length = n) (hp : ps.length = n + 1) (hb : bv < w.heap.size) (hne : bv ≠ g) (sp : Seg .u32 w g off ps) (fp : Free w g off ps.length) (sv : Seg .u32 w bv ov vs) (op : okw ps) (okv : okw vs) (ht : t < 4294967296) (hlen : n ≤ 100000) :
    Calls Try.prog 46 #[.slice (some ⟨g, off, none⟩) (n + 1) cp, .slice (some ⟨bv, ov, none⟩) n cv, .int .u64 (t : Int)] w fun e w' => ∃ (b : Nat) (qs : List Nat), e = .returned (.bool (b == 1)) ∧ b ≤ 1 ∧ qs.length = n + 1 ∧ okw qs ∧ val qs + t * val vs = val ps + pw (n + 1) * b ∧ Seg .u32 w' g off qs ∧ RowTurn w w' g off (n + 1) := by
  have HN : Hid (vs.length = n) := hn
  have HF : Hid (Free w g off (n + 1)) := (by show Free _ _ _ _; rw [← hp]; exact fp)
  go_enter Try.func46, Try.ntmps46
  go_wp2_with fail
  go_loopw [7, 8, 16] (fun c b i wr => ∃ (k cv bv : Nat) (Q : List Nat), k ≤ n ∧ i = .int .i64 (k : Int) ∧ c = .int .u64 (cv : Int) ∧ b = .int .u64 (bv : Int) ∧ cv < 4294967296 ∧ bv ≤ 1 ∧ Q.length = n + 1 ∧ okw Q ∧ val Q + t * val (vs.take k) = val ps + pw k * (cv + bv) ∧ Seg .u32 wr g off Q ∧ RowTurn w wr g off (n + 1)) (fun _ _ i _ => n - (intOf i).toNat)
  case atStart => exact ⟨0, 0, 0, ps, Nat.zero_le _, rfl, rfl, rfl, by omega, by omega, hp, op, by simp [val], sp, RowTurn.refl _ _ _ _⟩
  case round =>
    clear sp fp hp hn
    obtain ⟨k, c, b, Q, hk, rfl, rfl, rfl, hc, hb1, hQ, oQ, hval, sQ, hrt⟩ := hrel
    have HV : Hid (val Q + t * val (vs.take k) = val ps + pw k * (c + b)) := hval
    have hcp := sQ k (by omega)
    have hfp : wr.frozen? ⟨g, off + k, none⟩ = false := (hrt.frozen _).trans (HF.out k (by omega))
    have hx1 := okw_get oQ k
    obtain ⟨p, hp'⟩ : ∃ p, Q[k]?.getD 0 = p := ⟨_, rfl⟩
    rw [hp'] at hcp hx1
    have HP : Hid (Q[k]?.getD 0 = p) := hp'
    have HL : Hid (Q.length = n + 1) := hQ
    have hkl : k < Q.length := by omega
    clear hval hp' hQ
    by_cases hkn : k < n
    · have hcv : wr.cell? ⟨bv, ov + k, none⟩ = some (.int .u32 ((vs[k]?.getD 0 : Nat) : Int)) := (sv.turn hrt hb hne) k (by rw [HN.out]; exact hkn)
      have hv1 := okw_get okv k
      obtain ⟨v, hv'⟩ : ∃ v, vs[k]?.getD 0 = v := ⟨_, rfl⟩
      rw [hv'] at hcv hv1
      have HVV : Hid (vs[k]?.getD 0 = v) := hv'
      obtain ⟨M, hM⟩ : ∃ M, t * v = M := ⟨_, rfl⟩
      have hM1 : M ≤ 4294967295 * 4294967295 := by rw [← hM]; exact Nat.mul_le_mul (by omega) (by omega)
      have s0 : (t : Int) * v = (M : Int) := by rw [← hM]; push_cast; rfl
      obtain ⟨S, hS⟩ : ∃ S, M + c = S := ⟨_, rfl⟩
      have s1 : (M : Int) + c = (S : Int) := by omega
      have hS1 : S < 18446744073709551616 := by omega
      obtain ⟨m, hm⟩ : ∃ m, S % 4294967296 = m := ⟨_, rfl⟩
      obtain ⟨c', hc'⟩ : ∃ c', S / 4294967296 = c' := ⟨_, rfl⟩
      have s2 : (S : Int) / 4294967296 = (c' : Int) := by omega
      have s3 : bits BinOp.and IntKind.u64 (S : Int) 4294967295 = (m : Int) := by rw [and_low32 _ (by omega) (by omega)]; omega
      have hm1 : m < 4294967296 := by omega
      have hc1 : c' < 4294967296 := by omega
      obtain ⟨T, D, C, r1, r2, r3, hD1, hC1, hs, hT⟩ := sub_word' hx1 hm1 hb1
      have HST : Hid (val (Q.set k D) + t * val (vs.take (k + 1)) = val ps + pw (k + 1) * (c' + C)) := take_step HV.out HP.out HVV.out hkl (by omega) hs
      have t1 : (k : Int) < n := by omega
      clear hv' hM hS hm hc' hs
      go_wp2_with fail
      go_roundw
      case rel => exact ⟨k + 1, c', C, Q.set k D, by omega, by go_num, rfl, rfl, hc1, hC1, by rw [List.length_set]; exact HL.out, okw_set oQ _ _ hD1, HST.out, sQ.set k hkl D, hrt.set k (by omega) _⟩
      case measure => simp [intOf]; omega
    · obtain rfl : k = n := by omega
      obtain ⟨T, D, C, r1, r2, r3, hD1, hC1, hs, hT⟩ := sub_word' hx1 hc hb1
      have HST : Hid (val (Q.set k D) + t * val vs = val ps + pw (k + 1) * C) := take_last HN.out HV.out HP.out hkl hs
      have t1 : ¬ (k : Int) < k := by omega
      have r4 : ((C : Int) == 1) = (C == 1) := by
        rcases Nat.le_one_iff_eq_zero_or_eq_one.1 hC1 with rfl | rfl <;> rfl
      have hset := sQ.set k hkl D
      have hturn := hrt.set k (by omega) (.int .u32 (D : Int))
      clear hs
      go_wp2
      go_ret
      exact ⟨C, rfl, hC1, Q.set k D, by rw [List.length_set]; exact HL.out, okw_set oQ _ _ hD1, HST.out, hset, hturn⟩
end Go.Proofs.Yteplmnnpmekngab
