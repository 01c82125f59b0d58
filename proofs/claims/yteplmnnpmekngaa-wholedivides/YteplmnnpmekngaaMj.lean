/-
  What shiftUp does: words times a power of two below 2^32, with a word more.
  What takeTimes does: v, t times, is taken from a row that has a word more.
  What guessWord does.
  A guessed digit is right, or one too great. No program, no world.
-/
import Derived.Test.YteplmnnpmekngaaSums
import Derived.Deep.CutBlock
namespace Go.Proofs.Yteplmnnpmekngaa
open Go.RowKit

theorem or_join32 (A L s : Nat) (hs : s < 32) (hA : A < 2 ^ s) (hL : L % 2 ^ s = 0) (hL1 : L < 4294967296) : bits BinOp.or IntKind.u32 (A : Int) (L : Int) = ((L + A : Nat) : Int) := by
  have h32 : 2 ^ s < 4294967296 := by
    have := (Nat.pow_lt_pow_iff_right (by omega : 1 < 2)).2 hs
    simpa using this
  have hc : bits BinOp.or IntKind.u32 (A : Int) (L : Int) = bits BinOp.or IntKind.u32 (L : Int) (A : Int) := by simp only [bits, BitVec.or_comm]
  rw [hc, bits_join .u32 32 (by decide) (fun n h0 h1 => by rw [IntKind.wrap_u32]; omega) s _ _ (by omega) (by exact_mod_cast hL) (by omega) (by omega) (by exact_mod_cast hA) (by omega)]
  push_cast; rfl
/-- One word more is shifted. -/
theorem up_step {Q xs : List Nat} {k s x z lo hi : Nat} (h : val Q = val (xs.take k) * 2 ^ s) (hx : xs[k]?.getD 0 = x) (hz : Q[k]?.getD 0 = z) (h1 : Q[k + 1]?.getD 0 = 0) (hk : k + 1 < Q.length) (hs : x * 2 ^ s = lo + 4294967296 * hi) :
    val ((Q.set k (lo + z)).set (k + 1) hi) = val (xs.take (k + 1)) * 2 ^ s := by
  have a1 := val_set Q k (lo + z) (by omega)
  have a2 := val_set (Q.set k (lo + z)) (k + 1) hi (by rw [List.length_set]; omega)
  rw [List.getElem?_set_ne (by omega), h1, Nat.mul_zero, Nat.add_zero] at a2
  rw [hz, Nat.mul_add] at a1
  rw [a2, val_take_succ', hx, Nat.add_mul, Nat.mul_assoc, hs, Nat.mul_add, ← h, pw]
  have e : 4294967296 * pw k * hi = pw k * (4294967296 * hi) := by rw [Nat.mul_comm 4294967296, Nat.mul_assoc]
  rw [e]
  omega
theorem shl_parts (x s : Nat) (hs : s < 32) (hx : x < 4294967296) : ∃ lo hi, x * 2 ^ s = lo + 4294967296 * hi ∧ lo < 4294967296 ∧ hi < 2 ^ s ∧ lo % 2 ^ s = 0 ∧ x * 2 ^ s < 18446744073709551616 ∧ 2 ^ s ≤ 2147483648 := by
  have p : 0 < 2 ^ s := Nat.two_pow_pos s
  have h32 : 2 ^ s ≤ 2147483648 := by
    have := Nat.pow_le_pow_right (show 0 < 2 by omega) (show s ≤ 31 by omega)
    simpa using this
  have h1 : x * 2 ^ s ≤ 4294967295 * 2147483648 := Nat.mul_le_mul (by omega) h32
  refine ⟨x * 2 ^ s % 4294967296, x * 2 ^ s / 4294967296, by omega, by omega, ?_, ?_, by omega, h32⟩
  · rw [Nat.div_lt_iff_lt_mul (by omega), Nat.mul_comm (2 ^ s)]
    exact Nat.mul_lt_mul_of_pos_right hx p
  · have e : (4294967296 : Nat) = 2 ^ s * 2 ^ (32 - s) := by rw [← Nat.pow_add, show s + (32 - s) = 32 by omega]
    rw [e, Nat.mod_mul_right_mod]
    simp

set_option maxRecDepth 100000 in
set_option maxHeartbeats 2000000 in
theorem shiftUp_any (ax : Option Addr) (nx cx s : Nat) (xs : List Nat) (w : World) (hx : Sl .u32 w (.slice ax nx cx) xs) (bx : xs.length ≤ 100000) (ox : okw xs) (hs : s < 32) :
    Calls Try.prog 80 #[.slice ax nx cx, .int .i64 (s : Int)] w fun e w' => ∃ Q : List Nat, e = .returned (.slice (some ⟨w.heap.size, 0, none⟩) (xs.length + 1) (xs.length + 1)) ∧ Q.length = xs.length + 1 ∧ okw Q ∧ val Q = val xs * 2 ^ s ∧ Row .u32 55 w' w.heap.size Q ∧ Below w.heap.size w w' := by
  obtain rfl := hx.len
  obtain ⟨b1, o1, hax, sx⟩ := hx.place
  have HAX : Hid (xs ≠ [] → ax = some ⟨b1, o1, none⟩ ∧ b1 < w.heap.size) := hax
  clear hx hax
  obtain ⟨i0, hi, hz0, hz1, hz2⟩ := info_parts Try.infoWord
  go_enter Try.func80, Try.ntmps80
  go_wp2_with (at_make; refine wpList_make_full _ rfl _ _ 22 rfl w.heap.size 55 i0 (.int .u32 0) 1 Try.underlying22 hi hz0 hz1 .i64 .i64 _ _ (xs.length + 1) rfl rfl (by omega) (by omega) (by rw [hz2]; omega) (by unfold maxLen; omega) (Nat.le_refl _) ?_; intro w1 hown1 hgrow1; have hb1 : Below w.heap.size w w1 := (Below.refl _ w).grown hgrow1 (Nat.le_refl _) (fun k e => by cases e); have hr1 : Row .u32 55 w1 w.heap.size (List.replicate (xs.length + 1) 0) := row_made hown1; clear hown1 hgrow1)
  go_loopw [15] (fun iv wr => ∃ (k : Nat) (Q : List Nat), k ≤ xs.length ∧ iv = .int .i64 (k : Int) ∧ Q.length = xs.length + 1 ∧ okw Q ∧ val Q = val (xs.take k) * 2 ^ s ∧ Q[k]?.getD 0 < 2 ^ s ∧ (∀ t, k < t → Q[t]?.getD 0 = 0) ∧ Row .u32 55 wr w.heap.size Q ∧ Below w.heap.size w wr) (fun iv _ => xs.length - (intOf iv).toNat)
  case atStart => exact ⟨0, _, Nat.zero_le _, rfl, by simp, (fun x hx => by have := (List.mem_replicate.1 hx).2; omega), by rw [val_replicate]; simp [val], (by rw [List.getElem?_replicate]; split <;> exact Nat.two_pow_pos s), (fun t _ => by rw [List.getElem?_replicate]; split <;> rfl), hr1, hb1⟩
  case round =>
    clear hr1 hb1
    obtain ⟨k, Q, hk, rfl, hQ, oQ, hval, hz, hnul, hrow, hbel⟩ := hrel
    have A : Hid (Q.length = xs.length + 1 ∧ val Q = val (xs.take k) * 2 ^ s ∧ ∀ t, k < t → Q[t]?.getD 0 = 0) := ⟨hQ, hval, hnul⟩
    clear hQ hval hnul
    by_cases hlt : k < xs.length
    · have hxn : xs ≠ [] := by intro h; subst h; simp at hlt
      obtain ⟨e1, hl1⟩ := HAX.out hxn
      have hcx : wr.cell? ⟨b1, o1 + k, none⟩ = some (.int .u32 ((xs[k]?.getD 0 : Nat) : Int)) := sx.below hbel hl1 k hlt
      obtain ⟨x, hx⟩ : ∃ v, xs[k]?.getD 0 = v := ⟨_, rfl⟩
      have hxb := okw_get ox k
      rw [hx] at hcx hxb
      obtain ⟨z, hzz⟩ : ∃ z, Q[k]?.getD 0 = z := ⟨_, rfl⟩
      rw [hzz] at hz
      have hcq := hrow.cell k (by rw [A.out.1]; omega)
      have hfq := hrow.fr k
      rw [hzz] at hcq
      obtain ⟨lo, hi', s1, s2, s3, s4, s5, s6⟩ := shl_parts x s hs hxb
      have HS : Hid (val ((Q.set k (lo + z)).set (k + 1) hi') = val (xs.take (k + 1)) * 2 ^ s) := up_step A.out.2.1 hx hzz (A.out.2.2 (k + 1) (by omega)) (by rw [A.out.1]; omega) s1
      have hrow2 := hrow.turn2 k (lo + z)
      have hcq1 := hrow2.cell (k + 1) (by rw [List.length_set, A.out.1]; omega)
      have hfq1 := hrow2.fr (k + 1)
      have hj : lo + z < 4294967296 := by
        have e : (4294967296 : Nat) = 2 ^ s * 2 ^ (32 - s) := by rw [← Nat.pow_add, show s + (32 - s) = 32 by omega]
        obtain ⟨q, hq⟩ := Nat.dvd_of_mod_eq_zero s4
        have h1 : q < 2 ^ (32 - s) := by
          rw [hq, e] at s2
          exact (Nat.mul_lt_mul_left (Nat.two_pow_pos s)).1 s2
        have h2 : 2 ^ s * (q + 1) ≤ 2 ^ s * 2 ^ (32 - s) := Nat.mul_le_mul_left _ h1
        rw [← e, Nat.mul_add, ← hq] at h2
        omega
      have hor := or_join32 z lo s hs hz s4 s2
      obtain ⟨W, hW⟩ : ∃ W, x * 2 ^ s = W := ⟨_, rfl⟩
      rw [hW] at s1 s5
      obtain ⟨J, hJ⟩ : ∃ J, lo + z = J := ⟨_, rfl⟩
      rw [hJ] at HS hrow2 hcq1 hfq1 hj hor
      have sh : (x : Int) * 2 ^ s = (W : Int) := by rw [← hW]; push_cast; rfl
      have m1 : (W : Int) % 4294967296 = (lo : Int) := by omega
      have m2 : (W : Int) / 4294967296 = (hi' : Int) := by omega
      have hi1 : hi' < 4294967296 := by omega
      subst e1
      clear hx hzz hW hJ s1 s4 s6
      go_wp2_with fail
      go_roundw
      case rel =>
        refine ⟨k + 1, (Q.set k J).set (k + 1) hi', by omega, by go_num, by rw [List.length_set, List.length_set]; exact A.out.1, okw_set (okw_set oQ _ _ hj) _ _ hi1, HS.out, ?_, fun t ht => ?_, hrow2.turn2 (k + 1) hi', (hbel.setCell (p := ⟨w.heap.size, k, none⟩) (Nat.le_refl _) _).setCell (p := ⟨w.heap.size, k + 1, none⟩) (Nat.le_refl _) _⟩
        · rw [List.getElem?_set_self (by rw [List.length_set, A.out.1]; omega)]
          exact s3
        · rw [List.getElem?_set_ne (by omega), List.getElem?_set_ne (by omega)]
          exact A.out.2.2 t (by omega)
      case measure => simp [intOf]; omega
    · obtain rfl : k = xs.length := by omega
      have t1 : ¬ (xs.length : Int) < xs.length := by omega
      have HE : Hid (val Q = val xs * 2 ^ s) := (by have := A.out.2.1; rw [List.take_length] at this; exact this)
      clear hz
      go_wp2
      go_ret
      exact ⟨rfl, Q, A.out.1, oQ, HE.out, hrow, hbel⟩
end Go.Proofs.Yteplmnnpmekngaa
namespace Go.Proofs.Yteplmnnpmekngaa
open Go.RowKit

/-- A digit's difference, as takeTimes has it. -/
theorem sub_word' {x y c : Nat} (hx : x < 4294967296) (hy : y < 4294967296) (hc : c ≤ 1) : ∃ T D C : Nat, IntKind.u64.wrap (IntKind.u64.wrap ((x : Int) - y) - c) = (T : Int) ∧ (T : Int) % 4294967296 = (D : Int) ∧ (T : Int) / 9223372036854775808 = (C : Int) ∧ D < 4294967296 ∧ C ≤ 1 ∧ x + 4294967296 * C = D + y + c ∧ T < 18446744073709551616 := by
  simp only [IntKind.wrap_u64]
  by_cases h : y + c ≤ x
  · exact ⟨x - y - c, x - y - c, 0, by omega, by omega, by omega, by omega, by omega, by omega, by omega⟩
  · exact ⟨x + 18446744073709551616 - y - c, x + 4294967296 - y - c, 1, by omega, by omega, by omega, by omega, by omega, by omega, by omega⟩
theorem take_step {Q ps vs : List Nat} {k t v p c b D m c' b' : Nat} (h : val Q + t * val (vs.take k) = val ps + pw k * (c + b)) (hp : Q[k]?.getD 0 = p) (hv : vs[k]?.getD 0 = v) (hlt : k < Q.length) (h1 : t * v + c = m + 4294967296 * c') (h2 : p + 4294967296 * b' = D + m + b) :
    val (Q.set k D) + t * val (vs.take (k + 1)) = val ps + pw (k + 1) * (c' + b') := by
  have s := val_set Q k D hlt
  rw [hp] at s
  have e1 : pw k * (t * v + c) = pw k * (m + 4294967296 * c') := by rw [h1]
  have e2 : pw k * (p + 4294967296 * b') = pw k * (D + m + b) := by rw [h2]
  have e3 : t * (pw k * v) = pw k * (t * v) := by rw [← Nat.mul_assoc, Nat.mul_comm t, Nat.mul_assoc]
  have e4 : pw (k + 1) * (c' + b') = pw k * (4294967296 * c') + pw k * (4294967296 * b') := by
    rw [pw, Nat.mul_comm 4294967296 (pw k), Nat.mul_assoc, Nat.mul_add, Nat.mul_add]
  rw [val_take_succ', hv, Nat.mul_add, e3, e4]
  simp only [Nat.mul_add] at e1 e2 h
  omega
theorem take_last {Q ps vs : List Nat} {n t p c b D b' : Nat} (hn : vs.length = n) (h : val Q + t * val (vs.take n) = val ps + pw n * (c + b)) (hp : Q[n]?.getD 0 = p) (hlt : n < Q.length) (h2 : p + 4294967296 * b' = D + c + b) :
    val (Q.set n D) + t * val vs = val ps + pw (n + 1) * b' := by
  have := take_step (v := 0) (m := c) (c' := 0) h hp (get_past (by omega)) hlt (by omega) h2
  rw [List.take_of_length_le (by omega), Nat.zero_add] at this
  exact this

set_option maxRecDepth 100000 in
set_option maxHeartbeats 2000000 in
theorem take_any (g off bv ov n cp cv t : Nat) (ps vs : List Nat) (w : World) (hn : vs.length = n) (hp : ps.length = n + 1) (hb : bv < w.heap.size) (hne : bv ≠ g) (sp : Seg .u32 w g off ps) (fp : Free w g off ps.length) (sv : Seg .u32 w bv ov vs) (op : okw ps) (okv : okw vs) (ht : t < 4294967296) (hlen : n ≤ 100000) :
    Calls Try.prog 82 #[.slice (some ⟨g, off, none⟩) (n + 1) cp, .slice (some ⟨bv, ov, none⟩) n cv, .int .u64 (t : Int)] w fun e w' => ∃ (b : Nat) (qs : List Nat), e = .returned (.bool (b == 1)) ∧ b ≤ 1 ∧ qs.length = n + 1 ∧ okw qs ∧ val qs + t * val vs = val ps + pw (n + 1) * b ∧ Seg .u32 w' g off qs ∧ RowTurn w w' g off (n + 1) := by
  have HN : Hid (vs.length = n) := hn
  have HF : Hid (Free w g off (n + 1)) := (by show Free _ _ _ _; rw [← hp]; exact fp)
  go_enter Try.func82, Try.ntmps82
  go_wp2_with fail
  go_loopw [7, 8, 16] (fun c b i wr => ∃ (k cv bv : Nat) (Q : List Nat), k ≤ n ∧ i = .int .i64 (k : Int) ∧ c = .int .u64 (cv : Int) ∧ b = .int .u64 (bv : Int) ∧ cv < 4294967296 ∧ bv ≤ 1 ∧ Q.length = n + 1 ∧ okw Q ∧ val Q + t * val (vs.take k) = val ps + pw k * (cv + bv) ∧ Seg .u32 wr g off Q ∧ RowTurn w wr g off (n + 1)) (fun _ _ i _ => n - (intOf i).toNat)
  case atStart => exact ⟨0, 0, 0, ps, Nat.zero_le _, rfl, rfl, rfl, by omega, by omega, hp, op, by simp [val], sp, RowTurn.refl _ _ _ _⟩
  case round =>
    clear sp fp hp hn
    obtain ⟨k, c, b, Q, hk, rfl, rfl, rfl, hc, hb1, hQ, oQ, hval, sQ, hrt⟩ := hrel
    have HV : Hid (val Q + t * val (vs.take k) = val ps + pw k * (c + b)) := hval
    have hcp := sQ k (by omega)
    have hfp : wr.frozen? ⟨g, off + k, none⟩ = false := (hrt.frozen _).trans (HF.out k (by omega))
    have hx1 := okw_get oQ k
    obtain ⟨p, hp'⟩ : ∃ p, Q[k]?.getD 0 = p := ⟨_, rfl⟩
    rw [hp'] at hcp hx1
    have HP : Hid (Q[k]?.getD 0 = p) := hp'
    have HL : Hid (Q.length = n + 1) := hQ
    have hkl : k < Q.length := by omega
    clear hval hp' hQ
    by_cases hkn : k < n
    · have hcv : wr.cell? ⟨bv, ov + k, none⟩ = some (.int .u32 ((vs[k]?.getD 0 : Nat) : Int)) := (sv.turn hrt hb hne) k (by rw [HN.out]; exact hkn)
      have hv1 := okw_get okv k
      obtain ⟨v, hv'⟩ : ∃ v, vs[k]?.getD 0 = v := ⟨_, rfl⟩
      rw [hv'] at hcv hv1
      have HVV : Hid (vs[k]?.getD 0 = v) := hv'
      obtain ⟨M, hM⟩ : ∃ M, t * v = M := ⟨_, rfl⟩
      have hM1 : M ≤ 4294967295 * 4294967295 := by rw [← hM]; exact Nat.mul_le_mul (by omega) (by omega)
      have s0 : (t : Int) * v = (M : Int) := by rw [← hM]; push_cast; rfl
      obtain ⟨S, hS⟩ : ∃ S, M + c = S := ⟨_, rfl⟩
      have s1 : (M : Int) + c = (S : Int) := by omega
      have hS1 : S < 18446744073709551616 := by omega
      obtain ⟨m, hm⟩ : ∃ m, S % 4294967296 = m := ⟨_, rfl⟩
      obtain ⟨c', hc'⟩ : ∃ c', S / 4294967296 = c' := ⟨_, rfl⟩
      have s2 : (S : Int) / 4294967296 = (c' : Int) := by omega
      have s3 : bits BinOp.and IntKind.u64 (S : Int) 4294967295 = (m : Int) := by rw [and_low32 _ (by omega) (by omega)]; omega
      have hm1 : m < 4294967296 := by omega
      have hc1 : c' < 4294967296 := by omega
      obtain ⟨T, D, C, r1, r2, r3, hD1, hC1, hs, hT⟩ := sub_word' hx1 hm1 hb1
      have HST : Hid (val (Q.set k D) + t * val (vs.take (k + 1)) = val ps + pw (k + 1) * (c' + C)) := take_step HV.out HP.out HVV.out hkl (by omega) hs
      have t1 : (k : Int) < n := by omega
      clear hv' hM hS hm hc' hs
      go_wp2_with fail
      go_roundw
      case rel => exact ⟨k + 1, c', C, Q.set k D, by omega, by go_num, rfl, rfl, hc1, hC1, by rw [List.length_set]; exact HL.out, okw_set oQ _ _ hD1, HST.out, sQ.set k hkl D, hrt.set k (by omega) _⟩
      case measure => simp [intOf]; omega
    · obtain rfl : k = n := by omega
      obtain ⟨T, D, C, r1, r2, r3, hD1, hC1, hs, hT⟩ := sub_word' hx1 hc hb1
      have HST : Hid (val (Q.set k D) + t * val vs = val ps + pw (k + 1) * C) := take_last HN.out HV.out HP.out hkl hs
      have t1 : ¬ (k : Int) < k := by omega
      have r4 : ((C : Int) == 1) = (C == 1) := by
        rcases Nat.le_one_iff_eq_zero_or_eq_one.1 hC1 with rfl | rfl <;> rfl
      have hset := sQ.set k hkl D
      have hturn := hrt.set k (by omega) (.int .u32 (D : Int))
      clear hs
      go_wp2
      go_ret
      exact ⟨C, rfl, hC1, Q.set k D, by rw [List.length_set]; exact HL.out, okw_set oQ _ _ hD1, HST.out, hset, hturn⟩
end Go.Proofs.Yteplmnnpmekngaa
namespace Go.Proofs.Yteplmnnpmekngaa
open Go.RowKit

/-- The greatest word that fits: Y the divisor's two highest words, u and d the three highest words of what is divided. -/
def Most (Y u d q : Nat) : Prop := q < 4294967296 ∧ q * Y ≤ u * 4294967296 + d ∧ (q + 1 < 4294967296 → u * 4294967296 + d < (q + 1) * Y)
/-- .. while it is sought. -/
structure Sk (Y y1 u d q r : Nat) : Prop where
  sum : q * y1 + r = u
  rlt : r < 4294967296
  big : q + 1 < 4294967296 → u * 4294967296 + d < (q + 1) * Y
  top : 4294967296 ≤ q → q = 4294967296 ∨ r + y1 < 4294967296
theorem Sk.start {Y y1 y0 u d : Nat} (n : Norm Y y1 y0) (hu : u ≤ Y) (hd : d < 4294967296) : Sk Y y1 u d (u / y1) (u % y1) := by
  have g := Gs.start (u := u) n hd
  refine ⟨g.sum, g.rlt, fun _ => g.big, fun hq => ?_⟩
  have s := g.sum
  have e := n.eq
  have h0 := n.lo
  have h1 := n.ge
  obtain ⟨q, hq'⟩ : ∃ q, u / y1 = q := ⟨_, rfl⟩
  obtain ⟨r, hr'⟩ : ∃ r, u % y1 = r := ⟨_, rfl⟩
  rw [hq', hr'] at s
  rw [hq'] at hq ⊢
  rw [hr']
  rcases Nat.eq_or_lt_of_le hq with h | h
  · exact Or.inl h.symm
  · right
    have : 4294967297 * y1 ≤ q * y1 := Nat.mul_le_mul_right _ h
    generalize q * y1 = A at s this
    omega
theorem Sk.fits {Y y1 y0 u d q r : Nat} (n : Norm Y y1 y0) (g : Sk Y y1 u d q r) (h1 : q < 4294967296) (h : q * y0 ≤ r * 4294967296 + d) : Most Y u d q := by
  refine ⟨h1, ?_, g.big⟩
  rw [mul_norm n q]
  have s := g.sum
  generalize q * y1 = A at s ⊢
  generalize q * y0 = B at h ⊢
  omega
theorem arith_great {u d A r B : Nat} (s : A + r = u) (h : r * 4294967296 + d < B) : u * 4294967296 + d < A * 4294967296 + B := by
  subst s
  rw [Nat.add_mul, Nat.add_assoc]
  exact Nat.add_lt_add_left h _
theorem Sk.great {Y y1 y0 u d q r : Nat} (n : Norm Y y1 y0) (g : Sk Y y1 u d (q + 1) r) (h : 4294967296 ≤ q + 1 ∨ r * 4294967296 + d < (q + 1) * y0) : q + 1 < 4294967296 → u * 4294967296 + d < (q + 1) * Y := fun hq => by
  rcases h with h | h
  · exact absurd hq (Nat.not_lt.2 h)
  · rw [mul_norm n (q + 1)]
    exact arith_great g.sum h
theorem Sk.down {Y y1 y0 u d q r : Nat} (n : Norm Y y1 y0) (g : Sk Y y1 u d (q + 1) r) (h : 4294967296 ≤ q + 1 ∨ r * 4294967296 + d < (q + 1) * y0) (hr : r + y1 < 4294967296) (hu : u ≤ Y) : Sk Y y1 u d q (r + y1) := by
  have s := g.sum
  rw [Nat.add_mul, Nat.one_mul] at s
  refine ⟨by omega, hr, g.great n h, fun hq => ?_⟩
  rcases Nat.eq_or_lt_of_le hq with h1 | h1
  · exact Or.inl h1.symm
  · right
    have e := n.eq
    have h0 := n.lo
    have : 4294967297 * y1 ≤ q * y1 := Nat.mul_le_mul_right _ h1
    have hge := n.ge
    generalize q * y1 = A at s this
    omega
theorem Sk.breaks {Y y1 y0 u d q r : Nat} (n : Norm Y y1 y0) (g : Sk Y y1 u d (q + 1) r) (h : 4294967296 ≤ q + 1 ∨ r * 4294967296 + d < (q + 1) * y0) (hr : 4294967296 ≤ r + y1) : Most Y u d q := by
  have hq : q < 4294967296 := by
    rcases Nat.lt_or_ge q 4294967296 with h1 | h1
    · exact h1
    · rcases g.top (by omega) with h2 | h2 <;> omega
  refine ⟨hq, ?_, g.great n h⟩
  have s := g.sum
  rw [Nat.add_mul, Nat.one_mul] at s
  rw [mul_norm n q]
  have h3 : q * y0 ≤ 4294967295 * 4294967295 := Nat.mul_le_mul (by omega) (by have := n.lo; omega)
  generalize q * y1 = A at s ⊢
  generalize q * y0 = B at h3 ⊢
  omega

set_option maxRecDepth 100000 in
set_option maxHeartbeats 2000000 in
theorem guess_any (g off bv ov m cp cv Y y1 y0 p2 p1 p0 : Nat) (w : World) (c2 : w.cell? ⟨g, off + (m + 2), none⟩ = some (.int .u32 (p2 : Int))) (c1 : w.cell? ⟨g, off + (m + 1), none⟩ = some (.int .u32 (p1 : Int))) (c0 : w.cell? ⟨g, off + m, none⟩ = some (.int .u32 (p0 : Int))) (d1 : w.cell? ⟨bv, ov + (m + 1), none⟩ = some (.int .u32 (y1 : Int))) (d0 : w.cell? ⟨bv, ov + m, none⟩ = some (.int .u32 (y0 : Int))) (n : Norm Y y1 y0) (h2 : p2 < 4294967296) (h1 : p1 < 4294967296) (h0 : p0 < 4294967296) (hu : p2 * 4294967296 + p1 ≤ Y) (hm : m ≤ 100000) :
    Calls Try.prog 81 #[.slice (some ⟨g, off, none⟩) (m + 3) cp, .slice (some ⟨bv, ov, none⟩) (m + 2) cv] w fun e w' => ∃ q : Nat, e = .returned (.int .u64 (q : Int)) ∧ Most Y (p2 * 4294967296 + p1) p0 q ∧ Below w.heap.size w w' := by
  have hor := or_join p2 p1 h2 h1
  obtain ⟨u, hu'⟩ : ∃ u, p2 * 4294967296 + p1 = u := ⟨_, rfl⟩
  have eu : (p2 : Int) * 4294967296 + p1 = (u : Int) := by omega
  rw [eu] at hor
  rw [hu'] at hu ⊢
  have yl := n.lt
  have zl := n.lo
  have yg := n.ge
  have e1 : (((m + 2 : Nat) : Int) - 1) = ((m + 1 : Nat) : Int) := by omega
  have e2 : (((m + 2 : Nat) : Int) - 2) = (m : Int) := by omega
  go_enter Try.func81, Try.ntmps81
  go_wp2_with fail
  go_region
  go_wp2_with fail
  go_region
  have HS : Hid (Sk Y y1 u p0 (u / y1) (u % y1)) := Sk.start n hu h0
  have gd : ¬ (y1 : Int) = 0 := by omega
  have gl : ¬ (y1 : Int) ≤ 0 := by omega
  obtain ⟨q0, hq0⟩ : ∃ k, u / y1 = k := ⟨_, rfl⟩
  obtain ⟨r0, hr0⟩ : ∃ k, u % y1 = k := ⟨_, rfl⟩
  have g1 : IntKind.u64.wrap ((u : Int) / y1) = (q0 : Int) := by
    rw [show (u : Int) / y1 = (q0 : Int) by rw [← hq0]; push_cast; rfl]
    exact wrap_cast _ (by rw [← hq0]; exact Nat.lt_of_le_of_lt (Nat.div_le_self _ _) (by omega))
  have g2 : (u : Int) % y1 = (r0 : Int) := by rw [← hr0]; push_cast; rfl
  rw [hq0, hr0] at HS
  have hq18 : q0 < 18446744073709551616 := by rw [← hq0]; exact Nat.lt_of_le_of_lt (Nat.div_le_self _ _) (by omega)
  clear hq0 hr0 hor eu hu'
  go_wp2_with fail
  go_region
  go_wp2_with fail
  clear g1
  have hB : Below w.heap.size w w.drew.drew.drew := (Below.refl _ _).drew.drew.drew
  go_loopw [9, 10] (fun a b W => ∃ q r : Nat, a = .int .u64 (q : Int) ∧ b = .int .u64 (r : Int) ∧ Sk Y y1 u p0 q r ∧ q < 18446744073709551616 ∧ W = w.drew.drew.drew) (fun a _ _ => (intOf a).toNat)
  case atStart => exact ⟨q0, r0, rfl, by rw [g2], HS.out, hq18, rfl⟩
  case round =>
    clear HS hq18 g2
    obtain ⟨q, r, rfl, rfl, g, hq18, rfl⟩ := hrel
    have hrl := g.rlt
    have hor := or_join r p0 hrl h0
    have G : Hid (Sk Y y1 u p0 q r) := g
    clear g
    by_cases cA : 4294967296 ≤ q
    · obtain ⟨q', rfl⟩ : ∃ q', q = q' + 1 := ⟨q - 1, by omega⟩
      have t1 : (4294967295 : Int) < (q' : Int) + 1 := by omega
      have HA : Hid (4294967296 ≤ q' + 1) := cA
      clear cA
      by_cases hr : 4294967296 ≤ r + y1
      · have t2 : (4294967295 : Int) < (r : Int) + y1 := by omega
        have HF : Hid (Most Y u p0 q') := Sk.breaks n G.out (Or.inl HA.out) hr
        clear hr
        go_wp2
        go_ret
        exact ⟨q', rfl, HF.out, hB⟩
      · have t2 : ¬ (4294967295 : Int) < (r : Int) + y1 := by omega
        have HF : Hid (Sk Y y1 u p0 q' (r + y1)) := Sk.down n G.out (Or.inl HA.out) (by omega) hu
        clear hr
        go_wp2_with fail
        go_roundw
        case rel => exact ⟨q', r + y1, rfl, by go_num, HF.out, by omega, trivial⟩
        case measure => simp [intOf]
    · have t1 : ¬ (4294967295 : Int) < (q : Int) := by omega
      obtain ⟨P, hP⟩ : ∃ k, q * y0 = k := ⟨_, rfl⟩
      have hP1 : P < 18446744073709551616 := by
        have : q * y0 ≤ 4294967295 * 4294967295 := Nat.mul_le_mul (by omega) (by omega)
        omega
      have e3 : (q : Int) * y0 = (P : Int) := by rw [← hP]; push_cast; rfl
      by_cases cB : r * 4294967296 + p0 < P
      · have HB : Hid (r * 4294967296 + p0 < q * y0) := (by show _ < _; rw [hP]; exact cB)
        have t3 : (r : Int) * 4294967296 + p0 < (P : Int) := by omega
        have q0' : 0 < q := Nat.pos_of_ne_zero fun h => by subst h; simp at hP; omega
        obtain ⟨q', rfl⟩ : ∃ q', q = q' + 1 := ⟨q - 1, by omega⟩
        have e4 : ((q' : Int) + 1) * y0 = (P : Int) := by rw [← hP]; push_cast; rfl
        have t4 : ¬ (4294967295 : Int) < (q' : Int) + 1 := by omega
        clear cB hP e3 cA t1 q0'
        by_cases hr : 4294967296 ≤ r + y1
        · have t2 : (4294967295 : Int) < (r : Int) + y1 := by omega
          have HF : Hid (Most Y u p0 q') := Sk.breaks n G.out (Or.inr HB.out) hr
          clear hr
          go_wp2
          go_ret
          exact ⟨q', rfl, HF.out, hB⟩
        · have t2 : ¬ (4294967295 : Int) < (r : Int) + y1 := by omega
          have HF : Hid (Sk Y y1 u p0 q' (r + y1)) := Sk.down n G.out (Or.inr HB.out) (by omega) hu
          clear hr
          go_wp2_with fail
          go_roundw
          case rel => exact ⟨q', r + y1, rfl, by go_num, HF.out, by omega, trivial⟩
          case measure => simp [intOf]
      · have HF : Hid (Most Y u p0 q) := Sk.fits n G.out (by omega) (by rw [hP]; omega)
        have t3 : ¬ (r : Int) * 4294967296 + p0 < (P : Int) := by omega
        clear cB hP cA
        go_wp2
        go_ret
        exact ⟨q, rfl, HF.out, hB⟩
end Go.Proofs.Yteplmnnpmekngaa
namespace Go.Proofs.Yteplmnnpmekngaa
open Go.RowKit

theorem top_le {P V Y Vl Pl u d M : Nat} (hV : V = Y * M + Vl) (hVl : Vl < M) (hP : P = (u * 4294967296 + d) * M + Pl) (hq : P < 4294967296 * V) : u ≤ Y := by
  refine Nat.le_of_lt_succ (Nat.lt_of_not_le fun h => ?_)
  have h1 : (Y + 1) * (4294967296 * M) ≤ u * (4294967296 * M) := Nat.mul_le_mul_right _ h
  have e1 : (u * 4294967296 + d) * M = u * (4294967296 * M) + d * M := by rw [Nat.add_mul, Nat.mul_assoc]
  have e2 : 4294967296 * V = Y * (4294967296 * M) + 4294967296 * Vl := by rw [hV, Nat.mul_add, Nat.mul_left_comm]
  have e3 : (Y + 1) * (4294967296 * M) = Y * (4294967296 * M) + 4294967296 * M := by rw [Nat.add_mul, Nat.one_mul]
  have h2 : 4294967296 * Vl ≤ 4294967296 * M := Nat.mul_le_mul_left _ (Nat.le_of_lt hVl)
  rw [e1] at hP
  rw [e2] at hq
  rw [e3] at h1
  generalize Y * (4294967296 * M) = A at *
  generalize u * (4294967296 * M) = B at *
  generalize d * M = C at *
  omega
theorem guess_two {P V Y Vl Pl u d g M : Nat} (hV : V = Y * M + Vl) (hVl : Vl < M) (hP : P = (u * 4294967296 + d) * M + Pl) (hPl : Pl < M) (hY : 4294967296 ≤ Y) (hq : P < 4294967296 * V) (hg : Most Y u d g) : (g * V ≤ P ∧ P < (g + 1) * V) ∨ (0 < g ∧ P < g * V ∧ (g - 1) * V ≤ P) := by
  obtain ⟨g1, g2, g3⟩ := hg
  obtain ⟨T, hT⟩ : ∃ T, u * 4294967296 + d = T := ⟨_, rfl⟩
  rw [hT] at hP g2 g3
  have up : P < (g + 1) * V := by
    rcases Nat.lt_or_ge (g + 1) 4294967296 with h | h
    · have h1 : (T + 1) * M ≤ (g + 1) * Y * M := Nat.mul_le_mul_right _ (g3 h)
      have e1 : (T + 1) * M = T * M + M := by rw [Nat.add_mul, Nat.one_mul]
      have e2 : (g + 1) * V = (g + 1) * Y * M + (g + 1) * Vl := by rw [hV, Nat.mul_add, Nat.mul_assoc]
      rw [e1] at h1
      rw [e2, hP]
      generalize (g + 1) * Y * M = A at *
      generalize T * M = B at *
      omega
    · have e : g + 1 = 4294967296 := Nat.le_antisymm g1 h
      rw [e]
      exact hq
  rcases Nat.lt_or_ge P (g * V) with h | h
  · right
    have hg0 : 0 < g := Nat.pos_of_ne_zero fun e => by rw [e, Nat.zero_mul] at h; exact absurd h (Nat.not_lt_zero _)
    refine ⟨hg0, h, ?_⟩
    obtain ⟨k, rfl⟩ : ∃ k, g = k + 1 := ⟨g - 1, by omega⟩
    rw [Nat.add_sub_cancel]
    have e1 : k * V = k * Y * M + k * Vl := by rw [hV, Nat.mul_add, Nat.mul_assoc]
    have h1 : k * Vl ≤ Y * M := Nat.mul_le_mul (Nat.le_trans (Nat.le_of_lt (Nat.lt_of_succ_lt g1)) hY) (Nat.le_of_lt hVl)
    have h2 : (k + 1) * Y * M ≤ T * M := Nat.mul_le_mul_right _ g2
    have e2 : (k + 1) * Y * M = k * Y * M + Y * M := by rw [Nat.add_mul, Nat.one_mul, Nat.add_mul]
    rw [e2] at h2
    rw [e1, hP]
    generalize k * Y * M = A at *
    generalize T * M = B at *
    generalize Y * M = C at *
    generalize k * Vl = D at *
    omega
  · exact Or.inl ⟨h, up⟩
/-- What takeTimes leaves, where the guess was right. -/
theorem took_right {P G R K b : Nat} (h : R + G = P + K * b) (hR : R < K) (hG : G ≤ P) (hb : b ≤ 1) : b = 0 ∧ R = P - G := by
  rcases Nat.le_one_iff_eq_zero_or_eq_one.1 hb with rfl | rfl
  · rw [Nat.mul_zero] at h
    exact ⟨rfl, by omega⟩
  · rw [Nat.mul_one] at h
    omega
/-- .. and where it was one too great. -/
theorem took_over {P G R K b : Nat} (h : R + G = P + K * b) (hG : P < G) (hb : b ≤ 1) : b = 1 ∧ R + G = P + K := by
  rcases Nat.le_one_iff_eq_zero_or_eq_one.1 hb with rfl | rfl
  · rw [Nat.mul_zero] at h
    omega
  · rw [Nat.mul_one] at h
    exact ⟨rfl, h⟩
/-- v is put back: the carry meets what was borrowed. M: the weight of the highest word, t that word, L what lies below it; L' and c what addInto makes of it. -/
theorem put_back {P G V L L' c t M : Nat} (h : L + M * t + G = P + 4294967296 * M) (hGV : G ≤ P + V) (hV : P + V < G + M) (ha : L + V = L' + M * c) (hL' : L' < M) (hM : 0 < M) : t + c = 4294967296 ∧ L' = P + V - G := by
  have h1 : L' + M * (t + c) = (P + V - G) + M * 4294967296 := by rw [Nat.mul_add, Nat.mul_comm M 4294967296]; omega
  have h2 := congrArg (· / M) h1
  simp only [Nat.add_mul_div_left _ _ hM, Nat.div_eq_of_lt hL', Nat.div_eq_of_lt (show P + V - G < M by omega), Nat.zero_add] at h2
  refine ⟨h2, ?_⟩
  rw [h2] at h1
  omega
end Go.Proofs.Yteplmnnpmekngaa
