/-
  The reference: by.
-/
import Derived.Test.YteplmnnpmekngaaRText
namespace Go.Proofs.Yteplmnnpmekngaa
open Go.RowKit

set_option maxRecDepth 100000 in
set_option maxHeartbeats 2000000 in
theorem rplus_ne (ax ay : Option Addr) (nx cx ny cy : Nat) (xs ys : List Nat) (w : World) (hx : Sl .u32 w (.slice ax nx cx) xs) (hy : Sl .u32 w (.slice ay ny cy) ys) (bx : xs.length ≤ 100000) (by_ : ys.length ≤ 100000) (ox : okw xs) (oy : okw ys) :
    Calls Try.prog 67 #[.slice ax nx cx, .slice ay ny cy] w fun e w' => ∃ v zs, e = .returned v ∧ Words w.heap.size w' v zs ∧ okw zs ∧ val zs = val xs + val ys ∧ zs.length ≤ 100001 ∧ zs ≠ [] ∧ Below w.heap.size w w' := by
  obtain ⟨i0, hi, hz0, hz1, hz2⟩ := info_parts Try.infoWord
  obtain ⟨b, off, px, sx⟩ := hx.place
  obtain ⟨b2, off2, py, sy⟩ := hy.place
  have e1 := hx.len
  have e2 := hy.len
  subst e1; subst e2
  have ne : ∀ (zs : List Nat) k, k < zs.length → zs ≠ [] := fun zs k h h0 => by rw [h0] at h; simp at h
  clear hx hy
  go_enter Try.func67, Try.ntmps67
  go_wp2_with fail
  go_loopw [5, 6, 7] (fun o c i wr => ∃ (k cv : Nat) (ds : List Nat), i = .int .i64 (k : Int) ∧ c = .int .u64 (cv : Int) ∧ Words w.heap.size wr o ds ∧ ds.length = k ∧ okw ds ∧ cv ≤ 1 ∧ k ≤ 100000 ∧ (k ≤ xs.length ∨ k ≤ ys.length) ∧ val ds + pw k * cv = val (xs.take k) + val (ys.take k) ∧ Below w.heap.size w wr) (fun _ _ i _ => 100000 - (intOf i).toNat)
  case atStart => exact ⟨0, 0, [], rfl, rfl, Words.nil _ _, rfl, okw_nil, by omega, by omega, by omega, by simp [val, pw], Below.refl _ _⟩
  case round =>
    obtain ⟨k, cv, ds, rfl, rfl, hw, hd, od, hcv, hk, hkk, hval, hb⟩ := hrel
    have hwr : w.heap.size ≤ wr.heap.size := hb.size
    have hown : wr.ownsRow w.heap.size 55 1 u5 ds.length (ds.map fun x : Nat => Value.int .u32 (x : Int)) := hw
    have hx1 := okw_get ox k
    have hy1 := okw_get oy k
    by_cases hend : k < xs.length ∨ k < ys.length
    · -- one digit more
      have key : ∀ S : Nat, xs[k]?.getD 0 + ys[k]?.getD 0 + cv = S → val (ds ++ [S % 4294967296]) + pw (k + 1) * (S / 4294967296) = val (xs.take (k + 1)) + val (ys.take (k + 1)) := fun S hS => add_val hval hd rfl rfl (by rw [hS]; omega)
      obtain ⟨S, hS⟩ : ∃ S, xs[k]?.getD 0 + ys[k]?.getD 0 + cv = S := ⟨_, rfl⟩
      have HK : Hid (val (ds ++ [S % 4294967296]) + pw (k + 1) * (S / 4294967296) = val (xs.take (k + 1)) + val (ys.take (k + 1))) := key S hS
      have hS1 : S < 8589934592 := by omega
      have HD : Hid (ds.length = k) := hd
      have hdl : ds.length ≤ 100000 := by omega
      obtain ⟨D, hD⟩ : ∃ D, S % 4294967296 = D := ⟨_, rfl⟩
      obtain ⟨C, hC⟩ : ∃ C, S / 4294967296 = C := ⟨_, rfl⟩
      have s1 : (S : Int) % 4294967296 = (D : Int) := by omega
      have s2 : (S : Int) / 4294967296 = (C : Int) := by omega
      have hC1 : C ≤ 1 := by omega
      have hD1 : D < 4294967296 := by omega
      rw [hD, hC] at HK
      clear key hval hd hD hC
      by_cases h1 : k < xs.length
      · obtain ⟨ea, hla⟩ := px (ne _ _ h1)
        have hcx : wr.cell? ⟨b, off + k, none⟩ = some (.int .u32 ((xs[k]?.getD 0 : Nat) : Int)) := (sx.below hb hla) k h1
        obtain ⟨x, hx'⟩ : ∃ x, xs[k]?.getD 0 = x := ⟨_, rfl⟩
        rw [hx'] at hcx hS hx1
        subst ea
        by_cases h2 : k < ys.length
        · obtain ⟨eb, hlb⟩ := py (ne _ _ h2)
          have hcy : wr.cell? ⟨b2, off2 + k, none⟩ = some (.int .u32 ((ys[k]?.getD 0 : Nat) : Int)) := (sy.below hb hlb) k h2
          obtain ⟨y, hy'⟩ : ∃ y, ys[k]?.getD 0 = y := ⟨_, rfl⟩
          rw [hy'] at hcy hS hy1
          subst eb
          have s3 : (cv : Int) + x + y = (S : Int) := by omega
          have t1 : (k : Int) < xs.length := by omega
          have t2 : (k : Int) < ys.length := by omega
          clear hx' hy' hS hend px py sx sy hkk
          go_wp2_with (at_builtin; refine wpList_append_own _ rfl _ _ 22 rfl w.heap.size 55 i0 (.int .u32 0) 1 4 Try.underlying22 hi hz0 hz1 hz2 rfl (by decide) _ _ _ rfl (World.ownsRow.alloc hown _) ⟨wr.heap.size, 0, none⟩ 1 1 [.int .u32 (D : Int)] rfl rfl (new_one _ _ _) (by simp [Value.oneCell']) (by unfold maxLen; omega) (by omega) (by simp; omega) ?_; intro v' w1 hown2 hgrow _)
          have hgrow' : (wr.alloc (.cells #[.int .u32 (D : Int)] 55)).grownBy w1 u5.ownBlock := hgrow
          have B1 := below_grown hb (Nat.le_refl _) hown hgrow'
          have W1 := words_snoc hown2
          go_roundw
          case rel => exact ⟨k + 1, C, ds ++ [D], by go_num, rfl, W1, by simp [HD.out], okw_append.2 ⟨od, okw_cons.2 ⟨hD1, okw_nil⟩⟩, hC1, by omega, by omega, HK.out, B1⟩
          case measure => simp [intOf]; omega
        · have y0 := get_past h2
          have s3 : (cv : Int) + x = (S : Int) := by omega
          have t1 : (k : Int) < xs.length := by omega
          have t2 : ¬ (k : Int) < ys.length := by omega
          clear hx' hS hend px py sx sy hkk y0 hy1
          go_wp2_with (at_builtin; refine wpList_append_own _ rfl _ _ 22 rfl w.heap.size 55 i0 (.int .u32 0) 1 4 Try.underlying22 hi hz0 hz1 hz2 rfl (by decide) _ _ _ rfl (World.ownsRow.alloc hown _) ⟨wr.heap.size, 0, none⟩ 1 1 [.int .u32 (D : Int)] rfl rfl (new_one _ _ _) (by simp [Value.oneCell']) (by unfold maxLen; omega) (by omega) (by simp; omega) ?_; intro v' w1 hown2 hgrow _)
          have hgrow' : (wr.alloc (.cells #[.int .u32 (D : Int)] 55)).grownBy w1 u5.ownBlock := hgrow
          have B1 := below_grown hb (Nat.le_refl _) hown hgrow'
          have W1 := words_snoc hown2
          go_roundw
          case rel => exact ⟨k + 1, C, ds ++ [D], by go_num, rfl, W1, by simp [HD.out], okw_append.2 ⟨od, okw_cons.2 ⟨hD1, okw_nil⟩⟩, hC1, by omega, by omega, HK.out, B1⟩
          case measure => simp [intOf]; omega
      · have x0 := get_past h1
        have h2 : k < ys.length := by omega
        · obtain ⟨eb, hlb⟩ := py (ne _ _ h2)
          have hcy : wr.cell? ⟨b2, off2 + k, none⟩ = some (.int .u32 ((ys[k]?.getD 0 : Nat) : Int)) := (sy.below hb hlb) k h2
          obtain ⟨y, hy'⟩ : ∃ y, ys[k]?.getD 0 = y := ⟨_, rfl⟩
          rw [hy'] at hcy hS hy1
          subst eb
          have s3 : (cv : Int) + y = (S : Int) := by omega
          have t1 : ¬ (k : Int) < xs.length := by omega
          have t2 : (k : Int) < ys.length := by omega
          clear hy' hS hend px py sx sy hkk x0 hx1
          go_wp2_with (at_builtin; refine wpList_append_own _ rfl _ _ 22 rfl w.heap.size 55 i0 (.int .u32 0) 1 4 Try.underlying22 hi hz0 hz1 hz2 rfl (by decide) _ _ _ rfl (World.ownsRow.alloc hown _) ⟨wr.heap.size, 0, none⟩ 1 1 [.int .u32 (D : Int)] rfl rfl (new_one _ _ _) (by simp [Value.oneCell']) (by unfold maxLen; omega) (by omega) (by simp; omega) ?_; intro v' w1 hown2 hgrow _)
          have hgrow' : (wr.alloc (.cells #[.int .u32 (D : Int)] 55)).grownBy w1 u5.ownBlock := hgrow
          have B1 := below_grown hb (Nat.le_refl _) hown hgrow'
          have W1 := words_snoc hown2
          go_roundw
          case rel => exact ⟨k + 1, C, ds ++ [D], by go_num, rfl, W1, by simp [HD.out], okw_append.2 ⟨od, okw_cons.2 ⟨hD1, okw_nil⟩⟩, hC1, by omega, by omega, HK.out, B1⟩
          case measure => simp [intOf]; omega
    · -- the last digit
      have t1 : ¬ (k : Int) < xs.length := by omega
      have t2 : ¬ (k : Int) < ys.length := by omega
      have hdl : ds.length ≤ 100000 := by omega
      have HE : Hid (val (ds ++ [cv]) = val xs + val ys) := (by
        show _ = _
        rw [val_append, hd]
        rw [List.take_of_length_le (by omega), List.take_of_length_le (by omega)] at hval
        simp only [val]
        omega)
      have HD : Hid (ds.length = k) := hd
      clear hval hd hend hkk px py sx sy hx1 hy1
      go_wp2_with (at_builtin; refine wpList_append_own _ rfl _ _ 22 rfl w.heap.size 55 i0 (.int .u32 0) 1 4 Try.underlying22 hi hz0 hz1 hz2 rfl (by decide) _ _ _ rfl (World.ownsRow.alloc hown _) ⟨wr.heap.size, 0, none⟩ 1 1 [.int .u32 (cv : Int)] rfl rfl (new_one _ _ _) (by simp [Value.oneCell']) (by unfold maxLen; omega) (by omega) (by simp; omega) ?_; intro v' w1 hown2 hgrow _)
      have hgrow' : (wr.alloc (.cells #[.int .u32 (cv : Int)] 55)).grownBy w1 u5.ownBlock := hgrow
      have B1 := below_grown hb (Nat.le_refl _) hown hgrow'
      have W1 := words_snoc hown2
      go_ret
      exact ⟨_, rfl, ds ++ [cv], W1, okw_append.2 ⟨od, okw_cons.2 ⟨by omega, okw_nil⟩⟩, HE.out, by simp; omega, by simp, B1⟩


theorem or_one (z : Nat) (hz : z % 2 = 0) (h : z < 4294967296) : bits BinOp.or IntKind.u32 (z : Int) 1 = ((z + 1 : Nat) : Int) := by
  rw [bits_join .u32 32 (by decide) (fun n h0 h1 => by rw [IntKind.wrap_u32]; omega) 1 _ _ (by omega) (by omega) (by omega) (by omega) (by omega) (by omega)]
  push_cast; rfl
theorem or_bit (z s : Nat) (hs : s < 32) (hz : z % 2 ^ (s + 1) = 0) (h : z < 4294967296) : bits BinOp.or IntKind.u32 (z : Int) ((2 ^ s : Nat) : Int) = ((z + 2 ^ s : Nat) : Int) ∧ z + 2 ^ s < 4294967296 := by
  have h1 : 2 ^ s < 2 ^ (s + 1) := by rw [Nat.pow_succ]; have := Nat.two_pow_pos s; omega
  have e : (4294967296 : Nat) = 2 ^ (s + 1) * 2 ^ (31 - s) := by rw [← Nat.pow_add, show s + 1 + (31 - s) = 32 by omega]
  have h2 : 2 ^ (s + 1) ≤ 4294967296 := by rw [e]; exact Nat.le_mul_of_pos_right _ (Nat.two_pow_pos _)
  have h3 : z + 2 ^ (s + 1) ≤ 4294967296 := by
    obtain ⟨q, hq⟩ := Nat.dvd_of_mod_eq_zero hz
    rw [hq, e] at h
    have h4 := (Nat.mul_lt_mul_left (Nat.two_pow_pos (s + 1))).1 h
    have h5 : 2 ^ (s + 1) * (q + 1) ≤ 2 ^ (s + 1) * 2 ^ (31 - s) := Nat.mul_le_mul_left _ h4
    rw [← e, Nat.mul_add, ← hq] at h5
    omega
  refine ⟨?_, by omega⟩
  rw [bits_join .u32 32 (by decide) (fun n h0 h1 => by rw [IntKind.wrap_u32]; omega) (s + 1) _ _ (by omega) (by exact_mod_cast hz) (by omega) (by omega) (by exact_mod_cast h1) (by omega)]
  push_cast; rfl
theorem word_of {Q : List Nat} (o : okw Q) (p : Nat) (h : p < Q.length) : Q[p]?.getD 0 = val Q / pw p % 4294967296 := by
  have h1 := val_split Q p (by omega)
  have h2 := val_lt (okw_take o p)
  rw [List.length_take, Nat.min_eq_left (by omega)] at h2
  rw [h1, Nat.add_mul_div_left _ _ (pw_pos p), Nat.div_eq_of_lt h2, Nat.zero_add, val_drop_get Q p h, Nat.add_mul_mod_self_left, Nat.mod_eq_of_lt (okw_get o p)]
/-- The word of a number that ends in noughts ends in noughts. -/
theorem word_low {Q : List Nat} (o : okw Q) {p s i D : Nat} (hp : p < Q.length) (hs : s < 32) (hi : i = 32 * p + s) (hv : val Q = D * 2 ^ (i + 1)) : Q[p]?.getD 0 % 2 ^ (s + 1) = 0 := by
  rw [word_of o p hp, hv, pw_two, hi, show 32 * p + s + 1 = 32 * p + (s + 1) by omega, Nat.pow_add, ← Nat.mul_assoc, Nat.mul_right_comm, Nat.mul_div_cancel _ (Nat.two_pow_pos _)]
  rw [show (4294967296 : Nat) = 2 ^ (s + 1) * 2 ^ (31 - s) by rw [← Nat.pow_add, show s + 1 + (31 - s) = 32 by omega], Nat.mod_mul_right_mod, Nat.mul_mod_left]
theorem quot_step {V i m r b : Nat} (hm : 0 < m) (e : V / 2 ^ (i + 1) % m = r) (hb : V / 2 ^ i % 2 = b) : V / 2 ^ i / m * 2 ^ i = V / 2 ^ (i + 1) / m * 2 ^ (i + 1) + if m ≤ 2 * r + b then 2 ^ i else 0 := by
  have h := half_step V i
  rw [hb] at h
  have hb2 : b < 2 := by rw [← hb]; exact Nat.mod_lt _ (by decide)
  have hr : r < m := by rw [← e]; exact Nat.mod_lt _ hm
  have hd := Nat.div_add_mod (V / 2 ^ (i + 1)) m
  rw [e] at hd
  obtain ⟨A, hA⟩ : ∃ A, V / 2 ^ (i + 1) / m = A := ⟨_, rfl⟩
  rw [hA] at hd ⊢
  have e3 : V / 2 ^ i = m * (2 * A) + (2 * r + b) := by rw [h, ← hd, Nat.mul_add, Nat.mul_left_comm]; omega
  rw [e3, Nat.mul_add_div hm, Nat.pow_succ]
  split
  · rw [show (2 * r + b) / m = 1 from Nat.div_eq_of_lt_le (by omega) (by omega), Nat.add_mul, Nat.one_mul, Nat.mul_comm 2 A, Nat.mul_assoc, Nat.mul_comm 2 (2 ^ i)]
  · rw [Nat.div_eq_of_lt (by omega), Nat.add_zero, Nat.mul_comm 2 A, Nat.mul_assoc, Nat.mul_comm 2 (2 ^ i), Nat.add_zero]

theorem even_first {zs : List Nat} {n : Nat} (o : okw zs) (hn : zs ≠ []) (h : val zs = n + n) : zs[0]?.getD 0 % 2 = 0 := by
  cases zs with
  | nil => exact absurd rfl hn
  | cons z zs =>
    simp only [val] at h
    simp only [List.getElem?_cons_zero, Option.getD_some]
    omega
theorem Words.belowW {B : Nat} {w w' : World} {v : Value} {xs : List Nat} (h : Words B w v xs) (hb : Below w.heap.size w w') : Words B w' v xs := by
  refine ⟨h.1, ?_⟩
  rcases h.2 with h2 | ⟨g, cap, cur, e, hB, hh, h3⟩
  · exact Or.inl h2
  · exact Or.inr ⟨g, cap, cur, e, hB, (hb.block g (Array.getElem?_eq_some_iff.1 hh).1).trans hh, h3⟩
theorem Words.setLow {B : Nat} {w : World} {v : Value} {xs : List Nat} (h : Words B w v xs) {p : Addr} (hp : p.block < B) (u : Value) : Words B (w.setCell p u) v xs := by
  refine ⟨h.1, ?_⟩
  rcases h.2 with h2 | ⟨g, cap, cur, e, hB, hh, h3⟩
  · exact Or.inl h2
  · exact Or.inr ⟨g, cap, cur, e, hB, by rw [Below.heap_setCell _ _ _ _ (by omega)]; exact hh, h3⟩
theorem Row.belowW {k : IntKind} {t : TypeId} {w w' : World} {g : Nat} {xs : List Nat} (h : Row k t w g xs) (hb : Below w.heap.size w w') : Row k t w' g xs := (hb.block g h.lt).trans h

set_option maxRecDepth 100000 in
set_option maxHeartbeats 8000000 in
theorem rby_any (ax ay : Option Addr) (nx cx ny cy : Nat) (xs ys : List Nat) (w : World) (hx : Sl .u32 w (.slice ax nx cx) xs) (hy : Sl .u32 w (.slice ay ny cy) ys) (ox : okw xs) (oy : okw ys) (ty : Tr ys) (hpos : 0 < val ys) (bx : xs.length ≤ 1000) (by_ : ys.length ≤ 1000) :
    Calls Try.prog 60 #[.slice ax nx cx, .slice ay ny cy] w fun e w' => ∃ (v : Value) (Q rs : List Nat), e = .returned (.tuple #[.slice (some ⟨w.heap.size, 0, none⟩) xs.length xs.length, v]) ∧ Q.length = xs.length ∧ okw Q ∧ val Q = val xs / val ys ∧ Row .u32 55 w' w.heap.size Q ∧ Words (w.heap.size + 1) w' v rs ∧ okw rs ∧ Tr rs ∧ val rs = val xs % val ys ∧ Below w.heap.size w w' := by
  obtain rfl := hx.len
  obtain ⟨b1, o1, hax, sx⟩ := hx.place
  have HAX : Hid (xs ≠ [] → ax = some ⟨b1, o1, none⟩ ∧ b1 < w.heap.size) := hax
  clear hx hax
  obtain ⟨i0, hi, hz0, hz1, hz2⟩ := info_parts Try.infoWord
  go_enter Try.func60, Try.ntmps60
  go_wp2_with (at_make; refine wpList_make_full _ rfl _ _ 22 rfl w.heap.size 55 i0 (.int .u32 0) 1 Try.underlying22 hi hz0 hz1 .i64 .i64 _ _ xs.length rfl rfl (by omega) (by omega) (by rw [hz2]; omega) (by unfold maxLen; omega) (Nat.le_refl _) ?_; intro w1 hown1 hgrow1; have hb1 : Below w.heap.size w w1 := (Below.refl _ w).grown hgrow1 (Nat.le_refl _) (fun k e => by cases e); have hr1 : Row .u32 55 w1 w.heap.size (List.replicate xs.length 0) := row_made hown1; clear hown1 hgrow1)
  go_loopw [7, 8] (fun rv iv wr => ∃ (k : Nat) (rs Q : List Nat), k ≤ 32 * xs.length ∧ iv = .int .i64 ((k : Int) - 1) ∧ Words (w.heap.size + 1) wr rv rs ∧ okw rs ∧ Tr rs ∧ val rs = val xs / 2 ^ k % val ys ∧ Q.length = xs.length ∧ okw Q ∧ val Q = val xs / 2 ^ k / val ys * 2 ^ k ∧ Row .u32 55 wr w.heap.size Q ∧ Below w.heap.size w wr) (fun _ iv _ => (intOf iv + 1).toNat)
  case atStart =>
    have e0 : val xs / 2 ^ (32 * xs.length) = 0 := by rw [← pw_two]; exact Nat.div_eq_of_lt (val_lt ox)
    exact ⟨32 * xs.length, [], _, Nat.le_refl _, by go_num, Words.nil _ _, okw_nil, Or.inl rfl, by rw [e0, Nat.zero_mod]; rfl, by simp, (fun x hx => by have := (List.mem_replicate.1 hx).2; omega), by rw [e0, val_replicate]; simp, hr1, hb1⟩
  case round =>
    clear hr1 hb1
    obtain ⟨k, rs, Q, hk, rfl, hw, or', tr, hrv, hQ, oQ, hQv, hrow, hbel⟩ := hrel
    have HQ : Hid (Q.length = xs.length ∧ val Q = val xs / 2 ^ k / val ys * 2 ^ k) := ⟨hQ, hQv⟩
    have HR : Hid (val rs = val xs / 2 ^ k % val ys) := hrv
    have hws : w.heap.size + 1 ≤ wr.heap.size := hrow.lt
    clear hQ hQv hrv
    cases k with
    | zero =>
      rw [show ((0 : Nat) : Int) - 1 = -1 from rfl]
      go_wp2
      have HF : Hid (val Q = val xs / val ys ∧ val rs = val xs % val ys) := (by
        have h1 := HQ.out.2
        have h2 := HR.out
        simp only [Nat.pow_zero, Nat.div_one, Nat.mul_one] at h1 h2
        exact ⟨h1, h2⟩)
      refine bodyPost_ret (v := .tuple #[.slice (some ⟨w.heap.size, 0, none⟩) xs.length xs.length, u7]) ?_ rfl ⟨u7, Q, rs, rfl, HQ.out.1, oQ, HF.out.1, hrow, hw, or', tr, HF.out.2, hbel⟩
      simp [results, Try.f60, go_sem]
    | succ i =>
      obtain ⟨p, s, hi', hs⟩ : ∃ p s, i = 32 * p + s ∧ s < 32 := ⟨i / 32, i % 32, by omega, by omega⟩
      have hp : p < xs.length := by omega
      have hxn : xs ≠ [] := by intro h; subst h; simp at hp
      obtain ⟨e1, hl1⟩ := HAX.out hxn
      subst e1
      have i1 : ((i + 1 : Nat) : Int) - 1 = (i : Int) := by omega
      rw [i1]
      have hrl : val rs < val ys := by rw [HR.out]; exact Nat.mod_lt _ hpos
      have hlr : rs.length ≤ ys.length := Tr_len_le tr ys.length (Nat.lt_trans hrl (val_lt oy))
      obtain ⟨ra, rc, rfl⟩ := hw.ow.form
      have HI : Hid (i = 32 * p + s) := hi'
      have e2 : (i : Int) / 32 = (p : Int) := by omega
      have e3 : (i : Int) % 32 = (s : Int) := by omega
      have e4 : i / 32 = p := by omega
      have hx1 := okw_get ox p
      have HB0 := val_bit ox p s hp hs
      rw [← hi'] at HB0
      obtain ⟨x, hxx⟩ : ∃ x, xs[p]?.getD 0 = x := ⟨_, rfl⟩
      rw [hxx] at HB0 hx1
      have HXX : Hid (xs[p]?.getD 0 = x) := hxx
      obtain ⟨y, hy'⟩ : ∃ k, x / 2 ^ s = k := ⟨_, rfl⟩
      have hy1 : y < 4294967296 := by rw [← hy']; exact Nat.lt_of_le_of_lt (Nat.div_le_self _ _) hx1
      have e5 : (x : Int) / 2 ^ s = (y : Int) := by rw [← hy']; push_cast; rfl
      obtain ⟨c, hc2⟩ : ∃ k, y % 2 = k := ⟨_, rfl⟩
      have e6 : bits BinOp.and IntKind.u32 (y : Int) 1 = (c : Int) := by rw [and_one_u32 _ (by omega) (by omega)]; omega
      have hc3 : c < 2 := by omega
      rw [hy', hc2] at HB0
      have HB : Hid (val xs / 2 ^ i % 2 = c) := HB0
      have hdd : i < 32 * xs.length := by omega
      clear hi' HB0 hxx hy' hc2 i1
      go_wp2_with fail
      refine (rplus_ne ra ra rs.length rc rs.length rc rs rs wr hw.ow.sl hw.ow.sl (by omega) (by omega) or' or').mono ?_
      rintro e w2 ⟨v2, zs, rfl, hz2', oz, vz, lz, nz, hb2⟩
      have HVP : Hid (val zs = val rs + val rs) := vz
      have hrow2 := hrow.belowW hb2
      have hbel2 : Below w.heap.size w w2 := hbel.trans (hb2.mono hbel.size)
      obtain ⟨g2, c2, rfl⟩ := Go.Joins.ownsRow_form hz2' (List.length_pos_iff.2 nz)
      have hev := even_first oz nz vz
      have hc : w2.cell? ⟨b1, o1 + p, none⟩ = some (.int .u32 (x : Int)) := by
        have := (sx.below hbel2 hl1) p hp
        rw [HXX.out] at this
        exact this
      clear vz hb2 hrow hbel hw
      have hzl0 : 0 < zs.length := List.length_pos_iff.2 nz
      by_cases hc1 : c = 1
      · subst hc1
        have t1 : (((1 : Nat) : Int) == 1) = true := rfl
        obtain ⟨z0, hz0'⟩ : ∃ z, zs[0]?.getD 0 = z := ⟨_, rfl⟩
        have hown : w2.ownsRow wr.heap.size 55 1 (.slice (some ⟨g2, 0, none⟩) zs.length c2) zs.length (zs.map fun x : Nat => Value.int .u32 (x : Int)) := hz2'
        have hcz : w2.cell? ⟨g2, 0, none⟩ = some (.int .u32 (z0 : Int)) := by
          rw [World.ownsRow.cellAt hown 0 (by omega), List.getElem?_map, List.getElem?_eq_getElem hzl0, ← hz0', List.getElem?_eq_getElem hzl0]
          rfl
        have hfz : w2.frozen? ⟨g2, 0, none⟩ = false := World.ownsRow.frozenAt hown 0
        have hge2 : wr.heap.size ≤ g2 := (World.ownsRow.lt hown g2 rfl).1
        have hzb := okw_get oz 0
        rw [hz0'] at hev hzb
        have hor := or_one z0 hev hzb
        obtain ⟨J0, hJ0⟩ : ∃ J, z0 + 1 = J := ⟨_, rfl⟩
        rw [hJ0] at hor
        have hJ1 : J0 < 4294967296 := by omega
        have HVZ : Hid (val (zs.set 0 J0) = 2 * val rs + 1) := (by
          have := val_set zs 0 J0 hzl0
          rw [hz0', show pw 0 = 1 from rfl, Nat.one_mul, Nat.one_mul] at this
          have := HVP.out
          show _ = _
          omega)
        have hzw : Words wr.heap.size (w2.setCell ⟨g2, 0, none⟩ (.int .u32 (J0 : Int))) (.slice (some ⟨g2, 0, none⟩) zs.length c2) (zs.set 0 J0) := words_set rfl hz2' 0 J0
        have ozw : okw (zs.set 0 J0) := okw_set oz _ _ hJ1
        have hrow3 : Row .u32 55 (w2.setCell ⟨g2, 0, none⟩ (.int .u32 (J0 : Int))) w.heap.size Q := by
          show (w2.setCell _ _).heap[_]? = _
          rw [Below.heap_setCell _ _ _ _ (fun e => by simp at e; omega)]
          exact hrow2
        have hbel3 : Below w.heap.size w (w2.setCell ⟨g2, 0, none⟩ (.int .u32 (J0 : Int))) := hbel2.setCell (p := ⟨g2, 0, none⟩) (by show _ ≤ g2; omega) _
        clear hown hev hz0' hJ0 hz2' hrow2 hbel2
        go_wp2_with fail
        have hl3 : (zs.set 0 J0).length = zs.length := List.length_set ..
        obtain ⟨ZS0, hZ0⟩ : ∃ Z, zs.set 0 J0 = Z := ⟨_, rfl⟩
        obtain ⟨W3, hW3⟩ : ∃ W, w2.setCell ⟨g2, 0, none⟩ (.int .u32 (J0 : Int)) = W := ⟨_, rfl⟩
        rw [hZ0] at hzw ozw HVZ hl3
        rw [hW3] at hzw hrow3 hbel3 ⊢
        have hws3 : w.heap.size + 1 ≤ W3.heap.size := hrow3.lt
        clear hZ0 hW3 hcz hfz hc
        refine (rtrim_any (some ⟨g2, 0, none⟩) zs.length c2 ZS0 W3 hzw.ow.sl (by omega)).mono ?_
        rintro e w4 ⟨a4, c4, rfl, hw4, _, hb4⟩
        have HT : Hid (tl ZS0 ZS0.length = (trimL ZS0).length) := (trimL_length ZS0).symm
        have hTL := HT.out
        obtain ⟨us, hus⟩ : ∃ us, trimL ZS0 = us := ⟨_, rfl⟩
        have ous : okw us := by rw [← hus]; exact okw_trimL ozw
        have tus : Tr us := by rw [← hus]; exact Tr_trimL _
        have HVU : Hid (val us = 2 * val rs + 1) := (by show _ = _; rw [← hus, val_trimL]; exact HVZ.out)
        have lus : us.length ≤ 100001 := by rw [← hus]; have := trimL_le ZS0; omega
        rw [hus] at hw4 hTL
        rw [hTL] at hw4 ⊢
        have hrow4 := hrow3.belowW hb4
        have hbel4 : Below w.heap.size w w4 := hbel3.trans (hb4.mono hbel3.size)
        have hw4' : Words (w.heap.size + 1) w4 (.slice a4 us.length c4) us := hw4.lower hws3
        clear hus hTL HT hb4 hrow3 hbel3 hw4
        have hvl := HVU.out
        go_wp2_with fail
        refine (rsize_any a4 ay us.length c4 ny cy us ys w4 hw4'.ow.sl (hy.below hbel4) ous oy tus ty (by omega)).mono ?_
        rintro e w5 ⟨rfl, hb5⟩
        have hrow5 := hrow4.belowW hb5
        have hbel5 : Below w.heap.size w w5 := hbel4.trans (hb5.mono hbel4.size)
        have hw5 := hw4'.ow.below hb5
        have hw5' : Words (w.heap.size + 1) w5 (.slice a4 us.length c4) us := Words.belowW hw4' hb5
        clear hb5 hrow4 hbel4 hw4'
        by_cases hge : val ys ≤ val us
        · have t5 : (0 : Int) ≤ cmpN (val us) (val ys) := by unfold cmpN; split <;> first | omega | (split <;> omega)
          have hle : ys.length ≤ us.length := Tr_len_le ty us.length (Nat.lt_of_le_of_lt hge (val_lt ous))
          have hsub : val us < 2 * val ys := by rw [hvl]; omega
          clear hw5
          have HGE : Hid (val ys ≤ val us ∧ val us < 2 * val ys) := ⟨hge, hsub⟩
          have lu2 : us.length ≤ 1001 := by
            have := Tr_len_le tus (ys.length + 1) (by rw [pw]; have := val_lt oy; omega)
            omega
          have HVL : Hid (val us = 2 * val rs + 1) := hvl
          clear hvl hge hsub
          go_wp2_with fail
          refine (rminus_any a4 ay us.length c4 ny cy us ys w5 hw5'.ow.sl (hy.below hbel5) (by omega) hle HGE.out.1 ous oy).mono ?_
          rintro e w6 ⟨v6, ms, rfl, hw6, om, vm, lm, hb6⟩
          have HVM : Hid (val ms = val us - val ys) := vm
          have hrow6 := hrow5.belowW hb6
          have hbel6 : Below w.heap.size w w6 := hbel5.trans (hb6.mono hbel5.size)
          have hs6 : w.heap.size + 1 ≤ w6.heap.size := hrow6.lt
          have hs5 : w.heap.size + 1 ≤ w5.heap.size := hrow5.lt
          obtain ⟨a6, c6, rfl⟩ := hw6.ow.form
          clear vm hb6 hrow5 hbel5 hw5' t5 hle
          go_wp2_with fail
          refine (rtrim_any a6 ms.length c6 ms w6 hw6.ow.sl (by omega)).mono ?_
          rintro e w7 ⟨a7, c7, rfl, hw7, _, hb7⟩
          have HT : Hid (tl ms ms.length = (trimL ms).length) := (trimL_length ms).symm
          have hTL := HT.out
          obtain ⟨ns, hns⟩ : ∃ us, trimL ms = us := ⟨_, rfl⟩
          have ons : okw ns := by rw [← hns]; exact okw_trimL om
          have tns : Tr ns := by rw [← hns]; exact Tr_trimL _
          have HVN : Hid (val ns = val us - val ys) := (by show _ = _; rw [← hns, val_trimL]; exact HVM.out)
          rw [hns] at hw7 hTL
          rw [hTL] at hw7 ⊢
          have hrow7 := hrow6.belowW hb7
          have hbel7 : Below w.heap.size w w7 := hbel6.trans (hb7.mono hbel6.size)
          have hw7' : Words (w.heap.size + 1) w7 (.slice a7 ns.length c7) ns := hw7.lower hs6
          have hpQ : p < Q.length := by rw [HQ.out.1]; exact hp
          have hcq := hrow7.cell p hpQ
          have hfq := hrow7.fr p
          obtain ⟨z, hz⟩ : ∃ z, Q[p]?.getD 0 = z := ⟨_, rfl⟩
          have hlow := word_low oQ hpQ hs HI.out HQ.out.2
          have hzl := okw_get oQ p
          rw [hz] at hcq hlow hzl
          obtain ⟨hob, hol⟩ := or_bit z s hs hlow hzl
          have HN : Hid (val ns = val xs / 2 ^ i % val ys ∧ val (Q.set p (z + 2 ^ s)) = val xs / 2 ^ i / val ys * 2 ^ i) := (by
            have st := rest_step hrl HR.out.symm HB.out
            have qt := quot_step hpos HR.out.symm HB.out
            rw [if_pos (by rw [← HVL.out]; exact HGE.out.1)] at st qt
            have vs := val_set Q p (z + 2 ^ s) hpQ
            rw [hz, Nat.mul_add] at vs
            refine ⟨by rw [st, HVN.out, HVL.out], ?_⟩
            rw [qt, ← HQ.out.2]
            have e9 : pw p * 2 ^ s = 2 ^ i := by rw [pw_two, ← Nat.pow_add, ← HI.out]
            rw [e9] at vs
            omega)
          obtain ⟨J, hJ⟩ : ∃ J, z + 2 ^ s = J := ⟨_, rfl⟩
          rw [hJ] at hob hol HN
          obtain ⟨S, hS⟩ : ∃ S, 2 ^ s = S := ⟨_, rfl⟩
          rw [hS] at hob
          have hS1 : S < 4294967296 := by omega
          have sh1 : (1 : Int) * 2 ^ s = (S : Int) := by rw [← hS]; push_cast; simp
          have sh2 : (2 : Int) ^ s = (S : Int) := by rw [← hS]; push_cast; rfl
          clear hns hTL HT hb7 hw7 hrow6 hbel6 hw6 HVM HVN hlow hz hJ hS HGE HVL
          go_wp2_with fail
          go_region
          go_wp2_with fail
          go_roundw
          case rel => exact ⟨i, ns, Q.set p J, by omega, rfl, hw7'.setLow (p := ⟨w.heap.size, p, none⟩) (Nat.lt_succ_self _) _, ons, tns, HN.out.1, by rw [List.length_set]; exact HQ.out.1, okw_set oQ _ _ hol, HN.out.2, hrow7.turn2 p J, (hbel7.setCell (p := ⟨w.heap.size, p, none⟩) (Nat.le_refl _) _).drew⟩
          case measure => simp [intOf]
        · have t5 : ¬ (0 : Int) ≤ cmpN (val us) (val ys) := by unfold cmpN; split <;> first | omega | (split <;> omega)
          have HN : Hid (val us = val xs / 2 ^ i % val ys ∧ val Q = val xs / 2 ^ i / val ys * 2 ^ i) := (by
            have st := rest_step hrl HR.out.symm HB.out
            have qt := quot_step hpos HR.out.symm HB.out
            rw [if_neg (by rw [← hvl]; exact hge)] at st qt
            rw [Nat.add_zero] at qt
            exact ⟨by rw [st, hvl], by rw [qt]; exact HQ.out.2⟩)
          clear hvl hge
          go_wp2_with fail
          go_roundw
          case rel => exact ⟨i, us, Q, by omega, rfl, hw5', ous, tus, HN.out.1, HQ.out.1, oQ, HN.out.2, hrow5, hbel5⟩
          case measure => simp [intOf]
      · obtain rfl : c = 0 := by omega
        have t1 : (((0 : Nat) : Int) == 1) = false := rfl
        have HVZ : Hid (val zs = 2 * val rs + 0) := (by have := HVP.out; show _ = _; omega)
        have hws3 : w.heap.size + 1 ≤ w2.heap.size := hrow2.lt
        clear hev hc1
        go_wp2_with fail
        refine (rtrim_any (some ⟨g2, 0, none⟩) zs.length c2 zs w2 hz2'.ow.sl (by omega)).mono ?_
        rintro e w4 ⟨a4, c4, rfl, hw4, _, hb4⟩
        have HT : Hid (tl zs zs.length = (trimL zs).length) := (trimL_length zs).symm
        have hTL := HT.out
        obtain ⟨us, hus⟩ : ∃ us, trimL zs = us := ⟨_, rfl⟩
        have ous : okw us := by rw [← hus]; exact okw_trimL oz
        have tus : Tr us := by rw [← hus]; exact Tr_trimL _
        have HVU : Hid (val us = 2 * val rs + 0) := (by show _ = _; rw [← hus, val_trimL]; exact HVZ.out)
        have lus : us.length ≤ 100001 := by rw [← hus]; have := trimL_le zs; omega
        rw [hus] at hw4 hTL
        rw [hTL] at hw4 ⊢
        have hrow4 := hrow2.belowW hb4
        have hbel4 : Below w.heap.size w w4 := hbel2.trans (hb4.mono hbel2.size)
        have hw4' : Words (w.heap.size + 1) w4 (.slice a4 us.length c4) us := hw4.lower hws3
        clear hus hTL HT hb4 hrow2 hbel2 hw4
        have hvl := HVU.out
        go_wp2_with fail
        refine (rsize_any a4 ay us.length c4 ny cy us ys w4 hw4'.ow.sl (hy.below hbel4) ous oy tus ty (by omega)).mono ?_
        rintro e w5 ⟨rfl, hb5⟩
        have hrow5 := hrow4.belowW hb5
        have hbel5 : Below w.heap.size w w5 := hbel4.trans (hb5.mono hbel4.size)
        have hw5 := hw4'.ow.below hb5
        have hw5' : Words (w.heap.size + 1) w5 (.slice a4 us.length c4) us := Words.belowW hw4' hb5
        clear hb5 hrow4 hbel4 hw4'
        by_cases hge : val ys ≤ val us
        · have t5 : (0 : Int) ≤ cmpN (val us) (val ys) := by unfold cmpN; split <;> first | omega | (split <;> omega)
          have hle : ys.length ≤ us.length := Tr_len_le ty us.length (Nat.lt_of_le_of_lt hge (val_lt ous))
          have hsub : val us < 2 * val ys := by rw [hvl]; omega
          clear hw5
          have HGE : Hid (val ys ≤ val us ∧ val us < 2 * val ys) := ⟨hge, hsub⟩
          have lu2 : us.length ≤ 1001 := by
            have := Tr_len_le tus (ys.length + 1) (by rw [pw]; have := val_lt oy; omega)
            omega
          have HVL : Hid (val us = 2 * val rs + 0) := hvl
          clear hvl hge hsub
          go_wp2_with fail
          refine (rminus_any a4 ay us.length c4 ny cy us ys w5 hw5'.ow.sl (hy.below hbel5) (by omega) hle HGE.out.1 ous oy).mono ?_
          rintro e w6 ⟨v6, ms, rfl, hw6, om, vm, lm, hb6⟩
          have HVM : Hid (val ms = val us - val ys) := vm
          have hrow6 := hrow5.belowW hb6
          have hbel6 : Below w.heap.size w w6 := hbel5.trans (hb6.mono hbel5.size)
          have hs6 : w.heap.size + 1 ≤ w6.heap.size := hrow6.lt
          have hs5 : w.heap.size + 1 ≤ w5.heap.size := hrow5.lt
          obtain ⟨a6, c6, rfl⟩ := hw6.ow.form
          clear vm hb6 hrow5 hbel5 hw5' t5 hle
          go_wp2_with fail
          refine (rtrim_any a6 ms.length c6 ms w6 hw6.ow.sl (by omega)).mono ?_
          rintro e w7 ⟨a7, c7, rfl, hw7, _, hb7⟩
          have HT : Hid (tl ms ms.length = (trimL ms).length) := (trimL_length ms).symm
          have hTL := HT.out
          obtain ⟨ns, hns⟩ : ∃ us, trimL ms = us := ⟨_, rfl⟩
          have ons : okw ns := by rw [← hns]; exact okw_trimL om
          have tns : Tr ns := by rw [← hns]; exact Tr_trimL _
          have HVN : Hid (val ns = val us - val ys) := (by show _ = _; rw [← hns, val_trimL]; exact HVM.out)
          rw [hns] at hw7 hTL
          rw [hTL] at hw7 ⊢
          have hrow7 := hrow6.belowW hb7
          have hbel7 : Below w.heap.size w w7 := hbel6.trans (hb7.mono hbel6.size)
          have hw7' : Words (w.heap.size + 1) w7 (.slice a7 ns.length c7) ns := hw7.lower hs6
          have hpQ : p < Q.length := by rw [HQ.out.1]; exact hp
          have hcq := hrow7.cell p hpQ
          have hfq := hrow7.fr p
          obtain ⟨z, hz⟩ : ∃ z, Q[p]?.getD 0 = z := ⟨_, rfl⟩
          have hlow := word_low oQ hpQ hs HI.out HQ.out.2
          have hzl := okw_get oQ p
          rw [hz] at hcq hlow hzl
          obtain ⟨hob, hol⟩ := or_bit z s hs hlow hzl
          have HN : Hid (val ns = val xs / 2 ^ i % val ys ∧ val (Q.set p (z + 2 ^ s)) = val xs / 2 ^ i / val ys * 2 ^ i) := (by
            have st := rest_step hrl HR.out.symm HB.out
            have qt := quot_step hpos HR.out.symm HB.out
            rw [if_pos (by rw [← HVL.out]; exact HGE.out.1)] at st qt
            have vs := val_set Q p (z + 2 ^ s) hpQ
            rw [hz, Nat.mul_add] at vs
            refine ⟨by rw [st, HVN.out, HVL.out], ?_⟩
            rw [qt, ← HQ.out.2]
            have e9 : pw p * 2 ^ s = 2 ^ i := by rw [pw_two, ← Nat.pow_add, ← HI.out]
            rw [e9] at vs
            omega)
          obtain ⟨J, hJ⟩ : ∃ J, z + 2 ^ s = J := ⟨_, rfl⟩
          rw [hJ] at hob hol HN
          obtain ⟨S, hS⟩ : ∃ S, 2 ^ s = S := ⟨_, rfl⟩
          rw [hS] at hob
          have hS1 : S < 4294967296 := by omega
          have sh1 : (1 : Int) * 2 ^ s = (S : Int) := by rw [← hS]; push_cast; simp
          have sh2 : (2 : Int) ^ s = (S : Int) := by rw [← hS]; push_cast; rfl
          clear hns hTL HT hb7 hw7 hrow6 hbel6 hw6 HVM HVN hlow hz hJ hS HGE HVL
          go_wp2_with fail
          go_region
          go_wp2_with fail
          go_roundw
          case rel => exact ⟨i, ns, Q.set p J, by omega, rfl, hw7'.setLow (p := ⟨w.heap.size, p, none⟩) (Nat.lt_succ_self _) _, ons, tns, HN.out.1, by rw [List.length_set]; exact HQ.out.1, okw_set oQ _ _ hol, HN.out.2, hrow7.turn2 p J, (hbel7.setCell (p := ⟨w.heap.size, p, none⟩) (Nat.le_refl _) _).drew⟩
          case measure => simp [intOf]
        · have t5 : ¬ (0 : Int) ≤ cmpN (val us) (val ys) := by unfold cmpN; split <;> first | omega | (split <;> omega)
          have HN : Hid (val us = val xs / 2 ^ i % val ys ∧ val Q = val xs / 2 ^ i / val ys * 2 ^ i) := (by
            have st := rest_step hrl HR.out.symm HB.out
            have qt := quot_step hpos HR.out.symm HB.out
            rw [if_neg (by rw [← hvl]; exact hge)] at st qt
            rw [Nat.add_zero] at qt
            exact ⟨by rw [st, hvl], by rw [qt]; exact HQ.out.2⟩)
          clear hvl hge
          go_wp2_with fail
          go_roundw
          case rel => exact ⟨i, us, Q, by omega, rfl, hw5', ous, tus, HN.out.1, HQ.out.1, oQ, HN.out.2, hrow5, hbel5⟩
          case measure => simp [intOf]
end Go.Proofs.Yteplmnnpmekngaa
