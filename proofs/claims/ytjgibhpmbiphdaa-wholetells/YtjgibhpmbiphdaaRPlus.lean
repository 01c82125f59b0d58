/-
  The reference: plus.
-/
import Derived.Test.YtjgibhpmbiphdaaRMade
namespace Go.Proofs.Ytjgibhpmbiphdaa
open Go.RowKit

theorem get_past {xs : List Nat} {k : Nat} (h : ¬ k < xs.length) : xs[k]?.getD 0 = 0 := by rw [List.getElem?_eq_none (by omega)]; rfl
theorem words_snoc {B : Nat} {w1 : World} {v' : Value} {ds : List Nat} {d : Nat} (h : w1.ownsRow B 55 1 v' (ds.length + 1) ((ds.map fun x : Nat => Value.int .u32 (x : Int)) ++ [Value.int .u32 (d : Int)])) : Words B w1 v' (ds ++ [d]) := by
  unfold Words
  simpa using h
theorem below_grown {B n : Nat} {w wr w1 : World} {v : Value} {xs : List Value} {o : Obj} {t : TypeId} (hb : Below B w wr) (hB : B ≤ w.heap.size) (hown : wr.ownsRow B t 1 v n xs) (hg : (wr.alloc o).grownBy w1 v.ownBlock) : Below B w w1 := by
  refine (hb.alloc (Nat.le_trans hB hb.size) o).grown hg (by simp; have := hb.size; omega) (fun k e => ?_)
  rcases hown.2 with ⟨rfl, _⟩ | ⟨g, cap, cur, rfl, h1, _⟩
  · cases e
  · simp [Value.ownBlock] at e
    omega

set_option maxRecDepth 100000 in
set_option maxHeartbeats 2000000 in
theorem rplus_any (ax ay : Option Addr) (nx cx ny cy : Nat) (xs ys : List Nat) (w : World) (hx : Sl .u32 w (.slice ax nx cx) xs) (hy : Sl .u32 w (.slice ay ny cy) ys) (bx : xs.length ≤ 100000) (by_ : ys.length ≤ 100000) (ox : okw xs) (oy : okw ys) :
    Calls Try.prog 67 #[.slice ax nx cx, .slice ay ny cy] w fun e w' => ∃ v zs, e = .returned v ∧ Words w.heap.size w' v zs ∧ okw zs ∧ val zs = val xs + val ys ∧ zs.length ≤ 100001 ∧ Below w.heap.size w w' := by
  obtain ⟨i0, hi, hz0, hz1, hz2⟩ := info_parts Try.infoWord
  obtain ⟨b, off, px, sx⟩ := hx.place
  obtain ⟨b2, off2, py, sy⟩ := hy.place
  have e1 := hx.len
  have e2 := hy.len
  subst e1; subst e2
  have ne : ∀ (zs : List Nat) k, k < zs.length → zs ≠ [] := fun zs k h h0 => by rw [h0] at h; simp at h
  clear hx hy
  go_enter Try.func67, Try.ntmps67
  go_wp2_with fail
  go_loopw [5, 6, 7] (fun o c i wr => ∃ (k cv : Nat) (ds : List Nat), i = .int .i64 (k : Int) ∧ c = .int .u64 (cv : Int) ∧ Words w.heap.size wr o ds ∧ ds.length = k ∧ okw ds ∧ cv ≤ 1 ∧ k ≤ 100000 ∧ (k ≤ xs.length ∨ k ≤ ys.length) ∧ val ds + pw k * cv = val (xs.take k) + val (ys.take k) ∧ Below w.heap.size w wr) (fun _ _ i _ => 100000 - (intOf i).toNat)
  case atStart => exact ⟨0, 0, [], rfl, rfl, Words.nil _ _, rfl, okw_nil, by omega, by omega, by omega, by simp [val, pw], Below.refl _ _⟩
  case round =>
    obtain ⟨k, cv, ds, rfl, rfl, hw, hd, od, hcv, hk, hkk, hval, hb⟩ := hrel
    have hwr : w.heap.size ≤ wr.heap.size := hb.size
    have hown : wr.ownsRow w.heap.size 55 1 u5 ds.length (ds.map fun x : Nat => Value.int .u32 (x : Int)) := hw
    have hx1 := okw_get ox k
    have hy1 := okw_get oy k
    by_cases hend : k < xs.length ∨ k < ys.length
    · -- one digit more
      have key : ∀ S : Nat, xs[k]?.getD 0 + ys[k]?.getD 0 + cv = S → val (ds ++ [S % 4294967296]) + pw (k + 1) * (S / 4294967296) = val (xs.take (k + 1)) + val (ys.take (k + 1)) := fun S hS => add_val hval hd rfl rfl (by rw [hS]; omega)
      obtain ⟨S, hS⟩ : ∃ S, xs[k]?.getD 0 + ys[k]?.getD 0 + cv = S := ⟨_, rfl⟩
      have HK : Hid (val (ds ++ [S % 4294967296]) + pw (k + 1) * (S / 4294967296) = val (xs.take (k + 1)) + val (ys.take (k + 1))) := key S hS
      have hS1 : S < 8589934592 := by omega
      have HD : Hid (ds.length = k) := hd
      have hdl : ds.length ≤ 100000 := by omega
      obtain ⟨D, hD⟩ : ∃ D, S % 4294967296 = D := ⟨_, rfl⟩
      obtain ⟨C, hC⟩ : ∃ C, S / 4294967296 = C := ⟨_, rfl⟩
      have s1 : (S : Int) % 4294967296 = (D : Int) := by omega
      have s2 : (S : Int) / 4294967296 = (C : Int) := by omega
      have hC1 : C ≤ 1 := by omega
      have hD1 : D < 4294967296 := by omega
      rw [hD, hC] at HK
      clear key hval hd hD hC
      by_cases h1 : k < xs.length
      · obtain ⟨ea, hla⟩ := px (ne _ _ h1)
        have hcx : wr.cell? ⟨b, off + k, none⟩ = some (.int .u32 ((xs[k]?.getD 0 : Nat) : Int)) := (sx.below hb hla) k h1
        obtain ⟨x, hx'⟩ : ∃ x, xs[k]?.getD 0 = x := ⟨_, rfl⟩
        rw [hx'] at hcx hS hx1
        subst ea
        by_cases h2 : k < ys.length
        · obtain ⟨eb, hlb⟩ := py (ne _ _ h2)
          have hcy : wr.cell? ⟨b2, off2 + k, none⟩ = some (.int .u32 ((ys[k]?.getD 0 : Nat) : Int)) := (sy.below hb hlb) k h2
          obtain ⟨y, hy'⟩ : ∃ y, ys[k]?.getD 0 = y := ⟨_, rfl⟩
          rw [hy'] at hcy hS hy1
          subst eb
          have s3 : (cv : Int) + x + y = (S : Int) := by omega
          have t1 : (k : Int) < xs.length := by omega
          have t2 : (k : Int) < ys.length := by omega
          clear hx' hy' hS hend px py sx sy hkk
          go_wp2_with (at_builtin; refine wpList_append_own _ rfl _ _ 22 rfl w.heap.size 55 i0 (.int .u32 0) 1 4 Try.underlying22 hi hz0 hz1 hz2 rfl (by decide) _ _ _ rfl (World.ownsRow.alloc hown _) ⟨wr.heap.size, 0, none⟩ 1 1 [.int .u32 (D : Int)] rfl rfl (new_one _ _ _) (by simp [Value.oneCell']) (by unfold maxLen; omega) (by omega) (by simp; omega) ?_; intro v' w1 hown2 hgrow _)
          have hgrow' : (wr.alloc (.cells #[.int .u32 (D : Int)] 55)).grownBy w1 u5.ownBlock := hgrow
          have B1 := below_grown hb (Nat.le_refl _) hown hgrow'
          have W1 := words_snoc hown2
          go_roundw
          case rel => exact ⟨k + 1, C, ds ++ [D], by go_num, rfl, W1, by simp [HD.out], okw_append.2 ⟨od, okw_cons.2 ⟨hD1, okw_nil⟩⟩, hC1, by omega, by omega, HK.out, B1⟩
          case measure => simp [intOf]; omega
        · have y0 := get_past h2
          have s3 : (cv : Int) + x = (S : Int) := by omega
          have t1 : (k : Int) < xs.length := by omega
          have t2 : ¬ (k : Int) < ys.length := by omega
          clear hx' hS hend px py sx sy hkk y0 hy1
          go_wp2_with (at_builtin; refine wpList_append_own _ rfl _ _ 22 rfl w.heap.size 55 i0 (.int .u32 0) 1 4 Try.underlying22 hi hz0 hz1 hz2 rfl (by decide) _ _ _ rfl (World.ownsRow.alloc hown _) ⟨wr.heap.size, 0, none⟩ 1 1 [.int .u32 (D : Int)] rfl rfl (new_one _ _ _) (by simp [Value.oneCell']) (by unfold maxLen; omega) (by omega) (by simp; omega) ?_; intro v' w1 hown2 hgrow _)
          have hgrow' : (wr.alloc (.cells #[.int .u32 (D : Int)] 55)).grownBy w1 u5.ownBlock := hgrow
          have B1 := below_grown hb (Nat.le_refl _) hown hgrow'
          have W1 := words_snoc hown2
          go_roundw
          case rel => exact ⟨k + 1, C, ds ++ [D], by go_num, rfl, W1, by simp [HD.out], okw_append.2 ⟨od, okw_cons.2 ⟨hD1, okw_nil⟩⟩, hC1, by omega, by omega, HK.out, B1⟩
          case measure => simp [intOf]; omega
      · have x0 := get_past h1
        have h2 : k < ys.length := by omega
        · obtain ⟨eb, hlb⟩ := py (ne _ _ h2)
          have hcy : wr.cell? ⟨b2, off2 + k, none⟩ = some (.int .u32 ((ys[k]?.getD 0 : Nat) : Int)) := (sy.below hb hlb) k h2
          obtain ⟨y, hy'⟩ : ∃ y, ys[k]?.getD 0 = y := ⟨_, rfl⟩
          rw [hy'] at hcy hS hy1
          subst eb
          have s3 : (cv : Int) + y = (S : Int) := by omega
          have t1 : ¬ (k : Int) < xs.length := by omega
          have t2 : (k : Int) < ys.length := by omega
          clear hy' hS hend px py sx sy hkk x0 hx1
          go_wp2_with (at_builtin; refine wpList_append_own _ rfl _ _ 22 rfl w.heap.size 55 i0 (.int .u32 0) 1 4 Try.underlying22 hi hz0 hz1 hz2 rfl (by decide) _ _ _ rfl (World.ownsRow.alloc hown _) ⟨wr.heap.size, 0, none⟩ 1 1 [.int .u32 (D : Int)] rfl rfl (new_one _ _ _) (by simp [Value.oneCell']) (by unfold maxLen; omega) (by omega) (by simp; omega) ?_; intro v' w1 hown2 hgrow _)
          have hgrow' : (wr.alloc (.cells #[.int .u32 (D : Int)] 55)).grownBy w1 u5.ownBlock := hgrow
          have B1 := below_grown hb (Nat.le_refl _) hown hgrow'
          have W1 := words_snoc hown2
          go_roundw
          case rel => exact ⟨k + 1, C, ds ++ [D], by go_num, rfl, W1, by simp [HD.out], okw_append.2 ⟨od, okw_cons.2 ⟨hD1, okw_nil⟩⟩, hC1, by omega, by omega, HK.out, B1⟩
          case measure => simp [intOf]; omega
    · -- the last digit
      have t1 : ¬ (k : Int) < xs.length := by omega
      have t2 : ¬ (k : Int) < ys.length := by omega
      have hdl : ds.length ≤ 100000 := by omega
      have HE : Hid (val (ds ++ [cv]) = val xs + val ys) := (by
        show _ = _
        rw [val_append, hd]
        rw [List.take_of_length_le (by omega), List.take_of_length_le (by omega)] at hval
        simp only [val]
        omega)
      have HD : Hid (ds.length = k) := hd
      clear hval hd hend hkk px py sx sy hx1 hy1
      go_wp2_with (at_builtin; refine wpList_append_own _ rfl _ _ 22 rfl w.heap.size 55 i0 (.int .u32 0) 1 4 Try.underlying22 hi hz0 hz1 hz2 rfl (by decide) _ _ _ rfl (World.ownsRow.alloc hown _) ⟨wr.heap.size, 0, none⟩ 1 1 [.int .u32 (cv : Int)] rfl rfl (new_one _ _ _) (by simp [Value.oneCell']) (by unfold maxLen; omega) (by omega) (by simp; omega) ?_; intro v' w1 hown2 hgrow _)
      have hgrow' : (wr.alloc (.cells #[.int .u32 (cv : Int)] 55)).grownBy w1 u5.ownBlock := hgrow
      have B1 := below_grown hb (Nat.le_refl _) hown hgrow'
      have W1 := words_snoc hown2
      go_ret
      exact ⟨_, rfl, ds ++ [cv], W1, okw_append.2 ⟨od, okw_cons.2 ⟨by omega, okw_nil⟩⟩, HE.out, by simp; omega, B1⟩

/-- A digit's difference, as the machine has it. -/
theorem sub_word {x y c : Nat} (hx : x < 4294967296) (hy : y < 4294967296) (hc : c ≤ 1) : ∃ T D C : Nat, IntKind.u64.wrap (IntKind.u64.wrap ((x : Int) - c) - y) = (T : Int) ∧ (T : Int) % 4294967296 = (D : Int) ∧ (T : Int) / 9223372036854775808 = (C : Int) ∧ D < 4294967296 ∧ C ≤ 1 ∧ x + 4294967296 * C = D + y + c ∧ T < 18446744073709551616 := by
  simp only [IntKind.wrap_u64]
  by_cases h : y + c ≤ x
  · exact ⟨x - y - c, x - y - c, 0, by omega, by omega, by omega, by omega, by omega, by omega, by omega⟩
  · exact ⟨x + 18446744073709551616 - y - c, x + 4294967296 - y - c, 1, by omega, by omega, by omega, by omega, by omega, by omega, by omega⟩

set_option maxRecDepth 100000 in
set_option maxHeartbeats 2000000 in
theorem rminus_any (ax ay : Option Addr) (nx cx ny cy : Nat) (xs ys : List Nat) (w : World) (hx : Sl .u32 w (.slice ax nx cx) xs) (hy : Sl .u32 w (.slice ay ny cy) ys) (bx : xs.length ≤ 100000) (hlen : ys.length ≤ xs.length) (hle : val ys ≤ val xs) (ox : okw xs) (oy : okw ys) :
    Calls Try.prog 71 #[.slice ax nx cx, .slice ay ny cy] w fun e w' => ∃ v zs, e = .returned v ∧ Words w.heap.size w' v zs ∧ okw zs ∧ val zs = val xs - val ys ∧ zs.length ≤ 100001 ∧ Below w.heap.size w w' := by
  obtain ⟨i0, hi, hz0, hz1, hz2⟩ := info_parts Try.infoWord
  obtain ⟨b, off, px, sx⟩ := hx.place
  obtain ⟨b2, off2, py, sy⟩ := hy.place
  have e1 := hx.len
  have e2 := hy.len
  subst e1; subst e2
  have ne : ∀ (zs : List Nat) k, k < zs.length → zs ≠ [] := fun zs k h h0 => by rw [h0] at h; simp at h
  clear hx hy
  go_enter Try.func71, Try.ntmps71
  go_wp2_with fail
  go_loopw [5, 6, 7] (fun o c i wr => ∃ (k cv : Nat) (ds : List Nat), i = .int .i64 (k : Int) ∧ c = .int .u64 (cv : Int) ∧ Words w.heap.size wr o ds ∧ ds.length = k ∧ okw ds ∧ cv ≤ 1 ∧ k ≤ xs.length ∧ val (xs.take k) + pw k * cv = val ds + val (ys.take k) ∧ Below w.heap.size w wr) (fun _ _ i _ => xs.length - (intOf i).toNat)
  case atStart => exact ⟨0, 0, [], rfl, rfl, Words.nil _ _, rfl, okw_nil, by omega, by omega, by simp [val, pw], Below.refl _ _⟩
  case round =>
    obtain ⟨k, cv, ds, rfl, rfl, hw, hd, od, hcv, hk, hval, hb⟩ := hrel
    have hwr : w.heap.size ≤ wr.heap.size := hb.size
    have hown : wr.ownsRow w.heap.size 55 1 u5 ds.length (ds.map fun x : Nat => Value.int .u32 (x : Int)) := hw
    have hx1 := okw_get ox k
    have hy1 := okw_get oy k
    by_cases h1 : k < xs.length
    · obtain ⟨T, D, C, s1, s2, s3, hD1, hC1, hs, hT⟩ := sub_word hx1 hy1 hcv
      have HK : Hid (val (xs.take (k + 1)) + pw (k + 1) * C = val (ds ++ [D]) + val (ys.take (k + 1))) := sub_val hval hd rfl rfl hs
      have HD : Hid (ds.length = k) := hd
      have hdl : ds.length ≤ 100000 := by omega
      obtain ⟨ea, hla⟩ := px (ne _ _ h1)
      have hcx : wr.cell? ⟨b, off + k, none⟩ = some (.int .u32 ((xs[k]?.getD 0 : Nat) : Int)) := (sx.below hb hla) k h1
      obtain ⟨x, hx'⟩ : ∃ x, xs[k]?.getD 0 = x := ⟨_, rfl⟩
      rw [hx'] at hcx hx1 s1
      subst ea
      have t1 : (k : Int) < xs.length := by omega
      clear hval hd hs
      by_cases h2 : k < ys.length
      · obtain ⟨eb, hlb⟩ := py (ne _ _ h2)
        have hcy : wr.cell? ⟨b2, off2 + k, none⟩ = some (.int .u32 ((ys[k]?.getD 0 : Nat) : Int)) := (sy.below hb hlb) k h2
        obtain ⟨y, hy'⟩ : ∃ y, ys[k]?.getD 0 = y := ⟨_, rfl⟩
        rw [hy'] at hcy hy1 s1
        subst eb
        have t2 : (k : Int) < ys.length := by omega
        clear hx' hy' px py sx sy
        go_wp2_with (at_builtin; refine wpList_append_own _ rfl _ _ 22 rfl w.heap.size 55 i0 (.int .u32 0) 1 4 Try.underlying22 hi hz0 hz1 hz2 rfl (by decide) _ _ _ rfl (World.ownsRow.alloc hown _) ⟨wr.heap.size, 0, none⟩ 1 1 [.int .u32 (D : Int)] rfl rfl (new_one _ _ _) (by simp [Value.oneCell']) (by unfold maxLen; omega) (by omega) (by simp; omega) ?_; intro v' w1 hown2 hgrow _)
        have hgrow' : (wr.alloc (.cells #[.int .u32 (D : Int)] 55)).grownBy w1 u5.ownBlock := hgrow
        have B1 := below_grown hb (Nat.le_refl _) hown hgrow'
        have W1 := words_snoc hown2
        go_roundw
        case rel => exact ⟨k + 1, C, ds ++ [D], by go_num, rfl, W1, by simp [HD.out], okw_append.2 ⟨od, okw_cons.2 ⟨hD1, okw_nil⟩⟩, hC1, by omega, HK.out, B1⟩
        case measure => simp [intOf]; omega
      · have y0 := get_past h2
        rw [y0] at s1
        have s4 : IntKind.u64.wrap ((x : Int) - cv) = (T : Int) := by simp only [IntKind.wrap_u64] at s1 ⊢; omega
        have t2 : ¬ (k : Int) < ys.length := by omega
        clear hx' px py sx sy s1 y0 hy1
        go_wp2_with (at_builtin; refine wpList_append_own _ rfl _ _ 22 rfl w.heap.size 55 i0 (.int .u32 0) 1 4 Try.underlying22 hi hz0 hz1 hz2 rfl (by decide) _ _ _ rfl (World.ownsRow.alloc hown _) ⟨wr.heap.size, 0, none⟩ 1 1 [.int .u32 (D : Int)] rfl rfl (new_one _ _ _) (by simp [Value.oneCell']) (by unfold maxLen; omega) (by omega) (by simp; omega) ?_; intro v' w1 hown2 hgrow _)
        have hgrow' : (wr.alloc (.cells #[.int .u32 (D : Int)] 55)).grownBy w1 u5.ownBlock := hgrow
        have B1 := below_grown hb (Nat.le_refl _) hown hgrow'
        have W1 := words_snoc hown2
        go_roundw
        case rel => exact ⟨k + 1, C, ds ++ [D], by go_num, rfl, W1, by simp [HD.out], okw_append.2 ⟨od, okw_cons.2 ⟨hD1, okw_nil⟩⟩, hC1, by omega, HK.out, B1⟩
        case measure => simp [intOf]; omega
    · obtain rfl : k = xs.length := by omega
      have t1 : ¬ (xs.length : Int) < xs.length := by omega
      rw [List.take_of_length_le (Nat.le_refl _), List.take_of_length_le hlen] at hval
      have hl := val_lt od
      rw [hd] at hl
      have hc0 : cv = 0 := by
        rcases Nat.eq_zero_or_pos cv with h | h
        · exact h
        · have : pw xs.length * 1 ≤ pw xs.length * cv := Nat.mul_le_mul_left _ h
          omega
      have HE : Hid (val ds = val xs - val ys) := (by
        show _ = _
        subst hc0
        simp at hval
        omega)
      have hdl : ds.length ≤ 100001 := by omega
      clear hval hd hl hc0 px py sx sy hx1 hy1
      go_wp2
      go_ret
      exact ⟨_, rfl, ds, hw, od, HE.out, hdl, hb⟩
end Go.Proofs.Ytjgibhpmbiphdaa
