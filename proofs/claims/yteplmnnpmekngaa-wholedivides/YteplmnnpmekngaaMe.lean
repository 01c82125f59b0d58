/-
  The reference: plus.
  The reference: sum.
  The reference: Add, Sub.
-/
import Derived.Test.YteplmnnpmekngaaMd
namespace Go.Proofs.Yteplmnnpmekngaa
open Go.RowKit

theorem get_past {xs : List Nat} {k : Nat} (h : ¬ k < xs.length) : xs[k]?.getD 0 = 0 := by rw [List.getElem?_eq_none (by omega)]; rfl
theorem words_snoc {B : Nat} {w1 : World} {v' : Value} {ds : List Nat} {d : Nat} (h : w1.ownsRow B 55 1 v' (ds.length + 1) ((ds.map fun x : Nat => Value.int .u32 (x : Int)) ++ [Value.int .u32 (d : Int)])) : Words B w1 v' (ds ++ [d]) := by
  unfold Words
  simpa using h
theorem below_grown {B n : Nat} {w wr w1 : World} {v : Value} {xs : List Value} {o : Obj} {t : TypeId} (hb : Below B w wr) (hB : B ≤ w.heap.size) (hown : wr.ownsRow B t 1 v n xs) (hg : (wr.alloc o).grownBy w1 v.ownBlock) : Below B w w1 := by
  refine (hb.alloc (Nat.le_trans hB hb.size) o).grown hg (by simp; have := hb.size; omega) (fun k e => ?_)
  rcases hown.2 with ⟨rfl, _⟩ | ⟨g, cap, cur, rfl, h1, _⟩
  · cases e
  · simp [Value.ownBlock] at e
    omega

set_option maxRecDepth 100000 in
set_option maxHeartbeats 2000000 in
theorem rplus_any (ax ay : Option Addr) (nx cx ny cy : Nat) (xs ys : List Nat) (w : World) (hx : Sl .u32 w (.slice ax nx cx) xs) (hy : Sl .u32 w (.slice ay ny cy) ys) (bx : xs.length ≤ 100000) (by_ : ys.length ≤ 100000) (ox : okw xs) (oy : okw ys) :
    Calls Try.prog 67 #[.slice ax nx cx, .slice ay ny cy] w fun e w' => ∃ v zs, e = .returned v ∧ Words w.heap.size w' v zs ∧ okw zs ∧ val zs = val xs + val ys ∧ zs.length ≤ 100001 ∧ Below w.heap.size w w' := by
  obtain ⟨i0, hi, hz0, hz1, hz2⟩ := info_parts Try.infoWord
  obtain ⟨b, off, px, sx⟩ := hx.place
  obtain ⟨b2, off2, py, sy⟩ := hy.place
  have e1 := hx.len
  have e2 := hy.len
  subst e1; subst e2
  have ne : ∀ (zs : List Nat) k, k < zs.length → zs ≠ [] := fun zs k h h0 => by rw [h0] at h; simp at h
  clear hx hy
  go_enter Try.func67, Try.ntmps67
  go_wp2_with fail
  go_loopw [5, 6, 7] (fun o c i wr => ∃ (k cv : Nat) (ds : List Nat), i = .int .i64 (k : Int) ∧ c = .int .u64 (cv : Int) ∧ Words w.heap.size wr o ds ∧ ds.length = k ∧ okw ds ∧ cv ≤ 1 ∧ k ≤ 100000 ∧ (k ≤ xs.length ∨ k ≤ ys.length) ∧ val ds + pw k * cv = val (xs.take k) + val (ys.take k) ∧ Below w.heap.size w wr) (fun _ _ i _ => 100000 - (intOf i).toNat)
  case atStart => exact ⟨0, 0, [], rfl, rfl, Words.nil _ _, rfl, okw_nil, by omega, by omega, by omega, by simp [val, pw], Below.refl _ _⟩
  case round =>
    obtain ⟨k, cv, ds, rfl, rfl, hw, hd, od, hcv, hk, hkk, hval, hb⟩ := hrel
    have hwr : w.heap.size ≤ wr.heap.size := hb.size
    have hown : wr.ownsRow w.heap.size 55 1 u5 ds.length (ds.map fun x : Nat => Value.int .u32 (x : Int)) := hw
    have hx1 := okw_get ox k
    have hy1 := okw_get oy k
    by_cases hend : k < xs.length ∨ k < ys.length
    · -- one digit more
      have key : ∀ S : Nat, xs[k]?.getD 0 + ys[k]?.getD 0 + cv = S → val (ds ++ [S % 4294967296]) + pw (k + 1) * (S / 4294967296) = val (xs.take (k + 1)) + val (ys.take (k + 1)) := fun S hS => add_val hval hd rfl rfl (by rw [hS]; omega)
      obtain ⟨S, hS⟩ : ∃ S, xs[k]?.getD 0 + ys[k]?.getD 0 + cv = S := ⟨_, rfl⟩
      have HK : Hid (val (ds ++ [S % 4294967296]) + pw (k + 1) * (S / 4294967296) = val (xs.take (k + 1)) + val (ys.take (k + 1))) := key S hS
      have hS1 : S < 8589934592 := by omega
      have HD : Hid (ds.length = k) := hd
      have hdl : ds.length ≤ 100000 := by omega
      obtain ⟨D, hD⟩ : ∃ D, S % 4294967296 = D := ⟨_, rfl⟩
      obtain ⟨C, hC⟩ : ∃ C, S / 4294967296 = C := ⟨_, rfl⟩
      have s1 : (S : Int) % 4294967296 = (D : Int) := by omega
      have s2 : (S : Int) / 4294967296 = (C : Int) := by omega
      have hC1 : C ≤ 1 := by omega
      have hD1 : D < 4294967296 := by omega
      rw [hD, hC] at HK
      clear key hval hd hD hC
      by_cases h1 : k < xs.length
      · obtain ⟨ea, hla⟩ := px (ne _ _ h1)
        have hcx : wr.cell? ⟨b, off + k, none⟩ = some (.int .u32 ((xs[k]?.getD 0 : Nat) : Int)) := (sx.below hb hla) k h1
        obtain ⟨x, hx'⟩ : ∃ x, xs[k]?.getD 0 = x := ⟨_, rfl⟩
        rw [hx'] at hcx hS hx1
        subst ea
        by_cases h2 : k < ys.length
        · obtain ⟨eb, hlb⟩ := py (ne _ _ h2)
          have hcy : wr.cell? ⟨b2, off2 + k, none⟩ = some (.int .u32 ((ys[k]?.getD 0 : Nat) : Int)) := (sy.below hb hlb) k h2
          obtain ⟨y, hy'⟩ : ∃ y, ys[k]?.getD 0 = y := ⟨_, rfl⟩
          rw [hy'] at hcy hS hy1
          subst eb
          have s3 : (cv : Int) + x + y = (S : Int) := by omega
          have t1 : (k : Int) < xs.length := by omega
          have t2 : (k : Int) < ys.length := by omega
          clear hx' hy' hS hend px py sx sy hkk
          go_wp2_with (at_builtin; refine wpList_append_own _ rfl _ _ 22 rfl w.heap.size 55 i0 (.int .u32 0) 1 4 Try.underlying22 hi hz0 hz1 hz2 rfl (by decide) _ _ _ rfl (World.ownsRow.alloc hown _) ⟨wr.heap.size, 0, none⟩ 1 1 [.int .u32 (D : Int)] rfl rfl (new_one _ _ _) (by simp [Value.oneCell']) (by unfold maxLen; omega) (by omega) (by simp; omega) ?_; intro v' w1 hown2 hgrow _)
          have hgrow' : (wr.alloc (.cells #[.int .u32 (D : Int)] 55)).grownBy w1 u5.ownBlock := hgrow
          have B1 := below_grown hb (Nat.le_refl _) hown hgrow'
          have W1 := words_snoc hown2
          go_roundw
          case rel => exact ⟨k + 1, C, ds ++ [D], by go_num, rfl, W1, by simp [HD.out], okw_append.2 ⟨od, okw_cons.2 ⟨hD1, okw_nil⟩⟩, hC1, by omega, by omega, HK.out, B1⟩
          case measure => simp [intOf]; omega
        · have y0 := get_past h2
          have s3 : (cv : Int) + x = (S : Int) := by omega
          have t1 : (k : Int) < xs.length := by omega
          have t2 : ¬ (k : Int) < ys.length := by omega
          clear hx' hS hend px py sx sy hkk y0 hy1
          go_wp2_with (at_builtin; refine wpList_append_own _ rfl _ _ 22 rfl w.heap.size 55 i0 (.int .u32 0) 1 4 Try.underlying22 hi hz0 hz1 hz2 rfl (by decide) _ _ _ rfl (World.ownsRow.alloc hown _) ⟨wr.heap.size, 0, none⟩ 1 1 [.int .u32 (D : Int)] rfl rfl (new_one _ _ _) (by simp [Value.oneCell']) (by unfold maxLen; omega) (by omega) (by simp; omega) ?_; intro v' w1 hown2 hgrow _)
          have hgrow' : (wr.alloc (.cells #[.int .u32 (D : Int)] 55)).grownBy w1 u5.ownBlock := hgrow
          have B1 := below_grown hb (Nat.le_refl _) hown hgrow'
          have W1 := words_snoc hown2
          go_roundw
          case rel => exact ⟨k + 1, C, ds ++ [D], by go_num, rfl, W1, by simp [HD.out], okw_append.2 ⟨od, okw_cons.2 ⟨hD1, okw_nil⟩⟩, hC1, by omega, by omega, HK.out, B1⟩
          case measure => simp [intOf]; omega
      · have x0 := get_past h1
        have h2 : k < ys.length := by omega
        · obtain ⟨eb, hlb⟩ := py (ne _ _ h2)
          have hcy : wr.cell? ⟨b2, off2 + k, none⟩ = some (.int .u32 ((ys[k]?.getD 0 : Nat) : Int)) := (sy.below hb hlb) k h2
          obtain ⟨y, hy'⟩ : ∃ y, ys[k]?.getD 0 = y := ⟨_, rfl⟩
          rw [hy'] at hcy hS hy1
          subst eb
          have s3 : (cv : Int) + y = (S : Int) := by omega
          have t1 : ¬ (k : Int) < xs.length := by omega
          have t2 : (k : Int) < ys.length := by omega
          clear hy' hS hend px py sx sy hkk x0 hx1
          go_wp2_with (at_builtin; refine wpList_append_own _ rfl _ _ 22 rfl w.heap.size 55 i0 (.int .u32 0) 1 4 Try.underlying22 hi hz0 hz1 hz2 rfl (by decide) _ _ _ rfl (World.ownsRow.alloc hown _) ⟨wr.heap.size, 0, none⟩ 1 1 [.int .u32 (D : Int)] rfl rfl (new_one _ _ _) (by simp [Value.oneCell']) (by unfold maxLen; omega) (by omega) (by simp; omega) ?_; intro v' w1 hown2 hgrow _)
          have hgrow' : (wr.alloc (.cells #[.int .u32 (D : Int)] 55)).grownBy w1 u5.ownBlock := hgrow
          have B1 := below_grown hb (Nat.le_refl _) hown hgrow'
          have W1 := words_snoc hown2
          go_roundw
          case rel => exact ⟨k + 1, C, ds ++ [D], by go_num, rfl, W1, by simp [HD.out], okw_append.2 ⟨od, okw_cons.2 ⟨hD1, okw_nil⟩⟩, hC1, by omega, by omega, HK.out, B1⟩
          case measure => simp [intOf]; omega
    · -- the last digit
      have t1 : ¬ (k : Int) < xs.length := by omega
      have t2 : ¬ (k : Int) < ys.length := by omega
      have hdl : ds.length ≤ 100000 := by omega
      have HE : Hid (val (ds ++ [cv]) = val xs + val ys) := (by
        show _ = _
        rw [val_append, hd]
        rw [List.take_of_length_le (by omega), List.take_of_length_le (by omega)] at hval
        simp only [val]
        omega)
      have HD : Hid (ds.length = k) := hd
      clear hval hd hend hkk px py sx sy hx1 hy1
      go_wp2_with (at_builtin; refine wpList_append_own _ rfl _ _ 22 rfl w.heap.size 55 i0 (.int .u32 0) 1 4 Try.underlying22 hi hz0 hz1 hz2 rfl (by decide) _ _ _ rfl (World.ownsRow.alloc hown _) ⟨wr.heap.size, 0, none⟩ 1 1 [.int .u32 (cv : Int)] rfl rfl (new_one _ _ _) (by simp [Value.oneCell']) (by unfold maxLen; omega) (by omega) (by simp; omega) ?_; intro v' w1 hown2 hgrow _)
      have hgrow' : (wr.alloc (.cells #[.int .u32 (cv : Int)] 55)).grownBy w1 u5.ownBlock := hgrow
      have B1 := below_grown hb (Nat.le_refl _) hown hgrow'
      have W1 := words_snoc hown2
      go_ret
      exact ⟨_, rfl, ds ++ [cv], W1, okw_append.2 ⟨od, okw_cons.2 ⟨by omega, okw_nil⟩⟩, HE.out, by simp; omega, B1⟩

/-- A digit's difference, as the machine has it. -/
theorem sub_word {x y c : Nat} (hx : x < 4294967296) (hy : y < 4294967296) (hc : c ≤ 1) : ∃ T D C : Nat, IntKind.u64.wrap (IntKind.u64.wrap ((x : Int) - c) - y) = (T : Int) ∧ (T : Int) % 4294967296 = (D : Int) ∧ (T : Int) / 9223372036854775808 = (C : Int) ∧ D < 4294967296 ∧ C ≤ 1 ∧ x + 4294967296 * C = D + y + c ∧ T < 18446744073709551616 := by
  simp only [IntKind.wrap_u64]
  by_cases h : y + c ≤ x
  · exact ⟨x - y - c, x - y - c, 0, by omega, by omega, by omega, by omega, by omega, by omega, by omega⟩
  · exact ⟨x + 18446744073709551616 - y - c, x + 4294967296 - y - c, 1, by omega, by omega, by omega, by omega, by omega, by omega, by omega⟩

set_option maxRecDepth 100000 in
set_option maxHeartbeats 2000000 in
theorem rminus_any (ax ay : Option Addr) (nx cx ny cy : Nat) (xs ys : List Nat) (w : World) (hx : Sl .u32 w (.slice ax nx cx) xs) (hy : Sl .u32 w (.slice ay ny cy) ys) (bx : xs.length ≤ 100000) (hlen : ys.length ≤ xs.length) (hle : val ys ≤ val xs) (ox : okw xs) (oy : okw ys) :
    Calls Try.prog 71 #[.slice ax nx cx, .slice ay ny cy] w fun e w' => ∃ v zs, e = .returned v ∧ Words w.heap.size w' v zs ∧ okw zs ∧ val zs = val xs - val ys ∧ zs.length ≤ 100001 ∧ Below w.heap.size w w' := by
  obtain ⟨i0, hi, hz0, hz1, hz2⟩ := info_parts Try.infoWord
  obtain ⟨b, off, px, sx⟩ := hx.place
  obtain ⟨b2, off2, py, sy⟩ := hy.place
  have e1 := hx.len
  have e2 := hy.len
  subst e1; subst e2
  have ne : ∀ (zs : List Nat) k, k < zs.length → zs ≠ [] := fun zs k h h0 => by rw [h0] at h; simp at h
  clear hx hy
  go_enter Try.func71, Try.ntmps71
  go_wp2_with fail
  go_loopw [5, 6, 7] (fun o c i wr => ∃ (k cv : Nat) (ds : List Nat), i = .int .i64 (k : Int) ∧ c = .int .u64 (cv : Int) ∧ Words w.heap.size wr o ds ∧ ds.length = k ∧ okw ds ∧ cv ≤ 1 ∧ k ≤ xs.length ∧ val (xs.take k) + pw k * cv = val ds + val (ys.take k) ∧ Below w.heap.size w wr) (fun _ _ i _ => xs.length - (intOf i).toNat)
  case atStart => exact ⟨0, 0, [], rfl, rfl, Words.nil _ _, rfl, okw_nil, by omega, by omega, by simp [val, pw], Below.refl _ _⟩
  case round =>
    obtain ⟨k, cv, ds, rfl, rfl, hw, hd, od, hcv, hk, hval, hb⟩ := hrel
    have hwr : w.heap.size ≤ wr.heap.size := hb.size
    have hown : wr.ownsRow w.heap.size 55 1 u5 ds.length (ds.map fun x : Nat => Value.int .u32 (x : Int)) := hw
    have hx1 := okw_get ox k
    have hy1 := okw_get oy k
    by_cases h1 : k < xs.length
    · obtain ⟨T, D, C, s1, s2, s3, hD1, hC1, hs, hT⟩ := sub_word hx1 hy1 hcv
      have HK : Hid (val (xs.take (k + 1)) + pw (k + 1) * C = val (ds ++ [D]) + val (ys.take (k + 1))) := sub_val hval hd rfl rfl hs
      have HD : Hid (ds.length = k) := hd
      have hdl : ds.length ≤ 100000 := by omega
      obtain ⟨ea, hla⟩ := px (ne _ _ h1)
      have hcx : wr.cell? ⟨b, off + k, none⟩ = some (.int .u32 ((xs[k]?.getD 0 : Nat) : Int)) := (sx.below hb hla) k h1
      obtain ⟨x, hx'⟩ : ∃ x, xs[k]?.getD 0 = x := ⟨_, rfl⟩
      rw [hx'] at hcx hx1 s1
      subst ea
      have t1 : (k : Int) < xs.length := by omega
      clear hval hd hs
      by_cases h2 : k < ys.length
      · obtain ⟨eb, hlb⟩ := py (ne _ _ h2)
        have hcy : wr.cell? ⟨b2, off2 + k, none⟩ = some (.int .u32 ((ys[k]?.getD 0 : Nat) : Int)) := (sy.below hb hlb) k h2
        obtain ⟨y, hy'⟩ : ∃ y, ys[k]?.getD 0 = y := ⟨_, rfl⟩
        rw [hy'] at hcy hy1 s1
        subst eb
        have t2 : (k : Int) < ys.length := by omega
        clear hx' hy' px py sx sy
        go_wp2_with (at_builtin; refine wpList_append_own _ rfl _ _ 22 rfl w.heap.size 55 i0 (.int .u32 0) 1 4 Try.underlying22 hi hz0 hz1 hz2 rfl (by decide) _ _ _ rfl (World.ownsRow.alloc hown _) ⟨wr.heap.size, 0, none⟩ 1 1 [.int .u32 (D : Int)] rfl rfl (new_one _ _ _) (by simp [Value.oneCell']) (by unfold maxLen; omega) (by omega) (by simp; omega) ?_; intro v' w1 hown2 hgrow _)
        have hgrow' : (wr.alloc (.cells #[.int .u32 (D : Int)] 55)).grownBy w1 u5.ownBlock := hgrow
        have B1 := below_grown hb (Nat.le_refl _) hown hgrow'
        have W1 := words_snoc hown2
        go_roundw
        case rel => exact ⟨k + 1, C, ds ++ [D], by go_num, rfl, W1, by simp [HD.out], okw_append.2 ⟨od, okw_cons.2 ⟨hD1, okw_nil⟩⟩, hC1, by omega, HK.out, B1⟩
        case measure => simp [intOf]; omega
      · have y0 := get_past h2
        rw [y0] at s1
        have s4 : IntKind.u64.wrap ((x : Int) - cv) = (T : Int) := by simp only [IntKind.wrap_u64] at s1 ⊢; omega
        have t2 : ¬ (k : Int) < ys.length := by omega
        clear hx' px py sx sy s1 y0 hy1
        go_wp2_with (at_builtin; refine wpList_append_own _ rfl _ _ 22 rfl w.heap.size 55 i0 (.int .u32 0) 1 4 Try.underlying22 hi hz0 hz1 hz2 rfl (by decide) _ _ _ rfl (World.ownsRow.alloc hown _) ⟨wr.heap.size, 0, none⟩ 1 1 [.int .u32 (D : Int)] rfl rfl (new_one _ _ _) (by simp [Value.oneCell']) (by unfold maxLen; omega) (by omega) (by simp; omega) ?_; intro v' w1 hown2 hgrow _)
        have hgrow' : (wr.alloc (.cells #[.int .u32 (D : Int)] 55)).grownBy w1 u5.ownBlock := hgrow
        have B1 := below_grown hb (Nat.le_refl _) hown hgrow'
        have W1 := words_snoc hown2
        go_roundw
        case rel => exact ⟨k + 1, C, ds ++ [D], by go_num, rfl, W1, by simp [HD.out], okw_append.2 ⟨od, okw_cons.2 ⟨hD1, okw_nil⟩⟩, hC1, by omega, HK.out, B1⟩
        case measure => simp [intOf]; omega
    · obtain rfl : k = xs.length := by omega
      have t1 : ¬ (xs.length : Int) < xs.length := by omega
      rw [List.take_of_length_le (Nat.le_refl _), List.take_of_length_le hlen] at hval
      have hl := val_lt od
      rw [hd] at hl
      have hc0 : cv = 0 := by
        rcases Nat.eq_zero_or_pos cv with h | h
        · exact h
        · have : pw xs.length * 1 ≤ pw xs.length * cv := Nat.mul_le_mul_left _ h
          omega
      have HE : Hid (val ds = val xs - val ys) := (by
        show _ = _
        subst hc0
        simp at hval
        omega)
      have hdl : ds.length ≤ 100001 := by omega
      clear hval hd hl hc0 px py sx sy hx1 hy1
      go_wp2
      go_ret
      exact ⟨_, rfl, ds, hw, od, HE.out, hdl, hb⟩
end Go.Proofs.Yteplmnnpmekngaa
namespace Go.Proofs.Yteplmnnpmekngaa
open Go.RowKit

theorem IntIs.len_le {B : Nat} {w : World} {neg : Bool} {a : Option Addr} {n c : Nat} {z : Int} (h : IntIs B w (.agg #[.bool neg, .slice a n c]) z) (k : Nat) (hz : z.natAbs < pw k) : n ≤ k := by
  obtain ⟨xs, ho, ok, fm, e⟩ := h.open
  rw [ho.len]
  exact Tr_len_le fm.tr k (by rw [← e, zv_abs] at hz; exact hz)

/-- Two Ints in their boxes, N and N + 1. -/
def C4 (N : Nat) (na : Bool) (ax : Option Addr) (nx cx : Nat) (nb : Bool) (ay : Option Addr) (ny cy : Nat) (W : World) : Prop :=
  W.cell? ⟨N, 0, none⟩ = some (.bool na) ∧ W.cell? ⟨N, 1, none⟩ = some (.slice ax nx cx) ∧ W.cell? ⟨N + 1, 0, none⟩ = some (.bool nb) ∧ W.cell? ⟨N + 1, 1, none⟩ = some (.slice ay ny cy)
section
variable {N : Nat} {na : Bool} {ax : Option Addr} {nx cx : Nat} {nb : Bool} {ay : Option Addr} {ny cy : Nat} {W W' : World}
theorem C4.mk (hA : Box2 W N na ax nx cx) (hB : Box2 W (N + 1) nb ay ny cy) : C4 N na ax nx cx nb ay ny cy W := ⟨hA.c0, hA.c1, hB.c0, hB.c1⟩
theorem C4.drew (h : C4 N na ax nx cx nb ay ny cy W) : C4 N na ax nx cx nb ay ny cy W.drew := h
theorem C4.keep (h : C4 N na ax nx cx nb ay ny cy W) (hb : Below W.heap.size W W') : C4 N na ax nx cx nb ay ny cy W' :=
  ⟨cell_below h.1 hb, cell_below h.2.1 hb, cell_below h.2.2.1 hb, cell_below h.2.2.2 hb⟩
theorem C4.put (h : C4 N na ax nx cx nb ay ny cy W) (x : Bool) (s : Value) : C4 N na ax nx cx nb ay ny cy ((W.setCell ⟨N + 1 + 1, 0, none⟩ (.bool x)).setCell ⟨N + 1 + 1, 1, none⟩ s) := by
  have o : ∀ p : Addr, p.block < N + 1 + 1 → ((W.setCell ⟨N + 1 + 1, 0, none⟩ (.bool x)).setCell ⟨N + 1 + 1, 1, none⟩ s).cell? p = W.cell? p := fun p hp => by
    rw [World.cell?_setCell_other _ _ _ _ (by intro e; rw [← e] at hp; simp at hp), World.cell?_setCell_other _ _ _ _ (by intro e; rw [← e] at hp; simp at hp)]
  exact ⟨(o _ (by simp; omega)).trans h.1, (o _ (by simp; omega)).trans h.2.1, (o _ (by simp)).trans h.2.2.1, (o _ (by simp)).trans h.2.2.2⟩
end

set_option maxRecDepth 100000 in
set_option maxHeartbeats 4000000 in
theorem rsum_any (na nb : Bool) (ax ay : Option Addr) (nx cx ny cy : Nat) (X Y : List Nat) (w : World) (hx : Sl .u32 w (.slice ax nx cx) X) (hy : Sl .u32 w (.slice ay ny cy) Y) (oX : okw X) (oY : okw Y) (tX : Tr X) (tY : Tr Y)
    (bx : X.length ≤ 100000) (by_ : Y.length ≤ 100000) :
    Calls Try.prog 44 #[.agg #[.bool na, .slice ax nx cx], .agg #[.bool nb, .slice ay ny cy]] w fun e w' => ∃ neg a n cap, e = .returned (.agg #[.bool neg, .slice a n cap]) ∧ IntIs w.heap.size w' (.agg #[.bool neg, .slice a n cap]) (zv na (val X) + zv nb (val Y)) ∧ Below w.heap.size w w' := by
  have hbs := boxes3 w na nb false ax ay none nx cx ny cy 0 0 24
  go_enter Try.func44, Try.ntmps44
  go_upto_region 1 with fail
  obtain ⟨W0, hW0⟩ : ∃ W0, ((w.alloc (.cells #[.bool na, .slice ax nx cx] 24)).alloc (.cells #[.bool nb, .slice ay ny cy] 24)).alloc (.cells #[.bool false, .slice none 0 0] 24) = W0 := ⟨_, rfl⟩
  simp only [hW0] at hbs
  rw [hW0]
  clear hW0
  obtain ⟨hA, hB, hR, hB0⟩ := hbs
  have hC := C4.mk hA hB
  have a0 := hA.c0
  have a1 := hA.c1
  have b0 := hB.c0
  have b1 := hB.c1
  have hX := hx.below hB0
  have hY := hy.below hB0
  clear hx hy hA hB
  by_cases hnm : (na == nb) = true
  · obtain rfl : na = nb := by simpa using hnm
    go_wp2_with fail
    go_region_held3 (fun W => W.cell? ⟨w.heap.size, 0, none⟩ = some (.bool na) ∧ W.cell? ⟨w.heap.size, 1, none⟩ = some (.slice ax nx cx) ∧ W.cell? ⟨w.heap.size + 1, 0, none⟩ = some (.bool na) ∧ W.cell? ⟨w.heap.size + 1, 1, none⟩ = some (.slice ay ny cy))
      (first | exact hC.drew | assumption | exact C4.put hC3 _ _ | exact C4.keep (by assumption) hb2 | exact C4.keep hC2 hb3 | fail)
      (first | (go_at_call 67; refine (rplus_any ax ay nx cx ny cy X Y _ (hX.below below_drew) (hY.below below_drew) bx by_ oX oY).mono ?_; rintro e w2 ⟨v2, Z, rfl, hZ, oZ, vZ, lZ, hb2⟩; obtain ⟨a2, c2, rfl⟩ := hZ.ow.form; have HVZ : Hid (val Z = val X + val Y) := vZ; have hR2 := (hR.below below_drew).below hb2; have hC2 := hC.drew.keep hb2; clear vZ)
             | (go_at_call 49; refine (rmade_any na a2 _ c2 Z _ hZ.ow.sl oZ (by omega)).mono ?_; rintro e w3 ⟨n3, a3, l3, c3, rfl, hI, hb3⟩; have hR3 := hR2.below hb3; have hC3 := hC2.keep hb3; have s0 := hR3.c0; have s1 := hR3.c1; have sf0 := hR3.f0; have sf1 := hR3.f1)
             | fail)
    have hBs : w.heap.size ≤ W0.drew.heap.size := hB0.size
    have hBw : Below w.heap.size w w2 := hB0.drew.trans (hb2.mono hBs)
    have hfin := hR3.put n3 a3 l3 c3
    have hg0 := hfin.c0
    have hg1 := hfin.c1
    unfold put2 at hg0 hg1
    have hI2 := (hI.mono (B' := w.heap.size) (Nat.le_trans hBs hb2.size)).put hR3 n3 (.slice a3 l3 c3)
    rw [HVZ.out, zv_same] at hI2
    have HI2 : Hid (IntIs w.heap.size (put2 w3 (w.heap.size + 1 + 1) n3 (.slice a3 l3 c3)) (.agg #[.bool n3, .slice a3 l3 c3]) (zv na (val X) + zv na (val Y))) := hI2
    clear hI2
    go_wp2
    refine bodyPost_ret (v := .agg #[.bool n3, .slice a3 l3 c3]) ?_ rfl ⟨_, _, _, _, rfl, HI2.out, below_put2 (N := w.heap.size + 1 + 1) (hBw.trans (hb3.mono hBw.size)) (by omega) n3 (.slice a3 l3 c3)⟩
    simp [results, Try.f44, go_sem, hg0, hg1]
  · have hnm' : (na == nb) = false := by simpa using hnm
    clear hnm
    obtain ⟨cv, ecv⟩ : ∃ cv, cmpN (val X) (val Y) = cv := ⟨_, rfl⟩
    go_wp2_with fail
    refine (rsize_any ax ay nx cx ny cy X Y W0 hX hY oX oY tX tY (by omega)).mono ?_
    rw [ecv]
    rintro e w1 ⟨rfl, hb1⟩
    replace hX := hX.below hb1
    replace hY := hY.below hb1
    replace hR := hR.below hb1
    replace hC := hC.keep hb1
    replace hB0 : Below w.heap.size w w1 := hB0.trans (hb1.mono hB0.size)
    clear a0 a1 b0 b1 hb1
    clear W0
    have a0 := hC.1
    have a1 := hC.2.1
    have b0 := hC.2.2.1
    have b1 := hC.2.2.2
    by_cases hlt : val X < val Y
    · have hcv : ¬ (0 : Int) ≤ cv := by rw [← ecv]; simp [cmpN, hlt]
      have hle : val X ≤ val Y := by omega
      clear ecv
      go_wp2_with fail
      go_region_held3 (fun W => W.cell? ⟨w.heap.size, 0, none⟩ = some (.bool na) ∧ W.cell? ⟨w.heap.size, 1, none⟩ = some (.slice ax nx cx) ∧ W.cell? ⟨w.heap.size + 1, 0, none⟩ = some (.bool nb) ∧ W.cell? ⟨w.heap.size + 1, 1, none⟩ = some (.slice ay ny cy))
        (first | exact hC.drew | assumption | exact C4.put hC3 _ _ | exact C4.keep (by assumption) hb2 | exact C4.keep hC2 hb3 | fail)
        (first | (go_at_call 71; refine (rminus_any ay ax ny cy nx cx Y X _ (hY.below below_drew) (hX.below below_drew) by_ (Tr_len_of_le tX oY hle) hle oY oX).mono ?_; rintro e w2 ⟨v2, Z, rfl, hZ, oZ, vZ, lZ, hb2⟩; obtain ⟨a2, c2, rfl⟩ := hZ.ow.form; have HVZ : Hid (val Z = val Y - val X) := vZ; have hR2 := (hR.below below_drew).below hb2; have hC2 := hC.drew.keep hb2; clear vZ)
               | (go_at_call 49; refine (rmade_any nb a2 _ c2 Z _ hZ.ow.sl oZ (by omega)).mono ?_; rintro e w3 ⟨n3, a3, l3, c3, rfl, hI, hb3⟩; have hR3 := hR2.below hb3; have hC3 := hC2.keep hb3; have s0 := hR3.c0; have s1 := hR3.c1; have sf0 := hR3.f0; have sf1 := hR3.f1)
               | fail)
      have hBs : w.heap.size ≤ w1.drew.heap.size := hB0.size
      have hBw : Below w.heap.size w w2 := hB0.drew.trans (hb2.mono hBs)
      have hfin := hR3.put n3 a3 l3 c3
      have hg0 := hfin.c0
      have hg1 := hfin.c1
      unfold put2 at hg0 hg1
      have hI2 := (hI.mono (B' := w.heap.size) (Nat.le_trans hBs hb2.size)).put hR3 n3 (.slice a3 l3 c3)
      rw [HVZ.out, zv_less na nb _ _ hnm' hlt] at hI2
      have HI2 : Hid (IntIs w.heap.size (put2 w3 (w.heap.size + 1 + 1) n3 (.slice a3 l3 c3)) (.agg #[.bool n3, .slice a3 l3 c3]) (zv na (val X) + zv nb (val Y))) := hI2
      clear hI2
      go_wp2
      refine bodyPost_ret (v := .agg #[.bool n3, .slice a3 l3 c3]) ?_ rfl ⟨_, _, _, _, rfl, HI2.out, below_put2 (N := w.heap.size + 1 + 1) (hBw.trans (hb3.mono hBw.size)) (by omega) n3 (.slice a3 l3 c3)⟩
      simp [results, Try.f44, go_sem, hg0, hg1]
    · have hge : val Y ≤ val X := by omega
      have hcv : (0 : Int) ≤ cv := by rw [← ecv]; unfold cmpN; rw [if_neg hlt]; split <;> omega
      clear ecv
      go_wp2_with fail
      go_region_held3 (fun W => W.cell? ⟨w.heap.size, 0, none⟩ = some (.bool na) ∧ W.cell? ⟨w.heap.size, 1, none⟩ = some (.slice ax nx cx) ∧ W.cell? ⟨w.heap.size + 1, 0, none⟩ = some (.bool nb) ∧ W.cell? ⟨w.heap.size + 1, 1, none⟩ = some (.slice ay ny cy))
        (first | exact hC.drew | assumption | exact C4.put hC3 _ _ | exact C4.keep (by assumption) hb2 | exact C4.keep hC2 hb3 | fail)
        (first | (go_at_call 71; refine (rminus_any ax ay nx cx ny cy X Y _ (hX.below below_drew) (hY.below below_drew) bx (Tr_len_of_le tY oX hge) hge oX oY).mono ?_; rintro e w2 ⟨v2, Z, rfl, hZ, oZ, vZ, lZ, hb2⟩; obtain ⟨a2, c2, rfl⟩ := hZ.ow.form; have HVZ : Hid (val Z = val X - val Y) := vZ; have hR2 := (hR.below below_drew).below hb2; have hC2 := hC.drew.keep hb2; clear vZ)
               | (go_at_call 49; refine (rmade_any na a2 _ c2 Z _ hZ.ow.sl oZ (by omega)).mono ?_; rintro e w3 ⟨n3, a3, l3, c3, rfl, hI, hb3⟩; have hR3 := hR2.below hb3; have hC3 := hC2.keep hb3; have s0 := hR3.c0; have s1 := hR3.c1; have sf0 := hR3.f0; have sf1 := hR3.f1)
               | fail)
      have hBs : w.heap.size ≤ w1.drew.heap.size := hB0.size
      have hBw : Below w.heap.size w w2 := hB0.drew.trans (hb2.mono hBs)
      have hfin := hR3.put n3 a3 l3 c3
      have hg0 := hfin.c0
      have hg1 := hfin.c1
      unfold put2 at hg0 hg1
      have hI2 := (hI.mono (B' := w.heap.size) (Nat.le_trans hBs hb2.size)).put hR3 n3 (.slice a3 l3 c3)
      rw [HVZ.out, zv_more na nb _ _ hnm' hge] at hI2
      have HI2 : Hid (IntIs w.heap.size (put2 w3 (w.heap.size + 1 + 1) n3 (.slice a3 l3 c3)) (.agg #[.bool n3, .slice a3 l3 c3]) (zv na (val X) + zv nb (val Y))) := hI2
      clear hI2
      go_wp2
      refine bodyPost_ret (v := .agg #[.bool n3, .slice a3 l3 c3]) ?_ rfl ⟨_, _, _, _, rfl, HI2.out, below_put2 (N := w.heap.size + 1 + 1) (hBw.trans (hb3.mono hBw.size)) (by omega) n3 (.slice a3 l3 c3)⟩
      simp [results, Try.f44, go_sem, hg0, hg1]
end Go.Proofs.Yteplmnnpmekngaa
namespace Go.Proofs.Yteplmnnpmekngaa
open Go.RowKit

theorem pw_sum {z x y : Int} (hx : x.natAbs < pw 256) (hy : y.natAbs < pw 256) (h : z = x + y) : z.natAbs < pw 257 := by
  have e : pw 257 = pw 1 * pw 256 := pw_add 1 256
  rw [show pw 1 = 4294967296 from rfl] at e
  have := Int.natAbs_add_le x y
  rw [h, e]
  omega

set_option maxRecDepth 100000 in
set_option maxHeartbeats 4000000 in
theorem radd_any (na nb : Bool) (ax ay : Option Addr) (nx cx ny cy : Nat) (xs ys : List Nat) (w : World) (hx : Sl .u32 w (.slice ax nx cx) xs) (hy : Sl .u32 w (.slice ay ny cy) ys) (ox : okw xs) (oy : okw ys)
    (bx : xs.length ≤ 1000000) (by_ : ys.length ≤ 1000000) :
    Calls Try.prog 13 #[.agg #[.bool na, .slice ax nx cx], .agg #[.bool nb, .slice ay ny cy]] w fun e w' => ∃ neg a n cap k, e = .returned (.tuple #[.agg #[.bool neg, .slice a n cap], .int .i64 k]) ∧ SumRes w.heap.size w' (.agg #[.bool neg, .slice a n cap]) k (val xs) (val ys) (zv na (val xs) + zv nb (val ys)) ∧ Below w.heap.size w w' := by
  have hbs := boxes3 w na nb false ax ay none nx cx ny cy 0 0 24
  go_enter Try.func13, Try.ntmps13
  go_wp2_with fail
  obtain ⟨W0, hW0⟩ : ∃ W0, ((w.alloc (.cells #[.bool na, .slice ax nx cx] 24)).alloc (.cells #[.bool nb, .slice ay ny cy] 24)).alloc (.cells #[.bool false, .slice none 0 0] 24) = W0 := ⟨_, rfl⟩
  simp only [hW0] at hbs
  rw [hW0]
  clear hW0
  obtain ⟨hA, hB, hR, hB0⟩ := hbs
  have hX := hx.below hB0
  have hY := hy.below hB0
  have big : ∀ W, Box2 W (w.heap.size + 1 + 1) false none 0 0 → Below w.heap.size w W → (pw 256 ≤ val xs ∨ pw 256 ≤ val ys) → Hid (SumRes w.heap.size (put2 W (w.heap.size + 1 + 1) false (.slice none 0 0)) (.agg #[.bool false, .slice none 0 0]) 3 (val xs) (val ys) (zv na (val xs) + zv nb (val ys)) ∧ Below w.heap.size w (put2 W (w.heap.size + 1 + 1) false (.slice none 0 0))) := fun W _ hb h => ⟨Or.inl ⟨h, rfl, rfl⟩, below_put2 (N := w.heap.size + 1 + 1) hb (by omega) _ _⟩
  refine (rlong_any na ax nx cx xs W0 hX ox bx).mono ?_
  rintro e w1 ⟨rfl, hb1⟩
  replace hX := hX.below hb1
  replace hY := hY.below hb1
  replace hA := hA.below hb1
  replace hB := hB.below hb1
  replace hR := hR.below hb1
  replace hB0 : Below w.heap.size w w1 := hB0.trans (hb1.mono hB0.size)
  clear hb1 hx hy
  clear W0
  have r0 := hR.c0
  have r1 := hR.c1
  have rf0 := hR.f0
  have rf1 := hR.f1
  have b0 := hB.c0
  have b1 := hB.c1
  by_cases h1 : pw 256 ≤ val xs
  · have hd : decide (pw 256 ≤ val xs) = true := by simpa using h1
    rw [hd]
    have HF := big w1 hR hB0 (Or.inl h1)
    have hfin := hR.put false none 0 0
    have hg0 := hfin.c0
    have hg1 := hfin.c1
    unfold put2 at hg0 hg1
    clear big hX hY hA hB
    go_wp2
    refine bodyPost_ret (v := .tuple #[.agg #[.bool false, .slice none 0 0], .int .i64 3]) ?_ rfl ⟨_, _, _, _, _, rfl, HF.out⟩
    simp [results, Try.f13, go_sem, hg0, hg1]
  have hd : decide (pw 256 ≤ val xs) = false := by simpa using h1
  rw [hd]
  clear hd
  go_wp2_with fail
  refine (rlong_any nb ay ny cy ys w1 hY oy by_).mono ?_
  rintro e w2 ⟨rfl, hb1⟩
  replace hX := hX.below hb1
  replace hY := hY.below hb1
  replace hA := hA.below hb1
  replace hB := hB.below hb1
  replace hR := hR.below hb1
  replace hB0 : Below w.heap.size w w2 := hB0.trans (hb1.mono hB0.size)
  clear hb1 r0 r1 rf0 rf1 b0 b1
  clear w1
  have r0 := hR.c0
  have r1 := hR.c1
  have rf0 := hR.f0
  have rf1 := hR.f1
  by_cases h2 : pw 256 ≤ val ys
  · have hd : decide (pw 256 ≤ val ys) = true := by simpa using h2
    rw [hd]
    have HF := big w2 hR hB0 (Or.inr h2)
    have hfin := hR.put false none 0 0
    have hg0 := hfin.c0
    have hg1 := hfin.c1
    unfold put2 at hg0 hg1
    clear big hX hY hA hB
    go_wp2
    refine bodyPost_ret (v := .tuple #[.agg #[.bool false, .slice none 0 0], .int .i64 3]) ?_ rfl ⟨_, _, _, _, _, rfl, HF.out⟩
    simp [results, Try.f13, go_sem, hg0, hg1]
  have hd : decide (pw 256 ≤ val ys) = false := by simpa using h2
  rw [hd]
  have hC := C4.mk hA hB
  clear hd big r0 r1 rf0 rf1
  have a0 := hA.c0
  have a1 := hA.c1
  have b0 := hB.c0
  have b1 := hB.c1
  have x1 : (zv na (val xs)).natAbs < pw 256 := by rw [zv_abs]; omega
  have y1 : (zv nb (val ys)).natAbs < pw 256 := by rw [zv_abs]; omega
  have HZ : Hid (val xs < pw 256 ∧ val ys < pw 256) := ⟨by omega, by omega⟩
  go_wp2_with fail
  go_region_held3 (fun W => W.cell? ⟨w.heap.size, 0, none⟩ = some (.bool na) ∧ W.cell? ⟨w.heap.size, 1, none⟩ = some (.slice ax nx cx) ∧ W.cell? ⟨w.heap.size + 1, 0, none⟩ = some (.bool nb) ∧ W.cell? ⟨w.heap.size + 1, 1, none⟩ = some (.slice ay ny cy))
    (first | exact hC.drew | assumption | exact C4.put hC6 _ _ | exact C4.keep (by assumption) hb3 | exact C4.keep (by assumption) hb4 | exact C4.keep (by assumption) hb5 | exact C4.keep (by assumption) hb6 | fail)
    (first | (go_at_call 35; refine (rform_any na ax nx cx xs _ (hX.below below_drew) ox bx).mono ?_; rintro e w3 ⟨n3, a3, l3, c3, rfl, hI3, hb3⟩; have hR3 := (hR.below below_drew).below hb3; have hC3 := hC.drew.keep hb3; have hY3 := (hY.below below_drew).below hb3)
           | (go_at_call 35; refine (rform_any nb ay ny cy ys _ hY3 oy by_).mono ?_; rintro e w4 ⟨n4, a4, l4, c4, rfl, hI4, hb4⟩; have hR4 := hR3.below hb4; have hC4 := hC3.keep hb4; have hJ3 := hI3.below hb4)
           | (go_at_call 44; obtain ⟨X, oX, kX, fX, eX⟩ := hJ3.open; obtain ⟨Y, oY, kY, fY, eY⟩ := hI4.open; have lX := hJ3.len_le 256 x1; have lY := hI4.len_le 256 y1; refine (rsum_any n3 n4 a3 a4 l3 c3 l4 c4 X Y _ oX.sl oY.sl kX kY fX.tr fY.tr (by rw [← oX.len]; omega) (by rw [← oY.len]; omega)).mono ?_; rw [eX, eY]; rintro e w5 ⟨n5, a5, l5, c5, rfl, hI5, hb5⟩; have hR5 := hR4.below hb5; have hC5 := hC4.keep hb5)
           | (go_at_call 43; refine (rkept_any n5 a5 l5 c5 _ _ _ hI5 (by have := hI5.len_le 257 (pw_sum x1 y1 rfl); omega)).mono ?_; rintro e w6 ⟨n6, a6, l6, c6, k6, rfl, hres, hb6⟩; have hR6 := hR5.below hb6; have hC6 := hC5.keep hb6; have s0 := hR6.c0; have s1 := hR6.c1; have sf0 := hR6.f0; have sf1 := hR6.f1)
           | fail)
  have hBs : w.heap.size ≤ w2.drew.heap.size := hB0.size
  have hs3 := Nat.le_trans hBs hb3.size
  have hs4 := Nat.le_trans hs3 hb4.size
  have hs5 := Nat.le_trans hs4 hb5.size
  have hBw : Below w.heap.size w w6 := (((hB0.drew.trans (hb3.mono hBs)).trans (hb4.mono hs3)).trans (hb5.mono hs4)).trans (hb6.mono hs5)
  have hfin := hR6.put n6 a6 l6 c6
  have hg0 := hfin.c0
  have hg1 := hfin.c1
  unfold put2 at hg0 hg1
  have HF : Hid (SumRes w.heap.size (put2 w6 (w.heap.size + 1 + 1) n6 (.slice a6 l6 c6)) (.agg #[.bool n6, .slice a6 l6 c6]) k6 (val xs) (val ys) (zv na (val xs) + zv nb (val ys))) := Or.inr ⟨HZ.out, (hres.mono hs4).put hR6 n6 (.slice a6 l6 c6)⟩
  go_wp2
  refine bodyPost_ret (v := .tuple #[.agg #[.bool n6, .slice a6 l6 c6], .int .i64 k6]) ?_ rfl ⟨_, _, _, _, _, rfl, HF.out, below_put2 (N := w.heap.size + 1 + 1) hBw (by omega) n6 (.slice a6 l6 c6)⟩
  simp [results, Try.f13, go_sem, hg0, hg1]

set_option maxRecDepth 100000 in
set_option maxHeartbeats 4000000 in
theorem rsub_any (na nb : Bool) (ax ay : Option Addr) (nx cx ny cy : Nat) (xs ys : List Nat) (w : World) (hx : Sl .u32 w (.slice ax nx cx) xs) (hy : Sl .u32 w (.slice ay ny cy) ys) (ox : okw xs) (oy : okw ys)
    (bx : xs.length ≤ 1000000) (by_ : ys.length ≤ 1000000) :
    Calls Try.prog 17 #[.agg #[.bool na, .slice ax nx cx], .agg #[.bool nb, .slice ay ny cy]] w fun e w' => ∃ neg a n cap k, e = .returned (.tuple #[.agg #[.bool neg, .slice a n cap], .int .i64 k]) ∧ SumRes w.heap.size w' (.agg #[.bool neg, .slice a n cap]) k (val xs) (val ys) (zv na (val xs) - zv nb (val ys)) ∧ Below w.heap.size w w' := by
  have hbs := boxes3 w na nb false ax ay none nx cx ny cy 0 0 24
  go_enter Try.func17, Try.ntmps17
  go_wp2_with fail
  obtain ⟨W0, hW0⟩ : ∃ W0, ((w.alloc (.cells #[.bool na, .slice ax nx cx] 24)).alloc (.cells #[.bool nb, .slice ay ny cy] 24)).alloc (.cells #[.bool false, .slice none 0 0] 24) = W0 := ⟨_, rfl⟩
  simp only [hW0] at hbs
  rw [hW0]
  clear hW0
  obtain ⟨hA, hB, hR, hB0⟩ := hbs
  have hX := hx.below hB0
  have hY := hy.below hB0
  have hC := C4.mk hA hB
  have a0 := hA.c0
  have a1 := hA.c1
  have b0 := hB.c0
  have b1 := hB.c1
  have lYs : ys.length ≤ 1000000 := by_
  clear hx hy
  go_region_held3 (fun W => W.cell? ⟨w.heap.size, 0, none⟩ = some (.bool na) ∧ W.cell? ⟨w.heap.size, 1, none⟩ = some (.slice ax nx cx) ∧ W.cell? ⟨w.heap.size + 1, 0, none⟩ = some (.bool nb) ∧ W.cell? ⟨w.heap.size + 1, 1, none⟩ = some (.slice ay ny cy))
    (first | exact hC.drew | assumption | exact C4.put hC4 _ _ | exact C4.keep (by assumption) hb3 | exact C4.keep (by assumption) hb4 | fail)
    (first | (go_at_call 21; refine (rnegate_any nb ay ny cy ys _ (hY.below below_drew) oy by_).mono ?_; rintro e w3 ⟨n3, a3, l3, c3, rfl, hI3, hb3⟩; have hR3 := (hR.below below_drew).below hb3; have hC3 := hC.drew.keep hb3; have hX3 := (hX.below below_drew).below hb3)
           | (go_at_call 13; obtain ⟨Y, oY, kY, fY, eY⟩ := hI3.open; have vY : val Y = val ys := (by have := zv_abs n3 (val Y); rw [eY, Int.natAbs_neg, zv_abs] at this; exact this.symm); have lY : Y.length ≤ 1000000 := (by have h1 := Tr_len_le fY.tr ys.length (by rw [vY]; exact val_lt oy); omega); refine (radd_any na n3 ax a3 nx cx l3 c3 xs Y _ hX3 oY.sl ox kY bx lY).mono ?_; rw [eY, vY, ← Int.sub_eq_add_neg]; rintro e w4 ⟨n6, a6, l6, c6, k6, rfl, hres, hb4⟩; have hR6 := hR3.below hb4; have hC4 := hC3.keep hb4; have s0 := hR6.c0; have s1 := hR6.c1; have sf0 := hR6.f0; have sf1 := hR6.f1)
           | fail)
  have hBs : w.heap.size ≤ W0.drew.heap.size := hB0.size
  have hs3 := Nat.le_trans hBs hb3.size
  have hBw : Below w.heap.size w w4 := (hB0.drew.trans (hb3.mono hBs)).trans (hb4.mono hs3)
  have hfin := hR6.put n6 a6 l6 c6
  have hg0 := hfin.c0
  have hg1 := hfin.c1
  unfold put2 at hg0 hg1
  have HF : Hid (SumRes w.heap.size (put2 w4 (w.heap.size + 1 + 1) n6 (.slice a6 l6 c6)) (.agg #[.bool n6, .slice a6 l6 c6]) k6 (val xs) (val ys) (zv na (val xs) - zv nb (val ys))) := (hres.mono hs3).put hR6 n6 (.slice a6 l6 c6)
  go_wp2
  refine bodyPost_ret (v := .tuple #[.agg #[.bool n6, .slice a6 l6 c6], .int .i64 k6]) ?_ rfl ⟨_, _, _, _, _, rfl, HF.out, below_put2 (N := w.heap.size + 1 + 1) hBw (by omega) n6 (.slice a6 l6 c6)⟩
  simp [results, Try.f17, go_sem, hg0, hg1]
end Go.Proofs.Yteplmnnpmekngaa
