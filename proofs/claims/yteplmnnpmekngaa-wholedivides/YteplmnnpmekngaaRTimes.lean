/-
  The reference: times.
-/
import Derived.Test.YteplmnnpmekngaaMe
namespace Go.Proofs.Yteplmnnpmekngaa
open Go.RowKit

set_option maxRecDepth 100000 in
set_option maxHeartbeats 2000000 in
theorem rtimes_any (ax ay : Option Addr) (nx cx ny cy : Nat) (xs ys : List Nat) (w : World) (hx : Sl .u32 w (.slice ax nx cx) xs) (hy : Sl .u32 w (.slice ay ny cy) ys) (bx : xs.length ≤ 1000) (by_ : ys.length ≤ 1000) (ox : okw xs) (oy : okw ys) :
    Calls Try.prog 50 #[.slice ax nx cx, .slice ay ny cy] w fun e w' => ∃ a m cap P, e = .returned (.slice a m cap) ∧ m ≤ 2000 ∧ Ow .u32 w.heap.size w' (.slice a m cap) P ∧ okw P ∧ val P = val xs * val ys ∧ Below w.heap.size w w' := by
  obtain rfl := hx.len
  obtain rfl := hy.len
  obtain ⟨b1, o1, hax, sx⟩ := hx.place
  obtain ⟨b2, o2, hay, sy⟩ := hy.place
  have HAX : Hid (xs ≠ [] → ax = some ⟨b1, o1, none⟩ ∧ b1 < w.heap.size) := hax
  have HAY : Hid (ys ≠ [] → ay = some ⟨b2, o2, none⟩ ∧ b2 < w.heap.size) := hay
  clear hx hy hax hay
  obtain ⟨i0, hi, hz0, hz1, hz2⟩ := info_parts Try.infoWord
  go_enter Try.func50, Try.ntmps50
  go_wp2_with (at_make; refine wpList_make_full _ rfl _ _ 22 rfl w.heap.size 55 i0 (.int .u32 0) 1 Try.underlying22 hi hz0 hz1 .i64 .i64 _ _ (xs.length + ys.length) rfl rfl (by omega) (by omega) (by rw [hz2]; omega) (by unfold maxLen; omega) (Nat.le_refl _) ?_; intro w1 hown1 hgrow1; have hb1 : Below w.heap.size w w1 := (Below.refl _ w).grown hgrow1 (Nat.le_refl _) (fun k e => by cases e); have hr1 : Row .u32 55 w1 w.heap.size (List.replicate (xs.length + ys.length) 0) := row_made hown1; clear hown1 hgrow1)
  go_loopw [6] (fun iv wr => ∃ (i : Nat) (P : List Nat), i ≤ xs.length ∧ iv = .int .i64 (i : Int) ∧ P.length = xs.length + ys.length ∧ okw P ∧ val P = val (xs.take i) * val ys ∧ (∀ t, i + ys.length ≤ t → P[t]?.getD 0 = 0) ∧ Row .u32 55 wr w.heap.size P ∧ Below w.heap.size w wr)
    (fun iv _ => xs.length - (intOf iv).toNat)
  case atStart => exact ⟨0, _, Nat.zero_le _, rfl, by simp, (fun x hx => by have := (List.mem_replicate.1 hx).2; omega), by rw [val_replicate]; simp [val], (fun t _ => by rw [List.getElem?_replicate]; split <;> rfl), hr1, hb1⟩
  case round =>
    clear hr1 hb1
    obtain ⟨i, P, hi2, rfl, hPl, oP, hPv, hPz, hrow, hbel⟩ := hrel
    have A : Hid (P.length = xs.length + ys.length ∧ val P = val (xs.take i) * val ys ∧ ∀ t, i + ys.length ≤ t → P[t]?.getD 0 = 0) := ⟨hPl, hPv, hPz⟩
    clear hPl hPv hPz
    by_cases hlt : i < xs.length
    · have hxn : xs ≠ [] := by intro h; subst h; simp at hlt
      obtain ⟨e1, hl1⟩ := HAX.out hxn
      have hcx : wr.cell? ⟨b1, o1 + i, none⟩ = some (.int .u32 ((xs[i]?.getD 0 : Nat) : Int)) := sx.below hbel hl1 i hlt
      obtain ⟨v, hv⟩ : ∃ v, xs[i]?.getD 0 = v := ⟨_, rfl⟩
      have hvb := okw_get ox i
      rw [hv] at hcx hvb
      have HV : Hid (xs[i]?.getD 0 = v) := hv
      clear hv
      subst e1
      have t1 : (i : Int) < xs.length := by omega
      go_wp2_with fail
      go_loopw [7, 8] (fun cv jv wi => ∃ (j c : Nat) (Q : List Nat), j ≤ ys.length ∧ c < 4294967296 ∧ cv = .int .u64 (c : Int) ∧ jv = .int .i64 (j : Int) ∧ Q.length = xs.length + ys.length ∧ okw Q ∧ val Q + pw (i + j) * c = val P + pw i * (v * val (ys.take j)) ∧ (∀ t, i + j ≤ t → Q[t]?.getD 0 = P[t]?.getD 0) ∧ Row .u32 55 wi w.heap.size Q ∧ Below w.heap.size w wi)
        (fun _ jv _ => ys.length - (intOf jv).toNat)
      case atStart => exact ⟨0, 0, P, Nat.zero_le _, by omega, rfl, rfl, A.out.1, oP, by simp [val], (fun _ _ => rfl), hrow, hbel⟩
      case round =>
        clear hrow hbel hcx
        obtain ⟨j, c, Q, hj, hcb, rfl, rfl, hQl, oQ, hQv, hQz, hrow, hbel⟩ := hrel
        have B : Hid (Q.length = xs.length + ys.length ∧ val Q + pw (i + j) * c = val P + pw i * (v * val (ys.take j)) ∧ ∀ t, i + j ≤ t → Q[t]?.getD 0 = P[t]?.getD 0) := ⟨hQl, hQv, hQz⟩
        by_cases hjl : j < ys.length
        · have hyn : ys ≠ [] := by intro h; subst h; simp at hjl
          obtain ⟨e2, hl2⟩ := HAY.out hyn
          have hcy : wr.cell? ⟨b2, o2 + j, none⟩ = some (.int .u32 ((ys[j]?.getD 0 : Nat) : Int)) := sy.below hbel hl2 j hjl
          have hcq := hrow.cell (i + j) (by omega)
          have hfq := hrow.fr (i + j)
          obtain ⟨y, hy⟩ : ∃ y, ys[j]?.getD 0 = y := ⟨_, rfl⟩
          obtain ⟨x, hx⟩ : ∃ x, Q[i + j]?.getD 0 = x := ⟨_, rfl⟩
          have hyb := okw_get oy j
          have hxb := okw_get oQ (i + j)
          rw [hy] at hcy hyb
          rw [hx] at hcq hxb
          have hmul : v * y ≤ 4294967295 * 4294967295 := Nat.mul_le_mul (by omega) (by omega)
          have hm1 : ((v * y : Nat) : Int) ≤ 18446744065119617025 := by omega
          have hm0 : (0 : Int) ≤ ((v * y : Nat) : Int) := Int.natCast_nonneg _
          rw [Int.natCast_mul] at hm1 hm0
          have HY : Hid (ys[j]?.getD 0 = y) := hy
          have HX : Hid (Q[i + j]?.getD 0 = x) := hx
          clear hy hx hQl hQv hQz hmul
          subst e2
          have hcx : wr.cell? ⟨b1, o1 + i, none⟩ = some (.int .u32 ((xs[i]?.getD 0 : Nat) : Int)) := sx.below hbel hl1 i hlt
          rw [HV.out] at hcx
          have t2 : (j : Int) < ys.length := by omega
          go_wp2_with fail
          go_region
          go_wp2_with fail
          have ev : ((c : Int) + v * y + x) % 4294967296 = (((v * y + x + c) % 4294967296 : Nat) : Int) := by rw [← Int.natCast_mul]; omega
          have ec : ((c : Int) + v * y + x) / 4294967296 = (((v * y + x + c) / 4294967296 : Nat) : Int) := by rw [← Int.natCast_mul]; omega
          rw [← Int.natCast_mul] at hm1
          rw [ev, ec]
          obtain ⟨hQl, hQv, hQz⟩ := B.out
          go_roundw
          case rel =>
            refine ⟨j + 1, (v * y + x + c) / 4294967296, Q.set (i + j) ((v * y + x + c) % 4294967296), by omega, by omega, rfl, by go_num, by simpa using hQl, okw_set oQ _ _ (by omega), mul_step hQv HX.out HY.out (by omega) (by omega), fun t ht => ?_, Row.turn2 hrow _ _, (hbel.setCell (p := ⟨w.heap.size, i + j, none⟩) (Nat.le_refl _) _).drew⟩
            rw [List.getElem?_set_ne (by omega)]
            exact hQz t (by omega)
          case measure => simp [intOf]; omega
        · obtain rfl : j = ys.length := by omega
          have hcq := hrow.cell (i + ys.length) (by omega)
          have hfq := hrow.fr (i + ys.length)
          rw [hQz _ (Nat.le_refl _), A.out.2.2 _ (Nat.le_refl _)] at hcq
          have hset := val_set Q (i + ys.length) c (by omega)
          rw [hQz _ (Nat.le_refl _), A.out.2.2 _ (Nat.le_refl _), Nat.mul_zero, Nat.add_zero, hQv, List.take_length] at hset
          have C : Hid (val (Q.set (i + ys.length) c) = val (xs.take (i + 1)) * val ys) := by
            show _ = _
            rw [hset, A.out.2.1, val_take_succ', HV.out, Nat.add_mul, Nat.mul_assoc]
          clear hset hQv
          go_wp2
          go_roundw
          case rel =>
            refine ⟨i + 1, Q.set (i + ys.length) c, by omega, by go_num, by simpa using hQl, okw_set oQ _ _ hcb, C.out, fun t ht => ?_, hrow.turn2 _ _, hbel.setCell (p := ⟨w.heap.size, i + ys.length, none⟩) (Nat.le_refl _) _⟩
            rw [List.getElem?_set_ne (by omega), hQz t (by omega)]
            exact A.out.2.2 t (by omega)
          case measure => simp [intOf]; omega
    · obtain rfl : i = xs.length := by omega
      obtain ⟨hPl, hPv, _⟩ := A.out
      rw [List.take_length] at hPv
      have hO : Ow .u32 w.heap.size wr (.slice (some ⟨w.heap.size, 0, none⟩) (xs.length + ys.length) (xs.length + ys.length)) P := ⟨_, _, by rw [hPl], by rw [hPl]; exact Nat.le_refl _, fun _ => ⟨_, 0, rfl, Nat.le_refl _, hrow.seg, hrow.free _ _⟩⟩
      have HV : Hid (val P = val xs * val ys) := hPv
      have HL : Hid (P.length = xs.length + ys.length) := hPl
      clear hPv hPl
      have t1 : ¬ (xs.length : Int) < xs.length := by omega
      go_wp2
      go_ret
      exact ⟨_, _, _, rfl, by omega, P, hO, oP, HV.out, hbel⟩
end Go.Proofs.Yteplmnnpmekngaa
