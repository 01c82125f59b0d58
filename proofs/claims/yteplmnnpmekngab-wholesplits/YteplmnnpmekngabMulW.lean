/-
  What mulWords does.
-/
import Derived.Test.YteplmnnpmekngabSum
import Derived.Test.YteplmnnpmekngabAddInt
namespace Go.Proofs.Yteplmnnpmekngab
open Go.RowKit

theorem val_set (P : List Nat) (t d : Nat) (ht : t < P.length) : val (P.set t d) + pw t * (P[t]?.getD 0) = val P + pw t * d := by
  induction P generalizing t with
  | nil => simp at ht
  | cons x P ih =>
    cases t with
    | zero => simp [val, pw]; omega
    | succ t =>
      have h := ih t (by simpa using ht)
      simp only [List.set_cons_succ, val, List.getElem?_cons_succ, pw]
      have e1 : 4294967296 * pw t * (P[t]?.getD 0) = 4294967296 * (pw t * (P[t]?.getD 0)) := Nat.mul_assoc _ _ _
      have e2 : 4294967296 * pw t * d = 4294967296 * (pw t * d) := Nat.mul_assoc _ _ _
      rw [e1, e2]
      omega
theorem okw_set {P : List Nat} (h : okw P) (t d : Nat) (hd : d < 4294967296) : okw (P.set t d) := fun x hx => by
  rcases List.mem_or_eq_of_mem_set hx with hx | rfl
  · exact h x hx
  · exact hd
/-- One word of the inner loop. -/
theorem mul_step {P Q ys : List Nat} {i j v x y c d c' : Nat} (h : val Q + pw (i + j) * c = val P + pw i * (v * val (ys.take j))) (hx : Q[i + j]?.getD 0 = x) (hy : ys[j]?.getD 0 = y) (hlt : i + j < Q.length) (hs : v * y + x + c = d + 4294967296 * c') :
    val (Q.set (i + j) d) + pw (i + (j + 1)) * c' = val P + pw i * (v * val (ys.take (j + 1))) := by
  have h1 := val_set Q (i + j) d hlt
  rw [hx] at h1
  have e : pw (i + j) * (v * y + x + c) = pw (i + j) * (d + 4294967296 * c') := by rw [hs]
  rw [Nat.mul_add, Nat.mul_add, Nat.mul_add] at e
  rw [val_take_succ', hy, Nat.mul_add, Nat.mul_add, ← Nat.add_assoc i j 1, pw]
  have e2 : 4294967296 * pw (i + j) * c' = pw (i + j) * (4294967296 * c') := by rw [Nat.mul_comm 4294967296 (pw (i + j)), Nat.mul_assoc]
  have e3 : pw i * (v * (pw j * y)) = pw (i + j) * (v * y) := by
    rw [pw_add, Nat.mul_assoc]
    congr 1
    rw [← Nat.mul_assoc, Nat.mul_comm v, Nat.mul_assoc]
  rw [e2, e3]
  omega
theorem Row.turn2 {k : IntKind} {t : TypeId} {w : World} {g : Nat} {xs : List Nat} (h : Row k t w g xs) (i v : Nat) : Row k t (w.setCell ⟨g, i, none⟩ (.int k (v : Int))) g (xs.set i v) := by
  obtain ⟨hlt, hk⟩ := Array.getElem?_eq_some_iff.1 h
  show (w.heap.modify g _)[g]? = _
  rw [Array.getElem?_eq_getElem (by rw [Array.size_modify]; exact hlt), Array.getElem_modify_self, hk]
  simp
theorem Row.cell {k : IntKind} {t : TypeId} {w : World} {g : Nat} {xs : List Nat} (h : Row k t w g xs) (j : Nat) (hj : j < xs.length) : w.cell? ⟨g, j, none⟩ = some (.int k ((xs[j]?.getD 0 : Nat) : Int)) := by
  have := h.seg j hj
  rwa [Nat.zero_add] at this
theorem Row.fr {k : IntKind} {t : TypeId} {w : World} {g : Nat} {xs : List Nat} (h : Row k t w g xs) (j : Nat) : w.frozen? ⟨g, j, none⟩ = false := by
  have := h.free 0 (j + 1) j (by omega)
  rwa [Nat.zero_add] at this

set_option maxRecDepth 100000 in
set_option maxHeartbeats 2000000 in
theorem mulWords_any (ax ay : Option Addr) (nx cx ny cy : Nat) (xs ys : List Nat) (w : World) (hx : Sl .u32 w (.slice ax nx cx) xs) (hy : Sl .u32 w (.slice ay ny cy) ys) (bx : xs.length ≤ 1000) (by_ : ys.length ≤ 1000) (ox : okw xs) (oy : okw ys) :
    Calls Try.prog 39 #[.slice ax nx cx, .slice ay ny cy] w fun e w' => ∃ a m cap, e = .returned (.slice a m cap) ∧ m ≤ 2000 ∧ NumIs w.heap.size w' (.slice a m cap) (val xs * val ys) ∧ Below w.heap.size w w' := by
  obtain rfl := hx.len
  obtain rfl := hy.len
  obtain ⟨b1, o1, hax, sx⟩ := hx.place
  obtain ⟨b2, o2, hay, sy⟩ := hy.place
  have HAX : Hid (xs ≠ [] → ax = some ⟨b1, o1, none⟩ ∧ b1 < w.heap.size) := hax
  have HAY : Hid (ys ≠ [] → ay = some ⟨b2, o2, none⟩ ∧ b2 < w.heap.size) := hay
  clear hx hy hax hay
  obtain ⟨i0, hi, hz0, hz1, hz2⟩ := info_parts Try.infoWord
  go_enter Try.func39, Try.ntmps39
  go_wp2_with (at_make; refine wpList_make_full _ rfl _ _ 22 rfl w.heap.size 52 i0 (.int .u32 0) 1 Try.underlying22 hi hz0 hz1 .i64 .i64 _ _ (xs.length + ys.length) rfl rfl (by omega) (by omega) (by rw [hz2]; omega) (by unfold maxLen; omega) (Nat.le_refl _) ?_; intro w1 hown1 hgrow1; have hb1 : Below w.heap.size w w1 := (Below.refl _ w).grown hgrow1 (Nat.le_refl _) (fun k e => by cases e); have hr1 : Row .u32 52 w1 w.heap.size (List.replicate (xs.length + ys.length) 0) := row_made hown1; clear hown1 hgrow1)
  go_loopw [20] (fun iv wr => ∃ (i : Nat) (P : List Nat), i ≤ xs.length ∧ iv = .int .i64 (i : Int) ∧ P.length = xs.length + ys.length ∧ okw P ∧ val P = val (xs.take i) * val ys ∧ (∀ t, i + ys.length ≤ t → P[t]?.getD 0 = 0) ∧ Row .u32 52 wr w.heap.size P ∧ Below w.heap.size w wr)
    (fun iv _ => xs.length - (intOf iv).toNat)
  case atStart => exact ⟨0, _, Nat.zero_le _, rfl, by simp, (fun x hx => by have := (List.mem_replicate.1 hx).2; omega), by rw [val_replicate]; simp [val], (fun t _ => by rw [List.getElem?_replicate]; split <;> rfl), hr1, hb1⟩
  case round =>
    clear hr1 hb1
    obtain ⟨i, P, hi2, rfl, hPl, oP, hPv, hPz, hrow, hbel⟩ := hrel
    have A : Hid (P.length = xs.length + ys.length ∧ val P = val (xs.take i) * val ys ∧ ∀ t, i + ys.length ≤ t → P[t]?.getD 0 = 0) := ⟨hPl, hPv, hPz⟩
    clear hPl hPv hPz
    by_cases hlt : i < xs.length
    · have hxn : xs ≠ [] := by intro h; subst h; simp at hlt
      obtain ⟨e1, hl1⟩ := HAX.out hxn
      have hcx : wr.cell? ⟨b1, o1 + i, none⟩ = some (.int .u32 ((xs[i]?.getD 0 : Nat) : Int)) := sx.below hbel hl1 i hlt
      obtain ⟨v, hv⟩ : ∃ v, xs[i]?.getD 0 = v := ⟨_, rfl⟩
      have hvb := okw_get ox i
      rw [hv] at hcx hvb
      have HV : Hid (xs[i]?.getD 0 = v) := hv
      clear hv
      subst e1
      go_wp2
      go_loopw [8, 27] (fun cv jv wi => ∃ (j c : Nat) (Q : List Nat), j ≤ ys.length ∧ c < 4294967296 ∧ cv = .int .u64 (c : Int) ∧ jv = .int .i64 (j : Int) ∧ Q.length = xs.length + ys.length ∧ okw Q ∧ val Q + pw (i + j) * c = val P + pw i * (v * val (ys.take j)) ∧ (∀ t, i + j ≤ t → Q[t]?.getD 0 = P[t]?.getD 0) ∧ Row .u32 52 wi w.heap.size Q ∧ Below w.heap.size w wi)
        (fun _ jv _ => ys.length - (intOf jv).toNat)
      case atStart => exact ⟨0, 0, P, Nat.zero_le _, by omega, rfl, rfl, A.out.1, oP, by simp [val], (fun _ _ => rfl), hrow, hbel⟩
      case round =>
        clear hrow hbel hcx
        obtain ⟨j, c, Q, hj, hcb, rfl, rfl, hQl, oQ, hQv, hQz, hrow, hbel⟩ := hrel
        have B : Hid (Q.length = xs.length + ys.length ∧ val Q + pw (i + j) * c = val P + pw i * (v * val (ys.take j)) ∧ ∀ t, i + j ≤ t → Q[t]?.getD 0 = P[t]?.getD 0) := ⟨hQl, hQv, hQz⟩
        by_cases hjl : j < ys.length
        · have hyn : ys ≠ [] := by intro h; subst h; simp at hjl
          obtain ⟨e2, hl2⟩ := HAY.out hyn
          have hcy : wr.cell? ⟨b2, o2 + j, none⟩ = some (.int .u32 ((ys[j]?.getD 0 : Nat) : Int)) := sy.below hbel hl2 j hjl
          have hcq := hrow.cell (i + j) (by omega)
          have hfq := hrow.fr (i + j)
          obtain ⟨y, hy⟩ : ∃ y, ys[j]?.getD 0 = y := ⟨_, rfl⟩
          obtain ⟨x, hx⟩ : ∃ x, Q[i + j]?.getD 0 = x := ⟨_, rfl⟩
          have hyb := okw_get oy j
          have hxb := okw_get oQ (i + j)
          rw [hy] at hcy hyb
          rw [hx] at hcq hxb
          have hmul : v * y ≤ 4294967295 * 4294967295 := Nat.mul_le_mul (by omega) (by omega)
          have hm1 : ((v * y : Nat) : Int) ≤ 18446744065119617025 := by omega
          have hm0 : (0 : Int) ≤ ((v * y : Nat) : Int) := Int.natCast_nonneg _
          rw [Int.natCast_mul] at hm1 hm0
          have HY : Hid (ys[j]?.getD 0 = y) := hy
          have HX : Hid (Q[i + j]?.getD 0 = x) := hx
          clear hy hx hQl hQv hQz hmul
          subst e2
          go_wp2
          have ev : ((v : Int) * y + x + c) % 4294967296 = (((v * y + x + c) % 4294967296 : Nat) : Int) := by rw [← Int.natCast_mul]; omega
          have ec : ((v : Int) * y + x + c) / 4294967296 = (((v * y + x + c) / 4294967296 : Nat) : Int) := by rw [← Int.natCast_mul]; omega
          rw [← Int.natCast_mul] at hm1
          rw [ev, ec]
          obtain ⟨hQl, hQv, hQz⟩ := B.out
          go_roundw
          case rel =>
            refine ⟨j + 1, (v * y + x + c) / 4294967296, Q.set (i + j) ((v * y + x + c) % 4294967296), by omega, by omega, rfl, by go_num, by simpa using hQl, okw_set oQ _ _ (by omega), mul_step hQv HX.out HY.out (by omega) (by omega), fun t ht => ?_, hrow.turn2 _ _, hbel.setCell (p := ⟨w.heap.size, i + j, none⟩) (Nat.le_refl _) _⟩
            rw [List.getElem?_set_ne (by omega)]
            exact hQz t (by omega)
          case measure => simp [intOf]; omega
        · obtain rfl : j = ys.length := by omega
          have hcq := hrow.cell (i + ys.length) (by omega)
          have hfq := hrow.fr (i + ys.length)
          rw [hQz _ (Nat.le_refl _), A.out.2.2 _ (Nat.le_refl _)] at hcq
          have hset := val_set Q (i + ys.length) c (by omega)
          rw [hQz _ (Nat.le_refl _), A.out.2.2 _ (Nat.le_refl _), Nat.mul_zero, Nat.add_zero, hQv, List.take_length] at hset
          have C : Hid (val (Q.set (i + ys.length) c) = val (xs.take (i + 1)) * val ys) := by
            show _ = _
            rw [hset, A.out.2.1, val_take_succ', HV.out, Nat.add_mul, Nat.mul_assoc]
          clear hset hQv
          go_wp2
          go_roundw
          case rel =>
            refine ⟨i + 1, Q.set (i + ys.length) c, by omega, by go_num, by simpa using hQl, okw_set oQ _ _ hcb, C.out, fun t ht => ?_, hrow.turn2 _ _, hbel.setCell (p := ⟨w.heap.size, i + ys.length, none⟩) (Nat.le_refl _) _⟩
            rw [List.getElem?_set_ne (by omega), hQz t (by omega)]
            exact A.out.2.2 t (by omega)
          case measure => simp [intOf]; omega
    · obtain rfl : i = xs.length := by omega
      obtain ⟨hPl, hPv, _⟩ := A.out
      rw [List.take_length] at hPv
      have hO : Ow .u32 w.heap.size wr (.slice (some ⟨w.heap.size, 0, none⟩) (xs.length + ys.length) (xs.length + ys.length)) P := ⟨_, _, by rw [hPl], by rw [hPl]; exact Nat.le_refl _, fun _ => ⟨_, 0, rfl, Nat.le_refl _, hrow.seg, hrow.free _ _⟩⟩
      have HV : Hid (val P = val xs * val ys) := hPv
      have HL : Hid (P.length = xs.length + ys.length) := hPl
      clear hPv hPl
      go_wp2_with fail
      refine (trim_any _ _ _ P _ hO.sl (by rw [HL.out]; omega)).mono ?_
      rintro e w5 ⟨rfl, rfl⟩
      have HT : Hid (NumIs w.heap.size w5 (.slice (some ⟨w.heap.size, 0, none⟩) (tl P P.length) (xs.length + ys.length)) (val xs * val ys)) := ⟨trimL P, hO.trimmed, okw_trimL oP, Tr_trimL _, by rw [val_trimL]; exact HV.out⟩
      have hm : tl P P.length ≤ 2000 := by have h1 := tl_le P P.length; have h2 := HL.out; omega
      clear hO
      go_wp2
      go_ret
      exact ⟨_, _, _, rfl, hm, HT.out, hbel⟩
end Go.Proofs.Yteplmnnpmekngab
