/-
  The reference: trim, made, Form, long.
  The reference: made, Form, Negate, long, kept.
  The reference: size.
-/
import Derived.Test.YteplmnnpmekngaaHeld
namespace Go.Proofs.Yteplmnnpmekngaa
open Go.RowKit

/-- Words in a row of their own, from block B on. -/
def Words (B : Nat) (w : World) (v : Value) (ts : List Nat) : Prop := w.ownsRow B 55 1 v ts.length (ts.map fun x : Nat => Value.int .u32 (x : Int))
theorem Words.ow {B : Nat} {w : World} {v : Value} {ts : List Nat} (h : Words B w v ts) : Ow .u32 B w v ts := ow_of_row h
theorem Words.alloc {B : Nat} {w : World} {v : Value} {ts : List Nat} (h : Words B w v ts) (o : Obj) : Words B (w.alloc o) v ts := World.ownsRow.alloc h o
theorem Words.nil (B : Nat) (w : World) : Words B w (.slice none 0 0) [] := ⟨rfl, Or.inl ⟨rfl, rfl⟩⟩

/-- Nothing is appended: a slice that points nowhere, whatever its capacity. -/
theorem run_append_nothing (w : World) (c : Nat) : (Builtin.append_ #[22, 22] 22 #[.slice none 0 0, .slice none 0 c]).run Try.prog w = .ok (.slice none 0 0) w := by
  obtain ⟨i0, hi, hz0, hz1, hz2⟩ := info_parts Try.infoWord
  simp [Builtin.append_, run_underlying Try.underlying22, sizeOf, typeInfo, hi, Builtin.lenOf, Builtin.firstCells]

theorem rtrim_fin {xs : List Nat} {w w1 : World} {v v' : Value} {m : Nat} {ys : List Nat} (hv : v = .slice none 0 0) (hm : m = ys.length) (hys : ys = trimL xs) (h1 : w1.ownsRow w.heap.size 55 1 v' (0 + m) ([] ++ ys.map fun x : Nat => Value.int .u32 (x : Int))) (h2 : w.grownBy w1 v.ownBlock) (h3 : v' = .slice none 0 0 ↔ v = .slice none 0 0 ∧ m = 0) :
    Hid (Words w.heap.size w1 v' (trimL xs) ∧ (trimL xs = [] → v' = .slice none 0 0) ∧ Below w.heap.size w w1) := by
  subst hys; subst hm; subst hv
  show _ ∧ _ ∧ _
  refine ⟨?_, fun h => h3.2 ⟨rfl, ?_⟩, (Below.refl w.heap.size w).grown h2 (Nat.le_refl _) (fun k e => by cases e)⟩
  · unfold Words; simpa using h1
  · rw [h]; rfl

set_option maxHeartbeats 1000000 in
theorem rtrim_some (b off cap : Nat) (xs : List Nat) (w : World) (hbig : xs.length ≤ 1000000) (hcap : xs.length ≤ cap) (hc : Seg .u32 w b off xs) :
    Calls Try.prog 66 #[.slice (some ⟨b, off, none⟩) xs.length cap] w fun e w' => ∃ v, e = .returned v ∧ Words w.heap.size w' v (trimL xs) ∧ (trimL xs = [] → v = .slice none 0 0) ∧ Below w.heap.size w w' := by
  obtain ⟨i0, hi, hz0, hz1, hz2⟩ := info_parts Try.infoWord
  have hl := trimL_length xs
  have hs := seg_cells (hc.take (tl xs xs.length))
  have hle := tl_le xs xs.length
  go_enter Try.func66, Try.ntmps66
  go_wp2
  go_loop [3] (fun n => ∃ k : Nat, k ≤ xs.length ∧ n = .int .i64 k ∧ tl xs k = tl xs xs.length) (fun n => (intOf n).toNat)
  case atStart => exact ⟨xs.length, Nat.le_refl _, rfl, rfl⟩
  case round =>
    obtain ⟨k, hk, rfl, ht⟩ := hrel
    have done : ∀ k, k ≤ xs.length → k = tl xs xs.length → True := fun _ _ _ => trivial
    clear done
    cases k with
    | zero =>
      have e0 : tl xs xs.length = 0 := by rw [← ht]; rfl
      rw [e0] at hs hl
      have hz : trimL xs = [] := List.eq_nil_of_length_eq_zero hl
      have HZ : Hid (trimL xs = []) := hz
      clear hz hl
      clear ht hle e0
      go_wp2_with (at_builtin; refine wpList_append_own _ rfl _ _ 22 rfl w.heap.size 55 i0 (.int .u32 0) 1 4 Try.underlying22 hi hz0 hz1 hz2 rfl (by decide) _ _ _ rfl (Words.nil w.heap.size w) ⟨b, off, none⟩ 0 cap [] rfl rfl (fun j u h => by simp at h) (fun u h => by simp at h) (by decide) (by decide) (Nat.le_refl _) ?_; intro v' w1 hown hgrow hnil; have HF := (rtrim_fin (xs := xs) (ys := []) rfl rfl HZ.out.symm hown hgrow hnil); clear hown hgrow hnil)
      go_ret
      exact ⟨_, rfl, HF.out⟩
    | succ k =>
      have hcell := hc k (by omega)
      have H : Hid (tl xs (k + 1) = tl xs xs.length) := ht
      clear ht
      by_cases h0 : xs[k]?.getD 0 = 0
      · have t0 : (((xs[k]?.getD 0 : Nat) : Int) == 0) = true := by simp [h0]
        have H0 : Hid (xs[k]?.getD 0 = 0) := h0
        clear h0 hs
        go_wp2
        go_round
        case rel =>
          refine ⟨k, by omega, rfl, ?_⟩
          rw [← H.out]
          simp [tl, H0.out]
        case measure => simp [intOf]
      · have t0 : (((xs[k]?.getD 0 : Nat) : Int) == 0) = false := by simp; omega
        have e : tl xs xs.length = k + 1 := by rw [← H.out]; simp [tl, h0]
        rw [e] at hs hl
        have HS : Hid (xs.take (k + 1) = trimL xs) := (by unfold trimL; rw [e]; rfl)
        clear h0 H hle e
        go_wp2_with (at_builtin; refine wpList_append_own _ rfl _ _ 22 rfl w.heap.size 55 i0 (.int .u32 0) 1 4 Try.underlying22 hi hz0 hz1 hz2 rfl (by decide) _ _ _ rfl (Words.nil w.heap.size w) ⟨b, off, none⟩ (k + 1) cap ((xs.take (k + 1)).map fun x : Nat => Value.int .u32 (x : Int)) rfl (by simp; omega) hs (words_one _ _) (by unfold maxLen; simp; omega) (by simp; omega) (Nat.le_refl _) ?_; intro v' w1 hown hgrow hnil; have HF := (rtrim_fin (xs := xs) (ys := xs.take (k + 1)) rfl (by simp; omega) HS.out hown hgrow hnil); clear hown hgrow hnil)
        go_ret
        exact ⟨_, rfl, HF.out⟩

theorem rtrim_empty (ad : Addr) (cap : Nat) (w : World) :
    Calls Try.prog 66 #[.slice (some ad) 0 cap] w fun e w' => ∃ v, e = .returned v ∧ Words w.heap.size w' v (trimL []) ∧ (trimL [] = [] → v = .slice none 0 0) ∧ Below w.heap.size w w' := by
  obtain ⟨i0, hi, hz0, hz1, hz2⟩ := info_parts Try.infoWord
  go_enter Try.func66, Try.ntmps66
  go_wp2
  refine wp_loop_rounds 1 ?_
  rw [rounds_succ]
  go_wp2_with (at_builtin; refine wpList_append_own _ rfl _ _ 22 rfl w.heap.size 55 i0 (.int .u32 0) 1 4 Try.underlying22 hi hz0 hz1 hz2 rfl (by decide) _ _ _ rfl (Words.nil w.heap.size w) ad 0 cap [] rfl rfl (fun j u h => by simp at h) (fun u h => by simp at h) (by decide) (by decide) (Nat.le_refl _) ?_; intro v' w1 hown hgrow hnil; have HF := (rtrim_fin (xs := []) (ys := []) rfl rfl rfl hown hgrow hnil); clear hown hgrow hnil)
  go_ret
  exact ⟨_, rfl, HF.out⟩

theorem rtrim_none (cap : Nat) (w : World) :
    Calls Try.prog 66 #[.slice none 0 cap] w fun e w' => e = .returned (.slice none 0 0) ∧ w' = w := by
  have ha := run_append_nothing
  go_enter Try.func66, Try.ntmps66
  go_wp2
  refine wp_loop_rounds 1 ?_
  rw [rounds_succ]
  go_wp2
  go_ret
  exact ⟨rfl, rfl⟩

/-- The reference's trim: new words. -/
theorem rtrim_any (a : Option Addr) (n cap : Nat) (xs : List Nat) (w : World) (h : Sl .u32 w (.slice a n cap) xs) (hbig : xs.length ≤ 1000000) :
    Calls Try.prog 66 #[.slice a n cap] w fun e w' => ∃ a' c', e = .returned (.slice a' (tl xs xs.length) c') ∧ Words w.heap.size w' (.slice a' (tl xs xs.length) c') (trimL xs) ∧ (trimL xs = [] → a' = none ∧ c' = 0) ∧ Below w.heap.size w w' := by
  have fin : ∀ e w', (∃ v, e = Ending.returned v ∧ Words w.heap.size w' v (trimL xs) ∧ (trimL xs = [] → v = .slice none 0 0) ∧ Below w.heap.size w w') → ∃ a' c', e = .returned (.slice a' (tl xs xs.length) c') ∧ Words w.heap.size w' (.slice a' (tl xs xs.length) c') (trimL xs) ∧ (trimL xs = [] → a' = none ∧ c' = 0) ∧ Below w.heap.size w w' := by
    rintro e w' ⟨v, rfl, h1, h2, h3⟩
    obtain ⟨a', c', rfl⟩ := h1.ow.form
    rw [trimL_length] at h1 h2 ⊢
    exact ⟨a', c', rfl, h1, fun h => by have := h2 h; injection this with e1 e2 e3; exact ⟨e1, e3⟩, h3⟩
  rcases h.cases with ⟨rfl, a', cap', e⟩ | ⟨_, b, off, cap', e, hc, hs, _⟩
  · injection e with e1 e2 e3
    subst e1; subst e2; subst e3
    cases a with
    | none => exact (rtrim_none cap w).mono (by rintro e w' ⟨rfl, rfl⟩; exact ⟨none, 0, rfl, Words.nil _ _, fun _ => ⟨rfl, rfl⟩, Below.refl _ _⟩)
    | some ad =>
      refine (rtrim_empty ad cap w).mono ?_
      rintro e w' h
      exact fin e w' h
  · injection e with e1 e2 e3
    subst e1; subst e2; subst e3
    exact (rtrim_some b off cap xs w hbig hc hs).mono fin
end Go.Proofs.Yteplmnnpmekngaa
namespace Go.Proofs.Yteplmnnpmekngaa
open Go.RowKit

set_option maxHeartbeats 1000000 in
theorem rmade_any (neg : Bool) (a : Option Addr) (n cap : Nat) (xs : List Nat) (w : World) (h : Sl .u32 w (.slice a n cap) xs) (ox : okw xs) (hb : xs.length ≤ 1000000) :
    Calls Try.prog 49 #[.bool neg, .slice a n cap] w fun e w' => ∃ n3 a3 l3 c3, e = .returned (.agg #[.bool n3, .slice a3 l3 c3]) ∧ IntIs w.heap.size w' (.agg #[.bool n3, .slice a3 l3 c3]) (zv neg (val xs)) ∧ Below w.heap.size w w' := by
  have hR0 := Box2.new w false none 0 0 24
  have hb0 := below_alloc w (.cells #[.bool false, .slice none 0 0] 24)
  go_enter Try.func49, Try.ntmps49
  go_wp2_with fail
  obtain ⟨w0, hW⟩ : ∃ w0, w.alloc (.cells #[.bool false, .slice none 0 0] 24) = w0 := ⟨_, rfl⟩
  rw [hW] at hR0 hb0 ⊢
  clear hW
  refine (rtrim_any a n cap xs w0 (h.below hb0) hb).mono ?_
  rintro e w1 ⟨a', c', rfl, hw, hnil, hb1⟩
  have hR1 := hR0.below hb1
  have hBw : Below w.heap.size w w1 := hb0.trans (hb1.mono hb0.size)
  have r0 := hR1.c0
  have r1 := hR1.c1
  have rf0 := hR1.f0
  have rf1 := hR1.f1
  have hl := trimL_length xs
  have hv := val_trimL xs
  obtain ⟨m, hm⟩ : ∃ m, tl xs xs.length = m := ⟨_, rfl⟩
  rw [hm] at hw hl ⊢
  have HI : ∀ N, (m = 0 → N = false) → zv N (val xs) = zv neg (val xs) → IntIs w.heap.size w1 (.agg #[.bool N, .slice a' m c']) (zv neg (val xs)) := fun N hN hz =>
    ⟨N, a', m, c', trimL xs, rfl, hw.ow.mono hb0.size, okw_trimL ox, Tr_trimL xs, fun h => ⟨hN (by rw [h] at hl; exact hl.symm), (hnil h).1, (hnil h).2⟩, by rw [hv, hz]⟩
  have fin : ∀ N, IntIs w.heap.size w1 (.agg #[.bool N, .slice a' m c']) (zv neg (val xs)) → Hid (IntIs w.heap.size (put2 w1 w.heap.size N (.slice a' m c')) (.agg #[.bool N, .slice a' m c']) (zv neg (val xs)) ∧ Below w.heap.size w (put2 w1 w.heap.size N (.slice a' m c'))) := fun N hI => ⟨hI.put hR1 N (.slice a' m c'), below_put2 (N := w.heap.size) hBw (Nat.le_refl _) N (.slice a' m c')⟩
  cases m with
  | zero =>
    have h0 : val xs = 0 := tl_zero.1 hm
    have HF := fin false (HI false (fun _ => rfl) (by rw [h0]; simp [zv]))
    have hfin := hR1.put false a' 0 c'
    have hg0 := hfin.c0
    have hg1 := hfin.c1
    unfold put2 at hg0 hg1
    clear HI fin hm hl hv hw hnil
    cases neg with
    | false =>
      go_wp2
      refine bodyPost_ret (v := .agg #[.bool false, .slice a' 0 c']) ?_ rfl ⟨_, _, _, _, rfl, HF.out⟩
      simp [results, Try.f49, go_sem, hg0, hg1]
    | true =>
      go_wp2
      refine bodyPost_ret (v := .agg #[.bool false, .slice a' 0 c']) ?_ rfl ⟨_, _, _, _, rfl, HF.out⟩
      simp [results, Try.f49, go_sem, hg0, hg1]
  | succ m =>
    have HF := fin neg (HI neg (fun h => by cases h) rfl)
    have hfin := hR1.put neg a' (m + 1) c'
    have hg0 := hfin.c0
    have hg1 := hfin.c1
    unfold put2 at hg0 hg1
    clear HI fin hm hl hv hw hnil
    cases neg with
    | false =>
      go_wp2
      refine bodyPost_ret (v := .agg #[.bool false, .slice a' (m + 1) c']) ?_ rfl ⟨_, _, _, _, rfl, HF.out⟩
      simp [results, Try.f49, go_sem, hg0, hg1]
    | true =>
      go_wp2
      refine bodyPost_ret (v := .agg #[.bool true, .slice a' (m + 1) c']) ?_ rfl ⟨_, _, _, _, rfl, HF.out⟩
      simp [results, Try.f49, go_sem, hg0, hg1]

set_option maxHeartbeats 1000000 in
theorem rform_any (na : Bool) (ax : Option Addr) (nx cx : Nat) (xs : List Nat) (w : World) (hx : Sl .u32 w (.slice ax nx cx) xs) (ox : okw xs) (bx : xs.length ≤ 1000000) :
    Calls Try.prog 35 #[.agg #[.bool na, .slice ax nx cx]] w fun e w' => ∃ neg a n cap, e = .returned (.agg #[.bool neg, .slice a n cap]) ∧ IntIs w.heap.size w' (.agg #[.bool neg, .slice a n cap]) (zv na (val xs)) ∧ Below w.heap.size w w' := by
  have hbs := boxes2 w na false ax none nx cx 0 0 24
  go_enter Try.func35, Try.ntmps35
  go_wp2_with fail
  obtain ⟨W0, hW0⟩ : ∃ W0, (w.alloc (.cells #[.bool na, .slice ax nx cx] 24)).alloc (.cells #[.bool false, .slice none 0 0] 24) = W0 := ⟨_, rfl⟩
  simp only [hW0] at hbs
  rw [hW0]
  clear hW0
  obtain ⟨hA, hR, hB0⟩ := hbs
  refine (rmade_any na ax nx cx xs W0 (hx.below hB0) ox bx).mono ?_
  rintro e w3 ⟨n3, a3, l3, c3, rfl, hI, hb3⟩
  have hR3 := hR.below hb3
  have s0 := hR3.c0
  have s1 := hR3.c1
  have sf0 := hR3.f0
  have sf1 := hR3.f1
  have hfin := hR3.put n3 a3 l3 c3
  have hg0 := hfin.c0
  have hg1 := hfin.c1
  unfold put2 at hg0 hg1
  have hBw : Below w.heap.size w w3 := hB0.trans (hb3.mono hB0.size)
  have hI2 := (hI.mono (B' := w.heap.size) hB0.size).put hR3 n3 (.slice a3 l3 c3)
  go_wp2
  refine bodyPost_ret (v := .agg #[.bool n3, .slice a3 l3 c3]) ?_ rfl ⟨_, _, _, _, rfl, hI2, below_put2 (N := w.heap.size + 1) hBw (by omega) n3 (.slice a3 l3 c3)⟩
  simp [results, Try.f35, go_sem, hg0, hg1]

set_option maxHeartbeats 1000000 in
theorem rnegate_any (na : Bool) (ax : Option Addr) (nx cx : Nat) (xs : List Nat) (w : World) (hx : Sl .u32 w (.slice ax nx cx) xs) (ox : okw xs) (bx : xs.length ≤ 1000000) :
    Calls Try.prog 21 #[.agg #[.bool na, .slice ax nx cx]] w fun e w' => ∃ neg a n cap, e = .returned (.agg #[.bool neg, .slice a n cap]) ∧ IntIs w.heap.size w' (.agg #[.bool neg, .slice a n cap]) (- zv na (val xs)) ∧ Below w.heap.size w w' := by
  have hbs := boxes2 w na false ax none nx cx 0 0 24
  go_enter Try.func21, Try.ntmps21
  go_wp2_with fail
  obtain ⟨W0, hW0⟩ : ∃ W0, (w.alloc (.cells #[.bool na, .slice ax nx cx] 24)).alloc (.cells #[.bool false, .slice none 0 0] 24) = W0 := ⟨_, rfl⟩
  simp only [hW0] at hbs
  rw [hW0]
  clear hW0
  obtain ⟨hA, hR, hB0⟩ := hbs
  refine (rmade_any (!na) ax nx cx xs W0 (hx.below hB0) ox bx).mono ?_
  rintro e w3 ⟨n3, a3, l3, c3, rfl, hI, hb3⟩
  rw [zv_not] at hI
  have hR3 := hR.below hb3
  have s0 := hR3.c0
  have s1 := hR3.c1
  have sf0 := hR3.f0
  have sf1 := hR3.f1
  have hfin := hR3.put n3 a3 l3 c3
  have hg0 := hfin.c0
  have hg1 := hfin.c1
  unfold put2 at hg0 hg1
  have hBw : Below w.heap.size w w3 := hB0.trans (hb3.mono hB0.size)
  have hI2 := (hI.mono (B' := w.heap.size) hB0.size).put hR3 n3 (.slice a3 l3 c3)
  go_wp2
  refine bodyPost_ret (v := .agg #[.bool n3, .slice a3 l3 c3]) ?_ rfl ⟨_, _, _, _, rfl, hI2, below_put2 (N := w.heap.size + 1) hBw (by omega) n3 (.slice a3 l3 c3)⟩
  simp [results, Try.f21, go_sem, hg0, hg1]

theorem long_iff {xs : List Nat} (ox : okw xs) : decide (256 < tl xs xs.length) = decide (pw 256 ≤ val xs) := by
  have h := len_le_iff (Tr_trimL xs) (okw_trimL ox) 256
  rw [trimL_length, val_trimL] at h
  simp only [decide_eq_decide]
  omega

theorem rlong_any (na : Bool) (ax : Option Addr) (nx cx : Nat) (xs : List Nat) (w : World) (hx : Sl .u32 w (.slice ax nx cx) xs) (ox : okw xs) (bx : xs.length ≤ 1000000) :
    Calls Try.prog 42 #[.agg #[.bool na, .slice ax nx cx]] w fun e w' => e = .returned (.bool (decide (pw 256 ≤ val xs))) ∧ Below w.heap.size w w' := by
  have hb0 := below_alloc w (.cells #[.bool na, .slice ax nx cx] 24)
  have ht := rtrim_any ax nx cx xs _ (hx.below hb0) bx
  rw [← long_iff ox]
  have hle := tl_le xs xs.length
  obtain ⟨m, hm⟩ : ∃ m, tl xs xs.length = m := ⟨_, rfl⟩
  rw [hm] at hle ht ⊢
  clear hm
  go_enter Try.func42, Try.ntmps42
  go_wp2_with fail
  refine ht.mono ?_
  rintro e w1 ⟨a', c', rfl, hw, hnil, hb1⟩
  clear hw hnil ht
  go_wp2
  go_ret
  refine ⟨?_, hb0.trans (hb1.mono hb0.size)⟩
  simp
  omega

theorem IntIs.open {B : Nat} {w : World} {neg : Bool} {a : Option Addr} {n c : Nat} {z : Int} (h : IntIs B w (.agg #[.bool neg, .slice a n c]) z) : ∃ xs, Ow .u32 B w (.slice a n c) xs ∧ okw xs ∧ Fm neg xs ∧ zv neg (val xs) = z := by
  obtain ⟨_, _, _, _, xs, e, ho, ok, t, hn, hz'⟩ := h
  cases e
  exact ⟨xs, ho, ok, ⟨t, fun h => (hn h).1⟩, hz'.symm⟩

set_option maxHeartbeats 1000000 in
theorem rkept_any (na : Bool) (ax : Option Addr) (nx cx B : Nat) (z : Int) (w : World) (hI : IntIs B w (.agg #[.bool na, .slice ax nx cx]) z) (bx : nx ≤ 1000000) :
    Calls Try.prog 43 #[.agg #[.bool na, .slice ax nx cx]] w fun e w' => ∃ neg a n cap k, e = .returned (.tuple #[.agg #[.bool neg, .slice a n cap], .int .i64 k]) ∧ Res B w' (.agg #[.bool neg, .slice a n cap]) k z ∧ Below w.heap.size w w' := by
  obtain ⟨xs, ho, ok, fm, hz⟩ := hI.open
  have bl : xs.length ≤ 1000000 := by have := ho.len; omega
  have habs : z.natAbs = val xs := by rw [← hz, zv_abs]
  have hbs := boxes2 w na false ax none nx cx 0 0 24
  go_enter Try.func43, Try.ntmps43
  go_wp2_with fail
  obtain ⟨W0, hW0⟩ : ∃ W0, (w.alloc (.cells #[.bool na, .slice ax nx cx] 24)).alloc (.cells #[.bool false, .slice none 0 0] 24) = W0 := ⟨_, rfl⟩
  simp only [hW0] at hbs
  rw [hW0]
  clear hW0
  obtain ⟨hA, hR, hB0⟩ := hbs
  refine (rlong_any na ax nx cx xs W0 (ho.sl.below hB0) ok bl).mono ?_
  rintro e w3 ⟨rfl, hb3⟩
  have hA3 := hA.below hb3
  have hR3 := hR.below hb3
  have q0 := hA3.c0
  have q1 := hA3.c1
  have s0 := hR3.c0
  have s1 := hR3.c1
  have sf0 := hR3.f0
  have sf1 := hR3.f1
  have hBw : Below w.heap.size w w3 := hB0.trans (hb3.mono hB0.size)
  by_cases hbig : pw 256 ≤ val xs
  · have hd : decide (pw 256 ≤ val xs) = true := by simpa using hbig
    rw [hd]
    have hfin := hR3.put false none 0 0
    have hg0 := hfin.c0
    have hg1 := hfin.c1
    unfold put2 at hg0 hg1
    have hres : Hid (Res B (put2 w3 (w.heap.size + 1) false (.slice none 0 0)) (.agg #[.bool false, .slice none 0 0]) 3 z) := Or.inr ⟨by rw [habs]; exact hbig, rfl, rfl⟩
    clear hd hbig habs ho ok fm hz bl hA3 hR3 hA hR
    go_wp2
    refine bodyPost_ret (v := .tuple #[.agg #[.bool false, .slice none 0 0], .int .i64 3]) ?_ rfl ⟨_, _, _, _, _, rfl, hres.out, below_put2 (N := w.heap.size + 1) hBw (by omega) _ _⟩
    simp [results, Try.f43, go_sem, hg0, hg1]
  · have hd : decide (pw 256 ≤ val xs) = false := by simpa using hbig
    rw [hd]
    have hfin := hR3.put na ax nx cx
    have hg0 := hfin.c0
    have hg1 := hfin.c1
    unfold put2 at hg0 hg1
    have hres : Hid (Res B (put2 w3 (w.heap.size + 1) na (.slice ax nx cx)) (.agg #[.bool na, .slice ax nx cx]) 0 z) := Or.inl ⟨by rw [habs]; omega, rfl, (hI.below hBw).put hR3 _ _⟩
    clear hd hbig habs ho ok fm hz bl hA3 hR3 hA hR
    go_wp2
    refine bodyPost_ret (v := .tuple #[.agg #[.bool na, .slice ax nx cx], .int .i64 0]) ?_ rfl ⟨_, _, _, _, _, rfl, hres.out, below_put2 (N := w.heap.size + 1) hBw (by omega) _ _⟩
    simp [results, Try.f43, go_sem, hg0, hg1]
end Go.Proofs.Yteplmnnpmekngaa
namespace Go.Proofs.Yteplmnnpmekngaa
open Go.RowKit

theorem rsize_other (ax ay : Option Addr) (nx cx ny cy : Nat) (w : World) (hne : nx ≠ ny) :
    Calls Try.prog 56 #[.slice ax nx cx, .slice ay ny cy] w fun e w' => e = .returned (.int .i64 (cmpN nx ny)) ∧ Below w.heap.size w w' := by
  have h0 : ((nx : Int) != (ny : Int)) = true := by rw [bne_iff_ne]; omega
  rcases Nat.lt_or_gt_of_ne hne with h | h
  · have e : cmpN nx ny = -1 := by simp [cmpN, h]
    have t : (nx : Int) < ny := by omega
    rw [e]
    clear hne
    go_enter Try.func56, Try.ntmps56
    go_wp2
    go_ret
    exact ⟨rfl, Below.refl _ _⟩
  · have e : cmpN nx ny = 1 := by simp [cmpN, h]; omega
    have t : ¬ (nx : Int) < ny := by omega
    rw [e]
    clear hne
    go_enter Try.func56, Try.ntmps56
    go_wp2
    go_ret
    exact ⟨rfl, Below.refl _ _⟩

set_option maxRecDepth 100000 in
set_option maxHeartbeats 2000000 in
theorem rsize_same (ax ay : Option Addr) (len cx cy b off b2 off2 : Nat) (xs ys : List Nat) (w : World) (hlen : len ≤ 1000000) (hx : xs.length = len) (hy : ys.length = len)
    (hax : 0 < len → ax = some ⟨b, off, none⟩ ∧ b < w.heap.size) (hay : 0 < len → ay = some ⟨b2, off2, none⟩ ∧ b2 < w.heap.size) (sx : Seg .u32 w b off xs) (sy : Seg .u32 w b2 off2 ys) (ox : okw xs) (oy : okw ys) :
    Calls Try.prog 56 #[.slice ax len cx, .slice ay len cy] w fun e w' => e = .returned (.int .i64 (cmpN (val xs) (val ys))) ∧ Below w.heap.size w w' := by
  have h0 : ((len : Int) != (len : Int)) = false := by simp
  go_enter Try.func56, Try.ntmps56
  go_wp2_with fail
  go_loopw [5] (fun i wr => ∃ k : Nat, k ≤ len ∧ i = .int .i64 ((k : Int) - 1) ∧ (∀ j, k ≤ j → j < len → xs[j]?.getD 0 = ys[j]?.getD 0) ∧ Below w.heap.size w wr) (fun i _ => (intOf i + 1).toNat)
  case atStart => exact ⟨len, Nat.le_refl _, rfl, fun j h1 h2 => by omega, Below.refl _ _⟩
  case round =>
    obtain ⟨k, hk, rfl, hs, hb⟩ := hrel
    cases k with
    | zero =>
      have hv : cmpN (val xs) (val ys) = 0 := by
        rw [ext_get (hx.trans hy.symm) (fun j hj => hs j (by omega) (by omega))]
        simp [cmpN]
      have HE : Hid (cmpN (val xs) (val ys) = 0) := hv
      rw [show ((0 : Nat) : Int) - 1 = -1 from rfl]
      clear hs hv sx sy
      go_wp2
      go_ret
      exact ⟨by rw [HE.out]; rfl, hb⟩
    | succ k =>
      obtain ⟨e2, hlt2⟩ := hay (by omega)
      obtain ⟨e1, hlt1⟩ := hax (by omega)
      have hcx : wr.cell? ⟨b, off + k, none⟩ = some (.int .u32 ((xs[k]?.getD 0 : Nat) : Int)) := (sx.below hb hlt1) k (by omega)
      have hcy : wr.cell? ⟨b2, off2 + k, none⟩ = some (.int .u32 ((ys[k]?.getD 0 : Nat) : Int)) := (sy.below hb hlt2) k (by omega)
      have vc := fun h => val_cmp ox (hx.trans hy.symm) k (by omega) (fun j h1 h2 => hs j h1 (by omega)) h
      have vd := fun h => val_cmp oy (hy.trans hx.symm) k (by omega) (fun j h1 h2 => (hs j h1 (by omega)).symm) h
      have hs' : xs[k]?.getD 0 = ys[k]?.getD 0 → ∀ j, k ≤ j → j < len → xs[j]?.getD 0 = ys[j]?.getD 0 := fun he j h1 h2 => (Nat.eq_or_lt_of_le h1).elim (fun e => by subst e; exact he) (fun h3 => hs j h3 h2)
      obtain ⟨x, hx'⟩ : ∃ x, xs[k]?.getD 0 = x := ⟨_, rfl⟩
      obtain ⟨y, hy'⟩ : ∃ y, ys[k]?.getD 0 = y := ⟨_, rfl⟩
      rw [hx'] at hcx vc vd hs'
      rw [hy'] at hcy vc vd hs'
      rw [show ((k + 1 : Nat) : Int) - 1 = (k : Int) by omega]
      subst e1 e2
      clear hx' hy' hs sx sy hax hay
      rcases Nat.lt_trichotomy x y with h | h | h
      · have e : cmpN (val xs) (val ys) = -1 := by simp [cmpN, vc h]
        have HE : Hid (cmpN (val xs) (val ys) = -1) := e
        have t : (x : Int) < y := by omega
        clear vc vd hs' e
        go_wp2_with fail
        go_region
        go_wp2
        go_ret
        exact ⟨by rw [HE.out]; rfl, hb.drew⟩
      · subst h
        have t : ¬ (x : Int) < x := by omega
        have HS : Hid (∀ j, k ≤ j → j < len → xs[j]?.getD 0 = ys[j]?.getD 0) := hs' rfl
        clear vc vd hs'
        go_wp2_with fail
        go_region
        go_wp2_with fail
        go_region
        go_wp2
        go_roundw
        case rel => exact ⟨k, by omega, rfl, HS.out, hb.drew.drew⟩
        case measure => simp [intOf]
      · have e : cmpN (val xs) (val ys) = 1 := by have := vd h; simp [cmpN]; omega
        have HE : Hid (cmpN (val xs) (val ys) = 1) := e
        have t : ¬ (x : Int) < y := by omega
        have t2 : (y : Int) < x := by omega
        clear vc vd hs' e
        go_wp2_with fail
        go_region
        go_wp2_with fail
        go_region
        go_wp2
        go_ret
        exact ⟨by rw [HE.out]; rfl, hb.drew.drew⟩

/-- size, of two trimmed rows: the order of their values. -/
theorem rsize_any (ax ay : Option Addr) (nx cx ny cy : Nat) (xs ys : List Nat) (w : World) (hx : Sl .u32 w (.slice ax nx cx) xs) (hy : Sl .u32 w (.slice ay ny cy) ys) (ox : okw xs) (oy : okw ys) (tx : Tr xs) (ty : Tr ys) (bx : xs.length ≤ 1000000) :
    Calls Try.prog 56 #[.slice ax nx cx, .slice ay ny cy] w fun e w' => e = .returned (.int .i64 (cmpN (val xs) (val ys))) ∧ Below w.heap.size w w' := by
  have e1 := hx.len
  have e2 := hy.len
  obtain ⟨b, off, px, sx⟩ := hx.place
  obtain ⟨b2, off2, py, sy⟩ := hy.place
  have ne : ∀ zs : List Nat, 0 < zs.length → zs ≠ [] := fun zs h h0 => by rw [h0] at h; simp at h
  by_cases hne : xs.length = ys.length
  · subst e1
    rw [← hne] at e2
    subst e2
    exact rsize_same ax ay xs.length cx cy b off b2 off2 xs ys w bx rfl hne.symm (fun h => px (ne _ h)) (fun h => py (ne _ (by omega))) sx sy ox oy
  · subst e1; subst e2
    refine (rsize_other ax ay xs.length cx ys.length cy w hne).mono ?_
    rintro e w' ⟨rfl, hb⟩
    refine ⟨?_, hb⟩
    rcases Nat.lt_or_gt_of_ne hne with h | h
    · have := Tr_len_lt ty ox h
      simp only [cmpN]
      rw [if_pos h, if_pos this]
    · have := Tr_len_lt tx oy h
      simp only [cmpN]
      rw [if_neg (by omega), if_pos (by omega), if_neg (by omega), if_pos this]
end Go.Proofs.Yteplmnnpmekngaa
