/-
  The statements' helpers: lent, spoil, back.
-/
import Derived.Test.YteplmnnpmekngaaRMul
import Derived.Deep.CutRange
namespace Go.Proofs.Yteplmnnpmekngaa
open Go.RowKit

/-- Words with 77 behind them, in a row of their own. -/
structure LentAt (B : Nat) (w : World) (g : Nat) (n cap : Nat) (xs : List Nat) : Prop where
  len : xs.length = n
  room : n + 1 ≤ cap
  ge : B ≤ g
  seg : Seg .u32 w g 0 (xs ++ [77])
theorem LentAt.below {B : Nat} {w w' : World} {g n cap : Nat} {xs : List Nat} (h : LentAt B w g n cap xs) (hb : Below w.heap.size w w') : LentAt B w' g n cap xs :=
  ⟨h.len, h.room, h.ge, h.seg.below hb (h.seg.lt (by simp))⟩
theorem LentAt.sl {B : Nat} {w : World} {g n cap : Nat} {xs : List Nat} (h : LentAt B w g n cap xs) : Sl .u32 w (.slice (some ⟨g, 0, none⟩) n cap) xs := by
  refine ⟨some ⟨g, 0, none⟩, cap, by rw [h.len], by rw [h.len]; have := h.room; omega, fun _ => ⟨g, 0, rfl, ?_⟩⟩
  have := h.seg.take n
  rwa [← h.len, List.take_left'  rfl] at this
theorem LentAt.last {B : Nat} {w : World} {g n cap : Nat} {xs : List Nat} (h : LentAt B w g n cap xs) : w.cell? ⟨g, n, none⟩ = some (.int .u32 77) := by
  have := h.seg n (by simp [h.len])
  rw [Nat.zero_add] at this
  rw [this, ← h.len, List.getElem?_concat_length]
  rfl
theorem LentAt.of_row {B : Nat} {w : World} {v : Value} {xs : List Nat} (h : Words B w v (xs ++ [77])) : ∃ g cap, v = .slice (some ⟨g, 0, none⟩) (xs.length + 1) cap ∧ xs.length + 1 ≤ cap ∧ LentAt B w g xs.length cap xs := by
  have ho := h.ow
  rcases h.2 with ⟨rfl, h0⟩ | ⟨g, cap, cur, e, hB, hh, hc, _⟩
  · simp at h0
  · have el : (xs ++ [77]).length = xs.length + 1 := by simp
    rw [el] at e hc
    subst e
    obtain ⟨b, off, hp, _, sg, _⟩ := ho.place
    obtain ⟨e2, _⟩ := hp (by simp)
    injection e2 with e2
    injection e2 with e3 e4
    subst e3; subst e4
    exact ⟨g, cap, rfl, hc, rfl, hc, hB, sg⟩

theorem LentAt.set {B : Nat} {w : World} {g n cap : Nat} {xs : List Nat} (h : LentAt B w g n cap xs) {p : Addr} (hne : p.block ≠ g) (v : Value) : LentAt B (w.setCell p v) g n cap xs :=
  ⟨h.len, h.room, h.ge, fun j hj => by rw [World.cell?_setCell_other _ _ _ _ (fun e => hne (by rw [e]))]; exact h.seg j hj⟩
theorem Box2.setOther {w : World} {N : Nat} {neg : Bool} {a : Option Addr} {n cap : Nat} (h : Box2 w N neg a n cap) {p : Addr} (hne : p.block ≠ N) (v : Value) : Box2 (w.setCell p v) N neg a n cap := by
  have o : ∀ j, (w.setCell p v).cell? ⟨N, j, none⟩ = w.cell? ⟨N, j, none⟩ := fun j => World.cell?_setCell_other _ _ _ _ (fun e => hne (by rw [e]))
  have f : ∀ j, (w.setCell p v).frozen? ⟨N, j, none⟩ = w.frozen? ⟨N, j, none⟩ := fun j => World.frozen?_setCell _ _ _ _
  exact ⟨(o 0).trans h.c0, (o 1).trans h.c1, (f 0).trans h.f0, (f 1).trans h.f1⟩

set_option maxRecDepth 100000 in
set_option maxHeartbeats 2000000 in
theorem lent_any (neg : Bool) (a : Option Addr) (n cap : Nat) (xs : List Nat) (w : World) (h : Sl .u32 w (.slice a n cap) xs) (hb : xs.length ≤ 1000000) :
    Calls Try.prog 11 #[.agg #[.bool neg, .slice a n cap]] w fun e w' => ∃ g c, e = .returned (.agg #[.bool neg, .slice (some ⟨g, 0, none⟩) n c]) ∧ LentAt w.heap.size w' g n c xs ∧ Below w.heap.size w w' := by
  obtain ⟨i0, hi, hz0, hz1, hz2⟩ := info_parts Try.infoWord
  have hn := h.len
  subst hn
  have hbs := boxes2 w neg false a none xs.length cap 0 0 24
  go_enter Try.func11, Try.ntmps11
  go_upto_region 2 with fail
  obtain ⟨W0, hW0⟩ : ∃ W0, (w.alloc (.cells #[.bool neg, .slice a xs.length cap] 24)).alloc (.cells #[.bool false, .slice none 0 0] 24) = W0 := ⟨_, rfl⟩
  simp only [hW0] at hbs
  rw [hW0]
  clear hW0
  obtain ⟨hA, hR, hB0⟩ := hbs
  have hX := h.below hB0
  have a0 := hA.c0
  have a1 := hA.c1
  go_cut [3] from 4 to 7 (fun v W => Words W0.heap.size W v xs ∧ Below W0.heap.size W0 W)
  case first =>
    have nn : Words W0.heap.size W0 (.slice none 0 0) [] := Words.nil _ _
    have fin : ∀ (ys : List Nat) (v' : Value) (w1 : World), ys = xs → w1.ownsRow W0.heap.size 55 1 v' (0 + ys.length) ([] ++ ys.map fun x : Nat => Value.int .u32 (x : Int)) → W0.grownBy w1 (Value.slice none 0 0).ownBlock → Hid (Words W0.heap.size w1 v' xs ∧ Below W0.heap.size W0 w1) := by
      intro ys v' w1 e h1 h2
      subst e
      exact ⟨by unfold Words; simpa using h1, (Below.refl _ W0).grown h2 (Nat.le_refl _) (fun k e => by cases e)⟩
    have FIN : Hid (∀ (ys : List Nat) (v' : Value) (w1 : World), ys = xs → w1.ownsRow W0.heap.size 55 1 v' (0 + ys.length) ([] ++ ys.map fun x : Nat => Value.int .u32 (x : Int)) → W0.grownBy w1 (Value.slice none 0 0).ownBlock → Hid (Words W0.heap.size w1 v' xs ∧ Below W0.heap.size W0 w1)) := fin
    clear fin
    rcases hX.cases with ⟨hnil, a', cap', e⟩ | ⟨_, b, off, cap', e, hc, hs, _⟩
    · subst hnil
      cases a with
      | none =>
        have ha := run_append_nothing
        go_wp2_with fail
        go_meet
        case rel => exact ⟨Words.nil _ _, Below.refl _ _⟩
      | some ad =>
        go_wp2_with (at_builtin; refine wpList_append_own _ rfl _ _ 22 rfl W0.heap.size 55 i0 (.int .u32 0) 1 4 Try.underlying22 hi hz0 hz1 hz2 rfl (by decide) _ _ _ rfl nn ad 0 cap [] rfl rfl (fun j u h => by simp at h) (fun u h => by simp at h) (by decide) (by decide) (Nat.le_refl _) ?_; intro v' w1 hown hgrow hnil; have HF := FIN.out [] v' w1 rfl hown hgrow; clear hown hgrow hnil)
        go_meet
        case rel => exact HF.out
    · injection e with e1 e2 e3
      subst e1; subst e3
      clear e2
      have hs' := seg_cells hs
      go_wp2_with (at_builtin; refine wpList_append_own _ rfl _ _ 22 rfl W0.heap.size 55 i0 (.int .u32 0) 1 4 Try.underlying22 hi hz0 hz1 hz2 rfl (by decide) _ _ _ rfl nn ⟨b, off, none⟩ xs.length cap (xs.map fun x : Nat => Value.int .u32 (x : Int)) rfl (by simp) hs' (words_one _ _) (by unfold maxLen; simp; omega) (by simp; omega) (Nat.le_refl _) ?_; intro v' w1 hown hgrow hnil; have HF := FIN.out xs v' w1 rfl hown hgrow; clear hown hgrow hnil)
      go_meet
      case rel => exact HF.out
  case rest =>
    obtain ⟨hw, hb1⟩ := hcut
    have hown : wc.ownsRow W0.heap.size 55 1 u3 xs.length (xs.map fun x : Nat => Value.int .u32 (x : Int)) := hw
    have hsz := hb1.size
    clear a0 a1 hX hw h
    go_wp2_with (at_builtin; refine wpList_append_own _ rfl _ _ 22 rfl W0.heap.size 55 i0 (.int .u32 0) 1 4 Try.underlying22 hi hz0 hz1 hz2 rfl (by decide) _ _ _ rfl (World.ownsRow.alloc hown _) ⟨wc.heap.size, 0, none⟩ 1 1 [.int .u32 77] rfl rfl (new_one _ _ _) (by simp [Value.oneCell']) (by unfold maxLen; omega) (by omega) (by simp; omega) ?_; intro v' w2 hown2 hgrow _; obtain ⟨g, c, ev, hc, hL⟩ := LentAt.of_row (words_snoc (d := 77) hown2); subst ev; have hgrow' : (wc.alloc (.cells #[.int .u32 77] 55)).grownBy w2 u3.ownBlock := hgrow; have hb2 := below_grown hb1 (Nat.le_refl _) hown hgrow'; have hA2 := hA.below hb2; have hR2 := hR.below hb2; clear hgrow hgrow' hown2; have a0 := hA2.c0; have a1 := hA2.c1; have af1 := hA2.f1; have r0 := hR2.c0; have r1 := hR2.c1; have rf0 := hR2.f0; have rf1 := hR2.f1)
    have hlt := hR.lt
    have hge := hL.ge
    have hR3 := (hR2.setOther (p := ⟨w.heap.size, 1, none⟩) (by simp) (.slice (some ⟨g, 0, none⟩) xs.length c)).put neg (some ⟨g, 0, none⟩) xs.length c
    have hL3 := ((hL.set (p := ⟨w.heap.size, 1, none⟩) (by simp; omega) (.slice (some ⟨g, 0, none⟩) xs.length c)).set (p := ⟨w.heap.size + 1, 0, none⟩) (by simp; omega) (.bool neg)).set (p := ⟨w.heap.size + 1, 1, none⟩) (by simp; omega) (.slice (some ⟨g, 0, none⟩) xs.length c)
    have hg0 := hR3.c0
    have hg1 := hR3.c1
    unfold put2 at hg0 hg1
    have hBw : Below w.heap.size w w2 := hB0.trans (hb2.mono hB0.size)
    refine bodyPost_ret (v := .agg #[.bool neg, .slice (some ⟨g, 0, none⟩) xs.length c]) ?_ rfl ⟨_, _, rfl, ⟨hL3.len, hL3.room, Nat.le_trans hB0.size hL3.ge, hL3.seg⟩, below_put2 (N := w.heap.size + 1) (hBw.setCell (p := ⟨w.heap.size, 1, none⟩) (Nat.le_refl _) _) (by omega) _ _⟩
    simp [results, Try.f11, go_sem, hg0, hg1]

set_option maxRecDepth 100000 in
set_option maxHeartbeats 2000000 in
/-- spoil: only words of its own number's are written over. -/
theorem spoil_any (neg : Bool) (a : Option Addr) (n cap B : Nat) (xs : List Nat) (w : World) (h : Ow .u32 B w (.slice a n cap) xs) (hb : xs.length ≤ 1000000) (hB : B ≤ w.heap.size) :
    Calls Try.prog 15 #[.agg #[.bool neg, .slice a n cap]] w fun e w' => (∃ v, e = .returned v) ∧ Below B w w' ∧ ∀ M nm am lm cm, (xs ≠ [] → ∀ o, a ≠ some ⟨M, o, none⟩) → Box2 w M nm am lm cm → Box2 w' M nm am lm cm := by
  have hn := h.len
  subst hn
  obtain ⟨b, off, hp, hge, sg, fr⟩ := h.place
  have c0 := Box2.new w neg a xs.length cap 24
  have hb0 := below_alloc w (.cells #[.bool neg, .slice a xs.length cap] 24)
  go_enter Try.func15, Try.ntmps15
  go_upto_region 1 with fail
  obtain ⟨w0, hW⟩ : ∃ w0, w.alloc (.cells #[.bool neg, .slice a xs.length cap] 24) = w0 := ⟨_, rfl⟩
  rw [hW] at c0 hb0 ⊢
  clear hW
  go_wp2_with fail
  go_loopw [2] (fun i wr => ∃ (k : Nat) (ys : List Nat), k ≤ xs.length ∧ i = .int .i64 (k : Int) ∧ ys.length = xs.length ∧ (xs ≠ [] → Seg .u32 wr b off ys ∧ Free wr b off ys.length) ∧ Box2 wr w.heap.size neg a xs.length cap ∧ Below B w wr ∧ ∀ M nm am lm cm, (xs ≠ [] → ∀ o, a ≠ some ⟨M, o, none⟩) → Box2 w M nm am lm cm → Box2 wr M nm am lm cm) (fun i _ => xs.length - (intOf i).toNat)
  case atStart =>
    refine ⟨0, xs, Nat.zero_le _, rfl, rfl, fun h0 => ⟨sg.below hb0 (hp h0).2, fr.below hb0 (hp h0).2⟩, c0, hb0.mono hB, fun M nm am lm cm _ hM => hM.below hb0⟩
  case round =>
    clear c0 hb0
    obtain ⟨k, ys, hk, rfl, hl, hs, c0, hbe, hbx⟩ := hrel
    have HBX : Hid (∀ M nm am lm cm, (xs ≠ [] → ∀ o, a ≠ some ⟨M, o, none⟩) → Box2 w M nm am lm cm → Box2 wr M nm am lm cm) := hbx
    clear hbx
    have q1 := c0.c1
    by_cases hlt : k < xs.length
    · have hx : xs ≠ [] := fun h0 => by rw [h0] at hlt; simp at hlt
      obtain ⟨ea, hlb⟩ := hp hx
      obtain ⟨s1, f1⟩ := hs hx
      have hc := s1 k (by omega)
      have hf := f1 k (by omega)
      have t1 : (k : Int) < xs.length := by omega
      have HL : Hid (ys.length = xs.length) := hl
      have hne : b ≠ w.heap.size := by omega
      clear hs hl
      subst ea
      go_wp2_with fail
      go_roundw
      case rel =>
        refine ⟨k + 1, ys.set k 99, by omega, by go_num, by simp [HL.out], fun _ => ⟨s1.set k (by rw [HL.out]; omega) 99, ?_⟩, c0.setOther (p := ⟨b, off + k, none⟩) (by simpa using hne) _, hbe.setCell (p := ⟨b, off + k, none⟩) hge _, fun M nm am lm cm hC hM => (HBX.out M nm am lm cm hC hM).setOther (p := ⟨b, off + k, none⟩) (fun e => hC hx off (by rw [← e])) _⟩
        rw [List.length_set]
        exact f1.set _ _
      case measure => simp [intOf]; omega
    · obtain rfl : k = xs.length := by omega
      have t1 : ¬ (xs.length : Int) < xs.length := by omega
      clear hs
      go_wp2
      go_end0
      exact ⟨⟨_, rfl⟩, hbe, fun M => ⟨fun am lm cm hC hM => HBX.out M false am lm cm hC hM, fun am lm cm hC hM => HBX.out M true am lm cm hC hM⟩⟩

theorem sameB_self (na : Bool) (xs : List Nat) : sameB na na xs xs = true := by simp [sameB]

set_option maxRecDepth 100000 in
set_option maxHeartbeats 2000000 in
/-- back: what was lent is as it was. -/
theorem back_is (neg : Bool) (a : Option Addr) (n cap g c B : Nat) (xs : List Nat) (w : World) (hL : LentAt B w g n c xs) (h : Sl .u32 w (.slice a n cap) xs) (hb : xs.length ≤ 1000000) :
    Calls Try.prog 24 #[.agg #[.bool neg, .slice (some ⟨g, 0, none⟩) n c], .agg #[.bool neg, .slice a n cap]] w fun e w' => e = .returned (.bool true) ∧ Below w.heap.size w w' := by
  have hroom := hL.room
  have hnb : n ≤ 1000000 := by have := hL.len; omega
  have i1 : (0 : Int) ≤ (n : Int) + 1 := by omega
  have i2 : (n : Int) + 1 ≤ (c : Int) := by omega
  have i3 : IntKind.i64.wrap ((n : Int) + 1) = (n : Int) + 1 := by rw [IntKind.wrap_i64]; omega
  have i4 : ((n : Int) + 1).toNat = n + 1 := by omega
  have i5 : (n : Int) < (n : Int) + 1 := by omega
  have hbs := boxes2 w neg neg (some ⟨g, 0, none⟩) a n c n cap 24
  go_enter Try.func24, Try.ntmps24
  go_wp2_with fail
  obtain ⟨W0, hW0⟩ : ∃ W0, (w.alloc (.cells #[.bool neg, .slice (some ⟨g, 0, none⟩) n c] 24)).alloc (.cells #[.bool neg, .slice a n cap] 24) = W0 := ⟨_, rfl⟩
  simp only [hW0] at hbs
  rw [hW0]
  clear hW0
  obtain ⟨hA, hR, hB0⟩ := hbs
  have hC := C4.mk hA hR
  have hL0 := hL.below hB0
  have hS0 := h.below hB0
  have a0 := hA.c0
  have a1 := hA.c1
  have b0 := hR.c0
  have b1 := hR.c1
  have l1 := hL0.last
  go_region_held3 (fun W => (W.cell? ⟨w.heap.size, 0, none⟩ = some (.bool neg) ∧ W.cell? ⟨w.heap.size, 1, none⟩ = some (.slice (some ⟨g, 0, none⟩) n c) ∧ W.cell? ⟨w.heap.size + 1, 0, none⟩ = some (.bool neg) ∧ W.cell? ⟨w.heap.size + 1, 1, none⟩ = some (.slice a n cap)) ∧ W.cell? ⟨g, n, none⟩ = some (.int .u32 77))
    (first | exact ⟨hC.drew, l1⟩ | assumption | exact ⟨C4.keep hC.drew hb1, l2⟩ | fail)
    (first | (go_at_call 14; refine (same_any neg neg (some ⟨g, 0, none⟩) a n c n cap xs xs _ (hL0.sl.below below_drew) (hS0.below below_drew) hb).mono ?_; rw [sameB_self]; rintro e w1 ⟨rfl, hb1⟩; have l2 := cell_below (W := W0.drew) l1 hb1)
           | fail)
  go_wp2
  go_ret
  exact ⟨rfl, hB0.drew.trans (hb1.mono hB0.size)⟩
end Go.Proofs.Yteplmnnpmekngaa
