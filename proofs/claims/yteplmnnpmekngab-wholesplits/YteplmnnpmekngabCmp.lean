/-
  What compareWords does: the order of two trimmed rows of words.
-/
import Derived.Test.YteplmnnpmekngabBack
namespace Go.Proofs.Yteplmnnpmekngab
open Go.RowKit Go.Shelf
attribute [local go_sem] Oper.semAt_some

theorem OwnFrom.box {β : Type} (B0 B : Nat) (t : TypeId) (f : β → Value) : OwnFrom B0 (fun s W => Boxed W B t (f s)) := Own.from (boxed_own B t f) B0

theorem cmpw_other (ax ay : Option Addr) (nx cx ny cy : Nat) (w : World) (hne : nx ≠ ny) :
    Calls Try.prog 19 #[.slice ax nx cx, .slice ay ny cy] w fun e w' => e = .returned (.int .i64 (cmpI nx ny)) ∧ Below w.heap.size w w' := by
  have h0 : ((nx : Int) != (ny : Int)) = true := by rw [bne_iff_ne]; omega
  go_enter Try.func19, Try.ntmps19
  go_wp2_with (go_at_call 18; refine (cmpInt_any _ _ _).mono ?_; rintro e w' ⟨rfl, rfl⟩)
  refine bodyPost_ret (v := .int .i64 (cmpI nx ny)) ?_ rfl ⟨rfl, ?_⟩
  · simp [results, Try.f19, go_sem]
  exact ((Below.refl w.heap.size w).alloc (Nat.le_refl _) _).alloc (by simp) _

set_option maxRecDepth 100000 in
set_option maxHeartbeats 2000000 in
theorem cmpw_same (ax ay : Option Addr) (len cx cy b off b2 off2 : Nat) (xs ys : List Nat) (w : World) (hlen : len ≤ 1000000) (hx : xs.length = len) (hy : ys.length = len)
    (hax : 0 < len → ax = some ⟨b, off, none⟩ ∧ b < w.heap.size) (hay : 0 < len → ay = some ⟨b2, off2, none⟩ ∧ b2 < w.heap.size) (sx : Seg .u32 w b off xs) (sy : Seg .u32 w b2 off2 ys) (ox : okw xs) (oy : okw ys) :
    Calls Try.prog 19 #[.slice ax len cx, .slice ay len cy] w fun e w' => e = .returned (.int .i64 (cmpN (val xs) (val ys))) ∧ Below w.heap.size w w' := by
  refine (callsIn_wide (n := 3)).1 ?_
  refine callsIn_of_wp_marks Try.func19 rfl trivial ?_ rfl
  simp only [Try.ntmps19, List.size_toArray, List.length_cons, List.length_nil, Nat.reduceAdd, Nat.reduceSub, Array.replicate_succ, Array.replicate_zero, List.push_toArray, List.append_toArray, List.nil_append, List.cons_append]
  gi_wp2_with (refine ⟨trivial, ?_⟩; gi_at_call 27; refine (callsIn_wide.2 (back_any _ _ _ _)).mono ?_; rintro e w' ⟨rfl, rfl⟩)
  have bY := Boxed.new w 22 (.slice ay len cy)
  have bR := Boxed.new (w.alloc (.cells #[.slice ay len cy] 22)) 3 (.int .i64 0)
  have bX := Boxed.new ((w.alloc (.cells #[.slice ay len cy] 22)).alloc (.cells #[.int .i64 0] 3)) 22 (.slice ax len cx)
  simp only [World.size_alloc] at bR bX
  have hB0 : Below w.heap.size w (((w.alloc (.cells #[.slice ay len cy] 22)).alloc (.cells #[.int .i64 0] 3)).alloc (.cells #[.slice ax len cx] 22)) :=
    (((Below.refl _ w).alloc (Nat.le_refl _) _).alloc (by simp) _).alloc (by simp; omega) _
  refine back_loop (S := Nat) (w.heap.size + 2) b off len cx ax (by omega) rfl rfl hlen (fun k => k)
    (fun k W => (k ≤ len ∧ (∀ j, k ≤ j → j < len → xs[j]?.getD 0 = ys[j]?.getD 0)) ∧ Boxed W w.heap.size 22 (.slice ay len cy) ∧ Boxed W (w.heap.size + 1) 3 (.int .i64 0) ∧ Boxed W (w.heap.size + 1 + 1) 22 (.slice ax len cx) ∧ Below w.heap.size w W)
    (fun c W => c = .ret ∧ Boxed W (w.heap.size + 1) 3 (.int .i64 (cmpN (val xs) (val ys))) ∧ Below w.heap.size w W)
    (OwnFrom.and (ownFrom_pure _ _) (OwnFrom.and (OwnFrom.box _ _ _ _) (OwnFrom.and (OwnFrom.box _ _ _ _) (OwnFrom.and (OwnFrom.box _ _ _ _) (ownFrom_below (Nat.le_refl _) (by simp; omega))))))
    (fun c => OwnFrom.and (ownFrom_pure _ _) (OwnFrom.and (OwnFrom.box _ _ _ _) (ownFrom_below (Nat.le_refl _) (by simp; omega))))
    ?read len rfl ⟨⟨Nat.le_refl _, fun j h1 h2 => by omega⟩, (bY.alloc _).alloc _, bR.alloc _, bX, hB0⟩
    (fun i v => { tmps := #[.slice ax len cx, .slice ay len cy, undef, .pointer (some ⟨w.heap.size, 0, none⟩), .pointer (some ⟨w.heap.size + 1, 0, none⟩), .int .i64 (i : Int), .int .u32 (v : Int), .slice ax len cx,
      .int .i64 len, .slice ay len cy, .int .i64 len, .bool false, undef, undef, undef, undef, undef, .slice ax len cx, .func (.func 40) #[] #[.pointer (some ⟨w.heap.size + 1 + 1, 0, none⟩)], .int .i64 (i : Int), .int .u32 (v : Int), undef, undef, undef, undef, undef, undef,
      undef, undef, undef, undef, undef, undef], defers := [] }) ?assign ?body ?done ?stop
  case read =>
    rintro k W ⟨⟨hk, _⟩, _, _, bx, hb⟩
    refine ⟨hk, bx.cell, fun h => ⟨(hax (by omega)).1, xs[k - 1]?.getD 0, ?_⟩⟩
    exact (sx.below hb (hax (by omega)).2) (k - 1) (by omega)
  case assign =>
    intro l i v W K hK
    gi_wp2
    exact hK
  case body =>
    rintro l k v W ⟨⟨hk, hs⟩, by0, br, bx, hb⟩ hpos e1 hv
    cases k with
    | zero => exact absurd hpos (by simp)
    | succ k =>
      obtain ⟨e2, hlt2⟩ := hay (by omega)
      obtain ⟨_, hlt1⟩ := hax (by omega)
      have hcx : W.cell? ⟨b, off + k, none⟩ = some (.int .u32 ((xs[k]?.getD 0 : Nat) : Int)) := (sx.below hb hlt1) k (by omega)
      have hcy : W.cell? ⟨b2, off2 + k, none⟩ = some (.int .u32 ((ys[k]?.getD 0 : Nat) : Int)) := (sy.below hb hlt2) k (by omega)
      simp only [Nat.add_sub_cancel] at hv ⊢
      obtain rfl : xs[k]?.getD 0 = v := by
        rw [hcx] at hv
        injection hv with hv
        injection hv with _ hv
        omega
      have hc0 := by0.cell
      have hc1 := br.cell
      have hf1 := br.frozen
      rw [e2] at hc0
      clear hv hcx
      by_cases hxy : xs[k]?.getD 0 = ys[k]?.getD 0
      · have ht : (((xs[k]?.getD 0 : Nat) : Int) != ((ys[k]?.getD 0 : Nat) : Int)) = false := by simp [hxy]
        have HX : Hid (xs[k]?.getD 0 = ys[k]?.getD 0) := hxy
        clear hxy
        gi_wp2
        exact ⟨KeepsFrom.refl _ _, k, rfl, ⟨by omega, fun j h1 h2 => (Nat.eq_or_lt_of_le h1).elim (fun e => by subst e; exact HX.out) (fun h3 => hs j h3 h2)⟩, by0, br, bx, hb⟩
      · have ht : (((xs[k]?.getD 0 : Nat) : Int) != ((ys[k]?.getD 0 : Nat) : Int)) = true := by rw [bne_iff_ne]; omega
        have hcmp : cmpI ((xs[k]?.getD 0 : Nat) : Int) ((ys[k]?.getD 0 : Nat) : Int) = cmpN (val xs) (val ys) := by
          rcases Nat.lt_or_gt_of_ne hxy with h | h
          · have := val_cmp ox (hx.trans hy.symm) k (by omega) (fun j h1 h2 => hs j h1 (by omega)) h
            simp only [cmpI, cmpN]
            rw [if_pos (by omega), if_pos this]
          · have := val_cmp oy (hy.trans hx.symm) k (by omega) (fun j h1 h2 => (hs j h1 (by omega)).symm) h
            simp only [cmpI, cmpN]
            rw [if_neg (by omega), if_pos (by omega), if_neg (by omega), if_pos this]
        have HX : Hid (cmpI ((xs[k]?.getD 0 : Nat) : Int) ((ys[k]?.getD 0 : Nat) : Int) = cmpN (val xs) (val ys)) := hcmp
        clear hcmp
        gi_wp2_with (refine ⟨trivial, ?_⟩; gi_at_call 35; refine (CallsIn.inRound l (callsIn_wide.2 (cmpWord_any _ _ _))).mono ?_; rintro e w' ⟨rfl, rfl⟩)
        rw [HX.out]
        exact ⟨(KeepsOthers.setCell _ _ _).from _, rfl, br.set _, hb.setCell (p := ⟨w.heap.size + 1, 0, none⟩) (by simp) _⟩
  case done =>
    rintro D k W hD hk0 ⟨⟨_, hs⟩, by0, br, bx, hb⟩ hK
    subst hk0
    have hc1 := br.cell
    have hf1 := br.frozen
    have hv : cmpN (val xs) (val ys) = 0 := by
      rw [ext_get (hx.trans hy.symm) (fun j hj => hs j (by omega) (by omega))]
      simp [cmpN]
    have HV : Hid (cmpN (val xs) (val ys) = 0) := hv
    clear hv
    gi_wp2
    have hK' := (KeepsOthers.setCell W ⟨w.heap.size + 1, 0, none⟩ (.int .i64 0)).same D _ hK rfl
    refine ⟨by simp, .inl ⟨_, _, rfl, run_takeDeferred hK', ?_⟩⟩
    have hc5 := cell_kept (br.set (.int .i64 0)).cell (grownBy_putObj' _ D (.deferred none)) (fun r e => by cases e; exact ⟨_, hK', rfl⟩)
    refine ⟨.int .i64 0, ?_, by rw [HV.out], (hb.setCell (p := ⟨w.heap.size + 1, 0, none⟩) (by simp) _).trans (belowK_b (w := w) (Nat.le_refl _) _ D _ _ (by simp at hD; omega) hK' rfl rfl)⟩
    simp [results, Try.f19, go_sem, hc5]
  case stop =>
    rintro D c W hD ⟨rfl, br, hb⟩ hK
    gi_wp2
    refine ⟨by simp, .inl ⟨_, _, rfl, run_takeDeferred hK, ?_⟩⟩
    have hc5 := cell_kept br.cell (grownBy_putObj' _ D (.deferred none)) (fun r e => by cases e; exact ⟨_, hK, rfl⟩)
    refine ⟨.int .i64 (cmpN (val xs) (val ys)), ?_, rfl, hb.trans (belowK_b (w := w) (Nat.le_refl _) W D _ _ (by simp at hD; omega) hK rfl rfl)⟩
    simp [results, Try.f19, go_sem, hc5]

/-- compareWords, of two trimmed rows: the order of their values. -/
theorem cmpw_any (ax ay : Option Addr) (nx cx ny cy : Nat) (xs ys : List Nat) (w : World) (hx : Sl .u32 w (.slice ax nx cx) xs) (hy : Sl .u32 w (.slice ay ny cy) ys) (ox : okw xs) (oy : okw ys) (tx : Tr xs) (ty : Tr ys) (bx : xs.length ≤ 1000000) :
    Calls Try.prog 19 #[.slice ax nx cx, .slice ay ny cy] w fun e w' => e = .returned (.int .i64 (cmpN (val xs) (val ys))) ∧ Below w.heap.size w w' := by
  have e1 := hx.len
  have e2 := hy.len
  by_cases hne : xs.length = ys.length
  · subst e1
    rw [← hne] at e2
    subst e2
    obtain ⟨ax', cx', ex, _, hx⟩ := hx
    injection ex with ex1 ex2 ex3
    subst ex1; subst ex3
    obtain ⟨ay', cy', ey, _, hy⟩ := hy
    injection ey with ey1 ey2 ey3
    subst ey1; subst ey3
    by_cases h0 : xs = []
    · subst h0
      obtain rfl : ys = [] := List.eq_nil_of_length_eq_zero (by simpa using hne.symm)
      exact cmpw_same ax ay 0 cx cy 0 0 0 0 [] [] w (by omega) rfl rfl (fun h => absurd h (by simp)) (fun h => absurd h (by simp)) (fun j h => absurd h (by simp)) (fun j h => absurd h (by simp)) ox oy
    · obtain ⟨b, off, e1, sx⟩ := hx h0
      have h0' : ys ≠ [] := fun h => h0 (List.eq_nil_of_length_eq_zero (by rw [hne, h]; rfl))
      obtain ⟨b2, off2, e2, sy⟩ := hy h0'
      exact cmpw_same ax ay xs.length cx cy b off b2 off2 xs ys w bx rfl hne.symm (fun _ => ⟨e1, sx.lt h0⟩) (fun _ => ⟨e2, sy.lt h0'⟩) sx sy ox oy
  · subst e1; subst e2
    refine (cmpw_other ax ay xs.length cx ys.length cy w hne).mono ?_
    rintro e w' ⟨rfl, hb⟩
    refine ⟨?_, hb⟩
    rcases Nat.lt_or_gt_of_ne hne with h | h
    · have := Tr_len_lt ty ox h
      simp only [cmpI, cmpN]
      rw [if_pos (by omega), if_pos this]
    · have := Tr_len_lt tx oy h
      simp only [cmpI, cmpN]
      rw [if_neg (by omega), if_pos (by omega), if_neg (by omega), if_pos this]
theorem Sl.trimmed {w : World} {a : Option Addr} {n cap : Nat} {xs : List Nat} (h : Sl .u32 w (.slice a n cap) xs) : Sl .u32 w (.slice a (tl xs xs.length) cap) (trimL xs) := h.take _ (tl_le _ _)
theorem Ow.trimmed {B : Nat} {w : World} {a : Option Addr} {n cap : Nat} {xs : List Nat} (h : Ow .u32 B w (.slice a n cap) xs) : Ow .u32 B w (.slice a (tl xs xs.length) cap) (trimL xs) := h.take _ (tl_le _ _)
/-- compareWords, of what trim has cut. -/
theorem cmpw_trim (ax ay : Option Addr) (nx cx ny cy : Nat) (xs ys : List Nat) (w : World) (hx : Sl .u32 w (.slice ax nx cx) xs) (hy : Sl .u32 w (.slice ay ny cy) ys) (ox : okw xs) (oy : okw ys) (bx : xs.length ≤ 1000000) :
    Calls Try.prog 19 #[.slice ax (tl xs xs.length) cx, .slice ay (tl ys ys.length) cy] w fun e w' => e = .returned (.int .i64 (cmpN (val xs) (val ys))) ∧ Below w.heap.size w w' := by
  have h := cmpw_any ax ay _ cx _ cy (trimL xs) (trimL ys) w hx.trimmed hy.trimmed (okw_trimL ox) (okw_trimL oy) (Tr_trimL xs) (Tr_trimL ys) (Nat.le_trans (trimL_le xs) bx)
  rwa [val_trimL, val_trimL] at h
end Go.Proofs.Yteplmnnpmekngab
