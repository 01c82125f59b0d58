/-
  does with Add and Set.
-/
import Derived.Test.YtmeljhnmpopkhaaSlDoes
namespace Go.Proofs.Ytmeljhnmpopkhaa
open Go.RowKit Go.WideShapes

set_option maxRecDepth 100000 in
set_option maxHeartbeats 4000000 in
theorem does_add {w : World} {g q : Nat} {ss : List So} {X Y Z : Nat → Prop} (h : Bo w g q ss X Y Z) (hs : ss.length < 100000) (n v : Int) :
    Calls Try.prog 9 #[.pointer (some ⟨g, 0, none⟩), .pointer (some ⟨q, 0, none⟩), .agg #[.int .i64 1, .int .i64 n, .int .i64 v]] w fun e w' => e = .returned (.bool true) ∧ Dd w w' g q (addS ss v) X Y Z := by
  have hX := h.sl.lt
  have hYl := h.rq.lt.1
  have b0 : Below w.heap.size w ((w.alloc (.cells #[.int .i64 1, .int .i64 n, .int .i64 v] 38)).drew) := ((Below.refl _ w).alloc (Nat.le_refl _) _).drew
  have bA : Below w.heap.size w (((w.alloc (.cells #[.int .i64 1, .int .i64 n, .int .i64 v] 38)).alloc (.cells #[.int .i64 v] 3)).drew) := (((Below.refl _ w).alloc (Nat.le_refl _) _).alloc (by simp) _).drew
  have s0 : ((w.alloc (.cells #[.int .i64 1, .int .i64 n, .int .i64 v] 38)).drew).cell? ⟨w.heap.size, 2, none⟩ = some (.int .i64 v) := by
    refine ?_
    all_goals
      show (w.alloc (.cells #[.int .i64 1, .int .i64 n, .int .i64 v] 38)).cell? _ = _
      rw [World.cell?_alloc_at _ _ _ _ rfl]
      rfl
  have sA : (((w.alloc (.cells #[.int .i64 1, .int .i64 n, .int .i64 v] 38)).alloc (.cells #[.int .i64 v] 3)).drew).cell? ⟨w.heap.size, 2, none⟩ = some (.int .i64 v) := by
    refine ?_
    all_goals
      show ((w.alloc (.cells #[.int .i64 1, .int .i64 n, .int .i64 v] 38)).alloc (.cells #[.int .i64 v] 3)).cell? _ = _
      rw [World.cell?_of_block (Below.heap_alloc _ _ _ (by simp)), World.cell?_alloc_at _ _ _ _ rfl]
      rfl
  have cA : (((w.alloc (.cells #[.int .i64 1, .int .i64 n, .int .i64 v] 38)).alloc (.cells #[.int .i64 v] 3)).drew).cell? ⟨w.heap.size + 1, 0, none⟩ = some (.int .i64 v) := by
    show ((w.alloc (.cells #[.int .i64 1, .int .i64 n, .int .i64 v] 38)).alloc (.cells #[.int .i64 v] 3)).cell? _ = _
    rw [World.cell?_alloc_at _ _ _ _ (by simp)]
    rfl
  have l0 : w.heap.size < ((w.alloc (.cells #[.int .i64 1, .int .i64 n, .int .i64 v] 38)).drew).heap.size := by show _ < (w.alloc _).heap.size; simp
  have lA : w.heap.size < (((w.alloc (.cells #[.int .i64 1, .int .i64 n, .int .i64 v] 38)).alloc (.cells #[.int .i64 v] 3)).drew).heap.size := by show _ < ((w.alloc _).alloc _).heap.size; simp; omega
  have hA : ¬ X w.heap.size := fun hx => by have := hX _ hx; omega
  have hA1 : ¬ X (w.heap.size + 1) := fun hx => by have := hX _ hx; omega
  have hAY : ¬ Y w.heap.size := fun hx => by have := hYl _ hx; omega
  have HY1 : Hid (∀ k, w.heap.size ≤ k → ¬ Y k) := fun k hk hx => by have := hYl _ hx; omega
  have C1 : Hid (∀ V, Below w.heap.size w V → w.heap.size < V.heap.size → Calls Try.prog 16 #[.pointer (some ⟨g, 0, none⟩), .int .i64 v] V fun e w' => e = .returned (.int .i64 (low ss : Int)) ∧ SlV w' g (addS ss v) (gX X V w') ∧ Ex X V w' ∧ RqV w' q ss Y Z ∧ (∀ i x, V.cell? ⟨w.heap.size, i, none⟩ = some x → w'.cell? ⟨w.heap.size, i, none⟩ = some x) ∧ (V.cell? ⟨w.heap.size + 1, 0, none⟩ = some (.int .i64 v) → w'.cell? ⟨w.heap.size + 1, 0, none⟩ = some (.int .i64 v)) ∧ w.heap.size < w'.heap.size)   := fun V hV hlt => by
    have hBo := h.keep hV
    have hCK := fun (w' : World) (ex : Ex X V w') => hBo.rq.keep ex hBo.xy
    refine (add_sl hBo.sl hs v).mono ?_
    rintro e w' ⟨rfl, h1, h2⟩
    refine ⟨rfl, h1, h2, hCK w' h2, fun i x hx => hBo.ncell hx hA h2, fun hx => hBo.ncell hx hA1 h2, Nat.lt_of_lt_of_le hlt h2.size⟩
  have C2 : Hid (∀ V b, RqV V q ss Y Z → V.cell? ⟨b, 0, none⟩ = some (.int .i64 v) → ¬ Y b → Calls Try.prog 19 #[.pointer (some ⟨q, 0, none⟩), .slice (some ⟨b, 0, none⟩) 1 1] V fun e w' => e = .returned (.int .i64 (low ss : Int)) ∧ RqV w' q (addS ss v) (gX Y V w') (fun k => Z k ∨ k = b) ∧ Ex Y V w') := fun V b h1 h2 h3 => radd_sl h1 hs h2 h3
  have H := Lib.hid h
  clear h
  go_enter Try.func9, Try.ntmps9
  go_upto_region 3 with fail
  go_region_held3 (fun V => V.cell? ⟨w.heap.size, 2, none⟩ = some (.int .i64 v))
    (first | with_reducible exact s0 | with_reducible exact sA | with_reducible exact s1 | exact s1A _ | with_reducible exact s2 | fail)
    (first | (go_at_call 16; refine (C1.out _ (by first | exact b0 | exact bA) (by first | exact l0 | exact lA)).mono ?_; rintro e w1 ⟨rfl, hs1, ex1, hr1, k1, k2, hl1⟩; have s1 : w1.cell? ⟨w.heap.size, 2, none⟩ = some (.int .i64 v) := k1 _ _ (by first | exact s0 | exact sA); have s1A : ∀ o, (w1.alloc o).cell? ⟨w.heap.size, 2, none⟩ = some (.int .i64 v) := fun o => (World.cell?_of_block (Below.heap_alloc _ _ _ hl1)).trans s1; have hr1A : ∀ o, RqV (w1.alloc o) q ss Y Z := fun o => hr1.keep (X := fun _ => False) ((Ex.refl _ w1).alloc o) (fun _ h => h.elim); have cn : ∀ t, (w1.alloc (.cells #[.int .i64 v] t)).cell? ⟨w1.heap.size, 0, none⟩ = some (.int .i64 v) := fun t => (World.cell?_alloc_at _ _ _ _ rfl).trans rfl) | (go_at_call 19; refine (C2.out _ _ (by first | exact hr1 | exact hr1A _) (by first | exact k2 cA | exact cn _) (by first | exact HY1.out _ (Nat.le_succ _) | exact HY1.out _ (Nat.le_of_lt hl1))).mono ?_; rintro e w2 ⟨rfl, hr2, ex2⟩; have s2 : w2.cell? ⟨w.heap.size, 2, none⟩ = some (.int .i64 v) := (World.cell?_of_block (ex2.block _ (lt_of_cell (by first | exact s1 | exact s1A _)) hAY)).trans (by first | exact s1 | exact s1A _)) | fail)
  all_goals
    have HD : Hid (Dd w w2 g q (addS ss v) X Y Z) := by
      show Dd _ _ _ _ _ _ _ _
      first
        | exact dd_of (H.out.keep bA) bA hs1 (fun _ h => h) ex1 (Below.refl _ w1) (fun k hk => by
            rcases hk with hk | hk
            · exact Or.inl hk
            · refine Or.inr ⟨by omega, fun hx => ?_⟩
              rcases hx with hx | hx
              · exact hA1 (by rw [← hk]; exact hx)
              · have e9 : (((w.alloc (.cells #[.int .i64 1, .int .i64 n, .int .i64 v] 38)).alloc (.cells #[.int .i64 v] 3)).drew).heap.size = w.heap.size + 2 := by show ((w.alloc _).alloc _).heap.size = _; simp
                omega) gX_new hr2 ex2
        | exact dd_of (H.out.keep b0) b0 hs1 (fun _ h => h) ex1 ((Below.refl _ w1).alloc (Nat.le_refl _) _) (fun k hk => by
            rcases hk with hk | hk
            · exact Or.inl hk
            · refine Or.inr ⟨by omega, fun hx => ?_⟩
              rcases hx with hx | hx
              · have := hX _ hx
                omega
              · omega) gX_new hr2 ex2
    clear hs1 ex1 hr1 hr2 ex2 s0 sA s1 s2 s1A hr1A cn k1 k2 C1 C2 cA b0 bA
    go_wp2
    go_ret
    exact ⟨by first | rfl | simp, HD.out⟩
set_option maxRecDepth 100000 in
set_option maxHeartbeats 4000000 in
theorem does_set {w : World} {g q : Nat} {ss : List So} {X Y Z : Nat → Prop} (h : Bo w g q ss X Y Z) (n v : Int) :
    Calls Try.prog 9 #[.pointer (some ⟨g, 0, none⟩), .pointer (some ⟨q, 0, none⟩), .agg #[.int .i64 3, .int .i64 n, .int .i64 v]] w fun e w' => e = .returned (.bool true) ∧ Dd w w' g q (setS ss n v) X Y Z := by
  have hX := h.sl.lt
  have hYl := h.rq.lt.1
  have b0 : Below w.heap.size w ((w.alloc (.cells #[.int .i64 3, .int .i64 n, .int .i64 v] 38)).drew) := ((Below.refl _ w).alloc (Nat.le_refl _) _).drew
  have bA : Below w.heap.size w (((w.alloc (.cells #[.int .i64 3, .int .i64 n, .int .i64 v] 38)).alloc (.cells #[.int .i64 v] 3)).drew) := (((Below.refl _ w).alloc (Nat.le_refl _) _).alloc (by simp) _).drew
  have s0 : ((w.alloc (.cells #[.int .i64 3, .int .i64 n, .int .i64 v] 38)).drew).cell? ⟨w.heap.size, 1, none⟩ = some (.int .i64 n) ∧ ((w.alloc (.cells #[.int .i64 3, .int .i64 n, .int .i64 v] 38)).drew).cell? ⟨w.heap.size, 2, none⟩ = some (.int .i64 v) := by
    refine ⟨?_, ?_⟩
    all_goals
      show (w.alloc (.cells #[.int .i64 3, .int .i64 n, .int .i64 v] 38)).cell? _ = _
      rw [World.cell?_alloc_at _ _ _ _ rfl]
      rfl
  have sA : (((w.alloc (.cells #[.int .i64 3, .int .i64 n, .int .i64 v] 38)).alloc (.cells #[.int .i64 v] 3)).drew).cell? ⟨w.heap.size, 1, none⟩ = some (.int .i64 n) ∧ (((w.alloc (.cells #[.int .i64 3, .int .i64 n, .int .i64 v] 38)).alloc (.cells #[.int .i64 v] 3)).drew).cell? ⟨w.heap.size, 2, none⟩ = some (.int .i64 v) := by
    refine ⟨?_, ?_⟩
    all_goals
      show ((w.alloc (.cells #[.int .i64 3, .int .i64 n, .int .i64 v] 38)).alloc (.cells #[.int .i64 v] 3)).cell? _ = _
      rw [World.cell?_of_block (Below.heap_alloc _ _ _ (by simp)), World.cell?_alloc_at _ _ _ _ rfl]
      rfl
  have cA : (((w.alloc (.cells #[.int .i64 3, .int .i64 n, .int .i64 v] 38)).alloc (.cells #[.int .i64 v] 3)).drew).cell? ⟨w.heap.size + 1, 0, none⟩ = some (.int .i64 v) := by
    show ((w.alloc (.cells #[.int .i64 3, .int .i64 n, .int .i64 v] 38)).alloc (.cells #[.int .i64 v] 3)).cell? _ = _
    rw [World.cell?_alloc_at _ _ _ _ (by simp)]
    rfl
  have l0 : w.heap.size < ((w.alloc (.cells #[.int .i64 3, .int .i64 n, .int .i64 v] 38)).drew).heap.size := by show _ < (w.alloc _).heap.size; simp
  have lA : w.heap.size < (((w.alloc (.cells #[.int .i64 3, .int .i64 n, .int .i64 v] 38)).alloc (.cells #[.int .i64 v] 3)).drew).heap.size := by show _ < ((w.alloc _).alloc _).heap.size; simp; omega
  have hA : ¬ X w.heap.size := fun hx => by have := hX _ hx; omega
  have hA1 : ¬ X (w.heap.size + 1) := fun hx => by have := hX _ hx; omega
  have hAY : ¬ Y w.heap.size := fun hx => by have := hYl _ hx; omega
  have HY1 : Hid (∀ k, w.heap.size ≤ k → ¬ Y k) := fun k hk hx => by have := hYl _ hx; omega
  have C1 : Hid (∀ V, Below w.heap.size w V → w.heap.size < V.heap.size → Calls Try.prog 17 #[.pointer (some ⟨g, 0, none⟩), .int .i64 n, .int .i64 v] V fun e w' => e = .returned (.bool (isT ss n)) ∧ SlV w' g (setS ss n v) X ∧ Ex X V w' ∧ RqV w' q ss Y Z ∧ (∀ i x, V.cell? ⟨w.heap.size, i, none⟩ = some x → w'.cell? ⟨w.heap.size, i, none⟩ = some x) ∧ (V.cell? ⟨w.heap.size + 1, 0, none⟩ = some (.int .i64 v) → w'.cell? ⟨w.heap.size + 1, 0, none⟩ = some (.int .i64 v)) ∧ w.heap.size < w'.heap.size)   := fun V hV hlt => by
    have hBo := h.keep hV
    have hCK := fun (w' : World) (ex : Ex X V w') => hBo.rq.keep ex hBo.xy
    refine (set_sl hBo.sl n v).mono ?_
    rintro e w' ⟨rfl, h1, h2⟩
    refine ⟨rfl, h1, h2, hCK w' h2, fun i x hx => hBo.ncell hx hA h2, fun hx => hBo.ncell hx hA1 h2, Nat.lt_of_lt_of_le hlt h2.size⟩
  have C2 : Hid (∀ V b, RqV V q ss Y Z → V.cell? ⟨b, 0, none⟩ = some (.int .i64 v) → ¬ Y b → Calls Try.prog 22 #[.pointer (some ⟨q, 0, none⟩), .int .i64 n, .slice (some ⟨b, 0, none⟩) 1 1] V fun e w' => e = .returned (.bool (isT ss n)) ∧ RqV w' q (setS ss n v) Y (fun k => Z k ∨ k = b) ∧ Ex Y V w') := fun V b h1 h2 h3 => rset_sl h1 n h2 h3
  have H := Lib.hid h
  clear h
  go_enter Try.func9, Try.ntmps9
  go_upto_region 9 with fail
  go_region_held3 (fun V => V.cell? ⟨w.heap.size, 1, none⟩ = some (.int .i64 n) ∧ V.cell? ⟨w.heap.size, 2, none⟩ = some (.int .i64 v))
    (first | with_reducible exact s0 | with_reducible exact sA | with_reducible exact s1 | exact s1A _ | with_reducible exact s2 | fail)
    (first | (go_at_call 17; refine (C1.out _ (by first | exact b0 | exact bA) (by first | exact l0 | exact lA)).mono ?_; rintro e w1 ⟨rfl, hs1, ex1, hr1, k1, k2, hl1⟩; have s1 : w1.cell? ⟨w.heap.size, 1, none⟩ = some (.int .i64 n) ∧ w1.cell? ⟨w.heap.size, 2, none⟩ = some (.int .i64 v) := ⟨k1 _ _ (by first | exact s0.1 | exact sA.1), k1 _ _ (by first | exact s0.2 | exact sA.2)⟩; have s1A : ∀ o, (w1.alloc o).cell? ⟨w.heap.size, 1, none⟩ = some (.int .i64 n) ∧ (w1.alloc o).cell? ⟨w.heap.size, 2, none⟩ = some (.int .i64 v) := fun o => ⟨(World.cell?_of_block (Below.heap_alloc _ _ _ hl1)).trans s1.1, (World.cell?_of_block (Below.heap_alloc _ _ _ hl1)).trans s1.2⟩; have hr1A : ∀ o, RqV (w1.alloc o) q ss Y Z := fun o => hr1.keep (X := fun _ => False) ((Ex.refl _ w1).alloc o) (fun _ h => h.elim); have cn : ∀ t, (w1.alloc (.cells #[.int .i64 v] t)).cell? ⟨w1.heap.size, 0, none⟩ = some (.int .i64 v) := fun t => (World.cell?_alloc_at _ _ _ _ rfl).trans rfl) | (go_at_call 22; refine (C2.out _ _ (by first | exact hr1 | exact hr1A _) (by first | exact k2 cA | exact cn _) (by first | exact HY1.out _ (Nat.le_succ _) | exact HY1.out _ (Nat.le_of_lt hl1))).mono ?_; rintro e w2 ⟨rfl, hr2, ex2⟩; have s2 : w2.cell? ⟨w.heap.size, 1, none⟩ = some (.int .i64 n) ∧ w2.cell? ⟨w.heap.size, 2, none⟩ = some (.int .i64 v) := ⟨(World.cell?_of_block (ex2.block _ (lt_of_cell (by first | exact s1.1 | exact (s1A _).1)) hAY)).trans (by first | exact s1.1 | exact (s1A _).1), (World.cell?_of_block (ex2.block _ (lt_of_cell (by first | exact s1.2 | exact (s1A _).2)) hAY)).trans (by first | exact s1.2 | exact (s1A _).2)⟩) | fail)
  all_goals
    have HD : Hid (Dd w w2 g q (setS ss n v) X Y Z) := by
      show Dd _ _ _ _ _ _ _ _
      first
        | exact dd_of (H.out.keep bA) bA hs1 (fun _ h => Or.inl h) ex1 (Below.refl _ w1) (fun k hk => by
            rcases hk with hk | hk
            · exact Or.inl hk
            · refine Or.inr ⟨by omega, fun hx => ?_⟩
              rcases hx with hx | hx
              · exact hA1 (by rw [← hk]; exact hx)
              · have e9 : (((w.alloc (.cells #[.int .i64 3, .int .i64 n, .int .i64 v] 38)).alloc (.cells #[.int .i64 v] 3)).drew).heap.size = w.heap.size + 2 := by show ((w.alloc _).alloc _).heap.size = _; simp
                omega) (fun _ h => Or.inl h) hr2 ex2
        | exact dd_of (H.out.keep b0) b0 hs1 (fun _ h => Or.inl h) ex1 ((Below.refl _ w1).alloc (Nat.le_refl _) _) (fun k hk => by
            rcases hk with hk | hk
            · exact Or.inl hk
            · refine Or.inr ⟨by omega, fun hx => ?_⟩
              rcases hx with hx | hx
              · have := hX _ hx
                omega
              · omega) (fun _ h => Or.inl h) hr2 ex2
    clear hs1 ex1 hr1 hr2 ex2 s0 sA s1 s2 s1A hr1A cn k1 k2 C1 C2 cA b0 bA
    go_wp2
    go_ret
    exact ⟨by first | rfl | simp, HD.out⟩
theorem dd_same {w V : World} {g q : Nat} {ss : List So} {X Y Z : Nat → Prop} (h : Bo w g q ss X Y Z) (hV : Below w.heap.size w V) : Dd w V g q ss X Y Z :=
  ⟨X, Y, Z, h.keep hV, fun _ h => Or.inl h, fun _ h => Or.inl h, fun _ h => Or.inl h, ex_of hV⟩
set_option maxRecDepth 100000 in
theorem does_get {w : World} {g q : Nat} {ss : List So} {X Y Z : Nat → Prop} (h : Bo w g q ss X Y Z) (n v : Int) :
    Calls Try.prog 9 #[.pointer (some ⟨g, 0, none⟩), .pointer (some ⟨q, 0, none⟩), .agg #[.int .i64 2, .int .i64 n, .int .i64 v]] w fun e w' => e = .returned (.bool true) ∧ Dd w w' g q ss X Y Z := by
  have b0 : Below w.heap.size w (w.alloc (.cells #[.int .i64 2, .int .i64 n, .int .i64 v] 38)) := (Below.refl _ w).alloc (Nat.le_refl _) _
  have h0 := h.keep b0
  have C1 := get_v h0.sl n
  obtain ⟨lv, tv, vs, hr, _⟩ := h0.rq
  have C2 := rget_sl hr n
  have HD := Lib.hid (dd_same h b0)
  clear h h0 b0 hr
  go_enter Try.func9, Try.ntmps9
  go_wp2_with fail
  refine C1.mono ?_
  rintro e w1 ⟨rfl, rfl⟩
  clear C1
  go_wp2_with fail
  refine C2.mono ?_
  rintro e w1 ⟨v1, rfl, rfl, hv⟩
  clear C2
  rcases hv with ⟨rfl, hg⟩ | ⟨b, rfl, hb⟩
  · have C3 := one_nil (w.alloc (.cells #[.int .i64 2, .int .i64 n, .int .i64 v] 38))
    rw [← hg] at C3
    clear hg
    go_wp2_with fail
    refine C3.mono ?_
    rintro e w1 ⟨rfl, rfl⟩
    clear C3
    go_wp2
    go_ret
    exact ⟨by first | rfl | simp, HD.out⟩
  · have C3 := one_yes hb
    clear hb
    go_wp2_with fail
    refine C3.mono ?_
    rintro e w1 ⟨rfl, rfl⟩
    clear C3
    go_wp2
    go_ret
    exact ⟨by first | rfl | simp, HD.out⟩
set_option maxRecDepth 100000 in
theorem does_none {w : World} {g q : Nat} {ss : List So} {X Y Z : Nat → Prop} (h : Bo w g q ss X Y Z) (k n v : Int) (h1 : k ≠ 1) (h2 : k ≠ 2) (h3 : k ≠ 3) (h4 : k ≠ 4) :
    Calls Try.prog 9 #[.pointer (some ⟨g, 0, none⟩), .pointer (some ⟨q, 0, none⟩), .agg #[.int .i64 k, .int .i64 n, .int .i64 v]] w fun e w' => e = .returned (.bool true) ∧ Dd w w' g q ss X Y Z := by
  have b0 : Below w.heap.size w (w.alloc (.cells #[.int .i64 k, .int .i64 n, .int .i64 v] 38)) := (Below.refl _ w).alloc (Nat.le_refl _) _
  have HD := Lib.hid (dd_same h b0)
  have t1 : (k == 1) = false := by simp [h1]
  have t2 : (k == 2) = false := by simp [h2]
  have t3 : (k == 3) = false := by simp [h3]
  have t4 : (k == 4) = false := by simp [h4]
  clear h b0
  go_enter Try.func9, Try.ntmps9
  go_wp2
  go_ret
  exact ⟨rfl, HD.out⟩
theorem does_any {w : World} {g q : Nat} {ss : List So} {X Y Z : Nat → Prop} (h : Bo w g q ss X Y Z) (hs : ss.length < 100000) (k n v : Int) :
    Calls Try.prog 9 #[.pointer (some ⟨g, 0, none⟩), .pointer (some ⟨q, 0, none⟩), .agg #[.int .i64 k, .int .i64 n, .int .i64 v]] w fun e w' => e = .returned (.bool true) ∧ Dd w w' g q (stepS ss k n v) X Y Z := by
  by_cases h1 : k = 1
  · rw [show stepS ss k n v = addS ss v by simp [stepS, h1], h1]
    exact does_add h hs n v
  · by_cases h3 : k = 3
    · rw [show stepS ss k n v = setS ss n v by simp [stepS, h3], h3]
      exact does_set h n v
    · by_cases h4 : k = 4
      · rw [show stepS ss k n v = freeS ss n by simp [stepS, h4], h4]
        exact does_free h n v
      · rw [show stepS ss k n v = ss by simp [stepS, h1, h3, h4]]
        by_cases h2 : k = 2
        · rw [h2]
          exact does_get h n v
        · exact does_none h k n v h1 h2 h3 h4
theorem stepS_len (ss : List So) (k n v : Int) : (stepS ss k n v).length ≤ ss.length + 1 := by
  unfold stepS
  split
  · unfold addS
    split <;> simp
  · split
    · unfold setS
      split <;> simp
    · split
      · unfold freeS
        split <;> simp
      · omega
end Go.Proofs.Ytmeljhnmpopkhaa
