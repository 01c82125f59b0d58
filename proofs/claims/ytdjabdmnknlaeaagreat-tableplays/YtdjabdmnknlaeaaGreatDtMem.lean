/-
  The table in memory; what its meter does; find.
-/
import Derived.Test.YtdjabdmnknlaeaaGreatEnMem
import Derived.Test.YtdjabdmnknlaeaaGreatTrSeq
import Derived.Test.YtdjabdmnknlaeaaGreatCeNew
import Derived.Scope
namespace Go.Proofs.YtdjabdmnknlaeaaGreat
open Go.RowKit Go.WideShapes
attribute [local go_sem] Oper.semAt_some

/-- What a table asks of its meter: M a b w: in w it has counted a index tables and b cells. -/
structure MtOk (mv : Value) (M : Int → Int → World → Prop) : Prop where
  tick : ∀ a b w, 0 ≤ a → a ≤ 1000000000 → M a b w → Calls Tryz.prog 65 #[mv] w fun e w' => e = .returned (.tuple #[]) ∧ M (a + 1) b w' ∧ Ex (mB mv) w w'
  same : ∀ a b w w', M a b w → (∀ k, mB mv k → w'.heap[k]? = w.heap[k]?) → M a b w'
  lt : ∀ a b w k, M a b w → mB mv k → k < w.heap.size
theorem MtOk.below {mv : Value} {M : Int → Int → World → Prop} (h : MtOk mv M) {a b : Int} {w w' : World} (x : M a b w) (hb : Below w.heap.size w w') : M a b w' := h.same a b w w' x fun k hk => hb.block k (h.lt a b w k x hk)
/-- Its cells in memory. -/
def dF (mv : Value) (gi : Nat) (ev : Value) (t : Tb) : Nat → Value
  | 0 => mv
  | 1 => .pointer (some ⟨gi, 0, none⟩)
  | 2 => ev
  | 3 => .int .i64 (t.live : Int)
  | 4 => .int .i64 (t.births : Int)
  | 5 => .int .i64 (t.made : Int)
  | _ => .int .i64 (t.turn : Int)
structure Dt (w : World) (g gi r h : Nat) (ev : Value) (t : Tb) (mv : Value) : Prop where
  hd : Blk w g 7 (dF mv gi ev t)
  es : Es w ev t.es
  cl : Cl w gi r h t.L (2 ^ t.L) t.c
  ap : ∀ k, ev.ownBlock = some k → k ≠ g ∧ k ≠ gi ∧ k ≠ r ∧ k ≠ h
  ne : g ≠ gi ∧ g ≠ r ∧ g ≠ h
  mp : ∀ k, mB mv k → k ≠ g ∧ k ≠ gi ∧ k ≠ r ∧ k ≠ h ∧ ev.ownBlock ≠ some k
/-- The blocks of a table. -/
def dX (g gi r h : Nat) (ev : Value) (k : Nat) : Prop := k = g ∨ k = gi ∨ k = r ∨ k = h ∨ ev.ownBlock = some k
theorem Dt.same {w w' : World} {g gi r h : Nat} {ev : Value} {t : Tb} {mv : Value} (x : Dt w g gi r h ev t mv) (e : ∀ k, dX g gi r h ev k → w'.heap[k]? = w.heap[k]?) : Dt w' g gi r h ev t mv :=
  ⟨x.hd.same (e g (.inl rfl)), x.es.same fun k hk => e k (.inr (.inr (.inr (.inr hk)))), x.cl.same (e gi (.inr (.inl rfl))) (e r (.inr (.inr (.inl rfl)))) (e h (.inr (.inr (.inr (.inl rfl))))), x.ap, x.ne, x.mp⟩
theorem Dt.lt {w : World} {g gi r h : Nat} {ev : Value} {t : Tb} {mv : Value} (x : Dt w g gi r h ev t mv) : ∀ k, dX g gi r h ev k → k < w.heap.size := by
  obtain ⟨h1, h2, h3⟩ := x.cl.lt
  rintro k (rfl | rfl | rfl | rfl | hk)
  · exact x.hd.lt (by omega)
  · exact h1
  · exact h2
  · exact h3
  · exact x.es.lt k hk
theorem Dt.below {w w' : World} {g gi r h : Nat} {ev : Value} {t : Tb} {mv : Value} (x : Dt w g gi r h ev t mv) (hb : Below w.heap.size w w') : Dt w' g gi r h ev t mv := x.same fun k hk => hb.block k (x.lt k hk)
/-- The place of the first cell of a trail that holds s. -/
def IsS (c : Nat → Int) (s : Int) (u L i : Nat) : Prop := c (trl u L i) = s ∧ ∀ j, j < i → c (trl u L j) ≠ s

theorem cell_alloc_new (w : World) (a : Value) (t : TypeId) (n : Nat) (hn : n = w.heap.size) : (w.alloc (.cells #[a] t)).cell? ⟨n, 0, none⟩ = some a := by subst hn; rw [World.cell?_alloc_at _ _ _ _ rfl]; rfl
theorem cell_alloc_old (w : World) (o : Obj) (n j : Nat) (hn : n < w.heap.size) : (w.alloc o).cell? ⟨n, j, none⟩ = w.cell? ⟨n, j, none⟩ := World.cell?_of_block (a := ⟨n, j, none⟩) (Below.heap_alloc _ _ _ hn)
theorem box3 (w : World) (a b c : Value) (ta tb tc : TypeId) {w1 : World} (h : ((w.alloc (.cells #[a] ta)).alloc (.cells #[b] tb)).alloc (.cells #[c] tc) = w1) :
    w1.cell? ⟨w.heap.size, 0, none⟩ = some a ∧ w1.cell? ⟨w.heap.size + 1, 0, none⟩ = some b ∧ w1.cell? ⟨w.heap.size + 1 + 1, 0, none⟩ = some c ∧ w1.frozen? ⟨w.heap.size + 1 + 1, 0, none⟩ = false ∧ w1.heap.size = w.heap.size + 3 := by
  subst h
  refine ⟨?_, ?_, cell_alloc_new _ _ _ _ (by simp), World.frozen?_alloc_at _ _ _ _ (by simp), by simp⟩
  · rw [cell_alloc_old _ _ _ _ (by simp; omega), cell_alloc_old _ _ _ _ (by simp)]
    exact cell_alloc_new _ _ _ _ rfl
  · rw [cell_alloc_old _ _ _ _ (by simp)]
    exact cell_alloc_new _ _ _ _ (by simp)

set_option maxRecDepth 100000 in
set_option maxHeartbeats 4000000 in
theorem find_any {w : World} {g gi r h L : Nat} {c : Nat → Int} (k1 : w.cell? ⟨g, 1, none⟩ = some (.pointer (some ⟨gi, 0, none⟩))) (hC : Cl w gi r h L (2 ^ L) c) (u s : Int) {i : Nat} (hF : IsS c s (uw u) L i) (hi : i < 2 ^ L + 13) :
    Calls Tryz.prog 46 #[.pointer (some ⟨g, 0, none⟩), .int .i64 u, .int .i64 s] w fun e w' => e = .returned (.int .i64 ((trl (uw u) L i : Nat) : Int)) ∧ Below w.heap.size w w' := by
  have hS : Tr.Sz L (2 ^ L) := ⟨rfl, hC.sz.le⟩
  obtain ⟨w1, hw1⟩ : ∃ x, ((w.alloc (.cells #[.pointer (some ⟨g, 0, none⟩)] 28)).alloc (.cells #[.int .i64 s] 3)).alloc (.cells #[.int .i64 0] 3) = x := ⟨_, rfl⟩
  refine callsIn_wide.1 (callsIn_of_wp_marks (n := 0) Tryz.func46 rfl trivial ?_ rfl)
  simp only [Tryz.ntmps46, List.size_toArray, List.length_cons, List.length_nil, Nat.reduceAdd, Nat.reduceSub, Array.replicate_succ, Array.replicate_zero, List.push_toArray, List.append_toArray, List.nil_append, List.cons_append]
  have hlg := lt_of_cell k1
  have hB1 : Below w.heap.size w w1 := by rw [← hw1]; exact (((Below.refl _ w).alloc (Nat.le_refl _) _).alloc (by simp) _).alloc (by simp; omega) _
  have k1' := (hB1.cell (p := ⟨g, 1, none⟩) hlg).trans k1
  have hC1 := hC.below hB1
  have CL := log_any hC1
  have CA := Tr.all_new u (L : Int) w1
  obtain ⟨b0, b1, b2, z2, hs1⟩ := box3 _ _ _ _ _ _ _ hw1
  have HW1 := Lib.hid hw1
  clear hw1
  gi_wp2_with fail
  refine (wpIn_wide (n := 0)).2 (wp_scope_straight ((wpIn_wide (n := 0)).1 ?_))
  gi_wp2_with fail
  refine wpIn_label ?_
  rw [HW1.out]
  gi_wp2_with fail
  refine ⟨trivial, rfl, (callsIn_wide.2 CL).mono ?_⟩
  rintro e w2 ⟨rfl, rfl⟩
  clear CL
  gi_wp2_with fail
  refine ⟨trivial, rfl, (callsIn_wide.2 CA).mono ?_⟩
  rintro e w3 ⟨rfl, hw3⟩
  clear CA
  have HW3 := Lib.hid hw3
  have hB3 : Below w2.heap.size w2 w3 := by rw [hw3]; exact ((Below.refl _ w2).alloc (Nat.le_refl _) _).alloc (by simp) _
  have hbl : w3.cell? ⟨w.heap.size + 3 + 1, 0, none⟩ = some (.int .i64 (L : Int)) := by rw [hw3]; exact cell_alloc_new _ _ _ _ (by simp [hs1])
  have hbh : w3.cell? ⟨w.heap.size + 3, 0, none⟩ = some (.int .i64 u) := by rw [hw3, cell_alloc_old _ _ _ _ (by simp [hs1])]; exact cell_alloc_new _ _ _ _ (by rw [hs1])
  have hs3 : w3.heap.size = w.heap.size + 5 := by rw [hw3]; simp [hs1]
  clear hw3
  have hB03 : Below w.heap.size w w3 := hB1.trans (hB3.mono hB1.size)
  have c0 := (hB3.cell (p := ⟨w.heap.size, 0, none⟩) (by show w.heap.size < _; omega)).trans b0
  have c1 := (hB3.cell (p := ⟨w.heap.size + 1, 0, none⟩) (by show w.heap.size + 1 < _; omega)).trans b1
  have c2 := (hB3.cell (p := ⟨w.heap.size + 1 + 1, 0, none⟩) (by show w.heap.size + 1 + 1 < _; omega)).trans b2
  have y2 := (World.frozen?_of_block (a := ⟨w.heap.size + 1 + 1, 0, none⟩) (hB3.block _ (by show w.heap.size + 1 + 1 < _; omega))).trans z2
  gi_wp2_with fail
  refine wpIn_range_ix (gf := 77) (lb := #[.pointer (some ⟨w.heap.size + 3 + 1, 0, none⟩), .pointer (some ⟨w.heap.size + 3, 0, none⟩)]) rfl Tryz.call77
    (Tr.seqix_any hS u (w.heap.size + 3 + 1) (w.heap.size + 3) w3 (by omega) (by omega) hbl hbh) (fun _ => rfl)
    (fun k W => Below w.heap.size w W ∧ W.cell? ⟨w.heap.size, 0, none⟩ = some (.pointer (some ⟨g, 0, none⟩)) ∧ W.cell? ⟨w.heap.size + 1, 0, none⟩ = some (.int .i64 s) ∧ W.cell? ⟨w.heap.size + 1 + 1, 0, none⟩ = some (.int .i64 0) ∧ W.frozen? ⟨w.heap.size + 1 + 1, 0, none⟩ = false ∧ ∀ j, j < k → c (trl (uw u) L j) ≠ s)
    (fun d k W => d = Code.exit 0 ∧ Below w.heap.size w W ∧ k = i ∧ W.cell? ⟨w.heap.size + 1 + 1, 0, none⟩ = some (.int .i64 ((trl (uw u) L k : Nat) : Int)))
    ?hI ?hIx ⟨hB03, c0, c1, c2, y2, fun j hj => absurd hj (Nat.not_lt_zero _)⟩
    (fun k => { tmps := #[.pointer (some ⟨g, 0, none⟩), .int .i64 u, .int .i64 s, .pointer (some ⟨w.heap.size, 0, none⟩), undef, .pointer (some ⟨w.heap.size + 1, 0, none⟩), .int .i64 0, .pointer (some ⟨w.heap.size + 1 + 1, 0, none⟩), .int .i64 ((trl (uw u) L k : Nat) : Int), undef, undef, .int .i64 u, .pointer (some ⟨g, 0, none⟩), .pointer (some ⟨g, 0, none⟩), .pointer (some ⟨g, 1, none⟩), .pointer (some ⟨gi, 0, none⟩), .int .i64 (L : Int), .func (.func 77) #[] #[.pointer (some ⟨w.heap.size + 3 + 1, 0, none⟩), .pointer (some ⟨w.heap.size + 3, 0, none⟩)], .int .i64 ((trl (uw u) L k : Nat) : Int), undef, undef, undef, undef, undef, undef, undef, undef, undef, undef, undef, undef, undef, undef], defers := [] }) ?assign ?body ?done ?stop
  case hI =>
    rintro k A A' ⟨x1, x2, x3, x4, x5, x6⟩ hb
    exact ⟨x1.trans (hb.mono (by omega)), (hb.cell (p := ⟨w.heap.size, 0, none⟩) (by show w.heap.size < _; omega)).trans x2, (hb.cell (p := ⟨w.heap.size + 1, 0, none⟩) (by show w.heap.size + 1 < _; omega)).trans x3, (hb.cell (p := ⟨w.heap.size + 1 + 1, 0, none⟩) (by show w.heap.size + 1 + 1 < _; omega)).trans x4, (World.frozen?_of_block (a := ⟨w.heap.size + 1 + 1, 0, none⟩) (hb.block _ (by show w.heap.size + 1 + 1 < _; omega))).trans x5, x6⟩
  case hIx =>
    rintro d k A A' ⟨x1, x2, x3, x4⟩ hb
    exact ⟨x1, x2.trans (hb.mono (by omega)), x3, (hb.cell (p := ⟨w.heap.size + 1 + 1, 0, none⟩) (by show w.heap.size + 1 + 1 < _; omega)).trans x4⟩
  case assign =>
    intro l k W K hK
    gi_wp2
    exact hK
  case body =>
    rintro l k W hk ⟨x1, x2, x3, x4, x5, x6⟩
    have HX := Lib.hid x6
    clear x6
    have kk := (x1.cell (p := ⟨g, 1, none⟩) hlg).trans k1
    have CG := getM_yes (hC.below x1) (trl (uw u) L k) (trl_lt _ _ _)
    by_cases he : c (trl (uw u) L k) = s
    · obtain rfl : k = i := by
        rcases Nat.lt_trichotomy k i with z | z | z
        · exact absurd he (hF.2 k z)
        · exact z
        · exact absurd hF.1 (HX.out i z)
      rw [he] at CG
      gi_wp2_with fail
      refine ⟨trivial, rfl, (CallsIn.inRound l (callsIn_wide.2 CG)).mono ?_⟩
      rintro e W2 ⟨rfl, rfl⟩
      clear CG
      gi_wp2_with fail
      exact ⟨(Since.refl _ _).setCell (p := ⟨w.heap.size + 1 + 1, 0, none⟩) (by show w.heap.size + 1 + 1 < _; omega) _, hi, rfl, x1.setCell (p := ⟨w.heap.size + 1 + 1, 0, none⟩) (by show w.heap.size ≤ w.heap.size + 1 + 1; omega) _, rfl, World.cell?_setCell_same' _ _ _ (by rw [x4]; rfl)⟩
    · have t1 : (c (trl (uw u) L k) == s) = false := by simp [he]
      have t2 : (c (trl (uw u) L k) = s) = False := by simp [he]
      gi_wp2_with fail
      refine ⟨trivial, rfl, (CallsIn.inRound l (callsIn_wide.2 CG)).mono ?_⟩
      rintro e W2 ⟨rfl, rfl⟩
      clear CG
      gi_wp2_with fail
      exact ⟨Since.refl _ _, x1, x2, x3, x4, x5, fun j hj => by
        rcases Nat.lt_or_ge j k with z | z
        · exact HX.out j z
        · rw [show j = k by omega]; exact he⟩
  case done =>
    rintro W ⟨x1, x2, x3, x4, x5, x6⟩ hK
    exact absurd hF.1 (x6 i hi)
  case stop =>
    rintro d k W hk ⟨rfl, x1, rfl, x2⟩ hK
    gi_wp2_with fail
    simp only [Exit.noGoto]
    gi_wp2
    refine ⟨by simp, .inl ⟨_, _, rfl, run_takeDeferred hK, ?_⟩⟩
    exact ⟨_, results_tmp rfl _ _ _, rfl, x1.trans (below_put (by omega))⟩
end Go.Proofs.YtdjabdmnknlaeaaGreat
