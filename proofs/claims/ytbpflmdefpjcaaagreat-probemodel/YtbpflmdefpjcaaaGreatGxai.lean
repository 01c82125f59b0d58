/-
  The reference's Add.
  The reference's Put, Kill, At, Clear.
  The reference's All and Numbers; two lists of entries that are the same.
  The reference's All and Numbers, of any row of entries; the live entries' numbers.
  The program's dictionary: First, Last, Clear, Copy, New refused.
-/
import Derived.Test.YtbpflmdefpjcaaaGreatGxah
import Derived.Test.YtbpflmdefpjcaaaGreatGxab
import Derived.Deep.RegionHeld3
import Derived.Test.YtbpflmdefpjcaaaGreatGxaf
namespace Go.Proofs.YtbpflmdefpjcaaaGreat
open Go.RowKit Go.WideShapes

/-- What a call on a table may turn. -/
def tX (g : Nat) (ev : Value) (q : Nat) (mv : Value) (k : Nat) : Prop := k = g ∨ k = q ∨ ev.ownBlock = some k ∨ mB mv k
/-- Where Add stands when there is room: the table t1, out of which push makes what add makes of t. -/
structure Ta (w : World) (g : Nat) (ev : Value) (q : Nat) (t : Tb) (mv : Value) (a b c d u k v : Int) (w1 : World) (ev1 : Value) (q1 : Nat) (t1 : Tb) : Prop where
  rt : Rt w1 g ev1 q1 t1 mv
  ok : t1.Ok
  room : t1.es.length < rm (2 ^ t1.L)
  eq : t.add u k v = t1.push u k v
  ms : Ms w1 mv (a + (t1.made - t.made : Nat)) b c d
  bi : t1.births = t.births
  tu : t1.turn = t.turn
  qf : q1 = q ∨ w.heap.size ≤ q1
  ef : ∀ j, ev1.ownBlock = some j → ev.ownBlock = some j ∨ w.heap.size ≤ j
  ex : Ex (tX g ev q mv) w w1
/-- The head of the table behind Add's four stores. -/
def addW (w5 : World) (g : Nat) (ev2 : Value) (t1 : Tb) : World := (((w5.setCell ⟨g, 0, none⟩ ev2).setCell ⟨g, 4, none⟩ (.int .i64 ((t1.births : Int) + 1))).setCell ⟨g, 3, none⟩ (.int .i64 ((t1.live : Int) + 1))).setCell ⟨g, 6, none⟩ (.int .i64 ((t1.turn : Int) + 1))
theorem addW_other (w5 : World) (g : Nat) (ev2 : Value) (t1 : Tb) (j : Nat) (hj : j ≠ g) : (addW w5 g ev2 t1).heap[j]? = w5.heap[j]? := by
  unfold addW
  rw [Below.heap_setCell _ _ _ _ hj, Below.heap_setCell _ _ _ _ hj, Below.heap_setCell _ _ _ _ hj, Below.heap_setCell _ _ _ _ hj]
theorem add_fin {w : World} {g : Nat} {ev : Value} {q : Nat} {t : Tb} {mv : Value} {a b c d u k v : Int} {w1 : World} {ev1 : Value} {q1 : Nat} {t1 : Tb} (hT : Ta w g ev q t mv a b c d u k v w1 ev1 q1 t1) {o : Obj} {w5 : World} {ev2 : Value}
    (hown : w5.ownsRow 0 69 5 ev2 (t1.es.length + 1) (enl t1.es ++ enc5 ⟨true, u, k, v, (t1.births : Int)⟩)) (hgrow : (w1.drew.alloc o).grownBy w5 ev1.ownBlock) (hat : ev2.ownBlock = ev1.ownBlock ∨ ev2.ownBlock = some (w1.drew.alloc o).heap.size) :
    Blk w5 g 8 (tF ev1 q1 t1 mv) ∧ ∃ i, IsF t1.c (uw u) t1.L i ∧ i < 2 ^ t1.L + 13 ∧ Rf (addW w5 g ev2 t1) q1 (2 ^ t1.L) t1.c ∧
      (addW w5 g ev2 t1).cell? ⟨g, 1, none⟩ = some (.int .i64 (t1.L : Int)) ∧ (addW w5 g ev2 t1).cell? ⟨g, 2, none⟩ = some (.slice (some ⟨q1, 0, none⟩) (2 ^ t1.L) (2 ^ t1.L)) ∧
      Rt ((addW w5 g ev2 t1).setCell ⟨q1, trl (uw u) t1.L i, none⟩ (.int .i64 (t1.es.length : Int))) g ev2 q1 (t1.push u k v) mv ∧
      Ms ((addW w5 g ev2 t1).setCell ⟨q1, trl (uw u) t1.L i, none⟩ (.int .i64 (t1.es.length : Int))) mv (a + (t1.made - t.made : Nat)) b c d ∧
      Ex (tX g ev q mv) w ((addW w5 g ev2 t1).setCell ⟨q1, trl (uw u) t1.L i, none⟩ (.int .i64 (t1.es.length : Int))) ∧ (∀ j, ev2.ownBlock = some j → ev.ownBlock = some j ∨ w.heap.size ≤ j) := by
  have hR := hT.rt
  have hgq := hR.gq
  have lg := hR.hd.lt (by omega)
  have lq := hR.rf.lt (pow2_pos _)
  have hblk : ∀ j, j < w1.heap.size → ev1.ownBlock ≠ some j → w5.heap[j]? = w1.heap[j]? := fun j hj hne => (hgrow.block j (by simp; exact Nat.lt_succ_of_lt hj) (fun e => hne e.symm)).trans (Below.heap_alloc _ _ _ hj)
  have hB5 : Blk w5 g 8 (tF ev1 q1 t1 mv) := hR.hd.same (hblk g lg (fun e => (hR.ap g e).1 rfl))
  have hR5 : Rf w5 q1 (2 ^ t1.L) t1.c := hR.rf.same (hblk q1 lq (fun e => (hR.ap q1 e).2 rfl))
  have hsz : w1.heap.size ≤ w5.heap.size := by have := hgrow.size; simp at this; exact Nat.le_of_succ_le this
  have hB7 : Blk (addW w5 g ev2 t1) g 8 (tF ev2 q1 (t1.push u k v) mv) := ((((hB5.put 0 ev2).put 4 (.int .i64 ((t1.births : Int) + 1))).put 3 (.int .i64 ((t1.live : Int) + 1))).put 6 (.int .i64 ((t1.turn : Int) + 1))).congr (fun j hj => by
    have : j = 0 ∨ j = 1 ∨ j = 2 ∨ j = 3 ∨ j = 4 ∨ j = 5 ∨ j = 6 ∨ j = 7 := by omega
    rcases this with rfl | rfl | rfl | rfl | rfl | rfl | rfl | rfl
    · rfl
    · rfl
    · rfl
    · show Value.int .i64 (((t1.push u k v).live : Nat) : Int) = Value.int .i64 ((t1.live : Int) + 1)
      rw [Tb.live_push, Int.natCast_add]
      rfl
    · show Value.int .i64 (((t1.births + 1 : Nat)) : Int) = Value.int .i64 ((t1.births : Int) + 1)
      rw [Int.natCast_add]
      rfl
    · rfl
    · show Value.int .i64 (((t1.turn + 1 : Nat)) : Int) = Value.int .i64 ((t1.turn : Int) + 1)
      rw [Int.natCast_add]
      rfl
    · rfl)
  have hap2 : ∀ j, ev2.ownBlock = some j → (ev1.ownBlock = some j ∨ w1.heap.size ≤ j) := by
    intro j hj
    rcases hat with e | e
    · exact .inl (e ▸ hj)
    · rw [e] at hj
      cases hj
      exact .inr (by simp)
  have hngq : ∀ j, ev2.ownBlock = some j → j ≠ g ∧ j ≠ q1 := by
    intro j hj
    rcases hap2 j hj with e | e
    · exact hR.ap j e
    · exact ⟨by omega, by omega⟩
  have hR7 : Rf (addW w5 g ev2 t1) q1 (2 ^ t1.L) t1.c := hR5.same (addW_other _ _ _ _ _ (fun e => hgq e.symm))
  have hE5 : Es w5 ev2 (t1.es ++ [⟨true, u, k, v, (t1.births : Int)⟩]) := (EsB.snoc hown).es
  obtain ⟨i, hil, hif⟩ := hT.ok.inv.first u
  have hm1 := hT.ms.lt
  have h8 : ∀ j, j ≠ q1 → ((addW w5 g ev2 t1).setCell ⟨q1, trl (uw u) t1.L i, none⟩ (.int .i64 (t1.es.length : Int))).heap[j]? = (addW w5 g ev2 t1).heap[j]? := fun j hj => Below.heap_setCell _ _ _ _ hj
  refine ⟨hB5, i, hif, hil, hR7, hB7.c 1 (by omega), hB7.c 2 (by omega), ?_, ?_, ?_, ?_⟩
  · refine ⟨hB7.same (h8 g hgq), hE5.same fun j hj => ?_, ?_, hngq, hR.sz, fun j hj => ⟨(hR.mp j hj).1, (hR.mp j hj).2.1, fun e => ?_⟩⟩
    · obtain ⟨x1, x2⟩ := hngq j hj
      rw [h8 j x2, addW_other _ _ _ _ _ x1]
    · show Rf _ q1 (2 ^ t1.L) (layc t1.c t1.L u t1.es.length)
      rw [layc, fidx_eq hif]
      exact hR7.put _ (trl_lt _ _ _) _
    · rcases hap2 j e with x | x
      · exact (hR.mp j hj).2.2 x
      · have := hm1 j hj; omega
  · refine hT.ms.same fun j hj => ?_
    obtain ⟨x1, x2, x3⟩ := hR.mp j hj
    rw [h8 j x2, addW_other _ _ _ _ _ x1, hblk j (hm1 j hj) x3]
  · have x1 : Ex (tX g ev q mv) w w5 := ⟨hgrow.os.trans hT.ex.os, hgrow.tape.trans hT.ex.tape, hgrow.output.trans hT.ex.output, Nat.le_trans hT.ex.size hsz, fun j hj hx => (hblk j (Nat.lt_of_lt_of_le hj hT.ex.size) (fun e => by
      rcases hT.ef j e with y | y
      · exact hx (.inr (.inr (.inl y)))
      · omega)).trans (hT.ex.block j hj hx)⟩
    unfold addW
    refine ((((x1.setCell (p := ⟨g, 0, none⟩) (fun _ => .inl rfl) _).setCell (p := ⟨g, 4, none⟩) (fun _ => .inl rfl) _).setCell (p := ⟨g, 3, none⟩) (fun _ => .inl rfl) _).setCell (p := ⟨g, 6, none⟩) (fun _ => .inl rfl) _).setCell (p := ⟨q1, trl (uw u) t1.L i, none⟩) (fun hq => ?_) _
    rcases hT.qf with e | e
    · exact .inr (.inl e)
    · exact absurd hq (Nat.not_lt.2 e)
  · intro j hj
    rcases hap2 j hj with e | e
    · exact hT.ef j e
    · exact .inr (Nat.le_trans hT.ex.size e)
end Go.Proofs.YtbpflmdefpjcaaaGreat
namespace Go.Proofs.YtbpflmdefpjcaaaGreat
open Go.RowKit Go.WideShapes

/-- Whether a call on that entry goes. -/
theorem has_cases (t : Tb) (n : Int) : (∃ m : Nat, n = (m : Int) ∧ m < t.es.length ∧ (nth t.es m).live = true) ∨ (¬ t.has n) := by
  by_cases h : t.has n
  · exact .inl ⟨n.toNat, by have := h.1; omega, by have := h.1; have := h.2.1; omega, h.2.2⟩
  · exact .inr h
/-- An entry as one value. -/
def enV (e : En) : Value := .agg #[.bool e.live, .int .i64 e.hash, .int .i64 e.key, .int .i64 e.value, .int .i64 e.birth]
theorem mix_skip (k : Nat) (l f : Nat → Int) (h : l k = f k) : mix (k + 1) l f = mix k l f := by
  funext x
  unfold mix
  by_cases e : x = k
  · subst e
    rw [if_pos (by omega), if_neg (by omega), h]
  · by_cases h2 : x < k
    · rw [if_pos h2, if_pos (by omega)]
    · rw [if_neg h2, if_neg (by omega)]
/-- The five stores and the two counts of Kill. -/
def killW (w : World) (g ge n : Nat) (t : Tb) : World :=
  ((((((w.setCell ⟨ge, n * 5, none⟩ (.bool false)).setCell ⟨ge, n * 5 + 1, none⟩ (.int .i64 0)).setCell ⟨ge, n * 5 + 2, none⟩ (.int .i64 0)).setCell ⟨ge, n * 5 + 3, none⟩ (.int .i64 0)).setCell ⟨ge, n * 5 + 4, none⟩ (.int .i64 0)).setCell ⟨g, 3, none⟩ (.int .i64 ((t.live : Int) - 1))).setCell ⟨g, 6, none⟩ (.int .i64 ((t.turn : Int) + 1))
theorem kill_fin {w : World} {g : Nat} {q : Nat} {t : Tb} {mv : Value} {ge cape n : Nat} (hR : Rt w g (.slice (some ⟨ge, 0, none⟩) t.es.length cape) q { t with c := killc t.c n } mv) (hn : n < t.es.length) (hl : (nth t.es n).live = true) :
    Rt (killW w g ge n t) g (.slice (some ⟨ge, 0, none⟩) t.es.length cape) q (t.killz n) mv ∧ Ex (fun k => k = g ∨ k = ge) w (killW w g ge n t) := by
  obtain ⟨hng, hnq⟩ := hR.ap ge rfl
  have hgq := hR.gq
  have hlv := Tb.live_killz n hl
  have hlp := Tb.live_pos n hl
  constructor
  · have e0 : Es (w.setCell ⟨ge, n * 5 + 0, none⟩ (.bool false)) (.slice (some ⟨ge, 0, none⟩) t.es.length cape) (t.es.set n ⟨false, (nth t.es n).hash, (nth t.es n).key, (nth t.es n).value, (nth t.es n).birth⟩) := Es.put rfl hR.es n 0 hn (by decide) (.bool false) _ rfl rfl
    have sh : ∀ (es : List En) (e : En), n < es.length → nth (es.set n e) n = e := fun es e h => by rw [nth_set h, if_pos rfl]
    have e1 := Es.put (by simp) e0 n 1 (by simpa using hn) (by decide) (.int .i64 0) ⟨false, 0, (nth t.es n).key, (nth t.es n).value, (nth t.es n).birth⟩ (by rw [sh _ _ hn]; rfl) rfl
    rw [List.set_set] at e1
    have e2 := Es.put (by simp) e1 n 2 (by simpa using hn) (by decide) (.int .i64 0) ⟨false, 0, 0, (nth t.es n).value, (nth t.es n).birth⟩ (by rw [sh _ _ hn]; rfl) rfl
    rw [List.set_set] at e2
    have e3 := Es.put (by simp) e2 n 3 (by simpa using hn) (by decide) (.int .i64 0) ⟨false, 0, 0, 0, (nth t.es n).birth⟩ (by rw [sh _ _ hn]; rfl) rfl
    rw [List.set_set] at e3
    have e4 := Es.put (by simp) e3 n 4 (by simpa using hn) (by decide) (.int .i64 0) En.zero (by rw [sh _ _ hn]; rfl) rfl
    rw [List.set_set, Nat.add_zero] at e4
    have h5 : ∀ j, j ≠ ge → (((((w.setCell ⟨ge, n * 5, none⟩ (.bool false)).setCell ⟨ge, n * 5 + 1, none⟩ (.int .i64 0)).setCell ⟨ge, n * 5 + 2, none⟩ (.int .i64 0)).setCell ⟨ge, n * 5 + 3, none⟩ (.int .i64 0)).setCell ⟨ge, n * 5 + 4, none⟩ (.int .i64 0)).heap[j]? = w.heap[j]? := fun j hj => by
      rw [Below.heap_setCell _ _ _ _ hj, Below.heap_setCell _ _ _ _ hj, Below.heap_setCell _ _ _ _ hj, Below.heap_setCell _ _ _ _ hj, Below.heap_setCell _ _ _ _ hj]
    have hB5 := hR.hd.same (h5 g (fun e => hng e.symm))
    have hR5 := hR.rf.same (h5 q (fun e => hnq e.symm))
    unfold killW
    generalize World.setCell (World.setCell (World.setCell (World.setCell (World.setCell w _ _) _ _) _ _) _ _) _ _ = w5 at *
    have h7 : ∀ j, j ≠ g → ((w5.setCell ⟨g, 3, none⟩ (.int .i64 ((t.live : Int) - 1))).setCell ⟨g, 6, none⟩ (.int .i64 ((t.turn : Int) + 1))).heap[j]? = w5.heap[j]? := fun j hj => by
      rw [Below.heap_setCell _ _ _ _ hj, Below.heap_setCell _ _ _ _ hj]
    refine ⟨((hB5.put 3 (.int .i64 ((t.live : Int) - 1))).put 6 (.int .i64 ((t.turn : Int) + 1))).congr (fun j hj => ?_), e4.same (fun j hj => h7 j (by cases hj; exact hng)), hR5.same (h7 q (fun e => hgq e.symm)), hR.ap, hR.sz, hR.mp⟩
    have : j = 0 ∨ j = 1 ∨ j = 2 ∨ j = 3 ∨ j = 4 ∨ j = 5 ∨ j = 6 ∨ j = 7 := by omega
    rcases this with rfl | rfl | rfl | rfl | rfl | rfl | rfl | rfl
    · rfl
    · rfl
    · rfl
    · show Value.int .i64 (((t.killz n).live : Nat) : Int) = Value.int .i64 ((t.live : Int) - 1)
      rw [hlv, Int.natCast_sub hlp]
      rfl
    · rfl
    · rfl
    · show Value.int .i64 (((t.turn + 1 : Nat)) : Int) = Value.int .i64 ((t.turn : Int) + 1)
      rw [Int.natCast_add]
      rfl
    · rfl
  · unfold killW
    exact (((((((Ex.refl (fun k => k = g ∨ k = ge) w).setCell (p := ⟨ge, n * 5, none⟩) (fun _ => .inr rfl) _).setCell (p := ⟨ge, n * 5 + 1, none⟩) (fun _ => .inr rfl) _).setCell (p := ⟨ge, n * 5 + 2, none⟩) (fun _ => .inr rfl) _).setCell (p := ⟨ge, n * 5 + 3, none⟩) (fun _ => .inr rfl) _).setCell (p := ⟨ge, n * 5 + 4, none⟩) (fun _ => .inr rfl) _).setCell (p := ⟨g, 3, none⟩) (fun _ => .inl rfl) _).setCell (p := ⟨g, 6, none⟩) (fun _ => .inl rfl) _
end Go.Proofs.YtbpflmdefpjcaaaGreat
namespace Go.Proofs.YtbpflmdefpjcaaaGreat
open Go.RowKit Go.WideShapes

end Go.Proofs.YtbpflmdefpjcaaaGreat
namespace Go.Proofs.YtbpflmdefpjcaaaGreat
open Go.RowKit Go.WideShapes

/-- The numbers of the live ones of the first i entries. -/
def lvn (es : List En) : Nat → List Int
  | 0 => []
  | i + 1 => lvn es i ++ if (nth es i).live = true then [(i : Int)] else []
theorem lvn_len (es : List En) : ∀ i, i ≤ es.length → (lvn es i).length = (liveL (es.take i)).length
  | 0, _ => by simp [lvn, liveL]
  | i + 1, h => by
    rw [lvn, List.length_append, lvn_len es i (by omega), liveL_take h]
    by_cases hl : (nth es i).live = true
    · simp [hl]
    · simp [hl]
theorem lvn_all (es : List En) : (lvn es es.length).length = (liveL es).length := by
  rw [lvn_len es _ (Nat.le_refl _), List.take_length]
theorem lvn_le (es : List En) : ∀ {i j : Nat}, i ≤ j → ∃ r, lvn es j = lvn es i ++ r := by
  intro i j h
  induction j with
  | zero => exact ⟨[], by rw [show i = 0 by omega]; simp⟩
  | succ j ih =>
    rcases Nat.lt_or_ge i (j + 1) with y | y
    · obtain ⟨r, hr⟩ := ih (by omega)
      exact ⟨r ++ _, by rw [lvn, hr, List.append_assoc]⟩
    · exact ⟨[], by rw [show i = j + 1 by omega]; simp⟩
theorem lvn_at (es : List En) {i j : Nat} (hij : i < j) (hl : (nth es i).live = true) : (lvn es j)[(lvn es i).length]? = some (i : Int) ∧ (lvn es i).length < (lvn es j).length ∧ (lvn es (i + 1)).length = (lvn es i).length + 1 := by
  obtain ⟨r, hr⟩ := lvn_le es (i := i + 1) (j := j) hij
  have h1 : lvn es (i + 1) = lvn es i ++ [(i : Int)] := by rw [lvn, if_pos hl]
  rw [h1, List.append_assoc] at hr
  rw [hr, h1]
  simp
theorem lvn_dead (es : List En) {i : Nat} (hl : (nth es i).live = false) : lvn es (i + 1) = lvn es i := by
  rw [lvn, hl]
  simp
theorem live_at {es : List En} {i : Nat} (hi : i < es.length) (hl : (nth es i).live = true) : nth (liveL es) (lvn es i).length = nth es i := by
  rw [lvn_len es i (by omega), liveL_cut hi hl]
  exact nth_mid _ _ _
end Go.Proofs.YtbpflmdefpjcaaaGreat
namespace Go.Proofs.YtbpflmdefpjcaaaGreat
open Go.RowKit Go.WideShapes

/-- The first live entry, or -1; the last one. -/
def FstR (es : List En) (o : Int) : Prop := (o = -1 ∧ ∀ i, i < es.length → (nth es i).live = false) ∨ ∃ n : Nat, o = (n : Int) ∧ n < es.length ∧ (nth es n).live = true ∧ ∀ i, i < n → (nth es i).live = false
def LstR (es : List En) (o : Int) : Prop := (o = -1 ∧ ∀ i, i < es.length → (nth es i).live = false) ∨ ∃ n : Nat, o = (n : Int) ∧ n < es.length ∧ (nth es n).live = true ∧ ∀ i, n < i → i < es.length → (nth es i).live = false
theorem eqTb' (g : Nat) (w : World) : (binOp .eql 50 (.pointer (some ⟨g, 0, none⟩)) (.pointer none)).run Tryz.prog w = .ok (.bool false) w := eqTb g w
set_option maxRecDepth 100000 in
theorem ptake_no {w : World} {d g gi r h : Nat} {ev : Value} {t : Tb} {mv : Value} {most : Int} {v : Nat} (hC : Dc w d g gi r h ev t mv most v) :
    Calls Tryz.prog 57 #[.pointer (some ⟨d, 0, none⟩), .int .i64 (-1)] w fun e w' => e = .returned (.tuple #[.agg #[.bool false, .int .i64 0, .int .i64 0, .int .i64 0, .int .i64 0], .int .i64 7]) ∧ Below w.heap.size w w' := by
  obtain ⟨w1, hw1⟩ : ∃ y, w.alloc (.cells #[.bool false, .int .i64 0, .int .i64 0, .int .i64 0, .int .i64 0] 69) = y := ⟨_, rfl⟩
  have hB1 : Below w.heap.size w w1 := by rw [← hw1]; exact (Below.refl _ w).alloc (Nat.le_refl _) _
  have hX1 : Blk w1 w.heap.size 5 (fun j => #[Value.bool false, .int .i64 0, .int .i64 0, .int .i64 0, .int .i64 0].getD j .nilFunc) := by rw [← hw1]; exact Blk.new w _ _
  have hC1 := hC.below hB1
  have C1 := kept_yes (hC1.hd.c 0 (by omega))
  have C2 := at7_no hC1.dt (-1) (fun h => by have := h.1; omega)
  have HB1 := Lib.hid hB1
  have HX1 := Lib.hid hX1
  have HW1 := Lib.hid hw1
  clear hC hC1 hB1 hX1 hw1
  go_enter Tryz.func57, Tryz.ntmps57
  go_upto_region 1 with fail
  rw [HW1.out]
  go_wp2_with fail
  refine C1.mono ?_
  rintro e w1' ⟨rfl, hw1'⟩
  rw [hw1']
  clear hw1' C1
  go_wp2_with fail
  refine C2.mono ?_
  rintro e w2 ⟨rfl, hB2⟩
  clear C2
  obtain ⟨w3, hw3⟩ : ∃ y, w2.alloc (.cells #[.bool false, .int .i64 0, .int .i64 0, .int .i64 0, .int .i64 0] 69) = y := ⟨_, rfl⟩
  have hB3 : Below w2.heap.size w2 w3 := by rw [← hw3]; exact (Below.refl _ w2).alloc (Nat.le_refl _) _
  have hB13 := hB2.trans (hB3.mono hB2.size)
  have hR3 : Blk w3 w.heap.size 5 _ := HX1.out.of hB13 (by omega)
  have q0 : w3.cell? ⟨w.heap.size, 0, none⟩ = some (.bool false) := hR3.c 0 (by omega)
  have q1 : w3.cell? ⟨w.heap.size, 1, none⟩ = some (.int .i64 0) := hR3.c 1 (by omega)
  have q2 : w3.cell? ⟨w.heap.size, 2, none⟩ = some (.int .i64 0) := hR3.c 2 (by omega)
  have q3 : w3.cell? ⟨w.heap.size, 3, none⟩ = some (.int .i64 0) := hR3.c 3 (by omega)
  have q4 : w3.cell? ⟨w.heap.size, 4, none⟩ = some (.int .i64 0) := hR3.c 4 (by omega)
  have z0 := hR3.z 0
  have z1 := hR3.z 1
  have z2 := hR3.z 2
  have z3 := hR3.z 3
  have z4 := hR3.z 4
  obtain ⟨wZ, hwZ⟩ : ∃ V, put5 w3 w.heap.size (.bool false) (.int .i64 0) (.int .i64 0) (.int .i64 0) (.int .i64 0) = V := ⟨_, rfl⟩
  have hRz : Blk wZ w.heap.size 5 (fun j => [Value.bool false, .int .i64 0, .int .i64 0, .int .i64 0, .int .i64 0].getD j .nilFunc) := by rw [← hwZ]; exact put5_blk hR3 _ _ _ _ _
  have HBZ : Hid (Below w.heap.size w wZ) := by
    rw [← hwZ]
    exact (HB1.out.trans (hB13.mono HB1.out.size)).trans (put5_below _ (Nat.le_refl _) _ _ _ _ _)
  have HR9 := Lib.hid hRz
  have HWZ := Lib.hid hwZ
  have HW3 := Lib.hid hw3
  unfold put5 at HWZ
  clear hw3 hB3 hB13 hR3 hwZ hRz hB2
  go_upto_region 2 with fail
  rw [HW3.out]
  go_wp2_with fail
  have HWE := HWZ.out
  rw [HWE]
  clear HWE
  have o0 : wZ.cell? ⟨w.heap.size, 0, none⟩ = some (.bool false) := HR9.out.c 0 (by omega)
  have o1 : wZ.cell? ⟨w.heap.size, 1, none⟩ = some (.int .i64 0) := HR9.out.c 1 (by omega)
  have o2 : wZ.cell? ⟨w.heap.size, 2, none⟩ = some (.int .i64 0) := HR9.out.c 2 (by omega)
  have o3 : wZ.cell? ⟨w.heap.size, 3, none⟩ = some (.int .i64 0) := HR9.out.c 3 (by omega)
  have o4 : wZ.cell? ⟨w.heap.size, 4, none⟩ = some (.int .i64 0) := HR9.out.c 4 (by omega)
  refine bodyPost_ret (v := .tuple #[.agg #[.bool false, .int .i64 0, .int .i64 0, .int .i64 0, .int .i64 0], .int .i64 7]) ?_ rfl ⟨rfl, HBZ.out⟩
  simp [results, Tryz.results57, go_sem, o0, o1, o2, o3, o4]
theorem pclear_any {w : World} {d g gi r h : Nat} {ev : Value} {t : Tb} {mv : Value} {M : Int → Int → World → Prop} {a b : Int} {most : Int} {v : Nat} (hC : Dc w d g gi r h ev t mv most v) (hMo : MtOk mv M) (hM : M a b w) (hm : t.made ≤ 1000000) (ha : 0 ≤ a ∧ a ≤ 1000000000) (ht : t.turn ≤ 1000000) (hv : v ≤ 1000000000) :
    Calls Tryz.prog 32 #[.pointer (some ⟨d, 0, none⟩)] w fun e w' => e = .returned (.tuple #[]) ∧ ∃ gi' r' h' ev', Cd w d g gi r h ev mv M (a + 1) b most (v + 1) t.clear w' gi' r' h' ev' := by
  have h1 := eqD d
  have C1 := kept_yes (hC.hd.c 0 (by omega))
  have C2 := clear7_any hC.dt hMo hM hm ha ht
  have HC := Lib.hid hC
  have HMo := Lib.hid hMo
  clear hC hMo hM
  go_enter Tryz.func32, Tryz.ntmps32
  go_wp2_with fail
  refine C1.mono ?_
  rintro e w1 ⟨rfl, rfl⟩
  go_wp2_with fail
  refine C2.mono ?_
  rintro e w2 ⟨rfl, gi', r', h', ev', hA⟩
  clear C1 C2
  obtain ⟨hB2, hF⟩ := cd_of HC.out HMo.out (HC.out.ok.clear) hA.dt hA.m hA.fx hA.ex
  have C3 := change_any hv (hB2.c 2 (by omega)) (hB2.z 2)
  have HF := Lib.hid hF
  clear hA hB2 hF
  go_wp2_with fail
  refine C3.mono ?_
  rintro e w3 ⟨rfl, rfl⟩
  clear C3
  go_wp2
  go_end0
  exact ⟨rfl, gi', r', h', ev', HF.out⟩
end Go.Proofs.YtbpflmdefpjcaaaGreat
