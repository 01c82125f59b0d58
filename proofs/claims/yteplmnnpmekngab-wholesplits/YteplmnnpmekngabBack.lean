/-
  A loop over slices.Backward of a row of words: what the caller owes, in terms of a state of its own: the loop's body may write the very row that it goes through.
-/
import Derived.RangeFuncNested
import Derived.RangeFuncBound
import Derived.RangeFuncCalls
import Derived.RangeFuncLeaves
import Derived.Shelf.Abstract
import Derived.WalkKit
import Derived.OwnWalkIn
import Derived.TacticsInMore
import Derived.LoopNIn
import Derived.LoopIn
import Derived.Test.YteplmnnpmekngabRows
import Derived.Test.YteplmnnpmekngabLeaf
namespace Go.Proofs.Yteplmnnpmekngab
open Go.RowKit Go.Shelf
attribute [local go_sem] Oper.semAt_some

set_option maxRecDepth 100000 in
set_option maxHeartbeats 2000000 in
/-- The iterator: it hands on index and word, from the last on, as the cells stand when it comes to them. -/
theorem back1_in {S : Type} (n l Bs b off len cap : Nat) (hn : 1 ≤ n) (av : Option Addr) (hlen : len ≤ 1000000) (pos : S → Nat) (J : S → World → Prop) (Jx : World → Prop)
    (hread : ∀ s W, J s W → pos s ≤ len ∧ W.cell? ⟨Bs, 0, none⟩ = some (.slice av len cap) ∧ (0 < pos s → av = some ⟨b, off, none⟩ ∧ ∃ v : Nat, W.cell? ⟨b, off + (pos s - 1), none⟩ = some (.int .u32 (v : Int))))
    (hY : ∀ (s : S) (v : Nat) W, J s W → 0 < pos s → W.cell? ⟨b, off + (pos s - 1), none⟩ = some (.int .u32 (v : Int)) → YieldAt Fence.wide (n - 1) Try.prog l #[.int .i64 ((pos s - 1 : Nat) : Int), .int .u32 (v : Int)] W fun e W' =>
      (e = .returned (.bool true) ∧ ∃ s', pos s' = pos s - 1 ∧ J s' W') ∨ (e = .returned (.bool false) ∧ Jx W'))
    (W : World) (s0 : S) (hp0 : pos s0 = len) (h0 : J s0 W) :
    CallsIn Fence.wide n Try.prog 40 #[.func (.yield l) #[] #[], .pointer (some ⟨Bs, 0, none⟩)] W fun e W' => (∃ v, e = .returned v) ∧
      ((∃ s, pos s = 0 ∧ J s W') ∨ Jx W') := by
  refine callsIn_of_wp Try.func40 rfl trivial ?_ rfl
  simp only [Try.ntmps40, List.size_toArray, List.length_cons, List.length_nil, Nat.reduceAdd, Nat.reduceSub, Array.replicate_succ, Array.replicate_zero, List.push_toArray, List.append_toArray, List.nil_append, List.cons_append]
  have hB0 := (hread s0 W h0).2.1
  gi_wp2
  clear hB0
  gi_loopw [3] (fun i wr => ∃ s, i = .int .i64 ((pos s : Int) - 1) ∧ pos s ≤ len ∧ J s wr) (fun i _ => (intOf i + 1).toNat)
  case atStart => exact ⟨s0, by rw [hp0], by omega, h0⟩
  case round =>
    obtain ⟨s, rfl, hk, hJs⟩ := hrel
    obtain ⟨_, hBs, hr⟩ := hread s wr hJs
    obtain ⟨k, hpk⟩ : ∃ k, pos s = k := ⟨_, rfl⟩
    cases k with
    | zero =>
      have H : Hid (pos s = 0) := hpk
      rw [hpk] at hk ⊢
      clear hpk hr hBs
      gi_wp2
      go_end0
      exact ⟨⟨_, rfl⟩, .inl ⟨s, H.out, hJs⟩⟩
    | succ k =>
      obtain ⟨e1, v, hv⟩ := hr (by omega)
      have hy0 := hY s v wr hJs (by omega) hv
      rw [hpk] at hy0 hv hk ⊢
      simp only [Nat.add_sub_cancel] at hy0 hv
      subst e1
      obtain ⟨fn, tmps, assign, body, hy, hR⟩ := hy0
      clear hr hpk hread hY
      have e2 : ((k + 1 : Nat) : Int) - 1 = (k : Int) := by omega
      rw [e2]
      clear e2
      gi_wp2
      refine hR.mono ?_
      rintro e W3 (⟨rfl, s', hs', hJ3⟩ | ⟨rfl, hJx3⟩)
      · gi_wp2
        go_roundw
        case rel => exact ⟨s', by rw [hs'], by omega, hJ3⟩
        case measure => simp [intOf]
      · gi_wp2
        refine bodyPost_ret (results_none rfl _ _ _) rfl ?_
        exact ⟨⟨_, rfl⟩, .inr hJx3⟩

/-- How a round of such a loop may end. -/
def backPost {S : Type} (B : Nat) (pos : S → Nat) (I : S → World → Prop) (Ix : Code → World → Prop) (s : S) (W : World) : Exit → Act → World → Prop
  | .normal, _, W' => KeepsFrom B W W' ∧ ∃ s', pos s' = pos s - 1 ∧ I s' W'
  | .ret, _, W' => KeepsFrom B W W' ∧ Ix .ret W'
  | .exit id, _, W' => KeepsFrom B W W' ∧ Ix (.exit id) W'
  | .goto t, _, W' => KeepsFrom B W W' ∧ Ix (.goto t) W'
  | .panic _, _, _ => False
  | .outgrown, _, _ => False

set_option maxHeartbeats 1000000 in
/-- The loop: a state of the caller's own (S), which tells how many words are still to come (pos); the caller's word of what memory holds in that state (I). -/
theorem back_loop {S : Type} {n : Nat} {g : Operand} {ps : Array Tmp} {assign body : Code} {Q : Exit → Act → World → Prop} {a : Act} {w : World} (Bs b off len cap : Nat) (av : Option Addr) (hn : 2 ≤ n)
    (hg : a.eval g = .func (.func 40) #[] #[.pointer (some ⟨Bs, 0, none⟩)]) (hps : ps.size = 2) (hlen : len ≤ 1000000)
    (pos : S → Nat) (I : S → World → Prop) (Ix : Code → World → Prop) (hI : OwnFrom w.heap.size I) (hIx : ∀ c, OwnFrom w.heap.size (fun (_ : Unit) W => Ix c W))
    (hread : ∀ s W, I s W → pos s ≤ len ∧ W.cell? ⟨Bs, 0, none⟩ = some (.slice av len cap) ∧ (0 < pos s → av = some ⟨b, off, none⟩ ∧ ∃ v : Nat, W.cell? ⟨b, off + (pos s - 1), none⟩ = some (.int .u32 (v : Int))))
    (s0 : S) (hp0 : pos s0 = len) (h0 : I s0 w) (a₁ : Nat → Nat → Act)
    (hassign : ∀ (l i v : Nat) (W : World) (K : Act → World → Prop), K (a₁ i v) W →
      assign.wpIn (Fence.wide.inRound l) (n - 1 - 1) Try.prog (Exit.then K (fun _ _ _ => False)) { tmps := (ps.zip #[.int .i64 (i : Int), .int .u32 (v : Int)]).foldl (fun t (p, v) => t.setIfInBounds p v) a.tmps, defers := [] } W)
    (hbody : ∀ (l : Nat) (s : S) (v : Nat) (W : World), I s W → 0 < pos s → av = some ⟨b, off, none⟩ → W.cell? ⟨b, off + (pos s - 1), none⟩ = some (.int .u32 (v : Int)) →
      body.wpIn (Fence.wide.inRound l) (n - 1 - 1) Try.prog (backPost w.heap.size pos I Ix s W) (a₁ (pos s - 1) v) W)
    (hdone : ∀ (D : Nat) (s : S) (W : World), w.heap.size ≤ D → pos s = 0 → I s W → W.heap[D]? = some (.deferred (some [])) → Q .normal { a with defers := { target := .collected D, args := #[] } :: a.defers } W)
    (hstop : ∀ (D : Nat) (c : Code) (W : World), w.heap.size ≤ D → Ix c W → W.heap[D]? = some (.deferred (some [])) → c.wpIn Fence.wide n Try.prog Q { a with defers := { target := .collected D, args := #[] } :: a.defers } W) :
    (Code.rangeFunc g ps assign body).wpIn Fence.wide n Try.prog Q a w := by
  refine wpIn_rangeFunc fun fn hfn => ?_
  let mk : LoopState → Option Code → Obj := fun st pe => .loop { state := st, pending := pe, fn := fn, tmps := a.tmps, params := ps, assign := assign, body := body, defers := w.heap.size }
  let W1 : World := (w.alloc (.deferred (some []))).alloc (mk .ready none)
  have hsz : W1.heap.size = w.heap.size + 2 := by simp [W1]
  have hL1 : W1.heap[w.heap.size + 1]? = some (mk .ready none) := by
    have := World.alloc_heap_new (w.alloc (.deferred (some []))) (mk .ready none)
    rwa [World.size_alloc] at this
  have hK1 : W1.heap[w.heap.size]? = some (.deferred (some [])) := (Below.heap_alloc _ _ _ (by simp)).trans (World.alloc_heap_new w _)
  have hI1 : I s0 W1 := hI.alloc _ (hI.alloc _ h0)
  -- what the caller's word and the loop's own book-keeping say between two rounds
  let J : S → World → Prop := fun s W => I s W ∧ W.heap[w.heap.size + 1]? = some (mk .ready none) ∧ W.heap[w.heap.size]? = some (.deferred (some []))
  let Jx : World → Prop := fun W => ∃ c, Ix c W ∧ W.heap[w.heap.size + 1]? = some (mk .done (some c)) ∧ W.heap[w.heap.size]? = some (.deferred (some []))
  refine ⟨w.heap.size + 1, [{ target := .collected w.heap.size, args := #[] }], W1, { target := .fn (.func 40) #[.pointer (some ⟨Bs, 0, none⟩)], args := #[.func (.yield (w.heap.size + 1)) #[] #[]] }, W1, 40, #[.func (.yield (w.heap.size + 1)) #[] #[], .pointer (some ⟨Bs, 0, none⟩)], W1,
    run_enterLoop_outer _ _ _ _ _, ?_, fun _ _ => trivial, ?_, (fun _ => by omega), ?_⟩
  · simp only [resolve, hg]
    simp [go_sem]
  · simp [invoke, go_sem]
  refine (back1_in (n - 1) (w.heap.size + 1) Bs b off len cap (by omega) av hlen pos J Jx (fun s W h => hread s W h.1) ?_ W1 s0 hp0 ⟨hI1, hL1, hK1⟩).mono ?_
  · rintro s v W ⟨hi, hl, hk⟩ hpos hv
    have hlt : w.heap.size + 1 < W.heap.size := (Array.getElem?_eq_some_iff.1 hl).1
    refine ⟨fn, _, assign, body, run_yield hl (by simp [hps]), roundIn_of_wpIn hfn (hassign _ _ _ _ _ ⟨_, run_beginRound hl rfl, ?_⟩)⟩
    have hl2 : (W.putObj (w.heap.size + 1) (mk .busy none)).heap[w.heap.size + 1]? = some (mk .busy none) := World.putObj_heap_same hlt
    have hk2 : (W.putObj (w.heap.size + 1) (mk .busy none)).heap[w.heap.size]? = some (.deferred (some [])) := (World.putObj_heap_other (by omega)).trans hk
    have hi2 : I s (W.putObj (w.heap.size + 1) (mk .busy none)) := hI.putObj _ hi (by omega) hl rfl
    have hav := ((hread s W hi).2.2 hpos).1
    have hv2 : (W.putObj (w.heap.size + 1) (mk .busy none)).cell? ⟨b, off + (pos s - 1), none⟩ = some (.int .u32 (v : Int)) := cell_kept hv (grownBy_putObj' _ _ _) (fun r e => by cases e; exact ⟨_, hl, rfl⟩)
    refine wpIn_mono (hbody _ s v _ hi2 hpos hav hv2) ?_
    rintro e a3 W3 hp
    have left : ∀ jump : Option Code, KeepsFrom w.heap.size (W.putObj (w.heap.size + 1) (mk .busy none)) W3 → (W3.heap[w.heap.size + 1]? = some (mk .busy none) ∧ w.heap.size + 1 < W3.heap.size) ∧
        (Instr.endRound (w.heap.size + 1) jump).run Try.prog W3 = .ok (.bool jump.isNone) (W3.putObj (w.heap.size + 1) (mk (if jump.isNone then .ready else .done) jump)) ∧
        (W3.putObj (w.heap.size + 1) (mk (if jump.isNone then .ready else .done) jump)).heap[w.heap.size]? = some (.deferred (some [])) := fun jump hk3 => by
      have hl3 := hk3.same _ _ (by omega) hl2 rfl
      exact ⟨⟨hl3, (Array.getElem?_eq_some_iff.1 hl3).1⟩, run_endRound jump hl3, (World.putObj_heap_other (by omega)).trans (hk3.same _ _ (Nat.le_refl _) hk2 rfl)⟩
    cases e with
    | normal =>
      obtain ⟨hk3, s', hs', hi3⟩ := hp
      obtain ⟨⟨hl3, hlt3⟩, hr, hd⟩ := left none hk3
      exact ⟨_, _, hr, .inl ⟨rfl, s', hs', hI.putObj _ hi3 (by omega) hl3 rfl, World.putObj_heap_same hlt3, hd⟩⟩
    | ret =>
      obtain ⟨hk3, hi3⟩ := hp
      obtain ⟨⟨hl3, hlt3⟩, hr, hd⟩ := left (some .ret) hk3
      exact ⟨_, _, hr, .inr ⟨rfl, .ret, (hIx _).putObj (s := ()) _ hi3 (by omega) hl3 rfl, World.putObj_heap_same hlt3, hd⟩⟩
    | exit id =>
      obtain ⟨hk3, hi3⟩ := hp
      obtain ⟨⟨hl3, hlt3⟩, hr, hd⟩ := left (some (.exit id)) hk3
      exact ⟨_, _, hr, .inr ⟨rfl, .exit id, (hIx _).putObj (s := ()) _ hi3 (by omega) hl3 rfl, World.putObj_heap_same hlt3, hd⟩⟩
    | goto t =>
      obtain ⟨hk3, hi3⟩ := hp
      obtain ⟨⟨hl3, hlt3⟩, hr, hd⟩ := left (some (.goto t)) hk3
      exact ⟨_, _, hr, .inr ⟨rfl, .goto t, (hIx _).putObj (s := ()) _ hi3 (by omega) hl3 rfl, World.putObj_heap_same hlt3, hd⟩⟩
    | panic ch => exact hp.elim
    | outgrown => exact hp.elim
  · rintro e W2 ⟨⟨v, rfl⟩, ⟨s, hs, hi, hl, hk⟩ | ⟨c, hi, hl, hk⟩⟩
    · exact ⟨none, _, run_endLoop hl (by simp), hdone _ s _ (Nat.le_refl _) hs (hI.putObj _ hi (by omega) hl rfl) ((World.putObj_heap_other (by omega)).trans hk)⟩
    · exact ⟨some c, _, run_endLoop hl (by simp), hstop _ c _ (Nat.le_refl _) ((hIx c).putObj (s := ()) _ hi (by omega) hl rfl) ((World.putObj_heap_other (by omega)).trans hk)⟩

/-- slices.Backward itself: the slice is boxed, the function value holds the box. -/
theorem back_any (a : Option Addr) (len cap : Nat) (w : World) :
    Calls Try.prog 27 #[.slice a len cap] w fun e w' => e = .returned (.func (.func 40) #[] #[.pointer (some ⟨w.heap.size, 0, none⟩)]) ∧ w' = w.alloc (.cells #[.slice a len cap] 22) := by
  go_enter Try.func27, Try.ntmps27
  go_wp2
  go_ret
  exact ⟨rfl, rfl⟩
end Go.Proofs.Yteplmnnpmekngab
