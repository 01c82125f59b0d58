/-
  A place along a trail, which can be left and gone on from: Begin, Cell, Step.
  A range over a function whose rounds are counted: the iterator tells encs 0, encs 1, .. up to N of them, and may keep cells of its own, laid since it began. No program.
  The iterator of trail.All, where a range over a function goes through it.
-/
import Derived.Test.YtjkggidcheagpaaGreatTrCode
import Derived.Deep.RegionHeld3
import Derived.BigQuiet
import Derived.Deep.CutRange
import Derived.RangeFuncNested
import Derived.RangeFuncBound
import Derived.RangeFuncCalls
import Derived.Below
import Derived.OwnWalkIn
import Derived.TacticsInMore
import Derived.LoopNIn
import Derived.LoopIn
namespace Go.Proofs.YtjkggidcheagpaaGreat.Tr
open Go.RowKit Go.WideShapes

theorem u64_small {x : Int} (h0 : 0 ≤ x) (h1 : x < 18446744073709551616) : IntKind.u64.wrap x = x := by rw [IntKind.wrap_u64]; omega
/-- Begin: the first cell, the hash, the mask. -/
theorem begin_any {L S : Nat} (hS : Sz L S) (h : Int) (w : World) : Calls Tryz.prog 65 #[.int .i64 h, .int .i64 (L : Int)] w fun e w' => e = .returned (.agg #[.int .u64 ((uw h % S : Nat) : Int), .int .u64 ((uw h : Nat) : Int), .int .u64 ((S : Int) - 1)]) ∧ Below w.heap.size w w' := by
  have h1 := uw_int h
  have h2 := uw_lt h
  have hp := hS.pos
  have hm := hS.most
  have hle := hS.le
  have hu := hS.u64
  have hw1 : IntKind.u64.wrap ((S : Int) - 1) = (S : Int) - 1 := u64_small (by omega) (by omega)
  have h3 := hS.mask ((uw h : Nat) : Int) (by omega) (by omega)
  rw [← Int.natCast_emod] at h3
  have HL : Hid (∀ w, Calls Tryz.prog 79 #[.int .i64 (L : Int)] w fun e w' => e = .returned (.bool true) ∧ w' = w) := fun w => isLog_yes L hS.le w
  generalize uw h % S = r at h3 ⊢
  generalize uw h = u at h1 h2 h3 ⊢
  go_enter Tryz.func65, Tryz.ntmps65
  go_wp2_with fail
  refine (HL.out _).mono ?_
  rintro e w1 ⟨rfl, rfl⟩
  go_wp2
  refine bodyPost_ret (v := .agg #[.int .u64 (r : Int), .int .u64 (u : Int), .int .u64 ((S : Int) - 1)]) (by simp [results, Tryz.results65, go_sem]) rfl ?_
  exact ⟨rfl, (Below.refl _ w).alloc (Nat.le_refl _) _⟩
theorem cell_any (b o c : Nat) (hc : c < 9223372036854775808) (w : World) (h0 : w.cell? ⟨b, o, none⟩ = some (.int .u64 (c : Int))) : Calls Tryz.prog 80 #[.pointer (some ⟨b, o, none⟩)] w fun e w' => e = .returned (.int .i64 (c : Int)) ∧ w' = w := by
  have h5 : IntKind.i64.wrap (c : Int) = (c : Int) := i64_small (by omega) (by omega)
  go_enter Tryz.func80, Tryz.ntmps80
  go_wp2
  go_ret
  exact ⟨rfl, rfl⟩
/-- The world behind Step. -/
def stepW (w : World) (b o c p : Nat) : World := ((w.setCell ⟨b, o + 1, none⟩ (.int .u64 (p : Int))).setCell ⟨b, o, none⟩ (.int .u64 (c : Int))).drew
theorem step_any {L S : Nat} (hS : Sz L S) (b o c p : Nat) (hc : c < S) (hp : p < 18446744073709551616) (w : World) (h0 : w.cell? ⟨b, o, none⟩ = some (.int .u64 (c : Int))) (h1 : w.cell? ⟨b, o + 1, none⟩ = some (.int .u64 (p : Int))) (h2 : w.cell? ⟨b, o + 2, none⟩ = some (.int .u64 ((S : Int) - 1)))
    (z0 : w.frozen? ⟨b, o, none⟩ = false) (z1 : w.frozen? ⟨b, o + 1, none⟩ = false) :
    Calls Tryz.prog 81 #[.pointer (some ⟨b, o, none⟩)] w fun e w' => e = .returned (.tuple #[]) ∧ w' = stepW w b o ((c * 5 + p / 32 + 1) % S) (p / 32) := by
  have hm := hS.most
  have e2 : IntKind.u64.wrap (5 * (c : Int)) = ((c * 5 : Nat) : Int) := by rw [IntKind.wrap_u64]; omega
  have e3 : (p : Int) / 32 = ((p / 32 : Nat) : Int) := by omega
  have e4 : IntKind.u64.wrap (((c * 5 : Nat) : Int) + ((p / 32 : Nat) : Int)) = ((c * 5 + p / 32 : Nat) : Int) := by rw [IntKind.wrap_u64]; omega
  have e5 : IntKind.u64.wrap (((c * 5 + p / 32 : Nat) : Int) + 1) = ((c * 5 + p / 32 + 1 : Nat) : Int) := by rw [IntKind.wrap_u64]; omega
  have e6 : bits BinOp.and IntKind.u64 ((c * 5 + p / 32 + 1 : Nat) : Int) ((S : Int) - 1) = (((c * 5 + p / 32 + 1) % S : Nat) : Int) := by
    rw [hS.mask _ (by omega) (by omega), Int.natCast_emod]
  generalize (c * 5 + p / 32 + 1) % S = r at e6 ⊢
  generalize c * 5 + p / 32 + 1 = x3 at e5 e6
  generalize c * 5 + p / 32 = x2 at e4 e5
  generalize c * 5 = x1 at e2 e4
  generalize p / 32 = q at e3 e4 ⊢
  unfold stepW
  go_enter Tryz.func81, Tryz.ntmps81
  go_upto_region 1 with fail
  have k0 : (w.setCell ⟨b, o + 1, none⟩ (.int .u64 (q : Int))).cell? ⟨b, o, none⟩ = some (.int .u64 (c : Int)) := (World.cell?_setCell_other _ _ _ _ (by intro he; injection he with h1 h2; omega)).trans h0
  have k1 : (w.setCell ⟨b, o + 1, none⟩ (.int .u64 (q : Int))).cell? ⟨b, o + 1, none⟩ = some (.int .u64 (q : Int)) := World.cell?_setCell_same' _ _ _ (by rw [h1]; rfl)
  have k2 : (w.setCell ⟨b, o + 1, none⟩ (.int .u64 (q : Int))).cell? ⟨b, o + 2, none⟩ = some (.int .u64 ((S : Int) - 1)) := (World.cell?_setCell_other _ _ _ _ (by intro he; injection he with h1 h2; omega)).trans h2
  have k3 : (w.setCell ⟨b, o + 1, none⟩ (.int .u64 (q : Int))).frozen? ⟨b, o, none⟩ = false := by rw [World.frozen?_setCell]; exact z0
  generalize hw1 : w.setCell ⟨b, o + 1, none⟩ (.int .u64 (q : Int)) = w1 at *
  have HW : Hid (w.setCell ⟨b, o + 1, none⟩ (.int .u64 (q : Int)) = w1) := hw1
  clear hw1
  go_region
  all_goals
    go_wp2
    go_end0
    exact ⟨rfl, by rw [HW.out]⟩
end Go.Proofs.YtjkggidcheagpaaGreat.Tr
namespace Go.Proofs.YtjkggidcheagpaaGreat
open Go.RowKit

/-- What is said of a world hangs on the blocks below B alone. -/
def St (B : Nat) (J : Nat → World → Prop) : Prop := ∀ i A A', J i A → Below B A A' → J i A'
/-- What was laid from B on lies as it lay. -/
structure Since (B : Nat) (W W' : World) : Prop where
  size : W.heap.size ≤ W'.heap.size
  same : ∀ k, B ≤ k → k < W.heap.size → W'.heap[k]? = W.heap[k]?
theorem Since.refl (B : Nat) (W : World) : Since B W W := ⟨Nat.le_refl _, fun _ _ _ => rfl⟩
theorem Since.trans {B : Nat} {a b c : World} (h : Since B a b) (k : Since B b c) : Since B a c :=
  ⟨Nat.le_trans h.size k.size, fun i h1 h2 => (k.same i h1 (Nat.lt_of_lt_of_le h2 h.size)).trans (h.same i h1 h2)⟩
theorem Since.mono {B B' : Nat} {a b : World} (h : Since B a b) (hb : B ≤ B') : Since B' a b := ⟨h.size, fun i h1 h2 => h.same i (Nat.le_trans hb h1) h2⟩
theorem Since.below {B : Nat} {a b : World} (h : Below a.heap.size a b) : Since B a b := ⟨h.size, fun i _ h2 => h.block i h2⟩
theorem Since.setCell {B : Nat} {a b : World} (h : Since B a b) {p : Addr} (hp : p.block < B) (v : Value) : Since B a (b.setCell p v) :=
  h.trans ⟨by simp [World.setCell], fun k hk _ => Below.heap_setCell _ _ _ _ (by omega)⟩
theorem below_put {B : Nat} {W : World} {l : Nat} {o : Obj} (hl : B ≤ l) : Below B W (W.putObj l o) :=
  ⟨rfl, rfl, rfl, by simp, fun k hk => World.putObj_heap_other (by omega)⟩
theorem since_put {B : Nat} {W : World} {l : Nat} {o : Obj} (hl : l < B) : Since B W (W.putObj l o) :=
  ⟨by simp, fun k hk _ => World.putObj_heap_other (by omega)⟩
/-- An iterator that tells encs 0, encs 1, .. N of them, as long as what it reads is kept (Kp); it is called with args l, in which yield stands. -/
def SeqAt (P : Program) (gf : Nat) (args : Nat → Array Value) (encs : Nat → Array Value) (N : Nat) (Kp : World → Prop) (w : World) : Prop :=
  ∀ (l : Nat) (J Jx : Nat → World → Prop) (W : World), Below w.heap.size w W → St W.heap.size J → St W.heap.size Jx → (∀ i W1, J i W1 → Kp W1) →
    (∀ i W1, i < N → J i W1 → YieldAt Fence.wide 0 P l (encs i) W1 fun e W' => (e = .returned (.bool true) ∧ J (i + 1) W' ∧ Since W.heap.size W1 W') ∨ (e = .returned (.bool false) ∧ Jx i W')) →
    J 0 W → CallsIn Fence.wide 0 P gf (args l) W fun e W' => (∃ v, e = .returned v) ∧ (J N W' ∨ ∃ i, i < N ∧ Jx i W')
/-- The same of a closure. -/
def SeqIx (P : Program) (gf : Nat) (lb : Array Value) (encs : Nat → Array Value) (N : Nat) (w : World) : Prop := SeqAt P gf (fun l => #[.func (.yield l) #[] #[]] ++ lb) encs N (fun _ => True) w
/-- How a round may be left. -/
def ixPost (B N : Nat) (I : Nat → World → Prop) (Ix : Code → Nat → World → Prop) (i : Nat) (W : World) : Exit → Act → World → Prop
  | .normal, _, W' => Since B W W' ∧ I (i + 1) W'
  | .ret, _, W' => Since B W W' ∧ i < N ∧ Ix .ret i W'
  | .exit id, _, W' => Since B W W' ∧ i < N ∧ Ix (.exit id) i W'
  | .goto t, _, W' => Since B W W' ∧ i < N ∧ Ix (.goto t) i W'
  | .panic _, _, _ => False
  | .outgrown, _, _ => False
theorem wpIn_range_at {P : Program} {g : Operand} {ps : Array Tmp} {assign body : Code} {Q : Exit → Act → World → Prop} {a : Act} {w : World}
    {gf : Nat} {args : Nat → Array Value} (dl : Nat → Deferred) (hres : ∀ l W, (resolve a.eval (rangeCall g l) 0).run P W = .ok (dl l) W) (hinv : ∀ l W, (invoke (dl l).target (dl l).args).run P W = .ok (.enter gf (args l)) W)
    {encs : Nat → Array Value} {N : Nat} {Kp : World → Prop} (hseq : SeqAt P gf args encs N Kp w) (hps : ∀ i, (encs i).size = ps.size)
    (I : Nat → World → Prop) (Ix : Code → Nat → World → Prop) (hI : St w.heap.size I) (hIx : ∀ c, St w.heap.size (Ix c)) (hIk : ∀ i W, I i W → Kp W) (h0 : I 0 w) (a₁ : Nat → Act)
    (hassign : ∀ (l i : Nat) (W : World) (K : Act → World → Prop), K (a₁ i) W →
      assign.wpIn (Fence.wide.inRound l) 0 P (Exit.then K (fun _ _ _ => False)) { tmps := (ps.zip (encs i)).foldl (fun t (p, v) => t.setIfInBounds p v) a.tmps, defers := [] } W)
    (hbody : ∀ (l i : Nat) (W : World), i < N → I i W → body.wpIn (Fence.wide.inRound l) 0 P (ixPost w.heap.size N I Ix i W) (a₁ i) W)
    (hdone : ∀ W, I N W → W.heap[w.heap.size]? = some (.deferred (some [])) → Q .normal { a with defers := { target := .collected w.heap.size, args := #[] } :: a.defers } W)
    (hstop : ∀ (c : Code) (i : Nat) (W : World), i < N → Ix c i W → W.heap[w.heap.size]? = some (.deferred (some [])) → c.wpIn Fence.wide 0 P Q { a with defers := { target := .collected w.heap.size, args := #[] } :: a.defers } W) :
    (Code.rangeFunc g ps assign body).wpIn Fence.wide 0 P Q a w := by
  refine wpIn_rangeFunc ?_
  intro fn hfn
  show ∃ l mark w₁ d w₁' f args w₂, (Instr.enterLoop fn a.tmps ps assign body none).run P w = _ ∧ _
  obtain ⟨rec, hrec⟩ : ∃ rec : LoopState → Option Code → Loop, rec = fun st pe => { state := st, pending := pe, fn, tmps := a.tmps, params := ps, assign, body, defers := w.heap.size } := ⟨_, rfl⟩
  obtain ⟨W1, hW1⟩ : ∃ W1, (w.alloc (.deferred (some []))).alloc (.loop (rec .ready none)) = W1 := ⟨_, rfl⟩
  have hL1 : W1.heap[w.heap.size + 1]? = some (.loop (rec .ready none)) := by
    rw [← hW1]; have := World.alloc_heap_new (w.alloc (.deferred (some []))) (.loop (rec .ready none)); rwa [World.size_alloc] at this
  have hK1 : W1.heap[w.heap.size]? = some (.deferred (some [])) := by
    rw [← hW1]; exact (Below.heap_alloc _ _ _ (by simp)).trans (World.alloc_heap_new w _)
  have hb1 : Below w.heap.size w W1 := by
    rw [← hW1]; exact ((Below.refl _ w).alloc (Nat.le_refl _) _).alloc (by simp) _
  have hs1 : W1.heap.size = w.heap.size + 2 := by rw [← hW1]; simp
  refine ⟨w.heap.size + 1, [{ target := .collected w.heap.size, args := #[] }], W1, dl (w.heap.size + 1), W1, gf,
    args (w.heap.size + 1), W1, ?_, hres _ _, ?_, hinv _ _, fun h => by simp [Fence.wide] at h, ?_⟩
  · rw [← hW1, hrec]; exact run_enterLoop_outer _ _ _ _ _
  · intro f' _; trivial
  · refine (hseq (w.heap.size + 1)
      (fun i W => I i W ∧ W.heap[w.heap.size + 1]? = some (.loop (rec .ready none)) ∧ W.heap[w.heap.size]? = some (.deferred (some [])))
      (fun i W => ∃ c, Ix c i W ∧ W.heap[w.heap.size + 1]? = some (.loop (rec .done (some c))) ∧ W.heap[w.heap.size]? = some (.deferred (some [])))
      W1 hb1 ?_ ?_ (fun i W h => hIk i W h.1) ?_ ⟨hI 0 w W1 h0 hb1, hL1, hK1⟩).mono ?_
    · rintro i A A' ⟨h1, h2, h3⟩ hb
      exact ⟨hI i A A' h1 (hb.mono (by omega)), (hb.block _ (by omega)).trans h2, (hb.block _ (by omega)).trans h3⟩
    · rintro i A A' ⟨c, h1, h2, h3⟩ hb
      exact ⟨c, hIx c i A A' h1 (hb.mono (by omega)), (hb.block _ (by omega)).trans h2, (hb.block _ (by omega)).trans h3⟩
    · rintro i W hi ⟨hJ, hl, hk⟩
      have hlt : w.heap.size + 1 < W.heap.size := (Array.getElem?_eq_some_iff.1 hl).1
      have hy := run_yield (P := P) (args := encs i) hl (by rw [hrec]; exact hps i)
      rw [hrec] at hy
      refine ⟨fn, _, assign, body, hy, roundIn_of_wpIn hfn (hassign _ i W _ ⟨_, run_beginRound hl (by rw [hrec]), ?_⟩)⟩
      have hl2 : (W.putObj (w.heap.size + 1) (.loop { rec .ready none with state := .busy })).heap[w.heap.size + 1]? = some (.loop { rec .ready none with state := .busy }) := World.putObj_heap_same hlt
      have hk2 : (W.putObj (w.heap.size + 1) (.loop { rec .ready none with state := .busy })).heap[w.heap.size]? = some (.deferred (some [])) := (World.putObj_heap_other (by omega)).trans hk
      refine wpIn_mono (hbody _ i _ hi (hI i W _ hJ (below_put (by omega)))) ?_
      have fin : ∀ (jump : Option Code) (W3 : World), Since w.heap.size (W.putObj (w.heap.size + 1) (.loop { rec .ready none with state := .busy })) W3 →
          (Instr.endRound (w.heap.size + 1) jump).run P W3 = .ok (.bool jump.isNone) (W3.putObj (w.heap.size + 1) (.loop (rec (if jump.isNone then .ready else .done) jump))) ∧
          (W3.putObj (w.heap.size + 1) (.loop (rec (if jump.isNone then .ready else .done) jump))).heap[w.heap.size + 1]? = some (.loop (rec (if jump.isNone then .ready else .done) jump)) ∧
          (W3.putObj (w.heap.size + 1) (.loop (rec (if jump.isNone then .ready else .done) jump))).heap[w.heap.size]? = some (.deferred (some [])) := fun jump W3 hk3 => by
        have hl3 := (hk3.same (w.heap.size + 1) (by omega) (by simpa using hlt)).trans hl2
        have := run_endRound (P := P) jump hl3
        rw [hrec] at this ⊢
        exact ⟨this, World.putObj_heap_same (Array.getElem?_eq_some_iff.1 hl3).1, (World.putObj_heap_other (by omega)).trans ((hk3.same w.heap.size (Nat.le_refl _) (by simp; omega)).trans hk2)⟩
      rintro e a3 W3 hp
      cases e with
      | normal =>
        obtain ⟨hk3, hi3⟩ := hp
        obtain ⟨hr, hl4, hk4⟩ := fin none W3 hk3
        refine ⟨_, _, hr, .inl ⟨rfl, ⟨hI _ _ _ hi3 (below_put (by omega)), hl4, hk4⟩, ?_⟩⟩
        exact ((since_put (by omega)).trans (hk3.mono (by omega))).trans (since_put (by omega))
      | ret =>
        obtain ⟨hk3, _, hi3⟩ := hp
        obtain ⟨hr, hl4, hk4⟩ := fin (some .ret) W3 hk3
        exact ⟨_, _, hr, .inr ⟨rfl, .ret, hIx _ _ _ _ hi3 (below_put (by omega)), hl4, hk4⟩⟩
      | exit id =>
        obtain ⟨hk3, _, hi3⟩ := hp
        obtain ⟨hr, hl4, hk4⟩ := fin (some (.exit id)) W3 hk3
        exact ⟨_, _, hr, .inr ⟨rfl, .exit id, hIx _ _ _ _ hi3 (below_put (by omega)), hl4, hk4⟩⟩
      | goto t =>
        obtain ⟨hk3, _, hi3⟩ := hp
        obtain ⟨hr, hl4, hk4⟩ := fin (some (.goto t)) W3 hk3
        exact ⟨_, _, hr, .inr ⟨rfl, .goto t, hIx _ _ _ _ hi3 (below_put (by omega)), hl4, hk4⟩⟩
      | panic ch => exact hp.elim
      | outgrown => exact hp.elim
    · rintro e W2 ⟨⟨v, rfl⟩, (⟨hi, hl, hk⟩ | ⟨i, hiN, c, hi, hl, hk⟩)⟩
      · exact ⟨none, _, by have := run_endLoop (P := P) hl (by rw [hrec]; simp); rw [hrec] at this; exact this, hdone _ (hI _ _ _ hi (below_put (by omega))) ((World.putObj_heap_other (by omega)).trans hk)⟩
      · exact ⟨some c, _, by have := run_endLoop (P := P) hl (by rw [hrec]; simp); rw [hrec] at this; exact this, hstop c i _ hiN (hIx c _ _ _ hi (below_put (by omega))) ((World.putObj_heap_other (by omega)).trans hk)⟩
theorem wpIn_range_ix {P : Program} {g : Operand} {ps : Array Tmp} {assign body : Code} {Q : Exit → Act → World → Prop} {a : Act} {w : World}
    {gf : Nat} {lb : Array Value} (hg : a.eval g = .func (.func gf) #[] lb) (eg : ∀ args w, (callFunc gf args).run P w = .ok (.enter gf args) w)
    {encs : Nat → Array Value} {N : Nat} (hseq : SeqIx P gf lb encs N w) (hps : ∀ i, (encs i).size = ps.size)
    (I : Nat → World → Prop) (Ix : Code → Nat → World → Prop) (hI : St w.heap.size I) (hIx : ∀ c, St w.heap.size (Ix c)) (h0 : I 0 w) (a₁ : Nat → Act)
    (hassign : ∀ (l i : Nat) (W : World) (K : Act → World → Prop), K (a₁ i) W →
      assign.wpIn (Fence.wide.inRound l) 0 P (Exit.then K (fun _ _ _ => False)) { tmps := (ps.zip (encs i)).foldl (fun t (p, v) => t.setIfInBounds p v) a.tmps, defers := [] } W)
    (hbody : ∀ (l i : Nat) (W : World), i < N → I i W → body.wpIn (Fence.wide.inRound l) 0 P (ixPost w.heap.size N I Ix i W) (a₁ i) W)
    (hdone : ∀ W, I N W → W.heap[w.heap.size]? = some (.deferred (some [])) → Q .normal { a with defers := { target := .collected w.heap.size, args := #[] } :: a.defers } W)
    (hstop : ∀ (c : Code) (i : Nat) (W : World), i < N → Ix c i W → W.heap[w.heap.size]? = some (.deferred (some [])) → c.wpIn Fence.wide 0 P Q { a with defers := { target := .collected w.heap.size, args := #[] } :: a.defers } W) :
    (Code.rangeFunc g ps assign body).wpIn Fence.wide 0 P Q a w :=
  wpIn_range_at (fun l => { target := .fn (.func gf) lb, args := #[.func (.yield l) #[] #[]] }) (fun l W => by simp only [resolve, hg]; simp [go_sem]) (fun l W => by simp [invoke, go_sem, eg]) hseq hps I Ix hI hIx (fun _ _ _ => trivial) h0 a₁ hassign hbody hdone hstop
end Go.Proofs.YtjkggidcheagpaaGreat
namespace Go.Proofs.YtjkggidcheagpaaGreat.Tr
open Go.RowKit Go.WideShapes
attribute [local go_sem] Oper.semAt_some

/-- The two blocks that All lays: the log, the hash. -/
theorem all_new (h l : Int) (w : World) :
    Calls Tryz.prog 75 #[.int .i64 h, .int .i64 l] w fun e w' => e = .returned (.func (.func 83) #[] #[.pointer (some ⟨w.heap.size + 1, 0, none⟩), .pointer (some ⟨w.heap.size, 0, none⟩)]) ∧ w' = (w.alloc (.cells #[.int .i64 h] 3)).alloc (.cells #[.int .i64 l] 3) := by
  have hmf : ∀ (fn : Fn) (first cap : Array Value) (w : World), (Instr.makeFunc fn first cap).run Tryz.prog w = .ok (.func fn first cap) w := fun _ _ _ _ => rfl
  go_enter Tryz.func75, Tryz.ntmps75
  go_wp2
  go_ret
  exact ⟨by simp, rfl⟩
/-- A walk in memory. -/
structure Wk (w : World) (b o c p S : Nat) : Prop where
  c0 : w.cell? ⟨b, o, none⟩ = some (.int .u64 (c : Int))
  c1 : w.cell? ⟨b, o + 1, none⟩ = some (.int .u64 (p : Int))
  c2 : w.cell? ⟨b, o + 2, none⟩ = some (.int .u64 ((S : Int) - 1))
  fr : ∀ j, w.frozen? ⟨b, j, none⟩ = false
theorem Wk.same {w w' : World} {b o c p S : Nat} (h : Wk w b o c p S) (e : w'.heap[b]? = w.heap[b]?) : Wk w' b o c p S :=
  ⟨(World.cell?_of_block (a := ⟨b, o, none⟩) e).trans h.c0, (World.cell?_of_block (a := ⟨b, o + 1, none⟩) e).trans h.c1, (World.cell?_of_block (a := ⟨b, o + 2, none⟩) e).trans h.c2, fun j => (World.frozen?_of_block (a := ⟨b, j, none⟩) e).trans (h.fr j)⟩
theorem Wk.new (w : World) (c p S : Nat) (t : TypeId) : Wk (w.alloc (.cells #[.int .u64 (c : Int), .int .u64 (p : Int), .int .u64 ((S : Int) - 1)] t)) w.heap.size 0 c p S := by
  constructor <;> first | exact fun j => World.frozen?_alloc_at _ _ _ _ rfl | (rw [World.cell?_alloc_at _ _ _ _ rfl]; rfl)
theorem Wk.lt {w : World} {b o c p S : Nat} (h : Wk w b o c p S) : b < w.heap.size := by
  by_cases hb : b < w.heap.size
  · exact hb
  · have := h.c0
    rw [World.cell?, Array.getElem?_eq_none (Nat.le_of_not_lt hb)] at this
    exact absurd this (by simp)
theorem Wk.step {w : World} {b o c p S : Nat} (h : Wk w b o c p S) (c' p' : Nat) : Wk (stepW w b o c' p') b o c' p' S := by
  unfold stepW
  refine ⟨?_, ?_, ?_, fun j => ?_⟩
  · show World.cell? (World.setCell _ _ _) _ = _
    exact World.cell?_setCell_same' _ _ _ (by rw [World.cell?_setCell_other _ _ _ _ (by intro he; injection he with h1 h2; omega), h.c0]; rfl)
  · show World.cell? (World.setCell _ _ _) _ = _
    rw [World.cell?_setCell_other _ _ _ _ (by intro he; injection he with h1 h2; omega)]
    exact World.cell?_setCell_same' _ _ _ (by rw [h.c1]; rfl)
  · show World.cell? (World.setCell _ _ _) _ = _
    rw [World.cell?_setCell_other _ _ _ _ (by intro he; injection he with h1 h2; omega), World.cell?_setCell_other _ _ _ _ (by intro he; injection he with h1 h2; omega)]
    exact h.c2
  · show World.frozen? (World.setCell _ _ _) _ = _
    rw [World.frozen?_setCell, World.frozen?_setCell]
    exact h.fr j
theorem stepW_below {B : Nat} (w : World) (b o c p : Nat) (hb : B ≤ b) : Below B w (stepW w b o c p) := by
  unfold stepW
  exact (((Below.refl _ w).setCell (p := ⟨b, o + 1, none⟩) hb _).setCell (p := ⟨b, o, none⟩) hb _).drew
set_option maxRecDepth 100000 in
set_option maxHeartbeats 4000000 in
theorem seqix_any {L S : Nat} (hS : Sz L S) (h : Int) (bl bh : Nat) (w : World) (hbl : bl < w.heap.size) (hbh : bh < w.heap.size) (hl : w.cell? ⟨bl, 0, none⟩ = some (.int .i64 (L : Int))) (hh : w.cell? ⟨bh, 0, none⟩ = some (.int .i64 h)) :
    SeqIx Tryz.prog 83 #[.pointer (some ⟨bl, 0, none⟩), .pointer (some ⟨bh, 0, none⟩)] (fun i => #[.int .i64 ((trl (uw h) L i : Nat) : Int)]) (S + 13) w := by
  intro l J Jx W hB HJ0 HJX0 _ hY0 J0
  have HJ := (show Hid _ from HJ0)
  have HY := (show Hid _ from hY0)
  have hl' := (hB.cell (p := ⟨bl, 0, none⟩) hbl).trans hl
  have hh' := (hB.cell (p := ⟨bh, 0, none⟩) hbh).trans hh
  have h2 := uw_lt h
  have hp := hS.pos
  have hm := hS.most
  have hle := hS.le
  have hi64 := hS.i64
  have t3 : IntKind.i64.wrap ((S : Int) + 13) = (S : Int) + 13 := i64_small (by omega) (by omega)
  have HL := isLog_yes L hS.le W
  have HBG := begin_any hS h W
  have HS : Hid (Sz L S) := hS
  have HT0 : Hid (uw h % S = trl (uw h) L 0) := by show _ = _; rw [trl, hS.eq]
  rw [HT0.out] at HBG
  have hUW : ∀ k, trl (uw h) L k < S := fun k => by rw [← hS.eq]; exact trl_lt _ _ _
  have HLT := (show Hid _ from hUW)
  clear hS HJ0 HJX0 hY0 hl hh hUW
  refine callsIn_of_wp Tryz.func83 rfl trivial ?_ rfl
  simp only [Tryz.ntmps83, List.size_toArray, List.length_cons, List.length_nil, Nat.reduceAdd, Nat.reduceSub, Array.replicate_succ, Array.replicate_zero, List.push_toArray, List.append_toArray, List.nil_append, List.cons_append]
  gi_wp2_with fail
  refine ⟨trivial, rfl, (callsIn_wide.2 HL).mono ?_⟩
  rintro e w1 ⟨rfl, rfl⟩
  clear HL
  gi_wp2_with fail
  refine ⟨trivial, rfl, (callsIn_wide.2 HBG).mono ?_⟩
  rintro e w2 ⟨rfl, hB2⟩
  clear HBG
  gi_wp2_with fail
  obtain ⟨w3, hw3⟩ : ∃ x, w2.alloc (.cells #[.int .u64 ((trl (uw h) L 0 : Nat) : Int), .int .u64 ((uw h : Nat) : Int), .int .u64 ((S : Int) - 1)] 104) = x := ⟨_, rfl⟩
  have hW3 : Wk w3 w2.heap.size 0 (trl (uw h) L 0) (uw h) S := by rw [← hw3]; exact Wk.new _ _ _ _ _
  have hB3 : Below w1.heap.size w1 w3 := by rw [← hw3]; exact hB2.alloc hB2.size _
  have hb := hB2.size
  rw [hw3]
  clear hw3
  generalize w2.heap.size = b at *
  have HJ3 := HJ.out 0 _ _ J0 hB3
  gi_loopw [16] (fun iv wr => ∃ k : Nat, k ≤ S + 13 ∧ iv = .int .i64 (k : Int) ∧ J k wr ∧ Wk wr b 0 (trl (uw h) L k) (uw h / 32 ^ k) S) (fun iv _ => S + 13 - (intOf iv).toNat)
  case atStart => exact ⟨0, Nat.zero_le _, rfl, HJ3, by simpa using hW3⟩
  case round =>
    obtain ⟨k, hk, rfl, hJ, hWk⟩ := hrel
    by_cases hlt : k < S + 13
    · have t1 : (k : Int) < (S : Int) + 13 := by omega
      have hc := HLT.out k
      have hp64 : uw h / 32 ^ k < 18446744073709551616 := Nat.lt_of_le_of_lt (Nat.div_le_self _ _) h2
      have CC := cell_any b 0 (trl (uw h) L k) (by omega) wr hWk.c0
      obtain ⟨fn, tmps, assign, body, hy, hR⟩ := HY.out k wr hlt hJ
      have HX1 : Hid ((trl (uw h) L k * 5 + uw h / 32 ^ k / 32 + 1) % S = trl (uw h) L (k + 1)) := by show _ = _; rw [trl, HS.out.eq, left_step]
      have HX2 : Hid (uw h / 32 ^ k / 32 = uw h / 32 ^ (k + 1)) := left_step _ _
      gi_wp2_with fail
      refine ⟨trivial, rfl, (callsIn_wide.2 CC).mono ?_⟩
      rintro e w4 ⟨rfl, rfl⟩
      clear CC
      gi_wp2_with fail
      refine ⟨rfl, hR.mono ?_⟩
      clear hR hy
      rintro e w5 (⟨rfl, hJ5, hK5⟩ | ⟨rfl, hX5⟩)
      · have hWk5 := hWk.same (hK5.same b hb hWk.lt)
        have CS := step_any HS.out b 0 _ _ hc hp64 w5 hWk5.c0 hWk5.c1 hWk5.c2 (hWk5.fr 0) (hWk5.fr (0 + 1))
        rw [HX1.out, HX2.out] at CS
        have HW6 := (show Hid _ from hWk5.step (trl (uw h) L (k + 1)) (uw h / 32 ^ (k + 1)))
        have HJ6 := (show Hid _ from HJ.out (k + 1) _ _ hJ5 (stepW_below w5 b 0 (trl (uw h) L (k + 1)) (uw h / 32 ^ (k + 1)) hb))
        clear hWk5 hJ5 hK5 hWk
        generalize stepW w5 b 0 (trl (uw h) L (k + 1)) (uw h / 32 ^ (k + 1)) = w6 at *
        gi_wp2_with fail
        refine ⟨trivial, rfl, (callsIn_wide.2 CS).mono ?_⟩
        rintro e w7 ⟨rfl, rfl⟩
        clear CS
        gi_wp2_with fail
        go_roundw
        case rel => exact ⟨k + 1, by omega, by go_num, HJ6.out, HW6.out⟩
        case measure => simp [intOf]; omega
      · gi_wp2
        refine bodyPost_ret (v := .tuple #[]) (by simp [results, Tryz.results83, go_sem]) rfl ?_
        exact ⟨⟨_, rfl⟩, .inr ⟨k, hlt, hX5⟩⟩
    · obtain rfl : k = S + 13 := by omega
      have t1 : ¬ (((S + 13 : Nat) : Int)) < (S : Int) + 13 := by omega
      gi_wp2
      go_end0
      exact ⟨⟨_, rfl⟩, .inl hJ⟩
end Go.Proofs.YtjkggidcheagpaaGreat.Tr
