/-
  A range over a function whose rounds are counted: the iterator tells encs 0, encs 1, .. up to N of them, and may keep cells of its own, laid since it began. No program.
  The iterator of trail.All, where a range over a function goes through it.
  get and set of the rows of three widths.
  Get and Set.
  How cells stand behind later steps; newRow and New.
-/
import Derived.RangeFuncNested
import Derived.RangeFuncBound
import Derived.RangeFuncCalls
import Derived.Below
import Derived.Test.YtejfmajbggmghaaGreatGa
import Derived.OwnWalkIn
import Derived.TacticsInMore
import Derived.LoopNIn
import Derived.LoopIn
import Derived.Test.YtejfmajbggmghaaGreatCeTell
import Derived.Deep.CutRange
import Derived.Test.YtejfmajbggmghaaGreatCeBut
namespace Go.Proofs.YtejfmajbggmghaaGreat
open Go.RowKit

/-- What is said of a world hangs on the blocks below B alone. -/
def St (B : Nat) (J : Nat → World → Prop) : Prop := ∀ i A A', J i A → Below B A A' → J i A'
/-- What was laid from B on lies as it lay. -/
structure Since (B : Nat) (W W' : World) : Prop where
  size : W.heap.size ≤ W'.heap.size
  same : ∀ k, B ≤ k → k < W.heap.size → W'.heap[k]? = W.heap[k]?
theorem Since.refl (B : Nat) (W : World) : Since B W W := ⟨Nat.le_refl _, fun _ _ _ => rfl⟩
theorem Since.trans {B : Nat} {a b c : World} (h : Since B a b) (k : Since B b c) : Since B a c :=
  ⟨Nat.le_trans h.size k.size, fun i h1 h2 => (k.same i h1 (Nat.lt_of_lt_of_le h2 h.size)).trans (h.same i h1 h2)⟩
theorem Since.mono {B B' : Nat} {a b : World} (h : Since B a b) (hb : B ≤ B') : Since B' a b := ⟨h.size, fun i h1 h2 => h.same i (Nat.le_trans hb h1) h2⟩
theorem Since.below {B : Nat} {a b : World} (h : Below a.heap.size a b) : Since B a b := ⟨h.size, fun i _ h2 => h.block i h2⟩
theorem Since.setCell {B : Nat} {a b : World} (h : Since B a b) {p : Addr} (hp : p.block < B) (v : Value) : Since B a (b.setCell p v) :=
  h.trans ⟨by simp [World.setCell], fun k hk _ => Below.heap_setCell _ _ _ _ (by omega)⟩
theorem below_put {B : Nat} {W : World} {l : Nat} {o : Obj} (hl : B ≤ l) : Below B W (W.putObj l o) :=
  ⟨rfl, rfl, rfl, by simp, fun k hk => World.putObj_heap_other (by omega)⟩
theorem since_put {B : Nat} {W : World} {l : Nat} {o : Obj} (hl : l < B) : Since B W (W.putObj l o) :=
  ⟨by simp, fun k hk _ => World.putObj_heap_other (by omega)⟩
/-- An iterator that tells encs 0, encs 1, .. N of them, as long as what it reads is kept (Kp); it is called with args l, in which yield stands. -/
def SeqAt (P : Program) (gf : Nat) (args : Nat → Array Value) (encs : Nat → Array Value) (N : Nat) (Kp : World → Prop) (w : World) : Prop :=
  ∀ (l : Nat) (J Jx : Nat → World → Prop) (W : World), Below w.heap.size w W → St W.heap.size J → St W.heap.size Jx → (∀ i W1, J i W1 → Kp W1) →
    (∀ i W1, i < N → J i W1 → YieldAt Fence.wide 0 P l (encs i) W1 fun e W' => (e = .returned (.bool true) ∧ J (i + 1) W' ∧ Since W.heap.size W1 W') ∨ (e = .returned (.bool false) ∧ Jx i W')) →
    J 0 W → CallsIn Fence.wide 0 P gf (args l) W fun e W' => (∃ v, e = .returned v) ∧ (J N W' ∨ ∃ i, i < N ∧ Jx i W')
/-- The same of a closure. -/
def SeqIx (P : Program) (gf : Nat) (lb : Array Value) (encs : Nat → Array Value) (N : Nat) (w : World) : Prop := SeqAt P gf (fun l => #[.func (.yield l) #[] #[]] ++ lb) encs N (fun _ => True) w
/-- How a round may be left. -/
def ixPost (B N : Nat) (I : Nat → World → Prop) (Ix : Code → Nat → World → Prop) (i : Nat) (W : World) : Exit → Act → World → Prop
  | .normal, _, W' => Since B W W' ∧ I (i + 1) W'
  | .ret, _, W' => Since B W W' ∧ i < N ∧ Ix .ret i W'
  | .exit id, _, W' => Since B W W' ∧ i < N ∧ Ix (.exit id) i W'
  | .goto t, _, W' => Since B W W' ∧ i < N ∧ Ix (.goto t) i W'
  | .panic _, _, _ => False
  | .outgrown, _, _ => False
theorem wpIn_range_at {P : Program} {g : Operand} {ps : Array Tmp} {assign body : Code} {Q : Exit → Act → World → Prop} {a : Act} {w : World}
    {gf : Nat} {args : Nat → Array Value} (dl : Nat → Deferred) (hres : ∀ l W, (resolve a.eval (rangeCall g l) 0).run P W = .ok (dl l) W) (hinv : ∀ l W, (invoke (dl l).target (dl l).args).run P W = .ok (.enter gf (args l)) W)
    {encs : Nat → Array Value} {N : Nat} {Kp : World → Prop} (hseq : SeqAt P gf args encs N Kp w) (hps : ∀ i, (encs i).size = ps.size)
    (I : Nat → World → Prop) (Ix : Code → Nat → World → Prop) (hI : St w.heap.size I) (hIx : ∀ c, St w.heap.size (Ix c)) (hIk : ∀ i W, I i W → Kp W) (h0 : I 0 w) (a₁ : Nat → Act)
    (hassign : ∀ (l i : Nat) (W : World) (K : Act → World → Prop), K (a₁ i) W →
      assign.wpIn (Fence.wide.inRound l) 0 P (Exit.then K (fun _ _ _ => False)) { tmps := (ps.zip (encs i)).foldl (fun t (p, v) => t.setIfInBounds p v) a.tmps, defers := [] } W)
    (hbody : ∀ (l i : Nat) (W : World), i < N → I i W → body.wpIn (Fence.wide.inRound l) 0 P (ixPost w.heap.size N I Ix i W) (a₁ i) W)
    (hdone : ∀ W, I N W → W.heap[w.heap.size]? = some (.deferred (some [])) → Q .normal { a with defers := { target := .collected w.heap.size, args := #[] } :: a.defers } W)
    (hstop : ∀ (c : Code) (i : Nat) (W : World), i < N → Ix c i W → W.heap[w.heap.size]? = some (.deferred (some [])) → c.wpIn Fence.wide 0 P Q { a with defers := { target := .collected w.heap.size, args := #[] } :: a.defers } W) :
    (Code.rangeFunc g ps assign body).wpIn Fence.wide 0 P Q a w := by
  refine wpIn_rangeFunc ?_
  intro fn hfn
  show ∃ l mark w₁ d w₁' f args w₂, (Instr.enterLoop fn a.tmps ps assign body none).run P w = _ ∧ _
  obtain ⟨rec, hrec⟩ : ∃ rec : LoopState → Option Code → Loop, rec = fun st pe => { state := st, pending := pe, fn, tmps := a.tmps, params := ps, assign, body, defers := w.heap.size } := ⟨_, rfl⟩
  obtain ⟨W1, hW1⟩ : ∃ W1, (w.alloc (.deferred (some []))).alloc (.loop (rec .ready none)) = W1 := ⟨_, rfl⟩
  have hL1 : W1.heap[w.heap.size + 1]? = some (.loop (rec .ready none)) := by
    rw [← hW1]; have := World.alloc_heap_new (w.alloc (.deferred (some []))) (.loop (rec .ready none)); rwa [World.size_alloc] at this
  have hK1 : W1.heap[w.heap.size]? = some (.deferred (some [])) := by
    rw [← hW1]; exact (Below.heap_alloc _ _ _ (by simp)).trans (World.alloc_heap_new w _)
  have hb1 : Below w.heap.size w W1 := by
    rw [← hW1]; exact ((Below.refl _ w).alloc (Nat.le_refl _) _).alloc (by simp) _
  have hs1 : W1.heap.size = w.heap.size + 2 := by rw [← hW1]; simp
  refine ⟨w.heap.size + 1, [{ target := .collected w.heap.size, args := #[] }], W1, dl (w.heap.size + 1), W1, gf,
    args (w.heap.size + 1), W1, ?_, hres _ _, ?_, hinv _ _, fun h => by simp [Fence.wide] at h, ?_⟩
  · rw [← hW1, hrec]; exact run_enterLoop_outer _ _ _ _ _
  · intro f' _; trivial
  · refine (hseq (w.heap.size + 1)
      (fun i W => I i W ∧ W.heap[w.heap.size + 1]? = some (.loop (rec .ready none)) ∧ W.heap[w.heap.size]? = some (.deferred (some [])))
      (fun i W => ∃ c, Ix c i W ∧ W.heap[w.heap.size + 1]? = some (.loop (rec .done (some c))) ∧ W.heap[w.heap.size]? = some (.deferred (some [])))
      W1 hb1 ?_ ?_ (fun i W h => hIk i W h.1) ?_ ⟨hI 0 w W1 h0 hb1, hL1, hK1⟩).mono ?_
    · rintro i A A' ⟨h1, h2, h3⟩ hb
      exact ⟨hI i A A' h1 (hb.mono (by omega)), (hb.block _ (by omega)).trans h2, (hb.block _ (by omega)).trans h3⟩
    · rintro i A A' ⟨c, h1, h2, h3⟩ hb
      exact ⟨c, hIx c i A A' h1 (hb.mono (by omega)), (hb.block _ (by omega)).trans h2, (hb.block _ (by omega)).trans h3⟩
    · rintro i W hi ⟨hJ, hl, hk⟩
      have hlt : w.heap.size + 1 < W.heap.size := (Array.getElem?_eq_some_iff.1 hl).1
      have hy := run_yield (P := P) (args := encs i) hl (by rw [hrec]; exact hps i)
      rw [hrec] at hy
      refine ⟨fn, _, assign, body, hy, roundIn_of_wpIn hfn (hassign _ i W _ ⟨_, run_beginRound hl (by rw [hrec]), ?_⟩)⟩
      have hl2 : (W.putObj (w.heap.size + 1) (.loop { rec .ready none with state := .busy })).heap[w.heap.size + 1]? = some (.loop { rec .ready none with state := .busy }) := World.putObj_heap_same hlt
      have hk2 : (W.putObj (w.heap.size + 1) (.loop { rec .ready none with state := .busy })).heap[w.heap.size]? = some (.deferred (some [])) := (World.putObj_heap_other (by omega)).trans hk
      refine wpIn_mono (hbody _ i _ hi (hI i W _ hJ (below_put (by omega)))) ?_
      have fin : ∀ (jump : Option Code) (W3 : World), Since w.heap.size (W.putObj (w.heap.size + 1) (.loop { rec .ready none with state := .busy })) W3 →
          (Instr.endRound (w.heap.size + 1) jump).run P W3 = .ok (.bool jump.isNone) (W3.putObj (w.heap.size + 1) (.loop (rec (if jump.isNone then .ready else .done) jump))) ∧
          (W3.putObj (w.heap.size + 1) (.loop (rec (if jump.isNone then .ready else .done) jump))).heap[w.heap.size + 1]? = some (.loop (rec (if jump.isNone then .ready else .done) jump)) ∧
          (W3.putObj (w.heap.size + 1) (.loop (rec (if jump.isNone then .ready else .done) jump))).heap[w.heap.size]? = some (.deferred (some [])) := fun jump W3 hk3 => by
        have hl3 := (hk3.same (w.heap.size + 1) (by omega) (by simpa using hlt)).trans hl2
        have := run_endRound (P := P) jump hl3
        rw [hrec] at this ⊢
        exact ⟨this, World.putObj_heap_same (Array.getElem?_eq_some_iff.1 hl3).1, (World.putObj_heap_other (by omega)).trans ((hk3.same w.heap.size (Nat.le_refl _) (by simp; omega)).trans hk2)⟩
      rintro e a3 W3 hp
      cases e with
      | normal =>
        obtain ⟨hk3, hi3⟩ := hp
        obtain ⟨hr, hl4, hk4⟩ := fin none W3 hk3
        refine ⟨_, _, hr, .inl ⟨rfl, ⟨hI _ _ _ hi3 (below_put (by omega)), hl4, hk4⟩, ?_⟩⟩
        exact ((since_put (by omega)).trans (hk3.mono (by omega))).trans (since_put (by omega))
      | ret =>
        obtain ⟨hk3, _, hi3⟩ := hp
        obtain ⟨hr, hl4, hk4⟩ := fin (some .ret) W3 hk3
        exact ⟨_, _, hr, .inr ⟨rfl, .ret, hIx _ _ _ _ hi3 (below_put (by omega)), hl4, hk4⟩⟩
      | exit id =>
        obtain ⟨hk3, _, hi3⟩ := hp
        obtain ⟨hr, hl4, hk4⟩ := fin (some (.exit id)) W3 hk3
        exact ⟨_, _, hr, .inr ⟨rfl, .exit id, hIx _ _ _ _ hi3 (below_put (by omega)), hl4, hk4⟩⟩
      | goto t =>
        obtain ⟨hk3, _, hi3⟩ := hp
        obtain ⟨hr, hl4, hk4⟩ := fin (some (.goto t)) W3 hk3
        exact ⟨_, _, hr, .inr ⟨rfl, .goto t, hIx _ _ _ _ hi3 (below_put (by omega)), hl4, hk4⟩⟩
      | panic ch => exact hp.elim
      | outgrown => exact hp.elim
    · rintro e W2 ⟨⟨v, rfl⟩, (⟨hi, hl, hk⟩ | ⟨i, hiN, c, hi, hl, hk⟩)⟩
      · exact ⟨none, _, by have := run_endLoop (P := P) hl (by rw [hrec]; simp); rw [hrec] at this; exact this, hdone _ (hI _ _ _ hi (below_put (by omega))) ((World.putObj_heap_other (by omega)).trans hk)⟩
      · exact ⟨some c, _, by have := run_endLoop (P := P) hl (by rw [hrec]; simp); rw [hrec] at this; exact this, hstop c i _ hiN (hIx c _ _ _ hi (below_put (by omega))) ((World.putObj_heap_other (by omega)).trans hk)⟩
theorem wpIn_range_ix {P : Program} {g : Operand} {ps : Array Tmp} {assign body : Code} {Q : Exit → Act → World → Prop} {a : Act} {w : World}
    {gf : Nat} {lb : Array Value} (hg : a.eval g = .func (.func gf) #[] lb) (eg : ∀ args w, (callFunc gf args).run P w = .ok (.enter gf args) w)
    {encs : Nat → Array Value} {N : Nat} (hseq : SeqIx P gf lb encs N w) (hps : ∀ i, (encs i).size = ps.size)
    (I : Nat → World → Prop) (Ix : Code → Nat → World → Prop) (hI : St w.heap.size I) (hIx : ∀ c, St w.heap.size (Ix c)) (h0 : I 0 w) (a₁ : Nat → Act)
    (hassign : ∀ (l i : Nat) (W : World) (K : Act → World → Prop), K (a₁ i) W →
      assign.wpIn (Fence.wide.inRound l) 0 P (Exit.then K (fun _ _ _ => False)) { tmps := (ps.zip (encs i)).foldl (fun t (p, v) => t.setIfInBounds p v) a.tmps, defers := [] } W)
    (hbody : ∀ (l i : Nat) (W : World), i < N → I i W → body.wpIn (Fence.wide.inRound l) 0 P (ixPost w.heap.size N I Ix i W) (a₁ i) W)
    (hdone : ∀ W, I N W → W.heap[w.heap.size]? = some (.deferred (some [])) → Q .normal { a with defers := { target := .collected w.heap.size, args := #[] } :: a.defers } W)
    (hstop : ∀ (c : Code) (i : Nat) (W : World), i < N → Ix c i W → W.heap[w.heap.size]? = some (.deferred (some [])) → c.wpIn Fence.wide 0 P Q { a with defers := { target := .collected w.heap.size, args := #[] } :: a.defers } W) :
    (Code.rangeFunc g ps assign body).wpIn Fence.wide 0 P Q a w :=
  wpIn_range_at (fun l => { target := .fn (.func gf) lb, args := #[.func (.yield l) #[] #[]] }) (fun l W => by simp only [resolve, hg]; simp [go_sem]) (fun l W => by simp [invoke, go_sem, eg]) hseq hps I Ix hI hIx (fun _ _ _ => trivial) h0 a₁ hassign hbody hdone hstop
end Go.Proofs.YtejfmajbggmghaaGreat
namespace Go.Proofs.YtejfmajbggmghaaGreat.Tr
open Go.RowKit Go.WideShapes
attribute [local go_sem] Oper.semAt_some

/-- The two blocks that All lays: the log, the hash. -/
theorem all_new (h l : Int) (w : World) :
    Calls Tryz.prog 106 #[.int .i64 h, .int .i64 l] w fun e w' => e = .returned (.func (.func 116) #[] #[.pointer (some ⟨w.heap.size + 1, 0, none⟩), .pointer (some ⟨w.heap.size, 0, none⟩)]) ∧ w' = (w.alloc (.cells #[.int .i64 h] 3)).alloc (.cells #[.int .i64 l] 3) := by
  have hmf : ∀ (fn : Fn) (first cap : Array Value) (w : World), (Instr.makeFunc fn first cap).run Tryz.prog w = .ok (.func fn first cap) w := fun _ _ _ _ => rfl
  go_enter Tryz.func106, Tryz.ntmps106
  go_wp2
  go_ret
  exact ⟨by simp, rfl⟩
/-- A walk in memory. -/
structure Wk (w : World) (b o c p S : Nat) : Prop where
  c0 : w.cell? ⟨b, o, none⟩ = some (.int .u64 (c : Int))
  c1 : w.cell? ⟨b, o + 1, none⟩ = some (.int .u64 (p : Int))
  c2 : w.cell? ⟨b, o + 2, none⟩ = some (.int .u64 ((S : Int) - 1))
  fr : ∀ j, w.frozen? ⟨b, j, none⟩ = false
theorem Wk.same {w w' : World} {b o c p S : Nat} (h : Wk w b o c p S) (e : w'.heap[b]? = w.heap[b]?) : Wk w' b o c p S :=
  ⟨(World.cell?_of_block (a := ⟨b, o, none⟩) e).trans h.c0, (World.cell?_of_block (a := ⟨b, o + 1, none⟩) e).trans h.c1, (World.cell?_of_block (a := ⟨b, o + 2, none⟩) e).trans h.c2, fun j => (World.frozen?_of_block (a := ⟨b, j, none⟩) e).trans (h.fr j)⟩
theorem Wk.new (w : World) (c p S : Nat) (t : TypeId) : Wk (w.alloc (.cells #[.int .u64 (c : Int), .int .u64 (p : Int), .int .u64 ((S : Int) - 1)] t)) w.heap.size 0 c p S := by
  constructor <;> first | exact fun j => World.frozen?_alloc_at _ _ _ _ rfl | (rw [World.cell?_alloc_at _ _ _ _ rfl]; rfl)
theorem Wk.lt {w : World} {b o c p S : Nat} (h : Wk w b o c p S) : b < w.heap.size := by
  by_cases hb : b < w.heap.size
  · exact hb
  · have := h.c0
    rw [World.cell?, Array.getElem?_eq_none (Nat.le_of_not_lt hb)] at this
    exact absurd this (by simp)
theorem Wk.step {w : World} {b o c p S : Nat} (h : Wk w b o c p S) (c' p' : Nat) : Wk (stepW w b o c' p') b o c' p' S := by
  unfold stepW
  refine ⟨?_, ?_, ?_, fun j => ?_⟩
  · show World.cell? (World.setCell _ _ _) _ = _
    exact World.cell?_setCell_same' _ _ _ (by rw [World.cell?_setCell_other _ _ _ _ (by intro he; injection he with h1 h2; omega), h.c0]; rfl)
  · show World.cell? (World.setCell _ _ _) _ = _
    rw [World.cell?_setCell_other _ _ _ _ (by intro he; injection he with h1 h2; omega)]
    exact World.cell?_setCell_same' _ _ _ (by rw [h.c1]; rfl)
  · show World.cell? (World.setCell _ _ _) _ = _
    rw [World.cell?_setCell_other _ _ _ _ (by intro he; injection he with h1 h2; omega), World.cell?_setCell_other _ _ _ _ (by intro he; injection he with h1 h2; omega)]
    exact h.c2
  · show World.frozen? (World.setCell _ _ _) _ = _
    rw [World.frozen?_setCell, World.frozen?_setCell]
    exact h.fr j
theorem stepW_below {B : Nat} (w : World) (b o c p : Nat) (hb : B ≤ b) : Below B w (stepW w b o c p) := by
  unfold stepW
  exact (((Below.refl _ w).setCell (p := ⟨b, o + 1, none⟩) hb _).setCell (p := ⟨b, o, none⟩) hb _).drew
set_option maxRecDepth 100000 in
set_option maxHeartbeats 4000000 in
theorem seqix_any {L S : Nat} (hS : Sz L S) (h : Int) (bl bh : Nat) (w : World) (hbl : bl < w.heap.size) (hbh : bh < w.heap.size) (hl : w.cell? ⟨bl, 0, none⟩ = some (.int .i64 (L : Int))) (hh : w.cell? ⟨bh, 0, none⟩ = some (.int .i64 h)) :
    SeqIx Tryz.prog 116 #[.pointer (some ⟨bl, 0, none⟩), .pointer (some ⟨bh, 0, none⟩)] (fun i => #[.int .i64 ((trl (uw h) L i : Nat) : Int)]) (S + 13) w := by
  intro l J Jx W hB HJ0 HJX0 _ hY0 J0
  have HJ := (show Hid _ from HJ0)
  have HY := (show Hid _ from hY0)
  have hl' := (hB.cell (p := ⟨bl, 0, none⟩) hbl).trans hl
  have hh' := (hB.cell (p := ⟨bh, 0, none⟩) hbh).trans hh
  have h2 := uw_lt h
  have hp := hS.pos
  have hm := hS.most
  have hle := hS.le
  have hi64 := hS.i64
  have t3 : IntKind.i64.wrap ((S : Int) + 13) = (S : Int) + 13 := i64_small (by omega) (by omega)
  have HL := isLog_yes L hS.le W
  have HBG := begin_any hS h W
  have HS : Hid (Sz L S) := hS
  have HT0 : Hid (uw h % S = trl (uw h) L 0) := by show _ = _; rw [trl, hS.eq]
  rw [HT0.out] at HBG
  have hUW : ∀ k, trl (uw h) L k < S := fun k => by rw [← hS.eq]; exact trl_lt _ _ _
  have HLT := (show Hid _ from hUW)
  clear hS HJ0 HJX0 hY0 hl hh hUW
  refine callsIn_of_wp Tryz.func116 rfl trivial ?_ rfl
  simp only [Tryz.ntmps116, List.size_toArray, List.length_cons, List.length_nil, Nat.reduceAdd, Nat.reduceSub, Array.replicate_succ, Array.replicate_zero, List.push_toArray, List.append_toArray, List.nil_append, List.cons_append]
  gi_wp2_with fail
  refine ⟨trivial, rfl, (callsIn_wide.2 HL).mono ?_⟩
  rintro e w1 ⟨rfl, rfl⟩
  clear HL
  gi_wp2_with fail
  refine ⟨trivial, rfl, (callsIn_wide.2 HBG).mono ?_⟩
  rintro e w2 ⟨rfl, hB2⟩
  clear HBG
  gi_wp2_with fail
  obtain ⟨w3, hw3⟩ : ∃ x, w2.alloc (.cells #[.int .u64 ((trl (uw h) L 0 : Nat) : Int), .int .u64 ((uw h : Nat) : Int), .int .u64 ((S : Int) - 1)] 129) = x := ⟨_, rfl⟩
  have hW3 : Wk w3 w2.heap.size 0 (trl (uw h) L 0) (uw h) S := by rw [← hw3]; exact Wk.new _ _ _ _ _
  have hB3 : Below w1.heap.size w1 w3 := by rw [← hw3]; exact hB2.alloc hB2.size _
  have hb := hB2.size
  rw [hw3]
  clear hw3
  generalize w2.heap.size = b at *
  have HJ3 := HJ.out 0 _ _ J0 hB3
  gi_loopw [16] (fun iv wr => ∃ k : Nat, k ≤ S + 13 ∧ iv = .int .i64 (k : Int) ∧ J k wr ∧ Wk wr b 0 (trl (uw h) L k) (uw h / 32 ^ k) S) (fun iv _ => S + 13 - (intOf iv).toNat)
  case atStart => exact ⟨0, Nat.zero_le _, rfl, HJ3, by simpa using hW3⟩
  case round =>
    obtain ⟨k, hk, rfl, hJ, hWk⟩ := hrel
    by_cases hlt : k < S + 13
    · have t1 : (k : Int) < (S : Int) + 13 := by omega
      have hc := HLT.out k
      have hp64 : uw h / 32 ^ k < 18446744073709551616 := Nat.lt_of_le_of_lt (Nat.div_le_self _ _) h2
      have CC := cell_any b 0 (trl (uw h) L k) (by omega) wr hWk.c0
      obtain ⟨fn, tmps, assign, body, hy, hR⟩ := HY.out k wr hlt hJ
      have HX1 : Hid ((trl (uw h) L k * 5 + uw h / 32 ^ k / 32 + 1) % S = trl (uw h) L (k + 1)) := by show _ = _; rw [trl, HS.out.eq, left_step]
      have HX2 : Hid (uw h / 32 ^ k / 32 = uw h / 32 ^ (k + 1)) := left_step _ _
      gi_wp2_with fail
      refine ⟨trivial, rfl, (callsIn_wide.2 CC).mono ?_⟩
      rintro e w4 ⟨rfl, rfl⟩
      clear CC
      gi_wp2_with fail
      refine ⟨rfl, hR.mono ?_⟩
      clear hR hy
      rintro e w5 (⟨rfl, hJ5, hK5⟩ | ⟨rfl, hX5⟩)
      · have hWk5 := hWk.same (hK5.same b hb hWk.lt)
        have CS := step_any HS.out b 0 _ _ hc hp64 w5 hWk5.c0 hWk5.c1 hWk5.c2 (hWk5.fr 0) (hWk5.fr (0 + 1))
        rw [HX1.out, HX2.out] at CS
        have HW6 := (show Hid _ from hWk5.step (trl (uw h) L (k + 1)) (uw h / 32 ^ (k + 1)))
        have HJ6 := (show Hid _ from HJ.out (k + 1) _ _ hJ5 (stepW_below w5 b 0 (trl (uw h) L (k + 1)) (uw h / 32 ^ (k + 1)) hb))
        clear hWk5 hJ5 hK5 hWk
        generalize stepW w5 b 0 (trl (uw h) L (k + 1)) (uw h / 32 ^ (k + 1)) = w6 at *
        gi_wp2_with fail
        refine ⟨trivial, rfl, (callsIn_wide.2 CS).mono ?_⟩
        rintro e w7 ⟨rfl, rfl⟩
        clear CS
        gi_wp2_with fail
        go_roundw
        case rel => exact ⟨k + 1, by omega, by go_num, HJ6.out, HW6.out⟩
        case measure => simp [intOf]; omega
      · gi_wp2
        refine bodyPost_ret (v := .tuple #[]) (by simp [results, Tryz.results116, go_sem]) rfl ?_
        exact ⟨⟨_, rfl⟩, .inr ⟨k, hlt, hX5⟩⟩
    · obtain rfl : k = S + 13 := by omega
      have t1 : ¬ (((S + 13 : Nat) : Int)) < (S : Int) + 13 := by omega
      gi_wp2
      go_end0
      exact ⟨⟨_, rfl⟩, .inl hJ⟩
end Go.Proofs.YtejfmajbggmghaaGreat.Tr
namespace Go.Proofs.YtejfmajbggmghaaGreat
open Go.RowKit Go.WideShapes

theorem get8 {w : World} {r h W S cap : Nat} {f : Nat → Int} (hR : Rw w r h .i8 W S cap f) (i : Nat) (hi : i < S) (hf : -2147483648 ≤ f i ∧ f i < 2147483648) :
    Calls Tryz.prog 151 #[.pointer (some ⟨r, 0, none⟩), .int .i64 (i : Int)] w fun e w' => e = .returned (.int .i64 (f i)) ∧ w' = w := by
  have h1 := hR.r1
  have h2 := hR.hc i hi
  have h3 : IntKind.i64.wrap (f i) = f i := i64_small (by omega) (by omega)
  have h4 : (i : Int) < (S : Int) := by omega
  have h5 := hR.le
  clear hR
  generalize f i = v at *
  go_enter Tryz.func151, Tryz.ntmps151
  go_wp2
  go_ret
  exact ⟨rfl, rfl⟩
theorem set8 {w : World} {r h W S cap : Nat} {f : Nat → Int} (hR : Rw w r h .i8 W S cap f) (i : Nat) (hi : i < S) (v : Int) (hv : IntKind.i8.wrap v = v) :
    Calls Tryz.prog 153 #[.pointer (some ⟨r, 0, none⟩), .int .i64 (i : Int), .int .i64 v] w fun e w' => e = .returned (.tuple #[]) ∧ w' = w.setCell ⟨h, i, none⟩ (.int .i8 v) := by
  have h1 := hR.r1
  have h2 := hR.hc i hi
  have h3 := hR.hz i
  have h4 : (i : Int) < (S : Int) := by omega
  have h5 := hR.le
  clear hR
  go_enter Tryz.func153, Tryz.ntmps153
  go_wp2
  go_end0
  exact ⟨rfl, rfl⟩
theorem get16 {w : World} {r h W S cap : Nat} {f : Nat → Int} (hR : Rw w r h .i16 W S cap f) (i : Nat) (hi : i < S) (hf : -2147483648 ≤ f i ∧ f i < 2147483648) :
    Calls Tryz.prog 157 #[.pointer (some ⟨r, 0, none⟩), .int .i64 (i : Int)] w fun e w' => e = .returned (.int .i64 (f i)) ∧ w' = w := by
  have h1 := hR.r1
  have h2 := hR.hc i hi
  have h3 : IntKind.i64.wrap (f i) = f i := i64_small (by omega) (by omega)
  have h4 : (i : Int) < (S : Int) := by omega
  have h5 := hR.le
  clear hR
  generalize f i = v at *
  go_enter Tryz.func157, Tryz.ntmps157
  go_wp2
  go_ret
  exact ⟨rfl, rfl⟩
theorem set16 {w : World} {r h W S cap : Nat} {f : Nat → Int} (hR : Rw w r h .i16 W S cap f) (i : Nat) (hi : i < S) (v : Int) (hv : IntKind.i16.wrap v = v) :
    Calls Tryz.prog 159 #[.pointer (some ⟨r, 0, none⟩), .int .i64 (i : Int), .int .i64 v] w fun e w' => e = .returned (.tuple #[]) ∧ w' = w.setCell ⟨h, i, none⟩ (.int .i16 v) := by
  have h1 := hR.r1
  have h2 := hR.hc i hi
  have h3 := hR.hz i
  have h4 : (i : Int) < (S : Int) := by omega
  have h5 := hR.le
  clear hR
  go_enter Tryz.func159, Tryz.ntmps159
  go_wp2
  go_end0
  exact ⟨rfl, rfl⟩
theorem get32 {w : World} {r h W S cap : Nat} {f : Nat → Int} (hR : Rw w r h .i32 W S cap f) (i : Nat) (hi : i < S) (hf : -2147483648 ≤ f i ∧ f i < 2147483648) :
    Calls Tryz.prog 163 #[.pointer (some ⟨r, 0, none⟩), .int .i64 (i : Int)] w fun e w' => e = .returned (.int .i64 (f i)) ∧ w' = w := by
  have h1 := hR.r1
  have h2 := hR.hc i hi
  have h3 : IntKind.i64.wrap (f i) = f i := i64_small (by omega) (by omega)
  have h4 : (i : Int) < (S : Int) := by omega
  have h5 := hR.le
  clear hR
  generalize f i = v at *
  go_enter Tryz.func163, Tryz.ntmps163
  go_wp2
  go_ret
  exact ⟨rfl, rfl⟩
theorem set32 {w : World} {r h W S cap : Nat} {f : Nat → Int} (hR : Rw w r h .i32 W S cap f) (i : Nat) (hi : i < S) (v : Int) (hv : IntKind.i32.wrap v = v) :
    Calls Tryz.prog 165 #[.pointer (some ⟨r, 0, none⟩), .int .i64 (i : Int), .int .i64 v] w fun e w' => e = .returned (.tuple #[]) ∧ w' = w.setCell ⟨h, i, none⟩ (.int .i32 v) := by
  have h1 := hR.r1
  have h2 := hR.hc i hi
  have h3 := hR.hz i
  have h4 : (i : Int) < (S : Int) := by omega
  have h5 := hR.le
  clear hR
  go_enter Tryz.func165, Tryz.ntmps165
  go_wp2
  go_end0
  exact ⟨rfl, rfl⟩
theorem row_get {w : World} {r h W S cap L : Nat} {f : Nat → Int} (hR : Rw w r h (kd L) W S cap f) (i : Nat) (hi : i < S) (hf : -2147483648 ≤ f i ∧ f i < 2147483648) :
    Calls Tryz.prog (getF L) #[.pointer (some ⟨r, 0, none⟩), .int .i64 (i : Int)] w fun e w' => e = .returned (.int .i64 (f i)) ∧ w' = w := by
  rcases L_cases L with h1 | ⟨h1, h2⟩ | ⟨h1, h2⟩
  · rw [show kd L = .i8 by simp [kd, h1]] at hR
    rw [show getF L = 151 by simp [getF, h1]]
    exact get8 hR i hi hf
  · rw [show kd L = .i16 by simp [kd, h1, h2]] at hR
    rw [show getF L = 157 by simp [getF, h1, h2]]
    exact get16 hR i hi hf
  · rw [show kd L = .i32 by simp [kd, h1, h2]] at hR
    rw [show getF L = 163 by simp [getF, h1, h2]]
    exact get32 hR i hi hf
theorem row_set {w : World} {r h W S cap L : Nat} {f : Nat → Int} (hR : Rw w r h (kd L) W S cap f) (i : Nat) (hi : i < S) (v : Int) (hv : (kd L).wrap v = v) :
    Calls Tryz.prog (setF L) #[.pointer (some ⟨r, 0, none⟩), .int .i64 (i : Int), .int .i64 v] w fun e w' => e = .returned (.tuple #[]) ∧ w' = w.setCell ⟨h, i, none⟩ (.int (kd L) v) := by
  rcases L_cases L with h1 | ⟨h1, h2⟩ | ⟨h1, h2⟩
  · rw [show kd L = .i8 by simp [kd, h1]] at hR hv ⊢
    rw [show setF L = 153 by simp [setF, h1]]
    exact set8 hR i hi v hv
  · rw [show kd L = .i16 by simp [kd, h1, h2]] at hR hv ⊢
    rw [show setF L = 159 by simp [setF, h1, h2]]
    exact set16 hR i hi v hv
  · rw [show kd L = .i32 by simp [kd, h1, h2]] at hR hv ⊢
    rw [show setF L = 165 by simp [setF, h1, h2]]
    exact set32 hR i hi v hv
end Go.Proofs.YtejfmajbggmghaaGreat
namespace Go.Proofs.YtejfmajbggmghaaGreat
open Go.RowKit Go.WideShapes

theorem by_L (L : Nat) {P : Prop} (h1 : L ≤ 7 → P) (h2 : ¬ L ≤ 7 → L ≤ 15 → P) (h3 : ¬ L ≤ 7 → ¬ L ≤ 15 → P) : P := by
  rcases L_cases L with a | ⟨a, b⟩ | ⟨a, b⟩
  · exact h1 a
  · exact h2 a b
  · exact h3 a b
theorem m_get (L : Nat) (a : Option Addr) (w : World) : (method 327 (rty L) (.pointer a) "lexicon/cells.get").run Tryz.prog w = .ok (getF L, .pointer a) w :=
  by_L L (fun h => by simp only [rty, getF, if_pos h]; kernel_rfl) (fun h k => by simp only [rty, getF, if_neg h, if_pos k]; kernel_rfl) (fun h k => by simp only [rty, getF, if_neg h, if_neg k]; kernel_rfl)
theorem e_get (L : Nat) (args : Array Value) (w : World) : (callFunc (getF L) args).run Tryz.prog w = .ok (.enter (getF L) args) w :=
  by_L L (fun h => by simp only [getF, if_pos h]; exact Tryz.call151 _ _) (fun h k => by simp only [getF, if_neg h, if_pos k]; exact Tryz.call157 _ _) (fun h k => by simp only [getF, if_neg h, if_neg k]; exact Tryz.call163 _ _)
theorem m_set (L : Nat) (a : Option Addr) (w : World) : (method 327 (rty L) (.pointer a) "lexicon/cells.set").run Tryz.prog w = .ok (setF L, .pointer a) w :=
  by_L L (fun h => by simp only [rty, setF, if_pos h]; kernel_rfl) (fun h k => by simp only [rty, setF, if_neg h, if_pos k]; kernel_rfl) (fun h k => by simp only [rty, setF, if_neg h, if_neg k]; kernel_rfl)
theorem e_set (L : Nat) (args : Array Value) (w : World) : (callFunc (setF L) args).run Tryz.prog w = .ok (.enter (setF L) args) w :=
  by_L L (fun h => by simp only [setF, if_pos h]; exact Tryz.call153 _ _) (fun h k => by simp only [setF, if_neg h, if_pos k]; exact Tryz.call159 _ _) (fun h k => by simp only [setF, if_neg h, if_neg k]; exact Tryz.call165 _ _)
theorem m_copied (L : Nat) (a : Option Addr) (w : World) : (method 327 (rty L) (.pointer a) "lexicon/cells.copied").run Tryz.prog w = .ok (copiedF L, .pointer a) w :=
  by_L L (fun h => by simp only [rty, copiedF, if_pos h]; kernel_rfl) (fun h k => by simp only [rty, copiedF, if_neg h, if_pos k]; kernel_rfl) (fun h k => by simp only [rty, copiedF, if_neg h, if_neg k]; kernel_rfl)
theorem m_each (L : Nat) (a : Option Addr) (w : World) : (method 327 (rty L) (.pointer a) "lexicon/cells.each").run Tryz.prog w = .ok (eachF L, .pointer a) w :=
  by_L L (fun h => by simp only [rty, eachF, if_pos h]; kernel_rfl) (fun h k => by simp only [rty, eachF, if_neg h, if_pos k]; kernel_rfl) (fun h k => by simp only [rty, eachF, if_neg h, if_neg k]; kernel_rfl)

/-- What may be held fits. -/
theorem fits {L S : Nat} (hS : Sz L S) (v : Int) (h0 : -2 ≤ v) (h1 : v < ((rm S : Nat) : Int)) : (kd L).wrap v = v :=
  by_L L (fun h => by
      have := hS.most7 h
      rw [show kd L = .i8 by simp [kd, h], wrap_i8]
      unfold rm at h1
      omega)
    (fun h k => by
      have := hS.most15 k
      rw [show kd L = .i16 by simp [kd, h, k], wrap_i16]
      unfold rm at h1
      omega)
    (fun h k => by
      have := hS.most
      rw [show kd L = .i32 by simp [kd, h, k], IntKind.wrap_i32]
      unfold rm at h1
      omega)
theorem Cl.ints {w : World} {g r h L S : Nat} {f : Nat → Int} (hC : Cl w g r h L S f) (i : Nat) (hi : i < S) : -2147483648 ≤ f i ∧ f i < 2147483648 := by
  have h1 := hC.fit i hi
  have h2 := hC.sz.most
  unfold rm at h1
  omega

set_option maxRecDepth 100000 in
theorem getM_yes {w : World} {g r h L S : Nat} {f : Nat → Int} (hC : Cl w g r h L S f) (i : Nat) (hi : i < S) : Calls Tryz.prog 93 #[.pointer (some ⟨g, 0, none⟩), .int .i64 (i : Int)] w fun e w' => e = .returned (.tuple #[.int .i64 (f i), .int .i64 0]) ∧ w' = w := by
  have C1 := refuse_any hC i
  rw [show ixE S i = 0 by unfold ixE; rw [if_pos (by omega)]] at C1
  have h1 := hC.c1
  have C2 := row_get hC.rw i hi (hC.ints i hi)
  have hm := fun w => m_get L (some ⟨r, 0, none⟩) w
  have he := e_get L
  clear hC
  generalize getF L = Y at *
  generalize rty L = T at *
  go_enter Tryz.func93, Tryz.ntmps93
  go_wp2_with fail
  refine C1.mono ?_
  rintro e w1 ⟨rfl, rfl⟩
  clear C1
  go_wp2_with fail
  refine C2.mono ?_
  rintro e w1 ⟨rfl, rfl⟩
  clear C2
  go_wp2
  go_ret2
  exact ⟨rfl, rfl⟩
theorem getM_not {w : World} {g r h L S : Nat} {f : Nat → Int} (hC : Cl w g r h L S f) (i : Int) (hi : ¬ (0 ≤ i ∧ i < (S : Int))) : Calls Tryz.prog 93 #[.pointer (some ⟨g, 0, none⟩), .int .i64 i] w fun e w' => e = .returned (.tuple #[.int .i64 0, .int .i64 5]) ∧ w' = w := by
  have C1 := refuse_any hC i
  rw [show ixE S i = 5 by unfold ixE; rw [if_neg hi]] at C1
  clear hC
  go_enter Tryz.func93, Tryz.ntmps93
  go_wp2_with fail
  refine C1.mono ?_
  rintro e w1 ⟨rfl, rfl⟩
  clear C1
  go_wp2
  go_ret2
  exact ⟨rfl, rfl⟩
theorem setM_not {w : World} {g r h L S : Nat} {f : Nat → Int} (hC : Cl w g r h L S f) (i v : Int) (hi : ¬ (0 ≤ i ∧ i < (S : Int))) : Calls Tryz.prog 86 #[.pointer (some ⟨g, 0, none⟩), .int .i64 i, .int .i64 v] w fun e w' => e = .returned (.int .i64 5) ∧ w' = w := by
  have C1 := refuse_any hC i
  rw [show ixE S i = 5 by unfold ixE; rw [if_neg hi]] at C1
  clear hC
  go_enter Tryz.func86, Tryz.ntmps86
  go_wp2_with fail
  refine C1.mono ?_
  rintro e w1 ⟨rfl, rfl⟩
  clear C1
  go_wp2
  go_ret
  exact ⟨rfl, rfl⟩
theorem setM_bad {w : World} {g r h L S : Nat} {f : Nat → Int} (hC : Cl w g r h L S f) (i : Nat) (v : Int) (hi : i < S) (hv : may S v = false) : Calls Tryz.prog 86 #[.pointer (some ⟨g, 0, none⟩), .int .i64 (i : Int), .int .i64 v] w fun e w' => e = .returned (.int .i64 1) ∧ w' = w := by
  have C1 := refuse_any hC i
  rw [show ixE S i = 0 by unfold ixE; rw [if_pos (by omega)]] at C1
  have C2 := mayHold_any hC v
  rw [hv] at C2
  clear hC hv
  go_enter Tryz.func86, Tryz.ntmps86
  go_wp2_with fail
  refine C1.mono ?_
  rintro e w1 ⟨rfl, rfl⟩
  clear C1
  go_wp2_with fail
  refine C2.mono ?_
  rintro e w1 ⟨rfl, rfl⟩
  clear C2
  go_wp2
  go_ret
  exact ⟨rfl, rfl⟩
theorem setM_yes {w : World} {g r h L S : Nat} {f : Nat → Int} (hC : Cl w g r h L S f) (i : Nat) (v : Int) (hi : i < S) (hv : may S v = true) : Calls Tryz.prog 86 #[.pointer (some ⟨g, 0, none⟩), .int .i64 (i : Int), .int .i64 v] w fun e w' => e = .returned (.int .i64 0) ∧ w' = w.setCell ⟨h, i, none⟩ (.int (kd L) v) := by
  have C1 := refuse_any hC i
  rw [show ixE S i = 0 by unfold ixE; rw [if_pos (by omega)]] at C1
  have C2 := mayHold_any hC v
  rw [hv] at C2
  have hv' := of_decide_eq_true hv
  have h1 := hC.c1
  have C3 := row_set hC.rw i hi v (fits hC.sz v hv'.1 hv'.2)
  have hm := fun w => m_set L (some ⟨r, 0, none⟩) w
  have he := e_set L
  clear hC hv hv'
  generalize setF L = Y at *
  generalize rty L = T at *
  generalize kd L = K0 at *
  go_enter Tryz.func86, Tryz.ntmps86
  go_wp2_with fail
  refine C1.mono ?_
  rintro e w1 ⟨rfl, rfl⟩
  clear C1
  go_wp2_with fail
  refine C2.mono ?_
  rintro e w1 ⟨rfl, rfl⟩
  clear C2
  go_wp2_with fail
  refine C3.mono ?_
  rintro e w2 ⟨rfl, rfl⟩
  clear C3
  go_wp2
  go_ret
  exact ⟨rfl, rfl⟩
end Go.Proofs.YtejfmajbggmghaaGreat
namespace Go.Proofs.YtejfmajbggmghaaGreat
open Go.RowKit Go.WideShapes

theorem Rw.same {w w' : World} {r h W S cap : Nat} {k : IntKind} {f : Nat → Int} (hR : Rw w r h k W S cap f) (e1 : w'.heap[r]? = w.heap[r]?) (e2 : w'.heap[h]? = w.heap[h]?) : Rw w' r h k W S cap f :=
  ⟨(World.cell?_of_block (a := ⟨r, 0, none⟩) e1).trans hR.r0, (World.cell?_of_block (a := ⟨r, 1, none⟩) e1).trans hR.r1, hR.le, fun j hj => (World.cell?_of_block (a := ⟨h, j, none⟩) e2).trans (hR.hc j hj), fun j => (World.frozen?_of_block (a := ⟨h, j, none⟩) e2).trans (hR.hz j)⟩
theorem Cl.same {w w' : World} {g r h L S : Nat} {f : Nat → Int} (hC : Cl w g r h L S f) (e0 : w'.heap[g]? = w.heap[g]?) (e1 : w'.heap[r]? = w.heap[r]?) (e2 : w'.heap[h]? = w.heap[h]?) : Cl w' g r h L S f :=
  ⟨(World.cell?_of_block (a := ⟨g, 0, none⟩) e0).trans hC.c0, (World.cell?_of_block (a := ⟨g, 1, none⟩) e0).trans hC.c1, hC.rw.same e1 e2, hC.sz, hC.fit⟩
theorem Rw.lt {w : World} {r h W S cap : Nat} {k : IntKind} {f : Nat → Int} (hR : Rw w r h k W S cap f) (hS : 0 < S) : r < w.heap.size ∧ h < w.heap.size := ⟨lt_of_cell hR.r0, lt_of_cell (hR.hc 0 hS)⟩
theorem Cl.lt {w : World} {g r h L S : Nat} {f : Nat → Int} (hC : Cl w g r h L S f) : g < w.heap.size ∧ r < w.heap.size ∧ h < w.heap.size :=
  ⟨lt_of_cell hC.c0, hC.rw.lt (by have := hC.sz.pos; omega)⟩
theorem Rw.below {w w' : World} {r h W S cap : Nat} {k : IntKind} {f : Nat → Int} (hR : Rw w r h k W S cap f) (hS : 0 < S) (hb : Below w.heap.size w w') : Rw w' r h k W S cap f :=
  hR.same (hb.block _ (hR.lt hS).1) (hb.block _ (hR.lt hS).2)
theorem Cl.below {w w' : World} {g r h L S : Nat} {f : Nat → Int} (hC : Cl w g r h L S f) (hb : Below w.heap.size w w') : Cl w' g r h L S f :=
  hC.same (hb.block _ hC.lt.1) (hb.block _ hC.lt.2.1) (hb.block _ hC.lt.2.2)
theorem kd_ne (L : Nat) (x y : Int) : Value.int (kd L) x ≠ Value.int .i64 y :=
  by_L L (fun h => by simp [kd, h]) (fun h k => by simp [kd, h, k]) (fun h k => by simp [kd, h, k])
theorem Cl.ne {w : World} {g r h L S : Nat} {f : Nat → Int} (hC : Cl w g r h L S f) : g ≠ h ∧ r ≠ h ∧ g ≠ r := by
  have h0 := hC.rw.hc 0 (by have := hC.sz.pos; omega)
  refine ⟨fun e => ?_, fun e => ?_, fun e => ?_⟩
  · subst e
    rw [hC.c0] at h0
    exact kd_ne L _ _ (Option.some.inj h0).symm
  · subst e
    rw [hC.rw.r0] at h0
    exact kd_ne L _ _ (Option.some.inj h0).symm
  · subst e
    have h1 := hC.c1
    rw [hC.rw.r1] at h1
    exact absurd h1 (by simp)
theorem Rw.put {w : World} {r h W S cap : Nat} {k : IntKind} {f : Nat → Int} (hR : Rw w r h k W S cap f) (hrh : r ≠ h) (i : Nat) (hi : i < S) (v : Int) : Rw (w.setCell ⟨h, i, none⟩ (.int k v)) r h k W S cap (upd f i v) := by
  have e1 : (w.setCell ⟨h, i, none⟩ (.int k v)).heap[r]? = w.heap[r]? := Below.heap_setCell _ _ _ _ hrh
  refine ⟨(World.cell?_of_block (a := ⟨r, 0, none⟩) e1).trans hR.r0, (World.cell?_of_block (a := ⟨r, 1, none⟩) e1).trans hR.r1, hR.le, fun j hj => ?_, fun j => by rw [World.frozen?_setCell]; exact hR.hz j⟩
  unfold upd
  by_cases e : j = i
  · subst e
    rw [if_pos rfl]
    exact World.cell?_setCell_same' _ _ _ (by rw [hR.hc j hj]; rfl)
  · rw [if_neg e, World.cell?_setCell_other _ _ _ _ (by intro he; injection he with h1 h2; exact e h2.symm)]
    exact hR.hc j hj
theorem Cl.put {w : World} {g r h L S : Nat} {f : Nat → Int} (hC : Cl w g r h L S f) (i : Nat) (hi : i < S) (v : Int) (hv : -2 ≤ v ∧ v < ((rm S : Nat) : Int)) : Cl (w.setCell ⟨h, i, none⟩ (.int (kd L) v)) g r h L S (upd f i v) := by
  have e0 : (w.setCell ⟨h, i, none⟩ (.int (kd L) v)).heap[g]? = w.heap[g]? := Below.heap_setCell _ _ _ _ hC.ne.1
  refine ⟨(World.cell?_of_block (a := ⟨g, 0, none⟩) e0).trans hC.c0, (World.cell?_of_block (a := ⟨g, 1, none⟩) e0).trans hC.c1, hC.rw.put hC.ne.2.1 i hi v, hC.sz, fun j hj => ?_⟩
  unfold upd
  by_cases e : j = i
  · rw [if_pos e]; exact hv
  · rw [if_neg e]; exact hC.fit j hj
theorem Cl.congr {w : World} {g r h L S : Nat} {f f' : Nat → Int} (hC : Cl w g r h L S f) (e : ∀ j, j < S → f' j = f j) : Cl w g r h L S f' :=
  ⟨hC.c0, hC.c1, ⟨hC.rw.r0, hC.rw.r1, hC.rw.le, fun j hj => by rw [e j hj]; exact hC.rw.hc j hj, hC.rw.hz⟩, hC.sz, fun j hj => by rw [e j hj]; exact hC.fit j hj⟩

theorem Rw.congr {w : World} {r h W S cap : Nat} {k : IntKind} {f f' : Nat → Int} (hR : Rw w r h k W S cap f) (e : ∀ j, j < S → f' j = f j) : Rw w r h k W S cap f' :=
  ⟨hR.r0, hR.r1, hR.le, fun j hj => by rw [e j hj]; exact hR.hc j hj, hR.hz⟩
theorem Tryz.info8 : (Tryz.prog.info? 221).map (fun i => (i.zero, i.size, i.bytes)) = some (some (.int .i8 0), 1, 1) := by kernel_rfl
theorem Tryz.info16 : (Tryz.prog.info? 222).map (fun i => (i.zero, i.size, i.bytes)) = some (some (.int .i16 0), 1, 2) := by kernel_rfl
theorem Tryz.info32 : (Tryz.prog.info? 21).map (fun i => (i.zero, i.size, i.bytes)) = some (some (.int .i32 0), 1, 4) := by kernel_rfl
/-- The head of a row that was just made. -/
theorem rw_made {w w1 : World} {t ty : TypeId} {k : IntKind} {n W : Nat} (h : w1.ownsRow w.heap.size t 1 (.slice (some ⟨w.heap.size, 0, none⟩) n n) n (madeCells (Value.int k 0).cells (n * 1)).toList) :
    Rw (w1.alloc (.cells #[.int .i64 (W : Int), .slice (some ⟨w.heap.size, 0, none⟩) n n] ty)) w1.heap.size w.heap.size k W n n (fun _ => 0) := by
  have hl := (h.lt _ rfl).2
  have e : (w1.alloc (.cells #[.int .i64 (W : Int), .slice (some ⟨w.heap.size, 0, none⟩) n n] ty)).heap[w.heap.size]? = w1.heap[w.heap.size]? := Below.heap_alloc _ _ _ hl
  refine ⟨by rw [World.cell?_alloc_at _ _ _ _ rfl]; rfl, by rw [World.cell?_alloc_at _ _ _ _ rfl]; rfl, Nat.le_refl _, fun j hj => ?_, fun j => (World.frozen?_of_block (a := ⟨w.heap.size, j, none⟩) e).trans (h.frozenAt j)⟩
  rw [World.cell?_of_block (a := ⟨w.heap.size, j, none⟩) e, h.cellAt j (by omega)]
  simp [madeCells, Value.cells, hj, Nat.mod_one]

set_option maxRecDepth 100000 in
theorem newRow_any {L S : Nat} (hS : Sz L S) (w : World) : Calls Tryz.prog 98 #[.int .i64 (L : Int)] w fun e w' => ∃ r h, e = .returned (.iface (rty L) (.pointer (some ⟨r, 0, none⟩))) ∧ w.heap.size ≤ r ∧ w.heap.size ≤ h ∧ Rw w' r h (kd L) (wd L) S S (fun _ => 0) ∧ Below w.heap.size w w' := by
  have C1 := width_any hS w
  have C2 := size_any hS w
  have hm := hS.most
  refine by_L L (fun a => ?_) (fun a b => ?_) (fun a b => ?_)
  · obtain ⟨i0, hi, hz0, hz1, hz2⟩ := info_parts Tryz.info8
    rw [show wd L = 1 by simp [wd, a]] at C1 ⊢
    rw [show kd L = .i8 by simp [kd, a], show rty L = 157 by simp [rty, a]]
    clear hS
    go_enter Tryz.func98, Tryz.ntmps98
    go_wp2_with fail
    refine C1.mono ?_
    rintro e w1 ⟨rfl, rfl⟩
    go_wp2_with fail
    refine C2.mono ?_
    rintro e w2 ⟨rfl, rfl⟩
    go_wp2_with (at_make; refine wpList_make_full _ rfl _ _ 158 rfl w2.heap.size 221 i0 (.int .i8 0) 1 Tryz.underlying158 hi hz0 hz1 .i64 .i64 _ _ S rfl rfl (by omega) (by omega) (by rw [hz2]; omega) (by unfold maxLen; omega) (Nat.le_refl _) ?_; intro w3 hown3 hgrow3; have hb3 : Below w2.heap.size w2 w3 := (Below.refl _ w2).grown hgrow3 (Nat.le_refl _) (fun k e => by cases e); have HR := Lib.hid (rw_made (ty := 160) (W := 1) hown3); have HB := Lib.hid (hb3.alloc hb3.size (.cells #[.int .i64 ((1 : Nat) : Int), .slice (some ⟨w2.heap.size, 0, none⟩) S S] 160)); clear hown3 hgrow3)
    go_ret
    exact ⟨_, _, rfl, hb3.size, Nat.le_refl _, HR.out, HB.out⟩
  · obtain ⟨i0, hi, hz0, hz1, hz2⟩ := info_parts Tryz.info16
    rw [show wd L = 2 by simp [wd, a, b]] at C1 ⊢
    rw [show kd L = .i16 by simp [kd, a, b], show rty L = 161 by simp [rty, a, b]]
    clear hS
    go_enter Tryz.func98, Tryz.ntmps98
    go_wp2_with fail
    refine C1.mono ?_
    rintro e w1 ⟨rfl, rfl⟩
    go_wp2_with fail
    refine C2.mono ?_
    rintro e w2 ⟨rfl, rfl⟩
    go_wp2_with (at_make; refine wpList_make_full _ rfl _ _ 162 rfl w2.heap.size 222 i0 (.int .i16 0) 1 Tryz.underlying162 hi hz0 hz1 .i64 .i64 _ _ S rfl rfl (by omega) (by omega) (by rw [hz2]; omega) (by unfold maxLen; omega) (Nat.le_refl _) ?_; intro w3 hown3 hgrow3; have hb3 : Below w2.heap.size w2 w3 := (Below.refl _ w2).grown hgrow3 (Nat.le_refl _) (fun k e => by cases e); have HR := Lib.hid (rw_made (ty := 164) (W := 2) hown3); have HB := Lib.hid (hb3.alloc hb3.size (.cells #[.int .i64 ((2 : Nat) : Int), .slice (some ⟨w2.heap.size, 0, none⟩) S S] 164)); clear hown3 hgrow3)
    go_ret
    exact ⟨_, _, rfl, hb3.size, Nat.le_refl _, HR.out, HB.out⟩
  · obtain ⟨i0, hi, hz0, hz1, hz2⟩ := info_parts Tryz.info32
    rw [show wd L = 4 by simp [wd, a, b]] at C1 ⊢
    rw [show kd L = .i32 by simp [kd, a, b], show rty L = 165 by simp [rty, a, b]]
    clear hS
    go_enter Tryz.func98, Tryz.ntmps98
    go_wp2_with fail
    refine C1.mono ?_
    rintro e w1 ⟨rfl, rfl⟩
    go_wp2_with fail
    refine C2.mono ?_
    rintro e w2 ⟨rfl, rfl⟩
    go_wp2_with (at_make; refine wpList_make_full _ rfl _ _ 166 rfl w2.heap.size 21 i0 (.int .i32 0) 1 Tryz.underlying166 hi hz0 hz1 .i64 .i64 _ _ S rfl rfl (by omega) (by omega) (by rw [hz2]; omega) (by unfold maxLen; omega) (Nat.le_refl _) ?_; intro w3 hown3 hgrow3; have hb3 : Below w2.heap.size w2 w3 := (Below.refl _ w2).grown hgrow3 (Nat.le_refl _) (fun k e => by cases e); have HR := Lib.hid (rw_made (ty := 168) (W := 4) hown3); have HB := Lib.hid (hb3.alloc hb3.size (.cells #[.int .i64 ((4 : Nat) : Int), .slice (some ⟨w2.heap.size, 0, none⟩) S S] 168)); clear hown3 hgrow3)
    go_ret
    exact ⟨_, _, rfl, hb3.size, Nat.le_refl _, HR.out, HB.out⟩
theorem new_no (l : Int) (hl : ¬ (3 ≤ l ∧ l ≤ 20)) (w : World) : Calls Tryz.prog 78 #[.int .i64 l] w fun e w' => e = .returned (.tuple #[.pointer none, .int .i64 1]) ∧ w' = w := by
  have C1 := isLog_no l hl w
  clear hl
  go_enter Tryz.func78, Tryz.ntmps78
  go_wp2_with fail
  refine C1.mono ?_
  rintro e w1 ⟨rfl, rfl⟩
  clear C1
  go_wp2
  go_ret2
  exact ⟨rfl, rfl⟩
set_option maxRecDepth 100000 in
set_option maxHeartbeats 2000000 in
theorem new_any {L S : Nat} (hS : Sz L S) (w : World) : Calls Tryz.prog 78 #[.int .i64 (L : Int)] w fun e w' => ∃ g r h, e = .returned (.tuple #[.pointer (some ⟨g, 0, none⟩), .int .i64 0]) ∧ w.heap.size ≤ g ∧ w.heap.size ≤ r ∧ w.heap.size ≤ h ∧ Cl w' g r h L S (fun _ => -1) ∧ Below w.heap.size w w' := by
  have C1 := isLog_yes hS w
  have C2 := newRow_any hS w
  have hm := hS.most
  have HSZ := Lib.hid hS
  have hrm : (-2 : Int) ≤ -1 ∧ (-1 : Int) < ((rm S : Nat) : Int) := by omega
  have hrm0 : (-2 : Int) ≤ 0 ∧ (0 : Int) < ((rm S : Nat) : Int) := by have := hS.pos; unfold rm; omega
  have HE := Lib.hid (e_set L)
  have HM := Lib.hid (m_set L)
  clear hS
  go_enter Tryz.func78, Tryz.ntmps78
  go_wp2_with fail
  refine C1.mono ?_
  rintro e w1 ⟨rfl, rfl⟩
  clear C1
  go_wp2_with fail
  refine C2.mono ?_
  rintro e w2 ⟨r, h, rfl, hr, hh, hR, hb2⟩
  clear C2
  have HC0 : Hid (Cl (w2.alloc (.cells #[.int .i64 (L : Int), .iface (rty L) (.pointer (some ⟨r, 0, none⟩))] 151)) w2.heap.size r h L S (emp 0)) := by
    have hl := hR.lt (by have := HSZ.out.pos; omega)
    refine ⟨by rw [World.cell?_alloc_at _ _ _ _ rfl]; rfl, by rw [World.cell?_alloc_at _ _ _ _ rfl]; rfl, hR.same (Below.heap_alloc _ _ _ hl.1) (Below.heap_alloc _ _ _ hl.2), HSZ.out, fun j _ => hrm0⟩
  have HB0 := Lib.hid (hb2.alloc hb2.size (.cells #[.int .i64 (L : Int), .iface (rty L) (.pointer (some ⟨r, 0, none⟩))] 151))
  have hg : w1.heap.size ≤ w2.heap.size := hb2.size
  clear hR hb2
  go_upto_region 4 with fail
  generalize World.alloc _ _ = w3 at HC0 HB0 ⊢
  generalize w2.heap.size = g at *
  have C3 := sizeM_any HC0.out
  go_wp2_with fail
  refine C3.mono ?_
  rintro e w4 ⟨rfl, rfl⟩
  clear C3
  go_wp2_with fail
  go_loopw [16] (fun iv wr => ∃ k : Nat, k ≤ S ∧ iv = .int .i64 (k : Int) ∧ Cl wr g r h L S (emp k) ∧ Below w1.heap.size w1 wr) (fun iv _ => S - (intOf iv).toNat)
  case atStart => exact ⟨0, Nat.zero_le _, rfl, HC0.out, HB0.out⟩
  case round =>
    clear HC0 HB0
    obtain ⟨k, hk, rfl, hC, hB⟩ := hrel
    by_cases hlt : k < S
    · have t1 : (k : Int) < (S : Int) := by omega
      have h1 := hC.c1
      have C4 := row_set hC.rw k hlt (-1) (fits HSZ.out (-1) hrm.1 hrm.2)
      have HP := Lib.hid (hC.put k hlt (-1) hrm)
      rw [emp_upd] at HP
      have HBP := Lib.hid (hB.setCell (p := ⟨h, k, none⟩) hh (.int (kd L) (-1)))
      have hm := fun w => HM.out (some ⟨r, 0, none⟩) w
      have he := HE.out
      clear hC
      generalize setF L = Y at *
      generalize hT : rty L = T at h1 hm ⊢
      generalize World.setCell _ _ _ = wp at C4 HP HBP
      clear hT
      go_wp2_with fail
      refine C4.mono ?_
      rintro e w5 ⟨rfl, rfl⟩
      clear C4
      go_wp2_with fail
      go_roundw
      case rel => exact ⟨k + 1, by omega, by go_num, HP.out, HBP.out⟩
      case measure => simp [intOf]; omega
    · have t1 : ¬ (k : Int) < (S : Int) := by omega
      obtain rfl : k = S := by omega
      have HCC := Lib.hid (hC.congr (f' := fun _ => -1) (fun j hj => by unfold emp; rw [if_pos hj]))
      go_wp2
      go_ret2
      exact ⟨g, rfl, hg, r, hr, h, hh, HCC.out, hB⟩
end Go.Proofs.YtejfmajbggmghaaGreat
