/-
  Where this seat's program holds package sync's locks: the numbers of their functions and types, and that it holds them.
  A meter in memory: its lock is free, its four counters hold these numbers; and how that stands behind later steps.
  What the calls that count do: count, Table, Visit, Charge, Turn; of a meter, and of none.
  What Table, Visit, Charge, Turn do; named; four numbers in a box.
  What Read and Take do.
  A meter that counts, as a table asks it.
  The law's plays.
  ProbeMeters, walked.
-/
import Derived.Test.YtjhaldbnfmddmaaGreatRows
import Derived.Conc.RwLib
import Derived.Conc.MuData
import Derived.KernelRfl
import Derived.Conc.RwLoneW
import Derived.Laws.LoneSync
import Derived.WalkKit
import Derived.Below
import Derived.Defers
import Derived.Test.YtjhaldbnfmddmaaGreatGe
import Derived.Test.YtjhaldbnfmddmaaGreatGt
import Derived.Test.YtjhaldbnfmddmaaGreatPp8a
import Derived.Test.YtjhaldbnfmddmaaGreatGp
namespace Go.Proofs.YtjhaldbnfmddmaaGreat
abbrev muLink : Go.Conc.Locks.MuLink := { lock := 60, unlock := 69, ilock := 106, iunlock := 108, lockSlow := 135, unlockSlow := 136, disable := 59, enable := 63, acquire := 64, relMerge := 66, cas32 := 134, add32 := 107, tMutex := 35, tIMutex := 33, tPMutex := 143, tPIMutex := 199, tPI32 := 176, tUP := 142, tNoCopy := 30, tU32 := 31 }
theorem muLib : Go.Conc.Locks.MuLib Tryz.prog muLink :=
  ⟨Tryz.func60, Tryz.func69, Tryz.func106, Tryz.func108, Tryz.func59, Tryz.func63, Tryz.func64, Tryz.func66, Tryz.func134, Tryz.func107, Tryz.underlying33, Tryz.runUnderlying33, Tryz.sizeOf33, Tryz.isAgg33, Tryz.zeroValue33, Tryz.underlying35, Tryz.runUnderlying35, Tryz.sizeOf35, Tryz.isAgg35, Tryz.zeroValue35, Tryz.underlying143, Tryz.runUnderlying143, Tryz.sizeOf143, Tryz.isAgg143, Tryz.zeroValue143, Tryz.underlying199, Tryz.runUnderlying199, Tryz.sizeOf199, Tryz.isAgg199, Tryz.zeroValue199, Tryz.underlying176, Tryz.runUnderlying176, Tryz.sizeOf176, Tryz.isAgg176, Tryz.zeroValue176, Tryz.underlying142, Tryz.runUnderlying142, Tryz.sizeOf142, Tryz.isAgg142, Tryz.zeroValue142, Tryz.underlying30, Tryz.runUnderlying30, Tryz.sizeOf30, Tryz.isAgg30, Tryz.zeroValue30, Tryz.underlying21, Tryz.runUnderlying21, Tryz.sizeOf21, Tryz.isAgg21, Tryz.zeroValue21, (by kernel_rfl)⟩
abbrev rwLink : Go.Conc.Locks.RwLink := { lock := 60, unlock := 69, ilock := 106, iunlock := 108, lockSlow := 135, unlockSlow := 136, disable := 59, enable := 63, acquire := 64, relMerge := 66, cas32 := 134, add32 := 107, tMutex := 35, tIMutex := 33, tPMutex := 143, tPIMutex := 199, tPI32 := 176, tUP := 142, tNoCopy := 30, tU32 := 31, rlock := 164, runlock := 165, wlock := 22, wunlock := 23, i32add := 61, raceRead := 58, release := 65, rUnlockSlow := 174, semacqR := 173, semacqW := 62, semrel := 68, sfatal := 67, tRW := 40, tPRW := 140, tAI32 := 38, tPAI32 := 174, tPU32 := 146, tANoCopy := 36 }
theorem rwCore : Go.Conc.Locks.RwCore Tryz.prog rwLink :=
  ⟨Tryz.func61, Tryz.func58, Tryz.func59, Tryz.func63, Tryz.func64, Tryz.func66, Tryz.func107, Tryz.underlying40, Tryz.runUnderlying40, Tryz.sizeOf40, Tryz.isAgg40, Tryz.zeroValue40, Tryz.underlying38, Tryz.runUnderlying38, Tryz.sizeOf38, Tryz.isAgg38, Tryz.zeroValue38, Tryz.underlying140, Tryz.runUnderlying140, Tryz.sizeOf140, Tryz.isAgg140, Tryz.zeroValue140, Tryz.underlying174, Tryz.runUnderlying174, Tryz.sizeOf174, Tryz.isAgg174, Tryz.zeroValue174, Tryz.underlying146, Tryz.runUnderlying146, Tryz.sizeOf146, Tryz.isAgg146, Tryz.zeroValue146, Tryz.underlying36, Tryz.runUnderlying36, Tryz.sizeOf36, Tryz.isAgg36, Tryz.zeroValue36, Tryz.underlying31, Tryz.runUnderlying31, Tryz.sizeOf31, Tryz.isAgg31, Tryz.zeroValue31, Tryz.underlying35, Tryz.runUnderlying35, Tryz.sizeOf35, Tryz.isAgg35, Tryz.zeroValue35, Tryz.underlying143, Tryz.runUnderlying143, Tryz.sizeOf143, Tryz.isAgg143, Tryz.zeroValue143, Tryz.underlying176, Tryz.runUnderlying176, Tryz.sizeOf176, Tryz.isAgg176, Tryz.zeroValue176, Tryz.underlying142, Tryz.runUnderlying142, Tryz.sizeOf142, Tryz.isAgg142, Tryz.zeroValue142, Tryz.underlying21, Tryz.runUnderlying21, Tryz.sizeOf21, Tryz.isAgg21, Tryz.zeroValue21, (by kernel_rfl), (by kernel_rfl)⟩
theorem rwRLib : Go.Conc.Locks.RwRLib Tryz.prog rwLink := ⟨rwCore, Tryz.func164, Tryz.func165⟩
theorem rwWLib : Go.Conc.Locks.RwWLib Tryz.prog rwLink := ⟨rwCore, muLib, Tryz.func22, Tryz.func23, Tryz.func65, Tryz.underlying3, Tryz.runUnderlying3, Tryz.sizeOf3, Tryz.isAgg3, Tryz.zeroValue3⟩
end Go.Proofs.YtjhaldbnfmddmaaGreat
namespace Go.Proofs.YtjhaldbnfmddmaaGreat.Me
open Go.RowKit

theorem lt_of_cell {w : World} {b o : Nat} {v : Value} (h : w.cell? ⟨b, o, none⟩ = some v) : b < w.heap.size := by
  unfold World.cell? at h
  split at h
  · rename_i c e f hb
    exact (Array.getElem?_eq_some_iff.1 hb).1
  · simp at h
/-- All blocks but g are as they were. -/
structure But (g : Nat) (w w' : World) : Prop where
  os : w'.os = w.os
  tape : w'.tape = w.tape
  output : w'.output = w.output
  size : w.heap.size ≤ w'.heap.size
  block : ∀ k, k < w.heap.size → k ≠ g → w'.heap[k]? = w.heap[k]?
theorem But.refl (g : Nat) (w : World) : But g w w := ⟨rfl, rfl, rfl, Nat.le_refl _, fun _ _ _ => rfl⟩
theorem But.trans {g : Nat} {a b c : World} (h : But g a b) (k : But g b c) : But g a c :=
  ⟨k.os.trans h.os, k.tape.trans h.tape, k.output.trans h.output, Nat.le_trans h.size k.size, fun i hi hg => (k.block i (Nat.lt_of_lt_of_le hi h.size) hg).trans (h.block i hi hg)⟩
theorem But.drew {g : Nat} {a w : World} (h : But g a w) : But g a w.drew := ⟨h.os, h.tape, h.output, h.size, h.block⟩
theorem But.alloc {g : Nat} {a w : World} (h : But g a w) (o : Obj) : But g a (w.alloc o) :=
  h.trans ⟨rfl, rfl, rfl, by simp, fun k hk _ => Below.heap_alloc _ _ _ hk⟩
theorem But.setCell {g : Nat} {a w : World} (h : But g a w) (o : Nat) (u : Value) : But g a (w.setCell ⟨g, o, none⟩ u) :=
  h.trans ⟨rfl, rfl, rfl, by simp [World.setCell], fun k _ hk => Below.heap_setCell _ _ _ _ hk⟩
theorem But.setNew {g : Nat} {a w : World} (h : But g a w) {p : Addr} (hp : a.heap.size ≤ p.block) (u : Value) : But g a (w.setCell p u) :=
  ⟨h.os, h.tape, h.output, by simpa [World.setCell] using h.size, fun k hk hg => (Below.heap_setCell _ _ _ _ (by omega)).trans (h.block k hk hg)⟩
theorem But.below {g B : Nat} {w w' : World} (h : But g w w') (hg : B ≤ g) (hB : B ≤ w.heap.size) : Below B w w' :=
  ⟨h.os, h.tape, h.output, h.size, fun k hk => h.block k (by omega) (by omega)⟩
theorem but_of {w w' : World} (h : Below w.heap.size w w') (g : Nat) : But g w w' := ⟨h.os, h.tape, h.output, h.size, fun k hk _ => h.block k hk⟩
theorem But.cell {g : Nat} {w w' : World} (h : But g w w') {p : Addr} (hp : p.block < w.heap.size) (hg : p.block ≠ g) : w'.cell? p = w.cell? p := World.cell?_of_block (w := w) (h.block p.block hp hg)
theorem But.frozen {g : Nat} {w w' : World} (h : But g w w') {p : Addr} (hp : p.block < w.heap.size) (hg : p.block ≠ g) : w'.frozen? p = w.frozen? p := World.frozen?_of_block (w := w) (h.block p.block hp hg)

/-- A meter at ⟨g, 0⟩, its lock free: what its counters hold. -/
structure Mt (w : World) (g : Nat) (t c v s : Int) : Prop where
  c0 : w.cell? ⟨g, 0, none⟩ = some (.int .i32 0)
  c2 : w.cell? ⟨g, 2, none⟩ = some (.int .u32 0)
  c3 : w.cell? ⟨g, 3, none⟩ = some (.int .u32 0)
  c4 : w.cell? ⟨g, 4, none⟩ = some (.int .i32 0)
  c6 : w.cell? ⟨g, 6, none⟩ = some (.int .i64 t)
  c7 : w.cell? ⟨g, 7, none⟩ = some (.int .i64 c)
  c8 : w.cell? ⟨g, 8, none⟩ = some (.int .i64 v)
  c9 : w.cell? ⟨g, 9, none⟩ = some (.int .i64 s)
  fr : ∀ j, w.frozen? ⟨g, j, none⟩ = false
theorem Mt.lt {w : World} {g : Nat} {t c v s : Int} (h : Mt w g t c v s) : g < w.heap.size := lt_of_cell h.c0
theorem Mt.same {w w' : World} {g : Nat} {t c v s : Int} (h : Mt w g t c v s) (e : w'.heap[g]? = w.heap[g]?) : Mt w' g t c v s :=
  have k : ∀ o, w'.cell? ⟨g, o, none⟩ = w.cell? ⟨g, o, none⟩ := fun _ => World.cell?_of_block (w := w) e
  ⟨(k _).trans h.c0, (k _).trans h.c2, (k _).trans h.c3, (k _).trans h.c4, (k _).trans h.c6, (k _).trans h.c7, (k _).trans h.c8, (k _).trans h.c9, fun j => (World.frozen?_of_block (w := w) (a := ⟨g, j, none⟩) e).trans (h.fr j)⟩
theorem Mt.but {w w' : World} {g g' : Nat} {t c v s : Int} (h : Mt w g t c v s) (hb : But g' w w') (hg : g ≠ g') : Mt w' g t c v s := h.same (hb.block g h.lt hg)
theorem Mt.below {w w' : World} {g : Nat} {t c v s : Int} (h : Mt w g t c v s) (hb : Below w.heap.size w w') : Mt w' g t c v s := h.same (hb.block g h.lt)
theorem Mt.drew {w : World} {g : Nat} {t c v s : Int} (h : Mt w g t c v s) : Mt w.drew g t c v s := h.same rfl
theorem Mt.alloc {w : World} {g : Nat} {t c v s : Int} (h : Mt w g t c v s) (o : Obj) : Mt (w.alloc o) g t c v s := h.same (Below.heap_alloc _ _ _ h.lt)
theorem Mt.other {w : World} {g : Nat} {t c v s : Int} (h : Mt w g t c v s) {p : Addr} (hp : p.block ≠ g) (u : Value) : Mt (w.setCell p u) g t c v s := h.same (Below.heap_setCell _ _ _ _ (fun e => hp e.symm))
/-- A meter that was just made. -/
theorem Mt.new (w : World) (ty : TypeId) : Mt (w.alloc (.cells #[.int .i32 0, .int .u32 0, .int .u32 0, .int .u32 0, .int .i32 0, .int .i32 0, .int .i64 0, .int .i64 0, .int .i64 0, .int .i64 0] ty)) w.heap.size 0 0 0 0 := by
  constructor <;> first | exact fun j => World.frozen?_alloc_at _ _ _ _ rfl | (rw [World.cell?_alloc_at _ _ _ _ rfl]; rfl)

/-- sync/atomic.SwapT: the number is stored, and the old one handed back. -/
theorem run_call_swap {P : Program} {f : FuncId} {fn : Func} (hf : P.funcs[f]? = some fn) (hname : (fn.name == "runtime.NumGoroutine") = false) (hb : fn.body.isNone = true) (hn : Extern.findNext fn = none) (k : IntKind)
    (he : Extern.find fn = some (Extern.Atomic.swapT (.int k))) {a : Addr} {x y : Int} {w : World} (hc : w.cell? a = some (.int k x)) (hz : w.frozen? a = false) :
    (callFunc f #[.pointer (some a), .int k y]).run P w = .ok (.value (.int k x)) (w.setCell a (.int k y)) := by
  rw [run_callFunc_extern hf hname hb hn he]
  change (Sem.run P (do
    let a' ← asAddr (.pointer (some a))
    let old ← Extern.Atomic.read (.int k) a'
    store a' (.int k y) .atomic
    pure old) w).andThen _ = _
  simp [Extern.Atomic.read, asAddr, hc, hz, run_store P w a (.int k y) .atomic rfl, Result.andThen]

set_option maxHeartbeats 800000 in
theorem i64add_any (a : Addr) (x y : Int) (w : World) (hc : w.cell? a = some (.int .i64 x)) (hz : w.frozen? a = false) :
    Calls Tryz.prog 166 #[.pointer (some a), .int .i64 y] w fun e w' => e = .returned (.int .i64 (wrap64 (x + y))) ∧ w' = w.setCell a (.int .i64 (wrap64 (x + y))) := by
  have hadd := run_call_add (P := Tryz.prog) Tryz.func175 (by kernel_rfl) (by kernel_rfl) (by kernel_rfl) .i64 (by kernel_rfl) (y := y) (s := wrap64 (x + y)) hc hz (by simp [go_sem, wrap64, IntKind.wrap_i64])
  go_enter Tryz.func166, Tryz.ntmps166
  go_wp2
  go_ret
  exact ⟨rfl, rfl⟩
set_option maxHeartbeats 800000 in
theorem i64load_any (a : Addr) (x : Int) (w : World) (hc : w.cell? a = some (.int .i64 x)) :
    Calls Tryz.prog 24 #[.pointer (some a)] w fun e w' => e = .returned (.int .i64 x) ∧ w' = w := by
  have hadd := run_call_load (P := Tryz.prog) Tryz.func70 (by kernel_rfl) (by kernel_rfl) (by kernel_rfl) .i64 (by kernel_rfl) hc
  go_enter Tryz.func24, Tryz.ntmps24
  go_wp2
  go_ret
  exact ⟨rfl, rfl⟩
end Go.Proofs.YtjhaldbnfmddmaaGreat.Me
namespace Go.Proofs.YtjhaldbnfmddmaaGreat.Me
open Go.RowKit
open Go.RwLone

theorem up1 : wrap32 (0 + 1) = 1 := by kernel_rfl
theorem dn1 : wrap32 (1 + -1) = 0 := by kernel_rfl

set_option maxRecDepth 100000 in
set_option maxHeartbeats 1600000 in
theorem count_nil (k n : Int) (w : World) :
    Calls Tryz.prog 139 #[.pointer none, .int .i64 k, .int .i64 n] w fun e w' => e = .returned (.tuple #[]) ∧ w' = w := by
  go_enter_defers Tryz.func139, Tryz.ntmps139
  go_wp2_with fail
  exact ⟨_, results_none rfl _ _ _, rfl, rfl⟩
set_option maxRecDepth 100000 in
set_option maxHeartbeats 1600000 in
theorem count_in (g : Nat) (j : Nat) (hj : j < 4) (x n : Int) (h1 : 1 ≤ n) (h2 : n ≤ 2147483647) (w : World) (c0 : w.cell? ⟨g, 0, none⟩ = some (.int .i32 0)) (c2 : w.cell? ⟨g, 2, none⟩ = some (.int .u32 0))
    (c3 : w.cell? ⟨g, 3, none⟩ = some (.int .u32 0)) (c4 : w.cell? ⟨g, 4, none⟩ = some (.int .i32 0)) (cj : w.cell? ⟨g, 6 + j, none⟩ = some (.int .i64 x)) (fr : ∀ j, w.frozen? ⟨g, j, none⟩ = false) :
    Calls Tryz.prog 139 #[.pointer (some ⟨g, 0, none⟩), .int .i64 (j : Int), .int .i64 n] w fun e w' => e = .returned (.tuple #[]) ∧
      w' = ((w.setCell ⟨g, 4, none⟩ (.int .i32 1)).setCell ⟨g, 6 + j, none⟩ (.int .i64 (wrap64 (x + n)))).setCell ⟨g, 4, none⟩ (.int .i32 0) := by
  have t1 : ¬ n < 1 := by omega
  have t2 : ¬ 2147483647 < n := by omega
  have t3 : (j : Int) < 4 := by omega
  have t4 : (0 : Int) ≤ j := by omega
  go_enter_defers Tryz.func139, Tryz.ntmps139
  go_wp2_with (go_at_call 164; refine (rlock_open rwRLib g 0 0 _ _ _ c0 c3 c4 (fr 4) (by rw [up1]; decide)).mono ?_; rintro e w' ⟨rfl, rfl⟩; rw [up1])
  have e4 : (⟨g, 6 + j, none⟩ : Addr) ≠ ⟨g, 4, none⟩ := by intro e; injection e with _ e; omega
  refine (i64add_any ⟨g, 6 + j, none⟩ x n _ ((World.cell?_setCell_other _ _ _ _ (fun e => e4 e.symm)).trans cj) (by rw [World.frozen?_setCell]; exact fr _)).mono ?_
  rintro e w' ⟨rfl, rfl⟩
  go_wp2_with fail
  refine leaves_cons (f := 165) (args := #[.pointer (some ⟨g, 0, none⟩)]) (by simp) (by simp [go_sem]) ?_
  have o : ∀ q, q ≠ 4 → q < 6 → ((w.setCell ⟨g, 4, none⟩ (.int .i32 1)).setCell ⟨g, 6 + j, none⟩ (.int .i64 (wrap64 (x + n)))).cell? ⟨g, q, none⟩ = w.cell? ⟨g, q, none⟩ := fun q h4 h6 => by
    rw [World.cell?_setCell_other _ _ _ _ (by intro e; injection e with _ e; omega), World.cell?_setCell_other _ _ _ _ (by intro e; injection e with _ e; omega)]
  refine (runlock_deferred rwRLib g 0 1 (.int .i32 0) (.int .u32 0) .returning _ ?_ ?_ ?_ ?_ ?_).mono ?_
  · exact (o 0 (by omega) (by omega)).trans c0
  · exact (o 2 (by omega) (by omega)).trans c2
  · exact (World.cell?_setCell_other _ _ _ _ e4).trans (World.cell?_setCell_same w _ _ c4)
  · rw [World.frozen?_setCell, World.frozen?_setCell]; exact fr _
  · rw [dn1]; decide
  rintro e u' w'' ⟨rfl, rfl, rfl⟩
  rw [dn1]
  exact ⟨_, results_none rfl _ _ _, rfl, rfl⟩
set_option maxRecDepth 100000 in
set_option maxHeartbeats 1600000 in
theorem count_out (g : Nat) (j n : Int) (h : ¬ (1 ≤ n ∧ n ≤ 2147483647)) (w : World) :
    Calls Tryz.prog 139 #[.pointer (some ⟨g, 0, none⟩), .int .i64 j, .int .i64 n] w fun e w' => e = .returned (.tuple #[]) ∧ w' = w := by
  by_cases t1 : n < 1
  · clear h
    go_enter_defers Tryz.func139, Tryz.ntmps139
    go_wp2_with fail
    exact ⟨_, results_none rfl _ _ _, rfl, rfl⟩
  · have t2 : 2147483647 < n := by omega
    clear h
    go_enter_defers Tryz.func139, Tryz.ntmps139
    go_wp2_with fail
    exact ⟨_, results_none rfl _ _ _, rfl, rfl⟩
/-- What a counter is behind n more. -/
def more (x n : Int) : Int := if 1 ≤ n ∧ n ≤ 2147483647 then wrap64 (x + n) else x
theorem Mt.put {w : World} {g : Nat} {t c v s : Int} (h : Mt w g t c v s) (j : Nat) (y : Int) (t' c' v' s' : Int) (e0 : t' = if j = 0 then y else t) (e1 : c' = if j = 1 then y else c) (e2 : v' = if j = 2 then y else v) (e3 : s' = if j = 3 then y else s) :
    Mt (((w.setCell ⟨g, 4, none⟩ (.int .i32 1)).setCell ⟨g, 6 + j, none⟩ (.int .i64 y)).setCell ⟨g, 4, none⟩ (.int .i32 0)) g t' c' v' s' := by
  have o : ∀ q, q ≠ 4 → q ≠ 6 + j → (((w.setCell ⟨g, 4, none⟩ (.int .i32 1)).setCell ⟨g, 6 + j, none⟩ (.int .i64 y)).setCell ⟨g, 4, none⟩ (.int .i32 0)).cell? ⟨g, q, none⟩ = w.cell? ⟨g, q, none⟩ := fun q h4 h6 => by
    rw [World.cell?_setCell_other _ _ _ _ (by intro e; injection e with _ e; omega), World.cell?_setCell_other _ _ _ _ (by intro e; injection e with _ e; omega), World.cell?_setCell_other _ _ _ _ (by intro e; injection e with _ e; omega)]
  have a : ∀ (q : Nat) (x : Int), q < 4 → w.cell? ⟨g, 6 + q, none⟩ = some (.int .i64 x) →
      (((w.setCell ⟨g, 4, none⟩ (.int .i32 1)).setCell ⟨g, 6 + j, none⟩ (.int .i64 y)).setCell ⟨g, 4, none⟩ (.int .i32 0)).cell? ⟨g, 6 + q, none⟩ = some (.int .i64 (if j = q then y else x)) := fun q x hq hx => by
    by_cases hjq : j = q
    · subst hjq
      rw [World.cell?_setCell_other _ _ _ _ (by intro e; injection e with _ e; omega), if_pos rfl]
      exact World.cell?_setCell_same _ _ _ ((World.cell?_setCell_other _ _ _ _ (by intro e; injection e with _ e; omega)).trans hx)
    · rw [o _ (by omega) (by omega), if_neg hjq]; exact hx
  refine ⟨(o 0 (by omega) (by omega)).trans h.c0, (o 2 (by omega) (by omega)).trans h.c2, (o 3 (by omega) (by omega)).trans h.c3, ?_, ?_, ?_, ?_, ?_, fun k => ?_⟩
  · exact World.cell?_setCell_same _ _ _ ((World.cell?_setCell_other _ _ _ _ (by intro e; injection e with _ e; omega)).trans (World.cell?_setCell_same _ _ _ h.c4))
  · rw [e0]; exact a 0 t (by omega) h.c6
  · rw [e1]; exact a 1 c (by omega) h.c7
  · rw [e2]; exact a 2 v (by omega) h.c8
  · rw [e3]; exact a 3 s (by omega) h.c9
  · rw [World.frozen?_setCell, World.frozen?_setCell, World.frozen?_setCell]; exact h.fr k
theorem But.put (w : World) (g j : Nat) (y : Int) : But g w (((w.setCell ⟨g, 4, none⟩ (.int .i32 1)).setCell ⟨g, 6 + j, none⟩ (.int .i64 y)).setCell ⟨g, 4, none⟩ (.int .i32 0)) :=
  (((But.refl g w).setCell _ _).setCell _ _).setCell _ _
/-- count, of a meter: whatever n. -/
theorem count_any (g j : Nat) (hj : j < 4) (n : Int) (t c v s : Int) (w : World) (h : Mt w g t c v s) :
    Calls Tryz.prog 139 #[.pointer (some ⟨g, 0, none⟩), .int .i64 (j : Int), .int .i64 n] w fun e w' => e = .returned (.tuple #[]) ∧ But g w w' ∧
      Mt w' g (if j = 0 then more t n else t) (if j = 1 then more c n else c) (if j = 2 then more v n else v) (if j = 3 then more s n else s) := by
  by_cases hn : 1 ≤ n ∧ n ≤ 2147483647
  · have hm : ∀ x, more x n = wrap64 (x + n) := fun x => if_pos hn
    simp only [hm]
    obtain rfl | rfl | rfl | rfl : j = 0 ∨ j = 1 ∨ j = 2 ∨ j = 3 := by omega
    · refine (count_in g 0 hj t n hn.1 hn.2 w h.c0 h.c2 h.c3 h.c4 h.c6 h.fr).mono ?_
      rintro e w' ⟨rfl, rfl⟩
      exact ⟨rfl, But.put _ _ _ _, h.put 0 _ _ _ _ _ rfl rfl rfl rfl⟩
    · refine (count_in g 1 hj c n hn.1 hn.2 w h.c0 h.c2 h.c3 h.c4 h.c7 h.fr).mono ?_
      rintro e w' ⟨rfl, rfl⟩
      exact ⟨rfl, But.put _ _ _ _, h.put 1 _ _ _ _ _ rfl rfl rfl rfl⟩
    · refine (count_in g 2 hj v n hn.1 hn.2 w h.c0 h.c2 h.c3 h.c4 h.c8 h.fr).mono ?_
      rintro e w' ⟨rfl, rfl⟩
      exact ⟨rfl, But.put _ _ _ _, h.put 2 _ _ _ _ _ rfl rfl rfl rfl⟩
    · refine (count_in g 3 hj s n hn.1 hn.2 w h.c0 h.c2 h.c3 h.c4 h.c9 h.fr).mono ?_
      rintro e w' ⟨rfl, rfl⟩
      exact ⟨rfl, But.put _ _ _ _, h.put 3 _ _ _ _ _ rfl rfl rfl rfl⟩
  · have hm : ∀ x, more x n = x := fun x => if_neg hn
    simp only [hm, ite_self]
    refine (count_out g _ n hn w).mono ?_
    rintro e w' ⟨rfl, rfl⟩
    exact ⟨rfl, But.refl _ _, h⟩
end Go.Proofs.YtjhaldbnfmddmaaGreat.Me
namespace Go.Proofs.YtjhaldbnfmddmaaGreat.Me
open Go.RowKit
open Go.RwLone

set_option maxHeartbeats 800000 in
theorem table_any (g : Nat) (t c v s : Int) (w : World) (h : Mt w g t c v s) :
    Calls Tryz.prog 110 #[.pointer (some ⟨g, 0, none⟩)] w fun e w' => e = .returned (.tuple #[]) ∧ But g w w' ∧ Mt w' g (more t 1) c v s := by
  go_enter Tryz.func110, Tryz.ntmps110
  go_wp2_with fail
  refine (count_any g 0 (by omega) 1 t c v s w h).mono ?_
  rintro e w' ⟨rfl, hb, hm⟩
  go_wp2
  go_end0
  exact ⟨rfl, hb, hm⟩
set_option maxHeartbeats 800000 in
theorem visit_any (g : Nat) (n : Int) (t c v s : Int) (w : World) (h : Mt w g t c v s) :
    Calls Tryz.prog 156 #[.pointer (some ⟨g, 0, none⟩), .int .i64 n] w fun e w' => e = .returned (.tuple #[]) ∧ But g w w' ∧ Mt w' g t (more c n) v s := by
  go_enter Tryz.func156, Tryz.ntmps156
  go_wp2_with fail
  refine (count_any g 1 (by omega) n t c v s w h).mono ?_
  rintro e w' ⟨rfl, hb, hm⟩
  go_wp2
  go_end0
  exact ⟨rfl, hb, hm⟩
set_option maxHeartbeats 800000 in
theorem table_nil (w : World) : Calls Tryz.prog 110 #[.pointer none] w fun e w' => e = .returned (.tuple #[]) ∧ w' = w := by
  go_enter Tryz.func110, Tryz.ntmps110
  go_wp2_with fail
  refine (count_nil 0 1 w).mono ?_
  rintro e w' ⟨rfl, rfl⟩
  go_wp2
  go_end0
  exact ⟨rfl, rfl⟩
set_option maxHeartbeats 800000 in
theorem visit_nil (n : Int) (w : World) : Calls Tryz.prog 156 #[.pointer none, .int .i64 n] w fun e w' => e = .returned (.tuple #[]) ∧ w' = w := by
  go_enter Tryz.func156, Tryz.ntmps156
  go_wp2_with fail
  refine (count_nil 1 n w).mono ?_
  rintro e w' ⟨rfl, rfl⟩
  go_wp2
  go_end0
  exact ⟨rfl, rfl⟩
/-- Four numbers. -/
def agg4 (a b c d : Int) : Value := .agg #[.int .i64 a, .int .i64 b, .int .i64 c, .int .i64 d]
/-- Four numbers in a box. -/
structure Four (w : World) (N : Nat) (a b c d : Int) : Prop where
  c0 : w.cell? ⟨N, 0, none⟩ = some (.int .i64 a)
  c1 : w.cell? ⟨N, 1, none⟩ = some (.int .i64 b)
  c2 : w.cell? ⟨N, 2, none⟩ = some (.int .i64 c)
  c3 : w.cell? ⟨N, 3, none⟩ = some (.int .i64 d)
  fr : ∀ j, w.frozen? ⟨N, j, none⟩ = false
theorem Four.lt {w : World} {N : Nat} {a b c d : Int} (h : Four w N a b c d) : N < w.heap.size := lt_of_cell h.c0
theorem Four.same {w w' : World} {N : Nat} {a b c d : Int} (h : Four w N a b c d) (e : w'.heap[N]? = w.heap[N]?) : Four w' N a b c d :=
  have k : ∀ o, w'.cell? ⟨N, o, none⟩ = w.cell? ⟨N, o, none⟩ := fun _ => World.cell?_of_block (w := w) e
  ⟨(k _).trans h.c0, (k _).trans h.c1, (k _).trans h.c2, (k _).trans h.c3, fun j => (World.frozen?_of_block (w := w) (a := ⟨N, j, none⟩) e).trans (h.fr j)⟩
theorem Four.but {w w' : World} {N g : Nat} {a b c d : Int} (h : Four w N a b c d) (hb : But g w w') (hg : N ≠ g) : Four w' N a b c d := h.same (hb.block N h.lt hg)
theorem Four.below {w w' : World} {N : Nat} {a b c d : Int} (h : Four w N a b c d) (hb : Below w.heap.size w w') : Four w' N a b c d := h.same (hb.block N h.lt)
theorem Four.drew {w : World} {N : Nat} {a b c d : Int} (h : Four w N a b c d) : Four w.drew N a b c d := h.same rfl
theorem Four.alloc {w : World} {N : Nat} {a b c d : Int} (h : Four w N a b c d) (o : Obj) : Four (w.alloc o) N a b c d := h.same (Below.heap_alloc _ _ _ h.lt)
theorem Four.other {w : World} {N : Nat} {a b c d : Int} (h : Four w N a b c d) {p : Addr} (hp : p.block ≠ N) (u : Value) : Four (w.setCell p u) N a b c d := h.same (Below.heap_setCell _ _ _ _ (fun e => hp e.symm))
theorem Four.new (w : World) (a b c d : Int) (ty : TypeId) : Four (w.alloc (.cells #[.int .i64 a, .int .i64 b, .int .i64 c, .int .i64 d] ty)) w.heap.size a b c d := by
  constructor <;> first | exact fun j => World.frozen?_alloc_at _ _ _ _ rfl | (rw [World.cell?_alloc_at _ _ _ _ rfl]; rfl)
theorem Four.put (j : Nat) {w : World} {N : Nat} {a b c d : Int} (h : Four w N a b c d) (y a' b' c' d' : Int) (e0 : a' = if j = 0 then y else a) (e1 : b' = if j = 1 then y else b) (e2 : c' = if j = 2 then y else c) (e3 : d' = if j = 3 then y else d) :
    Four (w.setCell ⟨N, j, none⟩ (.int .i64 y)) N a' b' c' d' := by
  have a0 : ∀ (q : Nat) (x : Int), w.cell? ⟨N, q, none⟩ = some (.int .i64 x) → (w.setCell ⟨N, j, none⟩ (.int .i64 y)).cell? ⟨N, q, none⟩ = some (.int .i64 (if j = q then y else x)) := fun q x hx => by
    by_cases hjq : j = q
    · subst hjq
      rw [if_pos rfl]
      exact World.cell?_setCell_same _ _ _ hx
    · rw [World.cell?_setCell_other _ _ _ _ (by intro e; injection e with _ e; omega), if_neg hjq]; exact hx
  refine ⟨?_, ?_, ?_, ?_, fun k => ?_⟩
  · rw [e0]; exact a0 0 a h.c0
  · rw [e1]; exact a0 1 b h.c1
  · rw [e2]; exact a0 2 c h.c2
  · rw [e3]; exact a0 3 d h.c3
  · rw [World.frozen?_setCell]; exact h.fr k
/-- All four are stored. -/
theorem Four.all {w : World} {N : Nat} {a b c d : Int} (h : Four w N a b c d) (a' b' c' d' : Int) :
    Four ((((w.setCell ⟨N, 0, none⟩ (.int .i64 a')).setCell ⟨N, 1, none⟩ (.int .i64 b')).setCell ⟨N, 2, none⟩ (.int .i64 c')).setCell ⟨N, 3, none⟩ (.int .i64 d')) N a' b' c' d' :=
  ((((h.put 0 a' a' b c d rfl rfl rfl rfl).put 1 b' a' b' c d rfl rfl rfl rfl).put 2 c' a' b' c' d rfl rfl rfl rfl).put 3 d' a' b' c' d' rfl rfl rfl rfl)

set_option maxRecDepth 100000 in
set_option maxHeartbeats 1600000 in
theorem named_any (a b c d : Int) (w : World) :
    Calls Tryz.prog 25 #[agg4 a b c d] w fun e w' => e = .returned (agg4 a b c d) ∧ Below w.heap.size w w' := by
  unfold agg4
  go_enter Tryz.func25, Tryz.ntmps25
  go_wp2
  refine bodyPost_ret (v := .agg #[.int .i64 a, .int .i64 b, .int .i64 c, .int .i64 d]) ?_ rfl ⟨rfl, ((Below.refl _ w).alloc (Nat.le_refl _) _).alloc (by simp) _⟩
  simp [results, Tryz.results25, go_sem]
end Go.Proofs.YtjhaldbnfmddmaaGreat.Me
namespace Go.Proofs.YtjhaldbnfmddmaaGreat.Me
open Go.RowKit
open Go.RwLone

/-- A meter whose lock is held by one who tells. -/
structure Lk (w : World) (g : Nat) (t c v s : Int) : Prop where
  c0 : w.cell? ⟨g, 0, none⟩ = some (.int .i32 1)
  c2 : w.cell? ⟨g, 2, none⟩ = some (.int .u32 0)
  c3 : w.cell? ⟨g, 3, none⟩ = some (.int .u32 0)
  c4 : w.cell? ⟨g, 4, none⟩ = some (.int .i32 (-1073741824))
  c6 : w.cell? ⟨g, 6, none⟩ = some (.int .i64 t)
  c7 : w.cell? ⟨g, 7, none⟩ = some (.int .i64 c)
  c8 : w.cell? ⟨g, 8, none⟩ = some (.int .i64 v)
  c9 : w.cell? ⟨g, 9, none⟩ = some (.int .i64 s)
  fr : ∀ j, w.frozen? ⟨g, j, none⟩ = false
theorem Lk.lt {w : World} {g : Nat} {t c v s : Int} (h : Lk w g t c v s) : g < w.heap.size := lt_of_cell h.c0
theorem Lk.same {w w' : World} {g : Nat} {t c v s : Int} (h : Lk w g t c v s) (e : w'.heap[g]? = w.heap[g]?) : Lk w' g t c v s :=
  have k : ∀ o, w'.cell? ⟨g, o, none⟩ = w.cell? ⟨g, o, none⟩ := fun _ => World.cell?_of_block (w := w) e
  ⟨(k _).trans h.c0, (k _).trans h.c2, (k _).trans h.c3, (k _).trans h.c4, (k _).trans h.c6, (k _).trans h.c7, (k _).trans h.c8, (k _).trans h.c9, fun j => (World.frozen?_of_block (w := w) (a := ⟨g, j, none⟩) e).trans (h.fr j)⟩
theorem Lk.below {w w' : World} {g : Nat} {t c v s : Int} (h : Lk w g t c v s) (hb : Below w.heap.size w w') : Lk w' g t c v s := h.same (hb.block g h.lt)
theorem Lk.alloc {w : World} {g : Nat} {t c v s : Int} (h : Lk w g t c v s) (o : Obj) : Lk (w.alloc o) g t c v s := h.same (Below.heap_alloc _ _ _ h.lt)
theorem Lk.other {w : World} {g : Nat} {t c v s : Int} (h : Lk w g t c v s) {p : Addr} (hp : p.block ≠ g) (u : Value) : Lk (w.setCell p u) g t c v s := h.same (Below.heap_setCell _ _ _ _ (fun e => hp e.symm))
theorem Lk.otherAt {w : World} {g : Nat} {t c v s : Int} (h : Lk w g t c v s) {b : Nat} (hp : b ≠ g) (o : Nat) (u : Value) : Lk (w.setCell ⟨b, o, none⟩ u) g t c v s := h.other hp u
theorem Four.otherAt {w : World} {N : Nat} {a b c d : Int} (h : Four w N a b c d) {g : Nat} (hp : g ≠ N) (o : Nat) (u : Value) : Four (w.setCell ⟨g, o, none⟩ u) N a b c d := h.other hp u
/-- Two cells of a block are other cells. -/
theorem cell_other (w : World) (g q p : Nat) (x : Value) (h : q ≠ p) : (w.setCell ⟨g, q, none⟩ x).cell? ⟨g, p, none⟩ = w.cell? ⟨g, p, none⟩ :=
  World.cell?_setCell_other _ _ _ _ (by intro e; injection e with _ e; omega)
theorem Mt.lock {w : World} {g : Nat} {t c v s : Int} (h : Mt w g t c v s) : Lk ((w.setCell ⟨g, 0, none⟩ (.int .i32 1)).setCell ⟨g, 4, none⟩ (.int .i32 (-1073741824))) g t c v s := by
  have o : ∀ q, 4 ≠ q → 0 ≠ q → ((w.setCell ⟨g, 0, none⟩ (.int .i32 1)).setCell ⟨g, 4, none⟩ (.int .i32 (-1073741824))).cell? ⟨g, q, none⟩ = w.cell? ⟨g, q, none⟩ := fun q h4 h6 => by
    rw [cell_other _ _ _ _ _ h4, cell_other _ _ _ _ _ h6]
  refine ⟨?_, (o 2 (by omega) (by omega)).trans h.c2, (o 3 (by omega) (by omega)).trans h.c3, ?_, (o 6 (by omega) (by omega)).trans h.c6, (o 7 (by omega) (by omega)).trans h.c7, (o 8 (by omega) (by omega)).trans h.c8, (o 9 (by omega) (by omega)).trans h.c9, fun k => ?_⟩
  · rw [cell_other _ _ _ _ _ (by omega)]; exact World.cell?_setCell_same _ _ _ h.c0
  · exact World.cell?_setCell_same _ _ _ ((cell_other _ _ _ _ _ (by omega)).trans h.c4)
  · rw [World.frozen?_setCell, World.frozen?_setCell]; exact h.fr k
theorem Lk.unlock {w : World} {g : Nat} {t c v s : Int} (h : Lk w g t c v s) : Mt ((w.setCell ⟨g, 4, none⟩ (.int .i32 0)).setCell ⟨g, 0, none⟩ (.int .i32 0)) g t c v s := by
  have o : ∀ q, 4 ≠ q → 0 ≠ q → ((w.setCell ⟨g, 4, none⟩ (.int .i32 0)).setCell ⟨g, 0, none⟩ (.int .i32 0)).cell? ⟨g, q, none⟩ = w.cell? ⟨g, q, none⟩ := fun q h4 h6 => by
    rw [cell_other _ _ _ _ _ h6, cell_other _ _ _ _ _ h4]
  refine ⟨?_, (o 2 (by omega) (by omega)).trans h.c2, (o 3 (by omega) (by omega)).trans h.c3, ?_, (o 6 (by omega) (by omega)).trans h.c6, (o 7 (by omega) (by omega)).trans h.c7, (o 8 (by omega) (by omega)).trans h.c8, (o 9 (by omega) (by omega)).trans h.c9, fun k => ?_⟩
  · exact World.cell?_setCell_same _ _ _ ((cell_other _ _ _ _ _ (by omega)).trans h.c0)
  · rw [cell_other _ _ _ _ _ (by omega)]; exact World.cell?_setCell_same _ _ _ h.c4
  · rw [World.frozen?_setCell, World.frozen?_setCell]; exact h.fr k
theorem Lk.put (j : Nat) {w : World} {g : Nat} {t c v s : Int} (h : Lk w g t c v s) (y t' c' v' s' : Int) (e0 : t' = if j = 0 then y else t) (e1 : c' = if j = 1 then y else c) (e2 : v' = if j = 2 then y else v) (e3 : s' = if j = 3 then y else s) :
    Lk (w.setCell ⟨g, 6 + j, none⟩ (.int .i64 y)) g t' c' v' s' := by
  have a0 : ∀ (q : Nat) (x : Int), w.cell? ⟨g, 6 + q, none⟩ = some (.int .i64 x) → (w.setCell ⟨g, 6 + j, none⟩ (.int .i64 y)).cell? ⟨g, 6 + q, none⟩ = some (.int .i64 (if j = q then y else x)) := fun q x hx => by
    by_cases hjq : j = q
    · subst hjq
      rw [if_pos rfl]
      exact World.cell?_setCell_same _ _ _ hx
    · rw [cell_other _ _ _ _ _ (by omega), if_neg hjq]; exact hx
  refine ⟨(cell_other _ _ _ _ _ (by omega)).trans h.c0, (cell_other _ _ _ _ _ (by omega)).trans h.c2, (cell_other _ _ _ _ _ (by omega)).trans h.c3, (cell_other _ _ _ _ _ (by omega)).trans h.c4, ?_, ?_, ?_, ?_, fun k => ?_⟩
  · rw [e0]; exact a0 0 t h.c6
  · rw [e1]; exact a0 1 c h.c7
  · rw [e2]; exact a0 2 v h.c8
  · rw [e3]; exact a0 3 s h.c9
  · rw [World.frozen?_setCell]; exact h.fr k

set_option maxRecDepth 100000 in
set_option maxHeartbeats 1600000 in
theorem read_nil (w : World) : Calls Tryz.prog 9 #[.pointer none] w fun e w' => e = .returned (agg4 0 0 0 0) ∧ Below w.heap.size w w' := by
  go_enter_defers Tryz.func9, Tryz.ntmps9
  go_wp2_with fail
  refine ⟨agg4 0 0 0 0, ?_, rfl, (Below.refl _ w).alloc (Nat.le_refl _) _⟩
  simp [results, Tryz.results9, go_sem, agg4]
set_option maxRecDepth 100000 in
set_option maxHeartbeats 3200000 in
theorem read_any (g : Nat) (t c v s : Int) (w : World) (h : Mt w g t c v s) :
    Calls Tryz.prog 9 #[.pointer (some ⟨g, 0, none⟩)] w fun e w' => e = .returned (agg4 t c v s) ∧ But g w w' ∧ Mt w' g t c v s := by
  have hlt := h.lt
  go_enter_defers Tryz.func9, Tryz.ntmps9
  go_wp2_with fail
  have R0 := Four.new w 0 0 0 0 49
  have M0 := h.alloc (.cells #[.int .i64 0, .int .i64 0, .int .i64 0, .int .i64 0] 49)
  have B0 := (But.refl g w).alloc (.cells #[.int .i64 0, .int .i64 0, .int .i64 0, .int .i64 0] 49)
  obtain ⟨w1, hw1⟩ : ∃ W, w.alloc (.cells #[.int .i64 0, .int .i64 0, .int .i64 0, .int .i64 0] 49) = W := ⟨_, rfl⟩
  rw [hw1] at R0 M0 B0 ⊢
  clear hw1 h
  refine (wlock_free rwWLib g 0 _ _ _ M0.c0 M0.c2 M0.c3 M0.c4 (M0.fr 0) (M0.fr 4)).mono ?_
  rintro e w' ⟨rfl, rfl⟩
  have M1 := M0.lock
  have R1 := (R0.otherAt (g := g) (by omega) 0 (.int .i32 1)).otherAt (g := g) (by omega) 4 (.int .i32 (-1073741824))
  have B1 := (B0.setCell 0 (.int .i32 1)).setCell 4 (.int .i32 (-1073741824))
  obtain ⟨w2, hw2⟩ : ∃ W, (w1.setCell ⟨g, 0, none⟩ (.int .i32 1)).setCell ⟨g, 4, none⟩ (.int .i32 (-1073741824)) = W := ⟨_, rfl⟩
  rw [Nat.zero_add, hw2]
  rw [hw2] at R1 M1 B1
  clear hw2 R0 M0 B0
  have t1 := R1.lt
  have t2 := M1.lt
  go_wp2_with fail
  have Q := Four.new w2 0 0 0 0 92
  have M := M1.alloc (.cells #[.int .i64 0, .int .i64 0, .int .i64 0, .int .i64 0] 92)
  have R := R1.alloc (.cells #[.int .i64 0, .int .i64 0, .int .i64 0, .int .i64 0] 92)
  have B := B1.alloc (.cells #[.int .i64 0, .int .i64 0, .int .i64 0, .int .i64 0] 92)
  obtain ⟨W0, hw3⟩ : ∃ W, w2.alloc (.cells #[.int .i64 0, .int .i64 0, .int .i64 0, .int .i64 0] 92) = W := ⟨_, rfl⟩
  rw [hw3] at R M B Q ⊢
  clear hw3 R1 M1 B1
  obtain ⟨T, hT⟩ : ∃ T, w2.heap.size = T := ⟨_, rfl⟩
  obtain ⟨N, hN⟩ : ∃ N, w.heap.size = N := ⟨_, rfl⟩
  have hN1 : w.heap.size ≤ N := by omega
  have hT1 : w.heap.size ≤ T := by omega
  rw [hT] at Q t1 t2 ⊢
  rw [hN] at R t1 hlt ⊢
  clear hT hN
  refine wp_loop_rounds 5 ?_
  rw [rounds_succ]
  have d0 := Q.c0
  have d1 := Q.fr 0
  go_wp2_with (go_at_call 24; refine (i64load_any ⟨g, 6, none⟩ t _ M.c6).mono ?_; rintro e w' ⟨rfl, rfl⟩)
  clear d0 d1
  replace Q := Q.put 0 t t 0 0 0 rfl rfl rfl rfl
  replace M := M.otherAt (b := T) (by omega) 0 (.int .i64 t)
  replace R := R.otherAt (g := T) (by omega) 0 (.int .i64 t)
  replace B := B.setNew (p := ⟨T, 0, none⟩) hT1 (.int .i64 t)
  generalize hW0 : World.setCell _ ⟨T, 0, none⟩ (.int .i64 t) = W1 at Q M R B ⊢
  clear hW0
  rw [rounds_succ]
  have d0 := Q.c1
  have d1 := Q.fr 1
  go_wp2_with (go_at_call 24; refine (i64load_any ⟨g, 7, none⟩ c _ M.c7).mono ?_; rintro e w' ⟨rfl, rfl⟩)
  clear d0 d1
  replace Q := Q.put 1 c t c 0 0 rfl rfl rfl rfl
  replace M := M.otherAt (b := T) (by omega) 1 (.int .i64 c)
  replace R := R.otherAt (g := T) (by omega) 1 (.int .i64 c)
  replace B := B.setNew (p := ⟨T, 1, none⟩) hT1 (.int .i64 c)
  generalize hW1 : World.setCell _ ⟨T, 1, none⟩ (.int .i64 c) = W2 at Q M R B ⊢
  clear hW1
  rw [rounds_succ]
  have d0 := Q.c2
  have d1 := Q.fr 2
  go_wp2_with (go_at_call 24; refine (i64load_any ⟨g, 8, none⟩ v _ M.c8).mono ?_; rintro e w' ⟨rfl, rfl⟩)
  clear d0 d1
  replace Q := Q.put 2 v t c v 0 rfl rfl rfl rfl
  replace M := M.otherAt (b := T) (by omega) 2 (.int .i64 v)
  replace R := R.otherAt (g := T) (by omega) 2 (.int .i64 v)
  replace B := B.setNew (p := ⟨T, 2, none⟩) hT1 (.int .i64 v)
  generalize hW2 : World.setCell _ ⟨T, 2, none⟩ (.int .i64 v) = W3 at Q M R B ⊢
  clear hW2
  rw [rounds_succ]
  have d0 := Q.c3
  have d1 := Q.fr 3
  go_wp2_with (go_at_call 24; refine (i64load_any ⟨g, 9, none⟩ s _ M.c9).mono ?_; rintro e w' ⟨rfl, rfl⟩)
  clear d0 d1
  replace Q := Q.put 3 s t c v s rfl rfl rfl rfl
  replace M := M.otherAt (b := T) (by omega) 3 (.int .i64 s)
  replace R := R.otherAt (g := T) (by omega) 3 (.int .i64 s)
  replace B := B.setNew (p := ⟨T, 3, none⟩) hT1 (.int .i64 s)
  generalize hW3 : World.setCell _ ⟨T, 3, none⟩ (.int .i64 s) = W4 at Q M R B ⊢
  clear hW3
  rw [rounds_succ]
  have d0 := Q.c0
  have d1 := Q.c1
  have d2 := Q.c2
  have d3 := Q.c3
  go_wp2_with fail
  clear d0 d1 d2 d3
  refine (named_any t c v s _).mono ?_
  rintro e W5 ⟨rfl, hb⟩
  replace M := M.below hb
  replace R := R.below hb
  replace B := B.trans (but_of hb g)
  clear hb Q
  unfold agg4
  have d0 := R.c0
  have d1 := R.c1
  have d2 := R.c2
  have d3 := R.c3
  have e0 := R.fr 0
  have e1 := R.fr 1
  have e2 := R.fr 2
  have e3 := R.fr 3
  go_wp2_with fail
  clear d0 d1 d2 d3 e0 e1 e2 e3
  replace R := R.all t c v s
  replace M := (((M.otherAt (b := N) (by omega) 0 (.int .i64 t)).otherAt (b := N) (by omega) 1 (.int .i64 c)).otherAt (b := N) (by omega) 2 (.int .i64 v)).otherAt (b := N) (by omega) 3 (.int .i64 s)
  replace B := (((B.setNew (p := ⟨N, 0, none⟩) hN1 (.int .i64 t)).setNew (p := ⟨N, 1, none⟩) hN1 (.int .i64 c)).setNew (p := ⟨N, 2, none⟩) hN1 (.int .i64 v)).setNew (p := ⟨N, 3, none⟩) hN1 (.int .i64 s)
  generalize hW6 : World.setCell (World.setCell (World.setCell (World.setCell _ ⟨N, 0, none⟩ (.int .i64 t)) ⟨N, 1, none⟩ (.int .i64 c)) ⟨N, 2, none⟩ (.int .i64 v)) ⟨N, 3, none⟩ (.int .i64 s) = W6 at R M B ⊢
  clear hW6
  refine leaves_cons (f := 23) (args := #[.pointer (some ⟨g, 0, none⟩)]) (by simp) (by simp [go_sem]) ?_
  refine (wunlock_deferred rwWLib g 0 _ _ .returning _ M.c0 M.c2 M.c3 M.c4 (M.fr 0) (M.fr 4)).mono ?_
  rintro e u' w'' ⟨rfl, rfl, rfl⟩
  have M7 := M.unlock
  have R7 := (R.otherAt (g := g) (by omega) 4 (.int .i32 0)).otherAt (g := g) (by omega) 0 (.int .i32 0)
  have B7 := (B.setCell 4 (.int .i32 0)).setCell 0 (.int .i32 0)
  refine ⟨agg4 t c v s, ?_, rfl, B7, M7⟩
  have d0 := R7.c0
  have d1 := R7.c1
  have d2 := R7.c2
  have d3 := R7.c3
  rw [Nat.zero_add]
  generalize World.setCell (World.setCell _ ⟨g, 4, none⟩ (.int .i32 0)) ⟨g, 0, none⟩ (.int .i32 0) = W8 at d0 d1 d2 d3 ⊢
  simp [results, Tryz.results9, go_sem, agg4, d0, d1, d2, d3]
end Go.Proofs.YtjhaldbnfmddmaaGreat.Me
namespace Go.Proofs.YtjhaldbnfmddmaaGreat
open Go.RowKit Go.WideShapes

def meM (g : Nat) : Int → Int → World → Prop := fun a b w => Me.Mt w g a b 0 0
theorem more_one {x : Int} (h0 : 0 ≤ x) (h : x ≤ 1000000000000) : Me.more x 1 = x + 1 := by
  unfold Me.more
  rw [if_pos (by omega)]
  have := i64_small (x := x + 1) (by omega) (by omega)
  first | exact this | (unfold wrap64; omega) | (simp [wrap64]; omega)
theorem me_ex {g : Nat} {w w' : World} (h : Me.But g w w') : Ex (mB (.pointer (some ⟨g, 0, none⟩))) w w' := ⟨h.os, h.tape, h.output, h.size, fun k hk hx => h.block k hk (fun e => hx (by rw [e]; rfl))⟩
theorem meB {g k : Nat} (h : mB (.pointer (some ⟨g, 0, none⟩)) k) : k = g := by cases h; rfl
theorem mtOk_me (g : Nat) : MtOk (.pointer (some ⟨g, 0, none⟩)) (meM g) := by
  refine ⟨fun a b w h0 h1 hM => ?_, fun a b w w' hM e => Me.Mt.same hM (e g rfl), fun a b w k hM hk => ?_⟩
  · refine (Me.table_any g a b 0 0 w hM).mono ?_
    rintro e w' ⟨rfl, hb, hm⟩
    rw [more_one h0 (by omega)] at hm
    exact ⟨rfl, hm, me_ex hb⟩
  · rw [meB hk]
    exact Me.Mt.lt hM
theorem mvOk_me (g : Nat) : MvOk (.pointer (some ⟨g, 0, none⟩)) (meM g) := fun a b w h0 h1 hM => by
  refine (Me.visit_any g 1 a b 0 0 w hM).mono ?_
  rintro e w' ⟨rfl, hb, hm⟩
  rw [more_one h0 h1] at hm
  exact ⟨rfl, hm, me_ex hb⟩
end Go.Proofs.YtjhaldbnfmddmaaGreat
namespace Go.Proofs.YtjhaldbnfmddmaaGreat
open Go.RowKit Go.WideShapes

set_option maxRecDepth 100000 in
set_option maxHeartbeats 8000000 in
theorem plays8_any {w : World} {pm pr : Option Addr} {M : Int → Int → World → Prop} (hMo : MtOk (.pointer pm) M) (hMv : MvOk (.pointer pm) M) (hM : M 0 0 w) (hms : Ms w (.pointer pr) 0 0 0 0) (hpp : ∀ k, mB (.pointer pm) k → mB (.pointer pr) k → False) {a0 : Option Addr} {n c0 : Nat} {q : Nat → (Nat → Int) × Bool} (hrow : ∀ V, Ex (fun k => mB (.pointer pm) k ∨ mB (.pointer pr) k) w V → S8 V a0 n c0 q) (hn : n ≤ 300) (most : Int) (h0 : 0 ≤ most) (h1 : most ≤ 65536) :
    Calls Tryz.prog 8 #[.int .i64 most, .slice a0 n c0, .pointer pm, .pointer pr] w fun e w' => ∃ X S a b, e = .returned (.tuple #[.pointer (some ⟨X, 0, none⟩), .bool true]) ∧ Py8 w X S (.pointer pm) (.pointer pr) M a b most (33 * n) w' := by
  have C1 := pnew_any hMo hM (by omega : (0 : Int) ≤ 0 ∧ (0 : Int) ≤ 1000000000) most h0 h1
  have hlm : ∀ k, mB (.pointer pm) k → k < w.heap.size := fun k hk => hMo.lt 0 0 w k hM hk
  have hlr := hms.lt
  have HMo := Lib.hid hMo
  have HMv := Lib.hid hMv
  have HMS := Lib.hid hms
  have HROW := Lib.hid hrow
  have HPP := Lib.hid hpp
  have HLM := Lib.hid hlm
  have HLR := Lib.hid hlr
  have hcap : n ≤ c0 := (hrow w (Ex.refl _ _)).1
  clear hMo hMv hM hms hrow hpp hlm hlr
  go_enter Tryz.func8, Tryz.ntmps8
  go_wp2_with fail
  refine C1.mono ?_
  rintro e w1 ⟨d, g, gi, r, h, rfl, hd, hD, hM1, hX1⟩
  clear C1
  have C2 := rpnew_any (HMS.out.same (w' := w1) fun k hk => hX1.block k (HLR.out k hk) (fun x => HPP.out k x hk)) (by omega : (0 : Int) ≤ 0 ∧ (0 : Int) ≤ 1000000000) most h0 h1
  have HD := Lib.hid hD
  have HM1 := Lib.hid hM1
  have HX1 := Lib.hid hX1
  have HDL := Lib.hid hd
  clear hD hM1 hX1 hd
  go_wp2_with fail
  refine C2.mono ?_
  rintro e w2 ⟨d2, g2, q2, rfl, hr, hR, hMs2, hX2⟩
  clear C2
  obtain ⟨w3, hw3⟩ : ∃ y, w2.alloc (.cells #[.pointer (some ⟨d, 0, none⟩), .pointer (some ⟨d2, 0, none⟩), .slice none 0 0, .slice none 0 0] 58) = y := ⟨_, rfl⟩
  have hB3 : Below w2.heap.size w2 w3 := by rw [← hw3]; exact (Below.refl _ w2).alloc (Nat.le_refl _) _
  have hx3 : Blk w3 w2.heap.size 4 (x8F (ini8 d g gi r h d2 g2 q2)) := by
    rw [← hw3]
    refine (Blk.new w2 _ _).congr fun j hj => ?_
    have : j = 0 ∨ j = 1 ∨ j = 2 ∨ j = 3 := by simp at hj; omega
    rcases this with rfl | rfl | rfl | rfl <;> rfl
  have HPY : Hid (Py8 w w2.heap.size (ini8 d g gi r h d2 g2 q2) (.pointer pm) (.pointer pr) M 1 0 most 0 w3) := py8_new HMo.out HLR.out HLM.out HPP.out HDL.out HD.out HM1.out HX1.out hr hR hMs2 hX2 hB3 hx3
  have hnq := eqD d
  have HW3 := Lib.hid hw3
  clear hB3 hx3 hR hMs2 hX2 hw3 HD HM1 HX1 HDL hr
  go_upto_region 8 with fail
  rw [HW3.out]
  generalize hXX : w2.heap.size = X at *
  clear hXX HW3
  go_wp2_with fail
  clear hnq
  obtain ⟨S0, hS0⟩ : ∃ S0, Hid (Py8 w X S0 (.pointer pm) (.pointer pr) M 1 0 most 0 w3) := ⟨_, HPY⟩
  clear HPY
  go_loopw [15] (fun iv wr => ∃ k S a b, k ≤ n ∧ iv = .int .i64 (k : Int) ∧ Py8 w X S (.pointer pm) (.pointer pr) M a b most (33 * k) wr) (fun iv _ => n - (intOf iv).toNat)
  case atStart => exact ⟨0, S0, 1, 0, Nat.zero_le _, rfl, hS0.out⟩
  case round =>
    clear hS0
    obtain ⟨k, S, a, b, hk, rfl, hPY⟩ := hrel
    by_cases hlt : k < n
    · have t1 : (k : Int) < (n : Int) := by omega
      obtain ⟨_, bR, offR, hab, hG⟩ := HROW.out wr hPY.ex
      obtain ⟨rfl, hbl⟩ := hab (by omega)
      have hq := (hG k hlt).1
      have hF : ∀ j, j < 7 → wr.cell? ⟨bR, offR + k * 8 + j, none⟩ = some (.int .i64 ((q k).1 j)) := fun j hj => by rw [Nat.add_assoc]; exact hq j hj
      have r0 : wr.cell? ⟨bR, offR + k * 8, none⟩ = some (.int .i64 ((q k).1 0)) := hF 0 (by omega)
      have r1 := hF 1 (by omega)
      have r2 := hF 2 (by omega)
      have r3 := hF 3 (by omega)
      have r4 := hF 4 (by omega)
      have r5 := hF 5 (by omega)
      have r6 := hF 6 (by omega)
      have r7 : wr.cell? ⟨bR, offR + k * 8 + 7, none⟩ = some (.bool (q k).2) := by rw [Nat.add_assoc]; exact (hG k hlt).2
      have CD := does8_any hPY.p HMo.out HMv.out (by omega) ((q k).1 0) ((q k).1 1) ((q k).1 2) ((q k).1 3) ((q k).1 4) ((q k).1 5) ((q k).1 6) (q k).2
      have HPY := Lib.hid hPY
      clear hG hab hPY hq hF
      generalize (q k).1 0 = x0 at *
      generalize (q k).1 1 = x1 at *
      generalize (q k).1 2 = x2 at *
      generalize (q k).1 3 = x3 at *
      generalize (q k).1 4 = x4 at *
      generalize (q k).1 5 = x5 at *
      generalize (q k).1 6 = x6 at *
      generalize (q k).2 = x7 at *
      go_wp2_with fail
      refine CD.mono ?_
      rintro e w4 ⟨rfl, S', a', b', hD⟩
      have hPY2 := HPY.out.step hD
      have CA := alike_any hPY2.p (by omega)
      have HPY2 := Lib.hid hPY2
      clear CD hD hPY2 r0 r1 r2 r3 r4 r5 r6 r7
      go_wp2_with fail
      refine CA.mono ?_
      rintro e w5 ⟨rfl, hb⟩
      have HP3 := Lib.hid (HPY2.out.below HMo.out hb)
      clear CA hb
      go_wp2_with fail
      go_roundw
      case rel => exact ⟨k + 1, S', a', b', by omega, by go_num, by have := HP3.out; rwa [show 33 * k + 33 = 33 * (k + 1) by omega] at this⟩
      case measure => simp [intOf]; omega
    · obtain rfl : k = n := by omega
      have t1 : ¬ (k : Int) < (k : Int) := by omega
      have HPY := Lib.hid hPY
      clear hPY
      go_wp2_with fail
      go_ret2
      exact ⟨X, rfl, S, a, b, HPY.out⟩
theorem plays8_bad (w : World) (v : Value) (mv mr : Value) (most : Int) (h0 : most < 0 ∨ 65536 < most) :
    Calls Tryz.prog 8 #[.int .i64 most, v, mv, mr] w fun e w' => e = .returned (.tuple #[.pointer none, .bool true]) ∧ w' = w := by
  have C1 := pnew_bad w mv most h0
  have C2 := rpnew_bad w mr most h0
  have hq : ∀ V, (binOp .eql 53 (.pointer none) (.pointer none)).run Tryz.prog V = .ok (.bool true) V := fun V => by kernel_rfl
  clear h0
  go_enter Tryz.func8, Tryz.ntmps8
  go_wp2_with fail
  refine C1.mono ?_
  rintro e w1 ⟨rfl, rfl⟩
  go_wp2_with fail
  refine C2.mono ?_
  rintro e w2 ⟨rfl, rfl⟩
  clear C1 C2
  go_wp2_with fail
  go_ret2
  exact ⟨rfl, rfl⟩
end Go.Proofs.YtjhaldbnfmddmaaGreat
namespace Go.Proofs.YtjhaldbnfmddmaaGreat
open Go.RowKit Go.WideShapes

/-- plays with meters that count. -/
theorem pmplays {w : World} {g : Nat} {a0 : Option Addr} {n c0 : Nat} {q : Nat → (Nat → Int) × Bool} (most : Int) (hM : Me.Mt w g 0 0 0 0) (hC : Blk w (g + 1) 4 (four4 0 0 0 0)) (hrow : ∀ V, Ex (fun k => mB (.pointer (some ⟨g, 0, none⟩)) k ∨ mB (.pointer (some ⟨g + 1, 0, none⟩)) k) w V → S8 V a0 n c0 q) (hn : n ≤ 300) :
    Calls Tryz.prog 8 #[.int .i64 most, .slice a0 n c0, .pointer (some ⟨g, 0, none⟩), .pointer (some ⟨g + 1, 0, none⟩)] w fun e w' => ∃ v a b, e = .returned (.tuple #[.pointer v, .bool true]) ∧ Me.Mt w' g a b 0 0 ∧ Ms w' (.pointer (some ⟨g + 1, 0, none⟩)) a b 0 0 ∧ Ex (fun k => mB (.pointer (some ⟨g, 0, none⟩)) k ∨ mB (.pointer (some ⟨g + 1, 0, none⟩)) k) w w' := by
  by_cases h : 0 ≤ most ∧ most ≤ 65536
  · refine (plays8_any (pm := some ⟨g, 0, none⟩) (pr := some ⟨g + 1, 0, none⟩) (mtOk_me g) (mvOk_me g) hM (.inr ⟨_, rfl, hC⟩) (fun k h1 h2 => by
      have e1 := meB h1
      have e2 := meB h2
      omega) hrow hn most h.1 h.2).mono ?_
    rintro e w' ⟨X, S, a, b, rfl, hP⟩
    exact ⟨_, a, b, rfl, hP.p.m, hP.p.ms, hP.ex⟩
  · refine (plays8_bad w _ _ _ most (by omega)).mono ?_
    rintro e w' ⟨rfl, rfl⟩
    exact ⟨_, 0, 0, rfl, hM, .inr ⟨_, rfl, hC⟩, Ex.refl _ _⟩
set_option maxRecDepth 100000 in
set_option maxHeartbeats 8000000 in
theorem pmeters_walk (most : Int) (a0 : Option Addr) (n c0 : Nat) (G : Nat → (Nat → Int) × Bool) (w : World) (hS : S8 w a0 n c0 G) :
    Calls Tryz.prog 4 #[.int .i64 most, .slice a0 n c0] w fun e w' => e = .returned (.bool true) ∧ Below w.heap.size w w' := by
  have hcap := hS.1
  by_cases hn : n ≤ 300
  · have tn : ¬ 300 < (n : Int) := by omega
    obtain ⟨w1, hw1⟩ : ∃ y, w.alloc (.cells #[.int .i32 0, .int .u32 0, .int .u32 0, .int .u32 0, .int .i32 0, .int .i32 0, .int .i64 0, .int .i64 0, .int .i64 0, .int .i64 0] 46) = y := ⟨_, rfl⟩
    obtain ⟨w2, hw2⟩ : ∃ y, w1.alloc (.cells #[.int .i64 0, .int .i64 0, .int .i64 0, .int .i64 0] 51) = y := ⟨_, rfl⟩
    have hb1 : Below w.heap.size w w1 := by rw [← hw1]; exact (Below.refl _ w).alloc (Nat.le_refl _) _
    have hb2 : Below w1.heap.size w1 w2 := by rw [← hw2]; exact (Below.refl _ w1).alloc (Nat.le_refl _) _
    have hs1 : w1.heap.size = w.heap.size + 1 := by rw [← hw1]; simp
    have hs2 : w2.heap.size = w1.heap.size + 1 := by rw [← hw2]; simp
    have hM1 : Me.Mt w1 w.heap.size 0 0 0 0 := by rw [← hw1]; exact Me.Mt.new w _
    have hM2 : Me.Mt w2 w.heap.size 0 0 0 0 := Me.Mt.same hM1 (hb2.block _ (by omega))
    have hC2 : Blk w2 w1.heap.size 4 (four4 0 0 0 0) := by
      rw [← hw2]
      refine (Blk.new w1 _ _).congr fun j hj => ?_
      have : j = 0 ∨ j = 1 ∨ j = 2 ∨ j = 3 := by simp at hj; omega
      rcases this with rfl | rfl | rfl | rfl <;> rfl
    have hb02 : Below w.heap.size w w2 := hb1.trans (hb2.mono hb1.size)
    rw [hs1] at hC2
    have C1 := pmplays (g := w.heap.size) (a0 := a0) (n := n) (c0 := c0) (q := G) most hM2 hC2 (fun V hV => by
        obtain ⟨k1, b, off, k2, k3⟩ := hS
        have hk : n > 0 → V.heap[b]? = w.heap[b]? := fun h0 => by
          have hbl := (k2 h0).2
          exact (hV.block b (by omega) (fun h => by
            rcases h with h | h
            · have := meB h; omega
            · have := meB h; omega)).trans (hb02.block b hbl)
        refine ⟨k1, b, off, fun h0 => ⟨(k2 h0).1, ?_⟩, fun i hi => ⟨fun k hk' => (World.cell?_of_block (a := ⟨b, off + (i * 8 + k), none⟩) (hk (by omega))).trans ((k3 i hi).1 k hk'), (World.cell?_of_block (a := ⟨b, off + (i * 8 + 7), none⟩) (hk (by omega))).trans (k3 i hi).2⟩⟩
        have := (k2 h0).2
        have := hV.size
        omega) hn
    have HB := Lib.hid hb02
    have HW1 := Lib.hid hw1
    have HW2 := Lib.hid hw2
    clear hS hb1 hb2 hM1 hM2 hC2 hw1 hw2 hb02
    go_enter Tryz.func4, Tryz.ntmps4
    go_upto_region 5 with fail
    rw [HW1.out, HW2.out]
    try rw [hs1]
    go_wp2_with fail
    refine C1.mono ?_
    rintro e w3 ⟨v, a, b, rfl, hm, hms, hPX⟩
    clear C1
    rcases hms with hms | ⟨mm, hms, hC3⟩
    · cases hms
    · cases hms
      have HEX := Lib.hid hPX
      have hmd : Me.Mt w3.drew w.heap.size a b 0 0 := Me.Mt.same hm rfl
      have CR := Me.read_any w.heap.size a b 0 0 w3.drew hmd
      have k0 : w3.drew.cell? ⟨w.heap.size + 1, 0, none⟩ = some (.int .i64 a) := hC3.c 0 (by omega)
      have k1 : w3.drew.cell? ⟨w.heap.size + 1, 1, none⟩ = some (.int .i64 b) := hC3.c 1 (by omega)
      have k2 : w3.drew.cell? ⟨w.heap.size + 1, 2, none⟩ = some (.int .i64 0) := hC3.c 2 (by omega)
      have k3 : w3.drew.cell? ⟨w.heap.size + 1, 3, none⟩ = some (.int .i64 0) := hC3.c 3 (by omega)
      have hl3 := hC3.lt (by omega)
      have s0 : (w3.drew.cell? ⟨w.heap.size + 1, 0, none⟩ = some (.int .i64 a) ∧ w3.drew.cell? ⟨w.heap.size + 1, 1, none⟩ = some (.int .i64 b)) ∧ w3.drew.cell? ⟨w.heap.size + 1, 2, none⟩ = some (.int .i64 0) ∧ w3.drew.cell? ⟨w.heap.size + 1, 3, none⟩ = some (.int .i64 0) := ⟨⟨k0, k1⟩, k2, k3⟩
      have HKP : Hid (∀ V : World, (∀ k, k < w3.heap.size → k ≠ w.heap.size → V.heap[k]? = w3.heap[k]?) → (V.cell? ⟨w.heap.size + 1, 0, none⟩ = some (.int .i64 a) ∧ V.cell? ⟨w.heap.size + 1, 1, none⟩ = some (.int .i64 b)) ∧ V.cell? ⟨w.heap.size + 1, 2, none⟩ = some (.int .i64 0) ∧ V.cell? ⟨w.heap.size + 1, 3, none⟩ = some (.int .i64 0)) := fun V hV => by
        have hC4 := hC3.same (hV (w.heap.size + 1) hl3 (by omega))
        exact ⟨⟨hC4.c 0 (by omega), hC4.c 1 (by omega)⟩, hC4.c 2 (by omega), hC4.c 3 (by omega)⟩
      have HAW := Lib.hid (fun V => awake8_any V)
      clear hPX hm hC3 k0 k1 k2 k3 hmd
      go_upto_region 6 with fail
      go_region_held3 (fun V => (V.cell? ⟨w.heap.size + 1, 0, none⟩ = some (.int .i64 a) ∧ V.cell? ⟨w.heap.size + 1, 1, none⟩ = some (.int .i64 b)) ∧ V.cell? ⟨w.heap.size + 1, 2, none⟩ = some (.int .i64 0) ∧ V.cell? ⟨w.heap.size + 1, 3, none⟩ = some (.int .i64 0))
        (first | with_reducible exact s0 | with_reducible exact s4 | with_reducible exact s5 | fail)
        (first | (go_at_call 9; refine CR.mono ?_; rintro e w4 ⟨rfl, hb4, hm4⟩; unfold Me.agg4; have s4 := HKP.out w4 (fun k hk hne => hb4.block k hk hne)) | (go_at_call 7; refine (HAW.out w4).mono ?_; rintro e w5 ⟨rfl, hb5⟩; have s5 := HKP.out w5 (fun k hk hne => (hb5.block k (Nat.lt_of_lt_of_le hk hb4.size)).trans (hb4.block k hk hne))) | fail)
      have HFB : Hid (Below w.heap.size w w5) := by
        have h1 : Below w.heap.size w w3 := HB.out.trans ⟨HEX.out.os, HEX.out.tape, HEX.out.output, HEX.out.size, fun k hk => HEX.out.block k (by have := HB.out.size; omega) (fun h => by
          rcases h with h | h
          · have := meB h; omega
          · have := meB h; omega)⟩
        have h2 : Below w.heap.size w w4 := h1.trans ⟨hb4.os, hb4.tape, hb4.output, hb4.size, fun k hk => hb4.block k (by have := h1.size; show k < w3.heap.size; omega) (by omega)⟩
        exact h2.trans (hb5.mono h2.size)
      clear s0 s4 s5 CR HAW HKP hb4 hb5 hm4
      go_wp2_with fail
      go_ret
      exact ⟨rfl, HFB.out⟩
  · have tn : 300 < (n : Int) := by omega
    have CW := awake8_any w
    clear hS
    go_enter Tryz.func4, Tryz.ntmps4
    go_wp2_with fail
    refine CW.mono ?_
    rintro e w1 ⟨rfl, hb⟩
    go_wp2
    go_ret
    exact ⟨rfl, hb⟩
end Go.Proofs.YtjhaldbnfmddmaaGreat
