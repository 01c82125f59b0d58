/-
  Where this seat's program holds package sync's locks: the numbers of their functions and types, and that it holds them.
  A meter in memory: its lock is free, its four counters hold these numbers; and how that stands behind later steps.
  What the calls that count do: count, Table, Visit, Charge, Turn; of a meter, and of none.
  What Table, Visit, Charge, Turn do; named; four numbers in a box.
-/
import Derived.Test.YthaijfjodfgbnaaGreatRows
import Derived.Conc.RwLib
import Derived.Conc.MuData
import Derived.KernelRfl
import Derived.Conc.RwLoneW
import Derived.Laws.LoneSync
import Derived.WalkKit
import Derived.Below
import Derived.Defers
namespace Go.Proofs.YthaijfjodfgbnaaGreat
abbrev muLink : Go.Conc.Locks.MuLink := { lock := 73, unlock := 82, ilock := 105, iunlock := 107, lockSlow := 113, unlockSlow := 114, disable := 72, enable := 76, acquire := 77, relMerge := 79, cas32 := 112, add32 := 106, tMutex := 35, tIMutex := 33, tPMutex := 131, tPIMutex := 162, tPI32 := 158, tUP := 130, tNoCopy := 30, tU32 := 31 }
theorem muLib : Go.Conc.Locks.MuLib Tryz.prog muLink :=
  ⟨Tryz.func73, Tryz.func82, Tryz.func105, Tryz.func107, Tryz.func72, Tryz.func76, Tryz.func77, Tryz.func79, Tryz.func112, Tryz.func106, Tryz.underlying33, Tryz.runUnderlying33, Tryz.sizeOf33, Tryz.isAgg33, Tryz.zeroValue33, Tryz.underlying35, Tryz.runUnderlying35, Tryz.sizeOf35, Tryz.isAgg35, Tryz.zeroValue35, Tryz.underlying131, Tryz.runUnderlying131, Tryz.sizeOf131, Tryz.isAgg131, Tryz.zeroValue131, Tryz.underlying162, Tryz.runUnderlying162, Tryz.sizeOf162, Tryz.isAgg162, Tryz.zeroValue162, Tryz.underlying158, Tryz.runUnderlying158, Tryz.sizeOf158, Tryz.isAgg158, Tryz.zeroValue158, Tryz.underlying130, Tryz.runUnderlying130, Tryz.sizeOf130, Tryz.isAgg130, Tryz.zeroValue130, Tryz.underlying30, Tryz.runUnderlying30, Tryz.sizeOf30, Tryz.isAgg30, Tryz.zeroValue30, Tryz.underlying21, Tryz.runUnderlying21, Tryz.sizeOf21, Tryz.isAgg21, Tryz.zeroValue21, (by kernel_rfl)⟩
abbrev rwLink : Go.Conc.Locks.RwLink := { lock := 73, unlock := 82, ilock := 105, iunlock := 107, lockSlow := 113, unlockSlow := 114, disable := 72, enable := 76, acquire := 77, relMerge := 79, cas32 := 112, add32 := 106, tMutex := 35, tIMutex := 33, tPMutex := 131, tPIMutex := 162, tPI32 := 158, tUP := 130, tNoCopy := 30, tU32 := 31, rlock := 115, runlock := 116, wlock := 31, wunlock := 32, i32add := 74, raceRead := 71, release := 78, rUnlockSlow := 126, semacqR := 125, semacqW := 75, semrel := 81, sfatal := 80, tRW := 40, tPRW := 128, tAI32 := 38, tPAI32 := 156, tPU32 := 134, tANoCopy := 36 }
theorem rwCore : Go.Conc.Locks.RwCore Tryz.prog rwLink :=
  ⟨Tryz.func74, Tryz.func71, Tryz.func72, Tryz.func76, Tryz.func77, Tryz.func79, Tryz.func106, Tryz.underlying40, Tryz.runUnderlying40, Tryz.sizeOf40, Tryz.isAgg40, Tryz.zeroValue40, Tryz.underlying38, Tryz.runUnderlying38, Tryz.sizeOf38, Tryz.isAgg38, Tryz.zeroValue38, Tryz.underlying128, Tryz.runUnderlying128, Tryz.sizeOf128, Tryz.isAgg128, Tryz.zeroValue128, Tryz.underlying156, Tryz.runUnderlying156, Tryz.sizeOf156, Tryz.isAgg156, Tryz.zeroValue156, Tryz.underlying134, Tryz.runUnderlying134, Tryz.sizeOf134, Tryz.isAgg134, Tryz.zeroValue134, Tryz.underlying36, Tryz.runUnderlying36, Tryz.sizeOf36, Tryz.isAgg36, Tryz.zeroValue36, Tryz.underlying31, Tryz.runUnderlying31, Tryz.sizeOf31, Tryz.isAgg31, Tryz.zeroValue31, Tryz.underlying35, Tryz.runUnderlying35, Tryz.sizeOf35, Tryz.isAgg35, Tryz.zeroValue35, Tryz.underlying131, Tryz.runUnderlying131, Tryz.sizeOf131, Tryz.isAgg131, Tryz.zeroValue131, Tryz.underlying158, Tryz.runUnderlying158, Tryz.sizeOf158, Tryz.isAgg158, Tryz.zeroValue158, Tryz.underlying130, Tryz.runUnderlying130, Tryz.sizeOf130, Tryz.isAgg130, Tryz.zeroValue130, Tryz.underlying21, Tryz.runUnderlying21, Tryz.sizeOf21, Tryz.isAgg21, Tryz.zeroValue21, (by kernel_rfl), (by kernel_rfl)⟩
theorem rwRLib : Go.Conc.Locks.RwRLib Tryz.prog rwLink := ⟨rwCore, Tryz.func115, Tryz.func116⟩
theorem rwWLib : Go.Conc.Locks.RwWLib Tryz.prog rwLink := ⟨rwCore, muLib, Tryz.func31, Tryz.func32, Tryz.func78, Tryz.underlying3, Tryz.runUnderlying3, Tryz.sizeOf3, Tryz.isAgg3, Tryz.zeroValue3⟩
end Go.Proofs.YthaijfjodfgbnaaGreat
namespace Go.Proofs.YthaijfjodfgbnaaGreat.Me
open Go.RowKit

theorem lt_of_cell {w : World} {b o : Nat} {v : Value} (h : w.cell? ⟨b, o, none⟩ = some v) : b < w.heap.size := by
  unfold World.cell? at h
  split at h
  · rename_i c e f hb
    exact (Array.getElem?_eq_some_iff.1 hb).1
  · simp at h
/-- All blocks but g are as they were. -/
structure But (g : Nat) (w w' : World) : Prop where
  os : w'.os = w.os
  tape : w'.tape = w.tape
  output : w'.output = w.output
  size : w.heap.size ≤ w'.heap.size
  block : ∀ k, k < w.heap.size → k ≠ g → w'.heap[k]? = w.heap[k]?
theorem But.refl (g : Nat) (w : World) : But g w w := ⟨rfl, rfl, rfl, Nat.le_refl _, fun _ _ _ => rfl⟩
theorem But.trans {g : Nat} {a b c : World} (h : But g a b) (k : But g b c) : But g a c :=
  ⟨k.os.trans h.os, k.tape.trans h.tape, k.output.trans h.output, Nat.le_trans h.size k.size, fun i hi hg => (k.block i (Nat.lt_of_lt_of_le hi h.size) hg).trans (h.block i hi hg)⟩
theorem But.drew {g : Nat} {a w : World} (h : But g a w) : But g a w.drew := ⟨h.os, h.tape, h.output, h.size, h.block⟩
theorem But.alloc {g : Nat} {a w : World} (h : But g a w) (o : Obj) : But g a (w.alloc o) :=
  h.trans ⟨rfl, rfl, rfl, by simp, fun k hk _ => Below.heap_alloc _ _ _ hk⟩
theorem But.setCell {g : Nat} {a w : World} (h : But g a w) (o : Nat) (u : Value) : But g a (w.setCell ⟨g, o, none⟩ u) :=
  h.trans ⟨rfl, rfl, rfl, by simp [World.setCell], fun k _ hk => Below.heap_setCell _ _ _ _ hk⟩
theorem But.setNew {g : Nat} {a w : World} (h : But g a w) {p : Addr} (hp : a.heap.size ≤ p.block) (u : Value) : But g a (w.setCell p u) :=
  ⟨h.os, h.tape, h.output, by simpa [World.setCell] using h.size, fun k hk hg => (Below.heap_setCell _ _ _ _ (by omega)).trans (h.block k hk hg)⟩
theorem But.below {g B : Nat} {w w' : World} (h : But g w w') (hg : B ≤ g) (hB : B ≤ w.heap.size) : Below B w w' :=
  ⟨h.os, h.tape, h.output, h.size, fun k hk => h.block k (by omega) (by omega)⟩
theorem but_of {w w' : World} (h : Below w.heap.size w w') (g : Nat) : But g w w' := ⟨h.os, h.tape, h.output, h.size, fun k hk _ => h.block k hk⟩
theorem But.cell {g : Nat} {w w' : World} (h : But g w w') {p : Addr} (hp : p.block < w.heap.size) (hg : p.block ≠ g) : w'.cell? p = w.cell? p := World.cell?_of_block (w := w) (h.block p.block hp hg)
theorem But.frozen {g : Nat} {w w' : World} (h : But g w w') {p : Addr} (hp : p.block < w.heap.size) (hg : p.block ≠ g) : w'.frozen? p = w.frozen? p := World.frozen?_of_block (w := w) (h.block p.block hp hg)

/-- A meter at ⟨g, 0⟩, its lock free: what its counters hold. -/
structure Mt (w : World) (g : Nat) (t c v s : Int) : Prop where
  c0 : w.cell? ⟨g, 0, none⟩ = some (.int .i32 0)
  c2 : w.cell? ⟨g, 2, none⟩ = some (.int .u32 0)
  c3 : w.cell? ⟨g, 3, none⟩ = some (.int .u32 0)
  c4 : w.cell? ⟨g, 4, none⟩ = some (.int .i32 0)
  c6 : w.cell? ⟨g, 6, none⟩ = some (.int .i64 t)
  c7 : w.cell? ⟨g, 7, none⟩ = some (.int .i64 c)
  c8 : w.cell? ⟨g, 8, none⟩ = some (.int .i64 v)
  c9 : w.cell? ⟨g, 9, none⟩ = some (.int .i64 s)
  fr : ∀ j, w.frozen? ⟨g, j, none⟩ = false
theorem Mt.lt {w : World} {g : Nat} {t c v s : Int} (h : Mt w g t c v s) : g < w.heap.size := lt_of_cell h.c0
theorem Mt.same {w w' : World} {g : Nat} {t c v s : Int} (h : Mt w g t c v s) (e : w'.heap[g]? = w.heap[g]?) : Mt w' g t c v s :=
  have k : ∀ o, w'.cell? ⟨g, o, none⟩ = w.cell? ⟨g, o, none⟩ := fun _ => World.cell?_of_block (w := w) e
  ⟨(k _).trans h.c0, (k _).trans h.c2, (k _).trans h.c3, (k _).trans h.c4, (k _).trans h.c6, (k _).trans h.c7, (k _).trans h.c8, (k _).trans h.c9, fun j => (World.frozen?_of_block (w := w) (a := ⟨g, j, none⟩) e).trans (h.fr j)⟩
theorem Mt.but {w w' : World} {g g' : Nat} {t c v s : Int} (h : Mt w g t c v s) (hb : But g' w w') (hg : g ≠ g') : Mt w' g t c v s := h.same (hb.block g h.lt hg)
theorem Mt.below {w w' : World} {g : Nat} {t c v s : Int} (h : Mt w g t c v s) (hb : Below w.heap.size w w') : Mt w' g t c v s := h.same (hb.block g h.lt)
theorem Mt.drew {w : World} {g : Nat} {t c v s : Int} (h : Mt w g t c v s) : Mt w.drew g t c v s := h.same rfl
theorem Mt.alloc {w : World} {g : Nat} {t c v s : Int} (h : Mt w g t c v s) (o : Obj) : Mt (w.alloc o) g t c v s := h.same (Below.heap_alloc _ _ _ h.lt)
theorem Mt.other {w : World} {g : Nat} {t c v s : Int} (h : Mt w g t c v s) {p : Addr} (hp : p.block ≠ g) (u : Value) : Mt (w.setCell p u) g t c v s := h.same (Below.heap_setCell _ _ _ _ (fun e => hp e.symm))
/-- A meter that was just made. -/
theorem Mt.new (w : World) (ty : TypeId) : Mt (w.alloc (.cells #[.int .i32 0, .int .u32 0, .int .u32 0, .int .u32 0, .int .i32 0, .int .i32 0, .int .i64 0, .int .i64 0, .int .i64 0, .int .i64 0] ty)) w.heap.size 0 0 0 0 := by
  constructor <;> first | exact fun j => World.frozen?_alloc_at _ _ _ _ rfl | (rw [World.cell?_alloc_at _ _ _ _ rfl]; rfl)

/-- sync/atomic.SwapT: the number is stored, and the old one handed back. -/
theorem run_call_swap {P : Program} {f : FuncId} {fn : Func} (hf : P.funcs[f]? = some fn) (hname : (fn.name == "runtime.NumGoroutine") = false) (hb : fn.body.isNone = true) (hn : Extern.findNext fn = none) (k : IntKind)
    (he : Extern.find fn = some (Extern.Atomic.swapT (.int k))) {a : Addr} {x y : Int} {w : World} (hc : w.cell? a = some (.int k x)) (hz : w.frozen? a = false) :
    (callFunc f #[.pointer (some a), .int k y]).run P w = .ok (.value (.int k x)) (w.setCell a (.int k y)) := by
  rw [run_callFunc_extern hf hname hb hn he]
  change (Sem.run P (do
    let a' ← asAddr (.pointer (some a))
    let old ← Extern.Atomic.read (.int k) a'
    store a' (.int k y) .atomic
    pure old) w).andThen _ = _
  simp [Extern.Atomic.read, asAddr, hc, hz, run_store P w a (.int k y) .atomic rfl, Result.andThen]

set_option maxHeartbeats 800000 in
theorem i64add_any (a : Addr) (x y : Int) (w : World) (hc : w.cell? a = some (.int .i64 x)) (hz : w.frozen? a = false) :
    Calls Tryz.prog 117 #[.pointer (some a), .int .i64 y] w fun e w' => e = .returned (.int .i64 (wrap64 (x + y))) ∧ w' = w.setCell a (.int .i64 (wrap64 (x + y))) := by
  have hadd := run_call_add (P := Tryz.prog) Tryz.func127 (by kernel_rfl) (by kernel_rfl) (by kernel_rfl) .i64 (by kernel_rfl) (y := y) (s := wrap64 (x + y)) hc hz (by simp [go_sem, wrap64, IntKind.wrap_i64])
  go_enter Tryz.func117, Tryz.ntmps117
  go_wp2
  go_ret
  exact ⟨rfl, rfl⟩
set_option maxHeartbeats 800000 in
theorem i64load_any (a : Addr) (x : Int) (w : World) (hc : w.cell? a = some (.int .i64 x)) :
    Calls Tryz.prog 33 #[.pointer (some a)] w fun e w' => e = .returned (.int .i64 x) ∧ w' = w := by
  have hadd := run_call_load (P := Tryz.prog) Tryz.func83 (by kernel_rfl) (by kernel_rfl) (by kernel_rfl) .i64 (by kernel_rfl) hc
  go_enter Tryz.func33, Tryz.ntmps33
  go_wp2
  go_ret
  exact ⟨rfl, rfl⟩
end Go.Proofs.YthaijfjodfgbnaaGreat.Me
namespace Go.Proofs.YthaijfjodfgbnaaGreat.Me
open Go.RowKit
open Go.RwLone

theorem up1 : wrap32 (0 + 1) = 1 := by kernel_rfl
theorem dn1 : wrap32 (1 + -1) = 0 := by kernel_rfl

set_option maxRecDepth 100000 in
set_option maxHeartbeats 1600000 in
theorem count_nil (k n : Int) (w : World) :
    Calls Tryz.prog 108 #[.pointer none, .int .i64 k, .int .i64 n] w fun e w' => e = .returned (.tuple #[]) ∧ w' = w := by
  go_enter_defers Tryz.func108, Tryz.ntmps108
  go_wp2_with fail
  exact ⟨_, results_none rfl _ _ _, rfl, rfl⟩
set_option maxRecDepth 100000 in
set_option maxHeartbeats 1600000 in
theorem count_in (g : Nat) (j : Nat) (hj : j < 4) (x n : Int) (h1 : 1 ≤ n) (h2 : n ≤ 2147483647) (w : World) (c0 : w.cell? ⟨g, 0, none⟩ = some (.int .i32 0)) (c2 : w.cell? ⟨g, 2, none⟩ = some (.int .u32 0))
    (c3 : w.cell? ⟨g, 3, none⟩ = some (.int .u32 0)) (c4 : w.cell? ⟨g, 4, none⟩ = some (.int .i32 0)) (cj : w.cell? ⟨g, 6 + j, none⟩ = some (.int .i64 x)) (fr : ∀ j, w.frozen? ⟨g, j, none⟩ = false) :
    Calls Tryz.prog 108 #[.pointer (some ⟨g, 0, none⟩), .int .i64 (j : Int), .int .i64 n] w fun e w' => e = .returned (.tuple #[]) ∧
      w' = ((w.setCell ⟨g, 4, none⟩ (.int .i32 1)).setCell ⟨g, 6 + j, none⟩ (.int .i64 (wrap64 (x + n)))).setCell ⟨g, 4, none⟩ (.int .i32 0) := by
  have t1 : ¬ n < 1 := by omega
  have t2 : ¬ 2147483647 < n := by omega
  have t3 : (j : Int) < 4 := by omega
  have t4 : (0 : Int) ≤ j := by omega
  go_enter_defers Tryz.func108, Tryz.ntmps108
  go_wp2_with (go_at_call 115; refine (rlock_open rwRLib g 0 0 _ _ _ c0 c3 c4 (fr 4) (by rw [up1]; decide)).mono ?_; rintro e w' ⟨rfl, rfl⟩; rw [up1])
  have e4 : (⟨g, 6 + j, none⟩ : Addr) ≠ ⟨g, 4, none⟩ := by intro e; injection e with _ e; omega
  refine (i64add_any ⟨g, 6 + j, none⟩ x n _ ((World.cell?_setCell_other _ _ _ _ (fun e => e4 e.symm)).trans cj) (by rw [World.frozen?_setCell]; exact fr _)).mono ?_
  rintro e w' ⟨rfl, rfl⟩
  go_wp2_with fail
  refine leaves_cons (f := 116) (args := #[.pointer (some ⟨g, 0, none⟩)]) (by simp) (by simp [go_sem]) ?_
  have o : ∀ q, q ≠ 4 → q < 6 → ((w.setCell ⟨g, 4, none⟩ (.int .i32 1)).setCell ⟨g, 6 + j, none⟩ (.int .i64 (wrap64 (x + n)))).cell? ⟨g, q, none⟩ = w.cell? ⟨g, q, none⟩ := fun q h4 h6 => by
    rw [World.cell?_setCell_other _ _ _ _ (by intro e; injection e with _ e; omega), World.cell?_setCell_other _ _ _ _ (by intro e; injection e with _ e; omega)]
  refine (runlock_deferred rwRLib g 0 1 (.int .i32 0) (.int .u32 0) .returning _ ?_ ?_ ?_ ?_ ?_).mono ?_
  · exact (o 0 (by omega) (by omega)).trans c0
  · exact (o 2 (by omega) (by omega)).trans c2
  · exact (World.cell?_setCell_other _ _ _ _ e4).trans (World.cell?_setCell_same w _ _ c4)
  · rw [World.frozen?_setCell, World.frozen?_setCell]; exact fr _
  · rw [dn1]; decide
  rintro e u' w'' ⟨rfl, rfl, rfl⟩
  rw [dn1]
  exact ⟨_, results_none rfl _ _ _, rfl, rfl⟩
set_option maxRecDepth 100000 in
set_option maxHeartbeats 1600000 in
theorem count_out (g : Nat) (j n : Int) (h : ¬ (1 ≤ n ∧ n ≤ 2147483647)) (w : World) :
    Calls Tryz.prog 108 #[.pointer (some ⟨g, 0, none⟩), .int .i64 j, .int .i64 n] w fun e w' => e = .returned (.tuple #[]) ∧ w' = w := by
  by_cases t1 : n < 1
  · clear h
    go_enter_defers Tryz.func108, Tryz.ntmps108
    go_wp2_with fail
    exact ⟨_, results_none rfl _ _ _, rfl, rfl⟩
  · have t2 : 2147483647 < n := by omega
    clear h
    go_enter_defers Tryz.func108, Tryz.ntmps108
    go_wp2_with fail
    exact ⟨_, results_none rfl _ _ _, rfl, rfl⟩
/-- What a counter is behind n more. -/
def more (x n : Int) : Int := if 1 ≤ n ∧ n ≤ 2147483647 then wrap64 (x + n) else x
theorem Mt.put {w : World} {g : Nat} {t c v s : Int} (h : Mt w g t c v s) (j : Nat) (y : Int) (t' c' v' s' : Int) (e0 : t' = if j = 0 then y else t) (e1 : c' = if j = 1 then y else c) (e2 : v' = if j = 2 then y else v) (e3 : s' = if j = 3 then y else s) :
    Mt (((w.setCell ⟨g, 4, none⟩ (.int .i32 1)).setCell ⟨g, 6 + j, none⟩ (.int .i64 y)).setCell ⟨g, 4, none⟩ (.int .i32 0)) g t' c' v' s' := by
  have o : ∀ q, q ≠ 4 → q ≠ 6 + j → (((w.setCell ⟨g, 4, none⟩ (.int .i32 1)).setCell ⟨g, 6 + j, none⟩ (.int .i64 y)).setCell ⟨g, 4, none⟩ (.int .i32 0)).cell? ⟨g, q, none⟩ = w.cell? ⟨g, q, none⟩ := fun q h4 h6 => by
    rw [World.cell?_setCell_other _ _ _ _ (by intro e; injection e with _ e; omega), World.cell?_setCell_other _ _ _ _ (by intro e; injection e with _ e; omega), World.cell?_setCell_other _ _ _ _ (by intro e; injection e with _ e; omega)]
  have a : ∀ (q : Nat) (x : Int), q < 4 → w.cell? ⟨g, 6 + q, none⟩ = some (.int .i64 x) →
      (((w.setCell ⟨g, 4, none⟩ (.int .i32 1)).setCell ⟨g, 6 + j, none⟩ (.int .i64 y)).setCell ⟨g, 4, none⟩ (.int .i32 0)).cell? ⟨g, 6 + q, none⟩ = some (.int .i64 (if j = q then y else x)) := fun q x hq hx => by
    by_cases hjq : j = q
    · subst hjq
      rw [World.cell?_setCell_other _ _ _ _ (by intro e; injection e with _ e; omega), if_pos rfl]
      exact World.cell?_setCell_same _ _ _ ((World.cell?_setCell_other _ _ _ _ (by intro e; injection e with _ e; omega)).trans hx)
    · rw [o _ (by omega) (by omega), if_neg hjq]; exact hx
  refine ⟨(o 0 (by omega) (by omega)).trans h.c0, (o 2 (by omega) (by omega)).trans h.c2, (o 3 (by omega) (by omega)).trans h.c3, ?_, ?_, ?_, ?_, ?_, fun k => ?_⟩
  · exact World.cell?_setCell_same _ _ _ ((World.cell?_setCell_other _ _ _ _ (by intro e; injection e with _ e; omega)).trans (World.cell?_setCell_same _ _ _ h.c4))
  · rw [e0]; exact a 0 t (by omega) h.c6
  · rw [e1]; exact a 1 c (by omega) h.c7
  · rw [e2]; exact a 2 v (by omega) h.c8
  · rw [e3]; exact a 3 s (by omega) h.c9
  · rw [World.frozen?_setCell, World.frozen?_setCell, World.frozen?_setCell]; exact h.fr k
theorem But.put (w : World) (g j : Nat) (y : Int) : But g w (((w.setCell ⟨g, 4, none⟩ (.int .i32 1)).setCell ⟨g, 6 + j, none⟩ (.int .i64 y)).setCell ⟨g, 4, none⟩ (.int .i32 0)) :=
  (((But.refl g w).setCell _ _).setCell _ _).setCell _ _
/-- count, of a meter: whatever n. -/
theorem count_any (g j : Nat) (hj : j < 4) (n : Int) (t c v s : Int) (w : World) (h : Mt w g t c v s) :
    Calls Tryz.prog 108 #[.pointer (some ⟨g, 0, none⟩), .int .i64 (j : Int), .int .i64 n] w fun e w' => e = .returned (.tuple #[]) ∧ But g w w' ∧
      Mt w' g (if j = 0 then more t n else t) (if j = 1 then more c n else c) (if j = 2 then more v n else v) (if j = 3 then more s n else s) := by
  by_cases hn : 1 ≤ n ∧ n ≤ 2147483647
  · have hm : ∀ x, more x n = wrap64 (x + n) := fun x => if_pos hn
    simp only [hm]
    obtain rfl | rfl | rfl | rfl : j = 0 ∨ j = 1 ∨ j = 2 ∨ j = 3 := by omega
    · refine (count_in g 0 hj t n hn.1 hn.2 w h.c0 h.c2 h.c3 h.c4 h.c6 h.fr).mono ?_
      rintro e w' ⟨rfl, rfl⟩
      exact ⟨rfl, But.put _ _ _ _, h.put 0 _ _ _ _ _ rfl rfl rfl rfl⟩
    · refine (count_in g 1 hj c n hn.1 hn.2 w h.c0 h.c2 h.c3 h.c4 h.c7 h.fr).mono ?_
      rintro e w' ⟨rfl, rfl⟩
      exact ⟨rfl, But.put _ _ _ _, h.put 1 _ _ _ _ _ rfl rfl rfl rfl⟩
    · refine (count_in g 2 hj v n hn.1 hn.2 w h.c0 h.c2 h.c3 h.c4 h.c8 h.fr).mono ?_
      rintro e w' ⟨rfl, rfl⟩
      exact ⟨rfl, But.put _ _ _ _, h.put 2 _ _ _ _ _ rfl rfl rfl rfl⟩
    · refine (count_in g 3 hj s n hn.1 hn.2 w h.c0 h.c2 h.c3 h.c4 h.c9 h.fr).mono ?_
      rintro e w' ⟨rfl, rfl⟩
      exact ⟨rfl, But.put _ _ _ _, h.put 3 _ _ _ _ _ rfl rfl rfl rfl⟩
  · have hm : ∀ x, more x n = x := fun x => if_neg hn
    simp only [hm, ite_self]
    refine (count_out g _ n hn w).mono ?_
    rintro e w' ⟨rfl, rfl⟩
    exact ⟨rfl, But.refl _ _, h⟩
end Go.Proofs.YthaijfjodfgbnaaGreat.Me
namespace Go.Proofs.YthaijfjodfgbnaaGreat.Me
open Go.RowKit
open Go.RwLone

set_option maxHeartbeats 800000 in
theorem table_any (g : Nat) (t c v s : Int) (w : World) (h : Mt w g t c v s) :
    Calls Tryz.prog 96 #[.pointer (some ⟨g, 0, none⟩)] w fun e w' => e = .returned (.tuple #[]) ∧ But g w w' ∧ Mt w' g (more t 1) c v s := by
  go_enter Tryz.func96, Tryz.ntmps96
  go_wp2_with fail
  refine (count_any g 0 (by omega) 1 t c v s w h).mono ?_
  rintro e w' ⟨rfl, hb, hm⟩
  go_wp2
  go_end0
  exact ⟨rfl, hb, hm⟩
set_option maxHeartbeats 800000 in
theorem visit_any (g : Nat) (n : Int) (t c v s : Int) (w : World) (h : Mt w g t c v s) :
    Calls Tryz.prog 94 #[.pointer (some ⟨g, 0, none⟩), .int .i64 n] w fun e w' => e = .returned (.tuple #[]) ∧ But g w w' ∧ Mt w' g t (more c n) v s := by
  go_enter Tryz.func94, Tryz.ntmps94
  go_wp2_with fail
  refine (count_any g 1 (by omega) n t c v s w h).mono ?_
  rintro e w' ⟨rfl, hb, hm⟩
  go_wp2
  go_end0
  exact ⟨rfl, hb, hm⟩
set_option maxHeartbeats 800000 in
theorem table_nil (w : World) : Calls Tryz.prog 96 #[.pointer none] w fun e w' => e = .returned (.tuple #[]) ∧ w' = w := by
  go_enter Tryz.func96, Tryz.ntmps96
  go_wp2_with fail
  refine (count_nil 0 1 w).mono ?_
  rintro e w' ⟨rfl, rfl⟩
  go_wp2
  go_end0
  exact ⟨rfl, rfl⟩
set_option maxHeartbeats 800000 in
theorem visit_nil (n : Int) (w : World) : Calls Tryz.prog 94 #[.pointer none, .int .i64 n] w fun e w' => e = .returned (.tuple #[]) ∧ w' = w := by
  go_enter Tryz.func94, Tryz.ntmps94
  go_wp2_with fail
  refine (count_nil 1 n w).mono ?_
  rintro e w' ⟨rfl, rfl⟩
  go_wp2
  go_end0
  exact ⟨rfl, rfl⟩
/-- Four numbers. -/
def agg4 (a b c d : Int) : Value := .agg #[.int .i64 a, .int .i64 b, .int .i64 c, .int .i64 d]
/-- Four numbers in a box. -/
structure Four (w : World) (N : Nat) (a b c d : Int) : Prop where
  c0 : w.cell? ⟨N, 0, none⟩ = some (.int .i64 a)
  c1 : w.cell? ⟨N, 1, none⟩ = some (.int .i64 b)
  c2 : w.cell? ⟨N, 2, none⟩ = some (.int .i64 c)
  c3 : w.cell? ⟨N, 3, none⟩ = some (.int .i64 d)
  fr : ∀ j, w.frozen? ⟨N, j, none⟩ = false
theorem Four.lt {w : World} {N : Nat} {a b c d : Int} (h : Four w N a b c d) : N < w.heap.size := lt_of_cell h.c0
theorem Four.same {w w' : World} {N : Nat} {a b c d : Int} (h : Four w N a b c d) (e : w'.heap[N]? = w.heap[N]?) : Four w' N a b c d :=
  have k : ∀ o, w'.cell? ⟨N, o, none⟩ = w.cell? ⟨N, o, none⟩ := fun _ => World.cell?_of_block (w := w) e
  ⟨(k _).trans h.c0, (k _).trans h.c1, (k _).trans h.c2, (k _).trans h.c3, fun j => (World.frozen?_of_block (w := w) (a := ⟨N, j, none⟩) e).trans (h.fr j)⟩
theorem Four.but {w w' : World} {N g : Nat} {a b c d : Int} (h : Four w N a b c d) (hb : But g w w') (hg : N ≠ g) : Four w' N a b c d := h.same (hb.block N h.lt hg)
theorem Four.below {w w' : World} {N : Nat} {a b c d : Int} (h : Four w N a b c d) (hb : Below w.heap.size w w') : Four w' N a b c d := h.same (hb.block N h.lt)
theorem Four.drew {w : World} {N : Nat} {a b c d : Int} (h : Four w N a b c d) : Four w.drew N a b c d := h.same rfl
theorem Four.alloc {w : World} {N : Nat} {a b c d : Int} (h : Four w N a b c d) (o : Obj) : Four (w.alloc o) N a b c d := h.same (Below.heap_alloc _ _ _ h.lt)
theorem Four.other {w : World} {N : Nat} {a b c d : Int} (h : Four w N a b c d) {p : Addr} (hp : p.block ≠ N) (u : Value) : Four (w.setCell p u) N a b c d := h.same (Below.heap_setCell _ _ _ _ (fun e => hp e.symm))
theorem Four.new (w : World) (a b c d : Int) (ty : TypeId) : Four (w.alloc (.cells #[.int .i64 a, .int .i64 b, .int .i64 c, .int .i64 d] ty)) w.heap.size a b c d := by
  constructor <;> first | exact fun j => World.frozen?_alloc_at _ _ _ _ rfl | (rw [World.cell?_alloc_at _ _ _ _ rfl]; rfl)
theorem Four.put (j : Nat) {w : World} {N : Nat} {a b c d : Int} (h : Four w N a b c d) (y a' b' c' d' : Int) (e0 : a' = if j = 0 then y else a) (e1 : b' = if j = 1 then y else b) (e2 : c' = if j = 2 then y else c) (e3 : d' = if j = 3 then y else d) :
    Four (w.setCell ⟨N, j, none⟩ (.int .i64 y)) N a' b' c' d' := by
  have a0 : ∀ (q : Nat) (x : Int), w.cell? ⟨N, q, none⟩ = some (.int .i64 x) → (w.setCell ⟨N, j, none⟩ (.int .i64 y)).cell? ⟨N, q, none⟩ = some (.int .i64 (if j = q then y else x)) := fun q x hx => by
    by_cases hjq : j = q
    · subst hjq
      rw [if_pos rfl]
      exact World.cell?_setCell_same _ _ _ hx
    · rw [World.cell?_setCell_other _ _ _ _ (by intro e; injection e with _ e; omega), if_neg hjq]; exact hx
  refine ⟨?_, ?_, ?_, ?_, fun k => ?_⟩
  · rw [e0]; exact a0 0 a h.c0
  · rw [e1]; exact a0 1 b h.c1
  · rw [e2]; exact a0 2 c h.c2
  · rw [e3]; exact a0 3 d h.c3
  · rw [World.frozen?_setCell]; exact h.fr k
/-- All four are stored. -/
theorem Four.all {w : World} {N : Nat} {a b c d : Int} (h : Four w N a b c d) (a' b' c' d' : Int) :
    Four ((((w.setCell ⟨N, 0, none⟩ (.int .i64 a')).setCell ⟨N, 1, none⟩ (.int .i64 b')).setCell ⟨N, 2, none⟩ (.int .i64 c')).setCell ⟨N, 3, none⟩ (.int .i64 d')) N a' b' c' d' :=
  ((((h.put 0 a' a' b c d rfl rfl rfl rfl).put 1 b' a' b' c d rfl rfl rfl rfl).put 2 c' a' b' c' d rfl rfl rfl rfl).put 3 d' a' b' c' d' rfl rfl rfl rfl)

set_option maxRecDepth 100000 in
set_option maxHeartbeats 1600000 in
theorem named_any (a b c d : Int) (w : World) :
    Calls Tryz.prog 34 #[agg4 a b c d] w fun e w' => e = .returned (agg4 a b c d) ∧ Below w.heap.size w w' := by
  unfold agg4
  go_enter Tryz.func34, Tryz.ntmps34
  go_wp2
  refine bodyPost_ret (v := .agg #[.int .i64 a, .int .i64 b, .int .i64 c, .int .i64 d]) ?_ rfl ⟨rfl, ((Below.refl _ w).alloc (Nat.le_refl _) _).alloc (by simp) _⟩
  simp [results, Tryz.results34, go_sem]
end Go.Proofs.YthaijfjodfgbnaaGreat.Me
