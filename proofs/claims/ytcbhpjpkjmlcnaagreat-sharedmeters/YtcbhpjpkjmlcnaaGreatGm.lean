/-
  A meter in memory: its lock is free, its four counters hold these numbers; and how that stands behind later steps.
  What the calls that count do: count, Table, Visit, Charge, Turn; of a meter, and of none.
  What Table, Visit, Charge, Turn do; named; four numbers in a box.
  What Read and Take do.
  A meter that counts, as a table asks it.
  A meter that counts all, as namespaces ask it.
-/
import Derived.Test.YtcbhpjpkjmlcnaaGreatRows
import Derived.Test.YtcbhpjpkjmlcnaaGreatMtLocks
import Derived.Conc.RwLoneW
import Derived.Laws.LoneSync
import Derived.WalkKit
import Derived.Below
import Derived.Defers
import Derived.Test.YtcbhpjpkjmlcnaaGreatGxac
import Derived.Test.YtcbhpjpkjmlcnaaGreatGxaf
namespace Go.Proofs.YtcbhpjpkjmlcnaaGreat.Me
open Go.RowKit

theorem lt_of_cell {w : World} {b o : Nat} {v : Value} (h : w.cell? ⟨b, o, none⟩ = some v) : b < w.heap.size := by
  unfold World.cell? at h
  split at h
  · rename_i c e f hb
    exact (Array.getElem?_eq_some_iff.1 hb).1
  · simp at h
/-- All blocks but g are as they were. -/
structure But (g : Nat) (w w' : World) : Prop where
  os : w'.os = w.os
  tape : w'.tape = w.tape
  output : w'.output = w.output
  size : w.heap.size ≤ w'.heap.size
  block : ∀ k, k < w.heap.size → k ≠ g → w'.heap[k]? = w.heap[k]?
theorem But.refl (g : Nat) (w : World) : But g w w := ⟨rfl, rfl, rfl, Nat.le_refl _, fun _ _ _ => rfl⟩
theorem But.trans {g : Nat} {a b c : World} (h : But g a b) (k : But g b c) : But g a c :=
  ⟨k.os.trans h.os, k.tape.trans h.tape, k.output.trans h.output, Nat.le_trans h.size k.size, fun i hi hg => (k.block i (Nat.lt_of_lt_of_le hi h.size) hg).trans (h.block i hi hg)⟩
theorem But.drew {g : Nat} {a w : World} (h : But g a w) : But g a w.drew := ⟨h.os, h.tape, h.output, h.size, h.block⟩
theorem But.alloc {g : Nat} {a w : World} (h : But g a w) (o : Obj) : But g a (w.alloc o) :=
  h.trans ⟨rfl, rfl, rfl, by simp, fun k hk _ => Below.heap_alloc _ _ _ hk⟩
theorem But.setCell {g : Nat} {a w : World} (h : But g a w) (o : Nat) (u : Value) : But g a (w.setCell ⟨g, o, none⟩ u) :=
  h.trans ⟨rfl, rfl, rfl, by simp [World.setCell], fun k _ hk => Below.heap_setCell _ _ _ _ hk⟩
theorem But.setNew {g : Nat} {a w : World} (h : But g a w) {p : Addr} (hp : a.heap.size ≤ p.block) (u : Value) : But g a (w.setCell p u) :=
  ⟨h.os, h.tape, h.output, by simpa [World.setCell] using h.size, fun k hk hg => (Below.heap_setCell _ _ _ _ (by omega)).trans (h.block k hk hg)⟩
theorem But.below {g B : Nat} {w w' : World} (h : But g w w') (hg : B ≤ g) (hB : B ≤ w.heap.size) : Below B w w' :=
  ⟨h.os, h.tape, h.output, h.size, fun k hk => h.block k (by omega) (by omega)⟩
theorem but_of {w w' : World} (h : Below w.heap.size w w') (g : Nat) : But g w w' := ⟨h.os, h.tape, h.output, h.size, fun k hk _ => h.block k hk⟩
theorem But.cell {g : Nat} {w w' : World} (h : But g w w') {p : Addr} (hp : p.block < w.heap.size) (hg : p.block ≠ g) : w'.cell? p = w.cell? p := World.cell?_of_block (w := w) (h.block p.block hp hg)
theorem But.frozen {g : Nat} {w w' : World} (h : But g w w') {p : Addr} (hp : p.block < w.heap.size) (hg : p.block ≠ g) : w'.frozen? p = w.frozen? p := World.frozen?_of_block (w := w) (h.block p.block hp hg)

/-- A meter at ⟨g, 0⟩, its lock free: what its counters hold. -/
structure Mt (w : World) (g : Nat) (t c v s : Int) : Prop where
  c0 : w.cell? ⟨g, 0, none⟩ = some (.int .i32 0)
  c2 : w.cell? ⟨g, 2, none⟩ = some (.int .u32 0)
  c3 : w.cell? ⟨g, 3, none⟩ = some (.int .u32 0)
  c4 : w.cell? ⟨g, 4, none⟩ = some (.int .i32 0)
  c6 : w.cell? ⟨g, 6, none⟩ = some (.int .i64 t)
  c7 : w.cell? ⟨g, 7, none⟩ = some (.int .i64 c)
  c8 : w.cell? ⟨g, 8, none⟩ = some (.int .i64 v)
  c9 : w.cell? ⟨g, 9, none⟩ = some (.int .i64 s)
  fr : ∀ j, w.frozen? ⟨g, j, none⟩ = false
theorem Mt.lt {w : World} {g : Nat} {t c v s : Int} (h : Mt w g t c v s) : g < w.heap.size := lt_of_cell h.c0
theorem Mt.same {w w' : World} {g : Nat} {t c v s : Int} (h : Mt w g t c v s) (e : w'.heap[g]? = w.heap[g]?) : Mt w' g t c v s :=
  have k : ∀ o, w'.cell? ⟨g, o, none⟩ = w.cell? ⟨g, o, none⟩ := fun _ => World.cell?_of_block (w := w) e
  ⟨(k _).trans h.c0, (k _).trans h.c2, (k _).trans h.c3, (k _).trans h.c4, (k _).trans h.c6, (k _).trans h.c7, (k _).trans h.c8, (k _).trans h.c9, fun j => (World.frozen?_of_block (w := w) (a := ⟨g, j, none⟩) e).trans (h.fr j)⟩
theorem Mt.but {w w' : World} {g g' : Nat} {t c v s : Int} (h : Mt w g t c v s) (hb : But g' w w') (hg : g ≠ g') : Mt w' g t c v s := h.same (hb.block g h.lt hg)
theorem Mt.below {w w' : World} {g : Nat} {t c v s : Int} (h : Mt w g t c v s) (hb : Below w.heap.size w w') : Mt w' g t c v s := h.same (hb.block g h.lt)
theorem Mt.drew {w : World} {g : Nat} {t c v s : Int} (h : Mt w g t c v s) : Mt w.drew g t c v s := h.same rfl
theorem Mt.alloc {w : World} {g : Nat} {t c v s : Int} (h : Mt w g t c v s) (o : Obj) : Mt (w.alloc o) g t c v s := h.same (Below.heap_alloc _ _ _ h.lt)
theorem Mt.other {w : World} {g : Nat} {t c v s : Int} (h : Mt w g t c v s) {p : Addr} (hp : p.block ≠ g) (u : Value) : Mt (w.setCell p u) g t c v s := h.same (Below.heap_setCell _ _ _ _ (fun e => hp e.symm))
/-- A meter that was just made. -/
theorem Mt.new (w : World) (ty : TypeId) : Mt (w.alloc (.cells #[.int .i32 0, .int .u32 0, .int .u32 0, .int .u32 0, .int .i32 0, .int .i32 0, .int .i64 0, .int .i64 0, .int .i64 0, .int .i64 0] ty)) w.heap.size 0 0 0 0 := by
  constructor <;> first | exact fun j => World.frozen?_alloc_at _ _ _ _ rfl | (rw [World.cell?_alloc_at _ _ _ _ rfl]; rfl)

/-- sync/atomic.SwapT: the number is stored, and the old one handed back. -/
theorem run_call_swap {P : Program} {f : FuncId} {fn : Func} (hf : P.funcs[f]? = some fn) (hname : (fn.name == "runtime.NumGoroutine") = false) (hb : fn.body.isNone = true) (hn : Extern.findNext fn = none) (k : IntKind)
    (he : Extern.find fn = some (Extern.Atomic.swapT (.int k))) {a : Addr} {x y : Int} {w : World} (hc : w.cell? a = some (.int k x)) (hz : w.frozen? a = false) :
    (callFunc f #[.pointer (some a), .int k y]).run P w = .ok (.value (.int k x)) (w.setCell a (.int k y)) := by
  rw [run_callFunc_extern hf hname hb hn he]
  change (Sem.run P (do
    let a' ← asAddr (.pointer (some a))
    let old ← Extern.Atomic.read (.int k) a'
    store a' (.int k y) .atomic
    pure old) w).andThen _ = _
  simp [Extern.Atomic.read, asAddr, hc, hz, run_store P w a (.int k y) .atomic rfl, Result.andThen]

set_option maxHeartbeats 800000 in
theorem i64add_any (a : Addr) (x y : Int) (w : World) (hc : w.cell? a = some (.int .i64 x)) (hz : w.frozen? a = false) :
    Calls Tryz.prog 137 #[.pointer (some a), .int .i64 y] w fun e w' => e = .returned (.int .i64 (wrap64 (x + y))) ∧ w' = w.setCell a (.int .i64 (wrap64 (x + y))) := by
  have hadd := run_call_add (P := Tryz.prog) Tryz.func142 (by kernel_rfl) (by kernel_rfl) (by kernel_rfl) .i64 (by kernel_rfl) (y := y) (s := wrap64 (x + y)) hc hz (by simp [go_sem, wrap64, IntKind.wrap_i64])
  go_enter Tryz.func137, Tryz.ntmps137
  go_wp2
  go_ret
  exact ⟨rfl, rfl⟩
set_option maxHeartbeats 800000 in
theorem i64load_any (a : Addr) (x : Int) (w : World) (hc : w.cell? a = some (.int .i64 x)) :
    Calls Tryz.prog 26 #[.pointer (some a)] w fun e w' => e = .returned (.int .i64 x) ∧ w' = w := by
  have hadd := run_call_load (P := Tryz.prog) Tryz.func62 (by kernel_rfl) (by kernel_rfl) (by kernel_rfl) .i64 (by kernel_rfl) hc
  go_enter Tryz.func26, Tryz.ntmps26
  go_wp2
  go_ret
  exact ⟨rfl, rfl⟩
end Go.Proofs.YtcbhpjpkjmlcnaaGreat.Me
namespace Go.Proofs.YtcbhpjpkjmlcnaaGreat.Me
open Go.RowKit
open Go.RwLone

theorem up1 : wrap32 (0 + 1) = 1 := by kernel_rfl
theorem dn1 : wrap32 (1 + -1) = 0 := by kernel_rfl

set_option maxRecDepth 100000 in
set_option maxHeartbeats 1600000 in
theorem count_nil (k n : Int) (w : World) :
    Calls Tryz.prog 131 #[.pointer none, .int .i64 k, .int .i64 n] w fun e w' => e = .returned (.tuple #[]) ∧ w' = w := by
  go_enter_defers Tryz.func131, Tryz.ntmps131
  go_wp2_with fail
  exact ⟨_, results_none rfl _ _ _, rfl, rfl⟩
set_option maxRecDepth 100000 in
set_option maxHeartbeats 1600000 in
theorem count_in (g : Nat) (j : Nat) (hj : j < 4) (x n : Int) (h1 : 1 ≤ n) (h2 : n ≤ 2147483647) (w : World) (c0 : w.cell? ⟨g, 0, none⟩ = some (.int .i32 0)) (c2 : w.cell? ⟨g, 2, none⟩ = some (.int .u32 0))
    (c3 : w.cell? ⟨g, 3, none⟩ = some (.int .u32 0)) (c4 : w.cell? ⟨g, 4, none⟩ = some (.int .i32 0)) (cj : w.cell? ⟨g, 6 + j, none⟩ = some (.int .i64 x)) (fr : ∀ j, w.frozen? ⟨g, j, none⟩ = false) :
    Calls Tryz.prog 131 #[.pointer (some ⟨g, 0, none⟩), .int .i64 (j : Int), .int .i64 n] w fun e w' => e = .returned (.tuple #[]) ∧
      w' = ((w.setCell ⟨g, 4, none⟩ (.int .i32 1)).setCell ⟨g, 6 + j, none⟩ (.int .i64 (wrap64 (x + n)))).setCell ⟨g, 4, none⟩ (.int .i32 0) := by
  have t1 : ¬ n < 1 := by omega
  have t2 : ¬ 2147483647 < n := by omega
  have t3 : (j : Int) < 4 := by omega
  have t4 : (0 : Int) ≤ j := by omega
  go_enter_defers Tryz.func131, Tryz.ntmps131
  go_wp2_with (go_at_call 135; refine (rlock_open rwRLib g 0 0 _ _ _ c0 c3 c4 (fr 4) (by rw [up1]; decide)).mono ?_; rintro e w' ⟨rfl, rfl⟩; rw [up1])
  have e4 : (⟨g, 6 + j, none⟩ : Addr) ≠ ⟨g, 4, none⟩ := by intro e; injection e with _ e; omega
  refine (i64add_any ⟨g, 6 + j, none⟩ x n _ ((World.cell?_setCell_other _ _ _ _ (fun e => e4 e.symm)).trans cj) (by rw [World.frozen?_setCell]; exact fr _)).mono ?_
  rintro e w' ⟨rfl, rfl⟩
  go_wp2_with fail
  refine leaves_cons (f := 136) (args := #[.pointer (some ⟨g, 0, none⟩)]) (by simp) (by simp [go_sem]) ?_
  have o : ∀ q, q ≠ 4 → q < 6 → ((w.setCell ⟨g, 4, none⟩ (.int .i32 1)).setCell ⟨g, 6 + j, none⟩ (.int .i64 (wrap64 (x + n)))).cell? ⟨g, q, none⟩ = w.cell? ⟨g, q, none⟩ := fun q h4 h6 => by
    rw [World.cell?_setCell_other _ _ _ _ (by intro e; injection e with _ e; omega), World.cell?_setCell_other _ _ _ _ (by intro e; injection e with _ e; omega)]
  refine (runlock_deferred rwRLib g 0 1 (.int .i32 0) (.int .u32 0) .returning _ ?_ ?_ ?_ ?_ ?_).mono ?_
  · exact (o 0 (by omega) (by omega)).trans c0
  · exact (o 2 (by omega) (by omega)).trans c2
  · exact (World.cell?_setCell_other _ _ _ _ e4).trans (World.cell?_setCell_same w _ _ c4)
  · rw [World.frozen?_setCell, World.frozen?_setCell]; exact fr _
  · rw [dn1]; decide
  rintro e u' w'' ⟨rfl, rfl, rfl⟩
  rw [dn1]
  exact ⟨_, results_none rfl _ _ _, rfl, rfl⟩
set_option maxRecDepth 100000 in
set_option maxHeartbeats 1600000 in
theorem count_out (g : Nat) (j n : Int) (h : ¬ (1 ≤ n ∧ n ≤ 2147483647)) (w : World) :
    Calls Tryz.prog 131 #[.pointer (some ⟨g, 0, none⟩), .int .i64 j, .int .i64 n] w fun e w' => e = .returned (.tuple #[]) ∧ w' = w := by
  by_cases t1 : n < 1
  · clear h
    go_enter_defers Tryz.func131, Tryz.ntmps131
    go_wp2_with fail
    exact ⟨_, results_none rfl _ _ _, rfl, rfl⟩
  · have t2 : 2147483647 < n := by omega
    clear h
    go_enter_defers Tryz.func131, Tryz.ntmps131
    go_wp2_with fail
    exact ⟨_, results_none rfl _ _ _, rfl, rfl⟩
/-- What a counter is behind n more. -/
def more (x n : Int) : Int := if 1 ≤ n ∧ n ≤ 2147483647 then wrap64 (x + n) else x
theorem Mt.put {w : World} {g : Nat} {t c v s : Int} (h : Mt w g t c v s) (j : Nat) (y : Int) (t' c' v' s' : Int) (e0 : t' = if j = 0 then y else t) (e1 : c' = if j = 1 then y else c) (e2 : v' = if j = 2 then y else v) (e3 : s' = if j = 3 then y else s) :
    Mt (((w.setCell ⟨g, 4, none⟩ (.int .i32 1)).setCell ⟨g, 6 + j, none⟩ (.int .i64 y)).setCell ⟨g, 4, none⟩ (.int .i32 0)) g t' c' v' s' := by
  have o : ∀ q, q ≠ 4 → q ≠ 6 + j → (((w.setCell ⟨g, 4, none⟩ (.int .i32 1)).setCell ⟨g, 6 + j, none⟩ (.int .i64 y)).setCell ⟨g, 4, none⟩ (.int .i32 0)).cell? ⟨g, q, none⟩ = w.cell? ⟨g, q, none⟩ := fun q h4 h6 => by
    rw [World.cell?_setCell_other _ _ _ _ (by intro e; injection e with _ e; omega), World.cell?_setCell_other _ _ _ _ (by intro e; injection e with _ e; omega), World.cell?_setCell_other _ _ _ _ (by intro e; injection e with _ e; omega)]
  have a : ∀ (q : Nat) (x : Int), q < 4 → w.cell? ⟨g, 6 + q, none⟩ = some (.int .i64 x) →
      (((w.setCell ⟨g, 4, none⟩ (.int .i32 1)).setCell ⟨g, 6 + j, none⟩ (.int .i64 y)).setCell ⟨g, 4, none⟩ (.int .i32 0)).cell? ⟨g, 6 + q, none⟩ = some (.int .i64 (if j = q then y else x)) := fun q x hq hx => by
    by_cases hjq : j = q
    · subst hjq
      rw [World.cell?_setCell_other _ _ _ _ (by intro e; injection e with _ e; omega), if_pos rfl]
      exact World.cell?_setCell_same _ _ _ ((World.cell?_setCell_other _ _ _ _ (by intro e; injection e with _ e; omega)).trans hx)
    · rw [o _ (by omega) (by omega), if_neg hjq]; exact hx
  refine ⟨(o 0 (by omega) (by omega)).trans h.c0, (o 2 (by omega) (by omega)).trans h.c2, (o 3 (by omega) (by omega)).trans h.c3, ?_, ?_, ?_, ?_, ?_, fun k => ?_⟩
  · exact World.cell?_setCell_same _ _ _ ((World.cell?_setCell_other _ _ _ _ (by intro e; injection e with _ e; omega)).trans (World.cell?_setCell_same _ _ _ h.c4))
  · rw [e0]; exact a 0 t (by omega) h.c6
  · rw [e1]; exact a 1 c (by omega) h.c7
  · rw [e2]; exact a 2 v (by omega) h.c8
  · rw [e3]; exact a 3 s (by omega) h.c9
  · rw [World.frozen?_setCell, World.frozen?_setCell, World.frozen?_setCell]; exact h.fr k
theorem But.put (w : World) (g j : Nat) (y : Int) : But g w (((w.setCell ⟨g, 4, none⟩ (.int .i32 1)).setCell ⟨g, 6 + j, none⟩ (.int .i64 y)).setCell ⟨g, 4, none⟩ (.int .i32 0)) :=
  (((But.refl g w).setCell _ _).setCell _ _).setCell _ _
/-- count, of a meter: whatever n. -/
theorem count_any (g j : Nat) (hj : j < 4) (n : Int) (t c v s : Int) (w : World) (h : Mt w g t c v s) :
    Calls Tryz.prog 131 #[.pointer (some ⟨g, 0, none⟩), .int .i64 (j : Int), .int .i64 n] w fun e w' => e = .returned (.tuple #[]) ∧ But g w w' ∧
      Mt w' g (if j = 0 then more t n else t) (if j = 1 then more c n else c) (if j = 2 then more v n else v) (if j = 3 then more s n else s) := by
  by_cases hn : 1 ≤ n ∧ n ≤ 2147483647
  · have hm : ∀ x, more x n = wrap64 (x + n) := fun x => if_pos hn
    simp only [hm]
    obtain rfl | rfl | rfl | rfl : j = 0 ∨ j = 1 ∨ j = 2 ∨ j = 3 := by omega
    · refine (count_in g 0 hj t n hn.1 hn.2 w h.c0 h.c2 h.c3 h.c4 h.c6 h.fr).mono ?_
      rintro e w' ⟨rfl, rfl⟩
      exact ⟨rfl, But.put _ _ _ _, h.put 0 _ _ _ _ _ rfl rfl rfl rfl⟩
    · refine (count_in g 1 hj c n hn.1 hn.2 w h.c0 h.c2 h.c3 h.c4 h.c7 h.fr).mono ?_
      rintro e w' ⟨rfl, rfl⟩
      exact ⟨rfl, But.put _ _ _ _, h.put 1 _ _ _ _ _ rfl rfl rfl rfl⟩
    · refine (count_in g 2 hj v n hn.1 hn.2 w h.c0 h.c2 h.c3 h.c4 h.c8 h.fr).mono ?_
      rintro e w' ⟨rfl, rfl⟩
      exact ⟨rfl, But.put _ _ _ _, h.put 2 _ _ _ _ _ rfl rfl rfl rfl⟩
    · refine (count_in g 3 hj s n hn.1 hn.2 w h.c0 h.c2 h.c3 h.c4 h.c9 h.fr).mono ?_
      rintro e w' ⟨rfl, rfl⟩
      exact ⟨rfl, But.put _ _ _ _, h.put 3 _ _ _ _ _ rfl rfl rfl rfl⟩
  · have hm : ∀ x, more x n = x := fun x => if_neg hn
    simp only [hm, ite_self]
    refine (count_out g _ n hn w).mono ?_
    rintro e w' ⟨rfl, rfl⟩
    exact ⟨rfl, But.refl _ _, h⟩
end Go.Proofs.YtcbhpjpkjmlcnaaGreat.Me
namespace Go.Proofs.YtcbhpjpkjmlcnaaGreat.Me
open Go.RowKit
open Go.RwLone

set_option maxHeartbeats 800000 in
theorem table_any (g : Nat) (t c v s : Int) (w : World) (h : Mt w g t c v s) :
    Calls Tryz.prog 115 #[.pointer (some ⟨g, 0, none⟩)] w fun e w' => e = .returned (.tuple #[]) ∧ But g w w' ∧ Mt w' g (more t 1) c v s := by
  go_enter Tryz.func115, Tryz.ntmps115
  go_wp2_with fail
  refine (count_any g 0 (by omega) 1 t c v s w h).mono ?_
  rintro e w' ⟨rfl, hb, hm⟩
  go_wp2
  go_end0
  exact ⟨rfl, hb, hm⟩
set_option maxHeartbeats 800000 in
theorem visit_any (g : Nat) (n : Int) (t c v s : Int) (w : World) (h : Mt w g t c v s) :
    Calls Tryz.prog 121 #[.pointer (some ⟨g, 0, none⟩), .int .i64 n] w fun e w' => e = .returned (.tuple #[]) ∧ But g w w' ∧ Mt w' g t (more c n) v s := by
  go_enter Tryz.func121, Tryz.ntmps121
  go_wp2_with fail
  refine (count_any g 1 (by omega) n t c v s w h).mono ?_
  rintro e w' ⟨rfl, hb, hm⟩
  go_wp2
  go_end0
  exact ⟨rfl, hb, hm⟩
set_option maxHeartbeats 800000 in
theorem charge_any (g : Nat) (n : Int) (t c v s : Int) (w : World) (h : Mt w g t c v s) :
    Calls Tryz.prog 180 #[.pointer (some ⟨g, 0, none⟩), .int .i64 n] w fun e w' => e = .returned (.tuple #[]) ∧ But g w w' ∧ Mt w' g t c (more v n) s := by
  go_enter Tryz.func180, Tryz.ntmps180
  go_wp2_with fail
  refine (count_any g 2 (by omega) n t c v s w h).mono ?_
  rintro e w' ⟨rfl, hb, hm⟩
  go_wp2
  go_end0
  exact ⟨rfl, hb, hm⟩
set_option maxHeartbeats 800000 in
theorem turn_any (g : Nat) (t c v s : Int) (w : World) (h : Mt w g t c v s) :
    Calls Tryz.prog 183 #[.pointer (some ⟨g, 0, none⟩)] w fun e w' => e = .returned (.tuple #[]) ∧ But g w w' ∧ Mt w' g t c v (more s 1) := by
  go_enter Tryz.func183, Tryz.ntmps183
  go_wp2_with fail
  refine (count_any g 3 (by omega) 1 t c v s w h).mono ?_
  rintro e w' ⟨rfl, hb, hm⟩
  go_wp2
  go_end0
  exact ⟨rfl, hb, hm⟩
set_option maxHeartbeats 800000 in
theorem table_nil (w : World) : Calls Tryz.prog 115 #[.pointer none] w fun e w' => e = .returned (.tuple #[]) ∧ w' = w := by
  go_enter Tryz.func115, Tryz.ntmps115
  go_wp2_with fail
  refine (count_nil 0 1 w).mono ?_
  rintro e w' ⟨rfl, rfl⟩
  go_wp2
  go_end0
  exact ⟨rfl, rfl⟩
set_option maxHeartbeats 800000 in
theorem visit_nil (n : Int) (w : World) : Calls Tryz.prog 121 #[.pointer none, .int .i64 n] w fun e w' => e = .returned (.tuple #[]) ∧ w' = w := by
  go_enter Tryz.func121, Tryz.ntmps121
  go_wp2_with fail
  refine (count_nil 1 n w).mono ?_
  rintro e w' ⟨rfl, rfl⟩
  go_wp2
  go_end0
  exact ⟨rfl, rfl⟩
set_option maxHeartbeats 800000 in
theorem charge_nil (n : Int) (w : World) : Calls Tryz.prog 180 #[.pointer none, .int .i64 n] w fun e w' => e = .returned (.tuple #[]) ∧ w' = w := by
  go_enter Tryz.func180, Tryz.ntmps180
  go_wp2_with fail
  refine (count_nil 2 n w).mono ?_
  rintro e w' ⟨rfl, rfl⟩
  go_wp2
  go_end0
  exact ⟨rfl, rfl⟩
set_option maxHeartbeats 800000 in
theorem turn_nil (w : World) : Calls Tryz.prog 183 #[.pointer none] w fun e w' => e = .returned (.tuple #[]) ∧ w' = w := by
  go_enter Tryz.func183, Tryz.ntmps183
  go_wp2_with fail
  refine (count_nil 3 1 w).mono ?_
  rintro e w' ⟨rfl, rfl⟩
  go_wp2
  go_end0
  exact ⟨rfl, rfl⟩

/-- Four numbers. -/
def agg4 (a b c d : Int) : Value := .agg #[.int .i64 a, .int .i64 b, .int .i64 c, .int .i64 d]
/-- Four numbers in a box. -/
structure Four (w : World) (N : Nat) (a b c d : Int) : Prop where
  c0 : w.cell? ⟨N, 0, none⟩ = some (.int .i64 a)
  c1 : w.cell? ⟨N, 1, none⟩ = some (.int .i64 b)
  c2 : w.cell? ⟨N, 2, none⟩ = some (.int .i64 c)
  c3 : w.cell? ⟨N, 3, none⟩ = some (.int .i64 d)
  fr : ∀ j, w.frozen? ⟨N, j, none⟩ = false
theorem Four.lt {w : World} {N : Nat} {a b c d : Int} (h : Four w N a b c d) : N < w.heap.size := lt_of_cell h.c0
theorem Four.same {w w' : World} {N : Nat} {a b c d : Int} (h : Four w N a b c d) (e : w'.heap[N]? = w.heap[N]?) : Four w' N a b c d :=
  have k : ∀ o, w'.cell? ⟨N, o, none⟩ = w.cell? ⟨N, o, none⟩ := fun _ => World.cell?_of_block (w := w) e
  ⟨(k _).trans h.c0, (k _).trans h.c1, (k _).trans h.c2, (k _).trans h.c3, fun j => (World.frozen?_of_block (w := w) (a := ⟨N, j, none⟩) e).trans (h.fr j)⟩
theorem Four.but {w w' : World} {N g : Nat} {a b c d : Int} (h : Four w N a b c d) (hb : But g w w') (hg : N ≠ g) : Four w' N a b c d := h.same (hb.block N h.lt hg)
theorem Four.below {w w' : World} {N : Nat} {a b c d : Int} (h : Four w N a b c d) (hb : Below w.heap.size w w') : Four w' N a b c d := h.same (hb.block N h.lt)
theorem Four.drew {w : World} {N : Nat} {a b c d : Int} (h : Four w N a b c d) : Four w.drew N a b c d := h.same rfl
theorem Four.alloc {w : World} {N : Nat} {a b c d : Int} (h : Four w N a b c d) (o : Obj) : Four (w.alloc o) N a b c d := h.same (Below.heap_alloc _ _ _ h.lt)
theorem Four.other {w : World} {N : Nat} {a b c d : Int} (h : Four w N a b c d) {p : Addr} (hp : p.block ≠ N) (u : Value) : Four (w.setCell p u) N a b c d := h.same (Below.heap_setCell _ _ _ _ (fun e => hp e.symm))
theorem Four.new (w : World) (a b c d : Int) (ty : TypeId) : Four (w.alloc (.cells #[.int .i64 a, .int .i64 b, .int .i64 c, .int .i64 d] ty)) w.heap.size a b c d := by
  constructor <;> first | exact fun j => World.frozen?_alloc_at _ _ _ _ rfl | (rw [World.cell?_alloc_at _ _ _ _ rfl]; rfl)
theorem Four.put (j : Nat) {w : World} {N : Nat} {a b c d : Int} (h : Four w N a b c d) (y a' b' c' d' : Int) (e0 : a' = if j = 0 then y else a) (e1 : b' = if j = 1 then y else b) (e2 : c' = if j = 2 then y else c) (e3 : d' = if j = 3 then y else d) :
    Four (w.setCell ⟨N, j, none⟩ (.int .i64 y)) N a' b' c' d' := by
  have a0 : ∀ (q : Nat) (x : Int), w.cell? ⟨N, q, none⟩ = some (.int .i64 x) → (w.setCell ⟨N, j, none⟩ (.int .i64 y)).cell? ⟨N, q, none⟩ = some (.int .i64 (if j = q then y else x)) := fun q x hx => by
    by_cases hjq : j = q
    · subst hjq
      rw [if_pos rfl]
      exact World.cell?_setCell_same _ _ _ hx
    · rw [World.cell?_setCell_other _ _ _ _ (by intro e; injection e with _ e; omega), if_neg hjq]; exact hx
  refine ⟨?_, ?_, ?_, ?_, fun k => ?_⟩
  · rw [e0]; exact a0 0 a h.c0
  · rw [e1]; exact a0 1 b h.c1
  · rw [e2]; exact a0 2 c h.c2
  · rw [e3]; exact a0 3 d h.c3
  · rw [World.frozen?_setCell]; exact h.fr k
/-- All four are stored. -/
theorem Four.all {w : World} {N : Nat} {a b c d : Int} (h : Four w N a b c d) (a' b' c' d' : Int) :
    Four ((((w.setCell ⟨N, 0, none⟩ (.int .i64 a')).setCell ⟨N, 1, none⟩ (.int .i64 b')).setCell ⟨N, 2, none⟩ (.int .i64 c')).setCell ⟨N, 3, none⟩ (.int .i64 d')) N a' b' c' d' :=
  ((((h.put 0 a' a' b c d rfl rfl rfl rfl).put 1 b' a' b' c d rfl rfl rfl rfl).put 2 c' a' b' c' d rfl rfl rfl rfl).put 3 d' a' b' c' d' rfl rfl rfl rfl)

set_option maxRecDepth 100000 in
set_option maxHeartbeats 1600000 in
theorem named_any (a b c d : Int) (w : World) :
    Calls Tryz.prog 27 #[agg4 a b c d] w fun e w' => e = .returned (agg4 a b c d) ∧ Below w.heap.size w w' := by
  unfold agg4
  go_enter Tryz.func27, Tryz.ntmps27
  go_wp2
  refine bodyPost_ret (v := .agg #[.int .i64 a, .int .i64 b, .int .i64 c, .int .i64 d]) ?_ rfl ⟨rfl, ((Below.refl _ w).alloc (Nat.le_refl _) _).alloc (by simp) _⟩
  simp [results, Tryz.results27, go_sem]
end Go.Proofs.YtcbhpjpkjmlcnaaGreat.Me
namespace Go.Proofs.YtcbhpjpkjmlcnaaGreat.Me
open Go.RowKit
open Go.RwLone

/-- A meter whose lock is held by one who tells. -/
structure Lk (w : World) (g : Nat) (t c v s : Int) : Prop where
  c0 : w.cell? ⟨g, 0, none⟩ = some (.int .i32 1)
  c2 : w.cell? ⟨g, 2, none⟩ = some (.int .u32 0)
  c3 : w.cell? ⟨g, 3, none⟩ = some (.int .u32 0)
  c4 : w.cell? ⟨g, 4, none⟩ = some (.int .i32 (-1073741824))
  c6 : w.cell? ⟨g, 6, none⟩ = some (.int .i64 t)
  c7 : w.cell? ⟨g, 7, none⟩ = some (.int .i64 c)
  c8 : w.cell? ⟨g, 8, none⟩ = some (.int .i64 v)
  c9 : w.cell? ⟨g, 9, none⟩ = some (.int .i64 s)
  fr : ∀ j, w.frozen? ⟨g, j, none⟩ = false
theorem Lk.lt {w : World} {g : Nat} {t c v s : Int} (h : Lk w g t c v s) : g < w.heap.size := lt_of_cell h.c0
theorem Lk.same {w w' : World} {g : Nat} {t c v s : Int} (h : Lk w g t c v s) (e : w'.heap[g]? = w.heap[g]?) : Lk w' g t c v s :=
  have k : ∀ o, w'.cell? ⟨g, o, none⟩ = w.cell? ⟨g, o, none⟩ := fun _ => World.cell?_of_block (w := w) e
  ⟨(k _).trans h.c0, (k _).trans h.c2, (k _).trans h.c3, (k _).trans h.c4, (k _).trans h.c6, (k _).trans h.c7, (k _).trans h.c8, (k _).trans h.c9, fun j => (World.frozen?_of_block (w := w) (a := ⟨g, j, none⟩) e).trans (h.fr j)⟩
theorem Lk.below {w w' : World} {g : Nat} {t c v s : Int} (h : Lk w g t c v s) (hb : Below w.heap.size w w') : Lk w' g t c v s := h.same (hb.block g h.lt)
theorem Lk.alloc {w : World} {g : Nat} {t c v s : Int} (h : Lk w g t c v s) (o : Obj) : Lk (w.alloc o) g t c v s := h.same (Below.heap_alloc _ _ _ h.lt)
theorem Lk.other {w : World} {g : Nat} {t c v s : Int} (h : Lk w g t c v s) {p : Addr} (hp : p.block ≠ g) (u : Value) : Lk (w.setCell p u) g t c v s := h.same (Below.heap_setCell _ _ _ _ (fun e => hp e.symm))
theorem Lk.otherAt {w : World} {g : Nat} {t c v s : Int} (h : Lk w g t c v s) {b : Nat} (hp : b ≠ g) (o : Nat) (u : Value) : Lk (w.setCell ⟨b, o, none⟩ u) g t c v s := h.other hp u
theorem Four.otherAt {w : World} {N : Nat} {a b c d : Int} (h : Four w N a b c d) {g : Nat} (hp : g ≠ N) (o : Nat) (u : Value) : Four (w.setCell ⟨g, o, none⟩ u) N a b c d := h.other hp u
/-- Two cells of a block are other cells. -/
theorem cell_other (w : World) (g q p : Nat) (x : Value) (h : q ≠ p) : (w.setCell ⟨g, q, none⟩ x).cell? ⟨g, p, none⟩ = w.cell? ⟨g, p, none⟩ :=
  World.cell?_setCell_other _ _ _ _ (by intro e; injection e with _ e; omega)
theorem Mt.lock {w : World} {g : Nat} {t c v s : Int} (h : Mt w g t c v s) : Lk ((w.setCell ⟨g, 0, none⟩ (.int .i32 1)).setCell ⟨g, 4, none⟩ (.int .i32 (-1073741824))) g t c v s := by
  have o : ∀ q, 4 ≠ q → 0 ≠ q → ((w.setCell ⟨g, 0, none⟩ (.int .i32 1)).setCell ⟨g, 4, none⟩ (.int .i32 (-1073741824))).cell? ⟨g, q, none⟩ = w.cell? ⟨g, q, none⟩ := fun q h4 h6 => by
    rw [cell_other _ _ _ _ _ h4, cell_other _ _ _ _ _ h6]
  refine ⟨?_, (o 2 (by omega) (by omega)).trans h.c2, (o 3 (by omega) (by omega)).trans h.c3, ?_, (o 6 (by omega) (by omega)).trans h.c6, (o 7 (by omega) (by omega)).trans h.c7, (o 8 (by omega) (by omega)).trans h.c8, (o 9 (by omega) (by omega)).trans h.c9, fun k => ?_⟩
  · rw [cell_other _ _ _ _ _ (by omega)]; exact World.cell?_setCell_same _ _ _ h.c0
  · exact World.cell?_setCell_same _ _ _ ((cell_other _ _ _ _ _ (by omega)).trans h.c4)
  · rw [World.frozen?_setCell, World.frozen?_setCell]; exact h.fr k
theorem Lk.unlock {w : World} {g : Nat} {t c v s : Int} (h : Lk w g t c v s) : Mt ((w.setCell ⟨g, 4, none⟩ (.int .i32 0)).setCell ⟨g, 0, none⟩ (.int .i32 0)) g t c v s := by
  have o : ∀ q, 4 ≠ q → 0 ≠ q → ((w.setCell ⟨g, 4, none⟩ (.int .i32 0)).setCell ⟨g, 0, none⟩ (.int .i32 0)).cell? ⟨g, q, none⟩ = w.cell? ⟨g, q, none⟩ := fun q h4 h6 => by
    rw [cell_other _ _ _ _ _ h6, cell_other _ _ _ _ _ h4]
  refine ⟨?_, (o 2 (by omega) (by omega)).trans h.c2, (o 3 (by omega) (by omega)).trans h.c3, ?_, (o 6 (by omega) (by omega)).trans h.c6, (o 7 (by omega) (by omega)).trans h.c7, (o 8 (by omega) (by omega)).trans h.c8, (o 9 (by omega) (by omega)).trans h.c9, fun k => ?_⟩
  · exact World.cell?_setCell_same _ _ _ ((cell_other _ _ _ _ _ (by omega)).trans h.c0)
  · rw [cell_other _ _ _ _ _ (by omega)]; exact World.cell?_setCell_same _ _ _ h.c4
  · rw [World.frozen?_setCell, World.frozen?_setCell]; exact h.fr k
theorem Lk.put (j : Nat) {w : World} {g : Nat} {t c v s : Int} (h : Lk w g t c v s) (y t' c' v' s' : Int) (e0 : t' = if j = 0 then y else t) (e1 : c' = if j = 1 then y else c) (e2 : v' = if j = 2 then y else v) (e3 : s' = if j = 3 then y else s) :
    Lk (w.setCell ⟨g, 6 + j, none⟩ (.int .i64 y)) g t' c' v' s' := by
  have a0 : ∀ (q : Nat) (x : Int), w.cell? ⟨g, 6 + q, none⟩ = some (.int .i64 x) → (w.setCell ⟨g, 6 + j, none⟩ (.int .i64 y)).cell? ⟨g, 6 + q, none⟩ = some (.int .i64 (if j = q then y else x)) := fun q x hx => by
    by_cases hjq : j = q
    · subst hjq
      rw [if_pos rfl]
      exact World.cell?_setCell_same _ _ _ hx
    · rw [cell_other _ _ _ _ _ (by omega), if_neg hjq]; exact hx
  refine ⟨(cell_other _ _ _ _ _ (by omega)).trans h.c0, (cell_other _ _ _ _ _ (by omega)).trans h.c2, (cell_other _ _ _ _ _ (by omega)).trans h.c3, (cell_other _ _ _ _ _ (by omega)).trans h.c4, ?_, ?_, ?_, ?_, fun k => ?_⟩
  · rw [e0]; exact a0 0 t h.c6
  · rw [e1]; exact a0 1 c h.c7
  · rw [e2]; exact a0 2 v h.c8
  · rw [e3]; exact a0 3 s h.c9
  · rw [World.frozen?_setCell]; exact h.fr k

set_option maxRecDepth 100000 in
set_option maxHeartbeats 1600000 in
theorem read_nil (w : World) : Calls Tryz.prog 8 #[.pointer none] w fun e w' => e = .returned (agg4 0 0 0 0) ∧ Below w.heap.size w w' := by
  go_enter_defers Tryz.func8, Tryz.ntmps8
  go_wp2_with fail
  refine ⟨agg4 0 0 0 0, ?_, rfl, (Below.refl _ w).alloc (Nat.le_refl _) _⟩
  simp [results, Tryz.results8, go_sem, agg4]
set_option maxRecDepth 100000 in
set_option maxHeartbeats 3200000 in
theorem read_any (g : Nat) (t c v s : Int) (w : World) (h : Mt w g t c v s) :
    Calls Tryz.prog 8 #[.pointer (some ⟨g, 0, none⟩)] w fun e w' => e = .returned (agg4 t c v s) ∧ But g w w' ∧ Mt w' g t c v s := by
  have hlt := h.lt
  go_enter_defers Tryz.func8, Tryz.ntmps8
  go_wp2_with fail
  have R0 := Four.new w 0 0 0 0 48
  have M0 := h.alloc (.cells #[.int .i64 0, .int .i64 0, .int .i64 0, .int .i64 0] 48)
  have B0 := (But.refl g w).alloc (.cells #[.int .i64 0, .int .i64 0, .int .i64 0, .int .i64 0] 48)
  obtain ⟨w1, hw1⟩ : ∃ W, w.alloc (.cells #[.int .i64 0, .int .i64 0, .int .i64 0, .int .i64 0] 48) = W := ⟨_, rfl⟩
  rw [hw1] at R0 M0 B0 ⊢
  clear hw1 h
  refine (wlock_free rwWLib g 0 _ _ _ M0.c0 M0.c2 M0.c3 M0.c4 (M0.fr 0) (M0.fr 4)).mono ?_
  rintro e w' ⟨rfl, rfl⟩
  have M1 := M0.lock
  have R1 := (R0.otherAt (g := g) (by omega) 0 (.int .i32 1)).otherAt (g := g) (by omega) 4 (.int .i32 (-1073741824))
  have B1 := (B0.setCell 0 (.int .i32 1)).setCell 4 (.int .i32 (-1073741824))
  obtain ⟨w2, hw2⟩ : ∃ W, (w1.setCell ⟨g, 0, none⟩ (.int .i32 1)).setCell ⟨g, 4, none⟩ (.int .i32 (-1073741824)) = W := ⟨_, rfl⟩
  rw [Nat.zero_add, hw2]
  rw [hw2] at R1 M1 B1
  clear hw2 R0 M0 B0
  have t1 := R1.lt
  have t2 := M1.lt
  go_wp2_with fail
  have Q := Four.new w2 0 0 0 0 86
  have M := M1.alloc (.cells #[.int .i64 0, .int .i64 0, .int .i64 0, .int .i64 0] 86)
  have R := R1.alloc (.cells #[.int .i64 0, .int .i64 0, .int .i64 0, .int .i64 0] 86)
  have B := B1.alloc (.cells #[.int .i64 0, .int .i64 0, .int .i64 0, .int .i64 0] 86)
  obtain ⟨W0, hw3⟩ : ∃ W, w2.alloc (.cells #[.int .i64 0, .int .i64 0, .int .i64 0, .int .i64 0] 86) = W := ⟨_, rfl⟩
  rw [hw3] at R M B Q ⊢
  clear hw3 R1 M1 B1
  obtain ⟨T, hT⟩ : ∃ T, w2.heap.size = T := ⟨_, rfl⟩
  obtain ⟨N, hN⟩ : ∃ N, w.heap.size = N := ⟨_, rfl⟩
  have hN1 : w.heap.size ≤ N := by omega
  have hT1 : w.heap.size ≤ T := by omega
  rw [hT] at Q t1 t2 ⊢
  rw [hN] at R t1 hlt ⊢
  clear hT hN
  refine wp_loop_rounds 5 ?_
  rw [rounds_succ]
  have d0 := Q.c0
  have d1 := Q.fr 0
  go_wp2_with (go_at_call 26; refine (i64load_any ⟨g, 6, none⟩ t _ M.c6).mono ?_; rintro e w' ⟨rfl, rfl⟩)
  clear d0 d1
  replace Q := Q.put 0 t t 0 0 0 rfl rfl rfl rfl
  replace M := M.otherAt (b := T) (by omega) 0 (.int .i64 t)
  replace R := R.otherAt (g := T) (by omega) 0 (.int .i64 t)
  replace B := B.setNew (p := ⟨T, 0, none⟩) hT1 (.int .i64 t)
  generalize hW0 : World.setCell _ ⟨T, 0, none⟩ (.int .i64 t) = W1 at Q M R B ⊢
  clear hW0
  rw [rounds_succ]
  have d0 := Q.c1
  have d1 := Q.fr 1
  go_wp2_with (go_at_call 26; refine (i64load_any ⟨g, 7, none⟩ c _ M.c7).mono ?_; rintro e w' ⟨rfl, rfl⟩)
  clear d0 d1
  replace Q := Q.put 1 c t c 0 0 rfl rfl rfl rfl
  replace M := M.otherAt (b := T) (by omega) 1 (.int .i64 c)
  replace R := R.otherAt (g := T) (by omega) 1 (.int .i64 c)
  replace B := B.setNew (p := ⟨T, 1, none⟩) hT1 (.int .i64 c)
  generalize hW1 : World.setCell _ ⟨T, 1, none⟩ (.int .i64 c) = W2 at Q M R B ⊢
  clear hW1
  rw [rounds_succ]
  have d0 := Q.c2
  have d1 := Q.fr 2
  go_wp2_with (go_at_call 26; refine (i64load_any ⟨g, 8, none⟩ v _ M.c8).mono ?_; rintro e w' ⟨rfl, rfl⟩)
  clear d0 d1
  replace Q := Q.put 2 v t c v 0 rfl rfl rfl rfl
  replace M := M.otherAt (b := T) (by omega) 2 (.int .i64 v)
  replace R := R.otherAt (g := T) (by omega) 2 (.int .i64 v)
  replace B := B.setNew (p := ⟨T, 2, none⟩) hT1 (.int .i64 v)
  generalize hW2 : World.setCell _ ⟨T, 2, none⟩ (.int .i64 v) = W3 at Q M R B ⊢
  clear hW2
  rw [rounds_succ]
  have d0 := Q.c3
  have d1 := Q.fr 3
  go_wp2_with (go_at_call 26; refine (i64load_any ⟨g, 9, none⟩ s _ M.c9).mono ?_; rintro e w' ⟨rfl, rfl⟩)
  clear d0 d1
  replace Q := Q.put 3 s t c v s rfl rfl rfl rfl
  replace M := M.otherAt (b := T) (by omega) 3 (.int .i64 s)
  replace R := R.otherAt (g := T) (by omega) 3 (.int .i64 s)
  replace B := B.setNew (p := ⟨T, 3, none⟩) hT1 (.int .i64 s)
  generalize hW3 : World.setCell _ ⟨T, 3, none⟩ (.int .i64 s) = W4 at Q M R B ⊢
  clear hW3
  rw [rounds_succ]
  have d0 := Q.c0
  have d1 := Q.c1
  have d2 := Q.c2
  have d3 := Q.c3
  go_wp2_with fail
  clear d0 d1 d2 d3
  refine (named_any t c v s _).mono ?_
  rintro e W5 ⟨rfl, hb⟩
  replace M := M.below hb
  replace R := R.below hb
  replace B := B.trans (but_of hb g)
  clear hb Q
  unfold agg4
  have d0 := R.c0
  have d1 := R.c1
  have d2 := R.c2
  have d3 := R.c3
  have e0 := R.fr 0
  have e1 := R.fr 1
  have e2 := R.fr 2
  have e3 := R.fr 3
  go_wp2_with fail
  clear d0 d1 d2 d3 e0 e1 e2 e3
  replace R := R.all t c v s
  replace M := (((M.otherAt (b := N) (by omega) 0 (.int .i64 t)).otherAt (b := N) (by omega) 1 (.int .i64 c)).otherAt (b := N) (by omega) 2 (.int .i64 v)).otherAt (b := N) (by omega) 3 (.int .i64 s)
  replace B := (((B.setNew (p := ⟨N, 0, none⟩) hN1 (.int .i64 t)).setNew (p := ⟨N, 1, none⟩) hN1 (.int .i64 c)).setNew (p := ⟨N, 2, none⟩) hN1 (.int .i64 v)).setNew (p := ⟨N, 3, none⟩) hN1 (.int .i64 s)
  generalize hW6 : World.setCell (World.setCell (World.setCell (World.setCell _ ⟨N, 0, none⟩ (.int .i64 t)) ⟨N, 1, none⟩ (.int .i64 c)) ⟨N, 2, none⟩ (.int .i64 v)) ⟨N, 3, none⟩ (.int .i64 s) = W6 at R M B ⊢
  clear hW6
  refine leaves_cons (f := 25) (args := #[.pointer (some ⟨g, 0, none⟩)]) (by simp) (by simp [go_sem]) ?_
  refine (wunlock_deferred rwWLib g 0 _ _ .returning _ M.c0 M.c2 M.c3 M.c4 (M.fr 0) (M.fr 4)).mono ?_
  rintro e u' w'' ⟨rfl, rfl, rfl⟩
  have M7 := M.unlock
  have R7 := (R.otherAt (g := g) (by omega) 4 (.int .i32 0)).otherAt (g := g) (by omega) 0 (.int .i32 0)
  have B7 := (B.setCell 4 (.int .i32 0)).setCell 0 (.int .i32 0)
  refine ⟨agg4 t c v s, ?_, rfl, B7, M7⟩
  have d0 := R7.c0
  have d1 := R7.c1
  have d2 := R7.c2
  have d3 := R7.c3
  rw [Nat.zero_add]
  generalize World.setCell (World.setCell _ ⟨g, 4, none⟩ (.int .i32 0)) ⟨g, 0, none⟩ (.int .i32 0) = W8 at d0 d1 d2 d3 ⊢
  simp [results, Tryz.results8, go_sem, agg4, d0, d1, d2, d3]
end Go.Proofs.YtcbhpjpkjmlcnaaGreat.Me
namespace Go.Proofs.YtcbhpjpkjmlcnaaGreat
open Go.RowKit Go.WideShapes

def meM (g : Nat) : Int → Int → World → Prop := fun a b w => Me.Mt w g a b 0 0
theorem more_one {x : Int} (h0 : 0 ≤ x) (h : x ≤ 1000000000000) : Me.more x 1 = x + 1 := by
  unfold Me.more
  rw [if_pos (by omega)]
  have := i64_small (x := x + 1) (by omega) (by omega)
  first | exact this | (unfold wrap64; omega) | (simp [wrap64]; omega)
theorem me_ex {g : Nat} {w w' : World} (h : Me.But g w w') : Ex (mB (.pointer (some ⟨g, 0, none⟩))) w w' := ⟨h.os, h.tape, h.output, h.size, fun k hk hx => h.block k hk (fun e => hx (by rw [e]; rfl))⟩
theorem meB {g k : Nat} (h : mB (.pointer (some ⟨g, 0, none⟩)) k) : k = g := by cases h; rfl
theorem mtOk_me (g : Nat) : MtOk (.pointer (some ⟨g, 0, none⟩)) (meM g) := by
  refine ⟨fun a b w h0 h1 hM => ?_, fun a b w w' hM e => Me.Mt.same hM (e g rfl), fun a b w k hM hk => ?_⟩
  · refine (Me.table_any g a b 0 0 w hM).mono ?_
    rintro e w' ⟨rfl, hb, hm⟩
    rw [more_one h0 (by omega)] at hm
    exact ⟨rfl, hm, me_ex hb⟩
  · rw [meB hk]
    exact Me.Mt.lt hM
theorem mvOk_me (g : Nat) : MvOk (.pointer (some ⟨g, 0, none⟩)) (meM g) := fun a b w h0 h1 hM => by
  refine (Me.visit_any g 1 a b 0 0 w hM).mono ?_
  rintro e w' ⟨rfl, hb, hm⟩
  rw [more_one h0 h1] at hm
  exact ⟨rfl, hm, me_ex hb⟩
end Go.Proofs.YtcbhpjpkjmlcnaaGreat
namespace Go.Proofs.YtcbhpjpkjmlcnaaGreat
open Go.RowKit Go.WideShapes

def me5 (g : Nat) : Int → Int → Int → Int → World → Prop := fun a b c d w => Me.Mt w g a b c d
theorem m4_me5 (g : Nat) : M4 (.pointer (some ⟨g, 0, none⟩)) (me5 g) := by
  refine ⟨fun c d => ⟨fun a b w h0 h1 hM => ?_, fun a b w w' hM e => Me.Mt.same hM (e g rfl), fun a b w k hM hk => ?_⟩, fun c d a b w h0 h1 hM => ?_, fun a b c d w h0 h1 hM => ?_, fun a b c d w h0 h1 hM => ?_⟩
  · refine (Me.table_any g a b c d w hM).mono ?_
    rintro e w' ⟨rfl, hb, hm⟩
    rw [more_one h0 (by omega)] at hm
    exact ⟨rfl, hm, me_ex hb⟩
  · rw [meB hk]
    exact Me.Mt.lt hM
  · refine (Me.visit_any g 1 a b c d w hM).mono ?_
    rintro e w' ⟨rfl, hb, hm⟩
    rw [more_one h0 h1] at hm
    exact ⟨rfl, hm, me_ex hb⟩
  · refine (Me.charge_any g 1 a b c d w hM).mono ?_
    rintro e w' ⟨rfl, hb, hm⟩
    rw [more_one h0 (by omega)] at hm
    exact ⟨rfl, hm, me_ex hb⟩
  · refine (Me.turn_any g a b c d w hM).mono ?_
    rintro e w' ⟨rfl, hb, hm⟩
    rw [more_one h0 (by omega)] at hm
    exact ⟨rfl, hm, me_ex hb⟩
end Go.Proofs.YtcbhpjpkjmlcnaaGreat
