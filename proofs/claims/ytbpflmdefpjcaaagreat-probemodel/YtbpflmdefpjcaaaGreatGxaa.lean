/-
  Short facts of the program that the lifting asks.
  Functions that hold numbers: one number turned, the first ones of another.
  Cells in memory; the functions that tell their size, room and width.
  All blocks but one are as they were.
  A list of ints that was handed in.
  A list of ints that was handed in as data, laid open.
  The trail of a hash in 2 ^ L cells, as arithmetic: from the last shift on all cells in a row are different; equal low digits, equal first cells. No program.
  How many numbers below n meet a test; a row of different numbers below n that is n long has them all. A trail comes to every cell: so to the first empty one. No program.
  A table's entries and cells: what always holds of them, and that laying, killing and putting keep it. No program.
  A search along a trail: it tells the live entries of its hash, all of them, each once, oldest first. No program.
  What a table's calls make of it, as the document has it. No program.
  Blocks that may be written; entries in a row of their own.
  The functions of package trail and of its reference that reckon alone.
  A place along a trail, which can be left and gone on from: Begin, Cell, Step.
  A range over a function whose rounds are counted: the iterator tells encs 0, encs 1, .. up to N of them, and may keep cells of its own, laid since it began. No program.
  The iterator of trail.All, where a range over a function goes through it.
  What cells tell of themselves; which cell and what value are refused.
  get and set of the rows of three widths.
-/
import Derived.ProofKit
import Derived.OpenShut
import Derived.ShutString
import Derived.ChangeOld
import Derived.Below
import Derived.Lib.SmallJoins
import Derived.Test.YtbpflmdefpjcaaaGreatRows
import Derived.WalkKit
import Derived.LoopTactic
import Derived.OwnWalkIn
import Derived.Maps.AppendAt
import Derived.Deep.LoopGhost
import Derived.Deep.RegionHeld3
import Derived.BigQuiet
import Derived.Deep.CutRange
import Derived.RangeFuncNested
import Derived.RangeFuncBound
import Derived.RangeFuncCalls
import Derived.TacticsInMore
import Derived.LoopNIn
import Derived.LoopIn
namespace Go.Proofs.YtbpflmdefpjcaaaGreat
open Go.ChangeShapes Go.WideShapes Go.ChangeAt Go.RowKit Go.Joins

theorem Tryz.own : ownKnob Tryz.prog.godebug = none := by kernel_rfl
theorem Tryz.laidOut : laidOutB Tryz.prog = true := by kernel_rfl
end Go.Proofs.YtbpflmdefpjcaaaGreat
namespace Go.Proofs.YtbpflmdefpjcaaaGreat

/-- Room of S cells. -/
def rm (S : Nat) : Nat := S * 2 / 3
/-- f, but v at i. -/
def upd (f : Nat → Int) (i : Nat) (v : Int) : Nat → Int := fun x => if x = i then v else f x
/-- The first k of l, the rest of f. -/
def mix (k : Nat) (l f : Nat → Int) : Nat → Int := fun x => if x < k then l x else f x
theorem mix_upd (k : Nat) (l f : Nat → Int) : upd (mix k l f) k (l k) = mix (k + 1) l f := by
  funext x
  unfold upd mix
  by_cases h : x = k
  · subst h
    rw [if_pos rfl, if_pos (by omega)]
  · rw [if_neg h]
    by_cases h2 : x < k
    · rw [if_pos h2, if_pos (by omega)]
    · rw [if_neg h2, if_neg (by omega)]
/-- The first k cells are empty. -/
def emp (k : Nat) : Nat → Int := fun x => if x < k then -1 else 0
theorem emp_upd (k : Nat) : upd (emp k) k (-1) = emp (k + 1) := by
  funext x
  unfold upd emp
  by_cases h : x = k
  · subst h
    rw [if_pos rfl, if_pos (by omega)]
  · rw [if_neg h]
    by_cases h2 : x < k
    · rw [if_pos h2, if_pos (by omega)]
    · rw [if_neg h2, if_neg (by omega)]
end Go.Proofs.YtbpflmdefpjcaaaGreat
namespace Go.Proofs.YtbpflmdefpjcaaaGreat
open Go.RowKit Go.WideShapes

theorem Lib.hid {p : Prop} (h : p) : Hid p := h
theorem lt_of_cell {w : World} {b o : Nat} {v : Value} (h : w.cell? ⟨b, o, none⟩ = some v) : b < w.heap.size := by
  by_cases hb : b < w.heap.size
  · exact hb
  · rw [World.cell?, Array.getElem?_eq_none (Nat.le_of_not_lt hb)] at h
    exact absurd h (by simp)
/-- A table of S = 2 ^ L cells. -/
structure Sz (L S : Nat) : Prop where
  eq : 2 ^ L = S
  ge : 3 ≤ L
  le : L ≤ 20
theorem Sz.pos {L S : Nat} (h : Sz L S) : 8 ≤ S := by
  rw [← h.eq]
  exact Nat.le_trans (by decide) (Nat.pow_le_pow_right (by decide) h.ge)
theorem Sz.most {L S : Nat} (h : Sz L S) : S ≤ 1048576 := by
  rw [← h.eq]
  exact Nat.le_trans (Nat.pow_le_pow_right (by decide) h.le) (by decide)
theorem Sz.most7 {L S : Nat} (h : Sz L S) (h7 : L ≤ 7) : S ≤ 128 := by
  rw [← h.eq]
  exact Nat.le_trans (Nat.pow_le_pow_right (by decide) h7) (by decide)
theorem Sz.most15 {L S : Nat} (h : Sz L S) (h7 : L ≤ 15) : S ≤ 32768 := by
  rw [← h.eq]
  exact Nat.le_trans (Nat.pow_le_pow_right (by decide) h7) (by decide)
theorem Sz.int {L S : Nat} (h : Sz L S) : (2 : Int) ^ L = (S : Int) := by rw [← h.eq]; push_cast; rfl
theorem Sz.i64 {L S : Nat} (h : Sz L S) : IntKind.i64.wrap ((2 : Int) ^ L) = (S : Int) := by
  have h1 := h.most
  rw [h.int, IntKind.wrap_i64]
  omega
theorem log_cases (l : Int) : (∃ L S : Nat, l = (L : Int) ∧ Sz L S) ∨ ¬ (3 ≤ l ∧ l ≤ 20) := by
  by_cases h : 3 ≤ l ∧ l ≤ 20
  · exact .inl ⟨l.toNat, 2 ^ l.toNat, by omega, rfl, by omega, by omega⟩
  · exact .inr h

theorem wrap_i8 (n : Int) : IntKind.i8.wrap n = (n + 128) % 256 - 128 := by
  simp [IntKind.wrap, IntKind.bits, IntKind.signed]
  split <;> omega
theorem wrap_i16 (n : Int) : IntKind.i16.wrap n = (n + 32768) % 65536 - 32768 := by
  simp [IntKind.wrap, IntKind.bits, IntKind.signed]
  split <;> omega
/-- Bytes of a cell; its kind; the type of its row; the methods of that row. -/
def wd (L : Nat) : Nat := if L ≤ 7 then 1 else if L ≤ 15 then 2 else 4
def kd (L : Nat) : IntKind := if L ≤ 7 then .i8 else if L ≤ 15 then .i16 else .i32
def rty (L : Nat) : TypeId := if L ≤ 7 then 124 else if L ≤ 15 then 128 else 132
def setF (L : Nat) : FuncId := if L ≤ 7 then 126 else if L ≤ 15 then 133 else 140
def getF (L : Nat) : FuncId := if L ≤ 7 then 124 else if L ≤ 15 then 131 else 138
def bytesF (L : Nat) : FuncId := if L ≤ 7 then 121 else if L ≤ 15 then 128 else 135
def loadF (L : Nat) : FuncId := if L ≤ 7 then 125 else if L ≤ 15 then 132 else 139
def copiedF (L : Nat) : FuncId := if L ≤ 7 then 122 else if L ≤ 15 then 129 else 136
def eachF (L : Nat) : FuncId := if L ≤ 7 then 123 else if L ≤ 15 then 130 else 137
theorem L_cases (L : Nat) : L ≤ 7 ∨ (¬ L ≤ 7 ∧ L ≤ 15) ∨ (¬ L ≤ 7 ∧ ¬ L ≤ 15) := by omega

/-- A row of S cells at block h, its head at block r. -/
structure Rw (w : World) (r h : Nat) (k : IntKind) (W S cap : Nat) (f : Nat → Int) : Prop where
  r0 : w.cell? ⟨r, 0, none⟩ = some (.int .i64 (W : Int))
  r1 : w.cell? ⟨r, 1, none⟩ = some (.slice (some ⟨h, 0, none⟩) S cap)
  le : S ≤ cap
  hc : ∀ j, j < S → w.cell? ⟨h, j, none⟩ = some (.int k (f j))
  hz : ∀ j, w.frozen? ⟨h, j, none⟩ = false
/-- Cells at block g. -/
structure Cl (w : World) (g r h L S : Nat) (f : Nat → Int) : Prop where
  c0 : w.cell? ⟨g, 0, none⟩ = some (.int .i64 (L : Int))
  c1 : w.cell? ⟨g, 1, none⟩ = some (.iface (rty L) (.pointer (some ⟨r, 0, none⟩)))
  rw : Rw w r h (kd L) (wd L) S S f
  sz : Sz L S
  fit : ∀ j, j < S → -2 ≤ f j ∧ f j < (rm S : Nat)

theorem isLog_any (l : Int) (w : World) : Calls Tryz.prog 77 #[.int .i64 l] w fun e w' => e = .returned (.bool (decide (3 ≤ l ∧ l ≤ 20))) ∧ w' = w := by
  go_enter Tryz.func77, Tryz.ntmps77
  by_cases h1 : 3 ≤ l
  · by_cases h2 : l ≤ 20
    · rw [decide_eq_true (p := 3 ≤ l ∧ l ≤ 20) ⟨h1, h2⟩]
      go_wp2
      go_ret
      exact ⟨rfl, rfl⟩
    · rw [decide_eq_false (p := 3 ≤ l ∧ l ≤ 20) (fun h => h2 h.2)]
      go_wp2
      go_ret
      exact ⟨rfl, rfl⟩
  · rw [decide_eq_false (p := 3 ≤ l ∧ l ≤ 20) (fun h => h1 h.1)]
    go_wp2
    go_ret
    exact ⟨rfl, rfl⟩
theorem isLog_yes {L S : Nat} (hS : Sz L S) (w : World) : Calls Tryz.prog 77 #[.int .i64 (L : Int)] w fun e w' => e = .returned (.bool true) ∧ w' = w := by
  have := isLog_any L w
  have h1 := hS.ge
  have h2 := hS.le
  rwa [decide_eq_true (p := 3 ≤ (L : Int) ∧ (L : Int) ≤ 20) (by omega)] at this
theorem isLog_no (l : Int) (h : ¬ (3 ≤ l ∧ l ≤ 20)) (w : World) : Calls Tryz.prog 77 #[.int .i64 l] w fun e w' => e = .returned (.bool false) ∧ w' = w := by
  have := isLog_any l w
  rwa [decide_eq_false h] at this
theorem size_any {L S : Nat} (hS : Sz L S) (w : World) : Calls Tryz.prog 66 #[.int .i64 (L : Int)] w fun e w' => e = .returned (.int .i64 (S : Int)) ∧ w' = w := by
  have h1 := hS.i64
  have hle := hS.le
  have hge := hS.ge
  go_enter Tryz.func66, Tryz.ntmps66
  go_wp2
  go_ret
  exact ⟨rfl, rfl⟩
theorem width_any {L S : Nat} (hS : Sz L S) (w : World) : Calls Tryz.prog 68 #[.int .i64 (L : Int)] w fun e w' => e = .returned (.int .i64 (wd L : Int)) ∧ w' = w := by
  have hle := hS.le
  have hge := hS.ge
  go_enter Tryz.func68, Tryz.ntmps68
  by_cases h1 : L ≤ 7
  · have e1 : wd L = 1 := by simp [wd, h1]
    have i1 : (L : Int) ≤ 7 := by omega
    rw [e1]
    go_wp2
    go_ret
    exact ⟨rfl, rfl⟩
  · have i1 : ¬ (L : Int) ≤ 7 := by omega
    by_cases h2 : L ≤ 15
    · have e1 : wd L = 2 := by simp [wd, h1, h2]
      have i2 : (L : Int) ≤ 15 := by omega
      rw [e1]
      go_wp2
      go_ret
      exact ⟨rfl, rfl⟩
    · have e1 : wd L = 4 := by simp [wd, h1, h2]
      have i2 : ¬ (L : Int) ≤ 15 := by omega
      rw [e1]
      go_wp2
      go_ret
      exact ⟨rfl, rfl⟩
theorem isNone_nil (w : World) : Calls Tryz.prog 65 #[.pointer none] w fun e w' => e = .returned (.bool true) ∧ w' = w := by
  go_enter Tryz.func65, Tryz.ntmps65
  go_wp2
  go_ret
  exact ⟨rfl, rfl⟩
theorem isNone_zero (w : World) (g : Nat) (h1 : w.cell? ⟨g, 1, none⟩ = some .nilIface) : Calls Tryz.prog 65 #[.pointer (some ⟨g, 0, none⟩)] w fun e w' => e = .returned (.bool true) ∧ w' = w := by
  go_enter Tryz.func65, Tryz.ntmps65
  go_wp2
  go_ret
  exact ⟨rfl, rfl⟩
set_option maxRecDepth 100000 in
theorem isNone_some (w : World) (g : Nat) (t : TypeId) (v : Value) (h1 : w.cell? ⟨g, 1, none⟩ = some (.iface t v)) : Calls Tryz.prog 65 #[.pointer (some ⟨g, 0, none⟩)] w fun e w' => e = .returned (.bool false) ∧ w' = w := by
  have hn : ∀ w t v, (binOp .eql 110 (.iface t v) .nilIface).run Tryz.prog w = .ok (.bool false) w := fun _ _ _ => by rfl
  go_enter Tryz.func65, Tryz.ntmps65
  go_wp2
  go_ret
  exact ⟨rfl, rfl⟩
end Go.Proofs.YtbpflmdefpjcaaaGreat
namespace Go.Proofs.YtbpflmdefpjcaaaGreat
open Go.RowKit Go.WideShapes

/-- All blocks but h are as they were. -/
structure But (g : Nat) (w w' : World) : Prop where
  os : w'.os = w.os
  tape : w'.tape = w.tape
  output : w'.output = w.output
  size : w.heap.size ≤ w'.heap.size
  block : ∀ k, k < w.heap.size → k ≠ g → w'.heap[k]? = w.heap[k]?
theorem But.refl (g : Nat) (w : World) : But g w w := ⟨rfl, rfl, rfl, Nat.le_refl _, fun _ _ _ => rfl⟩
theorem But.trans {g : Nat} {a b c : World} (h : But g a b) (k : But g b c) : But g a c :=
  ⟨k.os.trans h.os, k.tape.trans h.tape, k.output.trans h.output, Nat.le_trans h.size k.size, fun i hi hg => (k.block i (Nat.lt_of_lt_of_le hi h.size) hg).trans (h.block i hi hg)⟩
theorem But.drew {g : Nat} {a w : World} (h : But g a w) : But g a w.drew := ⟨h.os, h.tape, h.output, h.size, h.block⟩
theorem But.alloc {g : Nat} {a w : World} (h : But g a w) (o : Obj) : But g a (w.alloc o) :=
  h.trans ⟨rfl, rfl, rfl, by simp, fun k hk _ => Below.heap_alloc _ _ _ hk⟩
theorem But.setCell {g : Nat} {a w : World} (h : But g a w) (o : Nat) (u : Value) : But g a (w.setCell ⟨g, o, none⟩ u) :=
  h.trans ⟨rfl, rfl, rfl, by simp [World.setCell], fun k _ hk => Below.heap_setCell _ _ _ _ hk⟩
theorem But.below {g B : Nat} {w w' : World} (h : But g w w') (hg : B ≤ g) (hB : B ≤ w.heap.size) : Below B w w' :=
  ⟨h.os, h.tape, h.output, h.size, fun k hk => h.block k (by omega) (by omega)⟩
theorem but_of {w w' : World} (h : Below w.heap.size w w') (g : Nat) : But g w w' := ⟨h.os, h.tape, h.output, h.size, fun k hk _ => h.block k hk⟩
theorem But.cell {g : Nat} {w w' : World} (h : But g w w') {p : Addr} (hp : p.block < w.heap.size) (hg : p.block ≠ g) : w'.cell? p = w.cell? p := World.cell?_of_block (w := w) (h.block p.block hp hg)
theorem But.frozen {g : Nat} {w w' : World} (h : But g w w') {p : Addr} (hp : p.block < w.heap.size) (hg : p.block ≠ g) : w'.frozen? p = w.frozen? p := World.frozen?_of_block (w := w) (h.block p.block hp hg)
end Go.Proofs.YtbpflmdefpjcaaaGreat
namespace Go.Proofs.YtbpflmdefpjcaaaGreat
open Go.RowKit Go.WideShapes

/-- Ints in a row, at block b from off on. -/
def SegI (w : World) (b off : Nat) (l : List Int) : Prop := ∀ j, j < l.length → w.cell? ⟨b, off + j, none⟩ = some (.int .i64 (l[j]?.getD 0))
def SlI (w : World) (a : Option Addr) (n cap : Nat) (l : List Int) : Prop := n = l.length ∧ l.length ≤ cap ∧ ∃ b off, (0 < l.length → a = some ⟨b, off, none⟩ ∧ b < w.heap.size) ∧ SegI w b off l
theorem SlI.below {w w' : World} {a : Option Addr} {n cap : Nat} {l : List Int} (h : SlI w a n cap l) (hb : Below w.heap.size w w') : SlI w' a n cap l := by
  obtain ⟨h1, h2, b, off, h3, h4⟩ := h
  refine ⟨h1, h2, b, off, fun h0 => ⟨(h3 h0).1, Nat.lt_of_lt_of_le (h3 h0).2 hb.size⟩, fun j hj => ?_⟩
  exact (hb.cell (p := ⟨b, off + j, none⟩) (h3 (by omega)).2).trans (h4 j hj)
/-- The ints of a list, laid open. -/
theorem SlI.open {w : World} {a : Option Addr} {n cap : Nat} {l : List Int} (h : SlI w a n cap l) : ∃ b off, (0 < n → a = some ⟨b, off, none⟩ ∧ b < w.heap.size) ∧ n = l.length ∧ n ≤ cap ∧ ∀ j, j < n → w.cell? ⟨b, off + j, none⟩ = some (.int .i64 (l[j]?.getD 0)) := by
  obtain ⟨h1, h2, b, off, h3, h4⟩ := h
  exact ⟨b, off, by rw [h1]; exact h3, h1, by omega, fun j hj => h4 j (by omega)⟩
end Go.Proofs.YtbpflmdefpjcaaaGreat
namespace Go.Proofs.YtbpflmdefpjcaaaGreat
open Go.ChangeShapes Go.WideShapes Go.ChangeAt Go.RowKit Go.Joins

theorem Tryz.cellsI : Tryz.prog.cellsOf 3 = 1 := by kernel_rfl
set_option maxRecDepth 100000 in
theorem ints_open {H : Type} {enc : TypeId × Value → H} {W : World} {r : Reach} {base : Nat} {v : Value} {d : DataW H} {p : List MemPlace} (hv : Value.okWide Tryz.prog W r base 30 v) (h : DataW.Trod enc Tryz.prog W 0 (fun _ => true) true 30 v d p) :
    ∃ a n c l, v = .slice a n c ∧ SlI W a n c l ∧ ∀ x ∈ l, -9223372036854775808 ≤ x ∧ x ≤ 9223372036854775807 := by
  obtain ⟨a0, n0, c0, rfl⟩ := okWide_slice Tryz.underlying30 hv
  have h' := h
  obtain ⟨fuel, hf⟩ := h
  rcases open_ints Tryz.underlying30 Tryz.underlying3 Tryz.cellsI hf with ⟨hcs, _⟩ | ⟨a, len, cap, zs, hcs, _, hl, hm, hz, _, hcell, hwz⟩
  · simp [Value.cells] at hcs
    obtain ⟨rfl, rfl, rfl⟩ := hcs
    exact ⟨none, 0, 0, [], rfl, ⟨rfl, Nat.le_refl _, 0, 0, fun h => absurd h (by simp), fun j h => absurd h (by simp)⟩, fun x hx => by cases hx⟩
  · simp [Value.cells] at hcs
    obtain ⟨rfl, rfl, rfl⟩ := hcs
    simp only [if_true] at hz
    have hlen : (zs.take n0).length = n0 := by simp; omega
    obtain ⟨b, off, spot⟩ := a
    refine ⟨_, _, _, zs.take n0, rfl, ⟨hlen.symm, by omega, b, off, fun h0 => ?_, fun j hj => ?_⟩, fun x hx => ?_⟩
    · have hp : 0 < zs.length := by omega
      have hc := hcell 0 hp
      have hspot : spot = none := by simpa [Addr.add] using World.cell?_spot hc
      subst hspot
      rw [add_plain] at hc
      exact ⟨rfl, lt_of_cell hc⟩
    · rw [hlen] at hj
      have hj' : j < zs.length := by omega
      have hspot : spot = none := by simpa [Addr.add] using World.cell?_spot (hcell 0 (by omega))
      subst hspot
      have hc := hcell j hj'
      rw [add_plain] at hc
      rw [hc]
      simp [hj, hj', List.getD]
    · have := bounds_i64 (hwz x (List.mem_of_mem_take hx))
      omega
end Go.Proofs.YtbpflmdefpjcaaaGreat
namespace Go.Proofs.YtbpflmdefpjcaaaGreat

/-- Cell number i of the trail of h in 2 ^ L cells. -/
def trl (h L : Nat) : Nat → Nat
  | 0 => h % 2 ^ L
  | i + 1 => (trl h L i * 5 + h / 32 ^ (i + 1) + 1) % 2 ^ L
theorem pow2_pos (L : Nat) : 0 < 2 ^ L := Nat.pow_pos (by decide)
theorem trl_lt (h L i : Nat) : trl h L i < 2 ^ L := by
  cases i with
  | zero => exact Nat.mod_lt _ (pow2_pos L)
  | succ i => exact Nat.mod_lt _ (pow2_pos L)
/-- 1 + 5 + .. + 5 ^ (d - 1). -/
def geo : Nat → Nat
  | 0 => 0
  | d + 1 => geo d * 5 + 1
theorem geo_pow (d : Nat) : 4 * geo d + 1 = 5 ^ d := by
  induction d with
  | zero => rfl
  | succ d ih => rw [geo, Nat.pow_succ, ← ih]; omega
theorem geo_add (a b : Nat) : geo (a + b) = geo a * 5 ^ b + geo b := by
  induction b with
  | zero => simp [geo]
  | succ b ih => rw [← Nat.add_assoc, geo, ih, geo, Nat.pow_succ, Nat.add_mul, Nat.mul_assoc]; omega
theorem geo_odd (d : Nat) : geo d % 2 = d % 2 := by
  induction d with
  | zero => rfl
  | succ d ih => rw [geo]; omega
theorem pow5_mod (e : Nat) : 5 ^ e % 4 = 1 := by
  induction e with
  | zero => rfl
  | succ e ih => rw [Nat.pow_succ, Nat.mul_mod, ih]
/-- An odd factor goes. -/
theorem odd_factor (L : Nat) : ∀ (a m : Nat), m % 2 = 1 → 2 ^ L ∣ a * m → 2 ^ L ∣ a := by
  induction L with
  | zero => intro a m _ _; exact Nat.one_dvd _
  | succ L ih =>
    intro a m hm h
    have h2 : 2 ∣ a * m := Nat.dvd_trans ⟨2 ^ L, by rw [Nat.pow_succ, Nat.mul_comm]⟩ h
    have ha : a % 2 = 0 := by
      have h3 := Nat.mod_eq_zero_of_dvd h2
      rw [Nat.mul_mod, hm] at h3
      omega
    obtain ⟨b, rfl⟩ : ∃ b, a = b * 2 := ⟨a / 2, by omega⟩
    have h4 : 2 ^ L * 2 ∣ (b * m) * 2 := by rw [Nat.pow_succ] at h; rwa [Nat.mul_right_comm]
    have h5 := ih b m hm (Nat.dvd_of_mul_dvd_mul_right (by decide) h4)
    rw [Nat.pow_succ]
    exact Nat.mul_dvd_mul h5 (Nat.dvd_refl 2)
theorem geo_dvd (L : Nat) : ∀ d, 2 ^ L ∣ geo d → 2 ^ L ∣ d := by
  induction L with
  | zero => intro d _; exact Nat.one_dvd _
  | succ L ih =>
    intro d h
    have h2 : 2 ∣ geo d := Nat.dvd_trans ⟨2 ^ L, by rw [Nat.pow_succ, Nat.mul_comm]⟩ h
    have h3 := Nat.mod_eq_zero_of_dvd h2
    rw [geo_odd] at h3
    obtain ⟨e, rfl⟩ : ∃ e, d = e + e := ⟨d / 2, by omega⟩
    obtain ⟨q, hq⟩ : ∃ q, 5 ^ e + 1 = (2 * q + 1) * 2 := by
      have h9 := pow5_mod e
      generalize 5 ^ e = z at h9 ⊢
      exact ⟨z / 4, by omega⟩
    have h4 : geo (e + e) = geo e * (2 * q + 1) * 2 := by
      rw [geo_add, Nat.mul_assoc, ← hq, Nat.mul_add, Nat.mul_one]
    rw [h4, Nat.pow_succ] at h
    have h5 := ih e (odd_factor L _ _ (by omega) (Nat.dvd_of_mul_dvd_mul_right (by decide) h))
    rw [Nat.pow_succ, ← Nat.mul_two]
    exact Nat.mul_dvd_mul h5 (Nat.dvd_refl 2)
/-- Where nothing is left of the hash: d cells on. -/
theorem trl_far (h L s : Nat) (hs : h / 32 ^ s = 0) (i : Nat) (hi : s ≤ i) : ∀ d, trl h L (i + d) % 2 ^ L = (trl h L i * 5 ^ d + geo d) % 2 ^ L := by
  intro d
  induction d with
  | zero => simp [geo]
  | succ d ih =>
    have hz : h / 32 ^ (i + d + 1) = 0 := by
      have h1 : h < 32 ^ s := (Nat.div_eq_zero_iff_lt (Nat.pow_pos (by decide))).1 hs
      exact Nat.div_eq_of_lt (Nat.lt_of_lt_of_le h1 (Nat.pow_le_pow_right (by decide) (by omega)))
    rw [← Nat.add_assoc, trl, hz, Nat.mod_mod, geo, Nat.pow_succ]
    have h2 : (trl h L (i + d) * 5 + 0 + 1) % 2 ^ L = ((trl h L i * 5 ^ d + geo d) * 5 + 1) % 2 ^ L := by
      rw [Nat.add_zero, Nat.add_mod, Nat.mul_mod, ih, ← Nat.mul_mod, ← Nat.add_mod]
    rw [h2, Nat.add_mul, Nat.mul_assoc, Nat.add_assoc]
/-- From the last shift on, 2 ^ L cells in a row are different. -/
theorem trl_apart (h L s : Nat) (hs : h / 32 ^ s = 0) (i j : Nat) (hi : s ≤ i) (hij : i < j) (hj : j < i + 2 ^ L) : trl h L i ≠ trl h L j := by
  intro e
  obtain ⟨d, rfl⟩ : ∃ d, j = i + d := ⟨j - i, by omega⟩
  have h1 := trl_far h L s hs i hi d
  rw [← e] at h1
  generalize trl h L i = x at h1 e
  have h2 : (x * 5 ^ d + geo d) = geo d * (4 * x + 1) + x := by
    rw [← geo_pow d, Nat.mul_add, Nat.mul_add, Nat.mul_one, Nat.mul_one, Nat.mul_left_comm x 4, Nat.mul_left_comm (geo d) 4, Nat.mul_comm x]
    omega
  rw [h2] at h1
  have h3 : 2 ^ L ∣ geo d * (4 * x + 1) := by
    have h4 := Nat.sub_mod_eq_zero_of_mod_eq h1.symm
    rw [Nat.add_sub_cancel] at h4
    exact Nat.dvd_of_mod_eq_zero h4
  have h5 := geo_dvd L d (odd_factor L _ _ (by omega) h3)
  have h6 := Nat.le_of_dvd (by omega) h5
  omega
/-- Equal low digits: equal first cells. -/
theorem trl_alike (h h' L k : Nat) (e : h % 2 ^ (L + 5 * k) = h' % 2 ^ (L + 5 * k)) : ∀ i, i ≤ k → trl h L i = trl h' L i := by
  have low : ∀ i, i ≤ k → h / 32 ^ i % 2 ^ L = h' / 32 ^ i % 2 ^ L := by
    intro i hi
    have h32 : 32 ^ i = 2 ^ (5 * i) := by rw [Nat.pow_mul]
    have step : ∀ x : Nat, x / 32 ^ i % 2 ^ L = x % 2 ^ (L + 5 * k) / 32 ^ i % 2 ^ L := fun x => by
      have h1 : 2 ^ (L + 5 * k) = 32 ^ i * (2 ^ L * 2 ^ (5 * (k - i))) := by
        rw [h32, ← Nat.pow_add, ← Nat.pow_add]
        congr 1
        omega
      rw [h1, Nat.mod_mul_right_div_self, Nat.mod_mul_right_mod]
    rw [step h, step h', e]
  intro i
  induction i with
  | zero => intro _; have := low 0 (by omega); simpa [trl] using this
  | succ i ih =>
    intro hi
    rw [trl, trl, ih (by omega), Nat.add_right_comm, Nat.add_mod, low (i + 1) hi, ← Nat.add_mod, Nat.add_right_comm]
theorem gone (h : Nat) (hh : h < 18446744073709551616) : h / 32 ^ 13 = 0 := Nat.div_eq_of_lt (Nat.lt_of_lt_of_le hh (by decide))
/-- How often a word is shifted by 5 till nothing is left. -/
def shn (h : Nat) : Nat := if h = 0 then 0 else shn (h / 32) + 1
termination_by h
decreasing_by omega
theorem shn_zero : shn 0 = 0 := by rw [shn, if_pos rfl]
theorem shn_step (h : Nat) (h0 : h ≠ 0) : shn h = shn (h / 32) + 1 := by rw [shn, if_neg h0]
/-- It is the first number of shifts that leaves nothing. -/
theorem shn_least (n : Nat) : ∀ h, shn h ≤ n ↔ h / 32 ^ n = 0 := by
  induction n with
  | zero =>
    intro h
    by_cases h0 : h = 0
    · subst h0; simp [shn_zero]
    · rw [shn_step h h0]; simp [h0]
  | succ n ih =>
    intro h
    by_cases h0 : h = 0
    · subst h0; simp [shn_zero]
    · rw [shn_step h h0, Nat.pow_succ, Nat.mul_comm, ← Nat.div_div_eq_div_mul, ← ih]
      omega
theorem shn_gone (h : Nat) : h / 32 ^ shn h = 0 := (shn_least _ h).1 (Nat.le_refl _)
theorem shn_le (h : Nat) (hh : h < 18446744073709551616) : shn h ≤ 13 := (shn_least 13 h).2 (gone h hh)
/-- What is left behind one shift more. -/
theorem left_step (h i : Nat) : h / 32 ^ i / 32 = h / 32 ^ (i + 1) := by rw [Nat.div_div_eq_div_mul, Nat.pow_succ]
/-- The sum that gives the next cell fits into a word. -/
theorem sum_fits (c h i L : Nat) (hL : L ≤ 20) (hc : c < 2 ^ L) (hh : h < 18446744073709551616) : c * 5 + h / 32 ^ (i + 1) + 1 < 18446744073709551616 := by
  have h1 : 2 ^ L ≤ 2 ^ 20 := Nat.pow_le_pow_right (by decide) hL
  have h2 : h / 32 ^ (i + 1) ≤ h / 32 := by
    rw [Nat.pow_succ, Nat.mul_comm, ← Nat.div_div_eq_div_mul]
    exact Nat.div_le_self _ _
  have h3 : (2 : Nat) ^ 20 = 1048576 := by decide
  omega
/-- A hash as an unsigned word. -/
def uw (h : Int) : Nat := (IntKind.u64.wrap h).toNat
theorem uw_int (h : Int) : IntKind.u64.wrap h = ((uw h : Nat) : Int) := by
  have := wrap_u64_nonneg h
  unfold uw
  omega
theorem uw_lt (h : Int) : uw h < 18446744073709551616 := by
  unfold uw
  rw [IntKind.wrap_u64]
  omega
/-- The low digits of one word and the high ones of another. -/
theorem twin_low (a K c : Nat) (hc : c % 2 ^ K = 0) : ((a % 2 ^ K) + c) % 2 ^ K = a % 2 ^ K := by
  rw [Nat.add_mod, hc, Nat.add_zero, Nat.mod_mod, Nat.mod_mod]
end Go.Proofs.YtbpflmdefpjcaaaGreat
namespace Go.Proofs.YtbpflmdefpjcaaaGreat

/-- How many numbers below n meet p. -/
def cnt (p : Nat → Bool) : Nat → Nat
  | 0 => 0
  | n + 1 => cnt p n + (if p n = true then 1 else 0)
theorem cnt_le (p : Nat → Bool) (n : Nat) : cnt p n ≤ n := by
  induction n with
  | zero => exact Nat.le_refl _
  | succ n ih => rw [cnt]; split <;> omega
theorem cnt_congr {p q : Nat → Bool} {n : Nat} (h : ∀ x, x < n → p x = q x) : cnt p n = cnt q n := by
  induction n with
  | zero => rfl
  | succ n ih => rw [cnt, cnt, ih fun x hx => h x (by omega), h n (by omega)]
theorem cnt_add {p q : Nat → Bool} {n x : Nat} (hx : x < n) (hp : p x = false) (hq : q x = true) (h : ∀ y, y < n → y ≠ x → q y = p y) : cnt q n = cnt p n + 1 := by
  induction n with
  | zero => omega
  | succ n ih =>
    rw [cnt, cnt]
    by_cases e : x = n
    · subst e
      rw [cnt_congr (q := p) fun y hy => h y (by omega) (by omega), if_pos hq, if_neg (by rw [hp]; simp)]
    · rw [ih (by omega) fun y hy => h y (by omega), h n (by omega) (fun z => e z.symm)]
      omega
theorem cnt_not (p : Nat → Bool) (n : Nat) : cnt p n + cnt (fun x => !p x) n = n := by
  induction n with
  | zero => rfl
  | succ n ih =>
    rw [cnt, cnt]
    cases p n <;> simp <;> omega
theorem cnt_full {p : Nat → Bool} {n : Nat} (h : cnt p n = n) : ∀ x, x < n → p x = true := by
  induction n with
  | zero => intro x hx; omega
  | succ n ih =>
    intro x hx
    have h1 := cnt_le p n
    rw [cnt] at h
    have h2 : p n = true := by
      cases hp : p n with
      | true => rfl
      | false => rw [hp] at h; simp at h; omega
    rw [if_pos h2] at h
    by_cases e : x = n
    · rw [e]; exact h2
    · exact ih (by omega) x (by omega)
theorem cnt_some {p : Nat → Bool} {n : Nat} (h : 0 < cnt p n) : ∃ x, x < n ∧ p x = true := by
  induction n with
  | zero => simp [cnt] at h
  | succ n ih =>
    by_cases hp : p n = true
    · exact ⟨n, by omega, hp⟩
    · rw [cnt, if_neg hp] at h
      obtain ⟨x, h1, h2⟩ := ih h
      exact ⟨x, by omega, h2⟩
theorem cnt_none {p : Nat → Bool} {n : Nat} (h : ∀ x, x < n → p x = false) : cnt p n = 0 := by
  induction n with
  | zero => rfl
  | succ n ih => rw [cnt, ih fun x hx => h x (by omega), h n (by omega)]; rfl
/-- n different numbers below n: each is among them. -/
theorem hit_all (f : Nat → Nat) (n : Nat) (hf : ∀ i, i < n → f i < n) (inj : ∀ i j, i < j → j < n → f i ≠ f j) : ∀ y, y < n → ∃ i, i < n ∧ f i = y := by
  have key : ∀ k, k ≤ n → cnt (fun x => (List.range k).any fun i => f i == x) n = k := by
    intro k
    induction k with
    | zero => intro _; exact cnt_none fun x _ => by simp
    | succ k ih =>
      intro hk
      rw [cnt_add (p := fun x => (List.range k).any fun i => f i == x) (x := f k) (hf k (by omega)), ih (by omega)]
      · rw [List.any_eq_false]
        intro i hi
        have := inj i k (List.mem_range.1 hi) (by omega)
        simp [this]
      · simp [List.range_succ]
      · intro y _ hy
        simp only [List.range_succ, List.any_append, List.any_cons, List.any_nil, Bool.or_false]
        rw [show (f k == y) = false by simp; exact fun e => hy e.symm, Bool.or_false]
  intro y hy
  have h := cnt_full (key n (Nat.le_refl _)) y hy
  rw [List.any_eq_true] at h
  obtain ⟨i, h1, h2⟩ := h
  exact ⟨i, List.mem_range.1 h1, by simpa using h2⟩
theorem least {P : Nat → Prop} : ∀ n, P n → ∃ i, i ≤ n ∧ P i ∧ ∀ j, j < i → ¬ P j := by
  intro n
  induction n using Nat.strongRecOn with
  | _ n ih =>
    intro h
    by_cases e : ∃ m, m < n ∧ P m
    · obtain ⟨m, h1, h2⟩ := e
      obtain ⟨i, h3, h4, h5⟩ := ih m h1 h2
      exact ⟨i, by omega, h4, h5⟩
    · exact ⟨n, Nat.le_refl _, h, fun j hj hp => e ⟨j, hj, hp⟩⟩
/-- A trail comes to every cell among its first 2 ^ L + 13. -/
theorem trl_all (h L x : Nat) (hh : h < 18446744073709551616) (hx : x < 2 ^ L) : ∃ i, i < 2 ^ L + 13 ∧ trl h L i = x := by
  obtain ⟨d, h1, h2⟩ := hit_all (fun d => trl h L (13 + d)) (2 ^ L) (fun i _ => trl_lt _ _ _) (fun i j h1 h2 => trl_apart h L 13 (gone h hh) (13 + i) (13 + j) (by omega) (by omega) (by omega)) x hx
  exact ⟨13 + d, by omega, h2⟩
/-- i is the place of the first empty cell of a trail. -/
def IsF (c : Nat → Int) (h L i : Nat) : Prop := c (trl h L i) = -1 ∧ ∀ j, j < i → c (trl h L j) ≠ -1
theorem IsF.uniq {c : Nat → Int} {h L i j : Nat} (a : IsF c h L i) (b : IsF c h L j) : i = j := by
  rcases Nat.lt_trichotomy i j with e | e | e
  · exact absurd a.1 (b.2 i e)
  · exact e
  · exact absurd b.1 (a.2 j e)
theorem isF_some {c : Nat → Int} {L x : Nat} (h : Nat) (hh : h < 18446744073709551616) (hx : x < 2 ^ L) (hc : c x = -1) : ∃ i, i < 2 ^ L + 13 ∧ IsF c h L i := by
  obtain ⟨k, h1, h2⟩ := trl_all h L x hh hx
  obtain ⟨i, h3, h4, h5⟩ := least (P := fun i => c (trl h L i) = -1) k (by rw [h2]; exact hc)
  exact ⟨i, by omega, h4, h5⟩
end Go.Proofs.YtbpflmdefpjcaaaGreat
namespace Go.Proofs.YtbpflmdefpjcaaaGreat

/-- An entry. -/
structure En where
  live : Bool
  hash : Int
  key : Int
  value : Int
  birth : Int
def En.zero : En := ⟨false, 0, 0, 0, 0⟩
/-- A dead entry: nothing but its birth. -/
def En.gone (b : Int) : En := ⟨false, 0, 0, 0, b⟩
/-- What is told of an entry: of a dead one nothing. -/
def En.shown (e : En) : En := if e.live = true then e else En.zero
theorem En.shown_live {e : En} (h : e.live = true) : e.shown = e := if_pos h
theorem En.shown_dead {e : En} (h : e.live = false) : e.shown = En.zero := if_neg (by rw [h]; decide)
theorem En.shown_is (e : En) : e.shown.live = e.live := by
  unfold En.shown
  by_cases h : e.live = true
  · rw [if_pos h]
  · rw [if_neg h]
    simp at h
    rw [h]
    rfl
def nth (es : List En) (n : Nat) : En := es.getD n En.zero
theorem nth_app_lt {es : List En} {e : En} {n : Nat} (h : n < es.length) : nth (es ++ [e]) n = nth es n := by
  unfold nth
  rw [List.getD_eq_getElem?_getD, List.getD_eq_getElem?_getD, List.getElem?_append_left h]
theorem nth_app_eq (es : List En) (e : En) : nth (es ++ [e]) es.length = e := by
  unfold nth
  rw [List.getD_eq_getElem?_getD, List.getElem?_append_right (Nat.le_refl _)]
  simp
theorem nth_set {es : List En} {e : En} {n m : Nat} (h : n < es.length) : nth (es.set n e) m = if m = n then e else nth es m := by
  unfold nth
  rw [List.getD_eq_getElem?_getD, List.getD_eq_getElem?_getD, List.getElem?_set]
  by_cases x : m = n
  · subst x
    simp [h]
  · rw [if_neg (fun y => x y.symm), if_neg x]
theorem nth_big {es : List En} {n : Nat} (h : es.length ≤ n) : nth es n = En.zero := by
  unfold nth
  rw [List.getD_eq_getElem?_getD, List.getElem?_eq_none h]
  rfl
/-- What is told of entries. -/
def shw (es : List En) : List En := es.map En.shown
theorem shw_len (es : List En) : (shw es).length = es.length := List.length_map _
theorem nth_shw (es : List En) (n : Nat) : nth (shw es) n = (nth es n).shown := by
  unfold nth shw
  rw [List.getD_eq_getElem?_getD, List.getD_eq_getElem?_getD, List.getElem?_map]
  cases es[n]? with
  | none => rfl
  | some e => rfl
theorem shw_app (a b : List En) : shw (a ++ b) = shw a ++ shw b := List.map_append
theorem shw_all {es : List En} (h : ∀ e ∈ es, e.live = true) : shw es = es := by
  unfold shw
  refine (List.map_congr_left fun e he => ?_).trans (List.map_id es)
  exact En.shown_live (h e he)
/-- The place of a live entry along its trail: no empty cell ahead of it, and only numbers below its own. -/
def Pos (es : List En) (L : Nat) (c : Nat → Int) (n i : Nat) : Prop :=
  c (trl (uw (nth es n).hash) L i) = (n : Int) ∧ ∀ j, j < i → c (trl (uw (nth es n).hash) L j) ≠ -1 ∧ c (trl (uw (nth es n).hash) L j) < (n : Int)
theorem Pos.uniq {es : List En} {L : Nat} {c : Nat → Int} {n i j : Nat} (a : Pos es L c n i) (b : Pos es L c n j) : i = j := by
  rcases Nat.lt_trichotomy i j with e | e | e
  · have := (b.2 i e).2; rw [a.1] at this; omega
  · exact e
  · have := (a.2 j e).2; rw [b.1] at this; omega
/-- How many entries are dead. -/
def deadN : List En → Nat
  | [] => 0
  | e :: r => deadN r + (if e.live = true then 0 else 1)
theorem deadN_app (a b : List En) : deadN (a ++ b) = deadN a + deadN b := by
  induction a with
  | nil => simp [deadN]
  | cons e r ih => rw [List.cons_append, deadN, deadN, ih]; omega
theorem deadN_le (a : List En) : deadN a ≤ a.length := by
  induction a with
  | nil => exact Nat.le_refl _
  | cons e r ih => rw [deadN, List.length_cons]; split <;> omega
theorem deadN_kill' : ∀ (es : List En) (n : Nat) (z : En), z.live = false → (nth es n).live = true → deadN (es.set n z) = deadN es + 1 := by
  intro es
  induction es with
  | nil => intro n z hz h; simp [nth, En.zero] at h
  | cons e r ih =>
    intro n z hz h
    match n, h with
    | 0, h =>
      have h1 : e.live = true := by simpa [nth] using h
      simp [deadN, h1, hz]
    | n + 1, h =>
      have h1 : (nth r n).live = true := by simpa [nth] using h
      simp only [List.set_cons_succ, deadN, ih n z hz h1]
      omega
theorem deadN_kill (es : List En) (n : Nat) (h : (nth es n).live = true) : deadN (es.set n En.zero) = deadN es + 1 := deadN_kill' es n En.zero rfl h
theorem deadN_shw (es : List En) : deadN (shw es) = deadN es := by
  induction es with
  | nil => rfl
  | cons e r ih =>
    show deadN (e.shown :: shw r) = _
    rw [deadN, deadN, ih, e.shown_is]
theorem deadN_put : ∀ (es : List En) (n : Nat) (e : En), (nth es n).live = true → e.live = true → deadN (es.set n e) = deadN es := by
  intro es
  induction es with
  | nil => intro n e h; simp [nth, En.zero] at h
  | cons x r ih =>
    intro n e h he
    match n, h with
    | 0, h =>
      have h1 : x.live = true := by simpa [nth] using h
      simp [deadN, h1, he]
    | n + 1, h =>
      have h1 : (nth r n).live = true := by simpa [nth] using h
      simp only [List.set_cons_succ, deadN, ih n e h1 he]
/-- What always holds of entries and cells. -/
structure Inv (es : List En) (L : Nat) (c : Nat → Int) : Prop where
  room : es.length ≤ rm (2 ^ L)
  val : ∀ x, x < 2 ^ L → c x = -1 ∨ c x = -2 ∨ ∃ n : Nat, n < es.length ∧ c x = (n : Int) ∧ (nth es n).live = true
  inj : ∀ x y, x < 2 ^ L → y < 2 ^ L → 0 ≤ c x → c x = c y → x = y
  pos : ∀ n, n < es.length → (nth es n).live = true → ∃ i, Pos es L c n i
  used : cnt (fun x => c x != -1) (2 ^ L) = es.length
  dead : cnt (fun x => c x == -2) (2 ^ L) = deadN es
theorem Inv.nil (L : Nat) : Inv [] L (fun _ => -1) :=
  ⟨by simp, fun x _ => .inl rfl, fun x y _ _ h => absurd h (by decide), fun n h => absurd h (by simp), cnt_none fun x _ => by simp, cnt_none fun x _ => by simp⟩
theorem rm_lt (L : Nat) : rm (2 ^ L) < 2 ^ L := by
  have := pow2_pos L
  unfold rm
  omega
/-- There is an empty cell. -/
theorem Inv.empty {es : List En} {L : Nat} {c : Nat → Int} (h : Inv es L c) : ∃ x, x < 2 ^ L ∧ c x = -1 := by
  have h1 := cnt_not (fun x => c x != -1) (2 ^ L)
  have h2 := h.room
  have h3 := rm_lt L
  rw [h.used] at h1
  obtain ⟨x, h4, h5⟩ := cnt_some (p := fun x => !(c x != -1)) (n := 2 ^ L) (by omega)
  exact ⟨x, h4, by simpa using h5⟩
/-- At least one cell in three is empty. -/
theorem Inv.third {es : List En} {L : Nat} {c : Nat → Int} (h : Inv es L c) : 2 ^ L ≤ 3 * cnt (fun x => c x == -1) (2 ^ L) := by
  have h1 := cnt_not (fun x => c x != -1) (2 ^ L)
  have h2 := h.room
  rw [h.used, cnt_congr (q := fun x => c x == -1) fun x _ => by simp [bne]] at h1
  unfold rm at h2
  omega
theorem Inv.first {es : List En} {L : Nat} {c : Nat → Int} (h : Inv es L c) (u : Int) : ∃ i, i < 2 ^ L + 13 ∧ IsF c (uw u) L i := by
  obtain ⟨x, h1, h2⟩ := h.empty
  exact isF_some _ (uw_lt u) h1 h2
/-- An entry more, laid into the first empty cell of its trail. -/
theorem Inv.lay {es : List En} {L : Nat} {c : Nat → Int} (h : Inv es L c) (e : En) (he : e.live = true) (hr : es.length < rm (2 ^ L)) {i : Nat} (hi : IsF c (uw e.hash) L i) :
    Inv (es ++ [e]) L (upd c (trl (uw e.hash) L i) (es.length : Int)) := by
  have hx := trl_lt (uw e.hash) L i
  obtain ⟨h1, h2⟩ := hi
  have hlen : (es ++ [e]).length = es.length + 1 := by simp
  have hne : ∀ y, y < 2 ^ L → c y ≠ (es.length : Int) := by
    intro y hy
    rcases h.val y hy with a | a | ⟨n, a, b, _⟩ <;> omega
  refine ⟨by rw [hlen]; omega, fun y hy => ?_, fun y z hy hz hp hyz => ?_, fun n hn hl => ?_, ?_, ?_⟩
  · unfold upd
    by_cases a : y = trl (uw e.hash) L i
    · rw [if_pos a]
      exact .inr (.inr ⟨es.length, by omega, rfl, by rw [nth_app_eq]; exact he⟩)
    · rw [if_neg a]
      rcases h.val y hy with b | b | ⟨n, b1, b2, b3⟩
      · exact .inl b
      · exact .inr (.inl b)
      · exact .inr (.inr ⟨n, by omega, b2, by rw [nth_app_lt b1]; exact b3⟩)
  · unfold upd at hp hyz
    by_cases a : y = trl (uw e.hash) L i
    · by_cases b : z = trl (uw e.hash) L i
      · rw [a, b]
      · rw [if_pos a, if_neg b] at hyz
        exact absurd hyz.symm (hne z hz)
    · rw [if_neg a] at hp hyz
      by_cases b : z = trl (uw e.hash) L i
      · rw [if_pos b] at hyz
        exact absurd hyz (hne y hy)
      · rw [if_neg b] at hyz
        exact h.inj y z hy hz hp hyz
  · by_cases a : n = es.length
    · subst a
      refine ⟨i, ?_, fun j hj => ?_⟩
      · rw [nth_app_eq]
        unfold upd
        rw [if_pos rfl]
      · rw [nth_app_eq]
        have hj1 := h2 j hj
        have hj2 : trl (uw e.hash) L j ≠ trl (uw e.hash) L i := fun q => hj1 (by rw [q]; exact h1)
        unfold upd
        rw [if_neg hj2]
        refine ⟨hj1, ?_⟩
        rcases h.val _ (trl_lt (uw e.hash) L j) with b | b | ⟨m, b1, b2, _⟩ <;> omega
    · have hn' : n < es.length := by omega
      rw [nth_app_lt hn'] at hl
      obtain ⟨p, q1, q2⟩ := h.pos n hn' hl
      refine ⟨p, ?_, fun j hj => ?_⟩
      · rw [nth_app_lt hn']
        unfold upd
        rw [if_neg (fun q => by rw [q, h1] at q1; omega)]
        exact q1
      · rw [nth_app_lt hn']
        have r := q2 j hj
        unfold upd
        rw [if_neg (fun q => r.1 (by rw [q]; exact h1))]
        exact r
  · rw [cnt_add (p := fun x => c x != -1) hx (by simp [h1]) (by simp [upd]) (fun y _ hy => by simp [upd, hy]), h.used, hlen]
  · rw [cnt_congr (q := fun x => c x == -2) fun y _ => ?_, h.dead, deadN_app]
    · simp [deadN, he]
    · unfold upd
      by_cases a : y = trl (uw e.hash) L i
      · rw [if_pos a, a, h1]
        simp
      · rw [if_neg a]
/-- A live entry is killed, and its cell is dead. -/
def killc (c : Nat → Int) (n : Nat) : Nat → Int := fun x => if c x = (n : Int) then -2 else c x
theorem Inv.kill' {es : List En} {L : Nat} {c : Nat → Int} (h : Inv es L c) (n : Nat) (hn : n < es.length) (hl : (nth es n).live = true) (z : En) (hz : z.live = false) : Inv (es.set n z) L (killc c n) := by
  have hlen : (es.set n z).length = es.length := by simp
  obtain ⟨p, q1, _⟩ := h.pos n hn hl
  have hx := trl_lt (uw (nth es n).hash) L p
  refine ⟨by rw [hlen]; exact h.room, fun y hy => ?_, fun y z hy hz hp hyz => ?_, fun m hm hml => ?_, ?_, ?_⟩
  · unfold killc
    by_cases a : c y = (n : Int)
    · rw [if_pos a]; exact .inr (.inl rfl)
    · rw [if_neg a]
      rcases h.val y hy with b | b | ⟨m, b1, b2, b3⟩
      · exact .inl b
      · exact .inr (.inl b)
      · refine .inr (.inr ⟨m, by rw [hlen]; exact b1, b2, ?_⟩)
        rw [nth_set hn, if_neg (fun e => a (by rw [b2, e]))]
        exact b3
  · unfold killc at hp hyz
    by_cases a : c y = (n : Int)
    · rw [if_pos a] at hp; omega
    · rw [if_neg a] at hp hyz
      by_cases b : c z = (n : Int)
      · rw [if_pos b] at hyz; omega
      · rw [if_neg b] at hyz
        exact h.inj y z hy hz hp hyz
  · rw [hlen] at hm
    have hmn : m ≠ n := fun e => by rw [nth_set hn, if_pos e, hz] at hml; cases hml
    rw [nth_set hn, if_neg hmn] at hml
    obtain ⟨i, r1, r2⟩ := h.pos m hm hml
    refine ⟨i, ?_, fun j hj => ?_⟩
    · rw [nth_set hn, if_neg hmn]
      unfold killc
      rw [if_neg (by rw [r1]; omega)]
      exact r1
    · rw [nth_set hn, if_neg hmn]
      have r := r2 j hj
      unfold killc
      by_cases a : c (trl (uw (nth es m).hash) L j) = (n : Int)
      · rw [if_pos a]; omega
      · rw [if_neg a]; exact r
  · rw [hlen, ← h.used]
    refine cnt_congr fun y _ => ?_
    unfold killc
    by_cases a : c y = (n : Int)
    · rw [if_pos a, a]
      simp
    · rw [if_neg a]
  · rw [deadN_kill' es n z hz hl, ← h.dead]
    refine cnt_add hx ?_ ?_ fun y hy hne => ?_
    · rw [q1]
      simp
    · unfold killc
      rw [if_pos q1]
      rfl
    · unfold killc
      rw [if_neg (fun a => hne (h.inj y _ hy hx (by omega) (by rw [a, q1])))]
theorem Inv.kill {es : List En} {L : Nat} {c : Nat → Int} (h : Inv es L c) (n : Nat) (hn : n < es.length) (hl : (nth es n).live = true) : Inv (es.set n En.zero) L (killc c n) := h.kill' n hn hl En.zero rfl
/-- Where each live entry stands is the same as where its cell is turned. -/
theorem killc_upd {es : List En} {L : Nat} {c : Nat → Int} (h : Inv es L c) (n : Nat) {x : Nat} (hx : x < 2 ^ L) (hc : c x = (n : Int)) : ∀ y, y < 2 ^ L → killc c n y = upd c x (-2) y := by
  intro y hy
  unfold killc upd
  by_cases a : y = x
  · rw [if_pos a, a, if_pos hc]
  · rw [if_neg a, if_neg (fun b => a (h.inj y x hy hx (by omega) (by rw [b, hc])))]
/-- Another value, or another birth: nothing of the cells is asked of it. -/
theorem Inv.put {es : List En} {L : Nat} {c : Nat → Int} (h : Inv es L c) (n : Nat) (hn : n < es.length) (hl : (nth es n).live = true) (e : En) (he : e.live = true) (hh : e.hash = (nth es n).hash) : Inv (es.set n e) L c := by
  have hlen : (es.set n e).length = es.length := by simp
  have hs : ∀ m, (nth (es.set n e) m).live = (nth es m).live ∧ (nth (es.set n e) m).hash = (nth es m).hash := by
    intro m
    rw [nth_set hn]
    by_cases a : m = n
    · rw [if_pos a, a]; exact ⟨by rw [he, hl], hh⟩
    · rw [if_neg a]; exact ⟨rfl, rfl⟩
  refine ⟨by rw [hlen]; exact h.room, fun y hy => ?_, h.inj, fun m hm hml => ?_, by rw [hlen]; exact h.used, ?_⟩
  · rcases h.val y hy with b | b | ⟨m, b1, b2, b3⟩
    · exact .inl b
    · exact .inr (.inl b)
    · exact .inr (.inr ⟨m, by rw [hlen]; exact b1, b2, by rw [(hs m).1]; exact b3⟩)
  · rw [hlen] at hm
    rw [(hs m).1] at hml
    obtain ⟨i, r1, r2⟩ := h.pos m hm hml
    unfold Pos
    rw [(hs m).2]
    exact ⟨i, r1, r2⟩
  · rw [deadN_put es n e hl he]; exact h.dead
theorem Inv.congr {es : List En} {L : Nat} {c c' : Nat → Int} (h : Inv es L c) (e : ∀ y, y < 2 ^ L → c' y = c y) : Inv es L c' := by
  have ht : ∀ u i, c' (trl u L i) = c (trl u L i) := fun u i => e _ (trl_lt _ _ _)
  refine ⟨h.room, fun y hy => by rw [e y hy]; exact h.val y hy, fun y z hy hz a b => by rw [e y hy] at a b; rw [e z hz] at b; exact h.inj y z hy hz a b, fun n hn hl => ?_, ?_, ?_⟩
  · obtain ⟨i, r1, r2⟩ := h.pos n hn hl
    exact ⟨i, by rw [ht]; exact r1, fun j hj => by rw [ht]; exact r2 j hj⟩
  · rw [← h.used]; exact cnt_congr fun y hy => by rw [e y hy]
  · rw [← h.dead]; exact cnt_congr fun y hy => by rw [e y hy]
end Go.Proofs.YtbpflmdefpjcaaaGreat
namespace Go.Proofs.YtbpflmdefpjcaaaGreat

/-- A live entry of that hash. -/
def Of (es : List En) (u : Int) (n : Nat) : Prop := n < es.length ∧ (nth es n).live = true ∧ (nth es n).hash = u
/-- Ahead of place i of the trail of u: the entries of u that were met are those up to last. -/
def Told (es : List En) (L : Nat) (c : Nat → Int) (u : Int) (i : Nat) (last : Int) : Prop := ∀ n, Of es u n → ∀ p, Pos es L c n p → (p < i ↔ (n : Int) ≤ last)
theorem told_zero (es : List En) (L : Nat) (c : Nat → Int) (u : Int) : Told es L c u 0 (-1) := fun n _ p _ => by omega
/-- An entry of u at place i, above last: it is the next one. -/
theorem told_yes {es : List En} {L : Nat} {c : Nat → Int} {u : Int} {i : Nat} {last : Int} (hI : Inv es L c) (hT : Told es L c u i last) {v : Nat} (hc : c (trl (uw u) L i) = (v : Int)) (hv : last < (v : Int)) (ho : Of es u v) :
    Told es L c u (i + 1) (v : Int) ∧ ∀ n, Of es u n → last < (n : Int) → v ≤ n := by
  obtain ⟨pv, hpv⟩ := hI.pos v ho.1 ho.2.1
  have hpi : pv = i := by
    rcases Nat.lt_trichotomy pv i with e | e | e
    · have := (hT v ho pv hpv).1 e; omega
    · exact e
    · have := (hpv.2 i e).2; rw [ho.2.2, hc] at this; omega
  subst hpi
  have key : ∀ n, Of es u n → ∀ p, Pos es L c n p → (p < pv + 1 ↔ (n : Int) ≤ (v : Int)) := by
    intro n hn p hp
    constructor
    · intro h
      rcases Nat.lt_or_ge p pv with e | e
      · have := (hT n hn p hp).1 e; omega
      · obtain rfl : p = pv := by omega
        have h1 := hp.1
        rw [hn.2.2, hc] at h1
        omega
    · intro h
      rcases Nat.lt_trichotomy p pv with e | e | e
      · omega
      · omega
      · have := (hp.2 pv e).2
        rw [hn.2.2, hc] at this
        omega
  refine ⟨key, fun n hn hl => ?_⟩
  obtain ⟨p, hp⟩ := hI.pos n hn.1 hn.2.1
  rcases Nat.lt_or_ge n v with e | e
  · have h1 := (key n hn p hp).2 (by omega)
    rcases Nat.lt_or_ge p pv with f | f
    · have := (hT n hn p hp).1 f; omega
    · obtain rfl : p = pv := by omega
      have h2 := hp.1
      rw [hn.2.2, hc] at h2
      omega
  · exact e
/-- No such entry at place i. -/
theorem told_no {es : List En} {L : Nat} {c : Nat → Int} {u : Int} {i : Nat} {last : Int} (hT : Told es L c u i last) (hn : ∀ v : Nat, c (trl (uw u) L i) = (v : Int) → Of es u v → (v : Int) ≤ last) : Told es L c u (i + 1) last := by
  intro n ho p hp
  constructor
  · intro h
    rcases Nat.lt_or_ge p i with e | e
    · exact (hT n ho p hp).1 e
    · obtain rfl : p = i := by omega
      have h1 := hp.1
      rw [ho.2.2] at h1
      exact hn n h1 ho
  · intro h
    have := (hT n ho p hp).2 h
    omega
/-- An empty cell at place i: all were told. -/
theorem told_end {es : List En} {L : Nat} {c : Nat → Int} {u : Int} {i : Nat} {last : Int} (hI : Inv es L c) (hT : Told es L c u i last) (hc : c (trl (uw u) L i) = -1) : ∀ n, Of es u n → (n : Int) ≤ last := by
  intro n ho
  obtain ⟨p, hp⟩ := hI.pos n ho.1 ho.2.1
  refine (hT n ho p hp).1 ?_
  rcases Nat.lt_trichotomy p i with e | e | e
  · exact e
  · subst e
    have h1 := hp.1
    rw [ho.2.2, hc] at h1
    omega
  · have h1 := (hp.2 i e).1
    rw [ho.2.2] at h1
    exact absurd hc h1
/-- What a cell along the way holds: nothing any more, or a live entry. -/
theorem Inv.cell {es : List En} {L : Nat} {c : Nat → Int} (hI : Inv es L c) (u i : Nat) (h : c (trl u L i) ≠ -1) : c (trl u L i) = -2 ∨ ∃ n : Nat, n < es.length ∧ c (trl u L i) = (n : Int) ∧ (nth es n).live = true := by
  rcases hI.val _ (trl_lt u L i) with a | a | a
  · exact absurd a h
  · exact .inl a
  · exact .inr a
theorem cnt_zero {p : Nat → Bool} {n : Nat} (h : cnt p n = 0) : ∀ x, x < n → p x = false := by
  intro x hx
  cases e : p x with
  | false => rfl
  | true =>
    have h1 := cnt_add (p := fun y => if y = x then false else p y) (q := p) hx (by simp) e (fun y _ hy => by simp [hy])
    omega
/-- Without a dead cell, and with first cells that are all different: each entry stands in its first cell. -/
theorem Inv.once {es : List En} {L : Nat} {c : Nat → Int} (hI : Inv es L c) (hd : deadN es = 0) (hl : ∀ n, n < es.length → (nth es n).live = true)
    (hf : ∀ m n, m < n → n < es.length → trl (uw (nth es m).hash) L 0 ≠ trl (uw (nth es n).hash) L 0) : ∀ n, n < es.length → c (trl (uw (nth es n).hash) L 0) = (n : Int) := by
  intro n
  induction n using Nat.strongRecOn with
  | _ n ih =>
    intro hn
    obtain ⟨p, hp⟩ := hI.pos n hn (hl n hn)
    match p, hp with
    | 0, hp => exact hp.1
    | p + 1, hp =>
      exfalso
      have h0 := hp.2 0 (by omega)
      rcases hI.cell _ 0 h0.1 with a | ⟨m, a1, a2, a3⟩
      · have h1 := hI.dead
        rw [hd] at h1
        have h2 := cnt_zero h1 _ (trl_lt (uw (nth es n).hash) L 0)
        rw [a] at h2
        simp at h2
      · rw [a2] at h0
        have hmn : m < n := by omega
        have h1 := ih m hmn a1
        exact hf m n hmn hn (hI.inj _ _ (trl_lt _ _ _) (trl_lt _ _ _) (by rw [h1]; omega) (by rw [h1, a2]))
end Go.Proofs.YtbpflmdefpjcaaaGreat
namespace Go.Proofs.YtbpflmdefpjcaaaGreat

/-- A table, as the document has it. -/
structure Tb where
  es : List En
  L : Nat
  c : Nat → Int
  births : Nat
  made : Nat
  turn : Nat
def Tb.live (t : Tb) : Nat := t.es.length - deadN t.es
/-- The live entries, in their order. -/
def liveL : List En → List En
  | [] => []
  | e :: r => if e.live = true then e :: liveL r else liveL r
theorem liveL_app (a b : List En) : liveL (a ++ b) = liveL a ++ liveL b := by
  induction a with
  | nil => rfl
  | cons e r ih =>
    rw [List.cons_append, liveL, liveL, ih]
    by_cases h : e.live = true
    · rw [if_pos h, if_pos h, List.cons_append]
    · rw [if_neg h, if_neg h]
theorem liveL_len (es : List En) : (liveL es).length + deadN es = es.length := by
  induction es with
  | nil => rfl
  | cons e r ih =>
    rw [liveL, deadN, List.length_cons]
    by_cases h : e.live = true
    · rw [if_pos h, if_pos h, List.length_cons]; omega
    · rw [if_neg h, if_neg h]; omega
theorem liveL_live (es : List En) : ∀ e ∈ liveL es, e.live = true := by
  induction es with
  | nil => intro e h; simp [liveL] at h
  | cons x r ih =>
    intro e h
    rw [liveL] at h
    by_cases hx : x.live = true
    · rw [if_pos hx] at h
      rcases List.mem_cons.1 h with rfl | h
      · exact hx
      · exact ih e h
    · rw [if_neg hx] at h
      exact ih e h
theorem nth_mem {es : List En} {n : Nat} (h : n < es.length) : nth es n ∈ es := by
  unfold nth
  rw [List.getD_eq_getElem?_getD, List.getElem?_eq_getElem h, Option.getD_some]
  exact List.getElem_mem h
theorem liveL_nth (es : List En) (n : Nat) (h : n < (liveL es).length) : (nth (liveL es) n).live = true := liveL_live es _ (nth_mem h)
theorem take_succ_nth {es : List En} {k : Nat} (h : k < es.length) : es.take (k + 1) = es.take k ++ [nth es k] := by
  rw [List.take_succ_eq_append_getElem h]
  unfold nth
  rw [List.getD_eq_getElem?_getD, List.getElem?_eq_getElem h, Option.getD_some]
theorem liveL_take {es : List En} {k : Nat} (h : k < es.length) : liveL (es.take (k + 1)) = if (nth es k).live = true then liveL (es.take k) ++ [nth es k] else liveL (es.take k) := by
  rw [take_succ_nth h, liveL_app]
  by_cases x : (nth es k).live = true
  · rw [if_pos x, liveL, if_pos x, liveL]
  · rw [if_neg x, liveL, if_neg x, liveL, List.append_nil]
theorem deadN_live (es : List En) (h : ∀ e ∈ es, e.live = true) : deadN es = 0 := by
  induction es with
  | nil => rfl
  | cons e r ih => rw [deadN, ih fun x hx => h x (List.mem_cons_of_mem _ hx), if_pos (h e (List.mem_cons_self ..))]
theorem Tb.live_eq (t : Tb) : t.live = (liveL t.es).length := by
  have := liveL_len t.es
  unfold Tb.live
  omega
/-- The place of the first empty cell. -/
noncomputable def fidx (c : Nat → Int) (h L : Nat) : Nat := Classical.epsilon (IsF c h L)
theorem fidx_is {c : Nat → Int} {h L : Nat} (e : ∃ i, IsF c h L i) : IsF c h L (fidx c h L) := Classical.epsilon_spec e
theorem fidx_eq {c : Nat → Int} {h L i : Nat} (a : IsF c h L i) : fidx c h L = i := (fidx_is ⟨i, a⟩).uniq a
/-- A number laid. -/
noncomputable def layc (c : Nat → Int) (L : Nat) (u : Int) (n : Nat) : Nat → Int := upd c (trl (uw u) L (fidx c (uw u) L)) (n : Int)
/-- The first k of these entries laid, in their order. -/
noncomputable def layN (es : List En) (L : Nat) : Nat → (Nat → Int)
  | 0 => fun _ => -1
  | k + 1 => layc (layN es L k) L (nth es k).hash k
theorem layN_inv (es : List En) (L : Nat) (hl : ∀ n, n < es.length → (nth es n).live = true) (hr : es.length ≤ rm (2 ^ L)) : ∀ k, k ≤ es.length → Inv (es.take k) L (layN es L k) := by
  intro k
  induction k with
  | zero => intro _; rw [List.take_zero]; exact Inv.nil L
  | succ k ih =>
    intro hk
    have h := ih (by omega)
    obtain ⟨i, _, hi⟩ := h.first (nth es k).hash
    have hlen : (es.take k).length = k := by rw [List.length_take]; omega
    have h2 := h.lay (nth es k) (hl k (by omega)) (by omega) hi
    rw [hlen] at h2
    rw [take_succ_nth (by omega), layN, layc, fidx_eq hi]
    exact h2
/-- A new index table: the dead entries are dropped, the live ones laid anew. -/
noncomputable def Tb.re (t : Tb) (log : Nat) : Tb := { t with es := liveL t.es, L := log, c := layN (liveL t.es) log (liveL t.es).length, made := t.made + 1 }
/-- An entry more. -/
noncomputable def Tb.push (t : Tb) (u k v : Int) : Tb := { t with es := t.es ++ [⟨true, u, k, v, (t.births : Int)⟩], c := layc t.c t.L u t.es.length, births := t.births + 1, turn := t.turn + 1 }
/-- The least log from l on, within so many, for which 2 ^ log is three times n or more. -/
def glogF (n : Nat) : Nat → Nat → Nat
  | 0, l => l
  | f + 1, l => if 2 ^ l < 3 * n then glogF n f (l + 1) else l
def glog (n : Nat) : Nat := glogF n 20 3
theorem glogF_step (n : Nat) : ∀ f l, 2 ^ (l + f) ≥ 3 * n → glogF n f l ≤ l + f ∧ l ≤ glogF n f l ∧ ¬ 2 ^ glogF n f l < 3 * n ∧ ∀ j, l ≤ j → j < glogF n f l → 2 ^ j < 3 * n := by
  intro f
  induction f with
  | zero => intro l h; simp only [glogF]; exact ⟨by omega, by omega, by simpa using h, fun j h1 h2 => by omega⟩
  | succ f ih =>
    intro l h
    rw [glogF]
    by_cases e : 2 ^ l < 3 * n
    · rw [if_pos e]
      obtain ⟨h1, h2, h3, h4⟩ := ih (l + 1) (by rw [show l + 1 + f = l + (f + 1) by omega]; exact h)
      refine ⟨by omega, by omega, h3, fun j h5 h6 => ?_⟩
      rcases Nat.lt_or_ge l j with x | x
      · exact h4 j (by omega) h6
      · rw [show j = l by omega]; exact e
    · rw [if_neg e]
      exact ⟨by omega, by omega, e, fun j h1 h2 => by omega⟩
theorem glog_eq {n l : Nat} (hn : n ≤ 300000) (h3 : 3 ≤ l) (h1 : ¬ 2 ^ l < 3 * n) (h2 : ∀ j, 3 ≤ j → j < l → 2 ^ j < 3 * n) : glog n = l := by
  obtain ⟨a1, a2, a3, a4⟩ := glogF_step n 20 3 (Nat.le_trans (by omega : 3 * n ≤ 2 ^ 20) (by decide))
  unfold glog
  rcases Nat.lt_trichotomy (glogF n 20 3) l with e | e | e
  · exact absurd (h2 _ a2 e) a3
  · exact e
  · exact absurd (a4 l h3 e) h1
theorem glog_ok {n : Nat} (hn : n ≤ 300000) : 3 ≤ glog n ∧ glog n ≤ 20 ∧ 3 * n ≤ 2 ^ glog n := by
  obtain ⟨a1, a2, a3, a4⟩ := glogF_step n 20 3 (Nat.le_trans (by omega : 3 * n ≤ 2 ^ 20) (by decide))
  refine ⟨a2, ?_, Nat.le_of_not_lt a3⟩
  rcases Nat.lt_or_ge 20 (glog n) with e | e
  · have h1 := a4 20 (by omega) e
    have h2 : (2 : Nat) ^ 20 = 1048576 := by decide
    omega
  · exact e
noncomputable def Tb.add (t : Tb) (u k v : Int) : Tb := (if t.es.length < rm (2 ^ t.L) then t else t.re (glog t.live)).push u k v
/-- What always holds of a table. -/
structure Tb.Ok (t : Tb) : Prop where
  inv : Inv t.es t.L t.c
  sz : 3 ≤ t.L ∧ t.L ≤ 20
  few : t.es.length ≤ t.births
  all : t.births ≤ 100000
theorem Tb.live_le (t : Tb) : t.live ≤ t.es.length := by unfold Tb.live; omega
theorem Tb.Ok.re {t : Tb} (h : t.Ok) {log : Nat} (h3 : 3 ≤ log) (h20 : log ≤ 20) (hr : t.live ≤ rm (2 ^ log)) : (t.re log).Ok := by
  have h1 := t.live_eq
  have h2 := t.live_le
  refine ⟨?_, ⟨h3, h20⟩, ?_, h.all⟩
  · have := layN_inv (liveL t.es) log (fun n hn => liveL_nth _ n hn) (by omega) (liveL t.es).length (Nat.le_refl _)
    rw [List.take_length] at this
    exact this
  · have := h.few
    show (liveL t.es).length ≤ t.births
    omega
theorem Tb.Ok.push {t : Tb} (h : t.Ok) (u k v : Int) (hr : t.es.length < rm (2 ^ t.L)) (hb : t.births < 100000) : (t.push u k v).Ok := by
  obtain ⟨i, _, hi⟩ := h.inv.first u
  refine ⟨?_, h.sz, ?_, by show t.births + 1 ≤ 100000; omega⟩
  · have := h.inv.lay ⟨true, u, k, v, (t.births : Int)⟩ rfl hr hi
    show Inv (t.es ++ [_]) t.L (layc t.c t.L u t.es.length)
    rw [layc, fidx_eq hi]
    exact this
  · have := h.few
    show (t.es ++ [_]).length ≤ t.births + 1
    simp
    exact this
theorem grow_room {n : Nat} (hn : n ≤ 300000) : n < rm (2 ^ glog n) := by
  obtain ⟨h1, _, h3⟩ := glog_ok hn
  have h4 : 8 ≤ 2 ^ glog n := Nat.le_trans (by decide) (Nat.pow_le_pow_right (n := 2) (by decide) h1)
  unfold rm
  omega
theorem Tb.Ok.add {t : Tb} (h : t.Ok) (u k v : Int) (hb : t.births < 100000) : (t.add u k v).Ok := by
  unfold Tb.add
  have hl : t.live ≤ 300000 := by have := t.live_le; have := h.few; omega
  by_cases e : t.es.length < rm (2 ^ t.L)
  · rw [if_pos e]
    exact h.push u k v e hb
  · rw [if_neg e]
    obtain ⟨h1, h2, _⟩ := glog_ok hl
    have hr := grow_room hl
    exact (h.re h1 h2 (by omega)).push u k v (by show (liveL t.es).length < _; rw [← t.live_eq]; exact hr) hb
/-- The entry of that number is live. -/
def Tb.has (t : Tb) (n : Int) : Prop := 0 ≤ n ∧ n < (t.es.length : Int) ∧ (nth t.es n.toNat).live = true
noncomputable def Tb.kill (t : Tb) (n : Nat) : Tb := { t with es := t.es.set n (En.gone (nth t.es n).birth), c := killc t.c n, turn := t.turn + 1 }
/-- The same, where a dead entry keeps nothing. -/
noncomputable def Tb.killz (t : Tb) (n : Nat) : Tb := { t with es := t.es.set n En.zero, c := killc t.c n, turn := t.turn + 1 }
def Tb.putv (t : Tb) (n : Nat) (v : Int) : Tb := { t with es := t.es.set n ⟨(nth t.es n).live, (nth t.es n).hash, (nth t.es n).key, v, (nth t.es n).birth⟩ }
def Tb.clear (t : Tb) : Tb := { t with es := [], L := 3, c := fun _ => -1, made := t.made + 1, turn := t.turn + 1 }
theorem Tb.Ok.kill {t : Tb} (h : t.Ok) (n : Nat) (hn : n < t.es.length) (hl : (nth t.es n).live = true) : (t.kill n).Ok :=
  ⟨h.inv.kill' n hn hl _ rfl, h.sz, by show (t.es.set n _).length ≤ _; rw [List.length_set]; exact h.few, h.all⟩
theorem Tb.Ok.killz {t : Tb} (h : t.Ok) (n : Nat) (hn : n < t.es.length) (hl : (nth t.es n).live = true) : (t.killz n).Ok :=
  ⟨h.inv.kill n hn hl, h.sz, by show (t.es.set n En.zero).length ≤ _; rw [List.length_set]; exact h.few, h.all⟩
theorem Tb.Ok.putv {t : Tb} (h : t.Ok) (n : Nat) (hn : n < t.es.length) (hl : (nth t.es n).live = true) (v : Int) : (t.putv n v).Ok :=
  ⟨h.inv.put n hn hl _ hl rfl, h.sz, by show (t.es.set n _).length ≤ _; rw [List.length_set]; exact h.few, h.all⟩
theorem Tb.Ok.clear {t : Tb} (h : t.Ok) : t.clear.Ok := ⟨Inv.nil 3, by show 3 ≤ 3 ∧ 3 ≤ 20; omega, Nat.zero_le _, h.all⟩
theorem Tb.live_pos {t : Tb} (n : Nat) (hl : (nth t.es n).live = true) : 1 ≤ t.live := by
  have h1 := deadN_kill t.es n hl
  have h2 := deadN_le (t.es.set n En.zero)
  rw [List.length_set] at h2
  unfold Tb.live
  omega
theorem Tb.live_kill {t : Tb} (n : Nat) (hl : (nth t.es n).live = true) : (t.kill n).live = t.live - 1 := by
  show (t.es.set n (En.gone (nth t.es n).birth)).length - deadN (t.es.set n (En.gone (nth t.es n).birth)) = _
  rw [List.length_set, deadN_kill' t.es n _ rfl hl]
  unfold Tb.live
  omega
theorem Tb.live_killz {t : Tb} (n : Nat) (hl : (nth t.es n).live = true) : (t.killz n).live = t.live - 1 := by
  show (t.es.set n En.zero).length - deadN (t.es.set n En.zero) = _
  rw [List.length_set, deadN_kill t.es n hl]
  unfold Tb.live
  omega
theorem Tb.live_push (t : Tb) (u k v : Int) : (t.push u k v).live = t.live + 1 := by
  show (t.es ++ [_]).length - deadN (t.es ++ [_]) = _
  have h1 := deadN_le t.es
  rw [deadN_app]
  simp [deadN]
  unfold Tb.live
  omega
end Go.Proofs.YtbpflmdefpjcaaaGreat
namespace Go.Proofs.YtbpflmdefpjcaaaGreat
open Go.RowKit Go.WideShapes

/-- A block of n cells that may be written. -/
structure Blk (w : World) (g n : Nat) (F : Nat → Value) : Prop where
  c : ∀ j, j < n → w.cell? ⟨g, j, none⟩ = some (F j)
  z : ∀ j, w.frozen? ⟨g, j, none⟩ = false
theorem Blk.same {w w' : World} {g n : Nat} {F : Nat → Value} (h : Blk w g n F) (e : w'.heap[g]? = w.heap[g]?) : Blk w' g n F :=
  ⟨fun j hj => (World.cell?_of_block (a := ⟨g, j, none⟩) e).trans (h.c j hj), fun j => (World.frozen?_of_block (a := ⟨g, j, none⟩) e).trans (h.z j)⟩
theorem Blk.lt {w : World} {g n : Nat} {F : Nat → Value} (h : Blk w g n F) (hn : 0 < n) : g < w.heap.size := lt_of_cell (h.c 0 hn)
theorem Blk.put {w : World} {g n : Nat} {F : Nat → Value} (h : Blk w g n F) (i : Nat) (v : Value) : Blk (w.setCell ⟨g, i, none⟩ v) g n (fun x => if x = i then v else F x) := by
  refine ⟨fun j hj => ?_, fun j => by rw [World.frozen?_setCell]; exact h.z j⟩
  by_cases e : j = i
  · subst e
    simp only [if_pos]
    exact World.cell?_setCell_same' _ _ _ (by rw [h.c j hj]; rfl)
  · simp only [if_neg e]
    rw [World.cell?_setCell_other _ _ _ _ (by intro he; injection he with h1 h2; exact e h2.symm)]
    exact h.c j hj
theorem Blk.congr {w : World} {g n : Nat} {F F' : Nat → Value} (h : Blk w g n F) (e : ∀ j, j < n → F' j = F j) : Blk w g n F' := ⟨fun j hj => by rw [e j hj]; exact h.c j hj, h.z⟩
theorem Blk.new (w : World) (xs : Array Value) (t : TypeId) : Blk (w.alloc (.cells xs t)) w.heap.size xs.size (fun j => xs.getD j .nilFunc) := by
  refine ⟨fun j hj => ?_, fun j => World.frozen?_alloc_at _ _ _ _ rfl⟩
  rw [World.cell?_alloc_at _ _ _ _ rfl]
  simp [hj]

/-- An entry's five cells. -/
def enc5 (e : En) : List Value := [.bool e.live, .int .i64 e.hash, .int .i64 e.key, .int .i64 e.value, .int .i64 e.birth]
def enl : List En → List Value
  | [] => []
  | e :: r => enc5 e ++ enl r
theorem enl_len (es : List En) : (enl es).length = es.length * 5 := by
  induction es with
  | nil => rfl
  | cons e r ih => rw [enl, List.length_append, ih, List.length_cons]; simp [enc5]; omega
theorem enl_app (a b : List En) : enl (a ++ b) = enl a ++ enl b := by
  induction a with
  | nil => rfl
  | cons e r ih => rw [List.cons_append, enl, enl, ih, List.append_assoc]
theorem enl_get (es : List En) (n k : Nat) (hn : n < es.length) (hk : k < 5) : (enl es)[n * 5 + k]? = (enc5 (nth es n))[k]? := by
  induction es generalizing n with
  | nil => simp at hn
  | cons e r ih =>
    match n, hn with
    | 0, _ =>
      rw [enl, Nat.zero_mul, Nat.zero_add, List.getElem?_append_left (by simp [enc5]; omega)]
      simp [nth]
    | n + 1, hn =>
      rw [enl, List.getElem?_append_right (by simp [enc5]; omega), show (n + 1) * 5 + k - (enc5 e).length = n * 5 + k by simp [enc5]; omega, ih n (by simpa using hn)]
      simp [nth]
theorem enl_one (es : List En) : ∀ u ∈ enl es, u.oneCell' = true := by
  induction es with
  | nil => intro u hu; simp [enl] at hu
  | cons e r ih =>
    intro u hu
    rw [enl, List.mem_append] at hu
    rcases hu with h | h
    · simp [enc5] at h
      rcases h with rfl | rfl | rfl | rfl | rfl <;> rfl
    · exact ih u h
/-- Entries in a row of their own. -/
def Es (w : World) (v : Value) (es : List En) : Prop := w.ownsRow 0 69 5 v es.length (enl es)
theorem Es.nil (w : World) : Es w (.slice none 0 0) [] := ⟨rfl, Or.inl ⟨rfl, rfl⟩⟩
/-- A row of entries, laid open. -/
structure Ro (w : World) (ge len cap : Nat) (es : List En) : Prop where
  le : len ≤ cap
  c0 : ∀ n, n < len → w.cell? ⟨ge, n * 5, none⟩ = some (.bool (nth es n).live)
  c1 : ∀ n, n < len → w.cell? ⟨ge, n * 5 + 1, none⟩ = some (.int .i64 (nth es n).hash)
  c2 : ∀ n, n < len → w.cell? ⟨ge, n * 5 + 2, none⟩ = some (.int .i64 (nth es n).key)
  c3 : ∀ n, n < len → w.cell? ⟨ge, n * 5 + 3, none⟩ = some (.int .i64 (nth es n).value)
  c4 : ∀ n, n < len → w.cell? ⟨ge, n * 5 + 4, none⟩ = some (.int .i64 (nth es n).birth)
theorem Es.open {w : World} {v : Value} {es : List En} (h : Es w v es) : ∃ a cap ge, v = .slice a es.length cap ∧ (0 < es.length → a = some ⟨ge, 0, none⟩ ∧ v.ownBlock = some ge ∧ (∀ j, w.frozen? ⟨ge, j, none⟩ = false)) ∧ Ro w ge es.length cap es := by
  have h0 : w.ownsRow 0 69 5 v es.length (enl es) := h
  rcases h0.2 with ⟨rfl, h1⟩ | ⟨g, cap, cur, rfl, hg, hh, hc, _⟩
  · exact ⟨none, 0, 0, by rw [h1], fun h => by omega, by omega, fun n h => by omega, fun n h => by omega, fun n h => by omega, fun n h => by omega, fun n h => by omega⟩
  · have key : ∀ n k, n < es.length → k < 5 → w.cell? ⟨g, n * 5 + k, none⟩ = (enc5 (nth es n))[k]? := fun n k hn hk => by
      rw [h0.cellAt _ (by omega), enl_get _ _ _ hn hk]
    exact ⟨_, cap, g, rfl, fun _ => ⟨rfl, rfl, fun j => h0.frozenAt j⟩, hc, fun n hn => key n 0 hn (by omega), fun n hn => key n 1 hn (by omega), fun n hn => key n 2 hn (by omega), fun n hn => key n 3 hn (by omega), fun n hn => key n 4 hn (by omega)⟩
theorem Es.same {w w' : World} {v : Value} {es : List En} (h : Es w v es) (e : ∀ k, v.ownBlock = some k → w'.heap[k]? = w.heap[k]?) : Es w' v es := by
  refine ⟨h.1, ?_⟩
  rcases h.2 with h0 | ⟨g, cap, cur, rfl, h1, h2, h3⟩
  · exact .inl h0
  · exact .inr ⟨g, cap, cur, rfl, h1, (e g rfl).trans h2, h3⟩
theorem Es.lt {w : World} {v : Value} {es : List En} (h : Es w v es) : ∀ k, v.ownBlock = some k → k < w.heap.size := fun k hk => (World.ownsRow.lt h k hk).2
/-- The block of a pointer. -/
def mB (mv : Value) (k : Nat) : Prop := mv = .pointer (some ⟨k, 0, none⟩)
/-- All blocks but those of X are as they were. -/
structure Ex (X : Nat → Prop) (w w' : World) : Prop where
  os : w'.os = w.os
  tape : w'.tape = w.tape
  output : w'.output = w.output
  size : w.heap.size ≤ w'.heap.size
  block : ∀ k, k < w.heap.size → ¬ X k → w'.heap[k]? = w.heap[k]?
theorem Ex.refl (X : Nat → Prop) (w : World) : Ex X w w := ⟨rfl, rfl, rfl, Nat.le_refl _, fun _ _ _ => rfl⟩
theorem Ex.trans {X : Nat → Prop} {a b c : World} (x : Ex X a b) (y : Ex X b c) : Ex X a c :=
  ⟨y.os.trans x.os, y.tape.trans x.tape, y.output.trans x.output, Nat.le_trans x.size y.size, fun i hi h => (y.block i (Nat.lt_of_lt_of_le hi x.size) h).trans (x.block i hi h)⟩
/-- Behind a first step, what is new may be turned, too. -/
theorem Ex.next {X Y : Nat → Prop} {a b c : World} (x : Ex X a b) (y : Ex Y b c) (h : ∀ k, k < a.heap.size → Y k → X k) : Ex X a c :=
  ⟨y.os.trans x.os, y.tape.trans x.tape, y.output.trans x.output, Nat.le_trans x.size y.size, fun i hi hx => (y.block i (Nat.lt_of_lt_of_le hi x.size) (fun hy => hx (h i hi hy))).trans (x.block i hi hx)⟩
theorem Ex.mono {X Y : Nat → Prop} {a b : World} (x : Ex X a b) (h : ∀ k, k < a.heap.size → X k → Y k) : Ex Y a b := ⟨x.os, x.tape, x.output, x.size, fun i hi hy => x.block i hi (fun hx => hy (h i hi hx))⟩
theorem ex_of {X : Nat → Prop} {w w' : World} (x : Below w.heap.size w w') : Ex X w w' := ⟨x.os, x.tape, x.output, x.size, fun k hk _ => x.block k hk⟩
theorem Ex.drew {X : Nat → Prop} {a w : World} (x : Ex X a w) : Ex X a w.drew := ⟨x.os, x.tape, x.output, x.size, x.block⟩
theorem Ex.alloc {X : Nat → Prop} {a w : World} (x : Ex X a w) (o : Obj) : Ex X a (w.alloc o) := x.next (Y := fun _ => False) (ex_of ((Below.refl _ w).alloc (Nat.le_refl _) o)) (fun _ _ h => h.elim)
theorem Ex.setCell {X : Nat → Prop} {a w : World} (x : Ex X a w) {p : Addr} (h : p.block < a.heap.size → X p.block) (v : Value) : Ex X a (w.setCell p v) :=
  ⟨x.os, x.tape, x.output, by simpa [World.setCell] using x.size, fun k hk hx => (Below.heap_setCell _ _ _ _ (fun e => hx (by subst e; exact h hk))).trans (x.block k hk hx)⟩
theorem Ex.below {X : Nat → Prop} {B : Nat} {w w' : World} (x : Ex X w w') (h : ∀ k, X k → B ≤ k) (hB : B ≤ w.heap.size) : Below B w w' :=
  ⟨x.os, x.tape, x.output, x.size, fun k hk => x.block k (by omega) (fun hx => by have := h k hx; omega)⟩
theorem But.ex {g : Nat} {w w' : World} (x : But g w w') : Ex (fun k => k = g) w w' := ⟨x.os, x.tape, x.output, x.size, fun k hk h => x.block k hk h⟩
theorem Tryz.infoEn : (Tryz.prog.info? 69).map (fun i => (i.zero, i.size, i.bytes)) = some (some (.agg #[.bool false, .int .i64 0, .int .i64 0, .int .i64 0, .int .i64 0]), 5, 40) := by kernel_rfl
theorem new_five (w : World) (e : En) (t : TypeId) : ∀ j u, (enc5 e)[j]? = some u → (w.alloc (.cells #[.bool e.live, .int .i64 e.hash, .int .i64 e.key, .int .i64 e.value, .int .i64 e.birth] t)).cell? (Addr.add ⟨w.heap.size, 0, none⟩ j) = some u := by
  intro j u hj
  rw [WideShapes.add_plain, World.cell?_alloc_at _ _ _ _ rfl]
  simpa [enc5] using hj
/-- Entries in a row that was made from block B on. -/
def EsB (B : Nat) (w : World) (v : Value) (es : List En) : Prop := w.ownsRow B 69 5 v es.length (enl es)
theorem EsB.es {B : Nat} {w : World} {v : Value} {es : List En} (h : EsB B w v es) : Es w v es := by
  refine ⟨h.1, ?_⟩
  rcases h.2 with h0 | ⟨g, cap, cur, e, h1, h2⟩
  · exact .inl h0
  · exact .inr ⟨g, cap, cur, e, Nat.zero_le _, h2⟩
theorem EsB.ge {B : Nat} {w : World} {v : Value} {es : List En} (h : EsB B w v es) : ∀ k, v.ownBlock = some k → B ≤ k := fun k hk => (World.ownsRow.lt h k hk).1
theorem EsB.snoc {B : Nat} {w : World} {v : Value} {es : List En} {e : En} (h : w.ownsRow B 69 5 v (es.length + 1) (enl es ++ enc5 e)) : EsB B w v (es ++ [e]) := by
  unfold EsB
  rw [enl_app, List.length_append]
  simpa [enl] using h
theorem below_grown5 {B n : Nat} {w wr w1 : World} {v : Value} {xs : List Value} {o : Obj} {t : TypeId} (hb : Below B w wr) (hB : B ≤ w.heap.size) (hown : wr.ownsRow B t 5 v n xs) (hg : (wr.alloc o).grownBy w1 v.ownBlock) : Below B w w1 := by
  refine (hb.alloc (Nat.le_trans hB hb.size) o).grown hg (by simp; have := hb.size; omega) (fun k e => ?_)
  exact (hown.lt k e).1
theorem Blk.of {w : World} {g n : Nat} {F : Nat → Value} (h : Blk w g n F) {w' : World} (hb : Below w.heap.size w w') (hn : 0 < n) : Blk w' g n F := h.same (hb.block g (h.lt hn))
/-- What a new table is. -/
def Tb.new : Tb := ⟨[], 3, fun _ => -1, 0, 1, 0⟩
theorem Tb.new_ok : Tb.new.Ok := ⟨Inv.nil 3, by show 3 ≤ 3 ∧ 3 ≤ 20; omega, Nat.le_refl _, by show 0 ≤ 100000; omega⟩
end Go.Proofs.YtbpflmdefpjcaaaGreat
namespace Go.Proofs.YtbpflmdefpjcaaaGreat.Tr
open Go.RowKit

/-- A table of S = 2 ^ L cells. -/
structure Sz (L S : Nat) : Prop where
  eq : 2 ^ L = S
  le : L ≤ 20
theorem Sz.pos {L S : Nat} (h : Sz L S) : 1 ≤ S := by rw [← h.eq]; exact pow2_pos L
theorem Sz.most {L S : Nat} (h : Sz L S) : S ≤ 1048576 := by
  rw [← h.eq]
  exact Nat.le_trans (Nat.pow_le_pow_right (by decide) h.le) (by decide)
theorem Sz.int {L S : Nat} (h : Sz L S) : (2 : Int) ^ L = (S : Int) := by rw [← h.eq]; push_cast; rfl
theorem Sz.u64 {L S : Nat} (h : Sz L S) : IntKind.u64.wrap ((2 : Int) ^ L) = (S : Int) := by
  have h1 := h.most
  rw [h.int, IntKind.wrap_u64]
  omega
theorem Sz.i64 {L S : Nat} (h : Sz L S) : IntKind.i64.wrap ((2 : Int) ^ L) = (S : Int) := by
  have h1 := h.most
  rw [h.int, IntKind.wrap_i64]
  omega
theorem Sz.mask {L S : Nat} (h : Sz L S) (x : Int) (h0 : 0 ≤ x) (h1 : x < 18446744073709551616) : bits BinOp.and IntKind.u64 x ((S : Int) - 1) = x % (S : Int) := by
  have h2 := bits_mask .u64 64 (by decide) (fun n h0 h1 => by rw [show (2 : Int) ^ 64 = 18446744073709551616 from rfl] at h1; rw [IntKind.wrap_u64]; omega) L (by have := h.le; omega) x h0 (by rw [show (2 : Int) ^ 64 = 18446744073709551616 from rfl]; exact h1)
  rwa [h.int] at h2
theorem isLog_any (l : Int) (w : World) : Calls Tryz.prog 83 #[.int .i64 l] w fun e w' => e = .returned (.bool (decide (0 ≤ l ∧ l ≤ 20))) ∧ w' = w := by
  go_enter Tryz.func83, Tryz.ntmps83
  by_cases h1 : 0 ≤ l
  · by_cases h2 : l ≤ 20
    · rw [decide_eq_true (p := 0 ≤ l ∧ l ≤ 20) ⟨h1, h2⟩]
      go_wp2
      go_ret
      exact ⟨rfl, rfl⟩
    · rw [decide_eq_false (p := 0 ≤ l ∧ l ≤ 20) (fun h => h2 h.2)]
      go_wp2
      go_ret
      exact ⟨rfl, rfl⟩
  · rw [decide_eq_false (p := 0 ≤ l ∧ l ≤ 20) (fun h => h1 h.1)]
    go_wp2
    go_ret
    exact ⟨rfl, rfl⟩
theorem isLog_yes (L : Nat) (hL : L ≤ 20) (w : World) : Calls Tryz.prog 83 #[.int .i64 (L : Int)] w fun e w' => e = .returned (.bool true) ∧ w' = w := by
  have := isLog_any L w
  rwa [decide_eq_true (p := 0 ≤ (L : Int) ∧ (L : Int) ≤ 20) (by omega)] at this
theorem isLog_no (l : Int) (h : ¬ (0 ≤ l ∧ l ≤ 20)) (w : World) : Calls Tryz.prog 83 #[.int .i64 l] w fun e w' => e = .returned (.bool false) ∧ w' = w := by
  have := isLog_any l w
  rwa [decide_eq_false h] at this
/-- The first cell of a hash. -/
def firstZ (h l : Int) : Int := if 0 ≤ l ∧ l ≤ 20 then ((uw h % 2 ^ l.toNat : Nat) : Int) else 0
theorem firstZ_yes (h : Int) {L S : Nat} (hS : Sz L S) : firstZ h (L : Int) = ((uw h % S : Nat) : Int) := by
  have := hS.le
  unfold firstZ
  rw [if_pos (by omega), Int.toNat_natCast, hS.eq]
theorem log_cases (l : Int) : (∃ L S : Nat, l = (L : Int) ∧ Sz L S) ∨ ¬ (0 ≤ l ∧ l ≤ 20) := by
  by_cases h : 0 ≤ l ∧ l ≤ 20
  · exact .inl ⟨l.toNat, 2 ^ l.toNat, by omega, rfl, by omega⟩
  · exact .inr h
theorem i64_small {x : Int} (h0 : 0 ≤ x) (h1 : x < 9223372036854775808) : IntKind.i64.wrap x = x := by rw [IntKind.wrap_i64]; omega
end Go.Proofs.YtbpflmdefpjcaaaGreat.Tr
namespace Go.Proofs.YtbpflmdefpjcaaaGreat.Tr
open Go.RowKit Go.WideShapes

theorem u64_small {x : Int} (h0 : 0 ≤ x) (h1 : x < 18446744073709551616) : IntKind.u64.wrap x = x := by rw [IntKind.wrap_u64]; omega
/-- Begin: the first cell, the hash, the mask. -/
theorem begin_any {L S : Nat} (hS : Sz L S) (h : Int) (w : World) : Calls Tryz.prog 72 #[.int .i64 h, .int .i64 (L : Int)] w fun e w' => e = .returned (.agg #[.int .u64 ((uw h % S : Nat) : Int), .int .u64 ((uw h : Nat) : Int), .int .u64 ((S : Int) - 1)]) ∧ Below w.heap.size w w' := by
  have h1 := uw_int h
  have h2 := uw_lt h
  have hp := hS.pos
  have hm := hS.most
  have hle := hS.le
  have hu := hS.u64
  have hw1 : IntKind.u64.wrap ((S : Int) - 1) = (S : Int) - 1 := u64_small (by omega) (by omega)
  have h3 := hS.mask ((uw h : Nat) : Int) (by omega) (by omega)
  rw [← Int.natCast_emod] at h3
  have HL : Hid (∀ w, Calls Tryz.prog 83 #[.int .i64 (L : Int)] w fun e w' => e = .returned (.bool true) ∧ w' = w) := fun w => isLog_yes L hS.le w
  generalize uw h % S = r at h3 ⊢
  generalize uw h = u at h1 h2 h3 ⊢
  go_enter Tryz.func72, Tryz.ntmps72
  go_wp2_with fail
  refine (HL.out _).mono ?_
  rintro e w1 ⟨rfl, rfl⟩
  go_wp2
  refine bodyPost_ret (v := .agg #[.int .u64 (r : Int), .int .u64 (u : Int), .int .u64 ((S : Int) - 1)]) (by simp [results, Tryz.results72, go_sem]) rfl ?_
  exact ⟨rfl, (Below.refl _ w).alloc (Nat.le_refl _) _⟩
theorem cell_any (b o c : Nat) (hc : c < 9223372036854775808) (w : World) (h0 : w.cell? ⟨b, o, none⟩ = some (.int .u64 (c : Int))) : Calls Tryz.prog 74 #[.pointer (some ⟨b, o, none⟩)] w fun e w' => e = .returned (.int .i64 (c : Int)) ∧ w' = w := by
  have h5 : IntKind.i64.wrap (c : Int) = (c : Int) := i64_small (by omega) (by omega)
  go_enter Tryz.func74, Tryz.ntmps74
  go_wp2
  go_ret
  exact ⟨rfl, rfl⟩
/-- The world behind Step. -/
def stepW (w : World) (b o c p : Nat) : World := ((w.setCell ⟨b, o + 1, none⟩ (.int .u64 (p : Int))).setCell ⟨b, o, none⟩ (.int .u64 (c : Int))).drew
theorem step_any {L S : Nat} (hS : Sz L S) (b o c p : Nat) (hc : c < S) (hp : p < 18446744073709551616) (w : World) (h0 : w.cell? ⟨b, o, none⟩ = some (.int .u64 (c : Int))) (h1 : w.cell? ⟨b, o + 1, none⟩ = some (.int .u64 (p : Int))) (h2 : w.cell? ⟨b, o + 2, none⟩ = some (.int .u64 ((S : Int) - 1)))
    (z0 : w.frozen? ⟨b, o, none⟩ = false) (z1 : w.frozen? ⟨b, o + 1, none⟩ = false) :
    Calls Tryz.prog 75 #[.pointer (some ⟨b, o, none⟩)] w fun e w' => e = .returned (.tuple #[]) ∧ w' = stepW w b o ((c * 5 + p / 32 + 1) % S) (p / 32) := by
  have hm := hS.most
  have e2 : IntKind.u64.wrap (5 * (c : Int)) = ((c * 5 : Nat) : Int) := by rw [IntKind.wrap_u64]; omega
  have e3 : (p : Int) / 32 = ((p / 32 : Nat) : Int) := by omega
  have e4 : IntKind.u64.wrap (((c * 5 : Nat) : Int) + ((p / 32 : Nat) : Int)) = ((c * 5 + p / 32 : Nat) : Int) := by rw [IntKind.wrap_u64]; omega
  have e5 : IntKind.u64.wrap (((c * 5 + p / 32 : Nat) : Int) + 1) = ((c * 5 + p / 32 + 1 : Nat) : Int) := by rw [IntKind.wrap_u64]; omega
  have e6 : bits BinOp.and IntKind.u64 ((c * 5 + p / 32 + 1 : Nat) : Int) ((S : Int) - 1) = (((c * 5 + p / 32 + 1) % S : Nat) : Int) := by
    rw [hS.mask _ (by omega) (by omega), Int.natCast_emod]
  generalize (c * 5 + p / 32 + 1) % S = r at e6 ⊢
  generalize c * 5 + p / 32 + 1 = x3 at e5 e6
  generalize c * 5 + p / 32 = x2 at e4 e5
  generalize c * 5 = x1 at e2 e4
  generalize p / 32 = q at e3 e4 ⊢
  unfold stepW
  go_enter Tryz.func75, Tryz.ntmps75
  go_upto_region 1 with fail
  have k0 : (w.setCell ⟨b, o + 1, none⟩ (.int .u64 (q : Int))).cell? ⟨b, o, none⟩ = some (.int .u64 (c : Int)) := (World.cell?_setCell_other _ _ _ _ (by intro he; injection he with h1 h2; omega)).trans h0
  have k1 : (w.setCell ⟨b, o + 1, none⟩ (.int .u64 (q : Int))).cell? ⟨b, o + 1, none⟩ = some (.int .u64 (q : Int)) := World.cell?_setCell_same' _ _ _ (by rw [h1]; rfl)
  have k2 : (w.setCell ⟨b, o + 1, none⟩ (.int .u64 (q : Int))).cell? ⟨b, o + 2, none⟩ = some (.int .u64 ((S : Int) - 1)) := (World.cell?_setCell_other _ _ _ _ (by intro he; injection he with h1 h2; omega)).trans h2
  have k3 : (w.setCell ⟨b, o + 1, none⟩ (.int .u64 (q : Int))).frozen? ⟨b, o, none⟩ = false := by rw [World.frozen?_setCell]; exact z0
  generalize hw1 : w.setCell ⟨b, o + 1, none⟩ (.int .u64 (q : Int)) = w1 at *
  have HW : Hid (w.setCell ⟨b, o + 1, none⟩ (.int .u64 (q : Int)) = w1) := hw1
  clear hw1
  go_region
  all_goals
    go_wp2
    go_end0
    exact ⟨rfl, by rw [HW.out]⟩
end Go.Proofs.YtbpflmdefpjcaaaGreat.Tr
namespace Go.Proofs.YtbpflmdefpjcaaaGreat
open Go.RowKit

/-- What is said of a world hangs on the blocks below B alone. -/
def St (B : Nat) (J : Nat → World → Prop) : Prop := ∀ i A A', J i A → Below B A A' → J i A'
/-- What was laid from B on lies as it lay. -/
structure Since (B : Nat) (W W' : World) : Prop where
  size : W.heap.size ≤ W'.heap.size
  same : ∀ k, B ≤ k → k < W.heap.size → W'.heap[k]? = W.heap[k]?
theorem Since.refl (B : Nat) (W : World) : Since B W W := ⟨Nat.le_refl _, fun _ _ _ => rfl⟩
theorem Since.trans {B : Nat} {a b c : World} (h : Since B a b) (k : Since B b c) : Since B a c :=
  ⟨Nat.le_trans h.size k.size, fun i h1 h2 => (k.same i h1 (Nat.lt_of_lt_of_le h2 h.size)).trans (h.same i h1 h2)⟩
theorem Since.mono {B B' : Nat} {a b : World} (h : Since B a b) (hb : B ≤ B') : Since B' a b := ⟨h.size, fun i h1 h2 => h.same i (Nat.le_trans hb h1) h2⟩
theorem Since.below {B : Nat} {a b : World} (h : Below a.heap.size a b) : Since B a b := ⟨h.size, fun i _ h2 => h.block i h2⟩
theorem Since.setCell {B : Nat} {a b : World} (h : Since B a b) {p : Addr} (hp : p.block < B) (v : Value) : Since B a (b.setCell p v) :=
  h.trans ⟨by simp [World.setCell], fun k hk _ => Below.heap_setCell _ _ _ _ (by omega)⟩
theorem below_put {B : Nat} {W : World} {l : Nat} {o : Obj} (hl : B ≤ l) : Below B W (W.putObj l o) :=
  ⟨rfl, rfl, rfl, by simp, fun k hk => World.putObj_heap_other (by omega)⟩
theorem since_put {B : Nat} {W : World} {l : Nat} {o : Obj} (hl : l < B) : Since B W (W.putObj l o) :=
  ⟨by simp, fun k hk _ => World.putObj_heap_other (by omega)⟩
/-- An iterator that tells encs 0, encs 1, .. N of them, as long as what it reads is kept (Kp); it is called with args l, in which yield stands. -/
def SeqAt (P : Program) (gf : Nat) (args : Nat → Array Value) (encs : Nat → Array Value) (N : Nat) (Kp : World → Prop) (w : World) : Prop :=
  ∀ (l : Nat) (J Jx : Nat → World → Prop) (W : World), Below w.heap.size w W → St W.heap.size J → St W.heap.size Jx → (∀ i W1, J i W1 → Kp W1) →
    (∀ i W1, i < N → J i W1 → YieldAt Fence.wide 0 P l (encs i) W1 fun e W' => (e = .returned (.bool true) ∧ J (i + 1) W' ∧ Since W.heap.size W1 W') ∨ (e = .returned (.bool false) ∧ Jx i W')) →
    J 0 W → CallsIn Fence.wide 0 P gf (args l) W fun e W' => (∃ v, e = .returned v) ∧ (J N W' ∨ ∃ i, i < N ∧ Jx i W')
/-- The same of a closure. -/
def SeqIx (P : Program) (gf : Nat) (lb : Array Value) (encs : Nat → Array Value) (N : Nat) (w : World) : Prop := SeqAt P gf (fun l => #[.func (.yield l) #[] #[]] ++ lb) encs N (fun _ => True) w
/-- How a round may be left. -/
def ixPost (B N : Nat) (I : Nat → World → Prop) (Ix : Code → Nat → World → Prop) (i : Nat) (W : World) : Exit → Act → World → Prop
  | .normal, _, W' => Since B W W' ∧ I (i + 1) W'
  | .ret, _, W' => Since B W W' ∧ i < N ∧ Ix .ret i W'
  | .exit id, _, W' => Since B W W' ∧ i < N ∧ Ix (.exit id) i W'
  | .goto t, _, W' => Since B W W' ∧ i < N ∧ Ix (.goto t) i W'
  | .panic _, _, _ => False
  | .outgrown, _, _ => False
theorem wpIn_range_at {P : Program} {g : Operand} {ps : Array Tmp} {assign body : Code} {Q : Exit → Act → World → Prop} {a : Act} {w : World}
    {gf : Nat} {args : Nat → Array Value} (dl : Nat → Deferred) (hres : ∀ l W, (resolve a.eval (rangeCall g l) 0).run P W = .ok (dl l) W) (hinv : ∀ l W, (invoke (dl l).target (dl l).args).run P W = .ok (.enter gf (args l)) W)
    {encs : Nat → Array Value} {N : Nat} {Kp : World → Prop} (hseq : SeqAt P gf args encs N Kp w) (hps : ∀ i, (encs i).size = ps.size)
    (I : Nat → World → Prop) (Ix : Code → Nat → World → Prop) (hI : St w.heap.size I) (hIx : ∀ c, St w.heap.size (Ix c)) (hIk : ∀ i W, I i W → Kp W) (h0 : I 0 w) (a₁ : Nat → Act)
    (hassign : ∀ (l i : Nat) (W : World) (K : Act → World → Prop), K (a₁ i) W →
      assign.wpIn (Fence.wide.inRound l) 0 P (Exit.then K (fun _ _ _ => False)) { tmps := (ps.zip (encs i)).foldl (fun t (p, v) => t.setIfInBounds p v) a.tmps, defers := [] } W)
    (hbody : ∀ (l i : Nat) (W : World), i < N → I i W → body.wpIn (Fence.wide.inRound l) 0 P (ixPost w.heap.size N I Ix i W) (a₁ i) W)
    (hdone : ∀ W, I N W → W.heap[w.heap.size]? = some (.deferred (some [])) → Q .normal { a with defers := { target := .collected w.heap.size, args := #[] } :: a.defers } W)
    (hstop : ∀ (c : Code) (i : Nat) (W : World), i < N → Ix c i W → W.heap[w.heap.size]? = some (.deferred (some [])) → c.wpIn Fence.wide 0 P Q { a with defers := { target := .collected w.heap.size, args := #[] } :: a.defers } W) :
    (Code.rangeFunc g ps assign body).wpIn Fence.wide 0 P Q a w := by
  refine wpIn_rangeFunc ?_
  intro fn hfn
  show ∃ l mark w₁ d w₁' f args w₂, (Instr.enterLoop fn a.tmps ps assign body none).run P w = _ ∧ _
  obtain ⟨rec, hrec⟩ : ∃ rec : LoopState → Option Code → Loop, rec = fun st pe => { state := st, pending := pe, fn, tmps := a.tmps, params := ps, assign, body, defers := w.heap.size } := ⟨_, rfl⟩
  obtain ⟨W1, hW1⟩ : ∃ W1, (w.alloc (.deferred (some []))).alloc (.loop (rec .ready none)) = W1 := ⟨_, rfl⟩
  have hL1 : W1.heap[w.heap.size + 1]? = some (.loop (rec .ready none)) := by
    rw [← hW1]; have := World.alloc_heap_new (w.alloc (.deferred (some []))) (.loop (rec .ready none)); rwa [World.size_alloc] at this
  have hK1 : W1.heap[w.heap.size]? = some (.deferred (some [])) := by
    rw [← hW1]; exact (Below.heap_alloc _ _ _ (by simp)).trans (World.alloc_heap_new w _)
  have hb1 : Below w.heap.size w W1 := by
    rw [← hW1]; exact ((Below.refl _ w).alloc (Nat.le_refl _) _).alloc (by simp) _
  have hs1 : W1.heap.size = w.heap.size + 2 := by rw [← hW1]; simp
  refine ⟨w.heap.size + 1, [{ target := .collected w.heap.size, args := #[] }], W1, dl (w.heap.size + 1), W1, gf,
    args (w.heap.size + 1), W1, ?_, hres _ _, ?_, hinv _ _, fun h => by simp [Fence.wide] at h, ?_⟩
  · rw [← hW1, hrec]; exact run_enterLoop_outer _ _ _ _ _
  · intro f' _; trivial
  · refine (hseq (w.heap.size + 1)
      (fun i W => I i W ∧ W.heap[w.heap.size + 1]? = some (.loop (rec .ready none)) ∧ W.heap[w.heap.size]? = some (.deferred (some [])))
      (fun i W => ∃ c, Ix c i W ∧ W.heap[w.heap.size + 1]? = some (.loop (rec .done (some c))) ∧ W.heap[w.heap.size]? = some (.deferred (some [])))
      W1 hb1 ?_ ?_ (fun i W h => hIk i W h.1) ?_ ⟨hI 0 w W1 h0 hb1, hL1, hK1⟩).mono ?_
    · rintro i A A' ⟨h1, h2, h3⟩ hb
      exact ⟨hI i A A' h1 (hb.mono (by omega)), (hb.block _ (by omega)).trans h2, (hb.block _ (by omega)).trans h3⟩
    · rintro i A A' ⟨c, h1, h2, h3⟩ hb
      exact ⟨c, hIx c i A A' h1 (hb.mono (by omega)), (hb.block _ (by omega)).trans h2, (hb.block _ (by omega)).trans h3⟩
    · rintro i W hi ⟨hJ, hl, hk⟩
      have hlt : w.heap.size + 1 < W.heap.size := (Array.getElem?_eq_some_iff.1 hl).1
      have hy := run_yield (P := P) (args := encs i) hl (by rw [hrec]; exact hps i)
      rw [hrec] at hy
      refine ⟨fn, _, assign, body, hy, roundIn_of_wpIn hfn (hassign _ i W _ ⟨_, run_beginRound hl (by rw [hrec]), ?_⟩)⟩
      have hl2 : (W.putObj (w.heap.size + 1) (.loop { rec .ready none with state := .busy })).heap[w.heap.size + 1]? = some (.loop { rec .ready none with state := .busy }) := World.putObj_heap_same hlt
      have hk2 : (W.putObj (w.heap.size + 1) (.loop { rec .ready none with state := .busy })).heap[w.heap.size]? = some (.deferred (some [])) := (World.putObj_heap_other (by omega)).trans hk
      refine wpIn_mono (hbody _ i _ hi (hI i W _ hJ (below_put (by omega)))) ?_
      have fin : ∀ (jump : Option Code) (W3 : World), Since w.heap.size (W.putObj (w.heap.size + 1) (.loop { rec .ready none with state := .busy })) W3 →
          (Instr.endRound (w.heap.size + 1) jump).run P W3 = .ok (.bool jump.isNone) (W3.putObj (w.heap.size + 1) (.loop (rec (if jump.isNone then .ready else .done) jump))) ∧
          (W3.putObj (w.heap.size + 1) (.loop (rec (if jump.isNone then .ready else .done) jump))).heap[w.heap.size + 1]? = some (.loop (rec (if jump.isNone then .ready else .done) jump)) ∧
          (W3.putObj (w.heap.size + 1) (.loop (rec (if jump.isNone then .ready else .done) jump))).heap[w.heap.size]? = some (.deferred (some [])) := fun jump W3 hk3 => by
        have hl3 := (hk3.same (w.heap.size + 1) (by omega) (by simpa using hlt)).trans hl2
        have := run_endRound (P := P) jump hl3
        rw [hrec] at this ⊢
        exact ⟨this, World.putObj_heap_same (Array.getElem?_eq_some_iff.1 hl3).1, (World.putObj_heap_other (by omega)).trans ((hk3.same w.heap.size (Nat.le_refl _) (by simp; omega)).trans hk2)⟩
      rintro e a3 W3 hp
      cases e with
      | normal =>
        obtain ⟨hk3, hi3⟩ := hp
        obtain ⟨hr, hl4, hk4⟩ := fin none W3 hk3
        refine ⟨_, _, hr, .inl ⟨rfl, ⟨hI _ _ _ hi3 (below_put (by omega)), hl4, hk4⟩, ?_⟩⟩
        exact ((since_put (by omega)).trans (hk3.mono (by omega))).trans (since_put (by omega))
      | ret =>
        obtain ⟨hk3, _, hi3⟩ := hp
        obtain ⟨hr, hl4, hk4⟩ := fin (some .ret) W3 hk3
        exact ⟨_, _, hr, .inr ⟨rfl, .ret, hIx _ _ _ _ hi3 (below_put (by omega)), hl4, hk4⟩⟩
      | exit id =>
        obtain ⟨hk3, _, hi3⟩ := hp
        obtain ⟨hr, hl4, hk4⟩ := fin (some (.exit id)) W3 hk3
        exact ⟨_, _, hr, .inr ⟨rfl, .exit id, hIx _ _ _ _ hi3 (below_put (by omega)), hl4, hk4⟩⟩
      | goto t =>
        obtain ⟨hk3, _, hi3⟩ := hp
        obtain ⟨hr, hl4, hk4⟩ := fin (some (.goto t)) W3 hk3
        exact ⟨_, _, hr, .inr ⟨rfl, .goto t, hIx _ _ _ _ hi3 (below_put (by omega)), hl4, hk4⟩⟩
      | panic ch => exact hp.elim
      | outgrown => exact hp.elim
    · rintro e W2 ⟨⟨v, rfl⟩, (⟨hi, hl, hk⟩ | ⟨i, hiN, c, hi, hl, hk⟩)⟩
      · exact ⟨none, _, by have := run_endLoop (P := P) hl (by rw [hrec]; simp); rw [hrec] at this; exact this, hdone _ (hI _ _ _ hi (below_put (by omega))) ((World.putObj_heap_other (by omega)).trans hk)⟩
      · exact ⟨some c, _, by have := run_endLoop (P := P) hl (by rw [hrec]; simp); rw [hrec] at this; exact this, hstop c i _ hiN (hIx c _ _ _ hi (below_put (by omega))) ((World.putObj_heap_other (by omega)).trans hk)⟩
theorem wpIn_range_ix {P : Program} {g : Operand} {ps : Array Tmp} {assign body : Code} {Q : Exit → Act → World → Prop} {a : Act} {w : World}
    {gf : Nat} {lb : Array Value} (hg : a.eval g = .func (.func gf) #[] lb) (eg : ∀ args w, (callFunc gf args).run P w = .ok (.enter gf args) w)
    {encs : Nat → Array Value} {N : Nat} (hseq : SeqIx P gf lb encs N w) (hps : ∀ i, (encs i).size = ps.size)
    (I : Nat → World → Prop) (Ix : Code → Nat → World → Prop) (hI : St w.heap.size I) (hIx : ∀ c, St w.heap.size (Ix c)) (h0 : I 0 w) (a₁ : Nat → Act)
    (hassign : ∀ (l i : Nat) (W : World) (K : Act → World → Prop), K (a₁ i) W →
      assign.wpIn (Fence.wide.inRound l) 0 P (Exit.then K (fun _ _ _ => False)) { tmps := (ps.zip (encs i)).foldl (fun t (p, v) => t.setIfInBounds p v) a.tmps, defers := [] } W)
    (hbody : ∀ (l i : Nat) (W : World), i < N → I i W → body.wpIn (Fence.wide.inRound l) 0 P (ixPost w.heap.size N I Ix i W) (a₁ i) W)
    (hdone : ∀ W, I N W → W.heap[w.heap.size]? = some (.deferred (some [])) → Q .normal { a with defers := { target := .collected w.heap.size, args := #[] } :: a.defers } W)
    (hstop : ∀ (c : Code) (i : Nat) (W : World), i < N → Ix c i W → W.heap[w.heap.size]? = some (.deferred (some [])) → c.wpIn Fence.wide 0 P Q { a with defers := { target := .collected w.heap.size, args := #[] } :: a.defers } W) :
    (Code.rangeFunc g ps assign body).wpIn Fence.wide 0 P Q a w :=
  wpIn_range_at (fun l => { target := .fn (.func gf) lb, args := #[.func (.yield l) #[] #[]] }) (fun l W => by simp only [resolve, hg]; simp [go_sem]) (fun l W => by simp [invoke, go_sem, eg]) hseq hps I Ix hI hIx (fun _ _ _ => trivial) h0 a₁ hassign hbody hdone hstop
end Go.Proofs.YtbpflmdefpjcaaaGreat
namespace Go.Proofs.YtbpflmdefpjcaaaGreat.Tr
open Go.RowKit Go.WideShapes
attribute [local go_sem] Oper.semAt_some

/-- The two blocks that All lays: the log, the hash. -/
theorem all_new (h l : Int) (w : World) :
    Calls Tryz.prog 89 #[.int .i64 h, .int .i64 l] w fun e w' => e = .returned (.func (.func 102) #[] #[.pointer (some ⟨w.heap.size + 1, 0, none⟩), .pointer (some ⟨w.heap.size, 0, none⟩)]) ∧ w' = (w.alloc (.cells #[.int .i64 h] 3)).alloc (.cells #[.int .i64 l] 3) := by
  have hmf : ∀ (fn : Fn) (first cap : Array Value) (w : World), (Instr.makeFunc fn first cap).run Tryz.prog w = .ok (.func fn first cap) w := fun _ _ _ _ => rfl
  go_enter Tryz.func89, Tryz.ntmps89
  go_wp2
  go_ret
  exact ⟨by simp, rfl⟩
/-- A walk in memory. -/
structure Wk (w : World) (b o c p S : Nat) : Prop where
  c0 : w.cell? ⟨b, o, none⟩ = some (.int .u64 (c : Int))
  c1 : w.cell? ⟨b, o + 1, none⟩ = some (.int .u64 (p : Int))
  c2 : w.cell? ⟨b, o + 2, none⟩ = some (.int .u64 ((S : Int) - 1))
  fr : ∀ j, w.frozen? ⟨b, j, none⟩ = false
theorem Wk.same {w w' : World} {b o c p S : Nat} (h : Wk w b o c p S) (e : w'.heap[b]? = w.heap[b]?) : Wk w' b o c p S :=
  ⟨(World.cell?_of_block (a := ⟨b, o, none⟩) e).trans h.c0, (World.cell?_of_block (a := ⟨b, o + 1, none⟩) e).trans h.c1, (World.cell?_of_block (a := ⟨b, o + 2, none⟩) e).trans h.c2, fun j => (World.frozen?_of_block (a := ⟨b, j, none⟩) e).trans (h.fr j)⟩
theorem Wk.new (w : World) (c p S : Nat) (t : TypeId) : Wk (w.alloc (.cells #[.int .u64 (c : Int), .int .u64 (p : Int), .int .u64 ((S : Int) - 1)] t)) w.heap.size 0 c p S := by
  constructor <;> first | exact fun j => World.frozen?_alloc_at _ _ _ _ rfl | (rw [World.cell?_alloc_at _ _ _ _ rfl]; rfl)
theorem Wk.lt {w : World} {b o c p S : Nat} (h : Wk w b o c p S) : b < w.heap.size := by
  by_cases hb : b < w.heap.size
  · exact hb
  · have := h.c0
    rw [World.cell?, Array.getElem?_eq_none (Nat.le_of_not_lt hb)] at this
    exact absurd this (by simp)
theorem Wk.step {w : World} {b o c p S : Nat} (h : Wk w b o c p S) (c' p' : Nat) : Wk (stepW w b o c' p') b o c' p' S := by
  unfold stepW
  refine ⟨?_, ?_, ?_, fun j => ?_⟩
  · show World.cell? (World.setCell _ _ _) _ = _
    exact World.cell?_setCell_same' _ _ _ (by rw [World.cell?_setCell_other _ _ _ _ (by intro he; injection he with h1 h2; omega), h.c0]; rfl)
  · show World.cell? (World.setCell _ _ _) _ = _
    rw [World.cell?_setCell_other _ _ _ _ (by intro he; injection he with h1 h2; omega)]
    exact World.cell?_setCell_same' _ _ _ (by rw [h.c1]; rfl)
  · show World.cell? (World.setCell _ _ _) _ = _
    rw [World.cell?_setCell_other _ _ _ _ (by intro he; injection he with h1 h2; omega), World.cell?_setCell_other _ _ _ _ (by intro he; injection he with h1 h2; omega)]
    exact h.c2
  · show World.frozen? (World.setCell _ _ _) _ = _
    rw [World.frozen?_setCell, World.frozen?_setCell]
    exact h.fr j
theorem stepW_below {B : Nat} (w : World) (b o c p : Nat) (hb : B ≤ b) : Below B w (stepW w b o c p) := by
  unfold stepW
  exact (((Below.refl _ w).setCell (p := ⟨b, o + 1, none⟩) hb _).setCell (p := ⟨b, o, none⟩) hb _).drew
set_option maxRecDepth 100000 in
set_option maxHeartbeats 4000000 in
theorem seqix_any {L S : Nat} (hS : Sz L S) (h : Int) (bl bh : Nat) (w : World) (hbl : bl < w.heap.size) (hbh : bh < w.heap.size) (hl : w.cell? ⟨bl, 0, none⟩ = some (.int .i64 (L : Int))) (hh : w.cell? ⟨bh, 0, none⟩ = some (.int .i64 h)) :
    SeqIx Tryz.prog 102 #[.pointer (some ⟨bl, 0, none⟩), .pointer (some ⟨bh, 0, none⟩)] (fun i => #[.int .i64 ((trl (uw h) L i : Nat) : Int)]) (S + 13) w := by
  intro l J Jx W hB HJ0 HJX0 _ hY0 J0
  have HJ := (show Hid _ from HJ0)
  have HY := (show Hid _ from hY0)
  have hl' := (hB.cell (p := ⟨bl, 0, none⟩) hbl).trans hl
  have hh' := (hB.cell (p := ⟨bh, 0, none⟩) hbh).trans hh
  have h2 := uw_lt h
  have hp := hS.pos
  have hm := hS.most
  have hle := hS.le
  have hi64 := hS.i64
  have t3 : IntKind.i64.wrap ((S : Int) + 13) = (S : Int) + 13 := i64_small (by omega) (by omega)
  have HL := isLog_yes L hS.le W
  have HBG := begin_any hS h W
  have HS : Hid (Sz L S) := hS
  have HT0 : Hid (uw h % S = trl (uw h) L 0) := by show _ = _; rw [trl, hS.eq]
  rw [HT0.out] at HBG
  have hUW : ∀ k, trl (uw h) L k < S := fun k => by rw [← hS.eq]; exact trl_lt _ _ _
  have HLT := (show Hid _ from hUW)
  clear hS HJ0 HJX0 hY0 hl hh hUW
  refine callsIn_of_wp Tryz.func102 rfl trivial ?_ rfl
  simp only [Tryz.ntmps102, List.size_toArray, List.length_cons, List.length_nil, Nat.reduceAdd, Nat.reduceSub, Array.replicate_succ, Array.replicate_zero, List.push_toArray, List.append_toArray, List.nil_append, List.cons_append]
  gi_wp2_with fail
  refine ⟨trivial, rfl, (callsIn_wide.2 HL).mono ?_⟩
  rintro e w1 ⟨rfl, rfl⟩
  clear HL
  gi_wp2_with fail
  refine ⟨trivial, rfl, (callsIn_wide.2 HBG).mono ?_⟩
  rintro e w2 ⟨rfl, hB2⟩
  clear HBG
  gi_wp2_with fail
  obtain ⟨w3, hw3⟩ : ∃ x, w2.alloc (.cells #[.int .u64 ((trl (uw h) L 0 : Nat) : Int), .int .u64 ((uw h : Nat) : Int), .int .u64 ((S : Int) - 1)] 95) = x := ⟨_, rfl⟩
  have hW3 : Wk w3 w2.heap.size 0 (trl (uw h) L 0) (uw h) S := by rw [← hw3]; exact Wk.new _ _ _ _ _
  have hB3 : Below w1.heap.size w1 w3 := by rw [← hw3]; exact hB2.alloc hB2.size _
  have hb := hB2.size
  rw [hw3]
  clear hw3
  generalize w2.heap.size = b at *
  have HJ3 := HJ.out 0 _ _ J0 hB3
  gi_loopw [16] (fun iv wr => ∃ k : Nat, k ≤ S + 13 ∧ iv = .int .i64 (k : Int) ∧ J k wr ∧ Wk wr b 0 (trl (uw h) L k) (uw h / 32 ^ k) S) (fun iv _ => S + 13 - (intOf iv).toNat)
  case atStart => exact ⟨0, Nat.zero_le _, rfl, HJ3, by simpa using hW3⟩
  case round =>
    obtain ⟨k, hk, rfl, hJ, hWk⟩ := hrel
    by_cases hlt : k < S + 13
    · have t1 : (k : Int) < (S : Int) + 13 := by omega
      have hc := HLT.out k
      have hp64 : uw h / 32 ^ k < 18446744073709551616 := Nat.lt_of_le_of_lt (Nat.div_le_self _ _) h2
      have CC := cell_any b 0 (trl (uw h) L k) (by omega) wr hWk.c0
      obtain ⟨fn, tmps, assign, body, hy, hR⟩ := HY.out k wr hlt hJ
      have HX1 : Hid ((trl (uw h) L k * 5 + uw h / 32 ^ k / 32 + 1) % S = trl (uw h) L (k + 1)) := by show _ = _; rw [trl, HS.out.eq, left_step]
      have HX2 : Hid (uw h / 32 ^ k / 32 = uw h / 32 ^ (k + 1)) := left_step _ _
      gi_wp2_with fail
      refine ⟨trivial, rfl, (callsIn_wide.2 CC).mono ?_⟩
      rintro e w4 ⟨rfl, rfl⟩
      clear CC
      gi_wp2_with fail
      refine ⟨rfl, hR.mono ?_⟩
      clear hR hy
      rintro e w5 (⟨rfl, hJ5, hK5⟩ | ⟨rfl, hX5⟩)
      · have hWk5 := hWk.same (hK5.same b hb hWk.lt)
        have CS := step_any HS.out b 0 _ _ hc hp64 w5 hWk5.c0 hWk5.c1 hWk5.c2 (hWk5.fr 0) (hWk5.fr (0 + 1))
        rw [HX1.out, HX2.out] at CS
        have HW6 := (show Hid _ from hWk5.step (trl (uw h) L (k + 1)) (uw h / 32 ^ (k + 1)))
        have HJ6 := (show Hid _ from HJ.out (k + 1) _ _ hJ5 (stepW_below w5 b 0 (trl (uw h) L (k + 1)) (uw h / 32 ^ (k + 1)) hb))
        clear hWk5 hJ5 hK5 hWk
        generalize stepW w5 b 0 (trl (uw h) L (k + 1)) (uw h / 32 ^ (k + 1)) = w6 at *
        gi_wp2_with fail
        refine ⟨trivial, rfl, (callsIn_wide.2 CS).mono ?_⟩
        rintro e w7 ⟨rfl, rfl⟩
        clear CS
        gi_wp2_with fail
        go_roundw
        case rel => exact ⟨k + 1, by omega, by go_num, HJ6.out, HW6.out⟩
        case measure => simp [intOf]; omega
      · gi_wp2
        refine bodyPost_ret (v := .tuple #[]) (by simp [results, Tryz.results102, go_sem]) rfl ?_
        exact ⟨⟨_, rfl⟩, .inr ⟨k, hlt, hX5⟩⟩
    · obtain rfl : k = S + 13 := by omega
      have t1 : ¬ (((S + 13 : Nat) : Int)) < (S : Int) + 13 := by omega
      gi_wp2
      go_end0
      exact ⟨⟨_, rfl⟩, .inl hJ⟩
end Go.Proofs.YtbpflmdefpjcaaaGreat.Tr
namespace Go.Proofs.YtbpflmdefpjcaaaGreat
open Go.RowKit Go.WideShapes

/-- A nil Cells, or a zero one. -/
def No (w : World) (v : Value) : Prop := v = .pointer none ∨ ∃ g, v = .pointer (some ⟨g, 0, none⟩) ∧ w.cell? ⟨g, 1, none⟩ = some .nilIface
theorem isNone_no {w : World} {v : Value} (h : No w v) : Calls Tryz.prog 65 #[v] w fun e w' => e = .returned (.bool true) ∧ w' = w := by
  rcases h with rfl | ⟨g, rfl, h1⟩
  · exact isNone_nil w
  · exact isNone_zero w g h1
theorem isNone_cl {w : World} {g r h L S : Nat} {f : Nat → Int} (hC : Cl w g r h L S f) : Calls Tryz.prog 65 #[.pointer (some ⟨g, 0, none⟩)] w fun e w' => e = .returned (.bool false) ∧ w' = w :=
  isNone_some w g _ _ hC.c1
theorem i64_small {x : Int} (h0 : -9223372036854775808 ≤ x) (h1 : x < 9223372036854775808) : IntKind.i64.wrap x = x := by
  rw [IntKind.wrap_i64]; omega
theorem log_any {w : World} {g r h L S : Nat} {f : Nat → Int} (hC : Cl w g r h L S f) : Calls Tryz.prog 47 #[.pointer (some ⟨g, 0, none⟩)] w fun e w' => e = .returned (.int .i64 (L : Int)) ∧ w' = w := by
  have C1 := isNone_cl hC
  have h0 := hC.c0
  go_enter Tryz.func47, Tryz.ntmps47
  go_wp2_with fail
  refine C1.mono ?_
  rintro e w1 ⟨rfl, rfl⟩
  clear C1
  go_wp2
  go_ret
  exact ⟨rfl, rfl⟩
theorem sizeM_any {w : World} {g r h L S : Nat} {f : Nat → Int} (hC : Cl w g r h L S f) : Calls Tryz.prog 45 #[.pointer (some ⟨g, 0, none⟩)] w fun e w' => e = .returned (.int .i64 (S : Int)) ∧ w' = w := by
  have C1 := isNone_cl hC
  have C2 := size_any hC.sz w
  have h0 := hC.c0
  go_enter Tryz.func45, Tryz.ntmps45
  go_wp2_with fail
  refine C1.mono ?_
  rintro e w1 ⟨rfl, rfl⟩
  clear C1
  go_wp2_with fail
  refine C2.mono ?_
  rintro e w1 ⟨rfl, rfl⟩
  clear C2
  go_wp2
  go_ret
  exact ⟨rfl, rfl⟩
theorem widthM_any {w : World} {g r h L S : Nat} {f : Nat → Int} (hC : Cl w g r h L S f) : Calls Tryz.prog 48 #[.pointer (some ⟨g, 0, none⟩)] w fun e w' => e = .returned (.int .i64 (wd L : Int)) ∧ w' = w := by
  have C1 := isNone_cl hC
  have C2 := width_any hC.sz w
  have h0 := hC.c0
  go_enter Tryz.func48, Tryz.ntmps48
  go_wp2_with fail
  refine C1.mono ?_
  rintro e w1 ⟨rfl, rfl⟩
  clear C1
  go_wp2_with fail
  refine C2.mono ?_
  rintro e w1 ⟨rfl, rfl⟩
  clear C2
  go_wp2
  go_ret
  exact ⟨rfl, rfl⟩
theorem room_any {w : World} {g r h L S : Nat} {f : Nat → Int} (hC : Cl w g r h L S f) : Calls Tryz.prog 90 #[.pointer (some ⟨g, 0, none⟩)] w fun e w' => e = .returned (.int .i64 (rm S : Int)) ∧ w' = w := by
  have C1 := sizeM_any hC
  have hm := hC.sz.most
  have e1 : IntKind.i64.wrap ((S : Int) * 2) = (S : Int) * 2 := i64_small (by omega) (by omega)
  have e2 : ((S : Int) * 2).tdiv 3 = ((rm S : Nat) : Int) := by rw [Int.tdiv_eq_ediv_of_nonneg (by omega)]; unfold rm; omega
  have e3 : IntKind.i64.wrap ((rm S : Nat) : Int) = ((rm S : Nat) : Int) := i64_small (by omega) (by unfold rm; omega)
  go_enter Tryz.func90, Tryz.ntmps90
  go_wp2_with fail
  refine C1.mono ?_
  rintro e w1 ⟨rfl, rfl⟩
  clear C1
  go_wp2
  go_ret
  exact ⟨rfl, rfl⟩
/-- Whether there is such a cell; whether it may hold that. -/
def ixE (S : Nat) (i : Int) : Int := if 0 ≤ i ∧ i < (S : Int) then 0 else 5
def may (S : Nat) (v : Int) : Bool := decide (-2 ≤ v ∧ v < ((rm S : Nat) : Int))
theorem refuse_any {w : World} {g r h L S : Nat} {f : Nat → Int} (hC : Cl w g r h L S f) (i : Int) : Calls Tryz.prog 84 #[.pointer (some ⟨g, 0, none⟩), .int .i64 i] w fun e w' => e = .returned (.int .i64 (ixE S i)) ∧ w' = w := by
  have C1 := isNone_cl hC
  have C2 := sizeM_any hC
  clear hC
  by_cases h0 : i < 0
  · rw [show ixE S i = 5 by unfold ixE; rw [if_neg (by omega)]]
    go_enter Tryz.func84, Tryz.ntmps84
    go_wp2_with fail
    refine C1.mono ?_
    rintro e w1 ⟨rfl, rfl⟩
    clear C1
    go_wp2
    go_ret
    exact ⟨rfl, rfl⟩
  · by_cases h1 : (S : Int) ≤ i
    case' pos => rw [show ixE S i = 5 by unfold ixE; rw [if_neg (by omega)]]
    case' neg => rw [show ixE S i = 0 by unfold ixE; rw [if_pos (by omega)]]
    all_goals
      go_enter Tryz.func84, Tryz.ntmps84
      go_wp2_with fail
      refine C1.mono ?_
      rintro e w1 ⟨rfl, rfl⟩
      clear C1
      go_wp2_with fail
      refine C2.mono ?_
      rintro e w1 ⟨rfl, rfl⟩
      clear C2
      go_wp2
      go_ret
      exact ⟨rfl, rfl⟩
theorem mayHold_any {w : World} {g r h L S : Nat} {f : Nat → Int} (hC : Cl w g r h L S f) (v : Int) : Calls Tryz.prog 88 #[.pointer (some ⟨g, 0, none⟩), .int .i64 v] w fun e w' => e = .returned (.bool (may S v)) ∧ w' = w := by
  have C2 := room_any hC
  clear hC
  go_enter Tryz.func88, Tryz.ntmps88
  by_cases a1 : v = -1
  · subst a1
    rw [show may S (-1) = true by unfold may; rw [decide_eq_true (by omega)]]
    go_wp2
    go_ret
    exact ⟨rfl, rfl⟩
  · have a1' : (v == -1) = false := by simp [a1]
    by_cases a2 : v = -2
    · subst a2
      rw [show may S (-2) = true by unfold may; rw [decide_eq_true (by omega)]]
      go_wp2
      go_ret
      exact ⟨rfl, rfl⟩
    · have a2' : (v == -2) = false := by simp [a2]
      by_cases a3 : 0 ≤ v
      · by_cases a4 : v < ((rm S : Nat) : Int)
        · rw [show may S v = true by unfold may; rw [decide_eq_true (by omega)]]
          go_wp2_with fail
          refine C2.mono ?_
          rintro e w1 ⟨rfl, rfl⟩
          clear C2
          go_wp2
          go_ret
          exact ⟨rfl, rfl⟩
        · rw [show may S v = false by unfold may; rw [decide_eq_false (by omega)]]
          go_wp2_with fail
          refine C2.mono ?_
          rintro e w1 ⟨rfl, rfl⟩
          clear C2
          go_wp2
          go_ret
          exact ⟨by rw [decide_eq_false (Int.not_lt.2 a4)]; rfl, rfl⟩
      · rw [show may S v = false by unfold may; rw [decide_eq_false (by omega)]]
        go_wp2
        go_ret
        exact ⟨rfl, rfl⟩
/-- Of none: nothing. -/
theorem log_no {w : World} {v : Value} (h : No w v) : Calls Tryz.prog 47 #[v] w fun e w' => e = .returned (.int .i64 0) ∧ w' = w := by
  have C1 := isNone_no h
  clear h
  go_enter Tryz.func47, Tryz.ntmps47
  go_wp2_with fail
  refine C1.mono ?_
  rintro e w1 ⟨rfl, rfl⟩
  clear C1
  go_wp2
  go_ret
  exact ⟨rfl, rfl⟩
theorem sizeM_no {w : World} {v : Value} (h : No w v) : Calls Tryz.prog 45 #[v] w fun e w' => e = .returned (.int .i64 0) ∧ w' = w := by
  have C1 := isNone_no h
  clear h
  go_enter Tryz.func45, Tryz.ntmps45
  go_wp2_with fail
  refine C1.mono ?_
  rintro e w1 ⟨rfl, rfl⟩
  clear C1
  go_wp2
  go_ret
  exact ⟨rfl, rfl⟩
theorem widthM_no {w : World} {v : Value} (h : No w v) : Calls Tryz.prog 48 #[v] w fun e w' => e = .returned (.int .i64 0) ∧ w' = w := by
  have C1 := isNone_no h
  clear h
  go_enter Tryz.func48, Tryz.ntmps48
  go_wp2_with fail
  refine C1.mono ?_
  rintro e w1 ⟨rfl, rfl⟩
  clear C1
  go_wp2
  go_ret
  exact ⟨rfl, rfl⟩
theorem allM_no {w : World} {v : Value} (h : No w v) : Calls Tryz.prog 46 #[v] w fun e w' => e = .returned (.func (.func 67) #[] #[]) ∧ w' = w := by
  have C1 := isNone_no h
  clear h
  go_enter Tryz.func46, Tryz.ntmps46
  go_wp2_with fail
  refine C1.mono ?_
  rintro e w1 ⟨rfl, rfl⟩
  clear C1
  go_wp2
  go_ret
  exact ⟨rfl, rfl⟩
theorem refuse_no {w : World} {v : Value} (h : No w v) (i : Int) : Calls Tryz.prog 84 #[v, .int .i64 i] w fun e w' => e = .returned (.int .i64 1) ∧ w' = w := by
  have C1 := isNone_no h
  clear h
  go_enter Tryz.func84, Tryz.ntmps84
  go_wp2_with fail
  refine C1.mono ?_
  rintro e w1 ⟨rfl, rfl⟩
  clear C1
  go_wp2
  go_ret
  exact ⟨rfl, rfl⟩
theorem room_no {w : World} {v : Value} (h : No w v) : Calls Tryz.prog 90 #[v] w fun e w' => e = .returned (.int .i64 0) ∧ w' = w := by
  have C1 := sizeM_no h
  clear h
  go_enter Tryz.func90, Tryz.ntmps90
  go_wp2_with fail
  refine C1.mono ?_
  rintro e w1 ⟨rfl, rfl⟩
  clear C1
  go_wp2
  go_ret
  exact ⟨rfl, rfl⟩
theorem get_no {w : World} {v : Value} (h : No w v) (i : Int) : Calls Tryz.prog 73 #[v, .int .i64 i] w fun e w' => e = .returned (.tuple #[.int .i64 0, .int .i64 1]) ∧ w' = w := by
  have C1 := refuse_no h i
  clear h
  go_enter Tryz.func73, Tryz.ntmps73
  go_wp2_with fail
  refine C1.mono ?_
  rintro e w1 ⟨rfl, rfl⟩
  clear C1
  go_wp2
  go_ret2
  exact ⟨rfl, rfl⟩
theorem set_no {w : World} {v : Value} (h : No w v) (i x : Int) : Calls Tryz.prog 80 #[v, .int .i64 i, .int .i64 x] w fun e w' => e = .returned (.int .i64 1) ∧ w' = w := by
  have C1 := refuse_no h i
  clear h
  go_enter Tryz.func80, Tryz.ntmps80
  go_wp2_with fail
  refine C1.mono ?_
  rintro e w1 ⟨rfl, rfl⟩
  clear C1
  go_wp2
  go_ret
  exact ⟨rfl, rfl⟩
end Go.Proofs.YtbpflmdefpjcaaaGreat
namespace Go.Proofs.YtbpflmdefpjcaaaGreat
open Go.RowKit Go.WideShapes

theorem get8 {w : World} {r h W S cap : Nat} {f : Nat → Int} (hR : Rw w r h .i8 W S cap f) (i : Nat) (hi : i < S) (hf : -2147483648 ≤ f i ∧ f i < 2147483648) :
    Calls Tryz.prog 124 #[.pointer (some ⟨r, 0, none⟩), .int .i64 (i : Int)] w fun e w' => e = .returned (.int .i64 (f i)) ∧ w' = w := by
  have h1 := hR.r1
  have h2 := hR.hc i hi
  have h3 : IntKind.i64.wrap (f i) = f i := i64_small (by omega) (by omega)
  have h4 : (i : Int) < (S : Int) := by omega
  have h5 := hR.le
  clear hR
  generalize f i = v at *
  go_enter Tryz.func124, Tryz.ntmps124
  go_wp2
  go_ret
  exact ⟨rfl, rfl⟩
theorem set8 {w : World} {r h W S cap : Nat} {f : Nat → Int} (hR : Rw w r h .i8 W S cap f) (i : Nat) (hi : i < S) (v : Int) (hv : IntKind.i8.wrap v = v) :
    Calls Tryz.prog 126 #[.pointer (some ⟨r, 0, none⟩), .int .i64 (i : Int), .int .i64 v] w fun e w' => e = .returned (.tuple #[]) ∧ w' = w.setCell ⟨h, i, none⟩ (.int .i8 v) := by
  have h1 := hR.r1
  have h2 := hR.hc i hi
  have h3 := hR.hz i
  have h4 : (i : Int) < (S : Int) := by omega
  have h5 := hR.le
  clear hR
  go_enter Tryz.func126, Tryz.ntmps126
  go_wp2
  go_end0
  exact ⟨rfl, rfl⟩
theorem get16 {w : World} {r h W S cap : Nat} {f : Nat → Int} (hR : Rw w r h .i16 W S cap f) (i : Nat) (hi : i < S) (hf : -2147483648 ≤ f i ∧ f i < 2147483648) :
    Calls Tryz.prog 131 #[.pointer (some ⟨r, 0, none⟩), .int .i64 (i : Int)] w fun e w' => e = .returned (.int .i64 (f i)) ∧ w' = w := by
  have h1 := hR.r1
  have h2 := hR.hc i hi
  have h3 : IntKind.i64.wrap (f i) = f i := i64_small (by omega) (by omega)
  have h4 : (i : Int) < (S : Int) := by omega
  have h5 := hR.le
  clear hR
  generalize f i = v at *
  go_enter Tryz.func131, Tryz.ntmps131
  go_wp2
  go_ret
  exact ⟨rfl, rfl⟩
theorem set16 {w : World} {r h W S cap : Nat} {f : Nat → Int} (hR : Rw w r h .i16 W S cap f) (i : Nat) (hi : i < S) (v : Int) (hv : IntKind.i16.wrap v = v) :
    Calls Tryz.prog 133 #[.pointer (some ⟨r, 0, none⟩), .int .i64 (i : Int), .int .i64 v] w fun e w' => e = .returned (.tuple #[]) ∧ w' = w.setCell ⟨h, i, none⟩ (.int .i16 v) := by
  have h1 := hR.r1
  have h2 := hR.hc i hi
  have h3 := hR.hz i
  have h4 : (i : Int) < (S : Int) := by omega
  have h5 := hR.le
  clear hR
  go_enter Tryz.func133, Tryz.ntmps133
  go_wp2
  go_end0
  exact ⟨rfl, rfl⟩
theorem get32 {w : World} {r h W S cap : Nat} {f : Nat → Int} (hR : Rw w r h .i32 W S cap f) (i : Nat) (hi : i < S) (hf : -2147483648 ≤ f i ∧ f i < 2147483648) :
    Calls Tryz.prog 138 #[.pointer (some ⟨r, 0, none⟩), .int .i64 (i : Int)] w fun e w' => e = .returned (.int .i64 (f i)) ∧ w' = w := by
  have h1 := hR.r1
  have h2 := hR.hc i hi
  have h3 : IntKind.i64.wrap (f i) = f i := i64_small (by omega) (by omega)
  have h4 : (i : Int) < (S : Int) := by omega
  have h5 := hR.le
  clear hR
  generalize f i = v at *
  go_enter Tryz.func138, Tryz.ntmps138
  go_wp2
  go_ret
  exact ⟨rfl, rfl⟩
theorem set32 {w : World} {r h W S cap : Nat} {f : Nat → Int} (hR : Rw w r h .i32 W S cap f) (i : Nat) (hi : i < S) (v : Int) (hv : IntKind.i32.wrap v = v) :
    Calls Tryz.prog 140 #[.pointer (some ⟨r, 0, none⟩), .int .i64 (i : Int), .int .i64 v] w fun e w' => e = .returned (.tuple #[]) ∧ w' = w.setCell ⟨h, i, none⟩ (.int .i32 v) := by
  have h1 := hR.r1
  have h2 := hR.hc i hi
  have h3 := hR.hz i
  have h4 : (i : Int) < (S : Int) := by omega
  have h5 := hR.le
  clear hR
  go_enter Tryz.func140, Tryz.ntmps140
  go_wp2
  go_end0
  exact ⟨rfl, rfl⟩
theorem row_get {w : World} {r h W S cap L : Nat} {f : Nat → Int} (hR : Rw w r h (kd L) W S cap f) (i : Nat) (hi : i < S) (hf : -2147483648 ≤ f i ∧ f i < 2147483648) :
    Calls Tryz.prog (getF L) #[.pointer (some ⟨r, 0, none⟩), .int .i64 (i : Int)] w fun e w' => e = .returned (.int .i64 (f i)) ∧ w' = w := by
  rcases L_cases L with h1 | ⟨h1, h2⟩ | ⟨h1, h2⟩
  · rw [show kd L = .i8 by simp [kd, h1]] at hR
    rw [show getF L = 124 by simp [getF, h1]]
    exact get8 hR i hi hf
  · rw [show kd L = .i16 by simp [kd, h1, h2]] at hR
    rw [show getF L = 131 by simp [getF, h1, h2]]
    exact get16 hR i hi hf
  · rw [show kd L = .i32 by simp [kd, h1, h2]] at hR
    rw [show getF L = 138 by simp [getF, h1, h2]]
    exact get32 hR i hi hf
theorem row_set {w : World} {r h W S cap L : Nat} {f : Nat → Int} (hR : Rw w r h (kd L) W S cap f) (i : Nat) (hi : i < S) (v : Int) (hv : (kd L).wrap v = v) :
    Calls Tryz.prog (setF L) #[.pointer (some ⟨r, 0, none⟩), .int .i64 (i : Int), .int .i64 v] w fun e w' => e = .returned (.tuple #[]) ∧ w' = w.setCell ⟨h, i, none⟩ (.int (kd L) v) := by
  rcases L_cases L with h1 | ⟨h1, h2⟩ | ⟨h1, h2⟩
  · rw [show kd L = .i8 by simp [kd, h1]] at hR hv ⊢
    rw [show setF L = 126 by simp [setF, h1]]
    exact set8 hR i hi v hv
  · rw [show kd L = .i16 by simp [kd, h1, h2]] at hR hv ⊢
    rw [show setF L = 133 by simp [setF, h1, h2]]
    exact set16 hR i hi v hv
  · rw [show kd L = .i32 by simp [kd, h1, h2]] at hR hv ⊢
    rw [show setF L = 140 by simp [setF, h1, h2]]
    exact set32 hR i hi v hv
end Go.Proofs.YtbpflmdefpjcaaaGreat
