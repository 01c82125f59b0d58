/-
  Blocks that may be written; entries in a row of their own.
-/
import Derived.Test.YtjkpailkamafcaaGreatDoorTbSeek
import Derived.Test.YtjkpailkamafcaaGreatDoorTbModel
import Derived.Test.YtjkpailkamafcaaGreatDoorCeBut
import Derived.Maps.AppendAt
import Derived.Deep.LoopGhost
namespace Go.Proofs.YtjkpailkamafcaaGreatDoor
open Go.RowKit Go.WideShapes

/-- A block of n cells that may be written. -/
structure Blk (w : World) (g n : Nat) (F : Nat → Value) : Prop where
  c : ∀ j, j < n → w.cell? ⟨g, j, none⟩ = some (F j)
  z : ∀ j, w.frozen? ⟨g, j, none⟩ = false
theorem Blk.same {w w' : World} {g n : Nat} {F : Nat → Value} (h : Blk w g n F) (e : w'.heap[g]? = w.heap[g]?) : Blk w' g n F :=
  ⟨fun j hj => (World.cell?_of_block (a := ⟨g, j, none⟩) e).trans (h.c j hj), fun j => (World.frozen?_of_block (a := ⟨g, j, none⟩) e).trans (h.z j)⟩
theorem Blk.lt {w : World} {g n : Nat} {F : Nat → Value} (h : Blk w g n F) (hn : 0 < n) : g < w.heap.size := lt_of_cell (h.c 0 hn)
theorem Blk.put {w : World} {g n : Nat} {F : Nat → Value} (h : Blk w g n F) (i : Nat) (v : Value) : Blk (w.setCell ⟨g, i, none⟩ v) g n (fun x => if x = i then v else F x) := by
  refine ⟨fun j hj => ?_, fun j => by rw [World.frozen?_setCell]; exact h.z j⟩
  by_cases e : j = i
  · subst e
    simp only [if_pos]
    exact World.cell?_setCell_same' _ _ _ (by rw [h.c j hj]; rfl)
  · simp only [if_neg e]
    rw [World.cell?_setCell_other _ _ _ _ (by intro he; injection he with h1 h2; exact e h2.symm)]
    exact h.c j hj
theorem Blk.congr {w : World} {g n : Nat} {F F' : Nat → Value} (h : Blk w g n F) (e : ∀ j, j < n → F' j = F j) : Blk w g n F' := ⟨fun j hj => by rw [e j hj]; exact h.c j hj, h.z⟩
theorem Blk.new (w : World) (xs : Array Value) (t : TypeId) : Blk (w.alloc (.cells xs t)) w.heap.size xs.size (fun j => xs.getD j .nilFunc) := by
  refine ⟨fun j hj => ?_, fun j => World.frozen?_alloc_at _ _ _ _ rfl⟩
  rw [World.cell?_alloc_at _ _ _ _ rfl]
  simp [hj]

/-- An entry's five cells. -/
def enc5 (e : En) : List Value := [.bool e.live, .int .i64 e.hash, .int .i64 e.key, .int .i64 e.value, .int .i64 e.birth]
def enl : List En → List Value
  | [] => []
  | e :: r => enc5 e ++ enl r
theorem enl_len (es : List En) : (enl es).length = es.length * 5 := by
  induction es with
  | nil => rfl
  | cons e r ih => rw [enl, List.length_append, ih, List.length_cons]; simp [enc5]; omega
theorem enl_app (a b : List En) : enl (a ++ b) = enl a ++ enl b := by
  induction a with
  | nil => rfl
  | cons e r ih => rw [List.cons_append, enl, enl, ih, List.append_assoc]
theorem enl_get (es : List En) (n k : Nat) (hn : n < es.length) (hk : k < 5) : (enl es)[n * 5 + k]? = (enc5 (nth es n))[k]? := by
  induction es generalizing n with
  | nil => simp at hn
  | cons e r ih =>
    match n, hn with
    | 0, _ =>
      rw [enl, Nat.zero_mul, Nat.zero_add, List.getElem?_append_left (by simp [enc5]; omega)]
      simp [nth]
    | n + 1, hn =>
      rw [enl, List.getElem?_append_right (by simp [enc5]; omega), show (n + 1) * 5 + k - (enc5 e).length = n * 5 + k by simp [enc5]; omega, ih n (by simpa using hn)]
      simp [nth]
theorem enl_one (es : List En) : ∀ u ∈ enl es, u.oneCell' = true := by
  induction es with
  | nil => intro u hu; simp [enl] at hu
  | cons e r ih =>
    intro u hu
    rw [enl, List.mem_append] at hu
    rcases hu with h | h
    · simp [enc5] at h
      rcases h with rfl | rfl | rfl | rfl | rfl <;> rfl
    · exact ih u h
/-- Entries in a row of their own. -/
def Es (w : World) (v : Value) (es : List En) : Prop := w.ownsRow 0 312 5 v es.length (enl es)
theorem Es.nil (w : World) : Es w (.slice none 0 0) [] := ⟨rfl, Or.inl ⟨rfl, rfl⟩⟩
/-- A row of entries, laid open. -/
structure Ro (w : World) (ge len cap : Nat) (es : List En) : Prop where
  le : len ≤ cap
  c0 : ∀ n, n < len → w.cell? ⟨ge, n * 5, none⟩ = some (.bool (nth es n).live)
  c1 : ∀ n, n < len → w.cell? ⟨ge, n * 5 + 1, none⟩ = some (.int .i64 (nth es n).hash)
  c2 : ∀ n, n < len → w.cell? ⟨ge, n * 5 + 2, none⟩ = some (.int .i64 (nth es n).key)
  c3 : ∀ n, n < len → w.cell? ⟨ge, n * 5 + 3, none⟩ = some (.int .i64 (nth es n).value)
  c4 : ∀ n, n < len → w.cell? ⟨ge, n * 5 + 4, none⟩ = some (.int .i64 (nth es n).birth)
theorem Es.open {w : World} {v : Value} {es : List En} (h : Es w v es) : ∃ a cap ge, v = .slice a es.length cap ∧ (0 < es.length → a = some ⟨ge, 0, none⟩ ∧ v.ownBlock = some ge ∧ (∀ j, w.frozen? ⟨ge, j, none⟩ = false)) ∧ Ro w ge es.length cap es := by
  have h0 : w.ownsRow 0 312 5 v es.length (enl es) := h
  rcases h0.2 with ⟨rfl, h1⟩ | ⟨g, cap, cur, rfl, hg, hh, hc, _⟩
  · exact ⟨none, 0, 0, by rw [h1], fun h => by omega, by omega, fun n h => by omega, fun n h => by omega, fun n h => by omega, fun n h => by omega, fun n h => by omega⟩
  · have key : ∀ n k, n < es.length → k < 5 → w.cell? ⟨g, n * 5 + k, none⟩ = (enc5 (nth es n))[k]? := fun n k hn hk => by
      rw [h0.cellAt _ (by omega), enl_get _ _ _ hn hk]
    exact ⟨_, cap, g, rfl, fun _ => ⟨rfl, rfl, fun j => h0.frozenAt j⟩, hc, fun n hn => key n 0 hn (by omega), fun n hn => key n 1 hn (by omega), fun n hn => key n 2 hn (by omega), fun n hn => key n 3 hn (by omega), fun n hn => key n 4 hn (by omega)⟩
theorem Es.same {w w' : World} {v : Value} {es : List En} (h : Es w v es) (e : ∀ k, v.ownBlock = some k → w'.heap[k]? = w.heap[k]?) : Es w' v es := by
  refine ⟨h.1, ?_⟩
  rcases h.2 with h0 | ⟨g, cap, cur, rfl, h1, h2, h3⟩
  · exact .inl h0
  · exact .inr ⟨g, cap, cur, rfl, h1, (e g rfl).trans h2, h3⟩
theorem Es.lt {w : World} {v : Value} {es : List En} (h : Es w v es) : ∀ k, v.ownBlock = some k → k < w.heap.size := fun k hk => (World.ownsRow.lt h k hk).2
/-- The block of a pointer. -/
def mB (mv : Value) (k : Nat) : Prop := mv = .pointer (some ⟨k, 0, none⟩)
/-- All blocks but those of X are as they were. -/
structure Ex (X : Nat → Prop) (w w' : World) : Prop where
  os : w'.os = w.os
  tape : w'.tape = w.tape
  output : w'.output = w.output
  size : w.heap.size ≤ w'.heap.size
  block : ∀ k, k < w.heap.size → ¬ X k → w'.heap[k]? = w.heap[k]?
theorem Ex.refl (X : Nat → Prop) (w : World) : Ex X w w := ⟨rfl, rfl, rfl, Nat.le_refl _, fun _ _ _ => rfl⟩
theorem Ex.trans {X : Nat → Prop} {a b c : World} (x : Ex X a b) (y : Ex X b c) : Ex X a c :=
  ⟨y.os.trans x.os, y.tape.trans x.tape, y.output.trans x.output, Nat.le_trans x.size y.size, fun i hi h => (y.block i (Nat.lt_of_lt_of_le hi x.size) h).trans (x.block i hi h)⟩
/-- Behind a first step, what is new may be turned, too. -/
theorem Ex.next {X Y : Nat → Prop} {a b c : World} (x : Ex X a b) (y : Ex Y b c) (h : ∀ k, k < a.heap.size → Y k → X k) : Ex X a c :=
  ⟨y.os.trans x.os, y.tape.trans x.tape, y.output.trans x.output, Nat.le_trans x.size y.size, fun i hi hx => (y.block i (Nat.lt_of_lt_of_le hi x.size) (fun hy => hx (h i hi hy))).trans (x.block i hi hx)⟩
theorem Ex.mono {X Y : Nat → Prop} {a b : World} (x : Ex X a b) (h : ∀ k, k < a.heap.size → X k → Y k) : Ex Y a b := ⟨x.os, x.tape, x.output, x.size, fun i hi hy => x.block i hi (fun hx => hy (h i hi hx))⟩
theorem ex_of {X : Nat → Prop} {w w' : World} (x : Below w.heap.size w w') : Ex X w w' := ⟨x.os, x.tape, x.output, x.size, fun k hk _ => x.block k hk⟩
theorem Ex.drew {X : Nat → Prop} {a w : World} (x : Ex X a w) : Ex X a w.drew := ⟨x.os, x.tape, x.output, x.size, x.block⟩
theorem Ex.alloc {X : Nat → Prop} {a w : World} (x : Ex X a w) (o : Obj) : Ex X a (w.alloc o) := x.next (Y := fun _ => False) (ex_of ((Below.refl _ w).alloc (Nat.le_refl _) o)) (fun _ _ h => h.elim)
theorem Ex.setCell {X : Nat → Prop} {a w : World} (x : Ex X a w) {p : Addr} (h : p.block < a.heap.size → X p.block) (v : Value) : Ex X a (w.setCell p v) :=
  ⟨x.os, x.tape, x.output, by simpa [World.setCell] using x.size, fun k hk hx => (Below.heap_setCell _ _ _ _ (fun e => hx (by subst e; exact h hk))).trans (x.block k hk hx)⟩
theorem Ex.below {X : Nat → Prop} {B : Nat} {w w' : World} (x : Ex X w w') (h : ∀ k, X k → B ≤ k) (hB : B ≤ w.heap.size) : Below B w w' :=
  ⟨x.os, x.tape, x.output, x.size, fun k hk => x.block k (by omega) (fun hx => by have := h k hx; omega)⟩
theorem But.ex {g : Nat} {w w' : World} (x : But g w w') : Ex (fun k => k = g) w w' := ⟨x.os, x.tape, x.output, x.size, fun k hk h => x.block k hk h⟩
theorem Tryz.infoEn : (Tryz.prog.info? 312).map (fun i => (i.zero, i.size, i.bytes)) = some (some (.agg #[.bool false, .int .i64 0, .int .i64 0, .int .i64 0, .int .i64 0]), 5, 40) := by kernel_rfl
theorem new_five (w : World) (e : En) (t : TypeId) : ∀ j u, (enc5 e)[j]? = some u → (w.alloc (.cells #[.bool e.live, .int .i64 e.hash, .int .i64 e.key, .int .i64 e.value, .int .i64 e.birth] t)).cell? (Addr.add ⟨w.heap.size, 0, none⟩ j) = some u := by
  intro j u hj
  rw [WideShapes.add_plain, World.cell?_alloc_at _ _ _ _ rfl]
  simpa [enc5] using hj
/-- Entries in a row that was made from block B on. -/
def EsB (B : Nat) (w : World) (v : Value) (es : List En) : Prop := w.ownsRow B 312 5 v es.length (enl es)
theorem EsB.es {B : Nat} {w : World} {v : Value} {es : List En} (h : EsB B w v es) : Es w v es := by
  refine ⟨h.1, ?_⟩
  rcases h.2 with h0 | ⟨g, cap, cur, e, h1, h2⟩
  · exact .inl h0
  · exact .inr ⟨g, cap, cur, e, Nat.zero_le _, h2⟩
theorem EsB.ge {B : Nat} {w : World} {v : Value} {es : List En} (h : EsB B w v es) : ∀ k, v.ownBlock = some k → B ≤ k := fun k hk => (World.ownsRow.lt h k hk).1
theorem EsB.snoc {B : Nat} {w : World} {v : Value} {es : List En} {e : En} (h : w.ownsRow B 312 5 v (es.length + 1) (enl es ++ enc5 e)) : EsB B w v (es ++ [e]) := by
  unfold EsB
  rw [enl_app, List.length_append]
  simpa [enl] using h
theorem below_grown5 {B n : Nat} {w wr w1 : World} {v : Value} {xs : List Value} {o : Obj} {t : TypeId} (hb : Below B w wr) (hB : B ≤ w.heap.size) (hown : wr.ownsRow B t 5 v n xs) (hg : (wr.alloc o).grownBy w1 v.ownBlock) : Below B w w1 := by
  refine (hb.alloc (Nat.le_trans hB hb.size) o).grown hg (by simp; have := hb.size; omega) (fun k e => ?_)
  exact (hown.lt k e).1
theorem Blk.of {w : World} {g n : Nat} {F : Nat → Value} (h : Blk w g n F) {w' : World} (hb : Below w.heap.size w w') (hn : 0 < n) : Blk w' g n F := h.same (hb.block g (h.lt hn))
/-- What a new table is. -/
def Tb.new : Tb := ⟨[], 3, fun _ => -1, 0, 1, 0⟩
theorem Tb.new_ok : Tb.new.Ok := ⟨Inv.nil 3, by show 3 ≤ 3 ∧ 3 ≤ 20; omega, Nat.le_refl _, by show 0 ≤ 100000; omega⟩
end Go.Proofs.YtjkpailkamafcaaGreatDoor
