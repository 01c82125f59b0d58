/-
  A reader in memory.
-/
import Derived.Test.YtgillafjccgkdaaDoorRows
import Derived.Test.YtgillafjccgkdaaDoorLxMath
import Derived.WalkKit
import Derived.Below
import Derived.LoopTactic
import Derived.Deep.RegionLaw
import Derived.Deep.LoopGhost
import Derived.Maps.AppendAt
import Derived.Laws.AppendOwn
import Derived.Laws.CopyOwn
import Derived.Lib.Hide
namespace Go.Proofs.YtgillafjccgkdaaDoor
open Go.RowKit Go.WideShapes
namespace Lx

theorem lt_of_cell {w : World} {b o : Nat} {v : Value} (h : w.cell? ⟨b, o, none⟩ = some v) : b < w.heap.size := by
  unfold World.cell? at h
  split at h
  · rename_i c e f hb
    exact (Array.getElem?_eq_some_iff.1 hb).1
  · cases h
theorem i64_small {x : Int} (h0 : -9223372036854775808 ≤ x) (h1 : x < 9223372036854775808) : IntKind.i64.wrap x = x := by rw [IntKind.wrap_i64]; omega
/-- A block of n cells that may be written. -/
structure Blk (w : World) (g n : Nat) (F : Nat → Value) : Prop where
  c : ∀ j, j < n → w.cell? ⟨g, j, none⟩ = some (F j)
  z : ∀ j, w.frozen? ⟨g, j, none⟩ = false
theorem Blk.same {w w' : World} {g n : Nat} {F : Nat → Value} (h : Blk w g n F) (e : w'.heap[g]? = w.heap[g]?) : Blk w' g n F :=
  ⟨fun j hj => (World.cell?_of_block (a := ⟨g, j, none⟩) e).trans (h.c j hj), fun j => (World.frozen?_of_block (a := ⟨g, j, none⟩) e).trans (h.z j)⟩
theorem Blk.lt {w : World} {g n : Nat} {F : Nat → Value} (h : Blk w g n F) (hn : 0 < n) : g < w.heap.size := lt_of_cell (h.c 0 hn)
theorem Blk.put {w : World} {g n : Nat} {F : Nat → Value} (h : Blk w g n F) (i : Nat) (v : Value) : Blk (w.setCell ⟨g, i, none⟩ v) g n (fun x => if x = i then v else F x) := by
  refine ⟨fun j hj => ?_, fun j => by rw [World.frozen?_setCell]; exact h.z j⟩
  by_cases e : j = i
  · subst e
    simp only [if_pos]
    exact World.cell?_setCell_same' _ _ _ (by rw [h.c j hj]; rfl)
  · simp only [if_neg e]
    rw [World.cell?_setCell_other _ _ _ _ (by intro he; injection he with h1 h2; exact e h2.symm)]
    exact h.c j hj
theorem Blk.congr {w : World} {g n : Nat} {F F' : Nat → Value} (h : Blk w g n F) (e : ∀ j, j < n → F' j = F j) : Blk w g n F' := ⟨fun j hj => by rw [e j hj]; exact h.c j hj, h.z⟩
theorem Blk.new (w : World) (xs : Array Value) (t : TypeId) : Blk (w.alloc (.cells xs t)) w.heap.size xs.size (fun j => xs.getD j .nilFunc) := by
  refine ⟨fun j hj => ?_, fun j => World.frozen?_alloc_at _ _ _ _ rfl⟩
  rw [World.cell?_alloc_at _ _ _ _ rfl]
  simp [hj]
theorem setCell_blk {w : World} {g j k : Nat} {v : Value} (h : k ≠ g) : (w.setCell ⟨g, j, none⟩ v).heap[k]? = w.heap[k]? := Below.heap_setCell _ _ _ _ h
/-- append onto a row of one's own, as one step of a region that draws. -/
theorem stepS_append_own {P : Program} {ops : Array Oper} {o : Oper} {a : Act} {w : World} {K : Act → World → Prop} {Q : Exit → Act → World → Prop} {E : Prop} (hgd : o.guard = none) (s x : Operand) (t : TypeId)
    (ho : o.op = .call { callee := .builtin .append, args := #[s, x], argTypes := #[t, t] })
    (base : Nat) (e : TypeId) (i : TypeInfo) (z : Value) (size bytes : Nat) (ht : P.underlying t = some (.slice e)) (hi : P.info? e = some i) (hz : i.zero = some z)
    (hsize : i.size = size) (hby : i.bytes = bytes) (hzs : z.cells.size = size) (hsz : 0 < size)
    (v : Value) (n : Nat) (xs : List Value) (hs : a.eval s = v) (hown : w.ownsRow base e size v n xs)
    (ad : Addr) (m c : Nat) (news : List Value) (hx : a.eval x = .slice (some ad) m c) (hl : news.length = m * size) (hnews : ∀ j u, news[j]? = some u → w.cell? (ad.add j) = some u) (h1 : ∀ u ∈ news, u.oneCell' = true)
    (h63 : n + m ≤ maxLen) (hbytes : (n + m) * bytes ≤ 140737488355328) (hbase : base ≤ w.heap.size)
    (h : ∀ v' w', w'.ownsRow base e size v' (n + m) (xs ++ news) → w.grownBy w' v.ownBlock → (v'.ownBlock = v.ownBlock ∨ v'.ownBlock = some w.heap.size) → K (a.put o.dst v') w') :
    if Region.wanted o (yielded ops a.tmps) = true then Oper.wp P o a w K Q else E := by
  have hw : Region.wanted o (yielded ops a.tmps) = true := by simp [Region.wanted, hgd]
  rw [if_pos hw]
  obtain ⟨v', w', hr, h2, h3, _, h5⟩ := run_append_own_at (P := P) w base t o.type e i z size bytes ht hi hz hsize hby hzs hsz v n xs hown ad m c news hl hnews h1 h63 hbytes hbase
  unfold Oper.wp execOp
  simp only [ho, resolve, invoke, builtin, Sem.run_bind, Sem.run_pure, Result.andThen_ok, List.map_toArray, List.map_cons, List.map_nil, hs, hx, hr]
  exact h v' w' h2 h3 h5
theorem wpListS_append_own {P : Program} {ops : Array Oper} {rest : List Oper} {o : Oper} {a : Act} {w : World} {Q : Exit → Act → World → Prop} (hgd : o.guard = none) (s x : Operand) (t : TypeId)
    (ho : o.op = .call { callee := .builtin .append, args := #[s, x], argTypes := #[t, t] })
    (base : Nat) (e : TypeId) (i : TypeInfo) (z : Value) (size bytes : Nat) (ht : P.underlying t = some (.slice e)) (hi : P.info? e = some i) (hz : i.zero = some z)
    (hsize : i.size = size) (hby : i.bytes = bytes) (hzs : z.cells.size = size) (hsz : 0 < size)
    (v : Value) (n : Nat) (xs : List Value) (hs : a.eval s = v) (hown : w.ownsRow base e size v n xs)
    (ad : Addr) (m c : Nat) (news : List Value) (hx : a.eval x = .slice (some ad) m c) (hl : news.length = m * size) (hnews : ∀ j u, news[j]? = some u → w.cell? (ad.add j) = some u) (h1 : ∀ u ∈ news, u.oneCell' = true)
    (h63 : n + m ≤ maxLen) (hbytes : (n + m) * bytes ≤ 140737488355328) (hbase : base ≤ w.heap.size)
    (h : ∀ v' w', w'.ownsRow base e size v' (n + m) (xs ++ news) → w.grownBy w' v.ownBlock → (v'.ownBlock = v.ownBlock ∨ v'.ownBlock = some w.heap.size) → wpList P ops Q rest (a.put o.dst v') w') : wpList P ops Q (o :: rest) a w := by
  refine wpList_plain hgd fun K hK => ?_
  obtain ⟨v', w', hr, h2, h3, _, h5⟩ := run_append_own_at (P := P) w base t o.type e i z size bytes ht hi hz hsize hby hzs hsz v n xs hown ad m c news hl hnews h1 h63 hbytes hbase
  unfold Oper.wp execOp
  simp only [ho, resolve, invoke, builtin, Sem.run_bind, Sem.run_pure, Result.andThen_ok, List.map_toArray, List.map_cons, List.map_nil, hs, hx, hr]
  exact hK _ _ (h v' w' h2 h3 h5)
theorem ownsS_shape {w : World} {B : Nat} {e : TypeId} {size n : Nat} {v : Value} {xs : List Value} (h : w.ownsRow B e size v n xs) : ∃ a cap, v = .slice a n cap := by
  rcases h.2 with ⟨rfl, rfl⟩ | ⟨g, cap, cur, rfl, _⟩
  · exact ⟨_, _, rfl⟩
  · exact ⟨_, _, rfl⟩
theorem ownsS_some {w : World} {B : Nat} {e : TypeId} {size n : Nat} {v : Value} {xs : List Value} (h : w.ownsRow B e size v n xs) (hn : 0 < n) : ∃ g cap, v = .slice (some ⟨g, 0, none⟩) n cap ∧ g < w.heap.size ∧ n ≤ cap ∧ B ≤ g := by
  rcases h.2 with ⟨rfl, rfl⟩ | ⟨g, cap, cur, rfl, hB, hh, hc, _⟩
  · omega
  · exact ⟨g, cap, rfl, (Array.getElem?_eq_some_iff.1 hh).1, hc, hB⟩
theorem ownsS_base {w : World} {B : Nat} {e : TypeId} {size n : Nat} {v : Value} {xs : List Value} (h : w.ownsRow B e size v n xs) : ∀ k, v.ownBlock = some k → B ≤ k ∧ k < w.heap.size := by
  intro k hk
  rcases h.2 with ⟨rfl, rfl⟩ | ⟨g, cap, cur, rfl, hB, hh, hc, _⟩
  · cases hk
  · injection hk with hk
    have hk : g = k := hk
    subst hk
    exact ⟨hB, (Array.getElem?_eq_some_iff.1 hh).1⟩
theorem ownsS_same {w w' : World} {B : Nat} {e : TypeId} {size n : Nat} {v : Value} {xs : List Value} (h : w.ownsRow B e size v n xs) (he : ∀ k, v.ownBlock = some k → w'.heap[k]? = w.heap[k]?) : w'.ownsRow B e size v n xs := by
  refine ⟨h.1, ?_⟩
  rcases h.2 with h0 | ⟨g, cap, cur, rfl, h1, h2, h3⟩
  · exact .inl h0
  · exact .inr ⟨g, cap, cur, rfl, h1, (he g rfl).trans h2, h3⟩
/-- Fewer of a row. -/
theorem ownsS_cut {w : World} {B : Nat} {e : TypeId} {size n cap g : Nat} {xs : List Value} (h : w.ownsRow B e size (.slice (some ⟨g, 0, none⟩) n cap) n xs) (m : Nat) (hm : m ≤ n) : w.ownsRow B e size (.slice (some ⟨g, 0, none⟩) m cap) m (xs.take (m * size)) := by
  rcases h.2 with ⟨e, _⟩ | ⟨g', cap', cur, e, h1, h2, h3, h4, h5, h6⟩
  · cases e
  cases e
  have hms : m * size ≤ n * size := Nat.mul_le_mul_right _ hm
  refine ⟨by rw [List.length_take, h.1]; omega, .inr ⟨g, cap, cur, rfl, h1, h2, by omega, h4, h5, ?_⟩⟩
  rw [← h6, List.take_take, Nat.min_eq_left hms]
theorem pl_add (b off q : Nat) : (⟨b, off, none⟩ : Addr).add q = ⟨b, off + q, none⟩ := by
  unfold Addr.add
  split <;> simp_all
theorem ownsS_cell {w : World} {B : Nat} {e : TypeId} {size n cap g : Nat} {xs : List Value} (h : w.ownsRow B e size (.slice (some ⟨g, 0, none⟩) n cap) n xs) (j : Nat) (u : Value) (hj : xs[j]? = some u) : w.cell? ⟨g, j, none⟩ = some u := by
  have := h.cells (g := g) rfl j u hj
  rw [pl_add, Nat.zero_add] at this
  exact this

/-- A token's cells. -/
def tkC (t : Tok) : List Value := [.int .i64 (t.kind : Int), .string ⟨t.text.toArray⟩, .int .i64 (t.at_ : Int)]
def tkl (ts : List Tok) : List Value := ts.flatMap tkC
theorem tkl_len (ts : List Tok) : (tkl ts).length = ts.length * 3 := by
  induction ts with
  | nil => rfl
  | cons t r ih => rw [tkl, List.flatMap_cons, List.length_append]; have : (List.flatMap tkC r).length = r.length * 3 := ih; rw [this, List.length_cons]; simp [tkC]; omega
theorem tkl_app (a : List Tok) (t : Tok) : tkl (a ++ [t]) = tkl a ++ tkC t := by simp [tkl]
theorem tkC_one (t : Tok) : ∀ u ∈ tkC t, u.oneCell' = true := by
  intro u hu
  simp [tkC] at hu
  rcases hu with rfl | rfl | rfl <;> rfl
theorem tkl_get (ts : List Tok) (n k : Nat) (t : Tok) (hn : ts[n]? = some t) (hk : k < 3) : (tkl ts)[n * 3 + k]? = (tkC t)[k]? := by
  induction ts generalizing n with
  | nil => simp at hn
  | cons e r ih =>
    rw [tkl, List.flatMap_cons]
    match n, hn with
    | 0, hn =>
      simp at hn
      subst hn
      rw [List.getElem?_append_left (by simp [tkC]; omega)]
      simp
    | n + 1, hn =>
      rw [List.getElem?_append_right (by simp [tkC]; omega), show (n + 1) * 3 + k - (tkC e).length = n * 3 + k by simp [tkC]; omega]
      exact ih n (by simpa using hn)
def bsl (bs : List Nat) : List Value := bs.reverse.map fun x : Nat => Value.int .i64 (x : Int)
theorem bsl_len (bs : List Nat) : (bsl bs).length = bs.length * 1 := by simp [bsl]
theorem bsl_cons (d : Nat) (r : List Nat) : bsl (d :: r) = bsl r ++ [.int .i64 (d : Int)] := by simp [bsl]
theorem bsl_take (d : Nat) (r : List Nat) : (bsl (d :: r)).take (r.length * 1) = bsl r := by
  rw [bsl_cons, List.take_append_of_le_length (by rw [bsl_len]; omega), List.take_of_length_le (by rw [bsl_len]; omega)]
theorem bsl_top (d : Nat) (r : List Nat) : (bsl (d :: r))[r.length]? = some (.int .i64 (d : Int)) := by
  rw [bsl_cons, List.getElem?_append_right (by rw [bsl_len]; omega), bsl_len]
  simp

theorem Tryd.infoN : (Tryd.prog.info? 3).map (fun i => (i.zero, i.size, i.bytes)) = some (some (.int .i64 0), 1, 8) := by kernel_rfl
theorem Tryd.infoT : (Tryd.prog.info? 29).map (fun i => (i.zero, i.size, i.bytes)) = some (some (.agg #[.int .i64 0, .string ⟨#[]⟩, .int .i64 0]), 3, 32) := by kernel_rfl
theorem info_parts {t : TypeId} {z : Value} {s b : Nat} (h : (Tryd.prog.info? t).map (fun i => (i.zero, i.size, i.bytes)) = some (some z, s, b)) : ∃ i, Tryd.prog.info? t = some i ∧ i.zero = some z ∧ i.size = s ∧ i.bytes = b := by
  cases hi : Tryd.prog.info? t with
  | none => rw [hi] at h; cases h
  | some i => rw [hi] at h; simp at h; exact ⟨i, rfl, h.1, h.2.1, h.2.2⟩

/-- A reader's cells. -/
def rF (src : ByteArray) (s : St) (bv tv : Value) : Nat → Value
  | 0 => .string src
  | 1 => .int .i64 (s.at_ : Int)
  | 2 => .int .i64 (s.opn : Int)
  | 3 => bv
  | 4 => tv
  | _ => .nilFunc
structure Rd (B : Nat) (w : World) (g : Nat) (src : ByteArray) (s : St) (bv tv : Value) : Prop where
  lo : B ≤ g
  b : Blk w g 5 (rF src s bv tv)
  bo : w.ownsRow B 3 1 bv s.bs.length (bsl s.bs)
  to : w.ownsRow B 29 3 tv s.ts.length (tkl s.ts)
  bg : bv.ownBlock ≠ some g
  tg : tv.ownBlock ≠ some g
  bt : ∀ k, bv.ownBlock = some k → tv.ownBlock ≠ some k
theorem Rd.lt {B : Nat} {w : World} {g : Nat} {src : ByteArray} {s : St} {bv tv : Value} (h : Rd B w g src s bv tv) : g < w.heap.size := h.b.lt (by omega)
theorem Rd.below {B : Nat} {w w' : World} {g : Nat} {src : ByteArray} {s : St} {bv tv : Value} (h : Rd B w g src s bv tv) (hb : Below w.heap.size w w') : Rd B w' g src s bv tv :=
  ⟨h.lo, h.b.same (hb.block g h.lt), ownsS_same h.bo (fun k hk => hb.block k (ownsS_base h.bo k hk).2), ownsS_same h.to (fun k hk => hb.block k (ownsS_base h.to k hk).2), h.bg, h.tg, h.bt⟩
theorem Rd.drew {B : Nat} {w : World} {g : Nat} {src : ByteArray} {s : St} {bv tv : Value} (h : Rd B w g src s bv tv) : Rd B w.drew g src s bv tv := h.below (Below.refl _ w).drew
theorem Rd.c0 {B : Nat} {w : World} {g : Nat} {src : ByteArray} {s : St} {bv tv : Value} (h : Rd B w g src s bv tv) : w.cell? ⟨g, 0, none⟩ = some (.string src) := h.b.c 0 (by omega)
theorem Rd.c1 {B : Nat} {w : World} {g : Nat} {src : ByteArray} {s : St} {bv tv : Value} (h : Rd B w g src s bv tv) : w.cell? ⟨g, 1, none⟩ = some (.int .i64 (s.at_ : Int)) := h.b.c 1 (by omega)
theorem Rd.c2 {B : Nat} {w : World} {g : Nat} {src : ByteArray} {s : St} {bv tv : Value} (h : Rd B w g src s bv tv) : w.cell? ⟨g, 2, none⟩ = some (.int .i64 (s.opn : Int)) := h.b.c 2 (by omega)
theorem Rd.c3 {B : Nat} {w : World} {g : Nat} {src : ByteArray} {s : St} {bv tv : Value} (h : Rd B w g src s bv tv) : w.cell? ⟨g, 3, none⟩ = some bv := h.b.c 3 (by omega)
theorem Rd.c4 {B : Nat} {w : World} {g : Nat} {src : ByteArray} {s : St} {bv tv : Value} (h : Rd B w g src s bv tv) : w.cell? ⟨g, 4, none⟩ = some tv := h.b.c 4 (by omega)
/-- The place alone, or the brackets alone, is written. -/
theorem Rd.at_ {B : Nat} {w : World} {g : Nat} {src : ByteArray} {s : St} {bv tv : Value} (h : Rd B w g src s bv tv) (a : Nat) : Rd B (w.setCell ⟨g, 1, none⟩ (.int .i64 (a : Int))) g src { s with at_ := a } bv tv :=
  ⟨h.lo, (h.b.put 1 _).congr (fun j hj => by rcases (by omega : j = 0 ∨ j = 1 ∨ j = 2 ∨ j = 3 ∨ j = 4) with rfl | rfl | rfl | rfl | rfl <;> rfl),
    ownsS_same h.bo (fun k hk => setCell_blk (fun e => h.bg (by rw [hk, e]))), ownsS_same h.to (fun k hk => setCell_blk (fun e => h.tg (by rw [hk, e]))), h.bg, h.tg, h.bt⟩
theorem Rd.opn {B : Nat} {w : World} {g : Nat} {src : ByteArray} {s : St} {bv tv : Value} (h : Rd B w g src s bv tv) (a : Nat) : Rd B (w.setCell ⟨g, 2, none⟩ (.int .i64 (a : Int))) g src { s with opn := a } bv tv :=
  ⟨h.lo, (h.b.put 2 _).congr (fun j hj => by rcases (by omega : j = 0 ∨ j = 1 ∨ j = 2 ∨ j = 3 ∨ j = 4) with rfl | rfl | rfl | rfl | rfl <;> rfl),
    ownsS_same h.bo (fun k hk => setCell_blk (fun e => h.bg (by rw [hk, e]))), ownsS_same h.to (fun k hk => setCell_blk (fun e => h.tg (by rw [hk, e]))), h.bg, h.tg, h.bt⟩
/-- A block less. -/
theorem Rd.cut {B : Nat} {w : World} {g gb cap d : Nat} {r : List Nat} {src : ByteArray} {s : St} {tv : Value} (hs : s.bs = d :: r) (h : Rd B w g src s (.slice (some ⟨gb, 0, none⟩) s.bs.length cap) tv) :
    Rd B (w.setCell ⟨g, 3, none⟩ (.slice (some ⟨gb, 0, none⟩) r.length cap)) g src { s with bs := r } (.slice (some ⟨gb, 0, none⟩) r.length cap) tv := by
  have hb := ownsS_cut h.bo r.length (by rw [hs]; simp)
  rw [hs, bsl_take] at hb
  exact ⟨h.lo, (h.b.put 3 _).congr (fun j hj => by rcases (by omega : j = 0 ∨ j = 1 ∨ j = 2 ∨ j = 3 ∨ j = 4) with rfl | rfl | rfl | rfl | rfl <;> rfl),
    ownsS_same hb (fun k hk => setCell_blk (fun e => h.bg (by injection hk with hk; rw [← e, ← hk]; rfl))), ownsS_same h.to (fun k hk => setCell_blk (fun e => h.tg (by rw [hk, e]))), (fun e => h.bg e), h.tg, (fun k hk => h.bt k hk)⟩
/-- A token more. -/
theorem Rd.tok {B : Nat} {w w5 : World} {g : Nat} {src : ByteArray} {s : St} {bv tv tv' : Value} {t : Tok} {o : Obj} (h : Rd B w g src s bv tv) (hown : w5.ownsRow B 29 3 tv' (s.ts.length + 1) (tkl s.ts ++ tkC t))
    (hg : (w.alloc o).grownBy w5 tv.ownBlock) (hat : tv'.ownBlock = tv.ownBlock ∨ tv'.ownBlock = some (w.alloc o).heap.size) :
    Rd B (w5.setCell ⟨g, 4, none⟩ tv') g src { s with ts := s.ts ++ [t] } bv tv' ∧ Below B w (w5.setCell ⟨g, 4, none⟩ tv') := by
  have hlg := h.lt
  have hsz : (w.alloc o).heap.size = w.heap.size + 1 := by simp
  have hkeep : ∀ k, k < w.heap.size → tv.ownBlock ≠ some k → w5.heap[k]? = w.heap[k]? := fun k hk hn => (hg.block k (by omega) (fun e => hn e.symm)).trans (Below.heap_alloc _ _ _ hk)
  have hne : tv'.ownBlock ≠ some g := by
    rcases hat with e | e
    · rw [e]; exact h.tg
    · rw [e, hsz]; intro e; injection e with e; omega
  have hbk : ∀ k, bv.ownBlock = some k → w5.heap[k]? = w.heap[k]? := fun k hk => hkeep k (ownsS_base h.bo k hk).2 (h.bt k hk)
  refine ⟨⟨h.lo, ((h.b.same (hkeep g hlg h.tg)).put 4 _).congr (fun j hj => by rcases (by omega : j = 0 ∨ j = 1 ∨ j = 2 ∨ j = 3 ∨ j = 4) with rfl | rfl | rfl | rfl | rfl <;> rfl), ?_, ?_, h.bg, hne, fun k hk => ?_⟩, ?_⟩
  · exact ownsS_same (ownsS_same h.bo hbk) (fun k hk => setCell_blk (fun e => h.bg (by rw [hk, e])))
  · have h1 : w5.ownsRow B 29 3 tv' (s.ts ++ [t]).length (tkl (s.ts ++ [t])) := by rw [tkl_app, List.length_append]; exact hown
    exact ownsS_same h1 (fun k hk => setCell_blk (fun e => hne (by rw [hk, e])))
  · rcases hat with e | e
    · rw [e]; exact h.bt k hk
    · rw [e, hsz]
      intro e
      injection e with e
      have := (ownsS_base h.bo k hk).2
      omega
  · refine Below.setCell (p := ⟨g, 4, none⟩) ?_ h.lo _
    refine Below.grown (w := w.alloc o) (Below.alloc (Below.refl _ _) (Nat.le_trans h.lo (Nat.le_of_lt hlg)) _) hg (by rw [hsz]; have := h.lo; omega) (fun k hk => (ownsS_base h.to k hk).1)
/-- A block more. -/
theorem Rd.blk {B : Nat} {w w5 : World} {g d : Nat} {src : ByteArray} {s : St} {bv bv' tv : Value} {o : Obj} (h : Rd B w g src s bv tv) (hown : w5.ownsRow B 3 1 bv' (s.bs.length + 1) (bsl s.bs ++ [.int .i64 (d : Int)]))
    (hg : (w.alloc o).grownBy w5 bv.ownBlock) (hat : bv'.ownBlock = bv.ownBlock ∨ bv'.ownBlock = some (w.alloc o).heap.size) :
    Rd B (w5.setCell ⟨g, 3, none⟩ bv') g src { s with bs := d :: s.bs } bv' tv ∧ Below B w (w5.setCell ⟨g, 3, none⟩ bv') := by
  have hlg := h.lt
  have hsz : (w.alloc o).heap.size = w.heap.size + 1 := by simp
  have hkeep : ∀ k, k < w.heap.size → bv.ownBlock ≠ some k → w5.heap[k]? = w.heap[k]? := fun k hk hn => (hg.block k (by omega) (fun e => hn e.symm)).trans (Below.heap_alloc _ _ _ hk)
  have hne : bv'.ownBlock ≠ some g := by
    rcases hat with e | e
    · rw [e]; exact h.bg
    · rw [e, hsz]; intro e; injection e with e; omega
  have hbk : ∀ k, tv.ownBlock = some k → w5.heap[k]? = w.heap[k]? := fun k hk => hkeep k (ownsS_base h.to k hk).2 (fun e => h.bt k e hk)
  refine ⟨⟨h.lo, ((h.b.same (hkeep g hlg h.bg)).put 3 _).congr (fun j hj => by rcases (by omega : j = 0 ∨ j = 1 ∨ j = 2 ∨ j = 3 ∨ j = 4) with rfl | rfl | rfl | rfl | rfl <;> rfl), ?_, ?_, hne, h.tg, fun k hk e => ?_⟩, ?_⟩
  · have h1 : w5.ownsRow B 3 1 bv' (d :: s.bs).length (bsl (d :: s.bs)) := by rw [bsl_cons, List.length_cons]; exact hown
    exact ownsS_same h1 (fun k hk => setCell_blk (fun e => hne (by rw [hk, e])))
  · exact ownsS_same (ownsS_same h.to hbk) (fun k hk => setCell_blk (fun e => h.tg (by rw [hk, e])))
  · rcases hat with e' | e'
    · rw [e'] at hk; exact h.bt k hk e
    · rw [e', hsz] at hk
      injection hk with hk
      have := (ownsS_base h.to k e).2
      omega
  · refine Below.setCell (p := ⟨g, 3, none⟩) ?_ h.lo _
    refine Below.grown (w := w.alloc o) (Below.alloc (Below.refl _ _) (Nat.le_trans h.lo (Nat.le_of_lt hlg)) _) hg (by rw [hsz]; have := h.lo; omega) (fun k hk => (ownsS_base h.bo k hk).1)
theorem newR_one (w : World) (x : Value) (t : TypeId) : ∀ j u, [x][j]? = some u → (w.alloc (.cells #[x] t)).cell? (Addr.add ⟨w.heap.size, 0, none⟩ j) = some u := by
  intro j u hu
  match j, hu with
  | 0, hu =>
    simp at hu
    subst hu
    simp [Addr.add, World.cell?_alloc_at]
  | j + 1, hu => simp at hu
theorem newR_tok (w : World) (t : Tok) (ty : TypeId) : ∀ j u, (tkC t)[j]? = some u → (w.alloc (.cells #[.int .i64 (t.kind : Int), .string ⟨t.text.toArray⟩, .int .i64 (t.at_ : Int)] ty)).cell? (Addr.add ⟨w.heap.size, 0, none⟩ j) = some u := by
  intro j u hu
  match j, hu with
  | 0, hu => simp [tkC] at hu; subst hu; simp [Addr.add, World.cell?_alloc_at]
  | 1, hu => simp [tkC] at hu; subst hu; simp [Addr.add, World.cell?_alloc_at]
  | 2, hu => simp [tkC] at hu; subst hu; simp [Addr.add, World.cell?_alloc_at]
  | j + 3, hu => simp [tkC] at hu
end Lx
end Go.Proofs.YtgillafjccgkdaaDoor
