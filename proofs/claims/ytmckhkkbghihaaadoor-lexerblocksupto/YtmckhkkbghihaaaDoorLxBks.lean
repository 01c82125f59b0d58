/-
  Three rows of one's own beside one another: bytes, tokens, depths.
-/
import Derived.Test.YtmckhkkbghihaaaDoorLxBlk
import Derived.Test.YtmckhkkbghihaaaDoorLxReads
import Derived.Lib.AppendStr
namespace Go.Proofs.YtmckhkkbghihaaaDoor
open Go.RowKit Go.WideShapes
namespace Lx

theorem owns_type {w : World} {B : Nat} {e : TypeId} {s n : Nat} {v : Value} {xs : List Value} (h : w.ownsRow B e s v n xs) : ∀ k, v.ownBlock = some k → ∃ cur, w.heap[k]? = some (.cells cur e (0, 0)) := by
  intro k hk
  rcases h.2 with ⟨rfl, rfl⟩ | ⟨g, cap, cur, rfl, hB, hh, hc, _⟩
  · cases hk
  · injection hk with hk
    have hk : g = k := hk
    subst hk
    exact ⟨cur, hh⟩
/-- Rows of unlike kinds lie apart. -/
theorem owns_apart {w : World} {B B' : Nat} {e e' : TypeId} {s s' n n' : Nat} {v v' : Value} {xs xs' : List Value} (h : w.ownsRow B e s v n xs) (h' : w.ownsRow B' e' s' v' n' xs') (hne : e ≠ e') : ∀ k, v.ownBlock = some k → v'.ownBlock ≠ some k := by
  intro k hk hk'
  obtain ⟨c1, h1⟩ := owns_type h k hk
  obtain ⟨c2, h2⟩ := owns_type h' k hk'
  rw [h1] at h2
  injection h2 with h2
  injection h2 with _ h2
  exact hne h2
theorem owns_keep {w W w5 : World} {B : Nat} {e : TypeId} {s n : Nat} {v : Value} {u : Option Nat} {xs : List Value} (h : w.ownsRow B e s v n xs) (hW : Below w.heap.size w W) (hg : W.grownBy w5 u) (hne : ∀ k, v.ownBlock = some k → u ≠ some k) : w5.ownsRow B e s v n xs :=
  ownsS_same h (fun k hk => by
    have hl := (ownsS_base h k hk).2
    exact (hg.block k (Nat.lt_of_lt_of_le hl hW.size) (fun e => hne k hk e.symm)).trans (hW.block k hl))
structure Q3 (B : Nat) (w : World) (sv dv tv : Value) (L : List UInt8) (bs : List Nat) (ts : List Tok) : Prop where
  so : Ob B w sv L
  bo : w.ownsRow B 3 1 dv bs.length (bsl bs)
  wo : w.ownsRow B 30 3 tv ts.length (tkl ts)
theorem Q3.below {B : Nat} {w w' : World} {sv dv tv : Value} {L : List UInt8} {bs : List Nat} {ts : List Tok} (h : Q3 B w sv dv tv L bs ts) (hb : Below w.heap.size w w') : Q3 B w' sv dv tv L bs ts :=
  ⟨ownsS_same h.so (fun k hk => hb.block k (ownsS_base h.so k hk).2), ownsS_same h.bo (fun k hk => hb.block k (ownsS_base h.bo k hk).2), ownsS_same h.wo (fun k hk => hb.block k (ownsS_base h.wo k hk).2)⟩
theorem Q3.src {B : Nat} {w0 w W w5 : World} {sv sv' dv tv : Value} {L L' : List UInt8} {bs : List Nat} {ts : List Tok} (h : Q3 B w sv dv tv L bs ts) (hb : Below B w0 w) (h0 : B ≤ w0.heap.size) (hW : Below w.heap.size w W) (hg : W.grownBy w5 sv.ownBlock) (ho : Ob B w5 sv' L') :
    Q3 B w5 sv' dv tv L' bs ts ∧ Below B w0 w5 := by
  have hB : B ≤ w.heap.size := Nat.le_trans h0 hb.size
  exact ⟨⟨ho, owns_keep h.bo hW hg (owns_apart h.bo h.so (by decide)), owns_keep h.wo hW hg (owns_apart h.wo h.so (by decide))⟩, (hb.trans (hW.mono hB)).grown hg (Nat.le_trans hB hW.size) (fun k hk => (ownsS_base h.so k hk).1)⟩
theorem Q3.blk {B : Nat} {w0 w W w5 : World} {sv dv dv' tv : Value} {L : List UInt8} {bs : List Nat} {d : Nat} {ts : List Tok} (h : Q3 B w sv dv tv L bs ts) (hb : Below B w0 w) (h0 : B ≤ w0.heap.size) (hW : Below w.heap.size w W) (hg : W.grownBy w5 dv.ownBlock) (ho : w5.ownsRow B 3 1 dv' (bs.length + 1) (bsl bs ++ [.int .i64 (d : Int)])) :
    Q3 B w5 sv dv' tv L (d :: bs) ts ∧ Below B w0 w5 := by
  have hB : B ≤ w.heap.size := Nat.le_trans h0 hb.size
  refine ⟨⟨owns_keep h.so hW hg (owns_apart h.so h.bo (by decide)), ?_, owns_keep h.wo hW hg (owns_apart h.wo h.bo (by decide))⟩, (hb.trans (hW.mono hB)).grown hg (Nat.le_trans hB hW.size) (fun k hk => (ownsS_base h.bo k hk).1)⟩
  rw [bsl_cons, List.length_cons]
  exact ho
theorem Q3.tok {B : Nat} {w0 w W w5 : World} {sv dv tv tv' : Value} {L : List UInt8} {bs : List Nat} {ts ts' : List Tok} (h : Q3 B w sv dv tv L bs ts) (hb : Below B w0 w) (h0 : B ≤ w0.heap.size) (hW : Below w.heap.size w W) (hg : W.grownBy w5 tv.ownBlock) (ho : w5.ownsRow B 30 3 tv' ts'.length (tkl ts')) :
    Q3 B w5 sv dv tv' L bs ts' ∧ Below B w0 w5 := by
  have hB : B ≤ w.heap.size := Nat.le_trans h0 hb.size
  exact ⟨⟨owns_keep h.so hW hg (owns_apart h.so h.wo (by decide)), owns_keep h.bo hW hg (owns_apart h.bo h.wo (by decide)), ho⟩, (hb.trans (hW.mono hB)).grown hg (Nat.le_trans hB hW.size) (fun k hk => (ownsS_base h.wo k hk).1)⟩
theorem Q3.cut {B : Nat} {w : World} {sv tv : Value} {L : List UInt8} {d : Nat} {r : List Nat} {ts : List Tok} {g cap : Nat} (h : Q3 B w sv (.slice (some ⟨g, 0, none⟩) (d :: r).length cap) tv L (d :: r) ts) : Q3 B w sv (.slice (some ⟨g, 0, none⟩) r.length cap) tv L r ts := by
  refine ⟨h.so, ?_, h.wo⟩
  have hb := ownsS_cut h.bo r.length (by simp)
  rw [bsl_take] at hb
  exact hb
/-- append of a text onto bytes of one's own. -/
theorem wpListS_append_str {P : Program} {ops : Array Oper} {rest : List Oper} {o : Oper} {a : Act} {w : World} {Q : Exit → Act → World → Prop} (hgd : o.guard = none) (s x : Operand) (t u : TypeId)
    (ho : o.op = .call { callee := .builtin .append, args := #[s, x], argTypes := #[t, u] })
    (base : Nat) (e : TypeId) (i : TypeInfo) (ht : P.underlying t = some (.slice e)) (hu : P.underlying u = some .string) (hi : P.info? e = some i) (hz : i.zero = some (.int .u8 0))
    (hsize : i.size = 1) (hby : i.bytes = 1)
    (v : Value) (n : Nat) (xs : List Value) (hs : a.eval s = v) (hown : w.ownsRow base e 1 v n xs)
    (str : ByteArray) (hx : a.eval x = .string str)
    (h63 : n + str.size ≤ maxLen) (hbytes : n + str.size ≤ 140737488355328) (hbase : base ≤ w.heap.size)
    (h : ∀ v' w', w'.ownsRow base e 1 v' (n + str.size) (xs ++ Lib.strCells str) → w.grownBy w' v.ownBlock → wpList P ops Q rest (a.put o.dst v') w') : wpList P ops Q (o :: rest) a w := by
  refine wpList_plain hgd fun K hK => ?_
  obtain ⟨v', w', hr, h2, h3, _⟩ := Lib.run_append_own_string (P := P) w base t u o.type e i ht hu hi hz hsize hby v n xs hown str h63 hbytes hbase
  unfold Oper.wp execOp
  simp only [ho, resolve, invoke, builtin, Sem.run_bind, Sem.run_pure, Result.andThen_ok, List.map_toArray, List.map_cons, List.map_nil, hs, hx, hr]
  exact hK _ _ (h v' w' h2 h3)
/-- Ints that can be read. -/
def Is (w : World) (a : Option Addr) (n : Nat) (l : List Int) : Prop := n = l.length ∧ ∃ b off, (0 < n → a = some ⟨b, off, none⟩ ∧ b < w.heap.size) ∧ ∀ j, j < n → w.cell? ⟨b, off + j, none⟩ = some (.int .i64 (l.getD j 0))
theorem newR_tok2 (w : World) (t u : Tok) (ty : TypeId) : ∀ j x, (tkC t ++ tkC u)[j]? = some x → (w.alloc (.cells #[.int .i64 (t.kind : Int), .string ⟨t.text.toArray⟩, .int .i64 (t.at_ : Int), .int .i64 (u.kind : Int), .string ⟨u.text.toArray⟩, .int .i64 (u.at_ : Int)] ty)).cell? (Addr.add ⟨w.heap.size, 0, none⟩ j) = some x := by
  intro j x hu
  match j, hu with
  | 0, hu => simp [tkC] at hu; subst hu; simp [Addr.add, World.cell?_alloc_at]
  | 1, hu => simp [tkC] at hu; subst hu; simp [Addr.add, World.cell?_alloc_at]
  | 2, hu => simp [tkC] at hu; subst hu; simp [Addr.add, World.cell?_alloc_at]
  | 3, hu => simp [tkC] at hu; subst hu; simp [Addr.add, World.cell?_alloc_at]
  | 4, hu => simp [tkC] at hu; subst hu; simp [Addr.add, World.cell?_alloc_at]
  | 5, hu => simp [tkC] at hu; subst hu; simp [Addr.add, World.cell?_alloc_at]
  | j + 6, hu => simp [tkC] at hu
/-- A state of the law's loop over lines. -/
def Lb (B n : Nat) (w : World) (gk : Nat) (v3 v4 v5 v6 v7 : Value) (wr : World) : Prop := ∃ (i : Nat) (L : List UInt8) (bad : Int) (bs : List Nat) (ts : List Tok), i + gk = n ∧ v6 = .int .i64 bad ∧ v7 = .int .i64 (i : Int) ∧ Q3 B wr v3 v5 v4 L bs ts ∧ Bk L bad bs ts ∧ bs.getLast? = some 0 ∧ L.length ≤ 62 * i ∧ ts.length + bs.length ≤ 4 * i + 1 ∧ Below B w wr
theorem byte_str (L : List UInt8) (s : ByteArray) : Lib.byteCells L ++ Lib.strCells s = Lib.byteCells (L ++ s.data.toList) := by
  simp [Lib.byteCells, Lib.strCells]
theorem Bk.cases {L : List UInt8} {bad : Int} {bs : List Nat} {ts : List Tok} (h : Bk L bad bs ts) : bad = -1 ∨ ∃ p : Nat, bad = (p : Int) := by
  rcases h with ⟨h, _⟩ | ⟨p, h, _⟩
  · exact Or.inl h
  · exact Or.inr ⟨p, h⟩
theorem ded_cut (n a : Nat) : ∀ (bs : List Nat) (ts : List Tok), (ded n a bs ts).2.length + (ded n a bs ts).1.length = ts.length + bs.length
  | [], ts => by simp [ded]
  | d :: r, ts => by
    unfold ded
    split
    · rw [ded_cut n a r]; simp; omega
    · rfl
end Lx
end Go.Proofs.YtmckhkkbghihaaaDoor
