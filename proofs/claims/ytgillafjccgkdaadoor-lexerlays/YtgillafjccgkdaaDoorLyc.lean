/-
  LexerLays: the law's three rows: the plain source, the loose one, the tokens that are wanted.
  An append of a text onto bytes of one's own, and where the new row lies.
  LexerLays: the law's appends on its three rows.
  LexerLays: a token appended to the law's three rows; what Tokens tells of them.
  LexerLays: lines of pieces that can be read.
-/
import Derived.Test.YtgillafjccgkdaaDoorLyb
import Derived.Lib.AppendStr
namespace Go.Proofs.YtgillafjccgkdaaDoor
open Go.RowKit Go.WideShapes
namespace Lx

theorem owns_ty {w : World} {B : Nat} {e : TypeId} {size n b : Nat} {v : Value} {xs : List Value} (h : w.ownsRow B e size v n xs) (hb : v.ownBlock = some b) : B ≤ b ∧ b < w.heap.size ∧ ∃ c, w.heap[b]? = some (.cells c e) := by
  obtain ⟨_, ⟨rfl, _⟩ | ⟨g, c, cur, rfl, h3, h4, _⟩⟩ := h
  · cases hb
  · injection hb with hb
    subst hb
    exact ⟨h3, (Array.getElem?_eq_some_iff.1 h4).1, cur, h4⟩
/-- Rows of bytes, bytes and tokens, each of its own. -/
structure L3 (w W : World) (vp vl vt : Value) (P Q : List UInt8) (ts : List Tok) : Prop where
  p : W.ownsRow w.heap.size 5 1 vp P.length (Lib.byteCells P)
  q : W.ownsRow w.heap.size 5 1 vl Q.length (Lib.byteCells Q)
  t : W.ownsRow w.heap.size 29 3 vt ts.length (tkl ts)
  ap : ∀ b, vp.ownBlock = some b → vl.ownBlock ≠ some b
  b : Below w.heap.size w W
theorem L3.new (w : World) : L3 w w (.slice none 0 0) (.slice none 0 0) (.slice none 0 0) [] [] [] := ⟨World.ownsRow_nil _ _ _ _, World.ownsRow_nil _ _ _ _, World.ownsRow_nil _ _ _ _, (fun b h => by cases h), Below.refl _ _⟩
theorem owns_blw {w w' : World} {B : Nat} {e : TypeId} {size n : Nat} {v : Value} {xs : List Value} (h : w.ownsRow B e size v n xs) (hb : Below w.heap.size w w') : w'.ownsRow B e size v n xs := by
  obtain ⟨h1, h2 | ⟨g, c, cur, rfl, h3, h4, h5⟩⟩ := h
  · exact ⟨h1, .inl h2⟩
  · exact ⟨h1, .inr ⟨g, c, cur, rfl, h3, (hb.block g (Array.getElem?_eq_some_iff.1 h4).1).trans h4, h5⟩⟩
theorem L3.below {w W W' : World} {vp vl vt : Value} {P Q : List UInt8} {ts : List Tok} (h : L3 w W vp vl vt P Q ts) (hb : Below W.heap.size W W') : L3 w W' vp vl vt P Q ts :=
  ⟨owns_blw h.p hb, owns_blw h.q hb, owns_blw h.t hb, h.ap, h.b.trans (hb.mono h.b.size)⟩
theorem owns_kept {w w' : World} {B : Nat} {e : TypeId} {size n : Nat} {v : Value} {xs : List Value} {row : Option Nat} (h : w.ownsRow B e size v n xs) (g : w.grownBy w' row) (hne : ∀ b, v.ownBlock = some b → row ≠ some b) : w'.ownsRow B e size v n xs :=
  h.kept g (by
    cases hv : v.ownBlock with
    | none => exact Or.inl rfl
    | some b => exact Or.inr (fun e => hne b hv (by rw [← e])))
theorem below_gr {B : Nat} {w w1 w' : World} {row : Option Nat} (h : Below B w w1) (g : w1.grownBy w' row) (hB : B ≤ w1.heap.size) (hr : ∀ k, row = some k → B ≤ k) : Below B w w' :=
  h.grown g (by omega) hr
theorem L3.plain {w W W' : World} {vp vl vt vp' : Value} {P P' Q : List UInt8} {ts : List Tok} (h : L3 w W vp vl vt P Q ts) (g : W.grownBy W' vp.ownBlock) (ho : W'.ownsRow w.heap.size 5 1 vp' P'.length (Lib.byteCells P')) (hn : vp'.ownBlock = vp.ownBlock ∨ vp'.ownBlock = some W.heap.size) : L3 w W' vp' vl vt P' Q ts := by
  refine ⟨ho, owns_kept h.q g (fun b hb e => h.ap b e hb), owns_kept h.t g (fun b hb e => ?_), fun b hb hq => ?_, below_gr h.b g h.b.size (fun k hk => (owns_ty h.p hk).1)⟩
  · obtain ⟨_, _, c1, h1⟩ := owns_ty h.t hb
    obtain ⟨_, _, c2, h2⟩ := owns_ty h.p e
    rw [h1] at h2
    cases h2
  · rcases hn with e | e
    · exact h.ap b (e ▸ hb) hq
    · rw [e] at hb
      injection hb with hb
      have := (owns_ty h.q hq).2.1
      omega
theorem L3.loose {w W W' : World} {vp vl vt vl' : Value} {P Q Q' : List UInt8} {ts : List Tok} (h : L3 w W vp vl vt P Q ts) (g : W.grownBy W' vl.ownBlock) (ho : W'.ownsRow w.heap.size 5 1 vl' Q'.length (Lib.byteCells Q')) (hn : vl'.ownBlock = vl.ownBlock ∨ vl'.ownBlock = some W.heap.size) : L3 w W' vp vl' vt P Q' ts := by
  refine ⟨owns_kept h.p g (fun b hb e => h.ap b hb e), ho, owns_kept h.t g (fun b hb e => ?_), fun b hb hq => ?_, below_gr h.b g h.b.size (fun k hk => (owns_ty h.q hk).1)⟩
  · obtain ⟨_, _, c1, h1⟩ := owns_ty h.t hb
    obtain ⟨_, _, c2, h2⟩ := owns_ty h.q e
    rw [h1] at h2
    cases h2
  · rcases hn with e | e
    · exact h.ap b hb (e ▸ hq)
    · rw [e] at hq
      injection hq with hq
      have := (owns_ty h.p hb).2.1
      omega
theorem L3.tok {w W W' : World} {vp vl vt vt' : Value} {P Q : List UInt8} {ts ts' : List Tok} (h : L3 w W vp vl vt P Q ts) (g : W.grownBy W' vt.ownBlock) (ho : W'.ownsRow w.heap.size 29 3 vt' ts'.length (tkl ts')) : L3 w W' vp vl vt' P Q ts' := by
  refine ⟨owns_kept h.p g (fun b hb e => ?_), owns_kept h.q g (fun b hb e => ?_), ho, h.ap, below_gr h.b g h.b.size (fun k hk => (owns_ty h.t hk).1)⟩
  · obtain ⟨_, _, c1, h1⟩ := owns_ty h.p hb
    obtain ⟨_, _, c2, h2⟩ := owns_ty h.t e
    rw [h1] at h2
    cases h2
  · obtain ⟨_, _, c1, h1⟩ := owns_ty h.q hb
    obtain ⟨_, _, c2, h2⟩ := owns_ty h.t e
    rw [h1] at h2
    cases h2
end Lx
end Go.Proofs.YtgillafjccgkdaaDoor
namespace Go.Proofs.YtgillafjccgkdaaDoor
open Go.RowKit Go.WideShapes
namespace Lx

theorem run_append_str_at {P : Program} (w : World) (base : Nat) (t u ty e : TypeId) (i : TypeInfo) (ht : P.underlying t = some (.slice e)) (hu : P.underlying u = some .string) (hi : P.info? e = some i) (hz : i.zero = some (.int .u8 0)) (hsize : i.size = 1) (hby : i.bytes = 1)
    (v : Value) (n : Nat) (xs : List Value) (hown : w.ownsRow base e 1 v n xs) (s : ByteArray) (h63 : n + s.size ≤ maxLen) (hbytes : n + s.size ≤ 1000000000) (hbase : base ≤ w.heap.size) :
    ∃ v' w', (Builtin.append_ #[t, u] ty #[v, .string s]).run P w = .ok v' w' ∧ w'.ownsRow base e 1 v' (n + s.size) (xs ++ Lib.strCells s) ∧ w.grownBy w' v.ownBlock ∧ (v'.ownBlock = v.ownBlock ∨ v'.ownBlock = some w.heap.size) := by
  obtain ⟨v', w', hr, h2, h3, h4⟩ := Lib.run_append_own_string (P := P) w base t u ty e i ht hu hi hz hsize hby v n xs hown s h63 (by omega) hbase
  refine ⟨v', w', hr, h2, h3, ?_⟩
  have hxl : xs.length = n := by simpa using hown.1
  rcases hown.2 with ⟨rfl, rfl⟩ | ⟨g, cap, cur, rfl, _, hg, hnc, hcm, hcs, htake⟩
  · by_cases hm : s.size = 0
    · left
      rw [h4.2 ⟨rfl, hm⟩]
    · right
      have hq := run_append_nil_string (P := P) w t u ty e i (.int .u8 0) ht hu hi hz s (by omega) (by omega) (by rw [hby]; omega)
      rw [hq] at hr
      injection hr with e1 _
      rw [← e1]
      rfl
  · by_cases hroom : n + s.size ≤ cap
    · left
      have hq := Lib.run_append_room_string (P := P) w t u ty e i ht hu hi hsize g n cap cur hg s hroom (by omega)
      rw [hq] at hr
      injection hr with e1 _
      rw [← e1]
      rfl
    · right
      have holds : ∀ j u, xs[j]? = some u → w.cell? ((⟨g, 0, none⟩ : Addr).add j) = some u := hown.cells (g := g) rfl
      have hq := Lib.run_append_grow_string (P := P) w t u ty e i (.int .u8 0) ht hu hi hz ⟨g, 0, none⟩ n cap xs (by rw [hsize]; simpa using hxl) holds s (by omega) (by omega) (by rw [hby]; exact growslice_fits (by omega) (by omega))
      rw [hq] at hr
      injection hr with e1 _
      rw [← e1]
      rfl
theorem wpListS_append_sat {P : Program} {ops : Array Oper} {rest : List Oper} {o : Oper} {a : Act} {w : World} {Q : Exit → Act → World → Prop} (hgd : o.guard = none) (s x : Operand) (t u : TypeId)
    (ho : o.op = .call { callee := .builtin .append, args := #[s, x], argTypes := #[t, u] })
    (base : Nat) (e : TypeId) (i : TypeInfo) (ht : P.underlying t = some (.slice e)) (hu : P.underlying u = some .string) (hi : P.info? e = some i) (hz : i.zero = some (.int .u8 0)) (hsize : i.size = 1) (hby : i.bytes = 1)
    (v : Value) (n : Nat) (xs : List Value) (hs : a.eval s = v) (hown : w.ownsRow base e 1 v n xs) (str : ByteArray) (hx : a.eval x = .string str) (h63 : n + str.size ≤ maxLen) (hbytes : n + str.size ≤ 1000000000) (hbase : base ≤ w.heap.size)
    (h : ∀ v' w', w'.ownsRow base e 1 v' (n + str.size) (xs ++ Lib.strCells str) → w.grownBy w' v.ownBlock → (v'.ownBlock = v.ownBlock ∨ v'.ownBlock = some w.heap.size) → wpList P ops Q rest (a.put o.dst v') w') : wpList P ops Q (o :: rest) a w := by
  refine wpList_plain hgd fun K hK => ?_
  obtain ⟨v', w', hr, h2, h3, h5⟩ := run_append_str_at (P := P) w base t u o.type e i ht hu hi hz hsize hby v n xs hown str h63 hbytes hbase
  unfold Oper.wp execOp
  simp only [ho, resolve, invoke, builtin, Sem.run_bind, Sem.run_pure, Result.andThen_ok, List.map_toArray, List.map_cons, List.map_nil, hs, hx, hr]
  exact hK _ _ (h v' w' h2 h3 h5)
end Lx
end Go.Proofs.YtgillafjccgkdaaDoor
namespace Go.Proofs.YtgillafjccgkdaaDoor
open Go.RowKit Go.WideShapes
namespace Lx

theorem Tryd.infoU8 : (Tryd.prog.info? 5).map (fun i => (i.zero, i.size, i.bytes)) = some (some (.int .u8 0), 1, 1) := by kernel_rfl
theorem Tryd.infoTk : (Tryd.prog.info? 29).map (fun i => (i.zero, i.size, i.bytes)) = some (some (.agg #[.int .i64 0, .string ⟨#[]⟩, .int .i64 0]), 3, 32) := by kernel_rfl
theorem bytes_app (a b : List UInt8) : Lib.byteCells (a ++ b) = Lib.byteCells a ++ Lib.byteCells b := by simp [Lib.byteCells]
theorem str_bytes (s : List UInt8) : Lib.strCells ⟨s.toArray⟩ = Lib.byteCells s := by simp [Lib.strCells, Lib.byteCells]
/-- Tokens that lie by themselves stay. -/
def TkK (W W' : World) : Prop := ∀ (g : Nat) (c : Array Value), W.heap[g]? = some (.cells c 29) → W'.heap[g]? = some (.cells c 29)
theorem TkK.trans {a b c : World} (h : TkK a b) (k : TkK b c) : TkK a c := fun g x hx => k g x (h g x hx)
theorem TkK.alloc (W : World) (o : Obj) : TkK W (W.alloc o) := fun g x hx => by
  have hg := (Array.getElem?_eq_some_iff.1 hx).1
  exact (((Below.refl _ W).alloc (Nat.le_refl _) o).block g hg).trans hx
theorem TkK.below {W W' : World} (h : Below W.heap.size W W') : TkK W W' := fun g _ hx => (h.block g (Array.getElem?_eq_some_iff.1 hx).1).trans hx
theorem tk_kept {w W W' : World} {v : Value} {L : List UInt8} (h : W.ownsRow w.heap.size 5 1 v L.length (Lib.byteCells L)) (g : W.grownBy W' v.ownBlock) : TkK W W' := fun k _ hx => by
  refine (g.block k (Array.getElem?_eq_some_iff.1 hx).1 (fun e => ?_)).trans hx
  obtain ⟨_, _, c1, h1⟩ := owns_ty h e.symm
  rw [h1] at hx
  cases hx
section
variable {ops : Array Oper} {rest : List Oper} {o : Oper} {a : Act} {w W : World} {Qx : Exit → Act → World → Prop} {vp vl vt : Value} {P Q : List UInt8} {ts : List Tok}
theorem wp_plainS (hgd : o.guard = none) (s x : Operand) (ho : o.op = .call { callee := .builtin .append, args := #[s, x], argTypes := #[25, 9] }) (h3 : L3 w W vp vl vt P Q ts) (hs : a.eval s = vp) (str : List UInt8) (hx : a.eval x = .string ⟨str.toArray⟩) (hb : P.length + str.length ≤ 1000000)
    (h : ∀ v' W', L3 w W' v' vl vt (P ++ str) Q ts → TkK W W' → wpList Tryd.prog ops Qx rest (a.put o.dst v') W') : wpList Tryd.prog ops Qx (o :: rest) a W := by
  obtain ⟨iB, hi, hz0, hz1, hz2⟩ := info_parts Tryd.infoU8
  have hsz : (⟨str.toArray⟩ : ByteArray).size = str.length := by simp [ByteArray.size]
  refine wpListS_append_sat hgd s x _ _ ho w.heap.size 5 iB Tryd.underlying25 Tryd.underlying9 hi hz0 hz1 hz2 vp P.length _ hs h3.p ⟨str.toArray⟩ hx (by rw [hsz]; unfold maxLen; omega) (by rw [hsz]; omega) h3.b.size (fun v' W' g1 g2 g3 => h v' W' (h3.plain g2 ?_ g3) (tk_kept h3.p g2))
  rw [List.length_append, bytes_app, ← str_bytes, ← hsz]
  exact g1
theorem wp_looseS (hgd : o.guard = none) (s x : Operand) (ho : o.op = .call { callee := .builtin .append, args := #[s, x], argTypes := #[25, 9] }) (h3 : L3 w W vp vl vt P Q ts) (hs : a.eval s = vl) (str : List UInt8) (hx : a.eval x = .string ⟨str.toArray⟩) (hb : Q.length + str.length ≤ 1000000)
    (h : ∀ v' W', L3 w W' vp v' vt P (Q ++ str) ts → TkK W W' → wpList Tryd.prog ops Qx rest (a.put o.dst v') W') : wpList Tryd.prog ops Qx (o :: rest) a W := by
  obtain ⟨iB, hi, hz0, hz1, hz2⟩ := info_parts Tryd.infoU8
  have hsz : (⟨str.toArray⟩ : ByteArray).size = str.length := by simp [ByteArray.size]
  refine wpListS_append_sat hgd s x _ _ ho w.heap.size 5 iB Tryd.underlying25 Tryd.underlying9 hi hz0 hz1 hz2 vl Q.length _ hs h3.q ⟨str.toArray⟩ hx (by rw [hsz]; unfold maxLen; omega) (by rw [hsz]; omega) h3.b.size (fun v' W' g1 g2 g3 => h v' W' (h3.loose g2 ?_ g3) (tk_kept h3.q g2))
  rw [List.length_append, bytes_app, ← str_bytes, ← hsz]
  exact g1
theorem wp_plain1 (hgd : o.guard = none) (s x : Operand) (ho : o.op = .call { callee := .builtin .append, args := #[s, x], argTypes := #[25, 25] }) {W0 : World} (c : UInt8) (hW : W = W0.alloc (.cells #[.int .u8 (c.toNat : Int)] 5)) (h0 : L3 w W0 vp vl vt P Q ts) (hs : a.eval s = vp) (hx : a.eval x = .slice (some ⟨W0.heap.size, 0, none⟩) 1 1) (hb : P.length + 1 ≤ 1000000)
    (h : ∀ v' W', L3 w W' v' vl vt (P ++ [c]) Q ts → TkK W0 W' → wpList Tryd.prog ops Qx rest (a.put o.dst v') W') : wpList Tryd.prog ops Qx (o :: rest) a W := by
  obtain ⟨iB, hi, hz0, hz1, hz2⟩ := info_parts Tryd.infoU8
  have h3 : L3 w W vp vl vt P Q ts := by rw [hW]; exact h0.below ((Below.refl _ W0).alloc (Nat.le_refl _) _)
  refine wpListS_append_own hgd s x _ ho w.heap.size 5 iB (.int .u8 0) 1 1 Tryd.underlying25 hi hz0 hz1 hz2 rfl (by decide) vp P.length _ hs h3.p ⟨W0.heap.size, 0, none⟩ 1 1 [.int .u8 (c.toNat : Int)] hx rfl (by rw [hW]; exact newR_one _ _ _) (fun u hu => by simp at hu; subst hu; rfl) (by unfold maxLen; omega) (by omega) h3.b.size (fun v' W' g1 g2 g3 => h v' W' (h3.plain g2 ?_ g3) (by have := tk_kept h3.p g2; rw [hW] at this; exact (TkK.alloc W0 _).trans this))
  rw [List.length_append, bytes_app]
  exact g1
theorem wp_loose1 (hgd : o.guard = none) (s x : Operand) (ho : o.op = .call { callee := .builtin .append, args := #[s, x], argTypes := #[25, 25] }) {W0 : World} (c : UInt8) (hW : W = W0.alloc (.cells #[.int .u8 (c.toNat : Int)] 5)) (h0 : L3 w W0 vp vl vt P Q ts) (hs : a.eval s = vl) (hx : a.eval x = .slice (some ⟨W0.heap.size, 0, none⟩) 1 1) (hb : Q.length + 1 ≤ 1000000)
    (h : ∀ v' W', L3 w W' vp v' vt P (Q ++ [c]) ts → TkK W0 W' → wpList Tryd.prog ops Qx rest (a.put o.dst v') W') : wpList Tryd.prog ops Qx (o :: rest) a W := by
  obtain ⟨iB, hi, hz0, hz1, hz2⟩ := info_parts Tryd.infoU8
  have h3 : L3 w W vp vl vt P Q ts := by rw [hW]; exact h0.below ((Below.refl _ W0).alloc (Nat.le_refl _) _)
  refine wpListS_append_own hgd s x _ ho w.heap.size 5 iB (.int .u8 0) 1 1 Tryd.underlying25 hi hz0 hz1 hz2 rfl (by decide) vl Q.length _ hs h3.q ⟨W0.heap.size, 0, none⟩ 1 1 [.int .u8 (c.toNat : Int)] hx rfl (by rw [hW]; exact newR_one _ _ _) (fun u hu => by simp at hu; subst hu; rfl) (by unfold maxLen; omega) (by omega) h3.b.size (fun v' W' g1 g2 g3 => h v' W' (h3.loose g2 ?_ g3) (by have := tk_kept h3.q g2; rw [hW] at this; exact (TkK.alloc W0 _).trans this))
  rw [List.length_append, bytes_app]
  exact g1
end
end Lx
end Go.Proofs.YtgillafjccgkdaaDoor
namespace Go.Proofs.YtgillafjccgkdaaDoor
open Go.RowKit Go.WideShapes
namespace Lx

section
variable {ops : Array Oper} {rest : List Oper} {o : Oper} {a : Act} {w W : World} {Qx : Exit → Act → World → Prop} {vp vl vt : Value} {P Q : List UInt8} {ts : List Tok}
theorem wp_tok (hgd : o.guard = none) (s x : Operand) (ho : o.op = .call { callee := .builtin .append, args := #[s, x], argTypes := #[26, 26] }) {W0 : World} (t : Tok) (hW : W = W0.alloc (.cells #[.int .i64 (t.kind : Int), .string ⟨t.text.toArray⟩, .int .i64 (t.at_ : Int)] 29)) (h0 : L3 w W0 vp vl vt P Q ts) (hs : a.eval s = vt) (hx : a.eval x = .slice (some ⟨W0.heap.size, 0, none⟩) 1 1) (hb : ts.length + 1 ≤ 1000000)
    (h : ∀ v' W', L3 w W' vp vl v' P Q (ts ++ [t]) → wpList Tryd.prog ops Qx rest (a.put o.dst v') W') : wpList Tryd.prog ops Qx (o :: rest) a W := by
  obtain ⟨iT, hi, hz0, hz1, hz2⟩ := info_parts Tryd.infoTk
  have h3 : L3 w W vp vl vt P Q ts := by rw [hW]; exact h0.below ((Below.refl _ W0).alloc (Nat.le_refl _) _)
  refine wpListS_append_own hgd s x _ ho w.heap.size 29 iT (.agg #[.int .i64 0, .string ⟨#[]⟩, .int .i64 0]) 3 32 Tryd.underlying26 hi hz0 hz1 hz2 rfl (by decide) vt ts.length (tkl ts) hs h3.t ⟨W0.heap.size, 0, none⟩ 1 1 (tkC t) hx rfl (by rw [hW]; exact newR_tok _ t _) (tkC_one _) (by unfold maxLen; omega) (by omega) h3.b.size (fun v' W' g1 g2 g3 => h v' W' (h3.tok g2 ?_))
  rw [List.length_append, tkl_app]
  exact g1
end
end Lx
end Go.Proofs.YtgillafjccgkdaaDoor
namespace Go.Proofs.YtgillafjccgkdaaDoor
open Go.RowKit Go.WideShapes
namespace Lx

/-- Lines of pieces that can be read. -/
structure Lns (w : World) (a : Option Addr) (n : Nat) (A : Nat → Option Addr) (N C : Nat → Nat) (X : Nat → Nat → Nat → Int) (b off : Nat) (b' off' : Nat → Nat) : Prop where
  at_ : 0 < n → a = some ⟨b, off, none⟩ ∧ b < w.heap.size
  ln : ∀ i, i < n → w.cell? ⟨b, off + i, none⟩ = some (.slice (A i) (N i) (C i))
  pa : ∀ i, i < n → 0 < N i → A i = some ⟨b' i, off' i, none⟩ ∧ b' i < w.heap.size
  pc : ∀ i, i < n → ∀ k, k < N i → ∀ j, j < 3 → w.cell? ⟨b' i, off' i + k * 3 + j, none⟩ = some (.int .i64 (X i k j))
/-- A token by itself, as it is laid down and written. -/
theorem tok_made (w : World) (a b c : Value) (W : World) (hW : (((w.alloc (.cells #[.int .i64 0, .string ⟨#[]⟩, .int .i64 0] 29)).setCell ⟨w.heap.size, 0, none⟩ a).setCell ⟨w.heap.size, 1, none⟩ b).setCell ⟨w.heap.size, 2, none⟩ c = W) : W.heap[w.heap.size]? = some (.cells #[a, b, c] 29) ∧ Below w.heap.size w W := by
  refine ⟨?_, ?_⟩
  · rw [← hW]
    have h0 : (w.alloc (.cells #[.int .i64 0, .string ⟨#[]⟩, .int .i64 0] 29)).heap[w.heap.size]? = some (.cells #[.int .i64 0, .string ⟨#[]⟩, .int .i64 0] 29) := by
      unfold World.alloc
      simp
    simp only [World.setCell, Array.getElem?_modify, if_true, h0]
    simp
  · rw [← hW]
    exact ((((Below.refl _ w).alloc (Nat.le_refl _) _).setCell (p := ⟨w.heap.size, 0, none⟩) (Nat.le_refl _) _).setCell (p := ⟨w.heap.size, 1, none⟩) (Nat.le_refl _) _).setCell (p := ⟨w.heap.size, 2, none⟩) (Nat.le_refl _) _
theorem tok_cells {W : World} {g : Nat} {a b c : Value} (h : W.heap[g]? = some (.cells #[a, b, c] 29)) : W.cell? ⟨g, 0, none⟩ = some a ∧ W.cell? ⟨g, 1, none⟩ = some b ∧ W.cell? ⟨g, 2, none⟩ = some c := by
  refine ⟨?_, ?_, ?_⟩ <;> simp [World.cell?, h]
/-- Ready for a piece: at a line's head, or behind blanks. -/
def Lr (L : List UInt8) (W : List (Nat × List UInt8)) : Prop := Ly L W ∨ Lb L W
theorem Lr.piece {L p t : List UInt8} {k : Nat} {W : List (Nat × List UInt8)} (h : Lr L W) (hp : Pg p k t) : Lm (L ++ p) (W ++ [(k, t)]) := by
  rcases h with h | h
  · exact h.piece hp
  · exact h.piece hp
theorem map_kt (ts : List Tok) (k : Nat) (t : List UInt8) (p : Nat) : (ts ++ [(⟨k, t, p⟩ : Tok)]).map kt = ts.map kt ++ [(k, t)] := by simp [kt]
/-- What is left to be shown. -/
structure Bx (P : Prop) : Prop where
  out : P
end Lx
end Go.Proofs.YtgillafjccgkdaaDoor
