/-
  The walks beside the dictionary.
  The document's walk: tells, New, Next.
-/
import Derived.Test.YtejfmajbggmghaaGreatGp
import Derived.Test.YtejfmajbggmghaaGreatStGo
import Derived.Test.YtejfmajbggmghaaGreatGl
namespace Go.Proofs.YtejfmajbggmghaaGreat
open Go.RowKit Go.WideShapes

/-- The document's walk. -/
def rsF (d2 : Nat) (size : Int) (back : Bool) (last : Int) (begun : Bool) (over : Int) : Nat → Value
  | 0 => .pointer (some ⟨d2, 0, none⟩)
  | 1 => .int .i64 size
  | 2 => .bool back
  | 3 => .int .i64 last
  | 4 => .bool begun
  | _ => .int .i64 over
/-- What was told last: the program's and the document's word for it. -/
structure Lk (back : Bool) (told last : Int) (begun : Bool) : Prop where
  lo : -1 ≤ told
  hi : back = false → told ≤ 100000
  yes : begun = true → told = last
  no : begun = false → told = if back = true then 9223372036854775807 else -1
/-- A walk, and the document's. -/
def Wv (w : World) (d d2 : Nat) (q : Wk) : Prop :=
  (∃ back size told last begun, Sr w q.s d back size told q.b ∧ Blk w q.k 6 (rsF d2 size back last begun 0) ∧ Lk back told last begun) ∨
  ∃ br F, Blk w q.s 5 (soF br) ∧ Blk w q.k 6 F ∧ F 5 = .int .i64 (if br = true then 9 else 10)
theorem Wv.same {w w' : World} {d d2 : Nat} {q : Wk} (h : Wv w d d2 q) (e1 : w'.heap[q.s]? = w.heap[q.s]?) (e2 : w'.heap[q.k]? = w.heap[q.k]?) (e3 : w'.heap[q.b]? = w.heap[q.b]?) : Wv w' d d2 q := by
  rcases h with ⟨back, size, told, last, begun, h1, h2, h3⟩ | ⟨br, F, h1, h2, h3⟩
  · exact .inl ⟨back, size, told, last, begun, h1.same e1 e3, h2.same e2, h3⟩
  · exact .inr ⟨br, F, h1.same e1, h2.same e2, h3⟩
/-- All walks. -/
structure Ww (w : World) (X : Nat) (S : St8) : Prop where
  nw : S.nw ≤ 20
  wv : ∀ j, j < S.nw → Wv w (S.ds 0).d (S.ds 0).d2 (S.ws j)
  sep : ∃ lab : Nat → Nat, (∀ i, S.all X i → lab i = 0) ∧ ∀ j, j < S.nw → (lab (S.ws j).s = 3 * j + 1 ∧ (S.ws j).s < w.heap.size) ∧ (lab (S.ws j).k = 3 * j + 2 ∧ (S.ws j).k < w.heap.size) ∧ (lab (S.ws j).b = 3 * j + 3 ∧ (S.ws j).b < w.heap.size)
/-- All blocks of the law's state. -/
def St8.every (S : St8) (X i : Nat) : Prop := S.all X i ∨ ∃ j, j < S.nw ∧ (i = (S.ws j).s ∨ i = (S.ws j).k ∨ i = (S.ws j).b)
theorem Ww.turn {w w' : World} {X : Nat} {S S' : St8} (h : Ww w X S) (hl : ∀ i, S.all X i → i < w.heap.size) (fx : ∀ i, S'.all X i → S.all X i ∨ w.heap.size ≤ i) (ex : Ex (fun i => S.all X i ∨ mB (.pointer none) i ∨ mB (.pointer none) i) w w') (kw : S'.nw = S.nw) (ks : S'.ws = S.ws) (kd : (S'.ds 0).d = (S.ds 0).d ∧ (S'.ds 0).d2 = (S.ds 0).d2) : Ww w' X S' := by
  obtain ⟨lab, h1, h2⟩ := h.sep
  have key : ∀ i, i < w.heap.size → lab i ≠ 0 → w'.heap[i]? = w.heap[i]? := fun i hi hn => ex.block i hi (fun y => by
    rcases y with y | y | y
    · exact hn (h1 i y)
    · exact noneB y
    · exact noneB y)
  refine ⟨by rw [kw]; exact h.nw, fun j hj => ?_, fun i => if i < w.heap.size then lab i else 0, fun i hi => ?_, fun j hj => ?_⟩
  · rw [kw] at hj
    rw [ks, kd.1, kd.2]
    obtain ⟨a1, a2, a3⟩ := h2 j hj
    exact (h.wv j hj).same (key _ a1.2 (by omega)) (key _ a2.2 (by omega)) (key _ a3.2 (by omega))
  · show (if i < w.heap.size then lab i else 0) = 0
    rcases fx i hi with y | y
    · rw [if_pos (hl i y)]; exact h1 i y
    · rw [if_neg (by omega)]
  · rw [kw] at hj
    rw [ks]
    obtain ⟨a1, a2, a3⟩ := h2 j hj
    have hs := ex.size
    refine ⟨⟨?_, by omega⟩, ⟨?_, by omega⟩, ⟨?_, by omega⟩⟩
    · show (if _ then _ else _) = _
      rw [if_pos a1.2]; exact a1.1
    · show (if _ then _ else _) = _
      rw [if_pos a2.2]; exact a2.1
    · show (if _ then _ else _) = _
      rw [if_pos a3.2]; exact a3.1
/-- The law's state, behind the block B. -/
structure J9 (B : Nat) (w : World) (X : Nat) (S : St8) (most : Int) (c : Nat) : Prop where
  p : P8 w X S (.pointer none) (.pointer none) noM 0 0 most c
  nd : S.nd = 1
  nm : S.nm = 0
  wk : Ww w X S
  lo : ∀ i, S.every X i → B ≤ i
  hB : B ≤ w.heap.size
theorem J9.lt {B : Nat} {w : World} {X : Nat} {S : St8} {most : Int} {c : Nat} (h : J9 B w X S most c) : ∀ i, S.all X i → i < w.heap.size := fun i hi => h.p.lt i (.inl hi)
/-- The dictionaries were turned, by a call that is seen from the state S1, which has a machine perhaps. -/
theorem J9.turn {B : Nat} {w w' : World} {X : Nat} {S S' : St8} {most : Int} {c c' : Nat} (h : J9 B w X S most c) (hp : P8 w' X S' (.pointer none) (.pointer none) noM 0 0 most c') (nd : S'.nd = 1) (nm : S'.nm = 0) (fx : ∀ i, S'.all X i → S.all X i ∨ w.heap.size ≤ i) (ex : Ex (fun i => S.all X i ∨ mB (.pointer none) i ∨ mB (.pointer none) i) w w') (kw : S'.nw = S.nw) (ks : S'.ws = S.ws) (kd : (S'.ds 0).d = (S.ds 0).d ∧ (S'.ds 0).d2 = (S.ds 0).d2) : J9 B w' X S' most c' ∧ Below B w w' := by
  refine ⟨⟨hp, nd, nm, h.wk.turn h.lt fx ex kw ks kd, fun i hi => ?_, Nat.le_trans h.hB ex.size⟩, ⟨ex.os, ex.tape, ex.output, ex.size, fun i hi => ex.block i (Nat.lt_of_lt_of_le hi h.hB) (fun y => ?_)⟩⟩
  · rcases hi with y | ⟨j, hj, y⟩
    · exact (fx i y).elim (fun z => h.lo i (.inl z)) (fun z => Nat.le_trans h.hB z)
    · rw [kw] at hj
      rw [ks] at y
      exact h.lo i (.inr ⟨j, hj, y⟩)
  · rcases y with y | y | y
    · have := h.lo i (.inl y); omega
    · exact noneB y
    · exact noneB y
theorem J9.below {B : Nat} {w w' : World} {X : Nat} {S : St8} {most : Int} {c : Nat} (h : J9 B w X S most c) (hb : Below w.heap.size w w') : J9 B w' X S most c :=
  (h.turn (S' := S) (h.p.below mtOk_nil hb) h.nd h.nm (fun _ y => .inl y) (ex_of hb) rfl rfl ⟨rfl, rfl⟩).1
theorem J9.le {B : Nat} {w : World} {X : Nat} {S : St8} {most : Int} {c c' : Nat} (h : J9 B w X S most c) (hc : c ≤ c') : J9 B w X S most c' := ⟨h.p.le hc, h.nd, h.nm, h.wk, h.lo, h.hB⟩
/-- A call on the dictionary was made on both sides. -/
theorem J9.dict {B : Nat} {w w' : World} {X : Nat} {S : St8} {most : Int} {c : Nat} (h : J9 B w X S most c) (d : D8s w X S (.pointer none) (.pointer none) noM most (c + 1) 1 w') : ∃ S', J9 B w' X S' most (c + 1) ∧ Below B w w' := by
  obtain ⟨S', a', b', h1, h2, h3⟩ := d
  have e0 : S'.nd = 1 := h2.nd.trans h.nd
  have hb : ∀ i, i < S'.nd → Bp (S'.ds i) (c + 1) := fun i hi => h3 i c (h.p.dk i (by rw [e0] at hi; rw [h.nd]; exact hi)).bd
  exact ⟨S'.bare, h.turn (h1.p.bare hb) e0 rfl (fun i hi => h1.fx i (St8.bare_all hi)) h1.ex h2.nw h2.ws (h2.d 0)⟩
end Go.Proofs.YtejfmajbggmghaaGreat
namespace Go.Proofs.YtejfmajbggmghaaGreat
open Go.RowKit Go.WideShapes

/-- The live entries in order: where each stands. -/
theorem lvn_find (es : List En) : ∀ m, m ≤ es.length → ∀ i, i < (lvn es m).length → ∃ n, n < m ∧ (nth es n).live = true ∧ (lvn es n).length = i
  | 0, _, i, h => by simp [lvn] at h
  | m + 1, hm, i, h => by
    by_cases hi : i < (lvn es m).length
    · obtain ⟨n, h1, h2, h3⟩ := lvn_find es m (by omega) i hi
      exact ⟨n, by omega, h2, h3⟩
    · rw [lvn, List.length_append] at h
      cases hl : (nth es m).live with
      | true => rw [hl] at h; simp at h; exact ⟨m, by omega, hl, by omega⟩
      | false => rw [hl] at h; simp at h; omega
/-- Where the first live entry stands of which a test is true. -/
theorem live_first {es : List En} {i : Nat} (hi : i < (liveL es).length) : ∃ n, n < es.length ∧ (nth es n).live = true ∧ nth (liveL es) i = nth es n ∧ (∀ k, k < n → (nth es k).live = true → ∃ j, j < i ∧ nth (liveL es) j = nth es k) ∧ ∀ k, n < k → k < es.length → (nth es k).live = true → ∃ j, i < j ∧ j < (liveL es).length ∧ nth (liveL es) j = nth es k := by
  rw [← lvn_all] at hi ⊢
  obtain ⟨n, h1, h2, h3⟩ := lvn_find es _ (Nat.le_refl _) i hi
  refine ⟨n, h1, h2, by rw [← h3, live_at h1 h2], fun k hk hl => ⟨(lvn es k).length, by rw [← h3]; exact (lvn_at es hk hl).2.1, live_at (by omega) hl⟩, fun k hk hk2 hl => ⟨(lvn es k).length, by rw [← h3]; exact (lvn_at es hk h2).2.1, (lvn_at es hk2 hl).2.1, live_at hk2 hl⟩⟩
theorem live_each {es : List En} {k : Nat} (hk : k < es.length) (hl : (nth es k).live = true) : ∃ j, j < (liveL es).length ∧ nth (liveL es) j = nth es k := by
  rw [← lvn_all]
  exact ⟨(lvn es k).length, (lvn_at es hk hl).2.1, live_at hk hl⟩
/-- The test of the document's walk. -/
def tst (back begun : Bool) (last : Int) (e : En) : Prop := begun = false ∨ if back = true then e.birth < last else last < e.birth
theorem tst_told {back begun : Bool} {told last : Int} (h : Lk back told last begun) {e : En} (h0 : 0 ≤ e.birth) (h1 : e.birth < 9223372036854775807) : tst back begun last e ↔ if back = true then e.birth < told else told < e.birth := by
  unfold tst
  cases hb : begun with
  | false =>
    have := h.no hb
    rw [this]
    cases back with
    | true => simp; omega
    | false => simp; omega
  | true =>
    rw [h.yes hb]
    simp
theorem fdV_on {es : List En} {n : Nat} (hb : Born es n) (hn : n ≤ 100000) {begun : Bool} {told last : Int} (h : Lk false told last begun) {i : Nat} (hi : i < (liveL es).length) (hp : ∀ j, j < i → ¬ tst false begun last (nth (liveL es) j)) (ht : tst false begun last (nth (liveL es) i)) : FdV false es told (nth (liveL es) i) true := by
  obtain ⟨m, h1, h2, h3, h4, _⟩ := live_first hi
  refine .inl ⟨rfl, m, ?_, h3⟩
  have g := hb.at h1
  rw [h3, tst_told h g.1 (by omega)] at ht
  refine ⟨h1, h2, by simpa using ht, fun k hk hl => ?_⟩
  obtain ⟨j, hj, e⟩ := h4 k hk hl
  have q := hp j hj
  have g2 := hb.at (i := k) (by omega)
  rw [e, tst_told h g2.1 (by omega)] at q
  simpa using q
theorem fdV_off {es : List En} {n : Nat} (hb : Born es n) (hn : n ≤ 100000) {begun : Bool} {told last : Int} (h : Lk false told last begun) (hp : ∀ j, j < (liveL es).length → ¬ tst false begun last (nth (liveL es) j)) : FdV false es told En.zero false := by
  refine .inr ⟨rfl, rfl, fun k hk hl => ?_⟩
  obtain ⟨j, hj, e⟩ := live_each hk hl
  have q := hp j hj
  have g2 := hb.at hk
  rw [e, tst_told h g2.1 (by omega)] at q
  simpa using q
theorem fdV_on' {es : List En} {n : Nat} (hb : Born es n) (hn : n ≤ 100000) {begun : Bool} {told last : Int} (h : Lk true told last begun) {i : Nat} (hi : i < (liveL es).length) (hp : ∀ j, i < j → j < (liveL es).length → ¬ tst true begun last (nth (liveL es) j)) (ht : tst true begun last (nth (liveL es) i)) : FdV true es told (nth (liveL es) i) true := by
  obtain ⟨m, h1, h2, h3, _, h4⟩ := live_first hi
  refine .inl ⟨rfl, m, ?_, h3⟩
  have g := hb.at h1
  rw [h3, tst_told h g.1 (by omega)] at ht
  refine ⟨h1, h2, by simpa using ht, fun k hk hk2 hl => ?_⟩
  obtain ⟨j, hj, hj2, e⟩ := h4 k hk hk2 hl
  have q := hp j hj hj2
  have g2 := hb.at hk2
  rw [e, tst_told h g2.1 (by omega)] at q
  simpa using q
theorem fdV_off' {es : List En} {n : Nat} (hb : Born es n) (hn : n ≤ 100000) {begun : Bool} {told last : Int} (h : Lk true told last begun) (hp : ∀ j, j < (liveL es).length → ¬ tst true begun last (nth (liveL es) j)) : FdV true es told En.zero false := by
  refine .inr ⟨rfl, rfl, fun k hk hl => ?_⟩
  obtain ⟨j, hj, e⟩ := live_each hk hl
  have q := hp j hj
  have g2 := hb.at hk
  rw [e, tst_told h g2.1 (by omega)] at q
  simpa using q
theorem fdV_one {back : Bool} {es : List En} {told : Int} {x y : En} {a b : Bool} (h : FdV back es told x a) (g : FdV back es told y b) : x = y ∧ a = b := by
  rcases h with ⟨rfl, n, h1, rfl⟩ | ⟨rfl, rfl, h1⟩ <;> rcases g with ⟨rfl, m, g1, rfl⟩ | ⟨rfl, rfl, g1⟩
  · cases back with
    | true => rw [if_pos rfl] at h1 g1; rw [h1.uniq g1]; exact ⟨rfl, rfl⟩
    | false => simp only [Bool.false_eq_true, if_false] at h1 g1; rw [h1.uniq g1]; exact ⟨rfl, rfl⟩
  · exfalso
    cases back with
    | true => rw [if_pos rfl] at h1 g1; have := g1 n h1.1 h1.2.1; have := h1.2.2.1; omega
    | false => simp only [Bool.false_eq_true, if_false] at h1 g1; have := g1 n h1.1 h1.2.1; have := h1.2.2.1; omega
  · exfalso
    cases back with
    | true => rw [if_pos rfl] at h1 g1; have := h1 m g1.1 g1.2.1; have := g1.2.2.1; omega
    | false => simp only [Bool.false_eq_true, if_false] at h1 g1; have := h1 m g1.1 g1.2.1; have := g1.2.2.1; omega
  · exact ⟨rfl, rfl⟩
theorem lt6 {j : Nat} (h : j < 6) : j = 0 ∨ j = 1 ∨ j = 2 ∨ j = 3 ∨ j = 4 ∨ j = 5 := by omega
/-- tells: a pair. -/
def tlF (F : Nat → Value) (b : Int) : Nat → Value := fun x => if x = 3 then .int .i64 b else if x = 4 then .bool true else F x
set_option maxRecDepth 100000 in
set_option maxHeartbeats 4000000 in
theorem rtells {w : World} {k : Nat} {F : Nat → Value} (hK : Blk w k 6 F) (x0 : Bool) (x1 x2 x3 x4 : Int) :
    Calls Tryz.prog 42 #[.pointer (some ⟨k, 0, none⟩), .agg #[.bool x0, .int .i64 x1, .int .i64 x2, .int .i64 x3, .int .i64 x4]] w fun e w' => e = .returned (.tuple #[.agg #[.bool x0, .int .i64 x1, .int .i64 x2, .int .i64 x3, .int .i64 x4], .int .i64 0]) ∧ Blk w' k 6 (tlF F x4) ∧ Ex (fun i => i = k) w w' := by
  have lk := hK.lt (by omega)
  obtain ⟨w1, hw1⟩ : ∃ y, (w.alloc (.cells #[.bool x0, .int .i64 x1, .int .i64 x2, .int .i64 x3, .int .i64 x4] 48)).alloc (.cells #[.bool false, .int .i64 0, .int .i64 0, .int .i64 0, .int .i64 0] 48) = y := ⟨_, rfl⟩
  have hB1 : Below w.heap.size w w1 := by rw [← hw1]; exact ((Below.refl _ w).alloc (Nat.le_refl _) _).alloc (by simp) _
  have hX1 : Blk w1 w.heap.size 5 (fun j => #[Value.bool x0, .int .i64 x1, .int .i64 x2, .int .i64 x3, .int .i64 x4].getD j .nilFunc) := by
    rw [← hw1]
    exact (Blk.new w _ _).of ((Below.refl _ _).alloc (Nat.le_refl _) _) (by simp)
  have hZ1 : Blk w1 (w.heap.size + 1) 5 (fun j => #[Value.bool false, .int .i64 0, .int .i64 0, .int .i64 0, .int .i64 0].getD j .nilFunc) := by
    have h := Blk.new (w.alloc (.cells #[.bool x0, .int .i64 x1, .int .i64 x2, .int .i64 x3, .int .i64 x4] 48)) #[Value.bool false, .int .i64 0, .int .i64 0, .int .i64 0, .int .i64 0] 48
    rw [hw1] at h
    simpa using h
  have hK1 := hK.of hB1 (by omega)
  obtain ⟨w3, hw3⟩ : ∃ y, (w1.setCell ⟨k, 4, none⟩ (.bool true)).setCell ⟨k, 3, none⟩ (.int .i64 x4) = y := ⟨_, rfl⟩
  have hK3 : Blk w3 k 6 (tlF F x4) := by
    rw [← hw3]
    exact ((hK1.put 4 _).put 3 _).congr fun j hj => rfl
  have hne : ∀ i, i ≠ k → w3.heap[i]? = w1.heap[i]? := fun i hi => by rw [← hw3, Below.heap_setCell _ _ _ _ hi, Below.heap_setCell _ _ _ _ hi]
  have hX3 := hX1.same (hne _ (by omega))
  have hZ3 := hZ1.same (hne _ (by omega))
  have hE3 : Ex (fun i => i = k) w w3 := by
    rw [← hw3]
    have e0 : Ex (fun i => i = k) w w1 := ex_of hB1
    exact (e0.setCell (p := ⟨k, 4, none⟩) (fun _ => rfl) _).setCell (p := ⟨k, 3, none⟩) (fun _ => rfl) _
  have k4 := hK1.c 4 (by omega)
  have z4 := hK1.z 4
  have hK2 := hK1.put 4 (.bool true)
  have k3 : (w1.setCell ⟨k, 4, none⟩ (.bool true)).cell? ⟨k, 3, none⟩ = some (F 3) := hK2.c 3 (by omega)
  have z3 := hK2.z 3
  have hne2 : (w1.setCell ⟨k, 4, none⟩ (.bool true)).heap[w.heap.size]? = w1.heap[w.heap.size]? := Below.heap_setCell _ _ _ _ (by show w.heap.size ≠ k; omega)
  have x4c : (w1.setCell ⟨k, 4, none⟩ (.bool true)).cell? ⟨w.heap.size, 4, none⟩ = some (.int .i64 x4) := (hX1.same hne2).c 4 (by omega)
  have a0 := hX3.c 0 (by omega)
  have a1 := hX3.c 1 (by omega)
  have a2 := hX3.c 2 (by omega)
  have a3 := hX3.c 3 (by omega)
  have a4 := hX3.c 4 (by omega)
  have b0 := hZ3.c 0 (by omega)
  have b1 := hZ3.c 1 (by omega)
  have b2 := hZ3.c 2 (by omega)
  have b3 := hZ3.c 3 (by omega)
  have b4 := hZ3.c 4 (by omega)
  have y0 := hZ3.z 0
  have y1 := hZ3.z 1
  have y2 := hZ3.z 2
  have y3 := hZ3.z 3
  have y4 := hZ3.z 4
  have HR := Lib.hid (put5_blk hZ3 (.bool x0) (.int .i64 x1) (.int .i64 x2) (.int .i64 x3) (.int .i64 x4))
  have HKK := Lib.hid (hK3.same (put5_other w3 (w.heap.size + 1) (.bool x0) (.int .i64 x1) (.int .i64 x2) (.int .i64 x3) (.int .i64 x4) k (by omega)))
  have HE5 : Hid (Ex (fun i => i = k) w (put5 w3 (w.heap.size + 1) (.bool x0) (.int .i64 x1) (.int .i64 x2) (.int .i64 x3) (.int .i64 x4))) := put5_ex hE3 _ (fun h => absurd h (by omega)) _ _ _ _ _
  unfold put5 at HR HKK HE5
  have HW := Lib.hid hw1
  have HW3 := Lib.hid hw3
  clear hw1 hw3 hX1 hZ1 hK1 hK2 hK3 hX3 hZ3 hE3 hB1 hne hne2 hK
  go_enter Tryz.func42, Tryz.ntmps42
  go_upto_region 1 with fail
  rw [HW.out]
  go_upto_region 3 with fail
  rw [HW3.out]
  go_wp2_with fail
  generalize World.setCell (World.setCell (World.setCell (World.setCell (World.setCell w3 _ _) _ _) _ _) _ _) _ _ = w5 at *
  have o0 : w5.cell? ⟨w.heap.size + 1, 0, none⟩ = some (.bool x0) := HR.out.c 0 (by omega)
  have o1 : w5.cell? ⟨w.heap.size + 1, 1, none⟩ = some (.int .i64 x1) := HR.out.c 1 (by omega)
  have o2 : w5.cell? ⟨w.heap.size + 1, 2, none⟩ = some (.int .i64 x2) := HR.out.c 2 (by omega)
  have o3 : w5.cell? ⟨w.heap.size + 1, 3, none⟩ = some (.int .i64 x3) := HR.out.c 3 (by omega)
  have o4 : w5.cell? ⟨w.heap.size + 1, 4, none⟩ = some (.int .i64 x4) := HR.out.c 4 (by omega)
  refine bodyPost_ret (v := .tuple #[.agg #[.bool x0, .int .i64 x1, .int .i64 x2, .int .i64 x3, .int .i64 x4], .int .i64 0]) ?_ rfl ⟨rfl, HKK.out, HE5.out⟩
  simp [results, Tryz.results42, go_sem, o0, o1, o2, o3, o4]
set_option maxRecDepth 100000 in
/-- New. -/
theorem rsnew_any {w : World} {d g q : Nat} {ev : Value} {t : Tb} {mv : Value} {most : Int} {v : Nat} (hR : Rdc w d g q ev t mv most v) (back : Bool) :
    Calls Tryz.prog 17 #[.pointer (some ⟨d, 0, none⟩), .bool back] w fun e w' => ∃ k, e = .returned (.pointer (some ⟨k, 0, none⟩)) ∧ w.heap.size ≤ k ∧ Blk w' k 6 (rsF d (t.live : Int) back 0 false 0) ∧ Below w.heap.size w w' := by
  have C1 := rplen_any hR
  have h1 : ∀ W : World, (binOp .eql 28 (.pointer (some ⟨d, 0, none⟩)) (.pointer none)).run Tryz.prog W = .ok (.bool false) W := fun _ => by kernel_rfl
  clear hR
  go_enter Tryz.func17, Tryz.ntmps17
  go_wp2_with fail
  refine C1.mono ?_
  rintro e w1 ⟨rfl, rfl⟩
  clear C1
  generalize hTL : (t.live : Int) = tl at *
  obtain ⟨w2, hw2⟩ : ∃ y, w1.alloc (.cells #[.pointer (some ⟨d, 0, none⟩), .int .i64 tl, .bool back, .int .i64 0, .bool false, .int .i64 0] 99) = y := ⟨_, rfl⟩
  have hB2 : Below w1.heap.size w1 w2 := by rw [← hw2]; exact (Below.refl _ w1).alloc (Nat.le_refl _) _
  have hX2 : Blk w2 w1.heap.size 6 (rsF d tl back 0 false 0) := by
    rw [← hw2]
    refine (Blk.new w1 _ _).congr fun j hj => ?_
    rcases lt6 hj with rfl | rfl | rfl | rfl | rfl | rfl <;> rfl
  have HW2 := Lib.hid hw2
  clear hw2
  go_wp2
  rw [HW2.out]
  go_ret
  exact ⟨_, rfl, Nat.le_refl _, by rw [hTL]; exact hX2, hB2⟩
end Go.Proofs.YtejfmajbggmghaaGreat
