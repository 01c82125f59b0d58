/-
  Slots in memory: their row, their heap.
-/
import Derived.Test.YtjkpailkamafcaaGreatDoorSlMath
import Derived.Test.YtjkpailkamafcaaGreatDoorDtCopy
import Derived.Deep.RegionLaw
namespace Go.Proofs.YtjkpailkamafcaaGreatDoor
open Go.RowKit Go.WideShapes

/-- append onto a row of one's own, as one step of a region that draws. -/
theorem stepS_append_own {P : Program} {ops : Array Oper} {o : Oper} {a : Act} {w : World} {K : Act → World → Prop} {Q : Exit → Act → World → Prop} {E : Prop} (hgd : o.guard = none) (s x : Operand) (t : TypeId)
    (ho : o.op = .call { callee := .builtin .append, args := #[s, x], argTypes := #[t, t] })
    (base : Nat) (e : TypeId) (i : TypeInfo) (z : Value) (size bytes : Nat) (ht : P.underlying t = some (.slice e)) (hi : P.info? e = some i) (hz : i.zero = some z)
    (hsize : i.size = size) (hby : i.bytes = bytes) (hzs : z.cells.size = size) (hsz : 0 < size)
    (v : Value) (n : Nat) (xs : List Value) (hs : a.eval s = v) (hown : w.ownsRow base e size v n xs)
    (ad : Addr) (m c : Nat) (news : List Value) (hx : a.eval x = .slice (some ad) m c) (hl : news.length = m * size) (hnews : ∀ j u, news[j]? = some u → w.cell? (ad.add j) = some u) (h1 : ∀ u ∈ news, u.oneCell' = true)
    (h63 : n + m ≤ maxLen) (hbytes : (n + m) * bytes ≤ 140737488355328) (hbase : base ≤ w.heap.size)
    (h : ∀ v' w', w'.ownsRow base e size v' (n + m) (xs ++ news) → w.grownBy w' v.ownBlock → (v'.ownBlock = v.ownBlock ∨ v'.ownBlock = some w.heap.size) → K (a.put o.dst v') w') :
    if Region.wanted o (yielded ops a.tmps) = true then Oper.wp P o a w K Q else E := by
  have hw : Region.wanted o (yielded ops a.tmps) = true := by simp [Region.wanted, hgd]
  rw [if_pos hw]
  obtain ⟨v', w', hr, h2, h3, _, h5⟩ := run_append_own_at (P := P) w base t o.type e i z size bytes ht hi hz hsize hby hzs hsz v n xs hown ad m c news hl hnews h1 h63 hbytes hbase
  unfold Oper.wp execOp
  simp only [ho, resolve, invoke, builtin, Sem.run_bind, Sem.run_pure, Result.andThen_ok, List.map_toArray, List.map_cons, List.map_nil, hs, hx, hr]
  exact h v' w' h2 h3 h5
theorem wpListS_append_own {P : Program} {ops : Array Oper} {rest : List Oper} {o : Oper} {a : Act} {w : World} {Q : Exit → Act → World → Prop} (hgd : o.guard = none) (s x : Operand) (t : TypeId)
    (ho : o.op = .call { callee := .builtin .append, args := #[s, x], argTypes := #[t, t] })
    (base : Nat) (e : TypeId) (i : TypeInfo) (z : Value) (size bytes : Nat) (ht : P.underlying t = some (.slice e)) (hi : P.info? e = some i) (hz : i.zero = some z)
    (hsize : i.size = size) (hby : i.bytes = bytes) (hzs : z.cells.size = size) (hsz : 0 < size)
    (v : Value) (n : Nat) (xs : List Value) (hs : a.eval s = v) (hown : w.ownsRow base e size v n xs)
    (ad : Addr) (m c : Nat) (news : List Value) (hx : a.eval x = .slice (some ad) m c) (hl : news.length = m * size) (hnews : ∀ j u, news[j]? = some u → w.cell? (ad.add j) = some u) (h1 : ∀ u ∈ news, u.oneCell' = true)
    (h63 : n + m ≤ maxLen) (hbytes : (n + m) * bytes ≤ 140737488355328) (hbase : base ≤ w.heap.size)
    (h : ∀ v' w', w'.ownsRow base e size v' (n + m) (xs ++ news) → w.grownBy w' v.ownBlock → (v'.ownBlock = v.ownBlock ∨ v'.ownBlock = some w.heap.size) → wpList P ops Q rest (a.put o.dst v') w') : wpList P ops Q (o :: rest) a w := by
  refine wpList_plain hgd fun K hK => ?_
  obtain ⟨v', w', hr, h2, h3, _, h5⟩ := run_append_own_at (P := P) w base t o.type e i z size bytes ht hi hz hsize hby hzs hsz v n xs hown ad m c news hl hnews h1 h63 hbytes hbase
  unfold Oper.wp execOp
  simp only [ho, resolve, invoke, builtin, Sem.run_bind, Sem.run_pure, Result.andThen_ok, List.map_toArray, List.map_cons, List.map_nil, hs, hx, hr]
  exact hK _ _ (h v' w' h2 h3 h5)
theorem ownsS_shape {w : World} {B : Nat} {e : TypeId} {size n : Nat} {v : Value} {xs : List Value} (h : w.ownsRow B e size v n xs) : ∃ a cap, v = .slice a n cap := by
  rcases h.2 with ⟨rfl, rfl⟩ | ⟨g, cap, cur, rfl, _⟩
  · exact ⟨_, _, rfl⟩
  · exact ⟨_, _, rfl⟩
theorem ownsS_some {w : World} {B : Nat} {e : TypeId} {size n : Nat} {v : Value} {xs : List Value} (h : w.ownsRow B e size v n xs) (hn : 0 < n) : ∃ g cap, v = .slice (some ⟨g, 0, none⟩) n cap ∧ g < w.heap.size := by
  rcases h.2 with ⟨rfl, rfl⟩ | ⟨g, cap, cur, rfl, _, hh, _⟩
  · omega
  · exact ⟨g, cap, rfl, (Array.getElem?_eq_some_iff.1 hh).1⟩
theorem ownsS_same {w w' : World} {B : Nat} {e : TypeId} {size n : Nat} {v : Value} {xs : List Value} (h : w.ownsRow B e size v n xs) (he : ∀ k, v.ownBlock = some k → w'.heap[k]? = w.heap[k]?) : w'.ownsRow B e size v n xs := by
  refine ⟨h.1, ?_⟩
  rcases h.2 with h0 | ⟨g, cap, cur, rfl, h1, h2, h3⟩
  · exact .inl h0
  · exact .inr ⟨g, cap, cur, rfl, h1, (he g rfl).trans h2, h3⟩
/-- Fewer of a row. -/
theorem ownsS_cut {w : World} {B : Nat} {e : TypeId} {size n cap g : Nat} {xs : List Value} (h : w.ownsRow B e size (.slice (some ⟨g, 0, none⟩) n cap) n xs) (m : Nat) (hm : m ≤ n) : w.ownsRow B e size (.slice (some ⟨g, 0, none⟩) m cap) m (xs.take (m * size)) := by
  rcases h.2 with ⟨e, _⟩ | ⟨g', cap', cur, e, h1, h2, h3, h4, h5, h6⟩
  · cases e
  cases e
  have hms : m * size ≤ n * size := Nat.mul_le_mul_right _ hm
  refine ⟨by rw [List.length_take, h.1]; omega, .inr ⟨g, cap, cur, rfl, h1, h2, by omega, h4, h5, ?_⟩⟩
  rw [← h6, List.take_take, Nat.min_eq_left hms]

/-- Numbers as cells. -/
def ils (n : Nat) (f : Nat → Int) : List Value := (List.range n).map fun i => Value.int .i64 (f i)
theorem ils_len (n : Nat) (f : Nat → Int) : (ils n f).length = n := by simp [ils]
theorem ils_get (n : Nat) (f : Nat → Int) (i : Nat) (h : i < n) : (ils n f)[i]? = some (.int .i64 (f i)) := by simp [ils, h]
theorem ils_ext {n : Nat} {f f' : Nat → Int} (h : ∀ i, i < n → f i = f' i) : ils n f = ils n f' := by
  unfold ils
  apply List.map_congr_left
  intro i hi
  rw [h i (List.mem_range.1 hi)]
theorem ils_set (n : Nat) (f : Nat → Int) (i : Nat) (v : Int) : (ils n f).set i (.int .i64 v) = ils n (updI f i v) := by
  apply List.ext_getElem?
  intro k
  rw [List.getElem?_set]
  by_cases hk : k < n
  · rw [ils_get n _ k hk, ils_get n _ k hk, ils_len]
    unfold updI
    by_cases e : i = k
    · subst e
      simp [hk]
    · rw [if_neg e, if_neg (fun h => e h.symm)]
  · rw [List.getElem?_eq_none (by rw [ils_len]; omega), List.getElem?_eq_none (by rw [ils_len]; omega)]
    split
    · rw [if_neg (by rw [ils_len]; omega)]
    · rfl
theorem ils_snoc (n : Nat) (f : Nat → Int) (v : Int) : ils n f ++ [.int .i64 v] = ils (n + 1) (updI f n v) := by
  unfold ils
  rw [List.range_succ, List.map_append]
  congr 1
  · apply List.map_congr_left
    intro i hi
    have := List.mem_range.1 hi
    unfold updI
    rw [if_neg (by omega)]
  · simp [updI]
theorem ils_take (n m : Nat) (f : Nat → Int) (h : m ≤ n) : (ils n f).take m = ils m f := by
  apply List.ext_getElem?
  intro k
  rw [List.getElem?_take]
  by_cases hk : k < m
  · rw [if_pos hk, ils_get n f k (by omega), ils_get m f k hk]
  · rw [if_neg hk, List.getElem?_eq_none (by rw [ils_len]; omega)]
/-- Numbers in a row of their own. -/
def Hq (w : World) (v : Value) (n : Nat) (f : Nat → Int) : Prop := w.ownsRow 0 3 1 v n (ils n f)
theorem Hq.cell {w : World} {h n cap : Nat} {f : Nat → Int} (q : Hq w (.slice (some ⟨h, 0, none⟩) n cap) n f) (i : Nat) (hi : i < n) : w.cell? ⟨h, i, none⟩ = some (.int .i64 (f i)) := by
  have h0 : w.ownsRow 0 3 1 (.slice (some ⟨h, 0, none⟩) n cap) n (ils n f) := q
  rw [h0.cellAt i (by omega), ils_get n f i hi]
theorem Hq.frozen {w : World} {h n cap : Nat} {f : Nat → Int} (q : Hq w (.slice (some ⟨h, 0, none⟩) n cap) n f) (i : Nat) : w.frozen? ⟨h, i, none⟩ = false := by
  have h0 : w.ownsRow 0 3 1 (.slice (some ⟨h, 0, none⟩) n cap) n (ils n f) := q
  exact h0.frozenAt i
theorem Hq.le {w : World} {h n cap : Nat} {f : Nat → Int} (q : Hq w (.slice (some ⟨h, 0, none⟩) n cap) n f) : n ≤ cap := by
  rcases q.2 with ⟨e, _⟩ | ⟨g', cap', cur, e, h1, h2, h3, h4, h5, h6⟩
  · cases e
  · cases e
    exact h3
theorem Hq.put {w : World} {h n cap : Nat} {f : Nat → Int} (q : Hq w (.slice (some ⟨h, 0, none⟩) n cap) n f) (i : Nat) (x : Int) : Hq (w.setCell ⟨h, i, none⟩ (.int .i64 x)) (.slice (some ⟨h, 0, none⟩) n cap) n (updI f i x) := by
  have h0 : w.ownsRow 0 3 1 (.slice (some ⟨h, 0, none⟩) n cap) n (ils n f) := q
  have h1 := (h0.stored i (.int .i64 x)).1
  rw [ils_set] at h1
  exact h1
theorem Hq.ext {w : World} {v : Value} {n : Nat} {f f' : Nat → Int} (q : Hq w v n f) (h : ∀ i, i < n → f i = f' i) : Hq w v n f' := by
  unfold Hq at *
  rw [← ils_ext h]
  exact q
theorem Hq.same {w w' : World} {v : Value} {n : Nat} {f : Nat → Int} (q : Hq w v n f) (he : ∀ k, v.ownBlock = some k → w'.heap[k]? = w.heap[k]?) : Hq w' v n f := ownsS_same q he
theorem Hq.cut {w : World} {h n cap : Nat} {f : Nat → Int} (q : Hq w (.slice (some ⟨h, 0, none⟩) (n + 1) cap) (n + 1) f) : Hq w (.slice (some ⟨h, 0, none⟩) n cap) n f := by
  have := ownsS_cut q n (by omega)
  rw [Nat.mul_one, ils_take _ _ _ (by omega)] at this
  exact this

/-- A slot's two cells. -/
def enc2 (e : So) : List Value := [.bool e.taken, .int .i64 e.has]
def sol (ss : List So) : List Value := ss.flatMap enc2
theorem sol_len (ss : List So) : (sol ss).length = ss.length * 2 := by
  induction ss with
  | nil => rfl
  | cons e r ih => simp [sol, enc2] at ih ⊢; omega
theorem sol_app (a b : List So) : sol (a ++ b) = sol a ++ sol b := by simp [sol]
theorem sol_get (ss : List So) (n k : Nat) (hn : n < ss.length) (hk : k < 2) : (sol ss)[n * 2 + k]? = (enc2 (nts ss n))[k]? := by
  induction ss generalizing n with
  | nil => simp at hn
  | cons e r ih =>
    rw [show sol (e :: r) = enc2 e ++ sol r from rfl]
    match n, hn with
    | 0, _ =>
      rw [Nat.zero_mul, Nat.zero_add, List.getElem?_append_left (by simp [enc2]; omega)]
      simp [nts]
    | n + 1, hn =>
      rw [List.getElem?_append_right (by simp [enc2]; omega), show (n + 1) * 2 + k - (enc2 e).length = n * 2 + k by simp [enc2]; omega, ih n (by simpa using hn)]
      simp [nts]
theorem sol_set (ss : List So) (n k : Nat) (hn : n < ss.length) (hk : k < 2) (x : Value) (e' : So) (h : enc2 e' = (enc2 (nts ss n)).set k x) : (sol ss).set (n * 2 + k) x = sol (ss.set n e') := by
  induction ss generalizing n with
  | nil => simp at hn
  | cons e r ih =>
    match n, hn, h with
    | 0, _, h =>
      have h' : enc2 e' = (enc2 e).set k x := by simpa [nts] using h
      rw [show sol (e :: r) = enc2 e ++ sol r from rfl, Nat.zero_mul, Nat.zero_add, List.set_append_left _ _ (by simp [enc2]; omega), ← h', List.set_cons_zero]
      rfl
    | n + 1, hn, h =>
      have h' : enc2 e' = (enc2 (nts r n)).set k x := by simpa [nts] using h
      rw [show sol (e :: r) = enc2 e ++ sol r from rfl, List.set_append_right _ _ (by simp [enc2]; omega), show (n + 1) * 2 + k - (enc2 e).length = n * 2 + k by simp [enc2]; omega, ih n (by simpa using hn) h', List.set_cons_succ]
      rfl
theorem sol_one (ss : List So) : ∀ u ∈ sol ss, u.oneCell' = true := by
  intro u hu
  simp only [sol, List.mem_flatMap] at hu
  obtain ⟨e, _, h⟩ := hu
  simp [enc2] at h
  rcases h with rfl | rfl <;> rfl
/-- The blocks of slots. -/
def SX (g : Nat) (rv fv : Value) (k : Nat) : Prop := k = g ∨ rv.ownBlock = some k ∨ fv.ownBlock = some k
end Go.Proofs.YtjkpailkamafcaaGreatDoor
