/-
  append, copy and clear of rows of entries.
-/
import Derived.Test.YtjkpailkamafcaaGreatDoorEnMem
import Derived.Test.YtjkpailkamafcaaGreatDoorDtCopy
import Derived.Deep.RegionLaw
namespace Go.Proofs.YtjkpailkamafcaaGreatDoor
open Go.RowKit Go.WideShapes

/-- append onto a row of one's own, as one step of a region that draws. -/
theorem step_append_own {P : Program} {ops : Array Oper} {o : Oper} {a : Act} {w : World} {K : Act → World → Prop} {Q : Exit → Act → World → Prop} {E : Prop} (hgd : o.guard = none) (s x : Operand) (t : TypeId)
    (ho : o.op = .call { callee := .builtin .append, args := #[s, x], argTypes := #[t, t] })
    (base : Nat) (e : TypeId) (i : TypeInfo) (z : Value) (size bytes : Nat) (ht : P.underlying t = some (.slice e)) (hi : P.info? e = some i) (hz : i.zero = some z)
    (hsize : i.size = size) (hby : i.bytes = bytes) (hzs : z.cells.size = size) (hsz : 0 < size)
    (v : Value) (n : Nat) (xs : List Value) (hs : a.eval s = v) (hown : w.ownsRow base e size v n xs)
    (ad : Addr) (m c : Nat) (news : List Value) (hx : a.eval x = .slice (some ad) m c) (hl : news.length = m * size) (hnews : ∀ j u, news[j]? = some u → w.cell? (ad.add j) = some u) (h1 : ∀ u ∈ news, u.oneCell' = true)
    (h63 : n + m ≤ maxLen) (hbytes : (n + m) * bytes ≤ 140737488355328) (hbase : base ≤ w.heap.size)
    (h : ∀ v' w', w'.ownsRow base e size v' (n + m) (xs ++ news) → w.grownBy w' v.ownBlock → (v'.ownBlock = v.ownBlock ∨ v'.ownBlock = some w.heap.size) → K (a.put o.dst v') w') :
    if Region.wanted o (yielded ops a.tmps) = true then Oper.wp P o a w K Q else E := by
  have hw : Region.wanted o (yielded ops a.tmps) = true := by simp [Region.wanted, hgd]
  rw [if_pos hw]
  obtain ⟨v', w', hr, h2, h3, _, h5⟩ := run_append_own_at (P := P) w base t o.type e i z size bytes ht hi hz hsize hby hzs hsz v n xs hown ad m c news hl hnews h1 h63 hbytes hbase
  unfold Oper.wp execOp
  simp only [ho, resolve, invoke, builtin, Sem.run_bind, Sem.run_pure, Result.andThen_ok, List.map_toArray, List.map_cons, List.map_nil, hs, hx, hr]
  exact h v' w' h2 h3 h5
theorem ownsRow_shape {w : World} {B : Nat} {e : TypeId} {size n : Nat} {v : Value} {xs : List Value} (h : w.ownsRow B e size v n xs) : ∃ a cap, v = .slice a n cap := by
  rcases h.2 with ⟨rfl, rfl⟩ | ⟨g, cap, cur, rfl, _⟩
  · exact ⟨_, _, rfl⟩
  · exact ⟨_, _, rfl⟩
theorem enl_take (es : List En) : ∀ n, enl (es.take n) = (enl es).take (n * 5) := by
  induction es with
  | nil => intro n; simp [enl]
  | cons e r ih =>
    intro n
    match n with
    | 0 => simp [enl]
    | n + 1 =>
      rw [List.take_succ_cons, enl, enl, ih, show (n + 1) * 5 = (enc5 e).length + n * 5 by simp [enc5]; omega, List.take_length_add_append]
theorem enl_drop (es : List En) : ∀ n, enl (es.drop n) = (enl es).drop (n * 5) := by
  induction es with
  | nil => intro n; simp [enl]
  | cons e r ih =>
    intro n
    match n with
    | 0 => simp
    | n + 1 =>
      rw [List.drop_succ_cons, enl, ih, show (n + 1) * 5 = (enc5 e).length + n * 5 by simp [enc5]; omega, List.drop_length_add_append]
theorem but_setRow (w : World) (g : Nat) (cs : Array Value) : But g w (w.setRow g cs) := ⟨rfl, rfl, rfl, by simp [World.setRow], fun k _ hk => setRow_other w g k cs hk⟩
theorem splice_take {α : Type} (A cs : List α) (k N : Nat) (hk : k + cs.length ≤ N) (hN : N ≤ A.length) : (A.take k ++ cs ++ A.drop (k + cs.length)).take N = (A.take N).take k ++ cs ++ (A.take N).drop (k + cs.length) := by
  have h1 : (A.take k ++ cs).length = k + cs.length := by simp; omega
  rw [List.take_append, h1, List.take_of_length_le (by omega), List.take_take, Nat.min_eq_left (by omega), List.drop_take]
theorem Tryz.infoEn5 : (Tryz.prog.info? 312).map (·.size) = some 5 := by kernel_rfl
/-- copy of entries further down the same row. -/
theorem copy_en {w : World} {ge cap : Nat} {xs : List En} (h : Es w (.slice (some ⟨ge, 0, none⟩) xs.length cap) xs) (kept from_ m : Nat) (hk : kept ≤ from_) (hf : from_ + m ≤ xs.length) :
    ∃ w2, (∀ ty dCap sCap, (Builtin.copy_ #[196, 196] ty #[.slice (some ⟨ge, kept * 5, none⟩) (xs.length - kept) dCap, .slice (some ⟨ge, from_ * 5, none⟩) m sCap]).run Tryz.prog w = .ok (goInt (m : Nat)) w2) ∧
      Es w2 (.slice (some ⟨ge, 0, none⟩) xs.length cap) (xs.take kept ++ (xs.drop from_).take m ++ xs.drop (kept + m)) ∧ But ge w w2 := by
  have hmin : Nat.min m (xs.length - kept) = m := Nat.min_eq_left (by omega)
  have hlen : (xs.take kept ++ (xs.drop from_).take m ++ xs.drop (kept + m)).length = xs.length := by simp; omega
  by_cases h0 : m = 0
  · subst h0
    refine ⟨w, fun ty dCap sCap => ?_, ?_, But.refl _ _⟩
    · exact run_copy_wide0 w _ _ ty 312 5 _ _ _ _ _ _ Tryz.underlying196 Tryz.infoEn5 (by simp)
    · simpa using h
  · have h0' : w.ownsRow 0 312 5 (.slice (some ⟨ge, 0, none⟩) xs.length cap) xs.length (enl xs) := h
    rcases h.2 with ⟨e, _⟩ | ⟨g, cap', cur, e, h1, h2, h3, h4, h5, h6⟩
    · cases e
    cases e
    have hcs : (enl ((xs.drop from_).take m)).length = m * 5 := by rw [enl_len]; simp; omega
    have hA : xs.length * 5 ≤ cur.toList.length := by simp; rw [h5]; exact Nat.mul_le_mul_right 5 h3
    refine ⟨w.setRow ge (cur.toList.take (kept * 5) ++ enl ((xs.drop from_).take m) ++ cur.toList.drop (kept * 5 + (enl ((xs.drop from_).take m)).length)).toArray, fun ty dCap sCap => ?_, ?_, but_setRow _ _ _⟩
    · have := run_copy_wide (P := Tryz.prog) w 196 196 ty 312 5 ge (kept * 5) (xs.length - kept) dCap ⟨ge, from_ * 5, none⟩ m sCap cur 312 (enl ((xs.drop from_).take m)) Tryz.underlying196 Tryz.infoEn5 h2 (by rw [hcs, hmin]) ?_ ?_ (enl_one _)
      · rw [hmin] at this
        exact this
      · intro j v hj
        have hjl : j < m * 5 := by rw [← hcs]; exact (List.getElem?_eq_some_iff.1 hj).1
        have hc := h0'.cellAt (from_ * 5 + j) (by omega)
        rw [WideShapes.add_plain, hc, ← hj, enl_take, enl_drop, List.getElem?_take, if_pos hjl, List.getElem?_drop]
      · rw [hcs, ← Array.length_toList]
        omega
    · refine ⟨by rw [enl_len], .inr ⟨ge, cap, _, by rw [hlen], Nat.zero_le _, setRow_heap w ge _ _ _ _ h2, by rw [hlen]; exact h3, h4, ?_, ?_⟩⟩
      · simp [hcs]
        simp at hA
        omega
      · rw [hlen]
        rw [splice_take _ _ _ _ (by rw [hcs]; omega) hA, h6, enl_app, enl_app, hcs, enl_take xs, enl_drop xs, Nat.add_mul]
theorem Es.prefix {w : World} {ge cap : Nat} {xs : List En} (h : Es w (.slice (some ⟨ge, 0, none⟩) xs.length cap) xs) (kept : Nat) (hk : kept ≤ xs.length) : Es w (.slice (some ⟨ge, 0, none⟩) kept cap) (xs.take kept) := by
  rcases h.2 with ⟨e, _⟩ | ⟨g, cap', cur, e, h1, h2, h3, h4, h5, h6⟩
  · cases e
  cases e
  have hl : (xs.take kept).length = kept := by rw [List.length_take]; omega
  refine ⟨by rw [enl_len], .inr ⟨ge, cap, cur, by rw [hl], Nat.zero_le _, h2, by rw [hl]; omega, h4, h5, ?_⟩⟩
  rw [hl, enl_take, ← h6, List.take_take, Nat.min_eq_left (by omega)]
theorem zero_en (w : World) : (zeroValue 312).run Tryz.prog w = .ok (.agg #[.bool false, .int .i64 0, .int .i64 0, .int .i64 0, .int .i64 0]) w := by
  obtain ⟨i0, hi, hz0, hz1, hz2⟩ := info_parts Tryz.infoEn
  simp [zeroValue, typeInfo, hi, hz0]
/-- clear of what stands from kept on. -/
theorem clear_en {w : World} {ge cap : Nat} {xs : List En} (h : Es w (.slice (some ⟨ge, 0, none⟩) xs.length cap) xs) (kept : Nat) (hk : kept ≤ xs.length) :
    ∃ w2, (∀ ty c, 0 < xs.length - kept → (Builtin.clear_ #[196] ty #[.slice (some ⟨ge, kept * 5, none⟩) (xs.length - kept) c]).run Tryz.prog w = .ok (.tuple #[]) w2) ∧ (xs.length - kept = 0 → w2 = w) ∧
      Es w2 (.slice (some ⟨ge, 0, none⟩) kept cap) (xs.take kept) ∧ But ge w w2 := by
  by_cases h0 : xs.length - kept = 0
  · exact ⟨w, fun _ _ h => by omega, fun _ => rfl, h.prefix kept hk, But.refl _ _⟩
  · have hx := h.prefix kept hk
    rcases h.2 with ⟨e, _⟩ | ⟨g, cap', cur, e, h1, h2, h3, h4, h5, h6⟩
    · cases e
    cases e
    have hl : (xs.take kept).length = kept := by rw [List.length_take]; omega
    have hZ : (Builtin.zeroCells (Value.agg #[.bool false, .int .i64 0, .int .i64 0, .int .i64 0, .int .i64 0]).cells (xs.length - kept)).size = (xs.length - kept) * 5 := size_zeroCells _ _
    have hA : xs.length * 5 ≤ cur.toList.length := by simp; rw [h5]; exact Nat.mul_le_mul_right 5 h3
    have hfit : kept * 5 + (Builtin.zeroCells (Value.agg #[.bool false, .int .i64 0, .int .i64 0, .int .i64 0, .int .i64 0]).cells (xs.length - kept)).size ≤ cur.size := by
      rw [hZ, ← Array.length_toList]
      omega
    have h1c : ∀ v ∈ (Builtin.zeroCells (Value.agg #[.bool false, .int .i64 0, .int .i64 0, .int .i64 0, .int .i64 0]).cells (xs.length - kept)).toList, v.oneCell' = true := by
      intro v hv
      simp only [Builtin.zeroCells, Array.toList_map, List.mem_map] at hv
      obtain ⟨i, _, rfl⟩ := hv
      have : i % 5 = 0 ∨ i % 5 = 1 ∨ i % 5 = 2 ∨ i % 5 = 3 ∨ i % 5 = 4 := by omega
      have hs : (Value.agg #[.bool false, .int .i64 0, .int .i64 0, .int .i64 0, .int .i64 0]).cells.size = 5 := rfl
      rw [hs]
      rcases this with e | e | e | e | e <;> rw [e] <;> rfl
    refine ⟨_, fun ty c hpos => run_clear_wide (P := Tryz.prog) w 196 ty 312 _ Tryz.underlying196 zero_en ge (kept * 5) (xs.length - kept) c cur 312 h2 hfit h1c hpos, fun h => absurd h h0, ?_, but_setRow _ _ _⟩
    refine ⟨by rw [enl_len], .inr ⟨ge, cap, _, by rw [hl], Nat.zero_le _, setRow_heap w ge _ _ _ _ h2, by rw [hl]; omega, h4, ?_, ?_⟩⟩
    · simp [hZ]
      simp [hZ] at hfit
      omega
    · rw [hl, enl_take, ← h6]
      simp only [List.append_assoc]
      rw [List.take_append_of_le_length (by simp; omega), List.take_take, List.take_take, Nat.min_self, Nat.min_eq_left (by omega)]
/-- A builtin whose run is known, as one step of a region that draws. -/
theorem step_copy_run {P : Program} {ops : Array Oper} {o : Oper} {a : Act} {w w2 : World} {K : Act → World → Prop} {Q : Exit → Act → World → Prop} {E : Prop} (hgd : o.guard = none) (d s : Operand) (dT sT : TypeId)
    (ho : o.op = .call { callee := .builtin .copy, args := #[d, s], argTypes := #[dT, sT] }) (v1 v2 v : Value) (h1 : a.eval d = v1) (h2 : a.eval s = v2) (hrun : (Builtin.copy_ #[dT, sT] o.type #[v1, v2]).run P w = .ok v w2)
    (h : K (a.put o.dst v) w2) : if Region.wanted o (yielded ops a.tmps) = true then Oper.wp P o a w K Q else E := by
  have hw : Region.wanted o (yielded ops a.tmps) = true := by simp [Region.wanted, hgd]
  rw [if_pos hw]
  unfold Oper.wp
  simp [execOp, ho, resolve, invoke, builtin, h1, h2, hrun, Result.andThen]
  exact h
theorem wpList_copy_run' {P : Program} {ops : Array Oper} {rest : List Oper} {o : Oper} {a : Act} {w w2 : World} {Q : Exit → Act → World → Prop} (hgd : o.guard = none) (d s : Operand) (dT sT : TypeId)
    (ho : o.op = .call { callee := .builtin .copy, args := #[d, s], argTypes := #[dT, sT] }) (v1 v2 v : Value) (h1 : a.eval d = v1) (h2 : a.eval s = v2) (hrun : (Builtin.copy_ #[dT, sT] o.type #[v1, v2]).run P w = .ok v w2)
    (h : wpList P ops Q rest (a.put o.dst v) w2) : wpList P ops Q (o :: rest) a w := by
  refine wpList_plain hgd fun K hK => ?_
  unfold Oper.wp
  simp [execOp, ho, resolve, invoke, builtin, h1, h2, hrun, Result.andThen]
  exact hK _ _ h
theorem wpList_append_run {P : Program} {ops : Array Oper} {rest : List Oper} {o : Oper} {a : Act} {w w2 : World} {Q : Exit → Act → World → Prop} (hgd : o.guard = none) (d s : Operand) (dT sT : TypeId)
    (ho : o.op = .call { callee := .builtin .append, args := #[d, s], argTypes := #[dT, sT] }) (v1 v2 v : Value) (h1 : a.eval d = v1) (h2 : a.eval s = v2) (hrun : (Builtin.append_ #[dT, sT] o.type #[v1, v2]).run P w = .ok v w2)
    (h : wpList P ops Q rest (a.put o.dst v) w2) : wpList P ops Q (o :: rest) a w := by
  refine wpList_plain hgd fun K hK => ?_
  unfold Oper.wp
  simp [execOp, ho, resolve, invoke, builtin, h1, h2, hrun, Result.andThen]
  exact hK _ _ h
theorem wpList_clear_run {P : Program} {ops : Array Oper} {rest : List Oper} {o : Oper} {a : Act} {w w2 : World} {Q : Exit → Act → World → Prop} (hgd : o.guard = none) (d : Operand) (dT : TypeId)
    (ho : o.op = .call { callee := .builtin .clear, args := #[d], argTypes := #[dT] }) (v1 v : Value) (h1 : a.eval d = v1) (hrun : (Builtin.clear_ #[dT] o.type #[v1]).run P w = .ok v w2)
    (h : wpList P ops Q rest (a.put o.dst v) w2) : wpList P ops Q (o :: rest) a w := by
  refine wpList_plain hgd fun K hK => ?_
  unfold Oper.wp
  simp [execOp, ho, resolve, invoke, builtin, h1, hrun, Result.andThen]
  exact hK _ _ h
theorem enl_set (es : List En) (n k : Nat) (hn : n < es.length) (hk : k < 5) (x : Value) (e' : En) (h : enc5 e' = (enc5 (nth es n)).set k x) : (enl es).set (n * 5 + k) x = enl (es.set n e') := by
  induction es generalizing n with
  | nil => simp at hn
  | cons e r ih =>
    match n, hn, h with
    | 0, _, h =>
      have h' : enc5 e' = (enc5 e).set k x := by simpa [nth] using h
      rw [enl, Nat.zero_mul, Nat.zero_add, List.set_append_left _ _ (by simp [enc5]; omega), ← h', List.set_cons_zero, enl]
    | n + 1, hn, h =>
      have h' : enc5 e' = (enc5 (nth r n)).set k x := by simpa [nth] using h
      rw [enl, List.set_append_right _ _ (by simp [enc5]; omega), show (n + 1) * 5 + k - (enc5 e).length = n * 5 + k by simp [enc5]; omega, ih n (by simpa using hn) h', List.set_cons_succ, enl]
/-- One cell of a row of entries is turned. -/
theorem Es.put {w : World} {a : Option Addr} {cap ge : Nat} {es : List En} {l : Nat} (hl : l = es.length) (h : Es w (.slice (some ⟨ge, 0, none⟩) l cap) es) (n k : Nat) (hn : n < es.length) (hk : k < 5) (x : Value) (e' : En) (he : enc5 e' = (enc5 (nth es n)).set k x) (_ : a = some ⟨ge, 0, none⟩) : Es (w.setCell ⟨ge, n * 5 + k, none⟩ x) (.slice (some ⟨ge, 0, none⟩) l cap) (es.set n e') := by
  subst hl
  have h0 : w.ownsRow 0 312 5 (.slice (some ⟨ge, 0, none⟩) es.length cap) es.length (enl es) := h
  have h1 := (h0.stored (n * 5 + k) x).1
  rw [enl_set es n k hn hk x e' he] at h1
  unfold Es
  rw [List.length_set]
  exact h1
/-- An entry's five cells, emptied. -/
def zeroW (w : World) (ge n : Nat) : World := ((((w.setCell ⟨ge, n * 5, none⟩ (.bool false)).setCell ⟨ge, n * 5 + 1, none⟩ (.int .i64 0)).setCell ⟨ge, n * 5 + 2, none⟩ (.int .i64 0)).setCell ⟨ge, n * 5 + 3, none⟩ (.int .i64 0)).setCell ⟨ge, n * 5 + 4, none⟩ (.int .i64 0)
theorem zeroW_but (w : World) (ge n : Nat) : But ge w (zeroW w ge n) := by
  unfold zeroW
  exact (((((But.refl ge w).setCell _ _).setCell _ _).setCell _ _).setCell _ _).setCell _ _
theorem Es.zero {w : World} {ge cap : Nat} {es : List En} (h : Es w (.slice (some ⟨ge, 0, none⟩) es.length cap) es) (n : Nat) (hn : n < es.length) : Es (zeroW w ge n) (.slice (some ⟨ge, 0, none⟩) es.length cap) (es.set n En.zero) := by
  have e0 : Es (w.setCell ⟨ge, n * 5 + 0, none⟩ (.bool false)) (.slice (some ⟨ge, 0, none⟩) es.length cap) (es.set n ⟨false, (nth es n).hash, (nth es n).key, (nth es n).value, (nth es n).birth⟩) := Es.put rfl h n 0 hn (by decide) (.bool false) _ rfl rfl
  have sh : ∀ (es : List En) (e : En), n < es.length → nth (es.set n e) n = e := fun es e h => by rw [nth_set h, if_pos rfl]
  have e1 := Es.put (by simp) e0 n 1 (by simpa using hn) (by decide) (.int .i64 0) ⟨false, 0, (nth es n).key, (nth es n).value, (nth es n).birth⟩ (by rw [sh _ _ hn]; rfl) rfl
  rw [List.set_set] at e1
  have e2 := Es.put (by simp) e1 n 2 (by simpa using hn) (by decide) (.int .i64 0) ⟨false, 0, 0, (nth es n).value, (nth es n).birth⟩ (by rw [sh _ _ hn]; rfl) rfl
  rw [List.set_set] at e2
  have e3 := Es.put (by simp) e2 n 3 (by simpa using hn) (by decide) (.int .i64 0) ⟨false, 0, 0, 0, (nth es n).birth⟩ (by rw [sh _ _ hn]; rfl) rfl
  rw [List.set_set] at e3
  have e4 := Es.put (by simp) e3 n 4 (by simpa using hn) (by decide) (.int .i64 0) En.zero (by rw [sh _ _ hn]; rfl) rfl
  rw [List.set_set, Nat.add_zero] at e4
  exact e4
/-- An entry's five cells, emptied but for its birth. -/
def goneW (w : World) (ge n : Nat) (b : Int) : World := ((((w.setCell ⟨ge, n * 5, none⟩ (.bool false)).setCell ⟨ge, n * 5 + 1, none⟩ (.int .i64 0)).setCell ⟨ge, n * 5 + 2, none⟩ (.int .i64 0)).setCell ⟨ge, n * 5 + 3, none⟩ (.int .i64 0)).setCell ⟨ge, n * 5 + 4, none⟩ (.int .i64 b)
theorem goneW_but (w : World) (ge n : Nat) (b : Int) : But ge w (goneW w ge n b) := by
  unfold goneW
  exact (((((But.refl ge w).setCell _ _).setCell _ _).setCell _ _).setCell _ _).setCell _ _
theorem Es.goner {w : World} {ge cap : Nat} {es : List En} (h : Es w (.slice (some ⟨ge, 0, none⟩) es.length cap) es) (n : Nat) (hn : n < es.length) (b : Int) : Es (goneW w ge n b) (.slice (some ⟨ge, 0, none⟩) es.length cap) (es.set n (En.gone b)) := by
  have e0 : Es (w.setCell ⟨ge, n * 5 + 0, none⟩ (.bool false)) (.slice (some ⟨ge, 0, none⟩) es.length cap) (es.set n ⟨false, (nth es n).hash, (nth es n).key, (nth es n).value, (nth es n).birth⟩) := Es.put rfl h n 0 hn (by decide) (.bool false) _ rfl rfl
  have sh : ∀ (es : List En) (e : En), n < es.length → nth (es.set n e) n = e := fun es e h => by rw [nth_set h, if_pos rfl]
  have e1 := Es.put (by simp) e0 n 1 (by simpa using hn) (by decide) (.int .i64 0) ⟨false, 0, (nth es n).key, (nth es n).value, (nth es n).birth⟩ (by rw [sh _ _ hn]; rfl) rfl
  rw [List.set_set] at e1
  have e2 := Es.put (by simp) e1 n 2 (by simpa using hn) (by decide) (.int .i64 0) ⟨false, 0, 0, (nth es n).value, (nth es n).birth⟩ (by rw [sh _ _ hn]; rfl) rfl
  rw [List.set_set] at e2
  have e3 := Es.put (by simp) e2 n 3 (by simpa using hn) (by decide) (.int .i64 0) ⟨false, 0, 0, 0, (nth es n).birth⟩ (by rw [sh _ _ hn]; rfl) rfl
  rw [List.set_set] at e3
  have e4 := Es.put (by simp) e3 n 4 (by simpa using hn) (by decide) (.int .i64 b) (En.gone b) (by rw [sh _ _ hn]; rfl) rfl
  rw [List.set_set, Nat.add_zero] at e4
  exact e4
end Go.Proofs.YtjkpailkamafcaaGreatDoor
