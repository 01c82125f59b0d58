/-
  A Store's slots in memory: their row.
-/
import Derived.Test.YtjkpailkamafcaaGreatDoorEnMem
import Derived.Test.YtjkpailkamafcaaGreatDoorDtCopy
import Derived.Deep.RegionLaw
namespace Go.Proofs.YtjkpailkamafcaaGreatDoor
open Go.RowKit Go.WideShapes

namespace Sto
theorem i64_small {n : Int} (h0 : -9223372036854775808 ≤ n) (h1 : n ≤ 9223372036854775807) : IntKind.i64.wrap n = n := by
  rw [IntKind.wrap_i64]
  omega
/-- A value in a slot: an interface. -/
def iv : Option (TypeId × Addr) → Value
  | none => .nilIface
  | some (t, a) => .iface t (.pointer (some a))
/-- A slot. -/
structure So where
  taken : Bool
  has : Option (TypeId × Addr)
def nts (ss : List So) (i : Nat) : So := ss.getD i ⟨false, none⟩
theorem nts_set {ss : List So} {n : Nat} (h : n < ss.length) (e : So) (k : Nat) : nts (ss.set n e) k = if k = n then e else nts ss k := by
  unfold nts
  rw [List.getD_eq_getElem?_getD, List.getD_eq_getElem?_getD, List.getElem?_set]
  by_cases hk : k = n
  · subst hk
    simp [h]
  · rw [if_neg (fun e => hk e.symm), if_neg hk]
theorem nts_app (ss : List So) (e : So) (k : Nat) (h : k < ss.length) : nts (ss ++ [e]) k = nts ss k := by
  unfold nts
  rw [List.getD_eq_getElem?_getD, List.getD_eq_getElem?_getD, List.getElem?_append_left h]
theorem nts_new (ss : List So) (e : So) : nts (ss ++ [e]) ss.length = e := by
  unfold nts
  rw [List.getD_eq_getElem?_getD, List.getElem?_append_right (Nat.le_refl _)]
  simp
/-- How many slots are taken. -/
theorem wpListS_append_own {P : Program} {ops : Array Oper} {rest : List Oper} {o : Oper} {a : Act} {w : World} {Q : Exit → Act → World → Prop} (hgd : o.guard = none) (s x : Operand) (t : TypeId)
    (ho : o.op = .call { callee := .builtin .append, args := #[s, x], argTypes := #[t, t] })
    (base : Nat) (e : TypeId) (i : TypeInfo) (z : Value) (size bytes : Nat) (ht : P.underlying t = some (.slice e)) (hi : P.info? e = some i) (hz : i.zero = some z)
    (hsize : i.size = size) (hby : i.bytes = bytes) (hzs : z.cells.size = size) (hsz : 0 < size)
    (v : Value) (n : Nat) (xs : List Value) (hs : a.eval s = v) (hown : w.ownsRow base e size v n xs)
    (ad : Addr) (m c : Nat) (news : List Value) (hx : a.eval x = .slice (some ad) m c) (hl : news.length = m * size) (hnews : ∀ j u, news[j]? = some u → w.cell? (ad.add j) = some u) (h1 : ∀ u ∈ news, u.oneCell' = true)
    (h63 : n + m ≤ maxLen) (hbytes : (n + m) * bytes ≤ 140737488355328) (hbase : base ≤ w.heap.size)
    (h : ∀ v' w', w'.ownsRow base e size v' (n + m) (xs ++ news) → w.grownBy w' v.ownBlock → (v'.ownBlock = v.ownBlock ∨ v'.ownBlock = some w.heap.size) → wpList P ops Q rest (a.put o.dst v') w') : wpList P ops Q (o :: rest) a w := by
  refine wpList_plain hgd fun K hK => ?_
  obtain ⟨v', w', hr, h2, h3, _, h5⟩ := run_append_own_at (P := P) w base t o.type e i z size bytes ht hi hz hsize hby hzs hsz v n xs hown ad m c news hl hnews h1 h63 hbytes hbase
  unfold Oper.wp execOp
  simp only [ho, resolve, invoke, builtin, Sem.run_bind, Sem.run_pure, Result.andThen_ok, List.map_toArray, List.map_cons, List.map_nil, hs, hx, hr]
  exact hK _ _ (h v' w' h2 h3 h5)
theorem ownsS_shape {w : World} {B : Nat} {e : TypeId} {size n : Nat} {v : Value} {xs : List Value} (h : w.ownsRow B e size v n xs) : ∃ a cap, v = .slice a n cap := by
  rcases h.2 with ⟨rfl, rfl⟩ | ⟨g, cap, cur, rfl, _⟩
  · exact ⟨_, _, rfl⟩
  · exact ⟨_, _, rfl⟩
theorem ownsS_some {w : World} {B : Nat} {e : TypeId} {size n : Nat} {v : Value} {xs : List Value} (h : w.ownsRow B e size v n xs) (hn : 0 < n) : ∃ g cap, v = .slice (some ⟨g, 0, none⟩) n cap ∧ g < w.heap.size := by
  rcases h.2 with ⟨rfl, rfl⟩ | ⟨g, cap, cur, rfl, _, hh, _⟩
  · omega
  · exact ⟨g, cap, rfl, (Array.getElem?_eq_some_iff.1 hh).1⟩
theorem ownsS_same {w w' : World} {B : Nat} {e : TypeId} {size n : Nat} {v : Value} {xs : List Value} (h : w.ownsRow B e size v n xs) (he : ∀ k, v.ownBlock = some k → w'.heap[k]? = w.heap[k]?) : w'.ownsRow B e size v n xs := by
  refine ⟨h.1, ?_⟩
  rcases h.2 with h0 | ⟨g, cap, cur, rfl, h1, h2, h3⟩
  · exact .inl h0
  · exact .inr ⟨g, cap, cur, rfl, h1, (he g rfl).trans h2, h3⟩
/-- A slot's two cells. -/
def enc2 (e : So) : List Value := [.bool e.taken, iv e.has]
def sol (ss : List So) : List Value := ss.flatMap enc2
theorem sol_len (ss : List So) : (sol ss).length = ss.length * 2 := by
  induction ss with
  | nil => rfl
  | cons e r ih => simp [sol, enc2] at ih ⊢; omega
theorem sol_app (a b : List So) : sol (a ++ b) = sol a ++ sol b := by simp [sol]
theorem sol_get (ss : List So) (n k : Nat) (hn : n < ss.length) (hk : k < 2) : (sol ss)[n * 2 + k]? = (enc2 (nts ss n))[k]? := by
  induction ss generalizing n with
  | nil => simp at hn
  | cons e r ih =>
    rw [show sol (e :: r) = enc2 e ++ sol r from rfl]
    match n, hn with
    | 0, _ =>
      rw [Nat.zero_mul, Nat.zero_add, List.getElem?_append_left (by simp [enc2]; omega)]
      simp [nts]
    | n + 1, hn =>
      rw [List.getElem?_append_right (by simp [enc2]; omega), show (n + 1) * 2 + k - (enc2 e).length = n * 2 + k by simp [enc2]; omega, ih n (by simpa using hn)]
      simp [nts]
theorem sol_set (ss : List So) (n k : Nat) (hn : n < ss.length) (hk : k < 2) (x : Value) (e' : So) (h : enc2 e' = (enc2 (nts ss n)).set k x) : (sol ss).set (n * 2 + k) x = sol (ss.set n e') := by
  induction ss generalizing n with
  | nil => simp at hn
  | cons e r ih =>
    match n, hn, h with
    | 0, _, h =>
      have h' : enc2 e' = (enc2 e).set k x := by simpa [nts] using h
      rw [show sol (e :: r) = enc2 e ++ sol r from rfl, Nat.zero_mul, Nat.zero_add, List.set_append_left _ _ (by simp [enc2]; omega), ← h', List.set_cons_zero]
      rfl
    | n + 1, hn, h =>
      have h' : enc2 e' = (enc2 (nts r n)).set k x := by simpa [nts] using h
      rw [show sol (e :: r) = enc2 e ++ sol r from rfl, List.set_append_right _ _ (by simp [enc2]; omega), show (n + 1) * 2 + k - (enc2 e).length = n * 2 + k by simp [enc2]; omega, ih n (by simpa using hn) h', List.set_cons_succ]
      rfl
theorem sol_one (ss : List So) : ∀ u ∈ sol ss, u.oneCell' = true := by
  intro u hu
  simp only [sol, List.mem_flatMap] at hu
  obtain ⟨e, _, h⟩ := hu
  simp [enc2] at h
  rcases h with rfl | rfl
  · rfl
  · rcases e.has with _ | ⟨t, a⟩ <;> rfl
/-- Slots in a row of their own. -/
def Sr2 (w : World) (v : Value) (ss : List So) : Prop := w.ownsRow 0 190 2 v ss.length (sol ss)
theorem Sr2.same {w w' : World} {v : Value} {ss : List So} (q : Sr2 w v ss) (he : ∀ k, v.ownBlock = some k → w'.heap[k]? = w.heap[k]?) : Sr2 w' v ss := ownsS_same q he
theorem Sr2.len {w : World} {h n cap : Nat} {ss : List So} (q : Sr2 w (.slice (some ⟨h, 0, none⟩) n cap) ss) : n = ss.length := by
  rcases q.2 with ⟨e, _⟩ | ⟨g', cap', cur, e, h1, h2, h3, h4, h5, h6⟩
  · cases e
  · cases e
    rfl
theorem Sr2.c0 {w : World} {h n cap : Nat} {ss : List So} (q : Sr2 w (.slice (some ⟨h, 0, none⟩) n cap) ss) (i : Nat) (hi : i < ss.length) : w.cell? ⟨h, i * 2, none⟩ = some (.bool (nts ss i).taken) := by
  obtain rfl := q.len
  have h0 : w.ownsRow 0 190 2 (.slice (some ⟨h, 0, none⟩) ss.length cap) ss.length (sol ss) := q
  have := h0.cellAt (i * 2 + 0) (by omega)
  rw [sol_get ss i 0 hi (by omega)] at this
  exact this
theorem Sr2.c1 {w : World} {h n cap : Nat} {ss : List So} (q : Sr2 w (.slice (some ⟨h, 0, none⟩) n cap) ss) (i : Nat) (hi : i < ss.length) : w.cell? ⟨h, i * 2 + 1, none⟩ = some (iv (nts ss i).has) := by
  obtain rfl := q.len
  have h0 : w.ownsRow 0 190 2 (.slice (some ⟨h, 0, none⟩) ss.length cap) ss.length (sol ss) := q
  have := h0.cellAt (i * 2 + 1) (by omega)
  rw [sol_get ss i 1 hi (by omega)] at this
  exact this
theorem Sr2.frozen {w : World} {h n cap : Nat} {ss : List So} (q : Sr2 w (.slice (some ⟨h, 0, none⟩) n cap) ss) (i : Nat) : w.frozen? ⟨h, i, none⟩ = false := by
  obtain rfl := q.len
  have h0 : w.ownsRow 0 190 2 (.slice (some ⟨h, 0, none⟩) ss.length cap) ss.length (sol ss) := q
  exact h0.frozenAt i
theorem Sr2.put0 {w : World} {h n cap : Nat} {ss : List So} (q : Sr2 w (.slice (some ⟨h, 0, none⟩) n cap) ss) (i : Nat) (hi : i < ss.length) (b : Bool) : Sr2 (w.setCell ⟨h, i * 2, none⟩ (.bool b)) (.slice (some ⟨h, 0, none⟩) n cap) (ss.set i ⟨b, (nts ss i).has⟩) := by
  obtain rfl := q.len
  have h0 : w.ownsRow 0 190 2 (.slice (some ⟨h, 0, none⟩) ss.length cap) ss.length (sol ss) := q
  have h1 := (h0.stored (i * 2 + 0) (.bool b)).1
  rw [sol_set ss i 0 hi (by omega) _ ⟨b, (nts ss i).has⟩ rfl] at h1
  unfold Sr2
  rw [List.length_set]
  exact h1
theorem Sr2.put1 {w : World} {h n cap : Nat} {ss : List So} (q : Sr2 w (.slice (some ⟨h, 0, none⟩) n cap) ss) (i : Nat) (hi : i < ss.length) (x : TypeId × Addr) : Sr2 (w.setCell ⟨h, i * 2 + 1, none⟩ (iv (some x))) (.slice (some ⟨h, 0, none⟩) n cap) (ss.set i ⟨(nts ss i).taken, some x⟩) := by
  obtain rfl := q.len
  have h0 : w.ownsRow 0 190 2 (.slice (some ⟨h, 0, none⟩) ss.length cap) ss.length (sol ss) := q
  have h1 := (h0.stored (i * 2 + 1) (iv (some x))).1
  rw [sol_set ss i 1 hi (by omega) _ ⟨(nts ss i).taken, some x⟩ rfl] at h1
  unfold Sr2
  rw [List.length_set]
  exact h1
theorem Sr2.both {w : World} {h n cap : Nat} {ss : List So} (q : Sr2 w (.slice (some ⟨h, 0, none⟩) n cap) ss) (i : Nat) (hi : i < ss.length) (b : Bool) (x : TypeId × Addr) : Sr2 ((w.setCell ⟨h, i * 2, none⟩ (.bool b)).setCell ⟨h, i * 2 + 1, none⟩ (iv (some x))) (.slice (some ⟨h, 0, none⟩) n cap) (ss.set i ⟨b, some x⟩) := by
  have := (q.put0 i hi b).put1 i (by simpa using hi) x
  rw [List.set_set, nts_set hi, if_pos rfl] at this
  exact this
theorem infoVs : (Tryz.prog.info? 190).map (fun i => (i.zero, i.size, i.bytes)) = some (some (.agg #[.bool false, .nilIface]), 2, 24) := by kernel_rfl

end Sto
end Go.Proofs.YtjkpailkamafcaaGreatDoor
