/-
  What a table's calls make of it, as the document has it. No program.
-/
import Derived.Test.YtjkpailkamafcaaGreatDoorTbInv
namespace Go.Proofs.YtjkpailkamafcaaGreatDoor

/-- A table, as the document has it. -/
structure Tb where
  es : List En
  L : Nat
  c : Nat → Int
  births : Nat
  made : Nat
  turn : Nat
def Tb.live (t : Tb) : Nat := t.es.length - deadN t.es
/-- The live entries, in their order. -/
def liveL : List En → List En
  | [] => []
  | e :: r => if e.live = true then e :: liveL r else liveL r
theorem liveL_app (a b : List En) : liveL (a ++ b) = liveL a ++ liveL b := by
  induction a with
  | nil => rfl
  | cons e r ih =>
    rw [List.cons_append, liveL, liveL, ih]
    by_cases h : e.live = true
    · rw [if_pos h, if_pos h, List.cons_append]
    · rw [if_neg h, if_neg h]
theorem liveL_len (es : List En) : (liveL es).length + deadN es = es.length := by
  induction es with
  | nil => rfl
  | cons e r ih =>
    rw [liveL, deadN, List.length_cons]
    by_cases h : e.live = true
    · rw [if_pos h, if_pos h, List.length_cons]; omega
    · rw [if_neg h, if_neg h]; omega
theorem liveL_live (es : List En) : ∀ e ∈ liveL es, e.live = true := by
  induction es with
  | nil => intro e h; simp [liveL] at h
  | cons x r ih =>
    intro e h
    rw [liveL] at h
    by_cases hx : x.live = true
    · rw [if_pos hx] at h
      rcases List.mem_cons.1 h with rfl | h
      · exact hx
      · exact ih e h
    · rw [if_neg hx] at h
      exact ih e h
theorem nth_mem {es : List En} {n : Nat} (h : n < es.length) : nth es n ∈ es := by
  unfold nth
  rw [List.getD_eq_getElem?_getD, List.getElem?_eq_getElem h, Option.getD_some]
  exact List.getElem_mem h
theorem liveL_nth (es : List En) (n : Nat) (h : n < (liveL es).length) : (nth (liveL es) n).live = true := liveL_live es _ (nth_mem h)
theorem take_succ_nth {es : List En} {k : Nat} (h : k < es.length) : es.take (k + 1) = es.take k ++ [nth es k] := by
  rw [List.take_succ_eq_append_getElem h]
  unfold nth
  rw [List.getD_eq_getElem?_getD, List.getElem?_eq_getElem h, Option.getD_some]
theorem liveL_take {es : List En} {k : Nat} (h : k < es.length) : liveL (es.take (k + 1)) = if (nth es k).live = true then liveL (es.take k) ++ [nth es k] else liveL (es.take k) := by
  rw [take_succ_nth h, liveL_app]
  by_cases x : (nth es k).live = true
  · rw [if_pos x, liveL, if_pos x, liveL]
  · rw [if_neg x, liveL, if_neg x, liveL, List.append_nil]
theorem deadN_live (es : List En) (h : ∀ e ∈ es, e.live = true) : deadN es = 0 := by
  induction es with
  | nil => rfl
  | cons e r ih => rw [deadN, ih fun x hx => h x (List.mem_cons_of_mem _ hx), if_pos (h e (List.mem_cons_self ..))]
theorem Tb.live_eq (t : Tb) : t.live = (liveL t.es).length := by
  have := liveL_len t.es
  unfold Tb.live
  omega
/-- The place of the first empty cell. -/
noncomputable def fidx (c : Nat → Int) (h L : Nat) : Nat := Classical.epsilon (IsF c h L)
theorem fidx_is {c : Nat → Int} {h L : Nat} (e : ∃ i, IsF c h L i) : IsF c h L (fidx c h L) := Classical.epsilon_spec e
theorem fidx_eq {c : Nat → Int} {h L i : Nat} (a : IsF c h L i) : fidx c h L = i := (fidx_is ⟨i, a⟩).uniq a
/-- A number laid. -/
noncomputable def layc (c : Nat → Int) (L : Nat) (u : Int) (n : Nat) : Nat → Int := upd c (trl (uw u) L (fidx c (uw u) L)) (n : Int)
/-- The first k of these entries laid, in their order. -/
noncomputable def layN (es : List En) (L : Nat) : Nat → (Nat → Int)
  | 0 => fun _ => -1
  | k + 1 => layc (layN es L k) L (nth es k).hash k
theorem layN_inv (es : List En) (L : Nat) (hl : ∀ n, n < es.length → (nth es n).live = true) (hr : es.length ≤ rm (2 ^ L)) : ∀ k, k ≤ es.length → Inv (es.take k) L (layN es L k) := by
  intro k
  induction k with
  | zero => intro _; rw [List.take_zero]; exact Inv.nil L
  | succ k ih =>
    intro hk
    have h := ih (by omega)
    obtain ⟨i, _, hi⟩ := h.first (nth es k).hash
    have hlen : (es.take k).length = k := by rw [List.length_take]; omega
    have h2 := h.lay (nth es k) (hl k (by omega)) (by omega) hi
    rw [hlen] at h2
    rw [take_succ_nth (by omega), layN, layc, fidx_eq hi]
    exact h2
/-- A new index table: the dead entries are dropped, the live ones laid anew. -/
noncomputable def Tb.re (t : Tb) (log : Nat) : Tb := { t with es := liveL t.es, L := log, c := layN (liveL t.es) log (liveL t.es).length, made := t.made + 1 }
/-- An entry more. -/
noncomputable def Tb.push (t : Tb) (u k v : Int) : Tb := { t with es := t.es ++ [⟨true, u, k, v, (t.births : Int)⟩], c := layc t.c t.L u t.es.length, births := t.births + 1, turn := t.turn + 1 }
/-- The least log from l on, within so many, for which 2 ^ log is three times n or more. -/
def glogF (n : Nat) : Nat → Nat → Nat
  | 0, l => l
  | f + 1, l => if 2 ^ l < 3 * n then glogF n f (l + 1) else l
def glog (n : Nat) : Nat := glogF n 20 3
theorem glogF_step (n : Nat) : ∀ f l, 2 ^ (l + f) ≥ 3 * n → glogF n f l ≤ l + f ∧ l ≤ glogF n f l ∧ ¬ 2 ^ glogF n f l < 3 * n ∧ ∀ j, l ≤ j → j < glogF n f l → 2 ^ j < 3 * n := by
  intro f
  induction f with
  | zero => intro l h; simp only [glogF]; exact ⟨by omega, by omega, by simpa using h, fun j h1 h2 => by omega⟩
  | succ f ih =>
    intro l h
    rw [glogF]
    by_cases e : 2 ^ l < 3 * n
    · rw [if_pos e]
      obtain ⟨h1, h2, h3, h4⟩ := ih (l + 1) (by rw [show l + 1 + f = l + (f + 1) by omega]; exact h)
      refine ⟨by omega, by omega, h3, fun j h5 h6 => ?_⟩
      rcases Nat.lt_or_ge l j with x | x
      · exact h4 j (by omega) h6
      · rw [show j = l by omega]; exact e
    · rw [if_neg e]
      exact ⟨by omega, by omega, e, fun j h1 h2 => by omega⟩
theorem glog_eq {n l : Nat} (hn : n ≤ 300000) (h3 : 3 ≤ l) (h1 : ¬ 2 ^ l < 3 * n) (h2 : ∀ j, 3 ≤ j → j < l → 2 ^ j < 3 * n) : glog n = l := by
  obtain ⟨a1, a2, a3, a4⟩ := glogF_step n 20 3 (Nat.le_trans (by omega : 3 * n ≤ 2 ^ 20) (by decide))
  unfold glog
  rcases Nat.lt_trichotomy (glogF n 20 3) l with e | e | e
  · exact absurd (h2 _ a2 e) a3
  · exact e
  · exact absurd (a4 l h3 e) h1
theorem glog_ok {n : Nat} (hn : n ≤ 300000) : 3 ≤ glog n ∧ glog n ≤ 20 ∧ 3 * n ≤ 2 ^ glog n := by
  obtain ⟨a1, a2, a3, a4⟩ := glogF_step n 20 3 (Nat.le_trans (by omega : 3 * n ≤ 2 ^ 20) (by decide))
  refine ⟨a2, ?_, Nat.le_of_not_lt a3⟩
  rcases Nat.lt_or_ge 20 (glog n) with e | e
  · have h1 := a4 20 (by omega) e
    have h2 : (2 : Nat) ^ 20 = 1048576 := by decide
    omega
  · exact e
noncomputable def Tb.add (t : Tb) (u k v : Int) : Tb := (if t.es.length < rm (2 ^ t.L) then t else t.re (glog t.live)).push u k v
/-- What always holds of a table. -/
structure Tb.Ok (t : Tb) : Prop where
  inv : Inv t.es t.L t.c
  sz : 3 ≤ t.L ∧ t.L ≤ 20
  few : t.es.length ≤ t.births
  all : t.births ≤ 100000
theorem Tb.live_le (t : Tb) : t.live ≤ t.es.length := by unfold Tb.live; omega
theorem Tb.Ok.re {t : Tb} (h : t.Ok) {log : Nat} (h3 : 3 ≤ log) (h20 : log ≤ 20) (hr : t.live ≤ rm (2 ^ log)) : (t.re log).Ok := by
  have h1 := t.live_eq
  have h2 := t.live_le
  refine ⟨?_, ⟨h3, h20⟩, ?_, h.all⟩
  · have := layN_inv (liveL t.es) log (fun n hn => liveL_nth _ n hn) (by omega) (liveL t.es).length (Nat.le_refl _)
    rw [List.take_length] at this
    exact this
  · have := h.few
    show (liveL t.es).length ≤ t.births
    omega
theorem Tb.Ok.push {t : Tb} (h : t.Ok) (u k v : Int) (hr : t.es.length < rm (2 ^ t.L)) (hb : t.births < 100000) : (t.push u k v).Ok := by
  obtain ⟨i, _, hi⟩ := h.inv.first u
  refine ⟨?_, h.sz, ?_, by show t.births + 1 ≤ 100000; omega⟩
  · have := h.inv.lay ⟨true, u, k, v, (t.births : Int)⟩ rfl hr hi
    show Inv (t.es ++ [_]) t.L (layc t.c t.L u t.es.length)
    rw [layc, fidx_eq hi]
    exact this
  · have := h.few
    show (t.es ++ [_]).length ≤ t.births + 1
    simp
    exact this
theorem grow_room {n : Nat} (hn : n ≤ 300000) : n < rm (2 ^ glog n) := by
  obtain ⟨h1, _, h3⟩ := glog_ok hn
  have h4 : 8 ≤ 2 ^ glog n := Nat.le_trans (by decide) (Nat.pow_le_pow_right (n := 2) (by decide) h1)
  unfold rm
  omega
theorem Tb.Ok.add {t : Tb} (h : t.Ok) (u k v : Int) (hb : t.births < 100000) : (t.add u k v).Ok := by
  unfold Tb.add
  have hl : t.live ≤ 300000 := by have := t.live_le; have := h.few; omega
  by_cases e : t.es.length < rm (2 ^ t.L)
  · rw [if_pos e]
    exact h.push u k v e hb
  · rw [if_neg e]
    obtain ⟨h1, h2, _⟩ := glog_ok hl
    have hr := grow_room hl
    exact (h.re h1 h2 (by omega)).push u k v (by show (liveL t.es).length < _; rw [← t.live_eq]; exact hr) hb
/-- The entry of that number is live. -/
def Tb.has (t : Tb) (n : Int) : Prop := 0 ≤ n ∧ n < (t.es.length : Int) ∧ (nth t.es n.toNat).live = true
noncomputable def Tb.kill (t : Tb) (n : Nat) : Tb := { t with es := t.es.set n (En.gone (nth t.es n).birth), c := killc t.c n, turn := t.turn + 1 }
/-- The same, where a dead entry keeps nothing. -/
noncomputable def Tb.killz (t : Tb) (n : Nat) : Tb := { t with es := t.es.set n En.zero, c := killc t.c n, turn := t.turn + 1 }
def Tb.putv (t : Tb) (n : Nat) (v : Int) : Tb := { t with es := t.es.set n ⟨(nth t.es n).live, (nth t.es n).hash, (nth t.es n).key, v, (nth t.es n).birth⟩ }
def Tb.clear (t : Tb) : Tb := { t with es := [], L := 3, c := fun _ => -1, made := t.made + 1, turn := t.turn + 1 }
theorem Tb.Ok.kill {t : Tb} (h : t.Ok) (n : Nat) (hn : n < t.es.length) (hl : (nth t.es n).live = true) : (t.kill n).Ok :=
  ⟨h.inv.kill' n hn hl _ rfl, h.sz, by show (t.es.set n _).length ≤ _; rw [List.length_set]; exact h.few, h.all⟩
theorem Tb.Ok.killz {t : Tb} (h : t.Ok) (n : Nat) (hn : n < t.es.length) (hl : (nth t.es n).live = true) : (t.killz n).Ok :=
  ⟨h.inv.kill n hn hl, h.sz, by show (t.es.set n En.zero).length ≤ _; rw [List.length_set]; exact h.few, h.all⟩
theorem Tb.Ok.putv {t : Tb} (h : t.Ok) (n : Nat) (hn : n < t.es.length) (hl : (nth t.es n).live = true) (v : Int) : (t.putv n v).Ok :=
  ⟨h.inv.put n hn hl _ hl rfl, h.sz, by show (t.es.set n _).length ≤ _; rw [List.length_set]; exact h.few, h.all⟩
theorem Tb.Ok.clear {t : Tb} (h : t.Ok) : t.clear.Ok := ⟨Inv.nil 3, by show 3 ≤ 3 ∧ 3 ≤ 20; omega, Nat.zero_le _, h.all⟩
theorem Tb.live_pos {t : Tb} (n : Nat) (hl : (nth t.es n).live = true) : 1 ≤ t.live := by
  have h1 := deadN_kill t.es n hl
  have h2 := deadN_le (t.es.set n En.zero)
  rw [List.length_set] at h2
  unfold Tb.live
  omega
theorem Tb.live_kill {t : Tb} (n : Nat) (hl : (nth t.es n).live = true) : (t.kill n).live = t.live - 1 := by
  show (t.es.set n (En.gone (nth t.es n).birth)).length - deadN (t.es.set n (En.gone (nth t.es n).birth)) = _
  rw [List.length_set, deadN_kill' t.es n _ rfl hl]
  unfold Tb.live
  omega
theorem Tb.live_killz {t : Tb} (n : Nat) (hl : (nth t.es n).live = true) : (t.killz n).live = t.live - 1 := by
  show (t.es.set n En.zero).length - deadN (t.es.set n En.zero) = _
  rw [List.length_set, deadN_kill t.es n hl]
  unfold Tb.live
  omega
theorem Tb.live_push (t : Tb) (u k v : Int) : (t.push u k v).live = t.live + 1 := by
  show (t.es ++ [_]).length - deadN (t.es ++ [_]) = _
  have h1 := deadN_le t.es
  rw [deadN_app]
  simp [deadN]
  unfold Tb.live
  omega
end Go.Proofs.YtjkpailkamafcaaGreatDoor
