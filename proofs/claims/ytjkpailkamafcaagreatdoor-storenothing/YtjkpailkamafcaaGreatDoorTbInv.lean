/-
  A table's entries and cells: what always holds of them, and that laying, killing and putting keep it. No program.
-/
import Derived.Test.YtjkpailkamafcaaGreatDoorTbCnt
namespace Go.Proofs.YtjkpailkamafcaaGreatDoor

/-- An entry. -/
structure En where
  live : Bool
  hash : Int
  key : Int
  value : Int
  birth : Int
def En.zero : En := ⟨false, 0, 0, 0, 0⟩
/-- A dead entry: nothing but its birth. -/
def En.gone (b : Int) : En := ⟨false, 0, 0, 0, b⟩
/-- What is told of an entry: of a dead one nothing. -/
def En.shown (e : En) : En := if e.live = true then e else En.zero
theorem En.shown_live {e : En} (h : e.live = true) : e.shown = e := if_pos h
theorem En.shown_dead {e : En} (h : e.live = false) : e.shown = En.zero := if_neg (by rw [h]; decide)
theorem En.shown_is (e : En) : e.shown.live = e.live := by
  unfold En.shown
  by_cases h : e.live = true
  · rw [if_pos h]
  · rw [if_neg h]
    simp at h
    rw [h]
    rfl
def nth (es : List En) (n : Nat) : En := es.getD n En.zero
theorem nth_app_lt {es : List En} {e : En} {n : Nat} (h : n < es.length) : nth (es ++ [e]) n = nth es n := by
  unfold nth
  rw [List.getD_eq_getElem?_getD, List.getD_eq_getElem?_getD, List.getElem?_append_left h]
theorem nth_app_eq (es : List En) (e : En) : nth (es ++ [e]) es.length = e := by
  unfold nth
  rw [List.getD_eq_getElem?_getD, List.getElem?_append_right (Nat.le_refl _)]
  simp
theorem nth_set {es : List En} {e : En} {n m : Nat} (h : n < es.length) : nth (es.set n e) m = if m = n then e else nth es m := by
  unfold nth
  rw [List.getD_eq_getElem?_getD, List.getD_eq_getElem?_getD, List.getElem?_set]
  by_cases x : m = n
  · subst x
    simp [h]
  · rw [if_neg (fun y => x y.symm), if_neg x]
theorem nth_big {es : List En} {n : Nat} (h : es.length ≤ n) : nth es n = En.zero := by
  unfold nth
  rw [List.getD_eq_getElem?_getD, List.getElem?_eq_none h]
  rfl
/-- What is told of entries. -/
def shw (es : List En) : List En := es.map En.shown
theorem shw_len (es : List En) : (shw es).length = es.length := List.length_map _
theorem nth_shw (es : List En) (n : Nat) : nth (shw es) n = (nth es n).shown := by
  unfold nth shw
  rw [List.getD_eq_getElem?_getD, List.getD_eq_getElem?_getD, List.getElem?_map]
  cases es[n]? with
  | none => rfl
  | some e => rfl
theorem shw_app (a b : List En) : shw (a ++ b) = shw a ++ shw b := List.map_append
theorem shw_all {es : List En} (h : ∀ e ∈ es, e.live = true) : shw es = es := by
  unfold shw
  refine (List.map_congr_left fun e he => ?_).trans (List.map_id es)
  exact En.shown_live (h e he)
/-- The place of a live entry along its trail: no empty cell ahead of it, and only numbers below its own. -/
def Pos (es : List En) (L : Nat) (c : Nat → Int) (n i : Nat) : Prop :=
  c (trl (uw (nth es n).hash) L i) = (n : Int) ∧ ∀ j, j < i → c (trl (uw (nth es n).hash) L j) ≠ -1 ∧ c (trl (uw (nth es n).hash) L j) < (n : Int)
theorem Pos.uniq {es : List En} {L : Nat} {c : Nat → Int} {n i j : Nat} (a : Pos es L c n i) (b : Pos es L c n j) : i = j := by
  rcases Nat.lt_trichotomy i j with e | e | e
  · have := (b.2 i e).2; rw [a.1] at this; omega
  · exact e
  · have := (a.2 j e).2; rw [b.1] at this; omega
/-- How many entries are dead. -/
def deadN : List En → Nat
  | [] => 0
  | e :: r => deadN r + (if e.live = true then 0 else 1)
theorem deadN_app (a b : List En) : deadN (a ++ b) = deadN a + deadN b := by
  induction a with
  | nil => simp [deadN]
  | cons e r ih => rw [List.cons_append, deadN, deadN, ih]; omega
theorem deadN_le (a : List En) : deadN a ≤ a.length := by
  induction a with
  | nil => exact Nat.le_refl _
  | cons e r ih => rw [deadN, List.length_cons]; split <;> omega
theorem deadN_kill' : ∀ (es : List En) (n : Nat) (z : En), z.live = false → (nth es n).live = true → deadN (es.set n z) = deadN es + 1 := by
  intro es
  induction es with
  | nil => intro n z hz h; simp [nth, En.zero] at h
  | cons e r ih =>
    intro n z hz h
    match n, h with
    | 0, h =>
      have h1 : e.live = true := by simpa [nth] using h
      simp [deadN, h1, hz]
    | n + 1, h =>
      have h1 : (nth r n).live = true := by simpa [nth] using h
      simp only [List.set_cons_succ, deadN, ih n z hz h1]
      omega
theorem deadN_kill (es : List En) (n : Nat) (h : (nth es n).live = true) : deadN (es.set n En.zero) = deadN es + 1 := deadN_kill' es n En.zero rfl h
theorem deadN_shw (es : List En) : deadN (shw es) = deadN es := by
  induction es with
  | nil => rfl
  | cons e r ih =>
    show deadN (e.shown :: shw r) = _
    rw [deadN, deadN, ih, e.shown_is]
theorem deadN_put : ∀ (es : List En) (n : Nat) (e : En), (nth es n).live = true → e.live = true → deadN (es.set n e) = deadN es := by
  intro es
  induction es with
  | nil => intro n e h; simp [nth, En.zero] at h
  | cons x r ih =>
    intro n e h he
    match n, h with
    | 0, h =>
      have h1 : x.live = true := by simpa [nth] using h
      simp [deadN, h1, he]
    | n + 1, h =>
      have h1 : (nth r n).live = true := by simpa [nth] using h
      simp only [List.set_cons_succ, deadN, ih n e h1 he]
/-- What always holds of entries and cells. -/
structure Inv (es : List En) (L : Nat) (c : Nat → Int) : Prop where
  room : es.length ≤ rm (2 ^ L)
  val : ∀ x, x < 2 ^ L → c x = -1 ∨ c x = -2 ∨ ∃ n : Nat, n < es.length ∧ c x = (n : Int) ∧ (nth es n).live = true
  inj : ∀ x y, x < 2 ^ L → y < 2 ^ L → 0 ≤ c x → c x = c y → x = y
  pos : ∀ n, n < es.length → (nth es n).live = true → ∃ i, Pos es L c n i
  used : cnt (fun x => c x != -1) (2 ^ L) = es.length
  dead : cnt (fun x => c x == -2) (2 ^ L) = deadN es
theorem Inv.nil (L : Nat) : Inv [] L (fun _ => -1) :=
  ⟨by simp, fun x _ => .inl rfl, fun x y _ _ h => absurd h (by decide), fun n h => absurd h (by simp), cnt_none fun x _ => by simp, cnt_none fun x _ => by simp⟩
theorem rm_lt (L : Nat) : rm (2 ^ L) < 2 ^ L := by
  have := pow2_pos L
  unfold rm
  omega
/-- There is an empty cell. -/
theorem Inv.empty {es : List En} {L : Nat} {c : Nat → Int} (h : Inv es L c) : ∃ x, x < 2 ^ L ∧ c x = -1 := by
  have h1 := cnt_not (fun x => c x != -1) (2 ^ L)
  have h2 := h.room
  have h3 := rm_lt L
  rw [h.used] at h1
  obtain ⟨x, h4, h5⟩ := cnt_some (p := fun x => !(c x != -1)) (n := 2 ^ L) (by omega)
  exact ⟨x, h4, by simpa using h5⟩
/-- At least one cell in three is empty. -/
theorem Inv.third {es : List En} {L : Nat} {c : Nat → Int} (h : Inv es L c) : 2 ^ L ≤ 3 * cnt (fun x => c x == -1) (2 ^ L) := by
  have h1 := cnt_not (fun x => c x != -1) (2 ^ L)
  have h2 := h.room
  rw [h.used, cnt_congr (q := fun x => c x == -1) fun x _ => by simp [bne]] at h1
  unfold rm at h2
  omega
theorem Inv.first {es : List En} {L : Nat} {c : Nat → Int} (h : Inv es L c) (u : Int) : ∃ i, i < 2 ^ L + 13 ∧ IsF c (uw u) L i := by
  obtain ⟨x, h1, h2⟩ := h.empty
  exact isF_some _ (uw_lt u) h1 h2
/-- An entry more, laid into the first empty cell of its trail. -/
theorem Inv.lay {es : List En} {L : Nat} {c : Nat → Int} (h : Inv es L c) (e : En) (he : e.live = true) (hr : es.length < rm (2 ^ L)) {i : Nat} (hi : IsF c (uw e.hash) L i) :
    Inv (es ++ [e]) L (upd c (trl (uw e.hash) L i) (es.length : Int)) := by
  have hx := trl_lt (uw e.hash) L i
  obtain ⟨h1, h2⟩ := hi
  have hlen : (es ++ [e]).length = es.length + 1 := by simp
  have hne : ∀ y, y < 2 ^ L → c y ≠ (es.length : Int) := by
    intro y hy
    rcases h.val y hy with a | a | ⟨n, a, b, _⟩ <;> omega
  refine ⟨by rw [hlen]; omega, fun y hy => ?_, fun y z hy hz hp hyz => ?_, fun n hn hl => ?_, ?_, ?_⟩
  · unfold upd
    by_cases a : y = trl (uw e.hash) L i
    · rw [if_pos a]
      exact .inr (.inr ⟨es.length, by omega, rfl, by rw [nth_app_eq]; exact he⟩)
    · rw [if_neg a]
      rcases h.val y hy with b | b | ⟨n, b1, b2, b3⟩
      · exact .inl b
      · exact .inr (.inl b)
      · exact .inr (.inr ⟨n, by omega, b2, by rw [nth_app_lt b1]; exact b3⟩)
  · unfold upd at hp hyz
    by_cases a : y = trl (uw e.hash) L i
    · by_cases b : z = trl (uw e.hash) L i
      · rw [a, b]
      · rw [if_pos a, if_neg b] at hyz
        exact absurd hyz.symm (hne z hz)
    · rw [if_neg a] at hp hyz
      by_cases b : z = trl (uw e.hash) L i
      · rw [if_pos b] at hyz
        exact absurd hyz (hne y hy)
      · rw [if_neg b] at hyz
        exact h.inj y z hy hz hp hyz
  · by_cases a : n = es.length
    · subst a
      refine ⟨i, ?_, fun j hj => ?_⟩
      · rw [nth_app_eq]
        unfold upd
        rw [if_pos rfl]
      · rw [nth_app_eq]
        have hj1 := h2 j hj
        have hj2 : trl (uw e.hash) L j ≠ trl (uw e.hash) L i := fun q => hj1 (by rw [q]; exact h1)
        unfold upd
        rw [if_neg hj2]
        refine ⟨hj1, ?_⟩
        rcases h.val _ (trl_lt (uw e.hash) L j) with b | b | ⟨m, b1, b2, _⟩ <;> omega
    · have hn' : n < es.length := by omega
      rw [nth_app_lt hn'] at hl
      obtain ⟨p, q1, q2⟩ := h.pos n hn' hl
      refine ⟨p, ?_, fun j hj => ?_⟩
      · rw [nth_app_lt hn']
        unfold upd
        rw [if_neg (fun q => by rw [q, h1] at q1; omega)]
        exact q1
      · rw [nth_app_lt hn']
        have r := q2 j hj
        unfold upd
        rw [if_neg (fun q => r.1 (by rw [q]; exact h1))]
        exact r
  · rw [cnt_add (p := fun x => c x != -1) hx (by simp [h1]) (by simp [upd]) (fun y _ hy => by simp [upd, hy]), h.used, hlen]
  · rw [cnt_congr (q := fun x => c x == -2) fun y _ => ?_, h.dead, deadN_app]
    · simp [deadN, he]
    · unfold upd
      by_cases a : y = trl (uw e.hash) L i
      · rw [if_pos a, a, h1]
        simp
      · rw [if_neg a]
/-- A live entry is killed, and its cell is dead. -/
def killc (c : Nat → Int) (n : Nat) : Nat → Int := fun x => if c x = (n : Int) then -2 else c x
theorem Inv.kill' {es : List En} {L : Nat} {c : Nat → Int} (h : Inv es L c) (n : Nat) (hn : n < es.length) (hl : (nth es n).live = true) (z : En) (hz : z.live = false) : Inv (es.set n z) L (killc c n) := by
  have hlen : (es.set n z).length = es.length := by simp
  obtain ⟨p, q1, _⟩ := h.pos n hn hl
  have hx := trl_lt (uw (nth es n).hash) L p
  refine ⟨by rw [hlen]; exact h.room, fun y hy => ?_, fun y z hy hz hp hyz => ?_, fun m hm hml => ?_, ?_, ?_⟩
  · unfold killc
    by_cases a : c y = (n : Int)
    · rw [if_pos a]; exact .inr (.inl rfl)
    · rw [if_neg a]
      rcases h.val y hy with b | b | ⟨m, b1, b2, b3⟩
      · exact .inl b
      · exact .inr (.inl b)
      · refine .inr (.inr ⟨m, by rw [hlen]; exact b1, b2, ?_⟩)
        rw [nth_set hn, if_neg (fun e => a (by rw [b2, e]))]
        exact b3
  · unfold killc at hp hyz
    by_cases a : c y = (n : Int)
    · rw [if_pos a] at hp; omega
    · rw [if_neg a] at hp hyz
      by_cases b : c z = (n : Int)
      · rw [if_pos b] at hyz; omega
      · rw [if_neg b] at hyz
        exact h.inj y z hy hz hp hyz
  · rw [hlen] at hm
    have hmn : m ≠ n := fun e => by rw [nth_set hn, if_pos e, hz] at hml; cases hml
    rw [nth_set hn, if_neg hmn] at hml
    obtain ⟨i, r1, r2⟩ := h.pos m hm hml
    refine ⟨i, ?_, fun j hj => ?_⟩
    · rw [nth_set hn, if_neg hmn]
      unfold killc
      rw [if_neg (by rw [r1]; omega)]
      exact r1
    · rw [nth_set hn, if_neg hmn]
      have r := r2 j hj
      unfold killc
      by_cases a : c (trl (uw (nth es m).hash) L j) = (n : Int)
      · rw [if_pos a]; omega
      · rw [if_neg a]; exact r
  · rw [hlen, ← h.used]
    refine cnt_congr fun y _ => ?_
    unfold killc
    by_cases a : c y = (n : Int)
    · rw [if_pos a, a]
      simp
    · rw [if_neg a]
  · rw [deadN_kill' es n z hz hl, ← h.dead]
    refine cnt_add hx ?_ ?_ fun y hy hne => ?_
    · rw [q1]
      simp
    · unfold killc
      rw [if_pos q1]
      rfl
    · unfold killc
      rw [if_neg (fun a => hne (h.inj y _ hy hx (by omega) (by rw [a, q1])))]
theorem Inv.kill {es : List En} {L : Nat} {c : Nat → Int} (h : Inv es L c) (n : Nat) (hn : n < es.length) (hl : (nth es n).live = true) : Inv (es.set n En.zero) L (killc c n) := h.kill' n hn hl En.zero rfl
/-- Where each live entry stands is the same as where its cell is turned. -/
theorem killc_upd {es : List En} {L : Nat} {c : Nat → Int} (h : Inv es L c) (n : Nat) {x : Nat} (hx : x < 2 ^ L) (hc : c x = (n : Int)) : ∀ y, y < 2 ^ L → killc c n y = upd c x (-2) y := by
  intro y hy
  unfold killc upd
  by_cases a : y = x
  · rw [if_pos a, a, if_pos hc]
  · rw [if_neg a, if_neg (fun b => a (h.inj y x hy hx (by omega) (by rw [b, hc])))]
/-- Another value, or another birth: nothing of the cells is asked of it. -/
theorem Inv.put {es : List En} {L : Nat} {c : Nat → Int} (h : Inv es L c) (n : Nat) (hn : n < es.length) (hl : (nth es n).live = true) (e : En) (he : e.live = true) (hh : e.hash = (nth es n).hash) : Inv (es.set n e) L c := by
  have hlen : (es.set n e).length = es.length := by simp
  have hs : ∀ m, (nth (es.set n e) m).live = (nth es m).live ∧ (nth (es.set n e) m).hash = (nth es m).hash := by
    intro m
    rw [nth_set hn]
    by_cases a : m = n
    · rw [if_pos a, a]; exact ⟨by rw [he, hl], hh⟩
    · rw [if_neg a]; exact ⟨rfl, rfl⟩
  refine ⟨by rw [hlen]; exact h.room, fun y hy => ?_, h.inj, fun m hm hml => ?_, by rw [hlen]; exact h.used, ?_⟩
  · rcases h.val y hy with b | b | ⟨m, b1, b2, b3⟩
    · exact .inl b
    · exact .inr (.inl b)
    · exact .inr (.inr ⟨m, by rw [hlen]; exact b1, b2, by rw [(hs m).1]; exact b3⟩)
  · rw [hlen] at hm
    rw [(hs m).1] at hml
    obtain ⟨i, r1, r2⟩ := h.pos m hm hml
    unfold Pos
    rw [(hs m).2]
    exact ⟨i, r1, r2⟩
  · rw [deadN_put es n e hl he]; exact h.dead
theorem Inv.congr {es : List En} {L : Nat} {c c' : Nat → Int} (h : Inv es L c) (e : ∀ y, y < 2 ^ L → c' y = c y) : Inv es L c' := by
  have ht : ∀ u i, c' (trl u L i) = c (trl u L i) := fun u i => e _ (trl_lt _ _ _)
  refine ⟨h.room, fun y hy => by rw [e y hy]; exact h.val y hy, fun y z hy hz a b => by rw [e y hy] at a b; rw [e z hz] at b; exact h.inj y z hy hz a b, fun n hn hl => ?_, ?_, ?_⟩
  · obtain ⟨i, r1, r2⟩ := h.pos n hn hl
    exact ⟨i, by rw [ht]; exact r1, fun j hj => by rw [ht]; exact r2 j hj⟩
  · rw [← h.used]; exact cnt_congr fun y hy => by rw [e y hy]
  · rw [← h.dead]; exact cnt_congr fun y hy => by rw [e y hy]
end Go.Proofs.YtjkpailkamafcaaGreatDoor
