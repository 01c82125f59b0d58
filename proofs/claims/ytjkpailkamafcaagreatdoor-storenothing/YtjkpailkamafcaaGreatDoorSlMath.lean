/-
  A heap of numbers; rows of slots and their free ones.
-/
import Derived.Test.YtjkpailkamafcaaGreatDoorEnMem
import Derived.Test.YtjkpailkamafcaaGreatDoorStRow
namespace Go.Proofs.YtjkpailkamafcaaGreatDoor
open Go.RowKit Go.WideShapes

/-- Two places of a function turned. -/
def swf (f : Nat → Int) (i j : Nat) : Nat → Int := fun k => if k = i then f j else if k = j then f i else f k
theorem swf_i (f : Nat → Int) (i j : Nat) : swf f i j i = f j := by simp [swf]
theorem swf_j (f : Nat → Int) (i j : Nat) : swf f i j j = f i := by
  unfold swf
  split
  · rename_i h
    rw [h]
  · simp
theorem swf_o (f : Nat → Int) (i j k : Nat) (h1 : k ≠ i) (h2 : k ≠ j) : swf f i j k = f k := by simp [swf, h1, h2]
/-- The same numbers in another order. -/
structure Pm (n : Nat) (f f' : Nat → Int) : Prop where
  to : ∀ k, k < n → ∃ i, i < n ∧ f' k = f i
  fro : ∀ i, i < n → ∃ k, k < n ∧ f i = f' k
  inj : (∀ i j, i < n → j < n → f i = f j → i = j) → ∀ i j, i < n → j < n → f' i = f' j → i = j
  out : ∀ k, n ≤ k → f' k = f k
theorem Pm.refl (n : Nat) (f : Nat → Int) : Pm n f f := ⟨fun k h => ⟨k, h, rfl⟩, fun k h => ⟨k, h, rfl⟩, fun h => h, fun _ _ => rfl⟩
theorem Pm.trans {n : Nat} {f g h : Nat → Int} (a : Pm n f g) (b : Pm n g h) : Pm n f h := by
  refine ⟨fun k hk => ?_, fun k hk => ?_, fun hf => b.inj (a.inj hf), fun k hk => (b.out k hk).trans (a.out k hk)⟩
  · obtain ⟨i, hi, e⟩ := b.to k hk
    obtain ⟨j, hj, e'⟩ := a.to i hi
    exact ⟨j, hj, e.trans e'⟩
  · obtain ⟨i, hi, e⟩ := a.fro k hk
    obtain ⟨j, hj, e'⟩ := b.fro i hi
    exact ⟨j, hj, e.trans e'⟩
theorem pm_sw {n : Nat} (f : Nat → Int) {i j : Nat} (hi : i < n) (hj : j < n) : Pm n f (swf f i j) := by
  refine ⟨fun k hk => ?_, fun k hk => ?_, fun hf a b ha hb e => ?_, fun k hk => swf_o f i j k (by omega) (by omega)⟩
  · by_cases h1 : k = i
    · exact ⟨j, hj, by rw [h1, swf_i]⟩
    · by_cases h2 : k = j
      · exact ⟨i, hi, by rw [h2, swf_j]⟩
      · exact ⟨k, hk, swf_o f i j k h1 h2⟩
  · by_cases h1 : k = i
    · exact ⟨j, hj, by rw [h1, swf_j]⟩
    · by_cases h2 : k = j
      · exact ⟨i, hi, by rw [h2, swf_i]⟩
      · exact ⟨k, hk, (swf_o f i j k h1 h2).symm⟩
  · have key : ∀ a, a < n → ∃ c, c < n ∧ swf f i j a = f c ∧ ((a = i ∧ c = j) ∨ (a ≠ i ∧ a = j ∧ c = i) ∨ (a ≠ i ∧ a ≠ j ∧ c = a)) := by
      intro a ha
      by_cases h1 : a = i
      · exact ⟨j, hj, by rw [h1, swf_i], Or.inl ⟨h1, rfl⟩⟩
      · by_cases h2 : a = j
        · exact ⟨i, hi, by rw [h2, swf_j], Or.inr (Or.inl ⟨h1, h2, rfl⟩)⟩
        · exact ⟨a, ha, swf_o f i j a h1 h2, Or.inr (Or.inr ⟨h1, h2, rfl⟩)⟩
    obtain ⟨c, hc, ec, kc⟩ := key a ha
    obtain ⟨d, hd, ed, kd⟩ := key b hb
    have := hf c d hc hd (by rw [← ec, ← ed, e])
    omega
/-- A heap: none is less than the one above it. -/
def Hp (n : Nat) (f : Nat → Int) : Prop := ∀ k, 0 < k → k < n → f ((k - 1) / 2) ≤ f k
/-- A heap but for j, which may be too low. -/
def Up (n : Nat) (f : Nat → Int) (j : Nat) : Prop := (∀ k, 0 < k → k < n → k ≠ j → f ((k - 1) / 2) ≤ f k) ∧ (∀ k, 0 < k → k < n → (k - 1) / 2 = j → 0 < j → f ((j - 1) / 2) ≤ f k)
/-- A heap but for i, which may be too great. -/
def Dn (n : Nat) (f : Nat → Int) (i : Nat) : Prop := (∀ k, 0 < k → k < n → (k - 1) / 2 ≠ i → f ((k - 1) / 2) ≤ f k) ∧ (∀ k, 0 < k → k < n → (k - 1) / 2 = i → 0 < i → f ((i - 1) / 2) ≤ f k)
theorem up_done {n : Nat} {f : Nat → Int} {j : Nat} (h : Up n f j) (hj : j = 0 ∨ f ((j - 1) / 2) ≤ f j) : Hp n f := by
  intro k h0 hk
  by_cases e : k = j
  · subst e
    rcases hj with hj | hj
    · omega
    · exact hj
  · exact h.1 k h0 hk e
theorem up_step {n : Nat} {f : Nat → Int} {j : Nat} (h : Up n f j) (h0 : 0 < j) (hj : j < n) (hl : f j < f ((j - 1) / 2)) : Up n (swf f ((j - 1) / 2) j) ((j - 1) / 2) := by
  have hp : (j - 1) / 2 < j := by omega
  have hpn : (j - 1) / 2 ≠ j := by omega
  generalize hP : (j - 1) / 2 = p at *
  refine ⟨fun k k0 kn kp => ?_, fun k k0 kn kp p0 => ?_⟩
  · by_cases e : k = j
    · subst e
      rw [hP, swf_i, swf_j]
      omega
    · rw [swf_o f p j k kp e]
      by_cases e1 : (k - 1) / 2 = p
      · rw [e1, swf_i]
        have := h.1 k k0 kn e
        rw [e1] at this
        omega
      · by_cases e2 : (k - 1) / 2 = j
        · rw [e2, swf_j]
          have := h.2 k k0 kn e2 h0
          rw [hP] at this
          exact this
        · rw [swf_o f p j _ e1 e2]
          exact h.1 k k0 kn e
  · have hpp : (p - 1) / 2 < p := by omega
    rw [swf_o f p j ((p - 1) / 2) (by omega) (by omega)]
    have h1 := h.1 p p0 (by omega) hpn
    by_cases e : k = j
    · subst e
      rw [swf_j]
      exact h1
    · rw [swf_o f p j k (by omega) e]
      have := h.1 k k0 kn e
      rw [kp] at this
      omega
theorem dn_done {n : Nat} {f : Nat → Int} {i : Nat} (h : Dn n f i) (hi : ∀ k, 0 < k → k < n → (k - 1) / 2 = i → f i ≤ f k) : Hp n f := by
  intro k h0 hk
  by_cases e : (k - 1) / 2 = i
  · rw [e]
    exact hi k h0 hk e
  · exact h.1 k h0 hk e
theorem dn_step {n : Nat} {f : Nat → Int} {i j : Nat} (h : Dn n f i) (h0 : 0 < j) (hj : j < n) (hp : (j - 1) / 2 = i) (hl : f j < f i) (ho : ∀ k, 0 < k → k < n → (k - 1) / 2 = i → f j ≤ f k) : Dn n (swf f i j) j := by
  have hij : i < j := by omega
  refine ⟨fun k k0 kn kp => ?_, fun k k0 kn kp _ => ?_⟩
  · by_cases e1 : (k - 1) / 2 = i
    · rw [e1, swf_i]
      by_cases e2 : k = j
      · subst e2
        rw [swf_j]
        omega
      · rw [swf_o f i j k (by omega) e2]
        exact ho k k0 kn e1
    · rw [swf_o f i j _ e1 kp]
      by_cases e2 : k = i
      · subst e2
        rw [swf_i]
        exact h.2 j h0 hj hp k0
      · rw [swf_o f i j k e2 (fun e => by subst e; exact e1 hp)]
        exact h.1 k k0 kn e1
  · rw [hp, swf_i, swf_o f i j k (by omega) (by omega)]
    have := h.1 k k0 kn (by omega)
    rw [kp] at this
    exact this
theorem hp_min {n : Nat} {f : Nat → Int} (h : Hp n f) : ∀ m k, k ≤ m → k < n → f 0 ≤ f k := by
  intro m
  induction m with
  | zero => intro k hk _; rw [Nat.le_zero.1 hk]; exact Int.le_refl _
  | succ m ih =>
    intro k hk hn
    by_cases e : k = 0
    · rw [e]; exact Int.le_refl _
    · have h1 := h k (by omega) hn
      have h2 := ih ((k - 1) / 2) (by omega) (by omega)
      omega
theorem dn_pop {n : Nat} {f : Nat → Int} (h : Hp (n + 1) f) : Dn n (swf f 0 n) 0 := by
  refine ⟨fun k k0 kn kp => ?_, fun k _ _ _ h => absurd h (by omega)⟩
  rw [swf_o f 0 n _ kp (by omega), swf_o f 0 n k (by omega) (by omega)]
  exact h k k0 (by omega)
def updI (f : Nat → Int) (n : Nat) (v : Int) : Nat → Int := fun k => if k = n then v else f k
theorem up_push {n : Nat} {f : Nat → Int} {v : Int} (h : Hp n f) : Up (n + 1) (updI f n v) n := by
  refine ⟨fun k k0 kn kp => ?_, fun k k0 kn kp _ => by omega⟩
  unfold updI
  rw [if_neg (by omega), if_neg kp]
  exact h k k0 (by omega)

/-- A slot. -/
structure So where
  taken : Bool
  has : Int
def nts (ss : List So) (i : Nat) : So := ss.getD i ⟨false, 0⟩
theorem nts_set {ss : List So} {n : Nat} (h : n < ss.length) (e : So) (k : Nat) : nts (ss.set n e) k = if k = n then e else nts ss k := by
  unfold nts
  rw [List.getD_eq_getElem?_getD, List.getD_eq_getElem?_getD, List.getElem?_set]
  by_cases hk : k = n
  · subst hk
    simp [h]
  · rw [if_neg (fun e => hk e.symm), if_neg hk]
theorem nts_app (ss : List So) (e : So) (k : Nat) (h : k < ss.length) : nts (ss ++ [e]) k = nts ss k := by
  unfold nts
  rw [List.getD_eq_getElem?_getD, List.getD_eq_getElem?_getD, List.getElem?_append_left h]
theorem nts_new (ss : List So) (e : So) : nts (ss ++ [e]) ss.length = e := by
  unfold nts
  rw [List.getD_eq_getElem?_getD, List.getElem?_append_right (Nat.le_refl _)]
  simp
/-- How many slots are taken. -/
def cntS : List So → Nat
  | [] => 0
  | e :: r => (if e.taken then 1 else 0) + cntS r
theorem cntS_app (a b : List So) : cntS (a ++ b) = cntS a + cntS b := by
  induction a with
  | nil => simp [cntS]
  | cons e r ih => rw [List.cons_append, cntS, cntS, ih]; omega
theorem cntS_set (ss : List So) (n : Nat) (h : n < ss.length) (e : So) : cntS (ss.set n e) + (if (nts ss n).taken then 1 else 0) = cntS ss + (if e.taken then 1 else 0) := by
  induction ss generalizing n with
  | nil => simp at h
  | cons x r ih =>
    match n, h with
    | 0, _ => simp [cntS, nts]; omega
    | n + 1, h =>
      have := ih n (by simpa using h)
      rw [List.set_cons_succ, cntS, cntS, show nts (x :: r) (n + 1) = nts r n by simp [nts]]
      omega
theorem cntS_le (ss : List So) : cntS ss ≤ ss.length := by
  induction ss with
  | nil => simp [cntS]
  | cons x r ih => rw [cntS, List.length_cons]; split <;> omega
/-- The lowest free slot, or the first behind all. -/
def low : List So → Nat
  | [] => 0
  | e :: r => if e.taken then low r + 1 else 0
theorem low_le (ss : List So) : low ss ≤ ss.length := by
  induction ss with
  | nil => simp [low]
  | cons x r ih => rw [low, List.length_cons]; split <;> omega
theorem low_taken (ss : List So) : ∀ k, k < low ss → (nts ss k).taken = true := by
  induction ss with
  | nil => intro k h; simp [low] at h
  | cons x r ih =>
    intro k h
    rw [low] at h
    split at h
    · rename_i hx
      match k with
      | 0 => simpa [nts] using hx
      | k + 1 => rw [show nts (x :: r) (k + 1) = nts r k by simp [nts]]; exact ih k (by omega)
    · omega
theorem low_free (ss : List So) (h : low ss < ss.length) : (nts ss (low ss)).taken = false := by
  induction ss with
  | nil => simp at h
  | cons x r ih =>
    rw [low] at h ⊢
    split
    · rename_i hx
      rw [if_pos hx] at h
      rw [show nts (x :: r) (low r + 1) = nts r (low r) by simp [nts]]
      exact ih (by simpa using h)
    · rename_i hx
      simpa [nts] using hx
theorem low_is {ss : List So} {i : Nat} (h1 : i ≤ ss.length) (h2 : ∀ k, k < i → (nts ss k).taken = true) (h3 : i < ss.length → (nts ss i).taken = false) : low ss = i := by
  have a := low_taken ss
  have b := low_free ss
  have c := low_le ss
  by_cases e : low ss < i
  · have := h2 _ e
    rw [b (by omega)] at this
    cases this
  · by_cases e' : i < low ss
    · have := a _ e'
      rw [h3 (by omega)] at this
      cases this
    · omega
/-- What is free stands in a heap. -/
structure Ho (ss : List So) (n : Nat) (f : Nat → Int) : Prop where
  hp : Hp n f
  inj : ∀ i j, i < n → j < n → f i = f j → i = j
  is : ∀ i, i < n → ∃ k : Nat, f i = (k : Int) ∧ k < ss.length ∧ (nts ss k).taken = false
  all : ∀ k, k < ss.length → (nts ss k).taken = false → ∃ i, i < n ∧ f i = (k : Int)
  num : n + cntS ss = ss.length
theorem Ho.nil (f : Nat → Int) : Ho [] 0 f := ⟨fun k _ h => absurd h (by omega), fun i _ h => absurd h (by omega), fun i h => absurd h (by omega), fun k h => absurd h (by simp), rfl⟩
theorem Ho.first {ss : List So} {n : Nat} {f : Nat → Int} (h : Ho ss (n + 1) f) : f 0 = (low ss : Int) ∧ low ss < ss.length := by
  obtain ⟨k, e, hk, hf⟩ := h.is 0 (by omega)
  have : low ss = k := by
    refine low_is (by omega) (fun j hj => ?_) (fun _ => hf)
    by_cases hx : (nts ss j).taken = true
    · exact hx
    · obtain ⟨i, hi, e'⟩ := h.all j (by omega) (by simpa using hx)
      have := hp_min h.hp i i (Nat.le_refl _) hi
      omega
  rw [this]
  exact ⟨e, hk⟩
theorem Ho.pop {ss : List So} {n : Nat} {f f' : Nat → Int} (h : Ho ss (n + 1) f) (v : Int) (hp : Pm n (swf f 0 n) f') (hh : Hp n f') : Ho (ss.set (low ss) ⟨true, v⟩) n f' := by
  obtain ⟨e0, hl⟩ := h.first
  have hsw := (pm_sw f (i := 0) (j := n) (by omega : 0 < n + 1) (by omega)).inj h.inj
  have hto : ∀ k, k < n → ∃ i, 0 < i ∧ i < n + 1 ∧ f' k = f i := by
    intro k hk
    obtain ⟨j, hj, e⟩ := hp.to k hk
    by_cases e1 : j = 0
    · refine ⟨n, by omega, by omega, ?_⟩
      rw [e, e1, swf_i]
    · exact ⟨j, by omega, by omega, by rw [e, swf_o f 0 n j e1 (by omega)]⟩
  refine ⟨hh, hp.inj (fun i j hi hj e => hsw i j (by omega) (by omega) e), fun i hi => ?_, fun k hk hf => ?_, ?_⟩
  · obtain ⟨j, j0, hj, e⟩ := hto i hi
    obtain ⟨k, ek, hk, hf⟩ := h.is j hj
    refine ⟨k, e.trans ek, by simpa using hk, ?_⟩
    rw [nts_set hl, if_neg (fun e2 => ?_)]
    · exact hf
    · have := h.inj j 0 hj (by omega) (by rw [ek, e0, e2])
      omega
  · rw [nts_set hl] at hf
    by_cases e : k = low ss
    · rw [if_pos e] at hf
      cases hf
    · rw [if_neg e] at hf
      obtain ⟨i, hi, ei⟩ := h.all k (by simpa using hk) hf
      have i0 : i ≠ 0 := fun e2 => by
        rw [e2, e0] at ei
        omega
      by_cases en : i = n
      · obtain ⟨q, hq, eq⟩ := hp.fro 0 (by omega)
        rw [swf_i] at eq
        exact ⟨q, hq, by rw [← eq, ← en, ei]⟩
      · obtain ⟨q, hq, eq⟩ := hp.fro i (by omega)
        rw [swf_o f 0 n i i0 en] at eq
        exact ⟨q, hq, by rw [← eq, ei]⟩
  · have h1 := cntS_set ss (low ss) hl ⟨true, v⟩
    rw [low_free ss hl] at h1
    have h2 := h.num
    simp at h1
    rw [List.length_set]
    omega
theorem Ho.push {ss : List So} {n : Nat} {f f' : Nat → Int} (h : Ho ss n f) {k : Nat} (hk : k < ss.length) (ht : (nts ss k).taken = true) (hp : Pm (n + 1) (updI f n (k : Int)) f') (hh : Hp (n + 1) f') : Ho (ss.set k ⟨false, 0⟩) (n + 1) f' := by
  have hne : ∀ i, i < n → f i ≠ (k : Int) := fun i hi e => by
    obtain ⟨j, ej, _, hf⟩ := h.is i hi
    have : j = k := by omega
    rw [this, ht] at hf
    cases hf
  have hu : ∀ i, i < n → updI f n (k : Int) i = f i := fun i hi => by unfold updI; rw [if_neg (by omega)]
  have hn : updI f n (k : Int) n = (k : Int) := by unfold updI; rw [if_pos rfl]
  refine ⟨hh, hp.inj (fun i j hi hj e => ?_), fun i hi => ?_, fun j hj hf => ?_, ?_⟩
  · by_cases e1 : i = n
    · by_cases e2 : j = n
      · omega
      · rw [e1, hn, hu j (by omega)] at e
        exact absurd e.symm (hne j (by omega))
    · by_cases e2 : j = n
      · rw [e2, hn, hu i (by omega)] at e
        exact absurd e (hne i (by omega))
      · rw [hu i (by omega), hu j (by omega)] at e
        exact h.inj i j (by omega) (by omega) e
  · obtain ⟨j, hj, e⟩ := hp.to i hi
    by_cases e1 : j = n
    · refine ⟨k, by rw [e, e1, hn], by simpa using hk, ?_⟩
      rw [nts_set hk, if_pos rfl]
    · rw [hu j (by omega)] at e
      obtain ⟨q, eq, hq, hf⟩ := h.is j (by omega)
      refine ⟨q, e.trans eq, by simpa using hq, ?_⟩
      rw [nts_set hk]
      split
      · rfl
      · exact hf
  · by_cases e : j = k
    · obtain ⟨q, hq, eq⟩ := hp.fro n (by omega)
      exact ⟨q, hq, by rw [← eq, hn, e]⟩
    · rw [nts_set hk, if_neg e] at hf
      obtain ⟨i, hi, ei⟩ := h.all j (by simpa using hj) hf
      obtain ⟨q, hq, eq⟩ := hp.fro i (by omega)
      exact ⟨q, hq, by rw [← eq, hu i hi, ei]⟩
  · have h1 := cntS_set ss k hk ⟨false, 0⟩
    rw [ht] at h1
    have h2 := h.num
    simp at h1
    rw [List.length_set]
    omega
theorem Ho.grow {ss : List So} {f : Nat → Int} (h : Ho ss 0 f) (v : Int) : low ss = ss.length ∧ Ho (ss ++ [⟨true, v⟩]) 0 f := by
  have h1 : ∀ k, k < ss.length → (nts ss k).taken = true := fun k hk => by
    by_cases e : (nts ss k).taken = true
    · exact e
    · obtain ⟨i, hi, _⟩ := h.all k hk (by simpa using e)
      omega
  refine ⟨low_is (Nat.le_refl _) h1 (fun h => absurd h (Nat.lt_irrefl _)), fun k _ h => absurd h (by omega), fun i _ h => absurd h (by omega), fun i h => absurd h (by omega), fun k hk hf => ?_, ?_⟩
  · by_cases e : k < ss.length
    · rw [nts_app ss _ k e, h1 k e] at hf
      cases hf
    · have : k = ss.length := by simp at hk; omega
      rw [this, nts_new] at hf
      cases hf
  · have := h.num
    rw [cntS_app, List.length_append]
    simp [cntS]
    omega
theorem Ho.put {ss : List So} {n : Nat} {f : Nat → Int} (h : Ho ss n f) {k : Nat} (hk : k < ss.length) (ht : (nts ss k).taken = true) (v : Int) : Ho (ss.set k ⟨true, v⟩) n f := by
  refine ⟨h.hp, h.inj, fun i hi => ?_, fun j hj hf => ?_, ?_⟩
  · obtain ⟨q, e, hq, hf⟩ := h.is i hi
    refine ⟨q, e, by simpa using hq, ?_⟩
    rw [nts_set hk, if_neg (fun e => by rw [e, ht] at hf; cases hf)]
    exact hf
  · rw [nts_set hk] at hf
    split at hf
    · cases hf
    · exact h.all j (by simpa using hj) hf
  · have h1 := cntS_set ss k hk ⟨true, v⟩
    rw [ht] at h1
    have h2 := h.num
    simp at h1
    rw [List.length_set]
    omega
end Go.Proofs.YtjkpailkamafcaaGreatDoor
