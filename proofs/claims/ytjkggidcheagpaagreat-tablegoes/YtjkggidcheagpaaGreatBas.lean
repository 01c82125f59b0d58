/-
  Functions that hold numbers: one number turned, the first ones of another.
  The trail of a hash in 2 ^ L cells, as arithmetic: from the last shift on all cells in a row are different; equal low digits, equal first cells. No program.
  How many numbers below n meet a test; a row of different numbers below n that is n long has them all. A trail comes to every cell: so to the first empty one. No program.
  A table's entries and cells: what always holds of them, and that laying, killing and putting keep it. No program.
  A search along a trail: it tells the live entries of its hash, all of them, each once, oldest first. No program.
  What a table's calls make of it, as the document has it. No program.
-/
import Derived.WalkKit
namespace Go.Proofs.YtjkggidcheagpaaGreat

/-- Room of S cells. -/
def rm (S : Nat) : Nat := S * 2 / 3
/-- f, but v at i. -/
def upd (f : Nat → Int) (i : Nat) (v : Int) : Nat → Int := fun x => if x = i then v else f x
/-- The first k of l, the rest of f. -/
def mix (k : Nat) (l f : Nat → Int) : Nat → Int := fun x => if x < k then l x else f x
theorem mix_upd (k : Nat) (l f : Nat → Int) : upd (mix k l f) k (l k) = mix (k + 1) l f := by
  funext x
  unfold upd mix
  by_cases h : x = k
  · subst h
    rw [if_pos rfl, if_pos (by omega)]
  · rw [if_neg h]
    by_cases h2 : x < k
    · rw [if_pos h2, if_pos (by omega)]
    · rw [if_neg h2, if_neg (by omega)]
/-- The first k cells are empty. -/
def emp (k : Nat) : Nat → Int := fun x => if x < k then -1 else 0
theorem emp_upd (k : Nat) : upd (emp k) k (-1) = emp (k + 1) := by
  funext x
  unfold upd emp
  by_cases h : x = k
  · subst h
    rw [if_pos rfl, if_pos (by omega)]
  · rw [if_neg h]
    by_cases h2 : x < k
    · rw [if_pos h2, if_pos (by omega)]
    · rw [if_neg h2, if_neg (by omega)]
end Go.Proofs.YtjkggidcheagpaaGreat
namespace Go.Proofs.YtjkggidcheagpaaGreat

/-- Cell number i of the trail of h in 2 ^ L cells. -/
def trl (h L : Nat) : Nat → Nat
  | 0 => h % 2 ^ L
  | i + 1 => (trl h L i * 5 + h / 32 ^ (i + 1) + 1) % 2 ^ L
theorem pow2_pos (L : Nat) : 0 < 2 ^ L := Nat.pow_pos (by decide)
theorem trl_lt (h L i : Nat) : trl h L i < 2 ^ L := by
  cases i with
  | zero => exact Nat.mod_lt _ (pow2_pos L)
  | succ i => exact Nat.mod_lt _ (pow2_pos L)
/-- 1 + 5 + .. + 5 ^ (d - 1). -/
def geo : Nat → Nat
  | 0 => 0
  | d + 1 => geo d * 5 + 1
theorem geo_pow (d : Nat) : 4 * geo d + 1 = 5 ^ d := by
  induction d with
  | zero => rfl
  | succ d ih => rw [geo, Nat.pow_succ, ← ih]; omega
theorem geo_add (a b : Nat) : geo (a + b) = geo a * 5 ^ b + geo b := by
  induction b with
  | zero => simp [geo]
  | succ b ih => rw [← Nat.add_assoc, geo, ih, geo, Nat.pow_succ, Nat.add_mul, Nat.mul_assoc]; omega
theorem geo_odd (d : Nat) : geo d % 2 = d % 2 := by
  induction d with
  | zero => rfl
  | succ d ih => rw [geo]; omega
theorem pow5_mod (e : Nat) : 5 ^ e % 4 = 1 := by
  induction e with
  | zero => rfl
  | succ e ih => rw [Nat.pow_succ, Nat.mul_mod, ih]
/-- An odd factor goes. -/
theorem odd_factor (L : Nat) : ∀ (a m : Nat), m % 2 = 1 → 2 ^ L ∣ a * m → 2 ^ L ∣ a := by
  induction L with
  | zero => intro a m _ _; exact Nat.one_dvd _
  | succ L ih =>
    intro a m hm h
    have h2 : 2 ∣ a * m := Nat.dvd_trans ⟨2 ^ L, by rw [Nat.pow_succ, Nat.mul_comm]⟩ h
    have ha : a % 2 = 0 := by
      have h3 := Nat.mod_eq_zero_of_dvd h2
      rw [Nat.mul_mod, hm] at h3
      omega
    obtain ⟨b, rfl⟩ : ∃ b, a = b * 2 := ⟨a / 2, by omega⟩
    have h4 : 2 ^ L * 2 ∣ (b * m) * 2 := by rw [Nat.pow_succ] at h; rwa [Nat.mul_right_comm]
    have h5 := ih b m hm (Nat.dvd_of_mul_dvd_mul_right (by decide) h4)
    rw [Nat.pow_succ]
    exact Nat.mul_dvd_mul h5 (Nat.dvd_refl 2)
theorem geo_dvd (L : Nat) : ∀ d, 2 ^ L ∣ geo d → 2 ^ L ∣ d := by
  induction L with
  | zero => intro d _; exact Nat.one_dvd _
  | succ L ih =>
    intro d h
    have h2 : 2 ∣ geo d := Nat.dvd_trans ⟨2 ^ L, by rw [Nat.pow_succ, Nat.mul_comm]⟩ h
    have h3 := Nat.mod_eq_zero_of_dvd h2
    rw [geo_odd] at h3
    obtain ⟨e, rfl⟩ : ∃ e, d = e + e := ⟨d / 2, by omega⟩
    obtain ⟨q, hq⟩ : ∃ q, 5 ^ e + 1 = (2 * q + 1) * 2 := by
      have h9 := pow5_mod e
      generalize 5 ^ e = z at h9 ⊢
      exact ⟨z / 4, by omega⟩
    have h4 : geo (e + e) = geo e * (2 * q + 1) * 2 := by
      rw [geo_add, Nat.mul_assoc, ← hq, Nat.mul_add, Nat.mul_one]
    rw [h4, Nat.pow_succ] at h
    have h5 := ih e (odd_factor L _ _ (by omega) (Nat.dvd_of_mul_dvd_mul_right (by decide) h))
    rw [Nat.pow_succ, ← Nat.mul_two]
    exact Nat.mul_dvd_mul h5 (Nat.dvd_refl 2)
/-- Where nothing is left of the hash: d cells on. -/
theorem trl_far (h L s : Nat) (hs : h / 32 ^ s = 0) (i : Nat) (hi : s ≤ i) : ∀ d, trl h L (i + d) % 2 ^ L = (trl h L i * 5 ^ d + geo d) % 2 ^ L := by
  intro d
  induction d with
  | zero => simp [geo]
  | succ d ih =>
    have hz : h / 32 ^ (i + d + 1) = 0 := by
      have h1 : h < 32 ^ s := (Nat.div_eq_zero_iff_lt (Nat.pow_pos (by decide))).1 hs
      exact Nat.div_eq_of_lt (Nat.lt_of_lt_of_le h1 (Nat.pow_le_pow_right (by decide) (by omega)))
    rw [← Nat.add_assoc, trl, hz, Nat.mod_mod, geo, Nat.pow_succ]
    have h2 : (trl h L (i + d) * 5 + 0 + 1) % 2 ^ L = ((trl h L i * 5 ^ d + geo d) * 5 + 1) % 2 ^ L := by
      rw [Nat.add_zero, Nat.add_mod, Nat.mul_mod, ih, ← Nat.mul_mod, ← Nat.add_mod]
    rw [h2, Nat.add_mul, Nat.mul_assoc, Nat.add_assoc]
/-- From the last shift on, 2 ^ L cells in a row are different. -/
theorem trl_apart (h L s : Nat) (hs : h / 32 ^ s = 0) (i j : Nat) (hi : s ≤ i) (hij : i < j) (hj : j < i + 2 ^ L) : trl h L i ≠ trl h L j := by
  intro e
  obtain ⟨d, rfl⟩ : ∃ d, j = i + d := ⟨j - i, by omega⟩
  have h1 := trl_far h L s hs i hi d
  rw [← e] at h1
  generalize trl h L i = x at h1 e
  have h2 : (x * 5 ^ d + geo d) = geo d * (4 * x + 1) + x := by
    rw [← geo_pow d, Nat.mul_add, Nat.mul_add, Nat.mul_one, Nat.mul_one, Nat.mul_left_comm x 4, Nat.mul_left_comm (geo d) 4, Nat.mul_comm x]
    omega
  rw [h2] at h1
  have h3 : 2 ^ L ∣ geo d * (4 * x + 1) := by
    have h4 := Nat.sub_mod_eq_zero_of_mod_eq h1.symm
    rw [Nat.add_sub_cancel] at h4
    exact Nat.dvd_of_mod_eq_zero h4
  have h5 := geo_dvd L d (odd_factor L _ _ (by omega) h3)
  have h6 := Nat.le_of_dvd (by omega) h5
  omega
/-- Equal low digits: equal first cells. -/
theorem trl_alike (h h' L k : Nat) (e : h % 2 ^ (L + 5 * k) = h' % 2 ^ (L + 5 * k)) : ∀ i, i ≤ k → trl h L i = trl h' L i := by
  have low : ∀ i, i ≤ k → h / 32 ^ i % 2 ^ L = h' / 32 ^ i % 2 ^ L := by
    intro i hi
    have h32 : 32 ^ i = 2 ^ (5 * i) := by rw [Nat.pow_mul]
    have step : ∀ x : Nat, x / 32 ^ i % 2 ^ L = x % 2 ^ (L + 5 * k) / 32 ^ i % 2 ^ L := fun x => by
      have h1 : 2 ^ (L + 5 * k) = 32 ^ i * (2 ^ L * 2 ^ (5 * (k - i))) := by
        rw [h32, ← Nat.pow_add, ← Nat.pow_add]
        congr 1
        omega
      rw [h1, Nat.mod_mul_right_div_self, Nat.mod_mul_right_mod]
    rw [step h, step h', e]
  intro i
  induction i with
  | zero => intro _; have := low 0 (by omega); simpa [trl] using this
  | succ i ih =>
    intro hi
    rw [trl, trl, ih (by omega), Nat.add_right_comm, Nat.add_mod, low (i + 1) hi, ← Nat.add_mod, Nat.add_right_comm]
theorem gone (h : Nat) (hh : h < 18446744073709551616) : h / 32 ^ 13 = 0 := Nat.div_eq_of_lt (Nat.lt_of_lt_of_le hh (by decide))
/-- How often a word is shifted by 5 till nothing is left. -/
def shn (h : Nat) : Nat := if h = 0 then 0 else shn (h / 32) + 1
termination_by h
decreasing_by omega
theorem shn_zero : shn 0 = 0 := by rw [shn, if_pos rfl]
theorem shn_step (h : Nat) (h0 : h ≠ 0) : shn h = shn (h / 32) + 1 := by rw [shn, if_neg h0]
/-- It is the first number of shifts that leaves nothing. -/
theorem shn_least (n : Nat) : ∀ h, shn h ≤ n ↔ h / 32 ^ n = 0 := by
  induction n with
  | zero =>
    intro h
    by_cases h0 : h = 0
    · subst h0; simp [shn_zero]
    · rw [shn_step h h0]; simp [h0]
  | succ n ih =>
    intro h
    by_cases h0 : h = 0
    · subst h0; simp [shn_zero]
    · rw [shn_step h h0, Nat.pow_succ, Nat.mul_comm, ← Nat.div_div_eq_div_mul, ← ih]
      omega
theorem shn_gone (h : Nat) : h / 32 ^ shn h = 0 := (shn_least _ h).1 (Nat.le_refl _)
theorem shn_le (h : Nat) (hh : h < 18446744073709551616) : shn h ≤ 13 := (shn_least 13 h).2 (gone h hh)
/-- What is left behind one shift more. -/
theorem left_step (h i : Nat) : h / 32 ^ i / 32 = h / 32 ^ (i + 1) := by rw [Nat.div_div_eq_div_mul, Nat.pow_succ]
/-- The sum that gives the next cell fits into a word. -/
theorem sum_fits (c h i L : Nat) (hL : L ≤ 20) (hc : c < 2 ^ L) (hh : h < 18446744073709551616) : c * 5 + h / 32 ^ (i + 1) + 1 < 18446744073709551616 := by
  have h1 : 2 ^ L ≤ 2 ^ 20 := Nat.pow_le_pow_right (by decide) hL
  have h2 : h / 32 ^ (i + 1) ≤ h / 32 := by
    rw [Nat.pow_succ, Nat.mul_comm, ← Nat.div_div_eq_div_mul]
    exact Nat.div_le_self _ _
  have h3 : (2 : Nat) ^ 20 = 1048576 := by decide
  omega
/-- A hash as an unsigned word. -/
def uw (h : Int) : Nat := (IntKind.u64.wrap h).toNat
theorem uw_int (h : Int) : IntKind.u64.wrap h = ((uw h : Nat) : Int) := by
  have := wrap_u64_nonneg h
  unfold uw
  omega
theorem uw_lt (h : Int) : uw h < 18446744073709551616 := by
  unfold uw
  rw [IntKind.wrap_u64]
  omega
/-- The low digits of one word and the high ones of another. -/
theorem twin_low (a K c : Nat) (hc : c % 2 ^ K = 0) : ((a % 2 ^ K) + c) % 2 ^ K = a % 2 ^ K := by
  rw [Nat.add_mod, hc, Nat.add_zero, Nat.mod_mod, Nat.mod_mod]
end Go.Proofs.YtjkggidcheagpaaGreat
namespace Go.Proofs.YtjkggidcheagpaaGreat

/-- How many numbers below n meet p. -/
def cnt (p : Nat → Bool) : Nat → Nat
  | 0 => 0
  | n + 1 => cnt p n + (if p n = true then 1 else 0)
theorem cnt_le (p : Nat → Bool) (n : Nat) : cnt p n ≤ n := by
  induction n with
  | zero => exact Nat.le_refl _
  | succ n ih => rw [cnt]; split <;> omega
theorem cnt_congr {p q : Nat → Bool} {n : Nat} (h : ∀ x, x < n → p x = q x) : cnt p n = cnt q n := by
  induction n with
  | zero => rfl
  | succ n ih => rw [cnt, cnt, ih fun x hx => h x (by omega), h n (by omega)]
theorem cnt_add {p q : Nat → Bool} {n x : Nat} (hx : x < n) (hp : p x = false) (hq : q x = true) (h : ∀ y, y < n → y ≠ x → q y = p y) : cnt q n = cnt p n + 1 := by
  induction n with
  | zero => omega
  | succ n ih =>
    rw [cnt, cnt]
    by_cases e : x = n
    · subst e
      rw [cnt_congr (q := p) fun y hy => h y (by omega) (by omega), if_pos hq, if_neg (by rw [hp]; simp)]
    · rw [ih (by omega) fun y hy => h y (by omega), h n (by omega) (fun z => e z.symm)]
      omega
theorem cnt_not (p : Nat → Bool) (n : Nat) : cnt p n + cnt (fun x => !p x) n = n := by
  induction n with
  | zero => rfl
  | succ n ih =>
    rw [cnt, cnt]
    cases p n <;> simp <;> omega
theorem cnt_full {p : Nat → Bool} {n : Nat} (h : cnt p n = n) : ∀ x, x < n → p x = true := by
  induction n with
  | zero => intro x hx; omega
  | succ n ih =>
    intro x hx
    have h1 := cnt_le p n
    rw [cnt] at h
    have h2 : p n = true := by
      cases hp : p n with
      | true => rfl
      | false => rw [hp] at h; simp at h; omega
    rw [if_pos h2] at h
    by_cases e : x = n
    · rw [e]; exact h2
    · exact ih (by omega) x (by omega)
theorem cnt_some {p : Nat → Bool} {n : Nat} (h : 0 < cnt p n) : ∃ x, x < n ∧ p x = true := by
  induction n with
  | zero => simp [cnt] at h
  | succ n ih =>
    by_cases hp : p n = true
    · exact ⟨n, by omega, hp⟩
    · rw [cnt, if_neg hp] at h
      obtain ⟨x, h1, h2⟩ := ih h
      exact ⟨x, by omega, h2⟩
theorem cnt_none {p : Nat → Bool} {n : Nat} (h : ∀ x, x < n → p x = false) : cnt p n = 0 := by
  induction n with
  | zero => rfl
  | succ n ih => rw [cnt, ih fun x hx => h x (by omega), h n (by omega)]; rfl
/-- n different numbers below n: each is among them. -/
theorem hit_all (f : Nat → Nat) (n : Nat) (hf : ∀ i, i < n → f i < n) (inj : ∀ i j, i < j → j < n → f i ≠ f j) : ∀ y, y < n → ∃ i, i < n ∧ f i = y := by
  have key : ∀ k, k ≤ n → cnt (fun x => (List.range k).any fun i => f i == x) n = k := by
    intro k
    induction k with
    | zero => intro _; exact cnt_none fun x _ => by simp
    | succ k ih =>
      intro hk
      rw [cnt_add (p := fun x => (List.range k).any fun i => f i == x) (x := f k) (hf k (by omega)), ih (by omega)]
      · rw [List.any_eq_false]
        intro i hi
        have := inj i k (List.mem_range.1 hi) (by omega)
        simp [this]
      · simp [List.range_succ]
      · intro y _ hy
        simp only [List.range_succ, List.any_append, List.any_cons, List.any_nil, Bool.or_false]
        rw [show (f k == y) = false by simp; exact fun e => hy e.symm, Bool.or_false]
  intro y hy
  have h := cnt_full (key n (Nat.le_refl _)) y hy
  rw [List.any_eq_true] at h
  obtain ⟨i, h1, h2⟩ := h
  exact ⟨i, List.mem_range.1 h1, by simpa using h2⟩
theorem least {P : Nat → Prop} : ∀ n, P n → ∃ i, i ≤ n ∧ P i ∧ ∀ j, j < i → ¬ P j := by
  intro n
  induction n using Nat.strongRecOn with
  | _ n ih =>
    intro h
    by_cases e : ∃ m, m < n ∧ P m
    · obtain ⟨m, h1, h2⟩ := e
      obtain ⟨i, h3, h4, h5⟩ := ih m h1 h2
      exact ⟨i, by omega, h4, h5⟩
    · exact ⟨n, Nat.le_refl _, h, fun j hj hp => e ⟨j, hj, hp⟩⟩
/-- A trail comes to every cell among its first 2 ^ L + 13. -/
theorem trl_all (h L x : Nat) (hh : h < 18446744073709551616) (hx : x < 2 ^ L) : ∃ i, i < 2 ^ L + 13 ∧ trl h L i = x := by
  obtain ⟨d, h1, h2⟩ := hit_all (fun d => trl h L (13 + d)) (2 ^ L) (fun i _ => trl_lt _ _ _) (fun i j h1 h2 => trl_apart h L 13 (gone h hh) (13 + i) (13 + j) (by omega) (by omega) (by omega)) x hx
  exact ⟨13 + d, by omega, h2⟩
/-- i is the place of the first empty cell of a trail. -/
def IsF (c : Nat → Int) (h L i : Nat) : Prop := c (trl h L i) = -1 ∧ ∀ j, j < i → c (trl h L j) ≠ -1
theorem IsF.uniq {c : Nat → Int} {h L i j : Nat} (a : IsF c h L i) (b : IsF c h L j) : i = j := by
  rcases Nat.lt_trichotomy i j with e | e | e
  · exact absurd a.1 (b.2 i e)
  · exact e
  · exact absurd b.1 (a.2 j e)
theorem isF_some {c : Nat → Int} {L x : Nat} (h : Nat) (hh : h < 18446744073709551616) (hx : x < 2 ^ L) (hc : c x = -1) : ∃ i, i < 2 ^ L + 13 ∧ IsF c h L i := by
  obtain ⟨k, h1, h2⟩ := trl_all h L x hh hx
  obtain ⟨i, h3, h4, h5⟩ := least (P := fun i => c (trl h L i) = -1) k (by rw [h2]; exact hc)
  exact ⟨i, by omega, h4, h5⟩
end Go.Proofs.YtjkggidcheagpaaGreat
namespace Go.Proofs.YtjkggidcheagpaaGreat

/-- An entry. -/
structure En where
  live : Bool
  hash : Int
  key : Int
  value : Int
  birth : Int
def En.zero : En := ⟨false, 0, 0, 0, 0⟩
/-- A dead entry: nothing but its birth. -/
def En.gone (b : Int) : En := ⟨false, 0, 0, 0, b⟩
/-- What is told of an entry: of a dead one nothing. -/
def En.shown (e : En) : En := if e.live = true then e else En.zero
theorem En.shown_live {e : En} (h : e.live = true) : e.shown = e := if_pos h
theorem En.shown_dead {e : En} (h : e.live = false) : e.shown = En.zero := if_neg (by rw [h]; decide)
theorem En.shown_is (e : En) : e.shown.live = e.live := by
  unfold En.shown
  by_cases h : e.live = true
  · rw [if_pos h]
  · rw [if_neg h]
    simp at h
    rw [h]
    rfl
def nth (es : List En) (n : Nat) : En := es.getD n En.zero
theorem nth_app_lt {es : List En} {e : En} {n : Nat} (h : n < es.length) : nth (es ++ [e]) n = nth es n := by
  unfold nth
  rw [List.getD_eq_getElem?_getD, List.getD_eq_getElem?_getD, List.getElem?_append_left h]
theorem nth_app_eq (es : List En) (e : En) : nth (es ++ [e]) es.length = e := by
  unfold nth
  rw [List.getD_eq_getElem?_getD, List.getElem?_append_right (Nat.le_refl _)]
  simp
theorem nth_set {es : List En} {e : En} {n m : Nat} (h : n < es.length) : nth (es.set n e) m = if m = n then e else nth es m := by
  unfold nth
  rw [List.getD_eq_getElem?_getD, List.getD_eq_getElem?_getD, List.getElem?_set]
  by_cases x : m = n
  · subst x
    simp [h]
  · rw [if_neg (fun y => x y.symm), if_neg x]
theorem nth_big {es : List En} {n : Nat} (h : es.length ≤ n) : nth es n = En.zero := by
  unfold nth
  rw [List.getD_eq_getElem?_getD, List.getElem?_eq_none h]
  rfl
/-- What is told of entries. -/
def shw (es : List En) : List En := es.map En.shown
theorem shw_len (es : List En) : (shw es).length = es.length := List.length_map _
theorem nth_shw (es : List En) (n : Nat) : nth (shw es) n = (nth es n).shown := by
  unfold nth shw
  rw [List.getD_eq_getElem?_getD, List.getD_eq_getElem?_getD, List.getElem?_map]
  cases es[n]? with
  | none => rfl
  | some e => rfl
theorem shw_app (a b : List En) : shw (a ++ b) = shw a ++ shw b := List.map_append
theorem shw_all {es : List En} (h : ∀ e ∈ es, e.live = true) : shw es = es := by
  unfold shw
  refine (List.map_congr_left fun e he => ?_).trans (List.map_id es)
  exact En.shown_live (h e he)
/-- The place of a live entry along its trail: no empty cell ahead of it, and only numbers below its own. -/
def Pos (es : List En) (L : Nat) (c : Nat → Int) (n i : Nat) : Prop :=
  c (trl (uw (nth es n).hash) L i) = (n : Int) ∧ ∀ j, j < i → c (trl (uw (nth es n).hash) L j) ≠ -1 ∧ c (trl (uw (nth es n).hash) L j) < (n : Int)
theorem Pos.uniq {es : List En} {L : Nat} {c : Nat → Int} {n i j : Nat} (a : Pos es L c n i) (b : Pos es L c n j) : i = j := by
  rcases Nat.lt_trichotomy i j with e | e | e
  · have := (b.2 i e).2; rw [a.1] at this; omega
  · exact e
  · have := (a.2 j e).2; rw [b.1] at this; omega
/-- How many entries are dead. -/
def deadN : List En → Nat
  | [] => 0
  | e :: r => deadN r + (if e.live = true then 0 else 1)
theorem deadN_app (a b : List En) : deadN (a ++ b) = deadN a + deadN b := by
  induction a with
  | nil => simp [deadN]
  | cons e r ih => rw [List.cons_append, deadN, deadN, ih]; omega
theorem deadN_le (a : List En) : deadN a ≤ a.length := by
  induction a with
  | nil => exact Nat.le_refl _
  | cons e r ih => rw [deadN, List.length_cons]; split <;> omega
theorem deadN_kill' : ∀ (es : List En) (n : Nat) (z : En), z.live = false → (nth es n).live = true → deadN (es.set n z) = deadN es + 1 := by
  intro es
  induction es with
  | nil => intro n z hz h; simp [nth, En.zero] at h
  | cons e r ih =>
    intro n z hz h
    match n, h with
    | 0, h =>
      have h1 : e.live = true := by simpa [nth] using h
      simp [deadN, h1, hz]
    | n + 1, h =>
      have h1 : (nth r n).live = true := by simpa [nth] using h
      simp only [List.set_cons_succ, deadN, ih n z hz h1]
      omega
theorem deadN_kill (es : List En) (n : Nat) (h : (nth es n).live = true) : deadN (es.set n En.zero) = deadN es + 1 := deadN_kill' es n En.zero rfl h
theorem deadN_shw (es : List En) : deadN (shw es) = deadN es := by
  induction es with
  | nil => rfl
  | cons e r ih =>
    show deadN (e.shown :: shw r) = _
    rw [deadN, deadN, ih, e.shown_is]
theorem deadN_put : ∀ (es : List En) (n : Nat) (e : En), (nth es n).live = true → e.live = true → deadN (es.set n e) = deadN es := by
  intro es
  induction es with
  | nil => intro n e h; simp [nth, En.zero] at h
  | cons x r ih =>
    intro n e h he
    match n, h with
    | 0, h =>
      have h1 : x.live = true := by simpa [nth] using h
      simp [deadN, h1, he]
    | n + 1, h =>
      have h1 : (nth r n).live = true := by simpa [nth] using h
      simp only [List.set_cons_succ, deadN, ih n e h1 he]
/-- What always holds of entries and cells. -/
structure Inv (es : List En) (L : Nat) (c : Nat → Int) : Prop where
  room : es.length ≤ rm (2 ^ L)
  val : ∀ x, x < 2 ^ L → c x = -1 ∨ c x = -2 ∨ ∃ n : Nat, n < es.length ∧ c x = (n : Int) ∧ (nth es n).live = true
  inj : ∀ x y, x < 2 ^ L → y < 2 ^ L → 0 ≤ c x → c x = c y → x = y
  pos : ∀ n, n < es.length → (nth es n).live = true → ∃ i, Pos es L c n i
  used : cnt (fun x => c x != -1) (2 ^ L) = es.length
  dead : cnt (fun x => c x == -2) (2 ^ L) = deadN es
theorem Inv.nil (L : Nat) : Inv [] L (fun _ => -1) :=
  ⟨by simp, fun x _ => .inl rfl, fun x y _ _ h => absurd h (by decide), fun n h => absurd h (by simp), cnt_none fun x _ => by simp, cnt_none fun x _ => by simp⟩
theorem rm_lt (L : Nat) : rm (2 ^ L) < 2 ^ L := by
  have := pow2_pos L
  unfold rm
  omega
/-- There is an empty cell. -/
theorem Inv.empty {es : List En} {L : Nat} {c : Nat → Int} (h : Inv es L c) : ∃ x, x < 2 ^ L ∧ c x = -1 := by
  have h1 := cnt_not (fun x => c x != -1) (2 ^ L)
  have h2 := h.room
  have h3 := rm_lt L
  rw [h.used] at h1
  obtain ⟨x, h4, h5⟩ := cnt_some (p := fun x => !(c x != -1)) (n := 2 ^ L) (by omega)
  exact ⟨x, h4, by simpa using h5⟩
/-- At least one cell in three is empty. -/
theorem Inv.third {es : List En} {L : Nat} {c : Nat → Int} (h : Inv es L c) : 2 ^ L ≤ 3 * cnt (fun x => c x == -1) (2 ^ L) := by
  have h1 := cnt_not (fun x => c x != -1) (2 ^ L)
  have h2 := h.room
  rw [h.used, cnt_congr (q := fun x => c x == -1) fun x _ => by simp [bne]] at h1
  unfold rm at h2
  omega
theorem Inv.first {es : List En} {L : Nat} {c : Nat → Int} (h : Inv es L c) (u : Int) : ∃ i, i < 2 ^ L + 13 ∧ IsF c (uw u) L i := by
  obtain ⟨x, h1, h2⟩ := h.empty
  exact isF_some _ (uw_lt u) h1 h2
/-- An entry more, laid into the first empty cell of its trail. -/
theorem Inv.lay {es : List En} {L : Nat} {c : Nat → Int} (h : Inv es L c) (e : En) (he : e.live = true) (hr : es.length < rm (2 ^ L)) {i : Nat} (hi : IsF c (uw e.hash) L i) :
    Inv (es ++ [e]) L (upd c (trl (uw e.hash) L i) (es.length : Int)) := by
  have hx := trl_lt (uw e.hash) L i
  obtain ⟨h1, h2⟩ := hi
  have hlen : (es ++ [e]).length = es.length + 1 := by simp
  have hne : ∀ y, y < 2 ^ L → c y ≠ (es.length : Int) := by
    intro y hy
    rcases h.val y hy with a | a | ⟨n, a, b, _⟩ <;> omega
  refine ⟨by rw [hlen]; omega, fun y hy => ?_, fun y z hy hz hp hyz => ?_, fun n hn hl => ?_, ?_, ?_⟩
  · unfold upd
    by_cases a : y = trl (uw e.hash) L i
    · rw [if_pos a]
      exact .inr (.inr ⟨es.length, by omega, rfl, by rw [nth_app_eq]; exact he⟩)
    · rw [if_neg a]
      rcases h.val y hy with b | b | ⟨n, b1, b2, b3⟩
      · exact .inl b
      · exact .inr (.inl b)
      · exact .inr (.inr ⟨n, by omega, b2, by rw [nth_app_lt b1]; exact b3⟩)
  · unfold upd at hp hyz
    by_cases a : y = trl (uw e.hash) L i
    · by_cases b : z = trl (uw e.hash) L i
      · rw [a, b]
      · rw [if_pos a, if_neg b] at hyz
        exact absurd hyz.symm (hne z hz)
    · rw [if_neg a] at hp hyz
      by_cases b : z = trl (uw e.hash) L i
      · rw [if_pos b] at hyz
        exact absurd hyz (hne y hy)
      · rw [if_neg b] at hyz
        exact h.inj y z hy hz hp hyz
  · by_cases a : n = es.length
    · subst a
      refine ⟨i, ?_, fun j hj => ?_⟩
      · rw [nth_app_eq]
        unfold upd
        rw [if_pos rfl]
      · rw [nth_app_eq]
        have hj1 := h2 j hj
        have hj2 : trl (uw e.hash) L j ≠ trl (uw e.hash) L i := fun q => hj1 (by rw [q]; exact h1)
        unfold upd
        rw [if_neg hj2]
        refine ⟨hj1, ?_⟩
        rcases h.val _ (trl_lt (uw e.hash) L j) with b | b | ⟨m, b1, b2, _⟩ <;> omega
    · have hn' : n < es.length := by omega
      rw [nth_app_lt hn'] at hl
      obtain ⟨p, q1, q2⟩ := h.pos n hn' hl
      refine ⟨p, ?_, fun j hj => ?_⟩
      · rw [nth_app_lt hn']
        unfold upd
        rw [if_neg (fun q => by rw [q, h1] at q1; omega)]
        exact q1
      · rw [nth_app_lt hn']
        have r := q2 j hj
        unfold upd
        rw [if_neg (fun q => r.1 (by rw [q]; exact h1))]
        exact r
  · rw [cnt_add (p := fun x => c x != -1) hx (by simp [h1]) (by simp [upd]) (fun y _ hy => by simp [upd, hy]), h.used, hlen]
  · rw [cnt_congr (q := fun x => c x == -2) fun y _ => ?_, h.dead, deadN_app]
    · simp [deadN, he]
    · unfold upd
      by_cases a : y = trl (uw e.hash) L i
      · rw [if_pos a, a, h1]
        simp
      · rw [if_neg a]
/-- A live entry is killed, and its cell is dead. -/
def killc (c : Nat → Int) (n : Nat) : Nat → Int := fun x => if c x = (n : Int) then -2 else c x
theorem Inv.kill' {es : List En} {L : Nat} {c : Nat → Int} (h : Inv es L c) (n : Nat) (hn : n < es.length) (hl : (nth es n).live = true) (z : En) (hz : z.live = false) : Inv (es.set n z) L (killc c n) := by
  have hlen : (es.set n z).length = es.length := by simp
  obtain ⟨p, q1, _⟩ := h.pos n hn hl
  have hx := trl_lt (uw (nth es n).hash) L p
  refine ⟨by rw [hlen]; exact h.room, fun y hy => ?_, fun y z hy hz hp hyz => ?_, fun m hm hml => ?_, ?_, ?_⟩
  · unfold killc
    by_cases a : c y = (n : Int)
    · rw [if_pos a]; exact .inr (.inl rfl)
    · rw [if_neg a]
      rcases h.val y hy with b | b | ⟨m, b1, b2, b3⟩
      · exact .inl b
      · exact .inr (.inl b)
      · refine .inr (.inr ⟨m, by rw [hlen]; exact b1, b2, ?_⟩)
        rw [nth_set hn, if_neg (fun e => a (by rw [b2, e]))]
        exact b3
  · unfold killc at hp hyz
    by_cases a : c y = (n : Int)
    · rw [if_pos a] at hp; omega
    · rw [if_neg a] at hp hyz
      by_cases b : c z = (n : Int)
      · rw [if_pos b] at hyz; omega
      · rw [if_neg b] at hyz
        exact h.inj y z hy hz hp hyz
  · rw [hlen] at hm
    have hmn : m ≠ n := fun e => by rw [nth_set hn, if_pos e, hz] at hml; cases hml
    rw [nth_set hn, if_neg hmn] at hml
    obtain ⟨i, r1, r2⟩ := h.pos m hm hml
    refine ⟨i, ?_, fun j hj => ?_⟩
    · rw [nth_set hn, if_neg hmn]
      unfold killc
      rw [if_neg (by rw [r1]; omega)]
      exact r1
    · rw [nth_set hn, if_neg hmn]
      have r := r2 j hj
      unfold killc
      by_cases a : c (trl (uw (nth es m).hash) L j) = (n : Int)
      · rw [if_pos a]; omega
      · rw [if_neg a]; exact r
  · rw [hlen, ← h.used]
    refine cnt_congr fun y _ => ?_
    unfold killc
    by_cases a : c y = (n : Int)
    · rw [if_pos a, a]
      simp
    · rw [if_neg a]
  · rw [deadN_kill' es n z hz hl, ← h.dead]
    refine cnt_add hx ?_ ?_ fun y hy hne => ?_
    · rw [q1]
      simp
    · unfold killc
      rw [if_pos q1]
      rfl
    · unfold killc
      rw [if_neg (fun a => hne (h.inj y _ hy hx (by omega) (by rw [a, q1])))]
theorem Inv.kill {es : List En} {L : Nat} {c : Nat → Int} (h : Inv es L c) (n : Nat) (hn : n < es.length) (hl : (nth es n).live = true) : Inv (es.set n En.zero) L (killc c n) := h.kill' n hn hl En.zero rfl
/-- Where each live entry stands is the same as where its cell is turned. -/
theorem killc_upd {es : List En} {L : Nat} {c : Nat → Int} (h : Inv es L c) (n : Nat) {x : Nat} (hx : x < 2 ^ L) (hc : c x = (n : Int)) : ∀ y, y < 2 ^ L → killc c n y = upd c x (-2) y := by
  intro y hy
  unfold killc upd
  by_cases a : y = x
  · rw [if_pos a, a, if_pos hc]
  · rw [if_neg a, if_neg (fun b => a (h.inj y x hy hx (by omega) (by rw [b, hc])))]
/-- Another value, or another birth: nothing of the cells is asked of it. -/
theorem Inv.put {es : List En} {L : Nat} {c : Nat → Int} (h : Inv es L c) (n : Nat) (hn : n < es.length) (hl : (nth es n).live = true) (e : En) (he : e.live = true) (hh : e.hash = (nth es n).hash) : Inv (es.set n e) L c := by
  have hlen : (es.set n e).length = es.length := by simp
  have hs : ∀ m, (nth (es.set n e) m).live = (nth es m).live ∧ (nth (es.set n e) m).hash = (nth es m).hash := by
    intro m
    rw [nth_set hn]
    by_cases a : m = n
    · rw [if_pos a, a]; exact ⟨by rw [he, hl], hh⟩
    · rw [if_neg a]; exact ⟨rfl, rfl⟩
  refine ⟨by rw [hlen]; exact h.room, fun y hy => ?_, h.inj, fun m hm hml => ?_, by rw [hlen]; exact h.used, ?_⟩
  · rcases h.val y hy with b | b | ⟨m, b1, b2, b3⟩
    · exact .inl b
    · exact .inr (.inl b)
    · exact .inr (.inr ⟨m, by rw [hlen]; exact b1, b2, by rw [(hs m).1]; exact b3⟩)
  · rw [hlen] at hm
    rw [(hs m).1] at hml
    obtain ⟨i, r1, r2⟩ := h.pos m hm hml
    unfold Pos
    rw [(hs m).2]
    exact ⟨i, r1, r2⟩
  · rw [deadN_put es n e hl he]; exact h.dead
theorem Inv.congr {es : List En} {L : Nat} {c c' : Nat → Int} (h : Inv es L c) (e : ∀ y, y < 2 ^ L → c' y = c y) : Inv es L c' := by
  have ht : ∀ u i, c' (trl u L i) = c (trl u L i) := fun u i => e _ (trl_lt _ _ _)
  refine ⟨h.room, fun y hy => by rw [e y hy]; exact h.val y hy, fun y z hy hz a b => by rw [e y hy] at a b; rw [e z hz] at b; exact h.inj y z hy hz a b, fun n hn hl => ?_, ?_, ?_⟩
  · obtain ⟨i, r1, r2⟩ := h.pos n hn hl
    exact ⟨i, by rw [ht]; exact r1, fun j hj => by rw [ht]; exact r2 j hj⟩
  · rw [← h.used]; exact cnt_congr fun y hy => by rw [e y hy]
  · rw [← h.dead]; exact cnt_congr fun y hy => by rw [e y hy]
end Go.Proofs.YtjkggidcheagpaaGreat
namespace Go.Proofs.YtjkggidcheagpaaGreat

/-- A live entry of that hash. -/
def Of (es : List En) (u : Int) (n : Nat) : Prop := n < es.length ∧ (nth es n).live = true ∧ (nth es n).hash = u
/-- Ahead of place i of the trail of u: the entries of u that were met are those up to last. -/
def Told (es : List En) (L : Nat) (c : Nat → Int) (u : Int) (i : Nat) (last : Int) : Prop := ∀ n, Of es u n → ∀ p, Pos es L c n p → (p < i ↔ (n : Int) ≤ last)
theorem told_zero (es : List En) (L : Nat) (c : Nat → Int) (u : Int) : Told es L c u 0 (-1) := fun n _ p _ => by omega
/-- An entry of u at place i, above last: it is the next one. -/
theorem told_yes {es : List En} {L : Nat} {c : Nat → Int} {u : Int} {i : Nat} {last : Int} (hI : Inv es L c) (hT : Told es L c u i last) {v : Nat} (hc : c (trl (uw u) L i) = (v : Int)) (hv : last < (v : Int)) (ho : Of es u v) :
    Told es L c u (i + 1) (v : Int) ∧ ∀ n, Of es u n → last < (n : Int) → v ≤ n := by
  obtain ⟨pv, hpv⟩ := hI.pos v ho.1 ho.2.1
  have hpi : pv = i := by
    rcases Nat.lt_trichotomy pv i with e | e | e
    · have := (hT v ho pv hpv).1 e; omega
    · exact e
    · have := (hpv.2 i e).2; rw [ho.2.2, hc] at this; omega
  subst hpi
  have key : ∀ n, Of es u n → ∀ p, Pos es L c n p → (p < pv + 1 ↔ (n : Int) ≤ (v : Int)) := by
    intro n hn p hp
    constructor
    · intro h
      rcases Nat.lt_or_ge p pv with e | e
      · have := (hT n hn p hp).1 e; omega
      · obtain rfl : p = pv := by omega
        have h1 := hp.1
        rw [hn.2.2, hc] at h1
        omega
    · intro h
      rcases Nat.lt_trichotomy p pv with e | e | e
      · omega
      · omega
      · have := (hp.2 pv e).2
        rw [hn.2.2, hc] at this
        omega
  refine ⟨key, fun n hn hl => ?_⟩
  obtain ⟨p, hp⟩ := hI.pos n hn.1 hn.2.1
  rcases Nat.lt_or_ge n v with e | e
  · have h1 := (key n hn p hp).2 (by omega)
    rcases Nat.lt_or_ge p pv with f | f
    · have := (hT n hn p hp).1 f; omega
    · obtain rfl : p = pv := by omega
      have h2 := hp.1
      rw [hn.2.2, hc] at h2
      omega
  · exact e
/-- No such entry at place i. -/
theorem told_no {es : List En} {L : Nat} {c : Nat → Int} {u : Int} {i : Nat} {last : Int} (hT : Told es L c u i last) (hn : ∀ v : Nat, c (trl (uw u) L i) = (v : Int) → Of es u v → (v : Int) ≤ last) : Told es L c u (i + 1) last := by
  intro n ho p hp
  constructor
  · intro h
    rcases Nat.lt_or_ge p i with e | e
    · exact (hT n ho p hp).1 e
    · obtain rfl : p = i := by omega
      have h1 := hp.1
      rw [ho.2.2] at h1
      exact hn n h1 ho
  · intro h
    have := (hT n ho p hp).2 h
    omega
/-- An empty cell at place i: all were told. -/
theorem told_end {es : List En} {L : Nat} {c : Nat → Int} {u : Int} {i : Nat} {last : Int} (hI : Inv es L c) (hT : Told es L c u i last) (hc : c (trl (uw u) L i) = -1) : ∀ n, Of es u n → (n : Int) ≤ last := by
  intro n ho
  obtain ⟨p, hp⟩ := hI.pos n ho.1 ho.2.1
  refine (hT n ho p hp).1 ?_
  rcases Nat.lt_trichotomy p i with e | e | e
  · exact e
  · subst e
    have h1 := hp.1
    rw [ho.2.2, hc] at h1
    omega
  · have h1 := (hp.2 i e).1
    rw [ho.2.2] at h1
    exact absurd hc h1
/-- What a cell along the way holds: nothing any more, or a live entry. -/
theorem Inv.cell {es : List En} {L : Nat} {c : Nat → Int} (hI : Inv es L c) (u i : Nat) (h : c (trl u L i) ≠ -1) : c (trl u L i) = -2 ∨ ∃ n : Nat, n < es.length ∧ c (trl u L i) = (n : Int) ∧ (nth es n).live = true := by
  rcases hI.val _ (trl_lt u L i) with a | a | a
  · exact absurd a h
  · exact .inl a
  · exact .inr a
theorem cnt_zero {p : Nat → Bool} {n : Nat} (h : cnt p n = 0) : ∀ x, x < n → p x = false := by
  intro x hx
  cases e : p x with
  | false => rfl
  | true =>
    have h1 := cnt_add (p := fun y => if y = x then false else p y) (q := p) hx (by simp) e (fun y _ hy => by simp [hy])
    omega
/-- Without a dead cell, and with first cells that are all different: each entry stands in its first cell. -/
theorem Inv.once {es : List En} {L : Nat} {c : Nat → Int} (hI : Inv es L c) (hd : deadN es = 0) (hl : ∀ n, n < es.length → (nth es n).live = true)
    (hf : ∀ m n, m < n → n < es.length → trl (uw (nth es m).hash) L 0 ≠ trl (uw (nth es n).hash) L 0) : ∀ n, n < es.length → c (trl (uw (nth es n).hash) L 0) = (n : Int) := by
  intro n
  induction n using Nat.strongRecOn with
  | _ n ih =>
    intro hn
    obtain ⟨p, hp⟩ := hI.pos n hn (hl n hn)
    match p, hp with
    | 0, hp => exact hp.1
    | p + 1, hp =>
      exfalso
      have h0 := hp.2 0 (by omega)
      rcases hI.cell _ 0 h0.1 with a | ⟨m, a1, a2, a3⟩
      · have h1 := hI.dead
        rw [hd] at h1
        have h2 := cnt_zero h1 _ (trl_lt (uw (nth es n).hash) L 0)
        rw [a] at h2
        simp at h2
      · rw [a2] at h0
        have hmn : m < n := by omega
        have h1 := ih m hmn a1
        exact hf m n hmn hn (hI.inj _ _ (trl_lt _ _ _) (trl_lt _ _ _) (by rw [h1]; omega) (by rw [h1, a2]))
end Go.Proofs.YtjkggidcheagpaaGreat
namespace Go.Proofs.YtjkggidcheagpaaGreat

/-- A table, as the document has it. -/
structure Tb where
  es : List En
  L : Nat
  c : Nat → Int
  births : Nat
  made : Nat
  turn : Nat
def Tb.live (t : Tb) : Nat := t.es.length - deadN t.es
/-- The live entries, in their order. -/
def liveL : List En → List En
  | [] => []
  | e :: r => if e.live = true then e :: liveL r else liveL r
theorem liveL_app (a b : List En) : liveL (a ++ b) = liveL a ++ liveL b := by
  induction a with
  | nil => rfl
  | cons e r ih =>
    rw [List.cons_append, liveL, liveL, ih]
    by_cases h : e.live = true
    · rw [if_pos h, if_pos h, List.cons_append]
    · rw [if_neg h, if_neg h]
theorem liveL_len (es : List En) : (liveL es).length + deadN es = es.length := by
  induction es with
  | nil => rfl
  | cons e r ih =>
    rw [liveL, deadN, List.length_cons]
    by_cases h : e.live = true
    · rw [if_pos h, if_pos h, List.length_cons]; omega
    · rw [if_neg h, if_neg h]; omega
theorem liveL_live (es : List En) : ∀ e ∈ liveL es, e.live = true := by
  induction es with
  | nil => intro e h; simp [liveL] at h
  | cons x r ih =>
    intro e h
    rw [liveL] at h
    by_cases hx : x.live = true
    · rw [if_pos hx] at h
      rcases List.mem_cons.1 h with rfl | h
      · exact hx
      · exact ih e h
    · rw [if_neg hx] at h
      exact ih e h
theorem nth_mem {es : List En} {n : Nat} (h : n < es.length) : nth es n ∈ es := by
  unfold nth
  rw [List.getD_eq_getElem?_getD, List.getElem?_eq_getElem h, Option.getD_some]
  exact List.getElem_mem h
theorem liveL_nth (es : List En) (n : Nat) (h : n < (liveL es).length) : (nth (liveL es) n).live = true := liveL_live es _ (nth_mem h)
theorem take_succ_nth {es : List En} {k : Nat} (h : k < es.length) : es.take (k + 1) = es.take k ++ [nth es k] := by
  rw [List.take_succ_eq_append_getElem h]
  unfold nth
  rw [List.getD_eq_getElem?_getD, List.getElem?_eq_getElem h, Option.getD_some]
theorem liveL_take {es : List En} {k : Nat} (h : k < es.length) : liveL (es.take (k + 1)) = if (nth es k).live = true then liveL (es.take k) ++ [nth es k] else liveL (es.take k) := by
  rw [take_succ_nth h, liveL_app]
  by_cases x : (nth es k).live = true
  · rw [if_pos x, liveL, if_pos x, liveL]
  · rw [if_neg x, liveL, if_neg x, liveL, List.append_nil]
theorem deadN_live (es : List En) (h : ∀ e ∈ es, e.live = true) : deadN es = 0 := by
  induction es with
  | nil => rfl
  | cons e r ih => rw [deadN, ih fun x hx => h x (List.mem_cons_of_mem _ hx), if_pos (h e (List.mem_cons_self ..))]
theorem Tb.live_eq (t : Tb) : t.live = (liveL t.es).length := by
  have := liveL_len t.es
  unfold Tb.live
  omega
/-- The place of the first empty cell. -/
noncomputable def fidx (c : Nat → Int) (h L : Nat) : Nat := Classical.epsilon (IsF c h L)
theorem fidx_is {c : Nat → Int} {h L : Nat} (e : ∃ i, IsF c h L i) : IsF c h L (fidx c h L) := Classical.epsilon_spec e
theorem fidx_eq {c : Nat → Int} {h L i : Nat} (a : IsF c h L i) : fidx c h L = i := (fidx_is ⟨i, a⟩).uniq a
/-- A number laid. -/
noncomputable def layc (c : Nat → Int) (L : Nat) (u : Int) (n : Nat) : Nat → Int := upd c (trl (uw u) L (fidx c (uw u) L)) (n : Int)
/-- The first k of these entries laid, in their order. -/
noncomputable def layN (es : List En) (L : Nat) : Nat → (Nat → Int)
  | 0 => fun _ => -1
  | k + 1 => layc (layN es L k) L (nth es k).hash k
theorem layN_inv (es : List En) (L : Nat) (hl : ∀ n, n < es.length → (nth es n).live = true) (hr : es.length ≤ rm (2 ^ L)) : ∀ k, k ≤ es.length → Inv (es.take k) L (layN es L k) := by
  intro k
  induction k with
  | zero => intro _; rw [List.take_zero]; exact Inv.nil L
  | succ k ih =>
    intro hk
    have h := ih (by omega)
    obtain ⟨i, _, hi⟩ := h.first (nth es k).hash
    have hlen : (es.take k).length = k := by rw [List.length_take]; omega
    have h2 := h.lay (nth es k) (hl k (by omega)) (by omega) hi
    rw [hlen] at h2
    rw [take_succ_nth (by omega), layN, layc, fidx_eq hi]
    exact h2
/-- A new index table: the dead entries are dropped, the live ones laid anew. -/
noncomputable def Tb.re (t : Tb) (log : Nat) : Tb := { t with es := liveL t.es, L := log, c := layN (liveL t.es) log (liveL t.es).length, made := t.made + 1 }
/-- An entry more. -/
noncomputable def Tb.push (t : Tb) (u k v : Int) : Tb := { t with es := t.es ++ [⟨true, u, k, v, (t.births : Int)⟩], c := layc t.c t.L u t.es.length, births := t.births + 1, turn := t.turn + 1 }
/-- The least log from l on, within so many, for which 2 ^ log is three times n or more. -/
def glogF (n : Nat) : Nat → Nat → Nat
  | 0, l => l
  | f + 1, l => if 2 ^ l < 3 * n then glogF n f (l + 1) else l
def glog (n : Nat) : Nat := glogF n 20 3
theorem glogF_step (n : Nat) : ∀ f l, 2 ^ (l + f) ≥ 3 * n → glogF n f l ≤ l + f ∧ l ≤ glogF n f l ∧ ¬ 2 ^ glogF n f l < 3 * n ∧ ∀ j, l ≤ j → j < glogF n f l → 2 ^ j < 3 * n := by
  intro f
  induction f with
  | zero => intro l h; simp only [glogF]; exact ⟨by omega, by omega, by simpa using h, fun j h1 h2 => by omega⟩
  | succ f ih =>
    intro l h
    rw [glogF]
    by_cases e : 2 ^ l < 3 * n
    · rw [if_pos e]
      obtain ⟨h1, h2, h3, h4⟩ := ih (l + 1) (by rw [show l + 1 + f = l + (f + 1) by omega]; exact h)
      refine ⟨by omega, by omega, h3, fun j h5 h6 => ?_⟩
      rcases Nat.lt_or_ge l j with x | x
      · exact h4 j (by omega) h6
      · rw [show j = l by omega]; exact e
    · rw [if_neg e]
      exact ⟨by omega, by omega, e, fun j h1 h2 => by omega⟩
theorem glog_eq {n l : Nat} (hn : n ≤ 300000) (h3 : 3 ≤ l) (h1 : ¬ 2 ^ l < 3 * n) (h2 : ∀ j, 3 ≤ j → j < l → 2 ^ j < 3 * n) : glog n = l := by
  obtain ⟨a1, a2, a3, a4⟩ := glogF_step n 20 3 (Nat.le_trans (by omega : 3 * n ≤ 2 ^ 20) (by decide))
  unfold glog
  rcases Nat.lt_trichotomy (glogF n 20 3) l with e | e | e
  · exact absurd (h2 _ a2 e) a3
  · exact e
  · exact absurd (a4 l h3 e) h1
theorem glog_ok {n : Nat} (hn : n ≤ 300000) : 3 ≤ glog n ∧ glog n ≤ 20 ∧ 3 * n ≤ 2 ^ glog n := by
  obtain ⟨a1, a2, a3, a4⟩ := glogF_step n 20 3 (Nat.le_trans (by omega : 3 * n ≤ 2 ^ 20) (by decide))
  refine ⟨a2, ?_, Nat.le_of_not_lt a3⟩
  rcases Nat.lt_or_ge 20 (glog n) with e | e
  · have h1 := a4 20 (by omega) e
    have h2 : (2 : Nat) ^ 20 = 1048576 := by decide
    omega
  · exact e
noncomputable def Tb.add (t : Tb) (u k v : Int) : Tb := (if t.es.length < rm (2 ^ t.L) then t else t.re (glog t.live)).push u k v
/-- What always holds of a table. -/
structure Tb.Ok (t : Tb) : Prop where
  inv : Inv t.es t.L t.c
  sz : 3 ≤ t.L ∧ t.L ≤ 20
  few : t.es.length ≤ t.births
  all : t.births ≤ 100000
theorem Tb.live_le (t : Tb) : t.live ≤ t.es.length := by unfold Tb.live; omega
theorem Tb.Ok.re {t : Tb} (h : t.Ok) {log : Nat} (h3 : 3 ≤ log) (h20 : log ≤ 20) (hr : t.live ≤ rm (2 ^ log)) : (t.re log).Ok := by
  have h1 := t.live_eq
  have h2 := t.live_le
  refine ⟨?_, ⟨h3, h20⟩, ?_, h.all⟩
  · have := layN_inv (liveL t.es) log (fun n hn => liveL_nth _ n hn) (by omega) (liveL t.es).length (Nat.le_refl _)
    rw [List.take_length] at this
    exact this
  · have := h.few
    show (liveL t.es).length ≤ t.births
    omega
theorem Tb.Ok.push {t : Tb} (h : t.Ok) (u k v : Int) (hr : t.es.length < rm (2 ^ t.L)) (hb : t.births < 100000) : (t.push u k v).Ok := by
  obtain ⟨i, _, hi⟩ := h.inv.first u
  refine ⟨?_, h.sz, ?_, by show t.births + 1 ≤ 100000; omega⟩
  · have := h.inv.lay ⟨true, u, k, v, (t.births : Int)⟩ rfl hr hi
    show Inv (t.es ++ [_]) t.L (layc t.c t.L u t.es.length)
    rw [layc, fidx_eq hi]
    exact this
  · have := h.few
    show (t.es ++ [_]).length ≤ t.births + 1
    simp
    exact this
theorem grow_room {n : Nat} (hn : n ≤ 300000) : n < rm (2 ^ glog n) := by
  obtain ⟨h1, _, h3⟩ := glog_ok hn
  have h4 : 8 ≤ 2 ^ glog n := Nat.le_trans (by decide) (Nat.pow_le_pow_right (n := 2) (by decide) h1)
  unfold rm
  omega
theorem Tb.Ok.add {t : Tb} (h : t.Ok) (u k v : Int) (hb : t.births < 100000) : (t.add u k v).Ok := by
  unfold Tb.add
  have hl : t.live ≤ 300000 := by have := t.live_le; have := h.few; omega
  by_cases e : t.es.length < rm (2 ^ t.L)
  · rw [if_pos e]
    exact h.push u k v e hb
  · rw [if_neg e]
    obtain ⟨h1, h2, _⟩ := glog_ok hl
    have hr := grow_room hl
    exact (h.re h1 h2 (by omega)).push u k v (by show (liveL t.es).length < _; rw [← t.live_eq]; exact hr) hb
/-- The entry of that number is live. -/
def Tb.has (t : Tb) (n : Int) : Prop := 0 ≤ n ∧ n < (t.es.length : Int) ∧ (nth t.es n.toNat).live = true
noncomputable def Tb.kill (t : Tb) (n : Nat) : Tb := { t with es := t.es.set n (En.gone (nth t.es n).birth), c := killc t.c n, turn := t.turn + 1 }
/-- The same, where a dead entry keeps nothing. -/
noncomputable def Tb.killz (t : Tb) (n : Nat) : Tb := { t with es := t.es.set n En.zero, c := killc t.c n, turn := t.turn + 1 }
def Tb.putv (t : Tb) (n : Nat) (v : Int) : Tb := { t with es := t.es.set n ⟨(nth t.es n).live, (nth t.es n).hash, (nth t.es n).key, v, (nth t.es n).birth⟩ }
def Tb.clear (t : Tb) : Tb := { t with es := [], L := 3, c := fun _ => -1, made := t.made + 1, turn := t.turn + 1 }
theorem Tb.Ok.kill {t : Tb} (h : t.Ok) (n : Nat) (hn : n < t.es.length) (hl : (nth t.es n).live = true) : (t.kill n).Ok :=
  ⟨h.inv.kill' n hn hl _ rfl, h.sz, by show (t.es.set n _).length ≤ _; rw [List.length_set]; exact h.few, h.all⟩
theorem Tb.Ok.killz {t : Tb} (h : t.Ok) (n : Nat) (hn : n < t.es.length) (hl : (nth t.es n).live = true) : (t.killz n).Ok :=
  ⟨h.inv.kill n hn hl, h.sz, by show (t.es.set n En.zero).length ≤ _; rw [List.length_set]; exact h.few, h.all⟩
theorem Tb.Ok.putv {t : Tb} (h : t.Ok) (n : Nat) (hn : n < t.es.length) (hl : (nth t.es n).live = true) (v : Int) : (t.putv n v).Ok :=
  ⟨h.inv.put n hn hl _ hl rfl, h.sz, by show (t.es.set n _).length ≤ _; rw [List.length_set]; exact h.few, h.all⟩
theorem Tb.Ok.clear {t : Tb} (h : t.Ok) : t.clear.Ok := ⟨Inv.nil 3, by show 3 ≤ 3 ∧ 3 ≤ 20; omega, Nat.zero_le _, h.all⟩
theorem Tb.live_pos {t : Tb} (n : Nat) (hl : (nth t.es n).live = true) : 1 ≤ t.live := by
  have h1 := deadN_kill t.es n hl
  have h2 := deadN_le (t.es.set n En.zero)
  rw [List.length_set] at h2
  unfold Tb.live
  omega
theorem Tb.live_kill {t : Tb} (n : Nat) (hl : (nth t.es n).live = true) : (t.kill n).live = t.live - 1 := by
  show (t.es.set n (En.gone (nth t.es n).birth)).length - deadN (t.es.set n (En.gone (nth t.es n).birth)) = _
  rw [List.length_set, deadN_kill' t.es n _ rfl hl]
  unfold Tb.live
  omega
theorem Tb.live_killz {t : Tb} (n : Nat) (hl : (nth t.es n).live = true) : (t.killz n).live = t.live - 1 := by
  show (t.es.set n En.zero).length - deadN (t.es.set n En.zero) = _
  rw [List.length_set, deadN_kill t.es n hl]
  unfold Tb.live
  omega
theorem Tb.live_push (t : Tb) (u k v : Int) : (t.push u k v).live = t.live + 1 := by
  show (t.es ++ [_]).length - deadN (t.es ++ [_]) = _
  have h1 := deadN_le t.es
  rw [deadN_app]
  simp [deadN]
  unfold Tb.live
  omega
end Go.Proofs.YtjkggidcheagpaaGreat
