/-
  Tokens stand in order where their texts stand.
-/
import Derived.Test.YtmckhkkbghihaaaDoorLxTok
import Derived.Test.YtmckhkkbghihaaaDoorLxFin
namespace Go.Proofs.YtmckhkkbghihaaaDoor
namespace Lx

/-- How many blocks are open behind a token. -/
def dpT (t : Tok) : Int := if t.kind = 7 then 1 else if t.kind = 8 then -1 else 0
def dp : List Tok → Int
  | [] => 0
  | t :: r => dpT t + dp r
theorem dp_app (a : List Tok) (t : Tok) : dp (a ++ [t]) = dp a + dpT t := by
  induction a with
  | nil => simp [dp]
  | cons x r ih => simp only [List.cons_append, dp]; rw [ih]; omega
theorem dp_le (a : List Tok) : dp a ≤ (a.length : Int) ∧ -(a.length : Int) ≤ dp a := by
  induction a with
  | nil => simp [dp]
  | cons x r ih =>
    have : dpT x ≤ 1 ∧ -1 ≤ dpT x := by unfold dpT; split; exact ⟨by omega, by omega⟩; split <;> exact ⟨by omega, by omega⟩
    simp only [dp, List.length_cons]
    omega
/-- What is asked of a token behind another one. -/
structure Ste (l : List UInt8) (p : Option Tok) (t : Tok) : Prop where
  le : t.at_ ≤ l.length
  ge : ∀ q, p = some q → q.at_ ≤ t.at_ ∧ q.kind ≠ 9
  k1 : 1 ≤ t.kind
  k9 : t.kind ≤ 9
  bare : 6 ≤ t.kind → t.text = []
  txt : t.kind ≤ 5 → t.kind ≠ 4 → t.at_ + t.text.length ≤ l.length ∧ (l.drop t.at_).take t.text.length = t.text ∧ t.text ≠ []
  new : t.kind ≤ 5 → ∀ q, p = some q → q.at_ = t.at_ → q.kind = 7 ∨ q.kind = 8
  wrd : t.kind ≤ 2 → wrd t.text = decide (t.kind = 2)
/-- Tokens of the right shape. -/
inductive Sh (l : List UInt8) : List Tok → Prop
  | nil : Sh l []
  | snoc {ts t} : Sh l ts → Ste l ts.getLast? t → 0 ≤ dp (ts ++ [t]) → Sh l (ts ++ [t])
theorem Sh.at_ {l : List UInt8} {ts : List Tok} (h : Sh l ts) : ∀ i t, ts[i]? = some t → Ste l (ts.take i).getLast? t ∧ 0 ≤ dp (ts.take (i + 1)) ∧ dp (ts.take (i + 1)) = dp (ts.take i) + dpT t := by
  induction h with
  | nil => intro i t e; simp at e
  | snoc h1 h2 h3 ih =>
    rename_i ts u
    intro i t e
    by_cases hi : i < ts.length
    · rw [List.getElem?_append_left hi] at e
      have := ih i t e
      rw [List.take_append_of_le_length (by omega), List.take_append_of_le_length (by omega)]
      exact this
    · have hi2 : i = ts.length := by
        rcases Nat.lt_or_ge i (ts.length + 1) with z | z
        · omega
        · rw [List.getElem?_eq_none (by simp; omega)] at e
          cases e
      subst hi2
      simp at e
      subst e
      have e1 : (ts ++ [u]).take ts.length = ts := by simp
      have e2 : (ts ++ [u]).take (ts.length + 1) = ts ++ [u] := by rw [List.take_of_length_le (by simp)]
      rw [e1, e2]
      exact ⟨h2, h3, dp_app ts u⟩
/-- What holds of a reader between tokens. -/
structure Shp (l : List UInt8) (s : St) : Prop where
  k : s.Ok l.length
  sh : Sh l s.ts
  dp : dp s.ts = (s.bs.length : Int) - 1
  old : ∀ t, s.ts.getLast? = some t → t.at_ < s.at_ ∧ t.kind ≠ 9
theorem shp0 (l : List UInt8) : Shp l cf0.s := ⟨ok0 _, .nil, rfl, fun t h => by simp [cf0] at h⟩
/-- Behind a beginning line. -/
structure Sht (l : List UInt8) (s : St) : Prop where
  sh : Sh l s.ts
  dp : dp s.ts = (s.bs.length : Int) - 1
  old : ∀ t, s.ts.getLast? = some t → (t.at_ < s.at_ ∧ t.kind ≠ 9) ∨ (t.at_ = s.at_ ∧ (t.kind = 7 ∨ t.kind = 8))
theorem ded_sh {l : List UInt8} (n a : Nat) (ha : a ≤ l.length) : ∀ (bs : List Nat) (ts : List Tok), bs ≠ [] → bs.getLast? = some 0 → Sh l ts → dp ts = (bs.length : Int) - 1 → (∀ t, ts.getLast? = some t → (t.at_ < a ∧ t.kind ≠ 9) ∨ (t.at_ = a ∧ (t.kind = 7 ∨ t.kind = 8))) →
    Sh l (ded n a bs ts).2 ∧ dp (ded n a bs ts).2 = ((ded n a bs ts).1.length : Int) - 1 ∧ (∀ t, (ded n a bs ts).2.getLast? = some t → (t.at_ < a ∧ t.kind ≠ 9) ∨ (t.at_ = a ∧ (t.kind = 7 ∨ t.kind = 8)))
  | [], ts, h, _, _, _, _ => absurd rfl h
  | d :: r, ts, _, hl, hs, hd, ho => by
    unfold ded
    split
    · rename_i hlt
      obtain ⟨h3, h4⟩ := last_tail hl hlt
      have hdp : dp (ts ++ [⟨8, [], a⟩]) = (r.length : Int) - 1 := by
        rw [dp_app, hd]
        simp [dpT]
        omega
      have hr0 : 0 < r.length := List.length_pos_iff.2 h3
      refine ded_sh n a ha r _ h3 h4 (.snoc hs ?_ (by rw [hdp]; omega)) hdp (fun t ht => ?_)
      · refine ⟨ha, fun q hq => ?_, by show 1 ≤ 8; omega, by show 8 ≤ 9; omega, fun _ => rfl, fun h => absurd h (by show ¬ 8 ≤ 5; omega), fun h => absurd h (by show ¬ 8 ≤ 5; omega), fun h => absurd h (by show ¬ 8 ≤ 2; omega)⟩
        rcases ho q hq with h | h
        · exact ⟨Nat.le_of_lt h.1, h.2⟩
        · exact ⟨Nat.le_of_eq h.1, by omega⟩
      · simp at ht
        subst ht
        exact Or.inr ⟨rfl, Or.inr rfl⟩
    · exact ⟨hs, hd, ho⟩
theorem stl_sh {l : List UInt8} {b : Nat} {s s' : St} (h : Shp l s) (hlt : s.at_ < l.length) (e : stl b s = .ok s') : Sht l s' := by
  have ho : ∀ t, s.ts.getLast? = some t → (t.at_ < s.at_ ∧ t.kind ≠ 9) ∨ (t.at_ = s.at_ ∧ (t.kind = 7 ∨ t.kind = 8)) := fun t ht => Or.inl (h.old t ht)
  unfold stl at e
  split at e
  · split at e
    · cases e
    · injection e with e
      subst e
      have hdp : dp (s.ts ++ [⟨7, [], s.at_⟩]) = ((b :: s.bs).length : Int) - 1 := by
        rw [dp_app, h.dp]
        simp [dpT]
      have hb0 : 0 < s.bs.length := List.length_pos_iff.2 h.k.ne
      refine ⟨.snoc h.sh ?_ (by rw [hdp]; simp), hdp, fun t ht => ?_⟩
      · refine ⟨Nat.le_of_lt hlt, fun q hq => ?_, by show 1 ≤ 7; omega, by show 7 ≤ 9; omega, fun _ => rfl, fun h => absurd h (by show ¬ 7 ≤ 5; omega), fun h => absurd h (by show ¬ 7 ≤ 5; omega), fun h => absurd h (by show ¬ 7 ≤ 2; omega)⟩
        have := h.old q hq
        exact ⟨Nat.le_of_lt this.1, this.2⟩
      · simp at ht
        subst ht
        exact Or.inr ⟨rfl, Or.inl rfl⟩
  · split at e
    · injection e with e
      subst e
      obtain ⟨h1, h2, h3⟩ := ded_sh b s.at_ (Nat.le_of_lt hlt) s.bs s.ts h.k.ne h.k.last h.sh h.dp ho
      exact ⟨h1, h2, h3⟩
    · cases e
theorem take_len (r : List UInt8) (k : Nat) (h : k ≤ r.length) : (r.take k).length = k := by rw [List.length_take]; omega
theorem tk_txt {l : List UInt8} {a o : Nat} (ha : a < l.length) {p : Nat × List UInt8 × Nat × Nat} (h : tk (l.drop a) o = .ok p) : (p.1 ≠ 4 → a + p.2.1.length ≤ l.length ∧ (l.drop a).take p.2.1.length = p.2.1 ∧ p.2.1 ≠ []) ∧ (p.1 ≤ 2 → wrd p.2.1 = decide (p.1 = 2)) := by
  have hdl : (l.drop a).length = l.length - a := List.length_drop
  have hpl := prt_le (l.drop a)
  have hpt : ∀ (_ : 0 < prt (l.drop a)), a + ((l.drop a).take (prt (l.drop a))).length ≤ l.length ∧ (l.drop a).take ((l.drop a).take (prt (l.drop a))).length = (l.drop a).take (prt (l.drop a)) ∧ (l.drop a).take (prt (l.drop a)) ≠ [] := fun h0 => by
    rw [take_len _ _ hpl]
    refine ⟨by omega, rfl, fun e => ?_⟩
    have := congrArg List.length e
    rw [take_len _ _ hpl] at this
    simp at this
    omega
  have hsg : sgn (l.drop a) ≠ [] → a + (sgn (l.drop a)).length ≤ l.length ∧ (l.drop a).take (sgn (l.drop a)).length = sgn (l.drop a) ∧ sgn (l.drop a) ≠ [] := fun h0 => by
    have hsl := sgn_le (l.drop a)
    refine ⟨by omega, ?_, h0⟩
    have key : ∀ k, (l.drop a).take ((l.drop a).take k).length = (l.drop a).take k := fun k => by
      rw [List.length_take]
      rcases Nat.le_total k (l.drop a).length with z | z
      · rw [Nat.min_eq_left z]
      · rw [Nat.min_eq_right z, List.take_of_length_le (Nat.le_refl _), List.take_of_length_le z]
    unfold sgn at h0 ⊢
    split
    · exact key 3
    · split
      · exact key 2
      · split
        · exact key 1
        · rfl
  unfold tk at h
  split at h
  · split at h
    · cases h
    · injection h with h
      subst h
      exact ⟨fun e => absurd rfl e, fun e => absurd e (by show ¬ 4 ≤ 2; omega)⟩
  · split at h
    · rename_i hd
      rw [drop_get] at hd
      have := prt_pos ha (isP_of_isD hd)
      split at h
      · injection h with h
        subst h
        exact ⟨fun _ => hpt this, fun e => absurd e (by show ¬ 3 ≤ 2; omega)⟩
      · cases h
    · split at h
      · rename_i hd
        rw [drop_get] at hd
        have := prt_pos ha hd
        injection h with h
        subst h
        refine ⟨fun _ => hpt this, fun _ => ?_⟩
        simp only
        cases wrd ((l.drop a).take (prt (l.drop a))) <;> rfl
      · split at h
        · cases h
        · rename_i hne
          split at h
          · split at h
            · cases h
            · injection h with h
              subst h
              exact ⟨fun _ => hsg hne, fun e => absurd e (by show ¬ 5 ≤ 2; omega)⟩
          · split at h
            · injection h with h
              subst h
              exact ⟨fun _ => hsg hne, fun e => absurd e (by show ¬ 5 ≤ 2; omega)⟩
            · injection h with h
              subst h
              exact ⟨fun _ => hsg hne, fun e => absurd e (by show ¬ 5 ≤ 2; omega)⟩
theorem tkn_sh {l : List UInt8} {b : Nat} {s : St} {c' : Cf} (hk : TOk l.length s) (hs : Sht l s) (e : tkn l b s = .inr c') : Shp l c'.s := by
  cases ht : tk (l.drop s.at_) s.opn with
  | error x => unfold tkn at e; rw [ht] at e; cases e
  | ok p =>
    have ha : aft s (tk (l.drop s.at_) s.opn) = .ok ⟨s.at_ + p.2.2.1, p.2.2.2, s.bs, s.ts ++ [⟨p.1, p.2.1, s.at_⟩]⟩ := by rw [ht]; rfl
    obtain ⟨h1, h2⟩ := aft_ok hk ha
    obtain ⟨h3, h4, h5, h6, h7⟩ := tk_ok hk.le hk.o ht
    obtain ⟨h8, h9⟩ := tk_txt hk.le ht
    have he := tkn_ok (b := b) ha
    rw [he] at e
    injection e with e
    subst e
    have hdp : dp (s.ts ++ [⟨p.1, p.2.1, s.at_⟩]) = (s.bs.length : Int) - 1 := by
      rw [dp_app, hs.dp]
      simp [dpT]
      omega
    have hb0 : 0 < s.bs.length := List.length_pos_iff.2 hk.ne
    refine ⟨h1, .snoc hs.sh ?_ (by rw [hdp]; omega), hdp, fun t ht => ?_⟩
    · refine ⟨Nat.le_of_lt hk.le, fun q hq => ?_, h6, by show p.1 ≤ 9; omega, fun h => absurd h (by show ¬ 6 ≤ p.1; omega), fun _ h => h8 h, fun _ q hq hqa => ?_, fun h => h9 h⟩
      · rcases hs.old q hq with h | h
        · exact ⟨Nat.le_of_lt h.1, h.2⟩
        · exact ⟨Nat.le_of_eq h.1, by omega⟩
      · rcases hs.old q hq with h | h
        · have : q.at_ = s.at_ := hqa
          omega
        · exact h.2
    · simp at ht
      subst ht
      exact ⟨h2, by show p.1 ≠ 9; omega⟩
theorem stp_sh {l : List UInt8} {c c' : Cf} (h : Shp l c.s) (e : stp l c = .inr c') : Shp l c'.s := by
  have hk := h.k
  have hm := hk.many
  unfold stp at e
  split at e
  · cases e
  · rename_i h0
    split at e
    · injection e with e
      subst e
      have hr := rem_le (l.drop c.s.at_)
      rw [List.length_drop] at hr
      exact ⟨⟨by show c.s.at_ + rem _ ≤ _; omega, hk.o, hk.ne, hk.last, hk.few, hk.down, by show c.s.ts.length ≤ 41 * (c.s.at_ + rem _); omega, hk.kind⟩, h.sh, h.dp, fun t ht => ⟨by have := (h.old t ht).1; show t.at_ < c.s.at_ + rem _; omega, (h.old t ht).2⟩⟩
    · split at e
      · injection e with e
        subst e
        exact ⟨⟨by show c.s.at_ + 1 ≤ _; omega, hk.o, hk.ne, hk.last, hk.few, hk.down, by show c.s.ts.length ≤ 41 * (c.s.at_ + 1); omega, hk.kind⟩, h.sh, h.dp, fun t ht => ⟨by have := (h.old t ht).1; show t.at_ < c.s.at_ + 1; omega, (h.old t ht).2⟩⟩
      · split at e
        · split at e
          · injection e with e
            subst e
            cases hh : c.head with
            | true =>
              simp only [if_true]
              exact ⟨⟨by show c.s.at_ + 1 ≤ _; omega, hk.o, hk.ne, hk.last, hk.few, hk.down, by show c.s.ts.length ≤ 41 * (c.s.at_ + 1); omega, hk.kind⟩, h.sh, h.dp, fun t ht => ⟨by have := (h.old t ht).1; show t.at_ < c.s.at_ + 1; omega, (h.old t ht).2⟩⟩
            | false =>
              simp only [Bool.false_eq_true, if_false]
              have hdp : dp (c.s.ts ++ [⟨6, [], c.s.at_⟩]) = (c.s.bs.length : Int) - 1 := by
                rw [dp_app, h.dp]
                simp [dpT]
              have hb0 : 0 < c.s.bs.length := List.length_pos_iff.2 hk.ne
              refine ⟨⟨by show c.s.at_ + 1 ≤ _; omega, hk.o, hk.ne, hk.last, hk.few, hk.down, by show (c.s.ts ++ [_]).length ≤ 41 * (c.s.at_ + 1); rw [List.length_append]; simp; omega, fun t ht => ?_⟩, .snoc h.sh ?_ (by rw [hdp]; omega), hdp, fun t ht => ?_⟩
              · simp at ht
                subst ht
                exact ⟨by show (6 : Nat) ≠ 7; omega, by show (6 : Nat) ≠ 8; omega⟩
              · refine ⟨by show c.s.at_ ≤ _; omega, fun q hq => ⟨Nat.le_of_lt (h.old q hq).1, (h.old q hq).2⟩, by show 1 ≤ 6; omega, by show 6 ≤ 9; omega, fun _ => rfl, fun h => absurd h (by show ¬ 6 ≤ 5; omega), fun h => absurd h (by show ¬ 6 ≤ 5; omega), fun h => absurd h (by show ¬ 6 ≤ 2; omega)⟩
              · simp at ht
                subst ht
                exact ⟨by show c.s.at_ < c.s.at_ + 1; omega, by show (6 : Nat) ≠ 9; omega⟩
          · injection e with e
            subst e
            exact ⟨⟨by show c.s.at_ + 1 ≤ _; omega, hk.o, hk.ne, hk.last, hk.few, hk.down, by show c.s.ts.length ≤ 41 * (c.s.at_ + 1); omega, hk.kind⟩, h.sh, h.dp, fun t ht => ⟨by have := (h.old t ht).1; show t.at_ < c.s.at_ + 1; omega, (h.old t ht).2⟩⟩
        · split at e
          · cases hs : stl c.bl c.s with
            | error x => rw [hs] at e; cases e
            | ok s' =>
              rw [hs] at e
              exact tkn_sh (stl_ok hk (by omega) hs).1 (stl_sh h (by omega) hs) e
          · exact tkn_sh (tok_of hk (by omega)) ⟨h.sh, h.dp, fun t ht => Or.inl (h.old t ht)⟩ e
/-- Tokens that are told, all of them. -/
structure Told (l : List UInt8) (ts : List Tok) : Prop where
  sh : Sh l ts
  dp : dp ts = 0
  last : ts.getLast? = some ⟨9, [], l.length⟩
theorem rep_sh {l : List UInt8} (a : Nat) (ha : a ≤ l.length) : ∀ (k : Nat) (ts : List Tok), Sh l ts → dp ts = (k : Int) → (∀ t : Tok, ts.getLast? = some t → t.at_ ≤ a ∧ t.kind ≠ 9) → Sh l (ts ++ List.replicate k (⟨8, [], a⟩ : Tok)) ∧ dp (ts ++ List.replicate k (⟨8, [], a⟩ : Tok)) = 0 ∧ (∀ t : Tok, (ts ++ List.replicate k (⟨8, [], a⟩ : Tok)).getLast? = some t → t.at_ ≤ a ∧ t.kind ≠ 9)
  | 0, ts, h1, h2, h3 => by simpa using ⟨h1, h2, h3⟩
  | k + 1, ts, h1, h2, h3 => by
    have hdp : dp (ts ++ [⟨8, [], a⟩]) = (k : Int) := by
      rw [dp_app, h2]
      simp [dpT]
      omega
    have h4 := rep_sh a ha k (ts ++ [⟨8, [], a⟩]) (.snoc h1 (⟨ha, h3, by show 1 ≤ 8; omega, by show 8 ≤ 9; omega, fun _ => rfl, fun h => absurd h (by show ¬ 8 ≤ 5; omega), fun h => absurd h (by show ¬ 8 ≤ 5; omega), fun h => absurd h (by show ¬ 8 ≤ 2; omega)⟩ : Ste l ts.getLast? ⟨8, [], a⟩) (by rw [hdp]; omega)) hdp (fun t ht => by simp at ht; subst ht; exact ⟨Nat.le_refl _, by show (8 : Nat) ≠ 9; omega⟩)
    rw [List.replicate_succ]
    simpa using h4
theorem fin_sh {l : List UInt8} {s : St} (h : Shp l s) (ha : s.at_ = l.length) : Told l (fin s) := by
  have hb0 : 0 < s.bs.length := List.length_pos_iff.2 h.k.ne
  have h1 : Sh l (nl s.at_ s.ts) ∧ dp (nl s.at_ s.ts) = ((s.bs.length - 1 : Nat) : Int) ∧ (∀ t, (nl s.at_ s.ts).getLast? = some t → t.at_ ≤ s.at_ ∧ t.kind ≠ 9) := by
    have hsame : Sh l s.ts ∧ dp s.ts = ((s.bs.length - 1 : Nat) : Int) ∧ (∀ t, s.ts.getLast? = some t → t.at_ ≤ s.at_ ∧ t.kind ≠ 9) := ⟨h.sh, by rw [h.dp]; omega, fun t ht => ⟨Nat.le_of_lt (h.old t ht).1, (h.old t ht).2⟩⟩
    unfold nl
    cases hg : s.ts.getLast? with
    | none => rw [hg] at hsame; simpa [hg] using hsame
    | some t =>
      simp only
      split
      · exact hsame
      · have hdp : dp (s.ts ++ [⟨6, [], s.at_⟩]) = ((s.bs.length - 1 : Nat) : Int) := by
          rw [dp_app, hsame.2.1]
          simp [dpT]
        refine ⟨.snoc h.sh ⟨by show s.at_ ≤ _; omega, hsame.2.2, by show 1 ≤ 6; omega, by show 6 ≤ 9; omega, fun _ => rfl, fun h => absurd h (by show ¬ 6 ≤ 5; omega), fun h => absurd h (by show ¬ 6 ≤ 5; omega), fun h => absurd h (by show ¬ 6 ≤ 2; omega)⟩ (by rw [hdp]; omega), hdp, fun u hu => ?_⟩
        simp at hu
        subst hu
        exact ⟨Nat.le_refl _, by show (6 : Nat) ≠ 9; omega⟩
  obtain ⟨h2, h3, h4⟩ := rep_sh s.at_ (by omega) (s.bs.length - 1) _ h1.1 h1.2.1 h1.2.2
  have hdp : dp (fin s) = 0 := by
    unfold fin
    rw [dp_app, h3]
    rfl
  refine ⟨?_, hdp, ?_⟩
  · unfold fin at hdp ⊢
    exact .snoc h2 ⟨by show s.at_ ≤ _; omega, h4, by show 1 ≤ 9; omega, by show 9 ≤ 9; omega, fun _ => rfl, fun h => absurd h (by show ¬ 9 ≤ 5; omega), fun h => absurd h (by show ¬ 9 ≤ 5; omega), fun h => absurd h (by show ¬ 9 ≤ 2; omega)⟩ (by rw [hdp]; exact Int.le_refl _)
  · unfold fin
    rw [List.getLast?_append]
    simp [ha]
theorem stp_out {l : List UInt8} {c : Cf} {o : Out} (h : Shp l c.s) (e : stp l c = .inl o) : (∀ ts, o = .ok ts → Told l ts) ∧ (∀ k p, o = .bad k p → p ≤ l.length) := by
  have hk := h.k.le
  unfold stp at e
  split at e
  · injection e with e
    subst e
    refine ⟨fun ts ht => ?_, fun k p hp => by cases hp⟩
    injection ht with ht
    subst ht
    exact fin_sh h (by omega)
  · split at e
    · cases e
    · split at e
      · cases e
      · split at e
        · split at e
          · cases e
          · cases e
        · have key : ∀ s' : St, s'.at_ = c.s.at_ → tkn l c.bl s' = .inl o → (∀ ts, o = .ok ts → Told l ts) ∧ (∀ k p, o = .bad k p → p ≤ l.length) := fun s' hs' ht => by
            unfold tkn at ht
            cases hx : tk (l.drop s'.at_) s'.opn with
            | error x =>
              rw [hx] at ht
              injection ht with ht
              subst ht
              refine ⟨fun ts h => (by cases h), fun k p hp => ?_⟩
              injection hp with hp1 hp2
              omega
            | ok q => rw [hx] at ht; cases ht
          split at e
          · cases hs : stl c.bl c.s with
            | error x =>
              rw [hs] at e
              injection e with e
              subst e
              refine ⟨fun ts h => (by cases h), fun k p hp => ?_⟩
              injection hp with hp1 hp2
              omega
            | ok s' =>
              rw [hs] at e
              exact key s' (stl_ok h.k (by omega) hs).2.1 e
          · exact key c.s rfl e
theorem lex_told {l : List UInt8} {c : Cf} {o : Out} (h : Lex l c o) : Shp l c.s → (∀ ts, o = .ok ts → Told l ts) ∧ (∀ k p, o = .bad k p → p ≤ l.length) := by
  induction h with
  | done e => exact fun hs => stp_out hs e
  | more e _ ih => exact fun hs => ih (stp_sh hs e)
end Lx
end Go.Proofs.YtmckhkkbghihaaaDoor
