/-
  A token, as a step of the machine.
-/
import Derived.Test.YtgillafjccgkdaaDoorLxSign
namespace Go.Proofs.YtgillafjccgkdaaDoor
namespace Lx

theorem sgn_mem (l : List UInt8) (h : sgn l ≠ []) : 1 ≤ (sgn l).length := by
  rcases Nat.eq_zero_or_pos (sgn l).length with z | z
  · exact absurd (List.eq_nil_of_length_eq_zero z) h
  · exact z
/-- A byte at which a token may stand. -/
def Tl (l : List UInt8) (a : Nat) : Prop := a < l.length ∧ l.getD a 0 ≠ 35 ∧ l.getD a 0 ≠ 32 ∧ l.getD a 0 ≠ 10
theorem tl_of {l : List UInt8} {a : Nat} (h0 : lk l a ≠ -1) (h1 : lk l a ≠ 35) (h2 : lk l a ≠ 32) (h3 : lk l a ≠ 10) : Tl l a := by
  have hl : a < l.length := by
    rcases Nat.lt_or_ge a l.length with z | z
    · exact z
    · exact absurd (lk_over.2 z) h0
  exact ⟨hl, fun e => h1 ((lk_is 35).2 ⟨hl, e⟩), fun e => h2 ((lk_is 32).2 ⟨hl, e⟩), fun e => h3 ((lk_is 10).2 ⟨hl, e⟩)⟩
theorem Tl.ne {l : List UInt8} {a : Nat} (h : Tl l a) : lk l a ≠ -1 ∧ lk l a ≠ 35 ∧ lk l a ≠ 32 ∧ lk l a ≠ 10 := by
  obtain ⟨hl, h1, h2, h3⟩ := h
  refine ⟨fun e => ?_, fun e => h1 ((lk_is (l := l) (a := a) 35).1 e).2, fun e => h2 ((lk_is (l := l) (a := a) 32).1 e).2, fun e => h3 ((lk_is (l := l) (a := a) 10).1 e).2⟩
  have := lk_over.1 e
  omega
/-- What holds of a reader ahead of a token. -/
structure TOk (n : Nat) (s : St) : Prop where
  le : s.at_ < n
  o : s.opn ≤ 60
  ne : s.bs ≠ []
  last : s.bs.getLast? = some 0
  few : s.bs.length ≤ 41
  down : s.bs.Pairwise (fun a b => b < a)
  many : s.ts.length ≤ 41 * s.at_ + 40
theorem tok_of {n : Nat} {s : St} (h : s.Ok n) (hl : s.at_ < n) : TOk n s := ⟨hl, h.o, h.ne, h.last, h.few, h.down, by have := h.many; omega⟩
theorem drop_get (l : List UInt8) (a : Nat) : (l.drop a).getD 0 0 = l.getD a 0 := by simp [List.getD, List.getElem?_drop]
theorem prt_pos {l : List UInt8} {a : Nat} (h : a < l.length) (hp : isP (l.getD a 0) = true) : 0 < prt (l.drop a) := by
  rw [prt_step h, if_pos hp]
  omega
theorem isP_of_isD {c : UInt8} (h : isD c = true) : isP c = true := by
  unfold isP
  rw [h]
  simp
/-- What is read has a byte at least, and no more than there are. -/
theorem tk_ok {l : List UInt8} {a o : Nat} (ha : a < l.length) (ho : o ≤ 60) {p : Nat × List UInt8 × Nat × Nat} (h : tk (l.drop a) o = .ok p) : 1 ≤ p.2.2.1 ∧ a + p.2.2.1 ≤ l.length ∧ p.2.2.2 ≤ 60 ∧ 1 ≤ p.1 ∧ p.1 ≤ 5 := by
  have hdl : (l.drop a).length = l.length - a := List.length_drop
  have hpl := prt_le (l.drop a)
  have hsl := sgn_le (l.drop a)
  unfold tk at h
  split at h
  · split at h
    · cases h
    · rename_i q hq
      have := unq_le _ _ hq
      injection h with h
      subst h
      simp only
      omega
  · split at h
    · rename_i hd
      rw [drop_get] at hd
      have := prt_pos ha (isP_of_isD hd)
      split at h
      · injection h with h
        subst h
        simp only
        omega
      · cases h
    · split at h
      · rename_i hd
        rw [drop_get] at hd
        have := prt_pos ha hd
        injection h with h
        subst h
        simp only
        split <;> omega
      · split at h
        · cases h
        · rename_i hne
          have := sgn_mem _ hne
          split at h
          · split at h
            · cases h
            · injection h with h
              subst h
              simp only
              omega
          · split at h
            · injection h with h
              subst h
              simp only
              omega
            · injection h with h
              subst h
              simp only
              omega
theorem aft_ok {l : List UInt8} {s s' : St} (hk : TOk l.length s) (h : aft s (tk (l.drop s.at_) s.opn) = .ok s') : s'.Ok l.length ∧ s.at_ < s'.at_ := by
  cases ht : tk (l.drop s.at_) s.opn with
  | error e => rw [ht] at h; cases h
  | ok p =>
    rw [ht] at h
    injection h with h
    obtain ⟨h1, h2, h3, h4, h5⟩ := tk_ok hk.le hk.o ht
    subst h
    have hm := hk.many
    refine ⟨⟨h2, h3, hk.ne, hk.last, hk.few, hk.down, ?_, fun t e => ?_⟩, by show s.at_ < s.at_ + p.2.2.1; omega⟩
    · show (s.ts ++ [_]).length ≤ 41 * (s.at_ + p.2.2.1)
      rw [List.length_append]
      simp
      omega
    · simp at e
      subst e
      show p.1 ≠ 7 ∧ p.1 ≠ 8
      omega
theorem stp_tok {l : List UInt8} {b : Nat} {s : St} (ht : Tl l s.at_) : stp l ⟨false, b, s⟩ = tkn l b s := by
  obtain ⟨hl, h1, h2, h3⟩ := ht
  unfold stp
  simp only
  rw [if_neg (by omega), if_neg h1, if_neg h2, if_neg h3, if_neg (by simp)]
theorem stp_head {l : List UInt8} {b : Nat} {s s' : St} (ht : Tl l s.at_) (h : stl b s = .ok s') : stp l ⟨true, b, s⟩ = tkn l b s' := by
  obtain ⟨hl, h1, h2, h3⟩ := ht
  unfold stp
  simp only
  rw [if_neg (by omega), if_neg h1, if_neg h2, if_neg h3, if_pos (by simp), h]
theorem stp_head_bad {l : List UInt8} {b e : Nat} {s : St} (ht : Tl l s.at_) (h : stl b s = .error e) : stp l ⟨true, b, s⟩ = .inl (.bad e s.at_) := by
  obtain ⟨hl, h1, h2, h3⟩ := ht
  unfold stp
  simp only
  rw [if_neg (by omega), if_neg h1, if_neg h2, if_neg h3, if_pos (by simp), h]
theorem via_same {l : List UInt8} {c c' : Cf} (h : stp l c = stp l c') : Via l c c' := by
  intro r hr
  cases hr with
  | done e => exact .done (h.trans e)
  | more e hr => exact .more (h.trans e) hr
theorem tkn_ok {l : List UInt8} {b : Nat} {s s' : St} (h : aft s (tk (l.drop s.at_) s.opn) = .ok s') : tkn l b s = .inr ⟨false, b, s'⟩ := by
  unfold tkn
  cases ht : tk (l.drop s.at_) s.opn with
  | error e => rw [ht] at h; cases h
  | ok p => rw [ht] at h; injection h with h; subst h; rfl
theorem tkn_bad {l : List UInt8} {b e : Nat} {s : St} (h : aft s (tk (l.drop s.at_) s.opn) = .error e) : tkn l b s = .inl (.bad e s.at_) := by
  unfold tkn
  cases ht : tk (l.drop s.at_) s.opn with
  | error e => rw [ht] at h; injection h with h; subst h; rfl
  | ok p => rw [ht] at h; cases h
theorem ded_len (n a : Nat) : ∀ (bs : List Nat) (ts : List Tok), (ded n a bs ts).1.length ≤ bs.length ∧ (ded n a bs ts).2.length + (ded n a bs ts).1.length = ts.length + bs.length
  | [], ts => ⟨Nat.le_refl _, rfl⟩
  | d :: r, ts => by
    unfold ded
    split
    · have := ded_len n a r (ts ++ [⟨8, [], a⟩])
      simp at this ⊢
      omega
    · exact ⟨Nat.le_refl _, rfl⟩
theorem ded_keep (n a : Nat) : ∀ (bs : List Nat) (ts : List Tok), bs ≠ [] → bs.getLast? = some 0 → bs.Pairwise (fun a b => b < a) → (ded n a bs ts).1 ≠ [] ∧ (ded n a bs ts).1.getLast? = some 0 ∧ (ded n a bs ts).1.Pairwise (fun a b => b < a)
  | [], _, h, _, _ => absurd rfl h
  | d :: r, ts, h, h1, h2 => by
    unfold ded
    split
    · rename_i hlt
      obtain ⟨h3, h4⟩ := last_tail h1 hlt
      exact ded_keep n a r _ h3 h4 (List.pairwise_cons.1 h2).2
    · exact ⟨by simp, h1, h2⟩
theorem stl_ok {n b : Nat} {s s' : St} (hk : s.Ok n) (hl : s.at_ < n) (h : stl b s = .ok s') : TOk n s' ∧ s'.at_ = s.at_ ∧ s'.opn = s.opn := by
  have hm := hk.many
  have hf := hk.few
  unfold stl at h
  split at h
  · rename_i hd
    split at h
    · cases h
    · rename_i h40
      injection h with h
      subst h
      refine ⟨⟨hl, hk.o, by simp, ?_, by simp; omega, ?_, by simp; omega⟩, rfl, rfl⟩
      · show (b :: s.bs).getLast? = some 0
        cases hb : s.bs with
        | nil => exact absurd hb hk.ne
        | cons x t => rw [List.getLast?_cons_cons, ← hb]; exact hk.last
      · show (b :: s.bs).Pairwise _
        refine List.pairwise_cons.2 ⟨fun x hx => ?_, hk.down⟩
        unfold dep at hd
        cases hb : s.bs with
        | nil => exact absurd hb hk.ne
        | cons y t =>
          rw [hb] at hx hd
          simp at hd
          rcases List.mem_cons.1 hx with rfl | hx
          · exact hd
          · have := hk.down
            rw [hb] at this
            have := (List.pairwise_cons.1 this).1 x hx
            omega
  · split at h
    · injection h with h
      subst h
      obtain ⟨h1, h2, h3⟩ := ded_keep b s.at_ s.bs s.ts hk.ne hk.last hk.down
      have h4 := ded_len b s.at_ s.bs s.ts
      have h5 : 0 < (ded b s.at_ s.bs s.ts).1.length := List.length_pos_iff.2 h1
      exact ⟨⟨hl, hk.o, h1, h2, by show (ded b s.at_ s.bs s.ts).1.length ≤ 41; omega, h3, by show (ded b s.at_ s.bs s.ts).2.length ≤ 41 * s.at_ + 40; omega⟩, rfl, rfl⟩
    · cases h
end Lx
end Go.Proofs.YtgillafjccgkdaaDoor
