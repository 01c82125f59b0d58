/-
  What Load and the reference's Load answer to the same bytes.
-/
import Derived.Laws.AppendOwnNone
import Derived.Test.YtajbieokcdejgaaCeRLoad1
import Derived.Test.YtajbieokcdejgaaCeRLoad2
import Derived.Test.YtajbieokcdejgaaCeRLoad4
import Derived.Test.YtajbieokcdejgaaCeLoadM
namespace Go.Proofs.Ytajbieokcdejgaa
open Go.RowKit Go.WideShapes

/-- Bytes that were handed in. -/
structure Bs (w : World) (a : Option Addr) (n cap b off : Nat) (g : Nat → Int) : Prop where
  le : n ≤ cap
  nn : a = none → n = 0 ∧ cap = 0
  pl : 0 < n → a = some ⟨b, off, none⟩ ∧ b < w.heap.size
  c : ∀ j, j < n → w.cell? ⟨b, off + j, none⟩ = some (.int .u8 (g j))
  rg : ∀ j, j < n → 0 ≤ g j ∧ g j < 256
theorem Bs.sl {w : World} {a : Option Addr} {n cap b off : Nat} {g : Nat → Int} (h : Bs w a n cap b off g) : SlB w a n cap g := ⟨h.le, b, off, h.pl, h.c⟩
theorem Byt.congr {B : Nat} {w : World} {v : Value} {m : Nat} {g g' : Nat → Int} (h : Byt B w v m g) (e : ∀ j, j < m → g' j = g j) : Byt B w v m g' := by
  have : bl m g' = bl m g := by
    unfold bl
    apply List.map_congr_left
    intro j hj
    rw [e j (List.mem_range.1 hj)]
  unfold Byt
  rw [this]
  exact h
theorem bl_one (m : Nat) (g : Nat → Int) : ∀ u ∈ bl m g, u.oneCell' = true := by
  intro u hu
  simp [bl] at hu
  obtain ⟨j, _, rfl⟩ := hu
  rfl
/-- append(nil, b...) -/
theorem app_bs {ops : Array Oper} {rest : List Oper} {o : Oper} {act : Act} {Q : Exit → Act → World → Prop} {w : World} {a : Option Addr} {n cap b off : Nat} {g : Nat → Int} (hgd : o.guard = none) (s x : Operand)
    (ho : o.op = .call { callee := .builtin .append, args := #[s, x], argTypes := #[36, 36] }) (hs : act.eval s = .slice none 0 0) (hx : act.eval x = .slice a n cap) (hb : Bs w a n cap b off g) (hn : n ≤ 20000)
    (h : ∀ v' w', Byt w.heap.size w' v' n g → Below w.heap.size w w' → wpList Try.prog ops Q rest (act.put o.dst v') w') : wpList Try.prog ops Q (o :: rest) act w := by
  obtain ⟨i0, hi, hz0, hz1, hz2⟩ := info_parts Try.infoByte
  cases ha : a with
  | none =>
    obtain ⟨rfl, rfl⟩ := hb.nn ha
    subst ha
    exact wpList_append_own_none hgd s x _ ho w.heap.size 5 i0 1 Try.underlying36 hi (.slice none 0 0) 0 [] hs (World.ownsRow_nil _ _ _ _) hx (h _ _ (Byt.nil _ _ _) (Below.refl _ _))
  | some ad =>
    subst ha
    refine wpList_append_own w hgd s x _ ho w.heap.size 5 i0 (.int .u8 0) 1 1 Try.underlying36 hi hz0 hz1 hz2 rfl (by decide) (.slice none 0 0) 0 [] hs (World.ownsRow_nil _ _ _ _) ad n cap (bl n g) hx (by rw [bl_len, Nat.mul_one]) ?_ (bl_one n g) (by unfold maxLen; omega) (by omega) (Nat.le_refl _) ?_
    · intro j u hj
      by_cases hlt : j < n
      · rw [bl_get _ _ _ hlt] at hj
        obtain ⟨ea, _⟩ := hb.pl (by omega)
        cases ea
        rw [WideShapes.add_plain, hb.c j hlt]
        exact hj
      · rw [List.getElem?_eq_none (by rw [bl_len]; omega)] at hj
        simp at hj
    · intro v' w' hown hgrow _
      rw [Nat.zero_add, List.nil_append] at hown
      exact h v' w' hown ((Below.refl _ w).grown hgrow (Nat.le_refl _) (fun k e => by cases e))
theorem load_at {L S : Nat} (hS : Sz L S) (a : Option Addr) (n cap : Nat) (g : Nat → Int) (hn : n = S * wd L) (hr : ∀ j, j < n → 0 ≤ g j ∧ g j < 256) (w : World) (h : SlB w a n cap g) :
    Calls Try.prog 18 #[.int .i64 (L : Int), .slice a n cap] w fun e w' =>
      Below w.heap.size w w' ∧ ((good S (ld (wd L) g) ∧ ∃ c r h, e = .returned (.tuple #[.pointer (some ⟨c, 0, none⟩), .int .i64 0]) ∧ w.heap.size ≤ c ∧ w.heap.size ≤ r ∧ w.heap.size ≤ h ∧ Cl w' c r h L S (ld (wd L) g)) ∨ (¬ good S (ld (wd L) g) ∧ e = .returned (.tuple #[.pointer none, .int .i64 1]))) := by
  subst hn
  obtain ⟨h1, b, off, h2, h3⟩ := h
  have hp : 0 < S * wd L := Nat.mul_pos (by have := hS.pos; omega) (by rcases wd_cases L with e | e | e <;> omega)
  obtain ⟨rfl, _⟩ := h2 hp
  exact load_any hS b off cap g w h1 h3 hr
theorem rload_at {L S : Nat} (hS : Sz L S) (a : Option Addr) (n cap : Nat) (g : Nat → Int) (hn : n = S * wd L) (hr : ∀ j, j < n → 0 ≤ g j ∧ g j < 256) (w : World) (h : SlB w a n cap g) :
    Calls Try.prog 19 #[.int .i64 (L : Int), .slice a n cap] w fun e w' =>
      Below w.heap.size w w' ∧ ((good S (ld (wd L) g) ∧ ∃ q, e = .returned (.tuple #[rv L q S, .int .i64 0]) ∧ w.heap.size ≤ q ∧ Rf w' q S (ld (wd L) g)) ∨ (¬ good S (ld (wd L) g) ∧ e = .returned (.tuple #[.agg #[.int .i64 0, .slice none 0 0], .int .i64 1]))) := by
  subst hn
  obtain ⟨h1, b, off, h2, h3⟩ := h
  have hp : 0 < S * wd L := Nat.mul_pos (by have := hS.pos; omega) (by rcases wd_cases L with e | e | e <;> omega)
  obtain ⟨rfl, _⟩ := h2 hp
  rcases wd_cases L with e | e | e
  · rw [e] at h1 h3 hr ⊢
    exact rload_1 hS e b off cap g w h1 h3 hr
  · rw [e] at h1 h3 hr ⊢
    exact rload_2 hS e b off cap g w h1 h3 hr
  · rw [e] at h1 h3 hr ⊢
    exact rload_4 hS e b off cap g w h1 h3 hr
/-- Both say that there are none, and why; or both say these cells. -/
theorem both_load (l : Int) (n : Nat) (g : Nat → Int) (hr : ∀ j, j < n → 0 ≤ g j ∧ g j < 256) :
    (∃ E : Int, E ≠ 0 ∧
      Hid (∀ w a cap, SlB w a n cap g → Calls Try.prog 18 #[.int .i64 l, .slice a n cap] w fun e w' => e = .returned (.tuple #[.pointer none, .int .i64 E]) ∧ Below w.heap.size w w') ∧
      Hid (∀ w a cap, SlB w a n cap g → Calls Try.prog 19 #[.int .i64 l, .slice a n cap] w fun e w' => e = .returned (.tuple #[.agg #[.int .i64 0, .slice none 0 0], .int .i64 E]) ∧ Below w.heap.size w w')) ∨
    (∃ L S : Nat, l = (L : Int) ∧ Sz L S ∧ n = S * wd L ∧
      Hid (∀ w a cap, SlB w a n cap g → Calls Try.prog 18 #[.int .i64 l, .slice a n cap] w fun e w' => ∃ c r h, e = .returned (.tuple #[.pointer (some ⟨c, 0, none⟩), .int .i64 0]) ∧ w.heap.size ≤ c ∧ w.heap.size ≤ r ∧ w.heap.size ≤ h ∧ Cl w' c r h L S (ld (wd L) g) ∧ Below w.heap.size w w') ∧
      Hid (∀ w a cap, SlB w a n cap g → Calls Try.prog 19 #[.int .i64 l, .slice a n cap] w fun e w' => ∃ q, e = .returned (.tuple #[rv L q S, .int .i64 0]) ∧ w.heap.size ≤ q ∧ Rf w' q S (ld (wd L) g) ∧ Below w.heap.size w w')) := by
  rcases log_cases l with ⟨L, S, rfl, hS⟩ | hl
  · by_cases hn : n = S * wd L
    · by_cases hg : good S (ld (wd L) g)
      · refine .inr ⟨L, S, rfl, hS, hn, fun w a cap h => ?_, fun w a cap h => ?_⟩
        · refine (load_at hS a n cap g hn hr w h).mono ?_
          rintro e w' ⟨hb, ⟨_, c, r, h, h1, h2, h3, h4, h5⟩ | ⟨h1, _⟩⟩
          · exact ⟨c, r, h, h1, h2, h3, h4, h5, hb⟩
          · exact absurd hg h1
        · refine (rload_at hS a n cap g hn hr w h).mono ?_
          rintro e w' ⟨hb, ⟨_, q, h1, h2, h3⟩ | ⟨h1, _⟩⟩
          · exact ⟨q, h1, h2, h3, hb⟩
          · exact absurd hg h1
      · refine .inl ⟨1, by decide, fun w a cap h => ?_, fun w a cap h => ?_⟩
        · refine (load_at hS a n cap g hn hr w h).mono ?_
          rintro e w' ⟨hb, ⟨h1, _⟩ | ⟨_, h1⟩⟩
          · exact absurd h1 hg
          · exact ⟨h1, hb⟩
        · refine (rload_at hS a n cap g hn hr w h).mono ?_
          rintro e w' ⟨hb, ⟨h1, _⟩ | ⟨_, h1⟩⟩
          · exact absurd h1 hg
          · exact ⟨h1, hb⟩
    · refine .inl ⟨4, by decide, fun w a cap _ => ?_, fun w a cap _ => rload_short hS a n cap hn w⟩
      refine (load_short hS a n cap hn w).mono ?_
      rintro e w' ⟨rfl, rfl⟩
      exact ⟨rfl, Below.refl _ _⟩
  · refine .inl ⟨1, by decide, fun w a cap _ => ?_, fun w a cap _ => rload_no l hl _ w⟩
    refine (load_no l hl _ w).mono ?_
    rintro e w' ⟨rfl, rfl⟩
    exact ⟨rfl, Below.refl _ _⟩
/-- What is told of cells that were read is what they were read from. -/
theorem bt_ld (L : Nat) (g : Nat → Int) (n : Nat) (hr : ∀ j, j < n * wd L → 0 ≤ g j ∧ g j < 256) : ∀ j, j < n * wd L → bt (wd L) (ld (wd L) g) j = g j := by
  intro j hj
  rcases wd_cases L with e | e | e
  · rw [e] at hr hj ⊢
    have h0 := hr j hj
    obtain ⟨i, rfl⟩ : ∃ i, j = i * 1 + 0 := ⟨j, by omega⟩
    rw [bt_at 1 i 0 _ (by omega)]
    simp [ld, sgn, acc] at h0 ⊢
    omega
  · rw [e] at hr hj ⊢
    obtain ⟨i, k, rfl, hk⟩ : ∃ i k, j = i * 2 + k ∧ k < 2 := ⟨j / 2, j % 2, by omega, by omega⟩
    have h0 := hr (i * 2 + 0) (by omega)
    have h1 := hr (i * 2 + 1) (by omega)
    rw [bt_at 2 i k _ hk]
    rcases (by omega : k = 0 ∨ k = 1) with rfl | rfl
    all_goals
      simp [ld, sgn, acc] at h0 h1 ⊢
      omega
  · rw [e] at hr hj ⊢
    obtain ⟨i, k, rfl, hk⟩ : ∃ i k, j = i * 4 + k ∧ k < 4 := ⟨j / 4, j % 4, by omega, by omega⟩
    have h0 := hr (i * 4 + 0) (by omega)
    have h1 := hr (i * 4 + 1) (by omega)
    have h2 := hr (i * 4 + 2) (by omega)
    have h3 := hr (i * 4 + 3) (by omega)
    rw [bt_at 4 i k _ hk]
    rcases (by omega : k = 0 ∨ k = 1 ∨ k = 2 ∨ k = 3) with rfl | rfl | rfl | rfl
    all_goals
      simp [ld, sgn, acc] at h0 h1 h2 h3 ⊢
      omega
end Go.Proofs.Ytajbieokcdejgaa
