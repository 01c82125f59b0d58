/-
  A scope that is gone through by labels; a frame of which one slot alone is known.
-/
import Derived.Test.YtgillafjccgkdaaDoorLxTok
import Derived.ScopeJumps
namespace Go.Proofs.YtgillafjccgkdaaDoor
open Go.RowKit Go.WideShapes
namespace Lx

/-- As Q; by a goto to a label: J of it. -/
def jumps (J : Nat → Act → World → Prop) (Q : Exit → Act → World → Prop) : Exit → Act → World → Prop
  | .goto l, a, w => J l a w
  | e, a, w => Q e a w
theorem wp_monoQ {P : Program} {c : Code} {Q Q' : Exit → Act → World → Prop} {a : Act} {w : World} (h : c.wp P Q a w) (hq : ∀ e a' w', Q e a' w' → Q' e a' w') : c.wp P Q' a w :=
  fun b k cs => let ⟨e, a', w', q, r⟩ := h b k cs; ⟨e, a', w', hq e a' w' q, r⟩
def less (J : Nat → Nat → Act → World → Prop) (n : Nat) : Nat → Act → World → Prop := fun l a w => ∃ m, m < n ∧ J l m a w
theorem less_mono {J : Nat → Nat → Act → World → Prop} {n n' : Nat} (h : n ≤ n') {Q : Exit → Act → World → Prop} : ∀ e a w, jumps (less J n) Q e a w → jumps (less J n') Q e a w := by
  intro e a w hj
  cases e with
  | goto l => obtain ⟨m, hm, hJ⟩ := hj; exact ⟨m, by omega, hJ⟩
  | normal => exact hj
  | exit id => exact hj
  | ret => exact hj
  | panic ch => exact hj
  | outgrown => exact hj
theorem wp_scope_labels {P : Program} {Q : Exit → Act → World → Prop} {a : Act} {w : World} {c : Code} (J : Nat → Nat → Act → World → Prop)
    (pass : ∀ l n a w, J l n a w → ∃ rest, findLabel c l = some rest ∧ rest.wp P (jumps (less J n) Q) a w)
    (first : c.wp P (jumps (fun l a w => ∃ n, J l n a w) Q) a w) : (Code.scope c).wp P Q a w := by
  intro b k cs
  have key : ∀ n l a w, J l n a w → ∃ rest, findLabel c l = some rest ∧ ∃ e a' w', Q e a' w' ∧ Arrives P (lone (b.at a (.code rest :: .inScope c :: k)) cs w) b k cs e a' w' := by
    intro n
    induction n using Nat.strongRecOn with
    | _ n ih =>
      intro l a w hJ
      obtain ⟨rest, hf, hw⟩ := pass l n a w hJ
      refine ⟨rest, hf, ?_⟩
      obtain ⟨e, a₁, w₁, hq, harr⟩ := hw b (.inScope c :: k) cs
      cases e with
      | normal => exact ⟨.normal, a₁, w₁, hq, Steps.trans harr (.one step_inScope)⟩
      | exit id => exact ⟨.exit id, a₁, w₁, hq, fun k' hk => harr k' (by simp [exitTo, hk])⟩
      | goto l' =>
        obtain ⟨m, hlt, hJ'⟩ := hq
        obtain ⟨rest', hf', e₂, a₂, w₂, hq₂, harr₂⟩ := ih m hlt l' a₁ w₁ hJ'
        have hg : gotoIn l' (.inScope c :: k) = some (.code rest' :: .inScope c :: k) := by simp [gotoIn, hf']
        exact ⟨e₂, a₂, w₂, hq₂, .of_steps (harr _ hg) harr₂⟩
      | ret => exact ⟨_, a₁, w₁, hq, harr⟩
      | panic ch => exact ⟨_, a₁, w₁, hq, harr⟩
      | outgrown => exact ⟨_, a₁, w₁, hq, harr⟩
  obtain ⟨e, a₁, w₁, hq, harr⟩ := first b (.inScope c :: k) cs
  cases e with
  | normal => exact ⟨.normal, a₁, w₁, hq, .head step_scope (Steps.trans harr (.one step_inScope))⟩
  | exit id => exact ⟨.exit id, a₁, w₁, hq, fun k' hk => .head step_scope (harr k' (by simp [exitTo, hk]))⟩
  | goto l' =>
    obtain ⟨n, hJ'⟩ := hq
    obtain ⟨rest', hf', e₂, a₂, w₂, hq₂, harr₂⟩ := key n l' a₁ w₁ hJ'
    have hg : gotoIn l' (.inScope c :: k) = some (.code rest' :: .inScope c :: k) := by simp [gotoIn, hf']
    exact ⟨e₂, a₂, w₂, hq₂, .of_steps (.head step_scope (harr _ hg)) harr₂⟩
  | ret => exact ⟨_, a₁, w₁, hq, .of_steps (.one step_scope) harr⟩
  | panic ch => exact ⟨_, a₁, w₁, hq, .of_steps (.one step_scope) harr⟩
  | outgrown => exact ⟨_, a₁, w₁, hq, .of_steps (.one step_scope) harr⟩
/-- Eight labels, the third of which is come to from the first without a goto, the first from the beginning. -/
theorem wp_scope_eight {P : Program} {Q : Exit → Act → World → Prop} {a : Act} {w : World} {c r0 r1 r2 r3 r4 r5 r6 r7 : Code} (J : Nat → Nat → Act → World → Prop) (hJ : ∀ l n a w, J l n a w → l < 8)
    (h0 : findLabel c 0 = some (Code.skip.seq r0)) (h1 : findLabel c 1 = some r1) (h2 : findLabel c 2 = some (Code.skip.seq r2)) (h3 : findLabel c 3 = some r3) (h4 : findLabel c 4 = some r4) (h5 : findLabel c 5 = some r5) (h6 : findLabel c 6 = some r6) (h7 : findLabel c 7 = some r7)
    (p1 : ∀ n a w, J 1 n a w → r1.wp P (jumps (less J n) Q) a w) (p2 : ∀ n a w, J 2 n a w → r2.wp P (jumps (less J n) Q) a w)
    (p0 : (∀ n a w, J 2 n a w → r2.wp P (jumps (less J n) Q) a w) → ∀ n a w, J 0 n a w → r0.wp P (jumps (less J n) Q) a w)
    (p3 : ∀ n a w, J 3 n a w → r3.wp P (jumps (less J n) Q) a w) (p4 : ∀ n a w, J 4 n a w → r4.wp P (jumps (less J n) Q) a w) (p5 : ∀ n a w, J 5 n a w → r5.wp P (jumps (less J n) Q) a w) (p6 : ∀ n a w, J 6 n a w → r6.wp P (jumps (less J n) Q) a w) (p7 : ∀ n a w, J 7 n a w → r7.wp P (jumps (less J n) Q) a w)
    (first : (∀ n a w, J 0 n a w → r0.wp P (jumps (fun l a w => ∃ n, J l n a w) Q) a w) → c.wp P (jumps (fun l a w => ∃ n, J l n a w) Q) a w) : (Code.scope c).wp P Q a w := by
  have all0 := p0 p2
  refine wp_scope_labels J (fun l n a w h => ?_) (first fun n a w h => wp_monoQ (all0 n a w h) ?_)
  · have := hJ l n a w h
    match l, this with
    | 0, _ => exact ⟨_, h0, wp_seq (wp_skip (all0 n a w h))⟩
    | 1, _ => exact ⟨_, h1, p1 n a w h⟩
    | 2, _ => exact ⟨_, h2, wp_seq (wp_skip (p2 n a w h))⟩
    | 3, _ => exact ⟨_, h3, p3 n a w h⟩
    | 4, _ => exact ⟨_, h4, p4 n a w h⟩
    | 5, _ => exact ⟨_, h5, p5 n a w h⟩
    | 6, _ => exact ⟨_, h6, p6 n a w h⟩
    | 7, _ => exact ⟨_, h7, p7 n a w h⟩
  · intro e a' w' hq
    cases e with
    | goto l => obtain ⟨m, _, hJ⟩ := hq; exact ⟨m, hJ⟩
    | normal => exact hq
    | exit id => exact hq
    | ret => exact hq
    | panic ch => exact hq
    | outgrown => exact hq
/-- A frame whose first slot is a reader. -/
def Fr (g : Nat) (a : Act) : Prop := ∃ us : List Value, us.length = 65 ∧ a = { tmps := (Value.pointer (some ⟨g, 0, none⟩) :: us).toArray, defers := [] }
theorem ex_cons {n : Nat} {l : List Value} (h : l.length = n + 1) : ∃ x t, l = x :: t ∧ t.length = n := by
  cases l with
  | nil => cases h
  | cons x t => exact ⟨x, t, rfl, by simpa using h⟩
theorem fr_open {g : Nat} {a : Act} (h : Fr g a) : ∃ u1 u2 u3 u4 u5 u6 u7 u8 u9 u10 u11 u12 u13 u14 u15 u16 u17 u18 u19 u20 u21 u22 u23 u24 u25 u26 u27 u28 u29 u30 u31 u32 u33 u34 u35 u36 u37 u38 u39 u40 u41 u42 u43 u44 u45 u46 u47 u48 u49 u50 u51 u52 u53 u54 u55 u56 u57 u58 u59 u60 u61 u62 u63 u64 u65 : Value, a = { tmps := #[.pointer (some ⟨g, 0, none⟩), u1, u2, u3, u4, u5, u6, u7, u8, u9, u10, u11, u12, u13, u14, u15, u16, u17, u18, u19, u20, u21, u22, u23, u24, u25, u26, u27, u28, u29, u30, u31, u32, u33, u34, u35, u36, u37, u38, u39, u40, u41, u42, u43, u44, u45, u46, u47, u48, u49, u50, u51, u52, u53, u54, u55, u56, u57, u58, u59, u60, u61, u62, u63, u64, u65], defers := [] } := by
  obtain ⟨l0, h0, rfl⟩ := h
  obtain ⟨u1, l1, rfl, h1⟩ := ex_cons (n := 64) h0
  obtain ⟨u2, l2, rfl, h2⟩ := ex_cons (n := 63) h1
  obtain ⟨u3, l3, rfl, h3⟩ := ex_cons (n := 62) h2
  obtain ⟨u4, l4, rfl, h4⟩ := ex_cons (n := 61) h3
  obtain ⟨u5, l5, rfl, h5⟩ := ex_cons (n := 60) h4
  obtain ⟨u6, l6, rfl, h6⟩ := ex_cons (n := 59) h5
  obtain ⟨u7, l7, rfl, h7⟩ := ex_cons (n := 58) h6
  obtain ⟨u8, l8, rfl, h8⟩ := ex_cons (n := 57) h7
  obtain ⟨u9, l9, rfl, h9⟩ := ex_cons (n := 56) h8
  obtain ⟨u10, l10, rfl, h10⟩ := ex_cons (n := 55) h9
  obtain ⟨u11, l11, rfl, h11⟩ := ex_cons (n := 54) h10
  obtain ⟨u12, l12, rfl, h12⟩ := ex_cons (n := 53) h11
  obtain ⟨u13, l13, rfl, h13⟩ := ex_cons (n := 52) h12
  obtain ⟨u14, l14, rfl, h14⟩ := ex_cons (n := 51) h13
  obtain ⟨u15, l15, rfl, h15⟩ := ex_cons (n := 50) h14
  obtain ⟨u16, l16, rfl, h16⟩ := ex_cons (n := 49) h15
  obtain ⟨u17, l17, rfl, h17⟩ := ex_cons (n := 48) h16
  obtain ⟨u18, l18, rfl, h18⟩ := ex_cons (n := 47) h17
  obtain ⟨u19, l19, rfl, h19⟩ := ex_cons (n := 46) h18
  obtain ⟨u20, l20, rfl, h20⟩ := ex_cons (n := 45) h19
  obtain ⟨u21, l21, rfl, h21⟩ := ex_cons (n := 44) h20
  obtain ⟨u22, l22, rfl, h22⟩ := ex_cons (n := 43) h21
  obtain ⟨u23, l23, rfl, h23⟩ := ex_cons (n := 42) h22
  obtain ⟨u24, l24, rfl, h24⟩ := ex_cons (n := 41) h23
  obtain ⟨u25, l25, rfl, h25⟩ := ex_cons (n := 40) h24
  obtain ⟨u26, l26, rfl, h26⟩ := ex_cons (n := 39) h25
  obtain ⟨u27, l27, rfl, h27⟩ := ex_cons (n := 38) h26
  obtain ⟨u28, l28, rfl, h28⟩ := ex_cons (n := 37) h27
  obtain ⟨u29, l29, rfl, h29⟩ := ex_cons (n := 36) h28
  obtain ⟨u30, l30, rfl, h30⟩ := ex_cons (n := 35) h29
  obtain ⟨u31, l31, rfl, h31⟩ := ex_cons (n := 34) h30
  obtain ⟨u32, l32, rfl, h32⟩ := ex_cons (n := 33) h31
  obtain ⟨u33, l33, rfl, h33⟩ := ex_cons (n := 32) h32
  obtain ⟨u34, l34, rfl, h34⟩ := ex_cons (n := 31) h33
  obtain ⟨u35, l35, rfl, h35⟩ := ex_cons (n := 30) h34
  obtain ⟨u36, l36, rfl, h36⟩ := ex_cons (n := 29) h35
  obtain ⟨u37, l37, rfl, h37⟩ := ex_cons (n := 28) h36
  obtain ⟨u38, l38, rfl, h38⟩ := ex_cons (n := 27) h37
  obtain ⟨u39, l39, rfl, h39⟩ := ex_cons (n := 26) h38
  obtain ⟨u40, l40, rfl, h40⟩ := ex_cons (n := 25) h39
  obtain ⟨u41, l41, rfl, h41⟩ := ex_cons (n := 24) h40
  obtain ⟨u42, l42, rfl, h42⟩ := ex_cons (n := 23) h41
  obtain ⟨u43, l43, rfl, h43⟩ := ex_cons (n := 22) h42
  obtain ⟨u44, l44, rfl, h44⟩ := ex_cons (n := 21) h43
  obtain ⟨u45, l45, rfl, h45⟩ := ex_cons (n := 20) h44
  obtain ⟨u46, l46, rfl, h46⟩ := ex_cons (n := 19) h45
  obtain ⟨u47, l47, rfl, h47⟩ := ex_cons (n := 18) h46
  obtain ⟨u48, l48, rfl, h48⟩ := ex_cons (n := 17) h47
  obtain ⟨u49, l49, rfl, h49⟩ := ex_cons (n := 16) h48
  obtain ⟨u50, l50, rfl, h50⟩ := ex_cons (n := 15) h49
  obtain ⟨u51, l51, rfl, h51⟩ := ex_cons (n := 14) h50
  obtain ⟨u52, l52, rfl, h52⟩ := ex_cons (n := 13) h51
  obtain ⟨u53, l53, rfl, h53⟩ := ex_cons (n := 12) h52
  obtain ⟨u54, l54, rfl, h54⟩ := ex_cons (n := 11) h53
  obtain ⟨u55, l55, rfl, h55⟩ := ex_cons (n := 10) h54
  obtain ⟨u56, l56, rfl, h56⟩ := ex_cons (n := 9) h55
  obtain ⟨u57, l57, rfl, h57⟩ := ex_cons (n := 8) h56
  obtain ⟨u58, l58, rfl, h58⟩ := ex_cons (n := 7) h57
  obtain ⟨u59, l59, rfl, h59⟩ := ex_cons (n := 6) h58
  obtain ⟨u60, l60, rfl, h60⟩ := ex_cons (n := 5) h59
  obtain ⟨u61, l61, rfl, h61⟩ := ex_cons (n := 4) h60
  obtain ⟨u62, l62, rfl, h62⟩ := ex_cons (n := 3) h61
  obtain ⟨u63, l63, rfl, h63⟩ := ex_cons (n := 2) h62
  obtain ⟨u64, l64, rfl, h64⟩ := ex_cons (n := 1) h63
  obtain ⟨u65, l65, rfl, h65⟩ := ex_cons (n := 0) h64
  obtain rfl := List.eq_nil_of_length_eq_zero h65
  exact ⟨u1, u2, u3, u4, u5, u6, u7, u8, u9, u10, u11, u12, u13, u14, u15, u16, u17, u18, u19, u20, u21, u22, u23, u24, u25, u26, u27, u28, u29, u30, u31, u32, u33, u34, u35, u36, u37, u38, u39, u40, u41, u42, u43, u44, u45, u46, u47, u48, u49, u50, u51, u52, u53, u54, u55, u56, u57, u58, u59, u60, u61, u62, u63, u64, u65, rfl⟩
end Lx
end Go.Proofs.YtgillafjccgkdaaDoor
