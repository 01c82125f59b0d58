/-
  New, Add, Get, Set, Free, Len and High of slots.
-/
import Derived.Test.YtbnmnmbfdfgohaaDoorSmCall
namespace Go.Proofs.YtbnmnmbfdfgohaaDoor
open Go.RowKit Go.WideShapes

/-- Slots in memory, in blocks of X. -/
def SlV (w : World) (g : Nat) (ss : List So) (X : Nat → Prop) : Prop := ∃ rv fv n f, Sl w g ss rv fv n f ∧ (∀ k, SX g rv fv k → X k) ∧ (∀ k, X k → k < w.heap.size)
/-- The blocks of X, and what is new. -/
def gX (X : Nat → Prop) (w w' : World) (k : Nat) : Prop := X k ∨ (w.heap.size ≤ k ∧ k < w'.heap.size)
theorem SlV.keep {w w' : World} {g : Nat} {ss : List So} {X Y : Nat → Prop} (h : SlV w g ss X) (x : Ex Y w w') (d : ∀ k, X k → ¬ Y k) : SlV w' g ss X := by
  obtain ⟨rv, fv, n, f, h1, h2, h3⟩ := h
  exact ⟨rv, fv, n, f, h1.same (fun k hk => x.block k (h3 k (h2 k hk)) (d k (h2 k hk))), h2, fun k hk => Nat.lt_of_lt_of_le (h3 k hk) x.size⟩
/-- Is a slot taken? -/
def isT (ss : List So) (i : Int) : Bool := decide (0 ≤ i ∧ i < (ss.length : Int)) && (nts ss i.toNat).taken
theorem isT_no {ss : List So} {i : Int} (h : ¬ (0 ≤ i ∧ i < (ss.length : Int))) : isT ss i = false := by simp [isT, h]
theorem isT_nat (ss : List So) (k : Nat) (h : k < ss.length) : isT ss (k : Int) = (nts ss k).taken := by simp [isT, h]
def addS (ss : List So) (v : Sh) : List So := if low ss < ss.length then ss.set (low ss) ⟨true, v⟩ else ss ++ [⟨true, v⟩]
def setS (ss : List So) (i : Int) (v : Sh) : List So := if isT ss i then ss.set i.toNat ⟨true, v⟩ else ss
def freeS (ss : List So) (i : Int) : List So := if isT ss i then ss.set i.toNat ⟨false, Sh.nil⟩ else ss
def getS (ss : List So) (i : Int) : Sh := if isT ss i then (nts ss i.toNat).has else Sh.nil

theorem slnew_any (w : World) : Calls Tryd.prog 23 #[] w fun e w' => e = .returned (.pointer (some ⟨w.heap.size, 0, none⟩)) ∧ SlV w' w.heap.size [] (fun k => k = w.heap.size) ∧ Below w.heap.size w w' ∧ w'.heap.size = w.heap.size + 1 := by
  go_enter Tryd.func23, Tryd.ntmps23
  go_wp2
  go_ret
  refine ⟨rfl, ⟨.slice none 0 0, .slice none 0 0, 0, fun _ => 0, ⟨?_, ?_, fun j => World.frozen?_alloc_at _ _ _ _ rfl, ⟨rfl, Or.inl ⟨rfl, rfl⟩⟩, ⟨rfl, Or.inl ⟨rfl, rfl⟩⟩, Ho.nil _, by simp [Value.ownBlock], by simp [Value.ownBlock], by simp [Value.ownBlock], by simp⟩, fun k hk => ?_, fun k hk => ?_⟩, (Below.refl _ w).alloc (Nat.le_refl _) _, by simp⟩
  · rw [World.cell?_alloc_at _ _ _ _ rfl]; rfl
  · rw [World.cell?_alloc_at _ _ _ _ rfl]; rfl
  · rcases hk with e | e | e
    · exact e
    · cases e
    · cases e
  · subst hk
    simp
theorem high_sl {w : World} {g : Nat} {ss : List So} {rv fv : Value} {n : Nat} {f : Nat → Int} (h : Sl w g ss rv fv n f) : Calls Tryd.prog 45 #[.pointer (some ⟨g, 0, none⟩)] w fun e w' => e = .returned (.int .i64 (ss.length : Int)) ∧ w' = w := by
  obtain ⟨a, cap, rfl⟩ := ownsS_shape h.row
  have c0 := h.c0
  clear h
  go_enter Tryd.func45, Tryd.ntmps45
  go_wp2
  go_ret
  exact ⟨rfl, rfl⟩
theorem len_sl {w : World} {g : Nat} {ss : List So} {rv fv : Value} {n : Nat} {f : Nat → Int} (h : Sl w g ss rv fv n f) : Calls Tryd.prog 18 #[.pointer (some ⟨g, 0, none⟩)] w fun e w' => e = .returned (.int .i64 (cntS ss : Int)) ∧ ∃ m, w' = w.drewN m := by
  obtain ⟨a, cap, rfl⟩ := ownsS_shape h.row
  obtain ⟨a2, cap2, rfl⟩ := ownsS_shape h.hq
  have c0 := h.c0
  have c1 := h.c1
  have e1 : IntKind.i64.wrap ((ss.length : Int) - (n : Int)) = (cntS ss : Int) := by have := h.ho.num; have := h.sm; rw [i64_small (by omega) (by omega)]; omega
  clear h
  go_enter Tryd.func18, Tryd.ntmps18
  go_wp2
  go_quiet (fail)
  go_wp2
  go_ret
  exact ⟨rfl, _, rfl⟩
theorem taken_no {w : World} {g : Nat} {ss : List So} {rv fv : Value} {n : Nat} {f : Nat → Int} (h : Sl w g ss rv fv n f) (i : Int) (hi : ¬ (0 ≤ i ∧ i < (ss.length : Int))) : Calls Tryd.prog 35 #[.pointer (some ⟨g, 0, none⟩), .int .i64 i] w fun e w' => e = .returned (.bool false) ∧ w' = w := by
  have CH := high_sl h
  clear h
  by_cases h0 : 0 ≤ i
  · have h1 : (i < (ss.length : Int)) = False := by simp; omega
    go_enter Tryd.func35, Tryd.ntmps35
    go_wp2_with fail
    refine CH.mono ?_
    rintro e w1 ⟨rfl, rfl⟩
    clear CH
    go_wp2
    go_ret
    exact ⟨rfl, rfl⟩
  · have h1 : (0 ≤ i) = False := by simp; omega
    go_enter Tryd.func35, Tryd.ntmps35
    go_wp2
    go_ret
    exact ⟨rfl, rfl⟩
theorem taken_yes {w : World} {g : Nat} {ss : List So} {rv fv : Value} {n : Nat} {f : Nat → Int} (h : Sl w g ss rv fv n f) (k : Nat) (hk : k < ss.length) : Calls Tryd.prog 35 #[.pointer (some ⟨g, 0, none⟩), .int .i64 (k : Int)] w fun e w' => e = .returned (.bool (nts ss k).taken) ∧ w' = w := by
  have CH := high_sl h
  obtain ⟨r, cap, rfl, _⟩ := ownsS_some h.row (by omega)
  have c0 := h.c0
  have r0 := h.row.c0 k hk
  have i1 : (k : Int) < (ss.length : Int) := by omega
  have i2 : (0 : Int) ≤ (k : Int) := by omega
  clear h
  generalize (nts ss k).taken = b at *
  go_enter Tryd.func35, Tryd.ntmps35
  go_wp2_with fail
  refine CH.mono ?_
  rintro e w1 ⟨rfl, rfl⟩
  clear CH
  go_wp2
  go_ret
  exact ⟨rfl, rfl⟩
theorem taken_any {w : World} {g : Nat} {ss : List So} {rv fv : Value} {n : Nat} {f : Nat → Int} (h : Sl w g ss rv fv n f) (i : Int) : Calls Tryd.prog 35 #[.pointer (some ⟨g, 0, none⟩), .int .i64 i] w fun e w' => e = .returned (.bool (isT ss i)) ∧ w' = w := by
  by_cases hi : 0 ≤ i ∧ i < (ss.length : Int)
  · obtain ⟨k, rfl⟩ : ∃ k : Nat, i = (k : Int) := ⟨i.toNat, by omega⟩
    rw [isT_nat ss k (by omega)]
    exact taken_yes h k (by omega)
  · rw [isT_no hi]
    exact taken_no h i hi
/-- What is taken, by its number. -/
theorem isT_ex {ss : List So} {i : Int} (h : isT ss i = true) : ∃ k : Nat, i = (k : Int) ∧ k < ss.length ∧ (nts ss k).taken = true := by
  by_cases hi : 0 ≤ i ∧ i < (ss.length : Int)
  · obtain ⟨k, rfl⟩ : ∃ k : Nat, i = (k : Int) := ⟨i.toNat, by omega⟩
    exact ⟨k, rfl, by omega, by rw [← isT_nat ss k (by omega)]; exact h⟩
  · rw [isT_no hi] at h
    cases h
theorem get_sl {w : World} {g : Nat} {ss : List So} {rv fv : Value} {n : Nat} {f : Nat → Int} (h : Sl w g ss rv fv n f) (i : Int) : Calls Tryd.prog 31 #[.pointer (some ⟨g, 0, none⟩), .int .i64 i] w fun e w' => e = .returned (.tuple #[.slice (getS ss i).a (getS ss i).n (getS ss i).c, .bool (isT ss i)]) ∧ w' = w := by
  have CT := taken_any h i
  by_cases ht : isT ss i = true
  · obtain ⟨k, rfl, hk, hx⟩ := isT_ex ht
    obtain ⟨r, cap, rfl, _⟩ := ownsS_some h.row (by omega)
    have c0 := h.c0
    have r1 := h.row.c1 k hk
    have i1 : (k : Int) < (ss.length : Int) := by omega
    have i2 : (0 : Int) ≤ (k : Int) := by omega
    have eg : getS ss (k : Int) = (nts ss k).has := by unfold getS; rw [if_pos ht]; simp
    rw [eg]
    rw [ht] at CT ⊢
    clear h eg ht hx
    generalize (nts ss k).has = b at *
    go_enter Tryd.func31, Tryd.ntmps31
    go_wp2_with fail
    refine CT.mono ?_
    rintro e w1 ⟨rfl, rfl⟩
    clear CT
    go_wp2
    go_ret2
    exact ⟨rfl, rfl⟩
  · have ht : isT ss i = false := by simpa using ht
    have eg : getS ss i = Sh.nil := by unfold getS; rw [ht]; simp
    rw [eg]
    rw [ht] at CT ⊢
    clear h eg ht
    go_enter Tryd.func31, Tryd.ntmps31
    go_wp2_with fail
    refine CT.mono ?_
    rintro e w1 ⟨rfl, rfl⟩
    clear CT
    go_wp2
    go_ret2
    exact ⟨rfl, rfl⟩
/-- A row's block turned, all else kept. -/
theorem Sl.row_put {w w' : World} {g r : Nat} {ss ss' : List So} {n cap : Nat} {fv : Value} {f : Nat → Int} (h : Sl w g ss (.slice (some ⟨r, 0, none⟩) ss.length cap) fv n f) (hr : Sr2 w' (.slice (some ⟨r, 0, none⟩) ss.length cap) ss') (hl : ss'.length = ss.length) (b : But r w w') (ho : Ho ss' n f) :
    Sl w' g ss' (.slice (some ⟨r, 0, none⟩) ss.length cap) fv n f := by
  have hne : g ≠ r := fun e => h.nr (by rw [e]; rfl)
  have hb := b.block g h.lt hne
  exact ⟨(World.cell?_of_block (a := ⟨g, 0, none⟩) hb).trans h.c0, (World.cell?_of_block (a := ⟨g, 1, none⟩) hb).trans h.c1, fun j => (World.frozen?_of_block (a := ⟨g, j, none⟩) hb).trans (h.z j), hr, h.hq.same (fun k hk => b.block k (World.ownsRow.lt h.hq k hk).2 (fun e => h.ne k (by rw [e]; rfl) hk)), ho, h.nr, h.nf, h.ne, by rw [hl]; exact h.sm⟩
end Go.Proofs.YtbnmnmbfdfgohaaDoor
