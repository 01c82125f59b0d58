/-
  ProbeNothing: the zero dictionary as the law meets it.
-/
import Derived.Test.YtooneobnfepncaaGreatPnz
import Derived.Test.YtooneobnfepncaaGreatPrl
namespace Go.Proofs.YtooneobnfepncaaGreat
open Go.RowKit Go.WideShapes

/-- A dictionary without a pair, where none may be: its table is made, or still to be made. -/
def ZI (w wr : World) (d : Nat) : Prop := Below w.heap.size w wr ∧ w.heap.size ≤ d ∧ d < wr.heap.size ∧ (Blk wr d 3 zdF ∨ ∃ g gi r h ev, Dc wr d g gi r h ev Tb.new (.pointer none) 0 0 ∧ ∀ k, dX g gi r h ev k → w.heap.size ≤ k)
theorem ZI.below {w wr w' : World} {d : Nat} (h : ZI w wr d) (hb : Below wr.heap.size wr w') : ZI w w' d := by
  obtain ⟨h1, h2, h3, h4⟩ := h
  refine ⟨h1.trans (hb.mono h1.size), h2, Nat.lt_of_lt_of_le h3 hb.size, ?_⟩
  rcases h4 with h4 | ⟨g, gi, r, h, ev, h5, h6⟩
  · exact .inl (h4.of hb (by omega))
  · exact .inr ⟨g, gi, r, h, ev, h5.below hb, h6⟩
theorem zstep_any {w w0 wr : World} {d x : Nat} (hz : ZI w w0 d) (hb : Below w0.heap.size w0 wr) {goal : Nat} {u k y : Int} (hm : Mc wr x (.pointer none) d ⟨goal, u, k, y, 0, 0, Tu.zero, 0, false⟩) (hx : w0.heap.size ≤ x) :
    Calls Tryz.prog 21 #[.pointer (some ⟨x, 0, none⟩)] wr fun e w' => e = .returned (tuV (noU goal)) ∧ ZI w w' d ∧ (∃ g, w'.cell? ⟨d, 0, none⟩ = some (.pointer (some ⟨g, 0, none⟩)) ∧ w'.cell? ⟨g, 3, none⟩ = some (.int .i64 0)) ∧ ∀ A, w0.heap.size ≤ A → A < wr.heap.size → A ≠ x → w'.heap[A]? = wr.heap[A]? := by
  obtain ⟨h1, h2, h3, h4⟩ := hz
  have hb0 := h1.trans (hb.mono h1.size)
  have hs0 := hb.size
  have hs1 := h1.size
  have lx := hm.lt (by omega)
  rcases h4 with h4 | ⟨g, gi, r, h, ev, h5, h6⟩
  · refine (step_zero (h4.of hb (by omega)) hm (by omega) rfl rfl).mono ?_
    rintro e w' ⟨rfl, ⟨g, gi, r, h, ev, hD, hn⟩, hx2⟩
    have hbl : Below w.heap.size w w' := hb0.trans (hx2.below (fun k hk => by rcases hk with e | e <;> omega) hb0.size)
    exact ⟨rfl, ⟨hbl, h2, hD.lt d (.inl rfl), .inr ⟨g, gi, r, h, ev, hD, fun k hk => by have := hn k hk; omega⟩⟩, ⟨g, hD.hd.c 0 (by omega), hD.dt.hd.c 3 (by omega)⟩, fun A a1 a2 a3 => hx2.block A a2 (fun hk => by rcases hk with e | e <;> omega)⟩
  · have hD0 := h5.below hb
    have hne : ¬ cX d g gi r h ev x := fun hk => by have := h5.lt x hk; omega
    have hp : Pd (fun k => w0.heap.size ≤ k ∧ k < wr.heap.size ∧ k ≠ x) w.heap.size w wr d g gi r h ev Tb.new 0 0 := ⟨hD0, fun k hk => by rcases hk with e | e; omega; exact h6 k e, hb0, fun k hk => ⟨hk.2.1, fun hc => by have := h5.lt k hc; omega⟩⟩
    refine (rd_step (K := fun k => w0.heap.size ≤ k ∧ k < wr.heap.size ∧ k ≠ x) (.inl ⟨rfl, by omega, fun h => h.2.2 rfl, g, gi, r, h, ev, hp, hne, hm⟩) ⟨by decide, by decide, by decide, by decide⟩).mono ?_
    rintro e w' ⟨u', rfl, hq, hkp⟩
    have key : u' = noU goal ∧ ∃ g gi r h ev, Pd (fun k => w0.heap.size ≤ k ∧ k < wr.heap.size ∧ k ≠ x) w.heap.size w w' d g gi r h ev Tb.new 0 0 := by
      rcases hq with ⟨n, hO, _⟩ | ⟨_, hM⟩
      · have := hO.1
        simp [Tb.new] at this
      · rcases hM with ⟨_, h2, _⟩ | ⟨h1, _, h3, h4⟩ | ⟨h1, h3, h4⟩
        · exact absurd h2 (by decide)
        · exact ⟨by rw [h3]; unfold noU; rw [if_pos (show goal = 2 ∨ goal = 4 from h1)], h4⟩
        · exact ⟨by rw [h3]; unfold noU; rw [if_neg (show ¬ (goal = 2 ∨ goal = 4) from h1)], h4⟩
    obtain ⟨rfl, g, gi, r, h, ev, hp'⟩ := key
    exact ⟨rfl, ⟨hp'.bl, h2, hp'.dc.lt d (.inl rfl), .inr ⟨g, gi, r, h, ev, hp'.dc, fun k hk => hp'.fr k (.inr hk)⟩⟩, ⟨g, hp'.dc.hd.c 0 (by omega), hp'.dc.dt.hd.c 3 (by omega)⟩, fun A a1 a2 a3 => hkp A ⟨a1, a2, a3⟩⟩
theorem neqE (w : World) : (binOp .neq 62 (.agg #[.bool false, .int .i64 0, .int .i64 0, .int .i64 0, .int .i64 0]) (.agg #[.bool false, .int .i64 0, .int .i64 0, .int .i64 0, .int .i64 0])).run Tryz.prog w = .ok (.bool false) w := by kernel_rfl
theorem neqT (w : World) : (binOp .neq 77 (.agg #[.int .i64 0, .int .i64 0, .bool false, .int .i64 0, .int .i64 0]) (.agg #[.int .i64 0, .int .i64 0, .bool false, .int .i64 0, .int .i64 0])).run Tryz.prog w = .ok (.bool false) w := by kernel_rfl
end Go.Proofs.YtooneobnfepncaaGreat
