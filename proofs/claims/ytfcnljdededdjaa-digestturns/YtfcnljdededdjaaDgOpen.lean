/-
  A list of ints that was handed in, laid open; and Frozen of a list in another order.
-/
import Derived.Test.YtfcnljdededdjaaOpen
import Derived.Test.YtfcnljdededdjaaDgLaw3
namespace Go.Proofs.Ytfcnljdededdjaa
open Go.ChangeShapes Go.WideShapes Go.ChangeAt Go.RowKit Go.Joins

theorem Try.cellsI : Try.prog.cellsOf 3 = 1 := by kernel_rfl
theorem ints_open {H : Type} {enc : TypeId × Value → H} {W : World} {r : Reach} {base : Nat} {v : Value} {d : DataW H} {p : List MemPlace} (hv : Value.okWide Try.prog W r base 33 v) (h : DataW.Trod enc Try.prog W 0 (fun _ => true) true 33 v d p) :
    ∃ a n c l, v = .slice a n c ∧ SlI W a n c l ∧ ∀ x ∈ l, -9223372036854775808 ≤ x ∧ x ≤ 9223372036854775807 := by
  obtain ⟨a0, n0, c0, rfl⟩ := okWide_slice Try.underlying33 hv
  have h' := h
  obtain ⟨fuel, hf⟩ := h
  rcases open_ints Try.underlying33 Try.underlying3 Try.cellsI hf with ⟨hcs, _⟩ | ⟨a, len, cap, zs, hcs, _, hl, hm, hz, _, hcell, hwz⟩
  · simp [Value.cells] at hcs
    obtain ⟨rfl, rfl, rfl⟩ := hcs
    exact ⟨none, 0, 0, [], rfl, ⟨rfl, Nat.le_refl _, 0, 0, fun h => absurd h (by simp), fun j h => absurd h (by simp)⟩, fun x hx => by cases hx⟩
  · simp [Value.cells] at hcs
    obtain ⟨rfl, rfl, rfl⟩ := hcs
    simp only [if_true] at hz
    have hlen : (zs.take n0).length = n0 := by simp; omega
    obtain ⟨b, off, spot⟩ := a
    refine ⟨_, _, _, zs.take n0, rfl, ⟨hlen.symm, by omega, b, off, fun h0 => ?_, fun j hj => ?_⟩, fun x hx => ?_⟩
    · have hp : 0 < zs.length := by omega
      have hc := hcell 0 hp
      have hspot : spot = none := by simpa [Addr.add] using World.cell?_spot hc
      subst hspot
      rw [add_plain] at hc
      exact ⟨rfl, lt_of_cell hc⟩
    · rw [hlen] at hj
      have hj' : j < zs.length := by omega
      have hspot : spot = none := by simpa [Addr.add] using World.cell?_spot (hcell 0 (by omega))
      subst hspot
      have hc := hcell j hj'
      rw [add_plain] at hc
      rw [hc]
      simp [hj, hj', List.getD]
    · have := bounds_i64 (hwz x (List.mem_of_mem_take hx))
      omega

theorem xor_form (x y : Int) : bits BinOp.xor IntKind.u64 x y = ((BitVec.ofInt 64 x ^^^ BitVec.ofInt 64 y).toNat : Int) := by
  show IntKind.u64.wrap ((BitVec.ofInt 64 x ^^^ BitVec.ofInt 64 y).toNat : Int) = _
  have := (BitVec.ofInt 64 x ^^^ BitVec.ofInt 64 y).isLt
  rw [IntKind.wrap_u64]
  omega
theorem xor_turn (s x y : Int) : bits BinOp.xor IntKind.u64 (bits BinOp.xor IntKind.u64 s x) y = bits BinOp.xor IntKind.u64 (bits BinOp.xor IntKind.u64 s y) x := by
  simp only [xor_form, BitVec.ofInt_natCast, BitVec.ofNat_toNat, BitVec.setWidth_eq]
  rw [BitVec.xor_assoc, BitVec.xor_assoc, BitVec.xor_comm (BitVec.ofInt 64 x)]
theorem foldl_perm {f : Int → Int → Int} (hf : ∀ s x y, f (f s x) y = f (f s y) x) {l m : List Int} (h : l.Perm m) : ∀ s, l.foldl f s = m.foldl f s := by
  induction h with
  | nil => intro s; rfl
  | cons x _ ih => intro s; exact ih _
  | swap x y l => intro s; simp only [List.foldl_cons]; rw [hf]
  | trans _ _ ih1 ih2 => intro s; rw [ih1, ih2]
theorem frozenZ_perm {l m : List Int} (h : m.Perm l) : frozenZ m = frozenZ l := by
  have e : folded fstep 0 m m.length = folded fstep 0 l l.length := by
    unfold folded
    rw [List.take_length, List.take_length]
    exact foldl_perm (f := fun s p => fstep s (IntKind.u64.wrap p)) (fun s x y => by unfold fstep; exact xor_turn _ _ _) h 0
  unfold frozenZ
  rw [e, h.length_eq]
end Go.Proofs.Ytfcnljdededdjaa
