/-
  Proved here: for every three Ints, in whatever form and memory, WholeLaws returns true and leaves its arguments as they were. No condition beside the form's own.
-/
import Derived.Test.YtpaiaagjlkdfgaaOpen
import Derived.Test.YtpaiaagjlkdfgaaLaws
namespace Go.Proofs.Ytpaiaagjlkdfgaa
open Go.ChangeShapes Go.WideShapes Go.ChangeAt Go.RowKit Go.Joins

theorem laws_walk (na nb nc : Bool) (a0 a1 a2 : Option Addr) (l0 c0 l1 c1 l2 c2 : Nat) (xs ys zs : List Nat) (w : World) (hx : Sl .u32 w (.slice a0 l0 c0) xs) (hy : Sl .u32 w (.slice a1 l1 c1) ys) (hz : Sl .u32 w (.slice a2 l2 c2) zs) (ox : okw xs) (oy : okw ys) (oz : okw zs) :
    Calls Try.prog 8 #[.agg #[.bool na, .slice a0 l0 c0], .agg #[.bool nb, .slice a1 l1 c1], .agg #[.bool nc, .slice a2 l2 c2]] w fun e w' => e = .returned (.bool true) ∧ Below w.heap.size w w' := by
  by_cases h : l0 ≤ 80 ∧ l1 ≤ 80 ∧ l2 ≤ 80
  · exact laws_near na nb nc a0 a1 a2 l0 c0 l1 c1 l2 c2 xs ys zs w hx hy hz ox oy oz h.1 h.2.1 h.2.2
  · exact laws_far na nb nc a0 a1 a2 l0 c0 l1 c1 l2 c2 w h

set_option maxRecDepth 100000 in
theorem laws_lifted (os : Os) (started : os.Started) (H : Type) (enc : TypeId × Value → H) :
    ReturnsInHanded {} Try.checked os 8 .any (Rows.wholeLawsSpec.pre6 enc Try.prog Try.f8 Rows.wholeLawsRow.domain false) (Rows.wholeLawsSpec.post enc Try.prog Try.f8 false true false false) := by
  refine returnsInHanded_of_change (C := Try.checked) Try.own started (by kernel_rfl) Try.func8
    (ChangeSpec.witness6 (enc := enc) (C := Try.checked) false ⟨#[], #[.agg #[.bool false, .slice none 0 0], .agg #[.bool false, .slice none 0 0], .agg #[.bool false, .slice none 0 0]], []⟩ 8 (by kernel_rfl) (by kernel_rfl) (by kernel_rfl) (by kernel_rfl)) ?_
  intro W base args ds gs before hval0 hW hcnd _
  have hval : ∀ (j : Nat) t v, Try.f8.params[j]? = some t → args[j]? = some v → Value.okWide Try.prog W .any base t v := hval0
  have hW' := hW
  obtain ⟨p, q, hA0, hV, rfl, hfz, hnd⟩ := hW
  have hA : DataW.TrodAll enc Try.prog W 0 (fun _ => true) true Try.f8.params.toList args.toList ds p := hA0
  rw [Try.params8] at hA hval
  obtain ⟨v0, v1, v2, d0, d1, d2, p0, p1, p2, rfl, rfl, rfl, h0, h1, h2⟩ := trodAll_three hA
  obtain ⟨rfl, rfl⟩ := trodVars_none hV
  have k0 := h0
  have k1 := h1
  have k2 := h2
  have lt0 : ∀ x ∈ p0, x.block < W.heap.size := by obtain ⟨m, hm⟩ := k0; exact DataW.trod_lt m _ _ _ hm
  have lt1 : ∀ x ∈ p1, x.block < W.heap.size := by obtain ⟨m, hm⟩ := k1; exact DataW.trod_lt m _ _ _ hm
  have lt2 : ∀ x ∈ p2, x.block < W.heap.size := by obtain ⟨m, hm⟩ := k2; exact DataW.trod_lt m _ _ _ hm
  obtain ⟨na, a0, l0, c0, xs, rfl, hx, ox⟩ := arg_open (hval 0 24 v0 rfl rfl) h0
  obtain ⟨nb, a1, l1, c1, ys, rfl, hy, oy⟩ := arg_open (hval 1 24 v1 rfl rfl) h1
  obtain ⟨nc, a2, l2, c2, zs, rfl, hz, oz⟩ := arg_open (hval 2 24 v2 rfl rfl) h2
  clear hA0 hval0
  refine (laws_walk na nb nc a0 a1 a2 l0 c0 l1 c1 l2 c2 xs ys zs W hx hy hz ox oy oz).mono fun e W' ⟨he, bel⟩ => ?_
  subst he
  exact ⟨_, rfl, _, _, _, [], _, [], hW', trodAll_mk1 (shut_bool Try.underlying4 _), trodAll_mk3 (Below.trod Try.laidOut (by kernel_rfl) (of_decide_eq_true (by kernel_rfl)) k0 bel lt0) (Below.trod Try.laidOut (by kernel_rfl) (of_decide_eq_true (by kernel_rfl)) k1 bel lt1) (Below.trod Try.laidOut (by kernel_rfl) (of_decide_eq_true (by kernel_rfl)) k2 bel lt2), rfl, bel.frame _, fun h => by cases h⟩

theorem laws_holds : Rows.WholeLawsSaid :=
  OpenClaim.holds_of_wide 8 Try.f8 rfl rfl rfl rfl rfl rfl rfl ⟨rfl, rfl, rfl, rfl, rfl⟩ rfl rfl rfl rfl rfl (by kernel_rfl) Try.func8 (by kernel_rfl)
    (of_decide_eq_true (by kernel_rfl)) (by unfold Func.isWrapper; rw [if_neg (of_decide_eq_false (by kernel_rfl))]; exact ⟨rfl, rfl⟩)
    (fun os started H enc _ => laws_lifted os started H enc)
#print axioms laws_holds
end Go.Proofs.Ytpaiaagjlkdfgaa
