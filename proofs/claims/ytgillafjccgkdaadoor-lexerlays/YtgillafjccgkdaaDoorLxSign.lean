/-
  Signs are read.
-/
import Derived.Test.YtgillafjccgkdaaDoorLxNum
namespace Go.Proofs.YtgillafjccgkdaaDoor
open Go.RowKit Go.WideShapes
namespace Lx

/-- What stands there, if a sign does. -/
def sg (r : List UInt8) (o : Nat) : Except Nat (Nat × List UInt8 × Nat × Nat) :=
  if sgn r = [] then .error 102
  else if sgn r = [40] ∨ sgn r = [91] ∨ sgn r = [123] then
    if 60 ≤ o then .error 107 else .ok (5, sgn r, (sgn r).length, o + 1)
  else if sgn r = [41] ∨ sgn r = [93] ∨ sgn r = [125] then .ok (5, sgn r, (sgn r).length, o - 1)
  else .ok (5, sgn r, (sgn r).length, o)
/-- A reader behind what stands there. -/
def aft (s : St) : Except Nat (Nat × List UInt8 × Nat × Nat) → Except Nat St
  | .error e => .error e
  | .ok p => .ok ⟨s.at_ + p.2.2.1, p.2.2.2, s.bs, s.ts ++ [⟨p.1, p.2.1, s.at_⟩]⟩
theorem extract_drop (src : ByteArray) (a : Nat) : (src.extract a src.size).data.toList = src.data.toList.drop a := by
  rw [ByteArray.data_extract, Array.toList_extract]
  simp
  rw [List.take_of_length_le]
  rw [List.length_drop, Array.length_toList]
  exact Nat.le_refl _
theorem arr_size (t : List UInt8) : (ByteArray.mk t.toArray).size = t.length := by
  show t.toArray.size = _
  simp
set_option maxRecDepth 100000 in
set_option maxHeartbeats 4000000 in
theorem sign_any {B : Nat} {w : World} {g : Nat} {src : ByteArray} {s : St} (hX : RdX B w g src s) (hsz : src.size ≤ 65536) (hle : s.at_ ≤ src.size) (hts : s.ts.length ≤ 9000000) (ho : s.opn ≤ 60) :
    Calls Tryd.prog 25 #[.pointer (some ⟨g, 0, none⟩)] w fun e w' => EnR B w g src s.at_ (aft s (sg (src.data.toList.drop s.at_) s.opn)) e w' := by
  have C := fun w => signAt_any (src.extract s.at_ src.size) w (by rw [ByteArray.size_extract]; omega)
  rw [extract_drop] at C
  have hl3 : (sgn (src.data.toList.drop s.at_)).length ≤ 65536 := by have := sgn_le (src.data.toList.drop s.at_); rw [List.length_drop, size_list] at this; omega
  unfold sg
  generalize sgn (src.data.toList.drop s.at_) = t at *
  have HX := Lib.hid hX
  obtain ⟨bv, tv, h⟩ := hX
  have HBw : Hid (B ≤ w.heap.size) := by have := h.lo; have := h.lt; show B ≤ _; omega
  have c0 := h.c0
  have c1 := h.c1
  have HH := Lib.hid h
  have i0 : (0 : Int) ≤ (s.at_ : Int) := by omega
  have i1 : (s.at_ : Int) ≤ (src.size : Int) := by omega
  clear h
  by_cases h0 : t = []
  · subst h0
    show Calls Tryd.prog _ _ w fun e w' => e = offE 102 s.at_ ∧ Below B w w'
    go_enter Tryd.func25, Tryd.ntmps25
    go_wp2_with fail
    go_quiet ((go_at_call 35; exact Calls.quiet_of_same (C _)))
    go_wp2_with fail
    refine (offend_any (HX.out.below (below_drewN (Below.refl _ w) _)) 102).mono ?_
    rintro e w2 ⟨rfl, rfl⟩
    exact ⟨rfl, rfl, below_drewN (Below.refl _ w) _⟩
  · have c2 := HH.out.c2
    have z2 := HH.out.b.z 2
    by_cases h40 : t = [40]
    · subst h40
      by_cases h60 : s.opn = 60
      · have e60 : aft s (if ([40] : List UInt8) = [] then .error 102 else if ([40] : List UInt8) = [40] ∨ ([40] : List UInt8) = [91] ∨ ([40] : List UInt8) = [123] then if 60 ≤ s.opn then .error 107 else .ok (5, [40], ([40] : List UInt8).length, s.opn + 1) else if ([40] : List UInt8) = [41] ∨ ([40] : List UInt8) = [93] ∨ ([40] : List UInt8) = [125] then .ok (5, [40], ([40] : List UInt8).length, s.opn - 1) else .ok (5, [40], ([40] : List UInt8).length, s.opn)) = .error 107 := by
          rw [if_neg (by decide), if_pos (by decide), if_pos (by omega)]
          rfl
        rw [e60]
        show Calls Tryd.prog _ _ w fun e w' => e = offE 107 s.at_ ∧ Below B w w'
        rw [h60] at c2
        clear e60
        go_enter Tryd.func25, Tryd.ntmps25
        go_wp2_with fail
        go_quiet ((go_at_call 35; exact Calls.quiet_of_same (C _)))
        go_wp2_with fail
        refine (offend_any (HX.out.below (below_drewN (Below.refl _ w) _)) 107).mono ?_
        rintro e w2 ⟨rfl, rfl⟩
        exact ⟨rfl, rfl, below_drewN (Below.refl _ w) _⟩
      · have e60 : aft s (if ([40] : List UInt8) = [] then .error 102 else if ([40] : List UInt8) = [40] ∨ ([40] : List UInt8) = [91] ∨ ([40] : List UInt8) = [123] then if 60 ≤ s.opn then .error 107 else .ok (5, [40], ([40] : List UInt8).length, s.opn + 1) else if ([40] : List UInt8) = [41] ∨ ([40] : List UInt8) = [93] ∨ ([40] : List UInt8) = [125] then .ok (5, [40], ([40] : List UInt8).length, s.opn - 1) else .ok (5, [40], ([40] : List UInt8).length, s.opn)) = .ok (St.add { s with opn := s.opn + 1 } 5 [40] 1) := by
          rw [if_neg (by decide), if_pos (by decide), if_neg (by omega)]
          rfl
        rw [e60]
        show Calls Tryd.prog _ _ w fun e w' => e = .returned (.tuple #[]) ∧ RdX B w' g src _ ∧ Below B w w'
        have k60 : ((s.opn : Int) == 60) = false := beq_eq_false_iff_ne.2 (by omega)
        have e1 : IntKind.i64.wrap ((s.opn : Int) + 1) = ((s.opn + 1 : Nat) : Int) := by rw [i64_small (by omega) (by omega)]; omega
        have HO := Lib.hid (fun n => (HH.out.below (below_drewN (Below.refl _ w) n)).opn (s.opn + 1))
        clear e60
        go_enter Tryd.func25, Tryd.ntmps25
        go_wp2_with fail
        go_quiet ((go_at_call 35; exact Calls.quiet_of_same (C _)))
        go_wp2_with fail
        refine (put_any ⟨_, _, HO.out _⟩ 5 [40] 1 ⟨#[40]⟩ rfl (by show s.at_ ≤ _; omega) (by omega) (by show s.ts.length ≤ _; omega)).mono ?_
        rintro e w2 ⟨rfl, h2, hb2⟩
        go_wp2_with fail
        go_end0
        exact ⟨rfl, h2, (((below_drewN (Below.refl B w) _).setCell (p := ⟨g, 2, none⟩) HH.out.lo _).trans hb2)⟩
    · skip
      by_cases h91 : t = [91]
      · subst h91
        by_cases h60 : s.opn = 60
        · have e60 : aft s (if ([91] : List UInt8) = [] then .error 102 else if ([91] : List UInt8) = [40] ∨ ([91] : List UInt8) = [91] ∨ ([91] : List UInt8) = [123] then if 60 ≤ s.opn then .error 107 else .ok (5, [91], ([91] : List UInt8).length, s.opn + 1) else if ([91] : List UInt8) = [41] ∨ ([91] : List UInt8) = [93] ∨ ([91] : List UInt8) = [125] then .ok (5, [91], ([91] : List UInt8).length, s.opn - 1) else .ok (5, [91], ([91] : List UInt8).length, s.opn)) = .error 107 := by
            rw [if_neg (by decide), if_pos (by decide), if_pos (by omega)]
            rfl
          rw [e60]
          show Calls Tryd.prog _ _ w fun e w' => e = offE 107 s.at_ ∧ Below B w w'
          rw [h60] at c2
          clear e60
          go_enter Tryd.func25, Tryd.ntmps25
          go_wp2_with fail
          go_quiet ((go_at_call 35; exact Calls.quiet_of_same (C _)))
          go_wp2_with fail
          refine (offend_any (HX.out.below (below_drewN (Below.refl _ w) _)) 107).mono ?_
          rintro e w2 ⟨rfl, rfl⟩
          exact ⟨rfl, rfl, below_drewN (Below.refl _ w) _⟩
        · have e60 : aft s (if ([91] : List UInt8) = [] then .error 102 else if ([91] : List UInt8) = [40] ∨ ([91] : List UInt8) = [91] ∨ ([91] : List UInt8) = [123] then if 60 ≤ s.opn then .error 107 else .ok (5, [91], ([91] : List UInt8).length, s.opn + 1) else if ([91] : List UInt8) = [41] ∨ ([91] : List UInt8) = [93] ∨ ([91] : List UInt8) = [125] then .ok (5, [91], ([91] : List UInt8).length, s.opn - 1) else .ok (5, [91], ([91] : List UInt8).length, s.opn)) = .ok (St.add { s with opn := s.opn + 1 } 5 [91] 1) := by
            rw [if_neg (by decide), if_pos (by decide), if_neg (by omega)]
            rfl
          rw [e60]
          show Calls Tryd.prog _ _ w fun e w' => e = .returned (.tuple #[]) ∧ RdX B w' g src _ ∧ Below B w w'
          have k60 : ((s.opn : Int) == 60) = false := beq_eq_false_iff_ne.2 (by omega)
          have e1 : IntKind.i64.wrap ((s.opn : Int) + 1) = ((s.opn + 1 : Nat) : Int) := by rw [i64_small (by omega) (by omega)]; omega
          have HO := Lib.hid (fun n => (HH.out.below (below_drewN (Below.refl _ w) n)).opn (s.opn + 1))
          clear e60
          go_enter Tryd.func25, Tryd.ntmps25
          go_wp2_with fail
          go_quiet ((go_at_call 35; exact Calls.quiet_of_same (C _)))
          go_wp2_with fail
          refine (put_any ⟨_, _, HO.out _⟩ 5 [91] 1 ⟨#[91]⟩ rfl (by show s.at_ ≤ _; omega) (by omega) (by show s.ts.length ≤ _; omega)).mono ?_
          rintro e w2 ⟨rfl, h2, hb2⟩
          go_wp2_with fail
          go_end0
          exact ⟨rfl, h2, (((below_drewN (Below.refl B w) _).setCell (p := ⟨g, 2, none⟩) HH.out.lo _).trans hb2)⟩
      · skip
        by_cases h123 : t = [123]
        · subst h123
          by_cases h60 : s.opn = 60
          · have e60 : aft s (if ([123] : List UInt8) = [] then .error 102 else if ([123] : List UInt8) = [40] ∨ ([123] : List UInt8) = [91] ∨ ([123] : List UInt8) = [123] then if 60 ≤ s.opn then .error 107 else .ok (5, [123], ([123] : List UInt8).length, s.opn + 1) else if ([123] : List UInt8) = [41] ∨ ([123] : List UInt8) = [93] ∨ ([123] : List UInt8) = [125] then .ok (5, [123], ([123] : List UInt8).length, s.opn - 1) else .ok (5, [123], ([123] : List UInt8).length, s.opn)) = .error 107 := by
              rw [if_neg (by decide), if_pos (by decide), if_pos (by omega)]
              rfl
            rw [e60]
            show Calls Tryd.prog _ _ w fun e w' => e = offE 107 s.at_ ∧ Below B w w'
            rw [h60] at c2
            clear e60
            go_enter Tryd.func25, Tryd.ntmps25
            go_wp2_with fail
            go_quiet ((go_at_call 35; exact Calls.quiet_of_same (C _)))
            go_wp2_with fail
            refine (offend_any (HX.out.below (below_drewN (Below.refl _ w) _)) 107).mono ?_
            rintro e w2 ⟨rfl, rfl⟩
            exact ⟨rfl, rfl, below_drewN (Below.refl _ w) _⟩
          · have e60 : aft s (if ([123] : List UInt8) = [] then .error 102 else if ([123] : List UInt8) = [40] ∨ ([123] : List UInt8) = [91] ∨ ([123] : List UInt8) = [123] then if 60 ≤ s.opn then .error 107 else .ok (5, [123], ([123] : List UInt8).length, s.opn + 1) else if ([123] : List UInt8) = [41] ∨ ([123] : List UInt8) = [93] ∨ ([123] : List UInt8) = [125] then .ok (5, [123], ([123] : List UInt8).length, s.opn - 1) else .ok (5, [123], ([123] : List UInt8).length, s.opn)) = .ok (St.add { s with opn := s.opn + 1 } 5 [123] 1) := by
              rw [if_neg (by decide), if_pos (by decide), if_neg (by omega)]
              rfl
            rw [e60]
            show Calls Tryd.prog _ _ w fun e w' => e = .returned (.tuple #[]) ∧ RdX B w' g src _ ∧ Below B w w'
            have k60 : ((s.opn : Int) == 60) = false := beq_eq_false_iff_ne.2 (by omega)
            have e1 : IntKind.i64.wrap ((s.opn : Int) + 1) = ((s.opn + 1 : Nat) : Int) := by rw [i64_small (by omega) (by omega)]; omega
            have HO := Lib.hid (fun n => (HH.out.below (below_drewN (Below.refl _ w) n)).opn (s.opn + 1))
            clear e60
            go_enter Tryd.func25, Tryd.ntmps25
            go_wp2_with fail
            go_quiet ((go_at_call 35; exact Calls.quiet_of_same (C _)))
            go_wp2_with fail
            refine (put_any ⟨_, _, HO.out _⟩ 5 [123] 1 ⟨#[123]⟩ rfl (by show s.at_ ≤ _; omega) (by omega) (by show s.ts.length ≤ _; omega)).mono ?_
            rintro e w2 ⟨rfl, h2, hb2⟩
            go_wp2_with fail
            go_end0
            exact ⟨rfl, h2, (((below_drewN (Below.refl B w) _).setCell (p := ⟨g, 2, none⟩) HH.out.lo _).trans hb2)⟩
        · skip
          by_cases h41 : t = [41]
          · subst h41
            have e60 : aft s (if ([41] : List UInt8) = [] then .error 102 else if ([41] : List UInt8) = [40] ∨ ([41] : List UInt8) = [91] ∨ ([41] : List UInt8) = [123] then if 60 ≤ s.opn then .error 107 else .ok (5, [41], ([41] : List UInt8).length, s.opn + 1) else if ([41] : List UInt8) = [41] ∨ ([41] : List UInt8) = [93] ∨ ([41] : List UInt8) = [125] then .ok (5, [41], ([41] : List UInt8).length, s.opn - 1) else .ok (5, [41], ([41] : List UInt8).length, s.opn)) = .ok (St.add { s with opn := s.opn - 1 } 5 [41] 1) := by
              rw [if_neg (by decide), if_neg (by decide), if_pos (by decide)]
              rfl
            rw [e60]
            show Calls Tryd.prog _ _ w fun e w' => e = .returned (.tuple #[]) ∧ RdX B w' g src _ ∧ Below B w w'
            have HO := Lib.hid (fun n => (HH.out.below (below_drewN (Below.refl _ w) n)).opn (s.opn - 1))
            clear e60
            rcases Nat.eq_zero_or_pos s.opn with hz | hz
            · have ez : s.opn - 1 = 0 := by omega
              rw [hz] at c2
              rw [ez] at HO ⊢
              clear ez hz
              go_enter Tryd.func25, Tryd.ntmps25
              go_wp2_with fail
              go_quiet ((go_at_call 35; exact Calls.quiet_of_same (C _)))
              go_wp2_with fail
              refine (put_any ⟨_, _, HO.out _⟩ 5 [41] 1 ⟨#[41]⟩ rfl (by show s.at_ ≤ _; omega) (by omega) (by show s.ts.length ≤ _; omega)).mono ?_
              rintro e w2 ⟨rfl, h2, hb2⟩
              go_wp2_with fail
              go_end0
              exact ⟨rfl, h2, (((below_drewN (Below.refl B w) _).setCell (p := ⟨g, 2, none⟩) HH.out.lo _).trans hb2)⟩
            · have e1 : IntKind.i64.wrap ((s.opn : Int) - 1) = ((s.opn - 1 : Nat) : Int) := by rw [i64_small (by omega) (by omega)]; omega
              generalize hq : s.opn - 1 = q at *
              have n1 : ¬ (q : Int) < 0 := by omega
              have n2 : (0 : Int) ≤ (q : Int) := by omega
              clear hq hz
              go_enter Tryd.func25, Tryd.ntmps25
              go_wp2_with fail
              go_quiet ((go_at_call 35; exact Calls.quiet_of_same (C _)))
              go_wp2_with fail
              refine (put_any ⟨_, _, HO.out _⟩ 5 [41] 1 ⟨#[41]⟩ rfl (by show s.at_ ≤ _; omega) (by omega) (by show s.ts.length ≤ _; omega)).mono ?_
              rintro e w2 ⟨rfl, h2, hb2⟩
              go_wp2_with fail
              go_end0
              exact ⟨rfl, h2, (((below_drewN (Below.refl B w) _).setCell (p := ⟨g, 2, none⟩) HH.out.lo _).trans hb2)⟩
          · skip
            by_cases h93 : t = [93]
            · subst h93
              have e60 : aft s (if ([93] : List UInt8) = [] then .error 102 else if ([93] : List UInt8) = [40] ∨ ([93] : List UInt8) = [91] ∨ ([93] : List UInt8) = [123] then if 60 ≤ s.opn then .error 107 else .ok (5, [93], ([93] : List UInt8).length, s.opn + 1) else if ([93] : List UInt8) = [41] ∨ ([93] : List UInt8) = [93] ∨ ([93] : List UInt8) = [125] then .ok (5, [93], ([93] : List UInt8).length, s.opn - 1) else .ok (5, [93], ([93] : List UInt8).length, s.opn)) = .ok (St.add { s with opn := s.opn - 1 } 5 [93] 1) := by
                rw [if_neg (by decide), if_neg (by decide), if_pos (by decide)]
                rfl
              rw [e60]
              show Calls Tryd.prog _ _ w fun e w' => e = .returned (.tuple #[]) ∧ RdX B w' g src _ ∧ Below B w w'
              have HO := Lib.hid (fun n => (HH.out.below (below_drewN (Below.refl _ w) n)).opn (s.opn - 1))
              clear e60
              rcases Nat.eq_zero_or_pos s.opn with hz | hz
              · have ez : s.opn - 1 = 0 := by omega
                rw [hz] at c2
                rw [ez] at HO ⊢
                clear ez hz
                go_enter Tryd.func25, Tryd.ntmps25
                go_wp2_with fail
                go_quiet ((go_at_call 35; exact Calls.quiet_of_same (C _)))
                go_wp2_with fail
                refine (put_any ⟨_, _, HO.out _⟩ 5 [93] 1 ⟨#[93]⟩ rfl (by show s.at_ ≤ _; omega) (by omega) (by show s.ts.length ≤ _; omega)).mono ?_
                rintro e w2 ⟨rfl, h2, hb2⟩
                go_wp2_with fail
                go_end0
                exact ⟨rfl, h2, (((below_drewN (Below.refl B w) _).setCell (p := ⟨g, 2, none⟩) HH.out.lo _).trans hb2)⟩
              · have e1 : IntKind.i64.wrap ((s.opn : Int) - 1) = ((s.opn - 1 : Nat) : Int) := by rw [i64_small (by omega) (by omega)]; omega
                generalize hq : s.opn - 1 = q at *
                have n1 : ¬ (q : Int) < 0 := by omega
                have n2 : (0 : Int) ≤ (q : Int) := by omega
                clear hq hz
                go_enter Tryd.func25, Tryd.ntmps25
                go_wp2_with fail
                go_quiet ((go_at_call 35; exact Calls.quiet_of_same (C _)))
                go_wp2_with fail
                refine (put_any ⟨_, _, HO.out _⟩ 5 [93] 1 ⟨#[93]⟩ rfl (by show s.at_ ≤ _; omega) (by omega) (by show s.ts.length ≤ _; omega)).mono ?_
                rintro e w2 ⟨rfl, h2, hb2⟩
                go_wp2_with fail
                go_end0
                exact ⟨rfl, h2, (((below_drewN (Below.refl B w) _).setCell (p := ⟨g, 2, none⟩) HH.out.lo _).trans hb2)⟩
            · skip
              by_cases h125 : t = [125]
              · subst h125
                have e60 : aft s (if ([125] : List UInt8) = [] then .error 102 else if ([125] : List UInt8) = [40] ∨ ([125] : List UInt8) = [91] ∨ ([125] : List UInt8) = [123] then if 60 ≤ s.opn then .error 107 else .ok (5, [125], ([125] : List UInt8).length, s.opn + 1) else if ([125] : List UInt8) = [41] ∨ ([125] : List UInt8) = [93] ∨ ([125] : List UInt8) = [125] then .ok (5, [125], ([125] : List UInt8).length, s.opn - 1) else .ok (5, [125], ([125] : List UInt8).length, s.opn)) = .ok (St.add { s with opn := s.opn - 1 } 5 [125] 1) := by
                  rw [if_neg (by decide), if_neg (by decide), if_pos (by decide)]
                  rfl
                rw [e60]
                show Calls Tryd.prog _ _ w fun e w' => e = .returned (.tuple #[]) ∧ RdX B w' g src _ ∧ Below B w w'
                have HO := Lib.hid (fun n => (HH.out.below (below_drewN (Below.refl _ w) n)).opn (s.opn - 1))
                clear e60
                rcases Nat.eq_zero_or_pos s.opn with hz | hz
                · have ez : s.opn - 1 = 0 := by omega
                  rw [hz] at c2
                  rw [ez] at HO ⊢
                  clear ez hz
                  go_enter Tryd.func25, Tryd.ntmps25
                  go_wp2_with fail
                  go_quiet ((go_at_call 35; exact Calls.quiet_of_same (C _)))
                  go_wp2_with fail
                  refine (put_any ⟨_, _, HO.out _⟩ 5 [125] 1 ⟨#[125]⟩ rfl (by show s.at_ ≤ _; omega) (by omega) (by show s.ts.length ≤ _; omega)).mono ?_
                  rintro e w2 ⟨rfl, h2, hb2⟩
                  go_wp2_with fail
                  go_end0
                  exact ⟨rfl, h2, (((below_drewN (Below.refl B w) _).setCell (p := ⟨g, 2, none⟩) HH.out.lo _).trans hb2)⟩
                · have e1 : IntKind.i64.wrap ((s.opn : Int) - 1) = ((s.opn - 1 : Nat) : Int) := by rw [i64_small (by omega) (by omega)]; omega
                  generalize hq : s.opn - 1 = q at *
                  have n1 : ¬ (q : Int) < 0 := by omega
                  have n2 : (0 : Int) ≤ (q : Int) := by omega
                  clear hq hz
                  go_enter Tryd.func25, Tryd.ntmps25
                  go_wp2_with fail
                  go_quiet ((go_at_call 35; exact Calls.quiet_of_same (C _)))
                  go_wp2_with fail
                  refine (put_any ⟨_, _, HO.out _⟩ 5 [125] 1 ⟨#[125]⟩ rfl (by show s.at_ ≤ _; omega) (by omega) (by show s.ts.length ≤ _; omega)).mono ?_
                  rintro e w2 ⟨rfl, h2, hb2⟩
                  go_wp2_with fail
                  go_end0
                  exact ⟨rfl, h2, (((below_drewN (Below.refl B w) _).setCell (p := ⟨g, 2, none⟩) HH.out.lo _).trans hb2)⟩
              · skip
                have e60 : aft s (if t = [] then .error 102 else if t = [40] ∨ t = [91] ∨ t = [123] then if 60 ≤ s.opn then .error 107 else .ok (5, t, t.length, s.opn + 1) else if t = [41] ∨ t = [93] ∨ t = [125] then .ok (5, t, t.length, s.opn - 1) else .ok (5, t, t.length, s.opn)) = .ok (s.add 5 t t.length) := by
                  rw [if_neg h0, if_neg (by rintro (h | h | h); exact h40 h; exact h91 h; exact h123 h), if_neg (by rintro (h | h | h); exact h41 h; exact h93 h; exact h125 h)]
                  rfl
                rw [e60]
                show Calls Tryd.prog _ _ w fun e w' => e = .returned (.tuple #[]) ∧ RdX B w' g src _ ∧ Below B w w'
                obtain ⟨X, hXe⟩ : ∃ X : ByteArray, X = ⟨t.toArray⟩ := ⟨_, rfl⟩
                rw [← hXe] at C
                have hXl : X.toList = t := by rw [toList_eq, hXe]
                have hXs : X.size = t.length := by rw [hXe, arr_size]
                have q0 : X.toList.isEmpty = false := by rw [hXl]; simp [h0]
                have q40 : (X.toList == [40]) = false := by rw [hXl]; exact beq_eq_false_iff_ne.2 h40
                have q91 : (X.toList == [91]) = false := by rw [hXl]; exact beq_eq_false_iff_ne.2 h91
                have q123 : (X.toList == [123]) = false := by rw [hXl]; exact beq_eq_false_iff_ne.2 h123
                have q41 : (X.toList == [41]) = false := by rw [hXl]; exact beq_eq_false_iff_ne.2 h41
                have q93 : (X.toList == [93]) = false := by rw [hXl]; exact beq_eq_false_iff_ne.2 h93
                have q125 : (X.toList == [125]) = false := by rw [hXl]; exact beq_eq_false_iff_ne.2 h125
                have HXE := Lib.hid hXe
                have HXS := Lib.hid hXs
                have hXs2 : (X.size : Int) = (t.length : Int) := by rw [hXs]
                clear e60 hXe hXl hXs h0 h40 h91 h123 h41 h93 h125
                generalize t.length = n at *
                go_enter Tryd.func25, Tryd.ntmps25
                go_wp2_with fail
                go_quiet ((go_at_call 35; exact Calls.quiet_of_same (C _)))
                go_wp2_with fail
                refine (put_any (HX.out.below (below_drewN (Below.refl _ w) _)) 5 t n X HXE.out (by omega) (by omega) (by omega)).mono ?_
                rintro e w2 ⟨rfl, h2, hb2⟩
                go_wp2_with fail
                go_end0
                exact ⟨rfl, h2, (below_drewN (Below.refl B w) _).trans hb2⟩
end Lx
end Go.Proofs.YtgillafjccgkdaaDoor
