/-
  A meter that is none; number; awake.
  awake.
-/
import Derived.Test.YtjkggidcheagpaaGreatSgt
import Derived.Test.YtjkggidcheagpaaGreatDtb
import Derived.Test.YtjkggidcheagpaaGreatLdMath
import Derived.Defers
namespace Go.Proofs.YtjkggidcheagpaaGreat
open Go.RowKit Go.WideShapes

set_option maxRecDepth 100000 in
set_option maxHeartbeats 1600000 in
theorem ncount_nil (k n : Int) (w : World) :
    Calls Tryz.prog 86 #[.pointer none, .int .i64 k, .int .i64 n] w fun e w' => e = .returned (.tuple #[]) ∧ w' = w := by
  go_enter_defers Tryz.func86, Tryz.ntmps86
  go_wp2_with fail
  exact ⟨_, results_none rfl _ _ _, rfl, rfl⟩
theorem ntable_nil (w : World) : Calls Tryz.prog 78 #[.pointer none] w fun e w' => e = .returned (.tuple #[]) ∧ w' = w := by
  go_enter Tryz.func78, Tryz.ntmps78
  go_wp2_with fail
  refine (ncount_nil 0 1 w).mono ?_
  rintro e w' ⟨rfl, rfl⟩
  go_wp2
  go_end0
  exact ⟨rfl, rfl⟩
/-- A meter that is none. -/
def noM : Int → Int → World → Prop := fun _ _ _ => True
theorem mtOk_nil : MtOk (.pointer none) noM :=
  ⟨fun a b w _ _ _ => (ntable_nil w).mono fun e w' ⟨h1, h2⟩ => ⟨h1, trivial, by rw [h2]; exact Ex.refl _ _⟩, fun _ _ _ _ _ _ => trivial, fun a b w k _ h => by cases h⟩
/-- An entry as a value. -/
def lnV (e : En) : Value := .agg #[.bool e.live, .int .i64 e.hash, .int .i64 e.key, .int .i64 e.value, .int .i64 e.birth]
/-- Two entries that are the same. -/
def enE (x y : En) : Bool := x.live == y.live && (x.hash == y.hash && (x.key == y.key && (x.value == y.value && x.birth == y.birth)))
theorem enE_iff (x y : En) : enE x y = true ↔ x = y := by
  cases x; cases y
  simp [enE]
theorem en_eq (x y : En) (w : World) : (binOp .eql 66 (lnV x) (lnV y)).run Tryz.prog w = .ok (.bool (enE x y)) w := by
  unfold lnV enE
  have hu : Tryz.prog.underlying 66 = some (.struct (Tryz.prog.fieldsOf 66)) := by kernel_rfl
  have hp : Tryz.prog.stoodInHeld 66 = false := by kernel_rfl
  rw [run_eql_struct, run_equalIn_agg w 9999 _ _ _ hu hp]
  have hF : (Tryz.prog.fieldsOf 66).toList = [⟨"Live", 4, 0, false, "", "", 0⟩, ⟨"Hash", 3, 1, false, "", "", 8⟩, ⟨"Key", 3, 2, false, "", "", 16⟩, ⟨"Value", 3, 3, false, "", "", 24⟩, ⟨"Birth", 3, 4, false, "", "", 32⟩] := by kernel_rfl
  rw [hF]
  by_cases h0 : x.live = y.live
  · by_cases h1 : x.hash = y.hash
    · by_cases h2 : x.key = y.key
      · by_cases h3 : x.value = y.value
        · by_cases h4 : x.birth = y.birth
          · simp [Op.eqFields, go_sem, h0, h1, h2, h3, h4]
          · simp [Op.eqFields, go_sem, h0, h1, h2, h3, h4]
        · simp [Op.eqFields, go_sem, h0, h1, h2, h3]
      · simp [Op.eqFields, go_sem, h0, h1, h2]
    · simp [Op.eqFields, go_sem, h0, h1]
  · simp [Op.eqFields, go_sem, h0]
theorem sg_field (v0 v1 v2 v4 v5 v6 : Value) (a : Option Addr) (n c : Nat) (w : World) : (Instr.field 54 (.agg #[v0, v1, v2, .slice a n c, v4, v5, v6]) 3).run Tryz.prog w = .ok (.slice a n c) w := by kernel_rfl
end Go.Proofs.YtjkggidcheagpaaGreat
namespace Go.Proofs.YtjkggidcheagpaaGreat
open Go.RowKit Go.WideShapes

theorem uw5 : uw 5 = 5 := by
  unfold uw
  rw [IntKind.wrap_u64]
  decide
/-- What awake looks at. -/
theorem awake_tb : ((Tb.new.add 5 10 20).add 5 11 21).c 5 = 0 ∧ ((Tb.new.add 5 10 20).add 5 11 21).c 2 = 1 ∧ ((Tb.new.add 5 10 20).add 5 11 21).L = 3 ∧ (Tb.new.add 5 10 20).es.length = 1 ∧ ((Tb.new.add 5 10 20).add 5 11 21).es.length = 2 := by
  have t0 : trl 5 3 0 = 5 := by decide
  have t1 : trl 5 3 1 = 2 := by decide
  have h1 : Tb.new.add 5 10 20 = Tb.new.push 5 10 20 := by unfold Tb.add; rw [if_pos (by show 0 < rm (2 ^ 3); decide)]
  have f0 : IsF (fun _ => -1) (uw 5) 3 0 := ⟨rfl, fun j hj => absurd hj (Nat.not_lt_zero _)⟩
  have c1 : (Tb.new.push 5 10 20).c = upd (fun _ => -1) 5 0 := by
    show layc (fun _ => -1) 3 5 0 = _
    unfold layc
    rw [fidx_eq f0, uw5, t0]
    rfl
  have h2 : (Tb.new.push 5 10 20).add 5 11 21 = (Tb.new.push 5 10 20).push 5 11 21 := by unfold Tb.add; rw [if_pos (by show 1 < rm (2 ^ 3); decide)]
  have f1 : IsF (upd (fun _ => -1) 5 0) (uw 5) 3 1 := by
    refine ⟨by rw [uw5, t1]; rfl, fun j hj => ?_⟩
    rw [show j = 0 by omega, uw5, t0]
    decide
  have c2 : ((Tb.new.push 5 10 20).push 5 11 21).c = upd (upd (fun _ => -1) 5 0) 2 1 := by
    show layc (Tb.new.push 5 10 20).c 3 5 1 = _
    rw [c1]
    unfold layc
    rw [fidx_eq f1, uw5, t1]
    rfl
  rw [h1, h2, c2]
  exact ⟨rfl, rfl, rfl, rfl, rfl⟩
set_option maxRecDepth 100000 in
set_option maxHeartbeats 4000000 in
theorem awake7_any (w : World) : Calls Tryz.prog 4 #[] w fun e w' => e = .returned (.bool true) ∧ Below w.heap.size w w' := by
  have CN := new7_any (w := w) (pm := none) (a := 0) (b := 0) mtOk_nil trivial (by decide)
  obtain ⟨c5, c2, hL, hl1, hl2⟩ := awake_tb
  have ho0 := Tb.new_ok
  have r1 := Tb.new.add_rest 5 10 20
  have ho1 : (Tb.new.add 5 10 20).Ok := ho0.add 5 10 20 (by show 0 < 100000; decide)
  have hb1 : (Tb.new.add 5 10 20).births = 1 := r1.1
  have hm1 : (Tb.new.add 5 10 20).made ≤ 2 := r1.2.1
  have ht1 : (Tb.new.add 5 10 20).turn = 1 := r1.2.2.2
  have HO0 := Lib.hid ho0
  have HO1 := Lib.hid ho1
  clear ho0 ho1 r1
  generalize hT2 : (Tb.new.add 5 10 20).add 5 11 21 = T2 at *
  generalize hT1 : Tb.new.add 5 10 20 = T1 at *
  have HT1 := Lib.hid hT1
  have HT2 := Lib.hid hT2
  clear hT1 hT2
  go_enter Tryz.func4, Tryz.ntmps4
  go_wp2_with fail
  refine CN.mono ?_
  rintro e w1 ⟨g, gi, r, h, rfl, hg, hgi, hr, hh, hD1, _, hX1⟩
  clear CN
  have hB1 : Below w.heap.size w w1 := hX1.below (fun k hk => by cases hk) (Nat.le_refl _)
  have CA := add_any hD1 HO0.out mtOk_nil (a := 0) (b := 0) trivial (by show 1 ≤ 1000000; decide) (by decide) (by show 0 ≤ 1000000; decide) (by show 0 < 100000; decide) 5 10 20
  rw [HT1.out, hl1] at CA
  go_wp2_with fail
  refine CA.mono ?_
  rintro e w2 ⟨rfl, gi2, r2, h2, ev2, hA⟩
  clear CA
  have hF2 : ∀ j, dX g gi2 r2 h2 ev2 j → w.heap.size ≤ j := fun j hj => by
    rcases hA.fx j hj with (rfl | rfl | rfl | rfl | hj) | hj
    · exact hg
    · exact hgi
    · exact hr
    · exact hh
    · cases hj
    · have := hB1.size; omega
  have hB2 : Below w.heap.size w w2 := hB1.trans (hA.ex.below (fun k hk => by
    rcases hk with (rfl | rfl | rfl | rfl | hj) | hj
    · exact hg
    · exact hgi
    · exact hr
    · exact hh
    · cases hj
    · cases hj) hB1.size)
  have CB := add_any hA.dt HO1.out mtOk_nil (a := 0) (b := 0) trivial (by omega) (by decide) (by omega) (by omega) 5 11 21
  rw [HT2.out, hl2] at CB
  clear hA hD1 hX1
  go_wp2_with fail
  refine CB.mono ?_
  rintro e w3 ⟨rfl, gi3, r3, h3, ev3, hA⟩
  clear CB
  have hB3 : Below w.heap.size w w3 := hB2.trans (hA.ex.below (fun k hk => by
    rcases hk with hj | hj
    · exact hF2 k hj
    · cases hj) hB2.size)
  have CS := dsight_any hA.dt (by omega)
  clear hA
  go_wp2_with fail
  refine CS.mono ?_
  rintro e w4 ⟨hc, ev', rfl, hSg, hB4⟩
  clear CS
  unfold sgV
  obtain ⟨ae, cape, ge, hev, _, _⟩ := hSg.es.es.open
  subst hev
  have hrow := hSg.row
  rw [hL] at hrow
  have d5 := hrow.cell 5 (by decide)
  have d2 := hrow.cell 2 (by decide)
  rw [c5] at d5
  rw [c2] at d2
  have lhc := hrow.lt
  have e5 := (cell_alloc_old w4 (.cells #[.int .i64 (T2.L : Int), .int .i64 (wd T2.L : Int), .slice (some ⟨hc, 0, none⟩) 8 8, .slice ae T2.es.length cape, .int .i64 (T2.live : Int), .int .i64 (T2.births : Int), .int .i64 (T2.made : Int)] 54) hc 5 lhc).trans d5
  have e2 := (cell_alloc_old w4 (.cells #[.int .i64 (T2.L : Int), .int .i64 (wd T2.L : Int), .slice (some ⟨hc, 0, none⟩) 8 8, .slice ae T2.es.length cape, .int .i64 (T2.live : Int), .int .i64 (T2.births : Int), .int .i64 (T2.made : Int)] 54) hc 2 lhc).trans d2
  have HB : Hid (∀ o, Below w.heap.size w (w4.alloc o)) := fun o => (hB3.trans (hB4.mono hB3.size)).alloc (Nat.le_trans hB3.size hB4.size) o
  have hp8 : (2 : Nat) ^ T2.L = 8 := by rw [hL]
  rw [hp8]
  have HL := Lib.hid hL
  clear hSg hrow hL c5 c2 hp8 hB4 hB3 hB2 hB1
  go_wp2
  go_ret
  exact ⟨rfl, HB.out _⟩
end Go.Proofs.YtjkggidcheagpaaGreat
