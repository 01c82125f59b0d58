/-
  The shapes of the document's example.
-/
import Derived.Test.YtfcgogpnbmikmaaGreatDoorNdAw1
namespace Go.Proofs.YtfcgogpnbmikmaaGreatDoor
open Go.RowKit Go.WideShapes
namespace Nd
open Lx

theorem eg_lr : ∀ args w, (callFunc 91 args).run Tryz.prog w = .ok (.enter 91 args) w := fun args w => by simp [go_sem]
theorem eg_row : ∀ args w, (callFunc 90 args).run Tryz.prog w = .ok (.enter 90 args) w := fun args w => by simp [go_sem]
theorem eg_bl : ∀ args w, (callFunc 48 args).run Tryz.prog w = .ok (.enter 48 args) w := fun args w => by simp [go_sem]
theorem eg_ex : ∀ args w, (callFunc 51 args).run Tryz.prog w = .ok (.enter 51 args) w := fun args w => by simp [go_sem]
theorem eg_st : ∀ args w, (callFunc 50 args).run Tryz.prog w = .ok (.enter 50 args) w := fun args w => by simp [go_sem]
set_option maxRecDepth 100000 in
set_option maxHeartbeats 2000000 in
theorem row1_one (xk xa : Int) (b o pk : Nat) (y : Nv) (q1 q2 p1 p2 p3 f : Nat) (w : World) (hA : At w b o y) (h1 : w.cell? ⟨q1, 0, none⟩ = some (.slice (some ⟨pk, 0, none⟩) 1 1)) (h2 : w.cell? ⟨q2, 0, none⟩ = some (.func (.func 91) #[] #[.pointer (some ⟨p1, 0, none⟩), .pointer (some ⟨p2, 0, none⟩), .pointer (some ⟨p3, 0, none⟩)]))
    (hL : Lr w p1 p2 p3 (.func (.func 47) #[] #[]) (.slice (some ⟨pk, 0, none⟩) 1 1) .nilFunc) (hf0 : w.cell? ⟨pk, 0, none⟩ = some (.func (.func f) #[] #[]))
    (eg : ∀ args w, (callFunc f args).run Tryz.prog w = .ok (.enter f args) w) (hf : ∀ V, Calls Tryz.prog f #[y.v] V fun e w' => e = .returned (.bool true) ∧ Below V.heap.size V w') :
    Calls Tryz.prog 90 #[.agg #[.int .i64 xk, .int .i64 xa, .string ⟨#[]⟩, .bool false, .slice none 0 0, .slice (some ⟨b, o, none⟩) 1 1], .pointer (some ⟨q1, 0, none⟩), .pointer (some ⟨q2, 0, none⟩)] w fun e w' => e = .returned (.bool true) ∧ Below w.heap.size w w' := by
  obtain ⟨W, hW⟩ : ∃ W, w.alloc (.cells #[.int .i64 xk, .int .i64 xa, .string ⟨#[]⟩, .bool false, .slice none 0 0, .slice (some ⟨b, o, none⟩) 1 1] 27) = W := ⟨_, rfl⟩
  have hbW : Below w.heap.size w W := by rw [← hW]; exact (Below.refl _ w).alloc (Nat.le_refl _) _
  have hx : At W w.heap.size 0 ⟨xk, xa, ⟨#[]⟩, false, .slice none 0 0, .slice (some ⟨b, o, none⟩) 1 1⟩ := by rw [← hW]; exact ⟨World.cell?_alloc_at _ _ _ _ rfl, World.cell?_alloc_at _ _ _ _ rfl, World.cell?_alloc_at _ _ _ _ rfl, World.cell?_alloc_at _ _ _ _ rfl, World.cell?_alloc_at _ _ _ _ rfl, World.cell?_alloc_at _ _ _ _ rfl⟩
  have t1 := cell_keep h1 hbW
  have t2 := cell_keep h2 hbW
  have C := lr_one xk xa b o pk y p1 p2 p3 f W (hA.same (hbW.block b hA.lt)) (hL.below hbW) (cell_keep hf0 hbW) eg hf
  obtain ⟨x0, x1, x2, x3, x4, x5⟩ := hx
  simp only [Nat.zero_add] at x1 x2 x3 x4 x5
  have e1 := eg_lr
  have HBW := Lib.hid hbW
  clear hbW hA hL hf0 hf h1 h2
  go_enter Tryz.func90, Tryz.ntmps90
  go_wp2_with fail
  refine C.mono ?_
  rintro e w2 ⟨rfl, hb2⟩
  have HB2 := Lib.hid hb2
  clear C hb2
  go_wp2_with fail
  go_ret
  exact ⟨rfl, HBW.out.trans (HB2.out.mono HBW.out.size)⟩
set_option maxRecDepth 100000 in
set_option maxHeartbeats 2000000 in
theorem row1_name (xk xa : Int) (q1 q2 p1 p2 p3 : Nat) (w : World) (h1 : w.cell? ⟨q1, 0, none⟩ = some (.slice none 0 0)) (h2 : w.cell? ⟨q2, 0, none⟩ = some (.func (.func 91) #[] #[.pointer (some ⟨p1, 0, none⟩), .pointer (some ⟨p2, 0, none⟩), .pointer (some ⟨p3, 0, none⟩)]))
    (hL : Lr w p1 p2 p3 (.func (.func 61) #[] #[]) (.slice none 0 0) .nilFunc) :
    Calls Tryz.prog 90 #[.agg #[.int .i64 xk, .int .i64 xa, .string ⟨#[97]⟩, .bool false, .slice none 0 0, .slice none 0 0], .pointer (some ⟨q1, 0, none⟩), .pointer (some ⟨q2, 0, none⟩)] w fun e w' => e = .returned (.bool true) ∧ Below w.heap.size w w' := by
  obtain ⟨W, hW⟩ : ∃ W, w.alloc (.cells #[.int .i64 xk, .int .i64 xa, .string ⟨#[97]⟩, .bool false, .slice none 0 0, .slice none 0 0] 27) = W := ⟨_, rfl⟩
  have hbW : Below w.heap.size w W := by rw [← hW]; exact (Below.refl _ w).alloc (Nat.le_refl _) _
  have hx : At W w.heap.size 0 ⟨xk, xa, ⟨#[97]⟩, false, .slice none 0 0, .slice none 0 0⟩ := by rw [← hW]; exact ⟨World.cell?_alloc_at _ _ _ _ rfl, World.cell?_alloc_at _ _ _ _ rfl, World.cell?_alloc_at _ _ _ _ rfl, World.cell?_alloc_at _ _ _ _ rfl, World.cell?_alloc_at _ _ _ _ rfl, World.cell?_alloc_at _ _ _ _ rfl⟩
  have t1 := cell_keep h1 hbW
  have t2 := cell_keep h2 hbW
  have C := lr_name xk xa p1 p2 p3 W (hL.below hbW)
  obtain ⟨x0, x1, x2, x3, x4, x5⟩ := hx
  simp only [Nat.zero_add] at x1 x2 x3 x4 x5
  have e1 := eg_lr
  have HBW := Lib.hid hbW
  clear hbW hL h1 h2
  go_enter Tryz.func90, Tryz.ntmps90
  go_wp2_with fail
  refine C.mono ?_
  rintro e w2 ⟨rfl, hb2⟩
  have HB2 := Lib.hid hb2
  clear C hb2
  go_wp2_with fail
  go_ret
  exact ⟨rfl, HBW.out.trans (HB2.out.mono HBW.out.size)⟩
/-- A test that takes a node. -/
def Takes (w : World) (f : Value) (x : Nv) : Prop := ∃ gf caps, f = .func (.func gf) #[] caps ∧ (∀ args w, (callFunc gf args).run Tryz.prog w = .ok (.enter gf args) w) ∧ ∀ V, Below w.heap.size w V → Calls Tryz.prog gf (#[x.v] ++ caps) V fun e w' => e = .returned (.bool true) ∧ Below V.heap.size V w'
/-- The document's example, node by node: what stands where. -/
structure Ex4 (w : World) (x1 x2 x3 x4 : Nv) : Prop where
  e4 : x4 = ⟨31, 0, ⟨#[97]⟩, false, .slice none 0 0, .slice none 0 0⟩
  e3 : ∃ b, x3 = ⟨3, 0, ⟨#[]⟩, false, .slice none 0 0, .slice (some ⟨b, 0, none⟩) 1 1⟩ ∧ At w b 0 x4
  e2 : ∃ b, x2 = ⟨2, 0, ⟨#[]⟩, false, .slice none 0 0, .slice (some ⟨b, 0, none⟩) 1 1⟩ ∧ At w b 0 x3
  e1 : ∃ b, x1 = ⟨1, 0, ⟨#[]⟩, false, .slice none 0 0, .slice (some ⟨b, 0, none⟩) 1 1⟩ ∧ At w b 0 x2
theorem Ex4.below {w w' : World} {x1 x2 x3 x4 : Nv} (h : Ex4 w x1 x2 x3 x4) (hb : Below w.heap.size w w') : Ex4 w' x1 x2 x3 x4 := by
  obtain ⟨e4, ⟨b3, e3, h3⟩, ⟨b2, e2, h2⟩, ⟨b1, e1, h1⟩⟩ := h
  exact ⟨e4, ⟨b3, e3, h3.same (hb.block b3 h3.lt)⟩, ⟨b2, e2, h2.same (hb.block b2 h2.lt)⟩, ⟨b1, e1, h1.same (hb.block b1 h1.lt)⟩⟩
/-- What shapeOf gives. -/
def ShQ (w : World) (x : Nv) (e : Ending) (w' : World) : Prop := ∃ f, e = .returned f ∧ Takes w' f x ∧ Below w.heap.size w w'
set_option maxRecDepth 100000 in
set_option maxHeartbeats 4000000 in
theorem outer_one (k f : Nat) (w : World) (x : Nv) (hk : (k = 1 ∧ f = 48) ∨ (k = 3 ∧ f = 51)) (b : Nat) (y : Nv) (hx : x = ⟨(k : Int), 0, ⟨#[]⟩, false, .slice none 0 0, .slice (some ⟨b, 0, none⟩) 1 1⟩) (hA : At w b 0 y) (eg : ∀ args w, (callFunc f args).run Tryz.prog w = .ok (.enter f args) w) (hf : ∀ V, Calls Tryz.prog f #[y.v] V fun e w' => e = .returned (.bool true) ∧ Below V.heap.size V w') :
    Calls Tryz.prog 39 #[.int .i64 (k : Int)] w (ShQ w x) := by
  subst hx
  have fin : ∀ V w', Below w.heap.size w V → V.cell? ⟨w.heap.size, 0, none⟩ = some (.func (.func f) #[] #[]) → w.heap.size < V.heap.size → ∀ e : Ending, (∃ q1 q2 p1 p2 p3, e = .returned (.func (.func 90) #[] #[.pointer (some ⟨q1, 0, none⟩), .pointer (some ⟨q2, 0, none⟩)]) ∧ w'.cell? ⟨q1, 0, none⟩ = some (.slice (some ⟨w.heap.size, 0, none⟩) 1 1) ∧ w'.cell? ⟨q2, 0, none⟩ = some (.func (.func 91) #[] #[.pointer (some ⟨p1, 0, none⟩), .pointer (some ⟨p2, 0, none⟩), .pointer (some ⟨p3, 0, none⟩)]) ∧ Lr w' p1 p2 p3 (.func (.func 47) #[] #[]) (.slice (some ⟨w.heap.size, 0, none⟩) 1 1) .nilFunc ∧ Below V.heap.size V w') → ∃ f', e = .returned f' ∧ Takes w' f' ⟨(k : Int), 0, ⟨#[]⟩, false, .slice none 0 0, .slice (some ⟨b, 0, none⟩) 1 1⟩ ∧ Below w.heap.size w w' := by
    rintro V w' hV hc hlt e ⟨q1, q2, p1, p2, p3, rfl, h1, h2, hL, hb⟩
    have hw' := hV.trans (hb.mono hV.size)
    refine ⟨_, rfl, ⟨_, _, rfl, eg_row, fun U hU => ?_⟩, hw'⟩
    have hwU := hw'.trans (hU.mono hw'.size)
    exact row1_one (k : Int) 0 b 0 w.heap.size y q1 q2 p1 p2 p3 f U (hA.same (hwU.block b hA.lt)) (cell_keep h1 hU) (cell_keep h2 hU) (hL.below hU) (cell_keep (cell_keep hc hb) hU) eg hf
  have C := fun V => row_any (.func (.func 47) #[] #[]) (.slice (some ⟨w.heap.size, 0, none⟩) 1 1) ⟨_, rfl⟩ ⟨_, _, _, rfl⟩ V
  have HF := Lib.hid fin
  clear hA hf fin
  rcases hk with ⟨rfl, rfl⟩ | ⟨rfl, rfl⟩
  · go_enter Tryz.func39, Tryz.ntmps39
    go_wp2_with fail
    refine (C _).mono ?_
    intro e w2 h2
    have h3 := HF.out _ w2 ((Below.refl _ w).alloc (Nat.le_refl _) _) (World.cell?_alloc_at _ _ _ _ rfl) (by simp) e h2
    obtain ⟨f', rfl, hT, hB⟩ := h3
    have HT := Lib.hid hT
    have HB := Lib.hid hB
    clear h2 hT hB
    go_wp2_with fail
    go_ret
    exact ⟨f', rfl, HT.out, HB.out⟩
  · go_enter Tryz.func39, Tryz.ntmps39
    go_wp2_with fail
    refine (C _).mono ?_
    intro e w2 h2
    have h3 := HF.out _ w2 ((Below.refl _ w).alloc (Nat.le_refl _) _) (World.cell?_alloc_at _ _ _ _ rfl) (by simp) e h2
    obtain ⟨f', rfl, hT, hB⟩ := h3
    have HT := Lib.hid hT
    have HB := Lib.hid hB
    clear h2 hT hB
    go_wp2_with fail
    go_ret
    exact ⟨f', rfl, HT.out, HB.out⟩
set_option maxRecDepth 100000 in
set_option maxHeartbeats 4000000 in
theorem outer_two (w : World) (b : Nat) (y : Nv) (hA : At w b 0 y) (hf : ∀ V, Calls Tryz.prog 50 #[y.v] V fun e w' => e = .returned (.bool true) ∧ Below V.heap.size V w') :
    Calls Tryz.prog 39 #[.int .i64 2] w (ShQ w ⟨2, 0, ⟨#[]⟩, false, .slice none 0 0, .slice (some ⟨b, 0, none⟩) 1 1⟩) := by
  have C := longRow_lr (.func (.func 47) #[] #[]) (.func (.func 50) #[] #[]) (.slice none 0 0) ⟨_, rfl⟩ (Or.inr ⟨_, rfl⟩) ⟨_, _, _, rfl⟩ w
  have HA := Lib.hid hA
  have HF := Lib.hid hf
  clear hA hf
  go_enter Tryz.func39, Tryz.ntmps39
  go_wp2_with fail
  refine C.mono ?_
  rintro e w2 ⟨p1, p2, p3, rfl, hL, hb⟩
  have HL := Lib.hid hL
  have HB := Lib.hid hb
  clear hL hb C
  go_wp2_with fail
  go_ret
  refine ⟨_, rfl, ⟨_, _, rfl, eg_lr, fun U hU => ?_⟩, HB.out⟩
  have hwU := HB.out.trans (hU.mono HB.out.size)
  exact lr_more 2 0 b 0 y p1 p2 p3 50 U (HA.out.same (hwU.block b HA.out.lt)) (HL.out.below hU) eg_st HF.out
set_option maxRecDepth 100000 in
set_option maxHeartbeats 4000000 in
theorem inner_name (w : World) : Calls Tryz.prog 40 #[.int .i64 31] w (ShQ w ⟨31, 0, ⟨#[97]⟩, false, .slice none 0 0, .slice none 0 0⟩) := by
  have C := row_any (.func (.func 61) #[] #[]) (.slice none 0 0) ⟨_, rfl⟩ ⟨_, _, _, rfl⟩ w
  go_enter Tryz.func40, Tryz.ntmps40
  go_wp2_with fail
  refine C.mono ?_
  rintro e w2 ⟨q1, q2, p1, p2, p3, rfl, h1, h2, hL, hb⟩
  have HL := Lib.hid hL
  have HB := Lib.hid hb
  have H1 := Lib.hid h1
  have H2 := Lib.hid h2
  clear hL hb C h1 h2
  go_wp2_with fail
  go_ret
  refine ⟨_, rfl, ⟨_, _, rfl, eg_row, fun U hU => ?_⟩, HB.out⟩
  exact row1_name 31 0 q1 q2 p1 p2 p3 U (cell_keep H1.out hU) (cell_keep H2.out hU) (HL.out.below hU)
set_option maxRecDepth 100000 in
theorem shape_out (k : Int) (hk : k < 31) (w : World) (x : Nv) (C : Calls Tryz.prog 39 #[.int .i64 k] w (ShQ w x)) : Calls Tryz.prog 26 #[.int .i64 k] w (ShQ w x) := by
  go_enter Tryz.func26, Tryz.ntmps26
  go_wp2_with fail
  refine C.mono ?_
  rintro e w2 ⟨f, rfl, hT, hB⟩
  have HT := Lib.hid hT
  have HB := Lib.hid hB
  clear C hT hB
  go_wp2_with fail
  go_ret
  exact ⟨f, rfl, HT.out, HB.out⟩
set_option maxRecDepth 100000 in
theorem shape_in (w : World) (x : Nv) (C : Calls Tryz.prog 40 #[.int .i64 31] w (ShQ w x)) : Calls Tryz.prog 26 #[.int .i64 31] w (ShQ w x) := by
  go_enter Tryz.func26, Tryz.ntmps26
  go_wp2_with fail
  refine C.mono ?_
  rintro e w2 ⟨f, rfl, hT, hB⟩
  have HT := Lib.hid hT
  have HB := Lib.hid hB
  clear C hT hB
  go_wp2_with fail
  go_ret
  exact ⟨f, rfl, HT.out, HB.out⟩
/-- The example's nodes have their shapes. -/
theorem ex_shape {w : World} {x1 x2 x3 x4 : Nv} (h : Ex4 w x1 x2 x3 x4) (x : Nv) (hx : x = x1 ∨ x = x2 ∨ x = x3 ∨ x = x4) : Calls Tryz.prog 26 #[.int .i64 x.k] w (ShQ w x) := by
  obtain ⟨e4, ⟨b3, e3, h3⟩, ⟨b2, e2, h2⟩, ⟨b1, e1, h1⟩⟩ := h
  rcases hx with rfl | rfl | rfl | rfl
  · rw [e1]
    refine shape_out 1 (by omega) w _ (outer_one 1 48 w _ (Or.inl ⟨rfl, rfl⟩) b1 x2 rfl h1 eg_bl (fun V => ?_))
    rw [e2]
    exact isBlock_e 0 _ _ _ _ V
  · rw [e2]
    refine shape_out 2 (by omega) w _ (outer_two w b2 x3 h2 (fun V => ?_))
    rw [e3]
    exact isStatement_e 0 _ _ _ _ V
  · rw [e3]
    refine shape_out 3 (by omega) w _ (outer_one 3 51 w _ (Or.inr ⟨rfl, rfl⟩) b3 x4 rfl h3 eg_ex (fun V => ?_))
    rw [e4]
    exact isExpression_e 0 _ _ _ _ V
  · rw [e4]
    exact shape_in w _ (inner_name w)
end Nd
end Go.Proofs.YtfcgogpnbmikmaaGreatDoor
