/-
  A str of one letter in quotes.
-/
import Derived.Test.YtjkpailkamafcaaGreatDoorStoQu
import Derived.Laws.RangeString
import Derived.Laws.RangeAny
namespace Go.Proofs.YtjkpailkamafcaaGreatDoor
open Go.RowKit Go.WideShapes

namespace Sto
/-- The blocks of a Builder. -/
def BX (g : Nat) (v : Value) (k : Nat) : Prop := k = g ∨ v.ownBlock = some k
theorem wrote_ex {w w' : World} {g : Nat} {v v' : Value} (hg : w.grownBy w' v.ownBlock) : Ex (BX g v) w (w'.setCell ⟨g, 1, none⟩ v') :=
  Ex.setCell (a := w) (w := w') (p := ⟨g, 1, none⟩) (X := BX g v) ⟨hg.os, hg.tape, hg.output, hg.size, fun k hk hx => hg.block k hk (fun e => hx (Or.inr e.symm))⟩ (fun _ => Or.inl rfl) _
/-- What AppendRune leaves of a letter. -/
def ArP (w : World) (B : Nat) (v : Value) (n : Nat) (xs : List Value) (x : UInt8) (e : Ending) (w' : World) : Prop := ∃ a c, e = .returned (.slice a (n + 1) c) ∧ w'.ownsRow B 5 1 (.slice a (n + 1) c) (n + 1) (xs ++ [.int .u8 (x.toNat : Int)]) ∧ w.grownBy w' v.ownBlock
set_option maxRecDepth 100000 in
theorem appendA {w : World} {B n : Nat} {a0 : Option Addr} {cap0 : Nat} {xs : List Value} (ho : w.ownsRow B 5 1 (.slice a0 n cap0) n xs) (hn : n ≤ 1000000) (hB : B ≤ w.heap.size) :
    Calls Tryz.prog 115 #[.slice a0 n cap0, .int .i32 97] w (ArP w B (.slice a0 n cap0) n xs 97) := by
  obtain ⟨i0, hi, hz0, hz1, hz2⟩ := info_parts infoB
  have HO := Lib.hid ho
  have HB := Lib.hid hB
  clear ho hB
  go_enter Tryz.func115, Tryz.ntmps115
  go_wp2_with (at_builtin; refine wpListS_append_own rfl _ _ 150 rfl B 5 i0 (.int .u8 0) 1 1 Tryz.underlying150 hi hz0 hz1 hz2 rfl (by decide) _ _ _ rfl (World.ownsRow.alloc HO.out _) ⟨w.heap.size, 0, none⟩ 1 1 [.int .u8 97] rfl rfl (new_one _ _ _) (fun u hu => by rw [List.mem_singleton] at hu; subst hu; rfl) (by unfold maxLen; omega) (by omega) (by have := HB.out; simp; omega) ?_)
  intro v' w5 hown2 hgrow hat
  obtain ⟨a5, cap5, hv⟩ := ownsS_shape hown2
  subst hv
  have HF := Lib.hid (show w5.ownsRow B 5 1 (.slice a5 (n + 1) cap5) (n + 1) (xs ++ [.int .u8 97]) from hown2)
  have HG := Lib.hid ((World.grownBy_alloc _ _ _).trans hgrow)
  clear hown2 hgrow hat
  go_wp2_with fail
  go_ret
  exact ⟨_, _, rfl, HF.out, HG.out⟩
set_option maxRecDepth 100000 in
theorem writeRuneA {w : World} {B g : Nat} {t : List UInt8} {p v : Value} (h : Bd w B g t p v) (hn : t.length ≤ 1000000) (hB : B ≤ w.heap.size) :
    Calls Tryz.prog 85 #[.pointer (some ⟨g, 0, none⟩), .int .i32 97] w fun e w' => e = .returned (.tuple #[.int .i64 1, .nilIface]) ∧ (∃ p' v', Bd w' B g (t ++ [97]) p' v') ∧ Below B w w' ∧ Ex (BX g v) w w' := by
  have C := check_bd h
  have HB := Lib.hid hB
  clear hB h
  go_enter Tryz.func85, Tryz.ntmps85
  go_wp2_with fail
  refine C.mono ?_
  rintro e w2 ⟨rfl, h2, hb2, hx2⟩
  clear C
  obtain ⟨a0, cap0, rfl⟩ := ownsS_shape h2.o
  have c1 : w2.cell? ⟨g, 1, none⟩ = some (.slice a0 t.length cap0) := h2.c1
  have C2 := appendA h2.o hn (Nat.le_trans HB.out hb2.size)
  have H2 := Lib.hid h2
  have HB2 := Lib.hid hb2
  clear h2 hb2
  go_wp2_with fail
  refine C2.mono ?_
  rintro e w5 ⟨a5, cap5, rfl, hown2, hgrow⟩
  clear C2
  obtain ⟨hb5, hU, hBl⟩ := H2.out.wrote [97] (v' := .slice a5 (t.length + 1) cap5) hown2 hgrow
  have x1 := (World.cell?_of_block (a := ⟨g, 1, none⟩) hb5).trans c1
  have y1 := (World.frozen?_of_block (a := ⟨g, 1, none⟩) hb5).trans (H2.out.z 1)
  have q1 := hU.c1
  have e1 : IntKind.i64.wrap (((t.length + 1 : Nat) : Int) - (t.length : Int)) = 1 := by rw [i64_small (by omega) (by omega)]; omega
  have HU := Lib.hid hU
  have HBl := Lib.hid hBl
  have HX := Lib.hid ((hx2.mono (fun k _ hk => Or.inl hk)).trans (wrote_ex (g := g) (v' := .slice a5 (t.length + 1) cap5) hgrow))
  clear hown2 hgrow hb5 hU hBl c1 hx2
  generalize hL : t.length + 1 = L1 at *
  go_wp2_with fail
  go_ret2
  exact ⟨rfl, ⟨_, _, HU.out⟩, HB2.out.trans HBl.out, HX.out⟩
set_option maxRecDepth 100000 in
theorem controlA (w : World) : Calls Tryz.prog 82 #[.int .i32 97] w fun e w' => e = .returned (.bool false) ∧ w' = w := by
  go_enter Tryz.func82, Tryz.ntmps82
  go_wp2
  go_ret
  exact ⟨rfl, rfl⟩
set_option maxRecDepth 100000 in
theorem hiddenA (w : World) : Calls Tryz.prog 84 #[.int .i32 97] w fun e w' => e = .returned (.bool false) ∧ w' = w := by
  go_enter Tryz.func84, Tryz.ntmps84
  go_wp2
  go_ret
  exact ⟨rfl, rfl⟩
set_option maxRecDepth 100000 in
theorem quotedA {w : World} {B g : Nat} {t : List UInt8} {p v : Value} (h : Bd w B g t p v) (hn : t.length ≤ 1000000) (hB : B ≤ w.heap.size) :
    Calls Tryz.prog 49 #[.pointer (some ⟨g, 0, none⟩), .int .i32 97] w fun e w' => e = .returned (.tuple #[]) ∧ (∃ p' v', Bd w' B g (t ++ [97]) p' v') ∧ Below B w w' ∧ Ex (BX g v) w w' := by
  have C1 := controlA w
  have C2 := hiddenA w
  have C3 := writeRuneA h hn hB
  clear h
  go_enter Tryz.func49, Tryz.ntmps49
  go_wp2_with fail
  refine C1.mono ?_
  rintro e w1 ⟨rfl, rfl⟩
  clear C1
  go_wp2_with fail
  refine C2.mono ?_
  rintro e w2 ⟨rfl, rfl⟩
  clear C2
  go_wp2_with fail
  refine C3.mono ?_
  rintro e w3 ⟨rfl, h3, hb3, hx3⟩
  clear C3
  have H3 := Lib.hid h3
  have HB3 := Lib.hid hb3
  have HX3 := Lib.hid hx3
  clear h3 hb3 hx3
  go_wp2_with fail
  go_end0
  exact ⟨rfl, H3.out, HB3.out, HX3.out⟩
end Sto
end Go.Proofs.YtjkpailkamafcaaGreatDoor
