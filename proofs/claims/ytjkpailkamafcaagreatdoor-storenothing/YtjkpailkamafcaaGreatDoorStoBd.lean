/-
  A Builder in its own block, what is written to it, its text.
-/
import Derived.Test.YtjkpailkamafcaaGreatDoorStoSt
import Derived.Lib.MakeNoZero
import Derived.Shelf.Strings.BuilderK
import Derived.RegionTactic
namespace Go.Proofs.YtjkpailkamafcaaGreatDoor
open Go.RowKit Go.WideShapes

namespace Sto
theorem infoB : (Tryz.prog.info? 5).map (fun i => (i.zero, i.size, i.bytes)) = some (some (.int .u8 0), 1, 1) := by kernel_rfl
/-- A Builder at block g that holds the text t; all that it writes lies behind B. -/
structure Bd (w : World) (B g : Nat) (t : List UInt8) (p v : Value) : Prop where
  b : B ≤ g
  h : w.heap[g]? = some (.cells #[p, v] 159)
  p : p = .pointer none ∨ p = .pointer (some ⟨g, 0, none⟩)
  o : w.ownsRow B 5 1 v t.length (Lib.byteCells t)
  a : v.ownBlock ≠ some g
theorem Bd.c0 {w : World} {B g : Nat} {t : List UInt8} {p v : Value} (h : Bd w B g t p v) : w.cell? ⟨g, 0, none⟩ = some p := by simp [World.cell?, h.h]
theorem Bd.c1 {w : World} {B g : Nat} {t : List UInt8} {p v : Value} (h : Bd w B g t p v) : w.cell? ⟨g, 1, none⟩ = some v := by simp [World.cell?, h.h]
theorem Bd.z {w : World} {B g : Nat} {t : List UInt8} {p v : Value} (h : Bd w B g t p v) (j : Nat) : w.frozen? ⟨g, j, none⟩ = false := by simp [World.frozen?, h.h]
theorem Bd.lt {w : World} {B g : Nat} {t : List UInt8} {p v : Value} (h : Bd w B g t p v) : g < w.heap.size := (Array.getElem?_eq_some_iff.1 h.h).1
theorem Bd.setp {w : World} {B g : Nat} {t : List UInt8} {p v : Value} (h : Bd w B g t p v) : Bd (w.setCell ⟨g, 0, none⟩ (.pointer (some ⟨g, 0, none⟩))) B g t (.pointer (some ⟨g, 0, none⟩)) v := by
  refine ⟨h.b, ?_, Or.inr rfl, ?_, h.a⟩
  · simp [World.setCell, Array.getElem?_modify, h.h]
  · obtain ⟨h1, h2⟩ := h.o
    refine ⟨h1, ?_⟩
    rcases h2 with h2 | ⟨q, c, cur, e, h3, h4, h5⟩
    · exact Or.inl h2
    · refine Or.inr ⟨q, c, cur, e, h3, ?_, h5⟩
      have hne : g ≠ q := fun hh => h.a (by rw [e, hh]; rfl)
      simp [World.setCell, Array.getElem?_modify, hne, h4]
theorem bld_convert (w : World) (g : Nat) {p : Value} (c0 : w.cell? ⟨g, 0, none⟩ = some p) : (Go.convert 157 237 (.pointer (some ⟨g, 0, none⟩))).run Tryz.prog w = .ok (.pointer (some ⟨g, 0, none⟩)) w :=
  run_convert_to_unsafe Tryz.underlying157 Tryz.underlying237 (by kernel_rfl) c0
theorem bld_back (w : World) (g : Nat) (c0 : w.shape? g = some (159, 2)) : (Go.convert 237 157 (.pointer (some ⟨g, 0, none⟩))).run Tryz.prog w = .ok (.pointer (some ⟨g, 0, none⟩)) w := by
  obtain ⟨j, hj⟩ : ∃ j, Tryz.prog.info? 159 = some j := Option.isSome_iff_exists.1 (by kernel_rfl)
  exact Lib.run_from_unsafe w ⟨g, 0, none⟩ Tryz.underlying237 Tryz.underlying157 hj c0 (by kernel_rfl)
theorem bld_esc (w : World) (v : Value) : (callFunc 113 #[v]).run Tryz.prog w = .ok (.value v) w := by
  rw [run_callFunc_extern Tryz.func113 (by kernel_rfl) (by kernel_rfl) (by kernel_rfl) (e := Extern.AbiNoEscape.same) (by kernel_rfl), Lib.run_noEscape]
  rfl
theorem bld_same (w : World) (g : Nat) : (binOp BinOp.neq 157 (.pointer (some ⟨g, 0, none⟩)) (.pointer (some ⟨g, 0, none⟩))).run Tryz.prog w = .ok (.bool false) w := by
  obtain ⟨j, hj⟩ : ∃ j, Tryz.prog.info? 159 = some j := Option.isSome_iff_exists.1 (by kernel_rfl)
  exact Lib.run_neq_ptr_same w _ Tryz.underlying157 hj
set_option maxRecDepth 100000 in
theorem check_bd {w : World} {B g : Nat} {t : List UInt8} {p v : Value} (h : Bd w B g t p v) :
    Calls Tryz.prog 79 #[.pointer (some ⟨g, 0, none⟩)] w fun e w' => e = .returned (.tuple #[]) ∧ Bd w' B g t (.pointer (some ⟨g, 0, none⟩)) v ∧ Below B w w' ∧ Ex (fun k => k = g) w w' := by
  have c0 := h.c0
  have z0 := h.z 0
  have e1 := bld_convert w g c0
  have e2 := bld_back w g (by simp [World.shape?, h.h])
  have e3 := fun (w : World) (v : Value) => bld_esc w v
  have e4 := fun (w : World) => bld_same w g
  rcases h.p with hp | hp
  · rw [hp] at c0
    have hs := h.setp.c0
    have H := Lib.hid h
    clear h
    go_enter Tryz.func79, Tryz.ntmps79
    go_wp2_with fail
    go_end0
    exact ⟨rfl, H.out.setp, (Below.refl _ w).setCell (p := ⟨g, 0, none⟩) H.out.b _, (Ex.refl (fun k => k = g) w).setCell (p := ⟨g, 0, none⟩) (fun _ => rfl) _⟩
  · rw [hp] at c0
    have H := Lib.hid h
    clear h
    go_enter Tryz.func79, Tryz.ntmps79
    go_wp2_with fail
    go_end0
    subst hp
    exact ⟨rfl, H.out, Below.refl _ w, Ex.refl _ w⟩
/-- A new buffer of so many bytes' room. -/
theorem bld_room (w : World) (n : Nat) (hn : n ≤ 1000) : ∃ cs : Array Value, (callFunc 114 #[.int .i64 n]).run Tryz.prog w = .ok (.value (.slice (some ⟨w.heap.size, 0, none⟩) n cs.size)) (w.drew.drew.alloc (.cells cs 5)) ∧ n ≤ cs.size ∧ cs.size ≤ maxLen := by
  obtain ⟨cs, hrun, hle, hmax⟩ := Lib.run_makeNoZero (P := Tryz.prog) w #[3] 150 5 Tryz.underlying150 n (by omega)
  refine ⟨cs, ?_, hle, hmax (by unfold maxLen; omega)⟩
  rw [run_callFunc_extern Tryz.func114 (by kernel_rfl) (by kernel_rfl) (by kernel_rfl) (e := Extern.BytealgMakeNoZero.makeNoZero #[3] #[150]) (by kernel_rfl), hrun]
  rfl
end Sto
end Go.Proofs.YtjkpailkamafcaaGreatDoor
