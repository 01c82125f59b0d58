/-
  A Builder that is written to: Grow, WriteByte, WriteRune, String.
-/
import Derived.Test.YtjkpailkamafcaaGreatDoorStoBd
import Derived.Test.YtjkpailkamafcaaGreatDoorStoAw3
namespace Go.Proofs.YtjkpailkamafcaaGreatDoor
open Go.RowKit Go.WideShapes

namespace Sto
theorem row_byte : (Tryz.prog.info? 5).isSome = true := by kernel_rfl
theorem Bd.drew {w : World} {B g : Nat} {t : List UInt8} {p v : Value} (h : Bd w B g t p v) : Bd w.drew B g t p v := ⟨h.b, h.h, h.p, h.o, h.a⟩
set_option maxRecDepth 100000 in
set_option maxHeartbeats 2000000 in
theorem grow3 {w : World} {B g : Nat} (hh : w.heap[g]? = some (.cells #[.pointer (some ⟨g, 0, none⟩), .slice none 0 0] 159)) (hB : B ≤ g) (hBw : B ≤ w.heap.size) :
    Calls Tryz.prog 80 #[.pointer (some ⟨g, 0, none⟩), .int .i64 3] w fun e w' => e = .returned (.tuple #[]) ∧ (∃ v, Bd w' B g [] (.pointer (some ⟨g, 0, none⟩)) v) ∧ Below B w w' := by
  obtain ⟨cs, hcall, hle, hmax⟩ := bld_room w.drew 3 (by omega)
  have c1 : w.cell? ⟨g, 1, none⟩ = some (.slice none 0 0) := by simp [World.cell?, hh]
  have hlt : g < w.heap.size := (Array.getElem?_eq_some_iff.1 hh).1
  have hcopy : ∀ W : World, (Builtin.copy_ #[150, 150] 3 #[.slice (some ⟨w.heap.size, 0, none⟩) 0 cs.size, .slice none 0 0]).run Tryz.prog W = .ok (goInt 0) W :=
    fun W => run_copy_none W 150 150 3 5 _ _ 0 cs.size 0 0 Tryz.underlying150 (by kernel_rfl) rfl
  have hcall3 : (callFunc 114 #[.int .i64 (IntKind.i64.wrap (IntKind.i64.wrap 0 + 3))]).run Tryz.prog w.drew = .ok (.value (.slice (some ⟨w.heap.size, 0, none⟩) 3 cs.size)) (w.drew.drew.drew.alloc (.cells cs 5)) := by rw [show IntKind.i64.wrap (IntKind.i64.wrap 0 + 3) = 3 by decide]; exact hcall
  have c2 : (w.alloc (.cells cs 5)).cell? ⟨g, 1, none⟩ = some (.slice none 0 0) := (World.cell?_of_block (a := ⟨g, 1, none⟩) (Below.heap_alloc w _ g hlt)).trans c1
  have z2 : (w.alloc (.cells cs 5)).frozen? ⟨g, 1, none⟩ = false := (World.frozen?_of_block (a := ⟨g, 1, none⟩) (Below.heap_alloc w _ g hlt)).trans (by simp [World.frozen?, hh])
  have hn0 : (0 : Nat) ≤ cs.size := Nat.zero_le _
  clear hcall
  have hbd : Bd ((w.setCell ⟨g, 1, none⟩ (.slice (some ⟨w.heap.size, 0, none⟩) 0 cs.size)).alloc (.cells cs 5)) B g [] (.pointer (some ⟨g, 0, none⟩)) (.slice (some ⟨w.heap.size, 0, none⟩) 0 cs.size) := by
    have hs : (w.setCell ⟨g, 1, none⟩ (.slice (some ⟨w.heap.size, 0, none⟩) 0 cs.size)).heap.size = w.heap.size := by simp [World.setCell]
    refine ⟨hB, (Below.heap_alloc _ _ _ (by omega)).trans (by simp [World.setCell, Array.getElem?_modify, hh]), Or.inr rfl, ⟨rfl, Or.inr ⟨w.heap.size, cs.size, cs, rfl, hBw, ?_, Nat.zero_le _, hmax, by simp, by simp [Lib.byteCells]⟩⟩, fun e => ?_⟩
    · have key : ∀ (W : World) n, W.heap.size = n → (W.alloc (.cells cs 5)).heap[n]? = some (.cells cs 5) := by
        rintro W n rfl
        exact (show (W.heap.push _)[W.heap.size]? = _ from Array.getElem?_push_size)
      exact key _ _ hs
    · have : w.heap.size = g := Option.some.inj e
      omega
  have hbl : Below B w ((w.setCell ⟨g, 1, none⟩ (.slice (some ⟨w.heap.size, 0, none⟩) 0 cs.size)).alloc (.cells cs 5)) := ((Below.refl B w).setCell (p := ⟨g, 1, none⟩) hB _).alloc (by simp [World.setCell]; omega) _
  have HBD := Lib.hid hbd
  have HBL := Lib.hid hbl
  clear hbd hbl
  go_enter Tryz.func80, Tryz.ntmps80
  go_wp2_with fail
  go_region_with fail
  all_goals go_wp2_with fail
  all_goals go_end0
  all_goals exact ⟨rfl, ⟨_, HBD.out.drew.drew.drew⟩, HBL.out.drew.drew.drew⟩
/-- Behind an append of bytes. -/
theorem Bd.wrote {w w' : World} {B g : Nat} {t : List UInt8} {p v v' : Value} (h : Bd w B g t p v) (s : List UInt8) (ho : w'.ownsRow B 5 1 v' (t.length + s.length) (Lib.byteCells t ++ Lib.byteCells s)) (hg : w.grownBy w' v.ownBlock) :
    w'.heap[g]? = w.heap[g]? ∧ Bd (w'.setCell ⟨g, 1, none⟩ v') B g (t ++ s) p v' ∧ Below B w (w'.setCell ⟨g, 1, none⟩ v') := by
  have hlt := h.lt
  have hb : w'.heap[g]? = w.heap[g]? := hg.block g hlt (fun e => h.a e.symm)
  have hbw := hb.trans h.h
  have hoB : ∀ q, v.ownBlock = some q → B ≤ q ∧ ∃ c, w.heap[q]? = some (.cells c 5) := by
    intro q hq
    obtain ⟨_, h2 | ⟨q', c, cur, e, h3, h4, _⟩⟩ := h.o
    · rw [h2.1] at hq; cases hq
    · rw [e] at hq
      injection hq with hq
      subst hq
      exact ⟨h3, _, h4⟩
  have hset : ∀ q, q ≠ g → (w'.setCell ⟨g, 1, none⟩ v').heap[q]? = w'.heap[q]? := fun q hq => by simp [World.setCell, Array.getElem?_modify, Ne.symm hq]
  have hcs : Lib.byteCells (t ++ s) = Lib.byteCells t ++ Lib.byteCells s := by simp [Lib.byteCells]
  refine ⟨hb, ⟨h.b, by simp [World.setCell, Array.getElem?_modify, hbw], h.p, ?_, ?_⟩, ⟨hg.os, hg.tape, hg.output, by simp [World.setCell]; exact hg.size, fun q hq => ?_⟩⟩
  · rw [List.length_append, hcs]
    obtain ⟨h1, h2⟩ := ho
    refine ⟨h1, ?_⟩
    rcases h2 with h2 | ⟨q, c, cur, e, h3, h4, h5⟩
    · exact Or.inl h2
    · refine Or.inr ⟨q, c, cur, e, h3, ?_, h5⟩
      rw [hset q (fun hh => by rw [hh, hbw] at h4; simp at h4)]
      exact h4
  · obtain ⟨_, h2 | ⟨q, c, cur, e, h3, h4, _⟩⟩ := ho
    · rw [h2.1]; simp [Value.ownBlock]
    · rw [e]
      intro hh
      injection hh with hh
      simp only at hh
      rw [hh, hbw] at h4
      simp at h4
  · rw [hset q (by have := h.b; omega)]
    exact hg.block q (by have := h.b; omega) (fun e => by have := (hoB q e.symm).1; omega)
set_option maxRecDepth 100000 in
theorem writeByte_bd {w : World} {B g : Nat} {t : List UInt8} {p v : Value} (h : Bd w B g t p v) (x : UInt8) (hn : t.length ≤ 1000000) (hB : B ≤ w.heap.size) :
    Calls Tryz.prog 48 #[.pointer (some ⟨g, 0, none⟩), .int .u8 (x.toNat : Int)] w fun e w' => e = .returned .nilIface ∧ (∃ p' v', Bd w' B g (t ++ [x]) p' v') ∧ Below B w w' := by
  have C := check_bd h
  have HB := Lib.hid hB
  clear hB
  go_enter Tryz.func48, Tryz.ntmps48
  go_wp2_with fail
  refine C.mono ?_
  rintro e w2 ⟨rfl, h2, hb2, -⟩
  clear C
  obtain ⟨a0, cap0, rfl⟩ := ownsS_shape h2.o
  obtain ⟨i0, hi, hz0, hz1, hz2⟩ := info_parts infoB
  have c1 : w2.cell? ⟨g, 1, none⟩ = some (.slice a0 t.length cap0) := h2.c1
  have hs2 := hb2.size
  have H2 := Lib.hid h2
  have HB2 := Lib.hid hb2
  have HO := Lib.hid h2.o
  clear h2 hb2 h
  go_wp2_with (at_builtin; refine wpListS_append_own rfl _ _ 150 rfl B 5 i0 (.int .u8 0) 1 1 Tryz.underlying150 hi hz0 hz1 hz2 rfl (by decide) _ _ _ rfl (World.ownsRow.alloc HO.out _) ⟨w2.heap.size, 0, none⟩ 1 1 [.int .u8 (x.toNat : Int)] rfl rfl (new_one _ _ _) (fun u hu => by rw [List.mem_singleton] at hu; subst hu; rfl) (by unfold maxLen; omega) (by omega) (by have := HB.out; simp; omega) ?_)
  intro v' w5 hown2 hgrow hat
  obtain ⟨a5, cap5, hv⟩ := ownsS_shape hown2
  subst hv
  obtain ⟨hb5, hU, hBl⟩ := H2.out.wrote [x] (v' := .slice a5 (t.length + 1) cap5) hown2 ((World.grownBy_alloc _ _ _).trans hgrow)
  have x1 := (World.cell?_of_block (a := ⟨g, 1, none⟩) hb5).trans c1
  have y1 := (World.frozen?_of_block (a := ⟨g, 1, none⟩) hb5).trans (H2.out.z 1)
  have HU := Lib.hid hU
  have HBl := Lib.hid hBl
  clear hown2 hgrow hat hb5 hU hBl c1
  go_wp2_with fail
  go_ret
  exact ⟨rfl, ⟨_, _, HU.out⟩, HB2.out.trans HBl.out⟩
set_option maxRecDepth 100000 in
theorem Grow_bd {w : World} {B g : Nat} (hh : w.heap[g]? = some (.cells #[.pointer none, .slice none 0 0] 159)) (hB : B ≤ g) (hBw : B ≤ w.heap.size) :
    Calls Tryz.prog 47 #[.pointer (some ⟨g, 0, none⟩), .int .i64 3] w fun e w' => e = .returned (.tuple #[]) ∧ (∃ p v, Bd w' B g [] p v) ∧ Below B w w' := by
  have h0 : Bd w B g [] (.pointer none) (.slice none 0 0) := ⟨hB, hh, Or.inl rfl, ⟨rfl, .inl ⟨rfl, rfl⟩⟩, by simp [Value.ownBlock]⟩
  have C1 := check_bd h0
  have HBw := Lib.hid hBw
  have HBg := Lib.hid hB
  clear h0 hh hBw hB
  go_enter Tryz.func47, Tryz.ntmps47
  go_wp2_with fail
  refine C1.mono ?_
  rintro e w2 ⟨rfl, h2, hb2, -⟩
  clear C1
  have c1 : w2.cell? ⟨g, 1, none⟩ = some (.slice none 0 0) := h2.c1
  have C2 := fun (W : World) (hW : W.heap[g]? = some (.cells #[.pointer (some ⟨g, 0, none⟩), .slice none 0 0] 159)) (hs : B ≤ W.heap.size) => grow3 hW HBg.out hs
  have HH := Lib.hid h2.h
  have HB2 := Lib.hid hb2
  clear h2 hb2
  go_wp2_with fail
  go_region
  go_wp2_with fail
  refine (C2 w2.drew HH.out (Nat.le_trans HBw.out HB2.out.size)).mono ?_
  rintro e w3 ⟨rfl, ⟨v3, h3⟩, hb3⟩
  clear C2
  have H3 := Lib.hid h3
  have HB3 := Lib.hid hb3
  clear h3 hb3
  go_wp2_with fail
  go_end0
  exact ⟨rfl, ⟨_, _, H3.out⟩, HB2.out.drew.trans HB3.out⟩
end Sto
end Go.Proofs.YtjkpailkamafcaaGreatDoor
