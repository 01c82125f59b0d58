/-
  What a reader does: look, depth, put, dedent, offend.
-/
import Derived.Test.YtgillafjccgkdaaDoorLxTell
import Derived.Defers
import Derived.Recover
import Derived.Deep.QuietTactic
import Derived.BigQuiet
namespace Go.Proofs.YtgillafjccgkdaaDoor
open Go.RowKit Go.WideShapes
namespace Lx

theorem below_drewN {B : Nat} {a w : World} (h : Below B a w) (n : Nat) : Below B a (w.drewN n) := ⟨h.os, h.tape, h.output, h.size, h.block⟩
theorem size_list (s : ByteArray) : s.data.toList.length = s.size := by rw [Array.length_toList]; rfl
/-- The byte that is looked at; -1: none. -/
def lk (l : List UInt8) (a : Nat) : Int := if a < l.length then ((l.getD a 0).toNat : Int) else -1
set_option maxRecDepth 100000 in
theorem look_any {B : Nat} {w : World} {g : Nat} {src : ByteArray} {s : St} {bv tv : Value} (h : Rd B w g src s bv tv) (hle : s.at_ ≤ src.size) :
    Calls Tryd.prog 18 #[.pointer (some ⟨g, 0, none⟩)] w fun e w' => e = .returned (.int .i64 (lk src.data.toList s.at_)) ∧ Below w.heap.size w w' := by
  have c0 := h.c0
  have c1 := h.c1
  clear h
  by_cases hlt : s.at_ < src.size
  · have e1 : lk src.data.toList s.at_ = ((src[s.at_]'hlt).toNat : Int) := by
      unfold lk
      rw [if_pos (by rw [size_list]; exact hlt)]
      congr 2
      rw [List.getD, List.getElem?_eq_getElem (by rw [size_list]; exact hlt)]
      rfl
    rw [e1]
    clear e1
    have hne : ((s.at_ : Int) == (src.size : Int)) = false := beq_eq_false_iff_ne.2 (by omega)
    have t0 : (0 : Int) ≤ (s.at_ : Int) := by omega
    have t1 : (s.at_ : Int) < (src.size : Int) := by omega
    have eb : wrap64 ((src[s.at_]'hlt).toNat : Int) = ((src[s.at_]'hlt).toNat : Int) := by have := (src[s.at_]'hlt).toNat_lt; unfold wrap64; omega
    generalize s.at_ = a at *
    go_enter Tryd.func18, Tryd.ntmps18
    go_wp2
    go_quiet (fail)
    go_wp2
    go_quiet (fail)
    go_wp2
    go_ret
    refine ⟨?_, below_drewN (below_drewN (Below.refl _ w) _) _⟩
    show Ending.returned (Value.int .i64 (wrap64 _)) = _
    rw [eb]
  · have e1 : lk src.data.toList s.at_ = -1 := by
      unfold lk
      rw [if_neg (by rw [size_list]; exact hlt)]
    rw [e1]
    clear e1
    obtain ha : s.at_ = src.size := by omega
    rw [ha] at c1
    go_enter Tryd.func18, Tryd.ntmps18
    go_wp2
    go_quiet (fail)
    go_wp2
    go_ret
    exact ⟨rfl, below_drewN (Below.refl _ w) _⟩

set_option maxRecDepth 100000 in
theorem depth_any {B : Nat} {w : World} {g d : Nat} {r : List Nat} {src : ByteArray} {s : St} {bv tv : Value} (h : Rd B w g src s bv tv) (hs : s.bs = d :: r) (hr : r.length ≤ 100) :
    Calls Tryd.prog 29 #[.pointer (some ⟨g, 0, none⟩)] w fun e w' => e = .returned (.int .i64 (d : Int)) ∧ Below w.heap.size w w' := by
  have c3 := h.c3
  have hb := h.bo
  rw [hs] at hb
  obtain ⟨gb, cap, rfl, hlb, hcap, -⟩ := ownsS_some hb (by simp)
  have cb := ownsS_cell hb r.length _ (bsl_top d r)
  simp only [List.length_cons] at *
  have e1 : IntKind.i64.wrap (((r.length + 1 : Nat) : Int) - 1) = (r.length : Int) := by rw [i64_small (by omega) (by omega)]; omega
  have e2 : ((r.length + 1 : Nat) : Int) = (r.length : Int) + 1 := by omega
  have i1 : (r.length : Int) < ((r.length + 1 : Nat) : Int) := by omega
  have i2 : (0 : Int) ≤ (r.length : Int) := by omega
  clear h hb hs hcap
  generalize r.length = n at *
  go_enter Tryd.func29, Tryd.ntmps29
  go_wp2
  go_quiet (fail)
  go_wp2
  go_ret
  exact ⟨rfl, below_drewN (Below.refl _ w) _⟩
def RdX (B : Nat) (w : World) (g : Nat) (src : ByteArray) (s : St) : Prop := ∃ bv tv, Rd B w g src s bv tv
theorem RdX.below {B : Nat} {w w' : World} {g : Nat} {src : ByteArray} {s : St} (h : RdX B w g src s) (hb : Below w.heap.size w w') : RdX B w' g src s := by
  obtain ⟨bv, tv, h⟩ := h
  exact ⟨bv, tv, h.below hb⟩
set_option maxRecDepth 100000 in
set_option maxHeartbeats 4000000 in
theorem put_any {B : Nat} {w : World} {g : Nat} {src : ByteArray} {s : St} (hX : RdX B w g src s) (k : Nat) (x : List UInt8) (n : Nat) (X : ByteArray) (hx : X = ⟨x.toArray⟩) (hat : s.at_ ≤ 1000000) (hn : n ≤ 1000000) (hts : s.ts.length ≤ 10000000) :
    Calls Tryd.prog 26 #[.pointer (some ⟨g, 0, none⟩), .int .i64 (k : Int), .string X, .int .i64 (n : Int)] w fun e w' => e = .returned (.tuple #[]) ∧ RdX B w' g src (s.add k x n) ∧ Below B w w' := by
  obtain ⟨bv, tv, h⟩ := hX
  obtain ⟨ta, cap, rfl⟩ := ownsS_shape h.to
  have c1 := h.c1
  have c4 := h.c4
  have z4 := h.b.z 4
  have z1 := h.b.z 1
  obtain ⟨i0, hi, hz0, hz1, hz2⟩ := info_parts Tryd.infoT
  have HD : Hid (Rd B w.drew g src s bv (.slice ta s.ts.length cap)) := h.drew
  have hlo := h.lo
  have hlt := h.lt
  have c4a : ∀ o, (w.alloc o).cell? ⟨g, 4, none⟩ = some (.slice ta s.ts.length cap) := fun o => (World.cell?_of_block (a := ⟨g, 4, none⟩) (Below.heap_alloc w o g hlt)).trans c4
  have c1a : ∀ o, (w.alloc o).cell? ⟨g, 1, none⟩ = some (.int .i64 (s.at_ : Int)) := fun o => (World.cell?_of_block (a := ⟨g, 1, none⟩) (Below.heap_alloc w o g hlt)).trans c1
  have HBs : Hid (B ≤ w.heap.size) := by show B ≤ _; omega
  subst hx
  have HF := Lib.hid (newR_tok w.drew ⟨k, x, s.at_⟩ 29)
  have HGB : Hid (∀ w5 : World, (w.drew.alloc (.cells #[.int .i64 (k : Int), .string ⟨x.toArray⟩, .int .i64 (s.at_ : Int)] 29)).grownBy w5 (Value.slice ta s.ts.length cap).ownBlock → w5.heap[g]? = w.heap[g]?) := fun w5 hg => (hg.block g (by simp; exact Nat.lt_succ_of_lt hlt) (fun e => h.tg e.symm)).trans (Below.heap_alloc _ _ _ hlt)
  have e1 : IntKind.i64.wrap ((s.at_ : Int) + (n : Int)) = ((s.at_ + n : Nat) : Int) := by rw [i64_small (by omega) (by omega)]; omega
  clear h hlo hlt
  go_enter Tryd.func26, Tryd.ntmps26
  go_wp2
  go_region_law (refine stepS_append_own rfl _ _ 26 rfl B 29 i0 _ 3 32 Tryd.underlying26 hi hz0 hz1 hz2 rfl (by decide) (.slice ta s.ts.length cap) s.ts.length (tkl s.ts) (by simp [Act.eval]) (World.ownsRow.alloc HD.out.to _) ⟨w.drew.heap.size, 0, none⟩ 1 1 (tkC ⟨k, x, s.at_⟩) (by simp [Act.eval]) rfl HF.out (tkC_one _) (by unfold maxLen; omega) (by omega) (by have := HBs.out; simp; omega) ?_; intro v' w5 hown2 hgrow hat2; obtain ⟨a2, cap2, hv2⟩ := ownsS_shape hown2; subst hv2; have hb5 := HGB.out w5 hgrow; have g4 := (World.cell?_of_block (a := ⟨g, 4, none⟩) hb5).trans c4; have gz4 := (World.frozen?_of_block (a := ⟨g, 4, none⟩) hb5).trans z4; have g1 := (World.cell?_of_block (a := ⟨g, 1, none⟩) hb5).trans c1; have gz1 := (World.frozen?_of_block (a := ⟨g, 1, none⟩) hb5).trans z1)
  all_goals
    obtain ⟨h1, h2⟩ := HD.out.tok hown2 hgrow hat2
    go_wp2
    go_end0
    exact ⟨rfl, ⟨_, _, h1.at_ _⟩, (((Below.refl B w).drew.trans h2).setCell (p := ⟨g, 1, none⟩) HD.out.lo _)⟩
set_option maxRecDepth 100000 in
theorem offend_any {B : Nat} {w : World} {g : Nat} {src : ByteArray} {s : St} (hX : RdX B w g src s) (code : Int) :
    Calls Tryd.prog 30 #[.pointer (some ⟨g, 0, none⟩), .int .i64 code] w fun e w' => e = .panicked [{ v := .iface 48 (.agg #[.int .i64 code, .int .i64 (s.at_ : Int)]), recovered := false }] ∧ w' = w := by
  obtain ⟨bv, tv, h⟩ := hX
  have c1 := h.c1
  clear h
  go_enter Tryd.func30, Tryd.ntmps30
  go_wp2
  exact ⟨rfl, rfl, rfl⟩
end Lx
end Go.Proofs.YtgillafjccgkdaaDoor
