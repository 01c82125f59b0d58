/-
  Print: the text that a writer gives.
-/
import Derived.Test.YtfcgogpnbmikmaaGreatDoorNdWr
namespace Go.Proofs.YtfcgogpnbmikmaaGreatDoor
open Go.RowKit Go.WideShapes
namespace Nd
open Lx

theorem Wr.drewN {w : World} {B g : Nat} {k : Int} {t : List UInt8} {p v : Value} (h : Wr w B g k t p v) (n : Nat) : Wr (w.drewN n) B g k t p v := ⟨h.b, h.h, h.p, h.o, h.a⟩
set_option maxRecDepth 100000 in
theorem string_wr {w : World} {B g : Nat} {k : Int} {t : List UInt8} {p v : Value} (h : Wr w B g k t p v) (ht : t ≠ []) (hn : t.length ≤ 140737488355328) :
    Calls Tryz.prog 28 #[.pointer (some ⟨g, 0, none⟩)] w fun e w' => e = .returned (.string ⟨t.toArray⟩) ∧ Below B w w' := by
  have c1 := h.c1
  obtain ⟨_, h2 | ⟨q, c, cur, rfl, h3, h4, h5, h6, h7, h8⟩⟩ := h.o
  · exact absurd (List.eq_nil_of_length_eq_zero h2.2) ht
  · have hc0 : c ≠ 0 := by have := List.length_pos_iff.2 ht; omega
    have r1 : ∀ (w : World) (ts : Array TypeId) (ty : TypeId), (Builtin.unsafeSliceData_ ts ty #[.slice (some ⟨q, 0, none⟩) t.length c]).run Tryz.prog w = .ok (.pointer (some ⟨q, 0, none⟩)) w := fun w ts ty => Lib.run_unsafeSliceData_row w ts ty ⟨q, 0, none⟩ t.length c hc0
    have hl : ∀ j x, t[j]? = some x → w.drew.cell? (Addr.add ⟨q, 0, none⟩ j) = some (.int .u8 x.toNat) := by
      intro j x hx
      have hj : j < t.length := (List.getElem?_eq_some_iff.1 hx).1
      have e1 : (List.take (t.length * 1) cur.toList)[j]? = cur.toList[j]? := List.getElem?_take_of_lt (by omega)
      rw [h8] at e1
      have e2 : (Lib.byteCells t)[j]? = some (.int .u8 x.toNat) := by simp [Lib.byteCells, hx]
      rw [e2] at e1
      have e3 : cur[j]? = some (.int .u8 x.toNat) := by rw [← Array.getElem?_toList]; exact e1.symm
      have h4' : w.drew.heap[q]? = some (.cells cur 5) := h4
      rw [pl_add]
      simp [World.cell?, h4', e3]
    have r2 : (Builtin.unsafeString_ #[62, 3] 9 #[.pointer (some ⟨q, 0, none⟩), .int .i64 (t.length : Int)]).run Tryz.prog w.drew = .ok (.string ⟨t.toArray⟩) (w.drew.freeze ⟨q, 0, none⟩ t.length) :=
      Lib.run_unsafeString_row w.drew 62 3 9 5 Tryz.underlying62 (by kernel_rfl) q c (by have h4' : w.drew.heap[q]? = some (.cells cur 5) := h4; simp [World.shape?, h4', h7]) t ht h5 (by omega) hl
    have H3 := Lib.hid h3
    clear hl h h4 h8 h7
    go_enter Tryz.func28, Tryz.ntmps28
    go_wp2_with fail
    go_region
    go_wp2_with fail
    go_ret
    refine ⟨rfl, ?_⟩
    have hne : t.length ≠ 0 := fun e => ht (List.eq_nil_of_length_eq_zero e)
    have hq := H3.out
    simp only [World.freeze, if_neg hne]
    exact ⟨rfl, rfl, rfl, by simp, fun j hj => by simp [Array.getElem?_modify, show q ≠ j by omega]; rfl⟩
/-- What a call of a writer leaves. -/
def PQ (g B : Nat) (k : Int) (t : List UInt8) (w : World) (e : Ending) (w' : World) : Prop := e = .returned (.tuple #[]) ∧ (∃ p' v', Wr w' B g k t p' v') ∧ Below B w w' ∧ Kp g w w'
theorem Wr.alloc {w : World} {B g : Nat} {k : Int} {t : List UInt8} {p v : Value} (h : Wr w B g k t p v) (o : Obj) : Wr (w.alloc o) B g k t p v := by
  have hlt : g < w.heap.size := (Array.getElem?_eq_some_iff.1 h.h).1
  exact ⟨h.b, (Below.heap_alloc _ _ _ hlt).trans h.h, h.p, World.ownsRow.alloc h.o _, h.a⟩
theorem Wr.lt {w : World} {B g : Nat} {k : Int} {t : List UInt8} {p v : Value} (h : Wr w B g k t p v) : g < w.heap.size := (Array.getElem?_eq_some_iff.1 h.h).1
theorem Kp.alloc (g : Nat) (w : World) (o : Obj) : Kp g w (w.alloc o) := fun _ hq _ _ => Below.heap_alloc _ _ _ hq
theorem PQ.from {g B : Nat} {k : Int} {t : List UInt8} {w w1 w' : World} {e : Ending} (h : PQ g B k t w1 e w') (hb : Below B w w1) (hk : Kp g w w1) : PQ g B k t w e w' := ⟨h.1, h.2.1, hb.trans h.2.2.1, hk.trans hb.size h.2.2.2⟩
theorem tx_one (w : World) (s : ByteArray) : Tx (w.alloc (.cells #[.string s] 9)) w.heap.size [s] := by
  refine ⟨⟨_, _, show (w.heap.push _)[w.heap.size]? = _ from Array.getElem?_push_size⟩, fun i s' hs => ?_⟩
  have hi : i = 0 := by
    have := (List.getElem?_eq_some_iff.1 hs).1
    simp at this
    exact this
  subst hi
  simp at hs
  subst hs
  exact World.cell?_alloc_at _ _ _ _ rfl
set_option maxRecDepth 100000 in
theorem repeat0 (s : ByteArray) (w : World) : Calls Tryz.prog 73 #[.string s, .int .i64 0] w fun e w' => e = .returned (.string ⟨#[]⟩) ∧ w' = w := by
  go_enter Tryz.func73, Tryz.ntmps73
  go_wp2_with fail
  go_ret
  exact ⟨rfl, rfl⟩
theorem put1_wr {w : World} {B g : Nat} {k : Int} {t : List UInt8} {p v : Value} (h : Wr w B g k t p v) (s : ByteArray) (hn : t.length + s.size ≤ 140737488355328) (hB : B ≤ w.heap.size) :
    Calls Tryz.prog 72 #[.pointer (some ⟨g, 0, none⟩), .slice (some ⟨w.heap.size, 0, none⟩) 1 1] (w.alloc (.cells #[.string s] 9)) (PQ g B k (t ++ s.data.toList) w) := by
  have hc : catL [s] = s.data.toList := by simp [catL]
  have hl : s.data.toList.length = s.size := Array.length_toList
  refine (put_wr (h.alloc _) [s] (tx_one w s) (by have := h.lt; omega) (by rw [hc, hl]; exact hn) (by simp) (by simp; omega)).mono ?_
  rw [hc]
  rintro e w' hq
  exact PQ.from hq ((Below.refl _ w).alloc hB _) (Kp.alloc g w _)
set_option maxRecDepth 100000 in
theorem begin0 {w : World} {B g : Nat} {t : List UInt8} {p v : Value} (h : Wr w B g 0 t p v) (hn : t.length ≤ 140737488355328) (hB : B ≤ w.heap.size) :
    Calls Tryz.prog 41 #[.pointer (some ⟨g, 0, none⟩)] w (PQ g B 0 t w) := by
  have C1 := repeat0 ⟨#[32]⟩ w
  have C2 := put1_wr h ⟨#[]⟩ hn hB
  simp only [List.append_nil] at C2
  have c2 := h.c2
  clear h
  go_enter Tryz.func41, Tryz.ntmps41
  go_wp2_with fail
  refine C1.mono ?_
  rintro e w1 ⟨rfl, rfl⟩
  clear C1
  go_wp2_with fail
  refine C2.mono ?_
  rintro e w2 ⟨rfl, h2⟩
  have H2 := Lib.hid h2
  clear C2 h2
  go_wp2_with fail
  go_end0
  exact ⟨rfl, H2.out⟩
end Nd
end Go.Proofs.YtfcgogpnbmikmaaGreatDoor
