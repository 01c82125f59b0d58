/-
  Print: the document's example.
-/
import Derived.Test.YtfcgogpnbmikmaaGreatDoorNdPr0
namespace Go.Proofs.YtfcgogpnbmikmaaGreatDoor
open Go.RowKit Go.WideShapes
namespace Nd
open Lx

theorem eg_named : ∀ args w, (callFunc 177 args).run Tryz.prog w = .ok (.enter 177 args) w := fun args w => by simp [go_sem]
theorem eg_alone : ∀ args w, (callFunc 123 args).run Tryz.prog w = .ok (.enter 123 args) w := fun args w => by simp [go_sem]
set_option maxRecDepth 100000 in
theorem named_wr {w : World} {B g : Nat} {k : Int} {t : List UInt8} {p v : Value} (h : Wr w B g k t p v) (x : Nv) (hx : ∃ a n c b m d, x.mv = .slice a n c ∧ x.kv = .slice b m d) (hn : t.length + x.s.size ≤ 140737488355328) (hB : B ≤ w.heap.size) :
    Calls Tryz.prog 177 #[.pointer (some ⟨g, 0, none⟩), x.v] w (PQ g B k (t ++ x.s.data.toList) w) := by
  obtain ⟨xk, xa, xs, xn, xm, xkv⟩ := x
  obtain ⟨ma, mn, mc, ka, kn, kc, hm, hk⟩ := hx
  simp only at hm hk hn
  subst hm
  subst hk
  simp only [Nv.v]
  obtain ⟨W, hW⟩ : ∃ W, w.alloc (.cells #[.int .i64 xk, .int .i64 xa, .string xs, .bool xn, .slice ma mn mc, .slice ka kn kc] 27) = W := ⟨_, rfl⟩
  have hbW : Below B w W := by rw [← hW]; exact (Below.refl _ w).alloc hB _
  have hKW : Kp g w W := by rw [← hW]; exact Kp.alloc g w _
  have hs : W.cell? ⟨w.heap.size, 2, none⟩ = some (.string xs) := by rw [← hW]; exact World.cell?_alloc_at _ _ _ _ rfl
  have C := put1_wr (w := W) (by rw [← hW]; exact h.alloc _) xs hn (by have := hbW.size; omega)
  have HBW := Lib.hid hbW
  have HKW := Lib.hid hKW
  clear hbW hKW h hB
  go_enter Tryz.func177, Tryz.ntmps177
  go_wp2_with fail
  refine C.mono ?_
  rintro e w2 h2
  have H2 := Lib.hid (PQ.from h2 HBW.out HKW.out)
  obtain ⟨rfl, _⟩ := h2
  clear C
  go_wp2_with fail
  go_end0
  exact H2.out
set_option maxRecDepth 100000 in
set_option maxHeartbeats 4000000 in
theorem former31 (g : Nat) (w : World) : Calls Tryz.prog 157 #[.pointer (some ⟨g, 0, none⟩), .int .i64 31] w fun e w' => e = .returned (.func (.func 177) #[.pointer (some ⟨g, 0, none⟩)] #[]) ∧ w' = w := by
  go_enter Tryz.func157, Tryz.ntmps157
  go_wp2_with fail
  go_ret
  exact ⟨rfl, rfl⟩
set_option maxRecDepth 100000 in
set_option maxHeartbeats 4000000 in
theorem simple3 (g : Nat) (w : World) : Calls Tryz.prog 75 #[.pointer (some ⟨g, 0, none⟩), .int .i64 3] w fun e w' => e = .returned (.func (.func 123) #[.pointer (some ⟨g, 0, none⟩)] #[]) ∧ w' = w := by
  go_enter Tryz.func75, Tryz.ntmps75
  go_wp2_with fail
  go_ret
  exact ⟨rfl, rfl⟩
set_option maxRecDepth 100000 in
theorem compound3 (g : Nat) (w : World) : Calls Tryz.prog 74 #[.pointer (some ⟨g, 0, none⟩), .int .i64 3] w fun e w' => e = .returned .nilFunc ∧ w' = w := by
  go_enter Tryz.func74, Tryz.ntmps74
  go_wp2_with fail
  go_ret
  exact ⟨rfl, rfl⟩
theorem Wr.drew {w : World} {B g : Nat} {k : Int} {t : List UInt8} {p v : Value} (h : Wr w B g k t p v) : Wr w.drew B g k t p v := ⟨h.b, h.h, h.p, h.o, h.a⟩
set_option maxRecDepth 100000 in
theorem part31 {w : World} {B g : Nat} {k : Int} {t : List UInt8} {p v : Value} (h : Wr w B g k t p v) (xa : Int) (xs : ByteArray) (hn : t.length + xs.size ≤ 140737488355328) (hB : B ≤ w.heap.size) :
    Calls Tryz.prog 143 #[.pointer (some ⟨g, 0, none⟩), .agg #[.int .i64 31, .int .i64 xa, .string xs, .bool false, .slice none 0 0, .slice none 0 0]] w (PQ g B k (t ++ xs.data.toList) w) := by
  obtain ⟨W, hW⟩ : ∃ W, w.alloc (.cells #[.int .i64 31, .int .i64 xa, .string xs, .bool false, .slice none 0 0, .slice none 0 0] 27) = W := ⟨_, rfl⟩
  have hbW : Below B w W := by rw [← hW]; exact (Below.refl _ w).alloc hB _
  have hKW : Kp g w W := by rw [← hW]; exact Kp.alloc g w _
  have hx : At W w.heap.size 0 ⟨31, xa, xs, false, .slice none 0 0, .slice none 0 0⟩ := by rw [← hW]; exact ⟨World.cell?_alloc_at _ _ _ _ rfl, World.cell?_alloc_at _ _ _ _ rfl, World.cell?_alloc_at _ _ _ _ rfl, World.cell?_alloc_at _ _ _ _ rfl, World.cell?_alloc_at _ _ _ _ rfl, World.cell?_alloc_at _ _ _ _ rfl⟩
  have C1 := fun V => former31 g V
  have C2 := named_wr (w := W.drew) (by rw [← hW]; exact (h.alloc _).drew) ⟨31, xa, xs, false, .slice none 0 0, .slice none 0 0⟩ ⟨_, _, _, _, _, _, rfl, rfl⟩ hn (by have := hbW.size; show B ≤ W.heap.size; omega)
  simp only [Nv.v] at C2
  have eg := eg_named
  obtain ⟨x0, x1, x2, x3, x4, x5⟩ := hx
  simp only [Nat.zero_add] at x1 x2 x3 x4 x5
  have HBW := Lib.hid hbW.drew
  have HKW := Lib.hid hKW
  clear hbW hKW h hB
  go_enter Tryz.func143, Tryz.ntmps143
  go_wp2_with fail
  go_region_with (first
    | (refine (C1 _).mono ?_; rintro e w1 ⟨rfl, rfl⟩)
    | (refine C2.mono ?_; rintro e w2 h2; have H2 := Lib.hid (PQ.from h2 HBW.out HKW.out); obtain ⟨rfl, _⟩ := h2)
    | fail)
  all_goals
    go_wp2_with fail
    go_end0
    exact H2.out
end Nd
end Go.Proofs.YtfcgogpnbmikmaaGreatDoor
