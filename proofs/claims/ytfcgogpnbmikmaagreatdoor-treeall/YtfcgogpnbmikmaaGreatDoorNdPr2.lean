/-
  Print: the document's example, whole.
-/
import Derived.Test.YtfcgogpnbmikmaaGreatDoorNdPr1
namespace Go.Proofs.YtfcgogpnbmikmaaGreatDoor
open Go.RowKit Go.WideShapes
namespace Nd
open Lx

set_option maxRecDepth 100000 in
theorem alone3 {w : World} {B g b : Nat} {k : Int} {t : List UInt8} {p v : Value} (h : Wr w B g k t p v) (xs : ByteArray) (hA : At w b 0 ⟨31, 0, xs, false, .slice none 0 0, .slice none 0 0⟩) (hn : t.length + xs.size ≤ 140737488355328) (hB : B ≤ w.heap.size) :
    Calls Tryz.prog 123 #[.pointer (some ⟨g, 0, none⟩), .agg #[.int .i64 3, .int .i64 0, .string ⟨#[]⟩, .bool false, .slice none 0 0, .slice (some ⟨b, 0, none⟩) 1 1]] w (PQ g B k (t ++ xs.data.toList) w) := by
  obtain ⟨W, hW⟩ : ∃ W, w.alloc (.cells #[.int .i64 3, .int .i64 0, .string ⟨#[]⟩, .bool false, .slice none 0 0, .slice (some ⟨b, 0, none⟩) 1 1] 27) = W := ⟨_, rfl⟩
  have hbW : Below B w W := by rw [← hW]; exact (Below.refl _ w).alloc hB _
  have hKW : Kp g w W := by rw [← hW]; exact Kp.alloc g w _
  have hx : W.cell? ⟨w.heap.size, 5, none⟩ = some (.slice (some ⟨b, 0, none⟩) 1 1) := by rw [← hW]; exact World.cell?_alloc_at _ _ _ _ rfl
  have hA2 := hA.same (w' := W) (by rw [← hW]; exact Below.heap_alloc _ _ _ hA.lt)
  have C2 := part31 (w := W) (by rw [← hW]; exact h.alloc _) 0 xs hn (by have := hbW.size; omega)
  obtain ⟨x0, x1, x2, x3, x4, x5⟩ := hA2
  simp only [Nat.zero_add] at x1 x2 x3 x4 x5
  have HBW := Lib.hid hbW
  have HKW := Lib.hid hKW
  clear hbW hKW h hB hA
  go_enter Tryz.func123, Tryz.ntmps123
  go_wp2_with fail
  refine C2.mono ?_
  rintro e w2 h2
  have H2 := Lib.hid (PQ.from h2 HBW.out HKW.out)
  obtain ⟨rfl, _⟩ := h2
  clear C2
  go_wp2_with fail
  go_end0
  exact H2.out
set_option maxRecDepth 100000 in
set_option maxHeartbeats 4000000 in
theorem statement3 {w : World} {B g b : Nat} {k : Int} {t : List UInt8} {p v : Value} (h : Wr w B g k t p v) (xs : ByteArray) (hA : At w b 0 ⟨31, 0, xs, false, .slice none 0 0, .slice none 0 0⟩) (hn : t.length + xs.size + 1 ≤ 140737488355328) (hB : B ≤ w.heap.size) :
    Calls Tryz.prog 42 #[.pointer (some ⟨g, 0, none⟩), .agg #[.int .i64 3, .int .i64 0, .string ⟨#[]⟩, .bool false, .slice none 0 0, .slice (some ⟨b, 0, none⟩) 1 1]] w (PQ g B k (t ++ xs.data.toList ++ [10]) w) := by
  obtain ⟨W, hW⟩ : ∃ W, w.alloc (.cells #[.int .i64 3, .int .i64 0, .string ⟨#[]⟩, .bool false, .slice none 0 0, .slice (some ⟨b, 0, none⟩) 1 1] 27) = W := ⟨_, rfl⟩
  have hbW : Below B w W := by rw [← hW]; exact (Below.refl _ w).alloc hB _
  have hKW : Kp g w W := by rw [← hW]; exact Kp.alloc g w _
  have hx : At W w.heap.size 0 ⟨3, 0, ⟨#[]⟩, false, .slice none 0 0, .slice (some ⟨b, 0, none⟩) 1 1⟩ := by rw [← hW]; exact ⟨World.cell?_alloc_at _ _ _ _ rfl, World.cell?_alloc_at _ _ _ _ rfl, World.cell?_alloc_at _ _ _ _ rfl, World.cell?_alloc_at _ _ _ _ rfl, World.cell?_alloc_at _ _ _ _ rfl, World.cell?_alloc_at _ _ _ _ rfl⟩
  have hA2 := hA.same (w' := W.drew) (by rw [← hW]; exact Below.heap_alloc _ _ _ hA.lt)
  have hfn : ∀ wx, (binOp .neq 45 .nilFunc .nilFunc).run Tryz.prog wx = .ok (.bool false) wx := fun _ => by kernel_rfl
  have C0 := compound3 g W
  have C1 := fun V => simple3 g V
  have hBW : B ≤ W.heap.size := by have := hbW.size; omega
  have C2 := alone3 (w := W.drew) (by rw [← hW]; exact (h.alloc _).drew) xs hA2 (by omega) hBW
  have eg := eg_alone
  obtain ⟨x0, x1, x2, x3, x4, x5⟩ := hx
  simp only [Nat.zero_add] at x1 x2 x3 x4 x5
  have HBW := Lib.hid hbW.drew
  have HKW := Lib.hid hKW
  have HB0 := Lib.hid hB
  have HN := Lib.hid hn
  clear hbW hKW h hB hA hA2 hBW hn
  go_enter Tryz.func42, Tryz.ntmps42
  go_wp2_with fail
  refine C0.mono ?_
  rintro e w1 ⟨rfl, rfl⟩
  clear C0
  go_wp2_with fail
  go_region_with (first
    | (refine (C1 _).mono ?_; rintro e w1 ⟨rfl, rfl⟩)
    | (refine C2.mono ?_; rintro e w2 h2; have H2 := Lib.hid (PQ.from h2 HBW.out HKW.out); obtain ⟨rfl, _⟩ := h2)
    | fail)
  all_goals
    obtain ⟨_, ⟨p', v', hw2⟩, hb2, hk2⟩ := H2.out
    have C3 := put1_wr hw2 ⟨#[10]⟩ (by rw [List.length_append, Array.length_toList]; have := HN.out; show _ + xs.size + 1 ≤ _; omega) (by have := HB0.out; have := hb2.size; omega)
    have HB2 := Lib.hid hb2
    have HK2 := Lib.hid hk2
    clear hw2 hb2 hk2 C1 C2
    go_wp2_with fail
    refine C3.mono ?_
    rintro e w3 h3
    have H3 := Lib.hid (PQ.from h3 HB2.out HK2.out)
    obtain ⟨rfl, _⟩ := h3
    clear C3
    go_wp2_with fail
    go_end0
    first | exact H3.out | (rw [← List.append_assoc]; exact H3.out)
set_option maxRecDepth 100000 in
theorem block2 {w : World} {B g b b' : Nat} {t : List UInt8} {p v : Value} (h : Wr w B g 0 t p v) (xs : ByteArray) (hb : b < B) (hb' : b' < B) (hA' : At w b' 0 ⟨3, 0, ⟨#[]⟩, false, .slice none 0 0, .slice (some ⟨b, 0, none⟩) 1 1⟩) (hA : At w b 0 ⟨31, 0, xs, false, .slice none 0 0, .slice none 0 0⟩) (hn : t.length + xs.size + 1 ≤ 140737488355328) (hB : B ≤ w.heap.size) :
    Calls Tryz.prog 27 #[.pointer (some ⟨g, 0, none⟩), .agg #[.int .i64 2, .int .i64 0, .string ⟨#[]⟩, .bool false, .slice none 0 0, .slice (some ⟨b', 0, none⟩) 1 1]] w (PQ g B 0 (t ++ (xs.data.toList ++ [10])) w) := by
  obtain ⟨W, hW⟩ : ∃ W, w.alloc (.cells #[.int .i64 2, .int .i64 0, .string ⟨#[]⟩, .bool false, .slice none 0 0, .slice (some ⟨b', 0, none⟩) 1 1] 27) = W := ⟨_, rfl⟩
  have hbW : Below B w W := by rw [← hW]; exact (Below.refl _ w).alloc hB _
  have hKW : Kp g w W := by rw [← hW]; exact Kp.alloc g w _
  have hx : W.cell? ⟨w.heap.size, 5, none⟩ = some (.slice (some ⟨b', 0, none⟩) 1 1) := by rw [← hW]; exact World.cell?_alloc_at _ _ _ _ rfl
  have hBW : B ≤ W.heap.size := by have := hbW.size; omega
  have hwW : Wr W B g 0 t p v := by rw [← hW]; exact h.alloc _
  have hA2 := hA'.same (hbW.block b' hb')
  have hA1 := hA.same (hbW.block b hb)
  obtain ⟨x0, x1, x2, x3, x4, x5⟩ := hA2
  simp only [Nat.zero_add] at x1 x2 x3 x4 x5
  have HBW := Lib.hid hbW
  have HKW := Lib.hid hKW
  have HWW := Lib.hid hwW
  have HA1 := Lib.hid hA1
  have HBB := Lib.hid hBW
  have HN := Lib.hid hn
  have Hb := Lib.hid hb
  clear hbW hKW h hB hA hA' hBW hn hA1 hwW hb hb'
  go_enter Tryz.func27, Tryz.ntmps27
  go_wp2_with fail
  go_loopg [9] 1 (fun gk v9 wr => (v9 = .int .i64 0 ∧ gk = 1 ∧ wr = W) ∨ (v9 = .int .i64 1 ∧ gk = 0 ∧ PQ g B 0 (t ++ (xs.data.toList ++ [10])) w (.returned (.tuple #[])) wr))
  case atStart => exact Or.inl ⟨rfl, rfl, rfl⟩
  case round =>
    rcases hrel with ⟨rfl, hg, rfl⟩ | ⟨rfl, hg, hq⟩
    · obtain ⟨V, hV⟩ : ∃ V, wr.alloc (.cells #[.int .i64 3, .int .i64 0, .string ⟨#[]⟩, .bool false, .slice none 0 0, .slice (some ⟨b, 0, none⟩) 1 1] 27) = V := ⟨_, rfl⟩
      have hbV : Below B wr V := by rw [← hV]; exact (Below.refl _ wr).alloc HBB.out _
      have hKV : Kp g wr V := by rw [← hV]; exact Kp.alloc g wr _
      have C1 := begin0 (w := V) (by rw [← hV]; exact HWW.out.alloc _) (by have := HN.out; omega) (by have := HBB.out; have := hbV.size; omega)
      have HBV := Lib.hid hbV
      have HKV := Lib.hid hKV
      clear hbV hKV
      go_wp2_with fail
      refine C1.mono ?_
      rintro e w2 ⟨rfl, ⟨p2, v2, h2⟩, hb2, hk2⟩
      have eV : V.heap[wr.heap.size]? = some (.cells #[.int .i64 3, .int .i64 0, .string ⟨#[]⟩, .bool false, .slice none 0 0, .slice (some ⟨b, 0, none⟩) 1 1] 27) := by rw [← hV]; exact (show (wr.heap.push _)[wr.heap.size]? = _ from Array.getElem?_push_size)
      have sV : V.heap.size = wr.heap.size + 1 := by rw [← hV]; simp
      have e2 := hk2 wr.heap.size (by omega) (by have := HWW.out.lt; omega) (fun c z => by rw [eV]; simp)
      have hY : At w2 wr.heap.size 0 ⟨3, 0, ⟨#[]⟩, false, .slice none 0 0, .slice (some ⟨b, 0, none⟩) 1 1⟩ := by
        have e3 := e2.trans eV
        constructor <;> simp [World.cell?, e3]
      have hB2 : Below B wr w2 := HBV.out.trans hb2
      have hK2 : Kp g wr w2 := HKV.out.trans HBV.out.size hk2
      have C2 := statement3 h2 xs (HA1.out.same (hB2.block b Hb.out)) HN.out (by have := HBB.out; have := hB2.size; omega)
      obtain ⟨y0, y1, y2, y3, y4, y5⟩ := hY
      simp only [Nat.zero_add] at y1 y2 y3 y4 y5
      have HB2 := Lib.hid (HBW.out.trans hB2)
      have HK2 := Lib.hid (HKW.out.trans HBW.out.size hK2)
      clear C1 h2 hb2 hk2 eV sV e2 hB2 hK2 x0 x1 x2 x3 x4 x5
      go_wp2_with fail
      refine C2.mono ?_
      rintro e w3 h3
      have H3 := Lib.hid (PQ.from h3 HB2.out HK2.out)
      obtain ⟨rfl, _⟩ := h3
      clear C2
      go_wp2_with fail
      go_roundg 0
      case measure => omega
      case rel => exact Or.inr ⟨rfl, rfl, by first | exact H3.out | (rw [← List.append_assoc]; exact H3.out)⟩
    · have HQ := Lib.hid hq
      clear hq
      go_wp2_with fail
      go_end0
      exact HQ.out
set_option maxRecDepth 100000 in
theorem print_ex {w : World} {x1 x2 x3 x4 : Nv} (h : Ex4 w x1 x2 x3 x4) : Calls Tryz.prog 12 #[x1.v] w fun e w' => e = .returned (.string ⟨#[97, 10]⟩) ∧ Below w.heap.size w w' := by
  obtain ⟨W, hW⟩ : ∃ W, w.alloc (.cells #[.int .i64 x1.k, .int .i64 x1.a, .string x1.s, .bool x1.neg, x1.mv, x1.kv] 27) = W := ⟨_, rfl⟩
  have hbW : Below w.heap.size w W := by rw [← hW]; exact (Below.refl _ w).alloc (Nat.le_refl _) _
  have hx : At W w.heap.size 0 x1 := by rw [← hW]; exact ⟨World.cell?_alloc_at _ _ _ _ rfl, World.cell?_alloc_at _ _ _ _ rfl, World.cell?_alloc_at _ _ _ _ rfl, World.cell?_alloc_at _ _ _ _ rfl, World.cell?_alloc_at _ _ _ _ rfl, World.cell?_alloc_at _ _ _ _ rfl⟩
  have hsW : W.heap.size = w.heap.size + 1 := by rw [← hW]; simp
  have hE := h.below hbW
  have C1 := check_ex hE
  obtain ⟨e4, ⟨b3, e3, h3⟩, ⟨b2, e2, h2⟩, ⟨b1, e1, h1⟩⟩ := hE
  subst e1
  simp only [Nv.v] at C1 hW hx ⊢
  obtain ⟨y0, y1, y2, y3, y4, y5⟩ := hx
  simp only [Nat.zero_add] at y0 y1 y2 y3 y4 y5
  have H1 := Lib.hid h1
  have H2 := Lib.hid h2
  have H3 := Lib.hid h3
  have HBW := Lib.hid hbW
  clear h h1 h2 h3 hbW
  go_enter Tryz.func12, Tryz.ntmps12
  go_wp2_with fail
  refine C1.mono ?_
  rintro e w2 ⟨rfl, hb2⟩
  have z0 := cell_keep y0 hb2
  have z5 := cell_keep y5 hb2
  obtain ⟨V, hV⟩ : ∃ V, w2.alloc (.cells #[.pointer none, .slice none 0 0, .int .i64 0] 54) = V := ⟨_, rfl⟩
  have hbV : Below w2.heap.size w2 V := by rw [← hV]; exact (Below.refl _ w2).alloc (Nat.le_refl _) _
  have hWV : Below W.heap.size W V := hb2.trans (hbV.mono hb2.size)
  have hwr : Wr V w2.heap.size w2.heap.size 0 [] (.pointer none) (.slice none 0 0) := by
    refine ⟨Nat.le_refl _, ?_, Or.inl rfl, World.ownsRow_nil _ _ _ _, by simp [Value.ownBlock]⟩
    rw [← hV]
    exact (show (w2.heap.push _)[w2.heap.size]? = _ from Array.getElem?_push_size)
  have q1 := H1.out.same (hWV.block b1 H1.out.lt)
  have q2 := H2.out.same (hWV.block b2 H2.out.lt)
  have q3 := H3.out.same (hWV.block b3 H3.out.lt)
  have v5 := cell_keep z5 hbV
  have hs := hb2.size
  subst e4
  subst e3
  subst e2
  have C2 := block2 hwr ⟨#[97]⟩ (b := b3) (b' := b2) (by have := H3.out.lt; omega) (by have := H2.out.lt; omega) q2 q3 (by simp [ByteArray.size]) hbV.size
  obtain ⟨u0, u1, u2, u3, u4, u5⟩ := q1
  simp only [Nat.zero_add] at u1 u2 u3 u4 u5
  have HWV := Lib.hid (HBW.out.trans (hWV.mono HBW.out.size))
  have HBS := Lib.hid (show w.heap.size ≤ w2.heap.size by omega)
  clear C1 hb2 y0 y1 y2 y3 y4 y5 q2 q3 hbV hWV hwr hs
  go_wp2_with fail
  refine C2.mono ?_
  rintro e w3 ⟨rfl, ⟨p3, v3, h3⟩, hb3, hk3⟩
  have C3 := string_wr h3 (by simp) (by simp)
  have HB3 := Lib.hid hb3
  clear C2 h3 hb3 hk3
  go_wp2_with fail
  refine C3.mono ?_
  rintro e w4 ⟨rfl, hb4⟩
  have HB4 := Lib.hid hb4
  clear C3 hb4
  go_wp2_with fail
  go_ret
  exact ⟨rfl, HWV.out.trans ((HB3.out.trans HB4.out).mono HBS.out)⟩
end Nd
end Go.Proofs.YtfcgogpnbmikmaaGreatDoor
