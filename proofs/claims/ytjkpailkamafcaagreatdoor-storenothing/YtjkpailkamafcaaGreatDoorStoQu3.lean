/-
  letters.Quote of one letter; strconv.Itoa of 1.
-/
import Derived.Test.YtjkpailkamafcaaGreatDoorStoQu2
namespace Go.Proofs.YtjkpailkamafcaaGreatDoor
open Go.RowKit Go.WideShapes

namespace Sto
set_option maxRecDepth 100000 in
theorem string_bd {w : World} {B g : Nat} {t : List UInt8} {p v : Value} (h : Bd w B g t p v) (ht : t ≠ []) (hn : t.length ≤ 140737488355328) :
    Calls Tryz.prog 50 #[.pointer (some ⟨g, 0, none⟩)] w fun e w' => e = .returned (.string ⟨t.toArray⟩) ∧ Below B w w' := by
  have c1 := h.c1
  obtain ⟨_, h2 | ⟨q, c, cur, rfl, h3, h4, h5, h6, h7, h8⟩⟩ := h.o
  · exact absurd (List.eq_nil_of_length_eq_zero h2.2) ht
  · have hc0 : c ≠ 0 := by have := List.length_pos_iff.2 ht; omega
    have r1 : ∀ (w : World) (ts : Array TypeId) (ty : TypeId), (Builtin.unsafeSliceData_ ts ty #[.slice (some ⟨q, 0, none⟩) t.length c]).run Tryz.prog w = .ok (.pointer (some ⟨q, 0, none⟩)) w := fun w ts ty => Lib.run_unsafeSliceData_row w ts ty ⟨q, 0, none⟩ t.length c hc0
    have hl : ∀ j x, t[j]? = some x → w.drew.cell? (Addr.add ⟨q, 0, none⟩ j) = some (.int .u8 x.toNat) := by
      intro j x hx
      have hj : j < t.length := (List.getElem?_eq_some_iff.1 hx).1
      have e1 : (List.take (t.length * 1) cur.toList)[j]? = cur.toList[j]? := List.getElem?_take_of_lt (by omega)
      rw [h8] at e1
      have e2 : (Lib.byteCells t)[j]? = some (.int .u8 x.toNat) := by simp [Lib.byteCells, hx]
      rw [e2] at e1
      have e3 : cur[j]? = some (.int .u8 x.toNat) := by rw [← Array.getElem?_toList]; exact e1.symm
      have h4' : w.drew.heap[q]? = some (.cells cur 5) := h4
      rw [WideShapes.add_plain]
      simp [World.cell?, h4', e3]
    have r2 : (Builtin.unsafeString_ #[211, 3] 9 #[.pointer (some ⟨q, 0, none⟩), .int .i64 (t.length : Int)]).run Tryz.prog w.drew = .ok (.string ⟨t.toArray⟩) (w.drew.freeze ⟨q, 0, none⟩ t.length) :=
      Lib.run_unsafeString_row w.drew 211 3 9 5 Tryz.underlying211 (by kernel_rfl) q c (by have h4' : w.drew.heap[q]? = some (.cells cur 5) := h4; simp [World.shape?, h4', h7]) t ht h5 (by omega) hl
    have H3 := Lib.hid h3
    clear hl h h4 h8 h7
    go_enter Tryz.func50, Tryz.ntmps50
    go_wp2_with fail
    go_region
    go_wp2_with fail
    go_ret
    refine ⟨rfl, ?_⟩
    have hne : t.length ≠ 0 := fun e => ht (List.eq_nil_of_length_eq_zero e)
    have hq := H3.out
    simp only [World.freeze, if_neg hne]
    exact ⟨rfl, rfl, rfl, by simp, fun j hj => by simp [Array.getElem?_modify, show q ≠ j by omega]; rfl⟩
theorem Bd.keep {w w' : World} {B g : Nat} {t : List UInt8} {p v : Value} (h : Bd w B g t p v) (hb : Below w.heap.size w w') : Bd w' B g t p v :=
  ⟨h.b, (hb.block g h.lt).trans h.h, h.p, ownsS_same h.o (fun k hk => hb.block k (World.ownsRow.lt h.o k hk).2), h.a⟩
set_option maxRecDepth 100000 in
set_option maxHeartbeats 1600000 in
theorem quoteA (w : World) : Calls Tryz.prog 27 #[.string ⟨#[97]⟩] w fun e w' => e = .returned (.string ⟨#[39, 97, 39]⟩) ∧ Below w.heap.size w w' := by
  have hbk : (w.alloc (.cells #[.pointer none, .slice none 0 0] 159)).heap[w.heap.size]? = some (.cells #[.pointer none, .slice none 0 0] 159) := (show (w.heap.push _)[w.heap.size]? = _ from Array.getElem?_push_size)
  have C1 := Grow_bd (B := w.heap.size) hbk (Nat.le_refl _) (by simp)
  have hb0 : Below w.heap.size w (w.alloc (.cells #[.pointer none, .slice none 0 0] 159)) := (Below.refl _ w).alloc (Nat.le_refl _) _
  have HB0 := Lib.hid hb0
  clear hbk hb0
  go_enter Tryz.func27, Tryz.ntmps27
  go_wp2_with fail
  refine C1.mono ?_
  rintro e w2 ⟨rfl, ⟨p2, v2, h2⟩, hb2⟩
  clear C1
  have hB2 : Below w.heap.size w w2 := HB0.out.trans hb2
  have C2 : Calls Tryz.prog 48 #[.pointer (some ⟨w.heap.size, 0, none⟩), .int .u8 39] w2 fun e w' => e = .returned .nilIface ∧ (∃ p' v', Bd w' w.heap.size w.heap.size [39] p' v') ∧ Below w.heap.size w2 w' := writeByte_bd h2 39 (by simp) hB2.size
  have HB2 := Lib.hid hB2
  clear h2 hb2 hB2
  go_wp2_with fail
  refine C2.mono ?_
  rintro e w3 ⟨rfl, ⟨p3, v3, h3⟩, hb3⟩
  clear C2
  have HB3 := Lib.hid (HB2.out.trans hb3)
  have H3 := Lib.hid h3
  clear h3 hb3
  obtain ⟨K, hK⟩ : ∃ K, w3.heap.size = K := ⟨_, rfl⟩
  have HKs : Hid (w.heap.size < K) := by rw [← hK]; exact H3.out.lt
  go_wp2
  go_loopg [5] 1 (fun gk _ wr => (gk = 1 ∧ wr.heap[K]? = some (.stringIter ⟨#[97]⟩ 0) ∧ (∃ p v, Bd wr w.heap.size w.heap.size [39] p v ∧ v.ownBlock ≠ some K) ∨ gk = 0 ∧ wr.heap[K]? = some (.stringIter ⟨#[97]⟩ 1) ∧ (∃ p v, Bd wr w.heap.size w.heap.size [39, 97] p v)) ∧ Below w.heap.size w wr)
  case atStart =>
    refine ⟨Or.inl ⟨rfl, ?_, _, _, H3.out.keep ((Below.refl _ _).alloc (Nat.le_refl _) _), fun e => by have := (World.ownsRow.lt H3.out.o K e).2; omega⟩, HB3.out.alloc HB3.out.size _⟩
    rw [← hK]
    exact World.iter_heap w3 _ 0
  case round =>
    obtain ⟨⟨rfl, hit, p4, v4, h4, hvK⟩ | ⟨rfl, hit, p4, v4, h4⟩, hb4⟩ := hrel
    · have hd : Utf8.decode ⟨#[97]⟩ 0 = (97, 1) := by decide
      have hnx : ∀ ty, (Instr.next (.pointer (some ⟨K, 0, none⟩)) true ty).run Tryz.prog wr = _ := fun ty => Lib.run_next_any_at wr K ⟨#[97]⟩ 0 ty hit (by decide)
      rw [hd] at hnx
      have hlK : K < wr.heap.size := (Array.getElem?_eq_some_iff.1 hit).1
      have hit1 := Lib.iterAt_heap wr K ⟨#[97]⟩ 0 1 hit
      have hb1 := Lib.below_iterAt hb4 (k := K) (Nat.le_of_lt HKs.out) ⟨#[97]⟩ 1
      have h1 : Bd (wr.iterAt K ⟨#[97]⟩ 1) w.heap.size w.heap.size [39] p4 v4 := by
        have ho : ∀ q, q ≠ K → (wr.iterAt K ⟨#[97]⟩ 1).heap[q]? = wr.heap[q]? := fun q hq => by simp [World.iterAt, Ne.symm hq]
        exact ⟨h4.b, (ho _ (by have := HKs.out; omega)).trans h4.h, h4.p, ownsS_same h4.o (fun q hq => ho q (fun e => hvK (by rw [hq, e]))), h4.a⟩
      have hnx1 : ∀ ty, (Instr.next (.pointer (some ⟨K, 0, none⟩)) true ty).run Tryz.prog wr = .ok (.tuple #[.bool true, .int .i64 0, .int .i32 97]) (wr.iterAt K ⟨#[97]⟩ 1) := hnx
      obtain ⟨W, hW⟩ : ∃ W, wr.iterAt K ⟨#[97]⟩ 1 = W := ⟨_, rfl⟩
      rw [hW] at hit1 hb1 h1 hnx1
      have C3 := quotedA h1 (by simp) hb1.size
      have HB1 := Lib.hid hb1
      have HIT := Lib.hid hit1
      have HVK := Lib.hid hvK
      clear hit hnx h4 hb4 hvK hW h1 hb1 hit1
      go_wp2_with fail
      refine C3.mono ?_
      rintro e w5 ⟨rfl, ⟨p5, v5, h5⟩, hb5, hx5⟩
      clear C3
      have hit5 : w5.heap[K]? = some (.stringIter ⟨#[97]⟩ 1) := (hx5.block K (Array.getElem?_eq_some_iff.1 HIT.out).1 (fun hk => by
        rcases hk with e | e
        · have := HKs.out; omega
        · exact HVK.out e)).trans HIT.out
      have H5 := Lib.hid h5
      have HI5 := Lib.hid hit5
      have HB5 := Lib.hid (HB1.out.trans hb5)
      clear h5 hit5 hb5 hx5
      go_wp2_with fail
      go_roundg 0
      case measure => omega
      case rel => exact ⟨Or.inr ⟨rfl, HI5.out, _, _, H5.out⟩, HB5.out⟩
    · have hnx : ∀ ty, (Instr.next (.pointer (some ⟨K, 0, none⟩)) true ty).run Tryz.prog wr = _ := fun ty => Lib.run_next_end_at wr K ⟨#[97]⟩ 1 ty hit (by decide)
      have C4 : Calls Tryz.prog 48 #[.pointer (some ⟨w.heap.size, 0, none⟩), .int .u8 39] wr fun e w' => e = .returned .nilIface ∧ (∃ p' v', Bd w' w.heap.size w.heap.size [39, 97, 39] p' v') ∧ Below w.heap.size wr w' := writeByte_bd h4 39 (by simp) hb4.size
      have HB4 := Lib.hid hb4
      clear h4 hb4 hit
      go_wp2_with fail
      refine C4.mono ?_
      rintro e w5 ⟨rfl, ⟨p5, v5, h5⟩, hb5⟩
      clear C4
      have C5 := string_bd h5 (by simp) (by simp)
      have HB5 := Lib.hid (HB4.out.trans hb5)
      clear h5 hb5
      go_wp2_with fail
      refine C5.mono ?_
      rintro e w6 ⟨rfl, hb6⟩
      clear C5
      have HB6 := Lib.hid (HB5.out.trans hb6)
      clear hb6
      go_wp2_with fail
      go_ret
      exact ⟨rfl, HB6.out⟩
end Sto
end Go.Proofs.YtjkpailkamafcaaGreatDoor
