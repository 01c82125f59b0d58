/-
  awake: a builder builds its two terms.
-/
import Derived.Test.YtjkpailkamafcaaGreatDoorStoFi
namespace Go.Proofs.YtjkpailkamafcaaGreatDoor
open Go.RowKit Go.WideShapes

namespace Sto
/-- What build leaves. -/
def BuP (w : World) (b g T K : Nat) (p h : Int) (pm : Option Addr) (e : Ending) (w' : World) : Prop := ∃ r c q t m rv, e = .returned (.slice (some ⟨r, 0, none⟩) 2 c) ∧ B2 w' b g T K r c q t m rv p h pm ∧ Ex (XB b g) w w'
set_option maxRecDepth 100000 in
set_option maxHeartbeats 1600000 in
theorem build_any {w : World} {b g T K Hm : Nat} {p h : Int} {pm : Option Addr} (hb : Blk w b 4 (bF g T Hm (.slice none 0 0))) (ht : Blk w T 16 (tF K)) (hk : Blk w K 2 (fun _ => .int .i64 0)) (H : St w g [] (.slice none 0 0) none 0 p h pm) (ne : b ≠ g ∧ T ≠ g ∧ K ≠ g ∧ T ≠ b ∧ K ≠ b) :
    Calls Tryz.prog 20 #[.pointer (some ⟨b, 0, none⟩)] w (BuP w b g T K p h pm) := by
  have b1 : w.cell? ⟨b, 1, none⟩ = some (.slice (some ⟨T, 0, none⟩) 2 2) := hb.c 1 (by omega)
  have lb := hb.lt (by omega)
  have HBB := Lib.hid hb
  have HT := Lib.hid ht
  have HK := Lib.hid hk
  have HS := Lib.hid H
  have HN := Lib.hid ne
  clear hb ht hk H ne
  go_enter Tryz.func20, Tryz.ntmps20
  go_wp2_with fail
  go_loopg [10] 2 (fun gk v10 wr => (gk = 2 ∧ v10 = .int .i64 0 ∧ wr = w ∨ gk = 1 ∧ v10 = .int .i64 1 ∧ ∃ r c q rv, B1 wr w.heap.size b g T K Hm r c q rv p h pm ∧ Ex (XB b g) w wr) ∨ gk = 0 ∧ v10 = .int .i64 2 ∧ ∃ r c q t m rv, B2 wr b g T K r c q t m rv p h pm ∧ Ex (XB b g) w wr)
  case atStart => exact Or.inl (Or.inl ⟨rfl, rfl, rfl⟩)
  case round =>
    obtain (⟨rfl, rfl, rfl⟩ | ⟨rfl, rfl, r, c, q, rv, h1, hx1⟩) | ⟨rfl, rfl, r, c, q, t, m, rv, h2, hx2⟩ := hrel
    · have t0 : wr.cell? ⟨T, 0, none⟩ = some (.int .i64 4) := HT.out.c 0 (by omega)
      have t1 : wr.cell? ⟨T, 1, none⟩ = some (.bool false) := HT.out.c 1 (by omega)
      have t2 : wr.cell? ⟨T, 2, none⟩ = some (.bool false) := HT.out.c 2 (by omega)
      have t3 : wr.cell? ⟨T, 3, none⟩ = some (.slice none 0 0) := HT.out.c 3 (by omega)
      have t4 : wr.cell? ⟨T, 4, none⟩ = some (.string ⟨#[97]⟩) := HT.out.c 4 (by omega)
      have t5 : wr.cell? ⟨T, 5, none⟩ = some (.slice none 0 0) := HT.out.c 5 (by omega)
      have t6 : wr.cell? ⟨T, 6, none⟩ = some (.bool false) := HT.out.c 6 (by omega)
      have t7 : wr.cell? ⟨T, 7, none⟩ = some (.bool false) := HT.out.c 7 (by omega)
      obtain ⟨W1, hW1⟩ : ∃ V, wr.alloc (.cells #[.int .i64 4, .bool false, .bool false, .slice none 0 0, .string ⟨#[97]⟩, .slice none 0 0, .bool false, .bool false] 69) = V := ⟨_, rfl⟩
      have hbW : Below wr.heap.size wr W1 := by rw [← hW1]; exact (Below.refl _ _).alloc (Nat.le_refl _) _
      have hsW : W1.heap.size = wr.heap.size + 1 := by rw [← hW1]; simp
      have hE : Blk W1 wr.heap.size 8 (fun j => #[Value.int .i64 4, .bool false, .bool false, .slice none 0 0, .string ⟨#[97]⟩, .slice none 0 0, .bool false, .bool false].getD j .nilFunc) := by rw [← hW1]; exact term_new wr _ rfl
      have e0 : W1.cell? ⟨wr.heap.size, 0, none⟩ = some (.int .i64 4) := hE.c 0 (by omega)
      have e1 : W1.cell? ⟨wr.heap.size, 1, none⟩ = some (.bool false) := hE.c 1 (by omega)
      have e2 : W1.cell? ⟨wr.heap.size, 2, none⟩ = some (.bool false) := hE.c 2 (by omega)
      have e3 : W1.cell? ⟨wr.heap.size, 3, none⟩ = some (.slice none 0 0) := hE.c 3 (by omega)
      have e4 : W1.cell? ⟨wr.heap.size, 4, none⟩ = some (.string ⟨#[97]⟩) := hE.c 4 (by omega)
      have e5 : W1.cell? ⟨wr.heap.size, 5, none⟩ = some (.slice none 0 0) := hE.c 5 (by omega)
      have e6 : W1.cell? ⟨wr.heap.size, 6, none⟩ = some (.bool false) := hE.c 6 (by omega)
      have e7 : W1.cell? ⟨wr.heap.size, 7, none⟩ = some (.bool false) := hE.c 7 (by omega)
      have f2 : W1.cell? ⟨b, 2, none⟩ = some (.slice none 0 0) := (HBB.out.of hbW (by omega)).c 2 (by omega)
      have hbW' : Below wr.heap.size wr W1.drew := hbW.drew
      have C := valueS (HBB.out.of hbW' (by omega)) (HS.out.of hbW') (by simp)
      have b2 : wr.cell? ⟨b, 2, none⟩ = some (.slice none 0 0) := HBB.out.c 2 (by omega)
      have z2 := HBB.out.z 2
      have FB : Hid (∀ w2, Ex (Own g (.slice none 0 0)) W1.drew w2 → w2.cell? ⟨b, 2, none⟩ = some (.slice none 0 0)) := fun w2 hx => (World.cell?_of_block (a := ⟨b, 2, none⟩) (hx.block b (by show b < W1.heap.size; omega) (fun hk => by
        rcases hk with e | e
        · exact HN.out.1 e
        · cases e))).trans f2
      have FIN : Hid (∀ {w2 w5 : World} {v' : Value} {o : Obj}, (∃ rv' q, St w2 g ([] ++ [⟨true, some (84, ⟨q, 0, none⟩)⟩]) rv' none 0 p h pm ∧ (rv'.ownBlock = (Value.slice none 0 0).ownBlock ∨ ∃ k, rv'.ownBlock = some k ∧ W1.drew.heap.size ≤ k) ∧ w2.cell? ⟨q, 0, none⟩ = some (.string ⟨#[97]⟩) ∧ W1.drew.heap.size ≤ q ∧ q < w2.heap.size ∧ ∀ k, rv'.ownBlock = some k → k ≠ q) → Ex (Own g (.slice none 0 0)) W1.drew w2 → w5.ownsRow w2.heap.size 3 1 v' 1 ([] ++ [.int .i64 0]) → (w2.alloc o).grownBy w5 none →
          w5.heap[b]? = wr.heap[b]? ∧ ∃ r c q rv, v' = .slice (some ⟨r, 0, none⟩) 1 c ∧ B1 (w5.setCell ⟨b, 2, none⟩ v') wr.heap.size b g T K Hm r c q rv p h pm ∧ Ex (XB b g) wr (w5.setCell ⟨b, 2, none⟩ v')) := by
        rintro w2 w5 v' o ⟨rv', q, h2, ha, hq, hlq, hq3, hqr⟩ hx hown hg
        have hW1d : W1.drew.heap.size = wr.heap.size + 1 := hsW
        have hsz2 := hx.size
        obtain ⟨y1, r, c, y2, y3, y4⟩ := first_made (w2 := w2) HBB.out HT.out HK.out HN.out h2 (fun k hk => by
          rcases ha with e | ⟨k', e, hk'⟩
          · rw [hk] at e; cases e
          · rw [hk] at e; have := Option.some.inj e; omega) hq (by omega) hqr (((ex_of hbW').next hx (fun k _ hk => hk)).mono (fun k _ hk => by
          rcases hk with e | e
          · exact e
          · cases e)) HS.out.lt hown (by
          have h0 : w2.grownBy (w2.alloc o) none := World.grownBy_alloc w2 o none
          exact h0.trans hg)
        exact ⟨y1, r, c, q, rv', y2, y3, y4⟩
      obtain ⟨i0, hi, hz0, hz1, hz2⟩ := info_parts infoI
      have HW := Lib.hid hbW
      have HSW := Lib.hid hsW
      have HWE := Lib.hid hW1
      clear hbW hbW' hE hsW hW1
      go_upto_region 4 with fail
      rw [HWE.out]
      clear t0 t1 t2 t3 t4 t5 t6 t7
      go_region_law (first | (refine step_append_own rfl _ _ 23 rfl w2.heap.size 3 i0 (.int .i64 0) 1 8 Tryz.underlying23 hi hz0 hz1 hz2 rfl (by decide) (.slice none 0 0) 0 [] (by simp [Act.eval]) ⟨rfl, .inl ⟨rfl, rfl⟩⟩ ⟨w2.heap.size, 0, none⟩ 1 1 [.int .i64 0] (by simp [Act.eval]) rfl (new_one _ _ _) (fun u hu => by simp at hu; rcases hu with rfl; rfl) (by unfold maxLen; omega) (by omega) (by simp) ?_; intro v' w5 hown2 hgrow hat; obtain ⟨a5, c5, hv5⟩ := ownsS_shape hown2; subst hv5; obtain ⟨hbb5, HF5⟩ := FIN.out hC hxC hown2 hgrow; have x2 := (World.cell?_of_block (a := ⟨b, 2, none⟩) hbb5).trans b2; have y2 := (World.frozen?_of_block (a := ⟨b, 2, none⟩) hbb5).trans z2; have HF := Lib.hid HF5; clear HF5 hown2 hgrow hat hbb5) | (go_simp; refine C.mono ?_; rintro e w2 ⟨rfl, hC, hxC⟩; have g2 := FB.out w2 hxC; have g3 := fun o => (World.cell?_of_block (a := ⟨b, 2, none⟩) (Below.heap_alloc w2 o b (lt_of_cell g2))).trans g2))
      all_goals
        obtain ⟨r, c, q, rv, hv, hB1, hxB⟩ := HF.out
        injection hv with hv1 _ hv3
        subst hv1 hv3
        have HB1 := Lib.hid hB1
        have HXB := Lib.hid hxB
        clear hB1 hxB HF
        go_wp2_with fail
        go_roundg 1
        case measure => omega
        case rel => exact Or.inl (Or.inr ⟨rfl, by first | rfl | trivial, _, _, _, _, HB1.out, HXB.out⟩)
    · have t0 : wr.cell? ⟨T, 8, none⟩ = some (.int .i64 5) := h1.tt.c 8 (by omega)
      have t1 : wr.cell? ⟨T, 9, none⟩ = some (.bool false) := h1.tt.c 9 (by omega)
      have t2 : wr.cell? ⟨T, 10, none⟩ = some (.bool false) := h1.tt.c 10 (by omega)
      have t3 : wr.cell? ⟨T, 11, none⟩ = some (.slice none 0 0) := h1.tt.c 11 (by omega)
      have t4 : wr.cell? ⟨T, 12, none⟩ = some (.string ⟨#[]⟩) := h1.tt.c 12 (by omega)
      have t5 : wr.cell? ⟨T, 13, none⟩ = some (.slice (some ⟨K, 0, none⟩) 2 2) := h1.tt.c 13 (by omega)
      have t6 : wr.cell? ⟨T, 14, none⟩ = some (.bool false) := h1.tt.c 14 (by omega)
      have t7 : wr.cell? ⟨T, 15, none⟩ = some (.bool false) := h1.tt.c 15 (by omega)
      obtain ⟨W1, hW1⟩ : ∃ V, wr.alloc (.cells #[.int .i64 5, .bool false, .bool false, .slice none 0 0, .string ⟨#[]⟩, .slice (some ⟨K, 0, none⟩) 2 2, .bool false, .bool false] 69) = V := ⟨_, rfl⟩
      have hbW : Below wr.heap.size wr W1 := by rw [← hW1]; exact (Below.refl _ _).alloc (Nat.le_refl _) _
      have hsW : W1.heap.size = wr.heap.size + 1 := by rw [← hW1]; simp
      have hE : Blk W1 wr.heap.size 8 (fun j => #[Value.int .i64 5, .bool false, .bool false, .slice none 0 0, .string ⟨#[]⟩, .slice (some ⟨K, 0, none⟩) 2 2, .bool false, .bool false].getD j .nilFunc) := by rw [← hW1]; exact term_new wr _ rfl
      have e0 : W1.cell? ⟨wr.heap.size, 0, none⟩ = some (.int .i64 5) := hE.c 0 (by omega)
      have e1 : W1.cell? ⟨wr.heap.size, 1, none⟩ = some (.bool false) := hE.c 1 (by omega)
      have e2 : W1.cell? ⟨wr.heap.size, 2, none⟩ = some (.bool false) := hE.c 2 (by omega)
      have e3 : W1.cell? ⟨wr.heap.size, 3, none⟩ = some (.slice none 0 0) := hE.c 3 (by omega)
      have e4 : W1.cell? ⟨wr.heap.size, 4, none⟩ = some (.string ⟨#[]⟩) := hE.c 4 (by omega)
      have e5 : W1.cell? ⟨wr.heap.size, 5, none⟩ = some (.slice (some ⟨K, 0, none⟩) 2 2) := hE.c 5 (by omega)
      have e6 : W1.cell? ⟨wr.heap.size, 6, none⟩ = some (.bool false) := hE.c 6 (by omega)
      have e7 : W1.cell? ⟨wr.heap.size, 7, none⟩ = some (.bool false) := hE.c 7 (by omega)
      have hbW' : Below wr.heap.size wr W1.drew := hbW.drew
      have f2 : W1.cell? ⟨b, 2, none⟩ = some (.slice (some ⟨r, 0, none⟩) 1 c) := (h1.bb.of hbW (by omega)).c 2 (by omega)
      obtain ⟨B, hrow⟩ := h1.row
      have b1 : wr.cell? ⟨b, 1, none⟩ = some (.slice (some ⟨T, 0, none⟩) 2 2) := h1.bb.c 1 (by omega)
      have r0 : wr.cell? ⟨r, 0, none⟩ = some (.int .i64 0) := hrow.cellAt 0 (by omega)
      have lr := lt_of_cell r0
      have C := valueT (h1.bb.of hbW' (by omega)) (h1.kk.of hbW' (by omega)) ((hbW'.cell (p := ⟨r, 0, none⟩) lr).trans r0) (h1.st.of hbW')
      have b2 : wr.cell? ⟨b, 2, none⟩ = some (.slice (some ⟨r, 0, none⟩) 1 c) := h1.bb.c 2 (by omega)
      have z2 := h1.bb.z 2
      have lbr := h1.bb.lt (by omega)
      have FB : Hid (∀ w2, Ex (Own g rv) W1.drew w2 → w2.cell? ⟨b, 2, none⟩ = some (.slice (some ⟨r, 0, none⟩) 1 c)) := fun w2 hx => (World.cell?_of_block (a := ⟨b, 2, none⟩) (hx.block b (by show b < W1.heap.size; omega) (fun hk => by
        rcases hk with e | e
        · exact h1.ne.1 e
        · exact (h1.nr b e).1 rfl))).trans f2
      have FR : Hid (∀ w2, Ex (Own g rv) W1.drew w2 → w2.ownsRow B 3 1 (.slice (some ⟨r, 0, none⟩) 1 c) 1 [.int .i64 0]) := fun w2 hx => ownsS_same hrow (fun k hk => by
        have hkr : r = k := Option.some.inj hk
        subst hkr
        refine (hx.block r (by show r < W1.heap.size; omega) (fun hk => ?_)).trans (hbW.block r lr)
        rcases hk with e | e
        · exact h1.ne.2.2.2.1 e
        · exact (h1.nr r e).2.2.2.1 rfl)
      have FIN : Hid (∀ {w2 w5 : World} {v' : Value} {o : Obj}, (∃ rv' m t, St w2 g [⟨true, some (84, ⟨q, 0, none⟩)⟩, ⟨true, some (89, ⟨t, 0, none⟩)⟩] rv' (some m) 1 p h pm ∧ (rv'.ownBlock = rv.ownBlock ∨ ∃ k, rv'.ownBlock = some k ∧ W1.drew.heap.size ≤ k) ∧ w2.heap[m]? = some oneMap ∧ (∃ a' c', w2.cell? ⟨t, 0, none⟩ = some (.slice a' 2 c')) ∧ W1.drew.heap.size ≤ m ∧ W1.drew.heap.size ≤ t) → Ex (Own g rv) W1.drew w2 → w5.ownsRow B 3 1 v' 2 ([.int .i64 0] ++ [.int .i64 1]) → (w2.alloc o).grownBy w5 (some r) → (v'.ownBlock = some r ∨ v'.ownBlock = some (w2.alloc o).heap.size) →
          w5.heap[b]? = wr.heap[b]? ∧ ∃ r' c' m t rv', v' = .slice (some ⟨r', 0, none⟩) 2 c' ∧ B2 (w5.setCell ⟨b, 2, none⟩ v') b g T K r' c' q t m rv' p h pm ∧ Ex (XB b g) w (w5.setCell ⟨b, 2, none⟩ v')) := by
        rintro w2 w5 v' o ⟨rv', m, t, h2, ha, hm, ht, hlm, hlt⟩ hx hown hg hat
        have hW1d : W1.drew.heap.size = wr.heap.size + 1 := hsW
        obtain ⟨y1, r', c', y2, y3, y4⟩ := second_made h1 hrow h2 (by
          rcases ha with e | ⟨k, e, hk⟩
          · exact Or.inl e
          · exact Or.inr ⟨k, e, by omega⟩) hm ht (by omega) (by omega) ((ex_of hbW').next hx (fun k _ hk => hk)) hown hg hat
        refine ⟨y1, r', c', m, t, rv', y2, y3, hx1.next y4 (fun k hk hX => ?_)⟩
        rcases hX with e | e | e | e
        · exact Or.inl e
        · exact Or.inr e
        · have := h1.lo.1; omega
        · have := h1.lo.2 k e; omega
      obtain ⟨i0, hi, hz0, hz1, hz2⟩ := info_parts infoI
      have HW := Lib.hid hbW
      have HSW := Lib.hid hsW
      have HWE := Lib.hid hW1
      have HBr : B ≤ r := (World.ownsRow.lt hrow r rfl).1
      clear hbW hbW' hE hsW hW1 h1 hrow r0
      go_upto_region 4 with fail
      rw [HWE.out]
      clear t0 t1 t2 t3 t4 t5 t6 t7
      go_region_law (first | (refine step_append_own rfl _ _ 23 rfl B 3 i0 (.int .i64 0) 1 8 Tryz.underlying23 hi hz0 hz1 hz2 rfl (by decide) (.slice (some ⟨r, 0, none⟩) 1 c) 1 [.int .i64 0] (by simp [Act.eval]) (World.ownsRow.alloc (FR.out w2 hxC) _) ⟨w2.heap.size, 0, none⟩ 1 1 [.int .i64 1] (by simp [Act.eval]) rfl (new_one _ _ _) (fun u hu => by simp at hu; rcases hu with rfl; rfl) (by unfold maxLen; omega) (by omega) (by have := hxC.size; have h0 : W1.drew.heap.size = W1.heap.size := rfl; have := HSW.out; simp; omega) ?_; intro v' w5 hown2 hgrow hat; obtain ⟨a5, c5, hv5⟩ := ownsS_shape hown2; subst hv5; obtain ⟨hbb5, HF5⟩ := FIN.out hC hxC hown2 hgrow hat; have x2 := (World.cell?_of_block (a := ⟨b, 2, none⟩) hbb5).trans b2; have y2 := (World.frozen?_of_block (a := ⟨b, 2, none⟩) hbb5).trans z2; have HF := Lib.hid HF5; clear HF5 hown2 hgrow hat hbb5) | (go_simp; refine C.mono ?_; rintro e w2 ⟨rfl, hC, hxC⟩; have g2 := FB.out w2 hxC; have g3 := fun o => (World.cell?_of_block (a := ⟨b, 2, none⟩) (Below.heap_alloc w2 o b (lt_of_cell g2))).trans g2))
      all_goals
        obtain ⟨r', c', m, t, rv', hv, hB2, hxB⟩ := HF.out
        injection hv with hv1 _ hv3
        subst hv1 hv3
        have HB2 := Lib.hid hB2
        have HXB := Lib.hid hxB
        clear hB2 hxB HF
        go_wp2_with fail
        go_roundg 0
        case measure => omega
        case rel => exact Or.inr ⟨rfl, by first | rfl | trivial, _, _, _, _, _, _, HB2.out, HXB.out⟩
    · have CF := fill_any h2
      have H2 := Lib.hid h2
      have HX := Lib.hid hx2
      clear h2 hx2
      go_wp2_with fail
      refine CF.mono ?_
      rintro e w3 ⟨rfl, hb3⟩
      clear CF
      have h3 := H2.out.of hb3
      have g2 := h3.b2
      have H3 := Lib.hid h3
      have HX3 := Lib.hid (HX.out.next (ex_of (X := fun _ => False) hb3) (fun k _ hk => hk.elim))
      clear h3 hb3
      go_wp2_with fail
      go_ret
      exact ⟨r, c, q, t, m, rv, rfl, H3.out, HX3.out⟩
end Sto
end Go.Proofs.YtjkpailkamafcaaGreatDoor
