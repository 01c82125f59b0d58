/-
  The document's machine: its end, a hit.
-/
import Derived.Test.YtejfmajbggmghaaGreatGj
namespace Go.Proofs.YtejfmajbggmghaaGreat
open Go.RowKit Go.WideShapes

def putR (w : World) (y : Nat) (u : Tu) : World := ((((w.setCell ⟨y, 11, none⟩ (.int .i64 u.kind)).setCell ⟨y, 12, none⟩ (.int .i64 u.key)).setCell ⟨y, 13, none⟩ (.bool u.found)).setCell ⟨y, 14, none⟩ (.int .i64 u.value)).setCell ⟨y, 15, none⟩ (.int .i64 u.entry)
theorem putR_rm {w : World} {y : Nat} {sv : Value} {d : Nat} {m : Ma} {z : Rz} (h : Rm w y sv d m z) (u : Tu) : Rm (putR w y u) y sv d m { z with u := u } := by
  unfold putR
  refine (((((h.put 11 _).put 12 _).put 13 _).put 14 _).put 15 _).congr fun j hj => ?_
  rcases lt17 hj with rfl | rfl | rfl | rfl | rfl | rfl | rfl | rfl | rfl | rfl | rfl | rfl | rfl | rfl | rfl | rfl | rfl <;> rfl
theorem putR_ex (w : World) (y : Nat) (u : Tu) : Ex (fun k => k = y) w (putR w y u) :=
  (((((Ex.refl (fun k => k = y) w).setCell (p := ⟨y, 11, none⟩) (fun _ => rfl) _).setCell (p := ⟨y, 12, none⟩) (fun _ => rfl) _).setCell (p := ⟨y, 13, none⟩) (fun _ => rfl) _).setCell (p := ⟨y, 14, none⟩) (fun _ => rfl) _).setCell (p := ⟨y, 15, none⟩) (fun _ => rfl) _
theorem putR_other (w : World) (y : Nat) (u : Tu) (k : Nat) (hk : k ≠ y) : (putR w y u).heap[k]? = w.heap[k]? := by
  unfold putR
  rw [Below.heap_setCell _ _ _ _ hk, Below.heap_setCell _ _ _ _ hk, Below.heap_setCell _ _ _ _ hk, Below.heap_setCell _ _ _ _ hk, Below.heap_setCell _ _ _ _ hk]
set_option maxRecDepth 100000 in
set_option maxHeartbeats 4000000 in
/-- The machine ends with a turn. -/
theorem rends_any {w : World} {y d : Nat} {sv : Value} {m : Ma} {z : Rz} (hm : Rm w y sv d m z) (u : Tu) :
    Calls Tryz.prog 83 #[.pointer (some ⟨y, 0, none⟩), tuV u] w fun e w' => e = .returned (tuV u) ∧ Rm w' y sv d m { z with over := true, u := u } ∧ Ex (fun k => k = y) w w' := by
  obtain ⟨w1, hw1⟩ : ∃ V, w.alloc (.cells #[.int .i64 u.kind, .int .i64 u.key, .bool u.found, .int .i64 u.value, .int .i64 u.entry] 45) = V := ⟨_, rfl⟩
  have hB1 : Below w.heap.size w w1 := by rw [← hw1]; exact (Below.refl _ w).alloc (Nat.le_refl _) _
  have hX1 : Blk w1 w.heap.size 5 (fun j => #[Value.int .i64 u.kind, .int .i64 u.key, .bool u.found, .int .i64 u.value, .int .i64 u.entry].getD j .nilFunc) := by rw [← hw1]; exact Blk.new w _ _
  obtain ⟨w2, hw2⟩ : ∃ V, w1.alloc (.cells #[.int .i64 0, .int .i64 0, .bool false, .int .i64 0, .int .i64 0] 45) = V := ⟨_, rfl⟩
  obtain ⟨hX2, hB2, hs2⟩ := tu_zero_blk w1 hw2
  have ly := hm.lt (by omega)
  have l1 := hX1.lt (by omega)
  have hm2 : Rm w2 y sv d m z := (hm.of hB1 (by omega)).of hB2 (by omega)
  have hb2 : Blk w2 w.heap.size 5 _ := hX1.of hB2 (by omega)
  have k10 : w2.cell? ⟨y, 10, none⟩ = some (.bool z.over) := hm2.c 10 (by omega)
  have z10 := hm2.z 10
  have hyb : w.heap.size ≠ y := by omega
  have hyr : w1.heap.size ≠ y := by omega
  have hrb : w1.heap.size ≠ w.heap.size := by omega
  have HM3 : Hid (Rm (w2.setCell ⟨y, 10, none⟩ (.bool true)) y sv d m { z with over := true }) := (hm2.put 10 _).congr fun j hj => by
    rcases lt17 hj with rfl | rfl | rfl | rfl | rfl | rfl | rfl | rfl | rfl | rfl | rfl | rfl | rfl | rfl | rfl | rfl | rfl <;> rfl
  have HB3 : Hid (Blk (w2.setCell ⟨y, 10, none⟩ (.bool true)) w.heap.size 5 _) := hb2.same (Below.heap_setCell _ _ _ _ hyb)
  have HR3 : Hid (Blk (w2.setCell ⟨y, 10, none⟩ (.bool true)) w1.heap.size 5 _) := hX2.same (Below.heap_setCell _ _ _ _ hyr)
  have HE3 : Hid (Ex (fun k => k = y) w (w2.setCell ⟨y, 10, none⟩ (.bool true))) := (show Ex (fun k => k = y) w w2 from ex_of (hB1.trans (hB2.mono hB1.size))).setCell (p := ⟨y, 10, none⟩) (fun _ => rfl) _
  have HW1 := Lib.hid hw1
  have HW2 := Lib.hid hw2
  have HLR : Hid (w.heap.size ≤ w1.heap.size) := hB1.size
  have hz1 : w1.heap.size = w.heap.size + 1 := by rw [← hw1]; simp
  rw [hz1] at HR3 hyr hrb HLR
  clear hm hB1 hX1 hX2 hB2 hs2 hm2 hb2 hw1 hw2 hz1
  unfold tuV
  go_enter Tryz.func83, Tryz.ntmps83
  go_upto_region 1 with fail
  rw [HW1.out, HW2.out]
  go_upto_region 2 with fail
  generalize World.setCell w2 _ _ = w3 at *
  clear k10 z10
  have b0 : w3.cell? ⟨w.heap.size, 0, none⟩ = some (.int .i64 u.kind) := HB3.out.c 0 (by omega)
  have b1 : w3.cell? ⟨w.heap.size, 1, none⟩ = some (.int .i64 u.key) := HB3.out.c 1 (by omega)
  have b2 : w3.cell? ⟨w.heap.size, 2, none⟩ = some (.bool u.found) := HB3.out.c 2 (by omega)
  have b3 : w3.cell? ⟨w.heap.size, 3, none⟩ = some (.int .i64 u.value) := HB3.out.c 3 (by omega)
  have b4 : w3.cell? ⟨w.heap.size, 4, none⟩ = some (.int .i64 u.entry) := HB3.out.c 4 (by omega)
  have k11 : w3.cell? ⟨y, 11, none⟩ = some (.int .i64 z.u.kind) := HM3.out.c 11 (by omega)
  have k12 : w3.cell? ⟨y, 12, none⟩ = some (.int .i64 z.u.key) := HM3.out.c 12 (by omega)
  have k13 : w3.cell? ⟨y, 13, none⟩ = some (.bool z.u.found) := HM3.out.c 13 (by omega)
  have k14 : w3.cell? ⟨y, 14, none⟩ = some (.int .i64 z.u.value) := HM3.out.c 14 (by omega)
  have k15 : w3.cell? ⟨y, 15, none⟩ = some (.int .i64 z.u.entry) := HM3.out.c 15 (by omega)
  have z11 := HM3.out.z 11
  have z12 := HM3.out.z 12
  have z13 := HM3.out.z 13
  have z14 := HM3.out.z 14
  have z15 := HM3.out.z 15
  have HMT : Hid (Rm (putR w3 y u) y sv d m { z with over := true, u := u }) := putR_rm HM3.out u
  have HET : Hid (Ex (fun k => k = y) w (putR w3 y u)) := HE3.out.trans (putR_ex w3 y u)
  have HBT : Hid (Blk (putR w3 y u) w.heap.size 5 _) := HB3.out.same (putR_other _ _ _ _ hyb)
  have HRT : Hid (Blk (putR w3 y u) (w.heap.size + 1) 5 _) := HR3.out.same (putR_other _ _ _ _ hyr)
  unfold putR at HMT HET HBT HRT
  clear HM3 HE3 HB3 HR3
  go_upto_region 3 with fail
  generalize World.setCell (World.setCell (World.setCell (World.setCell (World.setCell w3 _ _) _ _) _ _) _ _) _ _ = wT at *
  clear b0 b1 b2 b3 b4 k11 k12 k13 k14 k15 z11 z12 z13 z14 z15
  have b0 : wT.cell? ⟨w.heap.size, 0, none⟩ = some (.int .i64 u.kind) := HBT.out.c 0 (by omega)
  have b1 : wT.cell? ⟨w.heap.size, 1, none⟩ = some (.int .i64 u.key) := HBT.out.c 1 (by omega)
  have b2 : wT.cell? ⟨w.heap.size, 2, none⟩ = some (.bool u.found) := HBT.out.c 2 (by omega)
  have b3 : wT.cell? ⟨w.heap.size, 3, none⟩ = some (.int .i64 u.value) := HBT.out.c 3 (by omega)
  have b4 : wT.cell? ⟨w.heap.size, 4, none⟩ = some (.int .i64 u.entry) := HBT.out.c 4 (by omega)
  have q0 : wT.cell? ⟨w.heap.size + 1, 0, none⟩ = some (.int .i64 0) := HRT.out.c 0 (by omega)
  have q1 : wT.cell? ⟨w.heap.size + 1, 1, none⟩ = some (.int .i64 0) := HRT.out.c 1 (by omega)
  have q2 : wT.cell? ⟨w.heap.size + 1, 2, none⟩ = some (.bool false) := HRT.out.c 2 (by omega)
  have q3 : wT.cell? ⟨w.heap.size + 1, 3, none⟩ = some (.int .i64 0) := HRT.out.c 3 (by omega)
  have q4 : wT.cell? ⟨w.heap.size + 1, 4, none⟩ = some (.int .i64 0) := HRT.out.c 4 (by omega)
  have y0 := HRT.out.z 0
  have y1 := HRT.out.z 1
  have y2 := HRT.out.z 2
  have y3 := HRT.out.z 3
  have y4 := HRT.out.z 4
  have HR9 : Hid (Blk (putU wT (w.heap.size + 1) u) (w.heap.size + 1) 5 _) := put5_blk HRT.out _ _ _ _ _
  have HM9 : Hid (Rm (putU wT (w.heap.size + 1) u) y sv d m { z with over := true, u := u }) := HMT.out.same (putU_other _ _ _ _ (fun e => hyr e.symm))
  have HX9 : Hid (Ex (fun k => k = y) w (putU wT (w.heap.size + 1) u)) := by
    have hb := putU_below (B := w.heap.size) (w := wT) (w.heap.size + 1) HLR.out u
    exact HET.out.next (Y := fun k => w.heap.size ≤ k) ⟨hb.os, hb.tape, hb.output, hb.size, fun k _ hn => hb.block k (by omega)⟩ (fun k hk hy => by omega)
  unfold putU put5 at HR9 HM9 HX9
  go_wp2_with fail
  generalize World.setCell (World.setCell (World.setCell (World.setCell (World.setCell wT _ _) _ _) _ _) _ _) _ _ = wZ at *
  have o0 : wZ.cell? ⟨w.heap.size + 1, 0, none⟩ = some (.int .i64 u.kind) := HR9.out.c 0 (by omega)
  have o1 : wZ.cell? ⟨w.heap.size + 1, 1, none⟩ = some (.int .i64 u.key) := HR9.out.c 1 (by omega)
  have o2 : wZ.cell? ⟨w.heap.size + 1, 2, none⟩ = some (.bool u.found) := HR9.out.c 2 (by omega)
  have o3 : wZ.cell? ⟨w.heap.size + 1, 3, none⟩ = some (.int .i64 u.value) := HR9.out.c 3 (by omega)
  have o4 : wZ.cell? ⟨w.heap.size + 1, 4, none⟩ = some (.int .i64 u.entry) := HR9.out.c 4 (by omega)
  refine bodyPost_ret (v := .agg #[.int .i64 u.kind, .int .i64 u.key, .bool u.found, .int .i64 u.value, .int .i64 u.entry]) ?_ rfl ⟨rfl, HM9.out, HX9.out⟩
  simp [results, Tryz.results83, go_sem, o0, o1, o2, o3, o4]
/-- What a call of the document's dictionary leaves: all but that, the meter and Y is as it was. -/
structure Rcd (w : World) (d g q : Nat) (ev mr : Value) (Y : Nat → Prop) (a b most : Int) (v : Nat) (t' : Tb) (w' : World) (q' : Nat) (ev' : Value) : Prop where
  dc : Rdc w' d g q' ev' t' mr most v
  ms : Ms w' mr a b 0 0
  fx : ∀ k, rX d g q' ev' k → rX d g q ev k ∨ w.heap.size ≤ k
  ex : Ex (fun k => rX d g q ev k ∨ mB mr k ∨ Y k) w w'
/-- A cell of the dictionary, that of its version, turned. -/
theorem Rdc.bump {w : World} {d g q : Nat} {ev : Value} {t : Tb} {mv : Value} {most : Int} {v : Nat} (h : Rdc w d g q ev t mv most v) : Rdc (w.setCell ⟨d, 1, none⟩ (.int .i64 ((v : Int) + 1))) d g q ev t mv most (v + 1) := by
  refine ⟨(h.hd.put 1 _).congr fun j hj => ?_, h.rt.same fun k hk => Below.heap_setCell _ _ _ _ (fun (e : k = d) => h.ne (e ▸ hk)), h.ne, h.nm⟩
  have : j = 0 ∨ j = 1 ∨ j = 2 := by omega
  rcases this with rfl | rfl | rfl
  · rfl
  · show Value.int .i64 (((v + 1 : Nat)) : Int) = Value.int .i64 ((v : Int) + 1)
    rw [Int.natCast_add]
    rfl
  · rfl
theorem hit_fin {w wc we : World} {d g q : Nat} {ev : Value} {t T : Tb} {mr : Value} {most : Int} {v V : Nat} {a b : Int} (hR : Rdc w d g q ev t mr most v) (hM : Ms w mr a b 0 0) {y : Nat} (ny : ¬ rX d g q ev y) (nmy : ¬ mB mr y) (hx : Ex (fun k => rX d g q ev k) w wc) (hRc : Rdc wc d g q ev T mr most V) (hxe : Ex (fun k => k = y) wc we) (u : Tu) : Rcd w d g q ev mr (fun k => k = y) a b most V T (putU we w.heap.size u) q ev := by
  have hb := putU_below (B := w.heap.size) (w := we) w.heap.size (Nat.le_refl _) u
  refine ⟨hRc.same fun k hk => ?_, hM.same fun k hk => ?_, fun k hk => .inl hk, ?_⟩
  · have := hR.lt k hk
    exact (hb.block k this).trans (hxe.block k (hRc.lt k hk) (fun (e : k = y) => ny (e ▸ hk)))
  · have h1 := hM.lt k hk
    exact (hb.block k h1).trans ((hxe.block k (Nat.lt_of_lt_of_le h1 hx.size) (fun (e : k = y) => nmy (e ▸ hk))).trans (hx.block k h1 (hR.mp k hk)))
  · refine ((hx.mono (fun _ _ h => .inl h)).next hxe (fun k _ e => .inr (.inr e))).next (Y := fun k => w.heap.size ≤ k) ⟨hb.os, hb.tape, hb.output, hb.size, fun k _ hn => hb.block k (by omega)⟩ (fun k hk hy => by omega)
set_option maxRecDepth 100000 in
set_option maxHeartbeats 8000000 in
theorem rhit_get {w : World} {d g q : Nat} {ev : Value} {t : Tb} {mr : Value} {most : Int} {v : Nat} {a b : Int} (hR : Rdc w d g q ev t mr most v) (hM : Ms w mr a b 0 0) (ht : t.turn ≤ 1000000) (hlen : t.es.length ≤ 100000) {y : Nat} {sv : Value} {m : Ma} {z : Rz} (hm : Rm w y sv d m z) (ny : ¬ rX d g q ev y) (nmy : ¬ mB mr y) (n : Nat) (hat : z.at_ = (n : Int)) (hn : n < t.es.length) (hl0 : (nth t.es n).live = true) (h2 : m.goal ≠ 2) (h3 : m.goal ≠ 3) :
    Calls Tryz.prog 64 #[.pointer (some ⟨y, 0, none⟩)] w fun e w' => e = .returned (tuV ⟨2, 0, true, (nth t.es n).value, (n : Int)⟩) ∧ Rcd w d g q ev mr (fun k => k = y) a b most v t w' q ev ∧ Rm w' y sv d m { z with over := true, u := ⟨2, 0, true, (nth t.es n).value, (n : Int)⟩ } := by
  obtain ⟨w1, hw1⟩ : ∃ V, w.alloc (.cells #[.int .i64 0, .int .i64 0, .bool false, .int .i64 0, .int .i64 0] 45) = V := ⟨_, rfl⟩
  obtain ⟨hX1, hB1, hs1⟩ := tu_zero_blk w hw1
  have hR1 := hR.below hB1
  have hm1 : Rm w1 y sv d m z := hm.of hB1 (by omega)
  have ly := hm.lt (by omega)
  obtain ⟨ae, cape, ge, ev1, hp, hro⟩ := hR1.rt.es.open
  have hnS : n < t.sh.es.length := by rw [Tb.sh_len]; exact hn
  obtain ⟨rfl, hob, hfz⟩ := hp (by omega)
  have hsh : nth t.sh.es n = nth t.es n := shown_hash hl0
  have d0 := hro.c0 n hnS
  have d1 := hro.c1 n hnS
  have d2 := hro.c2 n hnS
  have d3 := hro.c3 n hnS
  have d4 := hro.c4 n hnS
  rw [hsh] at d0 d1 d2 d3 d4
  have hle := hro.le
  rw [Tb.sh_len] at ev1 hle
  have k0 : w1.cell? ⟨y, 0, none⟩ = some (.pointer (some ⟨d, 0, none⟩)) := hm1.c 0 (by omega)
  have k1 : w1.cell? ⟨y, 1, none⟩ = some (.int .i64 (m.goal : Int)) := hm1.c 1 (by omega)
  have k4 : w1.cell? ⟨y, 4, none⟩ = some (.int .i64 m.value) := hm1.c 4 (by omega)
  have k7 : w1.cell? ⟨y, 7, none⟩ = some (.int .i64 (n : Int)) := by rw [← hat]; exact hm1.c 7 (by omega)
  have x1 : w1.cell? ⟨d, 1, none⟩ = some (.int .i64 (v : Int)) := hR1.hd.c 1 (by omega)
  have x2 : w1.cell? ⟨d, 2, none⟩ = some (.pointer (some ⟨g, 0, none⟩)) := hR1.hd.c 2 (by omega)
  have f0 : w1.cell? ⟨g, 0, none⟩ = some (.slice (some ⟨ge, 0, none⟩) t.es.length cape) := by rw [← ev1]; exact hR1.rt.hd.c 0 (by omega)
  have t1 : (n : Int) < (t.es.length : Int) := by omega
  have lge := hR1.rt.es.lt ge hob
  have ld := hR1.lt d (.inl rfl)
  have lg := hR1.lt g (.inr (.inl rfl))
  have l1 := hX1.lt (by omega)
  have HL0 := Lib.hid hl0
  clear hl0
  generalize (nth t.es n).live = y0 at d0 ⊢
  generalize (nth t.es n).hash = y1 at *
  generalize (nth t.es n).key = y2 at *
  generalize (nth t.es n).value = y3 at *
  generalize (nth t.es n).birth = y4 at *
  obtain ⟨w2, hw2⟩ : ∃ V, (w1.alloc (.cells #[.bool y0, .int .i64 y1, .int .i64 y2, .int .i64 y3, .int .i64 y4] 48)).drew = V := ⟨_, rfl⟩
  have hB2 : Below w1.heap.size w1 w2 := by rw [← hw2]; exact ((Below.refl _ w1).alloc (Nat.le_refl _) _).drew
  have hX2 : Blk w2 w1.heap.size 5 (fun j => #[Value.bool y0, .int .i64 y1, .int .i64 y2, .int .i64 y3, .int .i64 y4].getD j .nilFunc) := by rw [← hw2]; exact (Blk.new w1 #[.bool y0, .int .i64 y1, .int .i64 y2, .int .i64 y3, .int .i64 y4] 48).same rfl
  have hs2 : w2.heap.size = w1.heap.size + 1 := by rw [← hw2]; show (w1.alloc _).heap.size = _; simp
  have HKA : Hid (∀ o, (((w1.alloc o).cell? ⟨y, 0, none⟩ = some (.pointer (some ⟨d, 0, none⟩)) ∧ (w1.alloc o).cell? ⟨y, 7, none⟩ = some (.int .i64 (n : Int))) ∧ (w1.alloc o).cell? ⟨d, 2, none⟩ = some (.pointer (some ⟨g, 0, none⟩)) ∧ (w1.alloc o).cell? ⟨g, 0, none⟩ = some (.slice (some ⟨ge, 0, none⟩) t.es.length cape)) ∧ ((w1.alloc o).cell? ⟨ge, n * 5, none⟩ = some (.bool y0) ∧ (w1.alloc o).cell? ⟨ge, n * 5 + 1, none⟩ = some (.int .i64 y1) ∧ (w1.alloc o).cell? ⟨ge, n * 5 + 2, none⟩ = some (.int .i64 y2) ∧ (w1.alloc o).cell? ⟨ge, n * 5 + 3, none⟩ = some (.int .i64 y3) ∧ (w1.alloc o).cell? ⟨ge, n * 5 + 4, none⟩ = some (.int .i64 y4))) := fun o => by
    have e1 : (w1.alloc o).heap[y]? = w1.heap[y]? := Below.heap_alloc _ _ _ (by omega)
    have e2 : (w1.alloc o).heap[d]? = w1.heap[d]? := Below.heap_alloc _ _ _ ld
    have e3 : (w1.alloc o).heap[g]? = w1.heap[g]? := Below.heap_alloc _ _ _ lg
    have e4 : (w1.alloc o).heap[ge]? = w1.heap[ge]? := Below.heap_alloc _ _ _ lge
    exact ⟨⟨⟨(World.cell?_of_block (a := ⟨y, 0, none⟩) e1).trans k0, (World.cell?_of_block (a := ⟨y, 7, none⟩) e1).trans k7⟩, (World.cell?_of_block (a := ⟨d, 2, none⟩) e2).trans x2, (World.cell?_of_block (a := ⟨g, 0, none⟩) e3).trans f0⟩, (World.cell?_of_block (a := ⟨ge, n * 5, none⟩) e4).trans d0, (World.cell?_of_block (a := ⟨ge, n * 5 + 1, none⟩) e4).trans d1, (World.cell?_of_block (a := ⟨ge, n * 5 + 2, none⟩) e4).trans d2, (World.cell?_of_block (a := ⟨ge, n * 5 + 3, none⟩) e4).trans d3, (World.cell?_of_block (a := ⟨ge, n * 5 + 4, none⟩) e4).trans d4⟩
  have HR := Lib.hid hR
  have HR1 := Lib.hid hR1
  have HM := Lib.hid hM
  have HMX := Lib.hid hm
  have HB1 := Lib.hid hB1
  have HB2 := Lib.hid hB2
  have HX1 := Lib.hid hX1
  have HX2 := Lib.hid hX2
  have HW1 := Lib.hid hw1
  have HW2 := Lib.hid hw2
  have HS1 := Lib.hid hs1
  have HS2 := Lib.hid hs2
  have HN : Hid (n < t.es.length) := hn
  have HAT := Lib.hid hat
  have HL := HL0
  have HT := Lib.hid ht
  have HLN := Lib.hid hlen
  clear hR hM hm hm1 hro hob hfz hp ev1 hsh hnS hB1 hB2 hX1 hX2 hw1 hw2 hs1 hs2 hR1 lge ld lg hn ht hlen hat
  unfold tuV
  go_enter Tryz.func64, Tryz.ntmps64
  go_upto_region 1 with fail
  rw [HW1.out]
  go_region_held3 (fun V => (((V.cell? ⟨y, 0, none⟩ = some (.pointer (some ⟨d, 0, none⟩)) ∧ V.cell? ⟨y, 7, none⟩ = some (.int .i64 (n : Int))) ∧ V.cell? ⟨d, 2, none⟩ = some (.pointer (some ⟨g, 0, none⟩)) ∧ V.cell? ⟨g, 0, none⟩ = some (.slice (some ⟨ge, 0, none⟩) t.es.length cape)) ∧ (V.cell? ⟨ge, n * 5, none⟩ = some (.bool y0) ∧ V.cell? ⟨ge, n * 5 + 1, none⟩ = some (.int .i64 y1) ∧ V.cell? ⟨ge, n * 5 + 2, none⟩ = some (.int .i64 y2) ∧ V.cell? ⟨ge, n * 5 + 3, none⟩ = some (.int .i64 y3) ∧ V.cell? ⟨ge, n * 5 + 4, none⟩ = some (.int .i64 y4))))
    (first | exact ⟨⟨⟨k0, k7⟩, x2, f0⟩, d0, d1, d2, d3, d4⟩ | exact HKA.out _ | fail) (fail)
  rw [HW2.out]
  have HKP0 : Hid (∀ V, Ex (fun k => rX d g q ev k) w2 V → (∀ k, k < w.heap.size → ¬ rX d g q ev k → V.heap[k]? = w.heap[k]?) ∧ (∀ k, k < w1.heap.size → ¬ rX d g q ev k → V.heap[k]? = w1.heap[k]?) ∧ (∀ k, k < w2.heap.size → ¬ rX d g q ev k → V.heap[k]? = w2.heap[k]?)) := fun V hV => by
    have e1 := HS1.out
    have e2 := HS2.out
    refine ⟨fun k hk hn => ((hV.block k (by omega) hn).trans (HB2.out.block k (by omega))).trans (HB1.out.block k hk), fun k hk hn => (hV.block k (by omega) hn).trans (HB2.out.block k hk), fun k hk hn => hV.block k hk hn⟩
  have hR2 := HR1.out.below HB2.out
  have hm2 : Rm w2 y sv d m z := (HMX.out.of HB1.out (by omega)).of HB2.out (by have := HS1.out; omega)
  clear k0 k1 k4 k7 x1 x2 f0 d0 d1 d2 d3 d4 t1 HKA
  have k0 : w2.cell? ⟨y, 0, none⟩ = some (.pointer (some ⟨d, 0, none⟩)) := hm2.c 0 (by omega)
  have k1 : w2.cell? ⟨y, 1, none⟩ = some (.int .i64 (m.goal : Int)) := hm2.c 1 (by omega)
  have k4 : w2.cell? ⟨y, 4, none⟩ = some (.int .i64 m.value) := hm2.c 4 (by omega)
  have k7 : w2.cell? ⟨y, 7, none⟩ = some (.int .i64 (n : Int)) := by rw [← HAT.out]; exact hm2.c 7 (by omega)
  have x2 : w2.cell? ⟨d, 2, none⟩ = some (.pointer (some ⟨g, 0, none⟩)) := hR2.hd.c 2 (by omega)
  have HR2 := Lib.hid hR2
  have HM2 := Lib.hid hm2
  clear hR2 hm2
  have g2 : ((m.goal : Int) == 2) = false := by rw [beq_eq_false_iff_ne]; omega
  have g3 : ((m.goal : Int) == 3) = false := by rw [beq_eq_false_iff_ne]; omega
  clear h2 h3
  go_upto_region 5 with fail
  obtain ⟨hkp, hk1, hk2⟩ := HKP0.out w2 (Ex.refl _ _)
  have HKP := Lib.hid hkp
  have HK1 := Lib.hid hk1
  have HK2 := Lib.hid hk2
  clear hkp hk1 hk2
  have hmc : Rm w2 y sv d m z := HMX.out.same (HKP.out y (by omega) (fun hx => ny hx))
  have hRc : Blk w2 w.heap.size 5 _ := HX1.out.same (HK1.out _ (by have := HS1.out; omega) (fun hx => by have := HR.out.lt _ hx; omega))
  have hEc : Blk w2 w1.heap.size 5 _ := HX2.out.same (HK2.out _ (by have := HS2.out; omega) (fun hx => by have := HR.out.lt _ hx; have := HS1.out; omega))
  have c7 : w2.drew.cell? ⟨y, 7, none⟩ = some (.int .i64 (n : Int)) := by rw [← HAT.out]; exact hmc.c 7 (by omega)
  have p3 : w2.drew.cell? ⟨w1.heap.size, 3, none⟩ = some (.int .i64 y3) := hEc.c 3 (by omega)
  have hmd : Rm w2.drew y sv d m z := hmc.same rfl
  have CE : Calls Tryz.prog 83 #[.pointer (some ⟨y, 0, none⟩), .agg #[.int .i64 2, .int .i64 0, .bool true, .int .i64 y3, .int .i64 (n : Int)]] w2.drew fun e w' => e = .returned (.agg #[.int .i64 2, .int .i64 0, .bool true, .int .i64 y3, .int .i64 (n : Int)]) ∧ Rm w' y sv d m { z with over := true, u := ⟨2, 0, true, y3, (n : Int)⟩ } ∧ Ex (fun k => k = y) w2.drew w' := rends_any hmd ⟨2, 0, true, y3, (n : Int)⟩
  have hyR : w.heap.size ≠ y := by omega
  have hyE : w1.heap.size ≠ y := by have := HS1.out; omega
  have hRE : w1.heap.size ≠ w.heap.size := by have := HS1.out; omega
  have hlR := hRc.lt (by omega)
  have hlE := hEc.lt (by omega)
  have HRc := Lib.hid hRc
  have HEc := Lib.hid hEc
  clear hmc hRc hEc hmd
  go_upto_region 8 with fail
  go_region_held3 (fun V => V.cell? ⟨y, 7, none⟩ = some (.int .i64 (n : Int)) ∧ V.cell? ⟨w1.heap.size, 3, none⟩ = some (.int .i64 y3))
    (first | with_reducible exact ⟨c7, p3⟩ | with_reducible exact s1 | with_reducible exact s2 | fail)
    (first | (go_at_call 83; refine CE.mono ?_; rintro e we ⟨rfl, hme, hxe⟩; have hRe := HRc.out.same (w' := we) (hxe.block _ hlR hyR); have hEe := HEc.out.same (w' := we) (hxe.block _ hlE hyE); have q0 : we.cell? ⟨w.heap.size, 0, none⟩ = some (.int .i64 0) := hRe.c 0 (by omega); have q1 : we.cell? ⟨w.heap.size, 1, none⟩ = some (.int .i64 0) := hRe.c 1 (by omega); have q2 : we.cell? ⟨w.heap.size, 2, none⟩ = some (.bool false) := hRe.c 2 (by omega); have q3 : we.cell? ⟨w.heap.size, 3, none⟩ = some (.int .i64 0) := hRe.c 3 (by omega); have q4 : we.cell? ⟨w.heap.size, 4, none⟩ = some (.int .i64 0) := hRe.c 4 (by omega); have z0 := hRe.z 0; have z1 := hRe.z 1; have z2 := hRe.z 2; have z3 := hRe.z 3; have z4 := hRe.z 4; have s1 : we.cell? ⟨y, 7, none⟩ = some (.int .i64 (n : Int)) ∧ we.cell? ⟨w1.heap.size, 3, none⟩ = some (.int .i64 y3) := ⟨by rw [← HAT.out]; exact hme.c 7 (by omega), hEe.c 3 (by omega)⟩; obtain ⟨wZ, hwZ⟩ : ∃ V, (put5 we w.heap.size (.int .i64 2) (.int .i64 0) (.bool true) (.int .i64 y3) (.int .i64 (n : Int))) = V := ⟨_, rfl⟩; have hbz : ∀ k, k ≠ w.heap.size → wZ.heap[k]? = we.heap[k]? := fun k hk => by { rw [← hwZ]; exact putU_other we w.heap.size ⟨2, 0, true, y3, (n : Int)⟩ k hk }; have hRz : Blk wZ w.heap.size 5 (fun j => [Value.int .i64 2, .int .i64 0, .bool true, .int .i64 y3, .int .i64 (n : Int)].getD j .nilFunc) := by { rw [← hwZ]; exact put5_blk hRe _ _ _ _ _ }; have hMz : Rm wZ y sv d m { z with over := true, u := ⟨2, 0, true, y3, (n : Int)⟩ } := hme.same (hbz _ hyR.symm); have hEz := hEe.same (w' := wZ) (hbz _ hRE); have u7 : wZ.cell? ⟨y, 7, none⟩ = some (.int .i64 z.at_) := hMz.c 7 (by omega); have u3 : wZ.cell? ⟨w1.heap.size, 3, none⟩ = some (.int .i64 y3) := hEz.c 3 (by omega); have s2 : wZ.cell? ⟨y, 7, none⟩ = some (.int .i64 (n : Int)) ∧ wZ.cell? ⟨w1.heap.size, 3, none⟩ = some (.int .i64 y3) := ⟨by { rw [u7, HAT.out] }, u3⟩; have hFz : Rcd w d g q ev mr (fun k => k = y) a b most v t wZ q ev := by { rw [← hwZ]; exact hit_fin HR.out HM.out ny nmy (ex_of (HB1.out.trans (HB2.out.mono HB1.out.size))) HR2.out (show Ex (fun k => k = y) w2 we from (Ex.refl _ _).drew.trans hxe) ⟨2, 0, true, y3, (n : Int)⟩ }; have HR9 := Lib.hid hRz; have HM9 := Lib.hid hMz; have HF9 := Lib.hid hFz; have HWZ := Lib.hid hwZ; rw [← hwZ] at s2; unfold put5 at s2 HWZ; clear hwZ hbz hRz hMz hEz u7 u3 hFz; clear hme hxe hRe hEe) | fail)
  go_wp2_with fail
  have HWE := HWZ.out
  rw [HWE]
  clear HWE
  have o0 : wZ.cell? ⟨w.heap.size, 0, none⟩ = some (.int .i64 2) := HR9.out.c 0 (by omega)
  have o1 : wZ.cell? ⟨w.heap.size, 1, none⟩ = some (.int .i64 0) := HR9.out.c 1 (by omega)
  have o2 : wZ.cell? ⟨w.heap.size, 2, none⟩ = some (.bool true) := HR9.out.c 2 (by omega)
  have o3 : wZ.cell? ⟨w.heap.size, 3, none⟩ = some (.int .i64 y3) := HR9.out.c 3 (by omega)
  have o4 : wZ.cell? ⟨w.heap.size, 4, none⟩ = some (.int .i64 (n : Int)) := HR9.out.c 4 (by omega)
  refine bodyPost_ret (v := .agg #[.int .i64 2, .int .i64 0, .bool true, .int .i64 y3, .int .i64 (n : Int)]) ?_ rfl ⟨rfl, HF9.out, HM9.out⟩
  simp [results, Tryz.results64, go_sem, o0, o1, o2, o3, o4]
set_option maxRecDepth 100000 in
set_option maxHeartbeats 8000000 in
theorem rhit_put {w : World} {d g q : Nat} {ev : Value} {t : Tb} {mr : Value} {most : Int} {v : Nat} {a b : Int} (hR : Rdc w d g q ev t mr most v) (hM : Ms w mr a b 0 0) (hv : v ≤ 1000000000) (ht : t.turn ≤ 1000000) (hlen : t.es.length ≤ 100000) {y : Nat} {sv : Value} {m : Ma} {z : Rz} (hm : Rm w y sv d m z) (ny : ¬ rX d g q ev y) (nmy : ¬ mB mr y) (n : Nat) (hat : z.at_ = (n : Int)) (hn : n < t.es.length) (hl0 : (nth t.es n).live = true) (h2 : m.goal = 2) :
    Calls Tryz.prog 64 #[.pointer (some ⟨y, 0, none⟩)] w fun e w' => e = .returned (tuV ⟨2, 0, true, (nth t.es n).value, (n : Int)⟩) ∧ Rcd w d g q ev mr (fun k => k = y) a b most (v + 1) (t.putv n m.value) w' q ev ∧ Rm w' y sv d m { z with over := true, u := ⟨2, 0, true, (nth t.es n).value, (n : Int)⟩ } := by
  obtain ⟨w1, hw1⟩ : ∃ V, w.alloc (.cells #[.int .i64 0, .int .i64 0, .bool false, .int .i64 0, .int .i64 0] 45) = V := ⟨_, rfl⟩
  obtain ⟨hX1, hB1, hs1⟩ := tu_zero_blk w hw1
  have hR1 := hR.below hB1
  have hm1 : Rm w1 y sv d m z := hm.of hB1 (by omega)
  have ly := hm.lt (by omega)
  obtain ⟨ae, cape, ge, ev1, hp, hro⟩ := hR1.rt.es.open
  have hnS : n < t.sh.es.length := by rw [Tb.sh_len]; exact hn
  obtain ⟨rfl, hob, hfz⟩ := hp (by omega)
  have hsh : nth t.sh.es n = nth t.es n := shown_hash hl0
  have d0 := hro.c0 n hnS
  have d1 := hro.c1 n hnS
  have d2 := hro.c2 n hnS
  have d3 := hro.c3 n hnS
  have d4 := hro.c4 n hnS
  rw [hsh] at d0 d1 d2 d3 d4
  have hle := hro.le
  rw [Tb.sh_len] at ev1 hle
  have k0 : w1.cell? ⟨y, 0, none⟩ = some (.pointer (some ⟨d, 0, none⟩)) := hm1.c 0 (by omega)
  have k1 : w1.cell? ⟨y, 1, none⟩ = some (.int .i64 (m.goal : Int)) := hm1.c 1 (by omega)
  have k4 : w1.cell? ⟨y, 4, none⟩ = some (.int .i64 m.value) := hm1.c 4 (by omega)
  have k7 : w1.cell? ⟨y, 7, none⟩ = some (.int .i64 (n : Int)) := by rw [← hat]; exact hm1.c 7 (by omega)
  have x1 : w1.cell? ⟨d, 1, none⟩ = some (.int .i64 (v : Int)) := hR1.hd.c 1 (by omega)
  have x2 : w1.cell? ⟨d, 2, none⟩ = some (.pointer (some ⟨g, 0, none⟩)) := hR1.hd.c 2 (by omega)
  have f0 : w1.cell? ⟨g, 0, none⟩ = some (.slice (some ⟨ge, 0, none⟩) t.es.length cape) := by rw [← ev1]; exact hR1.rt.hd.c 0 (by omega)
  have t1 : (n : Int) < (t.es.length : Int) := by omega
  have lge := hR1.rt.es.lt ge hob
  have ld := hR1.lt d (.inl rfl)
  have lg := hR1.lt g (.inr (.inl rfl))
  have l1 := hX1.lt (by omega)
  have HL0 := Lib.hid hl0
  clear hl0
  generalize (nth t.es n).live = y0 at d0 ⊢
  generalize (nth t.es n).hash = y1 at *
  generalize (nth t.es n).key = y2 at *
  generalize (nth t.es n).value = y3 at *
  generalize (nth t.es n).birth = y4 at *
  obtain ⟨w2, hw2⟩ : ∃ V, (w1.alloc (.cells #[.bool y0, .int .i64 y1, .int .i64 y2, .int .i64 y3, .int .i64 y4] 48)).drew = V := ⟨_, rfl⟩
  have hB2 : Below w1.heap.size w1 w2 := by rw [← hw2]; exact ((Below.refl _ w1).alloc (Nat.le_refl _) _).drew
  have hX2 : Blk w2 w1.heap.size 5 (fun j => #[Value.bool y0, .int .i64 y1, .int .i64 y2, .int .i64 y3, .int .i64 y4].getD j .nilFunc) := by rw [← hw2]; exact (Blk.new w1 #[.bool y0, .int .i64 y1, .int .i64 y2, .int .i64 y3, .int .i64 y4] 48).same rfl
  have hs2 : w2.heap.size = w1.heap.size + 1 := by rw [← hw2]; show (w1.alloc _).heap.size = _; simp
  have HKA : Hid (∀ o, (((w1.alloc o).cell? ⟨y, 0, none⟩ = some (.pointer (some ⟨d, 0, none⟩)) ∧ (w1.alloc o).cell? ⟨y, 7, none⟩ = some (.int .i64 (n : Int))) ∧ (w1.alloc o).cell? ⟨d, 2, none⟩ = some (.pointer (some ⟨g, 0, none⟩)) ∧ (w1.alloc o).cell? ⟨g, 0, none⟩ = some (.slice (some ⟨ge, 0, none⟩) t.es.length cape)) ∧ ((w1.alloc o).cell? ⟨ge, n * 5, none⟩ = some (.bool y0) ∧ (w1.alloc o).cell? ⟨ge, n * 5 + 1, none⟩ = some (.int .i64 y1) ∧ (w1.alloc o).cell? ⟨ge, n * 5 + 2, none⟩ = some (.int .i64 y2) ∧ (w1.alloc o).cell? ⟨ge, n * 5 + 3, none⟩ = some (.int .i64 y3) ∧ (w1.alloc o).cell? ⟨ge, n * 5 + 4, none⟩ = some (.int .i64 y4))) := fun o => by
    have e1 : (w1.alloc o).heap[y]? = w1.heap[y]? := Below.heap_alloc _ _ _ (by omega)
    have e2 : (w1.alloc o).heap[d]? = w1.heap[d]? := Below.heap_alloc _ _ _ ld
    have e3 : (w1.alloc o).heap[g]? = w1.heap[g]? := Below.heap_alloc _ _ _ lg
    have e4 : (w1.alloc o).heap[ge]? = w1.heap[ge]? := Below.heap_alloc _ _ _ lge
    exact ⟨⟨⟨(World.cell?_of_block (a := ⟨y, 0, none⟩) e1).trans k0, (World.cell?_of_block (a := ⟨y, 7, none⟩) e1).trans k7⟩, (World.cell?_of_block (a := ⟨d, 2, none⟩) e2).trans x2, (World.cell?_of_block (a := ⟨g, 0, none⟩) e3).trans f0⟩, (World.cell?_of_block (a := ⟨ge, n * 5, none⟩) e4).trans d0, (World.cell?_of_block (a := ⟨ge, n * 5 + 1, none⟩) e4).trans d1, (World.cell?_of_block (a := ⟨ge, n * 5 + 2, none⟩) e4).trans d2, (World.cell?_of_block (a := ⟨ge, n * 5 + 3, none⟩) e4).trans d3, (World.cell?_of_block (a := ⟨ge, n * 5 + 4, none⟩) e4).trans d4⟩
  have HR := Lib.hid hR
  have HR1 := Lib.hid hR1
  have HM := Lib.hid hM
  have HMX := Lib.hid hm
  have HB1 := Lib.hid hB1
  have HB2 := Lib.hid hB2
  have HX1 := Lib.hid hX1
  have HX2 := Lib.hid hX2
  have HW1 := Lib.hid hw1
  have HW2 := Lib.hid hw2
  have HS1 := Lib.hid hs1
  have HS2 := Lib.hid hs2
  have HN : Hid (n < t.es.length) := hn
  have HAT := Lib.hid hat
  have HL := HL0
  have HT := Lib.hid ht
  have HLN := Lib.hid hlen
  clear hR hM hm hm1 hro hob hfz hp ev1 hsh hnS hB1 hB2 hX1 hX2 hw1 hw2 hs1 hs2 hR1 lge ld lg hn ht hlen hat
  unfold tuV
  go_enter Tryz.func64, Tryz.ntmps64
  go_upto_region 1 with fail
  rw [HW1.out]
  go_region_held3 (fun V => (((V.cell? ⟨y, 0, none⟩ = some (.pointer (some ⟨d, 0, none⟩)) ∧ V.cell? ⟨y, 7, none⟩ = some (.int .i64 (n : Int))) ∧ V.cell? ⟨d, 2, none⟩ = some (.pointer (some ⟨g, 0, none⟩)) ∧ V.cell? ⟨g, 0, none⟩ = some (.slice (some ⟨ge, 0, none⟩) t.es.length cape)) ∧ (V.cell? ⟨ge, n * 5, none⟩ = some (.bool y0) ∧ V.cell? ⟨ge, n * 5 + 1, none⟩ = some (.int .i64 y1) ∧ V.cell? ⟨ge, n * 5 + 2, none⟩ = some (.int .i64 y2) ∧ V.cell? ⟨ge, n * 5 + 3, none⟩ = some (.int .i64 y3) ∧ V.cell? ⟨ge, n * 5 + 4, none⟩ = some (.int .i64 y4))))
    (first | exact ⟨⟨⟨k0, k7⟩, x2, f0⟩, d0, d1, d2, d3, d4⟩ | exact HKA.out _ | fail) (fail)
  rw [HW2.out]
  have HKP0 : Hid (∀ V, Ex (fun k => rX d g q ev k) w2 V → (∀ k, k < w.heap.size → ¬ rX d g q ev k → V.heap[k]? = w.heap[k]?) ∧ (∀ k, k < w1.heap.size → ¬ rX d g q ev k → V.heap[k]? = w1.heap[k]?) ∧ (∀ k, k < w2.heap.size → ¬ rX d g q ev k → V.heap[k]? = w2.heap[k]?)) := fun V hV => by
    have e1 := HS1.out
    have e2 := HS2.out
    refine ⟨fun k hk hn => ((hV.block k (by omega) hn).trans (HB2.out.block k (by omega))).trans (HB1.out.block k hk), fun k hk hn => (hV.block k (by omega) hn).trans (HB2.out.block k hk), fun k hk hn => hV.block k hk hn⟩
  have hR2 := HR1.out.below HB2.out
  have hm2 : Rm w2 y sv d m z := (HMX.out.of HB1.out (by omega)).of HB2.out (by have := HS1.out; omega)
  clear k0 k1 k4 k7 x1 x2 f0 d0 d1 d2 d3 d4 t1 HKA
  have k0 : w2.cell? ⟨y, 0, none⟩ = some (.pointer (some ⟨d, 0, none⟩)) := hm2.c 0 (by omega)
  have k1 : w2.cell? ⟨y, 1, none⟩ = some (.int .i64 (m.goal : Int)) := hm2.c 1 (by omega)
  have k4 : w2.cell? ⟨y, 4, none⟩ = some (.int .i64 m.value) := hm2.c 4 (by omega)
  have k7 : w2.cell? ⟨y, 7, none⟩ = some (.int .i64 (n : Int)) := by rw [← HAT.out]; exact hm2.c 7 (by omega)
  have x2 : w2.cell? ⟨d, 2, none⟩ = some (.pointer (some ⟨g, 0, none⟩)) := hR2.hd.c 2 (by omega)
  have HR2 := Lib.hid hR2
  have HM2 := Lib.hid hm2
  clear hR2 hm2
  have g2 : ((m.goal : Int) == 2) = true := by rw [beq_iff_eq]; omega
  have g3 : ((m.goal : Int) == 3) = false := by rw [beq_eq_false_iff_ne]; omega
  clear h2
  have C1 := rput_yes_s (HR2.out.below (Below.refl _ _).drew).rt n m.value HN.out HL0.out
  have hXX : ∀ w3, Ex (fun k => ev.ownBlock = some k) w2.drew w3 → Ex (fun k => rX d g q ev k) w2 w3 := fun w3 h => (Ex.refl _ w2).drew.next h (fun _ _ y => .inr (.inr (.inr y)))
  have hD3 : ∀ w3, Ex (fun k => ev.ownBlock = some k) w2.drew w3 → w3.heap[d]? = w2.heap[d]? := fun w3 h => h.block d (HR2.out.lt d (.inl rfl)) (fun y => HR.out.ne (.inr (.inr y)))
  have HXX := Lib.hid hXX
  have HD3 := Lib.hid hD3
  clear hXX hD3
  have ss0 : (w2.drew.cell? ⟨y, 0, none⟩ = some (.pointer (some ⟨d, 0, none⟩)) ∧ w2.drew.cell? ⟨d, 2, none⟩ = some (.pointer (some ⟨g, 0, none⟩))) ∧ w2.drew.cell? ⟨y, 7, none⟩ = some (.int .i64 (n : Int)) ∧ w2.drew.cell? ⟨y, 4, none⟩ = some (.int .i64 m.value) := ⟨⟨k0, x2⟩, k7, k4⟩
  go_upto_region 3 with fail
  go_region_held3 (fun V => (V.cell? ⟨y, 0, none⟩ = some (.pointer (some ⟨d, 0, none⟩)) ∧ V.cell? ⟨d, 2, none⟩ = some (.pointer (some ⟨g, 0, none⟩))) ∧ V.cell? ⟨y, 7, none⟩ = some (.int .i64 (n : Int)) ∧ V.cell? ⟨y, 4, none⟩ = some (.int .i64 m.value)) (first | with_reducible exact ss0 | with_reducible exact s1 | fail)
    (first | (go_at_call 82; refine C1.mono ?_; rintro e w3 ⟨rfl, hR3, hx3⟩; have hx3' := HXX.out w3 hx3; have hm3 : Rm w3 y sv d m z := HM2.out.same (hx3'.block y (HM2.out.lt (by omega)) ny); have hd3 : Blk w3 d 3 (rdF most v g) := HR2.out.hd.same (HD3.out w3 hx3); have s1 : (w3.cell? ⟨y, 0, none⟩ = some (.pointer (some ⟨d, 0, none⟩)) ∧ w3.cell? ⟨d, 2, none⟩ = some (.pointer (some ⟨g, 0, none⟩))) ∧ w3.cell? ⟨y, 7, none⟩ = some (.int .i64 (n : Int)) ∧ w3.cell? ⟨y, 4, none⟩ = some (.int .i64 m.value) := ⟨⟨hm3.c 0 (by omega), hd3.c 2 (by omega)⟩, by rw [← HAT.out]; exact hm3.c 7 (by omega), hm3.c 4 (by omega)⟩) | fail)
  have hR3' : Rdc w3 d g q ev (t.putv n m.value) mr most v := ⟨hd3, hR3, HR.out.ne, HR.out.nm⟩
  have b0 : w3.cell? ⟨y, 0, none⟩ = some (.pointer (some ⟨d, 0, none⟩)) := hm3.c 0 (by omega)
  have b1 : w3.cell? ⟨y, 1, none⟩ = some (.int .i64 (m.goal : Int)) := hm3.c 1 (by omega)
  have bd : w3.cell? ⟨d, 1, none⟩ = some (.int .i64 (v : Int)) := hd3.c 1 (by omega)
  have bz := hd3.z 1
  have e1 : IntKind.i64.wrap ((v : Int) + 1) = (v : Int) + 1 := i64_small (by omega) (by omega)
  have HR4 := Lib.hid hR3'.bump
  have HX4 : Hid (Ex (fun k => rX d g q ev k) w2 (w3.setCell ⟨d, 1, none⟩ (.int .i64 ((v : Int) + 1)))) := hx3'.setCell (p := ⟨d, 1, none⟩) (fun _ => .inl rfl) _
  clear C1 k0 k1 k4 k7 x2 s1 hR3 hx3 hx3' hm3 hd3 hR3' HXX HD3
  go_upto_region 5 with fail
  generalize World.setCell w3 _ _ = w4 at *
  clear b0 b1 bd bz
  have b1 : w4.cell? ⟨y, 1, none⟩ = some (.int .i64 (m.goal : Int)) := (HM2.out.same (HX4.out.block y (HM2.out.lt (by omega)) ny)).c 1 (by omega)
  obtain ⟨hkp, hk1, hk2⟩ := HKP0.out w4 HX4.out
  have HKP := Lib.hid hkp
  have HK1 := Lib.hid hk1
  have HK2 := Lib.hid hk2
  clear hkp hk1 hk2
  have hmc : Rm w4 y sv d m z := HMX.out.same (HKP.out y (by omega) (fun hx => ny hx))
  have hRc : Blk w4 w.heap.size 5 _ := HX1.out.same (HK1.out _ (by have := HS1.out; omega) (fun hx => by have := HR.out.lt _ hx; omega))
  have hEc : Blk w4 w1.heap.size 5 _ := HX2.out.same (HK2.out _ (by have := HS2.out; omega) (fun hx => by have := HR.out.lt _ hx; have := HS1.out; omega))
  have c7 : w4.drew.cell? ⟨y, 7, none⟩ = some (.int .i64 (n : Int)) := by rw [← HAT.out]; exact hmc.c 7 (by omega)
  have p3 : w4.drew.cell? ⟨w1.heap.size, 3, none⟩ = some (.int .i64 y3) := hEc.c 3 (by omega)
  have hmd : Rm w4.drew y sv d m z := hmc.same rfl
  have CE : Calls Tryz.prog 83 #[.pointer (some ⟨y, 0, none⟩), .agg #[.int .i64 2, .int .i64 0, .bool true, .int .i64 y3, .int .i64 (n : Int)]] w4.drew fun e w' => e = .returned (.agg #[.int .i64 2, .int .i64 0, .bool true, .int .i64 y3, .int .i64 (n : Int)]) ∧ Rm w' y sv d m { z with over := true, u := ⟨2, 0, true, y3, (n : Int)⟩ } ∧ Ex (fun k => k = y) w4.drew w' := rends_any hmd ⟨2, 0, true, y3, (n : Int)⟩
  have hyR : w.heap.size ≠ y := by omega
  have hyE : w1.heap.size ≠ y := by have := HS1.out; omega
  have hRE : w1.heap.size ≠ w.heap.size := by have := HS1.out; omega
  have hlR := hRc.lt (by omega)
  have hlE := hEc.lt (by omega)
  have HRc := Lib.hid hRc
  have HEc := Lib.hid hEc
  clear hmc hRc hEc hmd
  go_upto_region 8 with fail
  go_region_held3 (fun V => V.cell? ⟨y, 7, none⟩ = some (.int .i64 (n : Int)) ∧ V.cell? ⟨w1.heap.size, 3, none⟩ = some (.int .i64 y3))
    (first | with_reducible exact ⟨c7, p3⟩ | with_reducible exact s1 | with_reducible exact s2 | fail)
    (first | (go_at_call 83; refine CE.mono ?_; rintro e we ⟨rfl, hme, hxe⟩; have hRe := HRc.out.same (w' := we) (hxe.block _ hlR hyR); have hEe := HEc.out.same (w' := we) (hxe.block _ hlE hyE); have q0 : we.cell? ⟨w.heap.size, 0, none⟩ = some (.int .i64 0) := hRe.c 0 (by omega); have q1 : we.cell? ⟨w.heap.size, 1, none⟩ = some (.int .i64 0) := hRe.c 1 (by omega); have q2 : we.cell? ⟨w.heap.size, 2, none⟩ = some (.bool false) := hRe.c 2 (by omega); have q3 : we.cell? ⟨w.heap.size, 3, none⟩ = some (.int .i64 0) := hRe.c 3 (by omega); have q4 : we.cell? ⟨w.heap.size, 4, none⟩ = some (.int .i64 0) := hRe.c 4 (by omega); have z0 := hRe.z 0; have z1 := hRe.z 1; have z2 := hRe.z 2; have z3 := hRe.z 3; have z4 := hRe.z 4; have s1 : we.cell? ⟨y, 7, none⟩ = some (.int .i64 (n : Int)) ∧ we.cell? ⟨w1.heap.size, 3, none⟩ = some (.int .i64 y3) := ⟨by rw [← HAT.out]; exact hme.c 7 (by omega), hEe.c 3 (by omega)⟩; obtain ⟨wZ, hwZ⟩ : ∃ V, (put5 we w.heap.size (.int .i64 2) (.int .i64 0) (.bool true) (.int .i64 y3) (.int .i64 (n : Int))) = V := ⟨_, rfl⟩; have hbz : ∀ k, k ≠ w.heap.size → wZ.heap[k]? = we.heap[k]? := fun k hk => by { rw [← hwZ]; exact putU_other we w.heap.size ⟨2, 0, true, y3, (n : Int)⟩ k hk }; have hRz : Blk wZ w.heap.size 5 (fun j => [Value.int .i64 2, .int .i64 0, .bool true, .int .i64 y3, .int .i64 (n : Int)].getD j .nilFunc) := by { rw [← hwZ]; exact put5_blk hRe _ _ _ _ _ }; have hMz : Rm wZ y sv d m { z with over := true, u := ⟨2, 0, true, y3, (n : Int)⟩ } := hme.same (hbz _ hyR.symm); have hEz := hEe.same (w' := wZ) (hbz _ hRE); have u7 : wZ.cell? ⟨y, 7, none⟩ = some (.int .i64 z.at_) := hMz.c 7 (by omega); have u3 : wZ.cell? ⟨w1.heap.size, 3, none⟩ = some (.int .i64 y3) := hEz.c 3 (by omega); have s2 : wZ.cell? ⟨y, 7, none⟩ = some (.int .i64 (n : Int)) ∧ wZ.cell? ⟨w1.heap.size, 3, none⟩ = some (.int .i64 y3) := ⟨by { rw [u7, HAT.out] }, u3⟩; have hFz : Rcd w d g q ev mr (fun k => k = y) a b most (v + 1) (t.putv n m.value) wZ q ev := by { rw [← hwZ]; exact hit_fin HR.out HM.out ny nmy ((show Ex (fun k => rX d g q ev k) w w2 from ex_of (HB1.out.trans (HB2.out.mono HB1.out.size))).trans HX4.out) HR4.out (show Ex (fun k => k = y) w4 we from (Ex.refl _ _).drew.trans hxe) ⟨2, 0, true, y3, (n : Int)⟩ }; have HR9 := Lib.hid hRz; have HM9 := Lib.hid hMz; have HF9 := Lib.hid hFz; have HWZ := Lib.hid hwZ; rw [← hwZ] at s2; unfold put5 at s2 HWZ; clear hwZ hbz hRz hMz hEz u7 u3 hFz; clear hme hxe hRe hEe) | fail)
  go_wp2_with fail
  have HWE := HWZ.out
  rw [HWE]
  clear HWE
  have o0 : wZ.cell? ⟨w.heap.size, 0, none⟩ = some (.int .i64 2) := HR9.out.c 0 (by omega)
  have o1 : wZ.cell? ⟨w.heap.size, 1, none⟩ = some (.int .i64 0) := HR9.out.c 1 (by omega)
  have o2 : wZ.cell? ⟨w.heap.size, 2, none⟩ = some (.bool true) := HR9.out.c 2 (by omega)
  have o3 : wZ.cell? ⟨w.heap.size, 3, none⟩ = some (.int .i64 y3) := HR9.out.c 3 (by omega)
  have o4 : wZ.cell? ⟨w.heap.size, 4, none⟩ = some (.int .i64 (n : Int)) := HR9.out.c 4 (by omega)
  refine bodyPost_ret (v := .agg #[.int .i64 2, .int .i64 0, .bool true, .int .i64 y3, .int .i64 (n : Int)]) ?_ rfl ⟨rfl, HF9.out, HM9.out⟩
  simp [results, Tryz.results64, go_sem, o0, o1, o2, o3, o4]
set_option maxRecDepth 100000 in
set_option maxHeartbeats 8000000 in
theorem rhit_del {w : World} {d g q : Nat} {ev : Value} {t : Tb} {mr : Value} {most : Int} {v : Nat} {a b : Int} (hR : Rdc w d g q ev t mr most v) (hM : Ms w mr a b 0 0) (hv : v ≤ 1000000000) (ht : t.turn ≤ 1000000) (hlen : t.es.length ≤ 100000) {y : Nat} {sv : Value} {m : Ma} {z : Rz} (hm : Rm w y sv d m z) (ny : ¬ rX d g q ev y) (nmy : ¬ mB mr y) (n : Nat) (hat : z.at_ = (n : Int)) (hn : n < t.es.length) (hl0 : (nth t.es n).live = true) (h3 : m.goal = 3) :
    Calls Tryz.prog 64 #[.pointer (some ⟨y, 0, none⟩)] w fun e w' => e = .returned (tuV ⟨2, 0, true, (nth t.es n).value, (n : Int)⟩) ∧ Rcd w d g q ev mr (fun k => k = y) a b most (v + 1) (t.kill n) w' q ev ∧ Rm w' y sv d m { z with over := true, u := ⟨2, 0, true, (nth t.es n).value, (n : Int)⟩ } := by
  obtain ⟨w1, hw1⟩ : ∃ V, w.alloc (.cells #[.int .i64 0, .int .i64 0, .bool false, .int .i64 0, .int .i64 0] 45) = V := ⟨_, rfl⟩
  obtain ⟨hX1, hB1, hs1⟩ := tu_zero_blk w hw1
  have hR1 := hR.below hB1
  have hm1 : Rm w1 y sv d m z := hm.of hB1 (by omega)
  have ly := hm.lt (by omega)
  obtain ⟨ae, cape, ge, ev1, hp, hro⟩ := hR1.rt.es.open
  have hnS : n < t.sh.es.length := by rw [Tb.sh_len]; exact hn
  obtain ⟨rfl, hob, hfz⟩ := hp (by omega)
  have hsh : nth t.sh.es n = nth t.es n := shown_hash hl0
  have d0 := hro.c0 n hnS
  have d1 := hro.c1 n hnS
  have d2 := hro.c2 n hnS
  have d3 := hro.c3 n hnS
  have d4 := hro.c4 n hnS
  rw [hsh] at d0 d1 d2 d3 d4
  have hle := hro.le
  rw [Tb.sh_len] at ev1 hle
  have k0 : w1.cell? ⟨y, 0, none⟩ = some (.pointer (some ⟨d, 0, none⟩)) := hm1.c 0 (by omega)
  have k1 : w1.cell? ⟨y, 1, none⟩ = some (.int .i64 (m.goal : Int)) := hm1.c 1 (by omega)
  have k4 : w1.cell? ⟨y, 4, none⟩ = some (.int .i64 m.value) := hm1.c 4 (by omega)
  have k7 : w1.cell? ⟨y, 7, none⟩ = some (.int .i64 (n : Int)) := by rw [← hat]; exact hm1.c 7 (by omega)
  have x1 : w1.cell? ⟨d, 1, none⟩ = some (.int .i64 (v : Int)) := hR1.hd.c 1 (by omega)
  have x2 : w1.cell? ⟨d, 2, none⟩ = some (.pointer (some ⟨g, 0, none⟩)) := hR1.hd.c 2 (by omega)
  have f0 : w1.cell? ⟨g, 0, none⟩ = some (.slice (some ⟨ge, 0, none⟩) t.es.length cape) := by rw [← ev1]; exact hR1.rt.hd.c 0 (by omega)
  have t1 : (n : Int) < (t.es.length : Int) := by omega
  have lge := hR1.rt.es.lt ge hob
  have ld := hR1.lt d (.inl rfl)
  have lg := hR1.lt g (.inr (.inl rfl))
  have l1 := hX1.lt (by omega)
  have HL0 := Lib.hid hl0
  clear hl0
  generalize (nth t.es n).live = y0 at d0 ⊢
  generalize (nth t.es n).hash = y1 at *
  generalize (nth t.es n).key = y2 at *
  generalize (nth t.es n).value = y3 at *
  generalize (nth t.es n).birth = y4 at *
  obtain ⟨w2, hw2⟩ : ∃ V, (w1.alloc (.cells #[.bool y0, .int .i64 y1, .int .i64 y2, .int .i64 y3, .int .i64 y4] 48)).drew = V := ⟨_, rfl⟩
  have hB2 : Below w1.heap.size w1 w2 := by rw [← hw2]; exact ((Below.refl _ w1).alloc (Nat.le_refl _) _).drew
  have hX2 : Blk w2 w1.heap.size 5 (fun j => #[Value.bool y0, .int .i64 y1, .int .i64 y2, .int .i64 y3, .int .i64 y4].getD j .nilFunc) := by rw [← hw2]; exact (Blk.new w1 #[.bool y0, .int .i64 y1, .int .i64 y2, .int .i64 y3, .int .i64 y4] 48).same rfl
  have hs2 : w2.heap.size = w1.heap.size + 1 := by rw [← hw2]; show (w1.alloc _).heap.size = _; simp
  have HKA : Hid (∀ o, (((w1.alloc o).cell? ⟨y, 0, none⟩ = some (.pointer (some ⟨d, 0, none⟩)) ∧ (w1.alloc o).cell? ⟨y, 7, none⟩ = some (.int .i64 (n : Int))) ∧ (w1.alloc o).cell? ⟨d, 2, none⟩ = some (.pointer (some ⟨g, 0, none⟩)) ∧ (w1.alloc o).cell? ⟨g, 0, none⟩ = some (.slice (some ⟨ge, 0, none⟩) t.es.length cape)) ∧ ((w1.alloc o).cell? ⟨ge, n * 5, none⟩ = some (.bool y0) ∧ (w1.alloc o).cell? ⟨ge, n * 5 + 1, none⟩ = some (.int .i64 y1) ∧ (w1.alloc o).cell? ⟨ge, n * 5 + 2, none⟩ = some (.int .i64 y2) ∧ (w1.alloc o).cell? ⟨ge, n * 5 + 3, none⟩ = some (.int .i64 y3) ∧ (w1.alloc o).cell? ⟨ge, n * 5 + 4, none⟩ = some (.int .i64 y4))) := fun o => by
    have e1 : (w1.alloc o).heap[y]? = w1.heap[y]? := Below.heap_alloc _ _ _ (by omega)
    have e2 : (w1.alloc o).heap[d]? = w1.heap[d]? := Below.heap_alloc _ _ _ ld
    have e3 : (w1.alloc o).heap[g]? = w1.heap[g]? := Below.heap_alloc _ _ _ lg
    have e4 : (w1.alloc o).heap[ge]? = w1.heap[ge]? := Below.heap_alloc _ _ _ lge
    exact ⟨⟨⟨(World.cell?_of_block (a := ⟨y, 0, none⟩) e1).trans k0, (World.cell?_of_block (a := ⟨y, 7, none⟩) e1).trans k7⟩, (World.cell?_of_block (a := ⟨d, 2, none⟩) e2).trans x2, (World.cell?_of_block (a := ⟨g, 0, none⟩) e3).trans f0⟩, (World.cell?_of_block (a := ⟨ge, n * 5, none⟩) e4).trans d0, (World.cell?_of_block (a := ⟨ge, n * 5 + 1, none⟩) e4).trans d1, (World.cell?_of_block (a := ⟨ge, n * 5 + 2, none⟩) e4).trans d2, (World.cell?_of_block (a := ⟨ge, n * 5 + 3, none⟩) e4).trans d3, (World.cell?_of_block (a := ⟨ge, n * 5 + 4, none⟩) e4).trans d4⟩
  have HR := Lib.hid hR
  have HR1 := Lib.hid hR1
  have HM := Lib.hid hM
  have HMX := Lib.hid hm
  have HB1 := Lib.hid hB1
  have HB2 := Lib.hid hB2
  have HX1 := Lib.hid hX1
  have HX2 := Lib.hid hX2
  have HW1 := Lib.hid hw1
  have HW2 := Lib.hid hw2
  have HS1 := Lib.hid hs1
  have HS2 := Lib.hid hs2
  have HN : Hid (n < t.es.length) := hn
  have HAT := Lib.hid hat
  have HL := HL0
  have HT := Lib.hid ht
  have HLN := Lib.hid hlen
  clear hR hM hm hm1 hro hob hfz hp ev1 hsh hnS hB1 hB2 hX1 hX2 hw1 hw2 hs1 hs2 hR1 lge ld lg hn ht hlen hat
  unfold tuV
  go_enter Tryz.func64, Tryz.ntmps64
  go_upto_region 1 with fail
  rw [HW1.out]
  go_region_held3 (fun V => (((V.cell? ⟨y, 0, none⟩ = some (.pointer (some ⟨d, 0, none⟩)) ∧ V.cell? ⟨y, 7, none⟩ = some (.int .i64 (n : Int))) ∧ V.cell? ⟨d, 2, none⟩ = some (.pointer (some ⟨g, 0, none⟩)) ∧ V.cell? ⟨g, 0, none⟩ = some (.slice (some ⟨ge, 0, none⟩) t.es.length cape)) ∧ (V.cell? ⟨ge, n * 5, none⟩ = some (.bool y0) ∧ V.cell? ⟨ge, n * 5 + 1, none⟩ = some (.int .i64 y1) ∧ V.cell? ⟨ge, n * 5 + 2, none⟩ = some (.int .i64 y2) ∧ V.cell? ⟨ge, n * 5 + 3, none⟩ = some (.int .i64 y3) ∧ V.cell? ⟨ge, n * 5 + 4, none⟩ = some (.int .i64 y4))))
    (first | exact ⟨⟨⟨k0, k7⟩, x2, f0⟩, d0, d1, d2, d3, d4⟩ | exact HKA.out _ | fail) (fail)
  rw [HW2.out]
  have HKP0 : Hid (∀ V, Ex (fun k => rX d g q ev k) w2 V → (∀ k, k < w.heap.size → ¬ rX d g q ev k → V.heap[k]? = w.heap[k]?) ∧ (∀ k, k < w1.heap.size → ¬ rX d g q ev k → V.heap[k]? = w1.heap[k]?) ∧ (∀ k, k < w2.heap.size → ¬ rX d g q ev k → V.heap[k]? = w2.heap[k]?)) := fun V hV => by
    have e1 := HS1.out
    have e2 := HS2.out
    refine ⟨fun k hk hn => ((hV.block k (by omega) hn).trans (HB2.out.block k (by omega))).trans (HB1.out.block k hk), fun k hk hn => (hV.block k (by omega) hn).trans (HB2.out.block k hk), fun k hk hn => hV.block k hk hn⟩
  have hR2 := HR1.out.below HB2.out
  have hm2 : Rm w2 y sv d m z := (HMX.out.of HB1.out (by omega)).of HB2.out (by have := HS1.out; omega)
  clear k0 k1 k4 k7 x1 x2 f0 d0 d1 d2 d3 d4 t1 HKA
  have k0 : w2.cell? ⟨y, 0, none⟩ = some (.pointer (some ⟨d, 0, none⟩)) := hm2.c 0 (by omega)
  have k1 : w2.cell? ⟨y, 1, none⟩ = some (.int .i64 (m.goal : Int)) := hm2.c 1 (by omega)
  have k4 : w2.cell? ⟨y, 4, none⟩ = some (.int .i64 m.value) := hm2.c 4 (by omega)
  have k7 : w2.cell? ⟨y, 7, none⟩ = some (.int .i64 (n : Int)) := by rw [← HAT.out]; exact hm2.c 7 (by omega)
  have x2 : w2.cell? ⟨d, 2, none⟩ = some (.pointer (some ⟨g, 0, none⟩)) := hR2.hd.c 2 (by omega)
  have HR2 := Lib.hid hR2
  have HM2 := Lib.hid hm2
  clear hR2 hm2
  have g2 : ((m.goal : Int) == 2) = false := by rw [beq_eq_false_iff_ne]; omega
  have g3 : ((m.goal : Int) == 3) = true := by rw [beq_iff_eq]; omega
  clear h3
  have C1 := rkill_yes_s (HR2.out.below (Below.refl _ _).drew).rt n HN.out HL0.out HLN.out HT.out
  have hXX : ∀ w3, Ex (fun k => k = g ∨ k = q ∨ ev.ownBlock = some k) w2.drew w3 → Ex (fun k => rX d g q ev k) w2 w3 := fun w3 h => (Ex.refl _ w2).drew.next h (fun _ _ y => .inr y)
  have hD3 : ∀ w3, Ex (fun k => k = g ∨ k = q ∨ ev.ownBlock = some k) w2.drew w3 → w3.heap[d]? = w2.heap[d]? := fun w3 h => h.block d (HR2.out.lt d (.inl rfl)) (fun y => HR.out.ne y)
  have HXX := Lib.hid hXX
  have HD3 := Lib.hid hD3
  clear hXX hD3
  have ss0 : (w2.drew.cell? ⟨y, 0, none⟩ = some (.pointer (some ⟨d, 0, none⟩)) ∧ w2.drew.cell? ⟨d, 2, none⟩ = some (.pointer (some ⟨g, 0, none⟩))) ∧ w2.drew.cell? ⟨y, 7, none⟩ = some (.int .i64 (n : Int)) := ⟨⟨k0, x2⟩, k7⟩
  go_upto_region 6 with fail
  go_region_held3 (fun V => (V.cell? ⟨y, 0, none⟩ = some (.pointer (some ⟨d, 0, none⟩)) ∧ V.cell? ⟨d, 2, none⟩ = some (.pointer (some ⟨g, 0, none⟩))) ∧ V.cell? ⟨y, 7, none⟩ = some (.int .i64 (n : Int))) (first | with_reducible exact ss0 | with_reducible exact s1 | fail)
    (first | (go_at_call 68; refine C1.mono ?_; rintro e w3 ⟨rfl, hR3, hx3⟩; have hx3' := HXX.out w3 hx3; have hm3 : Rm w3 y sv d m z := HM2.out.same (hx3'.block y (HM2.out.lt (by omega)) ny); have hd3 : Blk w3 d 3 (rdF most v g) := HR2.out.hd.same (HD3.out w3 hx3); have s1 : (w3.cell? ⟨y, 0, none⟩ = some (.pointer (some ⟨d, 0, none⟩)) ∧ w3.cell? ⟨d, 2, none⟩ = some (.pointer (some ⟨g, 0, none⟩))) ∧ w3.cell? ⟨y, 7, none⟩ = some (.int .i64 (n : Int)) := ⟨⟨hm3.c 0 (by omega), hd3.c 2 (by omega)⟩, by rw [← HAT.out]; exact hm3.c 7 (by omega)⟩) | fail)
  have hR3' : Rdc w3 d g q ev (t.kill n) mr most v := ⟨hd3, hR3, HR.out.ne, HR.out.nm⟩
  have b0 : w3.cell? ⟨y, 0, none⟩ = some (.pointer (some ⟨d, 0, none⟩)) := hm3.c 0 (by omega)
  have b1 : w3.cell? ⟨y, 1, none⟩ = some (.int .i64 (m.goal : Int)) := hm3.c 1 (by omega)
  have bd : w3.cell? ⟨d, 1, none⟩ = some (.int .i64 (v : Int)) := hd3.c 1 (by omega)
  have bz := hd3.z 1
  have e1 : IntKind.i64.wrap ((v : Int) + 1) = (v : Int) + 1 := i64_small (by omega) (by omega)
  have HR4 := Lib.hid hR3'.bump
  have HX4 : Hid (Ex (fun k => rX d g q ev k) w2 (w3.setCell ⟨d, 1, none⟩ (.int .i64 ((v : Int) + 1)))) := hx3'.setCell (p := ⟨d, 1, none⟩) (fun _ => .inl rfl) _
  clear C1 k0 k1 k4 k7 x2 s1 hR3 hx3 hx3' hm3 hd3 hR3' HXX HD3
  go_upto_region 8 with fail
  generalize World.setCell w3 _ _ = w4 at *
  clear b0 b1 bd bz
  obtain ⟨hkp, hk1, hk2⟩ := HKP0.out w4 HX4.out
  have HKP := Lib.hid hkp
  have HK1 := Lib.hid hk1
  have HK2 := Lib.hid hk2
  clear hkp hk1 hk2
  have hmc : Rm w4 y sv d m z := HMX.out.same (HKP.out y (by omega) (fun hx => ny hx))
  have hRc : Blk w4 w.heap.size 5 _ := HX1.out.same (HK1.out _ (by have := HS1.out; omega) (fun hx => by have := HR.out.lt _ hx; omega))
  have hEc : Blk w4 w1.heap.size 5 _ := HX2.out.same (HK2.out _ (by have := HS2.out; omega) (fun hx => by have := HR.out.lt _ hx; have := HS1.out; omega))
  have c7 : w4.drew.cell? ⟨y, 7, none⟩ = some (.int .i64 (n : Int)) := by rw [← HAT.out]; exact hmc.c 7 (by omega)
  have p3 : w4.drew.cell? ⟨w1.heap.size, 3, none⟩ = some (.int .i64 y3) := hEc.c 3 (by omega)
  have hmd : Rm w4.drew y sv d m z := hmc.same rfl
  have CE : Calls Tryz.prog 83 #[.pointer (some ⟨y, 0, none⟩), .agg #[.int .i64 2, .int .i64 0, .bool true, .int .i64 y3, .int .i64 (n : Int)]] w4.drew fun e w' => e = .returned (.agg #[.int .i64 2, .int .i64 0, .bool true, .int .i64 y3, .int .i64 (n : Int)]) ∧ Rm w' y sv d m { z with over := true, u := ⟨2, 0, true, y3, (n : Int)⟩ } ∧ Ex (fun k => k = y) w4.drew w' := rends_any hmd ⟨2, 0, true, y3, (n : Int)⟩
  have hyR : w.heap.size ≠ y := by omega
  have hyE : w1.heap.size ≠ y := by have := HS1.out; omega
  have hRE : w1.heap.size ≠ w.heap.size := by have := HS1.out; omega
  have hlR := hRc.lt (by omega)
  have hlE := hEc.lt (by omega)
  have HRc := Lib.hid hRc
  have HEc := Lib.hid hEc
  clear hmc hRc hEc hmd
  go_upto_region 8 with fail
  go_region_held3 (fun V => V.cell? ⟨y, 7, none⟩ = some (.int .i64 (n : Int)) ∧ V.cell? ⟨w1.heap.size, 3, none⟩ = some (.int .i64 y3))
    (first | with_reducible exact ⟨c7, p3⟩ | with_reducible exact s1 | with_reducible exact s2 | fail)
    (first | (go_at_call 83; refine CE.mono ?_; rintro e we ⟨rfl, hme, hxe⟩; have hRe := HRc.out.same (w' := we) (hxe.block _ hlR hyR); have hEe := HEc.out.same (w' := we) (hxe.block _ hlE hyE); have q0 : we.cell? ⟨w.heap.size, 0, none⟩ = some (.int .i64 0) := hRe.c 0 (by omega); have q1 : we.cell? ⟨w.heap.size, 1, none⟩ = some (.int .i64 0) := hRe.c 1 (by omega); have q2 : we.cell? ⟨w.heap.size, 2, none⟩ = some (.bool false) := hRe.c 2 (by omega); have q3 : we.cell? ⟨w.heap.size, 3, none⟩ = some (.int .i64 0) := hRe.c 3 (by omega); have q4 : we.cell? ⟨w.heap.size, 4, none⟩ = some (.int .i64 0) := hRe.c 4 (by omega); have z0 := hRe.z 0; have z1 := hRe.z 1; have z2 := hRe.z 2; have z3 := hRe.z 3; have z4 := hRe.z 4; have s1 : we.cell? ⟨y, 7, none⟩ = some (.int .i64 (n : Int)) ∧ we.cell? ⟨w1.heap.size, 3, none⟩ = some (.int .i64 y3) := ⟨by rw [← HAT.out]; exact hme.c 7 (by omega), hEe.c 3 (by omega)⟩; obtain ⟨wZ, hwZ⟩ : ∃ V, (put5 we w.heap.size (.int .i64 2) (.int .i64 0) (.bool true) (.int .i64 y3) (.int .i64 (n : Int))) = V := ⟨_, rfl⟩; have hbz : ∀ k, k ≠ w.heap.size → wZ.heap[k]? = we.heap[k]? := fun k hk => by { rw [← hwZ]; exact putU_other we w.heap.size ⟨2, 0, true, y3, (n : Int)⟩ k hk }; have hRz : Blk wZ w.heap.size 5 (fun j => [Value.int .i64 2, .int .i64 0, .bool true, .int .i64 y3, .int .i64 (n : Int)].getD j .nilFunc) := by { rw [← hwZ]; exact put5_blk hRe _ _ _ _ _ }; have hMz : Rm wZ y sv d m { z with over := true, u := ⟨2, 0, true, y3, (n : Int)⟩ } := hme.same (hbz _ hyR.symm); have hEz := hEe.same (w' := wZ) (hbz _ hRE); have u7 : wZ.cell? ⟨y, 7, none⟩ = some (.int .i64 z.at_) := hMz.c 7 (by omega); have u3 : wZ.cell? ⟨w1.heap.size, 3, none⟩ = some (.int .i64 y3) := hEz.c 3 (by omega); have s2 : wZ.cell? ⟨y, 7, none⟩ = some (.int .i64 (n : Int)) ∧ wZ.cell? ⟨w1.heap.size, 3, none⟩ = some (.int .i64 y3) := ⟨by { rw [u7, HAT.out] }, u3⟩; have hFz : Rcd w d g q ev mr (fun k => k = y) a b most (v + 1) (t.kill n) wZ q ev := by { rw [← hwZ]; exact hit_fin HR.out HM.out ny nmy ((show Ex (fun k => rX d g q ev k) w w2 from ex_of (HB1.out.trans (HB2.out.mono HB1.out.size))).trans HX4.out) HR4.out (show Ex (fun k => k = y) w4 we from (Ex.refl _ _).drew.trans hxe) ⟨2, 0, true, y3, (n : Int)⟩ }; have HR9 := Lib.hid hRz; have HM9 := Lib.hid hMz; have HF9 := Lib.hid hFz; have HWZ := Lib.hid hwZ; rw [← hwZ] at s2; unfold put5 at s2 HWZ; clear hwZ hbz hRz hMz hEz u7 u3 hFz; clear hme hxe hRe hEe) | fail)
  go_wp2_with fail
  have HWE := HWZ.out
  rw [HWE]
  clear HWE
  have o0 : wZ.cell? ⟨w.heap.size, 0, none⟩ = some (.int .i64 2) := HR9.out.c 0 (by omega)
  have o1 : wZ.cell? ⟨w.heap.size, 1, none⟩ = some (.int .i64 0) := HR9.out.c 1 (by omega)
  have o2 : wZ.cell? ⟨w.heap.size, 2, none⟩ = some (.bool true) := HR9.out.c 2 (by omega)
  have o3 : wZ.cell? ⟨w.heap.size, 3, none⟩ = some (.int .i64 y3) := HR9.out.c 3 (by omega)
  have o4 : wZ.cell? ⟨w.heap.size, 4, none⟩ = some (.int .i64 (n : Int)) := HR9.out.c 4 (by omega)
  refine bodyPost_ret (v := .agg #[.int .i64 2, .int .i64 0, .bool true, .int .i64 y3, .int .i64 (n : Int)]) ?_ rfl ⟨rfl, HF9.out, HM9.out⟩
  simp [results, Tryz.results64, go_sem, o0, o1, o2, o3, o4]
end Go.Proofs.YtejfmajbggmghaaGreat
