/-
  The law's step: a machine's Step on both sides.
-/
import Derived.Test.YtfhpkoakalihkaaGreatGp
namespace Go.Proofs.YtfhpkoakalihkaaGreat
open Go.RowKit Go.WideShapes

/-- A row of pointers, laid open. -/
theorem row_open {w : World} {T : TypeId} {v : Value} {n : Nat} {f : Nat → Nat} (h : w.ownsRow 0 T 1 v n (ptrs f n)) {j : Nat} (hj : j < n) : ∃ g cap, v = .slice (some ⟨g, 0, none⟩) n cap ∧ n ≤ cap ∧ g < w.heap.size ∧ v.ownBlock = some g ∧ w.cell? ⟨g, j, none⟩ = some (.pointer (some ⟨f j, 0, none⟩)) := by
  have h0 := h
  rcases h.2 with ⟨_, h1⟩ | ⟨g, cap, cur, rfl, hg, hh, hc, _⟩
  · omega
  · refine ⟨g, cap, rfl, hc, (Array.getElem?_eq_some_iff.1 hh).1, rfl, ?_⟩
    rw [h0.cellAt j (by omega)]
    exact ptrs_get f n j hj
theorem row_len {w : World} {T : TypeId} {v : Value} {n : Nat} {xs : List Value} (h : w.ownsRow 0 T 1 v n xs) : ∃ a cap, v = .slice a n cap ∧ n ≤ cap := by
  rcases h.2 with ⟨rfl, h1⟩ | ⟨g, cap, cur, rfl, hg, hh, hc, _⟩
  · exact ⟨none, 0, by rw [h1], by omega⟩
  · exact ⟨_, cap, rfl, hc⟩
theorem tuE_refl (u : Tu) : tuE u u = true := by unfold tuE; simp
/-- What Scan tells of both. -/
theorem scan_both {w : World} {p : Dp} {q : Mp} {c : Nat} (h : Mk w w p q c) (h0 : q.m.scans ≠ 0) : ∃ n : Int, (∀ V : World, V.heap = w.heap → Calls Tryz.prog 51 #[.pointer (some ⟨q.x, 0, none⟩)] V fun e w' => e = .returned (.int .i64 n) ∧ w' = V) ∧ ∀ V : World, V.heap = w.heap → Calls Tryz.prog 79 #[.pointer (some ⟨q.y, 0, none⟩)] V fun e w' => e = .returned (.int .i64 n) ∧ w' = V := by
  rcases h.sk with ⟨h1, _⟩ | ⟨s, s2, vis, h1, h2, _, h4, h5, _⟩
  · exact absurd h1 h0
  · have hmc := h.mc
    have hrm := h.rm
    rw [h1] at hmc
    rw [h2] at hrm
    obtain ⟨_, _, _, _, _, _, k1⟩ := h4
    obtain ⟨_, _, _, _, _, _, _, k2⟩ := h5
    exact ⟨(vis : Int), fun V hV => scan_any (Blk.same hmc (by rw [hV])) (Blk.c (Blk.same k1 (by rw [hV])) 7 (by omega)), fun V hV => rscan_yes (Blk.same hrm (by rw [hV])) (Blk.c (Blk.same k2 (by rw [hV])) 6 (by omega))⟩
set_option maxRecDepth 100000 in
set_option maxHeartbeats 8000000 in
theorem twostep_any {w : World} {X : Nat} {S : St8} {pm pr : Option Addr} {M : Int → Int → World → Prop} {a b most : Int} {c : Nat} (hP : P8 w X S (.pointer pm) (.pointer pr) M a b most c) (hMo : MtOk (.pointer pm) M) (hMv : MvOk (.pointer pm) M) (hc : c ≤ 50000) {j : Nat} (hj : j < S.nm) :
    Calls Tryz.prog 30 #[.pointer (some ⟨X, 0, none⟩), .int .i64 (j : Int)] w fun e w' => ∃ u, e = .returned (.tuple #[tuV u, .bool true]) ∧ ∃ S' a' b', D8 w X S (.pointer pm) (.pointer pr) M most (c + 1) S' a' b' w' ∧ S'.nm = S.nm ∧ S'.nd = S.nd := by
  obtain ⟨w1, hw1⟩ : ∃ V, w.alloc (.cells #[.int .i64 0, .int .i64 0, .bool false, .int .i64 0, .int .i64 0] 81) = V := ⟨_, rfl⟩
  obtain ⟨hX1, hB1, hs1⟩ := tu_zero_blk w hw1
  have hP1 := hP.below hMo hB1
  obtain ⟨Pw, hcl, C1, H2⟩ := step_both hP1 hMo hMv hc hj
  obtain ⟨gm, capm, em, hlm, hgm, hom, cm⟩ := row_open hP1.rm hj
  have x2 : w1.cell? ⟨X, 2, none⟩ = some (.slice (some ⟨gm, 0, none⟩) S.nm capm) := by rw [← em]; exact hP1.hx.c 2 (by omega)
  have t1 : (j : Int) < (S.nm : Int) := by omega
  have hk := (hP1.mh j hj).1
  have hnm := hP.nm
  have HL : Hid (∀ k, S.all X k ∨ mB (.pointer pm) k ∨ mB (.pointer pr) k → k < w.heap.size) := hP.lt
  have HP1 := Lib.hid hP1
  have HP := Lib.hid hP
  have HMo := Lib.hid hMo
  have H2' := Lib.hid H2
  have HCL := Lib.hid hcl
  have HX1 := Lib.hid hX1
  have HW1 := Lib.hid hw1
  clear hP1 hP hMo hMv H2 hcl hX1 hw1 em
  unfold tuV at C1 ⊢
  go_enter Tryz.func30, Tryz.ntmps30
  go_upto_region 1 with fail
  rw [HW1.out]
  go_wp2_with fail
  refine C1.mono ?_
  rintro e w2 ⟨u, rfl, hPw⟩
  clear C1 x2 cm
  obtain ⟨w3, hw3⟩ : ∃ V, w2.alloc (.cells #[.int .i64 u.kind, .int .i64 u.key, .bool u.found, .int .i64 u.value, .int .i64 u.entry] 81) = V := ⟨_, rfl⟩
  have hB3 : Below w2.heap.size w2 w3 := by rw [← hw3]; exact (Below.refl _ w2).alloc (Nat.le_refl _) _
  have hX3 : Blk w3 w2.heap.size 5 (fun j => #[Value.int .i64 u.kind, .int .i64 u.key, .bool u.found, .int .i64 u.value, .int .i64 u.entry].getD j .nilFunc) := by rw [← hw3]; exact Blk.new w2 _ _
  obtain ⟨hxA, C2⟩ := H2'.out u w3 (HCL.out u w2 w3 hPw hB3)
  obtain ⟨hm1, _, hm3, _, _, _⟩ := HP1.out.mid hk hxA
  obtain ⟨gn, capn, en, hln, hgn, hon, cn⟩ := row_open hm3 hj
  have x3 : w3.cell? ⟨X, 3, none⟩ = some (.slice (some ⟨gn, 0, none⟩) S.nm capn) := by rw [← en]; exact hm1.c 3 (by omega)
  have HX3 := Lib.hid hX3
  have HW3 := Lib.hid hw3
  have HR3 : Hid (Blk w3 w.heap.size 5 (fun j => #[Value.int .i64 0, .int .i64 0, .bool false, .int .i64 0, .int .i64 0].getD j .nilFunc)) := HX1.out.same (hxA.block _ (by omega) (fun h => by
    rcases h with h | h | ⟨_, h⟩
    · have := HL.out _ (.inl (.inr (.inr (.inr (.inl ⟨_, hk, .inl h⟩))))); omega
    · have := HL.out _ (.inr (.inl h)); omega
    · have := HL.out _ (.inl (.inr (.inr (.inr (.inr ⟨_, hj, .inl h⟩))))); omega))
  have hs12 : w1.heap.size ≤ w2.heap.size := (H2'.out u w2 hPw).1.size
  have hs3 : w3.heap.size = w2.heap.size + 1 := by rw [← hw3]; simp
  have HEV := Lib.hid (show True from trivial)
  unfold tuV at C2
  clear hw3 hB3 hX3 hm1 hm3 hPw en
  go_upto_region 2 with fail
  rw [HW3.out]
  go_wp2_with fail
  refine C2.mono ?_
  rintro e w4 ⟨rfl, hxB, S', a', b', hD, hnm', hnd', hsc'⟩
  clear C2 x3 cn HEV
  have hB34 := hxB.size
  have hXA4 : Blk w4 w2.heap.size 5 _ := HX3.out.same (hxB.block _ (by omega) (fun h => by
    rcases h with h | h | ⟨_, h⟩
    · have := HL.out _ (.inl (.inr (.inr (.inr (.inl ⟨_, hk, .inr h⟩))))); omega
    · have := HL.out _ (.inr (.inr h)); omega
    · have := HL.out _ (.inl (.inr (.inr (.inr (.inr ⟨_, hj, .inr h⟩))))); omega))
  have hR4 : Blk w4 w.heap.size 5 _ := HX1.out.same (hD.ex.block _ (by omega) (fun h => by
    have := HL.out _ h; omega))
  obtain ⟨w5, hw5⟩ : ∃ V, w4.alloc (.cells #[.int .i64 u.kind, .int .i64 u.key, .bool u.found, .int .i64 u.value, .int .i64 u.entry] 81) = V := ⟨_, rfl⟩
  have hB5 : Below w4.heap.size w4 w5 := by rw [← hw5]; exact (Below.refl _ w4).alloc (Nat.le_refl _) _
  have hX5 : Blk w5 w4.heap.size 5 (fun j => #[Value.int .i64 u.kind, .int .i64 u.key, .bool u.found, .int .i64 u.value, .int .i64 u.entry].getD j .nilFunc) := by rw [← hw5]; exact Blk.new w4 _ _
  have hXA5 : Blk w5 w2.heap.size 5 _ := hXA4.of hB5 (by omega)
  have hR5 : Blk w5 w.heap.size 5 _ := hR4.of hB5 (by omega)
  have hP5 := hD.p.below HMo.out hB5
  have hj' : j < S'.nm := by omega
  obtain ⟨gm', capm', em', hlm', hgm', hom', cm'⟩ := row_open hP5.rm hj'
  obtain ⟨gn', capn', en', hln', hgn', hon', cn'⟩ := row_open hP5.rn hj'
  obtain ⟨ns, hs1', hs2'⟩ := scan_both (hP5.mh j hj').2 hsc'
  have CS1 := hs1' w5.drew rfl
  have CS2 := hs2' w5.drew rfl
  have CS3 : Calls Tryz.prog 80 #[.pointer (some ⟨(S'.ms j).x, 0, none⟩)] w5.drew fun e w' => e = .returned (.int .i64 ((S'.ms j).m.scans : Int)) ∧ w' = w5.drew := scans_any (w := w5.drew) (Blk.same (hP5.mh j hj').2.mc rfl)
  have ksc : w5.drew.cell? ⟨(S'.ms j).y, 16, none⟩ = some (.int .i64 ((S'.ms j).m.scans : Int)) := Blk.c (hP5.mh j hj').2.rm 16 (by omega)
  have y2 : w5.drew.cell? ⟨X, 2, none⟩ = some (.slice (some ⟨gm', 0, none⟩) S'.nm capm') := by rw [← em']; exact hP5.hx.c 2 (by omega)
  have y3 : w5.drew.cell? ⟨X, 3, none⟩ = some (.slice (some ⟨gn', 0, none⟩) S'.nm capn') := by rw [← en']; exact hP5.hx.c 3 (by omega)
  have t2 : (j : Int) < (S'.nm : Int) := by omega
  have cm2 : w5.drew.cell? ⟨gm', j, none⟩ = some (.pointer (some ⟨(S'.ms j).x, 0, none⟩)) := cm'
  have cn2 : w5.drew.cell? ⟨gn', j, none⟩ = some (.pointer (some ⟨(S'.ms j).y, 0, none⟩)) := cn'
  have a0 : w5.drew.cell? ⟨w2.heap.size, 0, none⟩ = some (.int .i64 u.kind) := hXA5.c 0 (by omega)
  have a1 : w5.drew.cell? ⟨w2.heap.size, 1, none⟩ = some (.int .i64 u.key) := hXA5.c 1 (by omega)
  have a2 : w5.drew.cell? ⟨w2.heap.size, 2, none⟩ = some (.bool u.found) := hXA5.c 2 (by omega)
  have a3 : w5.drew.cell? ⟨w2.heap.size, 3, none⟩ = some (.int .i64 u.value) := hXA5.c 3 (by omega)
  have a4 : w5.drew.cell? ⟨w2.heap.size, 4, none⟩ = some (.int .i64 u.entry) := hXA5.c 4 (by omega)
  have b0 : w5.drew.cell? ⟨w4.heap.size, 0, none⟩ = some (.int .i64 u.kind) := hX5.c 0 (by omega)
  have b1 : w5.drew.cell? ⟨w4.heap.size, 1, none⟩ = some (.int .i64 u.key) := hX5.c 1 (by omega)
  have b2 : w5.drew.cell? ⟨w4.heap.size, 2, none⟩ = some (.bool u.found) := hX5.c 2 (by omega)
  have b3 : w5.drew.cell? ⟨w4.heap.size, 3, none⟩ = some (.int .i64 u.value) := hX5.c 3 (by omega)
  have b4 : w5.drew.cell? ⟨w4.heap.size, 4, none⟩ = some (.int .i64 u.entry) := hX5.c 4 (by omega)
  have q0 : w5.cell? ⟨w.heap.size, 0, none⟩ = some (.int .i64 0) := hR5.c 0 (by omega)
  have q1 : w5.cell? ⟨w.heap.size, 1, none⟩ = some (.int .i64 0) := hR5.c 1 (by omega)
  have q2 : w5.cell? ⟨w.heap.size, 2, none⟩ = some (.bool false) := hR5.c 2 (by omega)
  have q3 : w5.cell? ⟨w.heap.size, 3, none⟩ = some (.int .i64 0) := hR5.c 3 (by omega)
  have q4 : w5.cell? ⟨w.heap.size, 4, none⟩ = some (.int .i64 0) := hR5.c 4 (by omega)
  have z0 : w5.frozen? ⟨w.heap.size, 0, none⟩ = false := hR5.z 0
  have z1 : w5.frozen? ⟨w.heap.size, 1, none⟩ = false := hR5.z 1
  have z2 : w5.frozen? ⟨w.heap.size, 2, none⟩ = false := hR5.z 2
  have z3 : w5.frozen? ⟨w.heap.size, 3, none⟩ = false := hR5.z 3
  have z4 : w5.frozen? ⟨w.heap.size, 4, none⟩ = false := hR5.z 4
  have hE : ∀ V, (binOp .eql 81 (tuV u) (tuV u)).run Tryz.prog V = .ok (.bool true) V := fun V => by rw [tu_eq, tuE_refl]
  unfold tuV at hE
  have hsD := hD.p.lt
  have hnR : ∀ k, S'.all X k → k ≠ w.heap.size := fun k hk e => by
    rcases hD.fx k hk with h | h
    · have := HL.out k (.inl h); omega
    · omega
  have hnX : X ≠ w.heap.size := hnR X (.inl rfl)
  have hngm : gm' ≠ w.heap.size := hnR gm' (.inr (.inl hom'))
  have hngn : gn' ≠ w.heap.size := hnR gn' (.inr (.inr (.inl hon')))
  have hny : (S'.ms j).y ≠ w.heap.size := hnR _ (.inr (.inr (.inr (.inr ⟨j, hj', .inr (.inl rfl)⟩))))
  have hnA : w2.heap.size ≠ w.heap.size := by omega
  have hnB : w4.heap.size ≠ w.heap.size := by omega
  obtain ⟨wZ, hwZ⟩ : ∃ V, (put5 w5 w.heap.size (.int .i64 u.kind) (.int .i64 u.key) (.bool u.found) (.int .i64 u.value) (.int .i64 u.entry)).drew = V := ⟨_, rfl⟩
  have hbz : ∀ k, k ≠ w.heap.size → wZ.heap[k]? = w5.drew.heap[k]? := fun k hk => by rw [← hwZ]; exact putU_other w5 w.heap.size u k hk
  have hRz : Blk wZ w.heap.size 5 (fun j => [Value.int .i64 u.kind, .int .i64 u.key, .bool u.found, .int .i64 u.value, .int .i64 u.entry].getD j .nilFunc) := by rw [← hwZ]; exact (put5_blk hR5 _ _ _ _ _).same rfl
  have hbzw : Below w.heap.size w5.drew wZ := by
    rw [← hwZ]
    have h := put5_below (B := w.heap.size) (w := w5) w.heap.size (Nat.le_refl _) (.int .i64 u.kind) (.int .i64 u.key) (.bool u.found) (.int .i64 u.value) (.int .i64 u.entry)
    exact ⟨h.os, h.tape, h.output, h.size, h.block⟩
  have s2 : ((wZ.cell? ⟨X, 2, none⟩ = some (.slice (some ⟨gm', 0, none⟩) S'.nm capm') ∧ wZ.cell? ⟨X, 3, none⟩ = some (.slice (some ⟨gn', 0, none⟩) S'.nm capn') ∧ wZ.cell? ⟨gm', j, none⟩ = some (.pointer (some ⟨(S'.ms j).x, 0, none⟩)) ∧ wZ.cell? ⟨gn', j, none⟩ = some (.pointer (some ⟨(S'.ms j).y, 0, none⟩)) ∧ wZ.cell? ⟨(S'.ms j).y, 16, none⟩ = some (.int .i64 ((S'.ms j).m.scans : Int))) ∧ (wZ.cell? ⟨w2.heap.size, 0, none⟩ = some (.int .i64 u.kind) ∧ wZ.cell? ⟨w2.heap.size, 1, none⟩ = some (.int .i64 u.key) ∧ wZ.cell? ⟨w2.heap.size, 2, none⟩ = some (.bool u.found) ∧ wZ.cell? ⟨w2.heap.size, 3, none⟩ = some (.int .i64 u.value) ∧ wZ.cell? ⟨w2.heap.size, 4, none⟩ = some (.int .i64 u.entry)) ∧ wZ.cell? ⟨w4.heap.size, 0, none⟩ = some (.int .i64 u.kind) ∧ wZ.cell? ⟨w4.heap.size, 1, none⟩ = some (.int .i64 u.key) ∧ wZ.cell? ⟨w4.heap.size, 2, none⟩ = some (.bool u.found) ∧ wZ.cell? ⟨w4.heap.size, 3, none⟩ = some (.int .i64 u.value) ∧ wZ.cell? ⟨w4.heap.size, 4, none⟩ = some (.int .i64 u.entry)) := ⟨⟨(World.cell?_of_block (a := ⟨X, 2, none⟩) (hbz _ hnX)).trans y2, (World.cell?_of_block (a := ⟨X, 3, none⟩) (hbz _ hnX)).trans y3, (World.cell?_of_block (a := ⟨gm', j, none⟩) (hbz _ hngm)).trans cm2, (World.cell?_of_block (a := ⟨gn', j, none⟩) (hbz _ hngn)).trans cn2, (World.cell?_of_block (a := ⟨(S'.ms j).y, 16, none⟩) (hbz _ hny)).trans ksc⟩, ⟨(World.cell?_of_block (a := ⟨w2.heap.size, 0, none⟩) (hbz _ hnA)).trans a0, (World.cell?_of_block (a := ⟨w2.heap.size, 1, none⟩) (hbz _ hnA)).trans a1, (World.cell?_of_block (a := ⟨w2.heap.size, 2, none⟩) (hbz _ hnA)).trans a2, (World.cell?_of_block (a := ⟨w2.heap.size, 3, none⟩) (hbz _ hnA)).trans a3, (World.cell?_of_block (a := ⟨w2.heap.size, 4, none⟩) (hbz _ hnA)).trans a4⟩, (World.cell?_of_block (a := ⟨w4.heap.size, 0, none⟩) (hbz _ hnB)).trans b0, (World.cell?_of_block (a := ⟨w4.heap.size, 1, none⟩) (hbz _ hnB)).trans b1, (World.cell?_of_block (a := ⟨w4.heap.size, 2, none⟩) (hbz _ hnB)).trans b2, (World.cell?_of_block (a := ⟨w4.heap.size, 3, none⟩) (hbz _ hnB)).trans b3, (World.cell?_of_block (a := ⟨w4.heap.size, 4, none⟩) (hbz _ hnB)).trans b4⟩
  have hDF : D8 w X S (.pointer pm) (.pointer pr) M most (c + 1) S' a' b' wZ := by
    have hsz := hB1.size
    refine ⟨hD.p.keep HMo.out (by have h1 := hB5.size; have h2 : w5.drew.heap.size ≤ wZ.heap.size := hbzw.size; have h3 : w5.drew.heap.size = w5.heap.size := rfl; omega) (fun k hk => ?_), fun k hk => (hD.fx k hk).elim .inl (fun h => .inr (by omega)), ?_⟩
    · have hk4 := hsD k hk
      have hkR : k ≠ w.heap.size := by
        rcases hk with h | h | h
        · exact hnR k h
        · have := HL.out k (.inr (.inl h)); omega
        · have := HL.out k (.inr (.inr h)); omega
      exact (hbz k hkR).trans (hB5.block k hk4)
    · refine ((ex_of hB1 (X := fun k => S.all X k ∨ mB (.pointer pm) k ∨ mB (.pointer pr) k)).next hD.ex (fun _ _ h => h)).next (Y := fun k => k = w.heap.size) ?_ (fun k hk e => by omega)
      have h1 : Ex (fun k => k = w.heap.size) w4 w5 := ex_of hB5
      exact h1.drew.trans ⟨hbzw.os, hbzw.tape, hbzw.output, hbzw.size, fun k _ hk => hbz k hk⟩
  have HDF := Lib.hid hDF
  have HR9 := Lib.hid hRz
  have HWZ := Lib.hid hwZ
  have HNM : Hid (S'.nm = S.nm ∧ S'.nd = S.nd) := ⟨hnm', hnd'⟩
  have HW5 := Lib.hid hw5
  rw [← hwZ] at s2
  unfold put5 at s2 HWZ
  clear hwZ hbz hRz hbzw hDF hD hsD hnR hP5 hs1' hs2' hXA5 hR5 hX5 hXA4 hR4 hB5 hw5 hxB hxA em' en' cm' cn' hnm' hnd' hB34 hsc'
  go_upto_region 3 with fail
  rw [HW5.out]
  go_region_held3 (fun V => ((V.cell? ⟨X, 2, none⟩ = some (.slice (some ⟨gm', 0, none⟩) S'.nm capm') ∧ V.cell? ⟨X, 3, none⟩ = some (.slice (some ⟨gn', 0, none⟩) S'.nm capn') ∧ V.cell? ⟨gm', j, none⟩ = some (.pointer (some ⟨(S'.ms j).x, 0, none⟩)) ∧ V.cell? ⟨gn', j, none⟩ = some (.pointer (some ⟨(S'.ms j).y, 0, none⟩)) ∧ V.cell? ⟨(S'.ms j).y, 16, none⟩ = some (.int .i64 ((S'.ms j).m.scans : Int))) ∧ (V.cell? ⟨w2.heap.size, 0, none⟩ = some (.int .i64 u.kind) ∧ V.cell? ⟨w2.heap.size, 1, none⟩ = some (.int .i64 u.key) ∧ V.cell? ⟨w2.heap.size, 2, none⟩ = some (.bool u.found) ∧ V.cell? ⟨w2.heap.size, 3, none⟩ = some (.int .i64 u.value) ∧ V.cell? ⟨w2.heap.size, 4, none⟩ = some (.int .i64 u.entry)) ∧ V.cell? ⟨w4.heap.size, 0, none⟩ = some (.int .i64 u.kind) ∧ V.cell? ⟨w4.heap.size, 1, none⟩ = some (.int .i64 u.key) ∧ V.cell? ⟨w4.heap.size, 2, none⟩ = some (.bool u.found) ∧ V.cell? ⟨w4.heap.size, 3, none⟩ = some (.int .i64 u.value) ∧ V.cell? ⟨w4.heap.size, 4, none⟩ = some (.int .i64 u.entry)))
    (first | with_reducible exact ⟨⟨y2, y3, cm2, cn2, ksc⟩, ⟨a0, a1, a2, a3, a4⟩, b0, b1, b2, b3, b4⟩ | with_reducible exact s2 | fail)
    (first | (go_at_call 51; refine CS1.mono ?_; rintro e v1 ⟨rfl, rfl⟩) | (go_at_call 79; refine CS2.mono ?_; rintro e v1 ⟨rfl, rfl⟩) | (go_at_call 80; refine CS3.mono ?_; rintro e v1 ⟨rfl, rfl⟩) | fail)
  have HWE := HWZ.out
  rw [HWE]
  clear HWE
  have o0 : wZ.cell? ⟨w.heap.size, 0, none⟩ = some (.int .i64 u.kind) := HR9.out.c 0 (by omega)
  have o1 : wZ.cell? ⟨w.heap.size, 1, none⟩ = some (.int .i64 u.key) := HR9.out.c 1 (by omega)
  have o2 : wZ.cell? ⟨w.heap.size, 2, none⟩ = some (.bool u.found) := HR9.out.c 2 (by omega)
  have o3 : wZ.cell? ⟨w.heap.size, 3, none⟩ = some (.int .i64 u.value) := HR9.out.c 3 (by omega)
  have o4 : wZ.cell? ⟨w.heap.size, 4, none⟩ = some (.int .i64 u.entry) := HR9.out.c 4 (by omega)
  go_wp2_with fail
  refine bodyPost_ret (v := .tuple #[.agg #[.int .i64 u.kind, .int .i64 u.key, .bool u.found, .int .i64 u.value, .int .i64 u.entry], .bool true]) ?_ rfl ⟨u, rfl, S', a', b', HDF.out, HNM.out.1, HNM.out.2⟩
  simp [results, Tryz.results30, go_sem, o0, o1, o2, o3, o4]
end Go.Proofs.YtfhpkoakalihkaaGreat
