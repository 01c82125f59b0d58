/-
  The law's does: nothing, Next.
-/
import Derived.Test.YtejfmajbggmghaaGreatGv
namespace Go.Proofs.YtejfmajbggmghaaGreat
open Go.RowKit Go.WideShapes

set_option maxRecDepth 100000 in
set_option maxHeartbeats 8000000 in
theorem does9_none {B : Nat} {w : World} {X : Nat} {S : St8} {most : Int} {c : Nat} (h : J9 B w X S most c) (_hc : c ≤ 40000) (x1 x2 x3 x5 : Int) (sb : Bool) (x0 : Int) (hx0 : ¬ (1 ≤ x0 ∧ x0 ≤ 6)) :
    Calls Tryz.prog 7 #[.pointer (some ⟨X, 0, none⟩), .agg #[.int .i64 x0, .int .i64 x1, .int .i64 x2, .int .i64 x3, .bool sb, .int .i64 x5]] w fun e w' => e = .returned (.bool true) ∧ Out9 B w X most (c + 1) w' := by
  obtain ⟨w0, hw0⟩ : ∃ V, w.alloc (.cells #[.int .i64 x0, .int .i64 x1, .int .i64 x2, .int .i64 x3, .bool sb, .int .i64 x5] 38) = V := ⟨_, rfl⟩
  have hb0 : Below w.heap.size w w0 := by rw [← hw0]; exact (Below.refl _ w).alloc (Nat.le_refl _) _
  have hB0 : Blk w0 w.heap.size 6 (fun j => #[Value.int .i64 x0, .int .i64 x1, .int .i64 x2, .int .i64 x3, .bool sb, .int .i64 x5].getD j .nilFunc) := by rw [← hw0]; exact Blk.new w _ _
  have hJ0 := h.below hb0
  have hlS : w.heap.size < w0.heap.size := hB0.lt (by omega)
  have b0 : w0.cell? ⟨w.heap.size, 0, none⟩ = some (.int .i64 x0) := hB0.c 0 (by omega)
  have HBB : Hid (Below B w w0) := hb0.mono h.hB
  have HJ := Lib.hid hJ0
  have HSB := Lib.hid hB0
  have HLO : Hid (∀ i, S.every X i → i < w.heap.size) := fun i hi => h.lt9 i hi
  have HW0 := Lib.hid hw0
  clear h hb0 hB0 hJ0 hw0
  have q1 : (x0 == 1) = false := by rw [beq_eq_false_iff_ne]; omega
  have q2 : (x0 == 2) = false := by rw [beq_eq_false_iff_ne]; omega
  have q3 : (x0 == 3) = false := by rw [beq_eq_false_iff_ne]; omega
  have q4 : (x0 == 4) = false := by rw [beq_eq_false_iff_ne]; omega
  have q5 : (x0 == 5) = false := by rw [beq_eq_false_iff_ne]; omega
  have q6 : (x0 == 6) = false := by rw [beq_eq_false_iff_ne]; omega
  clear hx0
  go_enter Tryz.func7, Tryz.ntmps7
  go_upto_region 1 with fail
  rw [HW0.out]
  go_wp2_with fail
  go_ret
  exact ⟨rfl, ⟨S, HJ.out.le (Nat.le_succ _), HBB.out⟩⟩
set_option maxRecDepth 100000 in
set_option maxHeartbeats 8000000 in
theorem does9_next {B : Nat} {w : World} {X : Nat} {S : St8} {most : Int} {c : Nat} (h : J9 B w X S most c) (hc : c ≤ 40000) (x1 x2 x3 x5 : Int) (sb : Bool) :
    Calls Tryz.prog 7 #[.pointer (some ⟨X, 0, none⟩), .agg #[.int .i64 5, .int .i64 x1, .int .i64 x2, .int .i64 x3, .bool sb, .int .i64 x5]] w fun e w' => e = .returned (.bool true) ∧ Out9 B w X most (c + 1) w' := by
  obtain ⟨w0, hw0⟩ : ∃ V, w.alloc (.cells #[.int .i64 5, .int .i64 x1, .int .i64 x2, .int .i64 x3, .bool sb, .int .i64 x5] 38) = V := ⟨_, rfl⟩
  have hb0 : Below w.heap.size w w0 := by rw [← hw0]; exact (Below.refl _ w).alloc (Nat.le_refl _) _
  have hB0 : Blk w0 w.heap.size 6 (fun j => #[Value.int .i64 5, .int .i64 x1, .int .i64 x2, .int .i64 x3, .bool sb, .int .i64 x5].getD j .nilFunc) := by rw [← hw0]; exact Blk.new w _ _
  have hJ0 := h.below hb0
  have hlS : w.heap.size < w0.heap.size := hB0.lt (by omega)
  have b0 : w0.cell? ⟨w.heap.size, 0, none⟩ = some (.int .i64 5) := hB0.c 0 (by omega)
  have HBB : Hid (Below B w w0) := hb0.mono h.hB
  have HJ := Lib.hid hJ0
  have HSB := Lib.hid hB0
  have HLO : Hid (∀ i, S.every X i → i < w.heap.size) := fun i hi => h.lt9 i hi
  have HW0 := Lib.hid hw0
  clear h hb0 hB0 hJ0 hw0
  have y2 : w0.cell? ⟨X, 2, none⟩ = some S.rm := HJ.out.p.hx.c 2 (by omega)
  have b5 : w0.cell? ⟨w.heap.size, 5, none⟩ = some (.int .i64 x5) := HSB.out.c 5 (by omega)
  have h20 := HJ.out.wk.nw
  obtain ⟨am, capm, em, hcapm⟩ := row_len HJ.out.p.rm
  rw [em] at y2
  rcases (by omega : S.nw = 0 ∨ 0 < S.nw) with hz | hz
  case inl =>
    have tz : ((S.nw : Int) == 0) = true := by rw [beq_iff_eq]; omega
    go_enter Tryz.func7, Tryz.ntmps7
    go_upto_region 1 with fail
    rw [HW0.out]
    go_wp2_with fail
    go_ret
    exact ⟨rfl, ⟨S, HJ.out.le (Nat.le_succ _), HBB.out⟩⟩
  case inr =>
    have tz : ((S.nw : Int) == 0) = false := by rw [beq_eq_false_iff_ne]; omega
    have hr := rem8 x5 S.nw hz
    have hn0 : ¬ (S.nw : Int) = 0 := by omega
    have hn1 : ¬ S.nw = 0 := by omega
    obtain ⟨hp1, hp2⟩ := pix_lt x5 hz
    generalize pix x5 S.nw = kk at *
    obtain ⟨x, o, Pw, C1, H2⟩ := next_both (HJ.out.below (w' := w0.drew) (Below.refl _ w0).drew) (by omega) hp1
    have H2' := Lib.hid H2
    obtain ⟨gm, cm, em', _, hgm, hom, cgm⟩ := row_open HJ.out.p.rm hp1
    obtain ⟨gn, cn, en', _, hgn, hon, cgn⟩ := row_open HJ.out.p.rn hp1
    rw [em] at em'
    cases em'
    obtain ⟨l2, y1, ysp⟩ := HJ.out.wk.sep
    have a1 := (ysp kk hp1).1
    have nsX : X ≠ (S.ws kk).s := fun e => by have := y1 X (.inl rfl); rw [e] at this; omega
    have nsn : gn ≠ (S.ws kk).s := fun e => by have := y1 gn (.inr (.inr (.inl hon))); rw [e] at this; omega
    have lX : X < w0.heap.size := HJ.out.lt X (.inl rfl)
    have c3 : w0.cell? ⟨X, 3, none⟩ = some (.slice (some ⟨gn, 0, none⟩) S.nw cn) := by rw [← en']; exact HJ.out.p.hx.c 3 (by omega)
    have HSN : Hid (∀ w1 w1', Ex (fun i => i = (S.ws kk).s) w0.drew w1 → Below w1.heap.size w1 w1' → w1'.cell? ⟨X, 3, none⟩ = some (.slice (some ⟨gn, 0, none⟩) S.nw cn) ∧ w1'.cell? ⟨gn, kk, none⟩ = some (.pointer (some ⟨(S.ws kk).k, 0, none⟩))) := fun w1 w1' hx hb => by
      have hs : w0.heap.size ≤ w1.heap.size := hx.size
      have e1 : w1'.heap[X]? = w0.heap[X]? := (hb.block X (by omega)).trans (hx.block X lX nsX)
      have e2 : w1'.heap[gn]? = w0.heap[gn]? := (hb.block gn (by omega)).trans (hx.block gn hgn nsn)
      exact ⟨(World.cell?_of_block (a := ⟨X, 3, none⟩) e1).trans c3, (World.cell?_of_block (a := ⟨gn, kk, none⟩) e2).trans cgn⟩
    have d5 : w0.drew.cell? ⟨w.heap.size, 5, none⟩ = some (.int .i64 x5) := b5
    have d2 : w0.drew.cell? ⟨X, 2, none⟩ = some (.slice (some ⟨gm, 0, none⟩) S.nw capm) := y2
    have dg : w0.drew.cell? ⟨gm, kk, none⟩ = some (.pointer (some ⟨(S.ws kk).s, 0, none⟩)) := cgm
    have hlk : (S.ws kk).k < w.heap.size := HLO.out _ (.inr ⟨kk, hp1, .inr (.inl rfl)⟩)
    have q1 := eqSr (S.ws kk).s
    have t1 : (kk : Int) < (S.nw : Int) := by omega
    have HBD : Hid (Below B w w0.drew) := HBB.out.drew
    have hsd : w.heap.size < w0.drew.heap.size := hlS
    clear H2 c3 cgm cgn y1 ysp a1 nsX nsn en' em hom hon l2
    generalize (S.ws kk).s = sk at *
    generalize hqk : (S.ws kk).k = qk at *
    go_enter Tryz.func7, Tryz.ntmps7
    go_upto_region 1 with fail
    rw [HW0.out]
    go_upto_region 16 with fail
    go_region_held3 (fun V => V.cell? ⟨w.heap.size, 5, none⟩ = some (.int .i64 x5) ∧ V.cell? ⟨X, 2, none⟩ = some (.slice (some ⟨gm, 0, none⟩) S.nw capm)) (first | with_reducible exact ⟨d5, d2⟩ | fail) (fail)
    clear d5 hr hn0 hn1 tz b5 y2
    generalize w0.drew = wd at *
    by_cases hneg : Int.tmod x5 (S.nw : Int) < 0
    case' pos =>
      rw [if_pos hneg] at hp2
      have e5 : IntKind.i64.wrap (Int.tmod x5 (S.nw : Int) + (S.nw : Int)) = (kk : Int) := by rw [hp2]; exact i64_small (by omega) (by omega)
      go_upto_region 19 with fail
      clear e5
    case' neg =>
      rw [if_neg hneg] at hp2
      go_upto_region 19 with fail
      try rw [hp2]
    all_goals
      clear hp2 hneg
      unfold eV at C1
      go_wp2_with fail
      refine C1.mono ?_
      rintro e w1 ⟨rfl, hPw⟩
      clear C1 d2 dg
      obtain ⟨w2, hw2⟩ : ∃ V, w1.alloc (.cells #[.bool x.live, .int .i64 x.hash, .int .i64 x.key, .int .i64 x.value, .int .i64 x.birth] 48) = V := ⟨_, rfl⟩
      have hB2 : Below w1.heap.size w1 w2 := by rw [← hw2]; exact (Below.refl _ w1).alloc (Nat.le_refl _) _
      have hX2 : Blk w2 w1.heap.size 5 (fun j => #[Value.bool x.live, .int .i64 x.hash, .int .i64 x.key, .int .i64 x.value, .int .i64 x.birth].getD j .nilFunc) := by rw [← hw2]; exact Blk.new w1 _ _
      obtain ⟨hxA, H3⟩ := H2'.out w1 hPw
      have C2 := H3 w2 hB2
      obtain ⟨f3, fg⟩ := HSN.out w1 w2 hxA hB2
      have hs1 := hxA.size
      have hs2 : w.heap.size < w1.heap.size := by omega
      have HX2 := Lib.hid hX2
      have HW2 := Lib.hid hw2
      clear H3 hw2 hB2 hX2 hPw hxA hs1
      unfold eV at C2
      go_upto_region 22 with fail
      rw [HW2.out]
      go_wp2_with fail
      refine C2.mono ?_
      rintro e w3 ⟨rfl, hxB, hJ3, hB3⟩
      clear C2 f3 fg
      obtain ⟨w4, hw4⟩ : ∃ V, w3.alloc (.cells #[.bool x.live, .int .i64 x.hash, .int .i64 x.key, .int .i64 x.value, .int .i64 x.birth] 48) = V := ⟨_, rfl⟩
      have hB4 : Below w3.heap.size w3 w4 := by rw [← hw4]; exact (Below.refl _ w3).alloc (Nat.le_refl _) _
      have hX4 : Blk w4 w3.heap.size 5 (fun j => #[Value.bool x.live, .int .i64 x.hash, .int .i64 x.key, .int .i64 x.value, .int .i64 x.birth].getD j .nilFunc) := by rw [← hw4]; exact Blk.new w3 _ _
      have hX24 : Blk w4 w1.heap.size 5 _ := (HX2.out.same (hxB.block _ (HX2.out.lt (by omega)) (fun e => by omega))).of hB4 (by omega)
      have HJ4 := Lib.hid (hJ3.below hB4)
      have HB4 : Hid (Below B w w4) := (HBD.out.trans hB3).trans (hB4.mono hJ3.hB)
      have p0 : w4.cell? ⟨w1.heap.size, 0, none⟩ = some (.bool x.live) := hX24.c 0 (by omega)
      have p1 : w4.cell? ⟨w1.heap.size, 1, none⟩ = some (.int .i64 x.hash) := hX24.c 1 (by omega)
      have p2 : w4.cell? ⟨w1.heap.size, 2, none⟩ = some (.int .i64 x.key) := hX24.c 2 (by omega)
      have p3 : w4.cell? ⟨w1.heap.size, 3, none⟩ = some (.int .i64 x.value) := hX24.c 3 (by omega)
      have p4 : w4.cell? ⟨w1.heap.size, 4, none⟩ = some (.int .i64 x.birth) := hX24.c 4 (by omega)
      have r0 : w4.cell? ⟨w3.heap.size, 0, none⟩ = some (.bool x.live) := hX4.c 0 (by omega)
      have r1 : w4.cell? ⟨w3.heap.size, 1, none⟩ = some (.int .i64 x.hash) := hX4.c 1 (by omega)
      have r2 : w4.cell? ⟨w3.heap.size, 2, none⟩ = some (.int .i64 x.key) := hX4.c 2 (by omega)
      have r3 : w4.cell? ⟨w3.heap.size, 3, none⟩ = some (.int .i64 x.value) := hX4.c 3 (by omega)
      have r4 : w4.cell? ⟨w3.heap.size, 4, none⟩ = some (.int .i64 x.birth) := hX4.c 4 (by omega)
      have hE : ∀ V, (binOp .eql 48 (eV x) (eV x)).run Tryz.prog V = .ok (.bool true) V := fun V => by rw [en_eqV, eqE_refl]
      unfold eV at hE
      have toq : (o == o) = true := by simp
      have HW4 := Lib.hid hw4
      clear hw4 hB4 hX4 hX24 hJ3 hB3 hxB HX2 HSN
      go_upto_region 23 with fail
      rw [HW4.out]
      go_wp2_with fail
      go_ret
      exact ⟨rfl, ⟨S, HJ4.out.le (Nat.le_succ _), HB4.out⟩⟩
end Go.Proofs.YtejfmajbggmghaaGreat
