/-
  Two entries, compared.
  What the law's does stands on.
  The law's does: a put, a delete.
  The law's does: Clear, Last.
-/
import Derived.Test.YtejfmajbggmghaaGreatGg
import Derived.Test.YtejfmajbggmghaaGreatGu
namespace Go.Proofs.YtejfmajbggmghaaGreat
open Go.RowKit Go.WideShapes

/-- Two entries that are the same. -/
def eqE (x y : En) : Bool := x.live == y.live && (x.hash == y.hash && (x.key == y.key && (x.value == y.value && x.birth == y.birth)))
theorem eqE_iff (x y : En) : eqE x y = true ↔ x = y := by
  cases x; cases y
  simp [eqE]
theorem en_eqV (x y : En) (w : World) : (binOp .eql 48 (eV x) (eV y)).run Tryz.prog w = .ok (.bool (eqE x y)) w := by
  unfold eV eqE
  have hu : Tryz.prog.underlying 48 = some (.struct (Tryz.prog.fieldsOf 48)) := by kernel_rfl
  have hp : Tryz.prog.stoodInHeld 48 = false := by kernel_rfl
  rw [run_eql_struct, run_equalIn_agg w 9999 _ _ _ hu hp]
  have hF : (Tryz.prog.fieldsOf 48).toList = [⟨"Live", 4, 0, false, "", "", 0⟩, ⟨"Hash", 3, 1, false, "", "", 8⟩, ⟨"Key", 3, 2, false, "", "", 16⟩, ⟨"Value", 3, 3, false, "", "", 24⟩, ⟨"Birth", 3, 4, false, "", "", 32⟩] := by kernel_rfl
  rw [hF]
  by_cases h0 : x.live = y.live
  · by_cases h1 : x.hash = y.hash
    · by_cases h2 : x.key = y.key
      · by_cases h3 : x.value = y.value
        · by_cases h4 : x.birth = y.birth
          · simp [Op.eqFields, go_sem, h0, h1, h2, h3, h4]
          · simp [Op.eqFields, go_sem, h0, h1, h2, h3, h4]
        · simp [Op.eqFields, go_sem, h0, h1, h2, h3]
      · simp [Op.eqFields, go_sem, h0, h1, h2]
    · simp [Op.eqFields, go_sem, h0, h1]
  · simp [Op.eqFields, go_sem, h0]
theorem en_neV (x y : En) (w : World) : (binOp .neq 48 (eV x) (eV y)).run Tryz.prog w = .ok (.bool (!eqE x y)) w := by
  have h := en_eqV x y w
  unfold eV at h ⊢
  rw [run_eql_struct] at h
  rw [run_neq_struct]
  cases hr : (Op.equalIn 10000 48 (.agg #[.bool x.live, .int .i64 x.hash, .int .i64 x.key, .int .i64 x.value, .int .i64 x.birth]) (.agg #[.bool y.live, .int .i64 y.hash, .int .i64 y.key, .int .i64 y.value, .int .i64 y.birth])).run Tryz.prog w with
  | ok b w' =>
    rw [hr] at h
    simp [Result.andThen] at h ⊢
    obtain ⟨rfl, rfl⟩ := h
    exact ⟨rfl, rfl⟩
  | halt a w' => rw [hr] at h; simp [Result.andThen] at h
end Go.Proofs.YtejfmajbggmghaaGreat
namespace Go.Proofs.YtejfmajbggmghaaGreat
open Go.RowKit Go.WideShapes

theorem J9.lt9 {B : Nat} {w : World} {X : Nat} {S : St8} {most : Int} {c : Nat} (h : J9 B w X S most c) : ∀ i, S.every X i → i < w.heap.size := by
  rintro i (y | ⟨j, hj, y⟩)
  · exact h.lt i y
  · obtain ⟨_, _, y2⟩ := h.wk.sep
    obtain ⟨a1, a2, a3⟩ := y2 j hj
    rcases y with rfl | rfl | rfl
    · exact a1.2
    · exact a2.2
    · exact a3.2
theorem J9.cur {B : Nat} {w : World} {X : Nat} {S : St8} {most : Int} {c : Nat} (h : J9 B w X S most c) : S.cur = S.ds 0 := by unfold St8.cur; rw [h.nd]
theorem row_open {w : World} {T : TypeId} {v : Value} {n : Nat} {f : Nat → Nat} (h : w.ownsRow 0 T 1 v n (ptrs f n)) {j : Nat} (hj : j < n) : ∃ g cap, v = .slice (some ⟨g, 0, none⟩) n cap ∧ n ≤ cap ∧ g < w.heap.size ∧ v.ownBlock = some g ∧ w.cell? ⟨g, j, none⟩ = some (.pointer (some ⟨f j, 0, none⟩)) := by
  have h0 := h
  rcases h.2 with ⟨_, h1⟩ | ⟨g, cap, cur, rfl, hg, hh, hc, _⟩
  · omega
  · refine ⟨g, cap, rfl, hc, (Array.getElem?_eq_some_iff.1 hh).1, rfl, ?_⟩
    rw [h0.cellAt j (by omega)]
    exact ptrs_get f n j hj
theorem row_len {w : World} {T : TypeId} {v : Value} {n : Nat} {xs : List Value} (h : w.ownsRow 0 T 1 v n xs) : ∃ a cap, v = .slice a n cap ∧ n ≤ cap := by
  rcases h.2 with ⟨rfl, h1⟩ | ⟨g, cap, cur, rfl, hg, hh, hc, _⟩
  · exact ⟨none, 0, by rw [h1], by omega⟩
  · exact ⟨_, cap, rfl, hc⟩
theorem rem8 (x : Int) (n : Nat) (hn : 0 < n) (w : World) : (binOp .rem 3 (.int .i64 x) (.int .i64 (n : Int))).run Tryz.prog w = .ok (.int .i64 (Int.tmod x (n : Int))) w := by
  simp [binOp, go_sem]
  omega
def pix (x : Int) (n : Nat) : Nat := (if Int.tmod x (n : Int) < 0 then Int.tmod x (n : Int) + (n : Int) else Int.tmod x (n : Int)).toNat
theorem pix_lt (x : Int) {n : Nat} (hn : 0 < n) : pix x n < n ∧ (if Int.tmod x (n : Int) < 0 then Int.tmod x (n : Int) + (n : Int) else Int.tmod x (n : Int)) = (pix x n : Int) := by
  have h1 : Int.tmod x (n : Int) < (n : Int) := Int.tmod_lt_of_pos _ (by omega)
  have h2 : -(n : Int) < Int.tmod x (n : Int) := Int.lt_tmod_of_pos _ (by omega)
  unfold pix
  split <;> omega
theorem eqE_refl (x : En) : eqE x x = true := by rw [eqE_iff]
end Go.Proofs.YtejfmajbggmghaaGreat
namespace Go.Proofs.YtejfmajbggmghaaGreat
open Go.RowKit Go.WideShapes

set_option maxRecDepth 100000 in
set_option maxHeartbeats 8000000 in
theorem does9_put {B : Nat} {w : World} {X : Nat} {S : St8} {most : Int} {c : Nat} (h : J9 B w X S most c) (hc : c ≤ 40000) (x1 x2 x3 x5 : Int) (sb : Bool) :
    Calls Tryz.prog 7 #[.pointer (some ⟨X, 0, none⟩), .agg #[.int .i64 1, .int .i64 x1, .int .i64 x2, .int .i64 x3, .bool sb, .int .i64 x5]] w fun e w' => e = .returned (.bool true) ∧ Out9 B w X most (c + 1) w' := by
  obtain ⟨w0, hw0⟩ : ∃ V, w.alloc (.cells #[.int .i64 1, .int .i64 x1, .int .i64 x2, .int .i64 x3, .bool sb, .int .i64 x5] 38) = V := ⟨_, rfl⟩
  have hb0 : Below w.heap.size w w0 := by rw [← hw0]; exact (Below.refl _ w).alloc (Nat.le_refl _) _
  have hB0 : Blk w0 w.heap.size 6 (fun j => #[Value.int .i64 1, .int .i64 x1, .int .i64 x2, .int .i64 x3, .bool sb, .int .i64 x5].getD j .nilFunc) := by rw [← hw0]; exact Blk.new w _ _
  have hJ0 := h.below hb0
  have hlS : w.heap.size < w0.heap.size := hB0.lt (by omega)
  have b0 : w0.cell? ⟨w.heap.size, 0, none⟩ = some (.int .i64 1) := hB0.c 0 (by omega)
  have HBB : Hid (Below B w w0) := hb0.mono h.hB
  have HJ := Lib.hid hJ0
  have HSB := Lib.hid hB0
  have HLO : Hid (∀ i, S.every X i → i < w.heap.size) := fun i hi => h.lt9 i hi
  have HW0 := Lib.hid hw0
  clear h hb0 hB0 hJ0 hw0
  have b1 : w0.cell? ⟨w.heap.size, 1, none⟩ = some (.int .i64 x1) := HSB.out.c 1 (by omega)
  have b2 : w0.cell? ⟨w.heap.size, 2, none⟩ = some (.int .i64 x2) := HSB.out.c 2 (by omega)
  have b3 : w0.cell? ⟨w.heap.size, 3, none⟩ = some (.int .i64 x3) := HSB.out.c 3 (by omega)
  have b4 : w0.cell? ⟨w.heap.size, 4, none⟩ = some (.bool sb) := HSB.out.c 4 (by omega)
  have b5 : w0.cell? ⟨w.heap.size, 5, none⟩ = some (.int .i64 x5) := HSB.out.c 5 (by omega)
  have C1 : Calls Tryz.prog 14 #[.pointer (some ⟨X, 0, none⟩), .int .i64 2, .agg #[.int .i64 1, .int .i64 x1, .int .i64 x2, .int .i64 x3, .bool sb, .int .i64 x5]] w0 fun e w' => e = .returned (.bool true) ∧ Out9 B w0 X most (c + 1) w' := goal_any HJ.out hc 2 (by decide) 1 x1 x2 x3 sb x5
  go_enter Tryz.func7, Tryz.ntmps7
  go_upto_region 1 with fail
  rw [HW0.out]
  go_wp2_with fail
  refine C1.mono ?_
  rintro e w1 ⟨rfl, S', hJ', hB'⟩
  have HJ' := Lib.hid hJ'
  have HB' := Lib.hid (HBB.out.trans hB')
  clear C1 hJ' hB'
  go_wp2_with fail
  go_ret
  exact ⟨rfl, ⟨S', HJ'.out, HB'.out⟩⟩
set_option maxRecDepth 100000 in
set_option maxHeartbeats 8000000 in
theorem does9_del {B : Nat} {w : World} {X : Nat} {S : St8} {most : Int} {c : Nat} (h : J9 B w X S most c) (hc : c ≤ 40000) (x1 x2 x3 x5 : Int) (sb : Bool) :
    Calls Tryz.prog 7 #[.pointer (some ⟨X, 0, none⟩), .agg #[.int .i64 2, .int .i64 x1, .int .i64 x2, .int .i64 x3, .bool sb, .int .i64 x5]] w fun e w' => e = .returned (.bool true) ∧ Out9 B w X most (c + 1) w' := by
  obtain ⟨w0, hw0⟩ : ∃ V, w.alloc (.cells #[.int .i64 2, .int .i64 x1, .int .i64 x2, .int .i64 x3, .bool sb, .int .i64 x5] 38) = V := ⟨_, rfl⟩
  have hb0 : Below w.heap.size w w0 := by rw [← hw0]; exact (Below.refl _ w).alloc (Nat.le_refl _) _
  have hB0 : Blk w0 w.heap.size 6 (fun j => #[Value.int .i64 2, .int .i64 x1, .int .i64 x2, .int .i64 x3, .bool sb, .int .i64 x5].getD j .nilFunc) := by rw [← hw0]; exact Blk.new w _ _
  have hJ0 := h.below hb0
  have hlS : w.heap.size < w0.heap.size := hB0.lt (by omega)
  have b0 : w0.cell? ⟨w.heap.size, 0, none⟩ = some (.int .i64 2) := hB0.c 0 (by omega)
  have HBB : Hid (Below B w w0) := hb0.mono h.hB
  have HJ := Lib.hid hJ0
  have HSB := Lib.hid hB0
  have HLO : Hid (∀ i, S.every X i → i < w.heap.size) := fun i hi => h.lt9 i hi
  have HW0 := Lib.hid hw0
  clear h hb0 hB0 hJ0 hw0
  have b1 : w0.cell? ⟨w.heap.size, 1, none⟩ = some (.int .i64 x1) := HSB.out.c 1 (by omega)
  have b2 : w0.cell? ⟨w.heap.size, 2, none⟩ = some (.int .i64 x2) := HSB.out.c 2 (by omega)
  have b3 : w0.cell? ⟨w.heap.size, 3, none⟩ = some (.int .i64 x3) := HSB.out.c 3 (by omega)
  have b4 : w0.cell? ⟨w.heap.size, 4, none⟩ = some (.bool sb) := HSB.out.c 4 (by omega)
  have b5 : w0.cell? ⟨w.heap.size, 5, none⟩ = some (.int .i64 x5) := HSB.out.c 5 (by omega)
  have C1 : Calls Tryz.prog 14 #[.pointer (some ⟨X, 0, none⟩), .int .i64 3, .agg #[.int .i64 2, .int .i64 x1, .int .i64 x2, .int .i64 x3, .bool sb, .int .i64 x5]] w0 fun e w' => e = .returned (.bool true) ∧ Out9 B w0 X most (c + 1) w' := goal_any HJ.out hc 3 (by decide) 2 x1 x2 x3 sb x5
  go_enter Tryz.func7, Tryz.ntmps7
  go_upto_region 1 with fail
  rw [HW0.out]
  go_wp2_with fail
  refine C1.mono ?_
  rintro e w1 ⟨rfl, S', hJ', hB'⟩
  have HJ' := Lib.hid hJ'
  have HB' := Lib.hid (HBB.out.trans hB')
  clear C1 hJ' hB'
  go_wp2_with fail
  go_ret
  exact ⟨rfl, ⟨S', HJ'.out, HB'.out⟩⟩
end Go.Proofs.YtejfmajbggmghaaGreat
namespace Go.Proofs.YtejfmajbggmghaaGreat
open Go.RowKit Go.WideShapes

set_option maxRecDepth 100000 in
set_option maxHeartbeats 8000000 in
theorem does9_clear {B : Nat} {w : World} {X : Nat} {S : St8} {most : Int} {c : Nat} (h : J9 B w X S most c) (hc : c ≤ 40000) (x1 x2 x3 x5 : Int) (sb : Bool) :
    Calls Tryz.prog 7 #[.pointer (some ⟨X, 0, none⟩), .agg #[.int .i64 3, .int .i64 x1, .int .i64 x2, .int .i64 x3, .bool sb, .int .i64 x5]] w fun e w' => e = .returned (.bool true) ∧ Out9 B w X most (c + 1) w' := by
  obtain ⟨w0, hw0⟩ : ∃ V, w.alloc (.cells #[.int .i64 3, .int .i64 x1, .int .i64 x2, .int .i64 x3, .bool sb, .int .i64 x5] 38) = V := ⟨_, rfl⟩
  have hb0 : Below w.heap.size w w0 := by rw [← hw0]; exact (Below.refl _ w).alloc (Nat.le_refl _) _
  have hB0 : Blk w0 w.heap.size 6 (fun j => #[Value.int .i64 3, .int .i64 x1, .int .i64 x2, .int .i64 x3, .bool sb, .int .i64 x5].getD j .nilFunc) := by rw [← hw0]; exact Blk.new w _ _
  have hJ0 := h.below hb0
  have hlS : w.heap.size < w0.heap.size := hB0.lt (by omega)
  have b0 : w0.cell? ⟨w.heap.size, 0, none⟩ = some (.int .i64 3) := hB0.c 0 (by omega)
  have HBB : Hid (Below B w w0) := hb0.mono h.hB
  have HJ := Lib.hid hJ0
  have HSB := Lib.hid hB0
  have HLO : Hid (∀ i, S.every X i → i < w.heap.size) := fun i hi => h.lt9 i hi
  have HW0 := Lib.hid hw0
  clear h hb0 hB0 hJ0 hw0
  have hk : 0 < S.nd := by have := HJ.out.p.nd; omega
  obtain ⟨Pw, C1, H2⟩ := clear_both HJ.out.p mtOk_nil (by omega) hk
  have H2' := Lib.hid H2
  have hcu := HJ.out.cur
  have v0 : w0.cell? ⟨X, 0, none⟩ = some (.pointer (some ⟨(S.ds 0).d, 0, none⟩)) := by rw [← hcu]; exact HJ.out.p.hx.c 0 (by omega)
  clear H2
  go_enter Tryz.func7, Tryz.ntmps7
  go_upto_region 1 with fail
  rw [HW0.out]
  go_wp2_with fail
  refine C1.mono ?_
  rintro e w1 ⟨rfl, hPw⟩
  obtain ⟨hxA, C2⟩ := H2'.out w1 hPw
  have hm1 := (HJ.out.p.mid hk hxA).1
  have v1 : w1.cell? ⟨X, 1, none⟩ = some (.pointer (some ⟨(S.ds 0).d2, 0, none⟩)) := by rw [← hcu]; exact hm1.c 1 (by omega)
  clear C1 hPw hxA hm1 v0
  go_wp2_with fail
  refine C2.mono ?_
  rintro e w2 ⟨rfl, hD⟩
  obtain ⟨S', hJ', hB'⟩ := HJ.out.dict hD
  have HJ' := Lib.hid hJ'
  have HB' := Lib.hid (HBB.out.trans hB')
  clear C2 hD v1 hJ' hB'
  go_wp2_with fail
  go_ret
  exact ⟨rfl, ⟨S', HJ'.out, HB'.out⟩⟩
set_option maxRecDepth 100000 in
set_option maxHeartbeats 8000000 in
theorem does9_last {B : Nat} {w : World} {X : Nat} {S : St8} {most : Int} {c : Nat} (h : J9 B w X S most c) (hc : c ≤ 40000) (x1 x2 x3 x5 : Int) (sb : Bool) :
    Calls Tryz.prog 7 #[.pointer (some ⟨X, 0, none⟩), .agg #[.int .i64 6, .int .i64 x1, .int .i64 x2, .int .i64 x3, .bool sb, .int .i64 x5]] w fun e w' => e = .returned (.bool true) ∧ Out9 B w X most (c + 1) w' := by
  obtain ⟨w0, hw0⟩ : ∃ V, w.alloc (.cells #[.int .i64 6, .int .i64 x1, .int .i64 x2, .int .i64 x3, .bool sb, .int .i64 x5] 38) = V := ⟨_, rfl⟩
  have hb0 : Below w.heap.size w w0 := by rw [← hw0]; exact (Below.refl _ w).alloc (Nat.le_refl _) _
  have hB0 : Blk w0 w.heap.size 6 (fun j => #[Value.int .i64 6, .int .i64 x1, .int .i64 x2, .int .i64 x3, .bool sb, .int .i64 x5].getD j .nilFunc) := by rw [← hw0]; exact Blk.new w _ _
  have hJ0 := h.below hb0
  have hlS : w.heap.size < w0.heap.size := hB0.lt (by omega)
  have b0 : w0.cell? ⟨w.heap.size, 0, none⟩ = some (.int .i64 6) := hB0.c 0 (by omega)
  have HBB : Hid (Below B w w0) := hb0.mono h.hB
  have HJ := Lib.hid hJ0
  have HSB := Lib.hid hB0
  have HLO : Hid (∀ i, S.every X i → i < w.heap.size) := fun i hi => h.lt9 i hi
  have HW0 := Lib.hid hw0
  clear h hb0 hB0 hJ0 hw0
  have hk : 0 < S.nd := by have := HJ.out.p.nd; omega
  obtain ⟨Pw, _, C1, H2⟩ := last_both HJ.out.p mtOk_nil (by omega) hk
  have H2' := Lib.hid H2
  have hcu := HJ.out.cur
  have v0 : w0.cell? ⟨X, 0, none⟩ = some (.pointer (some ⟨(S.ds 0).d, 0, none⟩)) := by rw [← hcu]; exact HJ.out.p.hx.c 0 (by omega)
  clear H2
  go_enter Tryz.func7, Tryz.ntmps7
  go_upto_region 1 with fail
  rw [HW0.out]
  go_wp2_with fail
  refine C1.mono ?_
  rintro e w1 ⟨ex, ey, rfl, hPw⟩
  obtain ⟨hxA, C2⟩ := H2'.out ex ey w1 hPw
  have hm1 := (HJ.out.p.mid hk hxA).1
  have v1 : w1.cell? ⟨X, 1, none⟩ = some (.pointer (some ⟨(S.ds 0).d2, 0, none⟩)) := by rw [← hcu]; exact hm1.c 1 (by omega)
  clear C1 hPw hxA hm1 v0
  go_wp2_with fail
  refine C2.mono ?_
  rintro e w2 ⟨rfl, _, hD⟩
  obtain ⟨S', hJ', hB'⟩ := HJ.out.dict hD
  have HJ' := Lib.hid hJ'
  have HB' := Lib.hid (HBB.out.trans hB')
  clear C2 hD v1 hJ' hB'
  go_wp2_with fail
  go_ret
  exact ⟨rfl, ⟨S', HJ'.out, HB'.out⟩⟩
end Go.Proofs.YtejfmajbggmghaaGreat
