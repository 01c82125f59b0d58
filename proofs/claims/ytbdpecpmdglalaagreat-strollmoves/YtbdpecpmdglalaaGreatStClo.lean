/-
  The two functions that a walk keeps: the next pair, and the next one backwards.
-/
import Derived.Test.YtbdpecpmdglalaaGreatStHas
import Derived.Test.YtbdpecpmdglalaaGreatStBack
namespace Go.Proofs.YtbdpecpmdglalaaGreat
open Go.RowKit Go.WideShapes

/-- What the function of a walk forwards tells, and that of one backwards. -/
def FfR (es : List En) (told : Int) (e : Ending) : Prop := (∃ n, Nf es told n ∧ e = .returned (.tuple #[eV (nth es n), .bool true])) ∨ (Ff es told ∧ e = .returned (.tuple #[eV En.zero, .bool false]))
def FbR (es : List En) (told : Int) (e : Ending) : Prop := (∃ n, Nb es told n ∧ e = .returned (.tuple #[eV (nth es n), .bool true])) ∨ (Fb es told ∧ e = .returned (.tuple #[eV En.zero, .bool false]))
theorem dead_no {e : En} (h : e.live = false) (k : e.live = true) : False := by rw [h] at k; cases k
theorem lf_fd {es : List En} {told : Int} {q : Nat} {e : Ending} (hq : Bef es (told + 1) q) (h : LfR es q e) : FfR es told e := by
  obtain ⟨h1, h2, h3⟩ := hq
  rcases h with ⟨n, a, b, c, f, g⟩ | ⟨a, g⟩
  · refine .inl ⟨n, ⟨b, c, by have := h3 n a b; omega, fun k hk hl => ?_⟩, g⟩
    rcases Nat.lt_or_ge k q with x | x
    · have := h2 k x; omega
    · exact (dead_no (f k x hk) hl).elim
  · refine .inr ⟨fun k hk hl => ?_, g⟩
    rcases Nat.lt_or_ge k q with x | x
    · have := h2 k x; omega
    · exact (dead_no (a k x hk) hl).elim
theorem lb_fd {es : List En} {told : Int} {q : Nat} {e : Ending} (hq : Bef es told q) (h : LbR es q e) : FbR es told e := by
  obtain ⟨h1, h2, h3⟩ := hq
  rcases h with ⟨n, a, c, f, g⟩ | ⟨a, g⟩
  · refine .inl ⟨n, ⟨by omega, c, h2 n a, fun k hk hk2 hl => ?_⟩, g⟩
    rcases Nat.lt_or_ge k q with x | x
    · exact (dead_no (f k hk x) hl).elim
    · exact h3 k x hk2
  · refine .inr ⟨fun k hk hl => ?_, g⟩
    rcases Nat.lt_or_ge k q with x | x
    · exact (dead_no (a k x) hl).elim
    · exact h3 k x hk
theorem lf_sh {es : List En} {b : Int} {q : Nat} {e : Ending} {P : Prop} (_ : Bef es b q) (h : LfR es q e) (p : P) : ∃ y0 y1 y2 y3 y4 yb, e = .returned (.tuple #[.agg #[.bool y0, .int .i64 y1, .int .i64 y2, .int .i64 y3, .int .i64 y4], .bool yb]) ∧ Hid P := by
  rcases h with ⟨n, a, b, c, f, g⟩ | ⟨a, g⟩
  · exact ⟨_, _, _, _, _, _, g, p⟩
  · exact ⟨_, _, _, _, _, _, g, p⟩
theorem lb_sh {es : List En} {b : Int} {q : Nat} {e : Ending} {P : Prop} (_ : Bef es b q) (h : LbR es q e) (p : P) : ∃ y0 y1 y2 y3 y4 yb, e = .returned (.tuple #[.agg #[.bool y0, .int .i64 y1, .int .i64 y2, .int .i64 y3, .int .i64 y4], .bool yb]) ∧ Hid P := by
  rcases h with ⟨n, a, b, c, g⟩ | ⟨a, g⟩
  · exact ⟨_, _, _, _, _, _, g, p⟩
  · exact ⟨_, _, _, _, _, _, g, p⟩
theorem put5_other (w : World) (R : Nat) (v0 v1 v2 v3 v4 : Value) (k : Nat) (hk : k ≠ R) : (put5 w R v0 v1 v2 v3 v4).heap[k]? = w.heap[k]? := by
  unfold put5
  rw [Below.heap_setCell _ _ _ _ hk, Below.heap_setCell _ _ _ _ hk, Below.heap_setCell _ _ _ _ hk, Below.heap_setCell _ _ _ _ hk, Below.heap_setCell _ _ _ _ hk]
set_option maxRecDepth 100000 in
set_option maxHeartbeats 4000000 in
theorem find_on {w : World} {d g gi r h : Nat} {ev : Value} {t : Tb} {mv : Value} {most : Int} {v : Nat} (hC : Dc w d g gi r h ev t mv most v) (hb : t.Born) (bx : Nat) (k0 : w.cell? ⟨bx, 0, none⟩ = some (.pointer (some ⟨d, 0, none⟩))) (told : Int) (ht : -1 ≤ told) (ht2 : told < 9223372036854775807) :
    Calls Tryz.prog 29 #[.int .i64 told, .pointer (some ⟨bx, 0, none⟩)] w fun e w' => FfR t.es told e ∧ Below w.heap.size w w' := by
  have hlen : t.es.length ≤ 100000 := Nat.le_trans hC.ok.few hC.ok.all
  obtain ⟨w1, hw1⟩ : ∃ y, w.alloc (.cells #[.bool false, .int .i64 0, .int .i64 0, .int .i64 0, .int .i64 0] 53) = y := ⟨_, rfl⟩
  obtain ⟨hX1, hB1, hs1⟩ := en_new w hw1
  have hlb := lt_of_cell k0
  have hne : bx ≠ w.heap.size := by omega
  have q0 : w1.cell? ⟨bx, 0, none⟩ = some (.pointer (some ⟨d, 0, none⟩)) := (hB1.cell (p := ⟨bx, 0, none⟩) hlb).trans k0
  have hBd : Below w.heap.size w w1.drew := hB1.drew
  have d0 : w1.drew.cell? ⟨bx, 0, none⟩ = some (.pointer (some ⟨d, 0, none⟩)) := q0
  have C1 := bornSince_any (hC.below hBd) hb (told + 1)
  have CL : Hid (∀ V (q : Nat), Below w.heap.size w V → q ≤ t.es.length → Calls Tryz.prog 27 #[.pointer (some ⟨d, 0, none⟩), .int .i64 (q : Int), .int .i64 1] V fun e w' => LfR t.es q e ∧ Below V.heap.size V w') := fun V q hV hq => liveFrom_on (hC.below hV) q hq
  have HFD : Hid (∀ q e, Bef t.es (told + 1) q → LfR t.es q e → FfR t.es told e) := fun q e => lf_fd
  have e9 : IntKind.i64.wrap (told + 1) = told + 1 := i64_small (by omega) (by omega)
  have HW := Lib.hid hw1
  have HX1 := Lib.hid hX1
  have HBd := Lib.hid hBd
  clear hw1 hX1 hB1 hC hBd k0
  go_enter Tryz.func29, Tryz.ntmps29
  go_upto_region 1 with fail
  rw [HW.out]
  go_region_held3 (fun V => V.cell? ⟨bx, 0, none⟩ = some (.pointer (some ⟨d, 0, none⟩)))
    (first | with_reducible exact d0 | with_reducible exact q0 | with_reducible exact q2 | with_reducible exact q3 | with_reducible exact HP.out _ _ _ _ _ | fail)
    (first | (go_at_call 28; refine C1.mono ?_; rintro e w2 ⟨q, rfl, hq, hB2⟩; have HQ := Lib.hid hq; have hql := hq.1; clear hq; have q2 := (hB2.cell (p := ⟨bx, 0, none⟩) (by show bx < _; have := HBd.out.size; omega)).trans d0; have hBB2 := HBd.out.trans (hB2.mono HBd.out.size); have hX2 := HX1.out.same (w' := w2) (hB2.block _ (by show w.heap.size < w1.heap.size; omega)); have C2 := CL.out w2 q hBB2 hql; skip) | (go_at_call 27; refine C2.mono ?_; rintro e w3 ⟨hR, hB3⟩; have hX3 := hX2.of hB3 (by omega); have q3 := (hB3.cell (p := ⟨bx, 0, none⟩) (by show bx < _; have := hBB2.size; omega)).trans q2; have hBB3 := hBB2.trans (hB3.mono hBB2.size); obtain ⟨y0, y1, y2, y3, y4, yb, rfl, HF⟩ : ∃ y0 y1 y2 y3 y4 yb, e = .returned (.tuple #[.agg #[.bool y0, .int .i64 y1, .int .i64 y2, .int .i64 y3, .int .i64 y4], .bool yb]) ∧ Hid (FfR t.es told e) := lf_sh HQ.out hR (HFD.out q e HQ.out hR); clear hR; have a0 := hX3.c 0 (by omega); have a1 := hX3.c 1 (by omega); have a2 := hX3.c 2 (by omega); have a3 := hX3.c 3 (by omega); have a4 := hX3.c 4 (by omega); have z0 := hX3.z 0; have z1 := hX3.z 1; have z2 := hX3.z 2; have z3 := hX3.z 3; have z4 := hX3.z 4; have HR := Lib.hid (put5_blk hX3 (.bool y0) (.int .i64 y1) (.int .i64 y2) (.int .i64 y3) (.int .i64 y4)); have HBB := Lib.hid (hBB3.trans (put5_below (B := w.heap.size) (w := w3) w.heap.size (Nat.le_refl _) (.bool y0) (.int .i64 y1) (.int .i64 y2) (.int .i64 y3) (.int .i64 y4))); clear hX3; have HP : Hid (∀ v0 v1 v2 v3 v4, (((((w3.setCell ⟨w.heap.size, 0, none⟩ v0).setCell ⟨w.heap.size, 1, none⟩ v1).setCell ⟨w.heap.size, 2, none⟩ v2).setCell ⟨w.heap.size, 3, none⟩ v3).setCell ⟨w.heap.size, 4, none⟩ v4).cell? ⟨bx, 0, none⟩ = some (.pointer (some ⟨d, 0, none⟩))) := (fun v0 v1 v2 v3 v4 => (World.cell?_of_block (a := ⟨bx, 0, none⟩) (put5_other w3 w.heap.size v0 v1 v2 v3 v4 bx hne)).trans q3)) | fail)
  unfold put5 at HR HBB
  generalize World.setCell (World.setCell (World.setCell (World.setCell (World.setCell w3 _ _) _ _) _ _) _ _) _ _ = w5 at *
  go_wp2_with fail
  have o0 : w5.cell? ⟨w.heap.size, 0, none⟩ = some (.bool y0) := HR.out.c 0 (by omega)
  have o1 : w5.cell? ⟨w.heap.size, 1, none⟩ = some (.int .i64 y1) := HR.out.c 1 (by omega)
  have o2 : w5.cell? ⟨w.heap.size, 2, none⟩ = some (.int .i64 y2) := HR.out.c 2 (by omega)
  have o3 : w5.cell? ⟨w.heap.size, 3, none⟩ = some (.int .i64 y3) := HR.out.c 3 (by omega)
  have o4 : w5.cell? ⟨w.heap.size, 4, none⟩ = some (.int .i64 y4) := HR.out.c 4 (by omega)
  refine bodyPost_ret (v := .tuple #[.agg #[.bool y0, .int .i64 y1, .int .i64 y2, .int .i64 y3, .int .i64 y4], .bool yb]) ?_ rfl ⟨HF.out, HBB.out⟩
  simp [results, Tryz.results29, go_sem, o0, o1, o2, o3, o4]
set_option maxRecDepth 100000 in
set_option maxHeartbeats 4000000 in
theorem find_back {w : World} {d g gi r h : Nat} {ev : Value} {t : Tb} {mv : Value} {most : Int} {v : Nat} (hC : Dc w d g gi r h ev t mv most v) (hb : t.Born) (bx : Nat) (k0 : w.cell? ⟨bx, 0, none⟩ = some (.pointer (some ⟨d, 0, none⟩))) (told : Int) :
    Calls Tryz.prog 26 #[.int .i64 told, .pointer (some ⟨bx, 0, none⟩)] w fun e w' => FbR t.es told e ∧ Below w.heap.size w w' := by
  have hlen : t.es.length ≤ 100000 := Nat.le_trans hC.ok.few hC.ok.all
  obtain ⟨w1, hw1⟩ : ∃ y, w.alloc (.cells #[.bool false, .int .i64 0, .int .i64 0, .int .i64 0, .int .i64 0] 53) = y := ⟨_, rfl⟩
  obtain ⟨hX1, hB1, hs1⟩ := en_new w hw1
  have hlb := lt_of_cell k0
  have hne : bx ≠ w.heap.size := by omega
  have q0 : w1.cell? ⟨bx, 0, none⟩ = some (.pointer (some ⟨d, 0, none⟩)) := (hB1.cell (p := ⟨bx, 0, none⟩) hlb).trans k0
  have hBd : Below w.heap.size w w1.drew := hB1.drew
  have d0 : w1.drew.cell? ⟨bx, 0, none⟩ = some (.pointer (some ⟨d, 0, none⟩)) := q0
  have C1 := bornSince_any (hC.below hBd) hb (told)
  have CL : Hid (∀ V (q : Nat), Below w.heap.size w V → q ≤ t.es.length → Calls Tryz.prog 27 #[.pointer (some ⟨d, 0, none⟩), .int .i64 ((q : Int) - 1), .int .i64 (-1)] V fun e w' => LbR t.es q e ∧ Below V.heap.size V w') := fun V q hV hq => liveFrom_back (hC.below hV) q hq
  have HFD : Hid (∀ q e, Bef t.es told q → LbR t.es q e → FbR t.es told e) := fun q e => lb_fd
  have e9 : ∀ q : Nat, q ≤ 100000 → IntKind.i64.wrap ((q : Int) - 1) = (q : Int) - 1 := fun q hq => i64_small (by omega) (by omega)
  have HW := Lib.hid hw1
  have HX1 := Lib.hid hX1
  have HBd := Lib.hid hBd
  clear hw1 hX1 hB1 hC hBd k0
  go_enter Tryz.func26, Tryz.ntmps26
  go_upto_region 1 with fail
  rw [HW.out]
  go_region_held3 (fun V => V.cell? ⟨bx, 0, none⟩ = some (.pointer (some ⟨d, 0, none⟩)))
    (first | with_reducible exact d0 | with_reducible exact q0 | with_reducible exact q2 | with_reducible exact q3 | with_reducible exact HP.out _ _ _ _ _ | fail)
    (first | (go_at_call 28; refine C1.mono ?_; rintro e w2 ⟨q, rfl, hq, hB2⟩; have HQ := Lib.hid hq; have hql := hq.1; clear hq; have q2 := (hB2.cell (p := ⟨bx, 0, none⟩) (by show bx < _; have := HBd.out.size; omega)).trans d0; have hBB2 := HBd.out.trans (hB2.mono HBd.out.size); have hX2 := HX1.out.same (w' := w2) (hB2.block _ (by show w.heap.size < w1.heap.size; omega)); have C2 := CL.out w2 q hBB2 hql; have e9q := e9 q (by omega)) | (go_at_call 27; refine C2.mono ?_; rintro e w3 ⟨hR, hB3⟩; have hX3 := hX2.of hB3 (by omega); have q3 := (hB3.cell (p := ⟨bx, 0, none⟩) (by show bx < _; have := hBB2.size; omega)).trans q2; have hBB3 := hBB2.trans (hB3.mono hBB2.size); obtain ⟨y0, y1, y2, y3, y4, yb, rfl, HF⟩ : ∃ y0 y1 y2 y3 y4 yb, e = .returned (.tuple #[.agg #[.bool y0, .int .i64 y1, .int .i64 y2, .int .i64 y3, .int .i64 y4], .bool yb]) ∧ Hid (FbR t.es told e) := lb_sh HQ.out hR (HFD.out q e HQ.out hR); clear hR; have a0 := hX3.c 0 (by omega); have a1 := hX3.c 1 (by omega); have a2 := hX3.c 2 (by omega); have a3 := hX3.c 3 (by omega); have a4 := hX3.c 4 (by omega); have z0 := hX3.z 0; have z1 := hX3.z 1; have z2 := hX3.z 2; have z3 := hX3.z 3; have z4 := hX3.z 4; have HR := Lib.hid (put5_blk hX3 (.bool y0) (.int .i64 y1) (.int .i64 y2) (.int .i64 y3) (.int .i64 y4)); have HBB := Lib.hid (hBB3.trans (put5_below (B := w.heap.size) (w := w3) w.heap.size (Nat.le_refl _) (.bool y0) (.int .i64 y1) (.int .i64 y2) (.int .i64 y3) (.int .i64 y4))); clear hX3; have HP : Hid (∀ v0 v1 v2 v3 v4, (((((w3.setCell ⟨w.heap.size, 0, none⟩ v0).setCell ⟨w.heap.size, 1, none⟩ v1).setCell ⟨w.heap.size, 2, none⟩ v2).setCell ⟨w.heap.size, 3, none⟩ v3).setCell ⟨w.heap.size, 4, none⟩ v4).cell? ⟨bx, 0, none⟩ = some (.pointer (some ⟨d, 0, none⟩))) := (fun v0 v1 v2 v3 v4 => (World.cell?_of_block (a := ⟨bx, 0, none⟩) (put5_other w3 w.heap.size v0 v1 v2 v3 v4 bx hne)).trans q3)) | fail)
  unfold put5 at HR HBB
  generalize World.setCell (World.setCell (World.setCell (World.setCell (World.setCell w3 _ _) _ _) _ _) _ _) _ _ = w5 at *
  go_wp2_with fail
  have o0 : w5.cell? ⟨w.heap.size, 0, none⟩ = some (.bool y0) := HR.out.c 0 (by omega)
  have o1 : w5.cell? ⟨w.heap.size, 1, none⟩ = some (.int .i64 y1) := HR.out.c 1 (by omega)
  have o2 : w5.cell? ⟨w.heap.size, 2, none⟩ = some (.int .i64 y2) := HR.out.c 2 (by omega)
  have o3 : w5.cell? ⟨w.heap.size, 3, none⟩ = some (.int .i64 y3) := HR.out.c 3 (by omega)
  have o4 : w5.cell? ⟨w.heap.size, 4, none⟩ = some (.int .i64 y4) := HR.out.c 4 (by omega)
  refine bodyPost_ret (v := .tuple #[.agg #[.bool y0, .int .i64 y1, .int .i64 y2, .int .i64 y3, .int .i64 y4], .bool yb]) ?_ rfl ⟨HF.out, HBB.out⟩
  simp [results, Tryz.results26, go_sem, o0, o1, o2, o3, o4]
end Go.Proofs.YtbdpecpmdglalaaGreat
