/-
  The law's does on a zero table: any step.
  One of the places that the walk of ZtPl leaves.
-/
import Derived.Test.YtdjabdmnknlaeaaGreatZtd
import Derived.Test.YtdjabdmnknlaeaaGreatZtDo4
import Derived.Test.YtdjabdmnknlaeaaGreatZp0
namespace Go.Proofs.YtdjabdmnknlaeaaGreat
open Go.RowKit Go.WideShapes

theorem does_zero {w : World} {X : Nat} {p : Pl} {t : Tb} {a b : Int} {n : Nat} (hT : Tv w X p t (.pointer none) (.pointer none) noM a b) (hZ : Zt w p.g) (hp : Zp p) (htn : t = Tb.new) (hBd : Bd t a b n) (hn : n ≤ 2000) (x0 x1 x2 x3 x4 : Int) :
    Calls Tryz.prog 10 #[.pointer (some ⟨X, 0, none⟩), .agg #[.int .i64 x0, .int .i64 x1, .int .i64 x2, .int .i64 x3, .int .i64 x4]] w fun e w' => e = .returned (.bool true) ∧ ((∃ p' a' b', Dn w X p (.pointer none) (.pointer none) noM (n + 1) p' (t.step x0 x1 x2 x3 x4) a' b' w') ∨ (t.step x0 x1 x2 x3 x4 = t ∧ Below w.heap.size w w')) := by
  have hno : ¬ t.has x4 := by
    rw [htn]
    rintro ⟨h1, h2, _⟩
    have h3 : x4 < 0 := h2
    omega
  by_cases h : 1 ≤ x0 ∧ x0 ≤ 8
  · have : x0 = 1 ∨ x0 = 2 ∨ x0 = 3 ∨ x0 = 4 ∨ x0 = 5 ∨ x0 = 6 ∨ x0 = 7 ∨ x0 = 8 := by omega
    rcases this with rfl | rfl | rfl | rfl | rfl | rfl | rfl | rfl
    · exact (does_add_z hT hZ hp htn hBd hn x1 x2 x3 x4).mono fun _ _ x => ⟨x.1, .inl x.2⟩
    · exact (does_put_z hT hZ hp htn hBd hn x1 x2 x3 x4).mono fun _ _ x => ⟨x.1, .inr ⟨step_put_no _ _ _ _ _ hno, x.2⟩⟩
    · exact (does_kill_z hT hZ hp htn hBd hn x1 x2 x3 x4).mono fun _ _ x => ⟨x.1, .inr ⟨step_kill_no _ _ _ _ _ hno, x.2⟩⟩
    · exact (does_at_z hT hZ hp htn hBd x1 x2 x3 x4).mono fun _ _ x => ⟨x.1, .inr ⟨step_same _ _ _ _ _ _ ⟨by decide, by decide, by decide, by decide, by decide⟩, x.2⟩⟩
    · exact (does_clear_z hT hZ hp htn hBd hn x1 x2 x3 x4).mono fun _ _ x => ⟨x.1, .inl x.2⟩
    · exact (does_copy_z hT hZ hp htn hBd hn x1 x2 x3 x4).mono fun _ _ x => ⟨x.1, .inl x.2⟩
    · exact (does_seek_z hT hZ htn hBd x1 x2 x3 x4).mono fun _ _ x => ⟨x.1, .inl x.2⟩
    · exact (does_next_z hT.hx hp x1 x2 x3 x4).mono fun _ _ x => ⟨x.1, .inr ⟨step_same _ _ _ _ _ _ ⟨by decide, by decide, by decide, by decide, by decide⟩, x.2⟩⟩
  · exact (does_none_z w X x0 x1 x2 x3 x4 h).mono fun _ _ x => ⟨x.1, .inr ⟨step_same _ _ _ _ _ _ ⟨by omega, by omega, by omega, by omega, by omega⟩, x.2⟩⟩
end Go.Proofs.YtdjabdmnknlaeaaGreat
namespace Go.Proofs.YtdjabdmnknlaeaaGreat
open Go.RowKit Go.WideShapes

set_option maxRecDepth 100000 in
set_option maxHeartbeats 20000000 in
theorem zplays_zrnd : zplays_cut.2.1 := by
  intro a0 n c0 G w hn hcap HROW HMo HMv zplays_1 w1 g gi r h w2 g2 q2 w5 zplays_2 zplays_3 p0 X wr u8 u9 u30 u31 u32 u33 u34 u35 u36 u37 u38 u39 u40 u41 u42 u43 u44 u45 u46 u47 u48 u49 u50 u51 u52 u53 u54 u55 u56 u57 u58 u59 u60 u61 u62 u63 u64 u65 u66 u67 u68 u69 u70 u71 u72 u73 u74 u75 u76 u77 u78 u79 u80 u81 u82 u83 k hk hlt t1 hk0 p hZY
  have HK0 := Lib.hid hk0
  clear hk0
  obtain ⟨_, bR, offR, hab, hG⟩ := HROW.out wr (ex_of hZY.bl)
  obtain ⟨rfl, hbl⟩ := hab (by omega)
  have r0 : wr.cell? ⟨bR, offR + k * 5, none⟩ = some (.int .i64 (G k 0)) := hG k hlt 0 (by omega)
  have r1 : wr.cell? ⟨bR, offR + k * 5 + 1, none⟩ = some (.int .i64 (G k 1)) := hG k hlt 1 (by omega)
  have r2 : wr.cell? ⟨bR, offR + k * 5 + 2, none⟩ = some (.int .i64 (G k 2)) := hG k hlt 2 (by omega)
  have r3 : wr.cell? ⟨bR, offR + k * 5 + 3, none⟩ = some (.int .i64 (G k 3)) := hG k hlt 3 (by omega)
  have r4 : wr.cell? ⟨bR, offR + k * 5 + 4, none⟩ = some (.int .i64 (G k 4)) := hG k hlt 4 (by omega)
  have hZd := hZY.below (Below.refl _ wr).drew
  have CD := does_zero hZd.tv hZd.z hZd.zp rfl (n := 0) ⟨Nat.zero_le _, by show 1 ≤ 0 + 1; omega, Nat.zero_le _, by omega, by omega, by omega, by omega⟩ (by omega) (G k 0) (G k 1) (G k 2) (G k 3) (G k 4)
  have HZd := Lib.hid hZd
  have h100 := step_small (G k 0) (G k 1) (G k 2) (G k 3) (G k 4)
  clear hG hab hZY hZd
  generalize G k 0 = x0 at *
  generalize G k 1 = x1 at *
  generalize G k 2 = x2 at *
  generalize G k 3 = x3 at *
  generalize G k 4 = x4 at *
  have HST : Hid (∀ w1, ((∃ p' a' b', Dn wr.drew X p (.pointer none) (.pointer none) noM (0 + 1) p' (Tb.new.step x0 x1 x2 x3 x4) a' b' w1) ∨ (Tb.new.step x0 x1 x2 x3 x4 = Tb.new ∧ Below wr.drew.heap.size wr.drew w1)) → ∃ p', Qx w X p' (Tb.new.step x0 x1 x2 x3 x4) (0 + 1) w1) := fun w1 hN => HZd.out.step hN
  generalize Tb.new.step x0 x1 x2 x3 x4 = t' at *
  clear HZd
  have u1 : (t'.es.length : Int) < 100 := by omega
  have hlen' : t'.es.length ≤ 100000 := by omega
  clear h100
  go_upto_region 9 with fail
  refine wp_region_noPanic ?_
  refine wp_region_held_drew (S := fun _ => True) (by kernel_rfl) trivial (fun hSc => ?_)
  refine take_at (i := 0) (d := some 36) (v := ?_) rfl rfl (by kernel_rfl) (by kernel_rfl) (by kernel_rfl) (fun _ _ _ h => h) (Or.inl ⟨by rfl, ?hy⟩) hSc ?_
  case hy => (intro w hSw; (try dsimp only at hSw); go_simp; try with_reducible rfl)
  simp only [Act.put, List.setIfInBounds_toArray, List.set_cons_zero, List.set_cons_succ]
  refine take_at (i := 1) (d := some 37) (v := ?_) rfl rfl (by kernel_rfl) (by kernel_rfl) (by kernel_rfl) (fun _ _ _ h => h) (Or.inl ⟨by rfl, ?hy⟩) hSc ?_
  case hy => (intro w hSw; (try dsimp only at hSw); go_simp; try with_reducible rfl)
  simp only [Act.put, List.setIfInBounds_toArray, List.set_cons_zero, List.set_cons_succ]
  refine take_at (i := 2) (d := some 38) (v := ?_) rfl rfl (by kernel_rfl) (by kernel_rfl) (by kernel_rfl) (fun _ _ _ h => h) (Or.inl ⟨by rfl, ?hy⟩) hSc ?_
  case hy => (intro w hSw; (try dsimp only at hSw); go_simp; try with_reducible rfl)
  simp only [Act.put, List.setIfInBounds_toArray, List.set_cons_zero, List.set_cons_succ]
  refine take_at (i := 3) (d := some 39) (v := ?_) rfl rfl (by kernel_rfl) (by kernel_rfl) (by kernel_rfl) (fun _ _ _ h => h) (Or.inl ⟨by rfl, ?hy⟩) hSc ?_
  case hy => (intro w hSw; (try dsimp only at hSw); go_simp; try with_reducible rfl)
  simp only [Act.put, List.setIfInBounds_toArray, List.set_cons_zero, List.set_cons_succ]
  refine wpAnyH_ready (rs := [4]) (by kernel_rfl) (by simp) ?_
  refine AllReadyH.cons rfl (fun K hK => ?_) AllReadyH.nil
  go_simp
  refine hK.out _ _ trivial (fun hSn => ?_)
  clear hK K
  clear r0 r1 r2 r3 r4
  refine wpAnyH_ready (rs := [5]) (by kernel_rfl) (by simp) ?_
  refine AllReadyH.cons rfl (fun K hK => ?_) AllReadyH.nil
  go_simp
  refine CD.mono ?_
  rintro e w1 ⟨rfl, hN⟩
  obtain ⟨p', hQ⟩ := HST.out w1 hN
  have HP := Lib.hid hQ
  clear hQ
  clear hN CD
  refine hK.out _ _ trivial (fun hSn => ?_)
  clear hK K
  clear hSc hSn
  have q0 : w1.cell? ⟨X, 0, none⟩ = some (.pointer (some ⟨p'.g, 0, none⟩)) := HP.out.hx.c 0 (by omega)
  have q1 : w1.cell? ⟨X, 1, none⟩ = some (.pointer (some ⟨p'.g2, 0, none⟩)) := HP.out.hx.c 1 (by omega)
  have q3 : w1.cell? ⟨p'.g2, 3, none⟩ = some (.int .i64 (t'.live : Int)) := (HP.out.rt.hd.c 3 (by omega)).trans (by show some (Value.int .i64 (t'.sh.live : Int)) = _; rw [Tb.sh_live])
  have d3 : w1.cell? ⟨p'.g, 3, none⟩ = some (.int .i64 (t'.live : Int)) := HP.out.d3
  obtain ⟨ae, cape, hev, hsl⟩ := HP.out.rt.es.sl
  rw [Tb.sh_len] at hev hsl
  have hcape := hsl.2.1
  have q4 : w1.cell? ⟨p'.g2, 0, none⟩ = some (.slice ae t'.es.length cape) := (HP.out.rt.hd.c 0 (by omega)).trans (congrArg some hev)
  have CL := len_any d3
  have lX := lt_of_cell q0
  have lg2 := lt_of_cell q3
  have hSc : (w1.cell? ⟨X, 0, none⟩ = some (.pointer (some ⟨p'.g, 0, none⟩)) ∧ w1.cell? ⟨X, 1, none⟩ = some (.pointer (some ⟨p'.g2, 0, none⟩))) ∧ w1.cell? ⟨p'.g2, 3, none⟩ = some (.int .i64 (t'.live : Int)) ∧ w1.cell? ⟨p'.g2, 0, none⟩ = some (.slice ae t'.es.length cape) := ⟨⟨q0, q1⟩, q3, q4⟩
  have HEV2 := Lib.hid hev
  clear hsl hev d3 q0 q1 q3 q4
  refine wpAnyH_weak (S2 := fun V => (V.cell? ⟨X, 0, none⟩ = some (.pointer (some ⟨p'.g, 0, none⟩)) ∧ V.cell? ⟨X, 1, none⟩ = some (.pointer (some ⟨p'.g2, 0, none⟩))) ∧ V.cell? ⟨p'.g2, 3, none⟩ = some (.int .i64 (t'.live : Int)) ∧ V.cell? ⟨p'.g2, 0, none⟩ = some (.slice ae t'.es.length cape)) (fun _ _ => trivial) ?_
  refine take_at (i := 6) (d := some 42) (v := ?_) rfl rfl (by kernel_rfl) (by kernel_rfl) (by kernel_rfl) (fun _ _ _ h => h) (Or.inl ⟨by rfl, ?hy⟩) hSc ?_
  case hy => (intro w hSw; (try dsimp only at hSw); go_simp; try with_reducible rfl)
  simp only [Act.put, List.setIfInBounds_toArray, List.set_cons_zero, List.set_cons_succ]
  refine take_at (i := 7) (d := some 43) (v := ?_) rfl rfl (by kernel_rfl) (by kernel_rfl) (by kernel_rfl) (fun _ _ _ h => h) (Or.inl ⟨by rfl, ?hy⟩) hSc ?_
  case hy => (intro w hSw; (try dsimp only at hSw); go_simp; try with_reducible rfl)
  simp only [Act.put, List.setIfInBounds_toArray, List.set_cons_zero, List.set_cons_succ]
  refine take_at (i := 8) (d := some 44) (v := ?_) rfl rfl (by kernel_rfl) (by kernel_rfl) (by kernel_rfl) (fun _ _ _ h => h) (Or.inl ⟨by rfl, ?hy⟩) hSc ?_
  case hy => (intro w hSw; (try dsimp only at hSw); go_simp; try with_reducible rfl)
  simp only [Act.put, List.setIfInBounds_toArray, List.set_cons_zero, List.set_cons_succ]
  refine take_at (i := 9) (d := some 45) (v := ?_) rfl rfl (by kernel_rfl) (by kernel_rfl) (by kernel_rfl) (fun _ _ _ h => h) (Or.inl ⟨by rfl, ?hy⟩) hSc ?_
  case hy => (intro w hSw; (try dsimp only at hSw); go_simp; try with_reducible rfl)
  simp only [Act.put, List.setIfInBounds_toArray, List.set_cons_zero, List.set_cons_succ]
  refine take_at (i := 10) (d := some 46) (v := ?_) rfl rfl (by kernel_rfl) (by kernel_rfl) (by kernel_rfl) (fun _ _ _ h => h) (Or.inl ⟨by rfl, ?hy⟩) hSc ?_
  case hy => (intro w hSw; (try dsimp only at hSw); go_simp; try with_reducible rfl)
  simp only [Act.put, List.setIfInBounds_toArray, List.set_cons_zero, List.set_cons_succ]
  refine take_at (i := 11) (d := some 47) (v := ?_) rfl rfl (by kernel_rfl) (by kernel_rfl) (by kernel_rfl) (fun _ _ _ h => h) (Or.inl ⟨by rfl, ?hy⟩) hSc ?_
  case hy => (intro w hSw; (try dsimp only at hSw); go_simp; try with_reducible rfl)
  simp only [Act.put, List.setIfInBounds_toArray, List.set_cons_zero, List.set_cons_succ]
  refine take_at (i := 13) (d := some 49) (v := ?_) rfl rfl (by kernel_rfl) (by kernel_rfl) (by kernel_rfl) (fun _ _ _ h => h) (Or.inl ⟨by rfl, ?hy⟩) hSc ?_
  case hy => (intro w hSw; (try dsimp only at hSw); go_simp; try with_reducible rfl)
  simp only [Act.put, List.setIfInBounds_toArray, List.set_cons_zero, List.set_cons_succ]
  refine take_at (i := 14) (d := some 50) (v := ?_) rfl rfl (by kernel_rfl) (by kernel_rfl) (by kernel_rfl) (fun _ _ _ h => h) (Or.inl ⟨by rfl, ?hy⟩) hSc ?_
  case hy => (intro w hSw; (try dsimp only at hSw); go_simp; try with_reducible rfl)
  simp only [Act.put, List.setIfInBounds_toArray, List.set_cons_zero, List.set_cons_succ]
  refine take_at (i := 15) (d := some 51) (v := ?_) rfl rfl (by kernel_rfl) (by kernel_rfl) (by kernel_rfl) (fun _ _ _ h => h) (Or.inl ⟨by rfl, ?hy⟩) hSc ?_
  case hy => (intro w hSw; (try dsimp only at hSw); go_simp; try with_reducible rfl)
  simp only [Act.put, List.setIfInBounds_toArray, List.set_cons_zero, List.set_cons_succ]
  refine take_at (i := 16) (d := some 52) (v := ?_) rfl rfl (by kernel_rfl) (by kernel_rfl) (by kernel_rfl) (fun _ _ _ h => h) (Or.inl ⟨by rfl, ?hy⟩) hSc ?_
  case hy => (intro w hSw; (try dsimp only at hSw); go_simp; try with_reducible rfl)
  simp only [Act.put, List.setIfInBounds_toArray, List.set_cons_zero, List.set_cons_succ]
  refine take_at (i := 17) (d := some 53) (v := ?_) rfl rfl (by kernel_rfl) (by kernel_rfl) (by kernel_rfl) (fun _ _ _ h => h) (Or.inl ⟨by rfl, ?hy⟩) hSc ?_
  case hy => (intro w hSw; (try dsimp only at hSw); go_simp; try with_reducible rfl)
  simp only [Act.put, List.setIfInBounds_toArray, List.set_cons_zero, List.set_cons_succ]
  refine take_at (i := 18) (d := some 54) (v := ?_) rfl rfl (by kernel_rfl) (by kernel_rfl) (by kernel_rfl) (fun _ _ _ h => h) (Or.inl ⟨by rfl, ?hy⟩) hSc ?_
  case hy => (intro w hSw; (try dsimp only at hSw); go_simp; try with_reducible rfl)
  simp only [Act.put, List.setIfInBounds_toArray, List.set_cons_zero, List.set_cons_succ]
  refine take_at (i := 19) (d := some 55) (v := ?_) rfl rfl (by kernel_rfl) (by kernel_rfl) (by kernel_rfl) (fun _ _ _ h => h) (Or.inl ⟨by rfl, ?hy⟩) hSc ?_
  case hy => (intro w hSw; (try dsimp only at hSw); go_simp; try with_reducible rfl)
  simp only [Act.put, List.setIfInBounds_toArray, List.set_cons_zero, List.set_cons_succ]
  refine wpAnyH_ready (rs := [12]) (by kernel_rfl) (by simp) ?_
  refine AllReadyH.cons rfl (fun K hK => ?_) AllReadyH.nil
  go_simp
  refine CL.mono ?_
  rintro e w4 ⟨rfl, rfl⟩
  refine hK.out _ _ hSc (fun hSn => ?_)
  clear hK K
  refine take_at (i := 20) (d := some 56) (v := ?_) rfl rfl (by kernel_rfl) (by kernel_rfl) (by kernel_rfl) (fun _ _ _ h => h) (Or.inl ⟨by rfl, ?hy⟩) hSc ?_
  case hy => (intro w hSw; (try dsimp only at hSw); go_simp; try with_reducible rfl)
  simp only [Act.put, List.setIfInBounds_toArray, List.set_cons_zero, List.set_cons_succ]
  refine take_at (i := 21) (d := some 57) (v := ?_) rfl rfl (by kernel_rfl) (by kernel_rfl) (by kernel_rfl) (fun _ _ _ h => h) (Or.inl ⟨by rfl, ?hy⟩) hSc ?_
  case hy => (intro w hSw; (try dsimp only at hSw); go_simp; try with_reducible rfl)
  simp only [Act.put, List.setIfInBounds_toArray, List.set_cons_zero, List.set_cons_succ]
  refine take_at (i := 22) (d := some 58) (v := ?_) rfl rfl (by kernel_rfl) (by kernel_rfl) (by kernel_rfl) (fun _ _ _ h => h) (Or.inl ⟨by rfl, ?hy⟩) hSc ?_
  case hy => (intro w hSw; (try dsimp only at hSw); go_simp; try with_reducible rfl)
  simp only [Act.put, List.setIfInBounds_toArray, List.set_cons_zero, List.set_cons_succ]
  refine take_at (i := 23) (d := some 59) (v := ?_) rfl rfl (by kernel_rfl) (by kernel_rfl) (by kernel_rfl) (fun _ _ _ h => h) (Or.inl ⟨by rfl, ?hy⟩) hSc ?_
  case hy => (intro w hSw; (try dsimp only at hSw); go_simp; try with_reducible rfl)
  simp only [Act.put, List.setIfInBounds_toArray, List.set_cons_zero, List.set_cons_succ]
  refine take_at (i := 24) (d := some 60) (v := ?_) rfl rfl (by kernel_rfl) (by kernel_rfl) (by kernel_rfl) (fun _ _ _ h => h) (Or.inl ⟨by rfl, ?hy⟩) hSc ?_
  case hy => (intro w hSw; (try dsimp only at hSw); go_simp; try with_reducible rfl)
  simp only [Act.put, List.setIfInBounds_toArray, List.set_cons_zero, List.set_cons_succ]
  refine take_at (i := 25) (d := some 61) (v := ?_) rfl rfl (by kernel_rfl) (by kernel_rfl) (by kernel_rfl) (fun _ _ _ h => h) (Or.inl ⟨by rfl, ?hy⟩) hSc ?_
  case hy => (intro w hSw; (try dsimp only at hSw); go_simp; try with_reducible rfl)
  simp only [Act.put, List.setIfInBounds_toArray, List.set_cons_zero, List.set_cons_succ]
  refine take_at (i := 26) (d := some 62) (v := ?_) rfl rfl (by kernel_rfl) (by kernel_rfl) (by kernel_rfl) (fun _ _ _ h => h) (Or.inl ⟨by rfl, ?hy⟩) hSc ?_
  case hy => (intro w hSw; (try dsimp only at hSw); go_simp; try with_reducible rfl)
  simp only [Act.put, List.setIfInBounds_toArray, List.set_cons_zero, List.set_cons_succ]
  refine take_at (i := 27) (d := some 63) (v := ?_) rfl rfl (by kernel_rfl) (by kernel_rfl) (by kernel_rfl) (fun _ _ _ h => h) (Or.inl ⟨by rfl, ?hy⟩) hSc ?_
  case hy => (intro w hSw; (try dsimp only at hSw); go_simp; try with_reducible rfl)
  simp only [Act.put, List.setIfInBounds_toArray, List.set_cons_zero, List.set_cons_succ]
  refine take_at (i := 28) (d := some 64) (v := ?_) rfl rfl (by kernel_rfl) (by kernel_rfl) (by kernel_rfl) (fun _ _ _ h => h) (Or.inl ⟨by rfl, ?hy⟩) hSc ?_
  case hy => (intro w hSw; (try dsimp only at hSw); go_simp; try with_reducible rfl)
  simp only [Act.put, List.setIfInBounds_toArray, List.set_cons_zero, List.set_cons_succ]
  refine take_at (i := 29) (d := some 65) (v := ?_) rfl rfl (by kernel_rfl) (by kernel_rfl) (by kernel_rfl) (fun _ _ _ h => h) (Or.inl ⟨by rfl, ?hy⟩) hSc ?_
  case hy => (intro w hSw; (try dsimp only at hSw); go_simp; try with_reducible rfl)
  simp only [Act.put, List.setIfInBounds_toArray, List.set_cons_zero, List.set_cons_succ]
  refine take_at (i := 30) (d := some 66) (v := ?_) rfl rfl (by kernel_rfl) (by kernel_rfl) (by kernel_rfl) (fun _ _ _ h => h) (Or.inl ⟨by rfl, ?hy⟩) hSc ?_
  case hy => (intro w hSw; (try dsimp only at hSw); go_simp; try with_reducible rfl)
  simp only [Act.put, List.setIfInBounds_toArray, List.set_cons_zero, List.set_cons_succ]
  refine take_at (i := 31) (d := some 67) (v := ?_) rfl rfl (by kernel_rfl) (by kernel_rfl) (by kernel_rfl) (fun _ _ _ h => h) (Or.inl ⟨by rfl, ?hy⟩) hSc ?_
  case hy => (intro w hSw; (try dsimp only at hSw); go_simp; try with_reducible rfl)
  simp only [Act.put, List.setIfInBounds_toArray, List.set_cons_zero, List.set_cons_succ]
  refine take_at (i := 32) (d := some 68) (v := ?_) rfl rfl (by kernel_rfl) (by kernel_rfl) (by kernel_rfl) (fun _ _ _ h => h) (Or.inl ⟨by rfl, ?hy⟩) hSc ?_
  case hy => (intro w hSw; (try dsimp only at hSw); go_simp; try with_reducible rfl)
  simp only [Act.put, List.setIfInBounds_toArray, List.set_cons_zero, List.set_cons_succ]
  have CS := HP.out.sight
  refine take_at (i := 33) (d := some 69) (v := ?_) rfl rfl (by kernel_rfl) (by kernel_rfl) (by kernel_rfl) (fun _ _ _ h => h) (Or.inl ⟨by rfl, ?hy⟩) hSc ?_
  case hy => (intro w hSw; (try dsimp only at hSw); go_simp; try with_reducible rfl)
  simp only [Act.put, List.setIfInBounds_toArray, List.set_cons_zero, List.set_cons_succ]
  refine take_at (i := 34) (d := some 70) (v := ?_) rfl rfl (by kernel_rfl) (by kernel_rfl) (by kernel_rfl) (fun _ _ _ h => h) (Or.inl ⟨by rfl, ?hy⟩) hSc ?_
  case hy => (intro w hSw; (try dsimp only at hSw); go_simp; try with_reducible rfl)
  simp only [Act.put, List.setIfInBounds_toArray, List.set_cons_zero, List.set_cons_succ]
  refine take_at (i := 35) (d := some 71) (v := ?_) rfl rfl (by kernel_rfl) (by kernel_rfl) (by kernel_rfl) (fun _ _ _ h => h) (Or.inl ⟨by rfl, ?hy⟩) hSc ?_
  case hy => (intro w hSw; (try dsimp only at hSw); go_simp; try with_reducible rfl)
  simp only [Act.put, List.setIfInBounds_toArray, List.set_cons_zero, List.set_cons_succ]
  refine take_at (i := 36) (d := some 72) (v := ?_) rfl rfl (by kernel_rfl) (by kernel_rfl) (by kernel_rfl) (fun _ _ _ h => h) (Or.inl ⟨by rfl, ?hy⟩) hSc ?_
  case hy => (intro w hSw; (try dsimp only at hSw); go_simp; try with_reducible rfl)
  simp only [Act.put, List.setIfInBounds_toArray, List.set_cons_zero, List.set_cons_succ]
  refine take_at (i := 38) (d := some 74) (v := ?_) rfl rfl (by kernel_rfl) (by kernel_rfl) (by kernel_rfl) (fun _ _ _ h => h) (Or.inl ⟨by rfl, ?hy⟩) hSc ?_
  case hy => (intro w hSw; (try dsimp only at hSw); go_simp; try with_reducible rfl)
  simp only [Act.put, List.setIfInBounds_toArray, List.set_cons_zero, List.set_cons_succ]
  refine take_at (i := 39) (d := some 75) (v := ?_) rfl rfl (by kernel_rfl) (by kernel_rfl) (by kernel_rfl) (fun _ _ _ h => h) (Or.inl ⟨by rfl, ?hy⟩) hSc ?_
  case hy => (intro w hSw; (try dsimp only at hSw); go_simp; try with_reducible rfl)
  simp only [Act.put, List.setIfInBounds_toArray, List.set_cons_zero, List.set_cons_succ]
  refine take_at (i := 40) (d := some 76) (v := ?_) rfl rfl (by kernel_rfl) (by kernel_rfl) (by kernel_rfl) (fun _ _ _ h => h) (Or.inl ⟨by rfl, ?hy⟩) hSc ?_
  case hy => (intro w hSw; (try dsimp only at hSw); go_simp; try with_reducible rfl)
  simp only [Act.put, List.setIfInBounds_toArray, List.set_cons_zero, List.set_cons_succ]
  refine take_at (i := 41) (d := some 77) (v := ?_) rfl rfl (by kernel_rfl) (by kernel_rfl) (by kernel_rfl) (fun _ _ _ h => h) (Or.inl ⟨by rfl, ?hy⟩) hSc ?_
  case hy => (intro w hSw; (try dsimp only at hSw); go_simp; try with_reducible rfl)
  simp only [Act.put, List.setIfInBounds_toArray, List.set_cons_zero, List.set_cons_succ]
  refine wpAnyH_ready (rs := [37]) (by kernel_rfl) (by simp) ?_
  refine AllReadyH.cons rfl (fun K hK => ?_) AllReadyH.nil
  go_simp
  refine CS.mono ?_
  rintro e w5 ⟨hc, ev1, rfl, hSg, gi5, r5, h5, ev5, a5, b5, hP5⟩
  clear CS
  have hS5 : (w5.cell? ⟨X, 0, none⟩ = some (.pointer (some ⟨p'.g, 0, none⟩)) ∧ w5.cell? ⟨X, 1, none⟩ = some (.pointer (some ⟨p'.g2, 0, none⟩))) ∧ w5.cell? ⟨p'.g2, 3, none⟩ = some (.int .i64 (t'.live : Int)) ∧ w5.cell? ⟨p'.g2, 0, none⟩ = some (.slice ae t'.es.length cape) := ⟨⟨hP5.tw.hx.c 0 (by omega), hP5.tw.hx.c 1 (by omega)⟩, (hP5.tw.rt.hd.c 3 (by omega)).trans (by show some (Value.int .i64 (t'.sh.live : Int)) = _; rw [Tb.sh_live]), (hP5.tw.rt.hd.c 0 (by omega)).trans (congrArg some HEV2.out)⟩
  refine hK.out _ _ hS5 (fun hSn => ?_)
  clear hK K
  clear hSn
  have HP5 := Lib.hid hP5
  have CT := rsight_s HP5.out.tw.rt hlen'
  dsimp only at CT
  have HSg := Lib.hid hSg
  clear hSg hP5 HP
  refine wpAnyH_ready (rs := [42]) (by kernel_rfl) (by simp) ?_
  refine AllReadyH.cons rfl (fun K hK => ?_) AllReadyH.nil
  go_simp
  refine CT.mono ?_
  rintro e w6 ⟨ca, cc, ea, ec, rfl, hN6, hE6, hB6⟩
  clear CT
  have hS6 : (w6.cell? ⟨X, 0, none⟩ = some (.pointer (some ⟨p'.g, 0, none⟩)) ∧ w6.cell? ⟨X, 1, none⟩ = some (.pointer (some ⟨p'.g2, 0, none⟩))) ∧ w6.cell? ⟨p'.g2, 3, none⟩ = some (.int .i64 (t'.live : Int)) ∧ w6.cell? ⟨p'.g2, 0, none⟩ = some (.slice ae t'.es.length cape) := ⟨⟨(hB6.cell (p := ⟨X, 0, none⟩) (lt_of_cell hS5.1.1)).trans hS5.1.1, (hB6.cell (p := ⟨X, 1, none⟩) (lt_of_cell hS5.1.1)).trans hS5.1.2⟩, (hB6.cell (p := ⟨p'.g2, 3, none⟩) (lt_of_cell hS5.2.1)).trans hS5.2.1, (hB6.cell (p := ⟨p'.g2, 0, none⟩) (lt_of_cell hS5.2.1)).trans hS5.2.2⟩
  refine hK.out _ _ hS6 (fun hSn => ?_)
  clear hK K
  clear hSn
  have HP6 := Lib.hid (HP5.out.below HMo.out hB6)
  have CG := sight_both hlen' HP6.out.tw.ok.sz.2 (HSg.out.below hB6) hN6 hE6
  clear hN6 hE6 hB6 HSg HP5
  refine wpAnyH_ready (rs := [43]) (by kernel_rfl) (by simp) ?_
  refine AllReadyH.cons rfl (fun K hK => ?_) AllReadyH.nil
  go_simp
  refine CG.mono ?_
  rintro e w7 ⟨rfl, hB7⟩
  clear CG
  have hS7 : (w7.cell? ⟨X, 0, none⟩ = some (.pointer (some ⟨p'.g, 0, none⟩)) ∧ w7.cell? ⟨X, 1, none⟩ = some (.pointer (some ⟨p'.g2, 0, none⟩))) ∧ w7.cell? ⟨p'.g2, 3, none⟩ = some (.int .i64 (t'.live : Int)) ∧ w7.cell? ⟨p'.g2, 0, none⟩ = some (.slice ae t'.es.length cape) := ⟨⟨(hB7.cell (p := ⟨X, 0, none⟩) (lt_of_cell hS6.1.1)).trans hS6.1.1, (hB7.cell (p := ⟨X, 1, none⟩) (lt_of_cell hS6.1.1)).trans hS6.1.2⟩, (hB7.cell (p := ⟨p'.g2, 3, none⟩) (lt_of_cell hS6.2.1)).trans hS6.2.1, (hB7.cell (p := ⟨p'.g2, 0, none⟩) (lt_of_cell hS6.2.1)).trans hS6.2.2⟩
  refine hK.out _ _ hS7 (fun hSn => ?_)
  clear hK K
  clear hSn
  have HPF := Lib.hid (HP6.out.below HMo.out hB7)
  clear hB7 HP6
  refine take_at (i := 44) (d := some 80) (v := ?_) rfl rfl (by kernel_rfl) (by kernel_rfl) (by kernel_rfl) (fun _ _ _ h => h) (Or.inl ⟨by rfl, ?hy⟩) hS7 ?_
  case hy => (intro w hSw; (try dsimp only at hSw); go_simp; try with_reducible rfl)
  simp only [Act.put, List.setIfInBounds_toArray, List.set_cons_zero, List.set_cons_succ]
  refine take_at (i := 45) (d := some 81) (v := ?_) rfl rfl (by kernel_rfl) (by kernel_rfl) (by kernel_rfl) (fun _ _ _ h => h) (Or.inl ⟨by rfl, ?hy⟩) hS7 ?_
  case hy => (intro w hSw; (try dsimp only at hSw); go_simp; try with_reducible rfl)
  simp only [Act.put, List.setIfInBounds_toArray, List.set_cons_zero, List.set_cons_succ]
  refine take_at (i := 46) (d := some 82) (v := ?_) rfl rfl (by kernel_rfl) (by kernel_rfl) (by kernel_rfl) (fun _ _ _ h => h) (Or.inl ⟨by rfl, ?hy⟩) hS7 ?_
  case hy => (intro w hSw; (try dsimp only at hSw); go_simp; try with_reducible rfl)
  simp only [Act.put, List.setIfInBounds_toArray, List.set_cons_zero, List.set_cons_succ]
  refine wpAnyH_done (by kernel_rfl) ?_ _
  refine NoPanic.normal ?_
  go_wp2_with fail
  go_roundw
  case rel => exact ⟨k + 1, by omega, by go_num, Or.inl ⟨_, _, _, _, by rw [HK0.out]; exact HPF.out⟩⟩
  case measure => simp [intOf]; omega
end Go.Proofs.YtdjabdmnknlaeaaGreat
