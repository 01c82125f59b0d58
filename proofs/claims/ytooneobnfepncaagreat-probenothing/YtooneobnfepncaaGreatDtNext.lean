/-
  A Seeker's hasEnded and visit.
-/
import Derived.Test.YtooneobnfepncaaGreatDtSeek
import Derived.BigQuiet
namespace Go.Proofs.YtooneobnfepncaaGreat
open Go.RowKit Go.WideShapes

set_option maxRecDepth 100000 in
set_option maxHeartbeats 4000000 in
theorem hasEnded_no {w : World} {s g tu : Nat} (x0 : w.cell? ⟨s, 0, none⟩ = some (.pointer (some ⟨g, 0, none⟩))) (x1 : w.cell? ⟨s, 1, none⟩ = some (.int .i64 (tu : Int))) (k6 : w.cell? ⟨g, 6, none⟩ = some (.int .i64 (tu : Int))) :
    Calls Tryz.prog 131 #[.pointer (some ⟨s, 0, none⟩)] w fun e w' => e = .returned (.bool false) ∧ w' = w.drew := by
  go_enter Tryz.func131, Tryz.ntmps131
  go_wp2_with fail
  go_region_held3 (fun V => V.cell? ⟨s, 0, none⟩ = some (.pointer (some ⟨g, 0, none⟩)) ∧ V.cell? ⟨s, 1, none⟩ = some (.int .i64 (tu : Int)) ∧ V.cell? ⟨g, 6, none⟩ = some (.int .i64 (tu : Int)))
    (first | exact ⟨x0, x1, k6⟩ | fail) (fail)
  go_wp2
  go_ret
  exact ⟨rfl, rfl⟩
theorem visited_any {w : World} {s : Nat} {v : Int} (x7 : w.cell? ⟨s, 7, none⟩ = some (.int .i64 v)) : Calls Tryz.prog 51 #[.pointer (some ⟨s, 0, none⟩)] w fun e w' => e = .returned (.int .i64 v) ∧ w' = w := by
  go_enter Tryz.func51, Tryz.ntmps51
  go_wp2
  go_ret
  exact ⟨rfl, rfl⟩
set_option maxRecDepth 100000 in
set_option maxHeartbeats 4000000 in
theorem visit7_any {w : World} {g gi r h : Nat} {ev : Value} {t : Tb} {mv : Value} {M : Int → Int → World → Prop} {a b : Int} (hD : Dt w g gi r h ev t mv) (hMo : MtOk mv M) (hMv : MvOk mv M) (hM : M a b w) (hb : 0 ≤ b ∧ b ≤ 1000000000000) {s tu i v : Nat} {u told : Int} (hK : Sk w s (.pointer (some ⟨g, 0, none⟩)) tu u t.L i told v) (hs : ¬ dX g gi r h ev s) (hsm : ¬ mB mv s) (hv : v ≤ 1000000000) :
    Calls Tryz.prog 132 #[.pointer (some ⟨s, 0, none⟩)] w fun e w' => e = .returned (.int .i64 (t.c (trl (uw u) t.L i))) ∧ Sk w' s (.pointer (some ⟨g, 0, none⟩)) tu u t.L (i + 1) told (v + 1) ∧ M a (b + 1) w' ∧ Ex (fun k => k = s ∨ mB mv k) w w' := by
  have hS : Tr.Sz t.L (2 ^ t.L) := ⟨rfl, hD.cl.sz.le⟩
  have hx := trl_lt (uw u) t.L i
  have hm := hS.most
  have hp64 : uw u / 32 ^ i < 18446744073709551616 := Nat.lt_of_le_of_lt (Nat.div_le_self _ _) (uw_lt u)
  have x0 : w.cell? ⟨s, 0, none⟩ = some (.pointer (some ⟨g, 0, none⟩)) := hK.c 0 (by omega)
  have k1 : w.cell? ⟨g, 1, none⟩ = some (.pointer (some ⟨gi, 0, none⟩)) := hD.hd.c 1 (by omega)
  have k0 : w.cell? ⟨g, 0, none⟩ = some mv := hD.hd.c 0 (by omega)
  have hsg : s ≠ g := fun e => hs (.inl e)
  have lg := hD.hd.lt (by omega)
  have ls := hK.lt (by omega)
  have CC : Calls Tryz.prog 154 #[.pointer (some ⟨s, 3, none⟩)] w.drew fun e w' => e = .returned (.int .i64 ((trl (uw u) t.L i : Nat) : Int)) ∧ w' = w.drew := Tr.cell_any s 3 _ (by omega) _ (hK.c 3 (by omega))
  have CG : Calls Tryz.prog 150 #[.pointer (some ⟨gi, 0, none⟩), .int .i64 ((trl (uw u) t.L i : Nat) : Int)] w.drew fun e w' => e = .returned (.tuple #[.int .i64 (t.c (trl (uw u) t.L i)), .int .i64 0]) ∧ w' = w.drew := getM_yes (hD.cl.same (w' := w.drew) rfl rfl rfl) _ hx
  have CS : Calls Tryz.prog 155 #[.pointer (some ⟨s, 3, none⟩)] w.drew _ := Tr.step_any hS s 3 _ _ hx hp64 w.drew (hK.c 3 (by omega)) (hK.c 4 (by omega)) (hK.c 5 (by omega)) (hK.z 3) (hK.z 4)
  rw [show (trl (uw u) t.L i * 5 + uw u / 32 ^ i / 32 + 1) % 2 ^ t.L = trl (uw u) t.L (i + 1) by rw [trl, left_step], left_step] at CS
  have hK2 : Blk (Tr.stepW w.drew s 3 (trl (uw u) t.L (i + 1)) (uw u / 32 ^ (i + 1))) s 8 (skF (.pointer (some ⟨g, 0, none⟩)) tu u (trl (uw u) t.L (i + 1)) (uw u / 32 ^ (i + 1)) (2 ^ t.L) told v) := by
    unfold Tr.stepW
    have h1 : Blk w.drew s 8 _ := hK.same rfl
    refine (((h1.put 4 _).put 3 _).same (w' := World.drew _) rfl).congr fun j hj => ?_
    have : j = 0 ∨ j = 1 ∨ j = 2 ∨ j = 3 ∨ j = 4 ∨ j = 5 ∨ j = 6 ∨ j = 7 := by omega
    rcases this with rfl | rfl | rfl | rfl | rfl | rfl | rfl | rfl <;> rfl
  have hX2 : Ex (fun k => k = s ∨ mB mv k) w (Tr.stepW w.drew s 3 (trl (uw u) t.L (i + 1)) (uw u / 32 ^ (i + 1))) := by
    unfold Tr.stepW
    exact (((Ex.refl _ w).drew.setCell (p := ⟨s, 3 + 1, none⟩) (fun _ => .inl rfl) _).setCell (p := ⟨s, 3, none⟩) (fun _ => .inl rfl) _).drew
  have HX2same : Hid (∀ k, mB mv k → k ≠ s → (Tr.stepW w.drew s 3 (trl (uw u) t.L (i + 1)) (uw u / 32 ^ (i + 1))).heap[k]? = w.heap[k]?) := fun k _ hks => by
    unfold Tr.stepW
    show (World.setCell _ _ _).heap[k]? = _
    rw [Below.heap_setCell _ _ _ _ hks, Below.heap_setCell _ _ _ _ hks]
    rfl
  have HD := Lib.hid hD
  have HMO := Lib.hid hMo
  have HMV := Lib.hid hMv
  have HM := Lib.hid hM
  clear hS hx hD hK hMo hMv hM hp64
  generalize t.c (trl (uw u) t.L i) = cv at *
  generalize trl (uw u) t.L i = x at *
  generalize Tr.stepW w.drew s 3 (trl (uw u) t.L (i + 1)) (uw u / 32 ^ (i + 1)) = w2 at *
  have d0 : w.drew.cell? ⟨s, 0, none⟩ = some (.pointer (some ⟨g, 0, none⟩)) := x0
  have d1 : w.drew.cell? ⟨g, 1, none⟩ = some (.pointer (some ⟨gi, 0, none⟩)) := k1
  go_enter Tryz.func132, Tryz.ntmps132
  go_wp2_with fail
  go_region_held3 (fun V => V.cell? ⟨s, 0, none⟩ = some (.pointer (some ⟨g, 0, none⟩)) ∧ V.cell? ⟨g, 1, none⟩ = some (.pointer (some ⟨gi, 0, none⟩)))
    (first | with_reducible exact ⟨d0, d1⟩ | with_reducible exact ⟨x0, k1⟩ | fail)
    (first | (go_at_call 154; refine CC.mono ?_; rintro e v2 ⟨rfl, rfl⟩) | (go_at_call 150; refine CG.mono ?_; rintro e v2 ⟨rfl, rfl⟩) | fail)
  clear CC CG
  have y0 : w2.cell? ⟨s, 0, none⟩ = some (.pointer (some ⟨g, 0, none⟩)) := hK2.c 0 (by omega)
  have y7 : w2.cell? ⟨s, 7, none⟩ = some (.int .i64 (v : Int)) := hK2.c 7 (by omega)
  have yz7 := hK2.z 7
  have e7 : IntKind.i64.wrap ((v : Int) + 1) = (v : Int) + 1 := i64_small (by omega) (by omega)
  have o3 : ∀ k, k ≠ s → (w2.setCell ⟨s, 7, none⟩ (.int .i64 ((v : Int) + 1))).heap[k]? = w2.heap[k]? := fun k hk => Below.heap_setCell _ _ _ _ hk
  have hK3 : Blk (w2.setCell ⟨s, 7, none⟩ (.int .i64 ((v : Int) + 1))) s 8 (skF (.pointer (some ⟨g, 0, none⟩)) tu u (trl (uw u) t.L (i + 1)) (uw u / 32 ^ (i + 1)) (2 ^ t.L) told (v + 1)) := (hK2.put 7 _).congr fun j hj => by
    have : j = 0 ∨ j = 1 ∨ j = 2 ∨ j = 3 ∨ j = 4 ∨ j = 5 ∨ j = 6 ∨ j = 7 := by omega
    rcases this with rfl | rfl | rfl | rfl | rfl | rfl | rfl | rfl
    · rfl
    · rfl
    · rfl
    · rfl
    · rfl
    · rfl
    · rfl
    · show Value.int .i64 ((v + 1 : Nat) : Int) = Value.int .i64 ((v : Int) + 1)
      rw [Int.natCast_add]
      rfl
  have hX3 := hX2.setCell (p := ⟨s, 7, none⟩) (fun _ => .inl rfl) (.int .i64 ((v : Int) + 1))
  have z0 : (w2.setCell ⟨s, 7, none⟩ (.int .i64 ((v : Int) + 1))).cell? ⟨s, 0, none⟩ = some (.pointer (some ⟨g, 0, none⟩)) := hK3.c 0 (by omega)
  have zg : (w2.setCell ⟨s, 7, none⟩ (.int .i64 ((v : Int) + 1))).cell? ⟨g, 0, none⟩ = some mv := (World.cell?_of_block (a := ⟨g, 0, none⟩) (hX3.block g lg (fun hx => hx.elim (fun e => hsg e.symm) (fun e => (HD.out.mp g e).1 rfl)))).trans k0
  have hM3 : M a b (w2.setCell ⟨s, 7, none⟩ (.int .i64 ((v : Int) + 1))) := HMO.out.same a b w _ HM.out fun k hk => by
    have hks : k ≠ s := fun e => hsm (e ▸ hk)
    rw [o3 k hks]
    exact HX2same.out k hk hks
  have CV := HMV.out a b _ hb.1 hb.2 hM3
  have HK3 := Lib.hid hK3
  have HX3 := Lib.hid hX3
  clear hK2 hX2 hK3 hX3 hM3 o3
  go_wp2_with fail
  refine CS.mono ?_
  rintro e w3 ⟨rfl, rfl⟩
  clear CS
  go_wp2_with fail
  refine CV.mono ?_
  rintro e w4 ⟨rfl, hM4, hX4⟩
  clear CV
  go_wp2
  go_ret
  refine ⟨rfl, HK3.out.same (hX4.block s (by have := HX3.out.size; omega) hsm), hM4, HX3.out.next hX4 (fun k _ hk => .inr hk)⟩
end Go.Proofs.YtooneobnfepncaaGreat
