/-
  Seek, and a Seeker's visit.
  A Seeker's hasEnded and visit.
  A Seeker's Next; At.
  Put; At where it refuses; Next of a Seeker that has ended.
  Clear.
  Kill.
-/
import Derived.Test.YtdjabdmnknlaeaaGreatDtTell
import Derived.BigQuiet
namespace Go.Proofs.YtdjabdmnknlaeaaGreat
open Go.RowKit Go.WideShapes

/-- What a Seeker asks of the meter. -/
def MvOk (mv : Value) (M : Int → Int → World → Prop) : Prop := ∀ a b w, 0 ≤ b → b ≤ 1000000000000 → M a b w → Calls Tryz.prog 73 #[mv, .int .i64 1] w fun e w' => e = .returned (.tuple #[]) ∧ M a (b + 1) w' ∧ Ex (mB mv) w w'
/-- A Seeker's cells: its table, the changes that it knows, its hash, its walk, what it told last, what it visited. -/
def skF (tp : Value) (tu : Nat) (u : Int) (c p S : Nat) (told : Int) (v : Nat) : Nat → Value
  | 0 => tp
  | 1 => .int .i64 (tu : Int)
  | 2 => .int .i64 u
  | 3 => .int .u64 (c : Int)
  | 4 => .int .u64 (p : Int)
  | 5 => .int .u64 ((S : Int) - 1)
  | 6 => .int .i64 told
  | _ => .int .i64 (v : Int)
/-- A Seeker at place i of the trail of u. -/
def Sk (w : World) (s : Nat) (tp : Value) (tu : Nat) (u : Int) (L i : Nat) (told : Int) (v : Nat) : Prop := Blk w s 8 (skF tp tu u (trl (uw u) L i) (uw u / 32 ^ i) (2 ^ L) told v)
set_option maxRecDepth 100000 in
set_option maxHeartbeats 4000000 in
theorem seek_any {w : World} {g gi r h : Nat} {ev : Value} {t : Tb} {mv : Value} (hD : Dt w g gi r h ev t mv) (u : Int) :
    Calls Tryz.prog 34 #[.pointer (some ⟨g, 0, none⟩), .int .i64 u] w fun e w' => ∃ s, e = .returned (.pointer (some ⟨s, 0, none⟩)) ∧ w.heap.size ≤ s ∧ Sk w' s (.pointer (some ⟨g, 0, none⟩)) t.turn u t.L 0 (-1) 0 ∧ Below w.heap.size w w' := by
  have k1 : w.cell? ⟨g, 1, none⟩ = some (.pointer (some ⟨gi, 0, none⟩)) := hD.hd.c 1 (by omega)
  have k6 : w.cell? ⟨g, 6, none⟩ = some (.int .i64 (t.turn : Int)) := hD.hd.c 6 (by omega)
  have hS : Tr.Sz t.L (2 ^ t.L) := ⟨rfl, hD.cl.sz.le⟩
  have CR := ready_yes k1
  have CL : Calls Tryz.prog 19 #[.pointer (some ⟨gi, 0, none⟩)] w.drew fun e w' => e = .returned (.int .i64 (t.L : Int)) ∧ w' = w.drew := log_any (hD.cl.same rfl rfl rfl)
  have CB := Tr.begin_any hS u w.drew
  have hlg := lt_of_cell k1
  have hB0 : Below w.heap.size w w.drew := (Below.refl _ w).drew
  have HT0 : Hid (uw u % 2 ^ t.L = trl (uw u) t.L 0) := by show _ = _; rw [trl]
  rw [HT0.out] at CB
  have d1 : w.drew.cell? ⟨g, 1, none⟩ = some (.pointer (some ⟨gi, 0, none⟩)) := k1
  have d6 : w.drew.cell? ⟨g, 6, none⟩ = some (.int .i64 (t.turn : Int)) := k6
  clear hD hS
  generalize hSS : 2 ^ t.L = S at *
  have HSS := Lib.hid hSS
  clear hSS
  generalize hx0 : trl (uw u) t.L 0 = x0 at *
  generalize hU : uw u = U at *
  have HX0 := Lib.hid hx0
  have HU := Lib.hid hU
  clear hx0 hU HT0
  go_enter Tryz.func34, Tryz.ntmps34
  go_wp2_with fail
  refine CR.mono ?_
  rintro e w1 ⟨rfl, rfl⟩
  clear CR
  go_wp2_with fail
  go_region_held3 (fun V => V.cell? ⟨g, 1, none⟩ = some (.pointer (some ⟨gi, 0, none⟩)) ∧ V.cell? ⟨g, 6, none⟩ = some (.int .i64 (t.turn : Int)))
    (first | with_reducible exact ⟨d1, d6⟩ | with_reducible exact ⟨k1, k6⟩ | with_reducible exact ⟨q1, q6⟩ | with_reducible exact ⟨r1, r6⟩ | fail)
    (first | (go_at_call 19; refine CL.mono ?_; rintro e v2 ⟨rfl, rfl⟩) | (go_at_call 59; refine CB.mono ?_; rintro e w2 ⟨rfl, hb2⟩; have hB2 := hB0.trans hb2; have q1 := (hB2.cell (p := ⟨g, 1, none⟩) hlg).trans k1; have q6 := (hB2.cell (p := ⟨g, 6, none⟩) hlg).trans k6; have r1 := (cell_alloc_old w2 (.cells #[.pointer (some ⟨g, 0, none⟩), .int .i64 (t.turn : Int), .int .i64 u, .int .u64 (x0 : Int), .int .u64 (U : Int), .int .u64 ((S : Int) - 1), .int .i64 (-1), .int .i64 0] 104) g 1 (Nat.lt_of_lt_of_le hlg hB2.size)).trans q1; have r6 := (cell_alloc_old w2 (.cells #[.pointer (some ⟨g, 0, none⟩), .int .i64 (t.turn : Int), .int .i64 u, .int .u64 (x0 : Int), .int .u64 (U : Int), .int .u64 ((S : Int) - 1), .int .i64 (-1), .int .i64 0] 104) g 6 (Nat.lt_of_lt_of_le hlg hB2.size)).trans q6) | fail)
  have HB : Hid (Blk (w2.alloc (.cells #[.pointer (some ⟨g, 0, none⟩), .int .i64 (t.turn : Int), .int .i64 u, .int .u64 (x0 : Int), .int .u64 (U : Int), .int .u64 ((S : Int) - 1), .int .i64 (-1), .int .i64 0] 104)) w2.heap.size 8 (skF (.pointer (some ⟨g, 0, none⟩)) t.turn u x0 U S (-1) 0)) := (Blk.new w2 _ _).congr fun j hj => by
    have : j = 0 ∨ j = 1 ∨ j = 2 ∨ j = 3 ∨ j = 4 ∨ j = 5 ∨ j = 6 ∨ j = 7 := by simp at hj; omega
    rcases this with rfl | rfl | rfl | rfl | rfl | rfl | rfl | rfl <;> rfl
  have HBW : Hid (∀ o, Below w1.heap.size w1 (w2.alloc o)) := fun o => hB2.alloc hB2.size o
  have hs2 := hB2.size
  clear q1 q6 r1 r6 d1 d6 k1 k6 hB2 hb2
  go_wp2
  go_ret
  refine ⟨w2.heap.size, rfl, hs2, ?_, HBW.out _⟩
  unfold Sk
  rw [HSS.out, HU.out, HX0.out]
  simpa using HB.out
end Go.Proofs.YtdjabdmnknlaeaaGreat
namespace Go.Proofs.YtdjabdmnknlaeaaGreat
open Go.RowKit Go.WideShapes

set_option maxRecDepth 100000 in
set_option maxHeartbeats 4000000 in
theorem hasEnded_no {w : World} {s g tu : Nat} (x0 : w.cell? ⟨s, 0, none⟩ = some (.pointer (some ⟨g, 0, none⟩))) (x1 : w.cell? ⟨s, 1, none⟩ = some (.int .i64 (tu : Int))) (k6 : w.cell? ⟨g, 6, none⟩ = some (.int .i64 (tu : Int))) :
    Calls Tryz.prog 61 #[.pointer (some ⟨s, 0, none⟩)] w fun e w' => e = .returned (.bool false) ∧ w' = w.drew := by
  go_enter Tryz.func61, Tryz.ntmps61
  go_wp2_with fail
  go_region_held3 (fun V => V.cell? ⟨s, 0, none⟩ = some (.pointer (some ⟨g, 0, none⟩)) ∧ V.cell? ⟨s, 1, none⟩ = some (.int .i64 (tu : Int)) ∧ V.cell? ⟨g, 6, none⟩ = some (.int .i64 (tu : Int)))
    (first | exact ⟨x0, x1, k6⟩ | fail) (fail)
  go_wp2
  go_ret
  exact ⟨rfl, rfl⟩
theorem visited_any {w : World} {s : Nat} {v : Int} (x7 : w.cell? ⟨s, 7, none⟩ = some (.int .i64 v)) : Calls Tryz.prog 38 #[.pointer (some ⟨s, 0, none⟩)] w fun e w' => e = .returned (.int .i64 v) ∧ w' = w := by
  go_enter Tryz.func38, Tryz.ntmps38
  go_wp2
  go_ret
  exact ⟨rfl, rfl⟩
set_option maxRecDepth 100000 in
set_option maxHeartbeats 4000000 in
theorem visit7_any {w : World} {g gi r h : Nat} {ev : Value} {t : Tb} {mv : Value} {M : Int → Int → World → Prop} {a b : Int} (hD : Dt w g gi r h ev t mv) (hMo : MtOk mv M) (hMv : MvOk mv M) (hM : M a b w) (hb : 0 ≤ b ∧ b ≤ 1000000000000) {s tu i v : Nat} {u told : Int} (hK : Sk w s (.pointer (some ⟨g, 0, none⟩)) tu u t.L i told v) (hs : ¬ dX g gi r h ev s) (hsm : ¬ mB mv s) (hv : v ≤ 1000000000) :
    Calls Tryz.prog 62 #[.pointer (some ⟨s, 0, none⟩)] w fun e w' => e = .returned (.int .i64 (t.c (trl (uw u) t.L i))) ∧ Sk w' s (.pointer (some ⟨g, 0, none⟩)) tu u t.L (i + 1) told (v + 1) ∧ M a (b + 1) w' ∧ Ex (fun k => k = s ∨ mB mv k) w w' := by
  have hS : Tr.Sz t.L (2 ^ t.L) := ⟨rfl, hD.cl.sz.le⟩
  have hx := trl_lt (uw u) t.L i
  have hm := hS.most
  have hp64 : uw u / 32 ^ i < 18446744073709551616 := Nat.lt_of_le_of_lt (Nat.div_le_self _ _) (uw_lt u)
  have x0 : w.cell? ⟨s, 0, none⟩ = some (.pointer (some ⟨g, 0, none⟩)) := hK.c 0 (by omega)
  have k1 : w.cell? ⟨g, 1, none⟩ = some (.pointer (some ⟨gi, 0, none⟩)) := hD.hd.c 1 (by omega)
  have k0 : w.cell? ⟨g, 0, none⟩ = some mv := hD.hd.c 0 (by omega)
  have hsg : s ≠ g := fun e => hs (.inl e)
  have lg := hD.hd.lt (by omega)
  have ls := hK.lt (by omega)
  have CC : Calls Tryz.prog 71 #[.pointer (some ⟨s, 3, none⟩)] w.drew fun e w' => e = .returned (.int .i64 ((trl (uw u) t.L i : Nat) : Int)) ∧ w' = w.drew := Tr.cell_any s 3 _ (by omega) _ (hK.c 3 (by omega))
  have CG : Calls Tryz.prog 69 #[.pointer (some ⟨gi, 0, none⟩), .int .i64 ((trl (uw u) t.L i : Nat) : Int)] w.drew fun e w' => e = .returned (.tuple #[.int .i64 (t.c (trl (uw u) t.L i)), .int .i64 0]) ∧ w' = w.drew := getM_yes (hD.cl.same (w' := w.drew) rfl rfl rfl) _ hx
  have CS : Calls Tryz.prog 72 #[.pointer (some ⟨s, 3, none⟩)] w.drew _ := Tr.step_any hS s 3 _ _ hx hp64 w.drew (hK.c 3 (by omega)) (hK.c 4 (by omega)) (hK.c 5 (by omega)) (hK.z 3) (hK.z 4)
  rw [show (trl (uw u) t.L i * 5 + uw u / 32 ^ i / 32 + 1) % 2 ^ t.L = trl (uw u) t.L (i + 1) by rw [trl, left_step], left_step] at CS
  have hK2 : Blk (Tr.stepW w.drew s 3 (trl (uw u) t.L (i + 1)) (uw u / 32 ^ (i + 1))) s 8 (skF (.pointer (some ⟨g, 0, none⟩)) tu u (trl (uw u) t.L (i + 1)) (uw u / 32 ^ (i + 1)) (2 ^ t.L) told v) := by
    unfold Tr.stepW
    have h1 : Blk w.drew s 8 _ := hK.same rfl
    refine (((h1.put 4 _).put 3 _).same (w' := World.drew _) rfl).congr fun j hj => ?_
    have : j = 0 ∨ j = 1 ∨ j = 2 ∨ j = 3 ∨ j = 4 ∨ j = 5 ∨ j = 6 ∨ j = 7 := by omega
    rcases this with rfl | rfl | rfl | rfl | rfl | rfl | rfl | rfl <;> rfl
  have hX2 : Ex (fun k => k = s ∨ mB mv k) w (Tr.stepW w.drew s 3 (trl (uw u) t.L (i + 1)) (uw u / 32 ^ (i + 1))) := by
    unfold Tr.stepW
    exact (((Ex.refl _ w).drew.setCell (p := ⟨s, 3 + 1, none⟩) (fun _ => .inl rfl) _).setCell (p := ⟨s, 3, none⟩) (fun _ => .inl rfl) _).drew
  have HX2same : Hid (∀ k, mB mv k → k ≠ s → (Tr.stepW w.drew s 3 (trl (uw u) t.L (i + 1)) (uw u / 32 ^ (i + 1))).heap[k]? = w.heap[k]?) := fun k _ hks => by
    unfold Tr.stepW
    show (World.setCell _ _ _).heap[k]? = _
    rw [Below.heap_setCell _ _ _ _ hks, Below.heap_setCell _ _ _ _ hks]
    rfl
  have HD := Lib.hid hD
  have HMO := Lib.hid hMo
  have HMV := Lib.hid hMv
  have HM := Lib.hid hM
  clear hS hx hD hK hMo hMv hM hp64
  generalize t.c (trl (uw u) t.L i) = cv at *
  generalize trl (uw u) t.L i = x at *
  generalize Tr.stepW w.drew s 3 (trl (uw u) t.L (i + 1)) (uw u / 32 ^ (i + 1)) = w2 at *
  have d0 : w.drew.cell? ⟨s, 0, none⟩ = some (.pointer (some ⟨g, 0, none⟩)) := x0
  have d1 : w.drew.cell? ⟨g, 1, none⟩ = some (.pointer (some ⟨gi, 0, none⟩)) := k1
  go_enter Tryz.func62, Tryz.ntmps62
  go_wp2_with fail
  go_region_held3 (fun V => V.cell? ⟨s, 0, none⟩ = some (.pointer (some ⟨g, 0, none⟩)) ∧ V.cell? ⟨g, 1, none⟩ = some (.pointer (some ⟨gi, 0, none⟩)))
    (first | with_reducible exact ⟨d0, d1⟩ | with_reducible exact ⟨x0, k1⟩ | fail)
    (first | (go_at_call 71; refine CC.mono ?_; rintro e v2 ⟨rfl, rfl⟩) | (go_at_call 69; refine CG.mono ?_; rintro e v2 ⟨rfl, rfl⟩) | fail)
  clear CC CG
  have y0 : w2.cell? ⟨s, 0, none⟩ = some (.pointer (some ⟨g, 0, none⟩)) := hK2.c 0 (by omega)
  have y7 : w2.cell? ⟨s, 7, none⟩ = some (.int .i64 (v : Int)) := hK2.c 7 (by omega)
  have yz7 := hK2.z 7
  have e7 : IntKind.i64.wrap ((v : Int) + 1) = (v : Int) + 1 := i64_small (by omega) (by omega)
  have o3 : ∀ k, k ≠ s → (w2.setCell ⟨s, 7, none⟩ (.int .i64 ((v : Int) + 1))).heap[k]? = w2.heap[k]? := fun k hk => Below.heap_setCell _ _ _ _ hk
  have hK3 : Blk (w2.setCell ⟨s, 7, none⟩ (.int .i64 ((v : Int) + 1))) s 8 (skF (.pointer (some ⟨g, 0, none⟩)) tu u (trl (uw u) t.L (i + 1)) (uw u / 32 ^ (i + 1)) (2 ^ t.L) told (v + 1)) := (hK2.put 7 _).congr fun j hj => by
    have : j = 0 ∨ j = 1 ∨ j = 2 ∨ j = 3 ∨ j = 4 ∨ j = 5 ∨ j = 6 ∨ j = 7 := by omega
    rcases this with rfl | rfl | rfl | rfl | rfl | rfl | rfl | rfl
    · rfl
    · rfl
    · rfl
    · rfl
    · rfl
    · rfl
    · rfl
    · show Value.int .i64 ((v + 1 : Nat) : Int) = Value.int .i64 ((v : Int) + 1)
      rw [Int.natCast_add]
      rfl
  have hX3 := hX2.setCell (p := ⟨s, 7, none⟩) (fun _ => .inl rfl) (.int .i64 ((v : Int) + 1))
  have z0 : (w2.setCell ⟨s, 7, none⟩ (.int .i64 ((v : Int) + 1))).cell? ⟨s, 0, none⟩ = some (.pointer (some ⟨g, 0, none⟩)) := hK3.c 0 (by omega)
  have zg : (w2.setCell ⟨s, 7, none⟩ (.int .i64 ((v : Int) + 1))).cell? ⟨g, 0, none⟩ = some mv := (World.cell?_of_block (a := ⟨g, 0, none⟩) (hX3.block g lg (fun hx => hx.elim (fun e => hsg e.symm) (fun e => (HD.out.mp g e).1 rfl)))).trans k0
  have hM3 : M a b (w2.setCell ⟨s, 7, none⟩ (.int .i64 ((v : Int) + 1))) := HMO.out.same a b w _ HM.out fun k hk => by
    have hks : k ≠ s := fun e => hsm (e ▸ hk)
    rw [o3 k hks]
    exact HX2same.out k hk hks
  have CV := HMV.out a b _ hb.1 hb.2 hM3
  have HK3 := Lib.hid hK3
  have HX3 := Lib.hid hX3
  clear hK2 hX2 hK3 hX3 hM3 o3
  go_wp2_with fail
  refine CS.mono ?_
  rintro e w3 ⟨rfl, rfl⟩
  clear CS
  go_wp2_with fail
  refine CV.mono ?_
  rintro e w4 ⟨rfl, hM4, hX4⟩
  clear CV
  go_wp2
  go_ret
  refine ⟨rfl, HK3.out.same (hX4.block s (by have := HX3.out.size; omega) hsm), hM4, HX3.out.next hX4 (fun k _ hk => .inr hk)⟩
end Go.Proofs.YtdjabdmnknlaeaaGreat
namespace Go.Proofs.YtdjabdmnknlaeaaGreat
open Go.RowKit Go.WideShapes

theorem Ex.drewN {X : Nat → Prop} {a w : World} (x : Ex X a w) (n : Nat) : Ex X a (w.drewN n) := ⟨x.os, x.tape, x.output, x.size, x.block⟩
/-- What Next leaves: it went on to place j; it told n, or it has ended. -/
structure Nx (w : World) (s g : Nat) (t : Tb) (mv : Value) (M : Int → Int → World → Prop) (a b : Int) (u : Int) (i v j : Nat) (tp : Value) (told : Int) (w' : World) : Prop where
  sk : Sk w' s tp t.turn u t.L (j + 1) told (v + (j + 1 - i))
  m : M a (b + ((j + 1 - i : Nat) : Int)) w'
  ex : Ex (fun k => k = s ∨ mB mv k) w w'
set_option maxRecDepth 100000 in
set_option maxHeartbeats 8000000 in
theorem next7_any {w : World} {g gi r h : Nat} {ev : Value} {t : Tb} {mv : Value} {M : Int → Int → World → Prop} {a b : Int} (hD : Dt w g gi r h ev t mv) (hI : Inv t.es t.L t.c) (hMo : MtOk mv M) (hMv : MvOk mv M) (hM : M a b w) (hb : 0 ≤ b ∧ b ≤ 100000000000) {s i v f : Nat} {u told : Int} (hK : Sk w s (.pointer (some ⟨g, 0, none⟩)) t.turn u t.L i told v) (hs : ¬ dX g gi r h ev s) (hsm : ¬ mB mv s) (hv : v ≤ 100000000)
    (hT : Told t.es t.L t.c u i told) (hF : IsF t.c (uw u) t.L f) (hf : f < 2 ^ t.L + 13) (hif : i ≤ f) (htd : -1 ≤ told) (hlen : t.es.length ≤ 100000) :
    Calls Tryz.prog 36 #[.pointer (some ⟨s, 0, none⟩)] w fun e w' => ∃ j, i ≤ j ∧ j ≤ f ∧ ((∃ n : Nat, e = .returned (.tuple #[.int .i64 (n : Int), .bool true]) ∧ Of t.es u n ∧ told < (n : Int) ∧ t.c (trl (uw u) t.L j) = (n : Int) ∧ Told t.es t.L t.c u j told ∧ Told t.es t.L t.c u (j + 1) (n : Int) ∧ (∀ m, Of t.es u m → told < (m : Int) → n ≤ m) ∧ Nx w s g t mv M a b u i v j (.pointer (some ⟨g, 0, none⟩)) (n : Int) w') ∨
      (e = .returned (.tuple #[.int .i64 (-1), .bool false]) ∧ j = f ∧ (∀ n, Of t.es u n → (n : Int) ≤ told) ∧ Nx w s g t mv M a b u i v j (.pointer none) told w')) := by
  have hm : 2 ^ t.L ≤ 1048576 := Nat.le_trans (Nat.pow_le_pow_right (n := 2) (by decide) hD.cl.sz.le) (by decide)
  have CE := hasEnded_no (hK.c 0 (by omega)) (hK.c 1 (by omega)) (hD.hd.c 6 (by omega))
  have HD := Lib.hid hD
  have HI := Lib.hid hI
  have HMO := Lib.hid hMo
  have HMV := Lib.hid hMv
  have HF := Lib.hid hF
  have HSD := Lib.hid hs
  have HK0 : Hid (Sk w.drew s (.pointer (some ⟨g, 0, none⟩)) t.turn u t.L i told v) := hK.same rfl
  have HM0 : Hid (M a b w.drew) := hMo.same a b w _ hM fun _ _ => rfl
  have HT0 := Lib.hid hT
  have hlg := hD.hd.lt (by omega)
  have hls := hK.lt (by omega)
  have hsg : s ≠ g := fun e => hs (.inl e)
  clear hD hI hMo hMv hF hs hK hM hT
  go_enter Tryz.func36, Tryz.ntmps36
  go_wp2_with fail
  refine CE.mono ?_
  rintro e w1 ⟨rfl, hw1⟩
  clear CE
  have HW1 := Lib.hid hw1
  clear hw1
  go_wp2_with fail
  go_loopg [4] (f + 1 - i) (fun gk _ wr => ∃ j : Nat, j + gk = f + 1 ∧ i ≤ j ∧ j ≤ f ∧ Sk wr s (.pointer (some ⟨g, 0, none⟩)) t.turn u t.L j told (v + (j - i)) ∧ M a (b + ((j - i : Nat) : Int)) wr ∧ Told t.es t.L t.c u j told ∧ Ex (fun k => k = s ∨ mB mv k) w wr)
  case atStart => exact ⟨i, by omega, Nat.le_refl _, hif, by rw [Nat.sub_self, Nat.add_zero, HW1.out]; exact HK0.out, by rw [Nat.sub_self, Int.natCast_zero, Int.add_zero, HW1.out]; exact HM0.out, HT0.out, by rw [HW1.out]; exact (Ex.refl _ w).drew⟩
  case round =>
    clear HK0 HM0 HT0 HW1
    obtain ⟨j, hgj, hij, hjf, hKj, hMj, hTj, hXj⟩ := hrel
    have hDj : Dt wr g gi r h ev t mv := HD.out.same fun k hk => hXj.block k (HD.out.lt k hk) (fun hx => hx.elim (fun e => HSD.out (e ▸ hk)) (fun e => by
      obtain ⟨m1, m2, m3, m4, m5⟩ := HD.out.mp k e
      rcases hk with y | y | y | y | y
      · exact m1 y
      · exact m2 y
      · exact m3 y
      · exact m4 y
      · exact m5 y))
    have CV := visit7_any hDj HMO.out HMV.out hMj (by omega) hKj HSD.out hsm (by omega)
    have HXj := Lib.hid hXj
    have HTj := Lib.hid hTj
    clear hDj hKj hMj hXj hTj
    have hsub : v + (j - i) + 1 = v + (j + 1 - i) := by omega
    have hsub2 : b + ((j - i : Nat) : Int) + 1 = b + ((j + 1 - i : Nat) : Int) := by omega
    rw [hsub, hsub2] at CV
    go_wp2_with fail
    refine CV.mono ?_
    rintro e w2 ⟨rfl, hK2, hM2, hX2⟩
    clear CV
    have hXw : Ex (fun k => k = s ∨ mB mv k) w w2 := HXj.out.trans hX2
    have hDw : Dt w2 g gi r h ev t mv := HD.out.same fun k hk => hXw.block k (HD.out.lt k hk) (fun hx => hx.elim (fun e => HSD.out (e ▸ hk)) (fun e => by
      obtain ⟨m1, m2, m3, m4, m5⟩ := HD.out.mp k e
      rcases hk with y | y | y | y | y
      · exact m1 y
      · exact m2 y
      · exact m3 y
      · exact m4 y
      · exact m5 y))
    have x0 : w2.cell? ⟨s, 0, none⟩ = some (.pointer (some ⟨g, 0, none⟩)) := hK2.c 0 (by omega)
    have x2 : w2.cell? ⟨s, 2, none⟩ = some (.int .i64 u) := hK2.c 2 (by omega)
    have x6 : w2.cell? ⟨s, 6, none⟩ = some (.int .i64 told) := hK2.c 6 (by omega)
    have z0 := hK2.z 0
    have z6 := hK2.z 6
    have HK2 := Lib.hid hK2
    have HM2 := Lib.hid hM2
    have HX2 := Lib.hid hXw
    clear hX2 hK2 hM2
    by_cases hE : t.c (trl (uw u) t.L j) = -1
    · have hjF : j = f := (show IsF t.c (uw u) t.L j from ⟨hE, fun q hq => HF.out.2 q (by omega)⟩).uniq HF.out
      have HEnd := Lib.hid (told_end HI.out HTj.out hE)
      have HN : Hid (Nx w s g t mv M a b u i v j (.pointer none) told (w2.setCell ⟨s, 0, none⟩ (.pointer none))) := by
        refine ⟨(HK2.out.put 0 _).congr (fun q hq => ?_), HMO.out.same _ _ w2 _ HM2.out (fun k hk => Below.heap_setCell _ _ _ _ (fun (e : k = s) => hsm (e ▸ hk))), HX2.out.setCell (p := ⟨s, 0, none⟩) (fun _ => .inl rfl) _⟩
        have : q = 0 ∨ q = 1 ∨ q = 2 ∨ q = 3 ∨ q = 4 ∨ q = 5 ∨ q = 6 ∨ q = 7 := by omega
        rcases this with rfl | rfl | rfl | rfl | rfl | rfl | rfl | rfl <;> rfl
      rw [hE]
      have HJF := Lib.hid hjF
      clear hE hDw hXw hjF
      go_wp2
      go_ret2
      exact ⟨j, hij, hjf, .inr ⟨rfl, HJF.out, HEnd.out, HN.out⟩⟩
    · have hjlt : j < f := by
        rcases Nat.lt_or_ge j f with z | z
        · exact z
        · exact absurd (by rw [show j = f by omega]; exact HF.out.1) hE
      have k2 : w2.cell? ⟨g, 2, none⟩ = some ev := hDw.hd.c 2 (by omega)
      obtain ⟨ae, cape, ge, hev, hae, hro⟩ := hDw.es.open
      rw [hev] at k2
      have hcap := hro.le
      rcases HI.out.cell (uw u) j hE with hc | ⟨n, hn, hc, hl⟩
      · have HT1 := Lib.hid (told_no HTj.out (fun q hq _ => by omega))
        have tc : decide (told < -2) = false := decide_eq_false (by omega)
        rw [hc]
        clear hE hDw hXw hro hae hc hev k2
        go_wp2_with fail
        go_quiet (fail)
        go_wp2_with fail
        go_roundg (f + 1 - (j + 1))
        case measure => omega
        case rel => exact ⟨j + 1, by omega, by omega, by omega, HK2.out.same rfl, HMO.out.same _ _ w2 _ HM2.out (fun _ _ => rfl), HT1.out, HX2.out.drewN _⟩
      · obtain ⟨hae1, _, _⟩ := hae (by omega)
        subst hae1
        have ke := hro.c1 n hn
        have tn : (n : Int) < (t.es.length : Int) := by omega
        have tn1 : ((n : Int) == -1) = false := by rw [beq_eq_false_iff_ne]; omega
        by_cases htn : told < (n : Int)
        · have td : decide (told < (n : Int)) = true := decide_eq_true htn
          by_cases hh : (nth t.es n).hash = u
          · have hOf : Of t.es u n := ⟨hn, hl, hh⟩
            have HC := Lib.hid hc
            have HT1 := Lib.hid (told_yes HI.out HTj.out hc htn hOf)
            have HOF := Lib.hid hOf
            have HN : Hid (Nx w s g t mv M a b u i v j (.pointer (some ⟨g, 0, none⟩)) (n : Int) (w2.drew.setCell ⟨s, 6, none⟩ (.int .i64 (n : Int)))) := by
              refine ⟨((show Blk w2.drew s 8 _ from HK2.out.same rfl).put 6 _).congr (fun q hq => ?_), HMO.out.same _ _ w2 _ HM2.out (fun k hk => Below.heap_setCell _ _ _ _ (fun (e : k = s) => hsm (e ▸ hk))), HX2.out.drew.setCell (p := ⟨s, 6, none⟩) (fun _ => .inl rfl) _⟩
              have : q = 0 ∨ q = 1 ∨ q = 2 ∨ q = 3 ∨ q = 4 ∨ q = 5 ∨ q = 6 ∨ q = 7 := by omega
              rcases this with rfl | rfl | rfl | rfl | rfl | rfl | rfl | rfl <;> rfl
            rw [hh] at ke
            rw [hc]
            clear hE hDw hXw hro hae hc hev hOf hh
            go_wp2_with fail
            go_region_held3 (fun V => V.cell? ⟨s, 6, none⟩ = some (.int .i64 told) ∧ V.cell? ⟨s, 0, none⟩ = some (.pointer (some ⟨g, 0, none⟩)) ∧ V.cell? ⟨s, 2, none⟩ = some (.int .i64 u) ∧ V.cell? ⟨g, 2, none⟩ = some (.slice (some ⟨ge, 0, none⟩) t.es.length cape) ∧ V.cell? ⟨ge, n * 5 + 1, none⟩ = some (.int .i64 u)) (first | exact ⟨x6, x0, x2, k2, ke⟩ | fail) (fail)
            go_wp2
            go_ret2
            exact ⟨j, hij, hjf, .inl ⟨n, rfl, HOF.out, htn, HC.out, HTj.out, HT1.out.1, HT1.out.2, HN.out⟩⟩
          · have HT1 := Lib.hid (told_no HTj.out (fun q hq hO => by
              have : q = n := by omega
              subst this
              exact absurd hO.2.2 hh))
            have th : ((nth t.es n).hash == u) = false := by rw [beq_eq_false_iff_ne]; exact hh
            rw [hc]
            clear hE hDw hXw hro hae hc hev
            generalize (nth t.es n).hash = hv1 at *
            go_wp2_with fail
            go_region_held3 (fun V => V.cell? ⟨s, 6, none⟩ = some (.int .i64 told) ∧ V.cell? ⟨s, 0, none⟩ = some (.pointer (some ⟨g, 0, none⟩)) ∧ V.cell? ⟨s, 2, none⟩ = some (.int .i64 u) ∧ V.cell? ⟨g, 2, none⟩ = some (.slice (some ⟨ge, 0, none⟩) t.es.length cape) ∧ V.cell? ⟨ge, n * 5 + 1, none⟩ = some (.int .i64 hv1)) (first | exact ⟨x6, x0, x2, k2, ke⟩ | fail) (fail)
            go_wp2_with fail
            go_roundg (f + 1 - (j + 1))
            case measure => omega
            case rel => exact ⟨j + 1, by omega, by omega, by omega, HK2.out.same rfl, HMO.out.same _ _ w2 _ HM2.out (fun _ _ => rfl), HT1.out, HX2.out.drew⟩
        · have HT1 := Lib.hid (told_no HTj.out (fun q hq _ => by omega))
          have td : decide (told < (n : Int)) = false := decide_eq_false htn
          rw [hc]
          clear hE hDw hXw hro hae hc hev k2
          go_wp2_with fail
          go_quiet (fail)
          go_wp2_with fail
          go_roundg (f + 1 - (j + 1))
          case measure => omega
          case rel => exact ⟨j + 1, by omega, by omega, by omega, HK2.out.same rfl, HMO.out.same _ _ w2 _ HM2.out (fun _ _ => rfl), HT1.out, HX2.out.drewN _⟩
set_option maxRecDepth 100000 in
set_option maxHeartbeats 4000000 in
theorem at7_yes {w : World} {g gi r h : Nat} {ev : Value} {t : Tb} {mv : Value} (hD : Dt w g gi r h ev t mv) (n : Nat) (hn : n < t.es.length) (hl : (nth t.es n).live = true) :
    Calls Tryz.prog 28 #[.pointer (some ⟨g, 0, none⟩), .int .i64 (n : Int)] w fun e w' => e = .returned (.tuple #[.agg #[.bool (nth t.es n).live, .int .i64 (nth t.es n).hash, .int .i64 (nth t.es n).key, .int .i64 (nth t.es n).value, .int .i64 (nth t.es n).birth], .int .i64 0]) ∧ Below w.heap.size w w' := by
  obtain ⟨w1, hw1⟩ : ∃ y, w.alloc (.cells #[.bool false, .int .i64 0, .int .i64 0, .int .i64 0, .int .i64 0] 60) = y := ⟨_, rfl⟩
  have hB1 : Below w.heap.size w w1 := by rw [← hw1]; exact (Below.refl _ w).alloc (Nat.le_refl _) _
  have hX1 : Blk w1 w.heap.size 5 (fun j => #[Value.bool false, .int .i64 0, .int .i64 0, .int .i64 0, .int .i64 0].getD j .nilFunc) := by rw [← hw1]; exact Blk.new w _ _
  have hs1 : w1.heap.size = w.heap.size + 1 := by rw [← hw1]; simp
  have hD1 := hD.below hB1
  have C1 := trefuse_any (hD1.hd.c 2 (by omega)) hD1.es (n : Int)
  rw [show noE t (n : Int) = 0 from if_pos ⟨by omega, by omega, by rw [Int.toNat_natCast]; exact hl⟩] at C1
  obtain ⟨ae, cape, ge, hev, hae, hro⟩ := hD1.es.open
  obtain ⟨rfl, _, _⟩ := hae (by omega)
  have hcap := hro.le
  have k2 : w1.cell? ⟨g, 2, none⟩ = some (.slice (some ⟨ge, 0, none⟩) t.es.length cape) := by rw [← hev]; exact hD1.hd.c 2 (by omega)
  have e0 := hro.c0 n hn
  have e1 := hro.c1 n hn
  have e2 := hro.c2 n hn
  have e3 := hro.c3 n hn
  have e4 := hro.c4 n hn
  have a0 := hX1.c 0 (by omega)
  have a1 := hX1.c 1 (by omega)
  have a2 := hX1.c 2 (by omega)
  have a3 := hX1.c 3 (by omega)
  have a4 := hX1.c 4 (by omega)
  have z0 := hX1.z 0
  have z1 := hX1.z 1
  have z2 := hX1.z 2
  have z3 := hX1.z 3
  have z4 := hX1.z 4
  have t0 : (n : Int) < (t.es.length : Int) := by omega
  have HW := Lib.hid hw1
  have HX1 := Lib.hid hX1
  have HB1 := Lib.hid hB1
  clear hw1 hX1 hB1 hD hD1 hro hae hev hl
  generalize (nth t.es n).live = x0 at *
  generalize (nth t.es n).hash = x1 at *
  generalize (nth t.es n).key = x2 at *
  generalize (nth t.es n).value = x3 at *
  generalize (nth t.es n).birth = x4 at *
  go_enter Tryz.func28, Tryz.ntmps28
  go_wp2_with fail
  rw [HW.out]
  refine C1.mono ?_
  rintro e w2 ⟨rfl, rfl⟩
  clear C1
  have HR := Lib.hid (((((HX1.out.put 0 (.bool x0)).put 1 (.int .i64 x1)).put 2 (.int .i64 x2)).put 3 (.int .i64 x3)).put 4 (.int .i64 x4))
  have HBB : Hid (Below w.heap.size w (((((w2.setCell ⟨w.heap.size, 0, none⟩ (.bool x0)).setCell ⟨w.heap.size, 1, none⟩ (.int .i64 x1)).setCell ⟨w.heap.size, 2, none⟩ (.int .i64 x2)).setCell ⟨w.heap.size, 3, none⟩ (.int .i64 x3)).setCell ⟨w.heap.size, 4, none⟩ (.int .i64 x4))) := ((((HB1.out.setCell (p := ⟨w.heap.size, 0, none⟩) (Nat.le_refl _) _).setCell (p := ⟨w.heap.size, 1, none⟩) (Nat.le_refl _) _).setCell (p := ⟨w.heap.size, 2, none⟩) (Nat.le_refl _) _).setCell (p := ⟨w.heap.size, 3, none⟩) (Nat.le_refl _) _).setCell (p := ⟨w.heap.size, 4, none⟩) (Nat.le_refl _) _
  go_wp2_with fail
  generalize World.setCell (World.setCell (World.setCell (World.setCell (World.setCell w2 _ _) _ _) _ _) _ _) _ _ = w3 at *
  have p0 : w3.cell? ⟨w.heap.size, 0, none⟩ = some (.bool x0) := HR.out.c 0 (by omega)
  have p1 : w3.cell? ⟨w.heap.size, 1, none⟩ = some (.int .i64 x1) := HR.out.c 1 (by omega)
  have p2 : w3.cell? ⟨w.heap.size, 2, none⟩ = some (.int .i64 x2) := HR.out.c 2 (by omega)
  have p3 : w3.cell? ⟨w.heap.size, 3, none⟩ = some (.int .i64 x3) := HR.out.c 3 (by omega)
  have p4 : w3.cell? ⟨w.heap.size, 4, none⟩ = some (.int .i64 x4) := HR.out.c 4 (by omega)
  refine bodyPost_ret (v := .tuple #[.agg #[.bool x0, .int .i64 x1, .int .i64 x2, .int .i64 x3, .int .i64 x4], .int .i64 0]) ?_ rfl ⟨rfl, HBB.out⟩
  simp [results, Tryz.results28, go_sem, p0, p1, p2, p3, p4]
end Go.Proofs.YtdjabdmnknlaeaaGreat
namespace Go.Proofs.YtdjabdmnknlaeaaGreat
open Go.RowKit Go.WideShapes

theorem put7_no {w : World} {g gi r h : Nat} {ev : Value} {t : Tb} {mv : Value} (hD : Dt w g gi r h ev t mv) (n v : Int) (hn : ¬ t.has n) :
    Calls Tryz.prog 24 #[.pointer (some ⟨g, 0, none⟩), .int .i64 n, .int .i64 v] w fun e w' => e = .returned (.int .i64 7) ∧ w' = w := by
  have C1 := trefuse_any (hD.hd.c 2 (by omega)) hD.es n
  rw [show noE t n = 7 from if_neg hn] at C1
  clear hD hn
  go_enter Tryz.func24, Tryz.ntmps24
  go_wp2_with fail
  refine C1.mono ?_
  rintro e w1 ⟨rfl, rfl⟩
  clear C1
  go_wp2
  go_ret
  exact ⟨rfl, rfl⟩
theorem Tb.live_putv {t : Tb} (n : Nat) (v : Int) (hl : (nth t.es n).live = true) : (t.putv n v).live = t.live := by
  show (t.es.set n _).length - deadN (t.es.set n _) = _
  rw [List.length_set, deadN_put t.es n ⟨(nth t.es n).live, (nth t.es n).hash, (nth t.es n).key, v, (nth t.es n).birth⟩ hl hl]
  rfl
theorem put7_yes {w : World} {g gi r h : Nat} {ev : Value} {t : Tb} {mv : Value} (hD : Dt w g gi r h ev t mv) (n : Nat) (v : Int) (hn : n < t.es.length) (hl : (nth t.es n).live = true) :
    Calls Tryz.prog 24 #[.pointer (some ⟨g, 0, none⟩), .int .i64 (n : Int), .int .i64 v] w fun e w' => e = .returned (.int .i64 0) ∧ Dt w' g gi r h ev (t.putv n v) mv ∧ Ex (fun k => ev.ownBlock = some k) w w' := by
  have C1 := trefuse_any (hD.hd.c 2 (by omega)) hD.es (n : Int)
  rw [show noE t (n : Int) = 0 from if_pos ⟨by omega, by omega, by rw [Int.toNat_natCast]; exact hl⟩] at C1
  obtain ⟨ae, cape, ge, hev, hae, hro⟩ := hD.es.open
  obtain ⟨rfl, hob, hfz⟩ := hae (by omega)
  have hle := hro.le
  have k2 : w.cell? ⟨g, 2, none⟩ = some ev := hD.hd.c 2 (by omega)
  subst hev
  have d3 := hro.c3 n hn
  have z3 := hfz (n * 5 + 3)
  have t1 : (n : Int) < (t.es.length : Int) := by omega
  obtain ⟨n1, n2, n3, n4⟩ := hD.ap ge hob
  have hoth : ∀ j, j ≠ ge → (w.setCell ⟨ge, n * 5 + 3, none⟩ (.int .i64 v)).heap[j]? = w.heap[j]? := fun j hj => Below.heap_setCell _ _ _ _ hj
  have HRT : Hid (Dt (w.setCell ⟨ge, n * 5 + 3, none⟩ (.int .i64 v)) g gi r h (.slice (some ⟨ge, 0, none⟩) t.es.length cape) (t.putv n v) mv) := by
    refine ⟨(hD.hd.same (hoth g (fun e => n1 e.symm))).congr (fun j hj => ?_), Es.put rfl hD.es n 3 hn (by decide) (.int .i64 v) _ rfl rfl, hD.cl.same (hoth gi (fun e => n2 e.symm)) (hoth r (fun e => n3 e.symm)) (hoth h (fun e => n4 e.symm)), hD.ap, hD.ne, hD.mp⟩
    have h1 := Tb.live_putv n v hl
    have : j = 0 ∨ j = 1 ∨ j = 2 ∨ j = 3 ∨ j = 4 ∨ j = 5 ∨ j = 6 := by omega
    rcases this with rfl | rfl | rfl | rfl | rfl | rfl | rfl
    · rfl
    · rfl
    · rfl
    · show Value.int .i64 (((t.putv n v).live : Nat) : Int) = Value.int .i64 ((t.live : Nat) : Int)
      rw [h1]
    · rfl
    · rfl
    · rfl
  have HEX : Hid (Ex (fun k => (Value.slice (some ⟨ge, 0, none⟩) t.es.length cape).ownBlock = some k) w (w.setCell ⟨ge, n * 5 + 3, none⟩ (.int .i64 v))) := (Ex.refl (fun k => (Value.slice (some ⟨ge, 0, none⟩) t.es.length cape).ownBlock = some k) w).setCell (p := ⟨ge, n * 5 + 3, none⟩) (fun _ => rfl) _
  clear hD hro hae hfz hoth hob
  go_enter Tryz.func24, Tryz.ntmps24
  go_wp2_with fail
  refine C1.mono ?_
  rintro e w1 ⟨rfl, rfl⟩
  clear C1
  go_wp2
  go_ret
  exact ⟨rfl, HRT.out, HEX.out⟩
set_option maxRecDepth 100000 in
theorem at7_no {w : World} {g gi r h : Nat} {ev : Value} {t : Tb} {mv : Value} (hD : Dt w g gi r h ev t mv) (n : Int) (hn : ¬ t.has n) :
    Calls Tryz.prog 28 #[.pointer (some ⟨g, 0, none⟩), .int .i64 n] w fun e w' => e = .returned (.tuple #[.agg #[.bool false, .int .i64 0, .int .i64 0, .int .i64 0, .int .i64 0], .int .i64 7]) ∧ Below w.heap.size w w' := by
  obtain ⟨w1, hw1⟩ : ∃ y, w.alloc (.cells #[.bool false, .int .i64 0, .int .i64 0, .int .i64 0, .int .i64 0] 60) = y := ⟨_, rfl⟩
  have hB1 : Below w.heap.size w w1 := by rw [← hw1]; exact (Below.refl _ w).alloc (Nat.le_refl _) _
  have hX1 : Blk w1 w.heap.size 5 (fun j => #[Value.bool false, .int .i64 0, .int .i64 0, .int .i64 0, .int .i64 0].getD j .nilFunc) := by rw [← hw1]; exact Blk.new w _ _
  have hD1 := hD.below hB1
  have C1 := trefuse_any (hD1.hd.c 2 (by omega)) hD1.es n
  rw [show noE t n = 7 from if_neg hn] at C1
  have a0 : w1.cell? ⟨w.heap.size, 0, none⟩ = some (.bool false) := hX1.c 0 (by omega)
  have a1 : w1.cell? ⟨w.heap.size, 1, none⟩ = some (.int .i64 0) := hX1.c 1 (by omega)
  have a2 : w1.cell? ⟨w.heap.size, 2, none⟩ = some (.int .i64 0) := hX1.c 2 (by omega)
  have a3 : w1.cell? ⟨w.heap.size, 3, none⟩ = some (.int .i64 0) := hX1.c 3 (by omega)
  have a4 : w1.cell? ⟨w.heap.size, 4, none⟩ = some (.int .i64 0) := hX1.c 4 (by omega)
  have z0 := hX1.z 0
  have z1 := hX1.z 1
  have z2 := hX1.z 2
  have z3 := hX1.z 3
  have z4 := hX1.z 4
  have HW := Lib.hid hw1
  have HX1 := Lib.hid hX1
  have HB1 := Lib.hid hB1
  clear hw1 hX1 hB1 hD hD1 hn
  go_enter Tryz.func28, Tryz.ntmps28
  go_wp2_with fail
  rw [HW.out]
  refine C1.mono ?_
  rintro e w2 ⟨rfl, rfl⟩
  clear C1
  have HR := Lib.hid (((((HX1.out.put 0 (.bool false)).put 1 (.int .i64 0)).put 2 (.int .i64 0)).put 3 (.int .i64 0)).put 4 (.int .i64 0))
  have HBB : Hid (Below w.heap.size w (((((w2.setCell ⟨w.heap.size, 0, none⟩ (.bool false)).setCell ⟨w.heap.size, 1, none⟩ (.int .i64 0)).setCell ⟨w.heap.size, 2, none⟩ (.int .i64 0)).setCell ⟨w.heap.size, 3, none⟩ (.int .i64 0)).setCell ⟨w.heap.size, 4, none⟩ (.int .i64 0))) := ((((HB1.out.setCell (p := ⟨w.heap.size, 0, none⟩) (Nat.le_refl _) _).setCell (p := ⟨w.heap.size, 1, none⟩) (Nat.le_refl _) _).setCell (p := ⟨w.heap.size, 2, none⟩) (Nat.le_refl _) _).setCell (p := ⟨w.heap.size, 3, none⟩) (Nat.le_refl _) _).setCell (p := ⟨w.heap.size, 4, none⟩) (Nat.le_refl _) _
  go_wp2_with fail
  first
    | (generalize World.setCell (World.setCell (World.setCell (World.setCell (World.setCell w2 _ _) _ _) _ _) _ _) _ _ = w3 at *
       have p0 : w3.cell? ⟨w.heap.size, 0, none⟩ = some (.bool false) := HR.out.c 0 (by omega)
       have p1 : w3.cell? ⟨w.heap.size, 1, none⟩ = some (.int .i64 0) := HR.out.c 1 (by omega)
       have p2 : w3.cell? ⟨w.heap.size, 2, none⟩ = some (.int .i64 0) := HR.out.c 2 (by omega)
       have p3 : w3.cell? ⟨w.heap.size, 3, none⟩ = some (.int .i64 0) := HR.out.c 3 (by omega)
       have p4 : w3.cell? ⟨w.heap.size, 4, none⟩ = some (.int .i64 0) := HR.out.c 4 (by omega)
       refine bodyPost_ret (v := .tuple #[.agg #[.bool false, .int .i64 0, .int .i64 0, .int .i64 0, .int .i64 0], .int .i64 7]) ?_ rfl ⟨rfl, HBB.out⟩
       simp [results, Tryz.results28, go_sem, p0, p1, p2, p3, p4]
       done)
    | (refine bodyPost_ret (v := .tuple #[.agg #[.bool false, .int .i64 0, .int .i64 0, .int .i64 0, .int .i64 0], .int .i64 7]) ?_ rfl ⟨rfl, HB1.out⟩
       simp [results, Tryz.results28, go_sem, a0, a1, a2, a3, a4]
       done)
/-- A Seeker that has ended. -/
theorem hasEnded_over {w : World} {s : Nat} (x0 : w.cell? ⟨s, 0, none⟩ = some (.pointer none)) :
    Calls Tryz.prog 61 #[.pointer (some ⟨s, 0, none⟩)] w fun e w' => e = .returned (.bool true) ∧ Below w.heap.size w w' := by
  go_enter Tryz.func61, Tryz.ntmps61
  go_wp2_with fail
  go_quiet (fail)
  go_wp2
  go_ret
  exact ⟨rfl, rfl, rfl, rfl, Nat.le_refl _, fun _ _ => rfl⟩
theorem hasEnded_turn {w : World} {s g tu tn : Nat} (x0 : w.cell? ⟨s, 0, none⟩ = some (.pointer (some ⟨g, 0, none⟩))) (x1 : w.cell? ⟨s, 1, none⟩ = some (.int .i64 (tu : Int))) (k6 : w.cell? ⟨g, 6, none⟩ = some (.int .i64 (tn : Int))) (hne : tu < tn) :
    Calls Tryz.prog 61 #[.pointer (some ⟨s, 0, none⟩)] w fun e w' => e = .returned (.bool true) ∧ Below w.heap.size w w' := by
  have tq : ((tu : Int) == (tn : Int)) = false := by rw [beq_eq_false_iff_ne]; omega
  have tq2 : ((tu : Int) != (tn : Int)) = true := by rw [bne_iff_ne]; omega
  go_enter Tryz.func61, Tryz.ntmps61
  go_wp2_with fail
  go_region_held3 (fun V => V.cell? ⟨s, 0, none⟩ = some (.pointer (some ⟨g, 0, none⟩)) ∧ V.cell? ⟨s, 1, none⟩ = some (.int .i64 (tu : Int)) ∧ V.cell? ⟨g, 6, none⟩ = some (.int .i64 (tn : Int)))
    (first | exact ⟨x0, x1, k6⟩ | fail) (fail)
  go_wp2
  go_ret
  exact ⟨rfl, (Below.refl _ w).drew⟩
theorem next7_end {w : World} {s : Nat} (CE : Calls Tryz.prog 61 #[.pointer (some ⟨s, 0, none⟩)] w fun e w' => e = .returned (.bool true) ∧ Below w.heap.size w w') :
    Calls Tryz.prog 36 #[.pointer (some ⟨s, 0, none⟩)] w fun e w' => e = .returned (.tuple #[.int .i64 (-1), .bool false]) ∧ Below w.heap.size w w' := by
  go_enter Tryz.func36, Tryz.ntmps36
  go_wp2_with fail
  refine CE.mono ?_
  rintro e w1 ⟨rfl, hb⟩
  clear CE
  go_wp2
  go_ret2
  exact ⟨rfl, hb⟩
end Go.Proofs.YtdjabdmnknlaeaaGreat
namespace Go.Proofs.YtdjabdmnknlaeaaGreat
open Go.RowKit Go.WideShapes

theorem Tb.live_clear (t : Tb) : t.clear.live = 0 := rfl
set_option maxRecDepth 100000 in
set_option maxHeartbeats 4000000 in
theorem clear7_any {w : World} {g gi r h : Nat} {ev : Value} {t : Tb} {mv : Value} {M : Int → Int → World → Prop} {a b : Int} (hD : Dt w g gi r h ev t mv) (hMo : MtOk mv M) (hM : M a b w) (hm : t.made ≤ 1000000) (ha : 0 ≤ a ∧ a ≤ 1000000000) (ht : t.turn ≤ 1000000) :
    Calls Tryz.prog 30 #[.pointer (some ⟨g, 0, none⟩)] w fun e w' => e = .returned (.tuple #[]) ∧ ∃ gi' r' h' ev', Ad w g gi r h ev mv M (a + 1) b t.clear w' gi' r' h' ev' := by
  have k1 : w.cell? ⟨g, 1, none⟩ = some (.pointer (some ⟨gi, 0, none⟩)) := hD.hd.c 1 (by omega)
  have CR := ready_yes k1
  have k2 : w.cell? ⟨g, 2, none⟩ = some ev := hD.hd.c 2 (by omega)
  have k3 : w.cell? ⟨g, 3, none⟩ = some (.int .i64 (t.live : Int)) := hD.hd.c 3 (by omega)
  have k6 : w.cell? ⟨g, 6, none⟩ = some (.int .i64 (t.turn : Int)) := hD.hd.c 6 (by omega)
  have z2 := hD.hd.z 2
  have z3 := hD.hd.z 3
  have z6 := hD.hd.z 6
  have e6 : IntKind.i64.wrap ((t.turn : Int) + 1) = (t.turn : Int) + 1 := i64_small (by omega) (by omega)
  have lg := hD.hd.lt (by omega)
  obtain ⟨w2, hw2⟩ : ∃ y, ((w.setCell ⟨g, 2, none⟩ (.slice none 0 0)).setCell ⟨g, 3, none⟩ (.int .i64 0)).setCell ⟨g, 6, none⟩ (.int .i64 ((t.turn : Int) + 1)) = y := ⟨_, rfl⟩
  have hB2 : Blk w2 g 7 (fun x => if x = 6 then .int .i64 ((t.turn : Int) + 1) else if x = 3 then .int .i64 0 else if x = 2 then .slice none 0 0 else dF mv gi ev t x) := by rw [← hw2]; exact ((hD.hd.put 2 _).put 3 _).put 6 _
  have hX2 : Ex (fun j => dX g gi r h ev j ∨ mB mv j) w w2 := by rw [← hw2]; exact (((Ex.refl _ w).setCell (p := ⟨g, 2, none⟩) (fun _ => .inl (.inl rfl)) _).setCell (p := ⟨g, 3, none⟩) (fun _ => .inl (.inl rfl)) _).setCell (p := ⟨g, 6, none⟩) (fun _ => .inl (.inl rfl)) _
  have hM2 : M a b w2 := hMo.same a b w _ hM fun k hk => by
    have := (hD.mp k hk).1
    rw [← hw2, Below.heap_setCell _ _ _ _ this, Below.heap_setCell _ _ _ _ this, Below.heap_setCell _ _ _ _ this]
  have C1 := makeIndex_any (L := 3) (made := t.made) (es := []) ⟨rfl, by decide, by decide⟩ hB2 rfl rfl rfl (Es.nil w2) hMo hM2 (fun k hk => by cases hk) (fun k hk => (hD.mp k hk).1) (fun n hn => by simp at hn) (by simp) hm ha (by simp)
  have hlm := hMo.lt a b w
  have HM := Lib.hid hM
  have HMP := Lib.hid hD.mp
  have HX2 := Lib.hid hX2
  have HW2 := Lib.hid hw2
  clear hD hMo hM hB2 hM2 hX2 hw2
  go_enter Tryz.func30, Tryz.ntmps30
  go_wp2_with fail
  refine CR.mono ?_
  rintro e w1 ⟨rfl, rfl⟩
  clear CR
  go_wp2_with fail
  rw [HW2.out]
  refine C1.mono ?_
  rintro e w3 ⟨rfl, gi', r', h', hgi, hr, hh, hI⟩
  have hs2 : w1.heap.size ≤ w2.heap.size := HX2.out.size
  have HD : Hid (Ad w1 g gi r h ev mv M (a + 1) b t.clear w3 gi' r' h' (.slice none 0 0)) := by
    refine ⟨⟨hI.hd.congr (fun j hj => ?_), hI.row, hI.cl, (fun k hk => by cases hk), ⟨by omega, by omega, by omega⟩, fun k hk => ?_⟩, hI.m, fun j hj => ?_, HX2.out.next hI.ex (fun k hk h => h.elim (fun e => .inl (.inl e)) .inr)⟩
    · have : j = 0 ∨ j = 1 ∨ j = 2 ∨ j = 3 ∨ j = 4 ∨ j = 5 ∨ j = 6 := by omega
      rcases this with rfl | rfl | rfl | rfl | rfl | rfl | rfl
      · rfl
      · rfl
      · rfl
      · rfl
      · rfl
      · show Value.int .i64 (((t.made + 1 : Nat)) : Int) = Value.int .i64 ((t.made : Int) + 1)
        rw [Int.natCast_add]
        rfl
      · show Value.int .i64 (((t.turn + 1 : Nat)) : Int) = Value.int .i64 ((t.turn : Int) + 1)
        rw [Int.natCast_add]
        rfl
    · have := hlm k HM.out hk
      exact ⟨(HMP.out k hk).1, by omega, by omega, by omega, by simp [Value.ownBlock]⟩
    · rcases hj with rfl | rfl | rfl | rfl | hj
      · exact .inl (.inl rfl)
      · exact .inr (by omega)
      · exact .inr (by omega)
      · exact .inr (by omega)
      · cases hj
  clear C1 hI
  go_wp2
  go_end0
  exact ⟨rfl, gi', r', h', _, HD.out⟩
end Go.Proofs.YtdjabdmnknlaeaaGreat
namespace Go.Proofs.YtdjabdmnknlaeaaGreat
open Go.RowKit Go.WideShapes

theorem isS_some {es : List En} {L : Nat} {c : Nat → Int} (h : Inv es L c) {n : Nat} (hn : n < es.length) (hl : (nth es n).live = true) : ∃ i, i < 2 ^ L + 13 ∧ IsS c (n : Int) (uw (nth es n).hash) L i := by
  obtain ⟨p, hp⟩ := h.pos n hn hl
  obtain ⟨i, h1, h2⟩ := trl_all (uw (nth es n).hash) L (trl (uw (nth es n).hash) L p) (uw_lt _) (trl_lt _ _ _)
  obtain ⟨j, h3, h4, h5⟩ := least (P := fun i => c (trl (uw (nth es n).hash) L i) = (n : Int)) i (by show c _ = _; rw [h2]; exact hp.1)
  exact ⟨j, by omega, h4, h5⟩
theorem kill_no {w : World} {g gi r h : Nat} {ev : Value} {t : Tb} {mv : Value} (hD : Dt w g gi r h ev t mv) (n : Int) (hn : ¬ t.has n) :
    Calls Tryz.prog 26 #[.pointer (some ⟨g, 0, none⟩), .int .i64 n] w fun e w' => e = .returned (.int .i64 7) ∧ w' = w := by
  have C1 := trefuse_any (hD.hd.c 2 (by omega)) hD.es n
  rw [show noE t n = 7 from if_neg hn] at C1
  clear hD hn
  go_enter Tryz.func26, Tryz.ntmps26
  go_wp2_with fail
  refine C1.mono ?_
  rintro e w1 ⟨rfl, rfl⟩
  clear C1
  go_wp2
  go_ret
  exact ⟨rfl, rfl⟩
theorem drew_cell (W : World) (a : Addr) : W.drew.cell? a = W.cell? a := rfl
theorem drew_heap (W : World) (k : Nat) : W.drew.heap[k]? = W.heap[k]? := rfl
/-- The world behind Kill's stores. -/
def dKillW (w : World) (g ge n : Nat) (t : Tb) : World := (((goneW w ge n (nth t.es n).birth).drew).setCell ⟨g, 3, none⟩ (.int .i64 ((t.live : Int) - 1))).setCell ⟨g, 6, none⟩ (.int .i64 ((t.turn : Int) + 1))
theorem dkill_fin {w w3 : World} {g gi r h : Nat} {t : Tb} {mv : Value} {ge cape n x : Nat} (hD : Dt w g gi r h (.slice (some ⟨ge, 0, none⟩) t.es.length cape) t mv) (hO : t.Ok) (hn : n < t.es.length) (hl : (nth t.es n).live = true) (hx : x < 2 ^ t.L) (hcx : t.c x = (n : Int)) (hC : Cl w3 gi r h t.L (2 ^ t.L) (upd t.c x (-2))) (hb : But h w w3) :
    Blk (goneW w3 ge n (nth t.es n).birth) g 7 (dF mv gi (.slice (some ⟨ge, 0, none⟩) t.es.length cape) t) ∧ Dt (dKillW w3 g ge n t) g gi r h (.slice (some ⟨ge, 0, none⟩) t.es.length cape) (t.kill n) mv ∧ Ex (dX g gi r h (.slice (some ⟨ge, 0, none⟩) t.es.length cape)) w (dKillW w3 g ge n t) := by
  have hap := hD.ap ge rfl
  have lg := hD.hd.lt (by omega)
  have lge := hD.es.lt ge rfl
  have hB3 := hD.hd.same (hb.block g lg hD.ne.2.2)
  have hE3 : Es w3 (.slice (some ⟨ge, 0, none⟩) t.es.length cape) t.es := hD.es.same fun k hk => by cases hk; exact hb.block ge lge hap.2.2.2
  have hbz := goneW_but w3 ge n (nth t.es n).birth
  have hsz := hb.size
  have hB4 := hB3.same (hbz.block g (by omega) (fun e => hap.1 e.symm))
  have hE4 := hE3.goner n hn (nth t.es n).birth
  obtain ⟨l1, l2, l3⟩ := hD.cl.lt
  have hC4 : Cl (goneW w3 ge n (nth t.es n).birth) gi r h t.L (2 ^ t.L) (upd t.c x (-2)) := hC.same (hbz.block _ (by omega) (fun e => hap.2.1 e.symm)) (hbz.block _ (by omega) (fun e => hap.2.2.1 e.symm)) (hbz.block _ (by omega) (fun e => hap.2.2.2 e.symm))
  have o5 : ∀ j, j ≠ g → (dKillW w3 g ge n t).heap[j]? = (goneW w3 ge n (nth t.es n).birth).heap[j]? := fun j hj => by unfold dKillW; rw [Below.heap_setCell _ _ _ _ hj, Below.heap_setCell _ _ _ _ hj, drew_heap]
  refine ⟨hB4, ⟨?_, ?_, ?_, hD.ap, hD.ne, hD.mp⟩, ?_⟩
  · unfold dKillW
    refine (((hB4.same (w' := (goneW w3 ge n (nth t.es n).birth).drew) (drew_heap _ _)).put 3 _).put 6 _).congr fun j hj => ?_
    have : j = 0 ∨ j = 1 ∨ j = 2 ∨ j = 3 ∨ j = 4 ∨ j = 5 ∨ j = 6 := by omega
    rcases this with rfl | rfl | rfl | rfl | rfl | rfl | rfl
    · rfl
    · rfl
    · rfl
    · show Value.int .i64 (((t.kill n).live : Nat) : Int) = Value.int .i64 ((t.live : Int) - 1)
      rw [Tb.live_kill n hl, Int.natCast_sub (Tb.live_pos n hl)]
      rfl
    · rfl
    · rfl
    · show Value.int .i64 (((t.turn + 1 : Nat)) : Int) = Value.int .i64 ((t.turn : Int) + 1)
      rw [Int.natCast_add]
      rfl
  · exact hE4.same fun k hk => by cases hk; exact o5 _ hap.1
  · exact (hC4.same (o5 _ (fun e => hD.ne.1 e.symm)) (o5 _ (fun e => hD.ne.2.1 e.symm)) (o5 _ (fun e => hD.ne.2.2 e.symm))).congr (killc_upd hO.inv n hx hcx)
  · unfold dKillW
    refine (((hb.ex.mono (fun k _ hk => .inr (.inr (.inr (.inl hk))))).next hbz.ex (fun k _ hk => .inr (.inr (.inr (.inr (by rw [hk]; rfl)))))).drew.setCell (p := ⟨g, 3, none⟩) (fun _ => .inl rfl) _).setCell (p := ⟨g, 6, none⟩) (fun _ => .inl rfl) _
set_option maxRecDepth 100000 in
set_option maxHeartbeats 4000000 in
theorem kill_yes {w : World} {g gi r h : Nat} {ev : Value} {t : Tb} {mv : Value} (hD : Dt w g gi r h ev t mv) (hO : t.Ok) (n : Nat) (hn : n < t.es.length) (hl : (nth t.es n).live = true) (ht : t.turn ≤ 1000000) :
    Calls Tryz.prog 26 #[.pointer (some ⟨g, 0, none⟩), .int .i64 (n : Int)] w fun e w' => e = .returned (.int .i64 0) ∧ Dt w' g gi r h ev (t.kill n) mv ∧ Ex (dX g gi r h ev) w w' := by
  have C1 := trefuse_any (hD.hd.c 2 (by omega)) hD.es (n : Int)
  rw [show noE t (n : Int) = 0 from if_pos ⟨by omega, by omega, by rw [Int.toNat_natCast]; exact hl⟩] at C1
  obtain ⟨ae, cape, ge, hev, hae, hro⟩ := hD.es.open
  obtain ⟨rfl, _, hfz⟩ := hae (by omega)
  have hcap := hro.le
  subst hev
  obtain ⟨i, hi, hF⟩ := isS_some hO.inv hn hl
  have k1 : w.cell? ⟨g, 1, none⟩ = some (.pointer (some ⟨gi, 0, none⟩)) := hD.hd.c 1 (by omega)
  have k2 : w.cell? ⟨g, 2, none⟩ = some (.slice (some ⟨ge, 0, none⟩) t.es.length cape) := hD.hd.c 2 (by omega)
  have ke := hro.c1 n hn
  have hx := trl_lt (uw (nth t.es n).hash) t.L i
  have HCX := Lib.hid hF.1
  have CF : Hid (∀ V, Below w.heap.size w V → Calls Tryz.prog 46 #[.pointer (some ⟨g, 0, none⟩), .int .i64 (nth t.es n).hash, .int .i64 (n : Int)] V fun e w' => e = .returned (.int .i64 ((trl (uw (nth t.es n).hash) t.L i : Nat) : Int)) ∧ Below V.heap.size V w') := fun V hV => find_any ((hV.cell (p := ⟨g, 1, none⟩) (lt_of_cell k1)).trans k1) (hD.cl.below hV) _ _ hF hi
  have hmy : may (2 ^ t.L) (-2) = true := by unfold may; simp; omega
  have CS : Hid (∀ V, Below w.heap.size w V → Calls Tryz.prog 45 #[.pointer (some ⟨gi, 0, none⟩), .int .i64 ((trl (uw (nth t.es n).hash) t.L i : Nat) : Int), .int .i64 (-2)] V fun e w' => e = .returned (.int .i64 0) ∧ Cl w' gi r h t.L (2 ^ t.L) (upd t.c (trl (uw (nth t.es n).hash) t.L i) (-2)) ∧ But h w w') := fun V hV => (setM_yes (hD.cl.below hV) _ (-2) hx hmy).mono fun e w' ⟨h1, h2⟩ => ⟨h1, by rw [h2]; exact (hD.cl.below hV).put _ hx _ (by omega), by rw [h2]; exact (but_of hV h).setCell _ _⟩
  have hlg := lt_of_cell k1
  have hle := lt_of_cell ke
  have hgh := hD.ne.2.2
  have heh := (hD.ap ge rfl).2.2.2
  have HD := Lib.hid hD
  have HO := Lib.hid hO
  have HAP : Hid (ge ≠ g) := (hD.ap ge rfl).1
  have hB0 : Below w.heap.size w w.drew := (Below.refl _ w).drew
  have t0 : (n : Int) < (t.es.length : Int) := by omega
  clear hD hO hF hmy hro hae hfz
  generalize trl (uw (nth t.es n).hash) t.L i = x at *
  go_enter Tryz.func26, Tryz.ntmps26
  go_wp2_with fail
  refine C1.mono ?_
  rintro e w1 ⟨rfl, rfl⟩
  clear C1
  go_wp2_with fail
  go_region_held3 (fun V => V.cell? ⟨g, 1, none⟩ = some (.pointer (some ⟨gi, 0, none⟩)) ∧ V.cell? ⟨g, 2, none⟩ = some (.slice (some ⟨ge, 0, none⟩) t.es.length cape) ∧ V.cell? ⟨ge, n * 5 + 1, none⟩ = some (.int .i64 (nth t.es n).hash))
    (first | exact ⟨k1, k2, ke⟩ | exact ⟨q1, q2, qe⟩ | exact ⟨p1, p2, pe⟩ | fail)
    (first | (go_at_call 46; refine (CF.out _ hB0).mono ?_; rintro e w2 ⟨rfl, hB2⟩; have hBW := hB0.trans hB2; have q1 := (hBW.cell (p := ⟨g, 1, none⟩) hlg).trans k1; have q2 := (hBW.cell (p := ⟨g, 2, none⟩) hlg).trans k2; have qe := (hBW.cell (p := ⟨ge, n * 5 + 1, none⟩) hle).trans ke) | (go_at_call 45; refine (CS.out _ hBW).mono ?_; rintro e w3 ⟨rfl, hC3, hb3⟩; have p1 := (hb3.cell (p := ⟨g, 1, none⟩) hlg hgh).trans k1; have p2 := (hb3.cell (p := ⟨g, 2, none⟩) hlg hgh).trans k2; have pe := (hb3.cell (p := ⟨ge, n * 5 + 1, none⟩) hle heh).trans ke) | fail)
  obtain ⟨hB4, hDk, hEx⟩ := dkill_fin HD.out HO.out hn hl hx HCX.out hC3 hb3
  have hE3 : Es w3 (.slice (some ⟨ge, 0, none⟩) t.es.length cape) t.es := HD.out.es.same fun k hk => by cases hk; exact hb3.block ge hle heh
  obtain ⟨_, _, _, hv', hae', hro'⟩ := hE3.open
  cases hv'
  obtain ⟨hge', _, hfz'⟩ := hae' (by omega)
  cases hge'
  have e0 := hro'.c0 n hn
  have e1 := hro'.c1 n hn
  have e2 := hro'.c2 n hn
  have e3 := hro'.c3 n hn
  have e4 := hro'.c4 n hn
  have z0 := hfz' (n * 5)
  have z1 := hfz' (n * 5 + 1)
  have z2 := hfz' (n * 5 + 2)
  have z3 := hfz' (n * 5 + 3)
  have z4 := hfz' (n * 5 + 4)
  have x3 : (goneW w3 ge n (nth t.es n).birth).drew.cell? ⟨g, 3, none⟩ = some (.int .i64 (t.live : Int)) := (hB4.same (drew_heap _ _)).c 3 (by omega)
  have x6 : (goneW w3 ge n (nth t.es n).birth).drew.cell? ⟨g, 6, none⟩ = some (.int .i64 (t.turn : Int)) := (hB4.same (drew_heap _ _)).c 6 (by omega)
  have y3 : (goneW w3 ge n (nth t.es n).birth).drew.frozen? ⟨g, 3, none⟩ = false := (hB4.same (drew_heap _ _)).z 3
  have y6 : (goneW w3 ge n (nth t.es n).birth).drew.frozen? ⟨g, 6, none⟩ = false := (hB4.same (drew_heap _ _)).z 6
  have hlp := Tb.live_pos n hl
  have hlv1 := t.live_le
  have hsm : t.es.length ≤ 100000 := Nat.le_trans HO.out.few HO.out.all
  have e3' : IntKind.i64.wrap ((t.live : Int) - 1) = (t.live : Int) - 1 := i64_small (by omega) (by omega)
  have e6' : IntKind.i64.wrap ((t.turn : Int) + 1) = (t.turn : Int) + 1 := i64_small (by omega) (by omega)
  have HR : Hid (Dt (dKillW w3 g ge n t) g gi r h (.slice (some ⟨ge, 0, none⟩) t.es.length cape) (t.kill n) mv ∧ Ex (dX g gi r h (.slice (some ⟨ge, 0, none⟩) t.es.length cape)) w1 (dKillW w3 g ge n t)) := ⟨hDk, hEx⟩
  clear hB4 hDk hEx hE3 hro' hae' hfz' hC3 hb3 pe qe ke q1 q2 p1 k1 k2
  unfold dKillW goneW at HR
  unfold goneW at x3 x6 y3 y6
  have gm : ge ≠ g := HAP.out
  have p2d : w3.drew.cell? ⟨g, 2, none⟩ = some (.slice (some ⟨ge, 0, none⟩) t.es.length cape) := p2
  have e4d : w3.drew.cell? ⟨ge, n * 5 + 4, none⟩ = some (.int .i64 (nth t.es n).birth) := e4
  generalize (nth t.es n).birth = bb at *
  have HS : Hid ((((((w3.setCell ⟨ge, n * 5, none⟩ (.bool false)).setCell ⟨ge, n * 5 + 1, none⟩ (.int .i64 0)).setCell ⟨ge, n * 5 + 2, none⟩ (.int .i64 0)).setCell ⟨ge, n * 5 + 3, none⟩ (.int .i64 0)).setCell ⟨ge, n * 5 + 4, none⟩ (.int .i64 bb)).drew.cell? ⟨g, 2, none⟩ = some (.slice (some ⟨ge, 0, none⟩) t.es.length cape) ∧ (((((w3.setCell ⟨ge, n * 5, none⟩ (.bool false)).setCell ⟨ge, n * 5 + 1, none⟩ (.int .i64 0)).setCell ⟨ge, n * 5 + 2, none⟩ (.int .i64 0)).setCell ⟨ge, n * 5 + 3, none⟩ (.int .i64 0)).setCell ⟨ge, n * 5 + 4, none⟩ (.int .i64 bb)).drew.cell? ⟨ge, n * 5 + 4, none⟩ = some (.int .i64 bb)) := by
    have o : ∀ (U : World) (j k : Nat) (x : Value), j ≠ k → (U.setCell ⟨ge, j, none⟩ x).cell? ⟨ge, k, none⟩ = U.cell? ⟨ge, k, none⟩ := fun U j k x hjk => World.cell?_setCell_other _ _ _ _ (by intro he; injection he with a b; omega)
    have o2 : ∀ (U : World) (j : Nat) (x : Value), (U.setCell ⟨ge, j, none⟩ x).cell? ⟨g, 2, none⟩ = U.cell? ⟨g, 2, none⟩ := fun U j x => World.cell?_setCell_other _ _ _ _ (by intro he; injection he with a b; exact gm a)
    refine ⟨by rw [drew_cell, o2, o2, o2, o2, o2]; exact p2, (drew_cell _ _).trans (World.cell?_setCell_same' _ _ _ ?_)⟩
    rw [o _ _ _ _ (by omega), o _ _ _ _ (by omega), o _ _ _ _ (by omega), o _ _ _ _ (by omega), e4]
    rfl
  go_wp2_with fail
  go_region_held3 (fun V => V.cell? ⟨g, 2, none⟩ = some (.slice (some ⟨ge, 0, none⟩) t.es.length cape) ∧ V.cell? ⟨ge, n * 5 + 4, none⟩ = some (.int .i64 bb))
    (first | with_reducible exact ⟨p2d, e4d⟩ | with_reducible exact ⟨p2, e4⟩ | with_reducible exact HS.out | fail)
    (fail)
  clear HS p2d e4d p2 e0 e1 e2 e3 e4
  generalize World.drew (World.setCell (World.setCell (World.setCell (World.setCell (World.setCell w3 _ _) _ _) _ _) _ _) _ _) = w5 at *
  go_wp2
  go_ret
  exact ⟨rfl, HR.out⟩
end Go.Proofs.YtdjabdmnknlaeaaGreat
