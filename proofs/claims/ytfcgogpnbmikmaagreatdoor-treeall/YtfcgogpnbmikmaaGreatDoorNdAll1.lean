/-
  TreeAll: All's iterator, with the law's closure as yield.
-/
import Derived.Test.YtfcgogpnbmikmaaGreatDoorNdGoes
import Derived.Test.YtfcgogpnbmikmaaGreatDoorNdCheck
namespace Go.Proofs.YtfcgogpnbmikmaaGreatDoor
open Go.RowKit Go.WideShapes
namespace Nd
open Lx
attribute [local go_sem] Oper.semAt_some

theorem Ey.then {X : Nat → Prop} {B : Nat} {a b c : World} (x : Ey X a b) (y : Below B b c) (h : a.heap.size ≤ B) : Ey X a c :=
  ⟨y.os.trans x.os, y.tape.trans x.tape, y.output.trans x.output, Nat.le_trans x.size y.size, fun i hi hx => (y.block i (by omega)).trans (x.block i hi hx)⟩
/-- The law's closure as a value. -/
def yiV (D : Nat) : Value := .func (.func 35) #[] #[.pointer (some ⟨D + 4, 0, none⟩), .pointer (some ⟨D + 5, 0, none⟩), .pointer (some ⟨D + 3, 0, none⟩), .pointer (some ⟨D, 0, none⟩), .pointer (some ⟨D + 1, 0, none⟩), .pointer (some ⟨D + 2, 0, none⟩)]
/-- The way through a tree, k of its nodes told. -/
structure Ga (W : World) (D : Nat) (lv av : Value) (stop : Int) (y : Nv) (k : Nat) (V : World) : Prop where
  g : Gb V D lv av stop k false
  e : Ey (GX D) W V
  b : V.cell? ⟨W.heap.size, 0, none⟩ = some (yiV D)
  a : At V (W.heap.size + 1) 0 y
set_option maxRecDepth 100000 in
set_option maxHeartbeats 8000000 in
theorem all1_goes {W : World} {D q lb ab n lc ac : Nat} {stop : Int} {t : Tr} {x y : Nv} {L M : List (Nat × Nv)} {ok ok' : Nat → Prop} (hG : Gb W D (.slice (some ⟨lb, 0, none⟩) n lc) (.slice (some ⟨ab, 0, none⟩) n ac) stop 0 false)
    (hq : At W q 0 y) (hM : Fl W ok' t y 0 M) (hRM : Rd W ok' t y) (hL : Fl W ok t x 0 L) (hRL : Rd W ok t x) (hl : ∀ j p, L[j]? = some p → At W lb (j * 6) p.2 ∧ W.cell? ⟨ab, j, none⟩ = some (.int .i64 (p.1 : Int)))
    (hn : n = L.length) (hn2 : n ≤ 1000) (hwt : wt t ≤ 3000) (hX : ∀ b, (ok b ∨ ok' b ∨ b = lb ∨ b = ab ∨ b = q) → b < W.heap.size ∧ ¬ GX D b) :
    Calls Tryz.prog 34 #[yiV D, .pointer (some ⟨q, 0, none⟩)] W fun e w' => e = .returned (.tuple #[]) ∧ Ey (GX D) W w' ∧ ∃ m ov, Gb w' D (.slice (some ⟨lb, 0, none⟩) n lc) (.slice (some ⟨ab, 0, none⟩) n ac) stop m ov ∧ ((ov = false ∧ m = n) ∨ (ov = true ∧ (m : Int) = stop ∧ 1 ≤ m)) := by
  obtain ⟨hLM, hTW⟩ := two_fl hL hRL hM hRM
  obtain ⟨A, hA⟩ : ∃ A : Nat → Nat × Nv, ∀ j, j < M.length → M[j]? = some (A j) := ⟨fun j => M.getD j (0, default), fun j hj => by simp [hj]⟩
  have hMn : M.length = n := by rw [← hLM]; exact hn.symm
  have HRND : Hid (∀ V k, Ey (GX D) W V → k < n → ∃ (p : Nat × Nv) (t' : Tr), (A k).1 = p.1 ∧ At V lb (k * 6) p.2 ∧ V.cell? ⟨ab, k, none⟩ = some (.int .i64 (p.1 : Int)) ∧ Rd V ok t' p.2 ∧ Rd V ok' t' (A k).2 ∧ wt t' ≤ 3000) := by
    intro V k hV hk
    have hp : L[k]? = some (L.getD k (0, default)) := by simp [show k < L.length by omega]
    obtain ⟨h1, t', h2, h3, h4⟩ := hTW k _ _ hp (hA k (by omega))
    obtain ⟨h5, h6⟩ := hl k _ hp
    have kp : ∀ b, (ok b ∨ ok' b ∨ b = lb ∨ b = ab ∨ b = q) → V.heap[b]? = W.heap[b]? := fun b hb => hV.block b (hX b hb).1 (hX b hb).2
    exact ⟨_, t', h1.symm, h5.same (kp _ (by simp)), (World.cell?_of_block (a := ⟨ab, k, none⟩) (kp ab (by simp))).trans h6, h2.same (fun b hb => kp b (Or.inl hb)), h3.same (fun b hb => kp b (Or.inr (Or.inl hb))), by omega⟩
  have HX := Lib.hid hX
  have hl5 : D + 5 < W.heap.size := lt_of_cell hG.o
  obtain ⟨⟨ma, mn, mc, hm⟩, ⟨ka, kn, kc, hk⟩⟩ := hRM.shape
  obtain ⟨yk, ya, ys, yn, ym, yv⟩ := y
  simp only at hm hk
  subst hm
  subst hk
  have CN := fun V => nodes_any ⟨yk, ya, ys, yn, .slice ma mn mc, .slice ka kn kc⟩ V
  simp only [Nv.v] at CN
  obtain ⟨W1, hW1⟩ : ∃ W1, W.alloc (.cells #[yiV D] 58) = W1 := ⟨_, rfl⟩
  have hs1 : W1.heap.size = W.heap.size + 1 := by rw [← hW1]; simp
  have hb1 : Below W.heap.size W W1 := by rw [← hW1]; exact (Below.refl _ W).alloc (Nat.le_refl _) _
  have hy1 : W1.cell? ⟨W.heap.size, 0, none⟩ = some (yiV D) := by rw [← hW1]; exact World.cell?_alloc_at _ _ _ _ rfl
  obtain ⟨q0, q1, q2, q3, q4, q5⟩ := (hq.below hb1).cells
  have HG := Lib.hid hG
  have HM := Lib.hid hM
  have HA := Lib.hid hA
  have HB1 := Lib.hid hb1
  have HY1 := Lib.hid hy1
  have HS1 := Lib.hid hs1
  clear hq hM hRM hL hRL hl hwt hX hTW hLM hb1 hy1 hs1 hG hA hn
  unfold yiV at hW1 ⊢
  refine callsIn_wide.1 (callsIn_of_wp_marks (n := 0) Tryz.func34 rfl trivial ?_ rfl)
  simp only [Tryz.ntmps34, List.size_toArray, List.length_cons, List.length_nil, Nat.reduceAdd, Nat.reduceSub, Array.replicate_succ, Array.replicate_zero, List.push_toArray, List.append_toArray, List.nil_append, List.cons_append]
  gi_wp2_with fail
  try rw [hW1]
  refine ⟨trivial, rfl, (callsIn_wide.2 (CN _)).mono ?_⟩
  rintro e w3 ⟨rfl, hw3⟩
  clear CN q0 q1 q2 q3 q4 q5
  have hb3 : Below W1.heap.size W1 w3 := by rw [hw3]; exact (Below.refl _ W1).alloc (Nat.le_refl _) _
  have ha3 : At w3 (W.heap.size + 1) 0 ⟨yk, ya, ys, yn, .slice ma mn mc, .slice ka kn kc⟩ := by rw [hw3, ← HS1.out]; exact at_alloc W1 ⟨yk, ya, ys, yn, .slice ma mn mc, .slice ka kn kc⟩
  have hs3 : w3.heap.size = W.heap.size + 2 := by rw [hw3]; simp [HS1.out]
  have hbw3 : Below W.heap.size W w3 := HB1.out.trans (hb3.mono HB1.out.size)
  have hG0 : Ga W D (.slice (some ⟨lb, 0, none⟩) n lc) (.slice (some ⟨ab, 0, none⟩) n ac) stop ⟨yk, ya, ys, yn, .slice ma mn mc, .slice ka kn kc⟩ 0 w3 := ⟨HG.out.keep (fun b _ hb => hbw3.block b (by omega)), ey_of hbw3 (fun k hk _ => hk), cell_keep HY1.out hb3, ha3⟩
  have hF3 : Fl w3 ok' t ⟨yk, ya, ys, yn, .slice ma mn mc, .slice ka kn kc⟩ 0 M := HM.out.same (fun b hb => hbw3.block b (HX.out b (Or.inr (Or.inl hb))).1)
  have HSQ := Lib.hid (nodes_seq (W.heap.size + 1) A hF3 (fun b hb => by have := (HX.out b (Or.inr (Or.inl hb))).1; omega) (by omega) HA.out ha3)
  have HG0 := Lib.hid hG0
  have HS3 := Lib.hid hs3
  have hwx : W1.heap.size = W.heap.size + 1 := HS1.out
  rw [hwx]
  rw [hMn] at HSQ
  have HK3 : Hid (∀ b, ok' b → w3.heap[b]? = W.heap[b]?) := fun b hb => hbw3.block b (HX.out b (Or.inr (Or.inl hb))).1
  clear hw3 hb3 ha3 hs3 hbw3 hG0 hF3 hwx hW1
  have HST : Hid (∀ k V V', Ga W D (.slice (some ⟨lb, 0, none⟩) n lc) (.slice (some ⟨ab, 0, none⟩) n ac) stop ⟨yk, ya, ys, yn, .slice ma mn mc, .slice ka kn kc⟩ k V → Below w3.heap.size V V' → Ga W D (.slice (some ⟨lb, 0, none⟩) n lc) (.slice (some ⟨ab, 0, none⟩) n ac) stop ⟨yk, ya, ys, yn, .slice ma mn mc, .slice ka kn kc⟩ k V') := by
    rintro k V V' ⟨x1, x2, x3, x4⟩ hb
    have hs := HS3.out
    exact ⟨x1.keep (fun b _ h => hb.block b (by omega)), x2.then hb (by omega), (World.cell?_of_block (a := ⟨W.heap.size, 0, none⟩) (hb.block W.heap.size (by omega))).trans x3, x4.same (hb.block _ (by omega))⟩
  gi_wp2_with fail
  refine wpIn_range_box (fun l => { target := .fn (.func 37) #[.pointer (some ⟨W.heap.size + 1, 0, none⟩)], args := #[.func (.yield l) #[] #[]] }) (fun l W => by simp [resolve, Deferred.ofValue, go_sem, Act.eval]) (fun l W => by simp [invoke, go_sem, Tryz.call37])
    HSQ.out (fun _ => rfl) (fun k V => Ga W D (.slice (some ⟨lb, 0, none⟩) n lc) (.slice (some ⟨ab, 0, none⟩) n ac) stop ⟨yk, ya, ys, yn, .slice ma mn mc, .slice ka kn kc⟩ k V) (fun c _ V => c = .ret ∧ Ey (GX D) W V ∧ ∃ m, Gb V D (.slice (some ⟨lb, 0, none⟩) n lc) (.slice (some ⟨ab, 0, none⟩) n ac) stop m true ∧ (m : Int) = stop ∧ 1 ≤ m) (fun k V V' h hb => HST.out k V V' h hb)
    (fun c k V V' h hb => ⟨h.1, h.2.1.then hb (by have := HS3.out; omega), h.2.2.imp (fun m hm => ⟨hm.1.keep (fun b _ h => hb.block b (by have := HS3.out; omega)), hm.2⟩)⟩) (fun k V h => ⟨h.a, fun b hb => (h.e.block b (HX.out b (Or.inr (Or.inl hb))).1 (HX.out b (Or.inr (Or.inl hb))).2).trans (HK3.out b hb).symm⟩) HG0.out
    (fun k a' V => ∃ bx, w3.heap.size + 2 ≤ bx ∧ Ga W D (.slice (some ⟨lb, 0, none⟩) n lc) (.slice (some ⟨ab, 0, none⟩) n ac) stop ⟨yk, ya, ys, yn, .slice ma mn mc, .slice ka kn kc⟩ k V ∧ At V bx 0 (A k).2 ∧ a' = { tmps := #[yiV D, .pointer (some ⟨q, 0, none⟩), .pointer (some ⟨W.heap.size, 0, none⟩), .int .i64 ((A k).1 : Int), .pointer (some ⟨bx, 0, none⟩), .agg #[.int .i64 yk, .int .i64 ya, .string ys, .bool yn, .slice ma mn mc, .slice ka kn kc], .func (.func 37) #[] #[.pointer (some ⟨W.heap.size + 1, 0, none⟩)], .int .i64 ((A k).1 : Int), (A k).2.v, undef, undef, undef, undef, undef, undef], defers := [] }) ?hA ?assign ?body ?done ?stop
  case hA =>
    rintro k a' V o ⟨bx, hbx, hI, hXx, ha⟩
    exact ⟨bx, hbx, HST.out _ _ _ hI (below_put (by omega)), hXx.same (World.putObj_heap_other (by omega)), ha⟩
  case assign =>
    intro l k V K hsz hk hI hK
    obtain ⟨p, t', -, -, -, -, hrd, -⟩ := HRND.out V k hI.e hk
    obtain ⟨⟨sa, sn, sc, e1⟩, ⟨ta, tn, tc, e2⟩⟩ := hrd.shape
    clear hrd
    obtain ⟨z, hz⟩ : ∃ z, (A k).2 = z := ⟨_, rfl⟩
    simp only [enc]
    rw [hz] at e1 e2 hK ⊢
    obtain ⟨zk, za, zx, zn, zm, zv⟩ := z
    simp only at e1 e2
    subst e1
    subst e2
    simp only [Nv.v] at hK ⊢
    obtain ⟨V1, hV1⟩ : ∃ V1, V.alloc (.cells #[.int .i64 zk, .int .i64 za, .string zx, .bool zn, .slice sa sn sc, .slice ta tn tc] 27) = V1 := ⟨_, rfl⟩
    have hB1 : Below V.heap.size V V1 := by rw [← hV1]; exact (Below.refl _ V).alloc (Nat.le_refl _) _
    have hx1 : At V1 V.heap.size 0 ⟨zk, za, zx, zn, .slice sa sn sc, .slice ta tn tc⟩ := by rw [← hV1]; exact at_alloc V ⟨zk, za, zx, zn, .slice sa sn sc, .slice ta tn tc⟩
    have hKK := hK _ V1 ⟨V.heap.size, hsz, HST.out _ _ _ hI (hB1.mono (by omega)), hx1, rfl⟩ hB1
    have HKK := Lib.hid hKK
    have HV1 := Lib.hid hV1
    clear hI hK hKK hB1 hx1 hV1
    gi_wp2_with fail
    rw [HV1.out]
    exact HKK.out
  case body =>
    rintro l k a' V hk ⟨bx, hbx, hI, hXx, rfl⟩
    obtain ⟨p, t', hp1, hp2, hp3, hp4, hp5, hp6⟩ := HRND.out V k hI.e hk
    obtain ⟨⟨sa, sn, sc, e1⟩, ⟨ta, tn, tc, e2⟩⟩ := hp5.shape
    have hdp : ((A k).1 : Int) = (p.1 : Int) := by rw [hp1]
    obtain ⟨z, hz⟩ : ∃ z, (A k).2 = z := ⟨_, rfl⟩
    rw [hz] at e1 e2 hXx hp5 ⊢
    rw [hdp]
    obtain ⟨zk, za, zx, zn, zm, zv⟩ := z
    simp only at e1 e2
    subst e1
    subst e2
    obtain ⟨p0, p1, p2, p3, p4, p5⟩ := hXx.cells
    have hyb := hI.b
    have hVW := hI.e.size
    have hlb := (HX.out lb (by simp)).1
    have hlab := (HX.out ab (by simp)).1
    have HC1 : Hid (∀ V', Below V.heap.size V V' → Calls Tryz.prog 33 #[.agg #[.int .i64 zk, .int .i64 za, .string zx, .bool zn, .slice sa sn sc, .slice ta tn tc]] V' fun e w' => ∃ y : Nv, e = .returned y.v ∧ Ow w' t' V'.heap.size w'.heap.size y ∧ Below V'.heap.size V' w') := fun V' hV' => dup_any t' ⟨zk, za, zx, zn, .slice sa sn sc, .slice ta tn tc⟩ V' (hp5.same (fun b hb => hV'.block b (by have := (HX.out b (Or.inr (Or.inl hb))).1; omega))) hp6 (fun b hb => by have := (HX.out b (Or.inr (Or.inl hb))).1; have := hV'.size; omega)
    have HC2 : Hid (∀ V' lo (y : Nv), Below V.heap.size V V' → V.heap.size ≤ lo → Ow V' t' lo V'.heap.size y → Calls Tryz.prog 35 #[.int .i64 (p.1 : Int), y.v, .pointer (some ⟨D + 4, 0, none⟩), .pointer (some ⟨D + 5, 0, none⟩), .pointer (some ⟨D + 3, 0, none⟩), .pointer (some ⟨D, 0, none⟩), .pointer (some ⟨D + 1, 0, none⟩), .pointer (some ⟨D + 2, 0, none⟩)] V' fun e w' =>
        e = .returned (.bool (!decide (((k + 1 : Nat) : Int) = stop))) ∧ Gb w' D (.slice (some ⟨lb, 0, none⟩) n lc) (.slice (some ⟨ab, 0, none⟩) n ac) stop (k + 1) (decide (((k + 1 : Nat) : Int) = stop)) ∧ Ey (GX D) V' w') := fun V' lo y hV' hlo hO =>
      goes1_any (ok2 := fun b => lo ≤ b ∧ b < V'.heap.size) (hI.g.keep (fun b _ hb => hV'.block b (by omega))) hk hn2 (hp2.same (hV'.block lb (by omega))) ((World.cell?_of_block (a := ⟨ab, k, none⟩) (hV'.block ab (by omega))).trans hp3) (hp4.same (fun b hb => hV'.block b (by have := (HX.out b (Or.inl hb)).1; omega))) hO.rd hp6 (fun b hb => by have h := HX.out b (Or.inl hb); have := hV'.size; exact ⟨by omega, fun e => h.2 (Or.inr (Or.inl e))⟩) (fun b hb => ⟨hb.2, by have := hb.1; omega⟩) (HX.out lb (by simp)).2 (HX.out ab (by simp)).2
    have HI := Lib.hid hI
    clear hI hp1 hp2 hp3 hp4 hp5 hp6 hdp hXx hz
    obtain ⟨bd, hbd⟩ : ∃ bd, decide (((k + 1 : Nat) : Int) = stop) = bd := ⟨_, rfl⟩
    rw [hbd] at HC2
    simp only [Nv.v] at HC2 ⊢
    have HBD := Lib.hid hbd
    clear hbd
    unfold yiV at hyb
    gi_wp2_with fail
    gi_region_with (first
      | (refine ⟨trivial, rfl, (CallsIn.inRound l (callsIn_wide.2 (HC1.out _ (Below.refl _ _).drew))).mono ?_⟩; rintro e W5 ⟨y5, rfl, ho, hb5⟩; obtain ⟨⟨ua, un, uc, hum⟩, ⟨va, vn, vc, hvk⟩⟩ := ho.rd.shape; obtain ⟨gk, ga, gs, gn, gm, gv⟩ := y5; simp only at hum hvk; subst hum; subst hvk; have HO5 := Lib.hid ho; have HB5 := Lib.hid (((Below.refl _ V).drew).trans hb5); have qb := cell_keep hyb HB5.out; clear ho hb5)
      | (refine ⟨trivial, rfl, (CallsIn.inRound l (callsIn_wide.2 (HC2.out _ _ _ HB5.out (Nat.le_refl _) HO5.out))).mono ?_⟩; rintro e W6 ⟨rfl, hg6, hx6⟩; have HG6 := Lib.hid hg6; have HX6 := Lib.hid hx6; clear hg6 hx6)
      | fail)
    all_goals
      have hs3 := HS3.out
      have hE6 : Ey (GX D) V W6 := (ey_of HB5.out (fun k hk _ => hk)).trans HX6.out
      have hEW : Ey (GX D) W W6 := HI.out.e.trans hE6
      have hSi : Since w3.heap.size V W6 := ⟨hE6.size, fun i h1 h2 => hE6.block i h2 (by unfold GX; omega)⟩
      have hb6 : W6.cell? ⟨W.heap.size, 0, none⟩ = some (yiV D) := (World.cell?_of_block (a := ⟨W.heap.size, 0, none⟩) (hE6.block W.heap.size (by have := lt_of_cell p0; omega) (by unfold GX; omega))).trans HI.out.b
      have ha6 : At W6 (W.heap.size + 1) 0 ⟨yk, ya, ys, yn, .slice ma mn mc, .slice ka kn kc⟩ := HI.out.a.same (hE6.block _ (by have := HI.out.a.lt; omega) (by unfold GX; omega))
      have HF := Lib.hid (And.intro hEW (And.intro hSi (And.intro hb6 ha6)))
      clear hs3 hE6 hEW hSi hb6 ha6 qb p0 p1 p2 p3 p4 p5 hyb
      cases bd with
      | true =>
        gi_wp2_with fail
        exact ⟨HF.out.2.1, hk, rfl, HF.out.1, k + 1, HG6.out, of_decide_eq_true HBD.out, by omega⟩
      | false =>
        gi_wp2_with fail
        exact ⟨HF.out.2.1, HG6.out, HF.out.1, HF.out.2.2.1, HF.out.2.2.2⟩
  case done =>
    rintro V ⟨x1, x2, x3, x4⟩ hK
    have H1 := Lib.hid x1
    have H2 := Lib.hid x2
    clear x1 x2 x4
    gi_wp2_with fail
    have hs := HS3.out
    refine ⟨by simp, .inl ⟨_, _, rfl, run_takeDeferred hK, ?_⟩⟩
    refine ⟨_, results_none rfl _ _ _, rfl, ?_⟩
    have hbp : Below w3.heap.size V (V.putObj w3.heap.size (.deferred none)) := below_put (by omega)
    exact ⟨H2.out.then hbp (by omega), n, false, H1.out.keep (fun b _ h => hbp.block b (by omega)), Or.inl ⟨rfl, rfl⟩⟩
  case stop =>
    rintro c k V hk ⟨rfl, x2, m, x1, x3, x4⟩ hK
    have H1 := Lib.hid x1
    have H2 := Lib.hid x2
    clear x1 x2
    gi_wp2_with fail
    have hs := HS3.out
    refine ⟨by simp, .inl ⟨_, _, rfl, run_takeDeferred hK, ?_⟩⟩
    refine ⟨_, results_none rfl _ _ _, rfl, ?_⟩
    have hbp : Below w3.heap.size V (V.putObj w3.heap.size (.deferred none)) := below_put (by omega)
    exact ⟨H2.out.then hbp (by omega), m, true, H1.out.keep (fun b _ h => hbp.block b (by omega)), Or.inr ⟨rfl, x3, x4⟩⟩
end Nd
end Go.Proofs.YtfcgogpnbmikmaaGreatDoor
