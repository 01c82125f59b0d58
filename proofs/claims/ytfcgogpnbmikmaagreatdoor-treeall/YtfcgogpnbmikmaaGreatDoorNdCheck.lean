/-
  Check: a tree whose nodes all have their shapes is taken.
-/
import Derived.Test.YtfcgogpnbmikmaaGreatDoorNdDep
import Derived.Test.YtfcgogpnbmikmaaGreatDoorNdRgB
import Derived.Test.YtfcgogpnbmikmaaGreatDoorNdAw2
import Derived.Stop.RegionWithIn
namespace Go.Proofs.YtfcgogpnbmikmaaGreatDoor
open Go.RowKit Go.WideShapes
namespace Nd
open Lx
attribute [local go_sem] Oper.semAt_some

/-- A walk that only reads. -/
structure Cr (w0 : World) (ok : Nat → Prop) (x : Nv) (v p : Nat) (W : World) : Prop where
  b : Below w0.heap.size w0 W
  c : W.cell? ⟨v, 0, none⟩ = some (.int .i64 0)
  z : W.frozen? ⟨v, 0, none⟩ = false
  a : At W p 0 x
  o : ∀ b, ok b → W.heap[b]? = w0.heap[b]?
set_option maxRecDepth 100000 in
set_option maxHeartbeats 4000000 in
theorem check_ok {ok : Nat → Prop} {t : Tr} {x : Nv} {L : List (Nat × Nv)} (w : World) (hF : Fl w ok t x 0 L) (hok : ∀ b, ok b → b < w.heap.size) (hL : L.length ≤ 200000) (A : Nat → Nat × Nv) (hA : ∀ j, j < L.length → L[j]? = some (A j)) (hD : ∀ j, j < L.length → (A j).1 < 300) (hk1 : x.k = 1)
    (hsh : ∀ j, j < L.length → (∃ a n c b m d, (A j).2.mv = .slice a n c ∧ (A j).2.kv = .slice b m d) ∧ ∀ V, Below w.heap.size w V → Calls Tryz.prog 26 #[.int .i64 (A j).2.k] V (ShQ V (A j).2)) :
    Calls Tryz.prog 9 #[x.v] w fun e w' => e = .returned (.int .i64 0) ∧ Below w.heap.size w w' := by
  obtain ⟨⟨ma, mn, mc, hm⟩, ⟨ka, kn, kc, hk⟩⟩ := hF.shape
  obtain ⟨xk, xa, xs, xn, xm, xkv⟩ := x
  simp only at hm hk hk1
  subst hm
  subst hk
  subst hk1
  simp only [Nv.v]
  have CN := fun V => nodes_any ⟨1, xa, xs, xn, .slice ma mn mc, .slice ka kn kc⟩ V
  simp only [Nv.v] at CN
  have HF := Lib.hid hF
  have HOK := Lib.hid hok
  have HA := Lib.hid hA
  have HD := Lib.hid hD
  have HSH := Lib.hid hsh
  clear hF hok hA hD hsh
  refine callsIn_wide.1 (callsIn_of_wp_marks (n := 0) Tryz.func9 rfl trivial ?_ rfl)
  simp only [Tryz.ntmps9, List.size_toArray, List.length_cons, List.length_nil, Nat.reduceAdd, Nat.reduceSub, Array.replicate_succ, Array.replicate_zero, List.push_toArray, List.append_toArray, List.nil_append, List.cons_append]
  gi_wp2_with fail
  refine ⟨trivial, rfl, (callsIn_wide.2 (CN _)).mono ?_⟩
  rintro e w3 ⟨rfl, hw3⟩
  clear CN
  obtain ⟨W2, hW2⟩ : ∃ W2, (w.alloc (.cells #[.int .i64 1, .int .i64 xa, .string xs, .bool xn, .slice ma mn mc, .slice ka kn kc] 27)).alloc (.cells #[.int .i64 0] 31) = W2 := ⟨_, rfl⟩
  rw [hW2] at hw3 ⊢
  have hs2 : W2.heap.size = w.heap.size + 2 := by rw [← hW2]; simp
  have hb2 : Below w.heap.size w W2 := by rw [← hW2]; exact ((Below.refl _ w).alloc (Nat.le_refl _) _).alloc (by simp) _
  have hc2 : W2.cell? ⟨w.heap.size + 1, 0, none⟩ = some (.int .i64 0) ∧ W2.frozen? ⟨w.heap.size + 1, 0, none⟩ = false := by
    have h := Blk.new (w.alloc (.cells #[.int .i64 1, .int .i64 xa, .string xs, .bool xn, .slice ma mn mc, .slice ka kn kc] 27)) #[.int .i64 0] 31
    rw [hW2, World.size_alloc] at h
    exact ⟨h.c 0 (by simp), h.z 0⟩
  have hb3 : Below W2.heap.size W2 w3 := by rw [hw3]; exact (Below.refl _ W2).alloc (Nat.le_refl _) _
  have ha3 : At w3 W2.heap.size 0 ⟨1, xa, xs, xn, .slice ma mn mc, .slice ka kn kc⟩ := by rw [hw3]; exact ⟨World.cell?_alloc_at _ _ _ _ rfl, World.cell?_alloc_at _ _ _ _ rfl, World.cell?_alloc_at _ _ _ _ rfl, World.cell?_alloc_at _ _ _ _ rfl, World.cell?_alloc_at _ _ _ _ rfl, World.cell?_alloc_at _ _ _ _ rfl⟩
  have hs3 : w3.heap.size = w.heap.size + 3 := by rw [hw3]; simp [hs2]
  have hbw3 := hb2.trans (hb3.mono hb2.size)
  have hC0 : Cr w ok ⟨1, xa, xs, xn, .slice ma mn mc, .slice ka kn kc⟩ (w.heap.size + 1) W2.heap.size w3 := ⟨hbw3, cell_keep hc2.1 hb3, (World.frozen?_of_block (a := ⟨w.heap.size + 1, 0, none⟩) (hb3.block (w.heap.size + 1) (by omega))).trans hc2.2, ha3, fun b hb => hbw3.block b (HOK.out b hb)⟩
  have hF3 : Fl w3 ok t ⟨1, xa, xs, xn, .slice ma mn mc, .slice ka kn kc⟩ 0 L := HF.out.same hC0.o
  have HSQ := Lib.hid (nodes_seq W2.heap.size A hF3 (fun b hb => by have := HOK.out b hb; omega) hL HA.out ha3)
  have HC0 := Lib.hid hC0
  have HS3 := Lib.hid hs3
  have HS2 := Lib.hid hs2
  clear hw3 hs2 hb2 hc2 hb3 ha3 hs3 hbw3 hC0 hF3 hW2
  have HST : Hid (∀ V V', Cr w ok ⟨1, xa, xs, xn, .slice ma mn mc, .slice ka kn kc⟩ (w.heap.size + 1) W2.heap.size V → Below w3.heap.size V V' → Cr w ok ⟨1, xa, xs, xn, .slice ma mn mc, .slice ka kn kc⟩ (w.heap.size + 1) W2.heap.size V') := by
    rintro V V' ⟨x1, x2, x3, x4, x5⟩ hb
    have hs := HS3.out
    have hs2 := HS2.out
    exact ⟨x1.trans (hb.mono (by omega)), (hb.cell (p := ⟨w.heap.size + 1, 0, none⟩) (by show w.heap.size + 1 < _; omega)).trans x2, (World.frozen?_of_block (a := ⟨w.heap.size + 1, 0, none⟩) (hb.block (w.heap.size + 1) (by omega))).trans x3, x4.same (hb.block W2.heap.size (by omega)), fun b hbk => (hb.block b (by have := HOK.out b hbk; omega)).trans (x5 b hbk)⟩
  gi_wp2_with fail
  refine wpIn_range_box (fun l => { target := .fn (.func 37) #[.pointer (some ⟨W2.heap.size, 0, none⟩)], args := #[.func (.yield l) #[] #[]] }) (fun l W => by simp [resolve, Deferred.ofValue, go_sem, Act.eval]) (fun l W => by simp [invoke, go_sem, Tryz.call37])
    HSQ.out (fun _ => rfl) (fun _ W => Cr w ok ⟨1, xa, xs, xn, .slice ma mn mc, .slice ka kn kc⟩ (w.heap.size + 1) W2.heap.size W) (fun _ _ _ => False) (fun _ V V' h hb => HST.out V V' h hb) (fun _ _ _ _ h _ => h) (fun k W h => ⟨h.a, fun b hb => (h.o b hb).trans (HC0.out.o b hb).symm⟩) HC0.out
    (fun k a' W => ∃ bx, w3.heap.size + 2 ≤ bx ∧ Cr w ok ⟨1, xa, xs, xn, .slice ma mn mc, .slice ka kn kc⟩ (w.heap.size + 1) W2.heap.size W ∧ At W bx 0 (A k).2 ∧ a' = { tmps := #[.agg #[.int .i64 1, .int .i64 xa, .string xs, .bool xn, .slice ma mn mc, .slice ka kn kc], .pointer (some ⟨w.heap.size, 0, none⟩), .pointer (some ⟨w.heap.size + 1, 0, none⟩), .int .i64 ((A k).1 : Int), .pointer (some ⟨bx, 0, none⟩), .pointer (some ⟨w.heap.size, 0, none⟩), .int .i64 1, .bool false, .agg #[.int .i64 1, .int .i64 xa, .string xs, .bool xn, .slice ma mn mc, .slice ka kn kc], .func (.func 37) #[] #[.pointer (some ⟨W2.heap.size, 0, none⟩)], .int .i64 ((A k).1 : Int), (A k).2.v, undef, undef, undef, undef, undef, undef, undef, undef, undef, undef], defers := [] }) ?hA ?assign ?body ?done (fun _ _ _ _ h _ => h.elim)
  case hA =>
    rintro k a' W o ⟨bx, hbx, hI, hX, ha⟩
    exact ⟨bx, hbx, HST.out _ _ hI (below_put (by omega)), hX.same (World.putObj_heap_other (by omega)), ha⟩
  case assign =>
    intro l k W K hsz hk hI hK
    obtain ⟨⟨sa, sn, sc, ta, tn, tc, e1, e2⟩, -⟩ := HSH.out k hk
    obtain ⟨y, hy⟩ : ∃ y, (A k).2 = y := ⟨_, rfl⟩
    simp only [enc]
    rw [hy] at e1 e2 hK ⊢
    obtain ⟨yk, ya, yx, yn, ym, yv⟩ := y
    simp only at e1 e2
    subst e1
    subst e2
    simp only [Nv.v] at hK ⊢
    obtain ⟨W1, hW1⟩ : ∃ W1, W.alloc (.cells #[.int .i64 yk, .int .i64 ya, .string yx, .bool yn, .slice sa sn sc, .slice ta tn tc] 27) = W1 := ⟨_, rfl⟩
    have hB1 : Below W.heap.size W W1 := by rw [← hW1]; exact (Below.refl _ W).alloc (Nat.le_refl _) _
    have hx1 : At W1 W.heap.size 0 ⟨yk, ya, yx, yn, .slice sa sn sc, .slice ta tn tc⟩ := by rw [← hW1]; exact ⟨World.cell?_alloc_at _ _ _ _ rfl, World.cell?_alloc_at _ _ _ _ rfl, World.cell?_alloc_at _ _ _ _ rfl, World.cell?_alloc_at _ _ _ _ rfl, World.cell?_alloc_at _ _ _ _ rfl, World.cell?_alloc_at _ _ _ _ rfl⟩
    have hKK := hK _ W1 ⟨W.heap.size, hsz, HST.out _ _ hI (hB1.mono (by omega)), hx1, rfl⟩ hB1
    have HKK := Lib.hid hKK
    have HW1 := Lib.hid hW1
    clear hI hK hKK hB1 hx1 hW1
    gi_wp2_with fail
    rw [HW1.out]
    exact HKK.out
  case body =>
    rintro l k a' W hk ⟨bx, hbx, hI, hX, rfl⟩
    obtain ⟨⟨sa, sn, sc, ta, tn, tc, e1, e2⟩, hsp⟩ := HSH.out k hk
    have hd := HD.out k hk
    obtain ⟨y, hy⟩ : ∃ y, (A k).2 = y := ⟨_, rfl⟩
    rw [hy] at e1 e2 hX hsp ⊢
    obtain ⟨yk, ya, yx, yn, ym, yv⟩ := y
    simp only at e1 e2
    subst e1
    subst e2
    obtain ⟨p0, p1, p2, p3, p4, p5⟩ := hX
    simp only [Nat.zero_add] at p0 p1 p2 p3 p4 p5
    have g1 : ¬ (300 : Int) ≤ ((A k).1 : Int) := by omega
    have g2 : decide ((300 : Int) ≤ ((A k).1 : Int)) = false := by simp; omega
    have HI := Lib.hid hI
    have HSP := Lib.hid hsp
    clear hI hsp
    simp only [Nv.v]
    have hWW : Hid (∀ V, Below W.heap.size W V → Below w.heap.size w V) := fun V hV => HI.out.b.trans (hV.mono HI.out.b.size)
    gi_wp2_with fail
    gi_region_with (first
      | (refine ⟨trivial, rfl, (CallsIn.inRound l (callsIn_wide.2 (HSP.out _ (hWW.out _ (Below.refl _ _).drew)))).mono ?_⟩; rintro e W5 ⟨f, rfl, ⟨gf, caps, rfl, egf, hcal⟩, hb5⟩; have HCAL := Lib.hid hcal; have HB5 := Lib.hid (((Below.refl _ W).drew).trans hb5); have q0 := cell_keep p0 HB5.out; have q1 := cell_keep p1 HB5.out; have q2 := cell_keep p2 HB5.out; have q3 := cell_keep p3 HB5.out; have q4 := cell_keep p4 HB5.out; have q5 := cell_keep p5 HB5.out; clear hcal hb5)
      | (refine ⟨trivial, rfl, (CallsIn.inRound l (callsIn_wide.2 (HCAL.out _ (Below.refl _ _)))).mono ?_⟩; rintro e W6 ⟨rfl, hb6⟩; have HB6 := Lib.hid hb6; clear hb6)
      | fail)
    all_goals
      have hfin : Below W.heap.size W W6 := HB5.out.trans (HB6.out.mono HB5.out.size)
      have HFIN := Lib.hid hfin
      have hlW : w3.heap.size ≤ W.heap.size := by have := lt_of_cell p0; omega
      have HLW := Lib.hid hlW
      clear hfin hlW q0 q1 q2 q3 q4 q5 p0 p1 p2 p3 p4 p5
      gi_wp2_with fail
      exact ⟨Since.below HFIN.out, HST.out _ _ HI.out (HFIN.out.mono HLW.out)⟩
  case done =>
    rintro W ⟨x1, x2, x3, x4, x5⟩ hK
    have H1 := Lib.hid x1
    have H2 := Lib.hid x2
    clear x1 x4 x5
    gi_wp2_with fail
    have hs := HS3.out
    have hK2 : (W.setCell ⟨w.heap.size + 1, 0, none⟩ (.int .i64 0)).heap[w3.heap.size]? = some (.deferred (some [])) := (setCell_blk (k := w3.heap.size) (g := w.heap.size + 1) (by omega)).trans hK
    have hc : ∀ o, ((W.setCell ⟨w.heap.size + 1, 0, none⟩ (.int .i64 0)).putObj w3.heap.size o).cell? ⟨w.heap.size + 1, 0, none⟩ = some (.int .i64 0) := fun o => (World.cell?_of_block (a := ⟨w.heap.size + 1, 0, none⟩) (World.putObj_heap_other (by show w.heap.size + 1 ≠ w3.heap.size; omega))).trans (World.cell?_setCell_same' _ _ _ (by rw [H2.out]; rfl))
    refine ⟨by simp, .inl ⟨_, _, rfl, run_takeDeferred hK2, ?_⟩⟩
    refine ⟨.int .i64 0, by simp [results, Tryz.results9, go_sem, hc], rfl, ?_⟩
    exact (H1.out.setCell (p := ⟨w.heap.size + 1, 0, none⟩) (by show w.heap.size ≤ w.heap.size + 1; omega) _).trans (below_put (by omega))
end Nd
end Go.Proofs.YtfcgogpnbmikmaaGreatDoor
