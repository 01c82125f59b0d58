/-
  A zero family's namespace; names of none; the law's sight of none.
-/
import Derived.Test.YtpigbnlapcndgaaGreatShNil2
namespace Go.Proofs.YtpigbnlapcndgaaGreat
open Go.RowKit Go.WideShapes
attribute [local go_sem] Oper.semAt_some

set_option maxRecDepth 100000 in
theorem make_at (w : World) (f : Nat) :
    Calls Tryz.prog 7 #[.pointer (some ⟨f, 0, none⟩)] w fun e w' => ∃ s q, e = .returned (.pointer (some ⟨s, 0, none⟩)) ∧ Blk w' s 3 (spF f 59 q 0) ∧ Blk w' q 2 (sdF f (.slice none 0 0)) ∧ w.heap.size ≤ s ∧ w.heap.size ≤ q ∧ Below w.heap.size w w' := by
  have h1 := eqFa f
  obtain ⟨w1, hw1⟩ : ∃ y, w.alloc (.cells #[.pointer (some ⟨f, 0, none⟩), .slice none 0 0] 61) = y := ⟨_, rfl⟩
  obtain ⟨w2, hw2⟩ : ∃ y, w1.alloc (.cells #[.pointer (some ⟨f, 0, none⟩), .iface 59 (.pointer (some ⟨w.heap.size, 0, none⟩)), .int .u64 0] 66) = y := ⟨_, rfl⟩
  have hB1 : Below w.heap.size w w1 := by rw [← hw1]; exact (Below.refl _ w).alloc (Nat.le_refl _) _
  have hs1 : w1.heap.size = w.heap.size + 1 := by rw [← hw1]; simp
  have hB2 : Below w1.heap.size w1 w2 := by rw [← hw2]; exact (Below.refl _ w1).alloc (Nat.le_refl _) _
  have hq : Blk w2 w.heap.size 2 (sdF f (.slice none 0 0)) := by
    have : Blk w1 w.heap.size 2 (sdF f (.slice none 0 0)) := by
      rw [← hw1]
      refine (Blk.new w _ _).congr fun j hj => ?_
      have : j = 0 ∨ j = 1 := by simp at hj; omega
      rcases this with rfl | rfl <;> rfl
    exact this.of hB2 (by omega)
  have hb : Blk w2 w1.heap.size 3 (spF f 59 w.heap.size 0) := by
    rw [← hw2]
    refine (Blk.new w1 _ _).congr fun j hj => ?_
    have : j = 0 ∨ j = 1 ∨ j = 2 := by simp at hj; omega
    rcases this with rfl | rfl | rfl <;> rfl
  have HBw : Hid (Below w.heap.size w w2) := hB1.trans (hB2.mono (by omega))
  have HQ := Lib.hid hq
  have HB := Lib.hid hb
  have HS := Lib.hid hs1
  have HW1 := Lib.hid hw1
  have HW2 := Lib.hid hw2
  clear hw1 hw2 hB1 hB2 hq hb hs1
  go_enter Tryz.func7, Tryz.ntmps7
  go_wp2
  rw [HW1.out, HW2.out]
  go_ret
  exact ⟨_, _, by first | rfl | (simp [← HW1.out]), HB.out, HQ.out, by have := HS.out; omega, Nat.le_refl _, HBw.out⟩
set_option maxRecDepth 100000 in
theorem slen_row {w : World} {f s q n cap : Nat} {av : Option Addr} {v : Nat} (hs : Blk w s 3 (spF f 59 q v)) (k1 : w.cell? ⟨q, 1, none⟩ = some (.slice av n cap)) :
    Calls Tryz.prog 15 #[.pointer (some ⟨s, 0, none⟩)] w fun e w' => e = .returned (.int .i64 (n : Int)) ∧ w' = w := by
  have x1 : w.cell? ⟨s, 1, none⟩ = some (.iface 59 (.pointer (some ⟨q, 0, none⟩))) := hs.c 1 (by omega)
  have CN := isNothing_no x1
  have mz := mR_size (some ⟨q, 0, none⟩)
  have CZ := rowSize_any k1
  clear hs k1
  go_enter Tryz.func15, Tryz.ntmps15
  go_wp2_with fail
  refine CN.mono ?_
  rintro e w1 ⟨rfl, rfl⟩
  clear CN
  go_wp2_with fail
  refine CZ.mono ?_
  rintro e w2 ⟨rfl, rfl⟩
  clear CZ
  go_wp2
  go_ret
  exact ⟨rfl, rfl⟩
set_option maxRecDepth 100000 in
set_option maxHeartbeats 1600000 in
/-- A zero family has room for no name. -/
theorem set_zero {w : World} {f s q g gi r h : Nat} (hf : Blk w f 6 (zF0 (some ⟨g, 0, none⟩))) (hD : Dt w g gi r h (.slice none 0 0) Tb.new (.pointer none)) (hs : Blk w s 3 (spF f 59 q 0)) (hq : Blk w q 2 (sdF f (.slice none 0 0))) {nm : ByteArray} (hnm : nm.size ≤ 3000) (v : Int) :
    Calls Tryz.prog 10 #[.pointer (some ⟨s, 0, none⟩), .string nm, .int .i64 v] w fun e w' => e = .returned (.int .i64 6) ∧ Below w.heap.size w w' := by
  have lf := hf.lt (by omega)
  have ls := hs.lt (by omega)
  have lq := hq.lt (by omega)
  have x1 : w.cell? ⟨s, 1, none⟩ = some (.iface 59 (.pointer (some ⟨q, 0, none⟩))) := hs.c 1 (by omega)
  have CS := (seek_gen (q := q) (t := Tb.new) (T := 59) (Fn := 105) (M := fun a b w => no4 a b 0 0 w) (a := 0) (b := 0) hnm (hs.c 0 (by omega)) (hs.c 1 (by omega)) (fun w => mR_table _ w) (fun args w => Tryz.call105 args w) (numberOf_nil (hf.c 4 (by omega)) hnm) (rowTable_any (hq.c 0 (by omega)) (hf.c 1 (by omega))) hD Tb.new_ok (m4_nil.mt 0 0) (m4_nil.vi 0 0) trivial (by omega) (by simp [Tb.new]) (fun n hn => absurd hn.1 (by simp [Tb.new]))).mono (R' := fun e w' => e = .returned (.int .i64 (-1)) ∧ Below w.heap.size w w') (fun e w' ⟨res, jj, he, hR, _, hx⟩ => by
    rcases hR with ⟨n, _, hn, _⟩ | ⟨rfl, _⟩
    · exact absurd hn.1 (by simp [Tb.new])
    · exact ⟨he, hx.below (fun k hk => (noMet hk).elim) (Nat.le_refl _)⟩)
  have CN := isNothing_no x1
  have mh := mR_has (some ⟨q, 0, none⟩)
  have mz := mR_size (some ⟨q, 0, none⟩)
  have HF := Lib.hid hf
  have HS := Lib.hid hs
  have HQ := Lib.hid hq
  clear hf hD hs hq
  go_enter Tryz.func10, Tryz.ntmps10
  go_wp2_with fail
  refine CN.mono ?_
  rintro e w0 ⟨rfl, rfl⟩
  clear CN
  go_wp2_with fail
  refine CS.mono ?_
  rintro e w1 ⟨rfl, hB1⟩
  clear CS x1
  have CH := rowHas_none (w := w1) (q := q)
  have hf1 := HF.out.of hB1 (by omega)
  have hs1 := HS.out.of hB1 (by omega)
  have hq1 := HQ.out.of hB1 (by omega)
  have y1 : w1.cell? ⟨s, 1, none⟩ = some (.iface 59 (.pointer (some ⟨q, 0, none⟩))) := hs1.c 1 (by omega)
  have x0 : w1.drew.cell? ⟨s, 0, none⟩ = some (.pointer (some ⟨f, 0, none⟩)) := hs1.c 0 (by omega)
  have d1 : w1.drew.cell? ⟨s, 1, none⟩ = some (.iface 59 (.pointer (some ⟨q, 0, none⟩))) := y1
  have d3 : w1.drew.cell? ⟨f, 3, none⟩ = some (.int .i64 0) := hf1.c 3 (by omega)
  have CSZ := rowSize_any (w := w1.drew) (q := q) (n := 0) (cap := 0) (av := none) (hq1.c 1 (by omega))
  have HB1 := Lib.hid hB1
  clear hf1 hs1 hq1 hB1
  go_wp2_with fail
  refine CH.mono ?_
  rintro e w3 ⟨rfl, rfl⟩
  clear CH
  go_wp2_with fail
  go_region_held3 (fun V => V.cell? ⟨s, 0, none⟩ = some (.pointer (some ⟨f, 0, none⟩)) ∧ V.cell? ⟨s, 1, none⟩ = some (.iface 59 (.pointer (some ⟨q, 0, none⟩))) ∧ V.cell? ⟨f, 3, none⟩ = some (.int .i64 0))
    (first | with_reducible exact ⟨x0, d1, d3⟩ | fail)
    (first | (go_at_call 104; refine CSZ.mono ?_; rintro e w4 ⟨rfl, rfl⟩) | fail)
  go_wp2
  go_ret
  exact ⟨rfl, HB1.out.drew⟩
set_option maxRecDepth 100000 in
set_option maxHeartbeats 4000000 in
/-- Names of no entries. -/
theorem names_none {w : World} {pv : Option Addr} {X : Nat → Prop} {R : Option Addr → World → Prop} (hX : ∀ k, X k → k < w.heap.size)
    (HK : ∀ W, Below w.heap.size w W → Calls Tryz.prog 23 #[.pointer pv] W fun e W' => ∃ gp, e = .returned (.pointer gp) ∧ R gp W' ∧ Ex X W W')
    (HA : ∀ W gp, R gp W → Calls Tryz.prog 24 #[.pointer gp] W fun e W' => ∃ b v, e = .returned (.func (.func 32) #[] #[.pointer (some ⟨b, 0, none⟩)]) ∧ b < W'.heap.size ∧ W'.cell? ⟨b, 0, none⟩ = some v ∧ Es W' v [] ∧ Below W.heap.size W W')
    (HR : ∀ gp W W', R gp W → Below W.heap.size W W' → R gp W') :
    Calls Tryz.prog 19 #[.pointer pv] w fun e w' => e = .returned (.slice none 0 0) ∧ (∃ gp, R gp w') ∧ Ex X w w' := by
  obtain ⟨w1, hw1⟩ : ∃ y, w.alloc (.cells #[.pointer pv] 25) = y := ⟨_, rfl⟩
  obtain ⟨w2, hw2⟩ : ∃ y, w1.alloc (.cells #[.slice none 0 0] 51) = y := ⟨_, rfl⟩
  have hb1 : Below w.heap.size w w1 := by rw [← hw1]; exact (Below.refl _ w).alloc (Nat.le_refl _) _
  have hX1 : Blk w1 w.heap.size 1 (fun j => #[Value.pointer pv].getD j .nilFunc) := by rw [← hw1]; exact Blk.new w _ _
  have hs1 : w1.heap.size = w.heap.size + 1 := by rw [← hw1]; simp
  have hb2' : Below w1.heap.size w1 w2 := by rw [← hw2]; exact (Below.refl _ w1).alloc (Nat.le_refl _) _
  have hX2 : Blk w2 w1.heap.size 1 (fun j => #[Value.slice none 0 0].getD j .nilFunc) := by rw [← hw2]; exact Blk.new w1 _ _
  have hs2 : w2.heap.size = w.heap.size + 2 := by rw [← hw2]; simp; omega
  have hX12 := hX1.of hb2' (by omega)
  have hb2 : Below w.heap.size w w2 := hb1.trans (hb2'.mono (by omega))
  have CK := HK w2 hb2
  have c1 : w2.cell? ⟨w.heap.size, 0, none⟩ = some (.pointer pv) := hX12.c 0 (by omega)
  have c3 : w2.cell? ⟨w.heap.size + 1, 0, none⟩ = some (.slice none 0 0) := by rw [← hs1]; exact hX2.c 0 (by omega)
  have HW1 := Lib.hid hw1
  have HW2 := Lib.hid hw2
  refine callsIn_wide.1 (callsIn_of_wp_marks (n := 0) Tryz.func19 rfl trivial ?_ rfl)
  simp only [Tryz.ntmps19, List.size_toArray, List.length_cons, List.length_nil, Nat.reduceAdd, Nat.reduceSub, Array.replicate_succ, Array.replicate_zero, List.push_toArray, List.append_toArray, List.nil_append, List.cons_append]
  clear hw1 hw2 hX1 hX2 hX12 hb1 hb2' HK
  gi_wp2_with fail
  rw [HW1.out, HW2.out]
  refine ⟨trivial, rfl, (callsIn_wide.2 CK).mono ?_⟩
  rintro e w3 ⟨gp, rfl, hR3, hx3⟩
  clear CK
  have CA := HA w3 gp hR3
  have hs3 := hx3.size
  have HR3 := Lib.hid hR3
  clear hR3
  gi_wp2_with fail
  refine ⟨trivial, rfl, (callsIn_wide.2 CA).mono ?_⟩
  rintro e w4 ⟨b, v0, rfl, hbl, hbc, hE4, hB4⟩
  clear CA
  have hx24 : Ex X w2 w4 := hx3.trans (ex_of hB4)
  have d3 : w4.cell? ⟨w.heap.size + 1, 0, none⟩ = some (.slice none 0 0) := (World.cell?_of_block (a := ⟨w.heap.size + 1, 0, none⟩) (hx24.block (w.heap.size + 1) (by omega) (fun y => by have := hX _ y; omega))).trans c3
  have HX4 : Hid (Ex X w w4) := (ex_of hb2).trans hx24
  have HR4 : Hid (R gp w4) := HR gp w3 w4 HR3.out hB4
  have hs4 := hB4.size
  have HSQ := Lib.hid (all1_fr (es := []) (v := v0) b w4 (by simp) (fun i => i) (fun i hi => absurd hi (by simp)))
  have HE := Lib.hid hE4
  have HBC := Lib.hid hbc
  have HRR := Lib.hid HR
  clear hE4 hB4 c1 c3 hb2 hx24 hx3 HR3 hbc HA HR
  gi_wp2_with fail
  refine wpIn_range_fr (fun l => { target := .fn (.func 32) #[.pointer (some ⟨b, 0, none⟩)], args := #[.func (.yield l) #[] #[]] }) (fun l W => by simp [resolve, Deferred.ofValue, go_sem, Act.eval]) (fun l W => by simp [invoke, go_sem, Tryz.call32])
    HSQ.out (fun _ => rfl) (fun k W => Below w4.heap.size w4 W) ?hI ?hIp ?hIk (Below.refl _ _) (fun _ _ _ => False) (fun _ _ _ _ h => h) (fun _ i _ _ _ hi => absurd hi (Nat.not_lt_zero _)) (fun _ i _ _ hi => absurd hi (Nat.not_lt_zero _)) ?done
  case hI =>
    intro k A A' x1 hb
    exact x1.trans (hb.mono x1.size)
  case hIp =>
    intro k A o x1
    exact x1.trans (below_put (by omega))
  case hIk =>
    intro k A x1
    exact ⟨HE.out.same fun j hj => x1.block j (HE.out.lt j hj), (x1.cell (p := ⟨b, 0, none⟩) hbl).trans HBC.out⟩
  case done =>
    intro W x1 hK
    have cb : W.cell? ⟨w.heap.size + 1, 0, none⟩ = some (.slice none 0 0) := (x1.cell (p := ⟨w.heap.size + 1, 0, none⟩) (by show w.heap.size + 1 < _; omega)).trans d3
    have HX1 := Lib.hid x1
    clear x1
    gi_wp2_with fail
    gi_wp2
    refine ⟨by simp, .inl ⟨_, _, rfl, run_takeDeferred hK, ?_⟩⟩
    exact ⟨_, results_tmp rfl _ _ _, rfl, ⟨gp, HRR.out gp w4 _ HR4.out (HX1.out.trans (below_put (by omega)))⟩, HX4.out.trans (ex_of (HX1.out.trans (below_put (by omega))))⟩
theorem es_nil (w : World) : Es w (.slice none 0 0) [] := World.ownsRow_nil _ _ _ _
theorem names_nil (w : World) : Calls Tryz.prog 19 #[.pointer none] w fun e w' => e = .returned (.slice none 0 0) ∧ Below w.heap.size w w' :=
  (names_none (w := w) (pv := none) (X := fun _ => False) (R := fun gp _ => gp = none) (fun _ h => h.elim) (fun W _ => (keys_nil W).mono fun e W' ⟨he, hw⟩ => ⟨none, he, rfl, by rw [hw]; exact Ex.refl _ _⟩)
    (fun W gp hg => by
      subst hg
      exact (all_nil W).mono fun e W' ⟨b, he, hb, hc, hB⟩ => ⟨b, _, he, hb, hc, es_nil _, hB⟩) (fun _ _ _ h _ => h)).mono fun e w' ⟨he, _, hx⟩ => ⟨he, hx.below (fun _ h => h.elim) (Nat.le_refl _)⟩
/-- A zero family with its key table. -/
def Zf (w : World) (f g gi r h : Nat) : Prop := Blk w f 6 (zF0 (some ⟨g, 0, none⟩)) ∧ Dt w g gi r h (.slice none 0 0) Tb.new (.pointer none)
theorem Zf.below {w w' : World} {f g gi r h : Nat} (x : Zf w f g gi r h) (hb : Below w.heap.size w w') : Zf w' f g gi r h := ⟨x.1.of hb (by omega), x.2.below hb⟩
theorem names_zero {w : World} {f : Nat} (hf : Blk w f 6 (zF0 none)) : Calls Tryz.prog 19 #[.pointer (some ⟨f, 0, none⟩)] w fun e w' => e = .returned (.slice none 0 0) ∧ (∃ g gi r h, Zf w' f g gi r h) ∧ Ex (fun k => k = f) w w' :=
  (names_none (w := w) (pv := some ⟨f, 0, none⟩) (X := fun k => k = f) (R := fun gp W => ∃ g gi r h, gp = some ⟨g, 0, none⟩ ∧ Zf W f g gi r h) (fun k hk => by rw [hk]; exact hf.lt (by omega))
    (fun W hW => (keys_zero (hf.of hW (by omega))).mono fun e W' ⟨g, gi, r, h, he, h1, h2, _, h4⟩ => ⟨_, he, ⟨g, gi, r, h, rfl, h1, h2⟩, h4⟩)
    (fun W gp ⟨g, gi, r, h, hg, hz⟩ => by
      subst hg
      exact (all7_new (hz.2.hd.c 2 (by omega)) hz.2.es (by simp [Tb.new])).mono fun e W' ⟨b, v, he, _, hb, hc, hE, _, hB⟩ => ⟨b, v, he, hb, hc, hE.es, hB⟩)
    (fun gp W W' ⟨g, gi, r, h, hg, hz⟩ hB => ⟨g, gi, r, h, hg, hz.below hB⟩)).mono fun e w' ⟨he, ⟨gp, g, gi, r, h, _, hz⟩, hx⟩ => ⟨he, ⟨g, gi, r, h, hz⟩, hx⟩
end Go.Proofs.YtpigbnlapcndgaaGreat
