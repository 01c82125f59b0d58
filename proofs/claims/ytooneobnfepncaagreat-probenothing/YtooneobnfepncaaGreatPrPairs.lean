/-
  Pairs.
-/
import Derived.Test.YtooneobnfepncaaGreatPrAll2
import Derived.Test.YtooneobnfepncaaGreatRgBox
namespace Go.Proofs.YtooneobnfepncaaGreat
open Go.RowKit Go.WideShapes
attribute [local go_sem] Oper.semAt_some

/-- How Pairs stands behind k pairs. -/
structure PaI (w : World) (es : List En) (N G bp b : Nat) (v0 : Value) (B3 : Nat) (k : Nat) (W : World) : Prop where
  bl : Below w.heap.size w W
  bx : W.cell? ⟨bp, 0, none⟩ = some (.slice (some ⟨G, 0, none⟩) k N)
  fz : W.frozen? ⟨bp, 0, none⟩ = false
  ow : W.ownsRow w.heap.size 62 5 (.slice (some ⟨G, 0, none⟩) k N) k (enl ((liveL es).take k))
  es : Es W v0 es
  ib : W.cell? ⟨b, 0, none⟩ = some v0
  sz : B3 ≤ W.heap.size
/-- What of it hangs on memory. -/
theorem PaI.below {w : World} {es : List En} {N G bp b : Nat} {v0 : Value} {B3 k : Nat} {A A' : World} (h : PaI w es N G bp b v0 B3 k A) (hb : Below B3 A A') (hG : G < B3) (hbp : bp < B3) (hbb : b < B3) (hv : ∀ j, v0.ownBlock = some j → j < B3) (hw : w.heap.size ≤ B3) : PaI w es N G bp b v0 B3 k A' :=
  ⟨h.bl.trans (hb.mono hw), (hb.cell (p := ⟨bp, 0, none⟩) hbp).trans h.bx, (World.frozen?_of_block (a := ⟨bp, 0, none⟩) (hb.block bp hbp)).trans h.fz, by
    refine ⟨h.ow.1, ?_⟩
    rcases h.ow.2 with h0 | ⟨g, cap, cur, e, h1, h2, h3⟩
    · exact .inl h0
    · refine .inr ⟨g, cap, cur, e, h1, (hb.block g ?_).trans h2, h3⟩
      cases e
      exact hG, h.es.same fun j hj => hb.block j (hv j hj), (hb.cell (p := ⟨b, 0, none⟩) hbb).trans h.ib, Nat.le_trans h.sz hb.size⟩
set_option maxRecDepth 100000 in
set_option maxHeartbeats 4000000 in
theorem pairs_any {w : World} {d g gi r h : Nat} {ev : Value} {t : Tb} {mv : Value} {most : Int} {v : Nat} (hC : Dc w d g gi r h ev t mv most v) :
    Calls Tryz.prog 18 #[.pointer (some ⟨d, 0, none⟩)] w fun e w' => ∃ v, e = .returned v ∧ EsB w.heap.size w' v (liveL t.es) ∧ Below w.heap.size w w' := by
  obtain ⟨i0, hi, hz0, hz1, hz2⟩ := info_parts Tryz.infoEn
  have hlen : t.es.length ≤ 100000 := Nat.le_trans hC.ok.few hC.ok.all
  have hll : (liveL t.es).length ≤ t.es.length := by have := liveL_len t.es; omega
  obtain ⟨px, hpx, hpl⟩ := places t.es
  refine callsIn_wide.1 (callsIn_of_wp_marks (n := 0) Tryz.func18 rfl trivial ?_ rfl)
  simp only [Tryz.ntmps18, List.size_toArray, List.length_cons, List.length_nil, Nat.reduceAdd, Nat.reduceSub, Array.replicate_succ, Array.replicate_zero, List.push_toArray, List.append_toArray, List.nil_append, List.cons_append]
  have CL := plen_any (hC.hd.c 0 (by omega)) (hC.dt.hd.c 3 (by omega))
  have CL' : Calls Tryz.prog 16 #[.pointer (some ⟨d, 0, none⟩)] w fun e w' => e = .returned (.int .i64 ((liveL t.es).length : Int)) ∧ w' = w := by
    have : dF mv gi ev t 3 = .int .i64 ((liveL t.es).length : Int) := by show Value.int .i64 (t.live : Int) = _; rw [Tb.live_eq]
    exact plen_any (hC.hd.c 0 (by omega)) ((hC.dt.hd.c 3 (by omega)).trans (by rw [this]))
  clear CL
  have HC := Lib.hid hC
  clear hC
  generalize hLL : (liveL t.es).length = N at *
  gi_wp2_with fail
  refine ⟨trivial, rfl, (callsIn_wide.2 CL').mono ?_⟩
  rintro e w0 ⟨rfl, rfl⟩
  clear CL'
  gi_wp2_with (gi_at_make; refine wpListIn_make_own _ rfl _ _ 69 rfl w0.heap.size 62 i0 (.agg #[.bool false, .int .i64 0, .int .i64 0, .int .i64 0, .int .i64 0]) 5 Tryz.underlying69 hi hz0 hz1 .i64 .i64 _ N rfl rfl rfl (by rw [hz2]; omega) (by unfold maxLen; omega) (Nat.le_refl _) ?_; intro w1 hown1 hgrow1)
  obtain ⟨w2, hw2⟩ : ∃ y, w1.alloc (.cells #[.slice (some ⟨w0.heap.size, 0, none⟩) 0 N] 69) = y := ⟨_, rfl⟩
  have hb1 : Below w0.heap.size w0 w1 := (Below.refl _ w0).grown hgrow1 (Nat.le_refl _) (fun k e => by cases e)
  have hG1 : w0.heap.size < w1.heap.size := (hown1.lt w0.heap.size rfl).2
  have hb2 : Below w0.heap.size w0 w2 := by rw [← hw2]; exact hb1.alloc (by omega) _
  have hX2 : Blk w2 w1.heap.size 1 (fun j => #[Value.slice (some ⟨w0.heap.size, 0, none⟩) 0 N].getD j .nilFunc) := by rw [← hw2]; exact Blk.new w1 _ _
  have hs2 : w2.heap.size = w1.heap.size + 1 := by rw [← hw2]; simp
  have hown2 : w2.ownsRow w0.heap.size 62 5 (.slice (some ⟨w0.heap.size, 0, none⟩) 0 N) 0 [] := by rw [← hw2]; exact World.ownsRow.alloc hown1 _
  have hC2 := HC.out.below hb2
  have CK := kept_yes (hC2.hd.c 0 (by omega))
  have CA := all7_new (hC2.dt.hd.c 2 (by omega)) hC2.dt.es hlen
  have HW2 := Lib.hid hw2
  clear hw2 hC2 hown1 hgrow1
  rw [HW2.out]
  refine ⟨trivial, rfl, (callsIn_wide.2 CK).mono ?_⟩
  rintro e w2' ⟨rfl, h2'⟩
  rw [h2']
  clear CK h2'
  gi_wp2_with fail
  refine ⟨trivial, rfl, (callsIn_wide.2 CA).mono ?_⟩
  rintro e w3 ⟨b, v0, rfl, hbb, hbl, hbc, hE3, hvb, hB3⟩
  clear CA
  have hs3 := hB3.size
  have hI0 : PaI w0 t.es N w0.heap.size w1.heap.size b v0 w3.heap.size 0 w3 := by
    refine ⟨hb2.trans (hB3.mono hb2.size), (hB3.cell (p := ⟨w1.heap.size, 0, none⟩) (by show w1.heap.size < _; omega)).trans (hX2.c 0 (by omega)), (World.frozen?_of_block (a := ⟨w1.heap.size, 0, none⟩) (hB3.block w1.heap.size (by omega))).trans (hX2.z 0), ?_, hE3.es, hbc, Nat.le_refl _⟩
    refine ⟨hown2.1, ?_⟩
    rcases hown2.2 with h0 | ⟨g, cap, cur, e, h1, h2, h3⟩
    · exact .inl h0
    · refine .inr ⟨g, cap, cur, e, h1, (hB3.block g ?_).trans h2, h3⟩
      cases e
      omega
  have hlv := hE3.es.lt
  have hvg := hE3.ge
  have hvw : ∀ j, v0.ownBlock = some j → w2.heap.size ≤ j := hvg
  have hcn : cntL t.es t.es.length = N := by rw [cntL_all, hLL]
  have HSQ := Lib.hid (all1_seq (es := t.es) (v := v0) b w3 hlen px hpx)
  have HPL := Lib.hid hpl
  have HI0 := Lib.hid hI0
  have HLL := Lib.hid hLL
  clear hI0 hE3 hown2 hX2 hB3 hb1 hb2 HC hpx hpl hLL hvg
  rw [hcn] at HSQ
  clear hcn
  gi_wp2_with fail
  refine wpIn_range_box (fun l => { target := .fn (.func 94) #[.pointer (some ⟨b, 0, none⟩)], args := #[.func (.yield l) #[] #[]] }) (fun l W => by simp [resolve, Deferred.ofValue, go_sem, Act.eval]) (fun l W => by simp [invoke, go_sem, Tryz.call94])
    HSQ.out (fun _ => rfl) (fun k W => PaI w0 t.es N w0.heap.size w1.heap.size b v0 w3.heap.size k W) (fun _ _ _ => False) ?hI (fun _ _ _ _ h _ => h) (fun k W h => ⟨h.es, h.ib⟩) HI0.out
    (fun k a' W => ∃ bx, w3.heap.size + 2 ≤ bx ∧ PaI w0 t.es N w0.heap.size w1.heap.size b v0 w3.heap.size k W ∧ Blk W bx 5 (fun j => #[Value.bool (nth t.es (px k)).live, .int .i64 (nth t.es (px k)).hash, .int .i64 (nth t.es (px k)).key, .int .i64 (nth t.es (px k)).value, .int .i64 (nth t.es (px k)).birth].getD j .nilFunc) ∧ a' = { tmps := #[.pointer (some ⟨d, 0, none⟩), undef, .slice none 0 0, .pointer (some ⟨w1.heap.size, 0, none⟩), undef, .pointer (some ⟨bx, 0, none⟩), .pointer (some ⟨d, 0, none⟩), .int .i64 (N : Int), .slice (some ⟨w0.heap.size, 0, none⟩) 0 N, .pointer (some ⟨d, 0, none⟩), .pointer (some ⟨g, 0, none⟩), .func (.func 94) #[] #[.pointer (some ⟨b, 0, none⟩)], .int .i64 (px k : Int), eV (nth t.es (px k)), undef, undef, undef, undef, undef], defers := [] }) ?hA ?assign ?body ?done (fun _ _ _ _ h _ => h.elim)
  case hI =>
    intro k A A' x1 hb
    exact x1.below hb (by omega) (by omega) (by omega) hlv (by omega)
  case hA =>
    rintro k a' W o ⟨bx, hbx, hI, hX, ha⟩
    exact ⟨bx, hbx, hI.below (below_put (by omega)) (by omega) (by omega) (by omega) hlv (by omega), hX.same (World.putObj_heap_other (by omega)), ha⟩
  case assign =>
    intro l k W K hsz hk hI hK
    unfold eV at hK ⊢
    have HI := Lib.hid hI
    obtain ⟨W1, hW1⟩ : ∃ y, W.alloc (.cells #[.bool (nth t.es (px k)).live, .int .i64 (nth t.es (px k)).hash, .int .i64 (nth t.es (px k)).key, .int .i64 (nth t.es (px k)).value, .int .i64 (nth t.es (px k)).birth] 62) = y := ⟨_, rfl⟩
    have hB1 : Below W.heap.size W W1 := by rw [← hW1]; exact (Below.refl _ W).alloc (Nat.le_refl _) _
    have hX1 : Blk W1 W.heap.size 5 (fun j => #[Value.bool (nth t.es (px k)).live, .int .i64 (nth t.es (px k)).hash, .int .i64 (nth t.es (px k)).key, .int .i64 (nth t.es (px k)).value, .int .i64 (nth t.es (px k)).birth].getD j .nilFunc) := by rw [← hW1]; exact Blk.new W _ _
    have hKK := hK _ W1 ⟨W.heap.size, hsz, HI.out.below (hB1.mono HI.out.sz) (by omega) (by omega) (by omega) hlv (by omega), hX1, rfl⟩ hB1
    have HKK := Lib.hid hKK
    have HW1 := Lib.hid hW1
    clear hI hK hKK hB1 hX1 hW1
    gi_wp2_with fail
    rw [HW1.out]
    exact HKK.out
  case body =>
    rintro l k a' W hk ⟨bx, hbx, hI, hX, rfl⟩
    have hxl := (HPL.out k hk).2
    have hxe : (liveL t.es).take (k + 1) = (liveL t.es).take k ++ [nth t.es (px k)] := by rw [hxl]; exact take_succ_nth (by rw [HLL.out]; exact hk)
    obtain ⟨x, hx⟩ : ∃ x, nth t.es (px k) = x := ⟨_, rfl⟩
    rw [hx] at hX hxe ⊢
    have c0 := hX.c 0 (by omega)
    have c1 := hX.c 1 (by omega)
    have c2 := hX.c 2 (by omega)
    have c3 := hX.c 3 (by omega)
    have c4 := hX.c 4 (by omega)
    have cb := hI.bx
    have zb := hI.fz
    have hown := hI.ow
    have HI := Lib.hid hI
    have HXE := Lib.hid hxe
    have hszW := hI.sz
    have hlk : ((enl ((liveL t.es).take k)).length = k * 5) := by rw [enl_len, List.length_take]; rw [HLL.out]; omega
    have HLK := Lib.hid hlk
    clear hI hxe hX hxl hx hlk
    have HRE : Hid (enl ((liveL t.es).take (k + 1)) = enl ((liveL t.es).take k) ++ enc5 x) := by show _ = _; rw [HXE.out, enl_app]; simp [enl]
    generalize enl ((liveL t.es).take k) = R at *
    unfold eV
    gi_wp2_with (gi_at_builtin; refine wpListIn_append_fits _ rfl _ _ 69 rfl w0.heap.size 62 i0 5 Tryz.underlying69 hi hz1 w0.heap.size k N R rfl (World.ownsRow.alloc hown _) ⟨W.heap.size, 0, none⟩ 1 1 (enc5 x) rfl rfl (new_five _ _ _) (by simp [enc5, Value.oneCell']) (by omega) ?_; intro W2 hown2 hgrow2; have kb : W2.heap[w1.heap.size]? = W.heap[w1.heap.size]? := (hgrow2.block w1.heap.size (by simp; omega) (by intro e; injection e with e; omega)).trans (Below.heap_alloc _ _ _ (by omega)); have cb2 := (World.cell?_of_block (a := ⟨w1.heap.size, 0, none⟩) kb).trans cb; have zb2 := (World.frozen?_of_block (a := ⟨w1.heap.size, 0, none⟩) kb).trans zb)
    have hG : w0.heap.size < w3.heap.size := by omega
    have kk : ∀ j, j < W.heap.size → j ≠ w0.heap.size → W2.heap[j]? = W.heap[j]? := fun j hj hne => (hgrow2.block j (by simp; omega) (by intro e; injection e with e; omega)).trans (Below.heap_alloc _ _ _ hj)
    have hS : Since w3.heap.size W W2 := ⟨Nat.le_trans (by simp) hgrow2.size, fun j h1 h2 => kk j h2 (by omega)⟩
    have hbW : Below w0.heap.size w0 W2 := (HI.out.bl.alloc HI.out.bl.size _).grown hgrow2 (by simp; have := HI.out.bl.size; omega) (fun j e => by injection e with e; omega)
    refine ⟨hS.setCell (p := ⟨w1.heap.size, 0, none⟩) (by show w1.heap.size < _; omega) _, ?_⟩
    refine ⟨hbW.setCell (p := ⟨w1.heap.size, 0, none⟩) (by show w0.heap.size ≤ w1.heap.size; omega) _, World.cell?_setCell_same' _ _ _ (by rw [cb2]; rfl), by rw [World.frozen?_setCell]; exact zb2, ?_, ?_, ?_, ?_⟩
    · rw [HRE.out]
      refine ⟨hown2.1, ?_⟩
      rcases hown2.2 with h0 | ⟨g', cap', cur', e', q1, q2, q3⟩
      · exact .inl h0
      · refine .inr ⟨g', cap', cur', e', q1, (Below.heap_setCell _ _ _ _ ?_).trans q2, q3⟩
        cases e'
        show w0.heap.size ≠ w1.heap.size
        omega
    · exact HI.out.es.same fun j hj => by
        have h1 := hvw j hj
        have h2 := hlv j hj
        rw [Below.heap_setCell _ _ _ _ (by show j ≠ w1.heap.size; omega)]
        exact kk j (by omega) (by omega)
    · rw [World.cell?_setCell_other _ _ _ _ (by intro he; injection he with a b; omega)]
      exact (World.cell?_of_block (a := ⟨b, 0, none⟩) (kk b (by omega) (by omega))).trans HI.out.ib
    · have := hS.size
      simp [World.setCell]
      omega
  case done =>
    intro W hI hK
    have cb := hI.bx
    have HI := Lib.hid hI
    have hsW := hI.bl.size
    have HOW : Hid (EsB w0.heap.size W (.slice (some ⟨w0.heap.size, 0, none⟩) N N) (liveL t.es)) := by
      have h1 := hI.ow
      rw [List.take_of_length_le (by rw [HLL.out]; exact Nat.le_refl _)] at h1
      show W.ownsRow w0.heap.size 62 5 _ (liveL t.es).length (enl (liveL t.es))
      rw [HLL.out]
      exact h1
    clear hI
    gi_wp2_with fail
    gi_wp2
    refine ⟨by simp, .inl ⟨_, _, rfl, run_takeDeferred hK, ?_⟩⟩
    refine ⟨_, results_tmp rfl _ _ _, _, rfl, ?_, HI.out.bl.trans (below_put (by omega))⟩
    refine ⟨HOW.out.1, ?_⟩
    rcases HOW.out.2 with h0 | ⟨g', cap', cur', e', q1, q2, q3⟩
    · exact .inl h0
    · refine .inr ⟨g', cap', cur', e', q1, (World.putObj_heap_other ?_).trans q2, q3⟩
      cases e'
      omega
end Go.Proofs.YtooneobnfepncaaGreat
