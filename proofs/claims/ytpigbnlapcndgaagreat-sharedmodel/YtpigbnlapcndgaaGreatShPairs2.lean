/-
  A private namespace's pairs.
-/
import Derived.Test.YtpigbnlapcndgaaGreatShPairs
import Derived.Test.YtpigbnlapcndgaaGreatPrAllF
import Derived.Test.YtpigbnlapcndgaaGreatRgRound
namespace Go.Proofs.YtpigbnlapcndgaaGreat
open Go.RowKit Go.WideShapes
attribute [local go_sem] Oper.semAt_some

/-- The pairs of entries. -/
def prsO (all : List ByteArray) (es : List En) : List (ByteArray × Int) := es.map fun e => (nmOf all e.key, e.value)
/-- Behind k rounds. -/
structure PoI (w : World) (q : Nat) (all : List ByteArray) (es : List En) (G bp b N : Nat) (v0 : Value) (Z k : Nat) (W : World) : Prop where
  bl : Below w.heap.size w W
  b1 : W.cell? ⟨w.heap.size, 0, none⟩ = some (.pointer (some ⟨q, 0, none⟩))
  b3 : W.cell? ⟨bp, 0, none⟩ = some (.slice (some ⟨G, 0, none⟩) k N)
  z3 : W.frozen? ⟨bp, 0, none⟩ = false
  ow : W.ownsRow w.heap.size 48 2 (.slice (some ⟨G, 0, none⟩) k N) k (pcl (prsO all ((liveL es).take k)))
  es : Es W v0 es
  ib : W.cell? ⟨b, 0, none⟩ = some v0
  sz : Z ≤ W.heap.size
theorem own_same2 {w w' : World} {B n size : Nat} {t : TypeId} {v : Value} {xs : List Value} (h : w.ownsRow B t size v n xs) (e : ∀ k, v.ownBlock = some k → w'.heap[k]? = w.heap[k]?) : w'.ownsRow B t size v n xs := by
  refine ⟨h.1, ?_⟩
  rcases h.2 with x | ⟨g, cap, cur, hv, h1, h2, h3⟩
  · exact .inl x
  · exact .inr ⟨g, cap, cur, hv, h1, (e g (by rw [hv]; rfl)).trans h2, h3⟩
/-- .. while only other blocks are altered. -/
theorem PoI.same {w : World} {q : Nat} {all : List ByteArray} {es : List En} {G bp b N : Nat} {v0 : Value} {Z k : Nat} {W W' : World} (x : PoI w q all es G bp b N v0 Z k W) (hz : w.heap.size < Z) (hG : G < Z) (hbp : bp < Z) (hb : b < Z) (hv : ∀ j, v0.ownBlock = some j → j < Z) (hbl : Below w.heap.size w W') (hs : W.heap.size ≤ W'.heap.size) (e : ∀ j, j < W.heap.size → j ≠ Z + 1 → W'.heap[j]? = W.heap[j]?) : PoI w q all es G bp b N v0 Z k W' := by
  have hsz := x.sz
  have c : ∀ (j o : Nat) {u : Value}, j < Z → W.cell? ⟨j, o, none⟩ = some u → W'.cell? ⟨j, o, none⟩ = some u := fun j o u hj h => (World.cell?_of_block (a := ⟨j, o, none⟩) (e j (by omega) (by omega))).trans h
  exact ⟨hbl, c _ 0 hz x.b1, c _ 0 hbp x.b3, (World.frozen?_of_block (a := ⟨bp, 0, none⟩) (e bp (by omega) (by omega))).trans x.z3, own_same2 x.ow fun j hj => by cases hj; exact e G (by omega) (by omega), x.es.same fun j hj => e j (by have := hv j hj; omega) (by have := hv j hj; omega), c _ 0 hb x.ib, by omega⟩
set_option maxRecDepth 100000 in
set_option maxHeartbeats 8000000 in
theorem ownPairs_any {w : World} {q f g gi r h : Nat} {ev : Value} {mb : Nat} {nv : Value} {F : Fa} {mv : Value} {tg tgi tr th : Nat} {tev : Value} {t : Tb} {hs : ByteArray → Int} (hF : Fam w f g gi r h ev mb nv F mv) (hq : Blk w q 2 (sdF f (.pointer (some ⟨tg, 0, none⟩)))) (hD : Dt w tg tgi tr th tev t mv) (hN : Nl hs F.all (liveL t.es)) (hlen : t.es.length ≤ 100000) :
    Calls Tryz.prog 142 #[.pointer (some ⟨q, 0, none⟩)] w fun e w' => ∃ v, e = .returned v ∧ PsB w.heap.size w' v (prsO F.all (liveL t.es)) ∧ Below w.heap.size w w' := by
  obtain ⟨i0, hi0, hz0, hz1, hz2⟩ := info_parts Tryz.infoPair
  obtain ⟨es, hes⟩ : ∃ es, t.es = es := ⟨_, rfl⟩
  obtain ⟨px, hpx, hpl⟩ := places es
  have hcn : cntL es es.length = (liveL es).length := cntL_all es
  have hll : (liveL es).length ≤ es.length := by have := liveL_len es; omega
  obtain ⟨an, capn, hnv⟩ := ownsRow_shape hF.nh.ns
  rw [hes] at hN hlen ⊢
  obtain ⟨N, hLL⟩ : ∃ N, (liveL es).length = N := ⟨_, rfl⟩
  rw [hLL] at hcn hll hpl
  have k3 : w.cell? ⟨tg, 3, none⟩ = some (.int .i64 (N : Int)) := by
    have h3 := hD.hd.c 3 (by omega)
    rw [show dF mv tgi tev t 3 = .int .i64 (N : Int) by show Value.int .i64 (t.live : Int) = _; rw [Tb.live_eq, hes, hLL]] at h3
    exact h3
  obtain ⟨w1, hw1⟩ : ∃ y, w.alloc (.cells #[.pointer (some ⟨q, 0, none⟩)] 177) = y := ⟨_, rfl⟩
  have hb1 : Below w.heap.size w w1 := by rw [← hw1]; exact (Below.refl _ w).alloc (Nat.le_refl _) _
  have hX1 : Blk w1 w.heap.size 1 (fun j => #[Value.pointer (some ⟨q, 0, none⟩)].getD j .nilFunc) := by rw [← hw1]; exact Blk.new w _ _
  have hs1 : w1.heap.size = w.heap.size + 1 := by rw [← hw1]; simp
  have c1 : w1.cell? ⟨w.heap.size, 0, none⟩ = some (.pointer (some ⟨q, 0, none⟩)) := hX1.c 0 (by omega)
  have cq1 : w1.cell? ⟨q, 1, none⟩ = some (.pointer (some ⟨tg, 0, none⟩)) := (hq.of hb1 (by omega)).c 1 (by omega)
  have CL := len_any ((hb1.cell (p := ⟨tg, 3, none⟩) (lt_of_cell k3)).trans k3)
  have cqa : (w.alloc (.cells #[.pointer (some ⟨q, 0, none⟩)] 177)).cell? ⟨q, 1, none⟩ = some (.pointer (some ⟨tg, 0, none⟩)) := by rw [hw1]; exact cq1
  have HF := Lib.hid hF
  have HQ := Lib.hid hq
  have HD := Lib.hid hD
  have HN := Lib.hid hN
  have HPL := Lib.hid hpl
  have HW1 := Lib.hid hw1
  have HPRE : Hid (∀ w2, w1.grownBy w2 none → (w2.alloc (.cells #[.slice (some ⟨w.heap.size + 1, 0, none⟩) 0 N] 36)).cell? ⟨w.heap.size, 0, none⟩ = some (.pointer (some ⟨q, 0, none⟩)) ∧ (w2.alloc (.cells #[.slice (some ⟨w.heap.size + 1, 0, none⟩) 0 N] 36)).cell? ⟨q, 1, none⟩ = some (.pointer (some ⟨tg, 0, none⟩))) := by
    intro w2 hgrow2
    have hb2 : Below w1.heap.size w1 w2 := (Below.refl _ w1).grown hgrow2 (Nat.le_refl _) (fun k e => by cases e)
    have hb3 : Below w1.heap.size w1 (w2.alloc (.cells #[.slice (some ⟨w.heap.size + 1, 0, none⟩) 0 N] 36)) := hb2.alloc hb2.size _
    exact ⟨(hb3.cell (p := ⟨w.heap.size, 0, none⟩) (by show w.heap.size < _; omega)).trans c1, (hb3.cell (p := ⟨q, 1, none⟩) (lt_of_cell cq1)).trans cq1⟩
  refine callsIn_wide.1 (callsIn_of_wp_marks (n := 0) Tryz.func142 rfl trivial ?_ rfl)
  simp only [Tryz.ntmps142, List.size_toArray, List.length_cons, List.length_nil, Nat.reduceAdd, Nat.reduceSub, Array.replicate_succ, Array.replicate_zero, List.push_toArray, List.append_toArray, List.nil_append, List.cons_append]
  clear hw1 hF hD hN hpl k3 hq
  gi_wp2_with fail
  rw [HW1.out]
  refine ⟨trivial, rfl, (callsIn_wide.2 CL).mono ?_⟩
  rintro e w1' ⟨rfl, h1'⟩
  rw [h1']
  clear CL h1'
  gi_wp2_with (gi_at_make; refine wpListIn_make_own _ rfl _ _ 36 rfl w.heap.size 48 i0 (.agg #[.string ByteArray.empty, .int .i64 0]) 2 Tryz.underlying36 hi0 hz0 hz1 .i64 .i64 _ N rfl rfl rfl (by rw [hz2]; omega) (by unfold maxLen; omega) (by omega) ?_; intro w2 hown2 hgrow2; obtain ⟨d1a, dqa⟩ := HPRE.out w2 hgrow2)
  rw [hs1] at hown2
  have hb2 : Below w1.heap.size w1 w2 := (Below.refl _ w1).grown hgrow2 (Nat.le_refl _) (fun k e => by cases e)
  have hG2 : w.heap.size + 1 < w2.heap.size := (hown2.lt (w.heap.size + 1) rfl).2
  obtain ⟨w3, hw3⟩ : ∃ y, w2.alloc (.cells #[.slice (some ⟨w.heap.size + 1, 0, none⟩) 0 N] 36) = y := ⟨_, rfl⟩
  have hb3 : Below w2.heap.size w2 w3 := by rw [← hw3]; exact (Below.refl _ w2).alloc (Nat.le_refl _) _
  have hX3 : Blk w3 w2.heap.size 1 (fun j => #[Value.slice (some ⟨w.heap.size + 1, 0, none⟩) 0 N].getD j .nilFunc) := by rw [← hw3]; exact Blk.new w2 _ _
  have hs3 : w3.heap.size = w2.heap.size + 1 := by rw [← hw3]; simp
  have hb13 : Below w1.heap.size w1 w3 := hb2.trans (hb3.mono hb2.size)
  have hbw3 : Below w.heap.size w w3 := hb1.trans (hb13.mono hb1.size)
  have hown3 : w3.ownsRow w.heap.size 48 2 (.slice (some ⟨w.heap.size + 1, 0, none⟩) 0 N) 0 [] := by rw [← hw3]; exact World.ownsRow.alloc hown2 _
  have d1 : w3.cell? ⟨w.heap.size, 0, none⟩ = some (.pointer (some ⟨q, 0, none⟩)) := (hb13.cell (p := ⟨w.heap.size, 0, none⟩) (by show w.heap.size < _; omega)).trans c1
  have dq : w3.cell? ⟨q, 1, none⟩ = some (.pointer (some ⟨tg, 0, none⟩)) := (HQ.out.of hbw3 (by omega)).c 1 (by omega)
  have hD3 := HD.out.below hbw3
  have CA := all7_new (hD3.hd.c 2 (by omega)) hD3.es (by rw [hes]; exact hlen)
  rw [hes] at CA
  have HW3 := Lib.hid hw3
  have d3 : w3.cell? ⟨w2.heap.size, 0, none⟩ = some (.slice (some ⟨w.heap.size + 1, 0, none⟩) 0 N) := hX3.c 0 (by omega)
  have z3 : w3.frozen? ⟨w2.heap.size, 0, none⟩ = false := hX3.z 0
  have HO3 := Lib.hid hown3
  clear hw3 hD3 hb13 hX3 hX1 hb2 hb3 hown2 hgrow2 hown3
  generalize hGG : w.heap.size + 1 = G at *
  generalize hbb : w2.heap.size = bp at *
  gi_wp2_with fail
  rw [HW3.out]
  refine ⟨trivial, rfl, (callsIn_wide.2 CA).mono ?_⟩
  rintro e w4 ⟨b, v0, rfl, hbge, hbl, hbc, hE4, hvb, hB4⟩
  clear CA
  have hs4 := hB4.size
  have hI0 : PoI w q F.all es G bp b N v0 w4.heap.size 0 w4 := ⟨hbw3.trans (hB4.mono (by omega)), (hB4.cell (p := ⟨w.heap.size, 0, none⟩) (by show w.heap.size < _; omega)).trans d1, (hB4.cell (p := ⟨bp, 0, none⟩) (by show bp < _; omega)).trans d3, (World.frozen?_of_block (a := ⟨bp, 0, none⟩) (hB4.block bp (by omega))).trans z3, own_keep HO3.out hB4, hE4.es, hbc, Nat.le_refl _⟩
  have hlv := hE4.es.lt
  have hvg := hE4.ge
  have HSQ := Lib.hid (all1_fr (es := es) (v := v0) b w4 hlen px hpx)
  have HI0 := Lib.hid hI0
  clear hI0 hE4 hB4 hpx c1 cq1 cqa dqa d1a dq d1 d3 z3 HO3 hbw3
  rw [hcn] at HSQ
  clear hcn
  gi_wp2_with fail
  refine wpIn_range_fr (fun l => { target := .fn (.func 32) #[.pointer (some ⟨b, 0, none⟩)], args := #[.func (.yield l) #[] #[]] }) (fun l W => by simp [resolve, Deferred.ofValue, go_sem, Act.eval]) (fun l W => by simp [invoke, go_sem, Tryz.call32])
    HSQ.out (fun _ => rfl) (fun k W => PoI w q F.all es G bp b N v0 w4.heap.size k W) ?hI ?hIp (fun k W h => ⟨h.es, h.ib⟩) HI0.out
    (fun k a' W => ∃ bx, w4.heap.size + 2 ≤ bx ∧ PoI w q F.all es G bp b N v0 w4.heap.size k W ∧ Blk W bx 5 (fun j => #[Value.bool (nth es (px k)).live, .int .i64 (nth es (px k)).hash, .int .i64 (nth es (px k)).key, .int .i64 (nth es (px k)).value, .int .i64 (nth es (px k)).birth].getD j .nilFunc) ∧ a' = { tmps := #[.pointer (some ⟨q, 0, none⟩), .pointer (some ⟨w.heap.size, 0, none⟩), .slice none 0 0, .pointer (some ⟨bp, 0, none⟩), undef, .pointer (some ⟨bx, 0, none⟩), .pointer (some ⟨q, 0, none⟩), .pointer (some ⟨q, 0, none⟩), .pointer (some ⟨q, 1, none⟩), .pointer (some ⟨tg, 0, none⟩), .int .i64 (N : Int), .slice (some ⟨G, 0, none⟩) 0 N, .pointer (some ⟨q, 0, none⟩), .pointer (some ⟨q, 0, none⟩), .pointer (some ⟨q, 1, none⟩), .pointer (some ⟨tg, 0, none⟩), .func (.func 32) #[] #[.pointer (some ⟨b, 0, none⟩)], .int .i64 (px k : Int), eV (nth es (px k)), undef, undef, undef, undef, undef, undef, undef, undef, undef, undef, undef, undef, undef, undef, undef, undef, undef, undef], defers := [] }) ?hA ?assign ?body ?done
  case hI =>
    rintro k A A' x hb
    exact x.same (by omega) (by omega) (by omega) (by omega) hlv (x.bl.trans (hb.mono x.bl.size)) hb.size (fun j hj _ => hb.block j hj)
  case hIp =>
    rintro k A o x
    have hsA := x.sz
    exact x.same (by omega) (by omega) (by omega) (by omega) hlv (x.bl.trans (below_put (by omega))) (by simp) (fun j _ hj => World.putObj_heap_other hj)
  case hA =>
    rintro k a' W o ⟨bx, hbx, x, hX, ha⟩
    exact ⟨bx, hbx, x.same (by omega) (by omega) (by omega) (by omega) hlv (x.bl.trans (below_put (by omega))) (by simp) (fun j _ hj => World.putObj_heap_other hj), hX.same (World.putObj_heap_other (by omega)), ha⟩
  case assign =>
    intro l k W K hsz hk hI hK
    unfold eV at hK ⊢
    have HI := Lib.hid hI
    obtain ⟨W1, hW1⟩ : ∃ y, W.alloc (.cells #[Value.bool (nth es (px k)).live, .int .i64 (nth es (px k)).hash, .int .i64 (nth es (px k)).key, .int .i64 (nth es (px k)).value, .int .i64 (nth es (px k)).birth] 78) = y := ⟨_, rfl⟩
    have hB1 : Below W.heap.size W W1 := by rw [← hW1]; exact (Below.refl _ W).alloc (Nat.le_refl _) _
    have hX1 : Blk W1 W.heap.size 5 (fun j => #[Value.bool (nth es (px k)).live, .int .i64 (nth es (px k)).hash, .int .i64 (nth es (px k)).key, .int .i64 (nth es (px k)).value, .int .i64 (nth es (px k)).birth].getD j .nilFunc) := by rw [← hW1]; exact Blk.new W _ _
    have hKK := hK _ W1 ⟨W.heap.size, hsz, HI.out.same (by omega) (by omega) (by omega) (by omega) hlv (HI.out.bl.trans (hB1.mono HI.out.bl.size)) hB1.size (fun j hj _ => hB1.block j hj), hX1, rfl⟩ hB1
    have HKK := Lib.hid hKK
    have HW1' := Lib.hid hW1
    clear hI hK hKK hB1 hX1 hW1
    gi_wp2_with fail
    rw [HW1'.out]
    exact HKK.out
  case body =>
    rintro l k a' W hk hszW ⟨bx, hbx, hI, hX, rfl⟩
    rw [(HPL.out k hk).2] at hX ⊢
    obtain ⟨kk, nmk, hall, hkey, -⟩ := HN.out.nm _ (nth_mem (show k < (liveL es).length by omega))
    have hnk : nmOf F.all (nth (liveL es) k).key = nmk := by rw [hkey]; exact nmOf_at hall
    have hFW := HF.out.below hI.bl
    obtain ⟨gn, hgn⟩ : ∃ gn, an = some ⟨gn, 0, none⟩ := by
      have hpos : 0 < F.all.length := by have := (List.getElem?_eq_some_iff.1 hall).1; omega
      have h1 := hFW.nh.ns
      rw [hnv] at h1
      rcases h1.2 with ⟨h2, h3⟩ | ⟨g', cap', cur', h2, _⟩
      · injection h2 with _ h4 _
        omega
      · injection h2 with h2 _ _
        exact ⟨g', h2⟩
    subst hgn
    have hkl : kk < F.all.length := (List.getElem?_eq_some_iff.1 hall).1
    have cn : W.cell? ⟨gn, kk, none⟩ = some (.string nmk) := by
      have h1 := hFW.nh.ns
      rw [hnv] at h1
      have h2 := World.ownsRow.cellAt h1 kk (by omega)
      rw [h2, List.getElem?_map, hall]
      rfl
    have c5 : W.cell? ⟨f, 5, none⟩ = some (.slice (some ⟨gn, 0, none⟩) F.all.length capn) := by have := hFW.nh.hd.c 5 (by omega); rw [hnv] at this; exact this
    have c2 : W.cell? ⟨bx, 2, none⟩ = some (.int .i64 (kk : Int)) := by have := hX.c 2 (by omega); rw [← hkey]; exact this
    have c3 : W.cell? ⟨bx, 3, none⟩ = some (.int .i64 (nth (liveL es) k).value) := hX.c 3 (by omega)
    have cq : W.cell? ⟨q, 0, none⟩ = some (.pointer (some ⟨f, 0, none⟩)) := (HQ.out.of hI.bl (by omega)).c 0 (by omega)
    have cb := hI.b3
    have zb := hI.z3
    have b1 := hI.b1
    have hown := hI.ow
    have lf : f < w.heap.size := HF.out.lt f (.inl (.inl rfl))
    have lq : q < w.heap.size := HQ.out.lt (by omega)
    have lgn : gn < w.heap.size := HF.out.lt gn (.inl (.inr (.inr (by rw [hnv]; rfl))))
    have lbx := hX.lt (by omega)
    have HRE : Hid (pcl (prsO F.all ((liveL es).take (k + 1))) = pcl (prsO F.all ((liveL es).take k)) ++ [.string nmk, .int .i64 (nth (liveL es) k).value]) := by
      show _ = _
      rw [take_succ_nth (show k < (liveL es).length by omega)]
      unfold prsO
      rw [List.map_append, pcl_app, ← hnk]
      rfl
    obtain ⟨R, hR⟩ : ∃ R, pcl (prsO F.all ((liveL es).take k)) = R := ⟨_, rfl⟩
    rw [hR] at hown HRE
    have hnA : (kk : Int) < (F.all.length : Int) := by omega
    have HI := Lib.hid hI
    clear hFW hI hX hkey hall hnk hR
    unfold eV
    generalize (nth (liveL es) k).live = e1 at *
    generalize (nth (liveL es) k).hash = e2 at *
    generalize (nth (liveL es) k).key = e3 at *
    generalize (nth (liveL es) k).birth = e4 at *
    generalize (nth (liveL es) k).value = vi at *
    have hsW := HI.out.bl.size
    have lA : (W.drew.alloc (.cells #[.string nmk, .int .i64 vi] 48)).heap.size = W.heap.size + 1 := World.size_alloc _ _
    have al : ∀ (j o : Nat) {u : Value}, j < W.heap.size → W.cell? ⟨j, o, none⟩ = some u → (W.drew.alloc (.cells #[.string nmk, .int .i64 vi] 48)).cell? ⟨j, o, none⟩ = some u := fun j o u hj hc => (cell_alloc_old _ _ _ _ hj).trans hc
    have hX8 : Blk (W.drew.alloc (.cells #[.string nmk, .int .i64 vi] 48)) W.heap.size 2 (fun j => #[Value.string nmk, .int .i64 vi].getD j .nilFunc) := Blk.new W.drew _ _
    obtain ⟨w9, hap, hO9, hg9⟩ := run_append_fits (P := Tryz.prog) (W.drew.alloc (.cells #[.string nmk, .int .i64 vi] 48)) w.heap.size 36 36 48 i0 2 Tryz.underlying36 hi0 hz1 G k N R (World.ownsRow.alloc (show W.drew.ownsRow w.heap.size 48 2 (.slice (some ⟨G, 0, none⟩) k N) k R from hown) _) ⟨W.heap.size, 0, none⟩ 1 1 [.string nmk, .int .i64 vi] rfl (fun j u hj => by
        have : j = 0 ∨ j = 1 := by have := (List.getElem?_eq_some_iff.1 hj).1; simp at this; omega
        rcases this with rfl | rfl
        · cases hj; exact hX8.c 0 (by omega)
        · cases hj; exact hX8.c 1 (by omega)) (pcl_one [(nmk, vi)]) (by omega)
    have hGw : w.heap.size < G := by omega
    have e9 : ∀ j, j < W.heap.size → j ≠ G → w9.heap[j]? = W.heap[j]? := fun j hj hn => (hg9.block j (by omega) (fun e => by injection e with e; omega)).trans (Below.heap_alloc W.drew _ _ hj)
    have e10 : ∀ j, j < W.heap.size → j ≠ G → j ≠ bp → (w9.setCell ⟨bp, 0, none⟩ (.slice (some ⟨G, 0, none⟩) (k + 1) N)).heap[j]? = W.heap[j]? := fun j hj hn hj2 => (Below.heap_setCell _ _ _ _ hj2).trans (e9 j hj hn)
    have hz9 : W.heap.size + 1 ≤ w9.heap.size := by have := hg9.size; omega
    have qq : ∀ {X : World} (j o : Nat) {u : Value}, X.heap[j]? = W.heap[j]? → W.cell? ⟨j, o, none⟩ = some u → X.cell? ⟨j, o, none⟩ = some u := fun {X} j o {u} he hc => (World.cell?_of_block (a := ⟨j, o, none⟩) he).trans hc
    have cb9 : w9.cell? ⟨bp, 0, none⟩ = some (.slice (some ⟨G, 0, none⟩) k N) := qq _ 0 (e9 bp (by omega) (by omega)) cb
    have zb9 : w9.frozen? ⟨bp, 0, none⟩ = false := (World.frozen?_of_block (a := ⟨bp, 0, none⟩) (e9 bp (by omega) (by omega))).trans zb
    have HP : Hid (W.heap.size ≤ (w9.setCell ⟨bp, 0, none⟩ (.slice (some ⟨G, 0, none⟩) (k + 1) N)).heap.size ∧ (w9.setCell ⟨bp, 0, none⟩ (.slice (some ⟨G, 0, none⟩) (k + 1) N)).heap[w4.heap.size]? = W.heap[w4.heap.size]? ∧ (w9.setCell ⟨bp, 0, none⟩ (.slice (some ⟨G, 0, none⟩) (k + 1) N)).heap[w4.heap.size + 1]? = W.heap[w4.heap.size + 1]? ∧ PoI w q F.all es G bp b N v0 w4.heap.size (k + 1) (w9.setCell ⟨bp, 0, none⟩ (.slice (some ⟨G, 0, none⟩) (k + 1) N))) := by
      refine ⟨by simp [World.setCell]; omega, e10 _ (by omega) (by omega) (by omega), e10 _ (by omega) (by omega) (by omega), ?_⟩
      have hbw : Below w.heap.size w w9 := ⟨hg9.os.trans HI.out.bl.os, hg9.tape.trans HI.out.bl.tape, hg9.output.trans HI.out.bl.output, by omega, fun j hj => (e9 j (by omega) (by omega)).trans (HI.out.bl.block j hj)⟩
      refine ⟨hbw.setCell (p := ⟨bp, 0, none⟩) (by show w.heap.size ≤ bp; omega) _, qq _ 0 (e10 _ (by omega) (by omega) (by omega)) b1, World.cell?_setCell_same' _ _ _ (by rw [cb9]; rfl), by rw [World.frozen?_setCell]; exact zb9, ?_, HI.out.es.same fun j hj => e10 j (by have := hlv j hj; omega) ?_ ?_, qq _ 0 (e10 _ (by omega) (by omega) (by omega)) HI.out.ib, by simp [World.setCell]; omega⟩
      · rw [HRE.out]
        exact own_same2 hO9 fun j hj => Below.heap_setCell _ _ _ _ (by show j ≠ bp; have hjG := Option.some.inj (show some G = some j from hj); omega)
      · have := hvg j hj; omega
      · have := hvg j hj; omega
    have t1 : W.drew.cell? ⟨bp, 0, none⟩ = some (.slice (some ⟨G, 0, none⟩) k N) := cb
    have t2 : (W.alloc (.cells #[.string nmk, .int .i64 vi] 48)).cell? ⟨bp, 0, none⟩ = some (.slice (some ⟨G, 0, none⟩) k N) := al _ 0 (by omega) cb
    obtain ⟨nA, hnAe⟩ : ∃ nA, F.all.length = nA := ⟨_, rfl⟩
    rw [hnAe] at hnA c5
    have s0 : (W.drew.cell? ⟨w.heap.size, 0, none⟩ = some (.pointer (some ⟨q, 0, none⟩)) ∧ W.drew.cell? ⟨q, 0, none⟩ = some (.pointer (some ⟨f, 0, none⟩)) ∧ W.drew.cell? ⟨f, 5, none⟩ = some (.slice (some ⟨gn, 0, none⟩) nA capn)) ∧ W.drew.cell? ⟨bx, 2, none⟩ = some (.int .i64 (kk : Int)) ∧ W.drew.cell? ⟨bx, 3, none⟩ = some (.int .i64 vi) ∧ W.drew.cell? ⟨gn, kk, none⟩ = some (.string nmk) := ⟨⟨b1, cq, c5⟩, c2, c3, cn⟩
    have s8 : ((W.drew.alloc (.cells #[.string nmk, .int .i64 vi] 48)).cell? ⟨w.heap.size, 0, none⟩ = some (.pointer (some ⟨q, 0, none⟩)) ∧ (W.drew.alloc (.cells #[.string nmk, .int .i64 vi] 48)).cell? ⟨q, 0, none⟩ = some (.pointer (some ⟨f, 0, none⟩)) ∧ (W.drew.alloc (.cells #[.string nmk, .int .i64 vi] 48)).cell? ⟨f, 5, none⟩ = some (.slice (some ⟨gn, 0, none⟩) nA capn)) ∧ (W.drew.alloc (.cells #[.string nmk, .int .i64 vi] 48)).cell? ⟨bx, 2, none⟩ = some (.int .i64 (kk : Int)) ∧ (W.drew.alloc (.cells #[.string nmk, .int .i64 vi] 48)).cell? ⟨bx, 3, none⟩ = some (.int .i64 vi) ∧ (W.drew.alloc (.cells #[.string nmk, .int .i64 vi] 48)).cell? ⟨gn, kk, none⟩ = some (.string nmk) := ⟨⟨al _ 0 (by omega) b1, al _ 0 (by omega) cq, al _ 5 (by omega) c5⟩, al _ 2 lbx c2, al _ 3 lbx c3, al _ kk (by omega) cn⟩
    have s9 : (w9.cell? ⟨w.heap.size, 0, none⟩ = some (.pointer (some ⟨q, 0, none⟩)) ∧ w9.cell? ⟨q, 0, none⟩ = some (.pointer (some ⟨f, 0, none⟩)) ∧ w9.cell? ⟨f, 5, none⟩ = some (.slice (some ⟨gn, 0, none⟩) nA capn)) ∧ w9.cell? ⟨bx, 2, none⟩ = some (.int .i64 (kk : Int)) ∧ w9.cell? ⟨bx, 3, none⟩ = some (.int .i64 vi) ∧ w9.cell? ⟨gn, kk, none⟩ = some (.string nmk) := ⟨⟨qq _ 0 (e9 _ (by omega) (by omega)) b1, qq _ 0 (e9 _ (by omega) (by omega)) cq, qq _ 5 (e9 _ (by omega) (by omega)) c5⟩, qq _ 2 (e9 _ lbx (by omega)) c2, qq _ 3 (e9 _ lbx (by omega)) c3, qq _ kk (e9 _ (by omega) (by omega)) cn⟩
    have s10 : ((w9.setCell ⟨bp, 0, none⟩ (.slice (some ⟨G, 0, none⟩) (k + 1) N)).cell? ⟨w.heap.size, 0, none⟩ = some (.pointer (some ⟨q, 0, none⟩)) ∧ (w9.setCell ⟨bp, 0, none⟩ (.slice (some ⟨G, 0, none⟩) (k + 1) N)).cell? ⟨q, 0, none⟩ = some (.pointer (some ⟨f, 0, none⟩)) ∧ (w9.setCell ⟨bp, 0, none⟩ (.slice (some ⟨G, 0, none⟩) (k + 1) N)).cell? ⟨f, 5, none⟩ = some (.slice (some ⟨gn, 0, none⟩) nA capn)) ∧ (w9.setCell ⟨bp, 0, none⟩ (.slice (some ⟨G, 0, none⟩) (k + 1) N)).cell? ⟨bx, 2, none⟩ = some (.int .i64 (kk : Int)) ∧ (w9.setCell ⟨bp, 0, none⟩ (.slice (some ⟨G, 0, none⟩) (k + 1) N)).cell? ⟨bx, 3, none⟩ = some (.int .i64 vi) ∧ (w9.setCell ⟨bp, 0, none⟩ (.slice (some ⟨G, 0, none⟩) (k + 1) N)).cell? ⟨gn, kk, none⟩ = some (.string nmk) := ⟨⟨qq _ 0 (e10 _ (by omega) (by omega) (by omega)) b1, qq _ 0 (e10 _ (by omega) (by omega) (by omega)) cq, qq _ 5 (e10 _ (by omega) (by omega) (by omega)) c5⟩, qq _ 2 (e10 _ lbx (by omega) (by omega)) c2, qq _ 3 (e10 _ lbx (by omega) (by omega)) c3, qq _ kk (e10 _ (by omega) (by omega) (by omega)) cn⟩
    clear e9 e10 qq hX8 hO9 hg9 al b1 cq c5 c2 c3 cn cb zb hown HI
    refine wpIn_block ?_
    refine wpIn_mono (Q := fun e _ W' => e = .normal ∧ (W.heap.size ≤ W'.heap.size ∧ W'.heap[w4.heap.size]? = W.heap[w4.heap.size]? ∧ W'.heap[w4.heap.size + 1]? = W.heap[w4.heap.size + 1]? ∧ PoI w q F.all es G bp b N v0 w4.heap.size (k + 1) W')) ?_ ?_
    case refine_2 =>
      rintro e a3 W3 ⟨rfl, h3⟩
      exact h3
    refine region_round (S := fun V => (V.cell? ⟨w.heap.size, 0, none⟩ = some (.pointer (some ⟨q, 0, none⟩)) ∧ V.cell? ⟨q, 0, none⟩ = some (.pointer (some ⟨f, 0, none⟩)) ∧ V.cell? ⟨f, 5, none⟩ = some (.slice (some ⟨gn, 0, none⟩) nA capn)) ∧ V.cell? ⟨bx, 2, none⟩ = some (.int .i64 (kk : Int)) ∧ V.cell? ⟨bx, 3, none⟩ = some (.int .i64 vi) ∧ V.cell? ⟨gn, kk, none⟩ = some (.string nmk)) (by kernel_rfl) (fun ⟨_, _, h, _⟩ => by cases h) (by kernel_rfl) s0 (fun hSc => ?_)
    refine take_slot (i := 1) (d := some 20) (v := ?_) rfl rfl (by kernel_rfl) (by kernel_rfl) (by kernel_rfl) (fun _ _ _ h => h) (Or.inl ⟨by rfl, ?hy⟩) hSc ?_
    case hy => (intro w hSw; (try dsimp only at hSw); go_simp; try with_reducible rfl)
    simp only [Act.put, List.setIfInBounds_toArray, List.set_cons_zero, List.set_cons_succ]
    refine take_slot (i := 2) (d := some 21) (v := ?_) rfl rfl (by kernel_rfl) (by kernel_rfl) (by kernel_rfl) (fun _ _ _ h => h) (Or.inl ⟨by rfl, ?hy⟩) hSc ?_
    case hy => (intro w hSw; (try dsimp only at hSw); go_simp; try with_reducible rfl)
    simp only [Act.put, List.setIfInBounds_toArray, List.set_cons_zero, List.set_cons_succ]
    refine take_slot (i := 3) (d := some 22) (v := ?_) rfl rfl (by kernel_rfl) (by kernel_rfl) (by kernel_rfl) (fun _ _ _ h => h) (Or.inl ⟨by rfl, ?hy⟩) hSc ?_
    case hy => (intro w hSw; (try dsimp only at hSw); go_simp; try with_reducible rfl)
    simp only [Act.put, List.setIfInBounds_toArray, List.set_cons_zero, List.set_cons_succ]
    refine take_slot (i := 4) (d := some 23) (v := ?_) rfl rfl (by kernel_rfl) (by kernel_rfl) (by kernel_rfl) (fun _ _ _ h => h) (Or.inl ⟨by rfl, ?hy⟩) hSc ?_
    case hy => (intro w hSw; (try dsimp only at hSw); go_simp; try with_reducible rfl)
    simp only [Act.put, List.setIfInBounds_toArray, List.set_cons_zero, List.set_cons_succ]
    refine take_slot (i := 5) (d := some 24) (v := ?_) rfl rfl (by kernel_rfl) (by kernel_rfl) (by kernel_rfl) (fun _ _ _ h => h) (Or.inl ⟨by rfl, ?hy⟩) hSc ?_
    case hy => (intro w hSw; (try dsimp only at hSw); go_simp; try with_reducible rfl)
    simp only [Act.put, List.setIfInBounds_toArray, List.set_cons_zero, List.set_cons_succ]
    refine take_slot (i := 6) (d := some 25) (v := ?_) rfl rfl (by kernel_rfl) (by kernel_rfl) (by kernel_rfl) (fun _ _ _ h => h) (Or.inl ⟨by rfl, ?hy⟩) hSc ?_
    case hy => (intro w hSw; (try dsimp only at hSw); go_simp; try with_reducible rfl)
    simp only [Act.put, List.setIfInBounds_toArray, List.set_cons_zero, List.set_cons_succ]
    refine take_slot (i := 7) (d := some 26) (v := ?_) rfl rfl (by kernel_rfl) (by kernel_rfl) (by kernel_rfl) (fun _ _ _ h => h) (Or.inl ⟨by rfl, ?hy⟩) hSc ?_
    case hy => (intro w hSw; (try dsimp only at hSw); go_simp; try with_reducible rfl)
    simp only [Act.put, List.setIfInBounds_toArray, List.set_cons_zero, List.set_cons_succ]
    refine take_slot (i := 8) (d := some 27) (v := ?_) rfl rfl (by kernel_rfl) (by kernel_rfl) (by kernel_rfl) (fun _ _ _ h => h) (Or.inl ⟨by rfl, ?hy⟩) hSc ?_
    case hy => (intro w hSw; (try dsimp only at hSw); go_simp; try with_reducible rfl)
    simp only [Act.put, List.setIfInBounds_toArray, List.set_cons_zero, List.set_cons_succ]
    refine take_slot (i := 9) (d := some 28) (v := ?_) rfl rfl (by kernel_rfl) (by kernel_rfl) (by kernel_rfl) (fun _ _ _ h => h) (Or.inl ⟨by rfl, ?hy⟩) hSc ?_
    case hy => (intro w hSw; (try dsimp only at hSw); go_simp; try with_reducible rfl)
    simp only [Act.put, List.setIfInBounds_toArray, List.set_cons_zero, List.set_cons_succ]
    refine take_slot (i := 10) (d := some 29) (v := ?_) rfl rfl (by kernel_rfl) (by kernel_rfl) (by kernel_rfl) (fun _ _ _ h => h) (Or.inl ⟨by rfl, ?hy⟩) hSc ?_
    case hy => (intro w hSw; (try dsimp only at hSw); go_simp; try with_reducible rfl)
    simp only [Act.put, List.setIfInBounds_toArray, List.set_cons_zero, List.set_cons_succ]
    refine take_slot (i := 11) (d := some 30) (v := ?_) rfl rfl (by kernel_rfl) (by kernel_rfl) (by kernel_rfl) (fun _ _ _ h => h) (Or.inl ⟨by rfl, ?hy⟩) hSc ?_
    case hy => (intro w hSw; (try dsimp only at hSw); go_simp; try with_reducible rfl)
    simp only [Act.put, List.setIfInBounds_toArray, List.set_cons_zero, List.set_cons_succ]
    refine take_slot (i := 12) (d := some 31) (v := ?_) rfl rfl (by kernel_rfl) (by kernel_rfl) (by kernel_rfl) (fun _ _ _ h => h) (Or.inl ⟨by rfl, ?hy⟩) hSc ?_
    case hy => (intro w hSw; (try dsimp only at hSw); go_simp; try with_reducible rfl)
    simp only [Act.put, List.setIfInBounds_toArray, List.set_cons_zero, List.set_cons_succ]
    refine take_slot (i := 13) (d := some 32) (v := ?_) rfl rfl (by kernel_rfl) (by kernel_rfl) (by kernel_rfl) (fun _ _ _ h => h) (Or.inl ⟨by rfl, ?hy⟩) hSc ?_
    case hy => (intro w hSw; (try dsimp only at hSw); go_simp; try with_reducible rfl)
    simp only [Act.put, List.setIfInBounds_toArray, List.set_cons_zero, List.set_cons_succ]
    refine take_slot (i := 14) (d := some 33) (v := ?_) rfl rfl (by kernel_rfl) (by kernel_rfl) (by kernel_rfl) (fun _ _ _ h => h) (Or.inl ⟨by rfl, ?hy⟩) hSc ?_
    case hy => (intro w hSw; (try dsimp only at hSw); go_simp; try with_reducible rfl)
    simp only [Act.put, List.setIfInBounds_toArray, List.set_cons_zero, List.set_cons_succ]
    refine wpAnyH_ready (rs := [0, 15]) (by kernel_rfl) (by simp) ?_
    refine AllReadyH.cons rfl (fun K hK => ?_) (AllReadyH.cons rfl (fun K hK => ?_) AllReadyH.nil)
    · go_simp
      refine hK.out _ _ s0 (fun hSn => ?_)
      clear hK K
      try simp only [Act.put, List.setIfInBounds_toArray, List.set_cons_zero, List.set_cons_succ]
      refine wpAnyH_ready (rs := [15]) (by kernel_rfl) (by simp) ?_
      refine AllReadyH.cons rfl (fun K hK => ?_) AllReadyH.nil
      go_simp
      refine hK.out _ _ s8 (fun hSn => ?_)
      clear hK K
      show wpAnyH _ _ _ _ _ _ _ _ (W.drew.alloc (.cells #[.string nmk, .int .i64 vi] 48))
      try simp only [Act.put, List.setIfInBounds_toArray, List.set_cons_zero, List.set_cons_succ]
      refine wpAnyH_ready (rs := [16]) (by kernel_rfl) (by simp) ?_
      refine AllReadyH.cons rfl (fun K hK => ?_) AllReadyH.nil
      refine step_append_run rfl _ _ 36 rfl _ _ _ w9 (by simp [Act.eval]) (by simp [Act.eval]) hap ?_
      refine hK.out _ _ s9 (fun hSn => ?_)
      clear hK K
      refine wpAnyH_ready (rs := [17]) (by kernel_rfl) (by simp) ?_
      refine AllReadyH.cons rfl (fun K hK => ?_) AllReadyH.nil
      go_simp
      refine hK.out _ _ s10 (fun hSn => ?_)
      clear hK K
      exact wpAnyH_done (by kernel_rfl) ⟨rfl, HP.out⟩ _
    · go_simp
      refine hK.out _ _ s8 (fun hSn => ?_)
      clear hK K
      try simp only [Act.put, List.setIfInBounds_toArray, List.set_cons_zero, List.set_cons_succ]
      refine wpAnyH_ready (rs := [0]) (by kernel_rfl) (by simp) ?_
      refine AllReadyH.cons rfl (fun K hK => ?_) AllReadyH.nil
      go_simp
      refine hK.out _ _ s8 (fun hSn => ?_)
      clear hK K
      show wpAnyH _ _ _ _ _ _ _ _ (W.drew.alloc (.cells #[.string nmk, .int .i64 vi] 48))
      try simp only [Act.put, List.setIfInBounds_toArray, List.set_cons_zero, List.set_cons_succ]
      refine wpAnyH_ready (rs := [16]) (by kernel_rfl) (by simp) ?_
      refine AllReadyH.cons rfl (fun K hK => ?_) AllReadyH.nil
      refine step_append_run rfl _ _ 36 rfl _ _ _ w9 (by simp [Act.eval]) (by simp [Act.eval]) hap ?_
      refine hK.out _ _ s9 (fun hSn => ?_)
      clear hK K
      refine wpAnyH_ready (rs := [17]) (by kernel_rfl) (by simp) ?_
      refine AllReadyH.cons rfl (fun K hK => ?_) AllReadyH.nil
      go_simp
      refine hK.out _ _ s10 (fun hSn => ?_)
      clear hK K
      exact wpAnyH_done (by kernel_rfl) ⟨rfl, HP.out⟩ _
  case done =>
    rintro W hI hK
    have hFin : PsB w.heap.size W (.slice (some ⟨G, 0, none⟩) N N) (prsO F.all (liveL es)) ∧ Below w.heap.size w W := by
      refine ⟨?_, hI.bl⟩
      have h1 := hI.ow
      rw [← hLL, List.take_length] at h1
      unfold PsB
      rw [show (prsO F.all (liveL es)).length = (liveL es).length by unfold prsO; simp, ← hLL]
      exact h1
    have cb := hI.b3
    have HFN := Lib.hid hFin
    clear hI hFin
    gi_wp2_with fail
    gi_wp2
    refine ⟨by simp, .inl ⟨_, _, rfl, run_takeDeferred hK, ?_⟩⟩
    refine ⟨_, results_tmp rfl _ _ _, _, rfl, ?_, HFN.out.2.trans (below_put (by omega))⟩
    exact own_same2 HFN.out.1 (fun j hj => World.putObj_heap_other (by have hjG := Option.some.inj (show some G = some j from hj); omega))
end Go.Proofs.YtpigbnlapcndgaaGreat
