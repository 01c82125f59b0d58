/-
  A family's Names.
-/
import Derived.Test.YtpigbnlapcndgaaGreatShSet0
import Derived.Test.YtpigbnlapcndgaaGreatPrAllF
import Derived.Test.YtpigbnlapcndgaaGreatRgRound
import Derived.Deep.Onto
import Derived.Laws.OwnMore
namespace Go.Proofs.YtpigbnlapcndgaaGreat
open Go.RowKit Go.WideShapes
attribute [local go_sem] Oper.semAt_some

/-- The names of entries. -/
def nmsOf (all : List ByteArray) (es : List En) : List ByteArray := es.map fun e => nmOf all e.key
/-- A row of texts of one's own. -/
def NsB (B : Nat) (w : World) (v : Value) (l : List ByteArray) : Prop := w.ownsRow B 9 1 v l.length (l.map Value.string)
/-- Behind k rounds. -/
structure NaI (w : World) (f : Nat) (all : List ByteArray) (es : List En) (b : Nat) (v0 : Value) (Z k : Nat) (W : World) (vk : Value) : Prop where
  bl : Below w.heap.size w W
  b1 : W.cell? ⟨w.heap.size, 0, none⟩ = some (.pointer (some ⟨f, 0, none⟩))
  b3 : W.cell? ⟨w.heap.size + 1, 0, none⟩ = some vk
  z3 : W.frozen? ⟨w.heap.size + 1, 0, none⟩ = false
  ow : W.ownsRow (Z + 2) 9 1 vk k ((nmsOf all (es.take k)).map Value.string)
  es : Es W v0 es
  ib : W.cell? ⟨b, 0, none⟩ = some v0
  sz : Z ≤ W.heap.size
theorem own_same {w w' : World} {B n : Nat} {t : TypeId} {v : Value} {xs : List Value} (h : w.ownsRow B t 1 v n xs) (e : ∀ k, v.ownBlock = some k → w'.heap[k]? = w.heap[k]?) : w'.ownsRow B t 1 v n xs := by
  refine ⟨h.1, ?_⟩
  rcases h.2 with x | ⟨g, cap, cur, hv, h1, h2, h3⟩
  · exact .inl x
  · exact .inr ⟨g, cap, cur, hv, h1, (e g (by rw [hv]; rfl)).trans h2, h3⟩
/-- .. while only other blocks are altered. -/
theorem NaI.same {w : World} {f : Nat} {all : List ByteArray} {es : List En} {b : Nat} {v0 : Value} {Z k : Nat} {W W' : World} {vk : Value} (x : NaI w f all es b v0 Z k W vk) (hz : w.heap.size + 1 < Z) (hb : b < Z) (hv : ∀ j, v0.ownBlock = some j → j < Z) (hbl : Below w.heap.size w W') (hs : W.heap.size ≤ W'.heap.size) (e : ∀ j, j < W.heap.size → j ≠ Z + 1 → W'.heap[j]? = W.heap[j]?) : NaI w f all es b v0 Z k W' vk := by
  have hsz := x.sz
  have hk : ∀ j, vk.ownBlock = some j → Z + 2 ≤ j ∧ j < W.heap.size := fun j hj => World.ownsRow.lt x.ow j hj
  have c : ∀ (j o : Nat) {u : Value}, j < Z → W.cell? ⟨j, o, none⟩ = some u → W'.cell? ⟨j, o, none⟩ = some u := fun j o u hj h => (World.cell?_of_block (a := ⟨j, o, none⟩) (e j (by omega) (by omega))).trans h
  exact ⟨hbl, c _ 0 (by omega) x.b1, c _ 0 (by omega) x.b3, (World.frozen?_of_block (a := ⟨w.heap.size + 1, 0, none⟩) (e (w.heap.size + 1) (by omega) (by omega))).trans x.z3, own_same x.ow fun j hj => e j (hk j hj).2 (by have := (hk j hj).1; omega), x.es.same fun j hj => e j (by have := hv j hj; omega) (by have := hv j hj; omega), c _ 0 hb x.ib, by omega⟩
set_option maxRecDepth 100000 in
set_option maxHeartbeats 8000000 in
theorem names_any {w : World} {f g gi r h : Nat} {ev : Value} {mb : Nat} {nv : Value} {F : Fa} {mv : Value} {hs : ByteArray → Int} (hF : Fam w f g gi r h ev mb nv F mv) (hN : Nl hs F.all F.kt.es) (hdead : deadN F.kt.es = 0) (hlen : F.kt.es.length ≤ 256) :
    Calls Tryz.prog 19 #[.pointer (some ⟨f, 0, none⟩)] w fun e w' => ∃ v, e = .returned v ∧ NsB w.heap.size w' v (nmsOf F.all F.kt.es) ∧ Below w.heap.size w w' := by
  obtain ⟨i0, hi0, hz0, hz1, hz2⟩ := info_parts Tryz.infoStr
  obtain ⟨px, hpx, hpl⟩ := places F.kt.es
  have hfl := live_all hdead
  have hcn : cntL F.kt.es F.kt.es.length = F.kt.es.length := by rw [cntL_all, hfl]
  obtain ⟨an, capn, hnv⟩ := ownsRow_shape hF.nh.ns
  have HF := Lib.hid hF
  have HN := Lib.hid hN
  have HPL : Hid (∀ k, k < F.kt.es.length → nth F.kt.es (px k) = nth F.kt.es k) := fun k hk => by
    have := (hpl k (by rw [hfl]; exact hk)).2
    rw [hfl] at this
    exact this
  obtain ⟨w1, hw1⟩ : ∃ y, w.alloc (.cells #[.pointer (some ⟨f, 0, none⟩)] 25) = y := ⟨_, rfl⟩
  obtain ⟨w2, hw2⟩ : ∃ y, w1.alloc (.cells #[.slice none 0 0] 51) = y := ⟨_, rfl⟩
  have hb1 : Below w.heap.size w w1 := by rw [← hw1]; exact (Below.refl _ w).alloc (Nat.le_refl _) _
  have hX1 : Blk w1 w.heap.size 1 (fun j => #[Value.pointer (some ⟨f, 0, none⟩)].getD j .nilFunc) := by rw [← hw1]; exact Blk.new w _ _
  have hs1 : w1.heap.size = w.heap.size + 1 := by rw [← hw1]; simp
  have hb2' : Below w1.heap.size w1 w2 := by rw [← hw2]; exact (Below.refl _ w1).alloc (Nat.le_refl _) _
  have hX2 : Blk w2 w1.heap.size 1 (fun j => #[Value.slice none 0 0].getD j .nilFunc) := by rw [← hw2]; exact Blk.new w1 _ _
  have hs2 : w2.heap.size = w.heap.size + 2 := by rw [← hw2]; simp; omega
  have hX12 := hX1.of hb2' (by omega)
  have hb2 : Below w.heap.size w w2 := hb1.trans (hb2'.mono (by omega))
  have hF2 := hF.below hb2
  have CK := keys_yes (hF2.nh.hd.c 1 (by omega))
  have CA := all7_new (hF2.dt.hd.c 2 (by omega)) hF2.dt.es (by omega)
  have c1 : w2.cell? ⟨w.heap.size, 0, none⟩ = some (.pointer (some ⟨f, 0, none⟩)) := hX12.c 0 (by omega)
  have c3 : w2.cell? ⟨w.heap.size + 1, 0, none⟩ = some (.slice none 0 0) := by rw [← hs1]; exact hX2.c 0 (by omega)
  have z3 : w2.frozen? ⟨w.heap.size + 1, 0, none⟩ = false := by rw [← hs1]; exact hX2.z 0
  have HW1 := Lib.hid hw1
  have HW2 := Lib.hid hw2
  have HS1 := Lib.hid hs1
  refine callsIn_wide.1 (callsIn_of_wp_marks (n := 0) Tryz.func19 rfl trivial ?_ rfl)
  simp only [Tryz.ntmps19, List.size_toArray, List.length_cons, List.length_nil, Nat.reduceAdd, Nat.reduceSub, Array.replicate_succ, Array.replicate_zero, List.push_toArray, List.append_toArray, List.nil_append, List.cons_append]
  clear hw1 hw2 hF hF2 hX1 hX2 hX12 hb1 hb2' hN hdead hfl hpl hs1
  gi_wp2_with fail
  rw [HW1.out, HW2.out]
  refine ⟨trivial, rfl, (callsIn_wide.2 CK).mono ?_⟩
  rintro e w2' ⟨rfl, h2'⟩
  rw [h2']
  clear CK h2'
  gi_wp2_with fail
  refine ⟨trivial, rfl, (callsIn_wide.2 CA).mono ?_⟩
  rintro e w3 ⟨b, v0, rfl, hbb, hbl, hbc, hE3, hvb, hB3⟩
  clear CA
  have hs3 := hB3.size
  have hI0 : NaI w f F.all F.kt.es b v0 w3.heap.size 0 w3 (.slice none 0 0) := ⟨hb2.trans (hB3.mono (by omega)), (hB3.cell (p := ⟨w.heap.size, 0, none⟩) (by show w.heap.size < _; omega)).trans c1, (hB3.cell (p := ⟨w.heap.size + 1, 0, none⟩) (by show w.heap.size + 1 < _; omega)).trans c3, (World.frozen?_of_block (a := ⟨w.heap.size + 1, 0, none⟩) (hB3.block (w.heap.size + 1) (by omega))).trans z3, World.ownsRow_nil _ _ _ _, hE3.es, hbc, Nat.le_refl _⟩
  have hlv := hE3.es.lt
  have hvg := hE3.ge
  have HSQ := Lib.hid (all1_fr (es := F.kt.es) (v := v0) b w3 (by omega) px hpx)
  have HI0 := Lib.hid hI0
  have HB3 := Lib.hid hB3
  clear hI0 hE3 hB3 hpx c1 c3 z3 hb2
  rw [hcn] at HSQ
  clear hcn
  gi_wp2_with fail
  refine wpIn_range_fr (fun l => { target := .fn (.func 32) #[.pointer (some ⟨b, 0, none⟩)], args := #[.func (.yield l) #[] #[]] }) (fun l W => by simp [resolve, Deferred.ofValue, go_sem, Act.eval]) (fun l W => by simp [invoke, go_sem, Tryz.call32])
    HSQ.out (fun _ => rfl) (fun k W => ∃ vk, NaI w f F.all F.kt.es b v0 w3.heap.size k W vk) ?hI ?hIp (fun k W ⟨_, h⟩ => ⟨h.es, h.ib⟩) ⟨_, HI0.out⟩
    (fun k a' W => ∃ bx vk, w3.heap.size + 2 ≤ bx ∧ vk.ownBlock ≠ some bx ∧ NaI w f F.all F.kt.es b v0 w3.heap.size k W vk ∧ Blk W bx 5 (fun j => #[Value.bool (nth F.kt.es (px k)).live, .int .i64 (nth F.kt.es (px k)).hash, .int .i64 (nth F.kt.es (px k)).key, .int .i64 (nth F.kt.es (px k)).value, .int .i64 (nth F.kt.es (px k)).birth].getD j .nilFunc) ∧ a' = { tmps := #[.pointer (some ⟨f, 0, none⟩), .pointer (some ⟨w.heap.size, 0, none⟩), .slice none 0 0, .pointer (some ⟨w.heap.size + 1, 0, none⟩), undef, .pointer (some ⟨bx, 0, none⟩), .pointer (some ⟨f, 0, none⟩), .pointer (some ⟨g, 0, none⟩), .func (.func 32) #[] #[.pointer (some ⟨b, 0, none⟩)], .int .i64 (px k : Int), eV (nth F.kt.es (px k)), undef, undef, undef, undef, undef, undef, undef, undef, undef, undef, undef, undef], defers := [] }) ?hA ?assign ?body ?done
  case hI =>
    rintro k A A' ⟨vk, x⟩ hb
    exact ⟨vk, x.same (by omega) (by omega) hlv (x.bl.trans (hb.mono x.bl.size)) hb.size (fun j hj _ => hb.block j hj)⟩
  case hIp =>
    rintro k A o ⟨vk, x⟩
    have hsA := x.sz
    exact ⟨vk, x.same (by omega) (by omega) hlv (x.bl.trans (below_put (by omega))) (by simp) (fun j _ hj => World.putObj_heap_other hj)⟩
  case hA =>
    rintro k a' W o ⟨bx, vk, hbx, hne, x, hX, ha⟩
    exact ⟨bx, vk, hbx, hne, x.same (by omega) (by omega) hlv (x.bl.trans (below_put (by omega))) (by simp) (fun j _ hj => World.putObj_heap_other hj), hX.same (World.putObj_heap_other (by omega)), ha⟩
  case assign =>
    intro l k W K hsz hk hI hK
    unfold eV at hK ⊢
    obtain ⟨vk, hI⟩ := hI
    have HI := Lib.hid hI
    obtain ⟨W1, hW1⟩ : ∃ y, W.alloc (.cells #[.bool (nth F.kt.es (px k)).live, .int .i64 (nth F.kt.es (px k)).hash, .int .i64 (nth F.kt.es (px k)).key, .int .i64 (nth F.kt.es (px k)).value, .int .i64 (nth F.kt.es (px k)).birth] 78) = y := ⟨_, rfl⟩
    have hB1 : Below W.heap.size W W1 := by rw [← hW1]; exact (Below.refl _ W).alloc (Nat.le_refl _) _
    have hX1 : Blk W1 W.heap.size 5 (fun j => #[Value.bool (nth F.kt.es (px k)).live, .int .i64 (nth F.kt.es (px k)).hash, .int .i64 (nth F.kt.es (px k)).key, .int .i64 (nth F.kt.es (px k)).value, .int .i64 (nth F.kt.es (px k)).birth].getD j .nilFunc) := by rw [← hW1]; exact Blk.new W _ _
    have hKK := hK _ W1 ⟨W.heap.size, vk, hsz, (fun e => by have := (World.ownsRow.lt HI.out.ow _ e).2; omega), HI.out.same (by omega) (by omega) hlv (HI.out.bl.trans (hB1.mono HI.out.bl.size)) hB1.size (fun j hj _ => hB1.block j hj), hX1, rfl⟩ hB1
    have HKK := Lib.hid hKK
    have HW1' := Lib.hid hW1
    clear hI hK hKK hB1 hX1 hW1
    gi_wp2_with fail
    rw [HW1'.out]
    exact HKK.out
  case body =>
    rintro l k a' W hk hszW ⟨bx, vk, hbx, hne, hI, hX, rfl⟩
    rw [HPL.out k hk] at hX ⊢
    obtain ⟨kk, nmk, hall, hkey, _⟩ := HN.out.nm _ (nth_mem hk)
    have hnk : nmOf F.all (nth F.kt.es k).key = nmk := by rw [hkey]; exact nmOf_at hall
    have hFW := HF.out.below hI.bl
    obtain ⟨gn, hgn⟩ : ∃ gn, an = some ⟨gn, 0, none⟩ := by
      have hpos : 0 < F.all.length := by have := (List.getElem?_eq_some_iff.1 hall).1; omega
      have h1 := hFW.nh.ns
      rw [hnv] at h1
      rcases h1.2 with ⟨h2, h3⟩ | ⟨g', cap', cur', h2, _⟩
      · injection h2 with _ h4 _
        omega
      · injection h2 with h2 _ _
        exact ⟨g', h2⟩
    subst hgn
    have hkl : kk < F.all.length := (List.getElem?_eq_some_iff.1 hall).1
    have cn : W.cell? ⟨gn, kk, none⟩ = some (.string nmk) := by
      have h1 := hFW.nh.ns
      rw [hnv] at h1
      have h2 := World.ownsRow.cellAt h1 kk (by omega)
      rw [h2, List.getElem?_map, hall]
      rfl
    have c5 : W.cell? ⟨f, 5, none⟩ = some (.slice (some ⟨gn, 0, none⟩) F.all.length capn) := by have := hFW.nh.hd.c 5 (by omega); rw [hnv] at this; exact this
    have c2 : W.cell? ⟨bx, 2, none⟩ = some (.int .i64 (kk : Int)) := by have := hX.c 2 (by omega); rw [← hkey]; exact this
    have cb := hI.b3
    have zb := hI.z3
    have b1 := hI.b1
    have hown := hI.ow
    have lf : f < w.heap.size := HF.out.lt f (.inl (.inl rfl))
    have lgn : gn < w.heap.size := HF.out.lt gn (.inl (.inr (.inr (by rw [hnv]; rfl))))
    have lbx := hX.lt (by omega)
    have hvk : ∀ j, vk.ownBlock = some j → w3.heap.size + 2 ≤ j ∧ j < W.heap.size := fun j hj => World.ownsRow.lt hown j hj
    have HRE : Hid ((nmsOf F.all (F.kt.es.take (k + 1))).map Value.string = ((nmsOf F.all (F.kt.es.take k)).map Value.string) ++ [.string nmk]) := by
      show _ = _
      rw [take_succ_nth hk]
      unfold nmsOf
      rw [List.map_append, List.map_append, ← hnk]
      rfl
    obtain ⟨R, hR⟩ : ∃ R, (nmsOf F.all (F.kt.es.take k)).map Value.string = R := ⟨_, rfl⟩
    rw [hR] at hown HRE
    have HFIN : Hid (∀ v' w2, w2.ownsRow (w3.heap.size + 2) 9 1 v' (k + 1) (R ++ [.string nmk]) → (W.drew.alloc (.cells #[.string nmk] 9)).grownBy w2 vk.ownBlock → (v'.ownBlock = vk.ownBlock ∨ v'.ownBlock = some (W.drew.alloc (.cells #[.string nmk] 9)).heap.size) →
        (w2.cell? ⟨w.heap.size, 0, none⟩ = some (.pointer (some ⟨f, 0, none⟩)) ∧ w2.cell? ⟨f, 5, none⟩ = some (.slice (some ⟨gn, 0, none⟩) F.all.length capn) ∧ w2.cell? ⟨bx, 2, none⟩ = some (.int .i64 (kk : Int)) ∧ w2.cell? ⟨gn, kk, none⟩ = some (.string nmk)) ∧ w2.cell? ⟨w.heap.size + 1, 0, none⟩ = some vk ∧ w2.frozen? ⟨w.heap.size + 1, 0, none⟩ = false ∧
        ((w2.setCell ⟨w.heap.size + 1, 0, none⟩ v').cell? ⟨w.heap.size, 0, none⟩ = some (.pointer (some ⟨f, 0, none⟩)) ∧ (w2.setCell ⟨w.heap.size + 1, 0, none⟩ v').cell? ⟨f, 5, none⟩ = some (.slice (some ⟨gn, 0, none⟩) F.all.length capn) ∧ (w2.setCell ⟨w.heap.size + 1, 0, none⟩ v').cell? ⟨bx, 2, none⟩ = some (.int .i64 (kk : Int)) ∧ (w2.setCell ⟨w.heap.size + 1, 0, none⟩ v').cell? ⟨gn, kk, none⟩ = some (.string nmk)) ∧
        (W.heap.size ≤ (w2.setCell ⟨w.heap.size + 1, 0, none⟩ v').heap.size ∧ (w2.setCell ⟨w.heap.size + 1, 0, none⟩ v').heap[w3.heap.size]? = W.heap[w3.heap.size]? ∧ (w2.setCell ⟨w.heap.size + 1, 0, none⟩ v').heap[w3.heap.size + 1]? = W.heap[w3.heap.size + 1]? ∧ ∃ vk, NaI w f F.all F.kt.es b v0 w3.heap.size (k + 1) (w2.setCell ⟨w.heap.size + 1, 0, none⟩ v') vk)) := by
      intro v' w2 h1 h2 h3
      have e2 : ∀ j, j < W.heap.size → vk.ownBlock ≠ some j → w2.heap[j]? = W.heap[j]? := fun j hj hn => (h2.block j (by simp; show j < W.heap.size + 1; omega) (fun e => hn e.symm)).trans (Below.heap_alloc W.drew _ _ hj)
      have e3 : ∀ j, j < W.heap.size → vk.ownBlock ≠ some j → j ≠ w.heap.size + 1 → (w2.setCell ⟨w.heap.size + 1, 0, none⟩ v').heap[j]? = W.heap[j]? := fun j hj hn hj2 => (Below.heap_setCell _ _ _ _ hj2).trans (e2 j hj hn)
      have q : ∀ {X : World} (j o : Nat) {u : Value}, X.heap[j]? = W.heap[j]? → W.cell? ⟨j, o, none⟩ = some u → X.cell? ⟨j, o, none⟩ = some u := fun {X} j o {u} he hc => (World.cell?_of_block (a := ⟨j, o, none⟩) he).trans hc
      have nv1 : ∀ j, j < w3.heap.size + 2 → vk.ownBlock ≠ some j := fun j hj e => by have := (hvk j e).1; omega
      have hsz2 : W.heap.size + 1 ≤ w2.heap.size := by have := h2.size; simp at this; exact this
      have hsW := hI.bl.size
      have hvn : ∀ j, v'.ownBlock = some j → w3.heap.size + 2 ≤ j := fun j hj => (World.ownsRow.lt h1 j hj).1
      refine ⟨⟨q _ 0 (e2 _ (by omega) (nv1 _ (by omega))) b1, q _ 5 (e2 _ (by omega) (nv1 _ (by omega))) c5, q _ 2 (e2 _ lbx hne) c2, q _ kk (e2 _ (by omega) (nv1 _ (by omega))) cn⟩, q _ 0 (e2 _ (by omega) (nv1 _ (by omega))) cb, (World.frozen?_of_block (a := ⟨w.heap.size + 1, 0, none⟩) (e2 (w.heap.size + 1) (by omega) (nv1 (w.heap.size + 1) (by omega)))).trans zb,
        ⟨q _ 0 (e3 _ (by omega) (nv1 _ (by omega)) (by omega)) b1, q _ 5 (e3 _ (by omega) (nv1 _ (by omega)) (by omega)) c5, q _ 2 (e3 _ lbx hne (by omega)) c2, q _ kk (e3 _ (by omega) (nv1 _ (by omega)) (by omega)) cn⟩, by simp [World.setCell]; omega, e3 _ (by omega) (nv1 _ (by omega)) (by omega), e3 _ (by omega) (nv1 _ (by omega)) (by omega), v', ?_⟩
      have hbw : Below w.heap.size w w2 := ⟨h2.os.trans hI.bl.os, h2.tape.trans hI.bl.tape, h2.output.trans hI.bl.output, by omega, fun j hj => (e2 j (by omega) (nv1 j (by omega))).trans (hI.bl.block j hj)⟩
      refine ⟨hbw.setCell (p := ⟨w.heap.size + 1, 0, none⟩) (by show w.heap.size ≤ w.heap.size + 1; omega) _, q _ 0 (e3 _ (by omega) (nv1 _ (by omega)) (by omega)) b1, World.cell?_setCell_same' _ _ _ (by rw [q _ 0 (e2 _ (by omega) (nv1 _ (by omega))) cb]; rfl), by rw [World.frozen?_setCell]; exact (World.frozen?_of_block (a := ⟨w.heap.size + 1, 0, none⟩) (e2 (w.heap.size + 1) (by omega) (nv1 (w.heap.size + 1) (by omega)))).trans zb, ?_, hI.es.same fun j hj => e3 j (by have := hlv j hj; omega) (nv1 j (by have := hlv j hj; omega)) ?_, q _ 0 (e3 _ (by omega) (nv1 _ (by omega)) (by omega)) hI.ib, by simp [World.setCell]; omega⟩
      · rw [HRE.out]
        exact own_same h1 fun j hj => Below.heap_setCell _ _ _ _ (by show j ≠ w.heap.size + 1; have := hvn j hj; omega)
      · have := hvg j hj
        omega
    unfold eV
    refine wpIn_block ?_
    have hr : ∀ (Q : Exit → Act → World → Prop), (∀ a' W', (W.heap.size ≤ W'.heap.size ∧ W'.heap[w3.heap.size]? = W.heap[w3.heap.size]? ∧ W'.heap[w3.heap.size + 1]? = W.heap[w3.heap.size + 1]? ∧ ∃ vk, NaI w f F.all F.kt.es b v0 w3.heap.size (k + 1) W' vk) → Q .normal a' W') → True := fun _ _ => trivial
    clear hr
    have d1 : W.drew.cell? ⟨w.heap.size, 0, none⟩ = some (.pointer (some ⟨f, 0, none⟩)) := b1
    have d5 : W.drew.cell? ⟨f, 5, none⟩ = some (.slice (some ⟨gn, 0, none⟩) F.all.length capn) := c5
    have d2 : W.drew.cell? ⟨bx, 2, none⟩ = some (.int .i64 (kk : Int)) := c2
    have dn : W.drew.cell? ⟨gn, kk, none⟩ = some (.string nmk) := cn
    have db : W.drew.cell? ⟨w.heap.size + 1, 0, none⟩ = some vk := cb
    have hown2 : W.drew.ownsRow (w3.heap.size + 2) 9 1 vk k R := hown
    have lW : W.drew.heap.size = W.heap.size := rfl
    have hsW := hI.bl.size
    have al : ∀ (j o : Nat) {u : Value}, j < W.heap.size → W.drew.cell? ⟨j, o, none⟩ = some u → (W.drew.alloc (.cells #[.string nmk] 9)).cell? ⟨j, o, none⟩ = some u := fun j o u hj hc => (cell_alloc_old _ _ _ _ hj).trans hc
    have a1 := al _ 0 (by omega) d1
    have a5 := al _ 5 (by omega) d5
    have a2 := al _ 2 lbx d2
    have an' := al _ kk (by omega) dn
    have ab := al _ 0 (by omega) db
    have lA : (W.drew.alloc (.cells #[.string nmk] 9)).heap.size = W.heap.size + 1 := World.size_alloc _ _
    have ab2 : (W.alloc (.cells #[.string nmk] 9)).cell? ⟨w.heap.size + 1, 0, none⟩ = some vk := ab
    have t1 : (kk : Int) < (F.all.length : Int) := by omega
    obtain ⟨ak, capk, hvk'⟩ := ownsRow_shape hown
    subst hvk'
    clear hFW hI hX hkey hall hnk hown hR b1 c5 c2 cn cb al hne
    generalize F.all.length = nA at *
    refine wpIn_mono (Q := fun e _ W' => e = .normal ∧ (W.heap.size ≤ W'.heap.size ∧ W'.heap[w3.heap.size]? = W.heap[w3.heap.size]? ∧ W'.heap[w3.heap.size + 1]? = W.heap[w3.heap.size + 1]? ∧ ∃ vk, NaI w f F.all F.kt.es b v0 w3.heap.size (k + 1) W' vk)) ?_ ?_
    case refine_2 =>
      rintro e a3 W3 ⟨rfl, h3⟩
      exact h3
    refine region_round (S := fun V => V.cell? ⟨w.heap.size, 0, none⟩ = some (.pointer (some ⟨f, 0, none⟩)) ∧ V.cell? ⟨f, 5, none⟩ = some (.slice (some ⟨gn, 0, none⟩) nA capn) ∧ V.cell? ⟨bx, 2, none⟩ = some (.int .i64 (kk : Int)) ∧ V.cell? ⟨gn, kk, none⟩ = some (.string nmk)) (by kernel_rfl) (fun ⟨_, _, h, _⟩ => by cases h) (by kernel_rfl) ⟨d1, d5, d2, dn⟩ (fun hSc => ?_)
    refine take_slot (i := 1) (d := some 12) (v := ?_) rfl rfl (by kernel_rfl) (by kernel_rfl) (by kernel_rfl) (fun _ _ _ h => h) (Or.inl ⟨by rfl, ?hy⟩) hSc ?_
    case hy => (intro w hSw; (try dsimp only at hSw); go_simp; try with_reducible rfl)
    simp only [Act.put, List.setIfInBounds_toArray, List.set_cons_zero, List.set_cons_succ]
    refine take_slot (i := 2) (d := some 13) (v := ?_) rfl rfl (by kernel_rfl) (by kernel_rfl) (by kernel_rfl) (fun _ _ _ h => h) (Or.inl ⟨by rfl, ?hy⟩) hSc ?_
    case hy => (intro w hSw; (try dsimp only at hSw); go_simp; try with_reducible rfl)
    simp only [Act.put, List.setIfInBounds_toArray, List.set_cons_zero, List.set_cons_succ]
    refine take_slot (i := 3) (d := some 14) (v := ?_) rfl rfl (by kernel_rfl) (by kernel_rfl) (by kernel_rfl) (fun _ _ _ h => h) (Or.inl ⟨by rfl, ?hy⟩) hSc ?_
    case hy => (intro w hSw; (try dsimp only at hSw); go_simp; try with_reducible rfl)
    simp only [Act.put, List.setIfInBounds_toArray, List.set_cons_zero, List.set_cons_succ]
    refine take_slot (i := 4) (d := some 15) (v := ?_) rfl rfl (by kernel_rfl) (by kernel_rfl) (by kernel_rfl) (fun _ _ _ h => h) (Or.inl ⟨by rfl, ?hy⟩) hSc ?_
    case hy => (intro w hSw; (try dsimp only at hSw); go_simp; try with_reducible rfl)
    simp only [Act.put, List.setIfInBounds_toArray, List.set_cons_zero, List.set_cons_succ]
    refine take_slot (i := 5) (d := some 16) (v := ?_) rfl rfl (by kernel_rfl) (by kernel_rfl) (by kernel_rfl) (fun _ _ _ h => h) (Or.inl ⟨by rfl, ?hy⟩) hSc ?_
    case hy => (intro w hSw; (try dsimp only at hSw); go_simp; try with_reducible rfl)
    simp only [Act.put, List.setIfInBounds_toArray, List.set_cons_zero, List.set_cons_succ]
    refine take_slot (i := 6) (d := some 17) (v := ?_) rfl rfl (by kernel_rfl) (by kernel_rfl) (by kernel_rfl) (fun _ _ _ h => h) (Or.inl ⟨by rfl, ?hy⟩) hSc ?_
    case hy => (intro w hSw; (try dsimp only at hSw); go_simp; try with_reducible rfl)
    simp only [Act.put, List.setIfInBounds_toArray, List.set_cons_zero, List.set_cons_succ]
    refine take_slot (i := 7) (d := some 18) (v := ?_) rfl rfl (by kernel_rfl) (by kernel_rfl) (by kernel_rfl) (fun _ _ _ h => h) (Or.inl ⟨by rfl, ?hy⟩) hSc ?_
    case hy => (intro w hSw; (try dsimp only at hSw); go_simp; try with_reducible rfl)
    simp only [Act.put, List.setIfInBounds_toArray, List.set_cons_zero, List.set_cons_succ]
    refine take_slot (i := 8) (d := some 19) (v := ?_) rfl rfl (by kernel_rfl) (by kernel_rfl) (by kernel_rfl) (fun _ _ _ h => h) (Or.inl ⟨by rfl, ?hy⟩) hSc ?_
    case hy => (intro w hSw; (try dsimp only at hSw); go_simp; try with_reducible rfl)
    simp only [Act.put, List.setIfInBounds_toArray, List.set_cons_zero, List.set_cons_succ]
    refine wpAnyH_ready (rs := [0, 9]) (by kernel_rfl) (by simp) ?_
    refine AllReadyH.cons rfl (fun K hK => ?_) (AllReadyH.cons rfl (fun K hK => ?_) AllReadyH.nil)
    · go_simp
      refine hK.out _ _ ⟨d1, d5, d2, dn⟩ (fun hSn => ?_)
      clear hK K
      try simp only [Act.put, List.setIfInBounds_toArray, List.set_cons_zero, List.set_cons_succ]
      refine wpAnyH_ready (rs := [9]) (by kernel_rfl) (by simp) ?_
      refine AllReadyH.cons rfl (fun K hK => ?_) AllReadyH.nil
      go_simp
      refine hK.out _ _ ⟨a1, a5, a2, an'⟩ (fun hSn => ?_)
      clear hK K
      show wpAnyH _ _ _ _ _ _ _ _ (W.drew.alloc (.cells #[.string nmk] 9))
      try simp only [Act.put, List.setIfInBounds_toArray, List.set_cons_zero, List.set_cons_succ]
      refine wpAnyH_ready (rs := [10]) (by kernel_rfl) (by simp) ?_
      refine AllReadyH.cons rfl (fun K hK => ?_) AllReadyH.nil
      refine step_append_own rfl _ _ 51 rfl (w3.heap.size + 2) 9 i0 (.string ByteArray.empty) 1 16 Tryz.underlying51 hi0 hz0 hz1 hz2 rfl (by decide) (.slice ak k capk) k R (by simp [Act.eval]) (World.ownsRow.alloc hown2 _) ⟨W.drew.heap.size, 0, none⟩ 1 1 [.string nmk] (by simp [Act.eval]) rfl (newR_one _ _ _) (by simp [Value.oneCell']) (by unfold maxLen; omega) (by omega) (by show w3.heap.size + 2 ≤ (W.drew.alloc (.cells #[.string nmk] 9)).heap.size; omega) ?_
      intro v' w2 hown3 hgrow hob
      obtain ⟨hS2, cb2, zb2, hS3, hP3⟩ := HFIN.out v' w2 hown3 hgrow hob
      obtain ⟨a', cap', hv'⟩ := ownsRow_shape hown3
      subst hv'
      refine hK.out _ _ hS2 (fun hSn => ?_)
      clear hK K hown3 hgrow hob
      refine wpAnyH_ready (rs := [11]) (by kernel_rfl) (by simp) ?_
      refine AllReadyH.cons rfl (fun K hK => ?_) AllReadyH.nil
      go_simp
      refine hK.out _ _ hS3 (fun hSn => ?_)
      clear hK K
      exact wpAnyH_done (by kernel_rfl) ⟨rfl, hP3⟩ _
    · go_simp
      refine hK.out _ _ ⟨a1, a5, a2, an'⟩ (fun hSn => ?_)
      clear hK K
      try simp only [Act.put, List.setIfInBounds_toArray, List.set_cons_zero, List.set_cons_succ]
      refine wpAnyH_ready (rs := [0]) (by kernel_rfl) (by simp) ?_
      refine AllReadyH.cons rfl (fun K hK => ?_) AllReadyH.nil
      go_simp
      refine hK.out _ _ ⟨a1, a5, a2, an'⟩ (fun hSn => ?_)
      clear hK K
      show wpAnyH _ _ _ _ _ _ _ _ (W.drew.alloc (.cells #[.string nmk] 9))
      try simp only [Act.put, List.setIfInBounds_toArray, List.set_cons_zero, List.set_cons_succ]
      refine wpAnyH_ready (rs := [10]) (by kernel_rfl) (by simp) ?_
      refine AllReadyH.cons rfl (fun K hK => ?_) AllReadyH.nil
      refine step_append_own rfl _ _ 51 rfl (w3.heap.size + 2) 9 i0 (.string ByteArray.empty) 1 16 Tryz.underlying51 hi0 hz0 hz1 hz2 rfl (by decide) (.slice ak k capk) k R (by simp [Act.eval]) (World.ownsRow.alloc hown2 _) ⟨W.drew.heap.size, 0, none⟩ 1 1 [.string nmk] (by simp [Act.eval]) rfl (newR_one _ _ _) (by simp [Value.oneCell']) (by unfold maxLen; omega) (by omega) (by show w3.heap.size + 2 ≤ (W.drew.alloc (.cells #[.string nmk] 9)).heap.size; omega) ?_
      intro v' w2 hown3 hgrow hob
      obtain ⟨hS2, cb2, zb2, hS3, hP3⟩ := HFIN.out v' w2 hown3 hgrow hob
      obtain ⟨a', cap', hv'⟩ := ownsRow_shape hown3
      subst hv'
      refine hK.out _ _ hS2 (fun hSn => ?_)
      clear hK K hown3 hgrow hob
      refine wpAnyH_ready (rs := [11]) (by kernel_rfl) (by simp) ?_
      refine AllReadyH.cons rfl (fun K hK => ?_) AllReadyH.nil
      go_simp
      refine hK.out _ _ hS3 (fun hSn => ?_)
      clear hK K
      exact wpAnyH_done (by kernel_rfl) ⟨rfl, hP3⟩ _
  case done =>
    rintro W ⟨vk, hI⟩ hK
    have hFin : NsB w.heap.size W vk (nmsOf F.all F.kt.es) ∧ Below w.heap.size w W := by
      refine ⟨?_, hI.bl⟩
      have h1 := hI.ow
      rw [List.take_length] at h1
      have h2 : W.ownsRow w.heap.size 9 1 vk F.kt.es.length ((nmsOf F.all F.kt.es).map Value.string) := h1.mono (by omega)
      unfold NsB
      rw [show (nmsOf F.all F.kt.es).length = F.kt.es.length by unfold nmsOf; simp]
      exact h2
    have cb := hI.b3
    have HFN := Lib.hid hFin
    have HVB : Hid (∀ j, vk.ownBlock = some j → w3.heap.size + 2 ≤ j) := fun j hj => (World.ownsRow.lt hI.ow j hj).1
    clear hI hFin
    gi_wp2_with fail
    gi_wp2
    refine ⟨by simp, .inl ⟨_, _, rfl, run_takeDeferred hK, ?_⟩⟩
    refine ⟨_, results_tmp rfl _ _ _, _, rfl, ?_, HFN.out.2.trans (below_put (by omega))⟩
    exact own_same HFN.out.1 (fun j hj => World.putObj_heap_other (by have := HVB.out j hj; omega))
end Go.Proofs.YtpigbnlapcndgaaGreat
