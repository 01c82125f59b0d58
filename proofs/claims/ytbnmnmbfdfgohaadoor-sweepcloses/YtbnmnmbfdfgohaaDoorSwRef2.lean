/-
  The reference's Sweep.
-/
import Derived.Test.YtbnmnmbfdfgohaaDoorSwMarks
namespace Go.Proofs.YtbnmnmbfdfgohaaDoor
open Go.RowKit Go.WideShapes

/-- What Sweep of the reference frees. -/
def dOf (rs : List So) (f : Nat → Bool) (k : Nat) : Bool := tk rs k && !f k
/-- What it keeps while it frees. -/
structure Rg (w1 : World) (B g q : Nat) (ss rs : List So) (X Y Z : Nat → Prop) (f : Nat → Bool) (i : Nat) (v : Value) (W : World) : Prop where
  ld : Ld W B g q ss (frees rs (nbs (dOf rs f) i)) X Y Z
  ow : IntsR w1.heap.size W v (nbs (dOf rs f) i)
  ex : Ex Y w1 W
theorem ldrfree_raw {w : World} {B g q : Nat} {ss rs : List So} {X Y Z : Nat → Prop} (h : Ld w B g q ss rs X Y Z) (i : Int) : Calls Tryd.prog 27 #[.pointer (some ⟨q, 0, none⟩), .int .i64 i] w fun e w' => e = .returned (.bool (isT rs i)) ∧ Ld w' B g q ss (freeS rs i) X Y Z ∧ Ex Y w w' := by
  refine (rfree_sl h.rq i).mono ?_
  rintro e w' ⟨rfl, h1, h2⟩
  refine ⟨rfl, h.refs h1 (fun k hk => Or.inl hk) h2 (fun k hk => ?_), h2⟩
  have e := freeS_kept rs i k hk
  rw [e] at hk ⊢
  exact h.lr k hk
theorem freeS_no {ss : List So} {i : Int} (h : isT ss i = false) : freeS ss i = ss := by unfold freeS; rw [h]; simp
theorem nbs_lt_at (f : Nat → Bool) (n i : Nat) : (nbs f i).length < (nbs f n).length → ∃ k : Nat, (nbs f n)[(nbs f i).length]? = some (k : Int) ∧ i ≤ k ∧ f k = true := by
  intro h
  have h1 := List.getElem?_eq_getElem h
  obtain ⟨k, e, hk, hf⟩ := nbs_mem.1 (List.getElem_mem h)
  refine ⟨k, by rw [h1, e], ?_, hf⟩
  apply Nat.le_of_not_lt
  intro hlt
  have h2 := nbs_at f k n hk hf
  have hk2 : (nbs f k).length < (nbs f i).length := by
    have := nbs_at f k i hlt hf
    exact (List.getElem?_eq_some_iff.1 this).1
  have h3 := nbs_nodup f n (nbs f i).length h (k : Int) (by rw [h1, e])
  apply h3
  refine List.mem_iff_getElem?.2 ⟨(nbs f k).length, ?_⟩
  rw [List.getElem?_take_of_lt hk2]
  exact h2
set_option maxRecDepth 100000 in
set_option maxHeartbeats 2000000 in
theorem rsweep_any {w : World} {B g q : Nat} {ss rs : List So} {X Y Z : Nat → Prop} (h : Ld w B g q ss rs X Y Z) (hn : rs.length ≤ 1000) {ra : Option Addr} {rn rc : Nat} {R : List Int} (hR : Lz w w.heap.size ra rn rc R) (hRl : R.length ≤ 100000) :
    Calls Tryd.prog 17 #[.pointer (some ⟨q, 0, none⟩), .slice ra rn rc] w fun e w' => ∃ v f, e = .returned v ∧ IntsR w.heap.size w' v (nbs f rs.length) ∧ (∀ k, f k = true ↔ tk rs k = true ∧ ¬ Rch (tk rs) (lsOf true rs) R k) ∧ Ld w' B g q ss (frees rs (nbs f rs.length)) X Y Z ∧ Ex Y w w' := by
  have CM := ldrmark_any ⟨X, Y, Z, h⟩ hR hRl
  have HH := Lib.hid h
  obtain ⟨i0, hi, hz0, hz1, hz2⟩ := info_parts Tryd.infoN
  clear h hR
  go_enter Tryd.func17, Tryd.ntmps17
  go_wp2_with fail
  refine CM.mono ?_
  clear CM
  rintro e w1 ⟨v1, f, rfl, hI, hf, -, hB1⟩
  obtain ⟨la, lc, lg, rfl, hlc, hlo⟩ := hI.open
  have hH1 := HH.out.below hB1
  have hIb : ∀ k, (Value.slice la (nbs f rs.length).length lc).ownBlock = some k → w.heap.size ≤ k ∧ k < w1.heap.size := fun k hk => World.ownsRow.lt hI k hk
  have HLO := Lib.hid hlo
  have HF := Lib.hid hf
  have HB1 := Lib.hid hB1
  have HH1 := Lib.hid hH1
  have hYlt := HH.out.rq.top.1
  clear hI hlo hf hB1 hH1
  obtain ⟨n, hn2⟩ : ∃ n, rs.length = n := ⟨_, rfl⟩
  rw [hn2] at hn hlc HLO hIb ⊢
  have HN := Lib.hid hn2
  clear hn2
  have hs1 := HB1.out.size
  have hfl := nbs_le f n
  obtain ⟨nl, hnl⟩ : ∃ nl, (nbs f n).length = nl := ⟨_, rfl⟩
  rw [hnl] at hlc HLO hIb hfl ⊢
  have HNL := Lib.hid hnl
  clear hnl
  go_wp2_with fail
  go_loopw [6, 7, 8] (fun v6 v7 v8 wr => ∃ i : Nat, i ≤ n ∧ v8 = .int .i64 (i : Int) ∧ v7 = .int .i64 ((nbs f i).length : Int) ∧ Rg w1 B g q ss rs X Y Z f i v6 wr) (fun _ _ v8 _ => n - (intOf v8).toNat)
  case atStart => exact ⟨0, Nat.zero_le _, rfl, rfl, HH1.out, IntsR.nil _ _, Ex.refl _ _⟩
  case round =>
    obtain ⟨i, hin, rfl, rfl, hG⟩ := hrel
    obtain ⟨lv, tv, vs, hq, _, _, _⟩ := hG.ld.rq
    have c0 := hq.c0
    obtain ⟨ra2, rc2, hrv⟩ := ownsS_shape hq.row
    rw [frees_len, HN.out] at hrv
    subst hrv
    by_cases hil : i < n
    · have ti : (i : Int) < (n : Int) := by omega
      have ti0 : (0 : Int) ≤ (i : Int) := by omega
      have ei : IntKind.i64.wrap ((i : Int) + 1) = ((i + 1 : Nat) : Int) := by rw [i64_small (by omega) (by omega)]; omega
      have hcell : ∀ k, k < nl → la = some ⟨lg, 0, none⟩ ∧ wr.cell? ⟨lg, k, none⟩ = some (.int .i64 ((nbs f n)[k]?.getD 0)) := fun k hk => by
        obtain ⟨h1, h2, h3, h4⟩ := HLO.out (by omega)
        exact ⟨h1, (World.cell?_of_block (a := ⟨lg, k, none⟩) (hG.ex.block lg h2 (fun hy => by have := (hYlt lg hy).2; omega))).trans (h4.c k hk)⟩
      have hle := nbs_le f i
      have hfs := nbs_succ f i
      have hds := nbs_succ (dOf rs f) i
      have hdl := nbs_le (dOf rs f) i
      have HG := Lib.hid hG
      clear hG hq
      cases hfi : f i with
      | true =>
        have hat := nbs_at f i n hil hfi
        have hlt : (nbs f i).length < nl := by rw [← HNL.out]; exact (List.getElem?_eq_some_iff.1 hat).1
        obtain ⟨rfl, ck⟩ := hcell _ hlt
        rw [hat] at ck
        simp only [Option.getD_some] at ck
        rw [hfi] at hfs
        simp only [if_true] at hfs
        have hdi : dOf rs f i = false := by unfold dOf; rw [hfi]; simp
        rw [hdi] at hds
        simp only [Bool.false_eq_true, if_false, List.append_nil] at hds
        have hfl2 : (nbs f (i + 1)).length = (nbs f i).length + 1 := by rw [hfs]; simp
        have HFL := Lib.hid hfl2
        have HDS := Lib.hid hds
        have ek : IntKind.i64.wrap (((nbs f i).length : Int) + 1) = (((nbs f i).length + 1 : Nat) : Int) := by rw [i64_small (by omega) (by omega)]; omega
        have tk1 : ((nbs f i).length : Int) < (nl : Int) := by omega
        have tk0 : (0 : Int) ≤ ((nbs f i).length : Int) := by omega
        clear hat hfs hds hfl2 hcell hdl hdi
        generalize (nbs f i).length = kk at *
        go_wp2_with fail
        go_roundw
        case rel => exact ⟨i + 1, by omega, rfl, (by rw [HFL.out]; first | rfl | go_num | simp), by rw [HDS.out]; exact HG.out.ld, by rw [HDS.out]; exact HG.out.ow, HG.out.ex⟩
        case measure => simp [intOf]; omega
      | false =>
        rw [hfi] at hfs
        simp only [Bool.false_eq_true, if_false, List.append_nil] at hfs
        have hnm : (i : Int) ∉ nbs (dOf rs f) i := fun hm => by
          obtain ⟨k, e, hk, _⟩ := nbs_mem.1 hm
          omega
        have hnt := frees_other (nbs (dOf rs f) i) rs i hnm
        have hisT : isT (frees rs (nbs (dOf rs f) i)) (i : Int) = tk rs i := by
          rw [isT_nat _ i (by rw [frees_len, HN.out]; exact hil), hnt]
          rfl
        have CF := ldrfree_raw HG.out.ld (i : Int)
        rw [hisT] at CF
        have hdi : dOf rs f i = tk rs i := by unfold dOf; rw [hfi]; simp
        rw [hdi] at hds
        have hcond : ∀ K : Nat, (nbs f i).length = K → (¬ K < nl) ∨ ∃ k : Nat, K < nl ∧ la = some ⟨lg, 0, none⟩ ∧ wr.cell? ⟨lg, K, none⟩ = some (.int .i64 (k : Int)) ∧ ¬ (k : Int) = (i : Int) := fun K hK => by
          subst hK
          by_cases hlt : (nbs f i).length < nl
          · obtain ⟨k, h1, h2, h3⟩ := nbs_lt_at f n i (by rw [HNL.out]; exact hlt)
            obtain ⟨e1, e2⟩ := hcell _ hlt
            rw [h1] at e2
            refine Or.inr ⟨k, hlt, e1, e2, fun e => ?_⟩
            obtain rfl : k = i := by omega
            rw [hfi] at h3
            cases h3
          · exact Or.inl hlt
        have HFS := Lib.hid hfs
        have HDS := Lib.hid hds
        have HIS := Lib.hid hisT
        have key : ∀ (W : World), Calls Tryd.prog 27 #[.pointer (some ⟨q, 0, none⟩), .int .i64 (i : Int)] wr (fun e w' => e = .returned (.bool (tk rs i)) ∧ Ld w' B g q ss (freeS (frees rs (nbs (dOf rs f) i)) (i : Int)) X Y Z ∧ Ex Y wr w') := fun _ => CF
        clear key
        clear hfs hds hnm hnt hdi hisT hcell
        obtain ⟨K, hK⟩ : ∃ K, (nbs f i).length = K := ⟨_, rfl⟩
        have hc := hcond K hK
        rw [hK] at hle ⊢
        have HK := Lib.hid hK
        clear hcond hK
        have HFK : Hid ((nbs f (i + 1)).length = K) := by show _ = _; rw [HFS.out]; exact HK.out
        have HFIN : Hid (∀ (w3 : World) (v9 : Value), Ld w3 B g q ss (freeS (frees rs (nbs (dOf rs f) i)) (i : Int)) X Y Z → Ex Y wr w3 → (tk rs i = false → v9 = u6 → Rg w1 B g q ss rs X Y Z f (i + 1) v9 w3)) := fun w3 v9 h1 h2 ht hv => by
          subst hv
          have e1 : nbs (dOf rs f) (i + 1) = nbs (dOf rs f) i := by rw [HDS.out, ht]; simp
          refine ⟨?_, ?_, HG.out.ex.trans h2⟩
          · rw [e1]
            rw [freeS_no (by rw [HIS.out]; exact ht)] at h1
            exact h1
          · rw [e1]
            exact ownsS_same HG.out.ow (fun k hk => h2.block k (World.ownsRow.lt HG.out.ow k hk).2 (fun hy => by have := (World.ownsRow.lt HG.out.ow k hk).1; have := (hYlt k hy).2; omega))
        rcases hc with hc | ⟨k, hc, rfl, ck, hne⟩
        · have tk1 : ((K : Int) < (nl : Int)) = False := by simp; omega
          cases ht : tk rs i with
          | false =>
            rw [ht] at CF
            have HTI := Lib.hid ht
            clear ht
            go_wp2_with fail
            refine CF.mono ?_
            clear CF
            rintro e w3 ⟨rfl, hL3, hE3⟩
            have HG3 := Lib.hid (HFIN.out w3 u6 hL3 hE3 HTI.out rfl)
            clear hL3 hE3
            go_wp2_with fail
            go_roundw
            case rel => exact ⟨i + 1, by omega, rfl, (by rw [HFK.out]), HG3.out⟩
            case measure => simp [intOf]; omega
          | true =>
            rw [ht] at CF HDS
            have hown0 := HG.out.ow
            go_wp2_with fail
            refine CF.mono ?_
            clear CF
            rintro e w3 ⟨rfl, hL3, hE3⟩
            have hown : w3.ownsRow w1.heap.size 3 1 u6 (nbs (dOf rs f) i).length ((nbs (dOf rs f) i).map fun x : Int => Value.int .i64 x) := ownsS_same hown0 (fun k hk => hE3.block k (World.ownsRow.lt hown0 k hk).2 (fun hy => by have := (World.ownsRow.lt hown0 k hk).1; have := (hYlt k hy).2; omega))
            have hE13 : Ex Y w1 w3 := HG.out.ex.trans hE3
            have hs3 := hE13.size
            have HL3 := Lib.hid hL3
            have HE13 := Lib.hid hE13
            have HD2 : Hid (nbs (dOf rs f) (i + 1) = nbs (dOf rs f) i ++ [(i : Int)]) := by show _ = _; rw [HDS.out]; simp
            clear hL3 hE13 hE3 hown0
            generalize hQ : nbs (dOf rs f) i = Q at *
            go_wp2_with (at_builtin; refine wpListS_append_own rfl _ _ 23 rfl w1.heap.size 3 i0 (.int .i64 0) 1 8 Tryd.underlying23 hi hz0 hz1 hz2 rfl (by decide) _ _ _ rfl (World.ownsRow.alloc hown _) ⟨w3.heap.size, 0, none⟩ 1 1 [.int .i64 (i : Int)] rfl rfl (newR_one _ _ _) (fun u hu => by simp at hu; subst hu; rfl) (by unfold maxLen; omega) (by omega) (by simp; omega) ?_)
            intro v' w5 hown2 hgrow hat
            have hI5 := intsR_snoc hown2
            have hsz : ∀ o, (w3.alloc o).heap.size = w3.heap.size + 1 := fun o => by simp
            have keep : ∀ q, q < w1.heap.size → w5.heap[q]? = w3.heap[q]? := fun q hq => (hgrow.block q (by rw [hsz]; omega) (fun e => by have := (World.ownsRow.lt hown q e.symm).1; omega)).trans (Below.heap_alloc _ _ _ (by omega))
            have hE5 : Ex (fun k => w1.heap.size ≤ k) w3 w5 := ⟨hgrow.os, hgrow.tape, hgrow.output, by have := hgrow.size; rw [hsz] at this; omega, fun q hq hx => keep q (by omega)⟩
            have hL5 : Ld w5 B g q ss (freeS (frees rs Q) (i : Int)) X Y Z := by
              have h := HL3.out
              have hx : ∀ k, X k → k < w1.heap.size := fun k hk => HH1.out.sl.top k hk
              have hz : ∀ k, Z k → k < w1.heap.size := fun k hk => (HH1.out.z k hk).1
              refine ⟨h.sl.keep hE5 (fun k hk hx2 => by have := hx k hk; omega), h.rq.keep hE5 (fun k hk => ⟨fun hy => by have := (hYlt k hy).2; omega, by have := HH1.out.rq.top.2; omega⟩), fun k hk => ⟨(h.ls k hk).1.keep (fun q hq => hE5.block q (h.z q hq).1 (fun hx2 => by have := hz q hq; omega)) (fun _ h => h), (h.ls k hk).2⟩, h.lr, fun k hk => ⟨Nat.lt_of_lt_of_le (h.z k hk).1 hE5.size, (h.z k hk).2⟩, h.xy, h.xb⟩
            have HG3 : Hid (Rg w1 B g q ss rs X Y Z f (i + 1) v' w5) := by
              refine ⟨?_, ?_, HE13.out.next hE5 (fun k hk hx => by omega)⟩
              · rw [HD2.out, frees_snoc]
                exact hL5
              · rw [HD2.out]
                exact hI5
            clear hI5 hsz keep hE5 hL5 hown2 hgrow hat hown
            go_wp2_with fail
            go_roundw
            case rel => exact ⟨i + 1, by omega, rfl, (by rw [HFK.out]), HG3.out⟩
            case measure => simp [intOf]; omega
        · have tk1 : (K : Int) < (nl : Int) := by omega
          have tk0 : (0 : Int) ≤ (K : Int) := by omega
          have tne : ((k : Int) == (i : Int)) = false := by simp; omega
          cases ht : tk rs i with
          | false =>
            rw [ht] at CF
            have HTI := Lib.hid ht
            clear ht
            go_wp2_with fail
            refine CF.mono ?_
            clear CF
            rintro e w3 ⟨rfl, hL3, hE3⟩
            have HG3 := Lib.hid (HFIN.out w3 u6 hL3 hE3 HTI.out rfl)
            clear hL3 hE3
            go_wp2_with fail
            go_roundw
            case rel => exact ⟨i + 1, by omega, rfl, (by rw [HFK.out]), HG3.out⟩
            case measure => simp [intOf]; omega
          | true =>
            rw [ht] at CF HDS
            have hown0 := HG.out.ow
            go_wp2_with fail
            refine CF.mono ?_
            clear CF
            rintro e w3 ⟨rfl, hL3, hE3⟩
            have hown : w3.ownsRow w1.heap.size 3 1 u6 (nbs (dOf rs f) i).length ((nbs (dOf rs f) i).map fun x : Int => Value.int .i64 x) := ownsS_same hown0 (fun k hk => hE3.block k (World.ownsRow.lt hown0 k hk).2 (fun hy => by have := (World.ownsRow.lt hown0 k hk).1; have := (hYlt k hy).2; omega))
            have hE13 : Ex Y w1 w3 := HG.out.ex.trans hE3
            have hs3 := hE13.size
            have HL3 := Lib.hid hL3
            have HE13 := Lib.hid hE13
            have HD2 : Hid (nbs (dOf rs f) (i + 1) = nbs (dOf rs f) i ++ [(i : Int)]) := by show _ = _; rw [HDS.out]; simp
            clear hL3 hE13 hE3 hown0
            generalize hQ : nbs (dOf rs f) i = Q at *
            go_wp2_with (at_builtin; refine wpListS_append_own rfl _ _ 23 rfl w1.heap.size 3 i0 (.int .i64 0) 1 8 Tryd.underlying23 hi hz0 hz1 hz2 rfl (by decide) _ _ _ rfl (World.ownsRow.alloc hown _) ⟨w3.heap.size, 0, none⟩ 1 1 [.int .i64 (i : Int)] rfl rfl (newR_one _ _ _) (fun u hu => by simp at hu; subst hu; rfl) (by unfold maxLen; omega) (by omega) (by simp; omega) ?_)
            intro v' w5 hown2 hgrow hat
            have hI5 := intsR_snoc hown2
            have hsz : ∀ o, (w3.alloc o).heap.size = w3.heap.size + 1 := fun o => by simp
            have keep : ∀ q, q < w1.heap.size → w5.heap[q]? = w3.heap[q]? := fun q hq => (hgrow.block q (by rw [hsz]; omega) (fun e => by have := (World.ownsRow.lt hown q e.symm).1; omega)).trans (Below.heap_alloc _ _ _ (by omega))
            have hE5 : Ex (fun k => w1.heap.size ≤ k) w3 w5 := ⟨hgrow.os, hgrow.tape, hgrow.output, by have := hgrow.size; rw [hsz] at this; omega, fun q hq hx => keep q (by omega)⟩
            have hL5 : Ld w5 B g q ss (freeS (frees rs Q) (i : Int)) X Y Z := by
              have h := HL3.out
              have hx : ∀ k, X k → k < w1.heap.size := fun k hk => HH1.out.sl.top k hk
              have hz : ∀ k, Z k → k < w1.heap.size := fun k hk => (HH1.out.z k hk).1
              refine ⟨h.sl.keep hE5 (fun k hk hx2 => by have := hx k hk; omega), h.rq.keep hE5 (fun k hk => ⟨fun hy => by have := (hYlt k hy).2; omega, by have := HH1.out.rq.top.2; omega⟩), fun k hk => ⟨(h.ls k hk).1.keep (fun q hq => hE5.block q (h.z q hq).1 (fun hx2 => by have := hz q hq; omega)) (fun _ h => h), (h.ls k hk).2⟩, h.lr, fun k hk => ⟨Nat.lt_of_lt_of_le (h.z k hk).1 hE5.size, (h.z k hk).2⟩, h.xy, h.xb⟩
            have HG3 : Hid (Rg w1 B g q ss rs X Y Z f (i + 1) v' w5) := by
              refine ⟨?_, ?_, HE13.out.next hE5 (fun k hk hx => by omega)⟩
              · rw [HD2.out, frees_snoc]
                exact hL5
              · rw [HD2.out]
                exact hI5
            clear hI5 hsz keep hE5 hL5 hown2 hgrow hat hown
            go_wp2_with fail
            go_roundw
            case rel => exact ⟨i + 1, by omega, rfl, (by rw [HFK.out]), HG3.out⟩
            case measure => simp [intOf]; omega
    · obtain rfl : i = n := by omega
      have ti : ((i : Int) < (i : Int)) = False := by simp
      have HG := Lib.hid hG
      clear hG hq
      go_wp2
      go_ret
      have hd : ∀ k, dOf rs f k = true ↔ tk rs k = true ∧ ¬ Rch (tk rs) (lsOf true rs) R k := fun k => by
        unfold dOf
        rw [Bool.and_eq_true, Bool.not_eq_true', ← HF.out k]
        cases f k <;> simp
      refine ⟨_, dOf rs f, rfl, ?_, hd, (by rw [HN.out]; exact HG.out.ld), ?_⟩
      · have h1 := HG.out.ow
        rw [HN.out]
        refine ⟨h1.1, ?_⟩
        rcases h1.2 with h0 | ⟨g', cap', cur', e', q1, q2⟩
        · exact .inl h0
        · exact .inr ⟨g', cap', cur', e', Nat.le_trans hs1 q1, q2⟩
      · exact ((ex_of HB1.out).mono (fun _ _ (h : False) => h.elim)).trans HG.out.ex
end Go.Proofs.YtbnmnmbfdfgohaaDoor
