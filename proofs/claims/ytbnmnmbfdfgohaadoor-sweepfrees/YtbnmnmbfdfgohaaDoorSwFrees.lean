/-
  The law SweepFrees.
-/
import Derived.Test.YtbnmnmbfdfgohaaDoorSwRef2
namespace Go.Proofs.YtbnmnmbfdfgohaaDoor
open Go.RowKit Go.WideShapes

theorem nbs_len_mono (f : Nat → Bool) {i j : Nat} (h : i ≤ j) : (nbs f i).length ≤ (nbs f j).length := by
  obtain ⟨r, hr⟩ := nbs_pre f i (j - i)
  rw [show i + (j - i) = j by omega] at hr
  rw [hr, List.length_append]
  omega
theorem nbs_len_eq {h f : Nat → Bool} (hs : ∀ k, f k = true → h k = true) {j v : Nat} (hjv : j ≤ v) (he : (nbs h v).length = (nbs h j).length) : (nbs f v).length = (nbs f j).length := by
  obtain ⟨d, rfl⟩ : ∃ d, v = j + d := ⟨v - j, by omega⟩
  clear hjv
  induction d with
  | zero => rfl
  | succ d ih =>
    have h1 := nbs_len_mono h (show j ≤ j + d by omega)
    have h2 := nbs_succ h (j + d)
    have h3 := nbs_succ f (j + d)
    rw [← Nat.add_assoc] at he ⊢
    rw [h2, List.length_append] at he
    have hno : h (j + d) = false := by
      cases e : h (j + d) with
      | false => rfl
      | true => rw [e] at he; simp at he; omega
    have hnf : f (j + d) = false := by
      cases e : f (j + d) with
      | false => rfl
      | true => rw [hs _ e] at hno; cases hno
    rw [hno] at he
    rw [h3, hnf]
    simp at he ⊢
    exact ih he
/-- One number more of many. -/
theorem few_step {h f : Nat → Bool} (hs : ∀ k, f k = true → h k = true) {n j : Nat} (hlt : (nbs h j).length < (nbs h n).length) (hlf : (nbs f j).length < (nbs f n).length) :
    ∃ v u : Nat, (nbs h n)[(nbs h j).length]? = some (v : Int) ∧ (nbs f n)[(nbs f j).length]? = some (u : Int) ∧ v < n ∧ (nbs h (v + 1)).length = (nbs h j).length + 1 ∧ (nbs f (v + 1)).length = (nbs f j).length + (if v = u then 1 else 0) := by
  obtain ⟨v, h1, h2, h3⟩ := nbs_lt_at h n j hlt
  obtain ⟨u, g1, g2, g3⟩ := nbs_lt_at f n j hlf
  have hvn : v < n := by
    obtain ⟨k, e, hk, _⟩ := nbs_mem.1 (List.mem_of_getElem? h1)
    omega
  have hun : u < n := by
    obtain ⟨k, e, hk, _⟩ := nbs_mem.1 (List.mem_of_getElem? g1)
    omega
  have uniq : ∀ (f : Nat → Bool) (a b : Nat) (x : Int), (nbs f n)[a]? = some x → (nbs f n)[b]? = some x → a = b := by
    intro f a b x ha hb
    rcases Nat.lt_trichotomy a b with y | y | y
    · exact absurd (List.mem_iff_getElem?.2 ⟨a, by rw [List.getElem?_take_of_lt y]; exact ha⟩) (nbs_nodup f n b (List.getElem?_eq_some_iff.1 hb).1 x hb)
    · exact y
    · exact absurd (List.mem_iff_getElem?.2 ⟨b, by rw [List.getElem?_take_of_lt y]; exact hb⟩) (nbs_nodup f n a (List.getElem?_eq_some_iff.1 ha).1 x ha)
  have e1 : (nbs h v).length = (nbs h j).length := uniq h _ _ _ (nbs_at h v n hvn h3) h1
  have e2 : (nbs f u).length = (nbs f j).length := uniq f _ _ _ (nbs_at f u n hun g3) g1
  have e3 := nbs_len_eq hs h2 e1
  refine ⟨v, u, h1, g1, hvn, ?_, ?_⟩
  · rw [nbs_succ, h3, List.length_append, e1]
    simp
  · rw [nbs_succ, List.length_append, e3]
    by_cases e : v = u
    · subst e
      rw [g3]
      simp
    · rw [if_neg e]
      cases hf : f v with
      | false => simp
      | true =>
        have h5 : (nbs f v).length = (nbs f u).length := by rw [e2]; exact e3
        have h6 := nbs_at f v n hvn hf
        have h7 := nbs_at f u n hun g3
        rw [h5, h7] at h6
        simp at h6
        omega
theorem rch_mono {T : Nat → Bool} {L : Nat → List Int} {R R' : List Int} (hR : ∀ x ∈ R, x ∈ R') {k : Nat} (h : Rch T L R k) : Rch T L R' k := by
  induction h with
  | root h1 h2 => exact .root h1 (hR _ h2)
  | lead _ h2 h3 ih => exact .lead ih h2 h3
/-- Behind a sweep: what is taken, and what its slots lead to. -/
theorem swept_tk {ss : List So} {d : Nat → Bool} {R : List Int} (hd : ∀ k, d k = true ↔ tk ss k = true ∧ ¬ Rch (tk ss) (lsOf true ss) R k) (k : Nat) : tk (frees ss (nbs d ss.length)) k = true ↔ Rch (tk ss) (lsOf true ss) R k := by
  unfold tk
  rw [frees_nts (fun k hk => ((hd k).1 hk).1) ss.length k]
  constructor
  · intro h
    split at h
    · cases h
    · rename_i hc
      have hk := tk_lt (ss := ss) h
      apply Classical.byContradiction
      intro hn
      exact hc ⟨hk, (hd k).2 ⟨h, hn⟩⟩
  · intro h
    rw [if_neg (fun hc => ((hd k).1 hc.2).2 h)]
    exact h.taken
theorem swept_rch {ss : List So} {d : Nat → Bool} {R : List Int} (hd : ∀ k, d k = true ↔ tk ss k = true ∧ ¬ Rch (tk ss) (lsOf true ss) R k) {k : Nat} (h : Rch (tk ss) (lsOf true ss) R k) : Rch (tk (frees ss (nbs d ss.length))) (lsOf true (frees ss (nbs d ss.length))) R k := by
  have hls : ∀ k, Rch (tk ss) (lsOf true ss) R k → lsOf true (frees ss (nbs d ss.length)) k = lsOf true ss k := fun k hk => by
    show (nts (frees ss (nbs d ss.length)) k).has.l = (nts ss k).has.l
    rw [frees_kept _ ss k ((swept_tk hd k).2 hk)]
  induction h with
  | root h1 h2 => exact .root ((swept_tk hd _).2 (.root h1 h2)) h2
  | lead h1 h2 h3 ih => exact .lead ih ((swept_tk hd _).2 (.lead h1 h2 h3)) (by rw [hls _ h1]; exact h3)
theorem ldsweep_raw {w : World} {B g q : Nat} {ss rs : List So} {X Y Z : Nat → Prop} (h : Ld w B g q ss rs X Y Z) (hn : ss.length ≤ 1000) (ld : Bool) {ra : Option Addr} {rn rc : Nat} {R : List Int} (hR : Lz w w.heap.size ra rn rc R) (hRl : R.length ≤ 100000) (hT : Tab w) :
    Calls Tryd.prog 16 #[.pointer (some ⟨g, 0, none⟩), .slice ra rn rc, ldV ld] w fun e w' => ∃ v f X', e = .returned v ∧ IntsR w.heap.size w' v (nbs f ss.length) ∧ (∀ k, f k = true ↔ tk ss k = true ∧ ¬ Rch (tk ss) (lsOf ld ss) R k) ∧ Ld w' B g q (frees ss (nbs f ss.length)) rs X' Y Z ∧ Below B w w' := by
  refine (sweep_any h.sl (by omega) h.lss ld hR hRl hT).mono ?_
  rintro e w' ⟨v, f, X', rfl, h1, h2, h3, h4, h5⟩
  exact ⟨v, f, X', rfl, h1, h2, h.slots h3 h4 h5 (frees_kept _ ss), h5.below h.xb h.rq.top.2⟩
set_option maxRecDepth 100000 in
set_option maxHeartbeats 4000000 in
theorem sfrees_walk (a0 : Option Addr) (n0 c0 : Nat) (G : Nat → Sh) (a1 : Option Addr) (n1 c1 : Nat) (F : List Int) (a2 : Option Addr) (n2 c2 : Nat) (R : List Int) (more : Int) (w : World) (h0 : LLs w a0 n0 c0 G) (h1 : Lz w w.heap.size a1 n1 c1 F) (h2 : Lz w w.heap.size a2 n2 c2 R) (hnn : a2 = none → c2 = 0) (hmb : -9223372036854775808 ≤ more ∧ more ≤ 9223372036854775807) (hT : Tab w) :
    Calls Tryd.prog 4 #[.slice a0 n0 c0, .slice a1 n1 c1, .slice a2 n2 c2, .int .i64 more] w fun e w' => e = .returned (.bool true) ∧ Below w.heap.size w w' := by
  have CL := large_any h0 a2 n2 c2
  have htl := hT.lt
  have HT := Lib.hid hT
  have H0 := Lib.hid h0
  have H1 := Lib.hid h1
  have H2 := Lib.hid h2
  obtain ⟨i0, hi, hz0, hz1, hz2⟩ := info_parts Tryd.infoN
  clear h0 h1 h2 hT
  go_enter Tryd.func4, Tryd.ntmps4
  go_wp2_with fail
  refine CL.mono ?_
  rintro e w0 ⟨b, rfl, hLa, rfl⟩
  clear CL
  cases b with
  | true =>
    have CA := awake12_any w0 HT.out
    go_wp2_with fail
    refine CA.mono ?_
    rintro e w1 ⟨rfl, hB⟩
    clear CA
    go_wp2
    go_ret
    exact ⟨rfl, hB⟩
  | false =>
    obtain ⟨hn0, hn2, h60⟩ := hLa rfl
    have CD := laid_any H0.out hn0 h60 H1.out
    clear hLa
    go_wp2_with fail
    refine CD.mono ?_
    rintro e w1 ⟨g, q, ss, rfl, hL⟩
    clear CD
    have hB1 := hL.be
    have hlen := hL.len
    have hRl : R.length ≤ 200 := by have := H2.out.1; omega
    have CM := ldmark_any hL.ld (by omega) true ((H2.out.below hB1).mono hB1.size) (by omega) (HT.out.below hB1 htl)
    unfold ldV at CM
    simp only [if_true] at CM
    have HB1 := Lib.hid hB1
    have HLEN := Lib.hid hlen
    clear hL hB1 hlen
    go_wp2_with fail
    refine CM.mono ?_
    clear CM
    rintro e w2 ⟨v2, f2, rfl, hI2, hf2, hLd2, hB12⟩
    have hB2 : Below w0.heap.size w0 w2 := HB1.out.trans (hB12.mono HB1.out.size)
    obtain ⟨v3, w3, hrun, hcp⟩ := copy_run ((H2.out.below hB2).mono hB2.size) hnn (by omega)
    have hR2 : n2 = R.length := H2.out.1
    have hown : w3.ownsRow w2.heap.size 3 1 v3 R.length (R.map fun x : Int => Value.int .i64 x) := hcp.ow
    obtain ⟨va, vc, rfl⟩ := ownsS_shape hown
    obtain ⟨fa, fc, rfl, hrdf⟩ := hI2.rdl
    have hs3 := hcp.be.size
    have HRUN := Lib.hid hrun
    have HLD2 := Lib.hid hLd2
    have HB23 := Lib.hid hcp.be
    have HB2 := Lib.hid hB2
    have HF2 := Lib.hid hf2
    have HRDF := Lib.hid hrdf
    clear hrun hcp hLd2 hB2 hB12 HB1 hf2 hrdf hI2 hR2
    go_upto_region 9 with (at_builtin; refine wpListS_append_run rfl _ _ 23 23 rfl _ _ _ rfl rfl HRUN.out ?_)
    go_wp2_with (at_builtin; refine wpListS_append_own rfl _ _ 23 rfl w2.heap.size 3 i0 (.int .i64 0) 1 8 Tryd.underlying23 hi hz0 hz1 hz2 rfl (by decide) _ _ _ rfl (World.ownsRow.alloc hown _) ⟨w3.heap.size, 0, none⟩ 1 1 [.int .i64 more] rfl rfl (newR_one _ _ _) (fun u hu => by simp at hu; subst hu; rfl) (by unfold maxLen; omega) (by omega) (by simp; omega) ?_)
    intro v' w4 hown2 hgrow hat
    have hI4 := intsR_snoc hown2
    have hB24 : Below w2.heap.size w2 w4 := HB23.out.trans (belowR_grown (Below.refl _ w3) hs3 hown hgrow)
    have hLd4 := HLD2.out.below hB24
    have hB4 : Below w0.heap.size w0 w4 := HB2.out.trans (hB24.mono HB2.out.size)
    obtain ⟨x, hx1, hx2, hx3, hlp⟩ := (⟨hI4, hB24⟩ : Cp w2 w4 v' (R ++ [more])).lp (fun y hy => by
      rcases List.mem_append.1 hy with hy | hy
      · exact H2.out.2.2.1 y hy
      · simp at hy; rw [hy]; exact hmb)
    subst hx1
    have CM := ldmark_any hLd4 (by have := HLEN.out; omega) true (hlp.lz (fun k hk => hk.2)) (by simp; omega) (HT.out.below hB4 htl)
    unfold ldV at CM
    simp only [if_true] at CM
    have HB24 := Lib.hid hB24
    have HB4 := Lib.hid hB4
    clear hown2 hgrow hat hI4 hB24 hLd4 hown HLD2 HB23 HB2 hlp hB4 hx2 hx3
    go_wp2_with fail
    refine CM.mono ?_
    clear CM
    rintro e w5 ⟨v5, f5, rfl, hI5, hf5, hLd5, hB45⟩
    have hsub : ∀ k, f2 k = true → f5 k = true := fun k hk => (hf5 k).2 (rch_mono (fun y hy => List.mem_append_left _ hy) ((HF2.out k).1 hk))
    have hB25 := HB24.out.trans (hB45.mono HB24.out.size)
    have hB5 := HB4.out.trans (hB45.mono HB4.out.size)
    obtain ⟨ma, mc, rfl, hrdm⟩ := hI5.rdl
    have hrdf := HRDF.out.below hB25
    have hlm := nbs_le f5 ss.length
    have hlf := nbs_le f2 ss.length
    obtain ⟨-, fb, fo, hfa, hfc⟩ := hrdf
    obtain ⟨-, mb, mo, hma, hmc⟩ := hrdm
    have HSUB := Lib.hid hsub
    have HFA := Lib.hid hfa
    have HFC := Lib.hid hfc
    have HMA := Lib.hid hma
    have HMC := Lib.hid hmc
    have HLD5 := Lib.hid hLd5
    have HB5 := Lib.hid hB5
    clear hI5 hf5 hLd5 hB45 hsub hB25 hB5 hfa hfc hma hmc HRDF HB24 HB4
    have hssn : ss.length ≤ 200 := by have := HLEN.out; omega
    clear HLEN
    obtain ⟨n, hn⟩ : ∃ n, ss.length = n := ⟨_, rfl⟩
    rw [hn] at hlm hlf HFA HFC HMA HMC hssn ⊢
    have HN := Lib.hid hn
    clear hn
    obtain ⟨nf, hnf⟩ : ∃ nf, (nbs f2 n).length = nf := ⟨_, rfl⟩
    obtain ⟨nm, hnm⟩ : ∃ nm, (nbs f5 n).length = nm := ⟨_, rfl⟩
    rw [hnf] at hlf HFA HFC ⊢
    rw [hnm] at hlm HMA HMC ⊢
    have HNF := Lib.hid hnf
    have HNM := Lib.hid hnm
    clear hnf hnm
    go_wp2_with fail
    go_loopw [15, 16] (fun v15 v16 wr => ∃ j : Nat, j ≤ n ∧ v15 = .int .i64 ((nbs f2 j).length : Int) ∧ v16 = .int .i64 ((nbs f5 j).length : Int) ∧ Below w5.heap.size w5 wr) (fun _ v16 _ => nm - (intOf v16).toNat)
    case atStart => exact ⟨0, Nat.zero_le _, rfl, rfl, Below.refl _ _⟩
    case round =>
      obtain ⟨j, hjn, rfl, rfl, hBr⟩ := hrel
      have hl1 := nbs_len_mono f5 hjn
      have hl2 := nbs_len_mono f2 hjn
      rw [HNM.out] at hl1
      rw [HNF.out] at hl2
      by_cases hgo : (nbs f5 j).length < nm ∧ (nbs f2 j).length < nf
      · obtain ⟨v, u, e1, e2, hvn, e3, e4⟩ := few_step HSUB.out (n := n) (j := j) (by rw [HNM.out]; exact hgo.1) (by rw [HNF.out]; exact hgo.2)
        have hma := HMA.out (by omega)
        have hfa := HFA.out (by omega)
        subst hma hfa
        have cm := HMC.out _ hgo.1
        have cf := HFC.out _ hgo.2
        rw [e1] at cm
        rw [e2] at cf
        simp only [Option.getD_some] at cm cf
        have cm2 := (hBr.cell (lt_of_cell cm)).trans cm
        have cf2 := (hBr.cell (lt_of_cell cf)).trans cf
        have HE3 := Lib.hid e3
        have HE4 := Lib.hid e4
        obtain ⟨K, hK⟩ : ∃ K, (nbs f2 j).length = K := ⟨_, rfl⟩
        obtain ⟨I, hI⟩ : ∃ I, (nbs f5 j).length = I := ⟨_, rfl⟩
        rw [hK] at hgo hl2 cf2 HE4 ⊢
        rw [hI] at hgo hl1 cm2 HE3 ⊢
        have t1 : (I : Int) < (nm : Int) := by omega
        have t2 : (K : Int) < (nf : Int) := by omega
        have t3 : (0 : Int) ≤ (I : Int) := by omega
        have t4 : (0 : Int) ≤ (K : Int) := by omega
        have eI : IntKind.i64.wrap ((I : Int) + 1) = ((I + 1 : Nat) : Int) := by rw [i64_small (by omega) (by omega)]; omega
        have eK : IntKind.i64.wrap ((K : Int) + 1) = ((K + 1 : Nat) : Int) := by rw [i64_small (by omega) (by omega)]; omega
        clear cm cf e1 e2 e3 e4 hK hI
        by_cases huv : v = u
        · subst huv
          simp only [if_true] at HE4
          go_wp2_with fail
          go_region
          go_wp2_with fail
          go_roundw
          case rel => exact ⟨v + 1, by omega, (by rw [HE4.out]; first | rfl | go_num | simp), (by rw [HE3.out]; first | rfl | go_num | simp), hBr.drew⟩
          case measure => simp [intOf]; omega
        · have tne : ((v : Int) == (u : Int)) = false := by simp; omega
          rw [if_neg huv] at HE4
          go_wp2_with fail
          go_region
          go_wp2_with fail
          go_roundw
          case rel => exact ⟨v + 1, by omega, (by rw [HE4.out]; first | rfl | go_num | simp), (by rw [HE3.out]; first | rfl | go_num | simp), hBr.drew⟩
          case measure => simp [intOf]; omega
      · have hKn : (nbs f2 j).length = nf := by
          by_cases h1 : (nbs f5 j).length < nm
          · omega
          · have h2 : (nbs f5 n).length = (nbs f5 j).length := by rw [HNM.out]; omega
            have h3 := nbs_len_eq HSUB.out hjn h2
            rw [HNF.out] at h3
            omega
        have hcond : ((nbs f5 j).length : Int) < (nm : Int) ∨ (((nbs f5 j).length : Int) < (nm : Int)) = False := by
          by_cases h1 : (nbs f5 j).length < nm
          · exact Or.inl (by omega)
          · exact Or.inr (by simp; omega)
        rw [hKn] at hgo hl2 ⊢
        generalize (nbs f5 j).length = I at *
        have t2 : ((nf : Int) < (nf : Int)) = False := by simp
        obtain ⟨X6, Y6, Z6, hLd6⟩ := HLD5.out.below hBr
        have hB6 := HB5.out.trans (hBr.mono HB5.out.size)
        have CW := ldsweep_raw hLd6 (by rw [HN.out]; omega) true ((H2.out.below hB6).mono hB6.size) (by omega) (HT.out.below hB6 htl)
        unfold ldV at CW
        simp only [if_true] at CW
        have HYR := Lib.hid hLd6.rq.top.1
        have HB6 := Lib.hid hB6
        clear hBr hLd6 hB6 hKn hgo hl1 hl2
        rcases hcond with t1 | t1
        · go_wp2_with fail
          refine CW.mono ?_
          clear CW
          rintro e w7 ⟨v7, f7, X7, rfl, hI7, hf7, hLd7, hB67⟩
          have hB7 := HB6.out.trans hB67
          obtain ⟨a7, c7, hv7, _⟩ := hI7.rdl
          subst hv7
          have CR := rsweep_any hLd7 (by rw [HN.out]; omega) ((H2.out.below hB7).mono hB7.size) (by omega)
          have HI7 := Lib.hid hI7
          have HF7 := Lib.hid hf7
          have HB7 := Lib.hid hB7
          clear hI7 hf7 hLd7 hB67 hB7 HB6
          rw [HN.out] at HI7 ⊢
          have hl7 := nbs_le f7 n
          obtain ⟨n7, hn7⟩ : ∃ n7, (nbs f7 n).length = n7 := ⟨_, rfl⟩
          rw [hn7] at HI7 hl7 ⊢
          have HN7 := Lib.hid hn7
          clear hn7
          go_wp2_with fail
          refine CR.mono ?_
          clear CR
          rintro e w8 ⟨v8, f8, rfl, hI8, hf8, hLd8, hE8⟩
          have hsame : nbs f8 ss.length = nbs f7 ss.length := nbs_same hf8 HF7.out
          rw [hsame] at hI8 hLd8
          have hB8 := HB7.out.trans (hE8.below (fun k hk => (HYR.out k hk).1) HB7.out.size)
          have hI78 : IntsR wr.heap.size w8 (.slice a7 n7 c7) (nbs f7 n) := ownsS_same HI7.out (fun k hk => hE8.block k (World.ownsRow.lt HI7.out k hk).2 (fun hy => by have := (World.ownsRow.lt HI7.out k hk).1; have := (HYR.out k hy).2; omega))
          obtain ⟨a8, c8, hv8, hrd8⟩ := hI8.rdl
          subst hv8
          obtain ⟨a9, c9, hv9, hrd9⟩ := hI78.rdl
          injection hv9 with q1 q2 q3
          subst q1 q3
          rw [HN.out, HN7.out] at hrd8
          rw [HN7.out] at hrd9
          have CS := same_eq (c1 := c7) (c2 := c8) hrd9 hrd8 (by omega)
          have HLD8 : Hid (LdV w8 w0.heap.size g q (frees ss (nbs f7 ss.length)) (frees ss (nbs f7 ss.length))) := ⟨_, _, _, hLd8⟩
          have HB8 := Lib.hid hB8
          clear q2 hI8 hI78 hf8 hLd8 hE8 hsame hrd8 hrd9 hB8 HB7 HI7
          rw [HN.out, HN7.out]
          go_wp2_with fail
          refine CS.mono ?_
          clear CS
          rintro e w9 ⟨rfl, hB89⟩
          obtain ⟨s2, hs2⟩ : ∃ s2, frees ss (nbs f7 ss.length) = s2 := ⟨_, rfl⟩
          have hs2l : s2.length = n := by rw [← hs2, frees_len]; exact HN.out
          have htk2 : ∀ k, tk s2 k = true ↔ Rch (tk ss) (lsOf true ss) R k := fun k => by rw [← hs2]; exact swept_tk HF7.out k
          have hrc2 : ∀ k, Rch (tk ss) (lsOf true ss) R k → Rch (tk s2) (lsOf true s2) R k := fun k hk => by rw [← hs2]; exact swept_rch HF7.out hk
          rw [hs2] at HLD8
          have hLd9 := HLD8.out.below hB89
          have CT := wtaken_any hLd9 (by omega)
          have HLD9 := Lib.hid hLd9
          have HB9 := Lib.hid (HB8.out.trans (hB89.mono HB8.out.size))
          have HS2L := Lib.hid hs2l
          have HTK2 := Lib.hid htk2
          have HRC2 := Lib.hid hrc2
          clear hs2 hs2l htk2 hrc2 hLd9 hB89 HLD8 HB8
          go_wp2_with fail
          refine CT.mono ?_
          clear CT
          rintro e w10 ⟨rfl, hB910⟩
          have hLd10 := HLD9.out.below hB910
          have CN : Calls Tryd.prog 18 #[.pointer (some ⟨g, 0, none⟩)] w10 fun e w' => e = .returned (.int .i64 (nf : Int)) ∧ ∃ m, w' = w10.drewN m := by
            obtain ⟨X, Y, Z, h⟩ := hLd10
            have C := len_v h.sl
            rw [← nbs_all, HS2L.out, nbs_same (g := f2) HTK2.out HF2.out, HNF.out] at C
            exact C
          have HLD10 := Lib.hid hLd10
          have HB10 := Lib.hid (HB9.out.trans (hB910.mono HB9.out.size))
          clear hLd10 hB910 HLD9 HB9
          go_wp2_with fail
          refine CN.mono ?_
          clear CN
          rintro e w11 ⟨rfl, m, hw11⟩
          have hBd : Below w10.heap.size w10 w11 := by rw [hw11]; exact below_drewN (Below.refl _ w10) m
          have hLd11 := HLD10.out.below hBd
          have hB11 := HB10.out.trans (hBd.mono HB10.out.size)
          have CW2 := ldsweep_any hLd11 (by have := HS2L.out; omega) true ((H2.out.below hB11).mono hB11.size) (by omega) (HT.out.below hB11 htl)
          unfold ldV at CW2
          simp only [if_true] at CW2
          have HB11 := Lib.hid hB11
          clear hBd hLd11 hB11 HLD10 HB10 hw11
          go_wp2_with fail
          refine CW2.mono ?_
          clear CW2
          rintro e w12 ⟨v12, f12, rfl, hI12, hf12, hLd12, hB1112⟩
          have hno : nbs f12 s2.length = [] := by
            have : nbs f12 s2.length = nbs (fun _ => false) s2.length := nbs_ext (fun k _ => by
              cases e : f12 k with
              | false => rfl
              | true =>
                obtain ⟨h1, h2⟩ := (hf12 k).1 e
                exact absurd (HRC2.out k ((HTK2.out k).1 h1)) h2)
            rw [this]
            simp [nbs]
          rw [hno] at hI12 hLd12
          obtain ⟨a12, c12, hv12⟩ := ownsS_shape hI12
          subst hv12
          have CT := wtaken_any (show LdV w12 w0.heap.size g q s2 s2 from hLd12) (by have := HS2L.out; omega)
          have HB12 := Lib.hid (HB11.out.trans hB1112)
          clear hI12 hf12 hLd12 hB1112 hno HB11
          go_wp2_with fail
          refine CT.mono ?_
          clear CT
          rintro e w13 ⟨rfl, hB1213⟩
          have hB13 := HB12.out.trans (hB1213.mono HB12.out.size)
          have CA := awake12_any w13 (HT.out.below hB13 htl)
          have HB13 := Lib.hid hB13
          clear hB1213 hB13 HB12
          go_wp2_with fail
          refine CA.mono ?_
          rintro e w14 ⟨rfl, hB14⟩
          clear CA
          go_wp2
          go_ret
          exact ⟨rfl, HB13.out.trans (hB14.mono HB13.out.size)⟩
        · go_wp2_with fail
          refine CW.mono ?_
          clear CW
          rintro e w7 ⟨v7, f7, X7, rfl, hI7, hf7, hLd7, hB67⟩
          have hB7 := HB6.out.trans hB67
          obtain ⟨a7, c7, hv7, _⟩ := hI7.rdl
          subst hv7
          have CR := rsweep_any hLd7 (by rw [HN.out]; omega) ((H2.out.below hB7).mono hB7.size) (by omega)
          have HI7 := Lib.hid hI7
          have HF7 := Lib.hid hf7
          have HB7 := Lib.hid hB7
          clear hI7 hf7 hLd7 hB67 hB7 HB6
          rw [HN.out] at HI7 ⊢
          have hl7 := nbs_le f7 n
          obtain ⟨n7, hn7⟩ : ∃ n7, (nbs f7 n).length = n7 := ⟨_, rfl⟩
          rw [hn7] at HI7 hl7 ⊢
          have HN7 := Lib.hid hn7
          clear hn7
          go_wp2_with fail
          refine CR.mono ?_
          clear CR
          rintro e w8 ⟨v8, f8, rfl, hI8, hf8, hLd8, hE8⟩
          have hsame : nbs f8 ss.length = nbs f7 ss.length := nbs_same hf8 HF7.out
          rw [hsame] at hI8 hLd8
          have hB8 := HB7.out.trans (hE8.below (fun k hk => (HYR.out k hk).1) HB7.out.size)
          have hI78 : IntsR wr.heap.size w8 (.slice a7 n7 c7) (nbs f7 n) := ownsS_same HI7.out (fun k hk => hE8.block k (World.ownsRow.lt HI7.out k hk).2 (fun hy => by have := (World.ownsRow.lt HI7.out k hk).1; have := (HYR.out k hy).2; omega))
          obtain ⟨a8, c8, hv8, hrd8⟩ := hI8.rdl
          subst hv8
          obtain ⟨a9, c9, hv9, hrd9⟩ := hI78.rdl
          injection hv9 with q1 q2 q3
          subst q1 q3
          rw [HN.out, HN7.out] at hrd8
          rw [HN7.out] at hrd9
          have CS := same_eq (c1 := c7) (c2 := c8) hrd9 hrd8 (by omega)
          have HLD8 : Hid (LdV w8 w0.heap.size g q (frees ss (nbs f7 ss.length)) (frees ss (nbs f7 ss.length))) := ⟨_, _, _, hLd8⟩
          have HB8 := Lib.hid hB8
          clear q2 hI8 hI78 hf8 hLd8 hE8 hsame hrd8 hrd9 hB8 HB7 HI7
          rw [HN.out, HN7.out]
          go_wp2_with fail
          refine CS.mono ?_
          clear CS
          rintro e w9 ⟨rfl, hB89⟩
          obtain ⟨s2, hs2⟩ : ∃ s2, frees ss (nbs f7 ss.length) = s2 := ⟨_, rfl⟩
          have hs2l : s2.length = n := by rw [← hs2, frees_len]; exact HN.out
          have htk2 : ∀ k, tk s2 k = true ↔ Rch (tk ss) (lsOf true ss) R k := fun k => by rw [← hs2]; exact swept_tk HF7.out k
          have hrc2 : ∀ k, Rch (tk ss) (lsOf true ss) R k → Rch (tk s2) (lsOf true s2) R k := fun k hk => by rw [← hs2]; exact swept_rch HF7.out hk
          rw [hs2] at HLD8
          have hLd9 := HLD8.out.below hB89
          have CT := wtaken_any hLd9 (by omega)
          have HLD9 := Lib.hid hLd9
          have HB9 := Lib.hid (HB8.out.trans (hB89.mono HB8.out.size))
          have HS2L := Lib.hid hs2l
          have HTK2 := Lib.hid htk2
          have HRC2 := Lib.hid hrc2
          clear hs2 hs2l htk2 hrc2 hLd9 hB89 HLD8 HB8
          go_wp2_with fail
          refine CT.mono ?_
          clear CT
          rintro e w10 ⟨rfl, hB910⟩
          have hLd10 := HLD9.out.below hB910
          have CN : Calls Tryd.prog 18 #[.pointer (some ⟨g, 0, none⟩)] w10 fun e w' => e = .returned (.int .i64 (nf : Int)) ∧ ∃ m, w' = w10.drewN m := by
            obtain ⟨X, Y, Z, h⟩ := hLd10
            have C := len_v h.sl
            rw [← nbs_all, HS2L.out, nbs_same (g := f2) HTK2.out HF2.out, HNF.out] at C
            exact C
          have HLD10 := Lib.hid hLd10
          have HB10 := Lib.hid (HB9.out.trans (hB910.mono HB9.out.size))
          clear hLd10 hB910 HLD9 HB9
          go_wp2_with fail
          refine CN.mono ?_
          clear CN
          rintro e w11 ⟨rfl, m, hw11⟩
          have hBd : Below w10.heap.size w10 w11 := by rw [hw11]; exact below_drewN (Below.refl _ w10) m
          have hLd11 := HLD10.out.below hBd
          have hB11 := HB10.out.trans (hBd.mono HB10.out.size)
          have CW2 := ldsweep_any hLd11 (by have := HS2L.out; omega) true ((H2.out.below hB11).mono hB11.size) (by omega) (HT.out.below hB11 htl)
          unfold ldV at CW2
          simp only [if_true] at CW2
          have HB11 := Lib.hid hB11
          clear hBd hLd11 hB11 HLD10 HB10 hw11
          go_wp2_with fail
          refine CW2.mono ?_
          clear CW2
          rintro e w12 ⟨v12, f12, rfl, hI12, hf12, hLd12, hB1112⟩
          have hno : nbs f12 s2.length = [] := by
            have : nbs f12 s2.length = nbs (fun _ => false) s2.length := nbs_ext (fun k _ => by
              cases e : f12 k with
              | false => rfl
              | true =>
                obtain ⟨h1, h2⟩ := (hf12 k).1 e
                exact absurd (HRC2.out k ((HTK2.out k).1 h1)) h2)
            rw [this]
            simp [nbs]
          rw [hno] at hI12 hLd12
          obtain ⟨a12, c12, hv12⟩ := ownsS_shape hI12
          subst hv12
          have CT := wtaken_any (show LdV w12 w0.heap.size g q s2 s2 from hLd12) (by have := HS2L.out; omega)
          have HB12 := Lib.hid (HB11.out.trans hB1112)
          clear hI12 hf12 hLd12 hB1112 hno HB11
          go_wp2_with fail
          refine CT.mono ?_
          clear CT
          rintro e w13 ⟨rfl, hB1213⟩
          have hB13 := HB12.out.trans (hB1213.mono HB12.out.size)
          have CA := awake12_any w13 (HT.out.below hB13 htl)
          have HB13 := Lib.hid hB13
          clear hB1213 hB13 HB12
          go_wp2_with fail
          refine CA.mono ?_
          rintro e w14 ⟨rfl, hB14⟩
          clear CA
          go_wp2
          go_ret
          exact ⟨rfl, HB13.out.trans (hB14.mono HB13.out.size)⟩
end Go.Proofs.YtbnmnmbfdfgohaaDoor
