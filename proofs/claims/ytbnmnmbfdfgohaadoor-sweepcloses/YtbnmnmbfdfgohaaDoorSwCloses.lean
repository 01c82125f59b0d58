/-
  The law SweepCloses.
-/
import Derived.Test.YtbnmnmbfdfgohaaDoorSwRef2
namespace Go.Proofs.YtbnmnmbfdfgohaaDoor
open Go.RowKit Go.WideShapes

section
variable {P : Program} {ops : Array Oper} {Q : Exit → Act → World → Prop} {md : Region.Mode} {S S2 : World → Prop}
/-- Behind a call the walk may hold another condition, that says more. -/
theorem wpAnyS_weak (h12 : ∀ w, S2 w → S w) : ∀ {fuel : Nat} {listed : Array Bool} {a : Act} {w : World}, wpAnyH P md ops Q S2 fuel listed a w → wpAnyH P md ops Q S fuel listed a w
  | 0, _, _, _, h => h
  | _ + 1, _, _, _, h => ⟨h.1, fun i hi => wpOp_mono (fun _ _ h' => ⟨h12 _ h'.1, wpAnyS_weak h12 h'.2⟩) (h.2 i hi)⟩
/-- Take number i first, its slot written out. -/
theorem takeS_at {i : Nat} {oi : Oper} {v : Value} {d : Option Nat} {fuel : Nat} {listed : Array Bool} {a : Act} {w : World} (hi : ops[i]? = some oi) (hd : oi.dst = d)
    (hs : Region.noSelect ops = true) (hf : Region.free md ops listed i = true) (hr : (Region.ready md ops listed).contains i = true)
    (hQ : ∀ c a w, Q (.panic c) (a.put d v) w → Q (.panic c) a w) (hy : YieldsIf P ops S oi v a) (hS : S w)
    (h : wpAnyH P md ops Q S fuel (listed.setIfInBounds i true) (a.put d v) w) : wpAnyH P md ops Q S (fuel + 1) listed a w := by
  subst hd
  exact wpAnyH_take hi hs hf hr hQ hy hS h
end
theorem nbs_rise {f : Nat → Bool} {n i u v : Nat} (h1 : (nbs f n)[i]? = some (u : Int)) (h2 : (nbs f n)[i + 1]? = some (v : Int)) : u < v := by
  have uniq : ∀ (a b : Nat) (x : Int), (nbs f n)[a]? = some x → (nbs f n)[b]? = some x → a = b := by
    intro a b x ha hb
    rcases Nat.lt_trichotomy a b with y | y | y
    · exact absurd (List.mem_iff_getElem?.2 ⟨a, by rw [List.getElem?_take_of_lt y]; exact ha⟩) (nbs_nodup f n b (List.getElem?_eq_some_iff.1 hb).1 x hb)
    · exact y
    · exact absurd (List.mem_iff_getElem?.2 ⟨b, by rw [List.getElem?_take_of_lt y]; exact hb⟩) (nbs_nodup f n a (List.getElem?_eq_some_iff.1 ha).1 x ha)
  have key : ∀ (a k : Nat), (nbs f n)[a]? = some (k : Int) → a = (nbs f k).length := fun a k h => by
    obtain ⟨q, e, hq, hf⟩ := nbs_mem.1 (List.mem_of_getElem? h)
    obtain rfl : k = q := by omega
    exact uniq _ _ _ h (nbs_at f k n hq hf)
  have e1 := key i u h1
  have e2 := key (i + 1) v h2
  apply Nat.lt_of_not_le
  intro hle
  obtain ⟨r, hr⟩ := nbs_pre f v (u - v)
  rw [show v + (u - v) = u by omega] at hr
  have := congrArg List.length hr
  rw [List.length_append] at this
  omega
/-- What is led to, within a turn that began with L0. -/
structure Pt (T : Nat → Bool) (R : List Int) (n : Nat) (f L0 ld : Nat → Bool) : Prop where
  sub : ∀ k, ld k = true → f k = true
  rts : ∀ j : Nat, T j = true → (j : Int) ∈ R → ld j = true
  up : ld = L0 ∨ (nbs L0 n).length < (nbs ld n).length
theorem Pt.put {T : Nat → Bool} {R : List Int} {n : Nat} {f L0 ld : Nat → Bool} (h : Pt T R n f L0 ld) {j : Nat} (hj : f j = true) (hn : j < n) : Pt T R n f L0 (fun k => ld k || decide (k = j)) := by
  cases e : ld j with
  | true =>
    have : (fun k => ld k || decide (k = j)) = ld := by
      funext k
      by_cases e2 : k = j
      · rw [e2, e]; rfl
      · simp [e2]
    rw [this]
    exact h
  | false =>
    refine ⟨fun k hk => ?_, fun q hq hR => ?_, Or.inr ?_⟩
    · simp only [Bool.or_eq_true, decide_eq_true_eq] at hk
      rcases hk with hk | hk
      · exact h.sub k hk
      · rw [hk]; exact hj
    · simp only [Bool.or_eq_true]
      exact Or.inl (h.rts q hq hR)
    · rw [nbs_more ld n j hn e]
      rcases h.up with h | h
      · rw [h]; omega
      · omega
/-- All that is reached is led to, or much is. -/
def Fin (n : Nat) (f ld : Nat → Bool) (t : Nat) : Prop := (∀ k, f k = true → ld k = true) ∨ t ≤ (nbs ld n).length
theorem Pt.turn {T : Nat → Bool} {L : Nat → List Int} {R : List Int} {n t : Nat} {f L0 ld : Nat → Bool} (h : Pt T R n f L0 ld) (h0 : Fin n f L0 t) (hup : ∀ k, L0 k = true → ld k = true) (hf : ∀ k, f k = true ↔ Rch T L R k) (hc : ld = L0 → ∀ k, f k = true → Cl T L L0 k) : Fin n f ld (t + 1) := by
  rcases h0 with h1 | h1
  · exact Or.inl (fun k hk => hup k (h1 k hk))
  · rcases h.up with e | e
    · refine Or.inl (fun k hk => ?_)
      have hr := (hf k).1 hk
      rw [e]
      have h2 := h.rts
      rw [e] at h2
      clear hk
      induction hr with
      | root a b => exact h2 _ a b
      | lead a b c ih => exact hc e _ ((hf _).2 a) ih _ b c
    · exact Or.inr (by omega)
theorem Fin.all {n : Nat} {f ld : Nat → Bool} (h : Fin n f ld (nbs f n).length) (hs : ∀ k, ld k = true → f k = true) (hn : ∀ k, f k = true → k < n) : ∀ k, f k = true → ld k = true := by
  rcases h with h | h
  · exact h
  · intro k hk
    cases e : ld k with
    | true => rfl
    | false =>
      have h1 := nbs_more ld n k (hn k hk) e
      have h2 : ∀ m, (nbs (fun j => ld j || decide (j = k)) m).length ≤ (nbs f m).length := by
        intro m
        induction m with
        | zero => simp [nbs]
        | succ m ih =>
          rw [nbs_succ, nbs_succ, List.length_append, List.length_append]
          cases e1 : (ld m || decide (m = k)) with
          | false => simp; omega
          | true =>
            have : f m = true := by
              simp only [Bool.or_eq_true, decide_eq_true_eq] at e1
              rcases e1 with e1 | e1
              · exact hs m e1
              · rw [e1]; exact hk
            rw [this]
            simp
            omega
      have h3 := h2 n
      omega
set_option maxRecDepth 100000 in
set_option maxHeartbeats 4000000 in
theorem scloses_walk (a0 : Option Addr) (n0 c0 : Nat) (G : Nat → Sh) (a1 : Option Addr) (n1 c1 : Nat) (F : List Int) (a2 : Option Addr) (n2 c2 : Nat) (R : List Int) (w : World) (h0 : LLs w a0 n0 c0 G) (h1 : Lz w w.heap.size a1 n1 c1 F) (h2 : Lz w w.heap.size a2 n2 c2 R) (hT : Tab w) :
    Calls Tryd.prog 5 #[.slice a0 n0 c0, .slice a1 n1 c1, .slice a2 n2 c2] w fun e w' => e = .returned (.bool true) ∧ Below w.heap.size w w' := by
  have CL := large_any h0 a2 n2 c2
  have htl := hT.lt
  have HT := Lib.hid hT
  have H0 := Lib.hid h0
  have H1 := Lib.hid h1
  have H2 := Lib.hid h2
  obtain ⟨i0, hi, hz0, hz1, hz2⟩ := info_parts Tryd.infoB2
  clear h0 h1 h2 hT
  go_enter Tryd.func5, Tryd.ntmps5
  go_wp2_with fail
  refine CL.mono ?_
  rintro e w0 ⟨b, rfl, hLa, rfl⟩
  clear CL
  cases b with
  | true =>
    have CA := awake12_any w0 HT.out
    go_wp2_with fail
    refine CA.mono ?_
    rintro e w1 ⟨rfl, hB⟩
    clear CA
    go_wp2
    go_ret
    exact ⟨rfl, hB⟩
  | false =>
    obtain ⟨hn0, hn2, h60⟩ := hLa rfl
    have CD := laid_any H0.out hn0 h60 H1.out
    clear hLa
    go_wp2_with fail
    refine CD.mono ?_
    rintro e w1 ⟨g, q, ss, rfl, hL⟩
    clear CD
    have hB1 := hL.be
    have hlen := hL.len
    have hRl : R.length ≤ 200 := by have := H2.out.1; omega
    have CM := ldmark_any hL.ld (by omega) true ((H2.out.below hB1).mono hB1.size) (by omega) (HT.out.below hB1 htl)
    unfold ldV at CM
    simp only [if_true] at CM
    have HB1 := Lib.hid hB1
    have HLEN := Lib.hid hlen
    have HLS := Lib.hid hL.ls
    clear hL hB1 hlen
    go_wp2_with fail
    refine CM.mono ?_
    clear CM
    rintro e w2 ⟨v2, f, rfl, hI2, hf, hLd2, hB12⟩
    have hB2 : Below w0.heap.size w0 w2 := HB1.out.trans (hB12.mono HB1.out.size)
    obtain ⟨ma, mc, rfl, hrdm⟩ := hI2.rdl
    obtain ⟨-, mb, mo, hma, hmc⟩ := hrdm
    obtain ⟨⟨lv, tv, vs, hq⟩, hBs, -⟩ := hLd2.ref
    have hfn : ∀ k, f k = true → tk ss k = true ∧ k < n0 := fun k hk => ⟨((hf k).1 hk).taken, by rw [← HLEN.out]; exact tk_lt ((hf k).1 hk).taken⟩
    rw [HLEN.out] at hma hmc ⊢
    have hlm := nbs_le f n0
    obtain ⟨nm, hnm⟩ : ∃ nm, (nbs f n0).length = nm := ⟨_, rfl⟩
    rw [hnm] at hma hmc hlm ⊢
    have HNM := Lib.hid hnm
    have HMA := Lib.hid hma
    have HMC := Lib.hid hmc
    have HF := Lib.hid hf
    have HFN := Lib.hid hfn
    have HQ := Lib.hid hq
    have HB2 := Lib.hid hB2
    clear hI2 hf hLd2 hB12 hB2 hma hmc hq hnm HB1 hfn
    have hn2' : n2 = R.length := H2.out.1
    have HN2 := Lib.hid hn2'
    clear hn2'
    go_upto_region 8 with (at_make; refine wpList_make_full _ rfl _ _ 38 rfl 0 4 i0 (.bool false) 1 Tryd.underlying38 hi hz0 hz1 .i64 .i64 _ _ n0 rfl rfl (by omega) (by omega) (by rw [hz2]; omega) (by unfold maxLen; omega) (Nat.zero_le _) ?_; intro w3 hown1 hgrow1; have hb3 : Below w2.heap.size w2 w3 := (Below.refl _ w2).grown hgrow1 (Nat.le_refl _) (fun k e => by cases e); have HM3 : Hid (Bm w3 w2.heap.size n0 (fun _ => false)) := (by show Bm _ _ _ _; unfold Bm; rw [← bls_made]; exact hown1); clear hown1 hgrow1)
    go_wp2_with (at_make; refine wpList_make_full _ rfl _ _ 38 rfl 0 4 i0 (.bool false) 1 Tryd.underlying38 hi hz0 hz1 .i64 .i64 _ _ n0 rfl rfl (by omega) (by omega) (by rw [hz2]; omega) (by unfold maxLen; omega) (Nat.zero_le _) ?_; intro w4 hown1 hgrow1; have hb4 : Below w3.heap.size w3 w4 := (Below.refl _ w3).grown hgrow1 (Nat.le_refl _) (fun k e => by cases e); have HL4 : Hid (Bm w4 w3.heap.size n0 (fun _ => false)) := (by show Bm _ _ _ _; unfold Bm; rw [← bls_made]; exact hown1); clear hown1 hgrow1)
    have hgi := HM3.out.lt
    have HM4 : Hid (Bm w4 w2.heap.size n0 (fun _ => false)) := HM3.out.same (hb4.block _ hgi)
    have hb24 : Below w2.heap.size w2 w4 := hb3.trans (hb4.mono hb3.size)
    have HB24 := Lib.hid hb24
    clear hb3 hb4 HM3 hb24
    obtain ⟨gi, hgie⟩ : ∃ gi, w2.heap.size = gi := ⟨_, rfl⟩
    obtain ⟨gl, hgle⟩ : ∃ gl, w3.heap.size = gl := ⟨_, rfl⟩
    rw [hgie] at HM4 hgi HB24 ⊢
    rw [hgle] at HL4 hgi ⊢
    have HGI := Lib.hid hgie
    have hqB : ∀ wr, Below gi w2 wr → Rq wr q ss lv tv vs w0.heap.size := fun wr hb => HQ.out.below (by rw [HGI.out]; exact hb) hBs
    have hmcell : ∀ wr, Below gi w2 wr → ∀ j, j < nm → ma = some ⟨mb, mo, none⟩ ∧ wr.cell? ⟨mb, mo + j, none⟩ = some (.int .i64 ((nbs f n0)[j]?.getD 0)) := fun wr hb j hj => ⟨HMA.out (by omega), (hb.cell (p := ⟨mb, mo + j, none⟩) (by have := lt_of_cell (HMC.out j hj); rw [HGI.out] at this; exact this)).trans (HMC.out j hj)⟩
    have HQB := Lib.hid hqB
    have HMCELL := Lib.hid hmcell
    clear hgie hgle hqB hmcell
    go_loopw [13] (fun v13 wr => ∃ (i : Nat) (inn : Nat → Bool), i ≤ nm ∧ v13 = .int .i64 (i : Int) ∧ Bm wr gi n0 inn ∧ Hid (∀ k : Nat, inn k = true ↔ (k : Int) ∈ (nbs f n0).take i) ∧ Bm wr gl n0 (fun _ => false) ∧ Below gi w2 wr) (fun v13 _ => nm - (intOf v13).toNat)
    case atStart => exact ⟨0, _, Nat.zero_le _, rfl, HM4.out, (by show ∀ k : Nat, _; intro k; simp), HL4.out, HB24.out⟩
    case round =>
      clear HM4 HL4 HB24
      obtain ⟨i, inn, him, rfl, hM, HIN, hGl, hBr⟩ := hrel
      have hQr := HQB.out wr hBr
      by_cases hil : i < nm
      · have ti : (i : Int) < (nm : Int) := by omega
        have ti0 : (0 : Int) ≤ (i : Int) := by omega
        have ei : IntKind.i64.wrap ((i : Int) + 1) = ((i + 1 : Nat) : Int) := by rw [i64_small (by omega) (by omega)]; omega
        have hat := List.getElem?_eq_getElem (show i < (nbs f n0).length by rw [HNM.out]; exact hil)
        obtain ⟨v, hv, hvn, hfv⟩ := nbs_mem.1 (List.getElem_mem (show i < (nbs f n0).length by rw [HNM.out]; exact hil))
        rw [hv] at hat
        obtain ⟨hma, cm⟩ := HMCELL.out wr hBr i hil
        subst hma
        rw [hat] at cm
        simp only [Option.getD_some] at cm
        have hinv : inn v = false := by
          cases e : inn v with
          | false => rfl
          | true => exact absurd ((HIN.out v).1 e) (nbs_nodup f n0 i (by rw [HNM.out]; exact hil) (v : Int) hat)
        have ci := hM.cell v hvn
        have zi := hM.frozen v
        rw [hinv] at ci
        have hisT : isT ss (v : Int) = true := by rw [isT_nat ss v (by rw [HLEN.out]; exact hvn)]; exact (HFN.out v hfv).1
        have CI := ris_any hQr (v : Int)
        have CId : Calls Tryd.prog 19 #[.pointer (some ⟨q, 0, none⟩), .int .i64 (v : Int)] wr.drew fun e w' => e = .returned (.bool true) ∧ w' = wr.drew := by
          have := ris_any (hQr.same (w' := wr.drew) (fun k _ => rfl) ((Below.refl _ wr).drew)) (v : Int)
          rw [hisT] at this
          exact this
        have tv0 : ((v : Int) < 0) = False := by simp
        have tv1 : ((n0 : Int) ≤ (v : Int)) = False := by simp; omega
        have tv2 : (v : Int) < (n0 : Int) := by omega
        have tv3 : (0 : Int) ≤ (v : Int) := by omega
        have cmd : wr.drew.cell? ⟨mb, mo + i, none⟩ = some (.int .i64 (v : Int)) := cm
        have cid : wr.drew.cell? ⟨gi, v, none⟩ = some (.bool false) := ci
        have HM := Lib.hid hM
        have HGL := Lib.hid hGl
        have HBR := Lib.hid hBr
        have HAT := Lib.hid hat
        have hgne : gl ≠ gi := by omega
        clear hM hGl hBr hQr CI hisT hv
        by_cases h0 : 0 < i
        · obtain ⟨i1, rfl⟩ : ∃ i1, i = i1 + 1 := ⟨i - 1, by omega⟩
          have hat1 := List.getElem?_eq_getElem (show i1 < (nbs f n0).length by rw [HNM.out]; omega)
          obtain ⟨u, hu, _, _⟩ := nbs_mem.1 (List.getElem_mem (show i1 < (nbs f n0).length by rw [HNM.out]; omega))
          rw [hu] at hat1
          have hrise := nbs_rise hat1 hat
          have cu := (HMCELL.out wr HBR.out i1 (by omega)).2
          rw [hat1] at cu
          simp only [Option.getD_some] at cu
          have cud : wr.drew.cell? ⟨mb, mo + i1, none⟩ = some (.int .i64 (u : Int)) := cu
          have e1 : IntKind.i64.wrap (((i1 + 1 : Nat) : Int) - 1) = (i1 : Int) := by rw [i64_small (by omega) (by omega)]; omega
          have t5 : (0 : Int) < ((i1 + 1 : Nat) : Int) := by omega
          have t6 : ((v : Int) ≤ (u : Int)) = False := by simp; omega
          have t7 : (i1 : Int) < (nm : Int) := by omega
          have t8 : (0 : Int) ≤ (i1 : Int) := by omega
          clear hat1 hu hat
          generalize hI1 : i1 + 1 = i at *
          go_wp2_with fail
          go_region_held3 (fun V => V.cell? ⟨mb, mo + i, none⟩ = some (.int .i64 (v : Int)) ∧ V.cell? ⟨gi, v, none⟩ = some (.bool false) ∧ V.cell? ⟨mb, mo + i1, none⟩ = some (.int .i64 (u : Int))) (first | with_reducible exact ⟨cmd, cid, cud⟩ | fail) (first | (go_at_call 19; refine CId.mono ?_; rintro e w4 ⟨rfl, rfl⟩) | fail)
          clear CId cmd cid cud
          go_wp2_with fail
          go_roundw
          case rel =>
            have hp := HM.out.put v
            refine ⟨i + 1, _, by omega, rfl, hp.same rfl, ?_, (HGL.out.same (w' := wr.setCell ⟨gi, v, none⟩ (.bool true)) (setCell_blk hgne)).same rfl, (HBR.out.setCell (p := ⟨gi, v, none⟩) (Nat.le_refl _) _).drew⟩
            show ∀ k : Nat, _
            intro k
            rw [List.take_add_one, HAT.out]
            simp only [Bool.or_eq_true, decide_eq_true_eq, HIN.out k, Option.toList_some, List.mem_append, List.mem_singleton, Int.ofNat_inj]
          case measure => simp [intOf]; omega
        · obtain rfl : i = 0 := by omega
          have cmd : wr.drew.cell? ⟨mb, mo, none⟩ = some (.int .i64 (v : Int)) := cm
          have ti' : (0 : Int) < (nm : Int) := by omega
          clear cm ti ti0
          go_wp2_with fail
          refine wp_region_noPanic ?_
          refine wp_region_held_drew (S := fun V => V.cell? ⟨mb, mo, none⟩ = some (.int .i64 (v : Int)) ∧ V.cell? ⟨gi, v, none⟩ = some (.bool false)) (by kernel_rfl) ⟨cmd, cid⟩ (fun hSc => ?_)
          refine takeS_at (i := 0) (d := some 48) (v := ?_) rfl rfl (by kernel_rfl) (by kernel_rfl) (by kernel_rfl) (fun _ _ _ h => h) (Or.inl ⟨by rfl, ?hy⟩) hSc ?_
          case hy => (intro w hSw; (try dsimp only at hSw); go_simp; try with_reducible rfl)
          simp only [Act.put, List.setIfInBounds_toArray, List.set_cons_zero, List.set_cons_succ]
          refine takeS_at (i := 1) (d := some 49) (v := ?_) rfl rfl (by kernel_rfl) (by kernel_rfl) (by kernel_rfl) (fun _ _ _ h => h) (Or.inl ⟨by rfl, ?hy⟩) hSc ?_
          case hy => (intro w hSw; (try dsimp only at hSw); go_simp; try with_reducible rfl)
          simp only [Act.put, List.setIfInBounds_toArray, List.set_cons_zero, List.set_cons_succ]
          refine takeS_at (i := 2) (d := some 50) (v := ?_) rfl rfl (by kernel_rfl) (by kernel_rfl) (by kernel_rfl) (fun _ _ _ h => h) (Or.inl ⟨by rfl, ?hy⟩) hSc ?_
          case hy => (intro w hSw; (try dsimp only at hSw); go_simp; try with_reducible rfl)
          simp only [Act.put, List.setIfInBounds_toArray, List.set_cons_zero, List.set_cons_succ]
          refine takeS_at (i := 3) (d := some 51) (v := ?_) rfl rfl (by kernel_rfl) (by kernel_rfl) (by kernel_rfl) (fun _ _ _ h => h) (Or.inl ⟨by rfl, ?hy⟩) hSc ?_
          case hy => (intro w hSw; (try dsimp only at hSw); go_simp; try with_reducible rfl)
          simp only [Act.put, List.setIfInBounds_toArray, List.set_cons_zero, List.set_cons_succ]
          refine takeS_at (i := 4) (d := some 52) (v := ?_) rfl rfl (by kernel_rfl) (by kernel_rfl) (by kernel_rfl) (fun _ _ _ h => h) (Or.inl ⟨by rfl, ?hy⟩) hSc ?_
          case hy => (intro w hSw; (try dsimp only at hSw); go_simp; try with_reducible rfl)
          simp only [Act.put, List.setIfInBounds_toArray, List.set_cons_zero, List.set_cons_succ]
          refine takeS_at (i := 5) (d := some 53) (v := ?_) rfl rfl (by kernel_rfl) (by kernel_rfl) (by kernel_rfl) (fun _ _ _ h => h) (Or.inl ⟨by rfl, ?hy⟩) hSc ?_
          case hy => (intro w hSw; (try dsimp only at hSw); go_simp; try with_reducible rfl)
          simp only [Act.put, List.setIfInBounds_toArray, List.set_cons_zero, List.set_cons_succ]
          refine takeS_at (i := 6) (d := some 54) (v := ?_) rfl rfl (by kernel_rfl) (by kernel_rfl) (by kernel_rfl) (fun _ _ _ h => h) (Or.inl ⟨by rfl, ?hy⟩) hSc ?_
          case hy => (intro w hSw; (try dsimp only at hSw); go_simp; try with_reducible rfl)
          simp only [Act.put, List.setIfInBounds_toArray, List.set_cons_zero, List.set_cons_succ]
          refine takeS_at (i := 7) (d := some 55) (v := ?_) rfl rfl (by kernel_rfl) (by kernel_rfl) (by kernel_rfl) (fun _ _ _ h => h) (Or.inl ⟨by rfl, ?hy⟩) hSc ?_
          case hy => (intro w hSw; (try dsimp only at hSw); go_simp; try with_reducible rfl)
          simp only [Act.put, List.setIfInBounds_toArray, List.set_cons_zero, List.set_cons_succ]
          refine takeS_at (i := 8) (d := some 56) (v := ?_) rfl rfl (by kernel_rfl) (by kernel_rfl) (by kernel_rfl) (fun _ _ _ h => h) (Or.inl ⟨by rfl, ?hy⟩) hSc ?_
          case hy => (intro w hSw; (try dsimp only at hSw); go_simp; try with_reducible rfl)
          simp only [Act.put, List.setIfInBounds_toArray, List.set_cons_zero, List.set_cons_succ]
          refine takeS_at (i := 9) (d := some 57) (v := ?_) rfl rfl (by kernel_rfl) (by kernel_rfl) (by kernel_rfl) (fun _ _ _ h => h) (Or.inl ⟨by rfl, ?hy⟩) hSc ?_
          case hy => (intro w hSw; (try dsimp only at hSw); go_simp; try with_reducible rfl)
          simp only [Act.put, List.setIfInBounds_toArray, List.set_cons_zero, List.set_cons_succ]
          refine takeS_at (i := 10) (d := some 58) (v := ?_) rfl rfl (by kernel_rfl) (by kernel_rfl) (by kernel_rfl) (fun _ _ _ h => h) (Or.inl ⟨by rfl, ?hy⟩) hSc ?_
          case hy => (intro w hSw; (try dsimp only at hSw); go_simp; try with_reducible rfl)
          simp only [Act.put, List.setIfInBounds_toArray, List.set_cons_zero, List.set_cons_succ]
          refine takeS_at (i := 11) (d := some 59) (v := ?_) rfl rfl (by kernel_rfl) (by kernel_rfl) (by kernel_rfl) (fun _ _ _ h => h) (Or.inl ⟨by rfl, ?hy⟩) hSc ?_
          case hy => (intro w hSw; (try dsimp only at hSw); go_simp; try with_reducible rfl)
          simp only [Act.put, List.setIfInBounds_toArray, List.set_cons_zero, List.set_cons_succ]
          refine takeS_at (i := 12) (d := some 60) (v := ?_) rfl rfl (by kernel_rfl) (by kernel_rfl) (by kernel_rfl) (fun _ _ _ h => h) (Or.inl ⟨by rfl, ?hy⟩) hSc ?_
          case hy => (intro w hSw; (try dsimp only at hSw); go_simp; try with_reducible rfl)
          simp only [Act.put, List.setIfInBounds_toArray, List.set_cons_zero, List.set_cons_succ]
          refine takeS_at (i := 13) (d := some 61) (v := ?_) rfl rfl (by kernel_rfl) (by kernel_rfl) (by kernel_rfl) (fun _ _ _ h => h) (Or.inl ⟨by rfl, ?hy⟩) hSc ?_
          case hy => (intro w hSw; (try dsimp only at hSw); go_simp; try with_reducible rfl)
          simp only [Act.put, List.setIfInBounds_toArray, List.set_cons_zero, List.set_cons_succ]
          refine takeS_at (i := 14) (d := some 62) (v := ?_) rfl rfl (by kernel_rfl) (by kernel_rfl) (by kernel_rfl) (fun _ _ _ h => h) (Or.inl ⟨by rfl, ?hy⟩) hSc ?_
          case hy => (intro w hSw; (try dsimp only at hSw); go_simp; try with_reducible rfl)
          simp only [Act.put, List.setIfInBounds_toArray, List.set_cons_zero, List.set_cons_succ]
          refine takeS_at (i := 15) (d := some 63) (v := ?_) rfl rfl (by kernel_rfl) (by kernel_rfl) (by kernel_rfl) (fun _ _ _ h => h) (Or.inl ⟨by rfl, ?hy⟩) hSc ?_
          case hy => (intro w hSw; (try dsimp only at hSw); go_simp; try with_reducible rfl)
          simp only [Act.put, List.setIfInBounds_toArray, List.set_cons_zero, List.set_cons_succ]
          refine takeS_at (i := 16) (d := some 64) (v := ?_) rfl rfl (by kernel_rfl) (by kernel_rfl) (by kernel_rfl) (fun _ _ _ h => h) (Or.inl ⟨by rfl, ?hy⟩) hSc ?_
          case hy => (intro w hSw; (try dsimp only at hSw); go_simp; try with_reducible rfl)
          simp only [Act.put, List.setIfInBounds_toArray, List.set_cons_zero, List.set_cons_succ]
          refine takeS_at (i := 17) (d := some 65) (v := ?_) rfl rfl (by kernel_rfl) (by kernel_rfl) (by kernel_rfl) (fun _ _ _ h => h) (Or.inl ⟨by rfl, ?hy⟩) hSc ?_
          case hy => (intro w hSw; (try dsimp only at hSw); go_simp; try with_reducible rfl)
          simp only [Act.put, List.setIfInBounds_toArray, List.set_cons_zero, List.set_cons_succ]
          refine takeS_at (i := 18) (d := some 66) (v := ?_) rfl rfl (by kernel_rfl) (by kernel_rfl) (by kernel_rfl) (fun _ _ _ h => h) (Or.inl ⟨by rfl, ?hy⟩) hSc ?_
          case hy => (intro w hSw; (try dsimp only at hSw); go_simp; try with_reducible rfl)
          simp only [Act.put, List.setIfInBounds_toArray, List.set_cons_zero, List.set_cons_succ]
          refine takeS_at (i := 19) (d := some 67) (v := ?_) rfl rfl (by kernel_rfl) (by kernel_rfl) (by kernel_rfl) (fun _ _ _ h => h) (Or.inl ⟨by rfl, ?hy⟩) hSc ?_
          case hy => (intro w hSw; (try dsimp only at hSw); go_simp; try with_reducible rfl)
          simp only [Act.put, List.setIfInBounds_toArray, List.set_cons_zero, List.set_cons_succ]
          refine wpAnyH_ready (rs := [20]) (by kernel_rfl) (by simp) ?_
          refine AllReadyH.cons rfl (fun K hK => ?_) AllReadyH.nil
          go_simp
          refine CId.mono ?_
          rintro e w4 ⟨rfl, rfl⟩
          refine hK.out _ _ ⟨cmd, cid⟩ (fun hSn => ?_)
          clear hK K
          refine takeS_at (i := 21) (d := some 69) (v := ?_) rfl rfl (by kernel_rfl) (by kernel_rfl) (by kernel_rfl) (fun _ _ _ h => h) (Or.inl ⟨by rfl, ?hy⟩) hSn ?_
          case hy => (intro w hSw; (try dsimp only at hSw); go_simp; try with_reducible rfl)
          simp only [Act.put, List.setIfInBounds_toArray, List.set_cons_zero, List.set_cons_succ]
          refine takeS_at (i := 22) (d := some 70) (v := ?_) rfl rfl (by kernel_rfl) (by kernel_rfl) (by kernel_rfl) (fun _ _ _ h => h) (Or.inl ⟨by rfl, ?hy⟩) hSn ?_
          case hy => (intro w hSw; (try dsimp only at hSw); go_simp; try with_reducible rfl)
          simp only [Act.put, List.setIfInBounds_toArray, List.set_cons_zero, List.set_cons_succ]
          refine takeS_at (i := 23) (d := some 71) (v := ?_) rfl rfl (by kernel_rfl) (by kernel_rfl) (by kernel_rfl) (fun _ _ _ h => h) (Or.inl ⟨by rfl, ?hy⟩) hSn ?_
          case hy => (intro w hSw; (try dsimp only at hSw); go_simp; try with_reducible rfl)
          simp only [Act.put, List.setIfInBounds_toArray, List.set_cons_zero, List.set_cons_succ]
          refine takeS_at (i := 24) (d := some 72) (v := ?_) rfl rfl (by kernel_rfl) (by kernel_rfl) (by kernel_rfl) (fun _ _ _ h => h) (Or.inl ⟨by rfl, ?hy⟩) hSn ?_
          case hy => (intro w hSw; (try dsimp only at hSw); go_simp; try with_reducible rfl)
          simp only [Act.put, List.setIfInBounds_toArray, List.set_cons_zero, List.set_cons_succ]
          refine takeS_at (i := 25) (d := some 73) (v := ?_) rfl rfl (by kernel_rfl) (by kernel_rfl) (by kernel_rfl) (fun _ _ _ h => h) (Or.inl ⟨by rfl, ?hy⟩) hSn ?_
          case hy => (intro w hSw; (try dsimp only at hSw); go_simp; try with_reducible rfl)
          simp only [Act.put, List.setIfInBounds_toArray, List.set_cons_zero, List.set_cons_succ]
          refine takeS_at (i := 26) (d := some 74) (v := ?_) rfl rfl (by kernel_rfl) (by kernel_rfl) (by kernel_rfl) (fun _ _ _ h => h) (Or.inl ⟨by rfl, ?hy⟩) hSn ?_
          case hy => (intro w hSw; (try dsimp only at hSw); go_simp; try with_reducible rfl)
          simp only [Act.put, List.setIfInBounds_toArray, List.set_cons_zero, List.set_cons_succ]
          refine takeS_at (i := 27) (d := some 75) (v := ?_) rfl rfl (by kernel_rfl) (by kernel_rfl) (by kernel_rfl) (fun _ _ _ h => h) (Or.inl ⟨by rfl, ?hy⟩) hSn ?_
          case hy => (intro w hSw; (try dsimp only at hSw); go_simp; try with_reducible rfl)
          simp only [Act.put, List.setIfInBounds_toArray, List.set_cons_zero, List.set_cons_succ]
          refine takeS_at (i := 28) (d := some 76) (v := ?_) rfl rfl (by kernel_rfl) (by kernel_rfl) (by kernel_rfl) (fun _ _ _ h => h) (Or.inl ⟨by rfl, ?hy⟩) hSn ?_
          case hy => (intro w hSw; (try dsimp only at hSw); go_simp; try with_reducible rfl)
          simp only [Act.put, List.setIfInBounds_toArray, List.set_cons_zero, List.set_cons_succ]
          refine takeS_at (i := 29) (d := some 77) (v := ?_) rfl rfl (by kernel_rfl) (by kernel_rfl) (by kernel_rfl) (fun _ _ _ h => h) (Or.inl ⟨by rfl, ?hy⟩) hSn ?_
          case hy => (intro w hSw; (try dsimp only at hSw); go_simp; try with_reducible rfl)
          simp only [Act.put, List.setIfInBounds_toArray, List.set_cons_zero, List.set_cons_succ]
          refine takeS_at (i := 30) (d := some 78) (v := ?_) rfl rfl (by kernel_rfl) (by kernel_rfl) (by kernel_rfl) (fun _ _ _ h => h) (Or.inl ⟨by rfl, ?hy⟩) hSn ?_
          case hy => (intro w hSw; (try dsimp only at hSw); go_simp; try with_reducible rfl)
          simp only [Act.put, List.setIfInBounds_toArray, List.set_cons_zero, List.set_cons_succ]
          refine takeS_at (i := 31) (d := some 79) (v := ?_) rfl rfl (by kernel_rfl) (by kernel_rfl) (by kernel_rfl) (fun _ _ _ h => h) (Or.inl ⟨by rfl, ?hy⟩) hSn ?_
          case hy => (intro w hSw; (try dsimp only at hSw); go_simp; try with_reducible rfl)
          simp only [Act.put, List.setIfInBounds_toArray, List.set_cons_zero, List.set_cons_succ]
          refine takeS_at (i := 32) (d := some 80) (v := ?_) rfl rfl (by kernel_rfl) (by kernel_rfl) (by kernel_rfl) (fun _ _ _ h => h) (Or.inl ⟨by rfl, ?hy⟩) hSn ?_
          case hy => (intro w hSw; (try dsimp only at hSw); go_simp; try with_reducible rfl)
          simp only [Act.put, List.setIfInBounds_toArray, List.set_cons_zero, List.set_cons_succ]
          refine takeS_at (i := 33) (d := some 81) (v := ?_) rfl rfl (by kernel_rfl) (by kernel_rfl) (by kernel_rfl) (fun _ _ _ h => h) (Or.inl ⟨by rfl, ?hy⟩) hSn ?_
          case hy => (intro w hSw; (try dsimp only at hSw); go_simp; try with_reducible rfl)
          simp only [Act.put, List.setIfInBounds_toArray, List.set_cons_zero, List.set_cons_succ]
          refine takeS_at (i := 34) (d := some 82) (v := ?_) rfl rfl (by kernel_rfl) (by kernel_rfl) (by kernel_rfl) (fun _ _ _ h => h) (Or.inl ⟨by rfl, ?hy⟩) hSn ?_
          case hy => (intro w hSw; (try dsimp only at hSw); go_simp; try with_reducible rfl)
          simp only [Act.put, List.setIfInBounds_toArray, List.set_cons_zero, List.set_cons_succ]
          refine takeS_at (i := 35) (d := some 83) (v := ?_) rfl rfl (by kernel_rfl) (by kernel_rfl) (by kernel_rfl) (fun _ _ _ h => h) (Or.inl ⟨by rfl, ?hy⟩) hSn ?_
          case hy => (intro w hSw; (try dsimp only at hSw); go_simp; try with_reducible rfl)
          simp only [Act.put, List.setIfInBounds_toArray, List.set_cons_zero, List.set_cons_succ]
          refine takeS_at (i := 36) (d := some 84) (v := undef) rfl rfl (by kernel_rfl) (by kernel_rfl) (by kernel_rfl) (fun _ _ _ h => h) (Or.inr ⟨by rfl, rfl⟩) hSn ?_
          simp only [Act.put, List.setIfInBounds_toArray, List.set_cons_zero, List.set_cons_succ]
          refine takeS_at (i := 37) (d := some 85) (v := undef) rfl rfl (by kernel_rfl) (by kernel_rfl) (by kernel_rfl) (fun _ _ _ h => h) (Or.inr ⟨by rfl, rfl⟩) hSn ?_
          simp only [Act.put, List.setIfInBounds_toArray, List.set_cons_zero, List.set_cons_succ]
          refine takeS_at (i := 38) (d := some 86) (v := undef) rfl rfl (by kernel_rfl) (by kernel_rfl) (by kernel_rfl) (fun _ _ _ h => h) (Or.inr ⟨by rfl, rfl⟩) hSn ?_
          simp only [Act.put, List.setIfInBounds_toArray, List.set_cons_zero, List.set_cons_succ]
          refine takeS_at (i := 39) (d := some 87) (v := undef) rfl rfl (by kernel_rfl) (by kernel_rfl) (by kernel_rfl) (fun _ _ _ h => h) (Or.inr ⟨by rfl, rfl⟩) hSn ?_
          simp only [Act.put, List.setIfInBounds_toArray, List.set_cons_zero, List.set_cons_succ]
          refine takeS_at (i := 40) (d := some 88) (v := undef) rfl rfl (by kernel_rfl) (by kernel_rfl) (by kernel_rfl) (fun _ _ _ h => h) (Or.inr ⟨by rfl, rfl⟩) hSn ?_
          simp only [Act.put, List.setIfInBounds_toArray, List.set_cons_zero, List.set_cons_succ]
          refine takeS_at (i := 41) (d := some 89) (v := undef) rfl rfl (by kernel_rfl) (by kernel_rfl) (by kernel_rfl) (fun _ _ _ h => h) (Or.inr ⟨by rfl, rfl⟩) hSn ?_
          simp only [Act.put, List.setIfInBounds_toArray, List.set_cons_zero, List.set_cons_succ]
          refine takeS_at (i := 42) (d := some 90) (v := undef) rfl rfl (by kernel_rfl) (by kernel_rfl) (by kernel_rfl) (fun _ _ _ h => h) (Or.inr ⟨by rfl, rfl⟩) hSn ?_
          simp only [Act.put, List.setIfInBounds_toArray, List.set_cons_zero, List.set_cons_succ]
          refine takeS_at (i := 43) (d := some 91) (v := undef) rfl rfl (by kernel_rfl) (by kernel_rfl) (by kernel_rfl) (fun _ _ _ h => h) (Or.inr ⟨by rfl, rfl⟩) hSn ?_
          simp only [Act.put, List.setIfInBounds_toArray, List.set_cons_zero, List.set_cons_succ]
          refine takeS_at (i := 44) (d := some 92) (v := undef) rfl rfl (by kernel_rfl) (by kernel_rfl) (by kernel_rfl) (fun _ _ _ h => h) (Or.inr ⟨by rfl, rfl⟩) hSn ?_
          simp only [Act.put, List.setIfInBounds_toArray, List.set_cons_zero, List.set_cons_succ]
          refine takeS_at (i := 45) (d := some 93) (v := undef) rfl rfl (by kernel_rfl) (by kernel_rfl) (by kernel_rfl) (fun _ _ _ h => h) (Or.inr ⟨by rfl, rfl⟩) hSn ?_
          simp only [Act.put, List.setIfInBounds_toArray, List.set_cons_zero, List.set_cons_succ]
          refine takeS_at (i := 46) (d := some 94) (v := ?_) rfl rfl (by kernel_rfl) (by kernel_rfl) (by kernel_rfl) (fun _ _ _ h => h) (Or.inl ⟨by rfl, ?hy⟩) hSn ?_
          case hy => (intro w hSw; (try dsimp only at hSw); go_simp; try with_reducible rfl)
          simp only [Act.put, List.setIfInBounds_toArray, List.set_cons_zero, List.set_cons_succ]
          refine takeS_at (i := 47) (d := some 95) (v := ?_) rfl rfl (by kernel_rfl) (by kernel_rfl) (by kernel_rfl) (fun _ _ _ h => h) (Or.inl ⟨by rfl, ?hy⟩) hSn ?_
          case hy => (intro w hSw; (try dsimp only at hSw); go_simp; try with_reducible rfl)
          simp only [Act.put, List.setIfInBounds_toArray, List.set_cons_zero, List.set_cons_succ]
          refine wpAnyH_done (by kernel_rfl) ?_ _
          refine NoPanic.normal ?_
          clear CId cmd cid
          go_wp2_with fail
          go_roundw
          case rel =>
            have hp := HM.out.put v
            refine ⟨0 + 1, _, by omega, rfl, hp.same rfl, ?_, (HGL.out.same (w' := wr.setCell ⟨gi, v, none⟩ (.bool true)) (setCell_blk hgne)).same rfl, (HBR.out.setCell (p := ⟨gi, v, none⟩) (Nat.le_refl _) _).drew⟩
            show ∀ k : Nat, _
            intro k
            rw [List.take_add_one, HAT.out]
            simp only [Bool.or_eq_true, decide_eq_true_eq, HIN.out k, Option.toList_some, List.mem_append, List.mem_singleton, Int.ofNat_inj]
          case measure => simp [intOf]; omega
      · obtain rfl : i = nm := by omega
        have ti : ((i : Int) < (i : Int)) = False := by simp
        have hinf : ∀ k, inn k = true ↔ f k = true := fun k => by
          rw [HIN.out k, List.take_of_length_le (by rw [HNM.out]; exact Nat.le_refl _), nbs_mem]
          constructor
          · rintro ⟨q, e, _, hq⟩
            obtain rfl : k = q := by omega
            exact hq
          · intro hk
            exact ⟨k, rfl, (HFN.out k hk).2, hk⟩
        have HINF := Lib.hid hinf
        have HM := Lib.hid hM
        have HGL := Lib.hid hGl
        have HBR := Lib.hid hBr
        have hgne : gl ≠ gi := by omega
        clear hM hGl hBr hQr hinf HIN
        obtain ⟨-, -, -, rb, ro, hra, hrc⟩ := H2.out
        have HRA := Lib.hid hra
        have HRC := Lib.hid hrc
        clear hra hrc
        have hBsub : ∀ wr, Below gi w2 wr → Below w0.heap.size w0 wr := fun wr hb => HB2.out.trans (hb.mono (by rw [← HGI.out]; exact HB2.out.size))
        have HBSUB := Lib.hid hBsub
        clear hBsub
        go_wp2_with fail
        go_loopw [14] (fun v14 wr => ∃ (j : Nat) (ld : Nat → Bool), j ≤ n2 ∧ v14 = .int .i64 (j : Int) ∧ Bm wr gi n0 inn ∧ Bm wr gl n0 ld ∧ Hid (∀ k : Nat, ld k = true ↔ tk ss k = true ∧ (k : Int) ∈ R.take j) ∧ Below gi w2 wr) (fun v14 _ => n2 - (intOf v14).toNat)
        case atStart => exact ⟨0, _, Nat.zero_le _, rfl, HM.out, HGL.out, (by show ∀ k : Nat, _; intro k; simp), HBR.out⟩
        case round =>
          clear HM HGL HBR
          obtain ⟨j, ld, hj2, rfl, hM, hGl, HLD, hBr⟩ := hrel
          have hQr := HQB.out wr hBr
          by_cases hjl : j < n2
          · have tj : (j : Int) < (n2 : Int) := by omega
            have tj0 : (0 : Int) ≤ (j : Int) := by omega
            have ej : IntKind.i64.wrap ((j : Int) + 1) = ((j + 1 : Nat) : Int) := by rw [i64_small (by omega) (by omega)]; omega
            obtain ⟨hre, hrb⟩ := HRA.out (by omega)
            subst hre
            have cr := ((HBSUB.out wr hBr).cell (p := ⟨rb, ro + j, none⟩) hrb).trans (HRC.out j hjl)
            have htk : R.take (j + 1) = R.take j ++ [R[j]?.getD 0] := by
              rw [List.take_add_one, List.getElem?_eq_getElem (by have := HN2.out; omega)]
              simp
            have hmem : R[j]?.getD 0 ∈ R := by
              rw [List.getElem?_eq_getElem (by have := HN2.out; omega)]
              simp
            have HTK := Lib.hid htk
            have HMEM := Lib.hid hmem
            clear htk hmem
            generalize R[j]?.getD 0 = x at *
            have CI := ris_any hQr x
            have HM := Lib.hid hM
            have HGL := Lib.hid hGl
            have HBR := Lib.hid hBr
            cases hT : isT ss x with
            | false =>
              rw [hT] at CI
              clear hM hGl hBr hQr
              go_wp2_with fail
              refine CI.mono ?_
              rintro e w5 ⟨rfl, rfl⟩
              clear CI
              go_wp2_with fail
              go_roundw
              case rel =>
                refine ⟨j + 1, ld, by omega, rfl, HM.out, HGL.out, ?_, HBR.out⟩
                show ∀ k : Nat, _
                intro k
                rw [HLD.out k, HTK.out, List.mem_append, List.mem_singleton]
                constructor
                · rintro ⟨a, b⟩; exact ⟨a, Or.inl b⟩
                · rintro ⟨a, b | b⟩
                  · exact ⟨a, b⟩
                  · rw [← b, isT_nat ss k (tk_lt a)] at hT
                    exact absurd a (by unfold tk; rw [hT]; simp)
              case measure => simp [intOf]; omega
            | true =>
              obtain ⟨v, rfl, hvl, hvt⟩ := isT_ex hT
              rw [hT] at CI
              rw [HLEN.out] at hvl
              have hfv : inn v = true := (HINF.out v).2 ((HF.out v).2 (.root hvt HMEM.out))
              have ci := hM.cell v hvl
              rw [hfv] at ci
              have cg := hGl.cell v hvl
              have zg := hGl.frozen v
              have tv2 : (v : Int) < (n0 : Int) := by omega
              have tv3 : (0 : Int) ≤ (v : Int) := by omega
              clear hM hGl hBr hQr
              go_wp2_with fail
              refine CI.mono ?_
              rintro e w5 ⟨rfl, rfl⟩
              clear CI
              go_wp2_with fail
              go_roundw
              case rel =>
                refine ⟨j + 1, _, by omega, rfl, HM.out.same (setCell_blk (fun e => hgne e.symm)), HGL.out.put v, ?_, HBR.out.setCell (p := ⟨gl, v, none⟩) (by show gi ≤ gl; omega) _⟩
                show ∀ k : Nat, _
                intro k
                simp only [Bool.or_eq_true, decide_eq_true_eq]
                rw [HLD.out k, HTK.out, List.mem_append, List.mem_singleton]
                constructor
                · rintro (⟨a, b⟩ | b)
                  · exact ⟨a, Or.inl b⟩
                  · rw [b]; exact ⟨hvt, Or.inr rfl⟩
                · rintro ⟨a, b | b⟩
                  · exact Or.inl ⟨a, b⟩
                  · exact Or.inr (by omega)
              case measure => simp [intOf]; omega
          · obtain rfl : j = n2 := by omega
            have tj : ((j : Int) < (j : Int)) = False := by simp
            have hpt : Pt (tk ss) R n0 f ld ld := by
              have := HN2.out
              have hld := HLD.out
              rw [List.take_of_length_le (by omega)] at hld
              exact ⟨fun k hk => (HF.out k).2 (.root ((hld k).1 hk).1 ((hld k).1 hk).2), fun q hq hR => (hld q).2 ⟨hq, hR⟩, Or.inl rfl⟩
            have HPT := Lib.hid hpt
            have HM := Lib.hid hM
            have HGL := Lib.hid hGl
            have HBR := Lib.hid hBr
            clear hM hGl hBr hQr hpt HLD
            obtain ⟨-, lb, lo, hla, hlcell⟩ := H0.out
            have HLA := Lib.hid hla
            have HLC := Lib.hid hlcell
            clear hla hlcell
            have hmv : ∀ wr, Below gi w2 wr → ∀ p, p < i → ∃ v : Nat, ma = some ⟨mb, mo, none⟩ ∧ wr.cell? ⟨mb, mo + p, none⟩ = some (.int .i64 (v : Int)) ∧ f v = true ∧ v < n0 ∧ (nbs f n0)[p]? = some (v : Int) := fun wr hb p hp => by
              have hat := List.getElem?_eq_getElem (show p < (nbs f n0).length by rw [HNM.out]; exact hp)
              obtain ⟨v, hv, hvn, hfv⟩ := nbs_mem.1 (List.getElem_mem (show p < (nbs f n0).length by rw [HNM.out]; exact hp))
              rw [hv] at hat
              obtain ⟨h1, h2⟩ := HMCELL.out wr hb p hp
              rw [hat] at h2
              exact ⟨v, h1, h2, hfv, hvn, hat⟩
            have HMV := Lib.hid hmv
            clear hmv
            go_wp2_with fail
            go_loopw [15] (fun v15 wr => ∃ (t : Nat) (ld : Nat → Bool), t ≤ i ∧ v15 = .int .i64 (t : Int) ∧ Bm wr gi n0 inn ∧ Bm wr gl n0 ld ∧ Pt (tk ss) R n0 f ld ld ∧ Fin n0 f ld t ∧ Below gi w2 wr) (fun v15 _ => i - (intOf v15).toNat)
            case atStart => exact ⟨0, ld, Nat.zero_le _, rfl, HM.out, HGL.out, HPT.out, Or.inr (Nat.zero_le _), HBR.out⟩
            case round =>
              clear HM HGL HBR HPT
              obtain ⟨t, L0, hti, rfl, hM, hGl, hP0, hF0, hBr⟩ := hrel
              have HM := Lib.hid hM
              have HGL := Lib.hid hGl
              have HBR := Lib.hid hBr
              have HP0 := Lib.hid hP0
              have HF0 := Lib.hid hF0
              clear hM hGl hBr hP0 hF0
              by_cases htl2 : t < i
              · have tt : (t : Int) < (i : Int) := by omega
                have et : IntKind.i64.wrap ((t : Int) + 1) = ((t + 1 : Nat) : Int) := by rw [i64_small (by omega) (by omega)]; omega
                go_wp2_with fail
                go_loopw [16] (fun v16 wr => ∃ (p : Nat) (ld : Nat → Bool), p ≤ i ∧ v16 = .int .i64 (p : Int) ∧ Bm wr gi n0 inn ∧ Bm wr gl n0 ld ∧ Pt (tk ss) R n0 f L0 ld ∧ Hid (∀ k, L0 k = true → ld k = true) ∧ Hid (ld = L0 → ∀ v : Nat, (v : Int) ∈ (nbs f n0).take p → Cl (tk ss) (lsOf true ss) L0 v) ∧ Below gi w2 wr) (fun v16 _ => i - (intOf v16).toNat)
                case atStart => exact ⟨0, L0, Nat.zero_le _, rfl, HM.out, HGL.out, ⟨HP0.out.sub, HP0.out.rts, Or.inl rfl⟩, (by show ∀ k, _; exact fun _ h => h), (by show _ → _; intro _ v hv; simp at hv), HBR.out⟩
                case round =>
                  clear HM HGL HBR
                  obtain ⟨p, ld2, hpi, rfl, hM, hGl, hP, HUP, HCL, hBr⟩ := hrel
                  by_cases hpl : p < i
                  · have tp : (p : Int) < (i : Int) := by omega
                    have tp0 : (0 : Int) ≤ (p : Int) := by omega
                    have ep : IntKind.i64.wrap ((p : Int) + 1) = ((p + 1 : Nat) : Int) := by rw [i64_small (by omega) (by omega)]; omega
                    obtain ⟨v, hma, cm, hfv, hvn, hat⟩ := HMV.out wr hBr p hpl
                    subst hma
                    have hvt := (HFN.out v hfv).1
                    have hls : lsOf true ss v = (G v).l := HLS.out v hvt
                    obtain ⟨hle, hlb⟩ := HLA.out (by omega)
                    subst hle
                    obtain ⟨hlc0, hlz, -⟩ := HLC.out v hvn
                    obtain ⟨hxn, -, -, xb, xo, hxa, hxcell⟩ := hlz
                    have h60v := h60 v hvn
                    have tv2 : (v : Int) < (n0 : Int) := by omega
                    have tv3 : (0 : Int) ≤ (v : Int) := by omega
                    have HXA := Lib.hid hxa
                    have HXC := Lib.hid hxcell
                    have HXN := Lib.hid hxn
                    have HLSV := Lib.hid hls
                    have HLC0 := Lib.hid hlc0
                    have HM := Lib.hid hM
                    have HGL := Lib.hid hGl
                    have HBR := Lib.hid hBr
                    have HP := Lib.hid hP
                    have HAT := Lib.hid hat
                    clear hM hGl hBr hP hxa hxcell hxn hls hlc0 hat cm
                    generalize G v = y at *
                    go_wp2_with fail
                    go_loopw [17] (fun v17 wr => ∃ (k : Nat) (ld : Nat → Bool), k ≤ y.n ∧ v17 = .int .i64 (k : Int) ∧ Bm wr gi n0 inn ∧ Bm wr gl n0 ld ∧ Pt (tk ss) R n0 f L0 ld ∧ Hid (∀ k, L0 k = true → ld k = true) ∧ Hid (ld = L0 → (∀ v : Nat, (v : Int) ∈ (nbs f n0).take p → Cl (tk ss) (lsOf true ss) L0 v) ∧ ∀ j : Nat, tk ss j = true → (j : Int) ∈ y.l.take k → L0 j = true) ∧ Below gi w2 wr) (fun v17 _ => y.n - (intOf v17).toNat)
                    case atStart => exact ⟨0, ld2, Nat.zero_le _, rfl, HM.out, HGL.out, HP.out, HUP, (by show _ → _; intro e; exact ⟨HCL.out e, fun j _ h => by simp at h⟩), HBR.out⟩
                    case round =>
                      clear HM HGL HBR HP HUP HCL
                      obtain ⟨k, ld3, hky, rfl, hM, hGl, hP, HUP, HCL, hBr⟩ := hrel
                      obtain ⟨v', hma, cm, _, _, hat'⟩ := HMV.out wr hBr p hpl
                      rw [HAT.out] at hat'
                      have hvv : v' = v := by injection hat' with hat'; omega
                      subst hvv
                      have cg := hGl.cell v' hvn
                      have clc := ((HBSUB.out wr hBr).cell (p := ⟨lb, lo + v', none⟩) hlb).trans HLC0.out
                      have hQr := HQB.out wr hBr
                      have HM := Lib.hid hM
                      have HGL := Lib.hid hGl
                      have HBR := Lib.hid hBr
                      have HP := Lib.hid hP
                      clear hma hat'
                      by_cases hgo : ld3 v' = true ∧ k < y.n
                      · obtain ⟨hlv, hkl⟩ := hgo
                        rw [hlv] at cg
                        have tk1 : (k : Int) < (y.n : Int) := by omega
                        have tk0 : (0 : Int) ≤ (k : Int) := by omega
                        have ek : IntKind.i64.wrap ((k : Int) + 1) = ((k + 1 : Nat) : Int) := by rw [i64_small (by omega) (by omega)]; omega
                        obtain ⟨hya, hxb⟩ := HXA.out (by omega)
                        rw [hya] at clc
                        have cx := ((HBSUB.out wr hBr).cell (p := ⟨xb, xo + k, none⟩) hxb).trans (HXC.out k hkl)
                        have htake : y.l.take (k + 1) = y.l.take k ++ [y.l[k]?.getD 0] := by
                          rw [List.take_add_one, List.getElem?_eq_getElem (by have := HXN.out; omega)]
                          simp
                        have hmem : y.l[k]?.getD 0 ∈ lsOf true ss v' := by
                          rw [HLSV.out, List.getElem?_eq_getElem (by have := HXN.out; omega)]
                          simp
                        have HTA := Lib.hid htake
                        have HME := Lib.hid hmem
                        clear htake hmem hM hGl hBr hP
                        generalize y.l[k]?.getD 0 = x at *
                        have CI := ris_any hQr x
                        clear hQr
                        cases hT : isT ss x with
                        | false =>
                          rw [hT] at CI
                          go_wp2_with fail
                          refine CI.mono ?_
                          rintro e w5 ⟨rfl, rfl⟩
                          clear CI
                          go_wp2_with fail
                          go_roundw
                          case rel =>
                            refine ⟨k + 1, ld3, by omega, rfl, HM.out, HGL.out, HP.out, HUP, ?_, HBR.out⟩
                            show _ → _
                            intro e
                            refine ⟨(HCL.out e).1, fun j hj hm => ?_⟩
                            rw [HTA.out, List.mem_append, List.mem_singleton] at hm
                            rcases hm with hm | hm
                            · exact (HCL.out e).2 j hj hm
                            · rw [← hm, isT_nat ss j (tk_lt hj)] at hT
                              exact absurd hj (by unfold tk; rw [hT]; simp)
                          case measure => simp [intOf]; omega
                        | true =>
                          obtain ⟨j, rfl, hjl, hjt⟩ := isT_ex hT
                          rw [hT] at CI
                          rw [HLEN.out] at hjl
                          have hfj : f j = true := (HF.out j).2 (.lead ((HF.out v').1 hfv) hjt HME.out)
                          have hij : inn j = true := (HINF.out j).2 hfj
                          have ci := HM.out.cell j hjl
                          rw [hij] at ci
                          have cj := HGL.out.cell j hjl
                          have zj := HGL.out.frozen j
                          have tj1 : (j : Int) < (n0 : Int) := by omega
                          have tj0 : (0 : Int) ≤ (j : Int) := by omega
                          go_wp2_with fail
                          refine CI.mono ?_
                          rintro e w5 ⟨rfl, rfl⟩
                          clear CI
                          go_wp2_with fail
                          go_roundw
                          case rel =>
                            refine ⟨k + 1, _, by omega, rfl, HM.out.same (setCell_blk (fun e => hgne e.symm)), HGL.out.put j, HP.out.put hfj hjl, ?_, ?_, HBR.out.setCell (p := ⟨gl, j, none⟩) (by show gi ≤ gl; omega) _⟩
                            · show ∀ k, _
                              intro k hk
                              simp only [Bool.or_eq_true]
                              exact Or.inl (HUP.out k hk)
                            · show _ → _
                              intro e
                              have hlj : L0 j = true := by rw [← e]; simp
                              have hld : ld3 = L0 := by
                                funext k
                                have h1 := congrFun e k
                                cases e2 : ld3 k with
                                | true => rw [← h1, e2]; rfl
                                | false =>
                                  cases e3 : L0 k with
                                  | false => rfl
                                  | true => have := HUP.out k e3; rw [e2] at this; cases this
                              refine ⟨(HCL.out hld).1, fun j' hj' hm => ?_⟩
                              rw [HTA.out, List.mem_append, List.mem_singleton] at hm
                              rcases hm with hm | hm
                              · exact (HCL.out hld).2 j' hj' hm
                              · obtain rfl : j' = j := by omega
                                exact hlj
                          case measure => simp [intOf]; omega
                      · have hex : ld3 = L0 → ∀ u : Nat, (u : Int) ∈ (nbs f n0).take (p + 1) → Cl (tk ss) (lsOf true ss) L0 u := fun e u hu => by
                          rw [List.take_add_one, HAT.out] at hu
                          simp only [Option.toList_some, List.mem_append, List.mem_singleton] at hu
                          rcases hu with hu | hu
                          · exact (HCL.out e).1 u hu
                          · obtain rfl : u = v' := by omega
                            intro hl0 j hj hm
                            have hkn : k = y.n := by
                              apply Classical.byContradiction
                              intro hc
                              exact hgo ⟨by rw [e]; exact hl0, by omega⟩
                            refine (HCL.out e).2 j hj ?_
                            rw [HLSV.out] at hm
                            have := HXN.out
                            rw [List.take_of_length_le (by omega)]
                            exact hm
                        have HEX := Lib.hid hex
                        clear hM hGl hBr hP hQr hex
                        cases hlv : ld3 v' with
                        | false =>
                          rw [hlv] at cg
                          go_wp2_with fail
                          go_roundw
                          case rel => exact ⟨p + 1, ld3, by omega, rfl, HM.out, HGL.out, HP.out, HUP, HEX.out, HBR.out⟩
                          case measure => simp [intOf]; omega
                        | true =>
                          rw [hlv] at cg
                          have hkn : ¬ k < y.n := fun h => hgo ⟨hlv, h⟩
                          have tk1 : ((k : Int) < (y.n : Int)) = False := by simp; omega
                          go_wp2_with fail
                          go_roundw
                          case rel => exact ⟨p + 1, ld3, by omega, rfl, HM.out, HGL.out, HP.out, HUP, HEX.out, HBR.out⟩
                          case measure => simp [intOf]; omega
                  · obtain rfl : p = i := by omega
                    have tp : ((p : Int) < (p : Int)) = False := by simp
                    have hfin := hP.turn HF0.out HUP.out HF.out (fun e k hk => HCL.out e k (by
                      rw [List.take_of_length_le (by rw [HNM.out]; exact Nat.le_refl _)]
                      exact nbs_mem.2 ⟨k, rfl, (HFN.out k hk).2, hk⟩))
                    have HM := Lib.hid hM
                    have HGL := Lib.hid hGl
                    have HBR := Lib.hid hBr
                    have HP := Lib.hid hP
                    have HFIN := Lib.hid hfin
                    clear hM hGl hBr hP hfin
                    go_wp2_with fail
                    go_roundw
                    case rel => exact ⟨t + 1, ld2, by omega, rfl, HM.out, HGL.out, ⟨HP.out.sub, HP.out.rts, Or.inl rfl⟩, HFIN.out, HBR.out⟩
                    case measure => simp [intOf]; omega
              · obtain rfl : t = i := by omega
                have tt : ((t : Int) < (t : Int)) = False := by simp
                have hall := Fin.all (f := f) (ld := L0) (n := n0) (by rw [HNM.out]; exact HF0.out) HP0.out.sub (fun k hk => (HFN.out k hk).2)
                have HALL := Lib.hid hall
                clear hall
                go_wp2_with fail
                go_loopw [19] (fun v19 wr => ∃ p : Nat, p ≤ t ∧ v19 = .int .i64 (p : Int) ∧ Bm wr gl n0 L0 ∧ Below gi w2 wr) (fun v19 _ => t - (intOf v19).toNat)
                case atStart => exact ⟨0, Nat.zero_le _, rfl, HGL.out, HBR.out⟩
                case round =>
                  clear HGL HBR
                  obtain ⟨p, hpt2, rfl, hGl, hBr⟩ := hrel
                  by_cases hpl : p < t
                  · have tp : (p : Int) < (t : Int) := by omega
                    have tp0 : (0 : Int) ≤ (p : Int) := by omega
                    have ep : IntKind.i64.wrap ((p : Int) + 1) = ((p + 1 : Nat) : Int) := by rw [i64_small (by omega) (by omega)]; omega
                    obtain ⟨v, hma, cm, hfv, hvn, _⟩ := HMV.out wr hBr p hpl
                    subst hma
                    have cg := hGl.cell v hvn
                    rw [HALL.out v hfv] at cg
                    have tv2 : (v : Int) < (n0 : Int) := by omega
                    have tv3 : (0 : Int) ≤ (v : Int) := by omega
                    have HGL := Lib.hid hGl
                    have HBR := Lib.hid hBr
                    clear hGl hBr
                    go_wp2_with fail
                    go_roundw
                    case rel => exact ⟨p + 1, by omega, rfl, HGL.out, HBR.out⟩
                    case measure => simp [intOf]; omega
                  · obtain rfl : p = t := by omega
                    have tp : ((p : Int) < (p : Int)) = False := by simp
                    have hBf := HBSUB.out wr hBr
                    have CA := awake12_any wr (HT.out.below hBf htl)
                    have HBF := Lib.hid hBf
                    clear hGl hBr hBf
                    go_wp2_with fail
                    refine CA.mono ?_
                    rintro e w9 ⟨rfl, hB89⟩
                    clear CA
                    go_wp2
                    go_ret
                    exact ⟨rfl, HBF.out.trans (hB89.mono HBF.out.size)⟩
end Go.Proofs.YtbnmnmbfdfgohaaDoor
