/-
  The reference's Mark.
-/
import Derived.Test.YtbnmnmbfdfgohaaDoorSwDiv
import Derived.Test.YtbnmnmbfdfgohaaDoorSmRef2
namespace Go.Proofs.YtbnmnmbfdfgohaaDoor
open Go.RowKit Go.WideShapes

theorem Rq.below {w w' : World} {q : Nat} {ss : List So} {lv tv : Value} {vs : List Value} {B : Nat} (h : Rq w q ss lv tv vs B) (hb : Below w.heap.size w w') (hB : B ≤ w.heap.size) : Rq w' q ss lv tv vs B := by
  refine h.same (fun k hk => hb.block k ?_) (hb.mono hB)
  rcases hk with e | e | e
  · rw [e]; exact lt_of_cell h.c0
  · exact (World.ownsRow.lt h.row k e).2
  · exact (World.ownsRow.lt h.tk k e).2
def bls (n : Nat) (f : Nat → Bool) : List Value := (List.range n).map fun j => Value.bool (f j)
theorem bls_len (n : Nat) (f : Nat → Bool) : (bls n f).length = n := by simp [bls]
theorem bls_get (n : Nat) (f : Nat → Bool) (j : Nat) (h : j < n) : (bls n f)[j]? = some (.bool (f j)) := by simp [bls, h]
theorem bls_set (n : Nat) (f : Nat → Bool) (j : Nat) : (bls n f).set j (.bool true) = bls n (fun k => f k || decide (k = j)) := by
  apply List.ext_getElem?
  intro k
  rw [List.getElem?_set]
  by_cases hk : k < n
  · rw [bls_get n _ k hk, bls_get n _ k hk, bls_len]
    by_cases e : j = k
    · subst e
      simp [hk]
    · have e2 : ¬ k = j := fun h => e h.symm
      rw [if_neg e]
      simp [e2]
  · rw [List.getElem?_eq_none (by rw [bls_len]; omega), List.getElem?_eq_none (by rw [bls_len]; omega)]
    split
    · rw [if_neg (by rw [bls_len]; omega)]
    · rfl
/-- Marks of the reference at block g. -/
def Bm (w : World) (g n : Nat) (f : Nat → Bool) : Prop := w.ownsRow 0 4 1 (.slice (some ⟨g, 0, none⟩) n n) n (bls n f)
theorem Bm.cell {w : World} {g n : Nat} {f : Nat → Bool} (h : Bm w g n f) (j : Nat) (hj : j < n) : w.cell? ⟨g, j, none⟩ = some (.bool (f j)) := by
  have h0 : w.ownsRow 0 4 1 (.slice (some ⟨g, 0, none⟩) n n) n (bls n f) := h
  rw [h0.cellAt j (by omega), bls_get n f j hj]
theorem Bm.frozen {w : World} {g n : Nat} {f : Nat → Bool} (h : Bm w g n f) (j : Nat) : w.frozen? ⟨g, j, none⟩ = false := by
  have h0 : w.ownsRow 0 4 1 (.slice (some ⟨g, 0, none⟩) n n) n (bls n f) := h
  exact h0.frozenAt j
theorem Bm.put {w : World} {g n : Nat} {f : Nat → Bool} (h : Bm w g n f) (j : Nat) : Bm (w.setCell ⟨g, j, none⟩ (.bool true)) g n (fun k => f k || decide (k = j)) := by
  have h0 : w.ownsRow 0 4 1 (.slice (some ⟨g, 0, none⟩) n n) n (bls n f) := h
  have h1 := (h0.stored j (.bool true)).1
  rw [bls_set] at h1
  exact h1
theorem Bm.lt {w : World} {g n : Nat} {f : Nat → Bool} (h : Bm w g n f) : g < w.heap.size := (World.ownsRow.lt h g rfl).2
theorem Bm.same {w w' : World} {g n : Nat} {f : Nat → Bool} (h : Bm w g n f) (he : w'.heap[g]? = w.heap[g]?) : Bm w' g n f := ownsS_same h (fun k hk => by injection hk with hk; rw [← hk]; exact he)
theorem bls_made (m : Nat) : (madeCells (Value.bool false).cells (m * 1)).toList = bls m (fun _ => false) := by
  rw [Nat.mul_one, show (Value.bool false).cells = #[Value.bool false] from rfl, toList_madeCells_one]
  apply List.ext_getElem?
  intro k
  by_cases hk : k < m
  · rw [bls_get m _ k hk]
    simp [hk]
  · rw [List.getElem?_eq_none (by simp; omega), List.getElem?_eq_none (by rw [bls_len]; omega)]
/-- What is marked so far is right, and has the roots. -/
structure Mr (T : Nat → Bool) (L : Nat → List Int) (R : List Int) (f : Nat → Bool) : Prop where
  rch : ∀ k, f k = true → Rch T L R k
  rts : ∀ j : Nat, T j = true → (j : Int) ∈ R → f j = true
/-- From i on all leads to what is marked. -/
def Cl (T : Nat → Bool) (L : Nat → List Int) (f : Nat → Bool) (i : Nat) : Prop := f i = true → ∀ j : Nat, T j = true → (j : Int) ∈ L i → f j = true
/-- How a pass stands. -/
structure Ps (T : Nat → Bool) (L : Nat → List Int) (R : List Int) (n : Nat) (f0 f : Nat → Bool) (more : Bool) : Prop where
  mr : Mr T L R f
  no : more = false → f = f0
  yes : more = true → (nbs f0 n).length < (nbs f n).length
theorem nbs_more (f : Nat → Bool) (n k : Nat) (hk : k < n) (h : f k = false) : (nbs (fun j => f j || decide (j = k)) n).length = (nbs f n).length + 1 := by
  have h1 := nbs_drop (fun j => f j || decide (j = k)) n k hk (by simp)
  rw [nbs_ext (g := f) (fun j _ => ?_)] at h1
  · omega
  · by_cases e : j = k
    · subst e; simp [h]
    · simp [e]
theorem Ps.put {T : Nat → Bool} {L : Nat → List Int} {R : List Int} {n : Nat} {f0 f : Nat → Bool} {more : Bool} (h : Ps T L R n f0 f more) {i j : Nat} (hi : f i = true) (hj : T j = true) (hm : (j : Int) ∈ L i) (hf : f j = false) (hn : j < n) : Ps T L R n f0 (fun k => f k || decide (k = j)) true := by
  refine ⟨⟨fun k hk => ?_, fun q hq hR => ?_⟩, (fun e => by cases e), fun _ => ?_⟩
  · simp only [Bool.or_eq_true, decide_eq_true_eq] at hk
    rcases hk with hk | hk
    · exact h.mr.rch k hk
    · rw [hk]
      exact .lead (h.mr.rch i hi) hj hm
  · simp only [Bool.or_eq_true]
    exact Or.inl (h.mr.rts q hq hR)
  · rw [nbs_more f n j hn hf]
    cases more with
    | true => have := h.yes rfl; omega
    | false => rw [h.no rfl]; omega
theorem Mr.done {T : Nat → Bool} {L : Nat → List Int} {R : List Int} {f : Nat → Bool} (h : Mr T L R f) (hc : ∀ i, Cl T L f i) (k : Nat) : f k = true ↔ Rch T L R k := by
  constructor
  · exact h.rch k
  · intro hr
    induction hr with
    | root h1 h2 => exact h.rts _ h1 h2
    | lead _ h1 h2 ih => exact hc _ ih _ h1 h2
/-- Ahead of a pass. -/
def L2 (ss : List So) (R : List Int) (n : Nat) (w : World) (gk : Nat) (more : Bool) (wr : World) : Prop :=
  ∃ f, Bm wr w.heap.size n f ∧ Mr (tk ss) (lsOf true ss) R f ∧ (more = false → ∀ i, Cl (tk ss) (lsOf true ss) f i) ∧ gk = 2 * (n - (nbs f n).length) + (if more then 1 else 0) ∧ Below w.heap.size w wr
/-- Within a pass. -/
def L3 (ss : List So) (R : List Int) (n : Nat) (w : World) (f0 : Nat → Bool) (i : Nat) (more : Bool) (wr : World) : Prop :=
  ∃ f, Bm wr w.heap.size n f ∧ Ps (tk ss) (lsOf true ss) R n f0 f more ∧ (more = false → ∀ i', i' < i → Cl (tk ss) (lsOf true ss) f i') ∧ Below w.heap.size w wr
/-- Within a list. -/
def L4 (ss : List So) (R : List Int) (n : Nat) (w : World) (f0 : Nat → Bool) (i k : Nat) (more : Bool) (wr : World) : Prop :=
  ∃ f, Bm wr w.heap.size n f ∧ Ps (tk ss) (lsOf true ss) R n f0 f more ∧ f i = true ∧ (more = false → (∀ i', i' < i → Cl (tk ss) (lsOf true ss) f i') ∧ ∀ j : Nat, tk ss j = true → (j : Int) ∈ ((lsOf true ss) i).take k → f j = true) ∧ Below w.heap.size w wr
set_option maxRecDepth 100000 in
set_option maxHeartbeats 4000000 in
theorem rmark_any {w : World} {q : Nat} {ss : List So} {lv tv : Value} {vs : List Value} {B : Nat} (h : Rq w q ss lv tv vs B) (hB : B ≤ w.heap.size) (hL : ∀ k, (nts ss k).taken = true → (nts ss k).has.l.length ≤ 1000) {ra : Option Addr} {rn rc : Nat} {R : List Int} (hR : Lz w w.heap.size ra rn rc R) (hRl : R.length ≤ 100000) :
    Calls Tryd.prog 14 #[.pointer (some ⟨q, 0, none⟩), .slice ra rn rc] w fun e w' => ∃ v f, e = .returned v ∧ IntsR w.heap.size w' v (nbs f ss.length) ∧ (∀ k, f k = true ↔ Rch (tk ss) (lsOf true ss) R k) ∧ Below w.heap.size w w' := by
  obtain ⟨i0, hi, hz0, hz1, hz2⟩ := info_parts Tryd.infoB2
  obtain ⟨j0, hj0, jz0, jz1, jz2⟩ := info_parts Tryd.infoN
  obtain ⟨la, lc, rfl⟩ := ownsS_shape h.row
  have c0 := h.c0
  have hsm := h.sm
  have HQ := Lib.hid h
  obtain ⟨hrn, hrc, hrb, rb, roff, hra, hrcell⟩ := hR
  have HRA := Lib.hid hra
  have HRC := Lib.hid hrcell
  have HRN := Lib.hid hrn
  have HLL := Lib.hid hL
  have hrn2 : rn ≤ 100000 := by omega
  clear h hra hrcell hrb hrn hRl hL
  obtain ⟨n, hn⟩ : ∃ n, ss.length = n := ⟨_, rfl⟩
  rw [hn] at c0 hsm ⊢
  have HN := Lib.hid hn
  rw [hn] at HQ
  clear hn
  go_enter Tryd.func14, Tryd.ntmps14
  go_wp2_with (at_make; refine wpList_make_full _ rfl _ _ 38 rfl 0 4 i0 (.bool false) 1 Tryd.underlying38 hi hz0 hz1 .i64 .i64 _ _ n rfl rfl (by omega) (by omega) (by rw [hz2]; omega) (by unfold maxLen; omega) (Nat.zero_le _) ?_; intro w1 hown1 hgrow1; have hb1 : Below w.heap.size w w1 := (Below.refl _ w).grown hgrow1 (Nat.le_refl _) (fun k e => by cases e); have HM : Hid (Bm w1 w.heap.size n (fun _ => false)) := (by show Bm _ _ _ _; unfold Bm; rw [← bls_made]; exact hown1); clear hown1 hgrow1)
  go_loopw [6] (fun v6 wr => ∃ (j : Nat) (f : Nat → Bool), j ≤ rn ∧ v6 = .int .i64 (j : Int) ∧ Bm wr w.heap.size n f ∧ Hid (∀ k, f k = true ↔ tk ss k = true ∧ (k : Int) ∈ R.take j) ∧ Below w.heap.size w wr) (fun v6 _ => rn - (intOf v6).toNat)
  case atStart => exact ⟨0, _, Nat.zero_le _, rfl, HM.out, (by show ∀ k, _; intro k; simp), hb1⟩
  case round =>
    clear HM hb1
    obtain ⟨j, f, hj, rfl, hM, HF, hBw⟩ := hrel
    have hQ := HQ.out.below hBw hB
    by_cases hjl : j < rn
    · have tj : (j : Int) < (rn : Int) := by omega
      have tj0 : (0 : Int) ≤ (j : Int) := by omega
      have ej : IntKind.i64.wrap ((j : Int) + 1) = ((j + 1 : Nat) : Int) := by rw [i64_small (by omega) (by omega)]; omega
      obtain ⟨rfl, hrb⟩ := HRA.out (by omega)
      have cj := (World.cell?_of_block (a := ⟨rb, roff + j, none⟩) (hBw.block rb hrb)).trans (HRC.out j hjl)
      have htk : R.take (j + 1) = R.take j ++ [R[j]?.getD 0] := by
        rw [List.take_add_one, List.getElem?_eq_getElem (by have := HRN.out; omega)]
        simp
      have HTK := Lib.hid htk
      clear htk
      generalize R[j]?.getD 0 = i at *
      have CI := ris_any hQ i
      have HM := Lib.hid hM
      have HB := Lib.hid hBw
      clear hM hBw hQ
      cases hT : isT ss i with
      | false =>
        rw [hT] at CI
        go_wp2_with fail
        refine CI.mono ?_
        rintro e w2 ⟨rfl, rfl⟩
        clear CI
        go_wp2_with fail
        go_roundw
        case rel =>
          refine ⟨j + 1, f, by omega, rfl, HM.out, ?_, HB.out⟩
          show ∀ k, _
          intro k
          rw [HF.out k, HTK.out, List.mem_append, List.mem_singleton]
          constructor
          · rintro ⟨a, b⟩; exact ⟨a, Or.inl b⟩
          · rintro ⟨a, b | b⟩
            · exact ⟨a, b⟩
            · rw [← b, isT_nat ss k (tk_lt a)] at hT
              exact absurd a (by unfold tk; rw [hT]; simp)
        case measure => simp [intOf]; omega
      | true =>
        obtain ⟨k, rfl, hkl, hkt⟩ := isT_ex hT
        rw [hT] at CI
        rw [HN.out] at hkl
        have ck := HM.out.cell k hkl
        have zk := HM.out.frozen k
        have tk1 : (k : Int) < (n : Int) := by omega
        have tk0 : (0 : Int) ≤ (k : Int) := by omega
        go_wp2_with fail
        refine CI.mono ?_
        rintro e w2 ⟨rfl, rfl⟩
        clear CI
        go_wp2_with fail
        go_roundw
        case rel =>
          refine ⟨j + 1, _, by omega, rfl, HM.out.put k, ?_, HB.out.setCell (p := ⟨w.heap.size, k, none⟩) (Nat.le_refl _) _⟩
          show ∀ k, _
          intro q
          simp only [Bool.or_eq_true, decide_eq_true_eq]
          rw [HF.out q, HTK.out, List.mem_append, List.mem_singleton]
          constructor
          · rintro (⟨a, b⟩ | b)
            · exact ⟨a, Or.inl b⟩
            · rw [b]; exact ⟨hkt, Or.inr rfl⟩
          · rintro ⟨a, b | b⟩
            · exact Or.inl ⟨a, b⟩
            · exact Or.inr (by omega)
        case measure => simp [intOf]; omega
    · obtain rfl : j = rn := by omega
      have tj : ((j : Int) < (j : Int)) = False := by simp
      have hmr : Mr (tk ss) (lsOf true ss) R f := by
        have := HRN.out
        have hF := HF.out
        rw [List.take_of_length_le (by omega)] at hF
        exact ⟨fun k hk => .root ((hF k).1 hk).1 ((hF k).1 hk).2, fun q hq hR => (hF q).2 ⟨hq, hR⟩⟩
      have HM := Lib.hid hM
      have HB := Lib.hid hBw
      have HMR := Lib.hid hmr
      clear hM hBw hQ hmr HF
      go_wp2_with fail
      go_loopg [7] (2 * (n - (nbs f n).length) + 1) (fun gk v7 wr => ∃ more, v7 = .bool more ∧ L2 ss R n w gk more wr)
      case atStart => exact ⟨true, rfl, f, HM.out, HMR.out, (fun e => by cases e), rfl, HB.out⟩
      case round =>
        clear HM HB HMR
        obtain ⟨more, rfl, f0, hM, hmr, hcl, hg, hBw⟩ := hrel
        cases more with
        | true =>
          have HM := Lib.hid hM
          have HB := Lib.hid hBw
          have HMR := Lib.hid hmr
          have HG := Lib.hid hg
          clear hM hBw hmr hg hcl
          go_wp2_with fail
          go_loopw [7, 8] (fun v7 v8 wr => ∃ (i : Nat) (more : Bool), i ≤ n ∧ v7 = .bool more ∧ v8 = .int .i64 (i : Int) ∧ L3 ss R n w f0 i more wr) (fun _ v8 _ => n - (intOf v8).toNat)
          case atStart => exact ⟨0, false, Nat.zero_le _, rfl, rfl, f0, HM.out, ⟨HMR.out, fun _ => rfl, (fun e => by cases e)⟩, fun _ i' h => absurd h (by omega), HB.out⟩
          case round =>
            clear HM HB HMR
            obtain ⟨i, more, hin, rfl, rfl, f, hM, hP, hC, hBw⟩ := hrel
            have hQ := HQ.out.below hBw hB
            have c0' := hQ.c0
            by_cases hil : i < n
            · have ti : (i : Int) < (n : Int) := by omega
              have ti0 : (0 : Int) ≤ (i : Int) := by omega
              have ei : IntKind.i64.wrap ((i : Int) + 1) = ((i + 1 : Nat) : Int) := by rw [i64_small (by omega) (by omega)]; omega
              have ci := hM.cell i hil
              cases hfi : f i with
              | false =>
                rw [hfi] at ci
                have HM := Lib.hid hM
                have HB := Lib.hid hBw
                have HP := Lib.hid hP
                have HC := Lib.hid hC
                clear hM hBw hP hC hQ
                go_wp2_with fail
                go_roundw
                case rel =>
                  refine ⟨i + 1, more, by omega, rfl, rfl, f, HM.out, HP.out, fun e i' hi' => ?_, HB.out⟩
                  by_cases e2 : i' < i
                  · exact HC.out e i' e2
                  · obtain rfl : i' = i := by omega
                    intro h
                    rw [hfi] at h
                    cases h
                case measure => simp [intOf]; omega
              | true =>
                rw [hfi] at ci
                have htk : tk ss i = true := (hP.mr.rch i hfi).taken
                obtain ⟨xa, xn, xc, hvi, hxl⟩ := HQ.out.val i (by rw [HN.out]; exact hil) htk
                obtain ⟨hxn, hxc, hxb, xb, xo, hxa, hxcell⟩ := hxl
                have hlen := HLL.out i htk
                obtain ⟨r, rc2, e, hrlt⟩ := ownsS_some HQ.out.row (by rw [HN.out]; omega)
                injection e with e1 e2 e3
                clear e2
                subst e1 e3
                have hcr0 : w.cell? ⟨r, i, none⟩ = some (.slice xa xn xc) := by
                  have hro := HQ.out.row
                  rw [HN.out] at hro
                  rw [hro.cellAt i (by omega)]
                  exact hvi
                have hcr := (hBw.cell (p := ⟨r, i, none⟩) hrlt).trans hcr0
                have HXA := Lib.hid hxa
                have HXC := Lib.hid hxcell
                have HXN := Lib.hid hxn
                have hxn2 : xn ≤ 1000 := by omega
                have HM := Lib.hid hM
                have HB := Lib.hid hBw
                have HP := Lib.hid hP
                have HC := Lib.hid hC
                have HFI := Lib.hid hfi
                have HCR := Lib.hid hcr0
                clear hM hBw hP hC hQ hxa hxcell hxn hvi hxb hlen hfi hcr0
                have HLS : Hid (lsOf true ss i = (nts ss i).has.l) := rfl
                go_wp2_with fail
                rename World => wo
                go_loopw [7, 9] (fun v7 v9 wr => ∃ (k : Nat) (more : Bool), k ≤ xn ∧ v7 = .bool more ∧ v9 = .int .i64 (k : Int) ∧ L4 ss R n w f0 i k more wr) (fun _ v9 _ => xn - (intOf v9).toNat)
                case atStart => exact ⟨0, more, Nat.zero_le _, rfl, rfl, f, HM.out, HP.out, HFI.out, fun e => ⟨HC.out e, fun j _ h => by simp at h⟩, HB.out⟩
                case round =>
                  clear HM HB HP HC HFI ci hcr c0'
                  obtain ⟨k, more, hkx, rfl, rfl, f, hM, hP, hfi, hC, hBw⟩ := hrel
                  have hQ := HQ.out.below hBw hB
                  have c0' := hQ.c0
                  have hcr := (hBw.cell (p := ⟨r, i, none⟩) hrlt).trans HCR.out
                  by_cases hkl : k < xn
                  · have tk1 : (k : Int) < (xn : Int) := by omega
                    have tk0 : (0 : Int) ≤ (k : Int) := by omega
                    have ek : IntKind.i64.wrap ((k : Int) + 1) = ((k + 1 : Nat) : Int) := by rw [i64_small (by omega) (by omega)]; omega
                    obtain ⟨rfl, hxb⟩ := HXA.out (by omega)
                    have ck := (World.cell?_of_block (a := ⟨xb, xo + k, none⟩) (hBw.block xb (by omega))).trans (HXC.out k hkl)
                    have htake : (lsOf true ss i).take (k + 1) = (lsOf true ss i).take k ++ [(nts ss i).has.l[k]?.getD 0] := by
                      rw [HLS.out, List.take_add_one, List.getElem?_eq_getElem (by have := HXN.out; omega)]
                      simp
                    have hmem : (nts ss i).has.l[k]?.getD 0 ∈ lsOf true ss i := by
                      rw [HLS.out, List.getElem?_eq_getElem (by have := HXN.out; omega)]
                      simp
                    have HTA := Lib.hid htake
                    have HME := Lib.hid hmem
                    clear htake hmem
                    generalize (nts ss i).has.l[k]?.getD 0 = x at *
                    have CI := ris_any hQ x
                    have HM := Lib.hid hM
                    have HB := Lib.hid hBw
                    have HP := Lib.hid hP
                    have HC := Lib.hid hC
                    have HFI := Lib.hid hfi
                    clear hM hBw hP hC hQ hfi
                    cases hT : isT ss x with
                    | false =>
                      rw [hT] at CI
                      go_wp2_with fail
                      refine CI.mono ?_
                      rintro e w2 ⟨rfl, rfl⟩
                      clear CI
                      go_wp2_with fail
                      go_roundw
                      case rel =>
                        refine ⟨k + 1, more, by omega, rfl, rfl, f, HM.out, HP.out, HFI.out, fun e => ⟨(HC.out e).1, fun j hj hm => ?_⟩, HB.out⟩
                        rw [HTA.out, List.mem_append, List.mem_singleton] at hm
                        rcases hm with hm | hm
                        · exact (HC.out e).2 j hj hm
                        · rw [← hm, isT_nat ss j (tk_lt hj)] at hT
                          exact absurd hj (by unfold tk; rw [hT]; simp)
                      case measure => simp [intOf]; omega
                    | true =>
                      obtain ⟨j, rfl, hjl, hjt⟩ := isT_ex hT
                      rw [hT] at CI
                      rw [HN.out] at hjl
                      have cj := HM.out.cell j hjl
                      have zj := HM.out.frozen j
                      have tj1 : (j : Int) < (n : Int) := by omega
                      have tj0 : (0 : Int) ≤ (j : Int) := by omega
                      cases hfj : f j with
                      | true =>
                        rw [hfj] at cj
                        go_wp2_with fail
                        refine CI.mono ?_
                        rintro e w2 ⟨rfl, rfl⟩
                        clear CI
                        go_wp2_with fail
                        go_roundw
                        case rel =>
                          refine ⟨k + 1, more, by omega, rfl, rfl, f, HM.out, HP.out, HFI.out, fun e => ⟨(HC.out e).1, fun j' hj' hm => ?_⟩, HB.out⟩
                          rw [HTA.out, List.mem_append, List.mem_singleton] at hm
                          rcases hm with hm | hm
                          · exact (HC.out e).2 j' hj' hm
                          · obtain rfl : j' = j := by omega
                            exact hfj
                        case measure => simp [intOf]; omega
                      | false =>
                        rw [hfj] at cj
                        go_wp2_with fail
                        refine CI.mono ?_
                        rintro e w2 ⟨rfl, rfl⟩
                        clear CI
                        go_wp2_with fail
                        go_roundw
                        case rel =>
                          exact ⟨k + 1, true, by omega, rfl, rfl, _, HM.out.put j, HP.out.put HFI.out hjt HME.out hfj hjl, (by simp [HFI.out]), (fun e => by cases e), HB.out.setCell (p := ⟨w.heap.size, j, none⟩) (Nat.le_refl _) _⟩
                        case measure => simp [intOf]; omega
                  · obtain rfl : k = xn := by omega
                    have tk1 : ((k : Int) < (k : Int)) = False := by simp
                    have HM := Lib.hid hM
                    have HB := Lib.hid hBw
                    have HP := Lib.hid hP
                    have HC := Lib.hid hC
                    clear hM hBw hP hC hQ
                    go_wp2_with fail
                    go_roundw
                    case rel =>
                      refine ⟨i + 1, more, by omega, rfl, rfl, f, HM.out, HP.out, fun e i' hi' => ?_, HB.out⟩
                      by_cases e2 : i' < i
                      · exact (HC.out e).1 i' e2
                      · obtain rfl : i' = i := by omega
                        intro _ j hj hm
                        refine (HC.out e).2 j hj ?_
                        have := HXN.out
                        rw [List.take_of_length_le (by rw [HLS.out]; omega)]
                        exact hm
                    case measure => simp [intOf]; omega
            · obtain rfl : i = n := by omega
              have ti : ((i : Int) < (i : Int)) = False := by simp
              have HM := Lib.hid hM
              have HB := Lib.hid hBw
              have HP := Lib.hid hP
              have HC := Lib.hid hC
              clear hM hBw hP hC hQ
              go_wp2_with fail
              go_roundg (2 * (i - (nbs f i).length) + (if more then 1 else 0))
              case rel =>
                refine ⟨more, rfl, f, HM.out, HP.out.mr, fun e k => ?_, rfl, HB.out⟩
                by_cases hk : k < i
                · exact HC.out e k hk
                · intro hf
                  have := tk_lt (HP.out.mr.rch k hf).taken
                  rw [HN.out] at this
                  omega
              case measure =>
                have h1 := nbs_le f i
                rw [HG.out]
                cases more with
                | true => have := HP.out.yes rfl; simp; omega
                | false => rw [HP.out.no rfl]; simp
        | false =>
          have HM := Lib.hid hM
          have HB := Lib.hid hBw
          have hdone := hmr.done (hcl rfl)
          have HD := Lib.hid hdone
          clear hM hBw hmr hg hcl hdone
          go_wp2_with fail
          go_loopw [11, 12] (fun v11 v12 wr => ∃ i : Nat, i ≤ n ∧ v12 = .int .i64 (i : Int) ∧ IntsR (w.heap.size + 1) wr v11 (nbs f0 i) ∧ Bm wr w.heap.size n f0 ∧ Below w.heap.size w wr ∧ w.heap.size + 1 ≤ wr.heap.size) (fun _ v12 _ => n - (intOf v12).toNat)
          case atStart => exact ⟨0, Nat.zero_le _, rfl, by simpa [nbs] using IntsR.nil _ _, HM.out, HB.out, HM.out.lt⟩
          case round =>
            clear HM HB
            obtain ⟨i, hin, rfl, hI, hM, hBw, hws⟩ := hrel
            by_cases hil : i < n
            · have ti : (i : Int) < (n : Int) := by omega
              have ti0 : (0 : Int) ≤ (i : Int) := by omega
              have ei : IntKind.i64.wrap ((i : Int) + 1) = ((i + 1 : Nat) : Int) := by rw [i64_small (by omega) (by omega)]; omega
              have ci := hM.cell i hil
              have hns := nbs_succ f0 i
              have hle := nbs_le f0 i
              cases hfi : f0 i with
              | false =>
                rw [hfi] at ci hns
                simp only [Bool.false_eq_true, if_false, List.append_nil] at hns
                have HI := Lib.hid hI
                have HM := Lib.hid hM
                have HB := Lib.hid hBw
                have HNS := Lib.hid hns
                clear hI hM hBw hns
                go_wp2_with fail
                go_roundw
                case rel => exact ⟨i + 1, by omega, rfl, by rw [HNS.out]; exact HI.out, HM.out, HB.out, hws⟩
                case measure => simp [intOf]; omega
              | true =>
                rw [hfi] at ci hns
                simp only [if_true] at hns
                have hown : wr.ownsRow (w.heap.size + 1) 3 1 u11 (nbs f0 i).length ((nbs f0 i).map fun x : Int => Value.int .i64 x) := hI
                have HM := Lib.hid hM
                have HB := Lib.hid hBw
                have HNS := Lib.hid hns
                clear hI hM hBw hns
                generalize hQl : nbs f0 i = Ql at *
                go_wp2_with (at_builtin; refine wpListS_append_own rfl _ _ 23 rfl (w.heap.size + 1) 3 j0 (.int .i64 0) 1 8 Tryd.underlying23 hj0 jz0 jz1 jz2 rfl (by decide) _ _ _ rfl (World.ownsRow.alloc hown _) ⟨wr.heap.size, 0, none⟩ 1 1 [.int .i64 (i : Int)] rfl rfl (newR_one _ _ _) (fun u hu => by simp at hu; subst hu; rfl) (by unfold maxLen; omega) (by omega) (by simp; omega) ?_)
                intro v' w5 hown2 hgrow hat
                have HI5 := Lib.hid (intsR_snoc hown2)
                have hsz : ∀ o, (wr.alloc o).heap.size = wr.heap.size + 1 := fun o => by simp
                have keep : ∀ q, q < w.heap.size + 1 → w5.heap[q]? = wr.heap[q]? := fun q hq => (hgrow.block q (by rw [hsz]; omega) (fun e => by have := (World.ownsRow.lt hown q e.symm).1; omega)).trans (Below.heap_alloc _ _ _ (by omega))
                have HB5 : Hid (Below w.heap.size w w5) := ⟨hgrow.os.trans HB.out.os, hgrow.tape.trans HB.out.tape, hgrow.output.trans HB.out.output, by have := hgrow.size; rw [hsz] at this; omega, fun q hq => (keep q (by omega)).trans (HB.out.block q hq)⟩
                have HM5 : Hid (Bm w5 w.heap.size n f0) := HM.out.same (keep _ (by omega))
                have hws5 : w.heap.size + 1 ≤ w5.heap.size := by have := hgrow.size; rw [hsz] at this; omega
                clear hown2 hgrow hat hown hsz keep
                go_wp2_with fail
                go_roundw
                case rel => exact ⟨i + 1, by omega, rfl, by rw [HNS.out]; exact HI5.out, HM5.out, HB5.out, hws5⟩
                case measure => simp [intOf]; omega
            · obtain rfl : i = n := by omega
              have ti : ((i : Int) < (i : Int)) = False := by simp
              have HI := Lib.hid hI
              have HB := Lib.hid hBw
              clear hI hM hBw
              go_wp2
              go_ret
              refine ⟨_, f0, rfl, ⟨HI.out.1, ?_⟩, HD.out, HB.out⟩
              rcases HI.out.2 with h0 | ⟨g', cap', cur', e', q1, q2⟩
              · exact .inl h0
              · exact .inr ⟨g', cap', cur', e', by omega, q2⟩
end Go.Proofs.YtbnmnmbfdfgohaaDoor
