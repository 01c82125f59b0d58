/-
  divide: the taken slots that can be reached, and the others; Mark.
-/
import Derived.Test.YtbnmnmbfdfgohaaDoorSwNext
import Derived.Test.YtbnmnmbfdfgohaaDoorSwLed
import Derived.Test.YtbnmnmbfdfgohaaDoorSwTz
namespace Go.Proofs.YtbnmnmbfdfgohaaDoor
open Go.RowKit Go.WideShapes

/-- What a slot leads to. -/
def lsOf (ld : Bool) (ss : List So) (k : Nat) : List Int := if ld then (nts ss k).has.l else []
/-- The lists of the taken slots can be read. -/
def Lss (w : World) (B : Nat) (ss : List So) : Prop := ∀ k, (nts ss k).taken = true → Lz w B (nts ss k).has.a (nts ss k).has.n (nts ss k).has.c (nts ss k).has.l ∧ (nts ss k).has.l.length ≤ 1000
theorem Lss.below {w w' : World} {B : Nat} {ss : List So} (h : Lss w B ss) (hb : Below B w w') : Lss w' B ss := fun k hk => ⟨(h k hk).1.below hb, (h k hk).2⟩
/-- How divide stands ahead of a round. -/
def Di (ss : List So) (L : Nat → List Int) (R : List Int) (B b m : Nat) (w0 : World) (gk : Nat) (i : Int) (ok : Bool) (W : World) : Prop :=
  ∃ lf rf s, WmV W B b m ⟨lf, rf, s⟩ ∧ Below B w0 W ∧ Dv (tk ss) L R ⟨lf, rf, if ok then s ++ [i] else s⟩ ∧ (ok = false → s = []) ∧ gk = (nbs lf ss.length).length + s.length + (if ok then 1 else 0) ∧ gk ≤ ss.length
theorem next_any {ss : List So} {L : Nat → List Int} {R : List Int} {B b m : Nat} {w0 w : World} {y : Wy} (h : WmV w B b m y) (hb : Below B w0 w) (hd : Dv (tk ss) L R y) (hs : (nbs y.lf ss.length).length + y.st.length ≤ ss.length) (hn : ss.length ≤ 60000) :
    Calls Tryd.prog 39 #[.pointer (some ⟨b, 0, none⟩)] w fun e w' => ∃ i ok, e = .returned (.tuple #[.int .i64 i, .bool ok]) ∧ Di ss L R B b m w0 ((nbs y.lf ss.length).length + y.st.length) i ok w' := by
  obtain ⟨lf, rf, st⟩ := y
  rcases List.eq_nil_or_concat st with rfl | ⟨s, i, rfl⟩
  · refine (next_none h).mono ?_
    rintro e w' ⟨rfl, rfl⟩
    exact ⟨0, false, rfl, lf, rf, [], h, hb, hd, fun _ => rfl, by simp, hs⟩
  · simp only [List.concat_eq_append] at h hd hs ⊢
    refine (next_some h (by simp at hs; omega)).mono ?_
    rintro e w' ⟨rfl, h1, h2⟩
    exact ⟨i, true, rfl, lf, rf, s, h1, hb.trans h2, hd, (fun h => by cases h), (by simp; omega), hs⟩
/-- What divide leaves. -/
structure Dd2 (ss : List So) (L : Nat → List Int) (R : List Int) (m : Nat) (w' : World) (gr gl : Nat) (Wr Wl : Nat → Nat) (rf lf : Nat → Bool) : Prop where
  mr : Mk w' gr m m Wr
  fr : Wf Wr rf m
  ml : Mk w' gl m m Wl
  fl : Wf Wl lf m
  rch : ∀ k, rf k = true ↔ Rch (tk ss) L R k
  oth : ∀ k, lf k = true ↔ tk ss k = true ∧ ¬ Rch (tk ss) L R k
set_option maxRecDepth 100000 in
set_option maxHeartbeats 2000000 in
theorem divide_any {w : World} {pv : Option Addr} {ss : List So} (h : Sla w pv ss) (hn : ss.length ≤ 60000) (hL : Lss w w.heap.size ss) (ld : Bool) {ra : Option Addr} {rn rc : Nat} {R : List Int} (hR : Lz w w.heap.size ra rn rc R) (hRl : R.length ≤ 100000) :
    Calls Tryd.prog 28 #[.pointer pv, .slice ra rn rc, ldV ld] w fun e w' => ∃ gr gl Wr Wl rf lf, e = .returned (.tuple #[.slice (some ⟨gr, 0, none⟩) ((ss.length + 63) / 64) ((ss.length + 63) / 64), .slice (some ⟨gl, 0, none⟩) ((ss.length + 63) / 64) ((ss.length + 63) / 64)]) ∧ Dd2 ss (lsOf ld ss) R ((ss.length + 63) / 64) w' gr gl Wr Wl rf lf ∧ Below w.heap.size w w' := by
  have CB := begin_any h hn
  generalize hm : (ss.length + 63) / 64 = m at *
  have HS := Lib.hid h
  have HL := Lib.hid hL
  have HR := Lib.hid hR
  clear h hL hR
  obtain ⟨lv, hlv⟩ : ∃ lv, ldV ld = lv := ⟨_, rfl⟩
  rw [hlv]
  have HLV := Lib.hid hlv
  clear hlv
  go_enter Tryd.func28, Tryd.ntmps28
  go_wp2_with fail
  refine CB.mono ?_
  rintro e w1 ⟨b, rfl, hW1, hB1⟩
  clear CB
  have CR := reach_any hW1 hB1.size (HR.out.below hB1) hRl (by simp)
  have HB1 := Lib.hid hB1
  clear hW1 hB1
  go_wp2_with fail
  refine CR.mono ?_
  rintro e w2 ⟨rfl, hW2, hB2⟩
  clear CR
  have hall := Wy.all_is ⟨tk ss, fun _ => false, []⟩ R
  have hd2 : Dv (tk ss) (lsOf ld ss) R ((⟨tk ss, fun _ => false, []⟩ : Wy).all R) := Dv.begin (fun _ => rfl) (fun _ => rfl) rfl hall
  have hnum := hall.num ss.length (fun k hk => tk_lt hk)
  have hle := nbs_le (tk ss) ss.length
  have CN := next_any (w0 := w) hW2 (HB1.out.trans hB2) hd2 (by simp at hnum; omega) hn
  generalize (⟨tk ss, fun _ => false, []⟩ : Wy).all R = y2 at *
  generalize hgk : (nbs y2.lf ss.length).length + y2.st.length = gk0 at *
  clear hW2 hB2 hd2 hall hnum hle HB1 hgk
  go_wp2_with fail
  refine CN.mono ?_
  rintro e w3 ⟨i3, ok3, rfl, hD3⟩
  clear CN
  have HD3 := Lib.hid hD3
  clear hD3
  go_wp2_with fail
  go_loopg [9, 10] gk0 (fun gk v9 v10 wr => ∃ i ok, v9 = .int .i64 i ∧ v10 = .bool ok ∧ Di ss (lsOf ld ss) R w.heap.size b m w gk i ok wr)
  case atStart => exact ⟨i3, ok3, rfl, rfl, HD3.out⟩
  case round =>
    clear HD3
    obtain ⟨i, ok, rfl, rfl, hD⟩ := hrel
    cases ok with
    | false =>
      obtain ⟨lf, rf, s, hW, hB, hd, hs, hg, hgn⟩ := hD
      obtain rfl := hs rfl
      obtain ⟨gr, gl, sv, Wr, Wl, hW⟩ := hW
      have c0 := hW.c0
      have c1 := hW.c1
      have HW := Lib.hid hW
      have HD := Lib.hid hd
      have HB := Lib.hid hB
      clear hW hd hB hg
      go_wp2_with fail
      go_region
      go_wp2
      go_ret2
      refine ⟨gr, gl, Wr, Wl, rf, lf, rfl, ⟨HW.out.mr.same rfl, HW.out.fr, HW.out.ml.same rfl, HW.out.fl, HD.out.done, fun k => ?_⟩, HB.out.drew⟩
      rw [← HD.out.done k, HD.out.all k]
      constructor
      · intro hk
        exact ⟨Or.inl hk, fun hc => by have := HD.out.one k hk; simp only at this; rw [this] at hc; cases hc⟩
      · rintro ⟨a | a, c⟩
        · exact a
        · exact absurd a c
    | true =>
      obtain ⟨lf, rf, s, hW, hB, hd, hs, hg, hgn⟩ := hD
      simp only [if_true] at hd hg
      obtain ⟨k, rfl, hk⟩ := hd.st i (by simp)
      have htk : tk ss k = true := (hd.all k).2 (Or.inr hk)
      have hkl := tk_lt htk
      have CG := HS.out.get wr k hB htk
      have hLz := HL.out k htk
      have HLz : Hid (Lz wr w.heap.size (nts ss k).has.a (nts ss k).has.n (nts ss k).has.c (nts ss k).has.l ∧ (nts ss k).has.l.length ≤ 1000) := ⟨hLz.1.below hB, hLz.2⟩
      have HLK : Hid (lsOf ld ss k = if ld then (nts ss k).has.l else []) := rfl
      have HW := Lib.hid hW
      have HD := Lib.hid hd
      have HB := Lib.hid hB
      clear hW hd hB hLz hs htk
      generalize (nts ss k).has = x at *
      go_wp2_with fail
      refine CG.mono ?_
      rintro e w4 ⟨rfl, rfl⟩
      clear CG
      have CL := ledTo_any w4 x.a x.n x.c ld
      rw [HLV.out] at CL
      have hlz : ∃ a2 n2 c2, (if ld then Value.slice x.a x.n x.c else .slice none 0 0) = .slice a2 n2 c2 ∧ Lz w4 w.heap.size a2 n2 c2 (lsOf ld ss k) ∧ (lsOf ld ss k).length ≤ 1000 := by
        rw [HLK.out]
        cases ld
        · exact ⟨none, 0, 0, rfl, Lz.nil _ _ _ _, by simp⟩
        · exact ⟨x.a, x.n, x.c, rfl, HLz.out.1, HLz.out.2⟩
      obtain ⟨a2, n2, c2, hv, hl2, hl3⟩ := hlz
      rw [hv] at CL
      have hslen : s.length ≤ 100000 := by omega
      have CR := reach_any HW.out HB.out.size hl2 (by omega) hslen
      have hall := Wy.all_is ⟨lf, rf, s⟩ (lsOf ld ss k)
      have hd2 := HD.out.step hall
      have hnum := hall.num ss.length (fun q hq => tk_lt ((HD.out.all q).2 (Or.inl hq)))
      simp only at hnum
      clear HLK HLz hv hl2 hl3 hall
      generalize (⟨lf, rf, s⟩ : Wy).all (lsOf ld ss k) = y at *
      have HD2 := Lib.hid hd2
      clear hd2
      go_wp2_with fail
      refine CL.mono ?_
      rintro e w5 ⟨rfl, rfl⟩
      clear CL
      go_wp2_with fail
      refine CR.mono ?_
      rintro e w6 ⟨rfl, hW6, hB6⟩
      clear CR
      have CN := next_any (w0 := w) hW6 (HB.out.trans hB6) HD2.out (by omega) hn
      generalize hgk2 : (nbs y.lf ss.length).length + y.st.length = gk2 at *
      have hlt : gk2 < gk := by omega
      clear hW6 hB6 hgk2 hnum hg
      go_wp2_with fail
      refine CN.mono ?_
      rintro e w7 ⟨i7, ok7, rfl, hD7⟩
      clear CN
      have HD7 := Lib.hid hD7
      clear hD7
      go_wp2_with fail
      go_roundg gk2
      case rel => exact ⟨i7, ok7, rfl, rfl, HD7.out⟩
      case measure => exact hlt
set_option maxRecDepth 100000 in
theorem mark_any {w : World} {pv : Option Addr} {ss : List So} (h : Sla w pv ss) (hn : ss.length ≤ 60000) (hL : Lss w w.heap.size ss) (ld : Bool) {ra : Option Addr} {rn rc : Nat} {R : List Int} (hR : Lz w w.heap.size ra rn rc R) (hRl : R.length ≤ 100000) (hT : Tab w) :
    Calls Tryd.prog 11 #[.pointer pv, .slice ra rn rc, ldV ld] w fun e w' => ∃ v f, e = .returned v ∧ IntsR w.heap.size w' v (nbs f ss.length) ∧ (∀ k, f k = true ↔ Rch (tk ss) (lsOf ld ss) R k) ∧ Below w.heap.size w w' := by
  have C := divide_any h hn hL ld hR hRl
  have hm : (ss.length + 63) / 64 ≤ 1000 := by omega
  have hm2 : ss.length ≤ (ss.length + 63) / 64 * 64 := by omega
  generalize (ss.length + 63) / 64 = m at *
  obtain ⟨lv, hlv⟩ : ∃ lv, ldV ld = lv := ⟨_, rfl⟩
  rw [hlv] at C ⊢
  have htl := hT.lt
  have HT := Lib.hid hT
  clear h hL hR hlv hT
  go_enter Tryd.func11, Tryd.ntmps11
  go_wp2_with fail
  refine C.mono ?_
  rintro e w1 ⟨gr, gl, Wr, Wl, rf, lf, rfl, hD, hB⟩
  clear C
  have CN := numbers_any hD.mr hD.fr hm (HT.out.below hB htl)
  have HD := Lib.hid hD
  have HB := Lib.hid hB
  clear hD hB
  go_wp2_with fail
  refine CN.mono ?_
  rintro e w2 ⟨v, rfl, hI, hB2⟩
  clear CN
  have HI := Lib.hid hI
  have HB2 := Lib.hid hB2
  clear hI hB2
  go_wp2
  go_ret
  have hcut : nbs rf (m * 64) = nbs rf ss.length := nbs_cut hm2 (fun k hk => by
    cases e : rf k with
    | false => rfl
    | true =>
      have := tk_lt ((HD.out.rch k).1 e).taken
      omega)
  have hi := HI.out
  rw [hcut] at hi
  refine ⟨v, rf, rfl, ⟨hi.1, ?_⟩, HD.out.rch, HB.out.trans (HB2.out.mono HB.out.size)⟩
  rcases hi.2 with h0 | ⟨g', cap', cur', e', q1, q2⟩
  · exact .inl h0
  · exact .inr ⟨g', cap', cur', e', Nat.le_trans HB.out.size q1, q2⟩
/-- Slots of whom some are freed. -/
def frees (ss : List So) (l : List Int) : List So := l.foldl freeS ss
theorem frees_snoc (ss : List So) (l : List Int) (i : Int) : frees ss (l ++ [i]) = freeS (frees ss l) i := by simp [frees]
theorem freeS_len (ss : List So) (i : Int) : (freeS ss i).length = ss.length := by unfold freeS; split <;> simp
theorem frees_len (l : List Int) : ∀ ss : List So, (frees ss l).length = ss.length := by
  induction l with
  | nil => intro ss; rfl
  | cons i l ih => intro ss; exact (ih (freeS ss i)).trans (freeS_len ss i)
theorem freeS_nts (ss : List So) (k j : Nat) (hk : k < ss.length) (ht : (nts ss k).taken = true) : nts (freeS ss (k : Int)) j = if j = k then ⟨false, Sh.nil⟩ else nts ss j := by
  unfold freeS
  rw [if_pos (by rw [isT_nat ss k hk]; exact ht), Int.toNat_natCast, nts_set hk]
/-- Behind the freeing of the first numbers that lf tells. -/
theorem frees_nts {ss : List So} {lf : Nat → Bool} (hlf : ∀ k, lf k = true → tk ss k = true) : ∀ n k, nts (frees ss (nbs lf n)) k = if k < n ∧ lf k = true then ⟨false, Sh.nil⟩ else nts ss k := by
  intro n
  induction n with
  | zero => intro k; simp [nbs, frees]
  | succ n ih =>
    intro k
    rw [nbs_succ]
    cases e : lf n with
    | false =>
      simp only [Bool.false_eq_true, if_false, List.append_nil]
      rw [ih k]
      by_cases hk : k = n
      · subst hk
        simp [e]
      · have : k < n + 1 ↔ k < n := by omega
        simp only [this]
    | true =>
      simp only [if_true]
      have ht := hlf n e
      have hn := tk_lt ht
      rw [frees_snoc, freeS_nts _ n k (by rw [frees_len]; exact hn) (by rw [ih n]; simp only [Nat.lt_irrefl, false_and, if_false]; exact ht), ih k]
      by_cases hk : k = n
      · subst hk
        simp [e]
      · have : k < n + 1 ↔ k < n := by omega
        simp only [this, hk, if_false]
theorem freeS_other (ss : List So) (i : Int) (k : Nat) (h : (k : Int) ≠ i) : nts (freeS ss i) k = nts ss k := by
  unfold freeS
  split
  · rename_i ht
    obtain ⟨q, rfl, hq, _⟩ := isT_ex ht
    rw [Int.toNat_natCast, nts_set hq, if_neg (by omega)]
  · rfl
theorem frees_other (l : List Int) : ∀ (ss : List So) (k : Nat), (k : Int) ∉ l → nts (frees ss l) k = nts ss k := by
  induction l with
  | nil => intro ss k _; rfl
  | cons i l ih =>
    intro ss k hk
    simp only [List.mem_cons, not_or] at hk
    exact (ih (freeS ss i) k hk.2).trans (freeS_other ss i k hk.1)
theorem nbs_nodup (f : Nat → Bool) (n : Nat) : ∀ j, j < (nbs f n).length → ∀ x, (nbs f n)[j]? = some x → x ∉ (nbs f n).take j := by
  have key : ∀ n, ∀ i j : Nat, ∀ x, (nbs f n)[i]? = some x → (nbs f n)[j]? = some x → i = j := by
    intro n
    induction n with
    | zero => intro i j x h; simp [nbs] at h
    | succ n ih =>
      intro i j x h1 h2
      rw [nbs_succ] at h1 h2
      have hm : ∀ q, (nbs f n)[q]? = some (n : Int) → False := fun q hq => by
        obtain ⟨k, e, hk, _⟩ := nbs_mem.1 (List.mem_of_getElem? hq)
        omega
      by_cases hi : i < (nbs f n).length
      · rw [List.getElem?_append_left hi] at h1
        by_cases hj : j < (nbs f n).length
        · rw [List.getElem?_append_left hj] at h2
          exact ih i j x h1 h2
        · rw [List.getElem?_append_right (by omega)] at h2
          cases e : f n with
          | false => rw [e] at h2; simp at h2
          | true =>
            rw [e] at h2
            have := List.mem_of_getElem? h2
            simp at this
            rw [this] at h1
            exact (hm i h1).elim
      · rw [List.getElem?_append_right (by omega)] at h1
        cases e : f n with
        | false => rw [e] at h1; simp at h1
        | true =>
          rw [e] at h1 h2
          have h3 := List.mem_of_getElem? h1
          have h4 := (List.getElem?_eq_some_iff.1 h1).1
          simp at h3 h4
          by_cases hj : j < (nbs f n).length
          · rw [List.getElem?_append_left hj, h3] at h2
            exact (hm j h2).elim
          · rw [List.getElem?_append_right (by omega)] at h2
            have h5 := (List.getElem?_eq_some_iff.1 h2).1
            simp at h5
            omega
  intro j _ x hx hmem
  obtain ⟨i, hi⟩ := List.mem_iff_getElem?.1 hmem
  have hlt := (List.getElem?_eq_some_iff.1 hi).1
  rw [List.length_take] at hlt
  rw [List.getElem?_take_of_lt (by omega)] at hi
  have := key n i j x hi hx
  omega
/-- What Sweep keeps while it frees. -/
def Sg (w2 : World) (g : Nat) (ss : List So) (X : Nat → Prop) (l : List Int) (v : Value) (W : World) : Prop :=
  ∃ Xj, SlV W g (frees ss l) Xj ∧ (∀ k, Xj k → X k ∨ w2.heap.size ≤ k) ∧ (∀ k, v.ownBlock = some k → ¬ Xj k) ∧ IntsR w2.heap.size W v l ∧ Ex X w2 W
set_option maxRecDepth 100000 in
set_option maxHeartbeats 1000000 in
theorem sweep_any {w : World} {g : Nat} {ss : List So} {X : Nat → Prop} (h : SlV w g ss X) (hn : ss.length ≤ 60000) (hL : Lss w w.heap.size ss) (ld : Bool) {ra : Option Addr} {rn rc : Nat} {R : List Int} (hR : Lz w w.heap.size ra rn rc R) (hRl : R.length ≤ 100000) (hT : Tab w) :
    Calls Tryd.prog 16 #[.pointer (some ⟨g, 0, none⟩), .slice ra rn rc, ldV ld] w fun e w' => ∃ v f X', e = .returned v ∧ IntsR w.heap.size w' v (nbs f ss.length) ∧ (∀ k, f k = true ↔ tk ss k = true ∧ ¬ Rch (tk ss) (lsOf ld ss) R k) ∧ SlV w' g (frees ss (nbs f ss.length)) X' ∧ (∀ k, X' k → X k ∨ w.heap.size ≤ k) ∧ Ex X w w' := by
  have C := divide_any h.sla hn hL ld hR hRl
  have hm : (ss.length + 63) / 64 ≤ 1000 := by omega
  have hm2 : ss.length ≤ (ss.length + 63) / 64 * 64 := by omega
  generalize (ss.length + 63) / 64 = m at *
  obtain ⟨lv, hlv⟩ : ∃ lv, ldV ld = lv := ⟨_, rfl⟩
  rw [hlv] at C ⊢
  obtain ⟨i0, hi, hz0, hz1, hz2⟩ := info_parts Tryd.infoN
  have htl := hT.lt
  have HT := Lib.hid hT
  have HS := Lib.hid h
  clear h hL hR hlv hT
  go_enter Tryd.func16, Tryd.ntmps16
  go_wp2_with fail
  refine C.mono ?_
  rintro e w1 ⟨gr, gl, Wr, Wl, rf, lf, rfl, hD, hB⟩
  clear C
  have CN := numbers_any hD.ml hD.fl hm (HT.out.below hB htl)
  have hcut : nbs lf (m * 64) = nbs lf ss.length := nbs_cut hm2 (fun k hk => by
    cases e : lf k with
    | false => rfl
    | true =>
      have := tk_lt ((hD.oth k).1 e).1
      omega)
  rw [hcut] at CN
  have HD := Lib.hid hD
  have HB := Lib.hid hB
  clear hD hB hcut
  go_wp2_with fail
  refine CN.mono ?_
  rintro e w2 ⟨v, rfl, hI, hB2⟩
  clear CN
  have hS2 := (HS.out.keep (Y := fun _ => False) (ex_of HB.out) (fun _ _ h => h)).keep (Y := fun _ => False) (ex_of hB2) (fun _ _ h => h)
  have hB02 : Below w.heap.size w w2 := HB.out.trans (hB2.mono HB.out.size)
  obtain ⟨la, lc, lg, hv, hlc, hlo⟩ := hI.open
  subst hv
  have HI := Lib.hid hI
  have HLO := Lib.hid hlo
  have HS2 := Lib.hid hS2
  have HB2 := Lib.hid hB2
  have HB02 := Lib.hid hB02
  have hnl := nbs_le lf ss.length
  clear hI hlo hS2 hB2 hB02
  generalize hNf : nbs lf ss.length = Nf at *
  have HNF := Lib.hid hNf
  clear hNf
  obtain ⟨nl, hnl2⟩ : ∃ nl, Nf.length = nl := ⟨_, rfl⟩
  rw [hnl2] at hlc HLO hnl
  have HNL := Lib.hid hnl2
  rw [hnl2] at HI ⊢
  clear hnl2
  go_wp2_with fail
  go_loopw [9, 22] (fun v9 v22 wr => ∃ j : Nat, j ≤ nl ∧ v22 = .int .i64 (j : Int) ∧ Sg w2 g ss X (Nf.take j) v9 wr) (fun _ v22 _ => nl - (intOf v22).toNat)
  case atStart => exact ⟨0, Nat.zero_le _, rfl, X, HS2.out, fun k hk => Or.inl hk, fun k hk => by (cases hk), IntsR.nil _ _, Ex.refl _ _⟩
  case round =>
    clear HS2
    obtain ⟨j, hj, rfl, Xj, hS, hX, hv, hI, hE⟩ := hrel
    by_cases hjl : j < nl
    · have tj : (j : Int) < (nl : Int) := by omega
      have tj0 : (0 : Int) ≤ (j : Int) := by omega
      have ej : IntKind.i64.wrap ((j : Int) + 1) = ((j + 1 : Nat) : Int) := by rw [i64_small (by omega) (by omega)]; omega
      obtain ⟨rfl, hlg, hlg1, hlb, _⟩ := HLO.out (by omega)
      have hjN : j < Nf.length := by rw [HNL.out]; exact hjl
      have hNj := List.getElem?_eq_getElem hjN
      obtain ⟨k, hk, hkl, hkt⟩ := nbs_mem.1 (show Nf[j] ∈ nbs lf ss.length by rw [HNF.out]; exact List.getElem_mem hjN)
      rw [hk] at hNj
      have hnm : (k : Int) ∉ Nf.take j := by
        have := nbs_nodup lf ss.length j (by rw [HNF.out]; exact hjN) (k : Int) (by rw [HNF.out]; exact hNj)
        rw [HNF.out] at this
        exact this
      have htk := ((HD.out.oth k).1 hkt).1
      have htk2 : isT (frees ss (Nf.take j)) (k : Int) = true := by
        rw [isT_nat _ k (by rw [frees_len]; exact hkl), frees_other _ _ _ hnm]
        exact htk
      have cj0 := hlb j hjl
      rw [hNj] at cj0
      simp only [Option.getD_some] at cj0
      have hXw : ∀ q, X q → q < w.heap.size := by
        obtain ⟨_, _, _, _, _, _, hx⟩ := HS.out
        exact hx
      have hs1 := HB.out.size
      have cj := (World.cell?_of_block (a := ⟨lg, j, none⟩) (hE.block lg hlg (fun hx => by have := hXw lg hx; omega))).trans cj0
      have CF := free_sl hS (k : Int)
      rw [htk2] at CF
      have HTK : Hid (Nf.take (j + 1) = Nf.take j ++ [(k : Int)]) := by show _ = _; rw [List.take_add_one, hNj]; rfl
      have hjlen : (Nf.take j).length ≤ 100000 := by rw [List.length_take]; omega
      have hXs : ∀ q, Xj q → q < wr.heap.size := by
        obtain ⟨_, _, _, _, _, _, hx⟩ := hS
        exact hx
      have HI9 := Lib.hid hI
      have HV := Lib.hid hv
      have HX := Lib.hid hX
      have HE := Lib.hid hE
      have HXS := Lib.hid hXs
      have HXW := Lib.hid hXw
      clear hI hv hX hE hS hXs hXw hNj hk hnm htk htk2 cj0 hlb hjN hkt hkl
      go_wp2_with fail
      refine CF.mono ?_
      rintro e w3 ⟨rfl, hS3, hE3⟩
      clear CF
      have hI3 : IntsR w2.heap.size w3 u9 (Nf.take j) := ownsS_same HI9.out (fun q hq => hE3.block q (World.ownsRow.lt HI9.out q hq).2 (HV.out q hq))
      have hE23 : Ex X w2 w3 := HE.out.next hE3 (fun q hq hx => by
        rcases HX.out q hx with e | e
        · exact e
        · omega)
      have hV3 : ∀ q, u9.ownBlock = some q → ¬ gX Xj wr w3 q := fun q hq hx => by
        rcases hx with hx | hx
        · exact HV.out q hq hx
        · have := (World.ownsRow.lt HI9.out q hq).2
          omega
      have hown : w3.ownsRow w2.heap.size 3 1 u9 (Nf.take j).length ((Nf.take j).map fun x : Int => Value.int .i64 x) := hI3
      have hs3 := hE23.size
      have HS3 := Lib.hid hS3
      have HE23 := Lib.hid hE23
      have HV3 := Lib.hid hV3
      have HE3 := Lib.hid hE3
      generalize hQ : Nf.take j = Q at *
      clear hS3 hE23 hV3 hI3 hE3
      go_wp2_with (at_builtin; refine wpListS_append_own rfl _ _ 23 rfl w2.heap.size 3 i0 (.int .i64 0) 1 8 Tryd.underlying23 hi hz0 hz1 hz2 rfl (by decide) _ _ _ rfl (World.ownsRow.alloc hown _) ⟨w3.heap.size, 0, none⟩ 1 1 [.int .i64 (k : Int)] rfl rfl (newR_one _ _ _) (fun u hu => by simp at hu; subst hu; rfl) (by unfold maxLen; omega) (by omega) (by simp; omega) ?_)
      intro v' w5 hown2 hgrow hat
      have hI5 := intsR_snoc hown2
      have hsz : ∀ o, (w3.alloc o).heap.size = w3.heap.size + 1 := fun o => by simp
      have keep : ∀ q, q < w3.heap.size → u9.ownBlock ≠ some q → w5.heap[q]? = w3.heap[q]? := fun q hq hne => (hgrow.block q (by rw [hsz]; omega) (fun e => hne e.symm)).trans (Below.heap_alloc _ _ _ hq)
      have hE5 : Ex (fun q => u9.ownBlock = some q) w3 w5 := ⟨hgrow.os, hgrow.tape, hgrow.output, by have := hgrow.size; rw [hsz] at this; omega, fun q hq hx => keep q hq hx⟩
      have HG : Hid (Sg w2 g ss X (Q ++ [(k : Int)]) v' w5) := by
        refine ⟨gX Xj wr w3, ?_, fun q hq => ?_, fun q hq hx => ?_, hI5, HE23.out.next hE5 (fun q hq hx => by have := (World.ownsRow.lt hown q hx).1; omega)⟩
        · rw [frees_snoc]
          exact HS3.out.keep hE5 (fun q hq hx => HV3.out q hx hq)
        · rcases hq with hq | hq
          · exact HX.out q hq
          · have := HE.out.size
            exact Or.inr (by omega)
        · rcases hat with e | e
          · exact HV3.out q (by rw [← e]; exact hq) hx
          · rw [e] at hq
            injection hq with hq
            rcases hx with hx | hx
            · have := HXS.out q hx
              have := HE3.out.size
              omega
            · omega
      rw [← HTK.out] at HG
      clear hI5 hsz keep hE5 hown2 hgrow hat hown
      go_wp2_with fail
      go_roundw
      case rel => exact ⟨j + 1, by omega, rfl, HG.out⟩
      case measure => simp [intOf]; omega
    · obtain rfl : j = nl := by omega
      have tj : ((j : Int) < (j : Int)) = False := by simp
      rw [List.take_of_length_le (by rw [HNL.out]; exact Nat.le_refl _)] at hS hI
      have HI9 := Lib.hid hI
      have HS9 := Lib.hid hS
      have HX := Lib.hid hX
      have HE := Lib.hid hE
      clear hI hS hX hE hv
      go_wp2
      go_ret
      have hi9 := HI9.out
      have hsw := HB02.out.size
      refine ⟨_, lf, Xj, rfl, ⟨?_, ?_⟩, HD.out.oth, ?_, fun q hq => ?_, ((ex_of HB02.out).mono (fun _ _ (h : False) => h.elim)).trans HE.out⟩
      · rw [HNF.out]
        exact hi9.1
      · rw [HNF.out]
        rcases hi9.2 with h0 | ⟨g', cap', cur', e', q1, q2⟩
        · exact .inl h0
        · exact .inr ⟨g', cap', cur', e', Nat.le_trans hsw q1, q2⟩
      · rw [HNF.out]
        exact HS9.out
      · rcases HX.out q hq with e | e
        · exact Or.inl e
        · exact Or.inr (by omega)
set_option maxRecDepth 100000 in
theorem sweep_nil {w : World} (ld : Bool) {ra : Option Addr} {rn rc : Nat} {R : List Int} (hR : Lz w w.heap.size ra rn rc R) (hRl : R.length ≤ 100000) (hT : Tab w) :
    Calls Tryd.prog 16 #[.pointer none, .slice ra rn rc, ldV ld] w fun e w' => e = .returned (.slice none 0 0) ∧ Below w.heap.size w w' := by
  have C := divide_any (sla_nil w) (by simp) (fun k hk => by simp [nts] at hk) ld hR hRl
  rw [show (([] : List So).length + 63) / 64 = 0 from rfl] at C
  obtain ⟨lv, hlv⟩ : ∃ lv, ldV ld = lv := ⟨_, rfl⟩
  rw [hlv] at C ⊢
  have htl := hT.lt
  have HT := Lib.hid hT
  clear hR hlv hT
  go_enter Tryd.func16, Tryd.ntmps16
  go_wp2_with fail
  refine C.mono ?_
  rintro e w1 ⟨gr, gl, Wr, Wl, rf, lf, rfl, hD, hB⟩
  clear C
  have CN := numbers_any hD.ml hD.fl (by simp) (HT.out.below hB htl)
  rw [show nbs lf (0 * 64) = [] from rfl] at CN
  have HB := Lib.hid hB
  clear hD hB
  go_wp2_with fail
  refine CN.mono ?_
  rintro e w2 ⟨v, rfl, hI, hB2⟩
  clear CN
  obtain ⟨va, vc, rfl⟩ := ownsS_shape hI
  have HB2 := Lib.hid (HB.out.trans (hB2.mono HB.out.size))
  clear hI hB2
  go_wp2_with fail
  go_loopw [9, 22] (fun v9 v22 wr => v9 = .slice none 0 0 ∧ v22 = .int .i64 0 ∧ w2 = wr) (fun _ _ _ => 0)
  case atStart => exact ⟨rfl, rfl, rfl⟩
  case round =>
    obtain ⟨rfl, rfl, rfl⟩ := hrel
    go_wp2
    go_ret
    exact ⟨rfl, HB2.out⟩
end Go.Proofs.YtbnmnmbfdfgohaaDoor
