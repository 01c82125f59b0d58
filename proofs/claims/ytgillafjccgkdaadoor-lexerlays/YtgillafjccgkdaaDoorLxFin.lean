/-
  A reader's end.
-/
import Derived.Test.YtgillafjccgkdaaDoorLxSet
namespace Go.Proofs.YtgillafjccgkdaaDoor
open Go.RowKit Go.WideShapes
namespace Lx

/-- What stands behind the last line's end. -/
def nl2 (a : Nat) (ts : List Tok) : List Tok :=
  match ts.getLast? with
  | none => ts
  | some t => if t.kind = 6 then ts else ts ++ [⟨6, [], a⟩]
theorem nl_eq (a : Nat) (ts : List Tok) (h : ∀ t, ts.getLast? = some t → t.kind ≠ 7 ∧ t.kind ≠ 8) : nl a ts = nl2 a ts := by
  unfold nl nl2
  cases e : ts.getLast? with
  | none => rfl
  | some t =>
    have := h t e
    simp only
    by_cases h6 : t.kind = 6
    · rw [if_pos (Or.inl h6), if_pos h6]
    · rw [if_neg (by omega), if_neg h6]
theorem nl2_len (a : Nat) (ts : List Tok) : (nl2 a ts).length ≤ ts.length + 1 := by
  unfold nl2
  split
  · omega
  · split <;> simp
theorem last_get (ts : List Tok) (t : Tok) (h : ts.getLast? = some t) : 0 < ts.length ∧ ts[ts.length - 1]? = some t := by
  rw [List.getLast?_eq_getElem?] at h
  refine ⟨?_, h⟩
  rcases Nat.eq_zero_or_pos ts.length with z | z
  · rw [List.eq_nil_of_length_eq_zero z] at h
    cases h
  · exact z
/-- The blocks that end with the source. -/
theorem fin_go {d a : Nat} {r : List Nat} {ts : List Tok} : ts ++ List.replicate ((d :: r).length) ⟨8, [], a⟩ = (ts ++ [⟨8, [], a⟩]) ++ List.replicate r.length ⟨8, [], a⟩ := by
  rw [List.length_cons, List.replicate_succ]
  simp
set_option maxRecDepth 100000 in
set_option maxHeartbeats 2000000 in
theorem finish_any {B : Nat} {w : World} {g : Nat} {src : ByteArray} {s : St} (hX : RdX B w g src s) (hk : s.Ok src.size) (hsz : src.size ≤ 65536) :
    Calls Tryd.prog 27 #[.pointer (some ⟨g, 0, none⟩)] w fun e w' => e = .returned (.tuple #[]) ∧ (∃ bs, RdX B w' g src ⟨s.at_, s.opn, bs, fin s⟩) ∧ Below B w w' := by
  have HK := Lib.hid hk
  have hat : s.at_ ≤ 65536 := by have := hk.le; omega
  have hts : s.ts.length ≤ 3000000 := by have := hk.many; omega
  have HX := Lib.hid hX
  obtain ⟨bv, tv, h⟩ := hX
  obtain ⟨ta, tc, rfl⟩ := ownsS_shape h.to
  have c4 := h.c4
  have HH := Lib.hid h
  have HBw : Hid (B ≤ w.heap.size) := by have := h.lo; have := h.lt; show B ≤ _; omega
  have e1 : IntKind.i64.wrap ((s.ts.length : Int) - 1) = (s.ts.length : Int) - 1 := i64_small (by omega) (by omega)
  have HF : Hid (fin s = nl2 s.at_ s.ts ++ List.replicate (s.bs.length - 1) ⟨8, [], s.at_⟩ ++ [⟨9, [], s.at_⟩]) := by
    show fin s = _
    unfold fin
    rw [nl_eq _ _ hk.kind]
  clear hk h
  have H3 : s.ts.getLast? = none ∨ (∃ t, s.ts.getLast? = some t ∧ t.kind = 6) ∨ (∃ t, s.ts.getLast? = some t ∧ t.kind ≠ 6) := by
    cases hg : s.ts.getLast? with
    | none => exact Or.inl rfl
    | some t => by_cases h6 : t.kind = 6; exact Or.inr (Or.inl ⟨t, rfl, h6⟩); exact Or.inr (Or.inr ⟨t, rfl, h6⟩)
  have ht2 : (nl2 s.at_ s.ts).length ≤ 3000001 := by have := nl2_len s.at_ s.ts; omega
  rcases H3 with hg | ⟨t, hg, h6⟩ | ⟨t, hg, h6⟩
  case' inl =>
    have HS : Hid (RdX B w g src ⟨s.at_, s.opn, s.bs, nl2 s.at_ s.ts⟩ ∧ Below B w w) := by
      have e : nl2 s.at_ s.ts = s.ts := by unfold nl2; rw [hg]
      rw [e]
      exact ⟨HX.out, Below.refl _ _⟩
    have h0 : s.ts.length = 0 := by rw [List.getLast?_eq_none_iff] at hg; rw [hg]; rfl
    rw [h0] at c4
    clear hg h0 e1
    go_enter Tryd.func27, Tryd.ntmps27
    go_wp2_with fail
  case' inr.inl =>
    have HS : Hid (RdX B w g src ⟨s.at_, s.opn, s.bs, nl2 s.at_ s.ts⟩ ∧ Below B w w) := by
      have e : nl2 s.at_ s.ts = s.ts := by unfold nl2; rw [hg]; simp only; rw [if_pos h6]
      rw [e]
      exact ⟨HX.out, Below.refl _ _⟩
    obtain ⟨hp, hlast⟩ := last_get _ _ hg
    have hto := HH.out.to
    obtain ⟨gt, cap, hv, _, hcap, _⟩ := ownsS_some hto hp
    rw [hv] at hto c4
    have ck := ownsS_cell hto ((s.ts.length - 1) * 3 + 0) _ ((tkl_get s.ts (s.ts.length - 1) 0 t hlast (by omega)).trans rfl)
    rw [h6, Nat.add_zero] at ck
    have HC := Lib.hid ck
    have ea : ((s.ts.length : Int) - 1) = ((s.ts.length - 1 : Nat) : Int) := by omega
    rw [ea] at e1
    have i1 : ((s.ts.length - 1 : Nat) : Int) < (s.ts.length : Int) := by omega
    have i2 : (0 : Int) ≤ ((s.ts.length - 1 : Nat) : Int) := by omega
    clear hg hto hv hlast hcap ck hp
    generalize s.ts.length - 1 = m at *
    generalize s.ts.length = n at *
    have ck := HC.out
    go_enter Tryd.func27, Tryd.ntmps27
    go_wp2_with fail
  case' inr.inr =>
    obtain ⟨hp, hlast⟩ := last_get _ _ hg
    have hto := HH.out.to
    obtain ⟨gt, cap, hv, _, hcap, _⟩ := ownsS_some hto hp
    rw [hv] at hto c4
    have ck := ownsS_cell hto ((s.ts.length - 1) * 3 + 0) _ ((tkl_get s.ts (s.ts.length - 1) 0 t hlast (by omega)).trans rfl)
    rw [Nat.add_zero] at ck
    have HC := Lib.hid ck
    have ea : ((s.ts.length : Int) - 1) = ((s.ts.length - 1 : Nat) : Int) := by omega
    rw [ea] at e1
    have i1 : ((s.ts.length - 1 : Nat) : Int) < (s.ts.length : Int) := by omega
    have i2 : (0 : Int) ≤ ((s.ts.length - 1 : Nat) : Int) := by omega
    have HT := Lib.hid hts
    have h6' : (((t.kind : Nat) : Int) != 6) = true := by simp; omega
    have HE : Hid (nl2 s.at_ s.ts = s.ts ++ [⟨6, [], s.at_⟩]) := by show nl2 _ _ = _; unfold nl2; rw [hg]; simp only; rw [if_neg h6]
    have C := put_any HX.out 6 [] 0 ⟨#[]⟩ rfl (by omega) (by omega) (by omega)
    unfold St.add at C
    clear hg hto hv hlast hcap ck hp h6
    generalize s.ts.length - 1 = m at *
    generalize s.ts.length = n at *
    have ck := HC.out
    generalize t.kind = tkd at *
    go_enter Tryd.func27, Tryd.ntmps27
    go_wp2_with fail
    refine C.mono ?_
    rintro e w2 ⟨rfl, h2, hb2⟩
    clear C
    have HS : Hid (RdX B w2 g src ⟨s.at_, s.opn, s.bs, nl2 s.at_ s.ts⟩ ∧ Below B w w2) := by
      rw [HE.out]
      exact ⟨h2, hb2⟩
    clear h2 hb2
    go_wp2_with fail
  all_goals
    go_loopg [] s.bs.length (fun gk wr => ∃ d r ts, r.length ≤ gk ∧ (d :: r).getLast? = some 0 ∧ (d :: r).Pairwise (fun a b => b < a) ∧ r.length ≤ 40 ∧ ts.length + r.length ≤ 9000100 ∧ ts ++ List.replicate r.length ⟨8, [], s.at_⟩ = nl2 s.at_ s.ts ++ List.replicate (s.bs.length - 1) ⟨8, [], s.at_⟩ ∧ RdX B wr g src ⟨s.at_, s.opn, d :: r, ts⟩ ∧ Below B w wr)
    case atStart =>
      have hk := HK.out
      have hS := HS.out
      cases hs : s.bs with
      | nil => exact absurd hs hk.ne
      | cons d r =>
        have h1 := hk.last
        have h2 := hk.down
        have h3 := hk.few
        rw [hs] at hS h1 h2 h3
        simp only [List.length_cons] at h3
        exact ⟨d, r, _, by simp, h1, h2, by omega, by omega, rfl, hS.1, hS.2⟩
    case round =>
      obtain ⟨d, r, ts1, hgk, hl1, hdn, hr1, ht1, hrep, hX1, hB⟩ := hrel
      have HX1 := Lib.hid hX1
      have HB := Lib.hid hB
      have HRE := Lib.hid hrep
      have HL1 := Lib.hid hl1
      have HDN := Lib.hid hdn
      have HBr : Hid (B ≤ wr.heap.size) := by have := HBw.out; have := hB.size; show B ≤ _; omega
      obtain ⟨bv1, tv1, h1⟩ := hX1
      have C := depth_any h1 rfl (by omega)
      clear h1 hB hrep hl1 hdn
      by_cases hd : d = 0
      · subst hd
        have hr0 : r = [] := by
          cases r with
          | nil => rfl
          | cons x t =>
            have := (List.pairwise_cons.1 HDN.out).1 x (by simp)
            omega
        subst hr0
        have HFF : Hid (fin s = ts1 ++ [⟨9, [], s.at_⟩]) := by
          show fin s = _
          rw [HF.out, ← HRE.out]
          simp
        simp only [List.length_nil] at ht1
        go_wp2_with fail
        refine C.mono ?_
        rintro e w3 ⟨rfl, hb3⟩
        clear C
        have C2 := put_any (HX1.out.below hb3) 9 [] 0 ⟨#[]⟩ rfl (by show s.at_ ≤ _; omega) (by omega) (by show ts1.length ≤ _; omega)
        unfold St.add at C2
        simp only at C2
        go_wp2_with fail
        refine C2.mono ?_
        rintro e w4 ⟨rfl, h4, hb4⟩
        clear C2
        go_wp2_with fail
        go_end0
        refine ⟨rfl, ⟨[0], ?_⟩, (HB.out.trans (hb3.mono HBr.out)).trans hb4⟩
        rw [HFF.out]
        exact h4
      · have hd2 : (0 : Int) < (d : Int) := by omega
        have hne := (last_tail (n := 0) HL1.out (by omega)).1
        have hla := (last_tail (n := 0) HL1.out (by omega)).2
        cases r with
        | nil => exact absurd rfl hne
        | cons d2 r2 =>
          have HA := Lib.hid hla
          have HP := Lib.hid (List.pairwise_cons.1 HDN.out).2
          simp only [List.length_cons] at hgk hr1 ht1
          clear hne hla hd
          go_wp2_with fail
          refine C.mono ?_
          rintro e w3 ⟨rfl, hb3⟩
          clear C
          have C2 := dedent_any (HX1.out.below hb3) rfl (by simp; omega) (by show s.at_ ≤ _; omega) (by show ts1.length ≤ _; omega)
          simp only at C2
          go_wp2_with fail
          refine C2.mono ?_
          rintro e w4 ⟨rfl, h4, hb4⟩
          clear C2
          go_wp2_with fail
          go_roundg r2.length
          case measure => omega
          case rel => exact ⟨d2, r2, _, Nat.le_refl _, HA.out, HP.out, by omega, by simp; omega, by rw [← HRE.out]; exact fin_go.symm, h4, (HB.out.trans (hb3.mono HBr.out)).trans hb4⟩
end Lx
end Go.Proofs.YtgillafjccgkdaaDoor
