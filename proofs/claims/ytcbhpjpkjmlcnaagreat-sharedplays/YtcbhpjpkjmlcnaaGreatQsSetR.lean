/-
  The document's Set, where the namespace has a row.
-/
import Derived.Test.YtcbhpjpkjmlcnaaGreatQsTurn
namespace Go.Proofs.YtcbhpjpkjmlcnaaGreat
open Go.RowKit Go.WideShapes

set_option maxRecDepth 100000 in
set_option maxHeartbeats 8000000 in
theorem rset_row {w : World} {f s : Nat} {F : Fa} {pr : Option Addr} {XF XS : Nat → Prop} {vs : List Int} {v : Nat} {a b c d : Int} {c0 : Nat} (h : Qp w f F (.pointer pr) XF s (.row vs) v XS) (hM : Ms w (.pointer pr) a b c d) (ha : 0 ≤ a ∧ a ≤ 10000000) (hb : 0 ≤ b ∧ b ≤ 10000000000) (hc : 0 ≤ c ∧ c ≤ 100000000) (hd : 0 ≤ d ∧ d ≤ 100000000) (hO : F.Ok hsT c0) (hst : (Stn.row vs).Ok hsT F c0) (hc0 : c0 ≤ 49000) (hv : v ≤ 1000000000) {nm : ByteArray} (hs3 : nm.size ≤ 3000) (x : Int) :
    Calls Tryz.prog 30 #[.pointer (some ⟨s, 0, none⟩), .string nm, .int .i64 x] w fun e w' => ∃ er : Int, e = .returned (.int .i64 er) ∧ RSetQ w f F (.pointer pr) a b c d XF s (.row vs) v XS nm x er w' := by
  obtain ⟨k, hk⟩ := num_ex F.all nm
  have C1 := rfind_any h hM hb hO hst (by omega) hs3 hk
  have hvl : vs.length ≤ F.kt.es.length := hst
  have h256 : F.kt.es.length ≤ 256 := Nat.le_trans hO.len hO.room
  have HF := Lib.hid h
  have HO := Lib.hid hO
  have HK := Lib.hid hk
  have ew : IntKind.i64.wrap ((v : Int) + 1) = (v : Int) + 1 := i64_small (by omega) (by omega)
  clear h hM hO hk hst
  go_enter Tryz.func30, Tryz.ntmps30
  go_wp2_with fail
  refine C1.mono ?_
  rintro e w1 ⟨res, jj, rfl, hSK, hm, hx⟩
  clear C1
  have R1 := QsR.met HF.out hm hx
  have HSK := Lib.hid hSK
  by_cases hr : 0 ≤ res ∧ res < (vs.length : Int)
  · obtain ⟨n, rfl⟩ := Int.eq_ofNat_of_zero_le hr.1
    have hn : n < vs.length := by have := hr.2; omega
    have hfd : fdR (.row vs) (n : Int) = (n : Int) := by show (if (n : Int) < (vs.length : Int) then (n : Int) else -1) = _; rw [if_pos hr.2]
    have HFN : Hid (Fnd F.kt.es k n) := by
      rcases hSK with ⟨m, hm1, hm2, _⟩ | ⟨h9, _⟩
      · obtain rfl : m = n := by omega
        exact hm2
      · omega
    obtain ⟨vv, h1, h2, h3, h4⟩ := R1.qp.sm
    obtain ⟨av, cap, gv, rfl, hcap, hvo⟩ := h2.open
    obtain ⟨rfl, _, _, hgb⟩ := hvo (by omega)
    have R2 := qs_row (n := n) (x := x) R1.qp h1 h2 h3 h4 R1.n
    have k0 : w1.cell? ⟨s, 0, none⟩ = some (.pointer (some ⟨f, 0, none⟩)) := h1.c 0 (by omega)
    have k1 : w1.cell? ⟨s, 1, none⟩ = some (.slice (some ⟨gv, 0, none⟩) vs.length cap) := h1.c 1 (by omega)
    have k2 : w1.cell? ⟨s, 2, none⟩ = some (.pointer none) := h1.c 2 (by omega)
    have p1 := hgb.c n hn
    have y1 := hgb.z n
    obtain ⟨w2, hw2⟩ : ∃ y, w1.setCell ⟨gv, n, none⟩ (.int .i64 x) = y := ⟨_, rfl⟩
    rw [hw2] at R2
    obtain ⟨⟨k3, z3⟩, R3⟩ := qs_up R2.qp R2.n
    have HD : Hid (RSetQ w f F (.pointer pr) a b c d XF s (.row vs) v XS nm x 0 (w2.setCell ⟨s, 3, none⟩ (.int .i64 ((v : Int) + 1)))) := rsetQ_of (.putR HK.out HFN.out hn) HK.out HSK.out ((R1.trans R2).trans R3) rfl (by show a = a + (F.kt.made : Int) - (F.kt.made : Int) + ((0 : Nat) : Int) - ((0 : Nat) : Int); omega) (by omega) (by omega)
    have t1 : (0 : Int) ≤ (n : Int) := by omega
    have t2 : (n : Int) < (vs.length : Int) := hr.2
    have e1 := neQ7n
    have HW2 := Lib.hid hw2
    rw [hfd]
    clear R1 R2 R3 hm hx hSK hfd h1 h2 h3 h4 hvo hgb hw2
    generalize vs[n]?.getD 0 = xn at *
    generalize vs.length = L at *
    go_upto_region 6 with fail
    rw [HW2.out]
    go_wp2_with fail
    go_ret
    exact ⟨0, rfl, HD.out⟩
  · have hfd : fdR (.row vs) res = -1 := by
      rcases HSK.out with ⟨m, rfl, _⟩ | ⟨rfl, _⟩
      · show (if (m : Int) < (vs.length : Int) then (m : Int) else -1) = -1
        rw [if_neg (by omega)]
      · show (if (-1 : Int) < (vs.length : Int) then (-1 : Int) else -1) = -1
        split <;> rfl
    have HNF : Hid (∀ n, Fnd F.kt.es k n → vs.length ≤ n) := fun n hn => by
      rcases HSK.out with ⟨m, rfl, hm2, _⟩ | ⟨rfl, h8, _⟩
      · have := HO.out.nle.one hm2 hn
        omega
      · exact absurd hn (h8 n)
    have Rd : QsR w f (.pointer pr) XF XS s F (.row vs) v a (b + (jj : Int)) c d w1.drew XF XS := QsR.met HF.out (hm.same fun _ _ => rfl) hx.drew
    have CSZ : Calls Tryz.prog 35 #[.pointer (some ⟨s, 0, none⟩)] w1.drew fun e w' => e = .returned (.int .i64 ((vs.length : Nat) : Int)) ∧ w' = w1.drew := rslen_any Rd.qp.sm
    obtain ⟨rv0, ov0, p1, _⟩ := Rd.qp.sm.head
    obtain ⟨gk, evk, qk, nv, hQf, hXF⟩ := Rd.qp.fm
    have x0 : w1.drew.cell? ⟨s, 0, none⟩ = some (.pointer (some ⟨f, 0, none⟩)) := p1.c 0 (by omega)
    have x1 : w1.drew.cell? ⟨f, 1, none⟩ = some (.int .i64 (F.most : Int)) := hQf.hd.c 1 (by omega)
    rw [hfd]
    by_cases hfull : F.most ≤ vs.length
    · have tf : (F.most : Int) ≤ ((vs.length : Nat) : Int) := by omega
      have HQ : Hid (RSetQ w f F (.pointer pr) a b c d XF s (.row vs) v XS nm x 6 w1.drew) := rsetQ_of (.fullR HK.out HNF.out hfull) HK.out HSK.out Rd rfl (by show a = a + (F.kt.made : Int) - (F.kt.made : Int) + ((0 : Nat) : Int) - ((0 : Nat) : Int); omega) (by omega) (by omega)
      clear R1 Rd hm hx p1 hQf hXF hSK hfd hr
      generalize ((vs.length : Nat) : Int) = LN at *
      go_wp2_with fail
      go_region_held3 (fun V => V.cell? ⟨s, 0, none⟩ = some (.pointer (some ⟨f, 0, none⟩)) ∧ V.cell? ⟨f, 1, none⟩ = some (.int .i64 (F.most : Int)))
        (first | with_reducible exact ⟨x0, x1⟩ | fail)
        (first | (go_at_call 35; refine CSZ.mono ?_; rintro e w4 ⟨rfl, rfl⟩) | fail)
      go_wp2_with fail
      go_ret
      exact ⟨6, rfl, HQ.out⟩
    · have tf : ¬ (F.most : Int) ≤ ((vs.length : Nat) : Int) := by omega
      have CN : Calls Tryz.prog 67 #[.pointer (some ⟨f, 0, none⟩), .string nm] w1.drew fun e w' => e = .returned (.int .i64 k) ∧ w' = w1.drew := rnumber_any (hQf.hd.c 3 (by omega)) hQf.ns (HO.out.ktf (by omega)) HO.out.nd HK.out
      have hnl : F.all.length ≤ 100000 := HO.out.ktf (by omega)
      have HRd := Lib.hid Rd
      have HQF := Lib.hid hQf
      have HXF := Lib.hid hXF
      have HLV := Lib.hid hfull
      have HVL := Lib.hid hvl
      clear R1 Rd hm hx p1 hQf hXF hSK hfd hr hfull hvl
      generalize hLN : ((vs.length : Nat) : Int) = LN at *
      go_wp2_with fail
      go_region_held3 (fun V => V.cell? ⟨s, 0, none⟩ = some (.pointer (some ⟨f, 0, none⟩)) ∧ V.cell? ⟨f, 1, none⟩ = some (.int .i64 (F.most : Int)))
        (first | with_reducible exact ⟨x0, x1⟩ | fail)
        (first | (go_at_call 35; refine CSZ.mono ?_; rintro e w4 ⟨rfl, rfl⟩) | fail)
      clear CSZ
      go_wp2_with fail
      refine CN.mono ?_
      rintro e w4 ⟨rfl, rfl⟩
      clear CN tf
      go_upto_if 58 with fail
      go_cut [8] from 57 to 82 (fun kv W => kv = .int .i64 (numn F.all k) ∧ ∃ XF2, QsR w f (.pointer pr) XF XS s { F with all := alln F.all nm k } (.row vs) v a (b + (jj : Int)) c d W XF2 XS)
      case first =>
        clear hLN
        rcases HK.out with ⟨n, rfl, _⟩ | ⟨rfl, _⟩
        · have t6 : ¬ (n : Int) < 0 := by omega
          have t7 : decide ((n : Int) < 0) = false := decide_eq_false t6
          have HR : Hid (QsR w f (.pointer pr) XF XS s { F with all := alln F.all nm (n : Int) } (.row vs) v a (b + (jj : Int)) c d w1.drew XF XS) := by
            show QsR w f (.pointer pr) XF XS s { F with all := alln F.all nm (n : Int) } (.row vs) v a (b + (jj : Int)) c d w1.drew XF XS
            rw [show alln F.all nm (n : Int) = F.all from if_neg (by omega)]
            exact HRd.out
          have hnn : numn F.all (n : Int) = (n : Int) := if_neg (by omega)
          go_wp2_with fail
          go_meet
          exact ⟨by rw [hnn], XF, HR.out⟩
        · have hRd := HRd.out
          have hQ2 : Qf w1.drew.drew f gk evk qk nv F (.pointer pr) := HQF.out.same fun _ _ => rfl
          have R2 : QsR w f (.pointer pr) XF XS s F (.row vs) v a (b + (jj : Int)) c d w1.drew.drew XF XS := hRd.trans (QsR.met hRd.qp (hRd.n.same fun _ _ => rfl) (Ex.refl _ _).drew)
          obtain ⟨i0, hi0, hz0, hz1, hz2⟩ := info_parts Tryz.infoStr
          obtain ⟨an, capn, gn, hnv, hcapn, _⟩ := hQ2.ns.opn
          have f3 : w1.drew.cell? ⟨f, 3, none⟩ = some (.slice an F.all.length capn) := by rw [← hnv]; exact hQ2.hd.c 3 (by omega)
          have a0 : (w1.alloc (.cells #[.string nm] 9)).cell? ⟨s, 0, none⟩ = some (.pointer (some ⟨f, 0, none⟩)) := (((Below.refl _ w1).alloc (Nat.le_refl _) _).cell (p := ⟨s, 0, none⟩) (lt_of_cell x0)).trans x0
          have a3 : (w1.alloc (.cells #[.string nm] 9)).cell? ⟨f, 3, none⟩ = some (.slice an F.all.length capn) := (((Below.refl _ w1).alloc (Nat.le_refl _) _).cell (p := ⟨f, 3, none⟩) (lt_of_cell f3)).trans f3
          have hown : w1.drew.drew.ownsRow 0 9 1 (.slice an F.all.length capn) F.all.length (F.all.map Value.string) := by rw [← hnv]; exact hQ2.ns
          obtain ⟨rv, ov, hhd, hXs⟩ := R2.qp.sm.head
          have HAFT : Hid (∀ v' w5, w5.ownsRow 0 9 1 v' (F.all.length + 1) (F.all.map Value.string ++ [.string nm]) → (w1.drew.drew.alloc (.cells #[.string nm] 9)).grownBy w5 (Value.slice an F.all.length capn).ownBlock → (v'.ownBlock = (Value.slice an F.all.length capn).ownBlock ∨ v'.ownBlock = some (w1.drew.drew.alloc (.cells #[.string nm] 9)).heap.size) →
              (w5.cell? ⟨s, 0, none⟩ = some (.pointer (some ⟨f, 0, none⟩)) ∧ w5.cell? ⟨f, 3, none⟩ = some (.slice an F.all.length capn) ∧ w5.frozen? ⟨f, 3, none⟩ = false) ∧ ∀ w6, w5.setCell ⟨f, 3, none⟩ v' = w6 → ∃ XF2, QsR w f (.pointer pr) XF XS s { F with all := alln F.all nm (-1) } (.row vs) v a (b + (jj : Int)) c d w6 XF2 XS) := fun v' w5 g1 g2 g3 => by
            rw [← hnv] at g2 g3
            obtain ⟨u1, u2⟩ := qf_names R2.qp hQ2 HXF.out R2.n g1 g2 g3
            have ls := hhd.lt (by omega)
            have hsb : w5.heap[s]? = w1.drew.drew.heap[s]? := (g2.block s (by simp; exact Nat.lt_succ_of_lt ls) (fun e => R2.qp.ap s (by rw [HXF.out]; exact .inr (.inr (.inr (.inr e.symm)))) hXs)).trans (Below.heap_alloc _ _ _ ls)
            refine ⟨⟨(World.cell?_of_block (a := ⟨s, 0, none⟩) hsb).trans (hhd.c 0 (by omega)), by rw [← hnv]; exact u1.1, u1.2⟩, fun w6 hw6 => ?_⟩
            obtain ⟨XF2, R3⟩ := u2 w6 hw6
            refine ⟨XF2, ?_⟩
            rw [show alln F.all nm (-1) = F.all ++ [nm] from if_pos rfl]
            exact R2.trans R3
          have HNN : Hid (numn F.all (-1) = (F.all.length : Int)) := by
            show numn F.all (-1) = (F.all.length : Int)
            exact if_pos rfl
          clear hRd hQ2 R2 hnv hhd
          generalize F.all.map Value.string = R at *
          generalize F.all.length = L at *
          go_upto_region 13 with fail
          go_region_law (refine step_append_own rfl _ _ 61 rfl 0 9 i0 (.string ByteArray.empty) 1 16 Tryz.underlying61 hi0 hz0 hz1 hz2 rfl (by decide) (.slice an L capn) L R (by simp [Act.eval]) (World.ownsRow.alloc hown _) ⟨w1.drew.drew.heap.size, 0, none⟩ 1 1 [.string nm] (by simp [Act.eval]) rfl (newR_one _ _ _) (by simp [Value.oneCell']) (by unfold maxLen; omega) (by omega) (Nat.zero_le _) ?_; intro v' w5 hown2 hgrow hat; obtain ⟨⟨k5, k6, z6⟩, HN3⟩ := HAFT.out v' w5 hown2 hgrow hat; have HN4 := Lib.hid HN3; obtain ⟨a2, cap2, hv2⟩ := ownsRow_shape hown2; subst hv2; clear hown2 hgrow hat HN3)
          all_goals
            go_wp2_with fail
            go_meet
            exact ⟨congrArg (Value.int .i64) HNN.out.symm, HN4.out _ rfl⟩
      case rest =>
        obtain ⟨rfl, XF2, R2⟩ := hcut
        clear x0 x1 hLN
        obtain ⟨⟨k3, z3⟩, RU⟩ := qs_up R2.qp R2.n
        have R3 := R2.trans RU
        obtain ⟨w3, hw3⟩ : ∃ y, wc.setCell ⟨s, 3, none⟩ (.int .i64 ((v : Int) + 1)) = y := ⟨_, rfl⟩
        rw [hw3] at R3
        have HW3 := Lib.hid hw3
        have hO2 : ({ F with all := alln F.all nm k } : Fa).Ok hsT (c0 + 1) := HO.out.name HK.out hs3
        obtain ⟨av, cap, gk2, ae, cape, ge, ⟨s0, s1, s2, f0, f2, g0⟩, ken⟩ := row_view R3.qp hO2
        have HR3 := Lib.hid R3
        have HO2 := Lib.hid hO2
        have e1 := eqQ7n
        have CX := fun W => r7text nm W hs3
        have CT : Hid (¬ (F.kt.es.length = vs.length ∧ vs.length < F.room) → (∀ n, Fnd F.kt.es k n → vs.length < n) → ∀ V, Below w3.heap.size w3 V → Calls Tryz.prog 71 #[.pointer (some ⟨s, 0, none⟩)] V fun e w2 => e = .returned (.tuple #[]) ∧ ∃ g, w2.cell? ⟨s, 2, none⟩ = some (.pointer (some ⟨g, 0, none⟩)) ∧ Calls Tryz.prog 69 #[.pointer (some ⟨g, 0, none⟩), .int .i64 (hsT nm), .int .i64 (numn F.all k), .int .i64 x] w2.drew fun e w5 => (∃ n1, e = .returned (.tuple #[.int .i64 n1, .int .i64 0])) ∧ w5.cell? ⟨s, 2, none⟩ = some (.pointer (some ⟨g, 0, none⟩)) ∧ Hid (RSetQ w f F (.pointer pr) a b c d XF s (.row vs) v XS nm x 0 w5)) := fun q1 q2 V hB => by
          refine (rturn_up (HR3.out.below hB) ⟨ha.1, by omega⟩ ⟨hd.1, by omega⟩ HO2.out HVL.out (hsT nm) (numn F.all k) x).mono fun e w2 ⟨c1, g, c2, c3⟩ => ⟨c1, g, c2, c3.mono fun e w5 ⟨d1, d2, ⟨XF', XS', d3⟩⟩ => ⟨d1, d2, ?_⟩⟩
          exact rsetQ_of (.turn HK.out q2 (by have := HLV.out; omega) q1) HK.out HSK.out d3 rfl (by show a + (((turnN F.kt.es vs vs.length).add (hsT nm) (numn F.all k) x).made : Int) = a + (F.kt.made : Int) - (F.kt.made : Int) + (((turnN F.kt.es vs vs.length).add (hsT nm) (numn F.all k) x).made : Int) - ((0 : Nat) : Int); omega) (by omega) (by omega)
        have CB : Hid (Fnd F.kt.es k vs.length → ∀ V, Below w3.heap.size w3 V → Calls Tryz.prog 68 #[.pointer (some ⟨s, 0, none⟩), .int .i64 x] V fun e w2 => e = .returned (.tuple #[]) ∧ Hid (RSetQ w f F (.pointer pr) a b c d XF s (.row vs) v XS nm x 0 w2)) := fun q1 V hB => by
          have R5 := HR3.out.below hB
          have hkk : k ≠ -1 := fun e => by
            obtain ⟨y1, y2, y3⟩ := q1
            obtain ⟨kk, _, _, z2, _⟩ := HO.out.nl.nm _ (nth_mem y1)
            omega
          have eF : ({ F with all := alln F.all nm k } : Fa) = F := by rw [show alln F.all nm k = F.all from if_neg hkk]
          rw [eF] at R5
          refine (rbehind_up R5 ⟨hc.1, by omega⟩ (by have := HVL.out; omega) x).mono fun e w2 ⟨c1, ⟨XF', XS', c3⟩⟩ => ⟨c1, ?_⟩
          exact rsetQ_of (.next HK.out q1 (by have := HLV.out; omega)) HK.out HSK.out c3 rfl (by show a = a + (F.kt.made : Int) - (F.kt.made : Int) + ((0 : Nat) : Int) - ((0 : Nat) : Int); omega) (by omega) (by omega)
        have CK : Hid (F.kt.es.length = vs.length → vs.length < F.room → ∀ V, Below w3.heap.size w3 V → ∃ g, (V.cell? ⟨s, 0, none⟩ = some (.pointer (some ⟨f, 0, none⟩)) ∧ V.cell? ⟨f, 2, none⟩ = some (.pointer (some ⟨g, 0, none⟩))) ∧ Calls Tryz.prog 69 #[.pointer (some ⟨g, 0, none⟩), .int .i64 (hsT nm), .int .i64 (numn F.all k), .int .i64 0] V fun e w2 => (∃ n1, e = .returned (.tuple #[.int .i64 n1, .int .i64 0])) ∧ (w2.cell? ⟨s, 0, none⟩ = some (.pointer (some ⟨f, 0, none⟩)) ∧ w2.cell? ⟨f, 2, none⟩ = some (.pointer (some ⟨g, 0, none⟩))) ∧ Calls Tryz.prog 68 #[.pointer (some ⟨s, 0, none⟩), .int .i64 x] w2 fun e w5 => e = .returned (.tuple #[]) ∧ Hid (RSetQ w f F (.pointer pr) a b c d XF s (.row vs) v XS nm x 0 w5)) := fun q1 q2 V hB => by
          have o1 := HO.out.made
          have o2 := HO.out.turn
          have o3 := HO.out.births
          obtain ⟨g, c1, c2⟩ := rkeys_up (HR3.out.below hB) HO.out.ok (by show F.kt.made ≤ _; omega) ⟨ha.1, by omega⟩ (by show F.kt.turn ≤ _; omega) (by show F.kt.births < _; omega) (hsT nm) (numn F.all k) 0
          refine ⟨g, c1, c2.mono fun e w2 ⟨d1, d2, XF3, d3⟩ => ⟨d1, d2, ?_⟩⟩
          have hup := F.kt.add_up (hsT nm) (numn F.all k) 0
          refine (rbehind_up d3 ⟨hc.1, by omega⟩ (by have := HVL.out; omega) x).mono fun e w5 ⟨g1, ⟨XF', XS', g3⟩⟩ => ⟨g1, ?_⟩
          exact rsetQ_of (.new HK.out (fun n hn => by have := HNF.out n hn; have := hn.1; omega) (by have := HLV.out; omega) q1 q2) HK.out HSK.out g3 rfl (by show a + ((F.kt.add (hsT nm) (numn F.all k) 0).made - F.kt.made : Nat) = a + ((F.kt.add (hsT nm) (numn F.all k) 0).made : Int) - (F.kt.made : Int) + ((0 : Nat) : Int) - ((0 : Nat) : Int); omega) (by omega) (by omega)
        clear R2 RU R3 hO2 hw3
        have HKN : Hid (∀ n, Fnd F.kt.es k n → numn F.all k = k) := fun n hn => if_neg (fun e => by
          obtain ⟨y1, y2, y3⟩ := hn
          obtain ⟨kk, _, _, z2, _⟩ := HO.out.nl.nm _ (nth_mem y1)
          omega)
        by_cases c1 : vs.length < F.kt.es.length
        · have tl : (vs.length : Int) < (F.kt.es.length : Int) := by omega
          obtain ⟨rfl, q2⟩ := ken vs.length c1
          have te : ¬ (vs.length : Int) = (F.kt.es.length : Int) := by omega
          have tb : ((vs.length : Int) == (F.kt.es.length : Int)) = false := by simp only [beq_eq_false_iff_ne]; omega
          obtain ⟨Y, hY⟩ : ∃ Y, (nth F.kt.es vs.length).key = Y := ⟨_, rfl⟩
          by_cases hy : Y = numn F.all k
          · have HFN : Hid (Fnd F.kt.es k vs.length) := ⟨c1, dead_live HO.out.dead c1, by
              rw [hY, hy]
              refine if_neg (fun e => ?_)
              obtain ⟨kk, _, z1, z2, _⟩ := HO.out.nl.nm _ (nth_mem c1)
              have z3 := (List.getElem?_eq_some_iff.1 z1).1
              rw [hY, hy, show numn F.all k = (F.all.length : Int) from if_pos e] at z2
              omega⟩
            have CB1 := fun q : Nat => CB.out HFN.out (w3.drewN q) (qbelow_drewN (Below.refl _ w3) q)
            rw [hY, hy] at q2
            clear ken CT CK CB hY hy HKN HNF
            generalize numn F.all k = K at *
            generalize F.kt.es.length = m at *
            generalize vs.length = L at *
            go_upto_region 15 with fail
            rw [HW3.out]
            go_upto_region 17 with fail
            go_quiet (fail)
            go_wp2_with fail
            refine (CB1 _).mono ?_
            rintro e w5 ⟨rfl, HD⟩
            clear CB1
            go_wp2_with fail
            go_ret
            exact ⟨0, rfl, HD.out⟩
          · have tq : (Y == numn F.all k) = false := by simp only [beq_eq_false_iff_ne]; exact hy
            have CP := CT.out (fun e => by omega) (fun n hn => by
              have h1 := HNF.out n hn
              rcases Nat.lt_or_ge vs.length n with y | y
              · exact y
              · have e : n = vs.length := by omega
                refine absurd ?_ hy
                rw [HKN.out n hn, ← hY, ← e]
                exact hn.2.2)
            rw [hY] at q2
            clear ken CT CK CB hY HKN HNF
            generalize hsT nm = U at *
            generalize numn F.all k = K at *
            generalize F.kt.es.length = m at *
            generalize vs.length = L at *
            go_upto_region 15 with fail
            rw [HW3.out]
            go_upto_region 17 with fail
            go_quiet (fail)
            go_wp2_with fail
            refine (CP _ (qbelow_drewN (Below.refl _ w3) _)).mono ?_
            rintro e w5 ⟨rfl, g, kg, CA⟩
            have kd : w5.drew.cell? ⟨s, 2, none⟩ = some (.pointer (some ⟨g, 0, none⟩)) := kg
            clear CP
            go_wp2_with fail
            go_region_held3 (fun V => V.cell? ⟨s, 2, none⟩ = some (.pointer (some ⟨g, 0, none⟩)))
              (first | with_reducible exact kd | with_reducible exact s5 | fail)
              (first | (go_at_call 70; refine (CX _).mono ?_; rintro e w4 ⟨rfl, rfl⟩) | (go_at_call 69; refine CA.mono ?_; rintro e w6 ⟨⟨n1, rfl⟩, s5, HD⟩) | fail)
            go_wp2_with fail
            go_ret
            exact ⟨0, rfl, HD.out⟩
        · have tl : ¬ (vs.length : Int) < (F.kt.es.length : Int) := by omega
          have hm : F.kt.es.length = vs.length := by have := HVL.out; omega
          by_cases hrm : vs.length < F.room
          · have tr : (vs.length : Int) < (F.room : Int) := by omega
            have CK1 := CK.out hm hrm
            rw [hm] at g0 tl
            clear ken CT CK CB HKN HNF hm
            generalize hsT nm = U at *
            generalize numn F.all k = K at *
            generalize vs.length = L at *
            go_upto_region 15 with fail
            rw [HW3.out]
            go_upto_region 17 with fail
            go_quiet (fail)
            go_upto_region 21 with fail
            obtain ⟨g, ⟨y0, y2⟩, CA⟩ := CK1 (w3.drewN (nq + 1)) (qbelow_drewN (Below.refl _ w3) _)
            have z0 : (w3.drewN nq).drew.cell? ⟨s, 0, none⟩ = some (.pointer (some ⟨f, 0, none⟩)) := y0
            have z2 : (w3.drewN nq).drew.cell? ⟨f, 2, none⟩ = some (.pointer (some ⟨g, 0, none⟩)) := y2
            clear CK1
            go_region_held3 (fun V => V.cell? ⟨s, 0, none⟩ = some (.pointer (some ⟨f, 0, none⟩)) ∧ V.cell? ⟨f, 2, none⟩ = some (.pointer (some ⟨g, 0, none⟩)))
              (first | with_reducible exact ⟨y0, y2⟩ | with_reducible exact ⟨z0, z2⟩ | with_reducible exact s5 | fail)
              (first | (go_at_call 70; refine (CX _).mono ?_; rintro e w4 ⟨rfl, rfl⟩) | (go_at_call 69; refine CA.mono ?_; rintro e w6 ⟨⟨n1, rfl⟩, s5, CB2⟩) | fail)
            go_wp2_with fail
            refine CB2.mono ?_
            rintro e w7 ⟨rfl, HD⟩
            go_wp2_with fail
            go_ret
            exact ⟨0, rfl, HD.out⟩
          · have tr : ¬ (vs.length : Int) < (F.room : Int) := by omega
            have CP := CT.out (fun e => hrm e.2) (fun n hn => by have h1 := HNF.out n hn; have h2 := hn.1; omega)
            rw [hm] at g0 tl
            clear ken CT CK CB HKN HNF hm
            generalize hsT nm = U at *
            generalize numn F.all k = K at *
            generalize vs.length = L at *
            go_upto_region 15 with fail
            rw [HW3.out]
            go_upto_region 17 with fail
            go_quiet (fail)
            go_wp2_with fail
            refine (CP _ (qbelow_drewN (Below.refl _ w3) _)).mono ?_
            rintro e w5 ⟨rfl, g, kg, CA⟩
            have kd : w5.drew.cell? ⟨s, 2, none⟩ = some (.pointer (some ⟨g, 0, none⟩)) := kg
            clear CP
            go_wp2_with fail
            go_region_held3 (fun V => V.cell? ⟨s, 2, none⟩ = some (.pointer (some ⟨g, 0, none⟩)))
              (first | with_reducible exact kd | with_reducible exact s5 | fail)
              (first | (go_at_call 70; refine (CX _).mono ?_; rintro e w4 ⟨rfl, rfl⟩) | (go_at_call 69; refine CA.mono ?_; rintro e w6 ⟨⟨n1, rfl⟩, s5, HD⟩) | fail)
            go_wp2_with fail
            go_ret
            exact ⟨0, rfl, HD.out⟩
theorem rset_any {w : World} {f s : Nat} {F : Fa} {pr : Option Addr} {XF XS : Nat → Prop} {st : Stn} {v : Nat} {a b c d : Int} {c0 : Nat} (h : Qp w f F (.pointer pr) XF s st v XS) (hM : Ms w (.pointer pr) a b c d) (ha : 0 ≤ a ∧ a ≤ 10000000) (hb : 0 ≤ b ∧ b ≤ 10000000000) (hc : 0 ≤ c ∧ c ≤ 100000000) (hd : 0 ≤ d ∧ d ≤ 100000000) (hO : F.Ok hsT c0) (hst : st.Ok hsT F c0) (hc0 : c0 ≤ 49000) (hv : v ≤ 1000000000) {nm : ByteArray} (hs3 : nm.size ≤ 3000) (x : Int) :
    Calls Tryz.prog 30 #[.pointer (some ⟨s, 0, none⟩), .string nm, .int .i64 x] w fun e w' => ∃ er : Int, e = .returned (.int .i64 er) ∧ RSetQ w f F (.pointer pr) a b c d XF s st v XS nm x er w' := by
  cases st with
  | row vs => exact rset_row h hM ha hb hc hd hO hst hc0 hv hs3 x
  | own t => exact rset_own h hM ha hb hO hst hc0 hv hs3 x
end Go.Proofs.YtcbhpjpkjmlcnaaGreat
