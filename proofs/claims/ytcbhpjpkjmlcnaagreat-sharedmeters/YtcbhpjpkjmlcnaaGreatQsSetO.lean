/-
  The document's Set, where the namespace has its own table.
-/
import Derived.Test.YtcbhpjpkjmlcnaaGreatGxao
namespace Go.Proofs.YtcbhpjpkjmlcnaaGreat
open Go.RowKit Go.WideShapes

/-- The value is put into the namespace's own table, and the version goes up. -/
theorem rput_up {w w1 : World} {f s n : Nat} {F : Fa} {mr : Value} {XF XS XF1 XS1 : Nat → Prop} {t : Tb} {v : Nat} {a b c d : Int} (R : QsR w f mr XF XS s F (.own t) v a b c d w1 XF1 XS1) (hn : n < t.es.length) (hl : (nth t.es n).live = true) (x : Int) :
    ∃ g, w1.cell? ⟨s, 2, none⟩ = some (.pointer (some ⟨g, 0, none⟩)) ∧ Calls Tryz.prog 66 #[.pointer (some ⟨g, 0, none⟩), .int .i64 (n : Int), .int .i64 x] w1 fun e w2 => e = .returned (.int .i64 0) ∧ (w2.cell? ⟨s, 3, none⟩ = some (.int .i64 (v : Int)) ∧ w2.frozen? ⟨s, 3, none⟩ = false) ∧ Hid (∃ XF' XS', QsR w f mr XF XS s F (.own (t.putv n x)) (v + 1) a b c d (w2.setCell ⟨s, 3, none⟩ (.int .i64 ((v : Int) + 1))) XF' XS') := by
  obtain ⟨g, ev, q, h1, h2, h3, h4⟩ := R.qp.sm
  refine ⟨g, h1.c 2 (by omega), (rput_yes_s h2 n x hn hl).mono fun e w2 ⟨e1, e2, e3⟩ => ?_⟩
  have hM2 : Ms w2 mr a b c d := R.n.same fun k hk => e3.block k (R.n.lt k hk) (fun y => (h2.mp k hk).2.2 y)
  obtain ⟨XS2, R2⟩ := qs_tab R.qp h1 h2 h3 h4 e2 (.inl rfl) (fun _ y => .inl y) R.n hM2 (e3.mono fun k _ y => .inr (.inr (.inl y)))
  obtain ⟨u1, u2⟩ := qs_up R2.qp R2.n
  exact ⟨e1, u1, ⟨_, _, (R.trans R2).trans u2⟩⟩
/-- An entry comes into the namespace's own table. -/
theorem radd_own {w w1 : World} {f s : Nat} {F : Fa} {mr : Value} {XF XS XF1 XS1 : Nat → Prop} {t : Tb} {v : Nat} {a b c d : Int} (R : QsR w f mr XF XS s F (.own t) v a b c d w1 XF1 XS1) (hO : t.Ok) (hm : t.made ≤ 1000000) (ha : 0 ≤ a ∧ a ≤ 1000000000) (ht : t.turn ≤ 1000000) (hb : t.births < 100000) (u k x : Int) :
    ∃ g, w1.cell? ⟨s, 2, none⟩ = some (.pointer (some ⟨g, 0, none⟩)) ∧ Calls Tryz.prog 69 #[.pointer (some ⟨g, 0, none⟩), .int .i64 u, .int .i64 k, .int .i64 x] w1 fun e w2 => e = .returned (.tuple #[.int .i64 (((t.add u k x).es.length - 1 : Nat) : Int), .int .i64 0]) ∧ w2.cell? ⟨s, 2, none⟩ = some (.pointer (some ⟨g, 0, none⟩)) ∧ Hid (∃ XF' XS', QsR w f mr XF XS s F (.own (t.add u k x)) v (a + ((t.add u k x).made - t.made : Nat)) b c d w2 XF' XS') := by
  obtain ⟨g, ev, q, h1, h2, h3, h4⟩ := R.qp.sm
  refine ⟨g, h1.c 2 (by omega), (radd_s h2 hO R.n hm ha ht hb u k x).mono fun e w2 ⟨e1, ev', q', e2, e3, e4, e5, e6⟩ => ?_⟩
  obtain ⟨XS2, R2⟩ := qs_tab R.qp h1 h2 h3 h4 e4 e2 e3 R.n e5 e6
  have hs : w2.heap[s]? = w1.heap[s]? := e6.block s (h1.lt (by omega)) (fun y => by
    rcases y with y | y | y | y
    · exact h3 (.inl y)
    · exact h3 (.inr (.inl y))
    · exact h3 (.inr (.inr y))
    · exact R.qp.mq s y (by rw [h4]; exact .inl rfl))
  exact ⟨e1, (World.cell?_of_block (a := ⟨s, 2, none⟩) hs).trans (h1.c 2 (by omega)), ⟨_, _, R.trans R2⟩⟩
set_option maxRecDepth 100000 in
set_option maxHeartbeats 4000000 in
theorem rset_own {w : World} {f s : Nat} {F : Fa} {pr : Option Addr} {XF XS : Nat → Prop} {t : Tb} {v : Nat} {a b c d : Int} {c0 : Nat} (h : Qp w f F (.pointer pr) XF s (.own t) v XS) (hM : Ms w (.pointer pr) a b c d) (ha : 0 ≤ a ∧ a ≤ 10000000) (hb : 0 ≤ b ∧ b ≤ 10000000000) (hO : F.Ok hsT c0) (hst : (Stn.own t).Ok hsT F c0) (hc0 : c0 ≤ 49000) (hv : v ≤ 1000000000) {nm : ByteArray} (hs3 : nm.size ≤ 3000) (x : Int) :
    Calls Tryz.prog 30 #[.pointer (some ⟨s, 0, none⟩), .string nm, .int .i64 x] w fun e w' => ∃ er : Int, e = .returned (.int .i64 er) ∧ RSetQ w f F (.pointer pr) a b c d XF s (.own t) v XS nm x er w' := by
  obtain ⟨k, hk⟩ := num_ex F.all nm
  have C1 := rfind_any h hM hb hO hst (by omega) hs3 hk
  obtain ⟨t1, t2, t3, t4, t5⟩ := hst
  have hlen : t.es.length ≤ 100000 := Nat.le_trans t1.few t1.all
  have HTO := Lib.hid t1
  have HF := Lib.hid h
  have HO := Lib.hid hO
  have HK := Lib.hid hk
  have ew : IntKind.i64.wrap ((v : Int) + 1) = (v : Int) + 1 := i64_small (by omega) (by omega)
  clear h hM hO hk t1 t2
  go_enter Tryz.func30, Tryz.ntmps30
  go_wp2_with fail
  refine C1.mono ?_
  rintro e w1 ⟨res, jj, rfl, hSK, hm, hx⟩
  clear C1
  have R1 := QsR.met HF.out hm hx
  have HSK := Lib.hid hSK
  have hfd : fdR (.own t) res = res := rfl
  rw [hfd]
  clear hfd
  rcases hSK with ⟨n, rfl, hn, _⟩ | ⟨rfl, hno, _⟩
  · obtain ⟨g, k2, CK0⟩ := rput_up R1 hn.1 hn.2.1 x
    have CK := CK0.mono (R' := fun e w3 => e = .returned (.int .i64 0) ∧ (w3.cell? ⟨s, 3, none⟩ = some (.int .i64 (v : Int)) ∧ w3.frozen? ⟨s, 3, none⟩ = false) ∧ Hid (RSetQ w f F (.pointer pr) a b c d XF s (.own t) v XS nm x 0 (w3.setCell ⟨s, 3, none⟩ (.int .i64 ((v : Int) + 1))))) (fun e w3 ⟨c1, c2, ⟨XF', XS', c3⟩⟩ => ⟨c1, c2, rsetQ_of (.putO HK.out hn) HK.out HSK.out c3 rfl (by show a = a + (F.kt.made : Int) - (F.kt.made : Int) + (t.made : Int) - (t.made : Int); omega) (by omega) (by omega)⟩)
    have t1 : (0 : Int) ≤ (n : Int) := by omega
    have e1 := neQ7 g
    clear R1 hm hx CK0 hn
    go_wp2_with fail
    refine CK.mono ?_
    rintro e w3 ⟨rfl, ⟨k6, z6⟩, HD⟩
    clear CK
    go_wp2_with fail
    go_ret
    exact ⟨0, rfl, HD.out⟩
  · have Rd : QsR w f (.pointer pr) XF XS s F (.own t) v a (b + (jj : Int)) c d w1.drew XF XS := QsR.met HF.out (hm.same fun _ _ => rfl) hx.drew
    have CSZ : Calls Tryz.prog 35 #[.pointer (some ⟨s, 0, none⟩)] w1.drew fun e w' => e = .returned (.int .i64 ((t.live : Nat) : Int)) ∧ w' = w1.drew := rslen_any Rd.qp.sm
    obtain ⟨g0, ev0, q0, p1, p2, p3, p4⟩ := Rd.qp.sm
    obtain ⟨gk, evk, qk, nv, hQf, hXF⟩ := Rd.qp.fm
    have x0 : w1.drew.cell? ⟨s, 0, none⟩ = some (.pointer (some ⟨f, 0, none⟩)) := p1.c 0 (by omega)
    have x1 : w1.drew.cell? ⟨f, 1, none⟩ = some (.int .i64 (F.most : Int)) := hQf.hd.c 1 (by omega)
    by_cases hfull : F.most ≤ t.live
    · have tf : (F.most : Int) ≤ ((t.live : Nat) : Int) := by omega
      have HQ : Hid (RSetQ w f F (.pointer pr) a b c d XF s (.own t) v XS nm x 6 w1.drew) := rsetQ_of (.fullO HK.out hno hfull) HK.out HSK.out Rd rfl (by show a = a + (F.kt.made : Int) - (F.kt.made : Int) + (t.made : Int) - (t.made : Int); omega) (by omega) (by omega)
      clear R1 Rd hm hx hno p1 p2 p3 p4 hQf hXF
      generalize ((t.live : Nat) : Int) = LN at *
      go_wp2_with fail
      go_region_held3 (fun V => V.cell? ⟨s, 0, none⟩ = some (.pointer (some ⟨f, 0, none⟩)) ∧ V.cell? ⟨f, 1, none⟩ = some (.int .i64 (F.most : Int)))
        (first | with_reducible exact ⟨x0, x1⟩ | fail)
        (first | (go_at_call 35; refine CSZ.mono ?_; rintro e w4 ⟨rfl, rfl⟩) | fail)
      go_wp2_with fail
      go_ret
      exact ⟨6, rfl, HQ.out⟩
    · have tf : ¬ (F.most : Int) ≤ ((t.live : Nat) : Int) := by omega
      have CN : Calls Tryz.prog 67 #[.pointer (some ⟨f, 0, none⟩), .string nm] w1.drew fun e w' => e = .returned (.int .i64 k) ∧ w' = w1.drew := rnumber_any (hQf.hd.c 3 (by omega)) hQf.ns (HO.out.ktf (by omega)) HO.out.nd HK.out
      have hnl : F.all.length ≤ 100000 := HO.out.ktf (by omega)
      have HRd := Lib.hid Rd
      have HQF := Lib.hid hQf
      have HXF := Lib.hid hXF
      have HNO := Lib.hid hno
      have HLV := Lib.hid hfull
      clear R1 Rd hm hx hno p1 p2 p3 p4 hQf hXF hfull
      generalize ((t.live : Nat) : Int) = LN at *
      go_wp2_with fail
      go_region_held3 (fun V => V.cell? ⟨s, 0, none⟩ = some (.pointer (some ⟨f, 0, none⟩)) ∧ V.cell? ⟨f, 1, none⟩ = some (.int .i64 (F.most : Int)))
        (first | with_reducible exact ⟨x0, x1⟩ | fail)
        (first | (go_at_call 35; refine CSZ.mono ?_; rintro e w4 ⟨rfl, rfl⟩) | fail)
      clear CSZ
      go_wp2_with fail
      refine CN.mono ?_
      rintro e w4 ⟨rfl, rfl⟩
      clear CN
      go_upto_if 58 with fail
      go_cut [8] from 57 to 82 (fun kv W => kv = .int .i64 (numn F.all k) ∧ ∃ XF2, QsR w f (.pointer pr) XF XS s { F with all := alln F.all nm k } (.own t) v a (b + (jj : Int)) c d W XF2 XS)
      case first =>
        rcases HK.out with ⟨n, rfl, _⟩ | ⟨rfl, _⟩
        · have t6 : ¬ (n : Int) < 0 := by omega
          have t7 : decide ((n : Int) < 0) = false := decide_eq_false t6
          have HR : Hid (QsR w f (.pointer pr) XF XS s { F with all := alln F.all nm (n : Int) } (.own t) v a (b + (jj : Int)) c d w1.drew XF XS) := by
            show QsR w f (.pointer pr) XF XS s { F with all := alln F.all nm (n : Int) } (.own t) v a (b + (jj : Int)) c d w1.drew XF XS
            rw [show alln F.all nm (n : Int) = F.all from if_neg (by omega)]
            exact HRd.out
          have hnn : numn F.all (n : Int) = (n : Int) := if_neg (by omega)
          go_wp2_with fail
          go_meet
          exact ⟨by rw [hnn], XF, HR.out⟩
        · have hRd := HRd.out
          have hQ2 : Qf w1.drew.drew f gk evk qk nv F (.pointer pr) := HQF.out.same fun _ _ => rfl
          have R2 : QsR w f (.pointer pr) XF XS s F (.own t) v a (b + (jj : Int)) c d w1.drew.drew XF XS := hRd.trans (QsR.met hRd.qp (hRd.n.same fun _ _ => rfl) (Ex.refl _ _).drew)
          obtain ⟨i0, hi0, hz0, hz1, hz2⟩ := info_parts Tryz.infoStr
          obtain ⟨an, capn, gn, hnv, hcapn, _⟩ := hQ2.ns.opn
          have f3 : w1.drew.cell? ⟨f, 3, none⟩ = some (.slice an F.all.length capn) := by rw [← hnv]; exact hQ2.hd.c 3 (by omega)
          have a0 : (w1.alloc (.cells #[.string nm] 9)).cell? ⟨s, 0, none⟩ = some (.pointer (some ⟨f, 0, none⟩)) := (((Below.refl _ w1).alloc (Nat.le_refl _) _).cell (p := ⟨s, 0, none⟩) (lt_of_cell x0)).trans x0
          have a3 : (w1.alloc (.cells #[.string nm] 9)).cell? ⟨f, 3, none⟩ = some (.slice an F.all.length capn) := (((Below.refl _ w1).alloc (Nat.le_refl _) _).cell (p := ⟨f, 3, none⟩) (lt_of_cell f3)).trans f3
          have hown : w1.drew.drew.ownsRow 0 9 1 (.slice an F.all.length capn) F.all.length (F.all.map Value.string) := by rw [← hnv]; exact hQ2.ns
          obtain ⟨rv, ov, hhd, hXs⟩ := R2.qp.sm.head
          have HAFT : Hid (∀ v' w5, w5.ownsRow 0 9 1 v' (F.all.length + 1) (F.all.map Value.string ++ [.string nm]) → (w1.drew.drew.alloc (.cells #[.string nm] 9)).grownBy w5 (Value.slice an F.all.length capn).ownBlock → (v'.ownBlock = (Value.slice an F.all.length capn).ownBlock ∨ v'.ownBlock = some (w1.drew.drew.alloc (.cells #[.string nm] 9)).heap.size) →
              (w5.cell? ⟨s, 0, none⟩ = some (.pointer (some ⟨f, 0, none⟩)) ∧ w5.cell? ⟨f, 3, none⟩ = some (.slice an F.all.length capn) ∧ w5.frozen? ⟨f, 3, none⟩ = false) ∧ ∀ w6, w5.setCell ⟨f, 3, none⟩ v' = w6 → ∃ XF2, QsR w f (.pointer pr) XF XS s { F with all := alln F.all nm (-1) } (.own t) v a (b + (jj : Int)) c d w6 XF2 XS) := fun v' w5 g1 g2 g3 => by
            rw [← hnv] at g2 g3
            obtain ⟨u1, u2⟩ := qf_names R2.qp hQ2 HXF.out R2.n g1 g2 g3
            have ls := hhd.lt (by omega)
            have hsb : w5.heap[s]? = w1.drew.drew.heap[s]? := (g2.block s (by simp; exact Nat.lt_succ_of_lt ls) (fun e => R2.qp.ap s (by rw [HXF.out]; exact .inr (.inr (.inr (.inr e.symm)))) hXs)).trans (Below.heap_alloc _ _ _ ls)
            refine ⟨⟨(World.cell?_of_block (a := ⟨s, 0, none⟩) hsb).trans (hhd.c 0 (by omega)), by rw [← hnv]; exact u1.1, u1.2⟩, fun w6 hw6 => ?_⟩
            obtain ⟨XF2, R3⟩ := u2 w6 hw6
            refine ⟨XF2, ?_⟩
            rw [show alln F.all nm (-1) = F.all ++ [nm] from if_pos rfl]
            exact R2.trans R3
          have HNN : Hid (numn F.all (-1) = (F.all.length : Int)) := by
            show numn F.all (-1) = (F.all.length : Int)
            exact if_pos rfl
          clear hRd hQ2 R2 hnv hhd
          generalize F.all.map Value.string = R at *
          generalize F.all.length = L at *
          go_upto_region 13 with fail
          go_region_law (refine step_append_own rfl _ _ 61 rfl 0 9 i0 (.string ByteArray.empty) 1 16 Tryz.underlying61 hi0 hz0 hz1 hz2 rfl (by decide) (.slice an L capn) L R (by simp [Act.eval]) (World.ownsRow.alloc hown _) ⟨w1.drew.drew.heap.size, 0, none⟩ 1 1 [.string nm] (by simp [Act.eval]) rfl (newR_one _ _ _) (by simp [Value.oneCell']) (by unfold maxLen; omega) (by omega) (Nat.zero_le _) ?_; intro v' w5 hown2 hgrow hat; obtain ⟨⟨k5, k6, z6⟩, HN3⟩ := HAFT.out v' w5 hown2 hgrow hat; have HN4 := Lib.hid HN3; obtain ⟨a2, cap2, hv2⟩ := ownsRow_shape hown2; subst hv2; clear hown2 hgrow hat HN3)
          all_goals
            go_wp2_with fail
            go_meet
            exact ⟨congrArg (Value.int .i64) HNN.out.symm, HN4.out _ rfl⟩
      case rest =>
        obtain ⟨rfl, XF2, R2⟩ := hcut
        obtain ⟨⟨k3, z3⟩, RU⟩ := qs_up R2.qp R2.n
        have R3 := R2.trans RU
        obtain ⟨w3, hw3⟩ : ∃ y, wc.setCell ⟨s, 3, none⟩ (.int .i64 ((v : Int) + 1)) = y := ⟨_, rfl⟩
        rw [hw3] at R3
        have R4 := R3.trans (QsR.met R3.qp (R3.n.same fun _ _ => rfl) (Ex.refl _ _).drew : QsR w3 f (.pointer pr) XF2 XS s _ _ _ _ _ _ _ w3.drew _ _)
        obtain ⟨g, k2d, CA0⟩ := radd_own R4 HTO.out (by omega) ⟨by omega, by omega⟩ (by omega) (by omega) (hsT nm) (numn F.all k) x
        have k2 : w3.cell? ⟨s, 2, none⟩ = some (.pointer (some ⟨g, 0, none⟩)) := k2d
        have CX := r7text nm w3.drew hs3
        have hup := t.add_up (hsT nm) (numn F.all k) x
        have CA := CA0.mono (R' := fun e w5 => (∃ n1, e = .returned (.tuple #[.int .i64 n1, .int .i64 0])) ∧ w5.cell? ⟨s, 2, none⟩ = some (.pointer (some ⟨g, 0, none⟩)) ∧ Hid (RSetQ w f F (.pointer pr) a b c d XF s (.own t) v XS nm x 0 w5)) (fun e w5 ⟨c1, c2, ⟨XF', XS', c3⟩⟩ => ⟨⟨_, c1⟩, c2, rsetQ_of (.add HK.out HNO.out (by have := HLV.out; omega)) HK.out HSK.out c3 rfl (by show a + (((t.add (hsT nm) (numn F.all k) x).made - t.made : Nat) : Int) = a + (F.kt.made : Int) - (F.kt.made : Int) + ((t.add (hsT nm) (numn F.all k) x).made : Int) - (t.made : Int); omega) (by omega) (by omega)⟩)
        have e1 := eqQ7 g
        have HW3 := Lib.hid hw3
        clear CA0 R2 RU R3 R4 hw3 hup
        generalize hsT nm = U at *
        generalize numn F.all k = K at *
        go_upto_region 15 with fail
        rw [HW3.out]
        go_wp2_with fail
        go_region_held3 (fun V => V.cell? ⟨s, 2, none⟩ = some (.pointer (some ⟨g, 0, none⟩)))
          (first | with_reducible exact k2d | with_reducible exact s5 | fail)
          (first | (go_at_call 70; refine CX.mono ?_; rintro e w4 ⟨rfl, rfl⟩) | (go_at_call 69; refine CA.mono ?_; rintro e w5 ⟨⟨n1, rfl⟩, s5, HD⟩) | fail)
        go_wp2_with fail
        go_ret
        exact ⟨0, rfl, HD.out⟩
end Go.Proofs.YtcbhpjpkjmlcnaaGreat
