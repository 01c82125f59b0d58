/-
  Blocks begin and end as the blanks ahead of lines say: the law.
-/
import Derived.Test.YtmckhkkbghihaaaDoorLxBks
namespace Go.Proofs.YtmckhkkbghihaaaDoor
open Go.RowKit Go.WideShapes
namespace Lx

set_option maxRecDepth 100000 in
set_option maxHeartbeats 32000000 in
theorem blocks_walk (a : Option Addr) (n c : Nat) (l : List Int) (w : World) (hI : Is w a n l) (hE : Env w) :
    Calls Tryd.prog 5 #[.slice a n c] w fun e w' => e = .returned (.bool true) ∧ Below w.heap.size w w' := by
  by_cases hbig : (100 : Int) < (n : Int)
  · have CA := awake_any w hE
    clear hI
    go_enter Tryd.func5, Tryd.ntmps5
    go_wp2_with fail
    refine CA.mono ?_
    rintro e w1 ⟨rfl, hb⟩
    go_wp2_with fail
    go_ret
    exact ⟨rfl, hb⟩
  · have hn1 : n ≤ 100 := by omega
    obtain ⟨iB, hi, hz0, hz1, hz2⟩ := info_parts Tryd.infoB
    obtain ⟨iN, hni, hnz0, hnz1, hnz2⟩ := info_parts Tryd.infoN
    obtain ⟨iT, hti, htz0, htz1, htz2⟩ := info_parts Tryd.infoT
    have HI := Lib.hid hI
    have HU : Hid (∀ wr, Below w.heap.size w wr → Env wr) := fun wr h => hE.below h
    clear hI
    go_enter Tryd.func5, Tryd.ntmps5
    go_wp2_with fail
    go_loopg [3, 4, 5, 6, 7] n (fun gk v3 v4 v5 v6 v7 wr => Lb w.heap.size n w gk v3 v4 v5 v6 v7 wr)
    case atStart =>
      refine ⟨0, [], -1, [0], [], by omega, rfl, rfl, ⟨World.ownsRow_nil _ _ _ _, World.ownsRow_lit w #[.int .i64 0] 1 (Nat.le_refl _) (by decide) rfl, World.ownsRow_nil _ _ _ _⟩, bk0, rfl, by simp, by simp, (Below.refl _ w).alloc (Nat.le_refl _) _⟩
    case round =>
      obtain ⟨i, L, bad, bs, ts, hig, rfl, rfl, hQ, hBk, hlast, hLn, htb, hbw⟩ := hrel
      obtain ⟨a3, c3, rfl⟩ := ownsS_shape hQ.so
      obtain ⟨a4, c4, rfl⟩ := ownsS_shape hQ.wo
      obtain ⟨d, r, rfl⟩ : ∃ d r, bs = d :: r := by
        cases bs with
        | nil => simp at hlast
        | cons d r => exact ⟨d, r, rfl⟩
      obtain ⟨g5, c5, rfl, hg5, hc5, -⟩ := ownsS_some hQ.bo (by simp)
      simp only [List.length_cons] at hc5 htb hQ ⊢
      obtain ⟨q1, hq1⟩ : ∃ q1, r.length + 1 = q1 := ⟨_, rfl⟩
      rw [hq1] at hc5 htb hQ ⊢
      have HQ1 := Lib.hid hq1
      clear hq1
      have HQ : Hid (Q3 w.heap.size wr (.slice a3 L.length c3) (.slice (some ⟨g5, 0, none⟩) q1 c5) (.slice a4 ts.length c4) L (d :: r) ts) := hQ
      have HC5 := Lib.hid hc5
      have HBK := Lib.hid hBk
      have HLA := Lib.hid hlast
      have HBW := Lib.hid hbw
      have HLN := Lib.hid hLn
      have HTB := Lib.hid htb
      clear hg5 hc5
      by_cases hin : i < n
      · have k1 : (i : Int) < (n : Int) := by omega
        have k0 : (0 : Int) ≤ (i : Int) := by omega
        have e1 : IntKind.i64.wrap ((i : Int) + 1) = ((i + 1 : Nat) : Int) := by rw [i64_small (by omega) (by omega)]; omega
        obtain ⟨-, b, off, hab, hcell⟩ := HI.out
        obtain ⟨rfl, hbl⟩ := hab (by omega)
        have ci := (hbw.cell (p := ⟨b, off + i, none⟩) hbl).trans (hcell i hin)
        generalize l.getD i 0 = x at *
        clear hab hcell hbl hQ hBk hlast hbw hLn htb
        by_cases hx : x < 0
        · have x0 : decide (x < 0) = true := by simp [hx]
          have C3 := awake_any wr (HU.out wr HBW.out)
          clear hx e1
          go_wp2_with fail
          refine C3.mono ?_
          rintro e w3 ⟨rfl, hb3⟩
          go_wp2_with fail
          go_ret
          exact ⟨rfl, HBW.out.trans (hb3.mono HBW.out.size)⟩
        · by_cases hx6 : 60 < x
          · have x0 : ¬ x < 0 := hx
            have C3 := awake_any wr (HU.out wr HBW.out)
            clear hx e1
            go_wp2_with fail
            refine C3.mono ?_
            rintro e w3 ⟨rfl, hb3⟩
            go_wp2_with fail
            go_ret
            exact ⟨rfl, HBW.out.trans (hb3.mono HBW.out.size)⟩
          · obtain ⟨m, rfl⟩ : ∃ m : Nat, x = (m : Int) := ⟨x.toNat, by omega⟩
            have hm : m ≤ 60 := by omega
            have x0 : ¬ (m : Int) < 0 := hx
            clear hx
            go_wp2_with fail
            go_loopg [3, 9] m (fun gj v3 v9 wi => ∃ k, k + gj = m ∧ v9 = .int .i64 (k : Int) ∧ Q3 w.heap.size wi v3 (.slice (some ⟨g5, 0, none⟩) q1 c5) (.slice a4 ts.length c4) (L ++ List.replicate k 32) (d :: r) ts ∧ Below w.heap.size w wi)
            case atStart => exact ⟨0, by omega, rfl, by simpa using HQ.out, HBW.out⟩
            case round =>
              obtain ⟨k, hkm, rfl, hQ, hbw⟩ := hrel
              obtain ⟨a3, c3, rfl⟩ := ownsS_shape hQ.so
              have HQI := Lib.hid hQ
              have HBI := Lib.hid hbw
              obtain ⟨P, hP⟩ : ∃ P, (L ++ List.replicate k (32 : UInt8)).length = P := ⟨_, rfl⟩
              have hPk : P = L.length + k := by rw [← hP]; simp
              have HPP := Lib.hid hP
              have HPK := Lib.hid hPk
              have hPs : P ≤ 6300 := by have := HLN.out; omega
              have hso : wr.ownsRow w.heap.size 5 1 (.slice a3 P c3) P (Lib.byteCells (L ++ List.replicate k 32)) := by have h := hQ.so; unfold Ob at h; rw [hP] at h; exact h
              rw [hP]
              clear hP hPk hbw
              by_cases hk : k < m
              · have j1 : (k : Int) < (m : Int) := by omega
                have e2 : IntKind.i64.wrap ((k : Int) + 1) = ((k + 1 : Nat) : Int) := by rw [i64_small (by omega) (by omega)]; omega
                clear hQ
                go_wp2_with (at_builtin; refine wpListS_append_own rfl _ _ 22 rfl w.heap.size 5 iB (.int .u8 0) 1 1 Tryd.underlying22 hi hz0 hz1 hz2 rfl (by decide) _ P (Lib.byteCells (L ++ List.replicate k 32)) rfl (World.ownsRow.alloc hso _) ⟨wr.heap.size, 0, none⟩ 1 1 [.int .u8 32] rfl rfl (newR_one _ _ _) (fun u hu => by simp at hu; subst hu; rfl) (by unfold maxLen; omega) (by omega) (by have := HBI.out.size; simp; omega) ?_; intro v' w5 hown2 hgrow _; obtain ⟨a6, c6, hv6⟩ := ownsS_shape hown2; subst hv6)
                go_roundg (gk - 1)
                case measure => omega
                case rel =>
                  have ho : Ob w.heap.size w5 (.slice a6 (P + 1) c6) (L ++ List.replicate (k + 1) 32) := by
                    have e5 : L ++ List.replicate (k + 1) (32 : UInt8) = (L ++ List.replicate k 32) ++ [32] := by rw [List.replicate_succ']; simp
                    unfold Ob
                    rw [e5, byte_app, List.length_append, HPP.out]
                    exact hown2
                  have := HQI.out.src HBI.out (Nat.le_refl _) ((Below.refl _ wr).alloc (Nat.le_refl _) _) (by rw [HPP.out]; exact hgrow) ho
                  exact ⟨k + 1, by omega, rfl, this.1, this.2⟩
              · obtain rfl : k = m := by omega
                have j1 : ¬ (k : Int) < (k : Int) := by omega
                clear hQ
                go_wp2_with (at_builtin; refine wpListS_append_str rfl _ _ 22 9 rfl w.heap.size 5 iB Tryd.underlying22 Tryd.underlying9 hi hz0 hz1 hz2 _ P (Lib.byteCells (L ++ List.replicate k 32)) rfl hso ⟨#[97, 10]⟩ rfl (by unfold maxLen; show P + 2 ≤ _; omega) (by show P + 2 ≤ _; omega) HBI.out.size ?_)
                intro v' w5 hown2 hgrow
                obtain ⟨a6, c6, hv6⟩ := ownsS_shape hown2
                have hv7 : v' = .slice a6 (P + 2) c6 := hv6
                subst hv7
                clear hv6
                have hln : (L ++ ln k).length = P + 2 := by rw [List.length_append, ln_len, HPK.out]; omega
                obtain ⟨hQ5, hb5⟩ : Q3 w.heap.size w5 (.slice a6 (P + 2) c6) (.slice (some ⟨g5, 0, none⟩) q1 c5) (.slice a4 ts.length c4) (L ++ ln k) (d :: r) ts ∧ Below w.heap.size w w5 := by
                  refine HQI.out.src HBI.out (Nat.le_refl _) (Below.refl _ wr) (by rw [HPP.out]; exact hgrow) ?_
                  unfold Ob
                  rw [hln, show L ++ ln k = (L ++ List.replicate k 32) ++ [97, 10] by simp [ln], byte_app]
                  exact hown2
                have HQ5 := Lib.hid hQ5
                have HB5 := Lib.hid hb5
                have HL5 := Lib.hid hln
                have hts : ts.length ≤ 500 := by have := HTB.out; omega
                have hto := hQ5.wo
                clear hown2 hgrow hso hln
                rcases HBK.out.cases with rfl | ⟨p, rfl⟩
                · have hbo := hQ5.bo
                  rw [show (d :: r).length = q1 from HQ1.out] at hbo
                  have cb := ownsS_cell hbo r.length _ (bsl_top d r)
                  obtain ⟨q, hq⟩ : ∃ q, r.length = q := ⟨_, rfl⟩
                  have hqq : q1 = q + 1 := by rw [← HQ1.out, hq]
                  rw [hq] at cb
                  have HQQ := Lib.hid hq
                  have HQS := Lib.hid hqq
                  have f1 : IntKind.i64.wrap ((q1 : Int) - 1) = (q : Int) := by have := HTB.out; rw [i64_small (by omega) (by omega)]; omega
                  have f2 : (q : Int) < (q1 : Int) := by omega
                  have f3 : (0 : Int) ≤ (q : Int) := by omega
                  clear hq hqq
                  clear hQ5 hb5
                  by_cases hdk : d < k
                  · have g1 : (d : Int) < (k : Int) := by omega
                    by_cases hr40 : 40 < q1
                    · have g2 : (40 : Int) < (q1 : Int) := by omega
                      have C3 := awake_any w5 (HU.out w5 HB5.out)
                      have C3' := fun q => awake_any (w5.drewN q) (HU.out _ (below_drewN HB5.out q))
                      clear C3'
                      go_wp2_with fail
                      refine C3.mono ?_
                      rintro e w3 ⟨rfl, hb3⟩
                      go_wp2_with fail
                      go_ret
                      exact ⟨rfl, HB5.out.trans (hb3.mono HB5.out.size)⟩
                    · have g2 : ¬ (40 : Int) < (q1 : Int) := by omega
                      obtain ⟨P1, hP1⟩ : ∃ P1, P + 1 = P1 := ⟨_, rfl⟩
                      have HP1 := Lib.hid hP1
                      have e3 : IntKind.i64.wrap ((P : Int) + 1) = (P1 : Int) := by rw [i64_small (by omega) (by omega)]; omega
                      clear hP1
                      go_wp2_with (at_builtin; refine wpListS_append_own rfl _ _ 34 rfl w.heap.size 3 iN (.int .i64 0) 1 8 Tryd.underlying34 hni hnz0 hnz1 hnz2 rfl (by decide) _ q1 (bsl (d :: r)) rfl (World.ownsRow.alloc hbo _) ⟨w5.heap.size, 0, none⟩ 1 1 [.int .i64 (k : Int)] rfl rfl (newR_one _ _ _) (fun u hu => by simp at hu; subst hu; rfl) (by unfold maxLen; have := HTB.out; omega) (by have := HTB.out; omega) (by have := HB5.out.size; simp; omega) ?_)
                      intro v' w6 hown6 hgrow6 _
                      obtain ⟨q2, hq2⟩ : ∃ q2, q1 + 1 = q2 := ⟨_, rfl⟩
                      rw [hq2] at hown6
                      obtain ⟨g7, c7, hv7, -, -, -⟩ := ownsS_some hown6 (by omega)
                      subst hv7
                      have HQ2 := Lib.hid hq2
                      obtain ⟨hQ6, hb6⟩ : Q3 w.heap.size w6 (.slice a6 (P + 2) c6) (.slice (some ⟨g7, 0, none⟩) q2 c7) (.slice a4 ts.length c4) (L ++ ln k) (k :: d :: r) ts ∧ Below w.heap.size w w6 :=
                        HQ5.out.blk HB5.out (Nat.le_refl _) ((Below.refl _ w5).alloc (Nat.le_refl _) _) hgrow6 (by rw [show (d :: r).length = q1 from HQ1.out, hq2]; exact hown6)
                      have HQ6 := Lib.hid hQ6
                      have HB6 := Lib.hid hb6
                      have hto6 := hQ6.wo
                      clear hown6 hgrow6 hQ6 hb6 hto hbo cb hq2
                      go_wp2_with (at_builtin; refine wpListS_append_own rfl _ _ 24 rfl w.heap.size 30 iT (.agg #[.int .i64 0, .string ⟨#[]⟩, .int .i64 0]) 3 32 Tryd.underlying24 hti htz0 htz1 htz2 rfl (by decide) _ ts.length (tkl ts) rfl (World.ownsRow.alloc hto6 _) ⟨w6.heap.size, 0, none⟩ 1 1 (tkC ⟨7, [], P⟩) rfl rfl (newR_tok _ ⟨7, [], P⟩ _) (tkC_one _) (by unfold maxLen; omega) (by omega) (by have := HB6.out.size; simp; omega) ?_)
                      intro v' w7 hown7 hgrow7 _
                      obtain ⟨T1, hT1⟩ : ∃ T1, ts.length + 1 = T1 := ⟨_, rfl⟩
                      rw [hT1] at hown7
                      obtain ⟨g8, c8, hv8, -, -, -⟩ := ownsS_some hown7 (by omega)
                      subst hv8
                      obtain ⟨hQ7, hb7⟩ := HQ6.out.tok (ts' := ts ++ [⟨7, [], P⟩]) HB6.out (Nat.le_refl _) ((Below.refl _ w6).alloc (Nat.le_refl _) _) hgrow7 (by rw [tkl_app, List.length_append]; show w7.ownsRow _ _ _ _ (ts.length + 1) _; rw [hT1]; exact hown7)
                      have HQ7 := Lib.hid hQ7
                      have HB7 := Lib.hid hb7
                      have hto7 : w7.ownsRow w.heap.size 30 3 (.slice (some ⟨g8, 0, none⟩) T1 c8) T1 (tkl (ts ++ [⟨7, [], P⟩])) := by rw [tkl_app]; exact hown7
                      have HTS : Hid ((ts ++ [(⟨7, [], P⟩ : Tok)]).length = T1) := by show _ = _; rw [List.length_append]; exact hT1
                      have hT5 : T1 ≤ 501 := by omega
                      have hbo7 := hQ7.bo
                      rw [show (k :: d :: r).length = q2 by have := HQ1.out; have := HQ2.out; simp only [List.length_cons]; omega] at hbo7
                      have cb7 := ownsS_cell hbo7 (d :: r).length _ (bsl_top k (d :: r))
                      rw [show (d :: r).length = q1 from HQ1.out] at cb7
                      have f1 : IntKind.i64.wrap ((q2 : Int) - 1) = (q1 : Int) := by have := HTB.out; have := HQ2.out; rw [i64_small (by omega) (by omega)]; omega
                      have f2 : (q1 : Int) < (q2 : Int) := by have := HQ2.out; omega
                      have f3 : (0 : Int) ≤ (q1 : Int) := by omega
                      clear hown7 hgrow7 hto6 hQ7 hb7 hT1 hbo7
                      go_wp2_with fail
                      go_loopg [4, 5] 0 (fun gj v4 v5 wi => v4 = .slice (some ⟨g8, 0, none⟩) T1 c8 ∧ v5 = .slice (some ⟨g7, 0, none⟩) q2 c7 ∧ wi = w7)
                      case atStart => exact ⟨rfl, rfl, rfl⟩
                      case round =>
                        obtain ⟨rfl, rfl, rfl⟩ := hrel
                        go_wp2_with (at_builtin; refine wpListS_append_own rfl _ _ 24 rfl w.heap.size 30 iT (.agg #[.int .i64 0, .string ⟨#[]⟩, .int .i64 0]) 3 32 Tryd.underlying24 hti htz0 htz1 htz2 rfl (by decide) _ T1 (tkl (ts ++ [⟨7, [], P⟩])) rfl (World.ownsRow.alloc hto7 _) ⟨wr.heap.size, 0, none⟩ 2 2 (tkC ⟨1, [97], P⟩ ++ tkC ⟨6, [], P1⟩) rfl rfl (newR_tok2 _ ⟨1, [97], P⟩ ⟨6, [], P1⟩ _) (fun u hu => by rcases List.mem_append.1 hu with hu | hu <;> exact tkC_one _ u hu) (by unfold maxLen; omega) (by omega) (by have := HB7.out.size; simp; omega) ?_)
                        intro v' w9 hown9 hgrow9 _
                        obtain ⟨g9, c9, hv9, -, -, -⟩ := ownsS_some hown9 (by omega)
                        subst hv9
                        obtain ⟨hQ9, hb9⟩ := HQ7.out.tok (ts' := (ts ++ [⟨7, [], P⟩]) ++ [⟨1, [97], P⟩] ++ [⟨6, [], P1⟩]) HB7.out (Nat.le_refl _) ((Below.refl _ wr).alloc (Nat.le_refl _) _) hgrow9 (by rw [tkl_app, tkl_app, List.length_append, List.length_append, List.append_assoc (tkl _), HTS.out]; exact hown9)
                        have HQ9 := Lib.hid hQ9
                        have HB9 := Lib.hid hb9
                        clear hown9 hgrow9 hQ9 hb9
                        go_wp2_with fail
                        go_roundg (n - (i + 1))
                        case measure => omega
                        case rel =>
                          have hbk := HBK.out.push k hdk (by have := HQ1.out; simp only [List.length_cons]; omega)
                          rw [← HPK.out] at hbk
                          try rw [HP1.out] at hbk
                          refine ⟨i + 1, L ++ ln k, -1, k :: d :: r, _, by omega, rfl, rfl, ?_, hbk, by have := HLA.out; simpa using this, by rw [HL5.out, HPK.out]; have := HLN.out; omega, ?_, HB9.out⟩
                          · have h9 := HQ9.out
                            skip
                            exact h9
                          · have := HTB.out; have := HQ1.out; simp only [List.length_append, List.length_cons, List.length_nil]; omega
                  · have g1 : ¬ (d : Int) < (k : Int) := by omega
                    obtain ⟨P1, hP1⟩ : ∃ P1, P + 1 = P1 := ⟨_, rfl⟩
                    have HP1 := Lib.hid hP1
                    have e3 : IntKind.i64.wrap ((P : Int) + 1) = (P1 : Int) := by rw [i64_small (by omega) (by omega)]; omega
                    clear hP1
                    go_wp2_with fail
                    clear cb f1 f2 f3 hbo hto
                    go_loopg [4, 5] r.length (fun gj v4 v5 wi => ∃ d' r' ts', r'.length ≤ gj ∧ (d' :: r').getLast? = some 0 ∧ ded k P (d' :: r') ts' = ded k P (d :: r) ts ∧ ts'.length + r'.length = ts.length + r.length ∧ Q3 w.heap.size wi (.slice a6 (P + 2) c6) v5 v4 (L ++ ln k) (d' :: r') ts' ∧ Below w.heap.size w wi)
                    case atStart => exact ⟨d, r, ts, Nat.le_refl _, HLA.out, rfl, rfl, HQ5.out, HB5.out⟩
                    case round =>
                      obtain ⟨d1, r1, ts1, hgk, hl1, hded, hsum, hQ1, hb1⟩ := hrel
                      obtain ⟨a4, c4, rfl⟩ := ownsS_shape hQ1.wo
                      obtain ⟨g5, c5, rfl, -, hc5, -⟩ := ownsS_some hQ1.bo (by simp)
                      have HQA := Lib.hid hQ1
                      have HBA := Lib.hid hb1
                      have HLB := Lib.hid hl1
                      have HDE := Lib.hid hded
                      have HSU := Lib.hid hsum
                      have HGK := Lib.hid hgk
                      obtain ⟨T1, hT1⟩ : ∃ T1, ts1.length = T1 := ⟨_, rfl⟩
                      have HTS := Lib.hid hT1
                      have hto : wr.ownsRow w.heap.size 30 3 (.slice a4 T1 c4) T1 (tkl ts1) := by have h := hQ1.wo; rw [hT1] at h; exact h
                      have hT5 : T1 ≤ 502 := by have := HTB.out; have := HQ1.out; omega
                      have hbo := hQ1.bo
                      obtain ⟨s1, hs1⟩ : ∃ s1, r1.length + 1 = s1 := ⟨_, rfl⟩
                      obtain ⟨s0, hs0⟩ : ∃ s0, r1.length = s0 := ⟨_, rfl⟩
                      rw [show (d1 :: r1).length = s1 from hs1] at hbo hc5 ⊢
                      have cb := ownsS_cell hbo r1.length _ (bsl_top d1 r1)
                      rw [hs0] at cb
                      have f1 : IntKind.i64.wrap ((s1 : Int) - 1) = (s0 : Int) := by have := HTB.out; have := HQ1.out; rw [i64_small (by omega) (by omega)]; omega
                      have f2 : (s0 : Int) < (s1 : Int) := by omega
                      have f3 : (0 : Int) ≤ (s0 : Int) := by omega
                      have f4 : (s0 : Int) ≤ (c5 : Int) := by omega
                      have HS0 := Lib.hid hs0
                      have HS1 := Lib.hid hs1
                      rw [hT1]
                      clear hQ1 hb1 hl1 hded hsum hgk hT1 hs1 hs0 hc5 hbo
                      by_cases hlt : k < d1
                      · have l1 : (k : Int) < (d1 : Int) := by omega
                        have hne := last_tail HLB.out hlt
                        have HNE := Lib.hid hne
                        have HLT := Lib.hid hlt
                        clear hne hlt
                        go_wp2_with (at_builtin; refine wpListS_append_own rfl _ _ 24 rfl w.heap.size 30 iT (.agg #[.int .i64 0, .string ⟨#[]⟩, .int .i64 0]) 3 32 Tryd.underlying24 hti htz0 htz1 htz2 rfl (by decide) _ T1 (tkl ts1) rfl (World.ownsRow.alloc hto _) ⟨wr.heap.size, 0, none⟩ 1 1 (tkC ⟨8, [], P⟩) rfl rfl (newR_tok _ ⟨8, [], P⟩ _) (tkC_one _) (by unfold maxLen; omega) (by omega) (by have := HBA.out.size; simp; omega) ?_)
                        intro v' w9 hown9 hgrow9 _
                        obtain ⟨g9, c9, hv9, -, -, -⟩ := ownsS_some hown9 (by omega)
                        subst hv9
                        have hqa := HQA.out
                        rw [show (d1 :: r1).length = r1.length + 1 from rfl] at hqa
                        obtain ⟨hQ9, hb9⟩ := (Q3.cut (by have h := HQA.out; rw [HTS.out] at h; exact h)).tok (ts' := ts1 ++ [⟨8, [], P⟩]) HBA.out (Nat.le_refl _) ((Below.refl _ wr).alloc (Nat.le_refl _) _) hgrow9 (by rw [tkl_app, List.length_append, HTS.out]; exact hown9)
                        have HQ9 := Lib.hid hQ9
                        have HB9 := Lib.hid hb9
                        clear hown9 hgrow9 hQ9 hb9 hqa
                        go_wp2_with fail
                        go_roundg (gk - 1)
                        case measure =>
                          have h1 := HNE.out.1
                          have h2 := HGK.out
                          have h3 := List.length_pos_iff.2 h1
                          omega
                        case rel =>
                          have hq9 := HQ9.out
                          have h1 := HNE.out
                          have h2 := HGK.out
                          have h3 := HSU.out
                          have h4 := HDE.out
                          rw [ded_go HLT.out] at h4
                          rw [HS0.out] at hq9
                          have h5 := HS0.out
                          clear HQ9 HNE HGK HSU HDE HS0 HS1 HQA
                          cases r1 with
                          | nil => exact absurd rfl h1.1
                          | cons d2 r2 =>
                            refine ⟨d2, r2, ts1 ++ [⟨8, [], P⟩], ?_, h1.2, h4, ?_, hq9, HB9.out⟩
                            · simp only [List.length_cons] at h2
                              omega
                            · simp only [List.length_cons, List.length_append, List.length_nil] at h3 ⊢
                              omega
                      · have HQB : Hid (Q3 w.heap.size wr (.slice a6 (P + 2) c6) (.slice (some ⟨g5, 0, none⟩) s1 c5) (.slice a4 T1 c4) (L ++ ln k) (d1 :: r1) ts1) := by
                          have h := HQA.out
                          rw [HTS.out, show (d1 :: r1).length = s1 from HS1.out] at h
                          exact h
                        have l1 : ¬ (k : Int) < (d1 : Int) := by omega
                        have hd : ded k (L.length + k) (d :: r) ts = (d1 :: r1, ts1) := by rw [← HPK.out, ← HDE.out, ded_stop hlt]
                        have HD := Lib.hid hd
                        clear hd
                        by_cases hkd : k = d1
                        · subst hkd
                          go_wp2_with (at_builtin; refine wpListS_append_own rfl _ _ 24 rfl w.heap.size 30 iT (.agg #[.int .i64 0, .string ⟨#[]⟩, .int .i64 0]) 3 32 Tryd.underlying24 hti htz0 htz1 htz2 rfl (by decide) _ T1 (tkl ts1) rfl (World.ownsRow.alloc hto _) ⟨wr.heap.size, 0, none⟩ 2 2 (tkC ⟨1, [97], P⟩ ++ tkC ⟨6, [], P1⟩) rfl rfl (newR_tok2 _ ⟨1, [97], P⟩ ⟨6, [], P1⟩ _) (fun u hu => by rcases List.mem_append.1 hu with hu | hu <;> exact tkC_one _ u hu) (by unfold maxLen; omega) (by omega) (by have := HBA.out.size; simp; omega) ?_)
                          intro v' w9 hown9 hgrow9 _
                          obtain ⟨g9, c9, hv9, -, -, -⟩ := ownsS_some hown9 (by omega)
                          subst hv9
                          obtain ⟨hQ9, hb9⟩ := HQB.out.tok (ts' := ts1 ++ [⟨1, [97], P⟩] ++ [⟨6, [], P1⟩]) HBA.out (Nat.le_refl _) ((Below.refl _ wr).alloc (Nat.le_refl _) _) hgrow9 (by rw [tkl_app, tkl_app, List.length_append, List.length_append, List.append_assoc (tkl _), HTS.out]; exact hown9)
                          have HQ9 := Lib.hid hQ9
                          have HB9 := Lib.hid hb9
                          clear hown9 hgrow9 hQ9 hb9
                          go_wp2_with fail
                          go_roundg (n - (i + 1))
                          case measure => omega
                          case rel =>
                            have hbk := HBK.out.fits k (by simpa using hdk) HD.out rfl
                            rw [← HPK.out] at hbk
                            try rw [HP1.out] at hbk
                            refine ⟨i + 1, L ++ ln k, -1, k :: r1, _, by omega, rfl, rfl, ?_, hbk, HLB.out, by rw [HL5.out, HPK.out]; have := HLN.out; omega, ?_, HB9.out⟩
                            · have h9 := HQ9.out
                              skip
                              exact h9
                            · have := HTB.out; have := HQ1.out; have := HSU.out; simp only [List.length_append, List.length_cons, List.length_nil]; omega
                        · have l2 : ((k : Int) != (d1 : Int)) = true := by simp only [bne_iff_ne, ne_eq]; omega
                          have l3 : ¬ (k : Int) = (d1 : Int) := by omega
                          go_wp2_with (at_builtin; refine wpListS_append_own rfl _ _ 24 rfl w.heap.size 30 iT (.agg #[.int .i64 0, .string ⟨#[]⟩, .int .i64 0]) 3 32 Tryd.underlying24 hti htz0 htz1 htz2 rfl (by decide) _ T1 (tkl ts1) rfl (World.ownsRow.alloc hto _) ⟨wr.heap.size, 0, none⟩ 2 2 (tkC ⟨1, [97], P⟩ ++ tkC ⟨6, [], P1⟩) rfl rfl (newR_tok2 _ ⟨1, [97], P⟩ ⟨6, [], P1⟩ _) (fun u hu => by rcases List.mem_append.1 hu with hu | hu <;> exact tkC_one _ u hu) (by unfold maxLen; omega) (by omega) (by have := HBA.out.size; simp; omega) ?_)
                          intro v' w9 hown9 hgrow9 _
                          obtain ⟨g9, c9, hv9, -, -, -⟩ := ownsS_some hown9 (by omega)
                          subst hv9
                          obtain ⟨hQ9, hb9⟩ := HQB.out.tok (ts' := ts1 ++ [⟨1, [97], P⟩] ++ [⟨6, [], P1⟩]) HBA.out (Nat.le_refl _) ((Below.refl _ wr).alloc (Nat.le_refl _) _) hgrow9 (by rw [tkl_app, tkl_app, List.length_append, List.length_append, List.append_assoc (tkl _), HTS.out]; exact hown9)
                          have HQ9 := Lib.hid hQ9
                          have HB9 := Lib.hid hb9
                          clear hown9 hgrow9 hQ9 hb9
                          go_wp2_with fail
                          go_roundg (n - (i + 1))
                          case measure => omega
                          case rel =>
                            have hbk := HBK.out.off k (by simpa using hdk) HD.out hkd (d1 :: r1) (ts1 ++ [⟨1, [97], P⟩] ++ [⟨6, [], P1⟩])
                            rw [← HPK.out] at hbk
                            try rw [HP1.out] at hbk
                            refine ⟨i + 1, L ++ ln k, (P : Int), d1 :: r1, _, by omega, rfl, rfl, ?_, hbk, HLB.out, by rw [HL5.out, HPK.out]; have := HLN.out; omega, ?_, HB9.out⟩
                            · have h9 := HQ9.out
                              skip
                              exact h9
                            · have := HTB.out; have := HQ1.out; have := HSU.out; simp only [List.length_append, List.length_cons, List.length_nil]; omega
                · have p0 : (0 : Int) ≤ (p : Int) := by omega
                  clear hQ5 hb5
                  go_wp2_with fail
                  go_roundg (n - (i + 1))
                  case measure => omega
                  case rel => exact ⟨i + 1, L ++ ln k, (p : Int), d :: r, ts, by omega, rfl, rfl, HQ5.out, HBK.out.more _, HLA.out, by rw [HL5.out, HPK.out]; have := HLN.out; omega, by have := HTB.out; have := HQ1.out; simp only [List.length_cons]; omega, HB5.out⟩
      · obtain rfl : i = n := by omega
        have k1 : ¬ (i : Int) < (i : Int) := by omega
        have hL6 : L.length ≤ 6200 := by omega
        have hts : ts.length ≤ 500 := by omega
        obtain ⟨La, hLa⟩ : ∃ La, L.length = La := ⟨_, rfl⟩
        obtain ⟨ta, hta⟩ : ∃ ta, ts.length = ta := ⟨_, rfl⟩
        have HTA := Lib.hid hta
        have HLE := Lib.hid hLa
        have hq1 : 1 ≤ q1 := by have := HQ1.out; omega
        have hq40 : q1 ≤ 500 := by have := HTB.out; omega
        rw [hLa, hta]
        rw [hLa] at hL6
        rw [hta] at hts
        clear hQ hBk hlast hbw hLn htb hta hLa
        go_wp2_with fail
        go_loopg [4, 11] (q1 - 1) (fun gj v4 v11 wi => ∃ q, 1 ≤ q ∧ q + gj = q1 ∧ v11 = .int .i64 (q : Int) ∧ Q3 w.heap.size wi (.slice a3 La c3) (.slice (some ⟨g5, 0, none⟩) q1 c5) v4 L (d :: r) (ts ++ List.replicate (q - 1) ⟨8, [], La⟩) ∧ Below w.heap.size w wi)
        case atStart =>
          refine ⟨1, Nat.le_refl _, by omega, rfl, ?_, HBW.out⟩
          have h := HQ.out
          rw [HLE.out, HTA.out] at h
          simpa using h
        case round =>
          obtain ⟨q, hq1', hqg, rfl, hQ, hbw⟩ := hrel
          obtain ⟨a4, c4, rfl⟩ := ownsS_shape hQ.wo
          obtain ⟨T1, hT1⟩ : ∃ T1, (ts ++ List.replicate (q - 1) (⟨8, [], La⟩ : Tok)).length = T1 := ⟨_, rfl⟩
          have HTS := Lib.hid hT1
          have hto : wr.ownsRow w.heap.size 30 3 (.slice a4 T1 c4) T1 (tkl (ts ++ List.replicate (q - 1) ⟨8, [], La⟩)) := by have h := hQ.wo; rw [hT1] at h; exact h
          have hT5 : T1 ≤ 1000 := by have := HTA.out; rw [← hT1, List.length_append, List.length_replicate]; omega
          have HQB : Hid (Q3 w.heap.size wr (.slice a3 La c3) (.slice (some ⟨g5, 0, none⟩) q1 c5) (.slice a4 T1 c4) L (d :: r) (ts ++ List.replicate (q - 1) ⟨8, [], La⟩)) := by have h := hQ; rw [hT1] at h; exact h
          have HBB := Lib.hid hbw
          rw [hT1]
          clear hQ hbw hT1
          by_cases hqq : q < q1
          · have l1 : (q : Int) < (q1 : Int) := by omega
            have e2 : IntKind.i64.wrap ((q : Int) + 1) = ((q + 1 : Nat) : Int) := by rw [i64_small (by omega) (by omega)]; omega
            go_wp2_with (at_builtin; refine wpListS_append_own rfl _ _ 24 rfl w.heap.size 30 iT (.agg #[.int .i64 0, .string ⟨#[]⟩, .int .i64 0]) 3 32 Tryd.underlying24 hti htz0 htz1 htz2 rfl (by decide) _ T1 (tkl (ts ++ List.replicate (q - 1) ⟨8, [], La⟩)) rfl (World.ownsRow.alloc hto _) ⟨wr.heap.size, 0, none⟩ 1 1 (tkC ⟨8, [], La⟩) rfl rfl (newR_tok _ ⟨8, [], La⟩ _) (tkC_one _) (by unfold maxLen; omega) (by omega) (by have := HBB.out.size; simp; omega) ?_)
            intro v' w9 hown9 hgrow9 _
            obtain ⟨g9, c9, hv9, -, -, -⟩ := ownsS_some hown9 (by omega)
            subst hv9
            obtain ⟨hQ9, hb9⟩ := HQB.out.tok (ts' := ts ++ List.replicate (q - 1) ⟨8, [], La⟩ ++ [⟨8, [], La⟩]) HBB.out (Nat.le_refl _) ((Below.refl _ wr).alloc (Nat.le_refl _) _) hgrow9 (by rw [tkl_app, List.length_append, HTS.out]; exact hown9)
            have HQ9 := Lib.hid hQ9
            have HB9 := Lib.hid hb9
            clear hown9 hgrow9 hQ9 hb9
            go_wp2_with fail
            go_roundg (gk - 1)
            case measure => omega
            case rel =>
              refine ⟨q + 1, by omega, by omega, rfl, ?_, HB9.out⟩
              have h := HQ9.out
              rw [List.append_assoc, ← List.replicate_succ', show q - 1 + 1 = q + 1 - 1 by omega] at h
              exact h
          · obtain rfl : q = q1 := by omega
            have l1 : ¬ (q : Int) < (q : Int) := by omega
            go_wp2_with (at_builtin; refine wpListS_append_own rfl _ _ 24 rfl w.heap.size 30 iT (.agg #[.int .i64 0, .string ⟨#[]⟩, .int .i64 0]) 3 32 Tryd.underlying24 hti htz0 htz1 htz2 rfl (by decide) _ T1 (tkl (ts ++ List.replicate (q - 1) ⟨8, [], La⟩)) rfl (World.ownsRow.alloc hto _) ⟨wr.heap.size, 0, none⟩ 1 1 (tkC ⟨9, [], La⟩) rfl rfl (newR_tok _ ⟨9, [], La⟩ _) (tkC_one _) (by unfold maxLen; omega) (by omega) (by have := HBB.out.size; simp; omega) ?_)
            intro v' w9 hown9 hgrow9 _
            obtain ⟨g9, c9, hv9, -, -, -⟩ := ownsS_some hown9 (by omega)
            subst hv9
            obtain ⟨hQ9, hb9⟩ := HQB.out.tok (ts' := ts ++ List.replicate (q - 1) ⟨8, [], La⟩ ++ [⟨9, [], La⟩]) HBB.out (Nat.le_refl _) ((Below.refl _ wr).alloc (Nat.le_refl _) _) hgrow9 (by rw [tkl_app, List.length_append, HTS.out]; exact hown9)
            have HQ9 := Lib.hid hQ9
            have HB9 := Lib.hid hb9
            obtain ⟨a8, c8, hv8, hbs⟩ := hQ9.so.bs
            rw [HLE.out] at hv8
            injection hv8 with h81 h82 h83
            subst h81
            subst h83
            have C1 := tokens_any hbs c3 (by rw [HLE.out]; omega) (HU.out w9 hb9)
            rw [HLE.out] at C1
            clear hown9 hgrow9 hQ9 hb9 hbs h82
            go_wp2_with fail
            refine C1.mono ?_
            rintro e w1 ⟨o, hLx, hb1, hm1⟩
            clear C1
            have hbk := HBK.out
            have HB1 := Lib.hid hb1
            have HEN : Hid (∀ w2, Below w9.heap.size w9 w2 → Env w2) := fun w2 h2 => HU.out w2 (HB9.out.trans (h2.mono HB9.out.size))
            rcases hbk with ⟨rfl, hG, hK⟩ | ⟨p, rfl, hG⟩
            · have hfin := hG.fin hK
              obtain rfl := hLx.det hfin
              obtain ⟨tv, rfl, ho⟩ := hm1
              obtain ⟨tb, tc, rfl⟩ := ownsS_shape ho
              have hlen : (d :: r).length - 1 = q - 1 := by have := HQ1.out; simp only [List.length_cons]; omega
              rw [hlen, HLE.out] at ho ⊢
              have HO := Lib.hid ho
              have C4 := fun o => tokens_eq (w := w1.alloc o) true ((tr_of HO.out).below ((Below.refl _ w1).alloc (Nat.le_refl _) o)) ((tr_of HQ9.out.wo).below (HB1.out.alloc HB1.out.size o)) (Al.refl _ _) (own_max HO.out)
              obtain ⟨N1, hN1⟩ : ∃ N1, (ts ++ List.replicate (q - 1) (⟨8, [], La⟩ : Tok) ++ [(⟨9, [], La⟩ : Tok)]).length = N1 := ⟨_, rfl⟩
              rw [hN1] at C4 ⊢
              clear hLx hfin ho hG hK hlen hb1 hN1
              go_wp2_with (go_at_call 10; refine (C4 _).mono ?_; rintro e w7 ⟨rfl, hb7⟩; have C5 := awake_any w7 (HEN.out w7 ((HB1.out.alloc HB1.out.size _).trans (hb7.mono (by have := HB1.out.size; simp; omega)))))
              refine C5.mono ?_
              rintro e w8 ⟨rfl, hb8⟩
              go_wp2_with fail
              go_ret
              have hz := ((HB1.out.alloc HB1.out.size _).trans (hb7.mono (by have := HB1.out.size; simp; omega))).mono HB9.out.size
              exact ⟨rfl, (HB9.out.trans hz).trans (hb8.mono (by have := HB9.out.size; have := hz.size; omega))⟩
            · have hfin := hG []
              rw [List.append_nil] at hfin
              obtain rfl := hLx.det hfin
              obtain rfl := hm1
              have p0 : (0 : Int) ≤ (p : Int) := by omega
              have hfe := flt_eq 103 (p : Int)
              have C3 := fun o => awake_any (w1.alloc o) (HEN.out _ (HB1.out.alloc HB1.out.size o))
              clear hLx hfin hG hb1
              go_wp2_with (go_at_call 6; refine (C3 _).mono ?_; rintro e w3 ⟨rfl, hb3⟩)
              go_ret
              have hz := (HB1.out.alloc HB1.out.size (.cells #[.int .i64 103, .int .i64 (p : Int)] 26)).mono HB9.out.size
              exact ⟨rfl, (HB9.out.trans hz).trans (hb3.mono (by have := HB9.out.size; have := hz.size; omega))⟩
end Lx
end Go.Proofs.YtmckhkkbghihaaaDoor
