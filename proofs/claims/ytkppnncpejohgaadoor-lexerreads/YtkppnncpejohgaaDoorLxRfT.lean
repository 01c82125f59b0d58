/-
  The document's own lexer: a token.
-/
import Derived.Test.YtkppnncpejohgaaDoorLxRfB
import Derived.Test.YtkppnncpejohgaaDoorLxRfS
import Derived.Test.YtkppnncpejohgaaDoorLxWords
import Derived.Test.YtkppnncpejohgaaDoorLeRefU
import Derived.Test.YtkppnncpejohgaaDoorLxQuo
import Derived.Deep.CutRange
import Derived.Deep.CutBlock
namespace Go.Proofs.YtkppnncpejohgaaDoor
open Go.RowKit Go.WideShapes
namespace Lx

def TnR (B : Nat) (w : World) (g : Nat) (sv : Value) (s : St) (x : Except Nat (Nat × List UInt8 × Nat × Nat)) (e : Ending) (w' : World) : Prop :=
  match x with
  | .error c => (∃ v : Int, e = .returned (.int .i64 v)) ∧ (∃ s', RfX B w' g sv s' c s.at_) ∧ Below B w w'
  | .ok p => e = .returned (.int .i64 ((s.at_ + p.2.2.1 : Nat) : Int)) ∧ RfX B w' g sv ⟨s.at_ + p.2.2.1, p.2.2.2, s.bs, s.ts ++ [⟨p.1, p.2.1, s.at_⟩]⟩ 0 0 ∧ Below B w w'
def q4' (c : UInt8) : Prop := c = 39 ∨ c = 34
theorem q4_no {c : UInt8} (h : q4' c) : isL c = false ∧ isD c = false := by
  rcases h with rfl | rfl <;> exact ⟨by decide, by decide⟩
theorem tkL {r : List UInt8} {o : Nat} (h : isL (r.getD 0 0) = true) : tk r o = .ok (if wrd (r.take (prt r)) then 2 else 1, r.take (prt r), prt r, o) := by
  have hq : ¬ (r.getD 0 0 = 39 ∨ r.getD 0 0 = 34) := fun e => by rw [(q4_no e).1] at h; cases h
  have hd : ¬ isD (r.getD 0 0) = true := by
    intro e
    unfold isL isD at *
    simp at h e
    omega
  unfold tk
  rw [if_neg hq, if_neg hd, if_pos (by rw [isP_eq, h]; rfl)]
theorem tkD {r : List UInt8} {o : Nat} (h : isD (r.getD 0 0) = true) : tk r o = if isN (r.take (prt r)) then .ok (3, r.take (prt r), prt r, o) else .error 105 := by
  have hq : ¬ (r.getD 0 0 = 39 ∨ r.getD 0 0 = 34) := fun e => by rw [(q4_no e).2] at h; cases h
  unfold tk
  rw [if_neg hq, if_pos h]
theorem tkQ {r : List UInt8} {o : Nat} (h : r.getD 0 0 = 39 ∨ r.getD 0 0 = 34) : tk r o = qt r o := by unfold tk; rw [if_pos h]; rfl
theorem tkS {r : List UInt8} {o : Nat} (h1 : isL (r.getD 0 0) = false) (h2 : isD (r.getD 0 0) = false) (h3 : ¬ (r.getD 0 0 = 39 ∨ r.getD 0 0 = 34)) : tk r o = sg r o := by
  unfold tk sg
  rw [if_neg h3, if_neg (by rw [h2]; simp), if_neg (by rw [isP_eq, h1, h2]; simp)]
theorem all_take (x : List UInt8) (i : Nat) (hi : i < x.length) : (x.take (i + 1)).all isD = ((x.take i).all isD && isD (x.getD i 0)) := by
  rw [List.take_succ_eq_append_getElem hi, List.all_append]
  simp [List.getD, hi]
set_option maxRecDepth 100000 in
set_option maxHeartbeats 8000000 in
theorem token_any {B : Nat} {w : World} {g b off n c : Nat} {l : List UInt8} {s : St} (hX : RfX B w g (.slice (some ⟨b, off, none⟩) n c) s 0 0) (hn : n = l.length) (h3 : ∀ j, j < n → w.cell? ⟨b, off + j, none⟩ = some (.int .u8 ((l.getD j 0).toNat : Int))) (hbl : b < B) (hc : n ≤ c) (hat : s.at_ < n) (hsz : n ≤ 65536) (ho : s.opn ≤ 60) (hts : s.ts.length ≤ 9000000) :
    Calls Tryd.prog 20 #[.pointer (some ⟨g, 0, none⟩), .int .i64 (s.at_ : Int)] w fun e w' => TnR B w g (.slice (some ⟨b, off, none⟩) n c) s (tk (l.drop s.at_) s.opn) e w' := by
  have HX := Lib.hid hX
  have HBw := Lib.hid hX.lo
  have HN := Lib.hid hn
  have H3 := Lib.hid h3
  obtain ⟨dv, tv, h⟩ := hX
  have c0 : w.cell? ⟨g, 0, none⟩ = some (.slice (some ⟨b, off, none⟩) n c) := h.b.c 0 (by omega)
  have ca := h3 s.at_ hat
  have HH := Lib.hid h
  have hcd : l.getD s.at_ 0 = (l.drop s.at_).getD 0 0 := (drop_get l s.at_).symm
  obtain ⟨cc, hcc⟩ : ∃ cc, l.getD s.at_ 0 = cc := ⟨_, rfl⟩
  rw [hcc] at ca hcd
  have HCD := Lib.hid hcd
  have i0 : (0 : Int) ≤ (s.at_ : Int) := by omega
  have i1 : (s.at_ : Int) < (n : Int) := by omega
  have D1 := fun w => rletter_any cc w
  have D2 := fun w => rdigit_any cc w
  obtain ⟨TR, hTR⟩ : ∃ TR, TR = TnR B w g (.slice (some ⟨b, off, none⟩) n c) s (tk (l.drop s.at_) s.opn) := ⟨_, rfl⟩
  rw [← hTR]
  have HTR := Lib.hid hTR
  have hprt : prt (l.drop s.at_) ≤ n - s.at_ := by have := prt_le (l.drop s.at_); rw [List.length_drop, ← hn] at this; exact this
  have HPP : Hid (isP cc = true → 0 < prt (l.drop s.at_)) := fun hp => prt_pos (by omega) (by rw [hcc]; exact hp)
  obtain ⟨k, hk⟩ : ∃ k, prt (l.drop s.at_) = k := ⟨_, rfl⟩
  rw [hk] at hprt
  have HK := Lib.hid hk
  have HPR := Lib.hid hprt
  have HXE : Hid (∀ p, Bs w (some ⟨b, off + s.at_, none⟩) p ((l.drop s.at_).take p) ∨ n < s.at_ + p) := fun p => by
    rcases Nat.lt_or_ge n (s.at_ + p) with z | z
    · exact Or.inr z
    · exact Or.inl (Bs.part hn h3 (by have := HBw.out; omega) s.at_ p z)
  clear hTR hk hcc hcd hn h3 h hprt
  have hpt : ∀ a, a < n → w.cell? ⟨b, off + a, none⟩ = some (.int .u8 ((l.getD a 0).toNat : Int)) := H3.out
  have HPT := Lib.hid hpt
  clear hpt
  go_enter Tryd.func20, Tryd.ntmps20
  go_upto_block 0 with fail
  go_cut [6] from 22 to 50 (fun v6 wr => v6 = .int .i64 ((s.at_ + k : Nat) : Int) ∧ wr = w)
  case first =>
    go_wp2_with fail
    go_loopg [6] (n - s.at_) (fun gk v6 wr => ∃ a, a + gk = n ∧ s.at_ ≤ a ∧ v6 = .int .i64 (a : Int) ∧ a + prt (l.drop a) = s.at_ + k ∧ wr = w)
    case atStart => exact ⟨s.at_, by omega, Nat.le_refl _, rfl, by rw [HK.out], rfl⟩
    case round =>
      obtain ⟨a, hg, ha, rfl, hp, rfl⟩ := hrel
      have HP := Lib.hid hp
      clear hp
      have j0 : (0 : Int) ≤ (a : Int) := by omega
      by_cases hlt : a < n
      · have t1 : (a : Int) < (n : Int) := by omega
        have cx := HPT.out a hlt
        have E1 := fun w => rletter_any (l.getD a 0) w
        have E2 := fun w => rdigit_any (l.getD a 0) w
        have hs := prt_step (l := l) (a := a) (by rw [← HN.out]; exact hlt)
        rw [isP_eq] at hs
        have HS := Lib.hid hs
        clear hs
        generalize l.getD a 0 = ca at *
        by_cases hl : isL ca = true
        · rw [hl] at E1
          have e1 : IntKind.i64.wrap ((a : Int) + 1) = ((a + 1 : Nat) : Int) := by rw [i64_small (by omega) (by omega)]; omega
          have HL := Lib.hid hl
          clear hl
          go_wp2_with (go_at_call 26; refine (E1 _).mono ?_; rintro e w' ⟨rfl, rfl⟩)
          go_roundg (gk - 1)
          case measure => omega
          case rel =>
            have h5 := HS.out
            rw [HL.out] at h5
            simp at h5
            exact ⟨a + 1, by omega, by omega, rfl, by have := HP.out; omega, rfl⟩
        · have hl : isL ca = false := by simpa using hl
          rw [hl] at E1
          by_cases hd : isD ca = true
          · rw [hd] at E2
            have e1 : IntKind.i64.wrap ((a : Int) + 1) = ((a + 1 : Nat) : Int) := by rw [i64_small (by omega) (by omega)]; omega
            have HD := Lib.hid hd
            clear hl hd
            go_wp2_with (first | (go_at_call 26; refine (E1 _).mono ?_; rintro e w' ⟨rfl, rfl⟩) | (go_at_call 27; refine (E2 _).mono ?_; rintro e w' ⟨rfl, rfl⟩))
            go_roundg (gk - 1)
            case measure => omega
            case rel =>
              have h5 := HS.out
              rw [HD.out] at h5
              simp at h5
              exact ⟨a + 1, by omega, by omega, rfl, by have := HP.out; omega, rfl⟩
          · have hd : isD ca = false := by simpa using hd
            rw [hd] at E2
            have h5 := HS.out
            rw [hl, hd] at h5
            have h6 : a = s.at_ + k := by have := HP.out; rw [h5] at this; simpa using this
            have H6 := Lib.hid h6
            clear hl hd h5 h6
            go_wp2_with (first | (go_at_call 26; refine (E1 _).mono ?_; rintro e w' ⟨rfl, rfl⟩) | (go_at_call 27; refine (E2 _).mono ?_; rintro e w' ⟨rfl, rfl⟩))
            go_meet
            case rel => exact ⟨by rw [H6.out], rfl⟩
      · have t1 : decide ((a : Int) < (n : Int)) = false := by simp; omega
        have h6 : a = s.at_ + k := by
          have := HP.out
          rw [List.drop_eq_nil_of_le (by rw [← HN.out]; omega)] at this
          simpa [prt] using this
        have H6 := Lib.hid h6
        clear h6
        go_wp2_with fail
        go_meet
        case rel => exact ⟨by rw [H6.out], rfl⟩
  case rest =>
    obtain ⟨rfl, hwc⟩ := hcut
    rw [hwc]
    clear hwc
    have hsum : s.at_ + k ≤ n := by have := HPR.out; omega
    have hpart : Bs w (some ⟨b, off + s.at_, none⟩) k ((l.drop s.at_).take k) := by
      rcases HXE.out k with h | h
      · exact h
      · omega
    have hcv : ∀ q, (convert 22 9 (.slice (some ⟨b, off + s.at_, none⟩) k q)).run Tryd.prog w = .ok (.string ⟨((l.drop s.at_).take k).toArray⟩) w := fun q => conv_bs hpart q
    obtain ⟨x, hx⟩ : ∃ x, (l.drop s.at_).take k = x := ⟨_, rfl⟩
    have hxl : x.length = k := by rw [← hx, List.length_take, List.length_drop, ← HN.out]; omega
    rw [hx] at hcv
    have HXX := Lib.hid hx
    have HXL := Lib.hid hxl
    obtain ⟨E, hE⟩ : ∃ E, s.at_ + k = E := ⟨_, rfl⟩
    have HE := Lib.hid hE
    have k1 : (s.at_ : Int) ≤ (E : Int) := by omega
    have k2 : (E : Int) ≤ (c : Int) := by omega
    have k3 : E - s.at_ = k := by omega
    have k4 : ((E : Int) - (s.at_ : Int)).toNat = k := by omega
    have k5 : (E : Int) ≤ (n : Int) := by omega
    rw [hE]
    clear hx hxl hpart hE hsum
    obtain ⟨XB, hXB⟩ : ∃ XB : ByteArray, XB = ⟨x.toArray⟩ := ⟨_, rfl⟩
    rw [← hXB] at hcv
    have HXB := Lib.hid hXB
    have hXs : (XB.size : Int) = (k : Int) := by rw [hXB, arr_size, HXL.out]
    clear hXB
    by_cases hl : isL cc = true
    · have hT := HTR.out
      rw [tkL (by rw [← HCD.out]; exact hl), HK.out, HXX.out] at hT
      have HT := Lib.hid hT
      have C := refWord_any XB
      rw [HXB.out] at C
      have C : ∀ w, Calls Tryd.prog 15 #[.string XB] w fun e w' => e = .returned (.bool (wrd x)) ∧ Below w.heap.size w w' := by rw [HXB.out]; exact C
      rw [hl] at D1
      clear hT hl
      cases hw : wrd x with
      | true =>
        rw [hw] at C HT
        clear hw
        go_wp2_with (go_at_call 26; refine (D1 _).mono ?_; rintro e w' ⟨rfl, rfl⟩)
        refine (C _).mono ?_
        rintro e w1 ⟨rfl, hb1⟩
        clear C
        go_wp2_with fail
        refine (add_any (HX.out.below hb1) 2 x s.at_ XB _ HXB.out rfl (by omega)).mono ?_
        rintro e w2 ⟨rfl, h2, hb2⟩
        go_wp2_with fail
        rw [HT.out]
        exact ⟨by show Ending.returned (.int .i64 (E : Int)) = Ending.returned (.int .i64 ((s.at_ + k : Nat) : Int)); rw [HE.out], h2.at_ _, (hb1.mono HBw.out).trans hb2⟩
      | false =>
        rw [hw] at C HT
        clear hw
        go_wp2_with (go_at_call 26; refine (D1 _).mono ?_; rintro e w' ⟨rfl, rfl⟩)
        refine (C _).mono ?_
        rintro e w1 ⟨rfl, hb1⟩
        clear C
        go_wp2_with fail
        refine (add_any (HX.out.below hb1) 1 x s.at_ XB _ HXB.out rfl (by omega)).mono ?_
        rintro e w2 ⟨rfl, h2, hb2⟩
        go_wp2_with fail
        rw [HT.out]
        exact ⟨by show Ending.returned (.int .i64 (E : Int)) = Ending.returned (.int .i64 ((s.at_ + k : Nat) : Int)); rw [HE.out], h2.at_ _, (hb1.mono HBw.out).trans hb2⟩
    · have hl : isL cc = false := by simpa using hl
      rw [hl] at D1
      by_cases hd : isD cc = true
      · have hT := HTR.out
        rw [tkD (by rw [← HCD.out]; exact hd), HK.out, HXX.out] at hT
        have HT := Lib.hid hT
        have hkp : 0 < k := by have := HPP.out (isP_of_isD hd); rw [HK.out] at this; exact this
        have hx0 : x.getD 0 0 = cc := by
          rw [← HXX.out, HCD.out]
          simp [List.getD, hkp]
        rw [hd] at D2
        have hk1 : k ≤ n := by have := HPR.out; omega
        obtain ⟨bs0, hbs0⟩ : ∃ bs0, bs0 = (decide (k ≤ 1000) && (decide (cc ≠ 48) || decide (k = 1))) := ⟨_, rfl⟩
        have HBS := Lib.hid hbs0
        have HN2 : Hid (isN x = (bs0 && x.all isD)) := by
          show isN x = _
          rw [HBS.out]
          unfold isN allD
          rw [HXL.out, hx0]
          cases x.all isD <;> simp
        have hsz2 : XB.size = k := by rw [HXB.out, arr_size, HXL.out]
        have HSZ2 := Lib.hid hsz2
        have HDT : Hid (∀ (i : Nat) (hi : i < XB.size), XB[i]'hi = x.getD i 0) := fun i hi => by
          have h5 := getD_at XB i hi
          rw [← h5, HXB.out]
        clear hT hl hd hbs0 hx0 hsz2
        go_upto_region 12 with (first | (go_at_call 26; refine (D1 _).mono ?_; rintro e w9 ⟨rfl, hw9⟩; rw [hw9]; clear hw9) | (go_at_call 27; refine (D2 _).mono ?_; rintro e w9 ⟨rfl, hw9⟩; rw [hw9]; clear hw9))
        go_cut [8] from 76 to 87 (fun v8 wr => v8 = .bool bs0 ∧ wr = w)
        case first =>
          by_cases z1 : (k : Int) ≤ 1000
          · by_cases z2 : cc = 48
            · have y2 : ((cc.toNat : Int) != 48) = false := by rw [z2]; rfl
              by_cases z3 : k = 1
              · have y3 : ((k : Int) == 1) = true := by rw [z3]; rfl
                have HV : Hid (bs0 = true) := by show bs0 = _; rw [HBS.out]; simp [z3]
                clear z2 z3
                go_wp2_with fail
                go_meet
                case rel => exact ⟨by rw [HV.out], rfl⟩
              · have y3 : ((k : Int) == 1) = false := beq_eq_false_iff_ne.2 (by omega)
                have HV : Hid (bs0 = false) := by show bs0 = _; rw [HBS.out]; simp [z2, z3]
                clear z2 z3
                go_wp2_with fail
                go_meet
                case rel => exact ⟨by rw [HV.out], rfl⟩
            · have y2 : ((cc.toNat : Int) != 48) = true := by
                simp only [bne_iff_ne, ne_eq]
                intro e
                exact z2 (UInt8.toNat_inj.1 (by show cc.toNat = 48; omega))
              have HV : Hid (bs0 = true) := by
                show bs0 = _
                rw [HBS.out]
                have : k ≤ 1000 := by omega
                simp [z2, this]
              clear z2
              go_wp2_with fail
              go_meet
              case rel => exact ⟨by rw [HV.out], rfl⟩
          · have y1 : decide ((k : Int) ≤ 1000) = false := by simp; omega
            have HV : Hid (bs0 = false) := by
              show bs0 = _
              rw [HBS.out]
              have : ¬ k ≤ 1000 := by omega
              simp [this]
            clear z1
            go_wp2_with fail
            go_meet
            case rel => exact ⟨by rw [HV.out], rfl⟩
        case rest =>
          obtain ⟨rfl, hwc⟩ := hcut
          rw [hwc]
          clear hwc
          go_wp2_with fail
          go_loopg [8, 9] k (fun gk v8 v9 wr => ∃ i, i + gk = k ∧ v9 = .int .i64 (i : Int) ∧ v8 = .bool (bs0 && (x.take i).all isD) ∧ wr = w)
          case atStart => exact ⟨0, by omega, rfl, by simp, rfl⟩
          case round =>
            obtain ⟨i, hg, rfl, rfl, rfl⟩ := hrel
            have j0 : (0 : Int) ≤ (i : Int) := by omega
            by_cases hik : i < k
            · have t1 : (i : Int) < (k : Int) := by omega
              have hsi : i < XB.size := by rw [HSZ2.out]; exact hik
              have hxi := HDT.out i hsi
              have E2 := fun w => rdigit_any (x.getD i 0) w
              have e1 : IntKind.i64.wrap ((i : Int) + 1) = ((i + 1 : Nat) : Int) := by rw [i64_small (by omega) (by omega)]; omega
              have HAT := Lib.hid (all_take x i (by rw [HXL.out]; exact hik))
              generalize x.getD i 0 = dg at *
              cases hok : (bs0 && (x.take i).all isD) with
              | true =>
                have HOK := Lib.hid hok
                clear hok
                go_wp2_with (go_at_call 27; refine (E2 _).mono ?_; rintro e w' ⟨rfl, rfl⟩)
                go_roundg (gk - 1)
                case measure => omega
                case rel =>
                  refine ⟨i + 1, by omega, rfl, ?_, rfl⟩
                  rw [HAT.out, ← Bool.and_assoc, HOK.out]
                  rfl
              | false =>
                have HOK := Lib.hid hok
                clear hok
                go_wp2_with fail
                go_roundg (gk - 1)
                case measure => omega
                case rel =>
                  refine ⟨i + 1, by omega, rfl, ?_, rfl⟩
                  rw [HAT.out, ← Bool.and_assoc, HOK.out]
                  rfl
            · obtain rfl : i = k := by omega
              have t1 : ¬ (i : Int) < (i : Int) := by omega
              have hN : (bs0 && (x.take i).all isD) = isN x := by rw [HN2.out, List.take_of_length_le (by rw [HXL.out]; exact Nat.le_refl _)]
              rw [hN]
              clear hN
              cases hv : isN x with
              | true =>
                have hT := HT.out
                rw [hv] at hT
                have HT2 := Lib.hid hT
                clear hv hT
                go_wp2_with fail
                refine (add_any HX.out 3 x s.at_ XB _ HXB.out rfl (by omega)).mono ?_
                rintro e w2 ⟨rfl, h2, hb2⟩
                go_wp2_with fail
                rw [HT2.out]
                exact ⟨by show Ending.returned (.int .i64 (E : Int)) = Ending.returned (.int .i64 ((s.at_ + i : Nat) : Int)); rw [HE.out], h2.at_ _, hb2⟩
              | false =>
                have hT := HT.out
                rw [hv] at hT
                have HT2 := Lib.hid hT
                clear hv hT
                go_wp2_with fail
                refine (fault_any HX.out 105 s.at_ _ _ rfl rfl).mono ?_
                rintro e w1 ⟨rfl, h1, hb1⟩
                go_wp2_with fail
                refine (add_any h1 3 x s.at_ XB _ HXB.out rfl (by omega)).mono ?_
                rintro e w2 ⟨rfl, h2, hb2⟩
                go_wp2_with fail
                rw [HT2.out]
                exact ⟨⟨_, rfl⟩, ⟨_, h2⟩, hb1.trans hb2⟩
      · have hd : isD cc = false := by simpa using hd
        rw [hd] at D2
        by_cases hq : cc = 39 ∨ cc = 34
        · have hT := HTR.out
          rw [tkQ (by rw [← HCD.out]; exact hq)] at hT
          unfold qt at hT
          have hrest : Bs w (some ⟨b, off + s.at_, none⟩) (n - s.at_) (l.drop s.at_) := by
            rcases HXE.out (n - s.at_) with h | h
            · rw [List.take_of_length_le (by rw [List.length_drop, ← HN.out]; exact Nat.le_refl _)] at h
              exact h
            · omega
          have hcv2 : ∀ q, (convert 22 9 (.slice (some ⟨b, off + s.at_, none⟩) (n - s.at_) q)).run Tryd.prog w = .ok (.string ⟨(l.drop s.at_).toArray⟩) w := fun q => conv_bs hrest q
          have C := refUnquote_any ⟨(l.drop s.at_).toArray⟩ w (by rw [arr_size, List.length_drop, ← HN.out]; omega)
          have hul := unq_le (l.drop s.at_)
          rw [List.length_drop, ← HN.out] at hul
          have ht39 : ((cc.toNat : Int) == 39) = decide (cc = 39) := by
            by_cases e : cc = 39
            · rw [e]; rfl
            · rw [decide_eq_false e]
              exact beq_eq_false_iff_ne.2 (fun e' => e (UInt8.toNat_inj.1 (by show cc.toNat = 39; omega)))
          have ht34 : ((cc.toNat : Int) == 34) = decide (cc = 34) := by
            by_cases e : cc = 34
            · rw [e]; rfl
            · rw [decide_eq_false e]
              exact beq_eq_false_iff_ne.2 (fun e' => e (UInt8.toNat_inj.1 (by show cc.toNat = 34; omega)))
          have m1 : (s.at_ : Int) ≤ (n : Int) := by omega
          have m2 : (n : Int) ≤ (c : Int) := by omega
          have m3 : ((n : Int) - (s.at_ : Int)).toNat = n - s.at_ := by omega
          clear hrest hl hd
          obtain ⟨ys, hys⟩ : ∃ ys, l.drop s.at_ = ys := ⟨_, rfl⟩
          rw [hys] at hT C hul hcv2
          have C : Calls Tryd.prog 28 #[.string ⟨ys.toArray⟩] w fun e w' => e = .returned (unqT (unq ys)) ∧ Below w.heap.size w w' := C
          generalize ByteArray.mk ys.toArray = YB at *
          clear hys
          cases hu : unq ys with
          | none =>
            rw [hu] at C hT
            unfold unqT at C
            have HT := Lib.hid hT
            clear hT hul hu
            rcases hq with rfl | rfl
            all_goals
              go_wp2_with (first | (go_at_call 26; refine (D1 _).mono ?_; rintro e w' ⟨rfl, rfl⟩) | (go_at_call 27; refine (D2 _).mono ?_; rintro e w' ⟨rfl, rfl⟩))
              refine C.mono ?_
              rintro e w1 ⟨rfl, hb1⟩
              clear C
              go_wp2_with fail
              refine (fault_any (HX.out.below hb1) 104 s.at_ _ _ rfl rfl).mono ?_
              rintro e w2 ⟨rfl, h2, hb2⟩
              go_wp2_with fail
              refine (add_any h2 4 [] s.at_ ⟨#[]⟩ _ rfl rfl (by omega)).mono ?_
              rintro e w3 ⟨rfl, h3, hb3⟩
              go_wp2_with fail
              rw [HT.out]
              exact ⟨⟨_, rfl⟩, ⟨_, h3⟩, ((hb1.mono HBw.out).trans hb2).trans hb3⟩
          | some p =>
            obtain ⟨y, m⟩ := p
            have hm := hul _ hu
            rw [hu] at C hT
            unfold unqT at C
            simp only at C hm
            have HT := Lib.hid hT
            obtain ⟨E2, hE2⟩ : ∃ E2 : Nat, s.at_ + m = E2 := ⟨_, rfl⟩
            have HE2 := Lib.hid hE2
            have e7 : IntKind.i64.wrap ((s.at_ : Int) + (m : Int)) = (E2 : Int) := by rw [i64_small (by omega) (by omega)]; omega
            clear hT hul hu hm hE2
            rcases hq with rfl | rfl
            all_goals
              go_wp2_with (first | (go_at_call 26; refine (D1 _).mono ?_; rintro e w' ⟨rfl, rfl⟩) | (go_at_call 27; refine (D2 _).mono ?_; rintro e w' ⟨rfl, rfl⟩))
              refine C.mono ?_
              rintro e w1 ⟨rfl, hb1⟩
              clear C
              go_wp2_with fail
              refine (add_any (HX.out.below hb1) 4 y s.at_ ⟨y.toArray⟩ _ rfl rfl (by omega)).mono ?_
              rintro e w3 ⟨rfl, h3, hb3⟩
              go_wp2_with fail
              rw [HT.out]
              exact ⟨by show Ending.returned (.int .i64 (E2 : Int)) = Ending.returned (.int .i64 ((s.at_ + m : Nat) : Int)); rw [HE2.out], h3.at_ _, (hb1.mono HBw.out).trans hb3⟩
        · have hT := HTR.out
          rw [tkS (by rw [← HCD.out]; exact hl) (by rw [← HCD.out]; exact hd) (by rw [← HCD.out]; exact hq)] at hT
          unfold sg at hT
          have C := rsign_any (c := c) HN.out H3.out (by have := HBw.out; omega) hc s.at_ (by omega) (by omega)
          have hl3 : (sgn (l.drop s.at_)).length ≤ n - s.at_ := by have := sgn_le (l.drop s.at_); rw [List.length_drop, ← HN.out] at this; exact this
          have y39 : ((cc.toNat : Int) == 39) = false := beq_eq_false_iff_ne.2 (fun e => hq (Or.inl (UInt8.toNat_inj.1 (by show cc.toNat = 39; omega))))
          have y34 : ((cc.toNat : Int) == 34) = false := beq_eq_false_iff_ne.2 (fun e => hq (Or.inr (UInt8.toNat_inj.1 (by show cc.toNat = 34; omega))))
          generalize sgn (l.drop s.at_) = t at *
          clear hl hd hq
          by_cases h0 : t = []
          · subst h0
            have HT : Hid (TR = TnR B w g (.slice (some ⟨b, off, none⟩) n c) s (.error 102)) := hT
            clear hT
            go_wp2_with (first | (go_at_call 26; refine (D1 _).mono ?_; rintro e w' ⟨rfl, rfl⟩) | (go_at_call 27; refine (D2 _).mono ?_; rintro e w' ⟨rfl, rfl⟩))
            refine C.mono ?_
            rintro e w1 ⟨rfl, hb1⟩
            clear C
            go_wp2_with fail
            refine (fault_any (HX.out.below hb1) 102 s.at_ _ _ rfl rfl).mono ?_
            rintro e w2 ⟨rfl, h2, hb2⟩
            go_wp2_with fail
            rw [HT.out]
            exact ⟨⟨_, rfl⟩, ⟨_, h2⟩, (hb1.mono HBw.out).trans hb2⟩
          · have e8 : IntKind.i64.wrap ((s.at_ : Int) + 1) = ((s.at_ + 1 : Nat) : Int) := by rw [i64_small (by omega) (by omega)]; omega
            by_cases h40 : t = [40]
            · subst h40
              by_cases h60 : 60 ≤ s.opn
              · have HT : Hid (TR = TnR B w g (.slice (some ⟨b, off, none⟩) n c) s (.error 107)) := by
                  refine hT.trans ?_
                  rw [if_neg (by decide), if_pos (by decide), if_pos h60]
                have k60 : (60 : Int) ≤ (s.opn : Int) := by omega
                have e9 : IntKind.i64.wrap ((s.opn : Int) + 1) = ((s.opn + 1 : Nat) : Int) := by rw [i64_small (by omega) (by omega)]; omega
                clear hT h60
                go_wp2_with (first | (go_at_call 26; refine (D1 _).mono ?_; rintro e w' ⟨rfl, rfl⟩) | (go_at_call 27; refine (D2 _).mono ?_; rintro e w' ⟨rfl, rfl⟩))
                refine C.mono ?_
                rintro e w1 ⟨rfl, hb1⟩
                clear C
                obtain ⟨dv1, tv1, h1⟩ := HX.out.below hb1
                have c3 : w1.cell? ⟨g, 3, none⟩ = some (.int .i64 (s.opn : Int)) := h1.b.c 3 (by omega)
                clear h1
                go_wp2_with fail
                refine (fault_any (HX.out.below hb1) 107 s.at_ _ _ rfl rfl).mono ?_
                rintro e w2 ⟨rfl, h2, hb2⟩
                obtain ⟨dv2, tv2, h2⟩ := h2
                have c32 : w2.cell? ⟨g, 3, none⟩ = some (.int .i64 (s.opn : Int)) := h2.b.c 3 (by omega)
                have z32 := h2.b.z 3
                have H2 := Lib.hid h2
                clear h2 c3
                go_wp2_with fail
                refine (add_any (s := { s with opn := s.opn + 1 }) ⟨_, _, H2.out.opn (s.opn + 1)⟩ 5 [40] s.at_ ⟨#[40]⟩ _ rfl rfl (by show s.ts.length ≤ _; omega)).mono ?_
                rintro e w3 ⟨rfl, h3, hb3⟩
                go_wp2_with fail
                rw [HT.out]
                exact ⟨⟨_, rfl⟩, ⟨_, h3⟩, (((hb1.mono HBw.out).trans hb2).setCell (p := ⟨g, 3, none⟩) H2.out.lo _).trans hb3⟩
              · have HT : Hid (TR = TnR B w g (.slice (some ⟨b, off, none⟩) n c) s (.ok (5, [40], 1, s.opn + 1))) := by
                  refine hT.trans ?_
                  rw [if_neg (by decide), if_pos (by decide), if_neg h60]
                  rfl
                have k60 : ¬ (60 : Int) ≤ (s.opn : Int) := by omega
                have e9 : IntKind.i64.wrap ((s.opn : Int) + 1) = ((s.opn + 1 : Nat) : Int) := by rw [i64_small (by omega) (by omega)]; omega
                clear hT h60
                go_wp2_with (first | (go_at_call 26; refine (D1 _).mono ?_; rintro e w' ⟨rfl, rfl⟩) | (go_at_call 27; refine (D2 _).mono ?_; rintro e w' ⟨rfl, rfl⟩))
                refine C.mono ?_
                rintro e w1 ⟨rfl, hb1⟩
                clear C
                obtain ⟨dv1, tv1, h1⟩ := HX.out.below hb1
                have c3 : w1.cell? ⟨g, 3, none⟩ = some (.int .i64 (s.opn : Int)) := h1.b.c 3 (by omega)
                have z3 := h1.b.z 3
                have H1 := Lib.hid h1
                clear h1
                go_wp2_with fail
                refine (add_any (s := { s with opn := s.opn + 1 }) ⟨_, _, H1.out.opn (s.opn + 1)⟩ 5 [40] s.at_ ⟨#[40]⟩ _ rfl rfl (by show s.ts.length ≤ _; omega)).mono ?_
                rintro e w3 ⟨rfl, h3, hb3⟩
                go_wp2_with fail
                rw [HT.out]
                exact ⟨rfl, h3.at_ _, ((hb1.mono HBw.out).setCell (p := ⟨g, 3, none⟩) H1.out.lo _).trans hb3⟩
            · skip
              by_cases h91 : t = [91]
              · subst h91
                by_cases h60 : 60 ≤ s.opn
                · have HT : Hid (TR = TnR B w g (.slice (some ⟨b, off, none⟩) n c) s (.error 107)) := by
                    refine hT.trans ?_
                    rw [if_neg (by decide), if_pos (by decide), if_pos h60]
                  have k60 : (60 : Int) ≤ (s.opn : Int) := by omega
                  have e9 : IntKind.i64.wrap ((s.opn : Int) + 1) = ((s.opn + 1 : Nat) : Int) := by rw [i64_small (by omega) (by omega)]; omega
                  clear hT h60
                  go_wp2_with (first | (go_at_call 26; refine (D1 _).mono ?_; rintro e w' ⟨rfl, rfl⟩) | (go_at_call 27; refine (D2 _).mono ?_; rintro e w' ⟨rfl, rfl⟩))
                  refine C.mono ?_
                  rintro e w1 ⟨rfl, hb1⟩
                  clear C
                  obtain ⟨dv1, tv1, h1⟩ := HX.out.below hb1
                  have c3 : w1.cell? ⟨g, 3, none⟩ = some (.int .i64 (s.opn : Int)) := h1.b.c 3 (by omega)
                  clear h1
                  go_wp2_with fail
                  refine (fault_any (HX.out.below hb1) 107 s.at_ _ _ rfl rfl).mono ?_
                  rintro e w2 ⟨rfl, h2, hb2⟩
                  obtain ⟨dv2, tv2, h2⟩ := h2
                  have c32 : w2.cell? ⟨g, 3, none⟩ = some (.int .i64 (s.opn : Int)) := h2.b.c 3 (by omega)
                  have z32 := h2.b.z 3
                  have H2 := Lib.hid h2
                  clear h2 c3
                  go_wp2_with fail
                  refine (add_any (s := { s with opn := s.opn + 1 }) ⟨_, _, H2.out.opn (s.opn + 1)⟩ 5 [91] s.at_ ⟨#[91]⟩ _ rfl rfl (by show s.ts.length ≤ _; omega)).mono ?_
                  rintro e w3 ⟨rfl, h3, hb3⟩
                  go_wp2_with fail
                  rw [HT.out]
                  exact ⟨⟨_, rfl⟩, ⟨_, h3⟩, (((hb1.mono HBw.out).trans hb2).setCell (p := ⟨g, 3, none⟩) H2.out.lo _).trans hb3⟩
                · have HT : Hid (TR = TnR B w g (.slice (some ⟨b, off, none⟩) n c) s (.ok (5, [91], 1, s.opn + 1))) := by
                    refine hT.trans ?_
                    rw [if_neg (by decide), if_pos (by decide), if_neg h60]
                    rfl
                  have k60 : ¬ (60 : Int) ≤ (s.opn : Int) := by omega
                  have e9 : IntKind.i64.wrap ((s.opn : Int) + 1) = ((s.opn + 1 : Nat) : Int) := by rw [i64_small (by omega) (by omega)]; omega
                  clear hT h60
                  go_wp2_with (first | (go_at_call 26; refine (D1 _).mono ?_; rintro e w' ⟨rfl, rfl⟩) | (go_at_call 27; refine (D2 _).mono ?_; rintro e w' ⟨rfl, rfl⟩))
                  refine C.mono ?_
                  rintro e w1 ⟨rfl, hb1⟩
                  clear C
                  obtain ⟨dv1, tv1, h1⟩ := HX.out.below hb1
                  have c3 : w1.cell? ⟨g, 3, none⟩ = some (.int .i64 (s.opn : Int)) := h1.b.c 3 (by omega)
                  have z3 := h1.b.z 3
                  have H1 := Lib.hid h1
                  clear h1
                  go_wp2_with fail
                  refine (add_any (s := { s with opn := s.opn + 1 }) ⟨_, _, H1.out.opn (s.opn + 1)⟩ 5 [91] s.at_ ⟨#[91]⟩ _ rfl rfl (by show s.ts.length ≤ _; omega)).mono ?_
                  rintro e w3 ⟨rfl, h3, hb3⟩
                  go_wp2_with fail
                  rw [HT.out]
                  exact ⟨rfl, h3.at_ _, ((hb1.mono HBw.out).setCell (p := ⟨g, 3, none⟩) H1.out.lo _).trans hb3⟩
              · skip
                by_cases h123 : t = [123]
                · subst h123
                  by_cases h60 : 60 ≤ s.opn
                  · have HT : Hid (TR = TnR B w g (.slice (some ⟨b, off, none⟩) n c) s (.error 107)) := by
                      refine hT.trans ?_
                      rw [if_neg (by decide), if_pos (by decide), if_pos h60]
                    have k60 : (60 : Int) ≤ (s.opn : Int) := by omega
                    have e9 : IntKind.i64.wrap ((s.opn : Int) + 1) = ((s.opn + 1 : Nat) : Int) := by rw [i64_small (by omega) (by omega)]; omega
                    clear hT h60
                    go_wp2_with (first | (go_at_call 26; refine (D1 _).mono ?_; rintro e w' ⟨rfl, rfl⟩) | (go_at_call 27; refine (D2 _).mono ?_; rintro e w' ⟨rfl, rfl⟩))
                    refine C.mono ?_
                    rintro e w1 ⟨rfl, hb1⟩
                    clear C
                    obtain ⟨dv1, tv1, h1⟩ := HX.out.below hb1
                    have c3 : w1.cell? ⟨g, 3, none⟩ = some (.int .i64 (s.opn : Int)) := h1.b.c 3 (by omega)
                    clear h1
                    go_wp2_with fail
                    refine (fault_any (HX.out.below hb1) 107 s.at_ _ _ rfl rfl).mono ?_
                    rintro e w2 ⟨rfl, h2, hb2⟩
                    obtain ⟨dv2, tv2, h2⟩ := h2
                    have c32 : w2.cell? ⟨g, 3, none⟩ = some (.int .i64 (s.opn : Int)) := h2.b.c 3 (by omega)
                    have z32 := h2.b.z 3
                    have H2 := Lib.hid h2
                    clear h2 c3
                    go_wp2_with fail
                    refine (add_any (s := { s with opn := s.opn + 1 }) ⟨_, _, H2.out.opn (s.opn + 1)⟩ 5 [123] s.at_ ⟨#[123]⟩ _ rfl rfl (by show s.ts.length ≤ _; omega)).mono ?_
                    rintro e w3 ⟨rfl, h3, hb3⟩
                    go_wp2_with fail
                    rw [HT.out]
                    exact ⟨⟨_, rfl⟩, ⟨_, h3⟩, (((hb1.mono HBw.out).trans hb2).setCell (p := ⟨g, 3, none⟩) H2.out.lo _).trans hb3⟩
                  · have HT : Hid (TR = TnR B w g (.slice (some ⟨b, off, none⟩) n c) s (.ok (5, [123], 1, s.opn + 1))) := by
                      refine hT.trans ?_
                      rw [if_neg (by decide), if_pos (by decide), if_neg h60]
                      rfl
                    have k60 : ¬ (60 : Int) ≤ (s.opn : Int) := by omega
                    have e9 : IntKind.i64.wrap ((s.opn : Int) + 1) = ((s.opn + 1 : Nat) : Int) := by rw [i64_small (by omega) (by omega)]; omega
                    clear hT h60
                    go_wp2_with (first | (go_at_call 26; refine (D1 _).mono ?_; rintro e w' ⟨rfl, rfl⟩) | (go_at_call 27; refine (D2 _).mono ?_; rintro e w' ⟨rfl, rfl⟩))
                    refine C.mono ?_
                    rintro e w1 ⟨rfl, hb1⟩
                    clear C
                    obtain ⟨dv1, tv1, h1⟩ := HX.out.below hb1
                    have c3 : w1.cell? ⟨g, 3, none⟩ = some (.int .i64 (s.opn : Int)) := h1.b.c 3 (by omega)
                    have z3 := h1.b.z 3
                    have H1 := Lib.hid h1
                    clear h1
                    go_wp2_with fail
                    refine (add_any (s := { s with opn := s.opn + 1 }) ⟨_, _, H1.out.opn (s.opn + 1)⟩ 5 [123] s.at_ ⟨#[123]⟩ _ rfl rfl (by show s.ts.length ≤ _; omega)).mono ?_
                    rintro e w3 ⟨rfl, h3, hb3⟩
                    go_wp2_with fail
                    rw [HT.out]
                    exact ⟨rfl, h3.at_ _, ((hb1.mono HBw.out).setCell (p := ⟨g, 3, none⟩) H1.out.lo _).trans hb3⟩
                · skip
                  by_cases h41 : t = [41]
                  · subst h41
                    have HT : Hid (TR = TnR B w g (.slice (some ⟨b, off, none⟩) n c) s (.ok (5, [41], 1, s.opn - 1))) := by
                      refine hT.trans ?_
                      rw [if_neg (by decide), if_neg (by decide), if_pos (by decide)]
                      rfl
                    clear hT
                    by_cases h60 : 0 < s.opn
                    · have k60 : (0 : Int) < (s.opn : Int) := by omega
                      have e9 : IntKind.i64.wrap ((s.opn : Int) - 1) = ((s.opn - 1 : Nat) : Int) := by rw [i64_small (by omega) (by omega)]; omega
                      generalize hq1 : s.opn - 1 = q1 at *
                      clear hq1 h60
                      go_wp2_with (first | (go_at_call 26; refine (D1 _).mono ?_; rintro e w' ⟨rfl, rfl⟩) | (go_at_call 27; refine (D2 _).mono ?_; rintro e w' ⟨rfl, rfl⟩))
                      refine C.mono ?_
                      rintro e w1 ⟨rfl, hb1⟩
                      clear C
                      obtain ⟨dv1, tv1, h1⟩ := HX.out.below hb1
                      have c3 : w1.cell? ⟨g, 3, none⟩ = some (.int .i64 (s.opn : Int)) := h1.b.c 3 (by omega)
                      have z3 := h1.b.z 3
                      have H1 := Lib.hid h1
                      clear h1
                      go_wp2_with fail
                      refine (add_any (s := { s with opn := q1 }) ⟨_, _, H1.out.opn q1⟩ 5 [41] s.at_ ⟨#[41]⟩ _ rfl rfl (by show s.ts.length ≤ _; omega)).mono ?_
                      rintro e w3 ⟨rfl, h3, hb3⟩
                      go_wp2_with fail
                      rw [HT.out]
                      exact ⟨rfl, h3.at_ _, ((hb1.mono HBw.out).setCell (p := ⟨g, 3, none⟩) H1.out.lo _).trans hb3⟩
                    · have k60 : ¬ (0 : Int) < (s.opn : Int) := by omega
                      have HZ : Hid (s.opn - 1 = s.opn) := by show s.opn - 1 = s.opn; omega
                      clear h60
                      go_wp2_with (first | (go_at_call 26; refine (D1 _).mono ?_; rintro e w' ⟨rfl, rfl⟩) | (go_at_call 27; refine (D2 _).mono ?_; rintro e w' ⟨rfl, rfl⟩))
                      refine C.mono ?_
                      rintro e w1 ⟨rfl, hb1⟩
                      clear C
                      obtain ⟨dv1, tv1, h1⟩ := HX.out.below hb1
                      have c3 : w1.cell? ⟨g, 3, none⟩ = some (.int .i64 (s.opn : Int)) := h1.b.c 3 (by omega)
                      clear h1
                      go_wp2_with fail
                      refine (add_any (HX.out.below hb1) 5 [41] s.at_ ⟨#[41]⟩ _ rfl rfl (by omega)).mono ?_
                      rintro e w3 ⟨rfl, h3, hb3⟩
                      go_wp2_with fail
                      rw [HT.out, HZ.out]
                      exact ⟨rfl, h3.at_ _, (hb1.mono HBw.out).trans hb3⟩
                  · skip
                    by_cases h93 : t = [93]
                    · subst h93
                      have HT : Hid (TR = TnR B w g (.slice (some ⟨b, off, none⟩) n c) s (.ok (5, [93], 1, s.opn - 1))) := by
                        refine hT.trans ?_
                        rw [if_neg (by decide), if_neg (by decide), if_pos (by decide)]
                        rfl
                      clear hT
                      by_cases h60 : 0 < s.opn
                      · have k60 : (0 : Int) < (s.opn : Int) := by omega
                        have e9 : IntKind.i64.wrap ((s.opn : Int) - 1) = ((s.opn - 1 : Nat) : Int) := by rw [i64_small (by omega) (by omega)]; omega
                        generalize hq1 : s.opn - 1 = q1 at *
                        clear hq1 h60
                        go_wp2_with (first | (go_at_call 26; refine (D1 _).mono ?_; rintro e w' ⟨rfl, rfl⟩) | (go_at_call 27; refine (D2 _).mono ?_; rintro e w' ⟨rfl, rfl⟩))
                        refine C.mono ?_
                        rintro e w1 ⟨rfl, hb1⟩
                        clear C
                        obtain ⟨dv1, tv1, h1⟩ := HX.out.below hb1
                        have c3 : w1.cell? ⟨g, 3, none⟩ = some (.int .i64 (s.opn : Int)) := h1.b.c 3 (by omega)
                        have z3 := h1.b.z 3
                        have H1 := Lib.hid h1
                        clear h1
                        go_wp2_with fail
                        refine (add_any (s := { s with opn := q1 }) ⟨_, _, H1.out.opn q1⟩ 5 [93] s.at_ ⟨#[93]⟩ _ rfl rfl (by show s.ts.length ≤ _; omega)).mono ?_
                        rintro e w3 ⟨rfl, h3, hb3⟩
                        go_wp2_with fail
                        rw [HT.out]
                        exact ⟨rfl, h3.at_ _, ((hb1.mono HBw.out).setCell (p := ⟨g, 3, none⟩) H1.out.lo _).trans hb3⟩
                      · have k60 : ¬ (0 : Int) < (s.opn : Int) := by omega
                        have HZ : Hid (s.opn - 1 = s.opn) := by show s.opn - 1 = s.opn; omega
                        clear h60
                        go_wp2_with (first | (go_at_call 26; refine (D1 _).mono ?_; rintro e w' ⟨rfl, rfl⟩) | (go_at_call 27; refine (D2 _).mono ?_; rintro e w' ⟨rfl, rfl⟩))
                        refine C.mono ?_
                        rintro e w1 ⟨rfl, hb1⟩
                        clear C
                        obtain ⟨dv1, tv1, h1⟩ := HX.out.below hb1
                        have c3 : w1.cell? ⟨g, 3, none⟩ = some (.int .i64 (s.opn : Int)) := h1.b.c 3 (by omega)
                        clear h1
                        go_wp2_with fail
                        refine (add_any (HX.out.below hb1) 5 [93] s.at_ ⟨#[93]⟩ _ rfl rfl (by omega)).mono ?_
                        rintro e w3 ⟨rfl, h3, hb3⟩
                        go_wp2_with fail
                        rw [HT.out, HZ.out]
                        exact ⟨rfl, h3.at_ _, (hb1.mono HBw.out).trans hb3⟩
                    · skip
                      by_cases h125 : t = [125]
                      · subst h125
                        have HT : Hid (TR = TnR B w g (.slice (some ⟨b, off, none⟩) n c) s (.ok (5, [125], 1, s.opn - 1))) := by
                          refine hT.trans ?_
                          rw [if_neg (by decide), if_neg (by decide), if_pos (by decide)]
                          rfl
                        clear hT
                        by_cases h60 : 0 < s.opn
                        · have k60 : (0 : Int) < (s.opn : Int) := by omega
                          have e9 : IntKind.i64.wrap ((s.opn : Int) - 1) = ((s.opn - 1 : Nat) : Int) := by rw [i64_small (by omega) (by omega)]; omega
                          generalize hq1 : s.opn - 1 = q1 at *
                          clear hq1 h60
                          go_wp2_with (first | (go_at_call 26; refine (D1 _).mono ?_; rintro e w' ⟨rfl, rfl⟩) | (go_at_call 27; refine (D2 _).mono ?_; rintro e w' ⟨rfl, rfl⟩))
                          refine C.mono ?_
                          rintro e w1 ⟨rfl, hb1⟩
                          clear C
                          obtain ⟨dv1, tv1, h1⟩ := HX.out.below hb1
                          have c3 : w1.cell? ⟨g, 3, none⟩ = some (.int .i64 (s.opn : Int)) := h1.b.c 3 (by omega)
                          have z3 := h1.b.z 3
                          have H1 := Lib.hid h1
                          clear h1
                          go_wp2_with fail
                          refine (add_any (s := { s with opn := q1 }) ⟨_, _, H1.out.opn q1⟩ 5 [125] s.at_ ⟨#[125]⟩ _ rfl rfl (by show s.ts.length ≤ _; omega)).mono ?_
                          rintro e w3 ⟨rfl, h3, hb3⟩
                          go_wp2_with fail
                          rw [HT.out]
                          exact ⟨rfl, h3.at_ _, ((hb1.mono HBw.out).setCell (p := ⟨g, 3, none⟩) H1.out.lo _).trans hb3⟩
                        · have k60 : ¬ (0 : Int) < (s.opn : Int) := by omega
                          have HZ : Hid (s.opn - 1 = s.opn) := by show s.opn - 1 = s.opn; omega
                          clear h60
                          go_wp2_with (first | (go_at_call 26; refine (D1 _).mono ?_; rintro e w' ⟨rfl, rfl⟩) | (go_at_call 27; refine (D2 _).mono ?_; rintro e w' ⟨rfl, rfl⟩))
                          refine C.mono ?_
                          rintro e w1 ⟨rfl, hb1⟩
                          clear C
                          obtain ⟨dv1, tv1, h1⟩ := HX.out.below hb1
                          have c3 : w1.cell? ⟨g, 3, none⟩ = some (.int .i64 (s.opn : Int)) := h1.b.c 3 (by omega)
                          clear h1
                          go_wp2_with fail
                          refine (add_any (HX.out.below hb1) 5 [125] s.at_ ⟨#[125]⟩ _ rfl rfl (by omega)).mono ?_
                          rintro e w3 ⟨rfl, h3, hb3⟩
                          go_wp2_with fail
                          rw [HT.out, HZ.out]
                          exact ⟨rfl, h3.at_ _, (hb1.mono HBw.out).trans hb3⟩
                      · skip
                        have HT : Hid (TR = TnR B w g (.slice (some ⟨b, off, none⟩) n c) s (.ok (5, t, t.length, s.opn))) := by
                          refine hT.trans ?_
                          rw [if_neg h0, if_neg (by rintro (h | h | h); exact h40 h; exact h91 h; exact h123 h), if_neg (by rintro (h | h | h); exact h41 h; exact h93 h; exact h125 h)]
                        clear hT
                        obtain ⟨X, hXe⟩ : ∃ X : ByteArray, X = ⟨t.toArray⟩ := ⟨_, rfl⟩
                        rw [← hXe] at C
                        have hXl : X.toList = t := by rw [toList_eq, hXe]
                        have q0 : X.toList.isEmpty = false := by rw [hXl]; simp [h0]
                        have q40 : (X.toList == [40]) = false := by rw [hXl]; exact beq_eq_false_iff_ne.2 h40
                        have q91 : (X.toList == [91]) = false := by rw [hXl]; exact beq_eq_false_iff_ne.2 h91
                        have q123 : (X.toList == [123]) = false := by rw [hXl]; exact beq_eq_false_iff_ne.2 h123
                        have q41 : (X.toList == [41]) = false := by rw [hXl]; exact beq_eq_false_iff_ne.2 h41
                        have q93 : (X.toList == [93]) = false := by rw [hXl]; exact beq_eq_false_iff_ne.2 h93
                        have q125 : (X.toList == [125]) = false := by rw [hXl]; exact beq_eq_false_iff_ne.2 h125
                        have HXE2 := Lib.hid hXe
                        have hXs2 : (X.size : Int) = (t.length : Int) := by rw [hXe, arr_size]
                        obtain ⟨E3, hE3⟩ : ∃ E3 : Nat, s.at_ + t.length = E3 := ⟨_, rfl⟩
                        have HE3 := Lib.hid hE3
                        have e9 : IntKind.i64.wrap ((s.at_ : Int) + (t.length : Int)) = (E3 : Int) := by rw [i64_small (by omega) (by omega)]; omega
                        clear hXe hXl hE3 h0 h40 h91 h123 h41 h93 h125
                        generalize hln : t.length = ln at *
                        have HLN := Lib.hid hln
                        clear hln
                        go_wp2_with (first | (go_at_call 26; refine (D1 _).mono ?_; rintro e w' ⟨rfl, rfl⟩) | (go_at_call 27; refine (D2 _).mono ?_; rintro e w' ⟨rfl, rfl⟩))
                        refine C.mono ?_
                        rintro e w1 ⟨rfl, hb1⟩
                        clear C
                        go_wp2_with fail
                        refine (add_any (HX.out.below hb1) 5 t s.at_ X _ HXE2.out rfl (by omega)).mono ?_
                        rintro e w3 ⟨rfl, h3, hb3⟩
                        go_wp2_with fail
                        rw [HT.out]
                        exact ⟨by show Ending.returned (.int .i64 (E3 : Int)) = Ending.returned (.int .i64 ((s.at_ + ln : Nat) : Int)); rw [HE3.out], h3.at_ _, (hb1.mono HBw.out).trans hb3⟩
end Lx
end Go.Proofs.YtkppnncpejohgaaDoor
