/-
  A namespace's Get; the law's names.
-/
import Derived.Test.YtpigbnlapcndgaaGreatShn
import Derived.Test.YtpigbnlapcndgaaGreatShNames
namespace Go.Proofs.YtpigbnlapcndgaaGreat
open Go.RowKit Go.WideShapes

/-- What a Get tells. -/
def GetR (F : Fa) (nm : ByteArray) : Stn → Int → Bool → Prop
  | .row vs, x, ok => ∃ k, Num F.all nm k ∧ ((∃ n, Fnd F.kt.es k n ∧ n < vs.length ∧ x = vs[n]?.getD 0 ∧ ok = true) ∨ ((∀ n, Fnd F.kt.es k n → vs.length ≤ n) ∧ x = 0 ∧ ok = false))
  | .own t, x, ok => ∃ k, Num F.all nm k ∧ ((∃ n, Fnd t.es k n ∧ x = (nth t.es n).value ∧ ok = true) ∨ ((∀ n, ¬ Fnd t.es k n) ∧ x = 0 ∧ ok = false))
set_option maxRecDepth 100000 in
set_option maxHeartbeats 4000000 in
theorem get_any {w : World} {f : Nat} {F : Fa} {pm : Option Addr} {XF : Nat → Prop} {s : Nat} {st : Stn} {v : Nat} {XS : Nat → Prop} {N : Int → Int → Int → Int → World → Prop} {a b c d : Int} {c0 : Nat} (h : Fs w f F (.pointer pm) XF s st v XS) (hM4 : M4 (.pointer pm) N) (hM : N a b c d w) (hb : 0 ≤ b ∧ b ≤ 10000000000) (hO : F.Ok hsT c0) (hst : st.Ok hsT F c0) {nm : ByteArray} (hs : nm.size ≤ 3000) :
    Calls Tryz.prog 17 #[.pointer (some ⟨s, 0, none⟩), .string nm] w fun e w' => ∃ (x : Int) (ok : Bool) (k res : Int) (jj : Nat), e = .returned (.tuple #[.int .i64 x, .bool ok]) ∧ GetR F nm st x ok ∧ Num F.all nm k ∧ SkR (tbS F st) (hsT nm) k res jj ∧ N a (b + (jj : Int)) c d w' ∧ Ex (mB (.pointer pm)) w w' := by
  obtain ⟨k, hk⟩ := num_ex F.all nm
  have CS := sseek_any h hM4 hM hb hO hst hs hk
  have hF0 := h
  obtain ⟨q, XQ, h1, h2, h3, h4⟩ := h.sm
  subst h4
  have CN := isNothing_no (h1.c 1 (by omega))
  have ls := h1.lt (by omega)
  have HF0 := Lib.hid hF0
  have HM4 := Lib.hid hM4
  have HO := Lib.hid hO
  have HST := Lib.hid hst
  have HK := Lib.hid hk
  have HQ := Lib.hid h2
  have HB := Lib.hid h1
  clear h hM4 hM hO hst hk h1 h2 h3 hF0
  go_enter Tryz.func17, Tryz.ntmps17
  go_wp2_with fail
  refine CN.mono ?_
  rintro e w0 ⟨rfl, rfl⟩
  clear CN
  go_wp2_with fail
  refine CS.mono ?_
  rintro e w1 ⟨res, jj, rfl, hR, hM1, hx1⟩
  clear CS
  have hb1 := HB.out.same (w' := w1) (hx1.met ls (fun y => HF0.out.mq s y (.inl rfl)))
  have hq1 := HQ.out.same (w' := w1) fun j hj => hx1.met (HQ.out.lt j hj) (fun y => HF0.out.mq j y (.inr hj))
  have HR := Lib.hid hR
  have HM1 := Lib.hid hM1
  have HX1 := Lib.hid hx1
  cases st with
  | row vs =>
    have x1 : w1.cell? ⟨s, 1, none⟩ = some (.iface 59 (.pointer (some ⟨q, 0, none⟩))) := hb1.c 1 (by omega)
    have mh := mR_has (some ⟨q, 0, none⟩)
    obtain ⟨vv, hqb, hqv, hqn, rfl⟩ := hq1
    obtain ⟨av, cap, gv, rfl, hcap, hvo⟩ := hqv.open
    have hCH : (∃ n : Nat, res = (n : Int) ∧ Fnd F.kt.es k n ∧ n < vs.length) ∨ ((∀ n, Fnd F.kt.es k n → vs.length ≤ n) ∧ Calls Tryz.prog 100 #[.pointer (some ⟨q, 0, none⟩), .int .i64 res] w1 fun e w' => e = .returned (.bool false) ∧ w' = w1) := by
      rcases hR with ⟨n, rfl, hn, _⟩ | ⟨rfl, hn, _⟩
      · rcases Nat.lt_or_ge n vs.length with c1 | c1
        · exact .inl ⟨n, rfl, hn, c1⟩
        · refine .inr ⟨fun m hm => ?_, ?_⟩
          · rw [Nl.one (hs := hsT) (all := F.all) (by rw [live_all HO.out.dead]; exact HO.out.nl) hm hn]; exact c1
          · have := rowHas_any (hqb.c 1 (by omega)) n
            rw [decide_eq_false (by omega)] at this
            exact this
      · exact .inr ⟨fun m hm => absurd hm (hn m), rowHas_none⟩
    clear hR hM1 hx1
    rcases hCH with ⟨n, rfl, hn, hlt⟩ | ⟨hno, CH⟩
    · have CH := rowHas_any (hqb.c 1 (by omega)) n
      rw [decide_eq_true hlt] at CH
      obtain ⟨rfl, hgl, _, hgb⟩ := hvo (by omega)
      have CV := rowValue_any (hqb.c 1 (by omega)) hlt (hgb.c n hlt)
      have mv := mR_value (some ⟨q, 0, none⟩)
      have HG : Hid (GetR F nm (.row vs) (vs[n]?.getD 0) true) := ⟨k, HK.out, .inl ⟨n, hn, hlt, rfl, rfl⟩⟩
      clear hb1 hqb hqv hqn hvo hgb
      generalize vs[n]?.getD 0 = x at *
      go_wp2_with fail
      refine CH.mono ?_
      rintro e w3 ⟨rfl, rfl⟩
      clear CH
      go_wp2_with fail
      refine CV.mono ?_
      rintro e w4 ⟨rfl, rfl⟩
      clear CV
      go_wp2
      exact bodyPost_ret (v := .tuple #[.int .i64 x, .bool true]) (by simp [results, Tryz.results17, go_sem]) rfl ⟨x, true, k, _, jj, rfl, HG.out, HK.out, HR.out, HM1.out, HX1.out⟩
    · have HG : Hid (GetR F nm (.row vs) 0 false) := ⟨k, HK.out, .inr ⟨hno, rfl, rfl⟩⟩
      clear hb1 hqb hqv hqn hvo hno
      go_wp2_with fail
      refine CH.mono ?_
      rintro e w3 ⟨rfl, rfl⟩
      clear CH
      go_wp2
      exact bodyPost_ret (v := .tuple #[.int .i64 0, .bool false]) (by simp [results, Tryz.results17, go_sem]) rfl ⟨0, false, k, _, jj, rfl, HG.out, HK.out, HR.out, HM1.out, HX1.out⟩
  | own t =>
    have x1 : w1.cell? ⟨s, 1, none⟩ = some (.iface 177 (.pointer (some ⟨q, 0, none⟩))) := hb1.c 1 (by omega)
    have mh := mO_has (some ⟨q, 0, none⟩)
    obtain ⟨g, gi, r, h', ev, hqb, hqd, hqn, rfl⟩ := hq1
    clear hM1 hx1
    rcases hR with ⟨n, rfl, hn, _⟩ | ⟨rfl, hn, _⟩
    · have CH := ownHas_any (w := w1) (q := q) n
      have hn' : Fnd t.es k n := hn
      have CV := ownValue_any (hqb.c 1 (by omega)) hqd hn'.1 hn'.2.1
      have mv := mO_value (some ⟨q, 0, none⟩)
      have HG : Hid (GetR F nm (.own t) (nth t.es n).value true) := ⟨k, HK.out, .inl ⟨n, hn, rfl, rfl⟩⟩
      clear hb1 hqb hqd hqn
      generalize (nth t.es n).value = x at *
      go_wp2_with fail
      refine CH.mono ?_
      rintro e w3 ⟨rfl, rfl⟩
      clear CH
      go_wp2_with fail
      refine CV.mono ?_
      rintro e w4 ⟨rfl, hB4⟩
      clear CV
      go_wp2
      exact bodyPost_ret (v := .tuple #[.int .i64 x, .bool true]) (by simp [results, Tryz.results17, go_sem]) rfl ⟨x, true, k, _, jj, rfl, HG.out, HK.out, HR.out, (HM4.out.mt c d).below HM1.out hB4, HX1.out.trans (ex_of hB4)⟩
    · have CH := ownHas_none (w := w1) (q := q)
      have HG : Hid (GetR F nm (.own t) 0 false) := ⟨k, HK.out, .inr ⟨hn, rfl, rfl⟩⟩
      clear hb1 hqb hqd hqn hn
      go_wp2_with fail
      refine CH.mono ?_
      rintro e w3 ⟨rfl, rfl⟩
      clear CH
      go_wp2
      exact bodyPost_ret (v := .tuple #[.int .i64 0, .bool false]) (by simp [results, Tryz.results17, go_sem]) rfl ⟨0, false, k, _, jj, rfl, HG.out, HK.out, HR.out, HM1.out, HX1.out⟩
/-- A row of texts that can be read. -/
def RdS (w : World) (a : Option Addr) (l : List ByteArray) : Prop := ∃ g off, (0 < l.length → a = some ⟨g, off, none⟩) ∧ ∀ j, j < l.length → w.cell? ⟨g, off + j, none⟩ = some (.string (l[j]?.getD ByteArray.empty))
theorem NsB.rd {B : Nat} {w : World} {v : Value} {l : List ByteArray} (h : NsB B w v l) : ∃ a cap, v = .slice a l.length cap ∧ RdS w a l := by
  rcases h.2 with ⟨h1, h2⟩ | ⟨g, cap, cur, h1, h2⟩
  · refine ⟨none, 0, by rw [h1, h2], 0, 0, fun h => by omega, fun j hj => by omega⟩
  · refine ⟨_, cap, h1, g, 0, fun _ => rfl, fun j hj => ?_⟩
    have h3 : w.ownsRow B 9 1 (.slice (some ⟨g, 0, none⟩) l.length cap) l.length (l.map Value.string) := by rw [← h1]; exact h
    have h4 := World.ownsRow.cellAt h3 j (by omega)
    rw [Nat.zero_add, h4, List.getElem?_map, List.getElem?_eq_getElem hj]
    rfl
theorem RdS.below {w w' : World} {a : Option Addr} {l : List ByteArray} (h : RdS w a l) (hb : Below w.heap.size w w') : RdS w' a l := by
  obtain ⟨g, off, h1, h2⟩ := h
  exact ⟨g, off, h1, fun j hj => (hb.cell (p := ⟨g, off + j, none⟩) (lt_of_cell (h2 j hj))).trans (h2 j hj)⟩
theorem neS (s : ByteArray) (w : World) : (binOp .neq 9 (.string s) (.string s)).run Tryz.prog w = .ok (.bool false) w := by
  simp [binOp, go_sem, Op.stringOp]
set_option maxRecDepth 100000 in
set_option maxHeartbeats 1600000 in
theorem names_eq {w : World} {a1 a2 : Option Addr} {c1 c2 : Nat} {l : List ByteArray} (h1 : RdS w a1 l) (h2 : RdS w a2 l) (hl : l.length ≤ 100000) :
    Calls Tryz.prog 18 #[.slice a1 l.length c1, .slice a2 l.length c2] w fun e w' => e = .returned (.bool true) ∧ Below w.heap.size w w' := by
  obtain ⟨g1, o1, ha1, hc1⟩ := h1
  obtain ⟨g2, o2, ha2, hc2⟩ := h2
  obtain ⟨n, hn⟩ : ∃ n, l.length = n := ⟨_, rfl⟩
  rw [hn] at ha1 ha2 hc1 hc2 hl ⊢
  have HC1 := Lib.hid hc1
  have HC2 := Lib.hid hc2
  have HA1 := Lib.hid ha1
  have HA2 := Lib.hid ha2
  clear hc1 hc2 ha1 ha2 hn
  go_enter Tryz.func18, Tryz.ntmps18
  go_wp2_with fail
  go_loopw [5] (fun iv wr => ∃ i : Nat, i ≤ n ∧ iv = .int .i64 (i : Int) ∧ Below w.heap.size w wr) (fun iv _ => n - (intOf iv).toNat)
  case atStart => exact ⟨0, Nat.zero_le _, rfl, Below.refl _ _⟩
  case round =>
    obtain ⟨i, hi, rfl, hB⟩ := hrel
    by_cases hin : i < n
    · have ti : (i : Int) < (n : Int) := by omega
      have e1 := HA1.out (by omega)
      have e2 := HA2.out (by omega)
      subst e1
      subst e2
      have q1 := HC1.out i hin
      have q2 := HC2.out i hin
      have p1 : wr.drew.cell? ⟨g1, o1 + i, none⟩ = some (.string (l[i]?.getD ByteArray.empty)) := (hB.cell (p := ⟨g1, o1 + i, none⟩) (lt_of_cell q1)).trans q1
      have p2 : wr.drew.cell? ⟨g2, o2 + i, none⟩ = some (.string (l[i]?.getD ByteArray.empty)) := (hB.cell (p := ⟨g2, o2 + i, none⟩) (lt_of_cell q2)).trans q2
      have e5 : IntKind.i64.wrap ((i : Int) + 1) = ((i + 1 : Nat) : Int) := by rw [i64_small (by omega) (by omega)]; omega
      generalize l[i]?.getD ByteArray.empty = x at *
      have hne := neS x
      clear q1 q2
      go_wp2_with fail
      go_region_held3 (fun V => V.cell? ⟨g1, o1 + i, none⟩ = some (.string x) ∧ V.cell? ⟨g2, o2 + i, none⟩ = some (.string x)) (first | with_reducible exact ⟨p1, p2⟩ | fail) (fail)
      go_wp2_with fail
      go_roundw
      case rel => exact ⟨i + 1, by omega, rfl, hB.drew⟩
      case measure => simp [intOf]; omega
    · have ti : ¬ (i : Int) < (n : Int) := by omega
      go_wp2
      go_ret
      exact ⟨rfl, hB⟩
end Go.Proofs.YtpigbnlapcndgaaGreat
