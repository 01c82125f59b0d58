/-
  Del of a namespace that stands on a table of its own; Version, Len.
  Del of a namespace that stands on a row; Del of any namespace.
-/
import Derived.Test.YtpigbnlapcndgaaGreatShSet
import Derived.Test.YtpigbnlapcndgaaGreatShn
namespace Go.Proofs.YtpigbnlapcndgaaGreat
open Go.RowKit Go.WideShapes

theorem mR_take (a : Option Addr) (w : World) : (method 294 59 (.pointer a) "lexicon/shared.take").run Tryz.prog w = .ok (106, .pointer a) w := by kernel_rfl
theorem mO_take (a : Option Addr) (w : World) : (method 294 177 (.pointer a) "lexicon/shared.take").run Tryz.prog w = .ok (112, .pointer a) w := by kernel_rfl
/-- What a Del tells and leaves. -/
def DelQ (w : World) (f : Nat) (F : Fa) (mv : Value) (N : Int → Int → Int → Int → World → Prop) (a b c d : Int) (XF : Nat → Prop) (s : Nat) (st : Stn) (v : Nat) (XS : Nat → Prop) (nm : ByteArray) (er : Int) (w' : World) : Prop :=
  ∃ st' dd, DelR F nm st st' er dd ∧ ∃ k res jj, Num F.all nm k ∧ SkR (tbS F st) (hsT nm) k res jj ∧ ∃ XF' XS', SsR w f mv N XF XS s F st' (if er = 0 then v + 1 else v) (a + (mdS st' : Int) - (mdS st : Int)) (b + (jj : Int)) c (d + (dd : Int)) w' XF' XS'
set_option maxRecDepth 100000 in
set_option maxHeartbeats 4000000 in
theorem del_own {w : World} {f : Nat} {F : Fa} {pm : Option Addr} {XF : Nat → Prop} {s : Nat} {t : Tb} {v : Nat} {XS : Nat → Prop} {N : Int → Int → Int → Int → World → Prop} {a b c d : Int} {c0 : Nat} (h : Fs w f F (.pointer pm) XF s (.own t) v XS) (hM4 : M4 (.pointer pm) N) (hM : N a b c d w) (hb : 0 ≤ b ∧ b ≤ 10000000000) (hO : F.Ok hsT c0) (hst : Stn.Ok hsT F c0 (.own t)) (hv : v ≤ 1000000000) (htu : t.turn ≤ 1000000) (hto : t.Ok) {nm : ByteArray} (hs : nm.size ≤ 3000) :
    Calls Tryz.prog 12 #[.pointer (some ⟨s, 0, none⟩), .string nm] w fun e w' => ∃ er : Int, e = .returned (.int .i64 er) ∧ DelQ w f F (.pointer pm) N a b c d XF s (.own t) v XS nm er w' := by
  obtain ⟨k, hk⟩ := num_ex F.all nm
  have CS := sseek_any h hM4 hM hb hO hst hs hk
  have hF0 := h
  obtain ⟨q, XQ, h1, h2, h3, h4⟩ := h.sm
  subst h4
  have CN := isNothing_no (h1.c 1 (by omega))
  have ls := h1.lt (by omega)
  have HF0 := Lib.hid hF0
  have HM4 := Lib.hid hM4
  have HK := Lib.hid hk
  have HQ := Lib.hid h2
  have HB := Lib.hid h1
  have HNQ := Lib.hid h3
  have e1 : IntKind.u64.wrap ((v : Int) + 1) = (v : Int) + 1 := by rw [IntKind.wrap_u64]; omega
  clear h hM4 hM hO hst hk h1 h2 h3 hF0
  go_enter Tryz.func12, Tryz.ntmps12
  go_wp2_with fail
  refine CN.mono ?_
  rintro e w0 ⟨rfl, rfl⟩
  clear CN
  go_wp2_with fail
  refine CS.mono ?_
  rintro e w1 ⟨res, jj, rfl, hR, hM1, hx1⟩
  clear CS
  have hF1 := HF0.out.met hx1
  have hb1 := HB.out.same (w' := w1) (hx1.met ls (fun y => HF0.out.mq s y (.inl rfl)))
  have hq1 := HQ.out.same (w' := w1) fun j hj => hx1.met (HQ.out.lt j hj) (fun y => HF0.out.mq j y (.inr hj))
  have x1 : w1.cell? ⟨s, 1, none⟩ = some (.iface 177 (.pointer (some ⟨q, 0, none⟩))) := hb1.c 1 (by omega)
  have mh := mO_has (some ⟨q, 0, none⟩)
  obtain ⟨g, gi, r, h', ev, hqb, hqd, hqn, rfl⟩ := hq1
  have HR := Lib.hid hR
  have hCH : (∃ n : Nat, res = (n : Int) ∧ Fnd t.es k n) ∨ (res = -1 ∧ ∀ n, ¬ Fnd t.es k n) := by
    rcases hR with ⟨n, rfl, hn, _⟩ | ⟨rfl, hn, _⟩
    · exact .inl ⟨n, rfl, hn⟩
    · exact .inr ⟨rfl, hn⟩
  clear hR
  rcases hCH with ⟨n, rfl, hn⟩ | ⟨rfl, hres⟩
  · have CH := ownHas_any (w := w1) (q := q) n
    have mt := mO_take (some ⟨q, 0, none⟩)
    have CT := (ownTake_any (hqb.c 1 (by omega)) hqd hto hn.1 hn.2.1 htu).mono (R' := fun e w3 => e = .returned (.iface 177 (.pointer (some ⟨q, 0, none⟩))) ∧ (w3.cell? ⟨s, 1, none⟩ = some (.iface 177 (.pointer (some ⟨q, 0, none⟩))) ∧ w3.frozen? ⟨s, 1, none⟩ = false) ∧ ∀ w4, w3.setCell ⟨s, 1, none⟩ (.iface 177 (.pointer (some ⟨q, 0, none⟩))) = w4 → (w4.cell? ⟨s, 2, none⟩ = some (.int .u64 (v : Int)) ∧ w4.frozen? ⟨s, 2, none⟩ = false) ∧ Hid (SsR w0 f (.pointer pm) N XF (fun k => k = s ∨ k = q ∨ dX g gi r h' ev k) s F (.own (t.kill n)) (v + 1) a (b + (jj : Int)) c d (w4.setCell ⟨s, 2, none⟩ (.int .u64 ((v : Int) + 1))) XF (fun k => k = s ∨ k = q ∨ dX g gi r h' ev k))) (fun e w3 ⟨h1, h2, h3⟩ => by
      have nf : ∀ k, XF k → ¬ (k = q ∨ dX g gi r h' ev k) := fun k hk y => hF1.ap k hk (.inr y)
      have nm' : ∀ k, mB (.pointer pm) k → ¬ (k = q ∨ dX g gi r h' ev k) := fun k hk y => hF1.mq k hk (.inr y)
      have R : SdR w1 f (.pointer pm) N XF (fun k => k = q ∨ dX g gi r h' ev k) F (.own (t.kill n)) q a (b + (jj : Int)) c d w3 XF (fun k => k = q ∨ dX g gi r h' ev k) :=
        ⟨hF1.fm.same fun k hk => h3.block k (hF1.fm.lt k hk) (fun y => nf k hk (.inr y)), ⟨g, gi, r, h', ev, hqb.same (h3.block q (hqb.lt (by omega)) hqn), h2, hqn, rfl⟩, nf, nm', (HM4.out.mt c d).same a _ w1 w3 hM1 fun k hk => h3.block k ((HM4.out.mt c d).lt a _ w1 k hM1 hk) (fun y => nm' k hk (.inr y)), fun k hk => .inl hk, fun k hk => .inl hk, h3.mono fun k _ hk => .inr (.inl (.inr hk))⟩
      obtain ⟨y1, y2⟩ := ss_store HM4.out R hx1 hb1 ls (fun y => hF1.ap s y (.inl rfl)) HNQ.out (fun y => hF1.mq s y (.inl rfl))
      refine ⟨h1, y1, fun w4 hw4 => ?_⟩
      obtain ⟨y3, y4⟩ := y2 w4 hw4
      exact ⟨y3, y4⟩)
    clear hF1 hb1 hqb hqd hqn hM1
    go_wp2_with fail
    refine CH.mono ?_
    rintro e w3 ⟨rfl, rfl⟩
    clear CH
    go_wp2_with fail
    refine CT.mono ?_
    rintro e w4 ⟨rfl, ⟨k1, z1⟩, hw5⟩
    clear CT
    obtain ⟨w5, hw5e⟩ : ∃ y, w4.setCell ⟨s, 1, none⟩ (.iface 177 (.pointer (some ⟨q, 0, none⟩))) = y := ⟨_, rfl⟩
    obtain ⟨⟨k2, z2⟩, HS⟩ := hw5 w5 hw5e
    have HW5 := Lib.hid hw5e
    clear hw5 hw5e
    go_upto_region 7 with fail
    rw [HW5.out]
    go_wp2
    go_ret
    refine ⟨0, rfl, .own (t.kill n), 0, .kill HK.out hn, k, (n : Int), jj, HK.out, HR.out, XF, fun k => k = s ∨ k = q ∨ dX g gi r h' ev k, ?_⟩
    have hS := HS.out
    rw [if_pos rfl, show a + (mdS (.own (t.kill n)) : Int) - (mdS (.own t) : Int) = a by show a + ((t.kill n).made : Int) - (t.made : Int) = a; show a + (t.made : Int) - (t.made : Int) = a; omega, show d + ((0 : Nat) : Int) = d by omega]
    exact hS
  · have CH := ownHas_none (w := w1) (q := q)
    have HF1 := Lib.hid hF1
    have HM1 := Lib.hid hM1
    clear hF1 hb1 hqb hqd hqn hM1
    go_wp2_with fail
    refine CH.mono ?_
    rintro e w3 ⟨rfl, rfl⟩
    clear CH
    go_wp2
    go_ret
    refine ⟨7, rfl, .own t, 0, .noneO HK.out hres, k, -1, jj, HK.out, HR.out, XF, fun k => k = s ∨ k = q ∨ dX g gi r h' ev k, ?_⟩
    rw [if_neg (by decide), show a + (mdS (.own t) : Int) - (mdS (.own t) : Int) = a by omega, show d + ((0 : Nat) : Int) = d by omega]
    exact ss_same HF1.out HM1.out hx1
set_option maxRecDepth 100000 in
/-- A row gives way to a table of one's own, and a name is taken out. -/
theorem rowTake_any {w : World} {q f : Nat} {F : Fa} {pm : Option Addr} {XF XQ : Nat → Prop} {vs : List Int} {N : Int → Int → Int → Int → World → Prop} {a b c d : Int} {c0 : Nat} (hF : FamX w f F (.pointer pm) XF) (hS : Sq w q f (.pointer pm) XQ (.row vs)) (mq : ∀ k, mB (.pointer pm) k → ¬ XQ k) (hM4 : M4 (.pointer pm) N) (hM : N a b c d w) (ha : 0 ≤ a ∧ a ≤ 10000000) (hd : 0 ≤ d ∧ d ≤ 100000000) (hO : F.Ok hsT c0) (hl : vs.length ≤ F.kt.es.length) {n : Nat} (hn : n < (turnN F.kt.es vs vs.length).es.length) (hlv : (nth (turnN F.kt.es vs vs.length).es n).live = true) :
    Calls Tryz.prog 106 #[.pointer (some ⟨q, 0, none⟩), .int .i64 (n : Int)] w fun e w' => ∃ q', e = .returned (.iface 177 (.pointer (some ⟨q', 0, none⟩))) ∧ ∃ XF' XQ', SdR w f (.pointer pm) N XF XQ F (.own ((turnN F.kt.es vs vs.length).kill n)) q' (a + ((turnN F.kt.es vs vs.length).made : Int)) b c (d + 1) w' XF' XQ' := by
  have hFX := hF
  obtain ⟨g, gi, r, h, ev, mb, nv, hFa, rfl⟩ := hF
  obtain ⟨vv, hq, hv, hnq, rfl⟩ := hS
  have hle : vs.length ≤ 256 := by have := hO.len; have := hO.room; omega
  obtain ⟨t1, t2, t3, t4, _⟩ := turnN_is F.kt.es vs vs.length (by omega)
  have CT := turned_any hFa hM4 hM ⟨ha.1, by omega⟩ hd hq hv (fun y => mq q y (.inl rfl)) (fun k' hk' y => mq k' y (.inr hk')) hl hle hO.dead
  have HTK : Hid (∀ W1 q', w.heap.size ≤ q' → OwnN w W1 f q' (.pointer pm) N (a + ((turnN F.kt.es vs vs.length).made : Int)) b c (d + 1) (turnN F.kt.es vs vs.length) → Calls Tryz.prog 112 #[.pointer (some ⟨q', 0, none⟩), .int .i64 (n : Int)] W1 fun e w' => e = .returned (.iface 177 (.pointer (some ⟨q', 0, none⟩))) ∧ ∃ XF' XQ', SdR w f (.pointer pm) N (fX f g gi r h ev mb nv) (fun k => k = q ∨ vv.ownBlock = some k) F (.own ((turnN F.kt.es vs vs.length).kill n)) q' (a + ((turnN F.kt.es vs vs.length).made : Int)) b c (d + 1) w' XF' XQ') := by
    intro W1 q' h2 h3
    obtain ⟨XQ1, hS1, hX1, hN1, hxw⟩ := h3.sq h2
    have hF1 := hFX.same (w' := W1) fun k' hk' => hxw.met (hFX.lt k' hk') (fun y => hFX.nm k' y hk')
    obtain ⟨g2, gi2, r2, hh2, ev2, hqb, hqd, hqn, rfl⟩ := hS1
    refine (ownTake_any (hqb.c 1 (by omega)) hqd t1 hn hlv (by omega)).mono ?_
    rintro e w' ⟨h4, h5, h6⟩
    have nf : ∀ k, fX f g gi r h ev mb nv k → ¬ (k = q' ∨ dX g2 gi2 r2 hh2 ev2 k) := fun k hk y => by have := hX1 k y; have := hFX.lt k hk; omega
    have nm' : ∀ k, mB (.pointer pm) k → ¬ (k = q' ∨ dX g2 gi2 r2 hh2 ev2 k) := fun k hk y => by have := hX1 k y; have := (hM4.mt c d).lt a b w k hM hk; omega
    have R : SdR W1 f (.pointer pm) N (fX f g gi r h ev mb nv) (fun k => k = q' ∨ dX g2 gi2 r2 hh2 ev2 k) F (.own ((turnN F.kt.es vs vs.length).kill n)) q' (a + ((turnN F.kt.es vs vs.length).made : Int)) b c (d + 1) w' (fX f g gi r h ev mb nv) (fun k => k = q' ∨ dX g2 gi2 r2 hh2 ev2 k) :=
      ⟨hF1.same fun k hk => h6.block k (hF1.lt k hk) (fun y => nf k hk (.inr y)), ⟨g2, gi2, r2, hh2, ev2, hqb.same (h6.block q' (hqb.lt (by omega)) hqn), h5, hqn, rfl⟩, nf, nm', (hM4.mt c (d + 1)).same _ _ W1 w' hN1 fun k hk => h6.block k ((hM4.mt c (d + 1)).lt _ _ W1 k hN1 hk) (fun y => nm' k hk (.inr y)), fun k hk => .inl hk, fun k hk => .inl hk, h6.mono fun k _ hk => .inr (.inl (.inr hk))⟩
    exact ⟨h4, _, _, R.ahead hxw (fun k' hk' => hX1 k' hk')⟩
  clear hFX hFa hq hv hnq mq hM4 hM hO t1 t2 t3 t4
  go_enter Tryz.func106, Tryz.ntmps106
  go_wp2_with fail
  refine CT.mono ?_
  rintro e w1 ⟨q', rfl, h2, h3⟩
  clear CT
  have CK := HTK.out w1 q' h2 h3
  clear HTK h3
  go_wp2_with fail
  refine CK.mono ?_
  rintro e w2 ⟨rfl, XF', XQ', R⟩
  clear CK
  go_wp2
  go_ret
  exact ⟨q', rfl, XF', XQ', R⟩
end Go.Proofs.YtpigbnlapcndgaaGreat
namespace Go.Proofs.YtpigbnlapcndgaaGreat
open Go.RowKit Go.WideShapes

theorem turnN_all (es : List En) (vs : List Int) : ∀ i, (turnN es vs i).es.length = i ∧ deadN (turnN es vs i).es = 0 := by
  intro i
  induction i with
  | zero => exact ⟨rfl, rfl⟩
  | succ i ih =>
    obtain ⟨h1, h2⟩ := ih
    have e : (turnN es vs (i + 1)).es = _ := add_live h2 (nth es i).hash (nth es i).key (vs[i]?.getD 0)
    rw [e]
    refine ⟨?_, dead_app h2 _ rfl⟩
    rw [List.length_append, h1]
    rfl
theorem turnN_at (es : List En) (vs : List Int) {i n : Nat} (h : n < i) : n < (turnN es vs i).es.length ∧ (nth (turnN es vs i).es n).live = true := by
  obtain ⟨h1, h2⟩ := turnN_all es vs i
  have h3 : n < (turnN es vs i).es.length := by omega
  exact ⟨h3, dead_live h2 h3⟩
set_option maxRecDepth 100000 in
set_option maxHeartbeats 4000000 in
theorem del_row {w : World} {f : Nat} {F : Fa} {pm : Option Addr} {XF : Nat → Prop} {s : Nat} {vs : List Int} {v : Nat} {XS : Nat → Prop} {N : Int → Int → Int → Int → World → Prop} {a b c d : Int} {c0 : Nat} (h : Fs w f F (.pointer pm) XF s (.row vs) v XS) (hM4 : M4 (.pointer pm) N) (hM : N a b c d w) (ha : 0 ≤ a ∧ a ≤ 10000000) (hb : 0 ≤ b ∧ b ≤ 10000000000) (hd : 0 ≤ d ∧ d ≤ 100000000) (hO : F.Ok hsT c0) (hst : Stn.Ok hsT F c0 (.row vs)) (hv : v ≤ 1000000000) {nm : ByteArray} (hs : nm.size ≤ 3000) :
    Calls Tryz.prog 12 #[.pointer (some ⟨s, 0, none⟩), .string nm] w fun e w' => ∃ er : Int, e = .returned (.int .i64 er) ∧ DelQ w f F (.pointer pm) N a b c d XF s (.row vs) v XS nm er w' := by
  obtain ⟨k, hk⟩ := num_ex F.all nm
  have CS := sseek_any h hM4 hM hb hO hst hs hk
  have hF0 := h
  obtain ⟨q, XQ, h1, h2, h3, h4⟩ := h.sm
  subst h4
  have CN := isNothing_no (h1.c 1 (by omega))
  have ls := h1.lt (by omega)
  have HF0 := Lib.hid hF0
  have HM4 := Lib.hid hM4
  have HO := Lib.hid hO
  have HST := Lib.hid hst
  have HK := Lib.hid hk
  have HQ := Lib.hid h2
  have HB := Lib.hid h1
  have HNQ := Lib.hid h3
  have e1 : IntKind.u64.wrap ((v : Int) + 1) = (v : Int) + 1 := by rw [IntKind.wrap_u64]; omega
  clear h hM4 hM hO hst hk h1 h2 h3 hF0
  go_enter Tryz.func12, Tryz.ntmps12
  go_wp2_with fail
  refine CN.mono ?_
  rintro e w0 ⟨rfl, rfl⟩
  clear CN
  go_wp2_with fail
  refine CS.mono ?_
  rintro e w1 ⟨res, jj, rfl, hR, hM1, hx1⟩
  clear CS
  have hF1 := HF0.out.met hx1
  have hb1 := HB.out.same (w' := w1) (hx1.met ls (fun y => HF0.out.mq s y (.inl rfl)))
  have hq1 := HQ.out.same (w' := w1) fun j hj => hx1.met (HQ.out.lt j hj) (fun y => HF0.out.mq j y (.inr hj))
  have hq1' := hq1
  have x1 : w1.cell? ⟨s, 1, none⟩ = some (.iface 59 (.pointer (some ⟨q, 0, none⟩))) := hb1.c 1 (by omega)
  have mh := mR_has (some ⟨q, 0, none⟩)
  obtain ⟨vv, hqb, hqv, hqn, rfl⟩ := hq1
  obtain ⟨av, cap, gv, rfl, hcap, hvo⟩ := hqv.open
  have hvl : vs.length ≤ F.kt.es.length := HST.out
  have hCH : (∃ n : Nat, res = (n : Int) ∧ Fnd F.kt.es k n ∧ n < vs.length ∧ Calls Tryz.prog 100 #[.pointer (some ⟨q, 0, none⟩), .int .i64 res] w1 fun e w' => e = .returned (.bool true) ∧ w' = w1) ∨ ((∀ n, Fnd F.kt.es k n → vs.length ≤ n) ∧ Calls Tryz.prog 100 #[.pointer (some ⟨q, 0, none⟩), .int .i64 res] w1 fun e w' => e = .returned (.bool false) ∧ w' = w1) := by
    rcases hR with ⟨n, rfl, hn, _⟩ | ⟨rfl, hn, _⟩
    · rcases Nat.lt_or_ge n vs.length with c1 | c1
      · refine .inl ⟨n, rfl, hn, c1, ?_⟩
        have := rowHas_any (hqb.c 1 (by omega)) n
        rw [decide_eq_true c1] at this
        exact this
      · refine .inr ⟨fun n' hn' => ?_, ?_⟩
        · rw [Nl.one (hs := hsT) (all := F.all) (by rw [live_all HO.out.dead]; exact HO.out.nl) hn' hn]
          exact c1
        · have := rowHas_any (hqb.c 1 (by omega)) n
          rw [decide_eq_false (by omega)] at this
          exact this
    · exact .inr ⟨fun n hn' => absurd hn' (hn n), rowHas_none⟩
  have HR := Lib.hid hR
  clear hR
  rcases hCH with ⟨n, rfl, hn, hnl, CH⟩ | ⟨hres, CH⟩
  · have mt := mR_take (some ⟨q, 0, none⟩)
    obtain ⟨hl1, hl2⟩ := turnN_at F.kt.es vs hnl
    have CT := (rowTake_any hF1.fm hq1' (fun k hk y => hF1.mq k hk (.inr y)) HM4.out hM1 ha hd HO.out hvl hl1 hl2).mono (R' := fun e w3 => ∃ q', e = .returned (.iface 177 (.pointer (some ⟨q', 0, none⟩))) ∧ (w3.cell? ⟨s, 1, none⟩ = some (.iface 59 (.pointer (some ⟨q, 0, none⟩))) ∧ w3.frozen? ⟨s, 1, none⟩ = false) ∧ ∀ w4, w3.setCell ⟨s, 1, none⟩ (.iface 177 (.pointer (some ⟨q', 0, none⟩))) = w4 → (w4.cell? ⟨s, 2, none⟩ = some (.int .u64 (v : Int)) ∧ w4.frozen? ⟨s, 2, none⟩ = false) ∧ Hid (∃ XF' XS', SsR w0 f (.pointer pm) N XF (fun k => k = s ∨ k = q ∨ (Value.slice av vs.length cap).ownBlock = some k) s F (.own ((turnN F.kt.es vs vs.length).kill n)) (v + 1) (a + ((turnN F.kt.es vs vs.length).made : Int)) (b + (jj : Int)) c (d + 1) (w4.setCell ⟨s, 2, none⟩ (.int .u64 ((v : Int) + 1))) XF' XS')) (fun e w3 ⟨q', h1, XF', XQ', R⟩ => by
      obtain ⟨y1, y2⟩ := ss_store HM4.out R hx1 hb1 ls (fun y => hF1.ap s y (.inl rfl)) HNQ.out (fun y => hF1.mq s y (.inl rfl))
      refine ⟨q', h1, y1, fun w4 hw4 => ?_⟩
      obtain ⟨y3, y4⟩ := y2 w4 hw4
      exact ⟨y3, _, _, y4⟩)
    clear hF1 hb1 hqb hqv hqn hM1 hq1' hvo hcap hx1 hl1 hl2
    go_wp2_with fail
    refine CH.mono ?_
    rintro e w3 ⟨rfl, rfl⟩
    clear CH
    go_wp2_with fail
    refine CT.mono ?_
    rintro e w4 ⟨q', rfl, ⟨k1, z1⟩, hw5⟩
    clear CT
    obtain ⟨w5, hw5e⟩ : ∃ y, w4.setCell ⟨s, 1, none⟩ (.iface 177 (.pointer (some ⟨q', 0, none⟩))) = y := ⟨_, rfl⟩
    obtain ⟨⟨k2, z2⟩, HS⟩ := hw5 w5 hw5e
    have HW5 := Lib.hid hw5e
    clear hw5 hw5e
    go_upto_region 7 with fail
    rw [HW5.out]
    go_wp2
    go_ret
    obtain ⟨XF', XS', hS⟩ := HS.out
    refine ⟨0, rfl, .own ((turnN F.kt.es vs vs.length).kill n), 1, .turn HK.out hn hnl, k, (n : Int), jj, HK.out, HR.out, XF', XS', ?_⟩
    rw [if_pos rfl, show a + (mdS (.own ((turnN F.kt.es vs vs.length).kill n)) : Int) - (mdS (.row vs) : Int) = a + ((turnN F.kt.es vs vs.length).made : Int) by show a + ((turnN F.kt.es vs vs.length).made : Int) - ((0 : Nat) : Int) = _; omega, show d + ((1 : Nat) : Int) = d + 1 by omega]
    exact hS
  · have HF1 := Lib.hid hF1
    have HM1 := Lib.hid hM1
    clear hF1 hb1 hqb hqv hqn hM1 hq1' hvo hcap
    go_wp2_with fail
    refine CH.mono ?_
    rintro e w3 ⟨rfl, rfl⟩
    clear CH
    go_wp2
    go_ret
    refine ⟨7, rfl, .row vs, 0, .noneR HK.out hres, k, res, jj, HK.out, HR.out, XF, fun k => k = s ∨ k = q ∨ (Value.slice av vs.length cap).ownBlock = some k, ?_⟩
    rw [if_neg (by decide), show a + (mdS (.row vs) : Int) - (mdS (.row vs) : Int) = a by omega, show d + ((0 : Nat) : Int) = d by omega]
    exact ss_same HF1.out HM1.out hx1
end Go.Proofs.YtpigbnlapcndgaaGreat
