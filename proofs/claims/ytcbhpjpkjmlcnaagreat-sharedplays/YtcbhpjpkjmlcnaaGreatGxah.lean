/-
  A namespace's Set.
  What a Set and a Del keep. No program.
-/
import Derived.Test.YtcbhpjpkjmlcnaaGreatGxag
import Derived.Laws.OwnMore
import Derived.Test.YtcbhpjpkjmlcnaaGreatGxae
namespace Go.Proofs.YtcbhpjpkjmlcnaaGreat
open Go.RowKit Go.WideShapes

theorem Fs.met {w w' : World} {f : Nat} {F : Fa} {mv : Value} {XF : Nat → Prop} {s : Nat} {st : Stn} {v : Nat} {XS : Nat → Prop} (h : Fs w f F mv XF s st v XS) (e : Ex (mB mv) w w') : Fs w' f F mv XF s st v XS :=
  ⟨h.fm.same fun k hk => e.met (h.fm.lt k hk) (fun y => h.fm.nm k y hk), h.sm.same fun k hk => e.met (h.sm.lt k hk) (fun y => h.mq k y hk), h.ap, h.mq⟩
theorem Fs.below {w w' : World} {f : Nat} {F : Fa} {mv : Value} {XF : Nat → Prop} {s : Nat} {st : Stn} {v : Nat} {XS : Nat → Prop} (h : Fs w f F mv XF s st v XS) (e : Below w.heap.size w w') : Fs w' f F mv XF s st v XS := h.met (ex_of e)
theorem spF_put1 (f : Nat) (T T' : TypeId) (q q' v : Nat) : ∀ j, j < 3 → spF f T' q' v j = if j = 1 then .iface T' (.pointer (some ⟨q', 0, none⟩)) else spF f T q v j := by
  intro j hj
  have : j = 0 ∨ j = 1 ∨ j = 2 := by omega
  rcases this with rfl | rfl | rfl <;> rfl
theorem spF_put2 (f : Nat) (T : TypeId) (q v : Nat) : ∀ j, j < 3 → spF f T q (v + 1) j = if j = 2 then .int .u64 ((v : Int) + 1) else spF f T q v j := by
  intro j hj
  have : j = 0 ∨ j = 1 ∨ j = 2 := by omega
  rcases this with rfl | rfl | rfl <;> rfl
/-- The new stand, and then the version. -/
theorem ss_store {w w2 w3 : World} {f : Nat} {mv : Value} {N : Int → Int → Int → Int → World → Prop} {XF XQ : Nat → Prop} {s q q' v : Nat} {T : TypeId} {F' : Fa} {st' : Stn} {a' b' c' d' : Int} {XF' XQ' : Nat → Prop} (hM4 : M4 mv N) (R : SdR w2 f mv N XF XQ F' st' q' a' b' c' d' w3 XF' XQ') (hx : Ex (mB mv) w w2) (hb : Blk w2 s 3 (spF f T q v)) (hsw : s < w.heap.size) (nf : ¬ XF s) (nq : ¬ XQ s) (nm : ¬ mB mv s) :
    (w3.cell? ⟨s, 1, none⟩ = some (.iface T (.pointer (some ⟨q, 0, none⟩))) ∧ w3.frozen? ⟨s, 1, none⟩ = false) ∧ ∀ w4, w3.setCell ⟨s, 1, none⟩ (.iface (tyS st') (.pointer (some ⟨q', 0, none⟩))) = w4 → (w4.cell? ⟨s, 2, none⟩ = some (.int .u64 (v : Int)) ∧ w4.frozen? ⟨s, 2, none⟩ = false) ∧
      SsR w f mv N XF (fun k => k = s ∨ XQ k) s F' st' (v + 1) a' b' c' d' (w4.setCell ⟨s, 2, none⟩ (.int .u64 ((v : Int) + 1))) XF' (fun k => k = s ∨ XQ' k) := by
  have hs2 := hx.size
  have hb3 := hb.same (w' := w3) (R.ex.block s (by omega) (fun y => y.elim nf (fun y => y.elim nq nm)))
  have nf' : ¬ XF' s := fun y => (R.hf s y).elim nf (fun z => by omega)
  have nq' : ¬ XQ' s := fun y => (R.hq s y).elim nq (fun z => by omega)
  refine ⟨⟨hb3.c 1 (by omega), hb3.z 1⟩, fun w4 hw4 => ?_⟩
  have hb4 : Blk w4 s 3 (spF f (tyS st') q' v) := by rw [← hw4]; exact (hb3.put 1 _).congr (spF_put1 f T (tyS st') q q' v)
  have o4 : ∀ k, k ≠ s → w4.heap[k]? = w3.heap[k]? := fun k hk => by rw [← hw4]; exact Below.heap_setCell _ _ _ _ hk
  have o5 : ∀ k, k ≠ s → (w4.setCell ⟨s, 2, none⟩ (.int .u64 ((v : Int) + 1))).heap[k]? = w3.heap[k]? := fun k hk => (Below.heap_setCell _ _ _ _ hk).trans (o4 k hk)
  have x4 : Ex (fun k => k = s) w3 (w4.setCell ⟨s, 2, none⟩ (.int .u64 ((v : Int) + 1))) := by
    rw [← hw4]
    exact ((Ex.refl (fun k => k = s) w3).setCell (p := ⟨s, 1, none⟩) (fun _ => rfl) _).setCell (p := ⟨s, 2, none⟩) (fun _ => rfl) _
  refine ⟨⟨hb4.c 2 (by omega), hb4.z 2⟩, ⟨⟨R.fm.same fun k hk => o5 k (fun e => nf' (e ▸ hk)), ⟨q', XQ', (hb4.put 2 _).congr (spF_put2 f (tyS st') q' v), R.sq.same fun k hk => o5 k (fun e => nq' (e ▸ hk)), nq', rfl⟩, ?_, ?_⟩, ?_, ?_, ?_, ?_⟩⟩
  · rintro k hk (y | y)
    · exact nf' (y ▸ hk)
    · exact R.ap k hk y
  · rintro k hk (y | y)
    · exact nm (y ▸ hk)
    · exact R.mq k hk y
  · exact (hM4.mt c' d').same a' b' w3 _ R.n fun k hk => o5 k (fun e => nm (e ▸ hk))
  · intro k hk
    rcases R.hf k hk with y | y
    · exact .inl y
    · exact .inr (by omega)
  · rintro k (hk | hk)
    · exact .inl (.inl hk)
    · rcases R.hq k hk with y | y
      · exact .inl (.inr y)
      · exact .inr (by omega)
  · refine ((hx.mono fun k _ hk => .inr (.inr hk)).next R.ex fun k _ hk => ?_).next x4 fun k _ hk => .inr (.inl (.inl hk))
    rcases hk with y | y | y
    · exact .inl y
    · exact .inr (.inl (.inr y))
    · exact .inr (.inr y)
/-- The version alone, behind a put. -/
theorem ss_put {w w2 w3 : World} {f : Nat} {mv : Value} {N : Int → Int → Int → Int → World → Prop} {XF XQ : Nat → Prop} {s q v : Nat} {F : Fa} {st st' : Stn} {a b c d : Int} (hM4 : M4 mv N) (hf : FamX w2 f F mv XF) (hb : Blk w2 s 3 (spF f (tyS st) q v)) (hty : tyS st' = tyS st) (hq : Sq w3 q f mv XQ st') (hn : N a b c d w2) (hx : Ex (mB mv) w w2) (hx3 : Ex XQ w2 w3) (ap : ∀ k, XF k → ¬ (k = s ∨ XQ k)) (mq : ∀ k, mB mv k → ¬ (k = s ∨ XQ k)) (nq : ¬ XQ s) :
    (w3.cell? ⟨s, 2, none⟩ = some (.int .u64 (v : Int)) ∧ w3.frozen? ⟨s, 2, none⟩ = false) ∧ SsR w f mv N XF (fun k => k = s ∨ XQ k) s F st' (v + 1) a b c d (w3.setCell ⟨s, 2, none⟩ (.int .u64 ((v : Int) + 1))) XF (fun k => k = s ∨ XQ k) := by
  have ls := hb.lt (by omega)
  have hb3 := hb.same (hx3.block s ls nq)
  have nf : ¬ XF s := fun y => ap s y (.inl rfl)
  have o5 : ∀ k, k ≠ s → (w3.setCell ⟨s, 2, none⟩ (.int .u64 ((v : Int) + 1))).heap[k]? = w3.heap[k]? := fun k hk => Below.heap_setCell _ _ _ _ hk
  have hf3 := hf.same (w' := w3) fun k hk => hx3.block k (hf.lt k hk) (fun y => ap k hk (.inr y))
  have hn3 : N a b c d w3 := (hM4.mt c d).same a b w2 w3 hn fun k hk => hx3.block k ((hM4.mt c d).lt a b w2 k hn hk) (fun y => mq k hk (.inr y))
  refine ⟨⟨hb3.c 2 (by omega), hb3.z 2⟩, ⟨⟨hf3.same fun k hk => o5 k (fun e => nf (e ▸ hk)), ⟨q, XQ, ?_, hq.same fun k hk => o5 k (fun e => nq (e ▸ hk)), nq, rfl⟩, ap, mq⟩, ?_, fun k hk => .inl hk, fun k hk => .inl hk, ?_⟩⟩
  · rw [hty]
    exact (hb3.put 2 _).congr (spF_put2 f (tyS st) q v)
  · exact (hM4.mt c d).same a b w3 _ hn3 fun k hk => o5 k (fun e => mq k hk (.inl e))
  · exact ((hx.mono fun k _ hk => .inr (.inr hk)).next (hx3.mono fun k _ hk => .inr (.inl (.inr hk))) fun k _ hk => hk).setCell (p := ⟨s, 2, none⟩) (fun _ => .inr (.inl (.inl rfl))) _
theorem IntsR.put {w : World} {g cap : Nat} {vs : List Int} (h : IntsR 0 w (.slice (some ⟨g, 0, none⟩) vs.length cap) vs) (n : Nat) (x : Int) : IntsR 0 (w.setCell ⟨g, n, none⟩ (.int .i64 x)) (.slice (some ⟨g, 0, none⟩) vs.length cap) (vs.set n x) := by
  have := (World.ownsRow.stored h n (.int .i64 x)).1
  unfold IntsR
  rw [List.length_set, List.map_set]
  exact this
/-- What a Set tells and leaves. -/
def SetQ (w : World) (f : Nat) (F : Fa) (mv : Value) (N : Int → Int → Int → Int → World → Prop) (a b c d : Int) (XF : Nat → Prop) (s : Nat) (st : Stn) (v : Nat) (XS : Nat → Prop) (nm : ByteArray) (x : Int) (er : Int) (w' : World) : Prop :=
  ∃ F' st' dc dd, SetR hsT F nm x st F' st' er dc dd ∧ ∃ k res jj, Num F.all nm k ∧ SkR (tbS F st) (hsT nm) k res jj ∧ ∃ XF' XS', SsR w f mv N XF XS s F' st' (if er = 0 then v + 1 else v) (a + (F'.kt.made : Int) - (F.kt.made : Int) + (mdS st' : Int) - (mdS st : Int)) (b + (jj : Int)) (c + (dc : Int)) (d + (dd : Int)) w' XF' XS'
theorem setQ_of {w : World} {f : Nat} {F : Fa} {mv : Value} {N : Int → Int → Int → Int → World → Prop} {a b c d : Int} {XF : Nat → Prop} {s : Nat} {st : Stn} {v : Nat} {XS : Nat → Prop} {nm : ByteArray} {x : Int} {er : Int} {w' : World} {F' : Fa} {st' : Stn} {dc dd : Nat} {k res : Int} {jj v' : Nat} {a' c' d' : Int} {XF' XS' : Nat → Prop} (hset : SetR hsT F nm x st F' st' er dc dd) (hk : Num F.all nm k) (hsk : SkR (tbS F st) (hsT nm) k res jj)
    (R : SsR w f mv N XF XS s F' st' v' a' (b + (jj : Int)) c' d' w' XF' XS') (hv : v' = if er = 0 then v + 1 else v) (ha : a' = a + (F'.kt.made : Int) - (F.kt.made : Int) + (mdS st' : Int) - (mdS st : Int)) (hc : c' = c + (dc : Int)) (hd : d' = d + (dd : Int)) : SetQ w f F mv N a b c d XF s st v XS nm x er w' := by
  subst hv ha hc hd
  exact ⟨F', st', dc, dd, hset, k, res, jj, hk, hsk, XF', XS', R⟩
theorem ss_same {w w1 : World} {f : Nat} {F : Fa} {mv : Value} {N : Int → Int → Int → Int → World → Prop} {XF : Nat → Prop} {s : Nat} {st : Stn} {v : Nat} {XS : Nat → Prop} {a b c d : Int} (h : Fs w1 f F mv XF s st v XS) (hn : N a b c d w1) (hx : Ex (mB mv) w w1) : SsR w f mv N XF XS s F st v a b c d w1 XF XS := ⟨h, hn, fun _ hk => .inl hk, fun _ hk => .inl hk, hx.mono fun _ _ hk => .inr (.inr hk)⟩
set_option maxRecDepth 100000 in
set_option maxHeartbeats 4000000 in
theorem set_row {w : World} {f : Nat} {F : Fa} {pm : Option Addr} {XF : Nat → Prop} {s : Nat} {vs : List Int} {v : Nat} {XS : Nat → Prop} {N : Int → Int → Int → Int → World → Prop} {a b c d : Int} {c0 : Nat} (h : Fs w f F (.pointer pm) XF s (.row vs) v XS) (hM4 : M4 (.pointer pm) N) (hM : N a b c d w) (ha : 0 ≤ a ∧ a ≤ 10000000) (hb : 0 ≤ b ∧ b ≤ 10000000000) (hc : 0 ≤ c ∧ c ≤ 100000000) (hd : 0 ≤ d ∧ d ≤ 100000000) (hO : F.Ok hsT c0) (hst : Stn.Ok hsT F c0 (.row vs)) (hc0 : c0 ≤ 49000) (hv : v ≤ 1000000000) {nm : ByteArray} (hs : nm.size ≤ 3000) (x : Int) :
    Calls Tryz.prog 21 #[.pointer (some ⟨s, 0, none⟩), .string nm, .int .i64 x] w fun e w' => ∃ er : Int, e = .returned (.int .i64 er) ∧ SetQ w f F (.pointer pm) N a b c d XF s (.row vs) v XS nm x er w' := by
  obtain ⟨k, hk⟩ := num_ex F.all nm
  have CS := sseek_any h hM4 hM hb hO hst hs hk
  have hF0 := h
  obtain ⟨q, XQ, h1, h2, h3, h4⟩ := h.sm
  subst h4
  have CN := isNothing_no (h1.c 1 (by omega))
  have ls := h1.lt (by omega)
  have HF0 := Lib.hid hF0
  have HM4 := Lib.hid hM4
  have HO := Lib.hid hO
  have HST := Lib.hid hst
  have HK := Lib.hid hk
  have HQ := Lib.hid h2
  have HB := Lib.hid h1
  have HNQ := Lib.hid h3
  have e1 : IntKind.u64.wrap ((v : Int) + 1) = (v : Int) + 1 := by rw [IntKind.wrap_u64]; omega
  clear h hM4 hM hO hst hk h1 h2 h3 hF0
  go_enter Tryz.func21, Tryz.ntmps21
  go_wp2_with fail
  refine CN.mono ?_
  rintro e w0 ⟨rfl, rfl⟩
  clear CN
  go_wp2_with fail
  refine CS.mono ?_
  rintro e w1 ⟨res, jj, rfl, hR, hM1, hx1⟩
  clear CS
  have hF1 := HF0.out.met hx1
  have hb1 := HB.out.same (w' := w1) (hx1.met ls (fun y => HF0.out.mq s y (.inl rfl)))
  have hq1 := HQ.out.same (w' := w1) fun j hj => hx1.met (HQ.out.lt j hj) (fun y => HF0.out.mq j y (.inr hj))
  have x1 : w1.cell? ⟨s, 1, none⟩ = some (.iface 117 (.pointer (some ⟨q, 0, none⟩))) := hb1.c 1 (by omega)
  have mh := mR_has (some ⟨q, 0, none⟩)
  obtain ⟨vv, hqb, hqv, hqn, rfl⟩ := hq1
  obtain ⟨av, cap, gv, rfl, hcap, hvo⟩ := hqv.open
  have hvl : vs.length ≤ F.kt.es.length := HST.out
  have hCH : (∃ n : Nat, res = (n : Int) ∧ Fnd F.kt.es k n ∧ n < vs.length) ∨ (((∃ n : Nat, res = (n : Int) ∧ Fnd F.kt.es k n ∧ vs.length ≤ n) ∨ (res = -1 ∧ ∀ n, ¬ Fnd F.kt.es k n)) ∧ Calls Tryz.prog 168 #[.pointer (some ⟨q, 0, none⟩), .int .i64 res] w1 fun e w' => e = .returned (.bool false) ∧ w' = w1) := by
    rcases hR with ⟨n, rfl, hn, _⟩ | ⟨rfl, hn, _⟩
    · rcases Nat.lt_or_ge n vs.length with c1 | c1
      · exact .inl ⟨n, rfl, hn, c1⟩
      · refine .inr ⟨.inl ⟨n, rfl, hn, c1⟩, ?_⟩
        have := rowHas_any (hqb.c 1 (by omega)) n
        rw [decide_eq_false (by omega)] at this
        exact this
    · exact .inr ⟨.inr ⟨rfl, hn⟩, rowHas_none⟩
  have HR := Lib.hid hR
  clear hR
  rcases hCH with ⟨n, rfl, hn, hlt⟩ | ⟨hres, CH⟩
  · -- it has the name
    have CH := rowHas_any (hqb.c 1 (by omega)) n
    rw [decide_eq_true hlt] at CH
    obtain ⟨rfl, hgl, _, hgb⟩ := hvo (by omega)
    have CP := rowPut_any (x := x) (hqb.c 1 (by omega)) hlt (hgb.c n hlt) (hgb.z n)
    have hv2 := hqv.put n x
    have hx2 : Ex (fun j => j = gv) w1 (w1.setCell ⟨gv, n, none⟩ (.int .i64 x)) := (Ex.refl (fun j => j = gv) w1).setCell (p := ⟨gv, n, none⟩) (fun _ => rfl) _
    obtain ⟨w2, hw2⟩ : ∃ y, w1.setCell ⟨gv, n, none⟩ (.int .i64 x) = y := ⟨_, rfl⟩
    rw [hw2] at CP hv2 hx2
    have ngq : q ≠ gv := fun e => hqn (by rw [e]; rfl)
    have hq2 : Sq w2 q f (.pointer pm) (fun j => j = q ∨ (Value.slice (some ⟨gv, 0, none⟩) vs.length cap).ownBlock = some j) (.row (vs.set n x)) := ⟨_, hqb.same (hx2.block q (hqb.lt (by omega)) ngq), hv2, hqn, rfl⟩
    obtain ⟨⟨k2, z2⟩, hS⟩ := ss_put (st := .row vs) (st' := .row (vs.set n x)) HM4.out hF1.fm hb1 rfl hq2 hM1 hx1 (hx2.mono fun j _ hj => .inr (by rw [hj]; rfl)) hF1.ap hF1.mq HNQ.out
    have mp := mR_put (some ⟨q, 0, none⟩)
    have y1 : w2.cell? ⟨s, 1, none⟩ = w2.cell? ⟨s, 1, none⟩ := rfl
    have HS := Lib.hid hS
    clear hF1 hb1 hqb hqv hqn hvo hgb hv2 hx2 hq2 hS hM1 y1 hw2
    go_wp2_with fail
    refine CH.mono ?_
    rintro e w3 ⟨rfl, rfl⟩
    clear CH
    go_wp2_with fail
    refine CP.mono ?_
    rintro e w4 ⟨rfl, rfl⟩
    clear CP
    go_wp2
    go_ret
    exact ⟨0, rfl, setQ_of (.putR HK.out hn hlt) HK.out HR.out HS.out rfl (by show a = a + (F.kt.made : Int) - (F.kt.made : Int) + ((0 : Nat) : Int) - ((0 : Nat) : Int); omega) (by omega) (by omega)⟩
  · -- it has it not
    have HNF : Hid (∀ n, Fnd F.kt.es k n → vs.length ≤ n) := fun n hn => by
      rcases hres with ⟨m, _, hm, hle⟩ | ⟨_, hno⟩
      · rw [Nl.one (hs := hsT) (all := F.all) (by rw [live_all HO.out.dead]; exact HO.out.nl) hn hm]; exact hle
      · exact absurd hn (hno n)
    have hq1 : Sq w1 q f (.pointer pm) _ (.row vs) := ⟨_, hqb, hqv, hqn, rfl⟩
    have hMd : Below w1.heap.size w1 w1.drew := (Below.refl _ w1).drew
    have hF1d := hF1.below hMd
    have hq1d := hq1.same (w' := w1.drew) fun _ _ => rfl
    have hM1d : N a (b + (jj : Int)) c d w1.drew := (HM4.out.mt c d).same a _ w1 w1.drew hM1 fun _ _ => rfl
    have hb1d := hb1.same (w' := w1.drew) rfl
    have CSZ : Calls Tryz.prog 173 #[.pointer (some ⟨q, 0, none⟩)] w1.drew fun e w' => e = .returned (.int .i64 ((vs.length : Nat) : Int)) ∧ w' = w1.drew := rowSize_any (hqb.c 1 (by omega))
    have x0 : w1.drew.cell? ⟨s, 0, none⟩ = some (.pointer (some ⟨f, 0, none⟩)) := hb1.c 0 (by omega)
    have d1 : w1.drew.cell? ⟨s, 1, none⟩ = some (.iface 117 (.pointer (some ⟨q, 0, none⟩))) := x1
    have d3 : w1.drew.cell? ⟨f, 3, none⟩ = some (.int .i64 (F.most : Int)) := by
      obtain ⟨g', gi', r', h'', ev', mb', nv', hFa, _⟩ := hF1.fm
      exact hFa.nh.hd.c 3 (by omega)
    have mz := mR_size (some ⟨q, 0, none⟩)
    have ma := mR_add (some ⟨q, 0, none⟩)
    have hxd : Ex (mB (.pointer pm)) w0 w1.drew := hx1.drew
    by_cases hfull : F.most ≤ vs.length
    · have tf : (F.most : Int) ≤ ((vs.length : Nat) : Int) := by omega
      have HF1 := Lib.hid hF1d
      have HM1 := Lib.hid hM1d
      have HXD := Lib.hid hxd
      clear hF1 hF1d hb1 hqb hqv hvo hqn hM1 hM1d hb1d hq1 hq1d hMd hx1 hxd
      generalize hgl : ((vs.length : Nat) : Int) = LN at *
      clear hgl
      go_wp2_with fail
      refine CH.mono ?_
      rintro e w3 ⟨rfl, rfl⟩
      clear CH
      go_wp2_with fail
      go_region_held3 (fun V => V.cell? ⟨s, 0, none⟩ = some (.pointer (some ⟨f, 0, none⟩)) ∧ V.cell? ⟨s, 1, none⟩ = some (.iface 117 (.pointer (some ⟨q, 0, none⟩))) ∧ V.cell? ⟨f, 3, none⟩ = some (.int .i64 (F.most : Int)))
        (first | with_reducible exact ⟨x0, d1, d3⟩ | fail)
        (first | (go_at_call 173; refine CSZ.mono ?_; rintro e w4 ⟨rfl, rfl⟩) | fail)
      go_wp2
      go_ret
      exact ⟨6, rfl, setQ_of (.fullR HK.out HNF.out hfull) HK.out HR.out (ss_same HF1.out HM1.out HXD.out) rfl (by show a = a + (F.kt.made : Int) - (F.kt.made : Int) + ((0 : Nat) : Int) - ((0 : Nat) : Int); omega) (by omega) (by omega)⟩
    · have tf : ¬ (F.most : Int) ≤ ((vs.length : Nat) : Int) := by omega
      have CA := rowAdd_any (w := w1.drew) (hF1d.fm) hq1d (fun j hj y => hF1d.ap j hj (.inr y)) (fun j hj y => hF1d.mq j hj (.inr y)) HM4.out hM1d ha hc hd HO.out hc0 hvl (by omega) hs HK.out res hres x
      have HAF : Hid (∀ {q' : Nat} {F' : Fa} {st' : Stn} {dc dd : Nat} {w3 : World}, SetR hsT F nm x (.row vs) F' st' 0 dc dd → (∃ XF' XQ', SdR w1.drew f (.pointer pm) N XF (fun k => k = q ∨ (Value.slice av vs.length cap).ownBlock = some k) F' st' q' (a + (F'.kt.made : Int) - (F.kt.made : Int) + (mdS st' : Int) ) (b + (jj : Int)) (c + (dc : Int)) (d + (dd : Int)) w3 XF' XQ') →
          (w3.cell? ⟨s, 1, none⟩ = some (.iface 117 (.pointer (some ⟨q, 0, none⟩))) ∧ w3.frozen? ⟨s, 1, none⟩ = false) ∧ ∀ w4, w3.setCell ⟨s, 1, none⟩ (.iface (tyS st') (.pointer (some ⟨q', 0, none⟩))) = w4 → (w4.cell? ⟨s, 2, none⟩ = some (.int .u64 (v : Int)) ∧ w4.frozen? ⟨s, 2, none⟩ = false) ∧ SetQ w0 f F (.pointer pm) N a b c d XF s (.row vs) v (fun k => k = s ∨ (fun k => k = q ∨ (Value.slice av vs.length cap).ownBlock = some k) k) nm x 0 (w4.setCell ⟨s, 2, none⟩ (.int .u64 ((v : Int) + 1)))) := by
        intro q' F' st' dc dd w3 hset ⟨XF', XQ', R⟩
        obtain ⟨y1, y2⟩ := ss_store HM4.out R hxd hb1d ls (fun y => hF1d.ap s y (.inl rfl)) HNQ.out (fun y => hF1d.mq s y (.inl rfl))
        refine ⟨y1, fun w4 hw4 => ?_⟩
        obtain ⟨y3, y4⟩ := y2 w4 hw4
        exact ⟨y3, setQ_of hset HK.out HR.out y4 rfl (by show a + (F'.kt.made : Int) - (F.kt.made : Int) + (mdS st' : Int) = a + (F'.kt.made : Int) - (F.kt.made : Int) + (mdS st' : Int) - ((0 : Nat) : Int); omega) rfl rfl⟩
      clear hF1 hF1d hb1 hqb hqv hvo hqn hM1 hM1d hb1d hq1 hq1d hMd hx1 hxd
      generalize hgl : ((vs.length : Nat) : Int) = LN at *
      clear hgl
      go_wp2_with fail
      refine CH.mono ?_
      rintro e w3 ⟨rfl, rfl⟩
      clear CH
      go_wp2_with fail
      go_region_held3 (fun V => V.cell? ⟨s, 0, none⟩ = some (.pointer (some ⟨f, 0, none⟩)) ∧ V.cell? ⟨s, 1, none⟩ = some (.iface 117 (.pointer (some ⟨q, 0, none⟩))) ∧ V.cell? ⟨f, 3, none⟩ = some (.int .i64 (F.most : Int)))
        (first | with_reducible exact ⟨x0, d1, d3⟩ | fail)
        (first | (go_at_call 173; refine CSZ.mono ?_; rintro e w4 ⟨rfl, rfl⟩) | fail)
      clear CSZ
      go_wp2_with fail
      refine CA.mono ?_
      rintro e w4 ⟨q', F', st', dc, dd, rfl, hset, hR4⟩
      clear CA
      obtain ⟨⟨k1, z1⟩, hw5⟩ := HAF.out hset hR4
      obtain ⟨T', hT'⟩ : ∃ T', tyS st' = T' := ⟨_, rfl⟩
      rw [hT'] at hw5 ⊢
      obtain ⟨w5, hw5e⟩ : ∃ y, w4.setCell ⟨s, 1, none⟩ (.iface T' (.pointer (some ⟨q', 0, none⟩))) = y := ⟨_, rfl⟩
      obtain ⟨⟨k2, z2⟩, hQ⟩ := hw5 w5 hw5e
      have HW5 := Lib.hid hw5e
      have HQF := Lib.hid hQ
      clear hw5 hw5e hQ hset hR4 hT' HAF
      go_upto_region 9 with fail
      rw [HW5.out]
      go_wp2
      go_ret
      exact ⟨0, rfl, HQF.out⟩

set_option maxRecDepth 100000 in
set_option maxHeartbeats 4000000 in
theorem set_own {w : World} {f : Nat} {F : Fa} {pm : Option Addr} {XF : Nat → Prop} {s : Nat} {t : Tb} {v : Nat} {XS : Nat → Prop} {N : Int → Int → Int → Int → World → Prop} {a b c d : Int} {c0 : Nat} (h : Fs w f F (.pointer pm) XF s (.own t) v XS) (hM4 : M4 (.pointer pm) N) (hM : N a b c d w) (ha : 0 ≤ a ∧ a ≤ 10000000) (hb : 0 ≤ b ∧ b ≤ 10000000000) (hO : F.Ok hsT c0) (hst : Stn.Ok hsT F c0 (.own t)) (hc0 : c0 ≤ 49000) (hv : v ≤ 1000000000) {nm : ByteArray} (hs : nm.size ≤ 3000) (x : Int) :
    Calls Tryz.prog 21 #[.pointer (some ⟨s, 0, none⟩), .string nm, .int .i64 x] w fun e w' => ∃ er : Int, e = .returned (.int .i64 er) ∧ SetQ w f F (.pointer pm) N a b c d XF s (.own t) v XS nm x er w' := by
  obtain ⟨k, hk⟩ := num_ex F.all nm
  have CS := sseek_any h hM4 hM hb hO hst hs hk
  have hF0 := h
  obtain ⟨q, XQ, h1, h2, h3, h4⟩ := h.sm
  subst h4
  have CN := isNothing_no (h1.c 1 (by omega))
  have ls := h1.lt (by omega)
  have HF0 := Lib.hid hF0
  have HM4 := Lib.hid hM4
  have HO := Lib.hid hO
  have HST := Lib.hid hst
  have HK := Lib.hid hk
  have HQ := Lib.hid h2
  have HB := Lib.hid h1
  have HNQ := Lib.hid h3
  have e1 : IntKind.u64.wrap ((v : Int) + 1) = (v : Int) + 1 := by rw [IntKind.wrap_u64]; omega
  clear h hM4 hM hO hst hk h1 h2 h3 hF0
  go_enter Tryz.func21, Tryz.ntmps21
  go_wp2_with fail
  refine CN.mono ?_
  rintro e w0 ⟨rfl, rfl⟩
  clear CN
  go_wp2_with fail
  refine CS.mono ?_
  rintro e w1 ⟨res, jj, rfl, hR, hM1, hx1⟩
  clear CS
  have hF1 := HF0.out.met hx1
  have hb1 := HB.out.same (w' := w1) (hx1.met ls (fun y => HF0.out.mq s y (.inl rfl)))
  have hq1 := HQ.out.same (w' := w1) fun j hj => hx1.met (HQ.out.lt j hj) (fun y => HF0.out.mq j y (.inr hj))
  have x1 : w1.cell? ⟨s, 1, none⟩ = some (.iface 229 (.pointer (some ⟨q, 0, none⟩))) := hb1.c 1 (by omega)
  have mh := mO_has (some ⟨q, 0, none⟩)
  obtain ⟨g, gi, r, h', ev, hqb, hqd, hqn, rfl⟩ := hq1
  obtain ⟨hT1, hT2, hT3, hT4, hT5⟩ := HST.out
  have HR := Lib.hid hR
  have hCH : (∃ n : Nat, res = (n : Int) ∧ Fnd t.es k n) ∨ (res = -1 ∧ ∀ n, ¬ Fnd t.es k n) := by
    rcases hR with ⟨n, rfl, hn, _⟩ | ⟨rfl, hn, _⟩
    · exact .inl ⟨n, rfl, hn⟩
    · exact .inr ⟨rfl, hn⟩
  clear hR
  rcases hCH with ⟨n, rfl, hn⟩ | ⟨rfl, hres⟩
  · -- it has the name
    have CH := ownHas_any (w := w1) (q := q) n
    have CP := (ownPut_any (hqb.c 1 (by omega)) hqd hn.1 hn.2.1 x).mono (R' := fun e w2 => e = .returned (.tuple #[]) ∧ (w2.cell? ⟨s, 2, none⟩ = some (.int .u64 (v : Int)) ∧ w2.frozen? ⟨s, 2, none⟩ = false) ∧ Hid (SsR w0 f (.pointer pm) N XF (fun k => k = s ∨ k = q ∨ dX g gi r h' ev k) s F (.own (t.putv n x)) (v + 1) a (b + (jj : Int)) c d (w2.setCell ⟨s, 2, none⟩ (.int .u64 ((v : Int) + 1))) XF (fun k => k = s ∨ k = q ∨ dX g gi r h' ev k))) (fun e w2 ⟨h1, h2, h3⟩ => by
      have nev : ev.ownBlock ≠ some q := fun y => hqn (.inr (.inr (.inr (.inr y))))
      obtain ⟨q1, q2⟩ := ss_put (st := .own t) (st' := .own (t.putv n x)) (XQ := fun k => k = q ∨ dX g gi r h' ev k) HM4.out hF1.fm hb1 rfl ⟨g, gi, r, h', ev, hqb.same (h3.block q (hqb.lt (by omega)) nev), h2, hqn, rfl⟩ hM1 hx1 (h3.mono fun j _ hj => .inr (.inr (.inr (.inr (.inr hj))))) hF1.ap hF1.mq HNQ.out
      exact ⟨h1, q1, q2⟩)
    have mp := mO_put (some ⟨q, 0, none⟩)
    clear hF1 hb1 hqb hqd hqn hM1
    go_wp2_with fail
    refine CH.mono ?_
    rintro e w3 ⟨rfl, rfl⟩
    clear CH
    go_wp2_with fail
    refine CP.mono ?_
    rintro e w4 ⟨rfl, ⟨k2, z2⟩, HS⟩
    clear CP
    go_wp2
    go_ret
    exact ⟨0, rfl, setQ_of (.putO HK.out hn) HK.out HR.out HS.out rfl (by show a = a + (F.kt.made : Int) - (F.kt.made : Int) + (t.made : Int) - (t.made : Int); omega) (by omega) (by omega)⟩
  · -- it has it not
    have CH := ownHas_none (w := w1) (q := q)
    have hq1 : Sq w1 q f (.pointer pm) _ (.own t) := ⟨g, gi, r, h', ev, hqb, hqd, hqn, rfl⟩
    have hMd : Below w1.heap.size w1 w1.drew := (Below.refl _ w1).drew
    have hF1d := hF1.below hMd
    have hq1d := hq1.same (w' := w1.drew) fun _ _ => rfl
    have hM1d : N a (b + (jj : Int)) c d w1.drew := (HM4.out.mt c d).same a _ w1 w1.drew hM1 fun _ _ => rfl
    have hb1d := hb1.same (w' := w1.drew) rfl
    have CSZ : Calls Tryz.prog 214 #[.pointer (some ⟨q, 0, none⟩)] w1.drew fun e w' => e = .returned (.int .i64 ((t.live : Nat) : Int)) ∧ w' = w1.drew := ownSize_any (hqb.c 1 (by omega)) (hqd.hd.c 3 (by omega))
    have x0 : w1.drew.cell? ⟨s, 0, none⟩ = some (.pointer (some ⟨f, 0, none⟩)) := hb1.c 0 (by omega)
    have d1 : w1.drew.cell? ⟨s, 1, none⟩ = some (.iface 229 (.pointer (some ⟨q, 0, none⟩))) := x1
    have d3 : w1.drew.cell? ⟨f, 3, none⟩ = some (.int .i64 (F.most : Int)) := by
      obtain ⟨g', gi', r', h'', ev', mb', nv', hFa, _⟩ := hF1.fm
      exact hFa.nh.hd.c 3 (by omega)
    have mz := mO_size (some ⟨q, 0, none⟩)
    have ma := mO_add (some ⟨q, 0, none⟩)
    have hxd : Ex (mB (.pointer pm)) w0 w1.drew := hx1.drew
    by_cases hfull : F.most ≤ t.live
    · have tf : (F.most : Int) ≤ ((t.live : Nat) : Int) := by omega
      have HF1 := Lib.hid hF1d
      have HM1 := Lib.hid hM1d
      have HXD := Lib.hid hxd
      clear hF1 hF1d hb1 hqb hqd hqn hM1 hM1d hb1d hq1 hq1d hMd hx1 hxd
      generalize hgl : ((t.live : Nat) : Int) = LN at *
      clear hgl
      go_wp2_with fail
      refine CH.mono ?_
      rintro e w3 ⟨rfl, rfl⟩
      clear CH
      go_wp2_with fail
      go_region_held3 (fun V => V.cell? ⟨s, 0, none⟩ = some (.pointer (some ⟨f, 0, none⟩)) ∧ V.cell? ⟨s, 1, none⟩ = some (.iface 229 (.pointer (some ⟨q, 0, none⟩))) ∧ V.cell? ⟨f, 3, none⟩ = some (.int .i64 (F.most : Int)))
        (first | with_reducible exact ⟨x0, d1, d3⟩ | fail)
        (first | (go_at_call 214; refine CSZ.mono ?_; rintro e w4 ⟨rfl, rfl⟩) | fail)
      go_wp2
      go_ret
      exact ⟨6, rfl, setQ_of (.fullO HK.out hres hfull) HK.out HR.out (ss_same HF1.out HM1.out HXD.out) rfl (by show a = a + (F.kt.made : Int) - (F.kt.made : Int) + ((t.made : Nat) : Int) - ((t.made : Nat) : Int); omega) (by omega) (by omega)⟩
    · have tf : ¬ (F.most : Int) ≤ ((t.live : Nat) : Int) := by omega
      have CA := (ownAdd_any (c0 := c0) (w := w1.drew) (hF1d.fm) hq1d (fun j hj y => hF1d.ap j hj (.inr y)) (fun j hj y => hF1d.mq j hj (.inr y)) HM4.out hM1d ⟨ha.1, by omega⟩ HO.out hT1 hT3 hT4 hT5 (by omega) hs HK.out (-1) x).mono (R' := fun e w' => ∃ q' F' st' dc dd, e = .returned (.iface (tyS st') (.pointer (some ⟨q', 0, none⟩))) ∧ SetR hsT F nm x (.own t) F' st' 0 dc dd ∧ ∃ XF' XQ', SdR w1.drew f (.pointer pm) N XF (fun k => k = q ∨ dX g gi r h' ev k) F' st' q' (a + (F'.kt.made : Int) - (F.kt.made : Int) + (mdS st' : Int) - (t.made : Int)) (b + (jj : Int)) (c + (dc : Int)) (d + (dd : Int)) w' XF' XQ') (fun e w' ⟨h1, XF', XQ', R⟩ => ⟨q, { F with all := alln F.all nm k }, .own (t.add (hsT nm) (numn F.all k) x), 0, 0, h1, .add HK.out hres (by omega), XF', XQ', by
        have hmd := (t.add_rest (hsT nm) (numn F.all k) x).2.2.1
        rw [show a + (({ F with all := alln F.all nm k } : Fa).kt.made : Int) - (F.kt.made : Int) + (mdS (.own (t.add (hsT nm) (numn F.all k) x)) : Int) - (t.made : Int) = a + (((t.add (hsT nm) (numn F.all k) x).made - t.made : Nat) : Int) by show a + (F.kt.made : Int) - (F.kt.made : Int) + ((t.add (hsT nm) (numn F.all k) x).made : Int) - (t.made : Int) = _; omega, show c + ((0 : Nat) : Int) = c by omega, show d + ((0 : Nat) : Int) = d by omega]
        exact R⟩)
      have HAF : Hid (∀ {q' : Nat} {F' : Fa} {st' : Stn} {dc dd : Nat} {w3 : World}, SetR hsT F nm x (.own t) F' st' 0 dc dd → (∃ XF' XQ', SdR w1.drew f (.pointer pm) N XF (fun k => k = q ∨ dX g gi r h' ev k) F' st' q' (a + (F'.kt.made : Int) - (F.kt.made : Int) + (mdS st' : Int) - (t.made : Int)) (b + (jj : Int)) (c + (dc : Int)) (d + (dd : Int)) w3 XF' XQ') →
          (w3.cell? ⟨s, 1, none⟩ = some (.iface 229 (.pointer (some ⟨q, 0, none⟩))) ∧ w3.frozen? ⟨s, 1, none⟩ = false) ∧ ∀ w4, w3.setCell ⟨s, 1, none⟩ (.iface (tyS st') (.pointer (some ⟨q', 0, none⟩))) = w4 → (w4.cell? ⟨s, 2, none⟩ = some (.int .u64 (v : Int)) ∧ w4.frozen? ⟨s, 2, none⟩ = false) ∧ SetQ w0 f F (.pointer pm) N a b c d XF s (.own t) v (fun k => k = s ∨ (fun k => k = q ∨ dX g gi r h' ev k) k) nm x 0 (w4.setCell ⟨s, 2, none⟩ (.int .u64 ((v : Int) + 1)))) := by
        intro q' F' st' dc dd w3 hset ⟨XF', XQ', R⟩
        obtain ⟨y1, y2⟩ := ss_store HM4.out R hxd hb1d ls (fun y => hF1d.ap s y (.inl rfl)) HNQ.out (fun y => hF1d.mq s y (.inl rfl))
        refine ⟨y1, fun w4 hw4 => ?_⟩
        obtain ⟨y3, y4⟩ := y2 w4 hw4
        exact ⟨y3, setQ_of hset HK.out HR.out y4 rfl (by show a + (F'.kt.made : Int) - (F.kt.made : Int) + (mdS st' : Int) - (t.made : Int) = a + (F'.kt.made : Int) - (F.kt.made : Int) + (mdS st' : Int) - (t.made : Int); omega) rfl rfl⟩
      clear hF1 hF1d hb1 hqb hqd hqn hM1 hM1d hb1d hq1 hq1d hMd hx1 hxd
      generalize hgl : ((t.live : Nat) : Int) = LN at *
      clear hgl
      go_wp2_with fail
      refine CH.mono ?_
      rintro e w3 ⟨rfl, rfl⟩
      clear CH
      go_wp2_with fail
      go_region_held3 (fun V => V.cell? ⟨s, 0, none⟩ = some (.pointer (some ⟨f, 0, none⟩)) ∧ V.cell? ⟨s, 1, none⟩ = some (.iface 229 (.pointer (some ⟨q, 0, none⟩))) ∧ V.cell? ⟨f, 3, none⟩ = some (.int .i64 (F.most : Int)))
        (first | with_reducible exact ⟨x0, d1, d3⟩ | fail)
        (first | (go_at_call 214; refine CSZ.mono ?_; rintro e w4 ⟨rfl, rfl⟩) | fail)
      clear CSZ
      go_wp2_with fail
      refine CA.mono ?_
      rintro e w4 ⟨q', F', st', dc, dd, rfl, hset, hR4⟩
      clear CA
      obtain ⟨⟨k1, z1⟩, hw5⟩ := HAF.out hset hR4
      obtain ⟨T', hT'⟩ : ∃ T', tyS st' = T' := ⟨_, rfl⟩
      rw [hT'] at hw5 ⊢
      obtain ⟨w5, hw5e⟩ : ∃ y, w4.setCell ⟨s, 1, none⟩ (.iface T' (.pointer (some ⟨q', 0, none⟩))) = y := ⟨_, rfl⟩
      obtain ⟨⟨k2, z2⟩, hQ⟩ := hw5 w5 hw5e
      have HW5 := Lib.hid hw5e
      have HQF := Lib.hid hQ
      clear hw5 hw5e hQ hset hR4 hT' HAF
      go_upto_region 9 with fail
      rw [HW5.out]
      go_wp2
      go_ret
      exact ⟨0, rfl, HQF.out⟩

theorem set_any {w : World} {f : Nat} {F : Fa} {pm : Option Addr} {XF : Nat → Prop} {s : Nat} {st : Stn} {v : Nat} {XS : Nat → Prop} {N : Int → Int → Int → Int → World → Prop} {a b c d : Int} {c0 : Nat} (h : Fs w f F (.pointer pm) XF s st v XS) (hM4 : M4 (.pointer pm) N) (hM : N a b c d w) (ha : 0 ≤ a ∧ a ≤ 10000000) (hb : 0 ≤ b ∧ b ≤ 10000000000) (hc : 0 ≤ c ∧ c ≤ 100000000) (hd : 0 ≤ d ∧ d ≤ 100000000) (hO : F.Ok hsT c0) (hst : Stn.Ok hsT F c0 st) (hc0 : c0 ≤ 49000) (hv : v ≤ 1000000000) {nm : ByteArray} (hs : nm.size ≤ 3000) (x : Int) :
    Calls Tryz.prog 21 #[.pointer (some ⟨s, 0, none⟩), .string nm, .int .i64 x] w fun e w' => ∃ er : Int, e = .returned (.int .i64 er) ∧ SetQ w f F (.pointer pm) N a b c d XF s st v XS nm x er w' := by
  cases st with
  | row vs => exact set_row h hM4 hM ha hb hc hd hO hst hc0 hv hs x
  | own t => exact set_own h hM4 hM ha hb hO hst hc0 hv hs x
end Go.Proofs.YtcbhpjpkjmlcnaaGreat
namespace Go.Proofs.YtcbhpjpkjmlcnaaGreat

theorem add_live {t : Tb} (hd : deadN t.es = 0) (u k v : Int) : (t.add u k v).es = t.es ++ [⟨true, u, k, v, (t.births : Int)⟩] := by
  unfold Tb.add
  by_cases e : t.es.length < rm (2 ^ t.L)
  · rw [if_pos e]
    rfl
  · rw [if_neg e]
    show liveL t.es ++ _ = _
    rw [live_all hd]
    rfl
theorem dead_app {es : List En} (hd : deadN es = 0) (e : En) (he : e.live = true) : deadN (es ++ [e]) = 0 := by
  rw [deadN_app, hd]
  simp [deadN, he]
/-- A family that has grown. -/
structure Fle (F F' : Fa) : Prop where
  all : ∃ r, F'.all = F.all ++ r
  es : ∃ r, F'.kt.es = F.kt.es ++ r
  room : F'.room = F.room
  most : F'.most = F.most
theorem Fle.refl (F : Fa) : Fle F F := ⟨⟨[], by simp⟩, ⟨[], by simp⟩, rfl, rfl⟩
theorem Fle.trans {F G H : Fa} (a : Fle F G) (b : Fle G H) : Fle F H := by
  obtain ⟨r, h1⟩ := a.all
  obtain ⟨r', h2⟩ := b.all
  obtain ⟨s, h3⟩ := a.es
  obtain ⟨s', h4⟩ := b.es
  exact ⟨⟨r ++ r', by rw [h2, h1, List.append_assoc]⟩, ⟨s ++ s', by rw [h4, h3, List.append_assoc]⟩, b.room.trans a.room, b.most.trans a.most⟩
theorem Stn.Ok.le {hs : ByteArray → Int} {F F' : Fa} {c c' : Nat} {st : Stn} (h : st.Ok hs F c) (hl : Fle F F') (hc : c ≤ c') : st.Ok hs F' c' := by
  cases st with
  | row vs =>
    obtain ⟨r, hr⟩ := hl.es
    have h' : vs.length ≤ F.kt.es.length := h
    show vs.length ≤ F'.kt.es.length
    rw [hr, List.length_append]
    omega
  | own t =>
    obtain ⟨h1, h2, h3, h4, h5⟩ := h
    obtain ⟨r, hr⟩ := hl.all
    exact ⟨h1, by rw [hr]; exact h2.more r, by omega, by omega, by omega⟩
theorem Fa.Ok.le {hs : ByteArray → Int} {F : Fa} {c c' : Nat} (h : F.Ok hs c) (hc : c ≤ c') : F.Ok hs c' := ⟨h.nd, h.ok, h.nl, h.dead, h.len, h.room, h.most, by have := h.names; omega, by have := h.births; omega, by have := h.made; omega, by have := h.turn; omega, h.wide⟩
/-- The names with one more. -/
theorem Fa.Ok.name {hs : ByteArray → Int} {F : Fa} {c : Nat} (h : F.Ok hs c) {s : ByteArray} {k : Int} (hk : Num F.all s k) (hs3 : s.size ≤ 3000) : ({ F with all := alln F.all s k } : Fa).Ok hs (c + 1) := by
  obtain ⟨r, hr⟩ := alln_pre F.all s k
  refine ⟨alln_nodup h.nd hk, h.ok, ?_, h.dead, h.len, h.room, h.most, ?_, by show F.kt.births ≤ _; have := h.births; omega, by show F.kt.made ≤ _; have := h.made; omega, by show F.kt.turn ≤ _; have := h.turn; omega, ?_⟩
  · show Nl hs (alln F.all s k) F.kt.es
    rw [hr]
    exact h.nl.more r
  · show (alln F.all s k).length ≤ _
    have := alln_len F.all s k
    have := h.names
    omega
  · intro x hx
    have hx' : x ∈ alln F.all s k := hx
    unfold alln at hx'
    by_cases c1 : k = -1
    · rw [if_pos c1] at hx'
      rcases List.mem_append.1 hx' with y | y
      · exact h.wide x y
      · rw [List.mem_singleton.1 y]; exact hs3
    · rw [if_neg c1] at hx'
      exact h.wide x hx'
theorem name_le (F : Fa) (s : ByteArray) (k : Int) : Fle F { F with all := alln F.all s k } := ⟨alln_pre F.all s k, ⟨[], by simp⟩, rfl, rfl⟩
theorem setR_ok {hs : ByteArray → Int} {F : Fa} {s : ByteArray} {v : Int} {st : Stn} {F' : Fa} {st' : Stn} {er : Int} {dc dd c : Nat} (h : SetR hs F s v st F' st' er dc dd) (hF : F.Ok hs c) (hst : st.Ok hs F c) (hs3 : s.size ≤ 3000) (hc : c ≤ 90000) : F'.Ok hs (c + 1) ∧ st'.Ok hs F' (c + 1) ∧ Fle F F' := by
  cases h with
  | putR hk hn hl => exact ⟨hF.le (by omega), by show (List.set _ _ _).length ≤ _; rw [List.length_set]; exact hst, Fle.refl _⟩
  | @putO t k n hk hn =>
    obtain ⟨h1, h2, h3, h4, h5⟩ := hst
    refine ⟨hF.le (by omega), ⟨h1.putv n hn.1 hn.2.1 v, ?_, by show t.births ≤ _; omega, by show t.made ≤ _; omega, by show t.turn ≤ _; omega⟩, Fle.refl _⟩
    have hc1 := liveL_cut hn.1 hn.2.1
    have hls : liveL (t.putv n v).es = liveL (t.es.take n) ++ (⟨(nth t.es n).live, (nth t.es n).hash, (nth t.es n).key, v, (nth t.es n).birth⟩ : En) :: liveL (t.es.drop (n + 1)) := by
      show liveL (t.es.set n _) = _
      rw [List.set_eq_take_append_cons_drop, if_pos hn.1, liveL_app, liveL, if_pos hn.2.1]
    rw [hls]
    rw [hc1] at h2
    refine ⟨fun e he => ?_, by have := h2.nd; simpa using this⟩
    rcases List.mem_append.1 he with y | y
    · exact h2.nm e (List.mem_append_left _ y)
    · rcases List.mem_cons.1 y with z | z
      · obtain ⟨k', s', q1, q2, q3⟩ := h2.nm (nth t.es n) (List.mem_append_right _ (List.mem_cons_self ..))
        rw [z]
        exact ⟨k', s', q1, q2, q3⟩
      · exact h2.nm e (List.mem_append_right _ (List.mem_cons_of_mem _ z))
  | fullR hk hn hm => exact ⟨hF.le (by omega), hst, Fle.refl _⟩
  | fullO hk hn hm => exact ⟨hF.le (by omega), hst.le (Fle.refl _) (by omega), Fle.refl _⟩
  | @next vs k hk hn hm =>
    refine ⟨hF.le (by omega), ?_, Fle.refl _⟩
    show (vs ++ [v]).length ≤ F.kt.es.length
    have := hn.1
    simp
    omega
  | @new vs k hk hn hm hl hr =>
    have hN := hF.name hk hs3
    obtain ⟨n, e1, e2⟩ := alln_at hk
    have hes := add_live hF.dead (hs s) (numn F.all k) 0
    have a := F.kt.add_rest (hs s) (numn F.all k) 0
    have hfl := live_all hF.dead
    have hno : ∀ e ∈ F.kt.es, e.key ≠ k := by have := no_fnd hn; rw [hfl] at this; exact this
    have hnn := numn_new hF.nl hno
    refine ⟨⟨hN.nd, hF.ok.add _ _ _ (by have := hF.births; omega), ?_, ?_, ?_, hF.room, hF.most, hN.names, by show (F.kt.add _ _ _).births ≤ _; have := hF.births; omega, by show (F.kt.add _ _ _).made ≤ _; have := hF.made; omega, by show (F.kt.add _ _ _).turn ≤ _; have := hF.turn; omega, hN.wide⟩, ?_, ⟨alln_pre F.all s k, ⟨_, hes⟩, rfl, rfl⟩⟩
    · show Nl hs (alln F.all s k) (F.kt.add (hs s) (numn F.all k) 0).es
      rw [hes, e1]
      exact hN.nl.add e2 (fun e he => by rw [← e1]; exact hnn e he) _ _
    · show deadN (F.kt.add (hs s) (numn F.all k) 0).es = 0
      rw [hes]
      exact dead_app hF.dead _ rfl
    · show (F.kt.add (hs s) (numn F.all k) 0).es.length ≤ F.room
      rw [hes, List.length_append]
      simp
      omega
    · show (vs ++ [v]).length ≤ (F.kt.add (hs s) (numn F.all k) 0).es.length
      rw [hes]
      simp
      omega
  | @turn vs k hk hn hm hl =>
    have hN := hF.name hk hs3
    have hvl : vs.length ≤ F.kt.es.length := hst
    have h256 : vs.length ≤ 256 := by have := hF.len; have := hF.room; omega
    obtain ⟨n, e1, e2⟩ := alln_at hk
    obtain ⟨t1, t2, t3, t4, t5⟩ := turnN_is F.kt.es vs vs.length (by omega)
    have a := (turnN F.kt.es vs vs.length).add_rest (hs s) (numn F.all k) v
    have hnl := turnN_nl hF.nl vs hvl (by omega)
    have hbl : vs.length ≤ c := by have := hF.ok.few; have := hF.births; omega
    refine ⟨hN, ⟨t1.add _ _ _ (by omega), ?_, by omega, by omega, by omega⟩, name_le F s k⟩
    rw [Tb.add_es, e1]
    obtain ⟨r, hr⟩ := alln_pre F.all s k
    have hnl' : Nl hs (alln F.all s k) (liveL (turnN F.kt.es vs vs.length).es) := by rw [hr]; exact hnl.more r
    refine hnl'.add e2 (fun e he => ?_) _ _
    rw [← e1]
    refine numn_new hnl (fun e he => ?_) e he
    rw [t5] at he
    obtain ⟨j, hj, rfl⟩ := List.mem_map.1 he
    have hj' : j < vs.length := by simpa using hj
    intro hkey
    have := hn j ⟨by omega, dead_live hF.dead (by omega), hkey⟩
    omega
  | @add t k hk hn hm =>
    obtain ⟨h1, h2, h3, h4, h5⟩ := hst
    have hN := hF.name hk hs3
    obtain ⟨n, e1, e2⟩ := alln_at hk
    have a := t.add_rest (hs s) (numn F.all k) v
    refine ⟨hN, ⟨h1.add _ _ _ (by omega), ?_, by omega, by omega, by omega⟩, name_le F s k⟩
    rw [Tb.add_es, e1]
    obtain ⟨r, hr⟩ := alln_pre F.all s k
    have hnl' : Nl hs (alln F.all s k) (liveL t.es) := by rw [hr]; exact h2.more r
    exact hnl'.add e2 (fun e he => by rw [← e1]; exact numn_new h2 (no_fnd hn) e he) _ _
/-- A new family. -/
theorem fa_new (hs : ByteArray → Int) {room most : Nat} (hr : room ≤ 256) (hm : most ≤ 65536) : (⟨[], Tb.new, room, most⟩ : Fa).Ok hs 0 :=
  ⟨List.nodup_nil, Tb.new_ok, Nl.nil _ _, rfl, Nat.zero_le _, hr, hm, Nat.le_refl _, Nat.le_refl _, Nat.le_refl _, Nat.le_refl _, fun _ h => by cases h⟩
end Go.Proofs.YtcbhpjpkjmlcnaaGreat
