/-
  A Set, a Del, a Get of both sides end alike.
  A shared namespace's pairs.
  A private namespace's pairs.
  Two entries, compared.
  Sights and pairs, told and compared by the law.
  The document's New, Make and Sight.
  A family with its namespaces, and the document's, in memory: the state of the law's scripts.
  A call on both sides, of which each has turned its own.
  Set, Get, Del on both sides.
  The law's at.
-/
import Derived.Test.YtcbhpjpkjmlcnaaGreatQsSetR
import Derived.Test.YtcbhpjpkjmlcnaaGreatGxan
import Derived.Test.YtcbhpjpkjmlcnaaGreatGxaf
import Derived.Laws.OwnMore
import Derived.Test.YtcbhpjpkjmlcnaaGreatGxai
import Derived.Test.YtcbhpjpkjmlcnaaGreatGxae
import Derived.Test.YtcbhpjpkjmlcnaaGreatGxad
import Derived.Test.YtcbhpjpkjmlcnaaGreatQsTurn
import Derived.Test.YtcbhpjpkjmlcnaaGreatGxah
namespace Go.Proofs.YtcbhpjpkjmlcnaaGreat
open Go.RowKit Go.WideShapes

theorem tbS_ok {F : Fa} {st : Stn} {c : Nat} (hF : F.Ok hsT c) (hst : st.Ok hsT F c) : (tbS F st).Ok ∧ Nl hsT F.all (liveL (tbS F st).es) := by
  cases st with
  | row vs => exact ⟨hF.ok, hF.nle⟩
  | own t => exact ⟨hst.1, hst.2.1⟩
theorem num_uniq {F : Fa} {c : Nat} (hF : F.Ok hsT c) {nm : ByteArray} {k k' : Int} (h : Num F.all nm k) (h' : Num F.all nm k') : k = k' := h.uniq hF.nd h'
theorem skr_uniq {F : Fa} {st : Stn} {c : Nat} (hF : F.Ok hsT c) (hst : st.Ok hsT F c) {u k r1 r2 : Int} {j1 j2 : Nat} (a : SkR (tbS F st) u k r1 j1) (b : SkR (tbS F st) u k r2 j2) : r1 = r2 ∧ j1 = j2 := by
  obtain ⟨h1, h2⟩ := tbS_ok hF hst
  obtain ⟨fi, hfi, _⟩ := h1.inv.first u
  exact SkR.uniq h1 h2 (h1.inv.first u |>.imp fun _ h => by first | exact h.1 | exact h.2 | exact h) a b
theorem set_meet {w w1 w' w1' : World} {f f' s s' : Nat} {F : Fa} {mv mr : Value} {N : Int → Int → Int → Int → World → Prop} {a b c d : Int} {XF XS XF' XS' : Nat → Prop} {st : Stn} {v c0 : Nat} {nm : ByteArray} {x er er' : Int} (hF : F.Ok hsT c0) (hst : st.Ok hsT F c0) (p : SetQ w f F mv N a b c d XF s st v XS nm x er w1) (q : RSetQ w' f' F mr a b c d XF' s' st v XS' nm x er' w1') :
    er' = er ∧ ∃ F2 st2 dc dd v2 a2 b2 c2 d2 YF YS YF' YS', SetR hsT F nm x st F2 st2 er dc dd ∧ (v2 = if er = 0 then v + 1 else v) ∧ SsR w f mv N XF XS s F2 st2 v2 a2 b2 c2 d2 w1 YF YS ∧ QsR w' f' mr XF' XS' s' F2 st2 v2 a2 b2 c2 d2 w1' YF' YS' := by
  obtain ⟨F2, st2, dc, dd, h1, k, res, jj, h2, h3, YF, YS, R⟩ := p
  obtain ⟨F3, st3, dc3, dd3, g1, k', res', jj', g2, g3, YF', YS', R'⟩ := q
  obtain ⟨rfl, rfl, rfl, rfl, rfl⟩ := SetR.uniq hF hst h1 g1
  obtain rfl := num_uniq hF h2 g2
  obtain ⟨rfl, rfl⟩ := skr_uniq hF hst h3 g3
  exact ⟨rfl, F2, st2, dc, dd, _, _, _, _, _, YF, YS, YF', YS', h1, rfl, R, R'⟩
theorem del_meet {w w1 w' w1' : World} {f f' s s' : Nat} {F : Fa} {mv mr : Value} {N : Int → Int → Int → Int → World → Prop} {a b c d : Int} {XF XS XF' XS' : Nat → Prop} {st : Stn} {v c0 : Nat} {nm : ByteArray} {er er' : Int} (hF : F.Ok hsT c0) (hst : st.Ok hsT F c0) (p : DelQ w f F mv N a b c d XF s st v XS nm er w1) (q : RDelQ w' f' F mr a b c d XF' s' st v XS' nm er' w1') :
    er' = er ∧ ∃ st2 dd v2 a2 b2 c2 d2 YF YS YF' YS', DelR F nm st st2 er dd ∧ (v2 = if er = 0 then v + 1 else v) ∧ SsR w f mv N XF XS s F st2 v2 a2 b2 c2 d2 w1 YF YS ∧ QsR w' f' mr XF' XS' s' F st2 v2 a2 b2 c2 d2 w1' YF' YS' := by
  obtain ⟨st2, dd, h1, k, res, jj, h2, h3, YF, YS, R⟩ := p
  obtain ⟨st3, dd3, g1, k', res', jj', g2, g3, YF', YS', R'⟩ := q
  obtain ⟨rfl, rfl, rfl⟩ := DelR.uniq hF hst h1 g1
  obtain rfl := num_uniq hF h2 g2
  obtain ⟨rfl, rfl⟩ := skr_uniq hF hst h3 g3
  exact ⟨rfl, st2, dd, _, _, _, _, _, YF, YS, YF', YS', h1, rfl, R, R'⟩
theorem get_meet {F : Fa} {st : Stn} {c0 : Nat} {nm : ByteArray} {x y k k' r r' : Int} {o p : Bool} {j j' : Nat} (hF : F.Ok hsT c0) (hst : st.Ok hsT F c0) (h1 : GetR F nm st x o) (h2 : Num F.all nm k) (h3 : SkR (tbS F st) (hsT nm) k r j) (g1 : GetR F nm st y p) (g2 : Num F.all nm k') (g3 : SkR (tbS F st) (hsT nm) k' r' j') : x = y ∧ o = p ∧ j = j' := by
  obtain ⟨rfl, rfl⟩ := GetR.uniq hF hst h1 g1
  obtain rfl := num_uniq hF h2 g2
  exact ⟨rfl, rfl, (skr_uniq hF hst h3 g3).2⟩
end Go.Proofs.YtcbhpjpkjmlcnaaGreat
namespace Go.Proofs.YtcbhpjpkjmlcnaaGreat
open Go.RowKit Go.WideShapes

/-- The cells of pairs. -/
def pcl : List (ByteArray × Int) → List Value
  | [] => []
  | p :: l => .string p.1 :: .int .i64 p.2 :: pcl l
theorem pcl_len : ∀ l, (pcl l).length = l.length * 2
  | [] => rfl
  | p :: l => by show (pcl l).length + 1 + 1 = _; rw [pcl_len l, List.length_cons]; omega
theorem pcl_app : ∀ l m, pcl (l ++ m) = pcl l ++ pcl m
  | [], _ => rfl
  | p :: l, m => by show _ :: _ :: pcl (l ++ m) = _; rw [pcl_app l m]; rfl
theorem pcl_one : ∀ l, ∀ u ∈ pcl l, u.oneCell' = true
  | [], u, h => by cases h
  | p :: l, u, h => by
    rcases List.mem_cons.1 h with rfl | h
    · rfl
    · rcases List.mem_cons.1 h with rfl | h
      · rfl
      · exact pcl_one l u h
theorem own_keep {w w' : World} {B n size : Nat} {t : TypeId} {v : Value} {xs : List Value} (h : w.ownsRow B t size v n xs) (hb : Below w.heap.size w w') : w'.ownsRow B t size v n xs := by
  refine ⟨h.1, ?_⟩
  have hl := World.ownsRow.lt h
  rcases h.2 with x | ⟨g, cap, cur, hv, h1, h2, h3⟩
  · exact .inl x
  · exact .inr ⟨g, cap, cur, hv, h1, (hb.block g (hl g (by rw [hv]; rfl)).2).trans h2, h3⟩
/-- append, whose run is known, as one step of a region that draws. -/
theorem step_append_run {P : Program} {ops : Array Oper} {o : Oper} {a : Act} {w : World} {K : Act → World → Prop} {Q : Exit → Act → World → Prop} {E : Prop} (hgd : o.guard = none) (s x : Operand) (t : TypeId)
    (ho : o.op = .call { callee := .builtin .append, args := #[s, x], argTypes := #[t, t] }) (v u v' : Value) (w' : World) (hs : a.eval s = v) (hx : a.eval x = u) (hr : (Builtin.append_ #[t, t] o.type #[v, u]).run P w = .ok v' w') (h : K (a.put o.dst v') w') :
    if Region.wanted o (yielded ops a.tmps) = true then Oper.wp P o a w K Q else E := by
  have hw : Region.wanted o (yielded ops a.tmps) = true := by simp [Region.wanted, hgd]
  rw [if_pos hw]
  unfold Oper.wp execOp
  simp only [ho, resolve, invoke, builtin, Sem.run_bind, Sem.run_pure, Result.andThen_ok, List.map_toArray, List.map_cons, List.map_nil, hs, hx, hr]
  exact h
/-- A row of pairs of one's own. -/
def PsB (B : Nat) (w : World) (v : Value) (l : List (ByteArray × Int)) : Prop := w.ownsRow B 146 2 v l.length (pcl l)
/-- The first n pairs of a shared namespace. -/
def prsN (all : List ByteArray) (es : List En) (vs : List Int) : Nat → List (ByteArray × Int)
  | 0 => []
  | n + 1 => prsN all es vs n ++ [(nmOf all (nth es n).key, vs[n]?.getD 0)]
theorem prsN_len (all : List ByteArray) (es : List En) (vs : List Int) : ∀ n, (prsN all es vs n).length = n
  | 0 => rfl
  | n + 1 => by show (prsN all es vs n ++ _).length = _; rw [List.length_append, prsN_len all es vs n]; rfl
theorem Tryz.infoPair : (Tryz.prog.info? 146).map (fun i => (i.zero, i.size, i.bytes)) = some (some (.agg #[.string ByteArray.empty, .int .i64 0]), 2, 24) := by kernel_rfl
set_option maxRecDepth 100000 in
set_option maxHeartbeats 4000000 in
theorem rowPairs_any {w : World} {q f g gi r h : Nat} {ev : Value} {mb : Nat} {nv : Value} {F : Fa} {mv : Value} {vv : Value} {vs : List Int} {hs : ByteArray → Int} (hF : Fam w f g gi r h ev mb nv F mv) (hN : Nl hs F.all F.kt.es) (hq : Blk w q 2 (sdF f vv)) (hv : IntsR 0 w vv vs) (hl : vs.length ≤ F.kt.es.length) (hr : vs.length ≤ 256) (hlv : deadN F.kt.es = 0) :
    Calls Tryz.prog 170 #[.pointer (some ⟨q, 0, none⟩)] w fun e w' => ∃ v, e = .returned v ∧ PsB w.heap.size w' v (prsN F.all F.kt.es vs vs.length) ∧ Below w.heap.size w w' := by
  obtain ⟨i0, hi0, hz0, hz1, hz2⟩ := info_parts Tryz.infoPair
  obtain ⟨an, capn, hnv⟩ := ownsRow_shape hF.nh.ns
  obtain ⟨av, cap, gv, rfl, hcap, hvo⟩ := hv.open
  have k1 : w.cell? ⟨q, 1, none⟩ = some (.slice av vs.length cap) := hq.c 1 (by omega)
  have lq := hq.lt (by omega)
  have HCELL : Hid (∀ W, Below w.heap.size w W → W.cell? ⟨q, 0, none⟩ = some (.pointer (some ⟨f, 0, none⟩)) ∧ W.cell? ⟨f, 1, none⟩ = some (.pointer (some ⟨g, 0, none⟩)) ∧ ∀ i, i < vs.length → av = some ⟨gv, 0, none⟩ ∧ W.cell? ⟨gv, i, none⟩ = some (.int .i64 (vs[i]?.getD 0))) := by
    intro W hW
    have hFW := hF.below hW
    refine ⟨(hq.of hW (by omega)).c 0 (by omega), hFW.nh.hd.c 1 (by omega), fun i hi => ?_⟩
    obtain ⟨h1, h2, _, h4⟩ := hvo (by omega)
    exact ⟨h1, (hW.cell (p := ⟨gv, i, none⟩) h2).trans (h4.c i hi)⟩
  have HF := Lib.hid hF
  have HN := Lib.hid hN
  have HLV := Lib.hid hlv
  obtain ⟨n, hn⟩ : ∃ n, vs.length = n := ⟨_, rfl⟩
  rw [hn] at k1 hl hr HCELL ⊢
  obtain ⟨w1, hmk, hown1, hgrow1⟩ := run_make_own (P := Tryz.prog) w w.heap.size 99 146 i0 (.agg #[.string ByteArray.empty, .int .i64 0]) 2 Tryz.underlying99 hi0 hz0 hz1 .i64 .i64 n (by rw [hz2]; omega) (by unfold maxLen; omega) (Nat.le_refl _)
  have hB1 : Below w.heap.size w w1 := (Below.refl _ w).grown hgrow1 (Nat.le_refl _) (fun k e => by cases e)
  have k1' : w1.cell? ⟨q, 1, none⟩ = some (.slice av n cap) := (hB1.cell (p := ⟨q, 1, none⟩) lq).trans k1
  have HO1 := Lib.hid hown1
  have HB1 := Lib.hid hB1
  clear hF hN hq hv hvo hlv hn hcap hown1 hgrow1 hB1
  go_enter Tryz.func170, Tryz.ntmps170
  go_wp2_with fail
  clear hmk k1 k1'
  go_loopw [3, 4, 5, 6, 7, 19] (fun sv _ _ _ _ iv wr => ∃ i : Nat, i ≤ n ∧ sv = .slice (some ⟨w.heap.size, 0, none⟩) i n ∧ iv = .int .i64 (i : Int) ∧ Below w.heap.size w wr ∧ wr.ownsRow w.heap.size 146 2 (.slice (some ⟨w.heap.size, 0, none⟩) i n) i (pcl (prsN F.all F.kt.es vs i))) (fun _ _ _ _ _ iv _ => n - (intOf iv).toNat)
  case atStart => exact ⟨0, Nat.zero_le _, rfl, rfl, HB1.out, HO1.out⟩
  case round =>
    clear HB1 HO1
    obtain ⟨i, hi, rfl, rfl, hB, hO⟩ := hrel
    by_cases hin : i < n
    · have ti : (i : Int) < (n : Int) := by omega
      obtain ⟨c0, c1, hcl⟩ := HCELL.out wr hB
      obtain ⟨ha0, hvi⟩ := hcl i hin
      subst ha0
      have CT := rowTable_any c0 c1
      have CA := at7_yes (HF.out.dt.below hB) i (by omega) (dead_live HLV.out (by omega))
      have e21 : IntKind.i64.wrap ((i : Int) + 1) = ((i + 1 : Nat) : Int) := by rw [i64_small (by omega) (by omega)]; omega
      obtain ⟨kk, nmk, hall, hkey, -⟩ := HN.out.nm _ (nth_mem (show i < F.kt.es.length by omega))
      have hnk : nmOf F.all (nth F.kt.es i).key = nmk := by rw [hkey]; exact nmOf_at hall
      have hkl : kk < F.all.length := (List.getElem?_eq_some_iff.1 hall).1
      obtain ⟨gn, hgn⟩ : ∃ gn, an = some ⟨gn, 0, none⟩ := by
        have h1 := HF.out.nh.ns
        rw [hnv] at h1
        rcases h1.2 with ⟨h2, h3⟩ | ⟨g', cap', cur', h2, _⟩
        · injection h2 with _ h4 _
          omega
        · injection h2 with h2 _ _
          exact ⟨g', h2⟩
      have HRE : Hid (pcl (prsN F.all F.kt.es vs (i + 1)) = pcl (prsN F.all F.kt.es vs i) ++ [.string nmk, .int .i64 (vs[i]?.getD 0)]) := by
        show pcl (prsN F.all F.kt.es vs i ++ _) = _
        rw [pcl_app, hnk]
        rfl
      have HCN : Hid (∀ W, Below w.heap.size w W → W.cell? ⟨q, 0, none⟩ = some (.pointer (some ⟨f, 0, none⟩)) ∧ W.cell? ⟨f, 5, none⟩ = some (.slice (some ⟨gn, 0, none⟩) F.all.length capn) ∧ W.cell? ⟨gn, kk, none⟩ = some (.string nmk)) := by
        intro W hW
        have hFW := HF.out.below hW
        refine ⟨(HCELL.out W hW).1, ?_, ?_⟩
        · have := hFW.nh.hd.c 5 (by omega); rw [hnv, hgn] at this; exact this
        · have h1 := hFW.nh.ns
          rw [hnv, hgn] at h1
          have h2 := World.ownsRow.cellAt h1 kk (by omega)
          rw [h2, List.getElem?_map, hall]
          rfl
      obtain ⟨R, hR⟩ : ∃ R, pcl (prsN F.all F.kt.es vs i) = R := ⟨_, rfl⟩
      rw [hR] at HRE hO
      have HB := Lib.hid hB
      have HO := Lib.hid hO
      clear hB hO hcl hR hnk hall
      generalize nth F.kt.es i = E at *
      generalize vs[i]?.getD 0 = vi at *
      go_wp2_with fail
      refine CT.mono ?_
      rintro e w2 ⟨rfl, rfl⟩
      clear CT
      go_wp2_with fail
      refine CA.mono ?_
      rintro e w6 ⟨rfl, hB6⟩
      clear CA
      obtain ⟨w7, hw7⟩ : ∃ y, w6.alloc (.cells #[.bool E.live, .int .i64 E.hash, .int .i64 E.key, .int .i64 E.value, .int .i64 E.birth] 107) = y := ⟨_, rfl⟩
      have hB7 : Below w2.heap.size w2 w7 := by rw [← hw7]; exact hB6.alloc hB6.size _
      have hX7 : Blk w7 w6.heap.size 5 (fun j => #[Value.bool E.live, .int .i64 E.hash, .int .i64 E.key, .int .i64 E.value, .int .i64 E.birth].getD j .nilFunc) := by rw [← hw7]; exact Blk.new w6 _ _
      have hs7 : w7.heap.size = w6.heap.size + 1 := by rw [← hw7]; simp
      have hBw7 : Below w.heap.size w w7 := HB.out.trans (hB7.mono HB.out.size)
      have hO7 : w7.ownsRow w.heap.size 146 2 (.slice (some ⟨w.heap.size, 0, none⟩) i n) i R := own_keep HO.out hB7
      obtain ⟨w8, hw8⟩ : ∃ y, (w7.alloc (.cells #[.string nmk, .int .i64 vi] 146)).drew = y := ⟨_, rfl⟩
      have hB8 : Below w7.heap.size w7 w8 := by rw [← hw8]; exact ((Below.refl _ w7).alloc (Nat.le_refl _) _).drew
      have hO8 : w8.ownsRow w.heap.size 146 2 (.slice (some ⟨w.heap.size, 0, none⟩) i n) i R := own_keep hO7 hB8
      have hX8 : Blk w8 w7.heap.size 2 (fun j => #[Value.string nmk, .int .i64 vi].getD j .nilFunc) := by rw [← hw8]; exact (Blk.new w7 _ _).same (w' := (w7.alloc (.cells #[.string nmk, .int .i64 vi] 146)).drew) rfl
      obtain ⟨w9, hap, hO9, hg9⟩ := run_append_fits (P := Tryz.prog) w8 w.heap.size 99 99 146 i0 2 Tryz.underlying99 hi0 hz1 w.heap.size i n R hO8 ⟨w7.heap.size, 0, none⟩ 1 1 [.string nmk, .int .i64 vi] rfl (fun j u hj => by
        have : j = 0 ∨ j = 1 := by have := (List.getElem?_eq_some_iff.1 hj).1; simp at this; omega
        rcases this with rfl | rfl
        · cases hj; exact hX8.c 0 (by omega)
        · cases hj; exact hX8.c 1 (by omega)) (pcl_one [(nmk, vi)]) (by omega)
      have hBw8 : Below w.heap.size w w8 := hBw7.trans (hB8.mono hBw7.size)
      have hB9 : Below w.heap.size w w9 := hBw8.grown hg9 hBw8.size (fun k e => by injection e with e; omega)
      rw [← HRE.out] at hO9
      have d2 : w7.drew.cell? ⟨w6.heap.size, 2, none⟩ = some (.int .i64 (kk : Int)) := by have := hX7.c 2 (by omega); rw [← hkey]; exact this
      obtain ⟨n0, n1, n2⟩ := HCN.out w7.drew hBw7.drew
      have hl6 : w6.heap.size < w7.heap.size := by omega
      have hw6 : w.heap.size ≤ w6.heap.size := Nat.le_trans HB.out.size hB6.size
      have hlg : w.heap.size < w2.heap.size := (World.ownsRow.lt HO.out w.heap.size rfl).2
      have d8 : w8.cell? ⟨w6.heap.size, 2, none⟩ = some (.int .i64 (kk : Int)) := (hB8.cell (p := ⟨w6.heap.size, 2, none⟩) hl6).trans d2
      have d9 : w9.cell? ⟨w6.heap.size, 2, none⟩ = some (.int .i64 (kk : Int)) := (World.cell?_of_block (a := ⟨w6.heap.size, 2, none⟩) (hg9.block w6.heap.size (by have := hB8.size; omega) (fun e => by injection e with e; have := hB6.size; omega))).trans d8
      have HK7 : Hid ((w7.drew.cell? ⟨q, 0, none⟩ = some (.pointer (some ⟨f, 0, none⟩)) ∧ w7.drew.cell? ⟨f, 5, none⟩ = some (.slice (some ⟨gn, 0, none⟩) F.all.length capn)) ∧ w7.drew.cell? ⟨w6.heap.size, 2, none⟩ = some (.int .i64 (kk : Int)) ∧ w7.drew.cell? ⟨gn, kk, none⟩ = some (.string nmk)) := ⟨⟨n0, n1⟩, d2, n2⟩
      have HK8 : Hid ((w8.cell? ⟨q, 0, none⟩ = some (.pointer (some ⟨f, 0, none⟩)) ∧ w8.cell? ⟨f, 5, none⟩ = some (.slice (some ⟨gn, 0, none⟩) F.all.length capn)) ∧ w8.cell? ⟨w6.heap.size, 2, none⟩ = some (.int .i64 (kk : Int)) ∧ w8.cell? ⟨gn, kk, none⟩ = some (.string nmk)) := ⟨⟨(HCN.out w8 hBw8).1, (HCN.out w8 hBw8).2.1⟩, d8, (HCN.out w8 hBw8).2.2⟩
      have HK9 : Hid ((w9.cell? ⟨q, 0, none⟩ = some (.pointer (some ⟨f, 0, none⟩)) ∧ w9.cell? ⟨f, 5, none⟩ = some (.slice (some ⟨gn, 0, none⟩) F.all.length capn)) ∧ w9.cell? ⟨w6.heap.size, 2, none⟩ = some (.int .i64 (kk : Int)) ∧ w9.cell? ⟨gn, kk, none⟩ = some (.string nmk)) := ⟨⟨(HCN.out w9 hB9).1, (HCN.out w9 hB9).2.1⟩, d9, (HCN.out w9 hB9).2.2⟩
      have HW7 := Lib.hid hw7
      have HW8 := Lib.hid hw8
      have HF9 : Hid (Below w.heap.size w w9 ∧ w9.ownsRow w.heap.size 146 2 (.slice (some ⟨w.heap.size, 0, none⟩) (i + 1) n) (i + 1) (pcl (prsN F.all F.kt.es vs (i + 1)))) := ⟨hB9, hO9⟩
      have tkk : (kk : Int) < (F.all.length : Int) := by omega
      have hs7d : w7.drew.heap.size = w7.heap.size := rfl
      have HAP : Hid ((Builtin.append_ #[99, 99] 99 #[.slice (some ⟨w.heap.size, 0, none⟩) i n, .slice (some ⟨w7.heap.size, 0, none⟩) 1 1]).run Tryz.prog w8 = .ok (.slice (some ⟨w.heap.size, 0, none⟩) (i + 1) n) w9) := hap
      rw [← hw8] at hap
      clear hw7 hw8 hB6 hB7 hX7 hX8 hO7 hO8 hB8 hO9 hg9 hBw8 hB9 hBw7 n0 n1 n2 d2 d8 d9 hkey
      go_upto_region 6 with fail
      rw [HW7.out]
      go_region_held3 (fun V => (V.cell? ⟨q, 0, none⟩ = some (.pointer (some ⟨f, 0, none⟩)) ∧ V.cell? ⟨f, 5, none⟩ = some (.slice (some ⟨gn, 0, none⟩) F.all.length capn)) ∧ V.cell? ⟨w6.heap.size, 2, none⟩ = some (.int .i64 (kk : Int)) ∧ V.cell? ⟨gn, kk, none⟩ = some (.string nmk))
        (first | with_reducible exact HK7.out | with_reducible exact HK9.out | (rw [HW8.out]; with_reducible exact HK8.out) | fail) (first | (refine step_append_run rfl _ _ 99 rfl _ _ _ w9 (by simp [Act.eval]) (by simp [Act.eval]) hap ?_) | fail)
      go_wp2_with fail
      go_roundw
      case rel => exact ⟨i + 1, by omega, by first | rfl | trivial, by first | rfl | trivial, HF9.out.1, HF9.out.2⟩
      case measure => simp [intOf]; omega
    · obtain rfl : i = n := by omega
      have ti : ¬ (i : Int) < (i : Int) := by omega
      have HFN : Hid (PsB w.heap.size wr (.slice (some ⟨w.heap.size, 0, none⟩) i i) (prsN F.all F.kt.es vs i)) := by
        show World.ownsRow _ _ _ _ _ _ _
        rw [prsN_len]
        exact hO
      clear hO
      go_wp2
      go_ret
      exact ⟨_, rfl, HFN.out, hB⟩
end Go.Proofs.YtcbhpjpkjmlcnaaGreat
namespace Go.Proofs.YtcbhpjpkjmlcnaaGreat
open Go.RowKit Go.WideShapes
attribute [local go_sem] Oper.semAt_some

/-- The pairs of entries. -/
def prsO (all : List ByteArray) (es : List En) : List (ByteArray × Int) := es.map fun e => (nmOf all e.key, e.value)
/-- Behind k rounds. -/
structure PoI (w : World) (q : Nat) (all : List ByteArray) (es : List En) (G bp b N : Nat) (v0 : Value) (Z k : Nat) (W : World) : Prop where
  bl : Below w.heap.size w W
  b1 : W.cell? ⟨w.heap.size, 0, none⟩ = some (.pointer (some ⟨q, 0, none⟩))
  b3 : W.cell? ⟨bp, 0, none⟩ = some (.slice (some ⟨G, 0, none⟩) k N)
  z3 : W.frozen? ⟨bp, 0, none⟩ = false
  ow : W.ownsRow w.heap.size 146 2 (.slice (some ⟨G, 0, none⟩) k N) k (pcl (prsO all ((liveL es).take k)))
  es : Es W v0 es
  ib : W.cell? ⟨b, 0, none⟩ = some v0
  sz : Z ≤ W.heap.size
theorem own_same2 {w w' : World} {B n size : Nat} {t : TypeId} {v : Value} {xs : List Value} (h : w.ownsRow B t size v n xs) (e : ∀ k, v.ownBlock = some k → w'.heap[k]? = w.heap[k]?) : w'.ownsRow B t size v n xs := by
  refine ⟨h.1, ?_⟩
  rcases h.2 with x | ⟨g, cap, cur, hv, h1, h2, h3⟩
  · exact .inl x
  · exact .inr ⟨g, cap, cur, hv, h1, (e g (by rw [hv]; rfl)).trans h2, h3⟩
/-- .. while only other blocks are altered. -/
theorem PoI.same {w : World} {q : Nat} {all : List ByteArray} {es : List En} {G bp b N : Nat} {v0 : Value} {Z k : Nat} {W W' : World} (x : PoI w q all es G bp b N v0 Z k W) (hz : w.heap.size < Z) (hG : G < Z) (hbp : bp < Z) (hb : b < Z) (hv : ∀ j, v0.ownBlock = some j → j < Z) (hbl : Below w.heap.size w W') (hs : W.heap.size ≤ W'.heap.size) (e : ∀ j, j < W.heap.size → j ≠ Z + 1 → W'.heap[j]? = W.heap[j]?) : PoI w q all es G bp b N v0 Z k W' := by
  have hsz := x.sz
  have c : ∀ (j o : Nat) {u : Value}, j < Z → W.cell? ⟨j, o, none⟩ = some u → W'.cell? ⟨j, o, none⟩ = some u := fun j o u hj h => (World.cell?_of_block (a := ⟨j, o, none⟩) (e j (by omega) (by omega))).trans h
  exact ⟨hbl, c _ 0 hz x.b1, c _ 0 hbp x.b3, (World.frozen?_of_block (a := ⟨bp, 0, none⟩) (e bp (by omega) (by omega))).trans x.z3, own_same2 x.ow fun j hj => by cases hj; exact e G (by omega) (by omega), x.es.same fun j hj => e j (by have := hv j hj; omega) (by have := hv j hj; omega), c _ 0 hb x.ib, by omega⟩
set_option maxRecDepth 100000 in
set_option maxHeartbeats 8000000 in
theorem ownPairs_any {w : World} {q f g gi r h : Nat} {ev : Value} {mb : Nat} {nv : Value} {F : Fa} {mv : Value} {tg tgi tr th : Nat} {tev : Value} {t : Tb} {hs : ByteArray → Int} (hF : Fam w f g gi r h ev mb nv F mv) (hq : Blk w q 2 (sdF f (.pointer (some ⟨tg, 0, none⟩)))) (hD : Dt w tg tgi tr th tev t mv) (hN : Nl hs F.all (liveL t.es)) (hlen : t.es.length ≤ 100000) :
    Calls Tryz.prog 211 #[.pointer (some ⟨q, 0, none⟩)] w fun e w' => ∃ v, e = .returned v ∧ PsB w.heap.size w' v (prsO F.all (liveL t.es)) ∧ Below w.heap.size w w' := by
  obtain ⟨i0, hi0, hz0, hz1, hz2⟩ := info_parts Tryz.infoPair
  obtain ⟨es, hes⟩ : ∃ es, t.es = es := ⟨_, rfl⟩
  obtain ⟨px, hpx, hpl⟩ := places es
  have hcn : cntL es es.length = (liveL es).length := cntL_all es
  have hll : (liveL es).length ≤ es.length := by have := liveL_len es; omega
  obtain ⟨an, capn, hnv⟩ := ownsRow_shape hF.nh.ns
  rw [hes] at hN hlen ⊢
  obtain ⟨N, hLL⟩ : ∃ N, (liveL es).length = N := ⟨_, rfl⟩
  rw [hLL] at hcn hll hpl
  have k3 : w.cell? ⟨tg, 3, none⟩ = some (.int .i64 (N : Int)) := by
    have h3 := hD.hd.c 3 (by omega)
    rw [show dF mv tgi tev t 3 = .int .i64 (N : Int) by show Value.int .i64 (t.live : Int) = _; rw [Tb.live_eq, hes, hLL]] at h3
    exact h3
  obtain ⟨w1, hw1⟩ : ∃ y, w.alloc (.cells #[.pointer (some ⟨q, 0, none⟩)] 229) = y := ⟨_, rfl⟩
  have hb1 : Below w.heap.size w w1 := by rw [← hw1]; exact (Below.refl _ w).alloc (Nat.le_refl _) _
  have hX1 : Blk w1 w.heap.size 1 (fun j => #[Value.pointer (some ⟨q, 0, none⟩)].getD j .nilFunc) := by rw [← hw1]; exact Blk.new w _ _
  have hs1 : w1.heap.size = w.heap.size + 1 := by rw [← hw1]; simp
  have c1 : w1.cell? ⟨w.heap.size, 0, none⟩ = some (.pointer (some ⟨q, 0, none⟩)) := hX1.c 0 (by omega)
  have cq1 : w1.cell? ⟨q, 1, none⟩ = some (.pointer (some ⟨tg, 0, none⟩)) := (hq.of hb1 (by omega)).c 1 (by omega)
  have CL := len_any ((hb1.cell (p := ⟨tg, 3, none⟩) (lt_of_cell k3)).trans k3)
  have cqa : (w.alloc (.cells #[.pointer (some ⟨q, 0, none⟩)] 229)).cell? ⟨q, 1, none⟩ = some (.pointer (some ⟨tg, 0, none⟩)) := by rw [hw1]; exact cq1
  have HF := Lib.hid hF
  have HQ := Lib.hid hq
  have HD := Lib.hid hD
  have HN := Lib.hid hN
  have HPL := Lib.hid hpl
  have HW1 := Lib.hid hw1
  have HPRE : Hid (∀ w2, w1.grownBy w2 none → (w2.alloc (.cells #[.slice (some ⟨w.heap.size + 1, 0, none⟩) 0 N] 99)).cell? ⟨w.heap.size, 0, none⟩ = some (.pointer (some ⟨q, 0, none⟩)) ∧ (w2.alloc (.cells #[.slice (some ⟨w.heap.size + 1, 0, none⟩) 0 N] 99)).cell? ⟨q, 1, none⟩ = some (.pointer (some ⟨tg, 0, none⟩))) := by
    intro w2 hgrow2
    have hb2 : Below w1.heap.size w1 w2 := (Below.refl _ w1).grown hgrow2 (Nat.le_refl _) (fun k e => by cases e)
    have hb3 : Below w1.heap.size w1 (w2.alloc (.cells #[.slice (some ⟨w.heap.size + 1, 0, none⟩) 0 N] 99)) := hb2.alloc hb2.size _
    exact ⟨(hb3.cell (p := ⟨w.heap.size, 0, none⟩) (by show w.heap.size < _; omega)).trans c1, (hb3.cell (p := ⟨q, 1, none⟩) (lt_of_cell cq1)).trans cq1⟩
  refine callsIn_wide.1 (callsIn_of_wp_marks (n := 0) Tryz.func211 rfl trivial ?_ rfl)
  simp only [Tryz.ntmps211, List.size_toArray, List.length_cons, List.length_nil, Nat.reduceAdd, Nat.reduceSub, Array.replicate_succ, Array.replicate_zero, List.push_toArray, List.append_toArray, List.nil_append, List.cons_append]
  clear hw1 hF hD hN hpl k3 hq
  gi_wp2_with fail
  rw [HW1.out]
  refine ⟨trivial, rfl, (callsIn_wide.2 CL).mono ?_⟩
  rintro e w1' ⟨rfl, h1'⟩
  rw [h1']
  clear CL h1'
  gi_wp2_with (gi_at_make; refine wpListIn_make_own _ rfl _ _ 99 rfl w.heap.size 146 i0 (.agg #[.string ByteArray.empty, .int .i64 0]) 2 Tryz.underlying99 hi0 hz0 hz1 .i64 .i64 _ N rfl rfl rfl (by rw [hz2]; omega) (by unfold maxLen; omega) (by omega) ?_; intro w2 hown2 hgrow2; obtain ⟨d1a, dqa⟩ := HPRE.out w2 hgrow2)
  rw [hs1] at hown2
  have hb2 : Below w1.heap.size w1 w2 := (Below.refl _ w1).grown hgrow2 (Nat.le_refl _) (fun k e => by cases e)
  have hG2 : w.heap.size + 1 < w2.heap.size := (hown2.lt (w.heap.size + 1) rfl).2
  obtain ⟨w3, hw3⟩ : ∃ y, w2.alloc (.cells #[.slice (some ⟨w.heap.size + 1, 0, none⟩) 0 N] 99) = y := ⟨_, rfl⟩
  have hb3 : Below w2.heap.size w2 w3 := by rw [← hw3]; exact (Below.refl _ w2).alloc (Nat.le_refl _) _
  have hX3 : Blk w3 w2.heap.size 1 (fun j => #[Value.slice (some ⟨w.heap.size + 1, 0, none⟩) 0 N].getD j .nilFunc) := by rw [← hw3]; exact Blk.new w2 _ _
  have hs3 : w3.heap.size = w2.heap.size + 1 := by rw [← hw3]; simp
  have hb13 : Below w1.heap.size w1 w3 := hb2.trans (hb3.mono hb2.size)
  have hbw3 : Below w.heap.size w w3 := hb1.trans (hb13.mono hb1.size)
  have hown3 : w3.ownsRow w.heap.size 146 2 (.slice (some ⟨w.heap.size + 1, 0, none⟩) 0 N) 0 [] := by rw [← hw3]; exact World.ownsRow.alloc hown2 _
  have d1 : w3.cell? ⟨w.heap.size, 0, none⟩ = some (.pointer (some ⟨q, 0, none⟩)) := (hb13.cell (p := ⟨w.heap.size, 0, none⟩) (by show w.heap.size < _; omega)).trans c1
  have dq : w3.cell? ⟨q, 1, none⟩ = some (.pointer (some ⟨tg, 0, none⟩)) := (HQ.out.of hbw3 (by omega)).c 1 (by omega)
  have hD3 := HD.out.below hbw3
  have CA := all7_new (hD3.hd.c 2 (by omega)) hD3.es (by rw [hes]; exact hlen)
  rw [hes] at CA
  have HW3 := Lib.hid hw3
  have d3 : w3.cell? ⟨w2.heap.size, 0, none⟩ = some (.slice (some ⟨w.heap.size + 1, 0, none⟩) 0 N) := hX3.c 0 (by omega)
  have z3 : w3.frozen? ⟨w2.heap.size, 0, none⟩ = false := hX3.z 0
  have HO3 := Lib.hid hown3
  clear hw3 hD3 hb13 hX3 hX1 hb2 hb3 hown2 hgrow2 hown3
  generalize hGG : w.heap.size + 1 = G at *
  generalize hbb : w2.heap.size = bp at *
  gi_wp2_with fail
  rw [HW3.out]
  refine ⟨trivial, rfl, (callsIn_wide.2 CA).mono ?_⟩
  rintro e w4 ⟨b, v0, rfl, hbge, hbl, hbc, hE4, hvb, hB4⟩
  clear CA
  have hs4 := hB4.size
  have hI0 : PoI w q F.all es G bp b N v0 w4.heap.size 0 w4 := ⟨hbw3.trans (hB4.mono (by omega)), (hB4.cell (p := ⟨w.heap.size, 0, none⟩) (by show w.heap.size < _; omega)).trans d1, (hB4.cell (p := ⟨bp, 0, none⟩) (by show bp < _; omega)).trans d3, (World.frozen?_of_block (a := ⟨bp, 0, none⟩) (hB4.block bp (by omega))).trans z3, own_keep HO3.out hB4, hE4.es, hbc, Nat.le_refl _⟩
  have hlv := hE4.es.lt
  have hvg := hE4.ge
  have HSQ := Lib.hid (all1_fr (es := es) (v := v0) b w4 hlen px hpx)
  have HI0 := Lib.hid hI0
  clear hI0 hE4 hB4 hpx c1 cq1 cqa dqa d1a dq d1 d3 z3 HO3 hbw3
  rw [hcn] at HSQ
  clear hcn
  gi_wp2_with fail
  refine wpIn_range_fr (fun l => { target := .fn (.func 74) #[.pointer (some ⟨b, 0, none⟩)], args := #[.func (.yield l) #[] #[]] }) (fun l W => by simp [resolve, Deferred.ofValue, go_sem, Act.eval]) (fun l W => by simp [invoke, go_sem, Tryz.call74])
    HSQ.out (fun _ => rfl) (fun k W => PoI w q F.all es G bp b N v0 w4.heap.size k W) ?hI ?hIp (fun k W h => ⟨h.es, h.ib⟩) HI0.out
    (fun k a' W => ∃ bx, w4.heap.size + 2 ≤ bx ∧ PoI w q F.all es G bp b N v0 w4.heap.size k W ∧ Blk W bx 5 (fun j => #[Value.bool (nth es (px k)).live, .int .i64 (nth es (px k)).hash, .int .i64 (nth es (px k)).key, .int .i64 (nth es (px k)).value, .int .i64 (nth es (px k)).birth].getD j .nilFunc) ∧ a' = { tmps := #[.pointer (some ⟨q, 0, none⟩), .pointer (some ⟨w.heap.size, 0, none⟩), .slice none 0 0, .pointer (some ⟨bp, 0, none⟩), undef, .pointer (some ⟨bx, 0, none⟩), .pointer (some ⟨q, 0, none⟩), .pointer (some ⟨q, 0, none⟩), .pointer (some ⟨q, 1, none⟩), .pointer (some ⟨tg, 0, none⟩), .int .i64 (N : Int), .slice (some ⟨G, 0, none⟩) 0 N, .pointer (some ⟨q, 0, none⟩), .pointer (some ⟨q, 0, none⟩), .pointer (some ⟨q, 1, none⟩), .pointer (some ⟨tg, 0, none⟩), .func (.func 74) #[] #[.pointer (some ⟨b, 0, none⟩)], .int .i64 (px k : Int), eV (nth es (px k)), undef, undef, undef, undef, undef, undef, undef, undef, undef, undef, undef, undef, undef, undef, undef, undef, undef, undef], defers := [] }) ?hA ?assign ?body ?done
  case hI =>
    rintro k A A' x hb
    exact x.same (by omega) (by omega) (by omega) (by omega) hlv (x.bl.trans (hb.mono x.bl.size)) hb.size (fun j hj _ => hb.block j hj)
  case hIp =>
    rintro k A o x
    have hsA := x.sz
    exact x.same (by omega) (by omega) (by omega) (by omega) hlv (x.bl.trans (below_put (by omega))) (by simp) (fun j _ hj => World.putObj_heap_other hj)
  case hA =>
    rintro k a' W o ⟨bx, hbx, x, hX, ha⟩
    exact ⟨bx, hbx, x.same (by omega) (by omega) (by omega) (by omega) hlv (x.bl.trans (below_put (by omega))) (by simp) (fun j _ hj => World.putObj_heap_other hj), hX.same (World.putObj_heap_other (by omega)), ha⟩
  case assign =>
    intro l k W K hsz hk hI hK
    unfold eV at hK ⊢
    have HI := Lib.hid hI
    obtain ⟨W1, hW1⟩ : ∃ y, W.alloc (.cells #[Value.bool (nth es (px k)).live, .int .i64 (nth es (px k)).hash, .int .i64 (nth es (px k)).key, .int .i64 (nth es (px k)).value, .int .i64 (nth es (px k)).birth] 107) = y := ⟨_, rfl⟩
    have hB1 : Below W.heap.size W W1 := by rw [← hW1]; exact (Below.refl _ W).alloc (Nat.le_refl _) _
    have hX1 : Blk W1 W.heap.size 5 (fun j => #[Value.bool (nth es (px k)).live, .int .i64 (nth es (px k)).hash, .int .i64 (nth es (px k)).key, .int .i64 (nth es (px k)).value, .int .i64 (nth es (px k)).birth].getD j .nilFunc) := by rw [← hW1]; exact Blk.new W _ _
    have hKK := hK _ W1 ⟨W.heap.size, hsz, HI.out.same (by omega) (by omega) (by omega) (by omega) hlv (HI.out.bl.trans (hB1.mono HI.out.bl.size)) hB1.size (fun j hj _ => hB1.block j hj), hX1, rfl⟩ hB1
    have HKK := Lib.hid hKK
    have HW1' := Lib.hid hW1
    clear hI hK hKK hB1 hX1 hW1
    gi_wp2_with fail
    rw [HW1'.out]
    exact HKK.out
  case body =>
    rintro l k a' W hk hszW ⟨bx, hbx, hI, hX, rfl⟩
    rw [(HPL.out k hk).2] at hX ⊢
    obtain ⟨kk, nmk, hall, hkey, -⟩ := HN.out.nm _ (nth_mem (show k < (liveL es).length by omega))
    have hnk : nmOf F.all (nth (liveL es) k).key = nmk := by rw [hkey]; exact nmOf_at hall
    have hFW := HF.out.below hI.bl
    obtain ⟨gn, hgn⟩ : ∃ gn, an = some ⟨gn, 0, none⟩ := by
      have hpos : 0 < F.all.length := by have := (List.getElem?_eq_some_iff.1 hall).1; omega
      have h1 := hFW.nh.ns
      rw [hnv] at h1
      rcases h1.2 with ⟨h2, h3⟩ | ⟨g', cap', cur', h2, _⟩
      · injection h2 with _ h4 _
        omega
      · injection h2 with h2 _ _
        exact ⟨g', h2⟩
    subst hgn
    have hkl : kk < F.all.length := (List.getElem?_eq_some_iff.1 hall).1
    have cn : W.cell? ⟨gn, kk, none⟩ = some (.string nmk) := by
      have h1 := hFW.nh.ns
      rw [hnv] at h1
      have h2 := World.ownsRow.cellAt h1 kk (by omega)
      rw [h2, List.getElem?_map, hall]
      rfl
    have c5 : W.cell? ⟨f, 5, none⟩ = some (.slice (some ⟨gn, 0, none⟩) F.all.length capn) := by have := hFW.nh.hd.c 5 (by omega); rw [hnv] at this; exact this
    have c2 : W.cell? ⟨bx, 2, none⟩ = some (.int .i64 (kk : Int)) := by have := hX.c 2 (by omega); rw [← hkey]; exact this
    have c3 : W.cell? ⟨bx, 3, none⟩ = some (.int .i64 (nth (liveL es) k).value) := hX.c 3 (by omega)
    have cq : W.cell? ⟨q, 0, none⟩ = some (.pointer (some ⟨f, 0, none⟩)) := (HQ.out.of hI.bl (by omega)).c 0 (by omega)
    have cb := hI.b3
    have zb := hI.z3
    have b1 := hI.b1
    have hown := hI.ow
    have lf : f < w.heap.size := HF.out.lt f (.inl (.inl rfl))
    have lq : q < w.heap.size := HQ.out.lt (by omega)
    have lgn : gn < w.heap.size := HF.out.lt gn (.inl (.inr (.inr (by rw [hnv]; rfl))))
    have lbx := hX.lt (by omega)
    have HRE : Hid (pcl (prsO F.all ((liveL es).take (k + 1))) = pcl (prsO F.all ((liveL es).take k)) ++ [.string nmk, .int .i64 (nth (liveL es) k).value]) := by
      show _ = _
      rw [take_succ_nth (show k < (liveL es).length by omega)]
      unfold prsO
      rw [List.map_append, pcl_app, ← hnk]
      rfl
    obtain ⟨R, hR⟩ : ∃ R, pcl (prsO F.all ((liveL es).take k)) = R := ⟨_, rfl⟩
    rw [hR] at hown HRE
    have hnA : (kk : Int) < (F.all.length : Int) := by omega
    have HI := Lib.hid hI
    clear hFW hI hX hkey hall hnk hR
    unfold eV
    generalize (nth (liveL es) k).live = e1 at *
    generalize (nth (liveL es) k).hash = e2 at *
    generalize (nth (liveL es) k).key = e3 at *
    generalize (nth (liveL es) k).birth = e4 at *
    generalize (nth (liveL es) k).value = vi at *
    have hsW := HI.out.bl.size
    have lA : (W.drew.alloc (.cells #[.string nmk, .int .i64 vi] 146)).heap.size = W.heap.size + 1 := World.size_alloc _ _
    have al : ∀ (j o : Nat) {u : Value}, j < W.heap.size → W.cell? ⟨j, o, none⟩ = some u → (W.drew.alloc (.cells #[.string nmk, .int .i64 vi] 146)).cell? ⟨j, o, none⟩ = some u := fun j o u hj hc => (cell_alloc_old _ _ _ _ hj).trans hc
    have hX8 : Blk (W.drew.alloc (.cells #[.string nmk, .int .i64 vi] 146)) W.heap.size 2 (fun j => #[Value.string nmk, .int .i64 vi].getD j .nilFunc) := Blk.new W.drew _ _
    obtain ⟨w9, hap, hO9, hg9⟩ := run_append_fits (P := Tryz.prog) (W.drew.alloc (.cells #[.string nmk, .int .i64 vi] 146)) w.heap.size 99 99 146 i0 2 Tryz.underlying99 hi0 hz1 G k N R (World.ownsRow.alloc (show W.drew.ownsRow w.heap.size 146 2 (.slice (some ⟨G, 0, none⟩) k N) k R from hown) _) ⟨W.heap.size, 0, none⟩ 1 1 [.string nmk, .int .i64 vi] rfl (fun j u hj => by
        have : j = 0 ∨ j = 1 := by have := (List.getElem?_eq_some_iff.1 hj).1; simp at this; omega
        rcases this with rfl | rfl
        · cases hj; exact hX8.c 0 (by omega)
        · cases hj; exact hX8.c 1 (by omega)) (pcl_one [(nmk, vi)]) (by omega)
    have hGw : w.heap.size < G := by omega
    have e9 : ∀ j, j < W.heap.size → j ≠ G → w9.heap[j]? = W.heap[j]? := fun j hj hn => (hg9.block j (by omega) (fun e => by injection e with e; omega)).trans (Below.heap_alloc W.drew _ _ hj)
    have e10 : ∀ j, j < W.heap.size → j ≠ G → j ≠ bp → (w9.setCell ⟨bp, 0, none⟩ (.slice (some ⟨G, 0, none⟩) (k + 1) N)).heap[j]? = W.heap[j]? := fun j hj hn hj2 => (Below.heap_setCell _ _ _ _ hj2).trans (e9 j hj hn)
    have hz9 : W.heap.size + 1 ≤ w9.heap.size := by have := hg9.size; omega
    have qq : ∀ {X : World} (j o : Nat) {u : Value}, X.heap[j]? = W.heap[j]? → W.cell? ⟨j, o, none⟩ = some u → X.cell? ⟨j, o, none⟩ = some u := fun {X} j o {u} he hc => (World.cell?_of_block (a := ⟨j, o, none⟩) he).trans hc
    have cb9 : w9.cell? ⟨bp, 0, none⟩ = some (.slice (some ⟨G, 0, none⟩) k N) := qq _ 0 (e9 bp (by omega) (by omega)) cb
    have zb9 : w9.frozen? ⟨bp, 0, none⟩ = false := (World.frozen?_of_block (a := ⟨bp, 0, none⟩) (e9 bp (by omega) (by omega))).trans zb
    have HP : Hid (W.heap.size ≤ (w9.setCell ⟨bp, 0, none⟩ (.slice (some ⟨G, 0, none⟩) (k + 1) N)).heap.size ∧ (w9.setCell ⟨bp, 0, none⟩ (.slice (some ⟨G, 0, none⟩) (k + 1) N)).heap[w4.heap.size]? = W.heap[w4.heap.size]? ∧ (w9.setCell ⟨bp, 0, none⟩ (.slice (some ⟨G, 0, none⟩) (k + 1) N)).heap[w4.heap.size + 1]? = W.heap[w4.heap.size + 1]? ∧ PoI w q F.all es G bp b N v0 w4.heap.size (k + 1) (w9.setCell ⟨bp, 0, none⟩ (.slice (some ⟨G, 0, none⟩) (k + 1) N))) := by
      refine ⟨by simp [World.setCell]; omega, e10 _ (by omega) (by omega) (by omega), e10 _ (by omega) (by omega) (by omega), ?_⟩
      have hbw : Below w.heap.size w w9 := ⟨hg9.os.trans HI.out.bl.os, hg9.tape.trans HI.out.bl.tape, hg9.output.trans HI.out.bl.output, by omega, fun j hj => (e9 j (by omega) (by omega)).trans (HI.out.bl.block j hj)⟩
      refine ⟨hbw.setCell (p := ⟨bp, 0, none⟩) (by show w.heap.size ≤ bp; omega) _, qq _ 0 (e10 _ (by omega) (by omega) (by omega)) b1, World.cell?_setCell_same' _ _ _ (by rw [cb9]; rfl), by rw [World.frozen?_setCell]; exact zb9, ?_, HI.out.es.same fun j hj => e10 j (by have := hlv j hj; omega) ?_ ?_, qq _ 0 (e10 _ (by omega) (by omega) (by omega)) HI.out.ib, by simp [World.setCell]; omega⟩
      · rw [HRE.out]
        exact own_same2 hO9 fun j hj => Below.heap_setCell _ _ _ _ (by show j ≠ bp; have hjG := Option.some.inj (show some G = some j from hj); omega)
      · have := hvg j hj; omega
      · have := hvg j hj; omega
    have t1 : W.drew.cell? ⟨bp, 0, none⟩ = some (.slice (some ⟨G, 0, none⟩) k N) := cb
    have t2 : (W.alloc (.cells #[.string nmk, .int .i64 vi] 146)).cell? ⟨bp, 0, none⟩ = some (.slice (some ⟨G, 0, none⟩) k N) := al _ 0 (by omega) cb
    obtain ⟨nA, hnAe⟩ : ∃ nA, F.all.length = nA := ⟨_, rfl⟩
    rw [hnAe] at hnA c5
    have s0 : (W.drew.cell? ⟨w.heap.size, 0, none⟩ = some (.pointer (some ⟨q, 0, none⟩)) ∧ W.drew.cell? ⟨q, 0, none⟩ = some (.pointer (some ⟨f, 0, none⟩)) ∧ W.drew.cell? ⟨f, 5, none⟩ = some (.slice (some ⟨gn, 0, none⟩) nA capn)) ∧ W.drew.cell? ⟨bx, 2, none⟩ = some (.int .i64 (kk : Int)) ∧ W.drew.cell? ⟨bx, 3, none⟩ = some (.int .i64 vi) ∧ W.drew.cell? ⟨gn, kk, none⟩ = some (.string nmk) := ⟨⟨b1, cq, c5⟩, c2, c3, cn⟩
    have s8 : ((W.drew.alloc (.cells #[.string nmk, .int .i64 vi] 146)).cell? ⟨w.heap.size, 0, none⟩ = some (.pointer (some ⟨q, 0, none⟩)) ∧ (W.drew.alloc (.cells #[.string nmk, .int .i64 vi] 146)).cell? ⟨q, 0, none⟩ = some (.pointer (some ⟨f, 0, none⟩)) ∧ (W.drew.alloc (.cells #[.string nmk, .int .i64 vi] 146)).cell? ⟨f, 5, none⟩ = some (.slice (some ⟨gn, 0, none⟩) nA capn)) ∧ (W.drew.alloc (.cells #[.string nmk, .int .i64 vi] 146)).cell? ⟨bx, 2, none⟩ = some (.int .i64 (kk : Int)) ∧ (W.drew.alloc (.cells #[.string nmk, .int .i64 vi] 146)).cell? ⟨bx, 3, none⟩ = some (.int .i64 vi) ∧ (W.drew.alloc (.cells #[.string nmk, .int .i64 vi] 146)).cell? ⟨gn, kk, none⟩ = some (.string nmk) := ⟨⟨al _ 0 (by omega) b1, al _ 0 (by omega) cq, al _ 5 (by omega) c5⟩, al _ 2 lbx c2, al _ 3 lbx c3, al _ kk (by omega) cn⟩
    have s9 : (w9.cell? ⟨w.heap.size, 0, none⟩ = some (.pointer (some ⟨q, 0, none⟩)) ∧ w9.cell? ⟨q, 0, none⟩ = some (.pointer (some ⟨f, 0, none⟩)) ∧ w9.cell? ⟨f, 5, none⟩ = some (.slice (some ⟨gn, 0, none⟩) nA capn)) ∧ w9.cell? ⟨bx, 2, none⟩ = some (.int .i64 (kk : Int)) ∧ w9.cell? ⟨bx, 3, none⟩ = some (.int .i64 vi) ∧ w9.cell? ⟨gn, kk, none⟩ = some (.string nmk) := ⟨⟨qq _ 0 (e9 _ (by omega) (by omega)) b1, qq _ 0 (e9 _ (by omega) (by omega)) cq, qq _ 5 (e9 _ (by omega) (by omega)) c5⟩, qq _ 2 (e9 _ lbx (by omega)) c2, qq _ 3 (e9 _ lbx (by omega)) c3, qq _ kk (e9 _ (by omega) (by omega)) cn⟩
    have s10 : ((w9.setCell ⟨bp, 0, none⟩ (.slice (some ⟨G, 0, none⟩) (k + 1) N)).cell? ⟨w.heap.size, 0, none⟩ = some (.pointer (some ⟨q, 0, none⟩)) ∧ (w9.setCell ⟨bp, 0, none⟩ (.slice (some ⟨G, 0, none⟩) (k + 1) N)).cell? ⟨q, 0, none⟩ = some (.pointer (some ⟨f, 0, none⟩)) ∧ (w9.setCell ⟨bp, 0, none⟩ (.slice (some ⟨G, 0, none⟩) (k + 1) N)).cell? ⟨f, 5, none⟩ = some (.slice (some ⟨gn, 0, none⟩) nA capn)) ∧ (w9.setCell ⟨bp, 0, none⟩ (.slice (some ⟨G, 0, none⟩) (k + 1) N)).cell? ⟨bx, 2, none⟩ = some (.int .i64 (kk : Int)) ∧ (w9.setCell ⟨bp, 0, none⟩ (.slice (some ⟨G, 0, none⟩) (k + 1) N)).cell? ⟨bx, 3, none⟩ = some (.int .i64 vi) ∧ (w9.setCell ⟨bp, 0, none⟩ (.slice (some ⟨G, 0, none⟩) (k + 1) N)).cell? ⟨gn, kk, none⟩ = some (.string nmk) := ⟨⟨qq _ 0 (e10 _ (by omega) (by omega) (by omega)) b1, qq _ 0 (e10 _ (by omega) (by omega) (by omega)) cq, qq _ 5 (e10 _ (by omega) (by omega) (by omega)) c5⟩, qq _ 2 (e10 _ lbx (by omega) (by omega)) c2, qq _ 3 (e10 _ lbx (by omega) (by omega)) c3, qq _ kk (e10 _ (by omega) (by omega) (by omega)) cn⟩
    clear e9 e10 qq hX8 hO9 hg9 al b1 cq c5 c2 c3 cn cb zb hown HI
    refine wpIn_block ?_
    refine wpIn_mono (Q := fun e _ W' => e = .normal ∧ (W.heap.size ≤ W'.heap.size ∧ W'.heap[w4.heap.size]? = W.heap[w4.heap.size]? ∧ W'.heap[w4.heap.size + 1]? = W.heap[w4.heap.size + 1]? ∧ PoI w q F.all es G bp b N v0 w4.heap.size (k + 1) W')) ?_ ?_
    case refine_2 =>
      rintro e a3 W3 ⟨rfl, h3⟩
      exact h3
    refine region_round (S := fun V => (V.cell? ⟨w.heap.size, 0, none⟩ = some (.pointer (some ⟨q, 0, none⟩)) ∧ V.cell? ⟨q, 0, none⟩ = some (.pointer (some ⟨f, 0, none⟩)) ∧ V.cell? ⟨f, 5, none⟩ = some (.slice (some ⟨gn, 0, none⟩) nA capn)) ∧ V.cell? ⟨bx, 2, none⟩ = some (.int .i64 (kk : Int)) ∧ V.cell? ⟨bx, 3, none⟩ = some (.int .i64 vi) ∧ V.cell? ⟨gn, kk, none⟩ = some (.string nmk)) (by kernel_rfl) (fun ⟨_, _, h, _⟩ => by cases h) (by kernel_rfl) s0 (fun hSc => ?_)
    refine take_slot (i := 1) (d := some 20) (v := ?_) rfl rfl (by kernel_rfl) (by kernel_rfl) (by kernel_rfl) (fun _ _ _ h => h) (Or.inl ⟨by rfl, ?hy⟩) hSc ?_
    case hy => (intro w hSw; (try dsimp only at hSw); go_simp; try with_reducible rfl)
    simp only [Act.put, List.setIfInBounds_toArray, List.set_cons_zero, List.set_cons_succ]
    refine take_slot (i := 2) (d := some 21) (v := ?_) rfl rfl (by kernel_rfl) (by kernel_rfl) (by kernel_rfl) (fun _ _ _ h => h) (Or.inl ⟨by rfl, ?hy⟩) hSc ?_
    case hy => (intro w hSw; (try dsimp only at hSw); go_simp; try with_reducible rfl)
    simp only [Act.put, List.setIfInBounds_toArray, List.set_cons_zero, List.set_cons_succ]
    refine take_slot (i := 3) (d := some 22) (v := ?_) rfl rfl (by kernel_rfl) (by kernel_rfl) (by kernel_rfl) (fun _ _ _ h => h) (Or.inl ⟨by rfl, ?hy⟩) hSc ?_
    case hy => (intro w hSw; (try dsimp only at hSw); go_simp; try with_reducible rfl)
    simp only [Act.put, List.setIfInBounds_toArray, List.set_cons_zero, List.set_cons_succ]
    refine take_slot (i := 4) (d := some 23) (v := ?_) rfl rfl (by kernel_rfl) (by kernel_rfl) (by kernel_rfl) (fun _ _ _ h => h) (Or.inl ⟨by rfl, ?hy⟩) hSc ?_
    case hy => (intro w hSw; (try dsimp only at hSw); go_simp; try with_reducible rfl)
    simp only [Act.put, List.setIfInBounds_toArray, List.set_cons_zero, List.set_cons_succ]
    refine take_slot (i := 5) (d := some 24) (v := ?_) rfl rfl (by kernel_rfl) (by kernel_rfl) (by kernel_rfl) (fun _ _ _ h => h) (Or.inl ⟨by rfl, ?hy⟩) hSc ?_
    case hy => (intro w hSw; (try dsimp only at hSw); go_simp; try with_reducible rfl)
    simp only [Act.put, List.setIfInBounds_toArray, List.set_cons_zero, List.set_cons_succ]
    refine take_slot (i := 6) (d := some 25) (v := ?_) rfl rfl (by kernel_rfl) (by kernel_rfl) (by kernel_rfl) (fun _ _ _ h => h) (Or.inl ⟨by rfl, ?hy⟩) hSc ?_
    case hy => (intro w hSw; (try dsimp only at hSw); go_simp; try with_reducible rfl)
    simp only [Act.put, List.setIfInBounds_toArray, List.set_cons_zero, List.set_cons_succ]
    refine take_slot (i := 7) (d := some 26) (v := ?_) rfl rfl (by kernel_rfl) (by kernel_rfl) (by kernel_rfl) (fun _ _ _ h => h) (Or.inl ⟨by rfl, ?hy⟩) hSc ?_
    case hy => (intro w hSw; (try dsimp only at hSw); go_simp; try with_reducible rfl)
    simp only [Act.put, List.setIfInBounds_toArray, List.set_cons_zero, List.set_cons_succ]
    refine take_slot (i := 8) (d := some 27) (v := ?_) rfl rfl (by kernel_rfl) (by kernel_rfl) (by kernel_rfl) (fun _ _ _ h => h) (Or.inl ⟨by rfl, ?hy⟩) hSc ?_
    case hy => (intro w hSw; (try dsimp only at hSw); go_simp; try with_reducible rfl)
    simp only [Act.put, List.setIfInBounds_toArray, List.set_cons_zero, List.set_cons_succ]
    refine take_slot (i := 9) (d := some 28) (v := ?_) rfl rfl (by kernel_rfl) (by kernel_rfl) (by kernel_rfl) (fun _ _ _ h => h) (Or.inl ⟨by rfl, ?hy⟩) hSc ?_
    case hy => (intro w hSw; (try dsimp only at hSw); go_simp; try with_reducible rfl)
    simp only [Act.put, List.setIfInBounds_toArray, List.set_cons_zero, List.set_cons_succ]
    refine take_slot (i := 10) (d := some 29) (v := ?_) rfl rfl (by kernel_rfl) (by kernel_rfl) (by kernel_rfl) (fun _ _ _ h => h) (Or.inl ⟨by rfl, ?hy⟩) hSc ?_
    case hy => (intro w hSw; (try dsimp only at hSw); go_simp; try with_reducible rfl)
    simp only [Act.put, List.setIfInBounds_toArray, List.set_cons_zero, List.set_cons_succ]
    refine take_slot (i := 11) (d := some 30) (v := ?_) rfl rfl (by kernel_rfl) (by kernel_rfl) (by kernel_rfl) (fun _ _ _ h => h) (Or.inl ⟨by rfl, ?hy⟩) hSc ?_
    case hy => (intro w hSw; (try dsimp only at hSw); go_simp; try with_reducible rfl)
    simp only [Act.put, List.setIfInBounds_toArray, List.set_cons_zero, List.set_cons_succ]
    refine take_slot (i := 12) (d := some 31) (v := ?_) rfl rfl (by kernel_rfl) (by kernel_rfl) (by kernel_rfl) (fun _ _ _ h => h) (Or.inl ⟨by rfl, ?hy⟩) hSc ?_
    case hy => (intro w hSw; (try dsimp only at hSw); go_simp; try with_reducible rfl)
    simp only [Act.put, List.setIfInBounds_toArray, List.set_cons_zero, List.set_cons_succ]
    refine take_slot (i := 13) (d := some 32) (v := ?_) rfl rfl (by kernel_rfl) (by kernel_rfl) (by kernel_rfl) (fun _ _ _ h => h) (Or.inl ⟨by rfl, ?hy⟩) hSc ?_
    case hy => (intro w hSw; (try dsimp only at hSw); go_simp; try with_reducible rfl)
    simp only [Act.put, List.setIfInBounds_toArray, List.set_cons_zero, List.set_cons_succ]
    refine take_slot (i := 14) (d := some 33) (v := ?_) rfl rfl (by kernel_rfl) (by kernel_rfl) (by kernel_rfl) (fun _ _ _ h => h) (Or.inl ⟨by rfl, ?hy⟩) hSc ?_
    case hy => (intro w hSw; (try dsimp only at hSw); go_simp; try with_reducible rfl)
    simp only [Act.put, List.setIfInBounds_toArray, List.set_cons_zero, List.set_cons_succ]
    refine wpAnyH_ready (rs := [0, 15]) (by kernel_rfl) (by simp) ?_
    refine AllReadyH.cons rfl (fun K hK => ?_) (AllReadyH.cons rfl (fun K hK => ?_) AllReadyH.nil)
    · go_simp
      refine hK.out _ _ s0 (fun hSn => ?_)
      clear hK K
      try simp only [Act.put, List.setIfInBounds_toArray, List.set_cons_zero, List.set_cons_succ]
      refine wpAnyH_ready (rs := [15]) (by kernel_rfl) (by simp) ?_
      refine AllReadyH.cons rfl (fun K hK => ?_) AllReadyH.nil
      go_simp
      refine hK.out _ _ s8 (fun hSn => ?_)
      clear hK K
      show wpAnyH _ _ _ _ _ _ _ _ (W.drew.alloc (.cells #[.string nmk, .int .i64 vi] 146))
      try simp only [Act.put, List.setIfInBounds_toArray, List.set_cons_zero, List.set_cons_succ]
      refine wpAnyH_ready (rs := [16]) (by kernel_rfl) (by simp) ?_
      refine AllReadyH.cons rfl (fun K hK => ?_) AllReadyH.nil
      refine step_append_run rfl _ _ 99 rfl _ _ _ w9 (by simp [Act.eval]) (by simp [Act.eval]) hap ?_
      refine hK.out _ _ s9 (fun hSn => ?_)
      clear hK K
      refine wpAnyH_ready (rs := [17]) (by kernel_rfl) (by simp) ?_
      refine AllReadyH.cons rfl (fun K hK => ?_) AllReadyH.nil
      go_simp
      refine hK.out _ _ s10 (fun hSn => ?_)
      clear hK K
      exact wpAnyH_done (by kernel_rfl) ⟨rfl, HP.out⟩ _
    · go_simp
      refine hK.out _ _ s8 (fun hSn => ?_)
      clear hK K
      try simp only [Act.put, List.setIfInBounds_toArray, List.set_cons_zero, List.set_cons_succ]
      refine wpAnyH_ready (rs := [0]) (by kernel_rfl) (by simp) ?_
      refine AllReadyH.cons rfl (fun K hK => ?_) AllReadyH.nil
      go_simp
      refine hK.out _ _ s8 (fun hSn => ?_)
      clear hK K
      show wpAnyH _ _ _ _ _ _ _ _ (W.drew.alloc (.cells #[.string nmk, .int .i64 vi] 146))
      try simp only [Act.put, List.setIfInBounds_toArray, List.set_cons_zero, List.set_cons_succ]
      refine wpAnyH_ready (rs := [16]) (by kernel_rfl) (by simp) ?_
      refine AllReadyH.cons rfl (fun K hK => ?_) AllReadyH.nil
      refine step_append_run rfl _ _ 99 rfl _ _ _ w9 (by simp [Act.eval]) (by simp [Act.eval]) hap ?_
      refine hK.out _ _ s9 (fun hSn => ?_)
      clear hK K
      refine wpAnyH_ready (rs := [17]) (by kernel_rfl) (by simp) ?_
      refine AllReadyH.cons rfl (fun K hK => ?_) AllReadyH.nil
      go_simp
      refine hK.out _ _ s10 (fun hSn => ?_)
      clear hK K
      exact wpAnyH_done (by kernel_rfl) ⟨rfl, HP.out⟩ _
  case done =>
    rintro W hI hK
    have hFin : PsB w.heap.size W (.slice (some ⟨G, 0, none⟩) N N) (prsO F.all (liveL es)) ∧ Below w.heap.size w W := by
      refine ⟨?_, hI.bl⟩
      have h1 := hI.ow
      rw [← hLL, List.take_length] at h1
      unfold PsB
      rw [show (prsO F.all (liveL es)).length = (liveL es).length by unfold prsO; simp, ← hLL]
      exact h1
    have cb := hI.b3
    have HFN := Lib.hid hFin
    clear hI hFin
    gi_wp2_with fail
    gi_wp2
    refine ⟨by simp, .inl ⟨_, _, rfl, run_takeDeferred hK, ?_⟩⟩
    refine ⟨_, results_tmp rfl _ _ _, _, rfl, ?_, HFN.out.2.trans (below_put (by omega))⟩
    exact own_same2 HFN.out.1 (fun j hj => World.putObj_heap_other (by have hjG := Option.some.inj (show some G = some j from hj); omega))
end Go.Proofs.YtcbhpjpkjmlcnaaGreat
namespace Go.Proofs.YtcbhpjpkjmlcnaaGreat
open Go.RowKit Go.WideShapes

/-- Two entries that are the same. -/
def eqE (x y : En) : Bool := x.live == y.live && (x.hash == y.hash && (x.key == y.key && (x.value == y.value && x.birth == y.birth)))
theorem eqE_iff (x y : En) : eqE x y = true ↔ x = y := by
  cases x; cases y
  simp [eqE]
theorem en_eqV (x y : En) (w : World) : (binOp .eql 107 (eV x) (eV y)).run Tryz.prog w = .ok (.bool (eqE x y)) w := by
  unfold eV eqE
  have hu : Tryz.prog.underlying 107 = some (.struct (Tryz.prog.fieldsOf 107)) := by kernel_rfl
  have hp : Tryz.prog.stoodInHeld 107 = false := by kernel_rfl
  rw [run_eql_struct, run_equalIn_agg w 9999 _ _ _ hu hp]
  have hF : (Tryz.prog.fieldsOf 107).toList = [⟨"Live", 4, 0, false, "", "", 0⟩, ⟨"Hash", 3, 1, false, "", "", 8⟩, ⟨"Key", 3, 2, false, "", "", 16⟩, ⟨"Value", 3, 3, false, "", "", 24⟩, ⟨"Birth", 3, 4, false, "", "", 32⟩] := by kernel_rfl
  rw [hF]
  by_cases h0 : x.live = y.live
  · by_cases h1 : x.hash = y.hash
    · by_cases h2 : x.key = y.key
      · by_cases h3 : x.value = y.value
        · by_cases h4 : x.birth = y.birth
          · simp [Op.eqFields, go_sem, h0, h1, h2, h3, h4]
          · simp [Op.eqFields, go_sem, h0, h1, h2, h3, h4]
        · simp [Op.eqFields, go_sem, h0, h1, h2, h3]
      · simp [Op.eqFields, go_sem, h0, h1, h2]
    · simp [Op.eqFields, go_sem, h0, h1]
  · simp [Op.eqFields, go_sem, h0]
theorem en_neV (x y : En) (w : World) : (binOp .neq 107 (eV x) (eV y)).run Tryz.prog w = .ok (.bool (!eqE x y)) w := by
  have h := en_eqV x y w
  unfold eV at h ⊢
  rw [run_eql_struct] at h
  rw [run_neq_struct]
  cases hr : (Op.equalIn 10000 107 (.agg #[.bool x.live, .int .i64 x.hash, .int .i64 x.key, .int .i64 x.value, .int .i64 x.birth]) (.agg #[.bool y.live, .int .i64 y.hash, .int .i64 y.key, .int .i64 y.value, .int .i64 y.birth])).run Tryz.prog w with
  | ok b w' =>
    rw [hr] at h
    simp [Result.andThen] at h ⊢
    obtain ⟨rfl, rfl⟩ := h
    exact ⟨rfl, rfl⟩
  | halt a w' => rw [hr] at h; simp [Result.andThen] at h
end Go.Proofs.YtcbhpjpkjmlcnaaGreat
namespace Go.Proofs.YtcbhpjpkjmlcnaaGreat
open Go.RowKit Go.WideShapes

theorem SgV.keep {B B' : Nat} {w w' : World} {t : Tb} {hc : Nat} {ev' : Value} (h : SgV B w t hc ev') (hB : B' ≤ B) (e : ∀ k, B ≤ k → w'.heap[k]? = w.heap[k]?) : SgV B' w' t hc ev' := by
  refine ⟨h.row.same (e _ h.hB), ?_, Nat.le_trans hB h.hB, h.ne⟩
  have h1 := h.es.es.same (w' := w') (fun k hk => e k (h.es.ge k hk))
  have h2 := h.es.ge
  refine ⟨h1.1, ?_⟩
  rcases h1.2 with h0 | ⟨g, cap, cur, e', q1, q2⟩
  · exact .inl h0
  · exact .inr ⟨g, cap, cur, e', Nat.le_trans hB (h2 g (by rw [e']; rfl)), q2⟩
set_option maxRecDepth 100000 in
theorem fsight_any {w : World} {d g gi r h : Nat} {ev : Value} {t : Tb} {mv : Value} (hk : w.cell? ⟨d, 1, none⟩ = some (.pointer (some ⟨g, 0, none⟩))) (hD : Dt w g gi r h ev t mv) (hlen : t.es.length ≤ 100000) :
    Calls Tryz.prog 17 #[.pointer (some ⟨d, 0, none⟩)] w fun e w' => ∃ hc ev', e = .returned (sgV t hc ev') ∧ SgV w.heap.size w' t hc ev' ∧ Below w.heap.size w w' := by
  obtain ⟨w1, hw1⟩ : ∃ x, w.alloc (.cells #[.int .i64 0, .int .i64 0, .slice none 0 0, .slice none 0 0, .int .i64 0, .int .i64 0, .int .i64 0] 73) = x := ⟨_, rfl⟩
  have hB1 : Below w.heap.size w w1 := by rw [← hw1]; exact (Below.refl _ w).alloc (Nat.le_refl _) _
  have hR1 : Blk w1 w.heap.size 7 zS := by
    rw [← hw1]
    refine (Blk.new w _ _).congr fun j hj => ?_
    have : j = 0 ∨ j = 1 ∨ j = 2 ∨ j = 3 ∨ j = 4 ∨ j = 5 ∨ j = 6 := by simp at hj; omega
    rcases this with rfl | rfl | rfl | rfl | rfl | rfl | rfl <;> rfl
  have C1 := keys_yes ((hB1.cell (p := ⟨d, 1, none⟩) (lt_of_cell hk)).trans hk)
  have C2 := dsight_any (hD.below hB1) hlen
  have hl1 := hR1.lt (by omega)
  have HB1 := Lib.hid hB1
  have HR1 := Lib.hid hR1
  have HW1 := Lib.hid hw1
  clear hk hD hB1 hR1 hw1
  unfold sgV at C2 ⊢
  generalize 2 ^ t.L = S at C2 ⊢
  go_enter Tryz.func17, Tryz.ntmps17
  go_upto_region 1 with fail
  rw [HW1.out]
  go_wp2_with fail
  refine C1.mono ?_
  rintro e w2 ⟨rfl, hw2⟩
  rw [hw2]
  clear hw2 C1
  go_wp2_with fail
  refine C2.mono ?_
  rintro e w3 ⟨hc, ev', rfl, hSg, hB3⟩
  clear C2
  have hR3 := HR1.out.of hB3 (by omega)
  have q0 : w3.cell? ⟨w.heap.size, 0, none⟩ = some (.int .i64 0) := hR3.c 0 (by omega)
  have q1 : w3.cell? ⟨w.heap.size, 1, none⟩ = some (.int .i64 0) := hR3.c 1 (by omega)
  have q2 : w3.cell? ⟨w.heap.size, 2, none⟩ = some (.slice none 0 0) := hR3.c 2 (by omega)
  have q3 : w3.cell? ⟨w.heap.size, 3, none⟩ = some (.slice none 0 0) := hR3.c 3 (by omega)
  have q4 : w3.cell? ⟨w.heap.size, 4, none⟩ = some (.int .i64 0) := hR3.c 4 (by omega)
  have q5 : w3.cell? ⟨w.heap.size, 5, none⟩ = some (.int .i64 0) := hR3.c 5 (by omega)
  have q6 : w3.cell? ⟨w.heap.size, 6, none⟩ = some (.int .i64 0) := hR3.c 6 (by omega)
  have z0 := hR3.z 0
  have z1 := hR3.z 1
  have z2 := hR3.z 2
  have z3 := hR3.z 3
  have z4 := hR3.z 4
  have z5 := hR3.z 5
  have z6 := hR3.z 6
  have HA9 := Lib.hid (put7_blk hR3 (.int .i64 (t.L : Int)) (.int .i64 (wd t.L : Int)) (.slice (some ⟨hc, 0, none⟩) S S) ev' (.int .i64 (t.live : Int)) (.int .i64 (t.births : Int)) (.int .i64 (t.made : Int)))
  have HB9 := Lib.hid (put7_below (HB1.out.trans (hB3.mono HB1.out.size)) w.heap.size (Nat.le_refl _) (.int .i64 (t.L : Int)) (.int .i64 (wd t.L : Int)) (.slice (some ⟨hc, 0, none⟩) S S) ev' (.int .i64 (t.live : Int)) (.int .i64 (t.births : Int)) (.int .i64 (t.made : Int)))
  have HS9 := Lib.hid (hSg.keep (B' := w.heap.size) HB1.out.size (fun k hk => put7_other w3 w.heap.size (.int .i64 (t.L : Int)) (.int .i64 (wd t.L : Int)) (.slice (some ⟨hc, 0, none⟩) S S) ev' (.int .i64 (t.live : Int)) (.int .i64 (t.births : Int)) (.int .i64 (t.made : Int)) k (by omega)))
  clear hR3 hSg hB3
  unfold put7 at HA9 HB9 HS9
  obtain ⟨ca, cn, cc, rfl⟩ : ∃ ca cn cc, ev' = .slice ca cn cc := by
    obtain ⟨a, cap, ge, hh, _⟩ := HS9.out.es.es.open
    exact ⟨a, _, cap, hh⟩
  go_wp2_with fail
  generalize World.setCell (World.setCell (World.setCell (World.setCell (World.setCell (World.setCell (World.setCell w3 _ _) _ _) _ _) _ _) _ _) _ _) _ _ = w9 at *
  have p0 := HA9.out.c 0 (by omega)
  have p1 := HA9.out.c 1 (by omega)
  have p2 := HA9.out.c 2 (by omega)
  have p3 := HA9.out.c 3 (by omega)
  have p4 := HA9.out.c 4 (by omega)
  have p5 := HA9.out.c 5 (by omega)
  have p6 := HA9.out.c 6 (by omega)
  simp at p0 p1 p2 p3 p4 p5 p6
  refine bodyPost_ret (v := .agg #[.int .i64 (t.L : Int), .int .i64 (wd t.L : Int), .slice (some ⟨hc, 0, none⟩) S S, .slice ca cn cc, .int .i64 (t.live : Int), .int .i64 (t.births : Int), .int .i64 (t.made : Int)]) ?_ rfl ⟨hc, _, rfl, HS9.out, HB9.out⟩
  simp [results, Tryz.results17, go_sem, p0, p1, p2, p3, p4, p5, p6]
set_option maxRecDepth 100000 in
set_option maxHeartbeats 8000000 in
theorem sight10_any (log width live births made : Int) (ca1 ca2 ea1 ea2 : Option Addr) (cn cc1 cc2 en ec1 ec2 : Nat) (f : Nat → Int) (es : List En) (w : World) (h1 : SlN w ca1 cn cc1 f) (h2 : SlN w ca2 cn cc2 f) (h3 : SlE w ea1 en ec1 es) (h4 : SlE w ea2 en ec2 es) (hc : cn ≤ 2000000) (hen : en ≤ 1000000) :
    Calls Tryz.prog 16 #[siV log width ca1 cn cc1 ea1 en ec1 live births made, siV log width ca2 cn cc2 ea2 en ec2 live births made] w fun e w' => e = .returned (.bool true) ∧ Below w.heap.size w w' := by
  obtain ⟨w1, hw1⟩ : ∃ w1, w.alloc (.cells #[.int .i64 log, .int .i64 width, .slice ca1 cn cc1, .slice ea1 en ec1, .int .i64 live, .int .i64 births, .int .i64 made] 73) = w1 := ⟨_, rfl⟩
  have hB1 : Blk w1 w.heap.size 7 (fun j => #[Value.int .i64 log, .int .i64 width, .slice ca1 cn cc1, .slice ea1 en ec1, .int .i64 live, .int .i64 births, .int .i64 made].getD j .nilFunc) := by rw [← hw1]; exact Blk.new w _ _
  have hb1 : Below w.heap.size w w1 := by rw [← hw1]; exact (Below.refl _ w).alloc (Nat.le_refl _) _
  have hs1 : w1.heap.size = w.heap.size + 1 := by rw [← hw1]; simp
  obtain ⟨w2, hw2⟩ : ∃ w2, w1.alloc (.cells #[.int .i64 log, .int .i64 width, .slice ca2 cn cc2, .slice ea2 en ec2, .int .i64 live, .int .i64 births, .int .i64 made] 73) = w2 := ⟨_, rfl⟩
  have hB2 : Blk w2 w1.heap.size 7 (fun j => #[Value.int .i64 log, .int .i64 width, .slice ca2 cn cc2, .slice ea2 en ec2, .int .i64 live, .int .i64 births, .int .i64 made].getD j .nilFunc) := by rw [← hw2]; exact Blk.new w1 _ _
  have hb2 : Below w1.heap.size w1 w2 := by rw [← hw2]; exact (Below.refl _ w1).alloc (Nat.le_refl _) _
  have hB1' := hB1.of hb2 (by omega)
  rw [hs1] at hB2
  have HB1 := Lib.hid hB1'
  have HB2 := Lib.hid hB2
  have hl1 := hB1'.lt (by omega)
  have hl2 := hB2.lt (by omega)
  have HBW := Lib.hid (hb1.trans (hb2.mono hb1.size))
  have H1 := Lib.hid ((h1.below hb1).below hb2)
  have H2 := Lib.hid ((h2.below hb1).below hb2)
  have H3 := Lib.hid ((h3.below hb1).below hb2)
  have H4 := Lib.hid ((h4.below hb1).below hb2)
  have hcc1 := h1.1
  have hcc2 := h2.1
  have hec1 := h3.2.1
  have hec2 := h4.2.1
  have b0 : w2.cell? ⟨w.heap.size, 0, none⟩ = some (.int .i64 log) := hB1'.c 0 (by omega)
  have b1 : w2.cell? ⟨w.heap.size, 1, none⟩ = some (.int .i64 width) := hB1'.c 1 (by omega)
  have b2 : w2.cell? ⟨w.heap.size, 2, none⟩ = some (.slice ca1 cn cc1) := hB1'.c 2 (by omega)
  have b3 : w2.cell? ⟨w.heap.size, 3, none⟩ = some (.slice ea1 en ec1) := hB1'.c 3 (by omega)
  have b4 : w2.cell? ⟨w.heap.size, 4, none⟩ = some (.int .i64 live) := hB1'.c 4 (by omega)
  have b5 : w2.cell? ⟨w.heap.size, 5, none⟩ = some (.int .i64 births) := hB1'.c 5 (by omega)
  have b6 : w2.cell? ⟨w.heap.size, 6, none⟩ = some (.int .i64 made) := hB1'.c 6 (by omega)
  have d0 : w2.cell? ⟨w.heap.size + 1, 0, none⟩ = some (.int .i64 log) := hB2.c 0 (by omega)
  have d1 : w2.cell? ⟨w.heap.size + 1, 1, none⟩ = some (.int .i64 width) := hB2.c 1 (by omega)
  have d2 : w2.cell? ⟨w.heap.size + 1, 2, none⟩ = some (.slice ca2 cn cc2) := hB2.c 2 (by omega)
  have d3 : w2.cell? ⟨w.heap.size + 1, 3, none⟩ = some (.slice ea2 en ec2) := hB2.c 3 (by omega)
  have d4 : w2.cell? ⟨w.heap.size + 1, 4, none⟩ = some (.int .i64 live) := hB2.c 4 (by omega)
  have d5 : w2.cell? ⟨w.heap.size + 1, 5, none⟩ = some (.int .i64 births) := hB2.c 5 (by omega)
  have d6 : w2.cell? ⟨w.heap.size + 1, 6, none⟩ = some (.int .i64 made) := hB2.c 6 (by omega)
  have n0 : (log != log) = false := by simp
  have n1 : (width != width) = false := by simp
  have n4 : (live != live) = false := by simp
  have n5 : (births != births) = false := by simp
  have n6 : (made != made) = false := by simp
  have n2 : ((cn : Int) != (cn : Int)) = false := by simp
  have n3 : ((en : Int) != (en : Int)) = false := by simp
  clear hB1 hb1 hB2 hb2 hB1' h1 h2 h3 h4
  unfold siV
  go_enter Tryz.func16, Tryz.ntmps16
  go_upto_region 3 with fail
  clear hw1 hw2 b0 b1 b2 b3 b4 b5 b6 d0 d1 d2 d3 d4 d5 d6 n0 n1 n4 n5 n6 n2 n3 hs1
  go_wp2_with fail
  go_loopw [5] (fun iv wr => ∃ k : Nat, k ≤ cn ∧ iv = .int .i64 (k : Int) ∧ Below w2.heap.size w2 wr) (fun iv _ => cn - (intOf iv).toNat)
  case atStart => exact ⟨0, Nat.zero_le _, rfl, Below.refl _ _⟩
  case round =>
    obtain ⟨k, hk, rfl, hB⟩ := hrel
    have g2 : wr.cell? ⟨w.heap.size, 2, none⟩ = some (.slice ca1 cn cc1) := (HB1.out.of hB (by omega)).c 2 (by omega)
    by_cases hlt : k < cn
    · have t1 : (k : Int) < (cn : Int) := by omega
      have i2 : wr.cell? ⟨w.heap.size + 1, 2, none⟩ = some (.slice ca2 cn cc2) := (HB2.out.of hB (by omega)).c 2 (by omega)
      obtain ⟨_, p1, r1, s1⟩ := H1.out.below hB
      obtain ⟨_, p2, r2, s2⟩ := H2.out.below hB
      obtain ⟨e1, _⟩ := r1 (by omega)
      obtain ⟨e2, _⟩ := r2 (by omega)
      have x1 := s1 k hlt
      have x2 := s2 k hlt
      subst e1
      subst e2
      clear r1 r2 s1 s2
      generalize f k = y at x1 x2
      have n3 : (y != y) = false := by simp
      go_wp2_with fail
      go_region_held3 (fun V => (V.cell? ⟨w.heap.size, 2, none⟩ = some (.slice (some ⟨p1, 0, none⟩) cn cc1) ∧ V.cell? ⟨w.heap.size + 1, 2, none⟩ = some (.slice (some ⟨p2, 0, none⟩) cn cc2)) ∧ V.cell? ⟨p1, k, none⟩ = some (.int .i64 y) ∧ V.cell? ⟨p2, k, none⟩ = some (.int .i64 y))
        (first | exact ⟨⟨g2, i2⟩, x1, x2⟩ | fail) (fail)
      go_wp2_with fail
      go_roundw
      case rel => exact ⟨k + 1, by omega, by go_num, hB.drew⟩
      case measure => simp [intOf]; omega
    · have t1 : ¬ (k : Int) < (cn : Int) := by omega
      have g3 : wr.cell? ⟨w.heap.size, 3, none⟩ = some (.slice ea1 en ec1) := (HB1.out.of hB (by omega)).c 3 (by omega)
      have i3 : wr.cell? ⟨w.heap.size + 1, 3, none⟩ = some (.slice ea2 en ec2) := (HB2.out.of hB (by omega)).c 3 (by omega)
      have H3' := Lib.hid (H3.out.below hB)
      have H4' := Lib.hid (H4.out.below hB)
      have HB1w := Lib.hid (HB1.out.of hB (by omega))
      have HB2w := Lib.hid (HB2.out.of hB (by omega))
      have HBB := Lib.hid (HBW.out.trans (hB.mono HBW.out.size))
      clear hB H1 H2 H3 H4 HB1 HB2 HBW
      go_wp2_with fail
      clear g2 g3 i3
      go_loopw [6] (fun iv wq => ∃ k : Nat, k ≤ en ∧ iv = .int .i64 (k : Int) ∧ Below wr.heap.size wr wq) (fun iv _ => en - (intOf iv).toNat)
      case atStart => exact ⟨0, Nat.zero_le _, rfl, Below.refl _ _⟩
      case round =>
        obtain ⟨j, hj, rfl, hBj⟩ := hrel
        have g3 : wr.cell? ⟨w.heap.size, 3, none⟩ = some (.slice ea1 en ec1) := (HB1w.out.of hBj (by omega)).c 3 (by omega)
        by_cases hlt : j < en
        · have tj : (j : Int) < (en : Int) := by omega
          have i3 : wr.cell? ⟨w.heap.size + 1, 3, none⟩ = some (.slice ea2 en ec2) := (HB2w.out.of hBj (by omega)).c 3 (by omega)
          obtain ⟨-, -, p1, r1, s1⟩ := H3'.out.below hBj
          obtain ⟨-, -, p2, r2, s2⟩ := H4'.out.below hBj
          obtain ⟨e1, -⟩ := r1 (by omega)
          obtain ⟨e2, -⟩ := r2 (by omega)
          have x0 := s1.c0 j hlt
          have x1 := s1.c1 j hlt
          have x2 := s1.c2 j hlt
          have x3 := s1.c3 j hlt
          have x4 := s1.c4 j hlt
          have y0 := s2.c0 j hlt
          have y1 := s2.c1 j hlt
          have y2 := s2.c2 j hlt
          have y3 := s2.c3 j hlt
          have y4 := s2.c4 j hlt
          subst e1
          subst e2
          clear r1 r2 s1 s2
          generalize (nth es j).live = b0 at *
          generalize (nth es j).hash = z1 at *
          generalize (nth es j).key = z2 at *
          generalize (nth es j).value = z3 at *
          generalize (nth es j).birth = z4 at *
          have hq : ∀ W, (binOp .neq 107 (.agg #[.bool b0, .int .i64 z1, .int .i64 z2, .int .i64 z3, .int .i64 z4]) (.agg #[.bool b0, .int .i64 z1, .int .i64 z2, .int .i64 z3, .int .i64 z4])).run Tryz.prog W = .ok (.bool false) W := fun W => by
            have := en_neV ⟨b0, z1, z2, z3, z4⟩ ⟨b0, z1, z2, z3, z4⟩ W
            rw [show (!eqE ⟨b0, z1, z2, z3, z4⟩ ⟨b0, z1, z2, z3, z4⟩) = false by simp [eqE]] at this
            exact this
          go_wp2_with fail
          go_region_held3 (fun V => (V.cell? ⟨w.heap.size, 3, none⟩ = some (.slice (some ⟨p1, 0, none⟩) en ec1) ∧ V.cell? ⟨w.heap.size + 1, 3, none⟩ = some (.slice (some ⟨p2, 0, none⟩) en ec2)) ∧ ((V.cell? ⟨p1, j * 5, none⟩ = some (.bool b0) ∧ V.cell? ⟨p1, j * 5 + 1, none⟩ = some (.int .i64 z1)) ∧ (V.cell? ⟨p1, j * 5 + 2, none⟩ = some (.int .i64 z2) ∧ V.cell? ⟨p1, j * 5 + 3, none⟩ = some (.int .i64 z3) ∧ V.cell? ⟨p1, j * 5 + 4, none⟩ = some (.int .i64 z4))) ∧ (V.cell? ⟨p2, j * 5, none⟩ = some (.bool b0) ∧ V.cell? ⟨p2, j * 5 + 1, none⟩ = some (.int .i64 z1)) ∧ (V.cell? ⟨p2, j * 5 + 2, none⟩ = some (.int .i64 z2) ∧ V.cell? ⟨p2, j * 5 + 3, none⟩ = some (.int .i64 z3) ∧ V.cell? ⟨p2, j * 5 + 4, none⟩ = some (.int .i64 z4)))
            (first | exact ⟨⟨g3, i3⟩, ⟨⟨x0, x1⟩, x2, x3, x4⟩, ⟨y0, y1⟩, y2, y3, y4⟩ | fail) (fail)
          go_wp2_with fail
          go_roundw
          case rel => exact ⟨j + 1, by omega, by go_num, hBj.drew⟩
          case measure => simp [intOf]; omega
        · have tj : ¬ (j : Int) < (en : Int) := by omega
          go_wp2
          go_ret
          exact ⟨rfl, HBB.out.trans (hBj.mono HBB.out.size)⟩
/-- What two Sights told of one table is the same. -/
theorem sight10_same {w : World} {t : Tb} {B1 B2 h1 h2 : Nat} {e1 e2 : Value} (hlen : t.es.length ≤ 100000) (hsz : t.L ≤ 20) (hA : SgV B1 w t h1 e1) (hB : SgV B2 w t h2 e2) :
    Calls Tryz.prog 16 #[sgV t h1 e1, sgV t h2 e2] w fun e w' => e = .returned (.bool true) ∧ Below w.heap.size w w' := by
  obtain ⟨a1, cap1, hv1, hE1⟩ := hA.es.es.sl
  obtain ⟨a2, cap2, hv2, hE2⟩ := hB.es.es.sl
  rw [shw_len] at hv1 hE1 hv2 hE2
  have hP : 2 ^ t.L ≤ 1048576 := Nat.le_trans (Nat.pow_le_pow_right (n := 2) (by decide) hsz) (by decide)
  have hN1 : SlN w (some ⟨h1, 0, none⟩) (2 ^ t.L) (2 ^ t.L) t.c := ⟨Nat.le_refl _, h1, fun _ => ⟨rfl, hA.row.lt⟩, fun j hj => hA.row.cell j hj⟩
  have hN2 : SlN w (some ⟨h2, 0, none⟩) (2 ^ t.L) (2 ^ t.L) t.c := ⟨Nat.le_refl _, h2, fun _ => ⟨rfl, hB.row.lt⟩, fun j hj => hB.row.cell j hj⟩
  have := sight10_any (t.L : Int) (wd t.L : Int) (t.live : Int) (t.births : Int) (t.made : Int) (some ⟨h1, 0, none⟩) (some ⟨h2, 0, none⟩) a1 a2 (2 ^ t.L) (2 ^ t.L) (2 ^ t.L) t.es.length cap1 cap2 t.c (shw t.es) w hN1 hN2 hE1 hE2 (by omega) (by omega)
  subst hv1
  subst hv2
  exact this
end Go.Proofs.YtcbhpjpkjmlcnaaGreat
namespace Go.Proofs.YtcbhpjpkjmlcnaaGreat
open Go.RowKit Go.WideShapes

set_option maxRecDepth 100000 in
theorem rmake_any {w : World} {f : Nat} {F : Fa} {mr : Value} {XF : Nat → Prop} (hF : QfX w f F mr XF) (hm : ∀ k, mB mr k → k < w.heap.size) :
    Calls Tryz.prog 64 #[.pointer (some ⟨f, 0, none⟩)] w fun e w' => ∃ s XS, e = .returned (.pointer (some ⟨s, 0, none⟩)) ∧ Qp w' f F mr XF s (.row []) 0 XS ∧ (∀ k, XS k → w.heap.size ≤ k) ∧ Below w.heap.size w w' := by
  obtain ⟨w1, hw1⟩ : ∃ y, w.alloc (.cells #[.pointer (some ⟨f, 0, none⟩), .slice none 0 0, .pointer none, .int .i64 0] 97) = y := ⟨_, rfl⟩
  have hB1 : Below w.heap.size w w1 := by rw [← hw1]; exact (Below.refl _ w).alloc (Nat.le_refl _) _
  have hb : Blk w1 w.heap.size 4 (qsF f (.slice none 0 0) (.pointer none) 0) := by
    rw [← hw1]
    refine (Blk.new w _ _).congr fun j hj => ?_
    have : j = 0 ∨ j = 1 ∨ j = 2 ∨ j = 3 := by simp at hj; omega
    rcases this with rfl | rfl | rfl | rfl <;> rfl
  have HF : Hid (Qp w1 f F mr XF w.heap.size (.row []) 0 (fun k => k = w.heap.size ∨ (Value.slice none 0 0).ownBlock = some k) ∧ (∀ k, (k = w.heap.size ∨ (Value.slice none 0 0).ownBlock = some k) → w.heap.size ≤ k) ∧ Below w.heap.size w w1) := by
    refine ⟨⟨hF.same fun k hk => hB1.block k (hF.lt k hk), ⟨.slice none 0 0, hb, IntsR.nil _ _, (fun y => by cases y), rfl⟩, ?_, ?_⟩, ?_, hB1⟩
    · rintro k hk (y | y)
      · have := hF.lt k hk; omega
      · cases y
    · rintro k hk (y | y)
      · have := hm k hk; omega
      · cases y
    · rintro k (y | y)
      · omega
      · cases y
  have HW1 := Lib.hid hw1
  clear hw1 hB1 hb hF hm
  go_enter Tryz.func64, Tryz.ntmps64
  go_wp2
  rw [HW1.out]
  go_ret
  exact ⟨_, _, rfl, HF.out.1, HF.out.2.1, HF.out.2.2⟩
set_option maxRecDepth 100000 in
theorem rsh_no {w : World} {pm : Option Addr} (room most : Int) (h : ¬ (0 ≤ room ∧ room ≤ 256 ∧ 0 ≤ most ∧ most ≤ 65536)) :
    Calls Tryz.prog 28 #[.int .i64 room, .int .i64 most, .pointer pm] w fun e w' => e = .returned (.tuple #[.pointer none, .int .i64 1]) ∧ w' = w := by
  by_cases h1 : room < 0
  · go_enter Tryz.func28, Tryz.ntmps28
    go_wp2
    exact bodyPost_ret (v := .tuple #[.pointer none, .int .i64 1]) (by simp [results, Tryz.results28, go_sem]) rfl ⟨rfl, rfl⟩
  · by_cases h2 : 256 < room
    · go_enter Tryz.func28, Tryz.ntmps28
      go_wp2
      exact bodyPost_ret (v := .tuple #[.pointer none, .int .i64 1]) (by simp [results, Tryz.results28, go_sem]) rfl ⟨rfl, rfl⟩
    · by_cases h3 : most < 0
      · go_enter Tryz.func28, Tryz.ntmps28
        go_wp2
        exact bodyPost_ret (v := .tuple #[.pointer none, .int .i64 1]) (by simp [results, Tryz.results28, go_sem]) rfl ⟨rfl, rfl⟩
      · have h4 : 65536 < most := by omega
        go_enter Tryz.func28, Tryz.ntmps28
        go_wp2
        exact bodyPost_ret (v := .tuple #[.pointer none, .int .i64 1]) (by simp [results, Tryz.results28, go_sem]) rfl ⟨rfl, rfl⟩
set_option maxRecDepth 100000 in
set_option maxHeartbeats 1600000 in
theorem rsh_any {w : World} {pm : Option Addr} {a b c d : Int} (hM : Ms w (.pointer pm) a b c d) (ha : 0 ≤ a ∧ a ≤ 100000000) (room most : Nat) (hr : room ≤ 256) (hm : most ≤ 65536) :
    Calls Tryz.prog 28 #[.int .i64 (room : Int), .int .i64 (most : Int), .pointer pm] w fun e w' => ∃ f XF, e = .returned (.tuple #[.pointer (some ⟨f, 0, none⟩), .int .i64 0]) ∧ QfX w' f ⟨[], Tb.new, room, most⟩ (.pointer pm) XF ∧ (∀ k, XF k → w.heap.size ≤ k) ∧ Ms w' (.pointer pm) (a + 1) b c d ∧ Ex (mB (.pointer pm)) w w' := by
  have t1 : ¬ (room : Int) < 0 := by omega
  have t2 : ¬ (256 : Int) < (room : Int) := by omega
  have t3 : ¬ (most : Int) < 0 := by omega
  have t4 : ¬ (65536 : Int) < (most : Int) := by omega
  have CN := rtnew_s hM ⟨ha.1, by omega⟩
  have HM := Lib.hid hM
  clear hM
  go_enter Tryz.func28, Tryz.ntmps28
  go_wp2_with fail
  refine CN.mono ?_
  rintro e w1 ⟨g, q, rfl, hg, hq, hR, hM1, hx1⟩
  clear CN
  have hs1 := hx1.size
  obtain ⟨w3, hw3⟩ : ∃ y, w1.alloc (.cells #[.int .i64 (room : Int), .int .i64 (most : Int), .pointer (some ⟨g, 0, none⟩), .slice none 0 0, .pointer pm] 77) = y := ⟨_, rfl⟩
  have hB3 : Below w1.heap.size w1 w3 := by rw [← hw3]; exact (Below.refl _ w1).alloc (Nat.le_refl _) _
  have hF3 : Blk w3 w1.heap.size 5 (qfF room most g (.slice none 0 0) (.pointer pm)) := by
    rw [← hw3]
    refine (Blk.new w1 _ _).congr fun j hj => ?_
    have : j = 0 ∨ j = 1 ∨ j = 2 ∨ j = 3 ∨ j = 4 := by simp at hj; omega
    rcases this with rfl | rfl | rfl | rfl | rfl <;> rfl
  have hl := hR.lt'
  have HF : Hid (QfX w3 w1.heap.size ⟨[], Tb.new, room, most⟩ (.pointer pm) (qfX w1.heap.size g (.slice none 0 0) q (.slice none 0 0)) ∧ (∀ k, qfX w1.heap.size g (.slice none 0 0) q (.slice none 0 0) k → w.heap.size ≤ k) ∧ Ms w3 (.pointer pm) (a + 1) b c d ∧ Ex (mB (.pointer pm)) w w3) := by
    refine ⟨⟨g, _, q, _, ⟨hF3, hR.below hB3, Ns.nil _, fun y => (by have := hl _ y; omega), fun k hk => (by cases hk), fun k hk => ⟨(by have := hM1.lt k hk; omega), fun y => (by cases y)⟩⟩, rfl⟩, ?_, hM1.below hB3, hx1.trans (ex_of hB3)⟩
    rintro k (y | y | y | y | y)
    · omega
    · omega
    · omega
    · cases y
    · cases y
  have HW3 := Lib.hid hw3
  clear hw3 hB3 hF3 hR hM1 hx1 hl
  go_wp2
  rw [HW3.out]
  exact bodyPost_ret (v := .tuple #[.pointer (some ⟨w1.heap.size, 0, none⟩), .int .i64 0]) (by simp [results, Tryz.results28, go_sem]) rfl ⟨_, _, rfl, HF.out.1, HF.out.2.1, HF.out.2.2.1, HF.out.2.2.2⟩
end Go.Proofs.YtcbhpjpkjmlcnaaGreat
namespace Go.Proofs.YtcbhpjpkjmlcnaaGreat
open Go.RowKit Go.WideShapes

/-- A namespace of both sides. -/
structure Sx10 where
  s : Nat
  s2 : Nat
  v : Nat
  st : Stn
  XS : Nat → Prop
  XR : Nat → Prop
/-- The law's state: a family, the document's, their namespaces, the two rows of them. -/
structure S10 where
  f : Nat
  f2 : Nat
  F : Fa
  XF : Nat → Prop
  XG : Nat → Prop
  n : Nat
  sp : Nat → Sx10
  rs : Value
  rk : Value
def x10F (S : S10) : Nat → Value
  | 0 => .pointer (some ⟨S.f, 0, none⟩)
  | 1 => .pointer (some ⟨S.f2, 0, none⟩)
  | 2 => S.rs
  | _ => S.rk
def ptrs (f : Nat → Nat) : Nat → List Value
  | 0 => []
  | n + 1 => ptrs f n ++ [.pointer (some ⟨f n, 0, none⟩)]
theorem ptrs_len (f : Nat → Nat) : ∀ n, (ptrs f n).length = n
  | 0 => rfl
  | n + 1 => by rw [ptrs, List.length_append, ptrs_len f n]; rfl
theorem ptrs_get (f : Nat → Nat) : ∀ n j, j < n → (ptrs f n)[j]? = some (.pointer (some ⟨f j, 0, none⟩))
  | 0, j, h => by omega
  | n + 1, j, h => by
    by_cases e : j < n
    · rw [ptrs, List.getElem?_append_left (by rw [ptrs_len]; exact e)]
      exact ptrs_get f n j e
    · obtain rfl : j = n := by omega
      rw [ptrs, List.getElem?_append_right (by rw [ptrs_len]; omega), ptrs_len]
      simp
theorem ptrs_congr {f g : Nat → Nat} : ∀ n, (∀ i, i < n → f i = g i) → ptrs f n = ptrs g n
  | 0, _ => rfl
  | n + 1, h => by rw [ptrs, ptrs, ptrs_congr n (fun i hi => h i (by omega)), h n (by omega)]
/-- A function but for one place. -/
def updA {A : Type} (f : Nat → A) (k : Nat) (x : A) (i : Nat) : A := if i = k then x else f i
theorem updA_at {A : Type} (f : Nat → A) (k : Nat) (x : A) : updA f k x k = x := if_pos rfl
theorem updA_ne {A : Type} (f : Nat → A) {k i : Nat} (x : A) (h : i ≠ k) : updA f k x i = f i := if_neg h
/-- All blocks of it. -/
def S10.all (S : S10) (X b : Nat) : Prop := b = X ∨ S.rs.ownBlock = some b ∨ S.rk.ownBlock = some b ∨ S.XF b ∨ S.XG b ∨ ∃ i, i < S.n ∧ ((S.sp i).XS b ∨ (S.sp i).XR b)
/-- They have nothing in common. -/
structure Sep10 (n X : Nat) (S : S10) (mv mr : Value) (lab : Nat → Nat) : Prop where
  x : lab X = 0 ∧ X < n
  m : ∀ b, mB mv b → lab b = 1 ∧ b < n
  r : ∀ b, mB mr b → lab b = 2 ∧ b < n
  rs : ∀ b, S.rs.ownBlock = some b → lab b = 3 ∧ b < n
  rk : ∀ b, S.rk.ownBlock = some b → lab b = 4 ∧ b < n
  f : ∀ b, S.XF b → lab b = 5 ∧ b < n
  g : ∀ b, S.XG b → lab b = 6 ∧ b < n
  s : ∀ i, i < S.n → ∀ b, (S.sp i).XS b → lab b = 7 + 2 * i ∧ b < n
  k : ∀ i, i < S.n → ∀ b, (S.sp i).XR b → lab b = 8 + 2 * i ∧ b < n
structure Ns10 (w : World) (S : S10) (mv mr : Value) (c0 : Nat) (p : Sx10) : Prop where
  sm : Sm w p.s S.f mv p.v p.XS p.st
  qs : Qs w p.s2 S.f2 mr p.v p.XR p.st
  ok : p.st.Ok hsT S.F c0
  ver : p.v ≤ c0
/-- What has been counted is not much. -/
structure Ab10 (a b c d : Int) (c0 : Nat) : Prop where
  a : 0 ≤ a ∧ a ≤ (c0 : Int) * 1000 + 1
  b : 0 ≤ b ∧ b ≤ (c0 : Int) * 1048600
  c : 0 ≤ c ∧ c ≤ (c0 : Int)
  d : 0 ≤ d ∧ d ≤ (c0 : Int)
theorem Ab10.le {a b c d : Int} {c0 c1 : Nat} (h : Ab10 a b c d c0) (hc : c0 ≤ c1) : Ab10 a b c d c1 := ⟨⟨h.a.1, by have := h.a.2; omega⟩, ⟨h.b.1, by have := h.b.2; omega⟩, ⟨h.c.1, by have := h.c.2; omega⟩, ⟨h.d.1, by have := h.d.2; omega⟩⟩
structure P10 (w : World) (X : Nat) (S : S10) (mv mr : Value) (N : Int → Int → Int → Int → World → Prop) (a b c d : Int) (c0 : Nat) : Prop where
  hx : Blk w X 4 (x10F S)
  rs : w.ownsRow 0 81 1 S.rs S.n (ptrs (fun i => (S.sp i).s) S.n)
  rk : w.ownsRow 0 91 1 S.rk S.n (ptrs (fun i => (S.sp i).s2) S.n)
  nn : S.n ≤ 12
  fm : FamX w S.f S.F mv S.XF
  qf : QfX w S.f2 S.F mr S.XG
  sp : ∀ i, i < S.n → Ns10 w S mv mr c0 (S.sp i)
  fok : S.F.Ok hsT c0
  m : N a b c d w
  ms : Ms w mr a b c d
  ab : Ab10 a b c d c0
  sep : ∃ lab, Sep10 w.heap.size X S mv mr lab
theorem P10.lt {w : World} {X : Nat} {S : S10} {mv mr : Value} {N : Int → Int → Int → Int → World → Prop} {a b c d : Int} {c0 : Nat} (h : P10 w X S mv mr N a b c d c0) : ∀ k, S.all X k ∨ mB mv k ∨ mB mr k → k < w.heap.size := by
  obtain ⟨lab, sp⟩ := h.sep
  rintro k ((rfl | y | y | y | y | ⟨i, hi, y | y⟩) | y | y)
  · exact sp.x.2
  · exact (sp.rs k y).2
  · exact (sp.rk k y).2
  · exact (sp.f k y).2
  · exact (sp.g k y).2
  · exact (sp.s i hi k y).2
  · exact (sp.k i hi k y).2
  · exact (sp.m k y).2
  · exact (sp.r k y).2
theorem Ns10.same {w w' : World} {S : S10} {mv mr : Value} {c0 : Nat} {p : Sx10} (h : Ns10 w S mv mr c0 p) (e1 : ∀ b, p.XS b → w'.heap[b]? = w.heap[b]?) (e2 : ∀ b, p.XR b → w'.heap[b]? = w.heap[b]?) : Ns10 w' S mv mr c0 p := ⟨h.sm.same e1, h.qs.same e2, h.ok, h.ver⟩
/-- Other blocks turned. -/
theorem P10.keep {w w' : World} {X : Nat} {S : S10} {mv mr : Value} {N : Int → Int → Int → Int → World → Prop} {a b c d : Int} {c0 : Nat} (h : P10 w X S mv mr N a b c d c0) (hM4 : M4 mv N) (hs : w.heap.size ≤ w'.heap.size) (e : ∀ k, S.all X k ∨ mB mv k ∨ mB mr k → w'.heap[k]? = w.heap[k]?) : P10 w' X S mv mr N a b c d c0 := by
  obtain ⟨lab, sp⟩ := h.sep
  have up : ∀ {b l : Nat}, lab b = l ∧ b < w.heap.size → lab b = l ∧ b < w'.heap.size := fun h => ⟨h.1, Nat.lt_of_lt_of_le h.2 hs⟩
  exact ⟨h.hx.same (e _ (.inl (.inl rfl))), owns_same h.rs (fun k hk => e k (.inl (.inr (.inl hk)))), owns_same h.rk (fun k hk => e k (.inl (.inr (.inr (.inl hk))))), h.nn,
    h.fm.same (fun k hk => e k (.inl (.inr (.inr (.inr (.inl hk)))))), h.qf.same (fun k hk => e k (.inl (.inr (.inr (.inr (.inr (.inl hk))))))),
    fun i hi => (h.sp i hi).same (fun b hb => e b (.inl (.inr (.inr (.inr (.inr (.inr ⟨i, hi, .inl hb⟩))))))) (fun b hb => e b (.inl (.inr (.inr (.inr (.inr (.inr ⟨i, hi, .inr hb⟩))))))),
    h.fok, (hM4.mt c d).same _ _ _ _ h.m fun k hk => e k (.inr (.inl hk)), h.ms.same fun k hk => e k (.inr (.inr hk)), h.ab, lab,
    ⟨up sp.x, fun b hb => up (sp.m b hb), fun b hb => up (sp.r b hb), fun b hb => up (sp.rs b hb), fun b hb => up (sp.rk b hb), fun b hb => up (sp.f b hb), fun b hb => up (sp.g b hb), fun i hi b hb => up (sp.s i hi b hb), fun i hi b hb => up (sp.k i hi b hb)⟩⟩
theorem P10.below {w w' : World} {X : Nat} {S : S10} {mv mr : Value} {N : Int → Int → Int → Int → World → Prop} {a b c d : Int} {c0 : Nat} (h : P10 w X S mv mr N a b c d c0) (hM4 : M4 mv N) (hb : Below w.heap.size w w') : P10 w' X S mv mr N a b c d c0 := h.keep hM4 hb.size fun k hk => hb.block k (h.lt k hk)
theorem P10.le {w : World} {X : Nat} {S : S10} {mv mr : Value} {N : Int → Int → Int → Int → World → Prop} {a b c d : Int} {c0 c1 : Nat} (h : P10 w X S mv mr N a b c d c0) (hc : c0 ≤ c1) : P10 w X S mv mr N a b c d c1 :=
  ⟨h.hx, h.rs, h.rk, h.nn, h.fm, h.qf, fun i hi => ⟨(h.sp i hi).sm, (h.sp i hi).qs, (h.sp i hi).ok.le (Fle.refl _) hc, Nat.le_trans (h.sp i hi).ver hc⟩, h.fok.le hc, h.m, h.ms, h.ab.le hc, h.sep⟩
theorem P10.fs {w : World} {X : Nat} {S : S10} {mv mr : Value} {N : Int → Int → Int → Int → World → Prop} {a b c d : Int} {c0 : Nat} (h : P10 w X S mv mr N a b c d c0) {k : Nat} (hk : k < S.n) : Fs w S.f S.F mv S.XF (S.sp k).s (S.sp k).st (S.sp k).v (S.sp k).XS := by
  obtain ⟨lab, sp⟩ := h.sep
  exact ⟨h.fm, (h.sp k hk).sm, fun b h1 h2 => (by have := (sp.f b h1).1; have := (sp.s k hk b h2).1; omega), fun b h1 h2 => (by have := (sp.m b h1).1; have := (sp.s k hk b h2).1; omega)⟩
theorem P10.qp {w : World} {X : Nat} {S : S10} {mv mr : Value} {N : Int → Int → Int → Int → World → Prop} {a b c d : Int} {c0 : Nat} (h : P10 w X S mv mr N a b c d c0) {k : Nat} (hk : k < S.n) : Qp w S.f2 S.F mr S.XG (S.sp k).s2 (S.sp k).st (S.sp k).v (S.sp k).XR := by
  obtain ⟨lab, sp⟩ := h.sep
  exact ⟨h.qf, (h.sp k hk).qs, fun b h1 h2 => (by have := (sp.g b h1).1; have := (sp.k k hk b h2).1; omega), fun b h1 h2 => (by have := (sp.r b h1).1; have := (sp.k k hk b h2).1; omega)⟩
/-- What a step of the law leaves. -/
structure D10 (w : World) (X : Nat) (S : S10) (mv mr : Value) (N : Int → Int → Int → Int → World → Prop) (c0 : Nat) (S' : S10) (a' b' c' d' : Int) (w' : World) : Prop where
  p : P10 w' X S' mv mr N a' b' c' d' c0
  room : S'.F.room = S.F.room
  most : S'.F.most = S.F.most
  nn : S.n ≤ S'.n
  ff : S'.f = S.f ∧ S'.f2 = S.f2
  fx : ∀ k, S'.all X k → S.all X k ∨ w.heap.size ≤ k
  ex : Ex (fun k => S.all X k ∨ mB mv k ∨ mB mr k) w w'
/-- A search visits no more than the trail's cells. -/
theorem skr_le {t : Tb} {u k r : Int} {j : Nat} (hO : t.Ok) (h : SkR t u k r j) : j ≤ 1048600 := by
  have hL : 2 ^ t.L ≤ 1048576 := Nat.le_trans (Nat.pow_le_pow_right (n := 2) (by decide) hO.sz.2) (by decide)
  rcases h with ⟨n, _, h1, h2⟩ | ⟨_, _, h2⟩
  · obtain ⟨p, hp⟩ := hO.inv.pos n h1.1 h1.2.1
    obtain ⟨f, hf, hf2⟩ := hO.inv.first (nth t.es n).hash
    rw [h2 p hp]
    have : p ≤ f := by
      rcases Nat.lt_or_ge f p with g | g
      · exact absurd hf2.1 (hp.2 f g).1
      · exact g
    omega
  · obtain ⟨f, hf, hf2⟩ := hO.inv.first u
    rw [h2 f hf2]
    omega
theorem setR_few {hs : ByteArray → Int} {F F' : Fa} {s : ByteArray} {v er : Int} {st st' : Stn} {dc dd : Nat} (h : SetR hs F s v st F' st' er dc dd) : dc ≤ 1 ∧ dd ≤ 1 ∧ F.kt.made ≤ F'.kt.made ∧ (mdS st ≤ mdS st') := by
  cases h <;> refine ⟨by omega, by omega, ?_, ?_⟩ <;> first | exact Nat.le_refl _ | exact Nat.zero_le _ | exact (Tb.add_rest _ _ _ _).2.2.1
theorem delR_few {F : Fa} {s : ByteArray} {er : Int} {st st' : Stn} {dd : Nat} (h : DelR F s st st' er dd) : dd ≤ 1 ∧ mdS st ≤ mdS st' := by
  cases h <;> refine ⟨by omega, ?_⟩ <;> first | exact Nat.le_refl _ | exact Nat.zero_le _
theorem mdS_le {hs : ByteArray → Int} {F : Fa} {st : Stn} {c : Nat} (h : st.Ok hs F c) : mdS st ≤ c + 1 := by
  cases st with
  | row vs => exact Nat.zero_le _
  | own t => exact h.2.2.2.1
end Go.Proofs.YtcbhpjpkjmlcnaaGreat
namespace Go.Proofs.YtcbhpjpkjmlcnaaGreat
open Go.RowKit Go.WideShapes

def S10.to (S : S10) (k : Nat) (F : Fa) (YF YG : Nat → Prop) (p : Sx10) : S10 := ⟨S.f, S.f2, F, YF, YG, S.n, updA S.sp k p, S.rs, S.rk⟩
theorem P10.both {w w1 W w2 : World} {X : Nat} {S : S10} {mv mr : Value} {N : Int → Int → Int → Int → World → Prop} {a b c d : Int} {c0 : Nat} (hP : P10 w X S mv mr N a b c d c0) (hM4 : M4 mv N) {k : Nat} (hk : k < S.n) {F' : Fa} {st' : Stn} {v' : Nat} {a' b' c' d' : Int} {c1 : Nat} {YF YS YG YR : Nat → Prop} (hc : c0 ≤ c1)
    (R : SsR w S.f mv N S.XF (S.sp k).XS (S.sp k).s F' st' v' a' b' c' d' w1 YF YS) (hb : Below w1.heap.size w1 W) (Q : QsR W S.f2 mr S.XG (S.sp k).XR (S.sp k).s2 F' st' v' a' b' c' d' w2 YG YR)
    (hF : F'.Ok hsT c1) (hst : st'.Ok hsT F' c1) (hle : Fle S.F F') (hv : v' ≤ c1) (hab : Ab10 a' b' c' d' c1) :
    D10 w X S mv mr N c1 (S.to k F' YF YG ⟨(S.sp k).s, (S.sp k).s2, v', st', YS, YR⟩) a' b' c' d' w2 := by
  obtain ⟨lab, sp⟩ := hP.sep
  have s1 := R.ex.size
  have s2 := hb.size
  have s3 := Q.ex.size
  -- what the calls kept
  have n1 : ∀ i, i < w.heap.size → lab i ≠ 5 → lab i ≠ 7 + 2 * k → lab i ≠ 1 → W.heap[i]? = w.heap[i]? := fun i hi h1 h2 h3 => (hb.block i (by omega)).trans (R.ex.block i hi (fun hx => by
    rcases hx with y | y | y
    · exact h1 (sp.f i y).1
    · exact h2 (sp.s k hk i y).1
    · exact h3 (sp.m i y).1))
  have n2 : ∀ i, i < w.heap.size → lab i ≠ 6 → lab i ≠ 8 + 2 * k → lab i ≠ 2 → w2.heap[i]? = W.heap[i]? := fun i hi h1 h2 h3 => Q.ex.block i (by omega) (fun hx => by
    rcases hx with y | y | y
    · exact h1 (sp.g i y).1
    · exact h2 (sp.k k hk i y).1
    · exact h3 (sp.r i y).1)
  have n3 : ∀ i, w.heap.size ≤ i → i < w1.heap.size → w2.heap[i]? = w1.heap[i]? := fun i hi hl => (Q.ex.block i (by omega) (fun hx => by
    rcases hx with y | y | y
    · have := (sp.g i y).2; omega
    · have := (sp.k k hk i y).2; omega
    · have := (sp.r i y).2; omega)).trans (hb.block i hl)
  have nn : ∀ i, i < w.heap.size → lab i ≠ 5 → lab i ≠ 7 + 2 * k → lab i ≠ 1 → lab i ≠ 6 → lab i ≠ 8 + 2 * k → lab i ≠ 2 → w2.heap[i]? = w.heap[i]? := fun i hi h1 h2 h3 h4 h5 h6 => (n2 i hi h4 h5 h6).trans (n1 i hi h1 h2 h3)
  have lF := R.fs.fm.lt
  have lS := R.fs.sm.lt
  have lG := Q.qp.fm.lt
  have lR := Q.qp.sm.lt
  -- the program's own at w2
  have kp : ∀ i, i < w1.heap.size → (i < w.heap.size → lab i = 5 ∨ lab i = 7 + 2 * k ∨ lab i = 1) → w2.heap[i]? = w1.heap[i]? := fun i hi h => by
    rcases Nat.lt_or_ge i w.heap.size with y | y
    · exact (n2 i y (by have := h y; omega) (by have := h y; omega) (by have := h y; omega)).trans (hb.block i hi)
    · exact n3 i y hi
  have kF : ∀ i, YF i → w2.heap[i]? = w1.heap[i]? := fun i hi => kp i (lF i hi) (fun y => by
    rcases R.hf i hi with z | z
    · exact .inl (sp.f i z).1
    · omega)
  have kS : ∀ i, YS i → w2.heap[i]? = w1.heap[i]? := fun i hi => kp i (lS i hi) (fun y => by
    rcases R.hs i hi with z | z
    · exact .inr (.inl (sp.s k hk i z).1)
    · omega)
  refine ⟨⟨?_, ?_, ?_, hP.nn, R.fs.fm.same kF, Q.qp.fm, ?_, hF, ?_, Q.n, hab, ?_⟩, hle.room, hle.most, Nat.le_refl _, ⟨rfl, rfl⟩, ?_, ?_⟩
  · refine (hP.hx.same (nn X sp.x.2 ?_ ?_ ?_ ?_ ?_ ?_)).congr fun i hi => ?_
    · have := sp.x.1; omega
    · have := sp.x.1; omega
    · have := sp.x.1; omega
    · have := sp.x.1; omega
    · have := sp.x.1; omega
    · have := sp.x.1; omega
    · have : i = 0 ∨ i = 1 ∨ i = 2 ∨ i = 3 := by omega
      rcases this with rfl | rfl | rfl | rfl <;> rfl
  · have h := owns_same hP.rs (fun b hb => by have := sp.rs b hb; exact nn b this.2 (by omega) (by omega) (by omega) (by omega) (by omega) (by omega))
    rw [ptrs_congr (g := fun i => ((S.to k F' YF YG ⟨(S.sp k).s, (S.sp k).s2, v', st', YS, YR⟩).sp i).s) S.n (fun i _ => by
      show (S.sp i).s = (updA S.sp k _ i).s
      by_cases e : i = k
      · rw [e, updA_at]
      · rw [updA_ne _ _ e])] at h
    exact h
  · have h := owns_same hP.rk (fun b hb => by have := sp.rk b hb; exact nn b this.2 (by omega) (by omega) (by omega) (by omega) (by omega) (by omega))
    rw [ptrs_congr (g := fun i => ((S.to k F' YF YG ⟨(S.sp k).s, (S.sp k).s2, v', st', YS, YR⟩).sp i).s2) S.n (fun i _ => by
      show (S.sp i).s2 = (updA S.sp k _ i).s2
      by_cases e : i = k
      · rw [e, updA_at]
      · rw [updA_ne _ _ e])] at h
    exact h
  · intro i hi
    show Ns10 w2 _ mv mr c1 (updA S.sp k _ i)
    by_cases e : i = k
    · rw [e, updA_at]
      exact ⟨R.fs.sm.same kS, Q.qp.sm, hst, hv⟩
    · rw [updA_ne _ _ e]
      have h := hP.sp i hi
      have g1 := sp.s i hi
      have g2 := sp.k i hi
      exact ⟨h.sm.same fun b hb => (by have := g1 b hb; exact nn b this.2 (by omega) (by omega) (by omega) (by omega) (by omega) (by omega)), h.qs.same fun b hb => (by have := g2 b hb; exact nn b this.2 (by omega) (by omega) (by omega) (by omega) (by omega) (by omega)), h.ok.le hle hc, Nat.le_trans h.ver hc⟩
  · refine (hM4.mt c' d').same _ _ _ _ R.n fun i hi => ?_
    exact kp i (by have := (sp.m i hi).2; omega) (fun _ => .inr (.inr (sp.m i hi).1))
  · have dF : ∀ i, Decidable (YF i) := fun i => Classical.propDecidable _
    have dG : ∀ i, Decidable (YG i) := fun i => Classical.propDecidable _
    have aS := R.fs.ap
    have aR := Q.qp.ap
    refine ⟨fun i => if i < w.heap.size then lab i else if i < w1.heap.size then (if YF i then 5 else 7 + 2 * k) else (if YG i then 6 else 8 + 2 * k), ⟨?_, by have := sp.x.2; omega⟩, fun b hb => ?_, fun b hb => ?_, fun b hb => ?_, fun b hb => ?_, fun b hb => ?_, fun b hb => ?_, fun i hi b hb => ?_, fun i hi b hb => ?_⟩
    · show (if X < w.heap.size then lab X else _) = 0
      rw [if_pos sp.x.2]; exact sp.x.1
    · show (if b < w.heap.size then lab b else _) = 1 ∧ _
      have := sp.m b hb
      rw [if_pos this.2]; exact ⟨this.1, by omega⟩
    · show (if b < w.heap.size then lab b else _) = 2 ∧ _
      have := sp.r b hb
      rw [if_pos this.2]; exact ⟨this.1, by omega⟩
    · show (if b < w.heap.size then lab b else _) = 3 ∧ _
      have := sp.rs b hb
      rw [if_pos this.2]; exact ⟨this.1, by omega⟩
    · show (if b < w.heap.size then lab b else _) = 4 ∧ _
      have := sp.rk b hb
      rw [if_pos this.2]; exact ⟨this.1, by omega⟩
    · show (if b < w.heap.size then lab b else if b < w1.heap.size then (if YF b then 5 else 7 + 2 * k) else (if YG b then 6 else 8 + 2 * k)) = 5 ∧ _
      have hb' : YF b := hb
      have := lF b hb'
      rcases R.hf b hb' with y | y
      · have := sp.f b y
        rw [if_pos this.2]; exact ⟨this.1, by omega⟩
      · rw [if_neg (by omega), if_pos this, if_pos hb']; exact ⟨rfl, by omega⟩
    · show (if b < w.heap.size then lab b else if b < w1.heap.size then (if YF b then 5 else 7 + 2 * k) else (if YG b then 6 else 8 + 2 * k)) = 6 ∧ _
      have hb' : YG b := hb
      have := lG b hb'
      rcases Q.hf b hb' with y | y
      · have := sp.g b y
        rw [if_pos this.2]; exact ⟨this.1, by omega⟩
      · rw [if_neg (by omega), if_neg (by omega), if_pos hb']; exact ⟨rfl, by omega⟩
    · show (if b < w.heap.size then lab b else if b < w1.heap.size then (if YF b then 5 else 7 + 2 * k) else (if YG b then 6 else 8 + 2 * k)) = 7 + 2 * i ∧ _
      have hb' : (updA S.sp k (⟨(S.sp k).s, (S.sp k).s2, v', st', YS, YR⟩ : Sx10) i).XS b := hb
      by_cases e : i = k
      · rw [e, updA_at] at hb'
        have := lS b hb'
        rcases R.hs b hb' with y | y
        · have := sp.s k hk b y
          rw [if_pos this.2, e]; exact ⟨this.1, by omega⟩
        · rw [if_neg (by omega), if_pos this, if_neg (fun z => aS b z hb'), e]; exact ⟨rfl, by omega⟩
      · rw [updA_ne _ _ e] at hb'
        have := sp.s i hi b hb'
        rw [if_pos this.2]; exact ⟨this.1, by omega⟩
    · show (if b < w.heap.size then lab b else if b < w1.heap.size then (if YF b then 5 else 7 + 2 * k) else (if YG b then 6 else 8 + 2 * k)) = 8 + 2 * i ∧ _
      have hb' : (updA S.sp k (⟨(S.sp k).s, (S.sp k).s2, v', st', YS, YR⟩ : Sx10) i).XR b := hb
      by_cases e : i = k
      · rw [e, updA_at] at hb'
        have := lR b hb'
        rcases Q.hs b hb' with y | y
        · have := sp.k k hk b y
          rw [if_pos this.2, e]; exact ⟨this.1, by omega⟩
        · rw [if_neg (by omega), if_neg (by omega), if_neg (fun z => aR b z hb'), e]; exact ⟨rfl, this⟩
      · rw [updA_ne _ _ e] at hb'
        have := sp.k i hi b hb'
        rw [if_pos this.2]; exact ⟨this.1, by omega⟩
  · rintro b (rfl | y | y | y | y | ⟨i, hi, y⟩)
    · exact .inl (.inl rfl)
    · exact .inl (.inr (.inl y))
    · exact .inl (.inr (.inr (.inl y)))
    · exact (R.hf b y).elim (fun z => .inl (.inr (.inr (.inr (.inl z))))) .inr
    · exact (Q.hf b y).elim (fun z => .inl (.inr (.inr (.inr (.inr (.inl z)))))) (fun z => .inr (by omega))
    · have y' : (updA S.sp k (⟨(S.sp k).s, (S.sp k).s2, v', st', YS, YR⟩ : Sx10) i).XS b ∨ (updA S.sp k (⟨(S.sp k).s, (S.sp k).s2, v', st', YS, YR⟩ : Sx10) i).XR b := y
      by_cases e : i = k
      · rw [e, updA_at] at y'
        rcases y' with z | z
        · exact (R.hs b z).elim (fun z => .inl (.inr (.inr (.inr (.inr (.inr ⟨k, hk, .inl z⟩)))))) .inr
        · exact (Q.hs b z).elim (fun z => .inl (.inr (.inr (.inr (.inr (.inr ⟨k, hk, .inr z⟩)))))) (fun z => .inr (by omega))
      · rw [updA_ne _ _ e] at y'
        exact .inl (.inr (.inr (.inr (.inr (.inr ⟨i, hi, y'⟩)))))
  · have hx1 : Ex (fun k => S.all X k ∨ mB mv k ∨ mB mr k) w w1 := R.ex.mono fun b _ hb => by
      rcases hb with y | y | y
      · exact .inl (.inr (.inr (.inr (.inl y))))
      · exact .inl (.inr (.inr (.inr (.inr (.inr ⟨k, hk, .inl y⟩)))))
      · exact .inr (.inl y)
    refine (hx1.next (ex_of (X := fun _ => False) hb) (fun _ _ y => y.elim)).next Q.ex (fun b _ hb => ?_)
    rcases hb with y | y | y
    · exact .inl (.inr (.inr (.inr (.inr (.inl y)))))
    · exact .inl (.inr (.inr (.inr (.inr (.inr ⟨k, hk, .inr y⟩)))))
    · exact .inr (.inr y)
/-- The document's namespace where the program has turned its own. -/
theorem P10.other {w w1 W : World} {X : Nat} {S : S10} {mv mr : Value} {N : Int → Int → Int → Int → World → Prop} {a b c d : Int} {c0 : Nat} (hP : P10 w X S mv mr N a b c d c0) {k : Nat} (hk : k < S.n) (hx : Ex (fun i => S.XF i ∨ (S.sp k).XS i ∨ mB mv i) w w1) (hb : Below w1.heap.size w1 W) : Qp W S.f2 S.F mr S.XG (S.sp k).s2 (S.sp k).st (S.sp k).v (S.sp k).XR ∧ Ms W mr a b c d ∧ Blk W X 4 (x10F S) ∧ W.ownsRow 0 91 1 S.rk S.n (ptrs (fun i => (S.sp i).s2) S.n) := by
  obtain ⟨lab, sp⟩ := hP.sep
  have h := hP.qp hk
  have s1 := hx.size
  have n1 : ∀ i l, lab i = l ∧ i < w.heap.size → l ≠ 5 → l ≠ 7 + 2 * k → l ≠ 1 → W.heap[i]? = w.heap[i]? := fun i l hi h1 h2 h3 => (hb.block i (by omega)).trans (hx.block i hi.2 (fun hx => by
    have := hi.1
    rcases hx with y | y | y
    · have := (sp.f i y).1; omega
    · have := (sp.s k hk i y).1; omega
    · have := (sp.m i y).1; omega))
  refine ⟨⟨h.fm.same fun i hi => n1 i _ (sp.g i hi) (by omega) (by omega) (by omega), h.sm.same fun i hi => n1 i _ (sp.k k hk i hi) (by omega) (by omega) (by omega), h.ap, h.mq⟩, hP.ms.same fun i hi => n1 i _ (sp.r i hi) (by omega) (by omega) (by omega), hP.hx.same (n1 X _ sp.x (by omega) (by omega) (by omega)), owns_same hP.rk fun i hi => n1 i _ (sp.rk i hi) (by omega) (by omega) (by omega)⟩
end Go.Proofs.YtcbhpjpkjmlcnaaGreat
namespace Go.Proofs.YtcbhpjpkjmlcnaaGreat
open Go.RowKit Go.WideShapes

/-- Where the law keeps its namespaces. -/
structure Rw10 (w : World) (X : Nat) (S : S10) : Prop where
  hx : Blk w X 4 (x10F S)
  rs : w.ownsRow 0 81 1 S.rs S.n (ptrs (fun i => (S.sp i).s) S.n)
  rk : w.ownsRow 0 91 1 S.rk S.n (ptrs (fun i => (S.sp i).s2) S.n)
theorem P10.rw {w : World} {X : Nat} {S : S10} {mv mr : Value} {N : Int → Int → Int → Int → World → Prop} {a b c d : Int} {c0 : Nat} (h : P10 w X S mv mr N a b c d c0) : Rw10 w X S := ⟨h.hx, h.rs, h.rk⟩
theorem Rw10.to {w : World} {X : Nat} {S : S10} {k : Nat} {F : Fa} {YF YG YS YR : Nat → Prop} {v : Nat} {st : Stn} (h : Rw10 w X (S.to k F YF YG ⟨(S.sp k).s, (S.sp k).s2, v, st, YS, YR⟩)) : Rw10 w X S := by
  refine ⟨h.hx.congr fun i hi => ?_, ?_, ?_⟩
  · have : i = 0 ∨ i = 1 ∨ i = 2 ∨ i = 3 := by omega
    rcases this with rfl | rfl | rfl | rfl <;> rfl
  · have h := h.rs
    rw [ptrs_congr (g := fun i => (S.sp i).s) (S.to k F YF YG ⟨(S.sp k).s, (S.sp k).s2, v, st, YS, YR⟩).n (fun i _ => by
      show (updA S.sp k _ i).s = (S.sp i).s
      by_cases e : i = k
      · rw [e, updA_at]
      · rw [updA_ne _ _ e])] at h
    exact h
  · have h := h.rk
    rw [ptrs_congr (g := fun i => (S.sp i).s2) (S.to k F YF YG ⟨(S.sp k).s, (S.sp k).s2, v, st, YS, YR⟩).n (fun i _ => by
      show (updA S.sp k _ i).s2 = (S.sp i).s2
      by_cases e : i = k
      · rw [e, updA_at]
      · rw [updA_ne _ _ e])] at h
    exact h
theorem row_has {w : World} {T : TypeId} {v : Value} {n : Nat} {xs : List Value} (h : w.ownsRow 0 T 1 v n xs) (hn : 0 < n) : ∃ g cap, v = .slice (some ⟨g, 0, none⟩) n cap ∧ n ≤ cap := by
  rcases h.2 with ⟨_, h1⟩ | ⟨g, cap, cur, rfl, hg, hh, hc, _⟩
  · omega
  · exact ⟨g, cap, rfl, hc⟩
theorem row_at {w : World} {T : TypeId} {g cap n : Nat} {f : Nat → Nat} (h : w.ownsRow 0 T 1 (.slice (some ⟨g, 0, none⟩) n cap) n (ptrs f n)) {j : Nat} (hj : j < n) : w.cell? ⟨g, j, none⟩ = some (.pointer (some ⟨f j, 0, none⟩)) := by
  have h0 := h
  rcases h.2 with ⟨_, h1⟩ | ⟨g', cap', cur, e, hg, hh, hc, _⟩
  · omega
  · rw [h0.cellAt j (by omega)]
    exact ptrs_get f n j hj
theorem row_len {w : World} {T : TypeId} {v : Value} {n : Nat} {xs : List Value} (h : w.ownsRow 0 T 1 v n xs) : ∃ a cap, v = .slice a n cap ∧ n ≤ cap := by
  rcases h.2 with ⟨rfl, h1⟩ | ⟨g, cap, cur, rfl, hg, hh, hc, _⟩
  · exact ⟨none, 0, by rw [h1], by omega⟩
  · exact ⟨_, cap, rfl, hc⟩
theorem Rw10.at {w : World} {X : Nat} {S : S10} {gs cs gk ck k : Nat} (h : Rw10 w X S) (es : S.rs = .slice (some ⟨gs, 0, none⟩) S.n cs) (ek : S.rk = .slice (some ⟨gk, 0, none⟩) S.n ck) (hk : k < S.n) :
    (w.cell? ⟨X, 2, none⟩ = some (.slice (some ⟨gs, 0, none⟩) S.n cs) ∧ w.cell? ⟨X, 3, none⟩ = some (.slice (some ⟨gk, 0, none⟩) S.n ck)) ∧ w.cell? ⟨gs, k, none⟩ = some (.pointer (some ⟨(S.sp k).s, 0, none⟩)) ∧ w.cell? ⟨gk, k, none⟩ = some (.pointer (some ⟨(S.sp k).s2, 0, none⟩)) := by
  have h1 := h.rs
  have h2 := h.rk
  rw [es] at h1
  rw [ek] at h2
  exact ⟨⟨by rw [← es]; exact h.hx.c 2 (by omega), by rw [← ek]; exact h.hx.c 3 (by omega)⟩, row_at h1 hk, row_at h2 hk⟩
theorem Ab10.lims {a b c d : Int} {c0 : Nat} (h : Ab10 a b c d c0) (hc : c0 ≤ 400) : (0 ≤ a ∧ a ≤ 10000000) ∧ (0 ≤ b ∧ b ≤ 10000000000) ∧ (0 ≤ c ∧ c ≤ 100000000) ∧ (0 ≤ d ∧ d ≤ 100000000) := by
  have h1 := h.a
  have h2 := h.b
  have h3 := h.c
  have h4 := h.d
  omega
theorem skt_le {F : Fa} {st : Stn} {c : Nat} (hF : F.Ok hsT c) (hst : st.Ok hsT F c) {u k r : Int} {j : Nat} (h : SkR (tbS F st) u k r j) : j ≤ 1048600 := skr_le (tbS_ok hF hst).1 h
theorem P10.mid {w w1 W : World} {X : Nat} {S : S10} {mv mr : Value} {N : Int → Int → Int → Int → World → Prop} {a b c d : Int} {c0 : Nat} (hP : P10 w X S mv mr N a b c d c0) {k : Nat} (hk : k < S.n) (hx : Ex (fun i => S.XF i ∨ (S.sp k).XS i ∨ mB mv i) w w1) (hb : Below w1.heap.size w1 W) : Rw10 W X S := by
  obtain ⟨_, _, h1, h2⟩ := hP.other hk hx hb
  obtain ⟨lab, sp⟩ := hP.sep
  have s1 := hx.size
  exact ⟨h1, owns_same hP.rs fun i hi => (hb.block i (by have := (sp.rs i hi).2; omega)).trans (hx.block i (sp.rs i hi).2 (fun hx => by
    have := (sp.rs i hi).1
    rcases hx with y | y | y
    · have := (sp.f i y).1; omega
    · have := (sp.s k hk i y).1; omega
    · have := (sp.m i y).1; omega)), h2⟩
theorem ver_up {er : Int} {v v' c : Nat} (h : v' = if er = 0 then v + 1 else v) (hv : v ≤ c) : v' ≤ c + 1 := by
  subst h
  split <;> omega
/-- Set on both sides. -/
theorem set_both {w : World} {X : Nat} {S : S10} {pm pr : Option Addr} {N : Int → Int → Int → Int → World → Prop} {a b c d : Int} {c0 : Nat} (hP : P10 w X S (.pointer pm) (.pointer pr) N a b c d c0) (hM4 : M4 (.pointer pm) N) (hc0 : c0 ≤ 400) {k : Nat} (hk : k < S.n) {nm : ByteArray} (hs : nm.size ≤ 3000) (x : Int) :
    ∃ Pw : Int → World → Prop, Calls Tryz.prog 21 #[.pointer (some ⟨(S.sp k).s, 0, none⟩), .string nm, .int .i64 x] w (fun e w' => ∃ er : Int, e = .returned (.int .i64 er) ∧ Pw er w') ∧ (∀ er V V', Pw er V → Below V.heap.size V V' → Pw er V') ∧
      ∀ er V, Pw er V → Ex (fun i => S.XF i ∨ (S.sp k).XS i ∨ mB (.pointer pm) i) w V ∧ Rw10 V X S ∧ Calls Tryz.prog 30 #[.pointer (some ⟨(S.sp k).s2, 0, none⟩), .string nm, .int .i64 x] V fun e w' => e = .returned (.int .i64 er) ∧ Rw10 w' X S ∧ ∃ S' a' b' c' d', D10 w X S (.pointer pm) (.pointer pr) N (c0 + 1) S' a' b' c' d' w' := by
  obtain ⟨l1, l2, l3, l4⟩ := hP.ab.lims hc0
  have hok := (hP.sp k hk).ok
  have hver := (hP.sp k hk).ver
  refine ⟨fun er V => ∃ w1, SetQ w S.f S.F (.pointer pm) N a b c d S.XF (S.sp k).s (S.sp k).st (S.sp k).v (S.sp k).XS nm x er w1 ∧ Below w1.heap.size w1 V, (set_any (hP.fs hk) hM4 hP.m l1 l2 l3 l4 hP.fok hok (by omega) (by omega) hs x).mono fun e w' ⟨er, h1, h2⟩ => ⟨er, h1, w', h2, Below.refl _ _⟩, fun er V V' ⟨w1, h1, h2⟩ hb => ⟨w1, h1, h2.trans (hb.mono h2.size)⟩, ?_⟩
  rintro er V ⟨w1, hQ, hb⟩
  have hx : Ex (fun i => S.XF i ∨ (S.sp k).XS i ∨ mB (.pointer pm) i) w w1 := by
    obtain ⟨_, _, _, _, _, _, _, _, _, _, _, _, R⟩ := hQ
    exact R.ex
  obtain ⟨hq, hms, _, _⟩ := hP.other hk hx hb
  refine ⟨hx.next (ex_of (X := fun _ => False) hb) (fun _ _ y => y.elim), hP.mid hk hx hb, (rset_any hq hms l1 l2 l3 l4 hP.fok hok (by omega) (by omega) hs x).mono ?_⟩
  rintro e w2 ⟨er', rfl, hR⟩
  obtain ⟨F2, st2, dc, dd, hset, k1, res, jj, hn1, hsk, YF, YS, R⟩ := hQ
  obtain ⟨F3, st3, dc3, dd3, g1, k', res', jj', g2, g3, YG, YR, R'⟩ := hR
  obtain ⟨rfl, rfl, rfl, rfl, rfl⟩ := SetR.uniq hP.fok hok hset g1
  obtain rfl := num_uniq hP.fok hn1 g2
  obtain ⟨rfl, rfl⟩ := skr_uniq hP.fok hok hsk g3
  obtain ⟨o1, o2, o3⟩ := setR_ok hset hP.fok hok hs (by omega)
  obtain ⟨f1, f2, f3, f4⟩ := setR_few hset
  have hj := skt_le hP.fok hok hsk
  have m1 := o1.made
  have m2 := mdS_le o2
  have A := hP.ab
  have A1 := A.a
  have A2 := A.b
  have A3 := A.c
  have A4 := A.d
  have hD := hP.both hM4 hk (Nat.le_succ c0) R hb R' o1 o2 o3 (ver_up rfl hver) ⟨by omega, by omega, by omega, by omega⟩
  exact ⟨rfl, hD.p.rw.to, _, _, _, _, _, hD⟩
/-- Del on both sides. -/
theorem del_both {w : World} {X : Nat} {S : S10} {pm pr : Option Addr} {N : Int → Int → Int → Int → World → Prop} {a b c d : Int} {c0 : Nat} (hP : P10 w X S (.pointer pm) (.pointer pr) N a b c d c0) (hM4 : M4 (.pointer pm) N) (hc0 : c0 ≤ 400) {k : Nat} (hk : k < S.n) {nm : ByteArray} (hs : nm.size ≤ 3000) :
    ∃ Pw : Int → World → Prop, Calls Tryz.prog 32 #[.pointer (some ⟨(S.sp k).s, 0, none⟩), .string nm] w (fun e w' => ∃ er : Int, e = .returned (.int .i64 er) ∧ Pw er w') ∧ (∀ er V V', Pw er V → Below V.heap.size V V' → Pw er V') ∧
      ∀ er V, Pw er V → Ex (fun i => S.XF i ∨ (S.sp k).XS i ∨ mB (.pointer pm) i) w V ∧ Rw10 V X S ∧ Calls Tryz.prog 33 #[.pointer (some ⟨(S.sp k).s2, 0, none⟩), .string nm] V fun e w' => e = .returned (.int .i64 er) ∧ Rw10 w' X S ∧ ∃ S' a' b' c' d', D10 w X S (.pointer pm) (.pointer pr) N (c0 + 1) S' a' b' c' d' w' := by
  obtain ⟨l1, l2, l3, l4⟩ := hP.ab.lims hc0
  have hok := (hP.sp k hk).ok
  have hver := (hP.sp k hk).ver
  refine ⟨fun er V => ∃ w1, DelQ w S.f S.F (.pointer pm) N a b c d S.XF (S.sp k).s (S.sp k).st (S.sp k).v (S.sp k).XS nm er w1 ∧ Below w1.heap.size w1 V, (del_any (hP.fs hk) hM4 hP.m l1 l2 l4 hP.fok hok (by omega) (by omega) hs).mono fun e w' ⟨er, h1, h2⟩ => ⟨er, h1, w', h2, Below.refl _ _⟩, fun er V V' ⟨w1, h1, h2⟩ hb => ⟨w1, h1, h2.trans (hb.mono h2.size)⟩, ?_⟩
  rintro er V ⟨w1, hQ, hb⟩
  have hx : Ex (fun i => S.XF i ∨ (S.sp k).XS i ∨ mB (.pointer pm) i) w w1 := by
    obtain ⟨_, _, _, _, _, _, _, _, _, _, R⟩ := hQ
    exact R.ex
  obtain ⟨hq, hms, _, _⟩ := hP.other hk hx hb
  refine ⟨hx.next (ex_of (X := fun _ => False) hb) (fun _ _ y => y.elim), hP.mid hk hx hb, (rdel_any hq hms (by omega) l2 (by omega) hP.fok hok (by omega) (by omega) hs).mono ?_⟩
  rintro e w2 ⟨er', rfl, hR⟩
  obtain ⟨st2, dd, hdel, k1, res, jj, hn1, hsk, YF, YS, R⟩ := hQ
  obtain ⟨st3, dd3, g1, k', res', jj', g2, g3, YG, YR, R'⟩ := hR
  obtain ⟨rfl, rfl, rfl⟩ := DelR.uniq hP.fok hok hdel g1
  obtain rfl := num_uniq hP.fok hn1 g2
  obtain ⟨rfl, rfl⟩ := skr_uniq hP.fok hok hsk g3
  have o2 := delR_ok hdel hP.fok hok
  have o1 := hP.fok.le (Nat.le_succ c0)
  obtain ⟨f1, f4⟩ := delR_few hdel
  have hj := skt_le hP.fok hok hsk
  have m2 := mdS_le o2
  have A := hP.ab
  have A1 := A.a
  have A2 := A.b
  have A3 := A.c
  have A4 := A.d
  have hD := hP.both hM4 hk (Nat.le_succ c0) R hb R' o1 o2 (Fle.refl _) (ver_up rfl hver) ⟨by omega, by omega, by omega, by omega⟩
  exact ⟨rfl, hD.p.rw.to, _, _, _, _, _, hD⟩
/-- Get on both sides. -/
theorem get_both {w : World} {X : Nat} {S : S10} {pm pr : Option Addr} {N : Int → Int → Int → Int → World → Prop} {a b c d : Int} {c0 : Nat} (hP : P10 w X S (.pointer pm) (.pointer pr) N a b c d c0) (hM4 : M4 (.pointer pm) N) (hc0 : c0 ≤ 400) {k : Nat} (hk : k < S.n) {nm : ByteArray} (hs : nm.size ≤ 3000) :
    ∃ Pw : Int → Bool → World → Prop, Calls Tryz.prog 22 #[.pointer (some ⟨(S.sp k).s, 0, none⟩), .string nm] w (fun e w' => ∃ (x : Int) (ok : Bool), e = .returned (.tuple #[.int .i64 x, .bool ok]) ∧ Pw x ok w') ∧ (∀ x ok V V', Pw x ok V → Below V.heap.size V V' → Pw x ok V') ∧
      ∀ x ok V, Pw x ok V → Ex (fun i => S.XF i ∨ (S.sp k).XS i ∨ mB (.pointer pm) i) w V ∧ Rw10 V X S ∧ Calls Tryz.prog 31 #[.pointer (some ⟨(S.sp k).s2, 0, none⟩), .string nm] V fun e w' => e = .returned (.tuple #[.int .i64 x, .bool ok]) ∧ Rw10 w' X S ∧ ∃ S' a' b' c' d', D10 w X S (.pointer pm) (.pointer pr) N (c0 + 1) S' a' b' c' d' w' := by
  obtain ⟨l1, l2, l3, l4⟩ := hP.ab.lims hc0
  have hok := (hP.sp k hk).ok
  have hver := (hP.sp k hk).ver
  refine ⟨fun x ok V => ∃ w1 k' res jj, GetR S.F nm (S.sp k).st x ok ∧ Num S.F.all nm k' ∧ SkR (tbS S.F (S.sp k).st) (hsT nm) k' res jj ∧ N a (b + (jj : Int)) c d w1 ∧ Ex (mB (.pointer pm)) w w1 ∧ Below w1.heap.size w1 V, (get_any (hP.fs hk) hM4 hP.m l2 hP.fok hok hs).mono fun e w' ⟨x, ok, k', res, jj, h1, h2, h3, h4, h5, h6⟩ => ⟨x, ok, h1, w', k', res, jj, h2, h3, h4, h5, h6, Below.refl _ _⟩, fun x ok V V' ⟨w1, k', res, jj, h1, h2, h3, h4, h5, h6⟩ hb => ⟨w1, k', res, jj, h1, h2, h3, h4, h5, h6.trans (hb.mono h6.size)⟩, ?_⟩
  rintro x ok V ⟨w1, k1, res, jj, h1, h2, h3, h4, h5, hb⟩
  have R := ss_same ((hP.fs hk).met h5) h4 h5
  have hx : Ex (fun i => S.XF i ∨ (S.sp k).XS i ∨ mB (.pointer pm) i) w w1 := R.ex
  obtain ⟨hq, hms, _, _⟩ := hP.other hk hx hb
  refine ⟨hx.next (ex_of (X := fun _ => False) hb) (fun _ _ y => y.elim), hP.mid hk hx hb, (rget_any hq hms l2 hP.fok hok (by omega) hs).mono ?_⟩
  rintro e w2 ⟨y, oy, k2, res2, j2, rfl, g1, g2, g3, g4, g5⟩
  obtain ⟨rfl, rfl, rfl⟩ := get_meet hP.fok hok h1 h2 h3 g1 g2 g3
  have R' : QsR V S.f2 (.pointer pr) S.XG (S.sp k).XR (S.sp k).s2 S.F (S.sp k).st (S.sp k).v a (b + (jj : Int)) c d w2 S.XG (S.sp k).XR := ⟨hq.met g5, g4, fun _ hk => .inl hk, fun _ hk => .inl hk, g5.mono fun _ _ hk => .inr (.inr hk)⟩
  have hj := skt_le hP.fok hok h3
  have A := hP.ab
  have A1 := A.a
  have A2 := A.b
  have A3 := A.c
  have A4 := A.d
  have hD := hP.both hM4 hk (Nat.le_succ c0) R hb R' (hP.fok.le (Nat.le_succ c0)) (hok.le (Fle.refl _) (Nat.le_succ c0)) (Fle.refl _) (Nat.le_succ_of_le hver) ⟨by omega, by omega, by omega, by omega⟩
  exact ⟨rfl, hD.p.rw.to, _, _, _, _, _, hD⟩
end Go.Proofs.YtcbhpjpkjmlcnaaGreat
namespace Go.Proofs.YtcbhpjpkjmlcnaaGreat
open Go.RowKit Go.WideShapes

theorem rem10 (x : Int) (n : Nat) (hn : 0 < n) (w : World) : (binOp .rem 3 (.int .i64 x) (.int .i64 (n : Int))).run Tryz.prog w = .ok (.int .i64 (Int.tmod x (n : Int))) w := by
  simp [binOp, go_sem]
  omega
def pix (x : Int) (n : Nat) : Nat := (if Int.tmod x (n : Int) < 0 then Int.tmod x (n : Int) + (n : Int) else Int.tmod x (n : Int)).toNat
theorem pix_lt (x : Int) {n : Nat} (hn : 0 < n) : pix x n < n ∧ (if Int.tmod x (n : Int) < 0 then Int.tmod x (n : Int) + (n : Int) else Int.tmod x (n : Int)) = (pix x n : Int) := by
  have h1 : Int.tmod x (n : Int) < (n : Int) := Int.tmod_lt_of_pos _ (by omega)
  have h2 : -(n : Int) < Int.tmod x (n : Int) := Int.lt_tmod_of_pos _ (by omega)
  unfold pix
  split <;> omega
set_option maxRecDepth 100000 in
set_option maxHeartbeats 4000000 in
theorem at10_any {w : World} {X : Nat} {S : S10} (hr : Rw10 w X S) (hn : 0 < S.n) (hn12 : S.n ≤ 12) (x : Int) :
    Calls Tryz.prog 12 #[.pointer (some ⟨X, 0, none⟩), .int .i64 x] w fun e w' => e = .returned (.int .i64 (pix x S.n : Int)) ∧ w' = w := by
  obtain ⟨am, capm, em, hcap⟩ := row_len hr.rs
  have x2 : w.cell? ⟨X, 2, none⟩ = some (.slice am S.n capm) := by rw [← em]; exact hr.hx.c 2 (by omega)
  have hrm := rem10 x S.n hn
  have hn0 : ¬ (S.n : Int) = 0 := by omega
  have hn1 : ¬ S.n = 0 := by omega
  have hn2 : ((S.n : Int) == 0) = false := by rw [beq_eq_false_iff_ne]; omega
  obtain ⟨hp1, hp2⟩ := pix_lt x hn
  generalize pix x S.n = kk at *
  clear hr em
  by_cases hneg : Int.tmod x (S.n : Int) < 0
  · rw [if_pos hneg] at hp2
    have e5 : IntKind.i64.wrap (Int.tmod x (S.n : Int) + (S.n : Int)) = (kk : Int) := by rw [hp2]; exact i64_small (by omega) (by omega)
    go_enter Tryz.func12, Tryz.ntmps12
    go_wp2_with fail
    go_ret
    exact ⟨rfl, rfl⟩
  · rw [if_neg hneg] at hp2
    go_enter Tryz.func12, Tryz.ntmps12
    go_wp2_with fail
    go_ret
    exact ⟨rfl, rfl⟩
theorem D10.up {w w0 w' : World} {X : Nat} {S S' : S10} {mv mr : Value} {N : Int → Int → Int → Int → World → Prop} {a' b' c' d' : Int} {c0 : Nat} (h : D10 w0 X S mv mr N c0 S' a' b' c' d' w') (hb : Below w.heap.size w w0) : D10 w X S mv mr N c0 S' a' b' c' d' w' :=
  ⟨h.p, h.room, h.most, h.nn, h.ff, fun k hk => (h.fx k hk).elim .inl (fun y => .inr (Nat.le_trans hb.size y)), (ex_of hb).next h.ex (fun _ _ y => y)⟩
theorem D10.after {w w' w'' : World} {X : Nat} {S S' : S10} {mv mr : Value} {N : Int → Int → Int → Int → World → Prop} {a' b' c' d' : Int} {c0 : Nat} (h : D10 w X S mv mr N c0 S' a' b' c' d' w') (hM4 : M4 mv N) (hb : Below w'.heap.size w' w'') : D10 w X S mv mr N c0 S' a' b' c' d' w'' :=
  ⟨h.p.below hM4 hb, h.room, h.most, h.nn, h.ff, h.fx, h.ex.next (ex_of hb (X := fun _ => False)) (fun _ _ y => y.elim)⟩
theorem D10.none {w w' : World} {X : Nat} {S : S10} {mv mr : Value} {N : Int → Int → Int → Int → World → Prop} {a b c d : Int} {c0 : Nat} (hP : P10 w X S mv mr N a b c d c0) (hM4 : M4 mv N) (hb : Below w.heap.size w w') : D10 w X S mv mr N (c0 + 1) S a b c d w' :=
  ⟨(hP.below hM4 hb).le (Nat.le_succ _), rfl, rfl, Nat.le_refl _, ⟨rfl, rfl⟩, fun _ hk => .inl hk, ex_of hb⟩
def stF (k s : Int) (nm : ByteArray) (x : Int) : Nat → Value
  | 0 => .int .i64 k
  | 1 => .int .i64 s
  | 2 => .string nm
  | _ => .int .i64 x
theorem st_new (w : World) (k s : Int) (nm : ByteArray) (x : Int) : Blk (w.alloc (.cells #[.int .i64 k, .int .i64 s, .string nm, .int .i64 x] 53)) w.heap.size 4 (stF k s nm x) := by
  refine (Blk.new w _ _).congr fun i hi => ?_
  have : i = 0 ∨ i = 1 ∨ i = 2 ∨ i = 3 := by simp at hi; omega
  rcases this with rfl | rfl | rfl | rfl <;> rfl
end Go.Proofs.YtcbhpjpkjmlcnaaGreat
