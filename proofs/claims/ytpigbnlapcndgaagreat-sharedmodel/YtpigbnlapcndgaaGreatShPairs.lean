/-
  A shared namespace's pairs.
-/
import Derived.Test.YtpigbnlapcndgaaGreatShs
import Derived.Laws.OwnMore
namespace Go.Proofs.YtpigbnlapcndgaaGreat
open Go.RowKit Go.WideShapes

/-- The cells of pairs. -/
def pcl : List (ByteArray × Int) → List Value
  | [] => []
  | p :: l => .string p.1 :: .int .i64 p.2 :: pcl l
theorem pcl_len : ∀ l, (pcl l).length = l.length * 2
  | [] => rfl
  | p :: l => by show (pcl l).length + 1 + 1 = _; rw [pcl_len l, List.length_cons]; omega
theorem pcl_app : ∀ l m, pcl (l ++ m) = pcl l ++ pcl m
  | [], _ => rfl
  | p :: l, m => by show _ :: _ :: pcl (l ++ m) = _; rw [pcl_app l m]; rfl
theorem pcl_one : ∀ l, ∀ u ∈ pcl l, u.oneCell' = true
  | [], u, h => by cases h
  | p :: l, u, h => by
    rcases List.mem_cons.1 h with rfl | h
    · rfl
    · rcases List.mem_cons.1 h with rfl | h
      · rfl
      · exact pcl_one l u h
theorem own_keep {w w' : World} {B n size : Nat} {t : TypeId} {v : Value} {xs : List Value} (h : w.ownsRow B t size v n xs) (hb : Below w.heap.size w w') : w'.ownsRow B t size v n xs := by
  refine ⟨h.1, ?_⟩
  have hl := World.ownsRow.lt h
  rcases h.2 with x | ⟨g, cap, cur, hv, h1, h2, h3⟩
  · exact .inl x
  · exact .inr ⟨g, cap, cur, hv, h1, (hb.block g (hl g (by rw [hv]; rfl)).2).trans h2, h3⟩
/-- append, whose run is known, as one step of a region that draws. -/
theorem step_append_run {P : Program} {ops : Array Oper} {o : Oper} {a : Act} {w : World} {K : Act → World → Prop} {Q : Exit → Act → World → Prop} {E : Prop} (hgd : o.guard = none) (s x : Operand) (t : TypeId)
    (ho : o.op = .call { callee := .builtin .append, args := #[s, x], argTypes := #[t, t] }) (v u v' : Value) (w' : World) (hs : a.eval s = v) (hx : a.eval x = u) (hr : (Builtin.append_ #[t, t] o.type #[v, u]).run P w = .ok v' w') (h : K (a.put o.dst v') w') :
    if Region.wanted o (yielded ops a.tmps) = true then Oper.wp P o a w K Q else E := by
  have hw : Region.wanted o (yielded ops a.tmps) = true := by simp [Region.wanted, hgd]
  rw [if_pos hw]
  unfold Oper.wp execOp
  simp only [ho, resolve, invoke, builtin, Sem.run_bind, Sem.run_pure, Result.andThen_ok, List.map_toArray, List.map_cons, List.map_nil, hs, hx, hr]
  exact h
/-- A row of pairs of one's own. -/
def PsB (B : Nat) (w : World) (v : Value) (l : List (ByteArray × Int)) : Prop := w.ownsRow B 48 2 v l.length (pcl l)
/-- The first n pairs of a shared namespace. -/
def prsN (all : List ByteArray) (es : List En) (vs : List Int) : Nat → List (ByteArray × Int)
  | 0 => []
  | n + 1 => prsN all es vs n ++ [(nmOf all (nth es n).key, vs[n]?.getD 0)]
theorem prsN_len (all : List ByteArray) (es : List En) (vs : List Int) : ∀ n, (prsN all es vs n).length = n
  | 0 => rfl
  | n + 1 => by show (prsN all es vs n ++ _).length = _; rw [List.length_append, prsN_len all es vs n]; rfl
theorem Tryz.infoPair : (Tryz.prog.info? 48).map (fun i => (i.zero, i.size, i.bytes)) = some (some (.agg #[.string ByteArray.empty, .int .i64 0]), 2, 24) := by kernel_rfl
set_option maxRecDepth 100000 in
set_option maxHeartbeats 4000000 in
theorem rowPairs_any {w : World} {q f g gi r h : Nat} {ev : Value} {mb : Nat} {nv : Value} {F : Fa} {mv : Value} {vv : Value} {vs : List Int} {hs : ByteArray → Int} (hF : Fam w f g gi r h ev mb nv F mv) (hN : Nl hs F.all F.kt.es) (hq : Blk w q 2 (sdF f vv)) (hv : IntsR 0 w vv vs) (hl : vs.length ≤ F.kt.es.length) (hr : vs.length ≤ 256) (hlv : deadN F.kt.es = 0) :
    Calls Tryz.prog 102 #[.pointer (some ⟨q, 0, none⟩)] w fun e w' => ∃ v, e = .returned v ∧ PsB w.heap.size w' v (prsN F.all F.kt.es vs vs.length) ∧ Below w.heap.size w w' := by
  obtain ⟨i0, hi0, hz0, hz1, hz2⟩ := info_parts Tryz.infoPair
  obtain ⟨an, capn, hnv⟩ := ownsRow_shape hF.nh.ns
  obtain ⟨av, cap, gv, rfl, hcap, hvo⟩ := hv.open
  have k1 : w.cell? ⟨q, 1, none⟩ = some (.slice av vs.length cap) := hq.c 1 (by omega)
  have lq := hq.lt (by omega)
  have HCELL : Hid (∀ W, Below w.heap.size w W → W.cell? ⟨q, 0, none⟩ = some (.pointer (some ⟨f, 0, none⟩)) ∧ W.cell? ⟨f, 1, none⟩ = some (.pointer (some ⟨g, 0, none⟩)) ∧ ∀ i, i < vs.length → av = some ⟨gv, 0, none⟩ ∧ W.cell? ⟨gv, i, none⟩ = some (.int .i64 (vs[i]?.getD 0))) := by
    intro W hW
    have hFW := hF.below hW
    refine ⟨(hq.of hW (by omega)).c 0 (by omega), hFW.nh.hd.c 1 (by omega), fun i hi => ?_⟩
    obtain ⟨h1, h2, _, h4⟩ := hvo (by omega)
    exact ⟨h1, (hW.cell (p := ⟨gv, i, none⟩) h2).trans (h4.c i hi)⟩
  have HF := Lib.hid hF
  have HN := Lib.hid hN
  have HLV := Lib.hid hlv
  obtain ⟨n, hn⟩ : ∃ n, vs.length = n := ⟨_, rfl⟩
  rw [hn] at k1 hl hr HCELL ⊢
  obtain ⟨w1, hmk, hown1, hgrow1⟩ := run_make_own (P := Tryz.prog) w w.heap.size 36 48 i0 (.agg #[.string ByteArray.empty, .int .i64 0]) 2 Tryz.underlying36 hi0 hz0 hz1 .i64 .i64 n (by rw [hz2]; omega) (by unfold maxLen; omega) (Nat.le_refl _)
  have hB1 : Below w.heap.size w w1 := (Below.refl _ w).grown hgrow1 (Nat.le_refl _) (fun k e => by cases e)
  have k1' : w1.cell? ⟨q, 1, none⟩ = some (.slice av n cap) := (hB1.cell (p := ⟨q, 1, none⟩) lq).trans k1
  have HO1 := Lib.hid hown1
  have HB1 := Lib.hid hB1
  clear hF hN hq hv hvo hlv hn hcap hown1 hgrow1 hB1
  go_enter Tryz.func102, Tryz.ntmps102
  go_wp2_with fail
  clear hmk k1 k1'
  go_loopw [3, 4, 5, 6, 7, 19] (fun sv _ _ _ _ iv wr => ∃ i : Nat, i ≤ n ∧ sv = .slice (some ⟨w.heap.size, 0, none⟩) i n ∧ iv = .int .i64 (i : Int) ∧ Below w.heap.size w wr ∧ wr.ownsRow w.heap.size 48 2 (.slice (some ⟨w.heap.size, 0, none⟩) i n) i (pcl (prsN F.all F.kt.es vs i))) (fun _ _ _ _ _ iv _ => n - (intOf iv).toNat)
  case atStart => exact ⟨0, Nat.zero_le _, rfl, rfl, HB1.out, HO1.out⟩
  case round =>
    clear HB1 HO1
    obtain ⟨i, hi, rfl, rfl, hB, hO⟩ := hrel
    by_cases hin : i < n
    · have ti : (i : Int) < (n : Int) := by omega
      obtain ⟨c0, c1, hcl⟩ := HCELL.out wr hB
      obtain ⟨ha0, hvi⟩ := hcl i hin
      subst ha0
      have CT := rowTable_any c0 c1
      have CA := at7_yes (HF.out.dt.below hB) i (by omega) (dead_live HLV.out (by omega))
      have e21 : IntKind.i64.wrap ((i : Int) + 1) = ((i + 1 : Nat) : Int) := by rw [i64_small (by omega) (by omega)]; omega
      obtain ⟨kk, nmk, hall, hkey, -⟩ := HN.out.nm _ (nth_mem (show i < F.kt.es.length by omega))
      have hnk : nmOf F.all (nth F.kt.es i).key = nmk := by rw [hkey]; exact nmOf_at hall
      have hkl : kk < F.all.length := (List.getElem?_eq_some_iff.1 hall).1
      obtain ⟨gn, hgn⟩ : ∃ gn, an = some ⟨gn, 0, none⟩ := by
        have h1 := HF.out.nh.ns
        rw [hnv] at h1
        rcases h1.2 with ⟨h2, h3⟩ | ⟨g', cap', cur', h2, _⟩
        · injection h2 with _ h4 _
          omega
        · injection h2 with h2 _ _
          exact ⟨g', h2⟩
      have HRE : Hid (pcl (prsN F.all F.kt.es vs (i + 1)) = pcl (prsN F.all F.kt.es vs i) ++ [.string nmk, .int .i64 (vs[i]?.getD 0)]) := by
        show pcl (prsN F.all F.kt.es vs i ++ _) = _
        rw [pcl_app, hnk]
        rfl
      have HCN : Hid (∀ W, Below w.heap.size w W → W.cell? ⟨q, 0, none⟩ = some (.pointer (some ⟨f, 0, none⟩)) ∧ W.cell? ⟨f, 5, none⟩ = some (.slice (some ⟨gn, 0, none⟩) F.all.length capn) ∧ W.cell? ⟨gn, kk, none⟩ = some (.string nmk)) := by
        intro W hW
        have hFW := HF.out.below hW
        refine ⟨(HCELL.out W hW).1, ?_, ?_⟩
        · have := hFW.nh.hd.c 5 (by omega); rw [hnv, hgn] at this; exact this
        · have h1 := hFW.nh.ns
          rw [hnv, hgn] at h1
          have h2 := World.ownsRow.cellAt h1 kk (by omega)
          rw [h2, List.getElem?_map, hall]
          rfl
      obtain ⟨R, hR⟩ : ∃ R, pcl (prsN F.all F.kt.es vs i) = R := ⟨_, rfl⟩
      rw [hR] at HRE hO
      have HB := Lib.hid hB
      have HO := Lib.hid hO
      clear hB hO hcl hR hnk hall
      generalize nth F.kt.es i = E at *
      generalize vs[i]?.getD 0 = vi at *
      go_wp2_with fail
      refine CT.mono ?_
      rintro e w2 ⟨rfl, rfl⟩
      clear CT
      go_wp2_with fail
      refine CA.mono ?_
      rintro e w6 ⟨rfl, hB6⟩
      clear CA
      obtain ⟨w7, hw7⟩ : ∃ y, w6.alloc (.cells #[.bool E.live, .int .i64 E.hash, .int .i64 E.key, .int .i64 E.value, .int .i64 E.birth] 78) = y := ⟨_, rfl⟩
      have hB7 : Below w2.heap.size w2 w7 := by rw [← hw7]; exact hB6.alloc hB6.size _
      have hX7 : Blk w7 w6.heap.size 5 (fun j => #[Value.bool E.live, .int .i64 E.hash, .int .i64 E.key, .int .i64 E.value, .int .i64 E.birth].getD j .nilFunc) := by rw [← hw7]; exact Blk.new w6 _ _
      have hs7 : w7.heap.size = w6.heap.size + 1 := by rw [← hw7]; simp
      have hBw7 : Below w.heap.size w w7 := HB.out.trans (hB7.mono HB.out.size)
      have hO7 : w7.ownsRow w.heap.size 48 2 (.slice (some ⟨w.heap.size, 0, none⟩) i n) i R := own_keep HO.out hB7
      obtain ⟨w8, hw8⟩ : ∃ y, (w7.alloc (.cells #[.string nmk, .int .i64 vi] 48)).drew = y := ⟨_, rfl⟩
      have hB8 : Below w7.heap.size w7 w8 := by rw [← hw8]; exact ((Below.refl _ w7).alloc (Nat.le_refl _) _).drew
      have hO8 : w8.ownsRow w.heap.size 48 2 (.slice (some ⟨w.heap.size, 0, none⟩) i n) i R := own_keep hO7 hB8
      have hX8 : Blk w8 w7.heap.size 2 (fun j => #[Value.string nmk, .int .i64 vi].getD j .nilFunc) := by rw [← hw8]; exact (Blk.new w7 _ _).same (w' := (w7.alloc (.cells #[.string nmk, .int .i64 vi] 48)).drew) rfl
      obtain ⟨w9, hap, hO9, hg9⟩ := run_append_fits (P := Tryz.prog) w8 w.heap.size 36 36 48 i0 2 Tryz.underlying36 hi0 hz1 w.heap.size i n R hO8 ⟨w7.heap.size, 0, none⟩ 1 1 [.string nmk, .int .i64 vi] rfl (fun j u hj => by
        have : j = 0 ∨ j = 1 := by have := (List.getElem?_eq_some_iff.1 hj).1; simp at this; omega
        rcases this with rfl | rfl
        · cases hj; exact hX8.c 0 (by omega)
        · cases hj; exact hX8.c 1 (by omega)) (pcl_one [(nmk, vi)]) (by omega)
      have hBw8 : Below w.heap.size w w8 := hBw7.trans (hB8.mono hBw7.size)
      have hB9 : Below w.heap.size w w9 := hBw8.grown hg9 hBw8.size (fun k e => by injection e with e; omega)
      rw [← HRE.out] at hO9
      have d2 : w7.drew.cell? ⟨w6.heap.size, 2, none⟩ = some (.int .i64 (kk : Int)) := by have := hX7.c 2 (by omega); rw [← hkey]; exact this
      obtain ⟨n0, n1, n2⟩ := HCN.out w7.drew hBw7.drew
      have hl6 : w6.heap.size < w7.heap.size := by omega
      have hw6 : w.heap.size ≤ w6.heap.size := Nat.le_trans HB.out.size hB6.size
      have hlg : w.heap.size < w2.heap.size := (World.ownsRow.lt HO.out w.heap.size rfl).2
      have d8 : w8.cell? ⟨w6.heap.size, 2, none⟩ = some (.int .i64 (kk : Int)) := (hB8.cell (p := ⟨w6.heap.size, 2, none⟩) hl6).trans d2
      have d9 : w9.cell? ⟨w6.heap.size, 2, none⟩ = some (.int .i64 (kk : Int)) := (World.cell?_of_block (a := ⟨w6.heap.size, 2, none⟩) (hg9.block w6.heap.size (by have := hB8.size; omega) (fun e => by injection e with e; have := hB6.size; omega))).trans d8
      have HK7 : Hid ((w7.drew.cell? ⟨q, 0, none⟩ = some (.pointer (some ⟨f, 0, none⟩)) ∧ w7.drew.cell? ⟨f, 5, none⟩ = some (.slice (some ⟨gn, 0, none⟩) F.all.length capn)) ∧ w7.drew.cell? ⟨w6.heap.size, 2, none⟩ = some (.int .i64 (kk : Int)) ∧ w7.drew.cell? ⟨gn, kk, none⟩ = some (.string nmk)) := ⟨⟨n0, n1⟩, d2, n2⟩
      have HK8 : Hid ((w8.cell? ⟨q, 0, none⟩ = some (.pointer (some ⟨f, 0, none⟩)) ∧ w8.cell? ⟨f, 5, none⟩ = some (.slice (some ⟨gn, 0, none⟩) F.all.length capn)) ∧ w8.cell? ⟨w6.heap.size, 2, none⟩ = some (.int .i64 (kk : Int)) ∧ w8.cell? ⟨gn, kk, none⟩ = some (.string nmk)) := ⟨⟨(HCN.out w8 hBw8).1, (HCN.out w8 hBw8).2.1⟩, d8, (HCN.out w8 hBw8).2.2⟩
      have HK9 : Hid ((w9.cell? ⟨q, 0, none⟩ = some (.pointer (some ⟨f, 0, none⟩)) ∧ w9.cell? ⟨f, 5, none⟩ = some (.slice (some ⟨gn, 0, none⟩) F.all.length capn)) ∧ w9.cell? ⟨w6.heap.size, 2, none⟩ = some (.int .i64 (kk : Int)) ∧ w9.cell? ⟨gn, kk, none⟩ = some (.string nmk)) := ⟨⟨(HCN.out w9 hB9).1, (HCN.out w9 hB9).2.1⟩, d9, (HCN.out w9 hB9).2.2⟩
      have HW7 := Lib.hid hw7
      have HW8 := Lib.hid hw8
      have HF9 : Hid (Below w.heap.size w w9 ∧ w9.ownsRow w.heap.size 48 2 (.slice (some ⟨w.heap.size, 0, none⟩) (i + 1) n) (i + 1) (pcl (prsN F.all F.kt.es vs (i + 1)))) := ⟨hB9, hO9⟩
      have tkk : (kk : Int) < (F.all.length : Int) := by omega
      have hs7d : w7.drew.heap.size = w7.heap.size := rfl
      have HAP : Hid ((Builtin.append_ #[36, 36] 36 #[.slice (some ⟨w.heap.size, 0, none⟩) i n, .slice (some ⟨w7.heap.size, 0, none⟩) 1 1]).run Tryz.prog w8 = .ok (.slice (some ⟨w.heap.size, 0, none⟩) (i + 1) n) w9) := hap
      rw [← hw8] at hap
      clear hw7 hw8 hB6 hB7 hX7 hX8 hO7 hO8 hB8 hO9 hg9 hBw8 hB9 hBw7 n0 n1 n2 d2 d8 d9 hkey
      go_upto_region 6 with fail
      rw [HW7.out]
      go_region_held3 (fun V => (V.cell? ⟨q, 0, none⟩ = some (.pointer (some ⟨f, 0, none⟩)) ∧ V.cell? ⟨f, 5, none⟩ = some (.slice (some ⟨gn, 0, none⟩) F.all.length capn)) ∧ V.cell? ⟨w6.heap.size, 2, none⟩ = some (.int .i64 (kk : Int)) ∧ V.cell? ⟨gn, kk, none⟩ = some (.string nmk))
        (first | with_reducible exact HK7.out | with_reducible exact HK9.out | (rw [HW8.out]; with_reducible exact HK8.out) | fail) (first | (refine step_append_run rfl _ _ 36 rfl _ _ _ w9 (by simp [Act.eval]) (by simp [Act.eval]) hap ?_) | fail)
      go_wp2_with fail
      go_roundw
      case rel => exact ⟨i + 1, by omega, by first | rfl | trivial, by first | rfl | trivial, HF9.out.1, HF9.out.2⟩
      case measure => simp [intOf]; omega
    · obtain rfl : i = n := by omega
      have ti : ¬ (i : Int) < (i : Int) := by omega
      have HFN : Hid (PsB w.heap.size wr (.slice (some ⟨w.heap.size, 0, none⟩) i i) (prsN F.all F.kt.es vs i)) := by
        show World.ownsRow _ _ _ _ _ _ _
        rw [prsN_len]
        exact hO
      clear hO
      go_wp2
      go_ret
      exact ⟨_, rfl, HFN.out, hB⟩
end Go.Proofs.YtpigbnlapcndgaaGreat
