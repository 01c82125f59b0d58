/-
  laid.
-/
import Derived.Test.YthaijfjodfgbnaaLdAwake
import Derived.Test.YthaijfjodfgbnaaLwInts
namespace Go.Proofs.Ythaijfjodfgbnaa
open Go.RowKit Go.WideShapes

theorem append_en {w : World} {B : Nat} {v : Value} {es : List En} (h : EsB B w v es) (hB : B ≤ w.heap.size) (ad : Addr) (m c : Nat) (ns : List En) (hl : ns.length = m) (hnews : ∀ j u, (enl ns)[j]? = some u → w.cell? (ad.add j) = some u) (hs : es.length + m ≤ 1000000) (ty : TypeId) :
    ∃ v' w', (Builtin.append_ #[25, 25] ty #[v, .slice (some ad) m c]).run Try.prog w = .ok v' w' ∧ EsB B w' v' (es ++ ns) ∧ w.grownBy w' v.ownBlock ∧ (v'.ownBlock = v.ownBlock ∨ v'.ownBlock = some w.heap.size) := by
  obtain ⟨i0, hi, hz0, hz1, hz2⟩ := info_parts Try.infoEn
  obtain ⟨v', w', h1, h2, h3, _, h5⟩ := run_append_own_at (P := Try.prog) w B 25 ty 36 i0 (.agg #[.bool false, .int .i64 0, .int .i64 0, .int .i64 0, .int .i64 0]) 5 40 Try.underlying25 hi hz0 hz1 hz2 rfl (by decide) v es.length (enl es) h ad m c (enl ns) (by rw [enl_len, hl]) hnews (enl_one _) (by unfold maxLen; omega) (by omega) hB
  refine ⟨v', w', h1, ?_, h3, h5⟩
  unfold EsB
  rw [List.length_append, hl, enl_app]
  exact h2
/-- Where laid stands. -/
structure Lw (w : World) (t : Tb) (ws : List En) (i g gi r h : Nat) (ev wv : Value) (wr : World) : Prop where
  ld : Ld t ws i
  dt : Dt wr g gi r h ev t (.pointer none)
  wt : EsB w.heap.size wr wv ws
  fr : ∀ k, dX g gi r h ev k → w.heap.size ≤ k
  ap : ∀ k, wv.ownBlock = some k → ¬ dX g gi r h ev k
  bl : Below w.heap.size w wr
/-- Behind an Add. -/
theorem Lw.add {w : World} {t : Tb} {ws : List En} {i g gi r h : Nat} {ev wv : Value} {wr : World} (x : Lw w t ws i g gi r h ev wv wr) {t' : Tb} {a b : Int} {w1 : World} {gi' r' h' : Nat} {ev' : Value} (hA : Ad wr g gi r h ev (.pointer none) noM a b t' w1 gi' r' h' ev') :
    Dt w1 g gi' r' h' ev' t' (.pointer none) ∧ EsB w.heap.size w1 wv ws ∧ (∀ k, dX g gi' r' h' ev' k → w.heap.size ≤ k) ∧ (∀ k, wv.ownBlock = some k → ¬ dX g gi' r' h' ev' k) ∧ Below w.heap.size w w1 := by
  have hsz := x.bl.size
  have hlt : ∀ k, wv.ownBlock = some k → k < wr.heap.size := fun k hk => (World.ownsRow.lt x.wt k hk).2
  refine ⟨hA.dt, ?_, fun k hk => ?_, fun k hk hd => ?_, x.bl.trans (hA.ex.below (fun k hk => ?_) hsz)⟩
  · refine ⟨x.wt.1, ?_⟩
    rcases x.wt.2 with h0 | ⟨g9, cap9, cur9, e9, h1, h2, h3⟩
    · exact .inl h0
    · have hob : wv.ownBlock = some g9 := by rw [e9]; rfl
      exact .inr ⟨g9, cap9, cur9, e9, h1, (hA.ex.block g9 (hlt g9 hob) (fun hx => hx.elim (x.ap g9 hob) (fun e => by cases e))).trans h2, h3⟩
  · rcases hA.fx k hk with y | y
    · exact x.fr k y
    · omega
  · rcases hA.fx k hd with y | y
    · exact x.ap k hk y
    · have := hlt k hk; omega
  · rcases hk with y | y
    · exact x.fr k y
    · cases y
/-- Behind an append onto what is wanted. -/
theorem Lw.app {w : World} {t : Tb} {ws : List En} {i g gi r h : Nat} {ev wv : Value} {wr : World} (hl : Ld t ws i) (hd : Dt wr g gi r h ev t (.pointer none)) (hfr : ∀ k, dX g gi r h ev k → w.heap.size ≤ k) (hap : ∀ k, wv.ownBlock = some k → ¬ dX g gi r h ev k) (hbl : Below w.heap.size w wr) (hge : ∀ k, wv.ownBlock = some k → w.heap.size ≤ k)
    {v' : Value} {w' : World} (hE : EsB w.heap.size w' v' ws) (hgrow : wr.grownBy w' wv.ownBlock) (hat : v'.ownBlock = wv.ownBlock ∨ v'.ownBlock = some wr.heap.size) : Lw w t ws i g gi r h ev v' w' := by
  have hsz := hbl.size
  refine ⟨hl, hd.same fun k hk => hgrow.block k (hd.lt k hk) (fun e => hap k e.symm hk), hE, hfr, fun k hk hx => ?_, hbl.grown hgrow hsz (fun k e => hge k e)⟩
  rcases hat with e | e
  · exact hap k (e ▸ hk) hx
  · rw [e] at hk
    cases hk
    have := hd.lt _ hx
    omega
theorem EsB.cellAt {B : Nat} {w : World} {ge n cap : Nat} {es : List En} (h : EsB B w (.slice (some ⟨ge, 0, none⟩) n cap) es) (j : Nat) (hj : j < es.length * 5) : w.cell? ⟨ge, j, none⟩ = (enl es)[j]? := by
  have hn : n = es.length := by
    rcases h.2 with ⟨e, _⟩ | ⟨g9, cap9, cur9, e9, _⟩
    · cases e
    · cases e9; rfl
  subst hn
  exact World.ownsRow.cellAt h j hj
theorem EsB.same {B : Nat} {w w' : World} {v : Value} {es : List En} (h : EsB B w v es) (e : ∀ k, v.ownBlock = some k → w'.heap[k]? = w.heap[k]?) : EsB B w' v es := by
  refine ⟨h.1, ?_⟩
  rcases h.2 with h0 | ⟨g9, cap9, cur9, e9, h1, h2, h3⟩
  · exact .inl h0
  · exact .inr ⟨g9, cap9, cur9, e9, h1, (e g9 (by rw [e9]; rfl)).trans h2, h3⟩
/-- None is wanted any more. -/
theorem Lw.none {w : World} {t : Tb} {ws : List En} {i g gi r h : Nat} {ev wv : Value} {wr : World} (x : Lw w t ws i g gi r h ev wv wr) (h0 : ws.length = 0) : Lw w t ws i g gi r h ev (.slice none 0 0) wr := by
  have : ws = [] := List.eq_nil_of_length_eq_zero h0
  subst this
  exact ⟨x.ld, x.dt, ⟨rfl, .inl ⟨rfl, rfl⟩⟩, x.fr, fun k hk => (by cases hk), x.bl⟩
/-- The two appends that leave one out. -/
theorem laid_tail {w : World} {t : Tb} {ws : List En} {i g gi r h : Nat} {ev : Value} {w5 : World} {ge cap k : Nat} (hk : k < ws.length) (hs : ws.length ≤ 100000) (hl : Ld t (ws.take k ++ ws.drop (k + 1)) i) (hd : Dt w5 g gi r h ev t (.pointer none)) (hE : EsB w.heap.size w5 (.slice (some ⟨ge, 0, none⟩) ws.length cap) ws)
    (hfr : ∀ k, dX g gi r h ev k → w.heap.size ≤ k) (hbl : Below w.heap.size w w5) (T : TypeId) :
    ∃ a6 c6 w6, (Builtin.append_ #[25, 25] T #[.slice none 0 0, .slice (some ⟨ge, 0, none⟩) k cap]).run Try.prog w5 = .ok (.slice a6 k c6) w6 ∧
      ∃ a7 c7 w7, (cap ≠ k + 1 → (Builtin.append_ #[25, 25] T #[.slice a6 k c6, .slice (some ⟨ge, (k + 1) * 5, none⟩) (ws.length - (k + 1)) (cap - (k + 1))]).run Try.prog w6 = .ok (.slice a7 (ws.length - 1) c7) w7) ∧
        (cap = k + 1 → (Builtin.append_ #[25, 25] T #[.slice a6 k c6, .slice (some ⟨ge, 0, none⟩) 0 0]).run Try.prog w6 = .ok (.slice a7 (ws.length - 1) c7) w7) ∧
        Lw w t (ws.take k ++ ws.drop (k + 1)) i g gi r h ev (.slice a7 (ws.length - 1) c7) w7 := by
  have hsz := hbl.size
  have hN : EsB w.heap.size w5 (.slice none 0 0) [] := ⟨rfl, .inl ⟨rfl, rfl⟩⟩
  have hlt : (ws.take k).length = k := by rw [List.length_take]; omega
  obtain ⟨v6, w6, r6, e6, g6, at6⟩ := append_en hN hsz ⟨ge, 0, none⟩ k cap (ws.take k) hlt (fun j u hj => by
    have hjl : j < k * 5 := by rw [← hlt, ← enl_len]; exact (List.getElem?_eq_some_iff.1 hj).1
    have hc := hE.cellAt j (by omega)
    rw [enl_take, List.getElem?_take, if_pos hjl] at hj
    rw [WideShapes.add_plain, Nat.zero_add, hc]
    exact hj) (by simp; omega) T
  rw [List.nil_append] at e6
  obtain ⟨a6, c6, hv6⟩ := ownsRow_shape e6
  rw [hlt] at hv6
  subst hv6
  have hb6 : ∀ j, j < w5.heap.size → w6.heap[j]? = w5.heap[j]? := fun j hj => g6.block j hj (fun e => by cases e)
  have hge : ge < w5.heap.size := (World.ownsRow.lt hE ge rfl).2
  have hE6 := hE.same (w' := w6) fun j hj => by cases hj; exact hb6 _ hge
  have hbl6 : Below w.heap.size w w6 := hbl.grown g6 hsz (fun j e => by cases e)
  have hld : (ws.drop (k + 1)).length = ws.length - (k + 1) := List.length_drop
  have hnew : ∀ j u, (enl (ws.drop (k + 1)))[j]? = some u → w6.cell? (Addr.add ⟨ge, (k + 1) * 5, none⟩ j) = some u := fun j u hj => by
    have hjl : j < (ws.length - (k + 1)) * 5 := by rw [← hld, ← enl_len]; exact (List.getElem?_eq_some_iff.1 hj).1
    rw [WideShapes.add_plain, hE6.cellAt _ (by omega), ← hj, enl_drop, List.getElem?_drop]
  have hd6 : Dt w6 g gi r h ev t (.pointer none) := hd.same fun j hj => hb6 j (hd.lt j hj)
  have hge6 : ∀ j, (Value.slice a6 k c6).ownBlock = some j → w.heap.size ≤ j := e6.ge
  have hap6 : ∀ j, (Value.slice a6 k c6).ownBlock = some j → ¬ dX g gi r h ev j := fun j hj hx => by
    rcases at6 with e | e
    · rw [e] at hj; cases hj
    · rw [e] at hj
      cases hj
      have := hd.lt _ hx
      omega
  have hlw : (ws.take k ++ ws.drop (k + 1)).length = ws.length - 1 := by rw [List.length_append, hlt, hld]; omega
  have hcap : ws.length ≤ cap := by
    rcases hE.2 with ⟨e, _⟩ | ⟨g9, cap9, cur9, e9, _, _, h3, _⟩
    · cases e
    · cases e9; exact h3
  by_cases hc : cap = k + 1
  · have hd0 : ws.drop (k + 1) = [] := List.drop_eq_nil_of_le (by omega)
    obtain ⟨v7, w7, r7, e7, g7, at7⟩ := append_en e6 hbl6.size ⟨ge, 0, none⟩ 0 0 [] rfl (fun j u hj => by simp [enl] at hj) (by omega) T
    obtain ⟨a7, c7, hv7⟩ := ownsRow_shape e7
    rw [List.append_nil, hlt, show k = ws.length - 1 by omega] at hv7
    subst hv7
    refine ⟨a6, c6, w6, r6, a7, c7, w7, fun h => absurd hc h, fun _ => r7, ?_⟩
    have e7' : EsB w.heap.size w7 (.slice a7 (ws.length - 1) c7) (ws.take k ++ ws.drop (k + 1)) := by rw [hd0]; exact e7
    exact Lw.app hl hd6 hfr hap6 hbl6 hge6 e7' g7 at7
  · obtain ⟨v7, w7, r7, e7, g7, at7⟩ := append_en e6 hbl6.size ⟨ge, (k + 1) * 5, none⟩ (ws.length - (k + 1)) (cap - (k + 1)) (ws.drop (k + 1)) hld hnew (by omega) T
    obtain ⟨a7, c7, hv7⟩ := ownsRow_shape e7
    rw [hlw] at hv7
    subst hv7
    exact ⟨a6, c6, w6, r6, a7, c7, w7, fun _ => r7, fun h => absurd h hc, Lw.app hl hd6 hfr hap6 hbl6 hge6 e7 g7 at7⟩
set_option maxRecDepth 100000 in
set_option maxHeartbeats 8000000 in
theorem laid_any2 {w : World} {a0 : Option Addr} {n0 c0 : Nat} {l : List Int} {a1 : Option Addr} {n1 c1 : Nat} {ks : List Int} (h0 : SlI w a0 n0 c0 l) (h1 : SlI w a1 n1 c1 ks) (hn : n0 ≤ 300) :
    Calls Try.prog 5 #[.slice a0 n0 c0, .slice a1 n1 c1] w fun e w' => ∃ g gi r h ev wv t ws, e = .returned (.tuple #[.pointer (some ⟨g, 0, none⟩), wv, .bool true]) ∧ (n1 = 0 → ws.length = n0) ∧ Lw w t ws n0 g gi r h ev wv w' := by
  obtain ⟨b0, o0, p0, q0, m0, s0⟩ := h0.open
  obtain ⟨b1, o1, p1, q1, m1, s1⟩ := h1.open
  have HP0 := Lib.hid p0
  have HP1 := Lib.hid p1
  have HS0 := Lib.hid s0
  have HS1 := Lib.hid s1
  clear h0 h1 p0 p1 s0 s1
  subst q0
  subst q1
  have CN := new7_any (w := w) (pm := none) (a := 0) (b := 0) mtOk_nil trivial (by decide)
  go_enter Try.func5, Try.ntmps5
  go_wp2_with fail
  refine CN.mono ?_
  rintro e w1 ⟨g, gi, r, h, rfl, hg, hgi, hr, hh, hD1, _, hX1⟩
  clear CN
  have hfr0 : ∀ k, dX g gi r h (.slice none 0 0) k → w.heap.size ≤ k := by
    rintro k (rfl | rfl | rfl | rfl | hj)
    · exact hg
    · exact hgi
    · exact hr
    · exact hh
    · cases hj
  have hbl0 : Below w.heap.size w w1 := hX1.below (fun k hk => by cases hk) (Nat.le_refl _)
  have HL0 : Hid (Lw w Tb.new [] 0 g gi r h (.slice none 0 0) (.slice none 0 0) w1) := ⟨Ld.new rfl, hD1, ⟨rfl, .inl ⟨rfl, rfl⟩⟩, hfr0, (fun k hk => by cases hk), hbl0⟩
  clear hfr0 hbl0
  clear hD1 hX1
  go_wp2_with fail
  go_loopw [9, 8, 10, 11, 12, 13, 14, 15] (fun iv wv _ _ _ _ _ _ wr => ∃ i t ws gi r h ev, i ≤ l.length ∧ iv = .int .i64 ((i : Nat) : Int) ∧ Hid (ks.length = 0 → ws.length = i) ∧ Lw w t ws i g gi r h ev wv wr) (fun iv _ _ _ _ _ _ _ _ => l.length - (intOf iv).toNat)
  case atStart => exact ⟨0, _, _, _, _, _, _, Nat.zero_le _, rfl, fun _ => rfl, HL0.out⟩
  case round =>
    clear HL0 hgi hr hh
    obtain ⟨i, t, ws, gi, r, h, ev, hi, rfl, HNK, hL⟩ := hrel
    have HL := Lib.hid hL
    by_cases hlt : i < l.length
    · have t1 : (i : Int) < (l.length : Int) := by omega
      obtain ⟨e0, lb0⟩ := HP0.out (by omega)
      have d0 := (hL.bl.cell (p := ⟨b0, o0 + i, none⟩) lb0).trans (HS0.out i hlt)
      have e3 : IntKind.i64.wrap (3 * (i : Int)) = 3 * (i : Int) := i64_small (by omega) (by omega)
      have hbi := hL.ld.bi
      have hmd := hL.ld.md
      have htu := hL.ld.tu
      have CA := add_any hL.dt hL.ld.ok mtOk_nil (a := 0) (b := 0) trivial (by omega) (by decide) (by omega) (by omega) (l[i]?.getD 0) (i : Int) (3 * (i : Int))
      have hLd := hL.ld.add (by omega) (l[i]?.getD 0) (i : Int) (3 * (i : Int))
      have hrest := t.add_rest (l[i]?.getD 0) (i : Int) (3 * (i : Int))
      subst e0
      clear hL
      generalize hU : l[i]?.getD 0 = u at *
      have HU := Lib.hid hU
      clear hU
      generalize hT' : t.add u (i : Int) (3 * (i : Int)) = t' at *
      go_wp2_with fail
      refine CA.mono ?_
      rintro e w2 ⟨rfl, gi2, r2, h2, ev2, hA⟩
      clear CA
      obtain ⟨hD2, hW2, hfr2, hap2, hB2⟩ := HL.out.add hA
      obtain ⟨w3', hw3'⟩ : ∃ y, w2.alloc (.cells #[.bool true, .int .i64 u, .int .i64 (i : Int), .int .i64 (3 * (i : Int)), .int .i64 (i : Int)] 36) = y := ⟨_, rfl⟩
      have hb3' : Below w2.heap.size w2 w3' := by rw [← hw3']; exact (Below.refl _ w2).alloc (Nat.le_refl _) _
      have hsz2 := hB2.size
      have hlw2 : ∀ k, u8.ownBlock = some k → k < w2.heap.size := fun k hk => (World.ownsRow.lt hW2 k hk).2
      have hws : ws.length ≤ 300 := by have h1 := HL.out.ld.len; omega
      obtain ⟨wv3, w3, r3, e3', g3, at3⟩ := append_en (hW2.same (w' := w3') fun k hk => hb3'.block k (hlw2 k hk)) (Nat.le_trans hsz2 hb3'.size) ⟨w2.heap.size, 0, none⟩ 1 1 [⟨true, u, (i : Int), 3 * (i : Int), (i : Int)⟩] rfl (by rw [← hw3']; intro j u' hj; exact new_five w2 ⟨true, u, (i : Int), 3 * (i : Int), (i : Int)⟩ 36 j u' (by simpa [enl] using hj)) (by omega) 25
      have hL3 : Lw w t' (ws ++ [⟨true, u, (i : Int), 3 * (i : Int), (i : Int)⟩]) (i + 1) g gi2 r2 h2 ev2 wv3 w3 := Lw.app hLd (hD2.below hb3') hfr2 hap2 (hB2.trans (hb3'.mono hsz2)) (fun k hk => (World.ownsRow.lt hW2 k hk).1) e3' g3 at3
      obtain ⟨a3, cap3, hv3⟩ := ownsRow_shape e3'
      rw [List.length_append] at hv3
      subst hv3
      rw [← hw3'] at r3
      have d0' := (hB2.cell (p := ⟨b0, o0 + i, none⟩) lb0).trans (HS0.out i hlt)
      have hu : l[i]?.getD 0 = u := HU.out
      rw [hu] at d0'
      have HL3 := Lib.hid hL3
      have HLd := Lib.hid hLd
      clear hu hD2 hW2 hfr2 hap2 hA hL3 e3' g3 at3 hb3' hw3' hLd d0 hlw2
      have HR3 := Lib.hid r3
      clear r3
      go_upto_region 12 with (at_builtin; refine wpList_append_run rfl _ _ 25 25 rfl _ _ _ rfl rfl HR3.out ?_)
      clear HR3 d0'
      have hB3 := HL3.out.bl
      by_cases hki : i < ks.length ∧ 0 ≤ ks[i]?.getD 0
      · obtain ⟨hk1, hk0⟩ := hki
        have t2 : (i : Int) < (ks.length : Int) := by omega
        obtain ⟨e1, lb1⟩ := HP1.out (by omega)
        have d1 := (hB3.cell (p := ⟨b1, o1 + i, none⟩) lb1).trans (HS1.out i hk1)
        subst e1
        obtain ⟨kv, hkv⟩ : ∃ kv : Nat, ks[i]?.getD 0 = (kv : Int) := ⟨(ks[i]?.getD 0).toNat, by omega⟩
        rw [hkv] at d1
        have t3 : 0 ≤ (kv : Int) := by omega
        obtain ⟨kk, hkk⟩ : ∃ kk, kk = kv % (ws.length + 1) := ⟨_, rfl⟩
        have hkl : kk < ws.length + 1 := by rw [hkk]; exact Nat.mod_lt _ (by omega)
        have e12 : Int.tmod (kv : Int) ((ws.length : Int) + 1) = (kk : Int) := by
          rw [hkk]
          have := (Int.ofNat_tmod kv (ws.length + 1)).symm
          rwa [Int.natCast_add] at this
        clear hkk
        have e12' : IntKind.i64.wrap (kk : Int) = (kk : Int) := i64_small (by omega) (by omega)
        have e12n : ¬ ((ws.length : Int) + 1 = 0) := by omega
        generalize hWs : ws ++ [(⟨true, u, (i : Int), 3 * (i : Int), (i : Int)⟩ : En)] = ws' at *
        have hwl : ws'.length = ws.length + 1 := by rw [← hWs]; simp
        have hL3 := HL3.out
        obtain ⟨n, hnl, hnx, hnv, hnm, hnk⟩ := hL3.ld.kill (k := kk) (by omega)
        have hLk := hnk (by omega)
        have hfew := hL3.ld.ok.few
        have hall := hL3.ld.ok.all
        have hCN := number_any hL3.dt (by omega) (nth ws' kk) n hnl hnx hnm (by rw [← hnx]; exact hnv)
        obtain ⟨_, _, ge3, hv3, hae3, hro3⟩ := hL3.wt.es.open
        rw [hwl] at hv3
        cases hv3
        obtain ⟨hge3, _, _⟩ := hae3 (by omega)
        subst hge3
        have hcap3 := hro3.le
        rw [hwl] at hcap3
        have g0 := hro3.c0 kk (by omega)
        have g1 := hro3.c1 kk (by omega)
        have g2 := hro3.c2 kk (by omega)
        have g3 := hro3.c3 kk (by omega)
        have g4 := hro3.c4 kk (by omega)
        have t4 : (kk : Int) < (ws.length : Int) + 1 := by omega
        unfold lnV at hCN
        have HK : Hid (∀ w4, Below w3.heap.size w3 w4 → Calls Try.prog 14 #[.pointer (some ⟨g, 0, none⟩), .int .i64 (n : Int)] w4 fun e w' => e = .returned (.int .i64 0) ∧ ∃ a6 c6 w6, (Builtin.append_ #[25, 25] 25 #[.slice none 0 0, .slice (some ⟨ge3, 0, none⟩) kk cap3]).run Try.prog w' = .ok (.slice a6 kk c6) w6 ∧
            ∃ a7 c7 w7, (cap3 ≠ kk + 1 → (Builtin.append_ #[25, 25] 25 #[.slice a6 kk c6, .slice (some ⟨ge3, (kk + 1) * 5, none⟩) (ws.length + 1 - (kk + 1)) (cap3 - (kk + 1))]).run Try.prog w6 = .ok (.slice a7 ws.length c7) w7) ∧
            (cap3 = kk + 1 → (Builtin.append_ #[25, 25] 25 #[.slice a6 kk c6, .slice (some ⟨ge3, 0, none⟩) 0 0]).run Try.prog w6 = .ok (.slice a7 ws.length c7) w7) ∧
            Lw w (t'.kill n) (ws'.take kk ++ ws'.drop (kk + 1)) (i + 1) g gi2 r2 h2 ev2 (.slice a7 ws.length c7) w7) := fun w4 hb4 => by
          refine (kill_yes (hL3.dt.below hb4) hL3.ld.ok n hnl hnv (by omega)).mono ?_
          rintro e w5 ⟨rfl, hD5, hX5⟩
          refine ⟨rfl, ?_⟩
          have hs3 := hL3.bl.size
          have hE5 : EsB w.heap.size w5 (.slice (some ⟨ge3, 0, none⟩) ws'.length cap3) ws' := by
            have hg := (World.ownsRow.lt hL3.wt ge3 rfl).2
            rw [hwl]
            refine (hL3.wt.same (w' := w4) fun k hk => hb4.block k (World.ownsRow.lt hL3.wt k hk).2).same fun k hk => hX5.block k (Nat.lt_of_lt_of_le (World.ownsRow.lt hL3.wt k hk).2 hb4.size) (hL3.ap k hk)
          have hB5 : Below w.heap.size w w5 := (hL3.bl.trans (hb4.mono hs3)).trans (hX5.below hL3.fr (Nat.le_trans hs3 hb4.size))
          have := laid_tail (k := kk) (by omega) (by omega) hLk hD5 hE5 hL3.fr hB5 25
          rw [hwl] at this
          exact this
        clear hL3 hLk hnk hnm hnx hro3 hae3 hB3 hWs
        have HNX : Hid True := trivial
        generalize (nth ws' kk).live = z0 at *
        generalize (nth ws' kk).hash = z1 at *
        generalize (nth ws' kk).key = z2 at *
        generalize (nth ws' kk).value = z3 at *
        generalize (nth ws' kk).birth = z4 at *
        go_wp2_with fail
        refine hCN.mono ?_
        rintro e w4 ⟨rfl, hb4⟩
        clear hCN g0 g1 g2 g3 g4
        go_wp2_with fail
        refine (HK.out w4 hb4).mono ?_
        rintro e w5 ⟨rfl, a6, c6, w6, r6, a7, c7, w7, r7, r7', hL7⟩
        have HR6 := Lib.hid r6
        have HL7 := Lib.hid hL7
        have HR7 := Lib.hid r7
        have HR7' := Lib.hid r7'
        clear r6 hL7 r7 r7' HK
        have hkc : kk ≤ cap3 := by omega
        have hkc1 : kk + 1 ≤ cap3 := by omega
        have e98 : IntKind.i64.wrap ((kk : Int) + 1) = ((kk + 1 : Nat) : Int) := by rw [i64_small (by omega) (by omega)]; omega
        by_cases hcc : cap3 = kk + 1
        · have hw0 : ws.length + 1 - (kk + 1) = 0 := by omega
          have HR := Lib.hid (HR7'.out hcc)
          subst hcc
          go_upto_region 19 with (at_builtin; refine wpList_append_run rfl _ _ 25 25 rfl _ _ _ rfl rfl HR6.out ?_)
          clear HR6
          go_upto_region 20 with (at_builtin; refine wpList_append_run rfl _ _ 25 25 rfl _ _ _ rfl rfl HR.out ?_)
          clear HR
          by_cases hz : ws.length = 0
          · have HF : Hid (Lw w (t'.kill n) (ws'.take kk ++ ws'.drop (kk + 1)) (i + 1) g gi2 r2 h2 ev2 (.slice none 0 0) w7) := HL7.out.none (by rw [List.length_append, List.length_take, List.length_drop]; omega)
            have tz : ((ws.length : Int) == 0) = true := by simp [hz]
            go_wp2_with fail
            go_roundw
            case rel => exact ⟨i + 1, _, _, _, _, _, _, by omega, by go_num, (fun h => by omega), HF.out⟩
            case measure => simp [intOf]; omega
          · have tz : ((ws.length : Int) == 0) = false := by rw [beq_eq_false_iff_ne]; omega
            go_wp2_with fail
            go_roundw
            case rel => exact ⟨i + 1, _, _, _, _, _, _, by omega, by go_num, (fun h => by omega), HL7.out⟩
            case measure => simp [intOf]; omega
        · have hr7 := HR7.out hcc
          rw [show ws.length + 1 - (kk + 1) = ws.length - kk by omega] at hr7
          have HR := Lib.hid hr7
          clear hr7
          go_upto_region 19 with (at_builtin; refine wpList_append_run rfl _ _ 25 25 rfl _ _ _ rfl rfl HR6.out ?_)
          clear HR6
          go_upto_region 20 with (at_builtin; refine wpList_append_run rfl _ _ 25 25 rfl _ _ _ rfl rfl HR.out ?_)
          clear HR
          by_cases hz : ws.length = 0
          · have HF : Hid (Lw w (t'.kill n) (ws'.take kk ++ ws'.drop (kk + 1)) (i + 1) g gi2 r2 h2 ev2 (.slice none 0 0) w7) := HL7.out.none (by rw [List.length_append, List.length_take, List.length_drop]; omega)
            have tz : ((ws.length : Int) == 0) = true := by simp [hz]
            go_wp2_with fail
            go_roundw
            case rel => exact ⟨i + 1, _, _, _, _, _, _, by omega, by go_num, (fun h => by omega), HF.out⟩
            case measure => simp [intOf]; omega
          · have tz : ((ws.length : Int) == 0) = false := by rw [beq_eq_false_iff_ne]; omega
            go_wp2_with fail
            go_roundw
            case rel => exact ⟨i + 1, _, _, _, _, _, _, by omega, by go_num, (fun h => by omega), HL7.out⟩
            case measure => simp [intOf]; omega
      · have HN : Hid (Lw w t' (ws ++ [⟨true, u, (i : Int), 3 * (i : Int), (i : Int)⟩]) (i + 1) g gi2 r2 h2 ev2 (.slice a3 (ws.length + 1) cap3) w3) := HL3.out
        by_cases hk1 : i < ks.length
        · have t2 : (i : Int) < (ks.length : Int) := by omega
          obtain ⟨e1, lb1⟩ := HP1.out (by omega)
          have d1 := (hB3.cell (p := ⟨b1, o1 + i, none⟩) lb1).trans (HS1.out i hk1)
          have t3 : ¬ 0 ≤ ks[i]?.getD 0 := fun h => hki ⟨hk1, h⟩
          subst e1
          clear hki hB3
          generalize ks[i]?.getD 0 = kv at *
          go_wp2_with fail
          go_roundw
          case rel => exact ⟨i + 1, _, _, _, _, _, _, by omega, by go_num, (fun h => by rw [List.length_append, HNK.out h]; rfl), HN.out⟩
          case measure => simp [intOf]; omega
        · have t2 : ¬ (i : Int) < (ks.length : Int) := by omega
          clear hki hB3
          go_wp2_with fail
          go_roundw
          case rel => exact ⟨i + 1, _, _, _, _, _, _, by omega, by go_num, (fun h => by rw [List.length_append, HNK.out h]; rfl), HN.out⟩
          case measure => simp [intOf]; omega
    · obtain rfl : i = l.length := by omega
      have t1 : ¬ ((l.length : Int) < (l.length : Int)) := by omega
      clear hL
      go_wp2
      refine bodyPost_ret (v := .tuple #[.pointer (some ⟨g, 0, none⟩), u8, .bool true]) (by simp [results, Try.results5, go_sem]) rfl ?_
      exact ⟨_, _, _, _, _, _, rfl, _, _, (fun hk => HNK.out (by first | exact hk | (rw [hk]; rfl))), HL.out⟩
theorem laid_any {w : World} {a0 : Option Addr} {n0 c0 : Nat} {l : List Int} {a1 : Option Addr} {n1 c1 : Nat} {ks : List Int} (h0 : SlI w a0 n0 c0 l) (h1 : SlI w a1 n1 c1 ks) (hn : n0 ≤ 300) :
    Calls Try.prog 5 #[.slice a0 n0 c0, .slice a1 n1 c1] w fun e w' => ∃ g gi r h ev wv t ws, e = .returned (.tuple #[.pointer (some ⟨g, 0, none⟩), wv, .bool true]) ∧ Lw w t ws n0 g gi r h ev wv w' :=
  (laid_any2 h0 h1 hn).mono fun _ _ ⟨g, gi, r, h, ev, wv, t, ws, h1, _, h2⟩ => ⟨g, gi, r, h, ev, wv, t, ws, h1, h2⟩
end Go.Proofs.Ythaijfjodfgbnaa
