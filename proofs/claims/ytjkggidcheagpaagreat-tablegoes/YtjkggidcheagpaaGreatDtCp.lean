/-
  Copy.
-/
import Derived.Test.YtjkggidcheagpaaGreatDta
namespace Go.Proofs.YtjkggidcheagpaaGreat
open Go.RowKit Go.WideShapes

/-- The first k with births of their own. -/
def reb (es : List En) (k : Nat) : List En := (List.range es.length).map fun i => if i < k then ⟨(nth es i).live, (nth es i).hash, (nth es i).key, (nth es i).value, (i : Int)⟩ else nth es i
theorem reb_len (es : List En) (k : Nat) : (reb es k).length = es.length := by simp [reb]
theorem reb_nth (es : List En) (k i : Nat) (hi : i < es.length) : nth (reb es k) i = if i < k then ⟨(nth es i).live, (nth es i).hash, (nth es i).key, (nth es i).value, (i : Int)⟩ else nth es i := by
  conv => lhs; unfold nth
  rw [List.getD_eq_getElem?_getD]
  simp [reb, hi]
theorem ext_nth {a b : List En} (hl : a.length = b.length) (h : ∀ i, i < a.length → nth a i = nth b i) : a = b := by
  apply List.ext_getElem hl
  intro i h1 h2
  have := h i h1
  unfold nth at this
  rw [List.getD_eq_getElem?_getD, List.getD_eq_getElem?_getD, List.getElem?_eq_getElem h1, List.getElem?_eq_getElem h2] at this
  exact this
theorem reb_zero (es : List En) : reb es 0 = es := ext_nth (reb_len _ _) fun i hi => by rw [reb_len] at hi; rw [reb_nth _ _ _ hi, if_neg (Nat.not_lt_zero _)]
theorem reb_set (es : List En) (k : Nat) (hk : k < es.length) : (reb es k).set k ⟨(nth es k).live, (nth es k).hash, (nth es k).key, (nth es k).value, (k : Int)⟩ = reb es (k + 1) := by
  refine ext_nth (by rw [List.length_set, reb_len, reb_len]) fun i hi => ?_
  rw [List.length_set, reb_len] at hi
  rw [nth_set (by rw [reb_len]; exact hk), reb_nth _ _ _ hi, reb_nth _ _ _ hi]
  by_cases e : i = k
  · subst e
    rw [if_pos rfl, if_pos (by omega)]
  · rw [if_neg e]
    by_cases h2 : i < k
    · rw [if_pos h2, if_pos (by omega)]
    · rw [if_neg h2, if_neg (by omega)]
/-- The log of a copy's index. -/
def cplog (n : Nat) : Nat := logF ((3 * n + 1) / 2) 20 3
/-- A copy. -/
noncomputable def Tb.cp (t : Tb) : Tb := ⟨reb (liveL t.es) (liveL t.es).length, cplog (liveL t.es).length, layN (reb (liveL t.es) (liveL t.es).length) (cplog (liveL t.es).length) (liveL t.es).length, (liveL t.es).length, 1, 0⟩
theorem cplog_ok {n : Nat} (hn : n ≤ 100000) : 3 ≤ cplog n ∧ cplog n ≤ 20 ∧ n ≤ rm (2 ^ cplog n) := by
  obtain ⟨a1, a2, a3, a4⟩ := logF_step ((3 * n + 1) / 2) 20 3 (Nat.le_trans (by omega : (3 * n + 1) / 2 ≤ 2 ^ 20) (by decide))
  refine ⟨a2, ?_, ?_⟩
  · rcases Nat.lt_or_ge 20 (cplog n) with e | e
    · have h1 := a4 20 (by omega) e
      have h2 : (2 : Nat) ^ 20 = 1048576 := by decide
      omega
    · exact e
  · have : (3 * n + 1) / 2 ≤ 2 ^ cplog n := Nat.le_of_not_lt a3
    unfold rm
    omega
theorem reb_live {es : List En} (h : ∀ n, n < es.length → (nth es n).live = true) (k n : Nat) (hn : n < es.length) : (nth (reb es k) n).live = true := by
  rw [reb_nth _ _ _ hn]
  split
  · exact h n hn
  · exact h n hn
theorem Tb.Ok.cp {t : Tb} (h : t.Ok) : t.cp.Ok := by
  have hl : (liveL t.es).length ≤ 100000 := by have := liveL_len t.es; have := h.few; have := h.all; omega
  obtain ⟨h1, h2, h3⟩ := cplog_ok hl
  refine ⟨?_, ⟨h1, h2⟩, by show (reb _ _).length ≤ (liveL t.es).length; rw [reb_len]; exact Nat.le_refl _, hl⟩
  have := layN_inv (reb (liveL t.es) (liveL t.es).length) (cplog (liveL t.es).length) (fun n hn => reb_live (fun n hn => liveL_nth _ n hn) _ n (by rwa [reb_len] at hn)) (by rw [reb_len]; exact h3) (liveL t.es).length (by rw [reb_len]; exact Nat.le_refl _)
  rw [List.take_of_length_le (by rw [reb_len]; exact Nat.le_refl _)] at this
  exact this
theorem Tb.cp_live (t : Tb) : t.cp.live = (liveL t.es).length := by
  rw [Tb.live_eq]
  show (liveL (reb (liveL t.es) (liveL t.es).length)).length = _
  have h1 := liveL_len (reb (liveL t.es) (liveL t.es).length)
  rw [deadN_live _ (fun e he => by
    obtain ⟨n, hn, hx⟩ : ∃ n, n < (reb (liveL t.es) (liveL t.es).length).length ∧ nth (reb (liveL t.es) (liveL t.es).length) n = e := by
      obtain ⟨n, hn, he⟩ := List.getElem_of_mem he
      exact ⟨n, hn, by unfold nth; rw [List.getD_eq_getElem?_getD, List.getElem?_eq_getElem hn, Option.getD_some, he]⟩
    rw [← hx]
    exact reb_live (fun n hn => liveL_nth _ n hn) _ n (by rwa [reb_len] at hn)), reb_len] at h1
  omega
/-- The head of a copy under way. -/
def cF (mv ev : Value) (l b : Nat) : Nat → Value
  | 0 => mv
  | 1 => .pointer none
  | 2 => ev
  | 3 => .int .i64 (l : Int)
  | 4 => .int .i64 (b : Int)
  | _ => .int .i64 0
set_option maxRecDepth 100000 in
set_option maxHeartbeats 8000000 in
theorem copy7_any {w : World} {g gi r h : Nat} {ev : Value} {t : Tb} {pm : Option Addr} {M : Int → Int → World → Prop} {a b : Int} (hD : Dt w g gi r h ev t (.pointer pm)) (hO : t.Ok) (hMo : MtOk (.pointer pm) M) (hM : M a b w) (ha : 0 ≤ a ∧ a ≤ 1000000000) :
    Calls Tryz.prog 37 #[.pointer (some ⟨g, 0, none⟩)] w fun e w' => ∃ g' gi' r' h' ev', e = .returned (.pointer (some ⟨g', 0, none⟩)) ∧ (∀ k, dX g' gi' r' h' ev' k → w.heap.size ≤ k) ∧ Dt w' g' gi' r' h' ev' t.cp (.pointer pm) ∧ M (a + 1) b w' ∧ Ex (mB (.pointer pm)) w w' := by
  have hlen : t.es.length ≤ 100000 := Nat.le_trans hO.few hO.all
  have k0 : w.cell? ⟨g, 0, none⟩ = some (.pointer pm) := hD.hd.c 0 (by omega)
  have d0 : w.drew.cell? ⟨g, 0, none⟩ = some (.pointer pm) := k0
  have hlg := lt_of_cell k0
  have CC := copied_any (w := w.drew) (g := g) (hD.hd.c 2 (by omega)) (hD.es.same fun _ _ => rfl) hlen
  have hB0 : Below w.heap.size w w.drew := (Below.refl _ w).drew
  have HMO := Lib.hid hMo
  have HM := Lib.hid hM
  have HO := Lib.hid hO
  clear hD hO hMo hM
  go_enter Tryz.func37, Tryz.ntmps37
  go_wp2_with fail
  go_region_held3 (fun V => V.cell? ⟨g, 0, none⟩ = some (.pointer pm))
    (first | with_reducible exact d0 | with_reducible exact k0 | with_reducible exact q0 | with_reducible exact p0 | fail)
    (first | (go_at_call 18; refine CC.mono ?_; rintro e w2 ⟨cv, rfl, hEs, hb2⟩; obtain ⟨ca, cc, hcv⟩ := ownsRow_shape hEs; subst hcv; have hB2 := hB0.trans hb2; have q0 := (hB2.cell (p := ⟨g, 0, none⟩) hlg).trans k0; have p0 := (cell_alloc_old w2 (.cells #[.pointer pm, .pointer none, .slice ca t.es.length cc, .int .i64 0, .int .i64 0, .int .i64 0, .int .i64 0] 60) g 0 (Nat.lt_of_lt_of_le hlg hB2.size)).trans q0) | fail)
  obtain ⟨w3, hw3⟩ : ∃ y, w2.alloc (.cells #[.pointer pm, .pointer none, .slice ca t.es.length cc, .int .i64 0, .int .i64 0, .int .i64 0, .int .i64 0] 60) = y := ⟨_, rfl⟩
  have hs2 := hB2.size
  have hB23 : Below w2.heap.size w2 w3 := by rw [← hw3]; exact (Below.refl _ w2).alloc (Nat.le_refl _) _
  have hB3 : Below w.heap.size w w3 := hB2.trans (hB23.mono hs2)
  have hX3 : Blk w3 w2.heap.size 7 (cF (.pointer pm) (.slice ca t.es.length cc) 0 0) := by
    rw [← hw3]
    refine (Blk.new w2 _ _).congr fun j hj => ?_
    have : j = 0 ∨ j = 1 ∨ j = 2 ∨ j = 3 ∨ j = 4 ∨ j = 5 ∨ j = 6 := by simp at hj; omega
    rcases this with rfl | rfl | rfl | rfl | rfl | rfl | rfl <;> rfl
  have hs3 : w3.heap.size = w2.heap.size + 1 := by rw [← hw3]; simp
  have hltE := hEs.es.lt
  have hgeE := hEs.ge
  have hE3 : Es w3 (.slice ca t.es.length cc) t.es := hEs.es.same fun k hk => hB23.block k (hltE k hk)
  have CD := dropDead_any hX3 rfl hE3 (fun k hk => by have := hltE k hk; omega) hlen
  have HW3 := Lib.hid hw3
  have HB3 := Lib.hid hB3
  have hll := liveL_len t.es
  clear hw3 hX3 hE3 hEs q0 p0 d0 k0 CC hb2 hB2 hB23 hB3
  go_wp2_with fail
  rw [HW3.out]
  refine CD.mono ?_
  rintro e w4 ⟨rfl, ev', hob, hX4, hE4, hEx4⟩
  clear CD
  have hob' : ∀ k, ev'.ownBlock = some k → w.heap.size ≤ k ∧ k < w2.heap.size := fun k hk => by
    rw [hob] at hk
    exact ⟨hgeE k hk, hltE k hk⟩
  have hB4 : Below w.heap.size w w4 := HB3.out.trans (hEx4.below (fun k hk => hk.elim (fun e => by omega) (fun e => hgeE k e)) HB3.out.size)
  have hs34 := hEx4.size
  obtain ⟨ae, cape, ge, hev, hae, hro⟩ := hE4.open
  have hcap := hro.le
  have HAE := Lib.hid hae
  subst hev
  clear hro hae hEx4
  have k2 : w4.cell? ⟨w2.heap.size, 2, none⟩ = some (.slice ae (liveL t.es).length cape) := hX4.c 2 (by omega)
  generalize hLs : liveL t.es = ls at *
  have HLS := Lib.hid hLs
  clear hLs
  have HX4 := Lib.hid hX4
  have HE4 : Hid (Es w4 (.slice ae ls.length cape) (reb ls 0)) := by show Es _ _ _; rw [reb_zero]; exact hE4
  have HB4 := Lib.hid hB4
  have HLl : Hid (∀ n, n < ls.length → (nth ls n).live = true) := fun n hn => by rw [← HLS.out] at hn ⊢; exact liveL_nth _ n hn
  clear hX4 hE4 hB4
  go_wp2_with fail
  go_loopw [22, 4] (fun iv _ wr => ∃ k : Nat, k ≤ ls.length ∧ iv = .int .i64 (k : Int) ∧ Hid (Es wr (.slice ae ls.length cape) (reb ls k)) ∧ Hid (Blk wr w2.heap.size 7 (setE (cF (.pointer pm) (.slice ca t.es.length cc) 0 0) (.slice ae ls.length cape))) ∧ Below w.heap.size w wr ∧ w4.heap.size ≤ wr.heap.size) (fun iv _ _ => ls.length - (intOf iv).toNat)
  case atStart => exact ⟨0, Nat.zero_le _, rfl, HE4, HX4, HB4.out, Nat.le_refl _⟩
  case round =>
    clear HE4 HX4 HB4 k2
    obtain ⟨k, hk, rfl, HE, HX, hB, hsz⟩ := hrel
    have y2 : wr.cell? ⟨w2.heap.size, 2, none⟩ = some (.slice ae ls.length cape) := HX.out.c 2 (by omega)
    by_cases hlt : k < ls.length
    · have tk : (k : Int) < (ls.length : Int) := by omega
      obtain ⟨hae, hobk, _⟩ := HAE.out (by omega)
      subst hae
      obtain ⟨hg1, hg2⟩ := hob' ge rfl
      have hE := HE.out
      rw [← reb_len ls k] at hE
      obtain ⟨_, _, _, hv', hae', hro'⟩ := hE.open
      cases hv'
      obtain ⟨hge', _, hfz'⟩ := hae' (by rw [reb_len]; omega)
      cases hge'
      have e4 := hro'.c4 k (by rw [reb_len]; exact hlt)
      have z4 := hfz' (k * 5 + 4)
      have HN : Hid (Es (wr.setCell ⟨ge, k * 5 + 4, none⟩ (.int .i64 (k : Int))) (.slice (some ⟨ge, 0, none⟩) ls.length cape) (reb ls (k + 1)) ∧ Blk (wr.setCell ⟨ge, k * 5 + 4, none⟩ (.int .i64 (k : Int))) w2.heap.size 7 (setE (cF (.pointer pm) (.slice ca t.es.length cc) 0 0) (.slice (some ⟨ge, 0, none⟩) ls.length cape)) ∧ Below w.heap.size w (wr.setCell ⟨ge, k * 5 + 4, none⟩ (.int .i64 (k : Int))) ∧ w4.heap.size ≤ (wr.setCell ⟨ge, k * 5 + 4, none⟩ (.int .i64 (k : Int))).heap.size) := by
        refine ⟨?_, HX.out.same (Below.heap_setCell _ _ _ _ (by show w2.heap.size ≠ ge; omega)), hB.setCell (p := ⟨ge, k * 5 + 4, none⟩) hg1 _, by simpa [World.setCell] using hsz⟩
        have hnk : nth (reb ls k) k = nth ls k := by rw [reb_nth _ _ _ hlt, if_neg (Nat.lt_irrefl _)]
        have := Es.put (reb_len ls k).symm (by rw [reb_len] at hE; exact HE.out) k 4 (by rw [reb_len]; exact hlt) (by decide) (.int .i64 (k : Int)) ⟨(nth ls k).live, (nth ls k).hash, (nth ls k).key, (nth ls k).value, (k : Int)⟩ (by rw [hnk]; rfl) rfl
        rw [reb_set ls k hlt] at this
        exact this
      clear hE hro' hae' hfz'
      generalize (nth (reb ls k) k).birth = bv at *
      go_wp2_with fail
      go_roundw
      case rel => exact ⟨k + 1, by omega, by go_num, HN.out.1, HN.out.2.1, HN.out.2.2.1, HN.out.2.2.2⟩
      case measure => simp [intOf]; omega
    · obtain rfl : k = ls.length := by omega
      have tk : ¬ (ls.length : Int) < (ls.length : Int) := by omega
      have z3 := HX.out.z 3
      have z4 := HX.out.z 4
      have y3 : wr.cell? ⟨w2.heap.size, 3, none⟩ = some (.int .i64 0) := HX.out.c 3 (by omega)
      have y4 : wr.cell? ⟨w2.heap.size, 4, none⟩ = some (.int .i64 0) := HX.out.c 4 (by omega)
      have hX6 : Blk ((wr.setCell ⟨w2.heap.size, 3, none⟩ (.int .i64 (ls.length : Int))).setCell ⟨w2.heap.size, 4, none⟩ (.int .i64 (ls.length : Int))) w2.heap.size 7 (cF (.pointer pm) (.slice ae ls.length cape) ls.length ls.length) := ((HX.out.put 3 _).put 4 _).congr fun j hj => by
        have : j = 0 ∨ j = 1 ∨ j = 2 ∨ j = 3 ∨ j = 4 ∨ j = 5 ∨ j = 6 := by omega
        rcases this with rfl | rfl | rfl | rfl | rfl | rfl | rfl <;> rfl
      have hB6 : Below w.heap.size w ((wr.setCell ⟨w2.heap.size, 3, none⟩ (.int .i64 (ls.length : Int))).setCell ⟨w2.heap.size, 4, none⟩ (.int .i64 (ls.length : Int))) := (hB.setCell (p := ⟨w2.heap.size, 3, none⟩) hs2 _).setCell (p := ⟨w2.heap.size, 4, none⟩) hs2 _
      have hE6 : Es ((wr.setCell ⟨w2.heap.size, 3, none⟩ (.int .i64 (ls.length : Int))).setCell ⟨w2.heap.size, 4, none⟩ (.int .i64 (ls.length : Int))) (.slice ae ls.length cape) (reb ls ls.length) := HE.out.same fun q hq => by
        have := (hob' q hq).2
        rw [Below.heap_setCell _ _ _ _ (by show q ≠ w2.heap.size; omega), Below.heap_setCell _ _ _ _ (by show q ≠ w2.heap.size; omega)]
      have hs6 : ((wr.setCell ⟨w2.heap.size, 3, none⟩ (.int .i64 (ls.length : Int))).setCell ⟨w2.heap.size, 4, none⟩ (.int .i64 (ls.length : Int))).heap.size = wr.heap.size := by simp
      have x2 : (wr.setCell ⟨w2.heap.size, 3, none⟩ (.int .i64 (ls.length : Int))).cell? ⟨w2.heap.size, 2, none⟩ = some (.slice ae ls.length cape) := (World.cell?_setCell_other _ _ _ _ (by intro he; injection he with h1 h2; omega)).trans y2
      have hn : ls.length ≤ 100000 := by omega
      obtain ⟨hc1, hc2, hc3⟩ := cplog_ok hn
      have hmlt := HMO.out.lt a b w
      have CI := makeIndex_any (L := cplog ls.length) (made := 0) (es := reb ls ls.length) (ev := .slice ae ls.length cape) (mv := .pointer pm) (a := a) (b := b) ⟨rfl, hc1, hc2⟩ hX6 rfl rfl rfl hE6 HMO.out (HMO.out.same a b w _ HM.out fun q hq => hB6.block q (hmlt q HM.out hq)) (fun q hq => ⟨by have := (hob' q hq).2; omega, fun hm => by have := hmlt q HM.out hm; have := (hob' q hq).1; omega⟩) (fun q hq => by have := hmlt q HM.out hq; omega) (fun n hn => reb_live HLl.out _ n (by rwa [reb_len] at hn)) (by rw [reb_len]; exact hc3) (by decide) ha (by rw [reb_len]; exact hn)
      rw [reb_len] at CI
      have CO : Hid (∀ V, Calls Tryz.prog 64 #[.int .i64 (((3 * ls.length + 1) / 2 : Nat) : Int)] V fun e w' => e = .returned (.int .i64 ((cplog ls.length : Nat) : Int)) ∧ w' = V) := fun V => logOf_any ((3 * ls.length + 1) / 2) (by omega) V
      have f1 : IntKind.i64.wrap (3 * (ls.length : Int)) = 3 * (ls.length : Int) := i64_small (by omega) (by omega)
      have f2 : IntKind.i64.wrap (3 * (ls.length : Int) + 1) = 3 * (ls.length : Int) + 1 := i64_small (by omega) (by omega)
      have f3 : Int.tdiv (3 * (ls.length : Int) + 1) 2 = (((3 * ls.length + 1) / 2 : Nat) : Int) := by
        rw [Int.tdiv_eq_ediv_of_nonneg (by omega)]
        omega
      have f4 : IntKind.i64.wrap (((3 * ls.length + 1) / 2 : Nat) : Int) = (((3 * ls.length + 1) / 2 : Nat) : Int) := i64_small (by omega) (by omega)
      have HB6 := Lib.hid hB6
      have x3 : ((wr.setCell ⟨w2.heap.size, 3, none⟩ (.int .i64 (ls.length : Int))).setCell ⟨w2.heap.size, 4, none⟩ (.int .i64 (ls.length : Int))).cell? ⟨w2.heap.size, 3, none⟩ = some (.int .i64 (ls.length : Int)) := hX6.c 3 (by omega)
      clear HE HX hB hX6 hB6 hE6
      generalize (3 * ls.length + 1) / 2 = q at *
      go_wp2_with fail
      refine (CO.out _).mono ?_
      rintro e w7 ⟨rfl, rfl⟩
      go_wp2_with fail
      refine CI.mono ?_
      rintro e w8 ⟨rfl, gi', r', h', hgi', hr', hh', hI⟩
      clear CI
      have hs6' := HB6.out.size
      have HR : Hid ((∀ q, dX w2.heap.size gi' r' h' (.slice ae ls.length cape) q → w.heap.size ≤ q) ∧ Dt w8 w2.heap.size gi' r' h' (.slice ae ls.length cape) t.cp (.pointer pm) ∧ M (a + 1) b w8 ∧ Ex (mB (.pointer pm)) w w8) := by
        have hcp : t.cp = ⟨reb ls ls.length, cplog ls.length, layN (reb ls ls.length) (cplog ls.length) ls.length, ls.length, 1, 0⟩ := by unfold Tb.cp; rw [HLS.out]
        refine ⟨?_, ⟨?_, ?_, ?_, ?_, ⟨by omega, by omega, by omega⟩, ?_⟩, hI.m, ?_⟩
        · rintro q (rfl | rfl | rfl | rfl | hq)
          · exact hs2
          · omega
          · omega
          · omega
          · exact (hob' q hq).1
        · refine hI.hd.congr fun j hj => ?_
          have : j = 0 ∨ j = 1 ∨ j = 2 ∨ j = 3 ∨ j = 4 ∨ j = 5 ∨ j = 6 := by omega
          rcases this with rfl | rfl | rfl | rfl | rfl | rfl | rfl
          · rfl
          · rfl
          · rfl
          · show Value.int .i64 ((t.cp.live : Nat) : Int) = Value.int .i64 (ls.length : Int)
            rw [Tb.cp_live, HLS.out]
          · show Value.int .i64 ((t.cp.births : Nat) : Int) = Value.int .i64 (ls.length : Int)
            rw [hcp]
          · show Value.int .i64 ((t.cp.made : Nat) : Int) = Value.int .i64 ((0 : Nat) + 1 : Int)
            rw [hcp]
            rfl
          · show Value.int .i64 ((t.cp.turn : Nat) : Int) = Value.int .i64 0
            rw [hcp]
            rfl
        · show Es w8 _ t.cp.es
          rw [hcp]
          exact hI.row
        · show Cl w8 gi' r' h' t.cp.L (2 ^ t.cp.L) t.cp.c
          rw [hcp]
          exact hI.cl
        · intro q hq
          have := hob' q hq
          exact ⟨by omega, by omega, by omega, by omega⟩
        · intro q hq
          have h1 := hmlt q HM.out hq
          exact ⟨by omega, by omega, by omega, by omega, fun e => by have := (hob' q e).1; omega⟩
        · exact (ex_of (X := mB (.pointer pm)) (w := w) (HB6.out)).next hI.ex (fun q hq hx => hx.elim (fun e => by omega) id)
      clear hI
      go_wp2
      go_ret
      exact ⟨_, gi', r', h', _, rfl, HR.out⟩
end Go.Proofs.YtjkggidcheagpaaGreat
