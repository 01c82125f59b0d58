/-
  Sight.
-/
import Derived.Test.YtfhpkoakalihkaaGreatGd
import Derived.Test.YtfhpkoakalihkaaGreatGf
import Derived.Test.YtfhpkoakalihkaaGreatLwMem
namespace Go.Proofs.YtfhpkoakalihkaaGreat
open Go.RowKit Go.WideShapes
attribute [local go_sem] Oper.semAt_some

/-- Ints in a block of their own. -/
def Row1 (w : World) (h S : Nat) (f : Nat → Int) : Prop := w.heap[h]? = some (.cells (il S f).toArray 3 (0, 0))
theorem Row1.cell {w : World} {h S : Nat} {f : Nat → Int} (x : Row1 w h S f) (j : Nat) (hj : j < S) : w.cell? ⟨h, j, none⟩ = some (.int .i64 (f j)) := by
  unfold Row1 at x
  simp [World.cell?, x, il, hj]
theorem Row1.free {w : World} {h S : Nat} {f : Nat → Int} (x : Row1 w h S f) (j : Nat) : w.frozen? ⟨h, j, none⟩ = false := by
  unfold Row1 at x
  simp [World.frozen?, x]
theorem Row1.same {w w' : World} {h S : Nat} {f : Nat → Int} (x : Row1 w h S f) (e : w'.heap[h]? = w.heap[h]?) : Row1 w' h S f := e.trans x
theorem Row1.lt {w : World} {h S : Nat} {f : Nat → Int} (x : Row1 w h S f) : h < w.heap.size := (Array.getElem?_eq_some_iff.1 x).1
theorem il_upd (S : Nat) (f : Nat → Int) (i : Nat) (v : Int) : (il S f).toArray.setIfInBounds i (.int .i64 v) = (il S (upd f i v)).toArray := by
  apply Array.ext
  · simp [il]
  · intro j h1 h2
    simp [il] at h1
    by_cases e : j = i
    · subst e
      simp [il, upd]
    · have e' : ¬ i = j := fun x => e x.symm
      simp [il, upd, e, e']
theorem Row1.put {w : World} {h S : Nat} {f : Nat → Int} (x : Row1 w h S f) (i : Nat) (v : Int) : Row1 (w.setCell ⟨h, i, none⟩ (.int .i64 v)) h S (upd f i v) := by
  unfold Row1
  rw [setCell_eq_setRow w h i _ _ _ _ x, setRow_heap w h _ _ _ _ x, il_upd]
theorem Row1.own {w : World} {h S B : Nat} {f : Nat → Int} (x : Row1 w h S f) (hB : B ≤ h) (hS : S ≤ maxLen) : w.ownsRow B 3 1 (.slice (some ⟨h, 0, none⟩) S S) S (il S f) :=
  ⟨by rw [il_len, Nat.mul_one], .inr ⟨h, S, _, rfl, hB, x, Nat.le_refl _, hS, by simp [il_len], by simp; exact List.take_of_length_le (by rw [il_len]; exact Nat.le_refl _)⟩⟩
theorem row1_made {w : World} {B h S : Nat} (x : w.ownsRow B 3 1 (.slice (some ⟨h, 0, none⟩) S S) S (madeCells (Value.int .i64 0).cells (S * 1)).toList) : Row1 w h S (fun _ => 0) := by
  rcases x.2 with ⟨e, _⟩ | ⟨g, cap, cur, e, h1, h2, h3, h4, h5, h6⟩
  · cases e
  cases e
  have hc : cur = (il S (fun _ => 0)).toArray := by
    have h7 : cur.toList = (madeCells (Value.int .i64 0).cells (S * 1)).toList := by rw [← h6, List.take_of_length_le (by rw [Array.length_toList, h5]; exact Nat.le_refl _)]
    apply Array.toList_inj.1
    rw [h7]
    apply List.ext_getElem?
    intro j
    by_cases hj : j < S
    · simp [madeCells, il, Value.cells, hj, Nat.mod_one]
    · simp [madeCells, il, Value.cells, hj, Nat.mod_one]
  unfold Row1
  rw [h2, hc]
theorem Row1.congr {w : World} {h S : Nat} {f f' : Nat → Int} (x : Row1 w h S f) (e : ∀ j, j < S → f' j = f j) : Row1 w h S f' := by
  unfold Row1 at x ⊢
  rw [x]
  have : il S f = il S f' := by
    unfold il
    apply List.map_congr_left
    intro j hj
    rw [e j (List.mem_range.1 hj)]
  rw [this]
theorem each_dl (L r l : Nat) (W : World) : (invoke (.fn (.method "lexicon/cells.each") #[]) #[.iface (rty L) (.pointer (some ⟨r, 0, none⟩)), .func (.yield l) #[] #[]]).run Tryz.prog W = .ok (.enter (eachF L) #[.pointer (some ⟨r, 0, none⟩), .func (.yield l) #[] #[]]) W := by
  have hm := fun w => m_each L (some ⟨r, 0, none⟩) w
  have he := e_each L
  simp [invoke, callMethod, go_sem, hm, he]
/-- What Sight tells of t, in new rows. -/
structure SgV (B : Nat) (w : World) (t : Tb) (hc : Nat) (ev' : Value) : Prop where
  row : Row1 w hc (2 ^ t.L) t.c
  es : EsB B w ev' (shw t.es)
  hB : B ≤ hc
  ne : ev'.ownBlock ≠ some hc
def sgV (t : Tb) (hc : Nat) (ev' : Value) : Value := .agg #[.int .i64 (t.L : Int), .int .i64 (wd t.L : Int), .slice (some ⟨hc, 0, none⟩) (2 ^ t.L) (2 ^ t.L), ev', .int .i64 (t.live : Int), .int .i64 (t.births : Int), .int .i64 (t.made : Int)]
def zS : Nat → Value
  | 2 => .slice none 0 0
  | 3 => .slice none 0 0
  | _ => .int .i64 0
/-- Seven cells set. -/
def put7 (w : World) (R : Nat) (v0 v1 v2 v3 v4 v5 v6 : Value) : World := ((((((w.setCell ⟨R, 0, none⟩ v0).setCell ⟨R, 1, none⟩ v1).setCell ⟨R, 2, none⟩ v2).setCell ⟨R, 3, none⟩ v3).setCell ⟨R, 4, none⟩ v4).setCell ⟨R, 5, none⟩ v5).setCell ⟨R, 6, none⟩ v6
theorem put7_other (w : World) (R : Nat) (v0 v1 v2 v3 v4 v5 v6 : Value) (k : Nat) (hk : k ≠ R) : (put7 w R v0 v1 v2 v3 v4 v5 v6).heap[k]? = w.heap[k]? := by
  unfold put7
  rw [Below.heap_setCell _ _ _ _ hk, Below.heap_setCell _ _ _ _ hk, Below.heap_setCell _ _ _ _ hk, Below.heap_setCell _ _ _ _ hk, Below.heap_setCell _ _ _ _ hk, Below.heap_setCell _ _ _ _ hk, Below.heap_setCell _ _ _ _ hk]
theorem put7_size (w : World) (R : Nat) (v0 v1 v2 v3 v4 v5 v6 : Value) : (put7 w R v0 v1 v2 v3 v4 v5 v6).heap.size = w.heap.size := by unfold put7; simp
theorem put7_below {B : Nat} {a w : World} (h : Below B a w) (R : Nat) (hR : B ≤ R) (v0 v1 v2 v3 v4 v5 v6 : Value) : Below B a (put7 w R v0 v1 v2 v3 v4 v5 v6) := by
  unfold put7
  exact ((((((h.setCell (p := ⟨R, 0, none⟩) hR _).setCell (p := ⟨R, 1, none⟩) hR _).setCell (p := ⟨R, 2, none⟩) hR _).setCell (p := ⟨R, 3, none⟩) hR _).setCell (p := ⟨R, 4, none⟩) hR _).setCell (p := ⟨R, 5, none⟩) hR _).setCell (p := ⟨R, 6, none⟩) hR _
theorem put7_blk {w : World} {R : Nat} {F : Nat → Value} (h : Blk w R 7 F) (v0 v1 v2 v3 v4 v5 v6 : Value) : Blk (put7 w R v0 v1 v2 v3 v4 v5 v6) R 7 (fun j => [v0, v1, v2, v3, v4, v5, v6].getD j .nilFunc) := by
  unfold put7
  refine (((((((h.put 0 v0).put 1 v1).put 2 v2).put 3 v3).put 4 v4).put 5 v5).put 6 v6).congr fun j hj => ?_
  have : j = 0 ∨ j = 1 ∨ j = 2 ∨ j = 3 ∨ j = 4 ∨ j = 5 ∨ j = 6 := by omega
  rcases this with rfl | rfl | rfl | rfl | rfl | rfl | rfl <;> rfl
theorem Tryz.infoI : (Tryz.prog.info? 3).map (fun i => (i.zero, i.size, i.bytes)) = some (some (.int .i64 0), 1, 8) := by kernel_rfl
set_option maxRecDepth 100000 in
set_option maxHeartbeats 4000000 in
theorem dsight_any {w : World} {g gi r h : Nat} {ev : Value} {t : Tb} {mv : Value} (hD : Dt w g gi r h ev t mv) (hlen : t.es.length ≤ 100000) :
    Calls Tryz.prog 91 #[.pointer (some ⟨g, 0, none⟩)] w fun e w' => ∃ hc ev', e = .returned (sgV t hc ev') ∧ SgV w.heap.size w' t hc ev' ∧ Below w.heap.size w w' := by
  obtain ⟨i0, hi, hz0, hz1, hz2⟩ := info_parts Tryz.infoI
  have hlg := hD.hd.lt (by omega)
  have hSz := hD.cl.sz
  have hm := hSz.most
  have hpos := hSz.pos
  obtain ⟨w1, hw1⟩ : ∃ x, w.alloc (.cells #[.int .i64 0, .int .i64 0, .slice none 0 0, .slice none 0 0, .int .i64 0, .int .i64 0, .int .i64 0] 120) = x := ⟨_, rfl⟩
  have hB1 : Below w.heap.size w w1 := by rw [← hw1]; exact (Below.refl _ w).alloc (Nat.le_refl _) _
  have hR1 : Blk w1 w.heap.size 7 zS := by
    rw [← hw1]
    refine (Blk.new w _ _).congr fun j hj => ?_
    have : j = 0 ∨ j = 1 ∨ j = 2 ∨ j = 3 ∨ j = 4 ∨ j = 5 ∨ j = 6 := by simp at hj; omega
    rcases this with rfl | rfl | rfl | rfl | rfl | rfl | rfl <;> rfl
  have hs1 : w1.heap.size = w.heap.size + 1 := by rw [← hw1]; simp
  have hD1 := hD.below hB1
  have k1 : w1.cell? ⟨g, 1, none⟩ = some (.pointer (some ⟨gi, 0, none⟩)) := hD1.hd.c 1 (by omega)
  have CR := ready_yes k1
  have CS := sizeM_any hD1.cl
  obtain ⟨S, hSS⟩ : ∃ S, 2 ^ t.L = S := ⟨_, rfl⟩
  rw [hSS] at CS hm hpos
  obtain ⟨w3, hmk, hown3, hgrow3⟩ := run_makeSlice_full (P := Tryz.prog) w1 w.heap.size 71 3 i0 (.int .i64 0) 1 Tryz.underlying71 hi hz0 hz1 .i64 .i64 S (by omega) (by rw [hz2]; omega) (by unfold maxLen; omega) (by omega)
  have hB3 : Below w1.heap.size w1 w3 := (Below.refl _ w1).grown hgrow3 (Nat.le_refl _) (fun k e => by cases e)
  have hRow3 : Row1 w3 w1.heap.size S (fun _ => 0) := row1_made hown3
  rw [hs1] at hmk hRow3
  have hs3 := hB3.size
  have hl3 := hRow3.lt
  obtain ⟨w4, hw4⟩ : ∃ x, w3.alloc (.cells #[.slice (some ⟨w.heap.size + 1, 0, none⟩) S S] 71) = x := ⟨_, rfl⟩
  have hB34 : Below w3.heap.size w3 w4 := by rw [← hw4]; exact (Below.refl _ w3).alloc (Nat.le_refl _) _
  have hs4 : w4.heap.size = w3.heap.size + 1 := by rw [← hw4]; simp
  have hb4 : w4.cell? ⟨w3.heap.size, 0, none⟩ = some (.slice (some ⟨w.heap.size + 1, 0, none⟩) S S) := by rw [← hw4]; exact cell_alloc_new _ _ _ _ rfl
  have hB4 : Below w.heap.size w w4 := hB1.trans ((hB3.trans (hB34.mono hs3)).mono (by omega))
  have hR4 : Blk w4 w.heap.size 7 zS := hR1.same (((hB34.block _ (by omega)).trans (hB3.block _ (by omega))))
  have hRow4 : Row1 w4 (w.heap.size + 1) S (fun _ => 0) := hRow3.same (hB34.block _ hl3)
  have hD4 := hD.below hB4
  have k4 : w4.cell? ⟨g, 1, none⟩ = some (.pointer (some ⟨gi, 0, none⟩)) := hD4.hd.c 1 (by omega)
  have k4r : (w3.alloc (.cells #[.slice (some ⟨w.heap.size + 1, 0, none⟩) S S] 71)).cell? ⟨g, 1, none⟩ = some (.pointer (some ⟨gi, 0, none⟩)) := by rw [hw4]; exact k4
  have CA := allM_any hD4.cl
  rw [hSS] at CA
  have HD := Lib.hid hD
  have HW1 := Lib.hid hw1
  have HW4 := Lib.hid hw4
  have HSS := Lib.hid hSS
  have HB4 := Lib.hid hB4
  have HR4 := Lib.hid hR4
  have HRow4 := Lib.hid hRow4
  clear hw1 hD1 hR1 hD hw4 hD4 hR4 hRow4 hRow3 hown3 hgrow3 hB4 hSS
  refine callsIn_wide.1 (callsIn_of_wp_marks (n := 0) Tryz.func91 rfl trivial ?_ rfl)
  simp only [Tryz.ntmps91, List.size_toArray, List.length_cons, List.length_nil, Nat.reduceAdd, Nat.reduceSub, Array.replicate_succ, Array.replicate_zero, List.push_toArray, List.append_toArray, List.nil_append, List.cons_append]
  gi_wp2_with fail
  rw [HW1.out]
  refine ⟨trivial, rfl, (callsIn_wide.2 CR).mono ?_⟩
  rintro e w2 ⟨rfl, rfl⟩
  clear CR
  gi_wp2_with fail
  refine ⟨trivial, rfl, (callsIn_wide.2 CS).mono ?_⟩
  rintro e w2 ⟨rfl, rfl⟩
  clear CS
  gi_wp2_with fail
  rw [HW4.out]
  refine ⟨trivial, rfl, (callsIn_wide.2 CA).mono ?_⟩
  rintro e w5 ⟨r', h', cap', rfl, hr', hh', hRw5, hB5⟩
  clear CA
  unfold itv
  have hs5 := hB5.size
  obtain ⟨hlr5, hlh5⟩ := hRw5.lt (by omega)
  have hints : ∀ i, i < S → -2147483648 ≤ t.c i ∧ t.c i < 2147483648 := fun i hi => HD.out.cl.ints i (by rw [HSS.out]; exact hi)
  have HSQ := Lib.hid (row_seq hRw5 hm hints hlr5)
  have HRC := Lib.hid hRw5.hc
  have hI0 : Below w.heap.size w w5 ∧ w5.cell? ⟨w3.heap.size, 0, none⟩ = some (.slice (some ⟨w.heap.size + 1, 0, none⟩) S S) ∧ Row1 w5 (w.heap.size + 1) S (mix 0 t.c (fun _ => 0)) ∧ Blk w5 w.heap.size 7 zS ∧ ∀ j, j < S → w5.cell? ⟨h', j, none⟩ = some (.int (kd t.L) (t.c j)) :=
    ⟨HB4.out.trans (hB5.mono (by omega)), (hB5.cell (p := ⟨w3.heap.size, 0, none⟩) (by show w3.heap.size < _; omega)).trans hb4, (HRow4.out.same (hB5.block _ (by omega))).congr (fun j _ => by simp [mix]), HR4.out.same (hB5.block _ (by omega)), HRC.out⟩
  have HI0 := Lib.hid hI0
  clear hI0 hints hRw5 k4 k4r hmk k1
  gi_wp2_with fail
  refine wpIn_range_at (gf := eachF t.L) (args := fun l => #[.pointer (some ⟨r', 0, none⟩), .func (.yield l) #[] #[]]) (fun l => ⟨.fn (.method "lexicon/cells.each") #[], #[.iface (rty t.L) (.pointer (some ⟨r', 0, none⟩)), .func (.yield l) #[] #[]]⟩)
    (fun l W => by simp [resolve, Deferred.ofValue, go_sem, Act.eval]) (fun l W => each_dl t.L r' l W) HSQ.out (fun _ => rfl)
    (fun k W => Below w.heap.size w W ∧ W.cell? ⟨w3.heap.size, 0, none⟩ = some (.slice (some ⟨w.heap.size + 1, 0, none⟩) S S) ∧ Row1 W (w.heap.size + 1) S (mix k t.c (fun _ => 0)) ∧ Blk W w.heap.size 7 zS ∧ ∀ j, j < S → W.cell? ⟨h', j, none⟩ = some (.int (kd t.L) (t.c j)))
    (fun _ _ _ => False) ?hI (fun _ _ _ _ h _ => h) (fun k W h => h.2.2.2.2) HI0.out
    (fun k => { tmps := #[.pointer (some ⟨g, 0, none⟩), undef, .pointer (some ⟨w.heap.size, 0, none⟩), .pointer (some ⟨w3.heap.size, 0, none⟩), .int .i64 (k : Int), .int .i64 (t.c k), .pointer (some ⟨g, 0, none⟩), .bool false, undef, .pointer (some ⟨g, 0, none⟩), .tuple #[], .pointer (some ⟨g, 0, none⟩), .pointer (some ⟨g, 0, none⟩), .pointer (some ⟨g, 1, none⟩), .pointer (some ⟨gi, 0, none⟩), .int .i64 (S : Int), .slice (some ⟨w.heap.size + 1, 0, none⟩) S S, .pointer (some ⟨g, 0, none⟩), .pointer (some ⟨g, 0, none⟩), .pointer (some ⟨g, 1, none⟩), .pointer (some ⟨gi, 0, none⟩), .func (.method "lexicon/cells.each") #[.iface (rty t.L) (.pointer (some ⟨r', 0, none⟩))] #[], .int .i64 (k : Int), .int .i64 (t.c k), undef, undef, undef, undef, undef, undef, undef, undef, undef, undef, undef, undef, undef, undef, undef, undef, undef, undef, undef, undef, undef, undef, undef, undef, undef, undef, undef, undef, undef, undef], defers := [] }) ?assign ?body ?done (fun _ _ _ _ h _ => h.elim)
  case hI =>
    rintro k A A' ⟨x1, x2, x3, x4, x5⟩ hb
    exact ⟨x1.trans (hb.mono (by omega)), (hb.cell (p := ⟨w3.heap.size, 0, none⟩) (by show w3.heap.size < _; omega)).trans x2, x3.same (hb.block _ (by omega)), x4.same (hb.block _ (by omega)), fun j hj => (hb.cell (p := ⟨h', j, none⟩) hlh5).trans (x5 j hj)⟩
  case assign =>
    intro l k W K hK
    gi_wp2
    exact hK
  case body =>
    rintro l k W hk ⟨x1, x2, x3, x4, x5⟩
    have c1 := x3.cell k hk
    have z1 := x3.free k
    have t1 : (k : Int) < (S : Int) := by omega
    have HX : Hid (Since w5.heap.size W (W.setCell ⟨w.heap.size + 1, k, none⟩ (.int .i64 (t.c k))) ∧ Below w.heap.size w (W.setCell ⟨w.heap.size + 1, k, none⟩ (.int .i64 (t.c k))) ∧ (W.setCell ⟨w.heap.size + 1, k, none⟩ (.int .i64 (t.c k))).cell? ⟨w3.heap.size, 0, none⟩ = some (.slice (some ⟨w.heap.size + 1, 0, none⟩) S S) ∧ Row1 (W.setCell ⟨w.heap.size + 1, k, none⟩ (.int .i64 (t.c k))) (w.heap.size + 1) S (mix (k + 1) t.c (fun _ => 0)) ∧ Blk (W.setCell ⟨w.heap.size + 1, k, none⟩ (.int .i64 (t.c k))) w.heap.size 7 zS ∧ ∀ j, j < S → (W.setCell ⟨w.heap.size + 1, k, none⟩ (.int .i64 (t.c k))).cell? ⟨h', j, none⟩ = some (.int (kd t.L) (t.c j))) := by
      refine ⟨(Since.refl _ _).setCell (p := ⟨w.heap.size + 1, k, none⟩) (by show w.heap.size + 1 < _; omega) _, x1.setCell (p := ⟨w.heap.size + 1, k, none⟩) (by show w.heap.size ≤ w.heap.size + 1; omega) _, ?_, ?_, x4.same (Below.heap_setCell _ _ _ _ (by show w.heap.size ≠ w.heap.size + 1; omega)), fun j hj => ?_⟩
      · rw [World.cell?_setCell_other _ _ _ _ (by intro he; injection he with h1 h2; omega)]
        exact x2
      · rw [← mix_upd]
        exact x3.put k (t.c k)
      · rw [World.cell?_setCell_other _ _ _ _ (by intro he; injection he with h1 h2; omega)]
        exact x5 j hj
    clear x1 x3 x4 x5
    generalize t.c k = v at *
    gi_wp2
    exact HX.out
  case done =>
    rintro W ⟨x1, x2, x3, x4, _⟩ hK
    have hDW := HD.out.below x1
    have hRow : Row1 W (w.heap.size + 1) S t.c := x3.congr fun j hj => by simp [mix, hj]
    have y0 : W.cell? ⟨g, 1, none⟩ = some (.pointer (some ⟨gi, 0, none⟩)) := hDW.hd.c 1 (by omega)
    have y3 : W.cell? ⟨g, 3, none⟩ = some (.int .i64 (t.live : Int)) := hDW.hd.c 3 (by omega)
    have y4 : W.cell? ⟨g, 4, none⟩ = some (.int .i64 (t.births : Int)) := hDW.hd.c 4 (by omega)
    have y5 : W.cell? ⟨g, 5, none⟩ = some (.int .i64 (t.made : Int)) := hDW.hd.c 5 (by omega)
    have CLg : Hid (∀ V, Below W.heap.size W V → Calls Tryz.prog 124 #[.pointer (some ⟨gi, 0, none⟩)] V fun e w' => e = .returned (.int .i64 (t.L : Int)) ∧ w' = V) := fun V hV => log_any (hDW.cl.below hV)
    have CWd : Hid (∀ V, Below W.heap.size W V → Calls Tryz.prog 125 #[.pointer (some ⟨gi, 0, none⟩)] V fun e w' => e = .returned (.int .i64 (wd t.L : Int)) ∧ w' = V) := fun V hV => widthM_any (hDW.cl.below hV)
    have CCp := shown_any (w := W.drew) (g := g) (hDW.hd.c 2 (by omega)) (hDW.es.same fun _ _ => rfl) hlen
    have hsW := x1.size
    have hsW5 : w5.heap.size < W.heap.size := (Array.getElem?_eq_some_iff.1 hK).1
    have hB0 : Below W.heap.size W W.drew := (Below.refl _ W).drew
    have lgW : g < W.heap.size := by omega
    have HX1 := Lib.hid x1
    have HX4 := Lib.hid x4
    have HROW := Lib.hid hRow
    clear x3 x4 hDW hRow
    have d0 : W.drew.cell? ⟨g, 1, none⟩ = some (.pointer (some ⟨gi, 0, none⟩)) := y0
    have d3 : W.drew.cell? ⟨g, 3, none⟩ = some (.int .i64 (t.live : Int)) := y3
    have d4 : W.drew.cell? ⟨g, 4, none⟩ = some (.int .i64 (t.births : Int)) := y4
    have d5 : W.drew.cell? ⟨g, 5, none⟩ = some (.int .i64 (t.made : Int)) := y5
    have d2 : W.drew.cell? ⟨w3.heap.size, 0, none⟩ = some (.slice (some ⟨w.heap.size + 1, 0, none⟩) S S) := x2
    generalize hWd : wd t.L = Wd at *
    have HWD := Lib.hid hWd
    clear hWd
    gi_wp2_with fail
    refine (wpIn_wide (n := 0)).2 ?_
    go_region_held3 (fun V => V.cell? ⟨g, 1, none⟩ = some (.pointer (some ⟨gi, 0, none⟩)) ∧ V.cell? ⟨g, 3, none⟩ = some (.int .i64 (t.live : Int)) ∧ V.cell? ⟨g, 4, none⟩ = some (.int .i64 (t.births : Int)) ∧ V.cell? ⟨g, 5, none⟩ = some (.int .i64 (t.made : Int)) ∧ V.cell? ⟨w3.heap.size, 0, none⟩ = some (.slice (some ⟨w.heap.size + 1, 0, none⟩) S S))
      (first | with_reducible exact ⟨d0, d3, d4, d5, d2⟩ | with_reducible exact ⟨y0, y3, y4, y5, x2⟩ | with_reducible exact ⟨q0, q3, q4, q5, q2⟩ | with_reducible exact HP.out _ _ _ _ _ _ _ | fail)
      (first | (go_at_call 124; refine (CLg.out _ (by first | exact hB0 | exact hBV)).mono ?_; rintro e v2 ⟨rfl, rfl⟩) | (go_at_call 125; refine (CWd.out _ (by first | exact hB0 | exact hBV)).mono ?_; rintro e v2 ⟨rfl, rfl⟩) | (go_at_call 126; refine CCp.mono ?_; rintro e V ⟨cv, rfl, hEs, hBV0⟩; obtain ⟨ca, cc, hcv⟩ := ownsRow_shape hEs; rw [shw_len] at hcv; subst hcv; have hBV := hB0.trans hBV0; have HEs := Lib.hid hEs; clear hEs; have hBl := HX4.out.same (hBV.block _ (by omega)); have a0 := hBl.c 0 (by omega); have a1 := hBl.c 1 (by omega); have a2 := hBl.c 2 (by omega); have a3 := hBl.c 3 (by omega); have a4 := hBl.c 4 (by omega); have a5 := hBl.c 5 (by omega); have a6 := hBl.c 6 (by omega); have z0 := hBl.z 0; have z1 := hBl.z 1; have z2 := hBl.z 2; have z3 := hBl.z 3; have z4 := hBl.z 4; have z5 := hBl.z 5; have z6 := hBl.z 6; have HBl := Lib.hid hBl; clear hBl; have q0 := (hBV.cell (p := ⟨g, 1, none⟩) lgW).trans y0; have q3 := (hBV.cell (p := ⟨g, 3, none⟩) lgW).trans y3; have q4 := (hBV.cell (p := ⟨g, 4, none⟩) lgW).trans y4; have q5 := (hBV.cell (p := ⟨g, 5, none⟩) lgW).trans y5; have q2 := (hBV.cell (p := ⟨w3.heap.size, 0, none⟩) (by show w3.heap.size < _; omega)).trans x2; have HP : Hid (∀ v0 v1 v2 v3 v4 v5 v6, (((((((V.setCell ⟨w.heap.size, 0, none⟩ v0).setCell ⟨w.heap.size, 1, none⟩ v1).setCell ⟨w.heap.size, 2, none⟩ v2).setCell ⟨w.heap.size, 3, none⟩ v3).setCell ⟨w.heap.size, 4, none⟩ v4).setCell ⟨w.heap.size, 5, none⟩ v5).setCell ⟨w.heap.size, 6, none⟩ v6).cell? ⟨g, 1, none⟩ = some (.pointer (some ⟨gi, 0, none⟩)) ∧ (((((((V.setCell ⟨w.heap.size, 0, none⟩ v0).setCell ⟨w.heap.size, 1, none⟩ v1).setCell ⟨w.heap.size, 2, none⟩ v2).setCell ⟨w.heap.size, 3, none⟩ v3).setCell ⟨w.heap.size, 4, none⟩ v4).setCell ⟨w.heap.size, 5, none⟩ v5).setCell ⟨w.heap.size, 6, none⟩ v6).cell? ⟨g, 3, none⟩ = some (.int .i64 (t.live : Int)) ∧ (((((((V.setCell ⟨w.heap.size, 0, none⟩ v0).setCell ⟨w.heap.size, 1, none⟩ v1).setCell ⟨w.heap.size, 2, none⟩ v2).setCell ⟨w.heap.size, 3, none⟩ v3).setCell ⟨w.heap.size, 4, none⟩ v4).setCell ⟨w.heap.size, 5, none⟩ v5).setCell ⟨w.heap.size, 6, none⟩ v6).cell? ⟨g, 4, none⟩ = some (.int .i64 (t.births : Int)) ∧ (((((((V.setCell ⟨w.heap.size, 0, none⟩ v0).setCell ⟨w.heap.size, 1, none⟩ v1).setCell ⟨w.heap.size, 2, none⟩ v2).setCell ⟨w.heap.size, 3, none⟩ v3).setCell ⟨w.heap.size, 4, none⟩ v4).setCell ⟨w.heap.size, 5, none⟩ v5).setCell ⟨w.heap.size, 6, none⟩ v6).cell? ⟨g, 5, none⟩ = some (.int .i64 (t.made : Int)) ∧ (((((((V.setCell ⟨w.heap.size, 0, none⟩ v0).setCell ⟨w.heap.size, 1, none⟩ v1).setCell ⟨w.heap.size, 2, none⟩ v2).setCell ⟨w.heap.size, 3, none⟩ v3).setCell ⟨w.heap.size, 4, none⟩ v4).setCell ⟨w.heap.size, 5, none⟩ v5).setCell ⟨w.heap.size, 6, none⟩ v6).cell? ⟨w3.heap.size, 0, none⟩ = some (.slice (some ⟨w.heap.size + 1, 0, none⟩) S S)) := (fun v0 v1 v2 v3 v4 v5 v6 => ⟨(World.cell?_of_block (a := ⟨g, 1, none⟩) (put7_other V w.heap.size v0 v1 v2 v3 v4 v5 v6 g (by omega))).trans q0, (World.cell?_of_block (a := ⟨g, 3, none⟩) (put7_other V w.heap.size v0 v1 v2 v3 v4 v5 v6 g (by omega))).trans q3, (World.cell?_of_block (a := ⟨g, 4, none⟩) (put7_other V w.heap.size v0 v1 v2 v3 v4 v5 v6 g (by omega))).trans q4, (World.cell?_of_block (a := ⟨g, 5, none⟩) (put7_other V w.heap.size v0 v1 v2 v3 v4 v5 v6 g (by omega))).trans q5, (World.cell?_of_block (a := ⟨w3.heap.size, 0, none⟩) (put7_other V w.heap.size v0 v1 v2 v3 v4 v5 v6 w3.heap.size (by omega))).trans q2⟩)) | fail)
    have hge : ∀ k, (Value.slice ca t.es.length cc).ownBlock = some k → W.heap.size ≤ k := HEs.out.ge
    have hVs := hBV.size
    have HA9 := Lib.hid (put7_blk HBl.out (.int .i64 (t.L : Int)) (.int .i64 (Wd : Int)) (.slice (some ⟨w.heap.size + 1, 0, none⟩) S S) (.slice ca t.es.length cc) (.int .i64 (t.live : Int)) (.int .i64 (t.births : Int)) (.int .i64 (t.made : Int)))
    have HB9 : Hid (Below w.heap.size w (put7 V w.heap.size (.int .i64 (t.L : Int)) (.int .i64 (Wd : Int)) (.slice (some ⟨w.heap.size + 1, 0, none⟩) S S) (.slice ca t.es.length cc) (.int .i64 (t.live : Int)) (.int .i64 (t.births : Int)) (.int .i64 (t.made : Int)))) := put7_below (HX1.out.trans (hBV.mono hsW)) _ (Nat.le_refl _) _ _ _ _ _ _ _
    have HR9 : Hid (Row1 (put7 V w.heap.size (.int .i64 (t.L : Int)) (.int .i64 (Wd : Int)) (.slice (some ⟨w.heap.size + 1, 0, none⟩) S S) (.slice ca t.es.length cc) (.int .i64 (t.live : Int)) (.int .i64 (t.births : Int)) (.int .i64 (t.made : Int))) (w.heap.size + 1) S t.c) := HROW.out.same ((put7_other _ _ _ _ _ _ _ _ _ _ (by omega)).trans (hBV.block _ (by omega)))
    have HE9 : Hid (EsB W.heap.size (put7 V w.heap.size (.int .i64 (t.L : Int)) (.int .i64 (Wd : Int)) (.slice (some ⟨w.heap.size + 1, 0, none⟩) S S) (.slice ca t.es.length cc) (.int .i64 (t.live : Int)) (.int .i64 (t.births : Int)) (.int .i64 (t.made : Int))) (.slice ca t.es.length cc) (shw t.es)) := by
      refine ⟨HEs.out.1, ?_⟩
      rcases HEs.out.2 with h0 | ⟨g9, cap9, cur9, e9, h1, h2, h3⟩
      · exact .inl h0
      · exact .inr ⟨g9, cap9, cur9, e9, h1, (put7_other _ _ _ _ _ _ _ _ _ _ (by have : W.heap.size ≤ g9 := h1; omega)).trans h2, h3⟩
    have HD9 : Hid ((put7 V w.heap.size (.int .i64 (t.L : Int)) (.int .i64 (Wd : Int)) (.slice (some ⟨w.heap.size + 1, 0, none⟩) S S) (.slice ca t.es.length cc) (.int .i64 (t.live : Int)) (.int .i64 (t.births : Int)) (.int .i64 (t.made : Int))).heap[w5.heap.size]? = some (.deferred (some []))) := (put7_other _ _ _ _ _ _ _ _ _ _ (by omega)).trans ((hBV.block _ hsW5).trans hK)
    clear HEs HBl HP q0 q3 q4 q5 q2 a0 a1 a2 a3 a4 a5 a6 z0 z1 z2 z3 z4 z5 z6 y0 y3 y4 y5 d0 d3 d4 d5 d2 x2 CCp
    unfold put7 at HA9 HB9 HR9 HE9 HD9
    generalize World.setCell (World.setCell (World.setCell (World.setCell (World.setCell (World.setCell (World.setCell V _ _) _ _) _ _) _ _) _ _) _ _) _ _ = w9 at *
    go_wp2_with fail
    gi_wp2
    have p : ∀ j, j < 7 → (w9.putObj w5.heap.size (.deferred none)).cell? ⟨w.heap.size, j, none⟩ = some ([.int .i64 (t.L : Int), .int .i64 (Wd : Int), .slice (some ⟨w.heap.size + 1, 0, none⟩) S S, .slice ca t.es.length cc, .int .i64 (t.live : Int), .int .i64 (t.births : Int), .int .i64 (t.made : Int)].getD j .nilFunc) := fun j hj => (World.cell?_of_block (a := ⟨w.heap.size, j, none⟩) (World.putObj_heap_other (by show w.heap.size ≠ _; omega))).trans (HA9.out.c j hj)
    have p0 := p 0 (by omega)
    have p1 := p 1 (by omega)
    have p2 := p 2 (by omega)
    have p3 := p 3 (by omega)
    have p4 := p 4 (by omega)
    have p5 := p 5 (by omega)
    have p6 := p 6 (by omega)
    refine ⟨by simp, .inl ⟨_, _, rfl, run_takeDeferred HD9.out, ?_⟩⟩
    refine ⟨sgV t (w.heap.size + 1) (.slice ca t.es.length cc), ?_, w.heap.size + 1, .slice ca t.es.length cc, rfl, ⟨?_, ?_, by omega, ?_⟩, HB9.out.trans (below_put (by omega))⟩
    · simp at p0 p1 p2 p3 p4 p5 p6
      unfold sgV
      rw [HSS.out, HWD.out]
      simp [results, Tryz.results91, go_sem, p0, p1, p2, p3, p4, p5, p6]
    · rw [HSS.out]
      exact HR9.out.same (World.putObj_heap_other (by omega))
    · refine ⟨HE9.out.1, ?_⟩
      rcases HE9.out.2 with h0 | ⟨g9, cap9, cur9, e9, h1, h2, h3⟩
      · exact .inl h0
      · exact .inr ⟨g9, cap9, cur9, e9, by omega, (World.putObj_heap_other (by omega)).trans h2, h3⟩
    · intro e
      have := hge _ e
      omega
end Go.Proofs.YtfhpkoakalihkaaGreat
