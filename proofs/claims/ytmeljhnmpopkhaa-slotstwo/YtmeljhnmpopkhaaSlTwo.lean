/-
  SlotsTwo: its walk.
-/
import Derived.Test.YtmeljhnmpopkhaaSlTwo0
namespace Go.Proofs.Ytmeljhnmpopkhaa
open Go.RowKit Go.WideShapes

/-- Both tables and both of the reference's, new. -/
theorem tp_new {w w1 w2 : World} (h1 : SlV w1 w.heap.size [] (fun k => k = w.heap.size)) (b1 : Below w.heap.size w w1) (z1 : w1.heap.size = w.heap.size + 1) (h2 : SlV w2 w1.heap.size [] (fun k => k = w1.heap.size)) (b2 : Below w1.heap.size w1 w2) (z2 : w2.heap.size = w1.heap.size + 1) (t : TypeId) :
    Tp w w ((w2.alloc (.cells #[.slice none 0 0, .slice none 0 0] t)).alloc (.cells #[.slice none 0 0, .slice none 0 0] t)) w.heap.size w2.heap.size [] (fun k => k = w.heap.size) (fun k => k = w2.heap.size) (fun _ => False) w1.heap.size (w2.heap.size + 1) [] (fun k => k = w1.heap.size) (fun k => k = w2.heap.size + 1) (fun _ => False) (fun _ => False) := by
  have bA : Below w2.heap.size w2 (w2.alloc (.cells #[.slice none 0 0, .slice none 0 0] t)) := (Below.refl _ w2).alloc (Nat.le_refl _) _
  have sA : (w2.alloc (.cells #[.slice none 0 0, .slice none 0 0] t)).heap.size = w2.heap.size + 1 := by simp
  have bB : Below (w2.heap.size + 1) (w2.alloc (.cells #[.slice none 0 0, .slice none 0 0] t)) ((w2.alloc (.cells #[.slice none 0 0, .slice none 0 0] t)).alloc (.cells #[.slice none 0 0, .slice none 0 0] t)) := (Below.refl _ _).alloc (by rw [sA]; exact Nat.le_refl _) _
  have bAB : Below w2.heap.size w2 ((w2.alloc (.cells #[.slice none 0 0, .slice none 0 0] t)).alloc (.cells #[.slice none 0 0, .slice none 0 0] t)) := bA.trans (bB.mono (by omega))
  have hr2 := rq_new (w2.alloc (.cells #[.slice none 0 0, .slice none 0 0] t)) t
  rw [sA] at hr2
  have hs1 := (h1.keep (Y := fun _ => False) (ex_of b2) (fun _ _ h => h)).keep (Y := fun _ => False) (ex_of bAB) (fun _ _ h => h)
  have hs2 := h2.keep (Y := fun _ => False) (ex_of bAB) (fun _ _ h => h)
  have hr1 := (rq_new w2 t).keep (X := fun _ => False) (ex_of (by rw [sA]; exact bB)) (fun _ h => h.elim)
  refine ⟨⟨hs1, hr1, fun k hk => ⟨by omega, fun h => h⟩⟩, ⟨hs2, hr2, fun k hk => ⟨by omega, fun h => h⟩⟩, fun k hk => ⟨by omega, by omega, fun h => h, fun h => h⟩, fun k hk => ⟨fun h => h, fun h => h⟩, fun k hk => hk.elim, ?_, fun k hk => by omega, fun k hk => by omega, (b1.trans (b2.mono (by omega))).trans (bAB.mono (by omega))⟩
  have := bAB.size
  omega
/-- The copy of the reference's slots, behind its first append. -/
structure Wm (w w' : World) (q n : Nat) (lv : Value) (vs : List Value) : Prop where
  c0 : w'.cell? ⟨q, 0, none⟩ = some lv
  c1 : w'.cell? ⟨q, 1, none⟩ = some (.slice none 0 0)
  z : ∀ j, w'.frozen? ⟨q, j, none⟩ = false
  row : w'.ownsRow w.heap.size 27 1 lv n vs
  be : Ex (fun k => k = q) w w'
theorem wm_of {w w1 : World} {q n : Nat} {lv : Value} {vs : List Value} (hq : q < w.heap.size) (c0 : w.cell? ⟨q, 0, none⟩ = some (.slice none 0 0)) (c1 : w.cell? ⟨q, 1, none⟩ = some (.slice none 0 0)) (z : ∀ j, w.frozen? ⟨q, j, none⟩ = false) (ho : w1.ownsRow w.heap.size 27 1 lv n vs) (hb : Below w.heap.size w w1) :
    w1.heap[q]? = w.heap[q]? ∧ Wm w (w1.setCell ⟨q, 0, none⟩ lv) q n lv vs := by
  have e := hb.block q hq
  have hne : ∀ k, lv.ownBlock = some k → k ≠ q := fun k hk => by have := (World.ownsRow.lt ho k hk).1; omega
  refine ⟨e, setCell_hit ((World.cell?_of_block (a := ⟨q, 0, none⟩) e).trans c0), (setCell_ne (by omega)).trans ((World.cell?_of_block (a := ⟨q, 1, none⟩) e).trans c1), fun j => by rw [World.frozen?_setCell]; exact (World.frozen?_of_block (a := ⟨q, j, none⟩) e).trans (z j), ownsS_same ho (fun k hk => setCell_blk (hne k hk)), Ex.setCell (X := fun k => k = q) (p := ⟨q, 0, none⟩) (ex_of hb) (fun _ => rfl) _⟩
theorem wm_fin {w w1 w2 : World} {q qa : Nat} {ss : List So} {lv tv lva tva : Value} {vs : List Value} {Za : Nat → Prop} (h : Wm w w1 q ss.length lv vs) (hq : q < w.heap.size) (ha : Rq w qa ss lva tva vs Za) (hza : ∀ k, Za k → k < w.heap.size ∧ k ≠ q) (ho : w2.ownsRow w1.heap.size 4 1 tv ss.length (tkv ss)) (hb : Below w1.heap.size w1 w2) :
    w2.heap[q]? = w1.heap[q]? ∧ RqV (w2.setCell ⟨q, 1, none⟩ tv) q ss (fun k => k = q ∨ (w.heap.size ≤ k ∧ k < w2.heap.size)) Za ∧ Ex (fun k => k = q) w (w2.setCell ⟨q, 1, none⟩ tv) := by
  have s1 := h.be.size
  have s2 := hb.size
  have e := hb.block q (by omega)
  have hne : ∀ k, tv.ownBlock = some k → k ≠ q := fun k hk => by have := (World.ownsRow.lt ho k hk).1; omega
  have hlr := fun k (hk : lv.ownBlock = some k) => World.ownsRow.lt h.row k hk
  have ex : Ex (fun k => k = q) w (w2.setCell ⟨q, 1, none⟩ tv) := Ex.setCell (X := fun k => k = q) (p := ⟨q, 1, none⟩) (h.be.trans (ex_of hb)) (fun _ => rfl) _
  have hs3 : (w2.setCell ⟨q, 1, none⟩ tv).heap.size = w2.heap.size := by simp [World.setCell]
  have hrow0 : ∀ {B : Nat} {e : TypeId} {v : Value} {n : Nat} {xs : List Value}, (w2.setCell ⟨q, 1, none⟩ tv).ownsRow B e 1 v n xs → (w2.setCell ⟨q, 1, none⟩ tv).ownsRow 0 e 1 v n xs := fun hh => by
    refine ⟨hh.1, ?_⟩
    rcases hh.2 with h0 | ⟨g, cap, cur, e, h1, h2⟩
    · exact .inl h0
    · exact .inr ⟨g, cap, cur, e, Nat.zero_le _, h2⟩
  refine ⟨e, ⟨lv, tv, vs, ⟨(setCell_ne (by omega)).trans ((World.cell?_of_block (a := ⟨q, 0, none⟩) e).trans h.c0), setCell_hit ((World.cell?_of_block (a := ⟨q, 1, none⟩) e).trans h.c1), fun j => by rw [World.frozen?_setCell]; exact (World.frozen?_of_block (a := ⟨q, j, none⟩) e).trans (h.z j), hrow0 (ownsS_same h.row (fun k hk => (setCell_blk (by have := (hlr k hk).1; omega)).trans (hb.block k (hlr k hk).2))), hrow0 (ownsS_same ho (fun k hk => setCell_blk (hne k hk))), fun i hi ht => ?_, fun hk => by have := (hlr q hk).1; omega, fun hk => hne q hk rfl, fun k h1 h2 => ?_, ha.sm, ha.one⟩, fun k hk => ?_, fun k hk => ?_, fun k hk => ?_, fun k hk hy => ?_⟩, ex⟩
  · obtain ⟨b, h1, h2, h3⟩ := ha.val i hi ht
    exact ⟨b, h1, h2, (World.cell?_of_block (a := ⟨b, 0, none⟩) (ex.block b (hza b h1).1 (hza b h1).2)).trans h3⟩
  · have := (hlr k h1).2
    have := (World.ownsRow.lt ho k h2).1
    omega
  · rcases hk with e | e | e
    · exact Or.inl e
    · have := hlr k e
      exact Or.inr ⟨this.1, by omega⟩
    · have := World.ownsRow.lt ho k e
      exact Or.inr ⟨by omega, this.2⟩
  · rw [hs3]
    rcases hk with e | e
    · omega
    · exact e.2
  · rw [hs3]
    have := (hza k hk).1
    omega
  · have := hza k hk
    rcases hy with e | e <;> omega
theorem rowsV_cells {w w' : World} {e : TypeId} {a : Option Addr} {n c : Nat} {xs : List Value} (h : w.ownsRow 0 e 1 (.slice a n c) n xs) (hb : ∀ k, (Value.slice a n c).ownBlock = some k → w'.heap[k]? = w.heap[k]?) : (a = none → n = 0 ∧ c = 0) ∧ ∀ ad, a = some ad → ∀ j u, xs[j]? = some u → w'.cell? (ad.add j) = some u := by
  rcases h.2 with ⟨e1, e2⟩ | ⟨g, cap, cur, e1, _, hh, _⟩
  · cases e1
    exact ⟨fun _ => ⟨rfl, rfl⟩, fun ad e => by cases e⟩
  · cases e1
    refine ⟨(fun e => by cases e), fun ad e j u hu => ?_⟩
    injection e with e
    subst e
    have hj := (List.getElem?_eq_some_iff.1 hu).1
    have hl := h.1
    rw [WideShapes.add_plain, Nat.zero_add]
    rw [World.cell?_of_block (a := ⟨g, j, none⟩) (hb g rfl), h.cellAt j (by omega)]
    exact hu
set_option maxRecDepth 100000 in
set_option maxHeartbeats 4000000 in
theorem two11_walk (a0 : Option Addr) (n0 c0 : Nat) (G : Nat → Nat → Int) (a1 : Option Addr) (n1 c1 : Nat) (H : Nat → Nat → Int) (w : World) (h0 : S3 w a0 n0 c0 G) (h1 : S3 w a1 n1 c1 H) :
    Calls Try.prog 5 #[.slice a0 n0 c0, .slice a1 n1 c1] w fun e w' => e = .returned (.bool true) ∧ Below w.heap.size w w' := by
  by_cases hb : n0 ≤ 400 ∧ n1 ≤ 400
  · have t0 : (n0 : Int) ≤ 400 := by omega
    have t1 : (n1 : Int) ≤ 400 := by omega
    obtain ⟨hc0, b0, off0, hp0, hcell0⟩ := h0
    obtain ⟨hc1, b1, off1, hp1, hcell1⟩ := h1
    have HP0 := Lib.hid hp0
    have HC0 := Lib.hid hcell0
    have HP1 := Lib.hid hp1
    have HC1 := Lib.hid hcell1
    have CN := slnew_any w
    clear hp0 hcell0 hp1 hcell1
    go_enter Try.func5, Try.ntmps5
    go_wp2_with fail
    refine CN.mono ?_
    rintro e w1 ⟨rfl, hs1, hb1, hz1⟩
    clear CN
    have CN := slnew_any w1
    have HZ1 := Lib.hid hz1
    clear hz1
    go_wp2_with fail
    refine CN.mono ?_
    rintro e w2 ⟨rfl, hs2, hb2, hz2⟩
    clear CN
    obtain ⟨w4, hw4⟩ : ∃ y, (w2.alloc (.cells #[.slice none 0 0, .slice none 0 0] 35)).alloc (.cells #[.slice none 0 0, .slice none 0 0] 35) = y := ⟨_, rfl⟩
    have hI := tp_new hs1 hb1 HZ1.out hs2 hb2 hz2 35
    rw [hw4] at hI
    have HI := Lib.hid hI
    clear hI hs1 hb1 hs2 hb2 hz2
    go_upto_region 9 with fail
    clear hw4
    generalize hqa : w2.heap.size = qa at HI ⊢
    generalize hqb : qa + 1 = qb at HI ⊢
    generalize hgb : w1.heap.size = gb at HI ⊢
    clear hqa hqb hgb
    go_wp2_with fail
    go_loopw [9] (fun v9 wr => ∃ (i : Nat) (sa : List So) (Xa Ya Za Xb Yb Zb : Nat → Prop), i ≤ n0 ∧ v9 = .int .i64 (i : Int) ∧ Tp w w wr w.heap.size qa sa Xa Ya Za gb qb [] Xb Yb Zb (fun _ => False) ∧ sa.length ≤ i) (fun v9 _ => n0 - (intOf v9).toNat)
    case atStart => exact ⟨0, [], _, _, _, _, _, _, Nat.zero_le _, rfl, HI.out, Nat.le_refl _⟩
    case round =>
      clear HI
      obtain ⟨i, sa, Xa, Ya, Za, Xb, Yb, Zb, hi, rfl, hI, hsi⟩ := hrel
      have HI := Lib.hid hI
      by_cases hin : i < n0
      · have ti : (i : Int) < (n0 : Int) := by omega
        have ti0 : (0 : Int) ≤ (i : Int) := by omega
        have ei : IntKind.i64.wrap ((i : Int) + 1) = ((i + 1 : Nat) : Int) := by rw [i64_small (by omega) (by omega)]; omega
        obtain ⟨rfl, hbl⟩ := HP0.out (by omega)
        have q0 := (hI.be.cell (p := ⟨b0, off0 + (i * 3 + 0), none⟩) hbl).trans (HC0.out i hin 0 (by omega))
        have q1 := (hI.be.cell (p := ⟨b0, off0 + (i * 3 + 1), none⟩) hbl).trans (HC0.out i hin 1 (by omega))
        have q2 := (hI.be.cell (p := ⟨b0, off0 + (i * 3 + 2), none⟩) hbl).trans (HC0.out i hin 2 (by omega))
        rw [← Nat.add_assoc] at q1 q2
        rw [Nat.add_zero] at q0
        generalize G i 0 = g0 at *
        generalize G i 1 = g1 at *
        generalize G i 2 = g2 at *
        have CD := does_any hI.a (by omega) g0 g1 g2
        have hln := stepS_len sa g0 g1 g2
        clear hI
        go_wp2_with fail
        refine CD.mono ?_
        rintro e z1 ⟨rfl, hd⟩
        clear CD
        obtain ⟨X1, Y1, Z1, hI1⟩ := HI.out.stepA hd
        have HI1 := Lib.hid hI1
        clear hI1 hd HI
        go_wp2_with fail
        go_roundw
        case rel => exact ⟨i + 1, _, X1, Y1, Z1, Xb, Yb, Zb, by omega, rfl, HI1.out, by omega⟩
        case measure =>
          simp [intOf]
          omega
      · obtain rfl : i = n0 := by omega
        have tj : ((i : Int) < (i : Int)) = False := by simp
        have CA := all_any hI.a.sl
        have HLA := Lib.hid hI.a.lts
        have HLB := Lib.hid hI.b.lts
        clear hI
        go_wp2_with fail
        refine CA.mono ?_
        rintro e w5 ⟨rfl, ⟨rv, hc5, hr5, hrv⟩, hb5⟩
        clear CA
        have hI5 := HI.out.keep hb5
        have hT5 := lt_of_cell hc5
        have ht5 : wr.heap.size < w5.heap.size := hT5
        obtain ⟨w6, hw6⟩ : ∃ y, w5.alloc (.cells #[.slice none 0 0, .slice none 0 0] 35) = y := ⟨_, rfl⟩
        have hb6 : Below w5.heap.size w5 w6 := by rw [← hw6]; exact (Below.refl _ w5).alloc (Nat.le_refl _) _
        have hz6 : w6.heap.size = w5.heap.size + 1 := by rw [← hw6]; simp
        have k0 : w6.cell? ⟨w5.heap.size, 0, none⟩ = some (.slice none 0 0) := by rw [← hw6, World.cell?_alloc_at _ _ _ _ rfl]; rfl
        have k1 : w6.cell? ⟨w5.heap.size, 1, none⟩ = some (.slice none 0 0) := by rw [← hw6, World.cell?_alloc_at _ _ _ _ rfl]; rfl
        have kz : ∀ j, w6.frozen? ⟨w5.heap.size, j, none⟩ = false := fun j => by rw [← hw6]; exact World.frozen?_alloc_at _ _ _ _ rfl
        have hI6 := hI5.keep hb6
        obtain ⟨lva, tva, vs, hqa, hYa, hYs, hZs, hZY⟩ := hI6.a.rq
        obtain ⟨la, lc, rfl⟩ := ownsS_shape hqa.row
        obtain ⟨ta, tc, rfl⟩ := ownsS_shape hqa.tk
        have m0 := hqa.c0
        have m1 := hqa.c1
        have hsm := hqa.sm
        obtain ⟨i0, hi0, hy0, hy1, hy2⟩ := info_parts Try.infoL
        obtain ⟨j0, hj0, jy0, jy1, jy2⟩ := info_parts Try.infoB2
        have HRow := Lib.hid (rowsV_cells (w' := w6.drew) hqa.row (fun _ _ => rfl))
        have HOne := Lib.hid hqa.one
        have hvl : vs.length = sa.length * 1 := hqa.row.1
        have HVL := Lib.hid hvl
        have HQA := Lib.hid hqa
        have HI6 := Lib.hid hI6
        have HW6 := Lib.hid hw6
        have HB6 : Hid (Below w.heap.size w w6) := hI6.be
        have kz0 := kz 0
        have kz1 := kz 1
        have HI5 := Lib.hid hI5
        have HB56 := Lib.hid hb6
        have HK0 := Lib.hid k0
        have HK1 := Lib.hid k1
        have HKZ := Lib.hid kz
        have HC5 := Lib.hid hc5
        have HR5 := Lib.hid hr5
        have HRV := Lib.hid hrv
        have HYa := Lib.hid hYa
        have HZY := Lib.hid hZY
        have HZ6 := Lib.hid hz6
        have hB5 := Lib.hid hb5
        clear hI5 hI6 hqa hw6 hvl HI hb6 kz hc5 hr5 hrv hYa hYs hZs hZY hz6 hb5
        go_upto_region 16 with fail
        rw [HW6.out]
        go_region_law (refine stepS_append_nil rfl _ _ 32 rfl 27 i0 (.slice none 0 0) 1 24 Try.underlying32 hi0 hy0 hy1 hy2 rfl (by decide) (by simp [Act.eval]) la sa.length lc (by simp [Act.eval]) HRow.out.1 vs HVL.out HRow.out.2 HOne.out (by unfold maxLen; omega) (by omega) ?_; intro v' w7 hown hB7; obtain ⟨a7, cap7, hv7⟩ := ownsS_shape hown; subst hv7; obtain ⟨he7, hM7⟩ := wm_of (w := w6.drew) (q := w5.heap.size) (by show _ < w6.heap.size; rw [HZ6.out]; omega) HK0.out HK1.out HKZ.out hown hB7; have x0 := (World.cell?_of_block (a := ⟨w5.heap.size, 0, none⟩) he7).trans HK0.out; have x1 := (World.frozen?_of_block (a := ⟨w5.heap.size, 0, none⟩) he7).trans (HKZ.out 0); have HM7 := Lib.hid hM7)
        all_goals
          clear hown hB7 he7 hM7 k0 k1 kz0 kz1 m0
          go_upto_region 17 with fail
          generalize World.setCell w7 _ _ = w8 at *
          clear x0 x1
          have hqal : qa < wr.heap.size := HLA.out qa (Or.inr (Or.inl (HYa.out qa (Or.inl rfl))))
          have k1 := HM7.out.c1
          have kz1 := HM7.out.z 1
          have m1' : w8.cell? ⟨qa, 1, none⟩ = some (.slice ta sa.length tc) := (World.cell?_of_block (a := ⟨qa, 1, none⟩) (HM7.out.be.block qa (by show qa < w6.heap.size; rw [HZ6.out]; omega) (by omega))).trans HQA.out.c1
          have HRow2 := Lib.hid (rowsV_cells (w' := w8.drew) HQA.out.tk (fun k hk => (HM7.out.be.block k (World.ownsRow.lt HQA.out.tk k hk).2 (by have := HLA.out k (Or.inr (Or.inl (HYa.out k (Or.inr (Or.inr hk))))); omega))))
          have HTO : Hid (∀ u ∈ tkv sa, u.oneCell' = true) := fun u hu => by
            simp only [tkv, List.mem_map] at hu
            obtain ⟨e, _, rfl⟩ := hu
            rfl
          have HTL : Hid ((tkv sa).length = sa.length * 1) := by show _ = _; rw [tkv_len]; omega
          have HB8 : Hid (w6.heap.size ≤ w8.heap.size) := HM7.out.be.size
          clear m1
          go_region_law (refine stepS_append_nil rfl _ _ 33 rfl 4 j0 (.bool false) 1 1 Try.underlying33 hj0 jy0 jy1 jy2 rfl (by decide) (by simp [Act.eval]) ta sa.length tc (by simp [Act.eval]) HRow2.out.1 (tkv sa) HTL.out HRow2.out.2 HTO.out (by unfold maxLen; omega) (by omega) ?_; intro v' w9 hown hB9; obtain ⟨a9, cap9, hv9⟩ := ownsS_shape hown; subst hv9; have x0 := (World.cell?_of_block (a := ⟨w5.heap.size, 1, none⟩) (hB9.block w5.heap.size (lt_of_cell k1))).trans k1; have x1 := (World.frozen?_of_block (a := ⟨w5.heap.size, 1, none⟩) (hB9.block w5.heap.size (lt_of_cell k1))).trans kz1)
          all_goals
            have hM8 : Wm w6.drew w8.drew w5.heap.size sa.length (.slice a7 sa.length cap7) vs := ⟨HM7.out.c0, HM7.out.c1, HM7.out.z, HM7.out.row, HM7.out.be.drew⟩
            obtain ⟨_, hV10, hE10⟩ := wm_fin (w := w6.drew) (w1 := w8.drew) hM8 (by show _ < w6.heap.size; rw [HZ6.out]; omega) (Rq.same (w' := w6.drew) HQA.out (fun _ _ => rfl)) (fun k hk => ⟨by show _ < w6.heap.size; have := HLA.out k (Or.inr (Or.inr hk)); rw [HZ6.out]; omega, by have := HLA.out k (Or.inr (Or.inr hk)); omega⟩) hown hB9
            have HV10 := Lib.hid hV10
            have HE10 := Lib.hid hE10
            clear hown hB9 hV10 hE10 hM8
            go_upto_region 18 with fail
            generalize hw10 : World.setCell w9 _ _ = w10 at *
            clear x0 x1 k1 kz1 m1'
            have hsz10 : w9.heap.size = w10.heap.size := by rw [← hw10]; simp [World.setCell]
            have hB10 : Below w5.heap.size w5 w10 := (HB56.out.drew).trans ((HE10.out).below (fun k hk => by omega) (by show _ ≤ w6.heap.size; rw [HZ6.out]; omega))
            have hTp := HI5.out.keep hB10
            have hTr := hTp.read (R' := fun k => (wr.heap.size ≤ k ∧ k < w10.heap.size) ∨ Za k) (fun k hk => by
                rcases hk with hk | hk
                · exact hk.2
                · exact hTp.a.lts k (Or.inr (Or.inr hk))) (fun k hk hr => by
                rcases hr with hr | hr
                · have := HLA.out k (by rcases hk with e | e; exact Or.inl e; exact Or.inr (Or.inl e)); omega
                · rcases hk with e | e
                  · exact (hTp.a.xy k e).2 hr
                  · exact HZY.out k hr e) (fun k hk hr => by
                rcases hr with hr | hr
                · have := HLB.out k (by rcases hk with e | e; exact Or.inl e; exact Or.inr (Or.inl e)); omega
                · exact (hTp.ba k hk).1 hr)
            have HTR := Lib.hid hTr
            have HKEEP : Hid (∀ V : World, (∀ k, ((wr.heap.size ≤ k ∧ k < w10.heap.size) ∨ Za k) → V.heap[k]? = w10.heap[k]?) → w10.heap.size ≤ V.heap.size → V.cell? ⟨wr.heap.size, 0, none⟩ = some rv ∧ Rd2 V rv sa ∧ RqV V w5.heap.size sa (fun k => k = w5.heap.size ∨ (w6.drew.heap.size ≤ k ∧ k < w9.heap.size)) Za) := fun V hV hs => by
              have h5 : w5.heap.size < w10.heap.size := by have h6 := HZ6.out; have h7 := HE10.out.size; have h8 : w6.drew.heap.size = w6.heap.size := rfl; omega
              have hs10 := hB10.size
              have hs6 : wr.heap.size < w6.drew.heap.size := by show _ < w6.heap.size; rw [HZ6.out]; omega
              refine ⟨?_, ?_, ?_⟩
              · exact (World.cell?_of_block (a := ⟨wr.heap.size, 0, none⟩) ((hV _ (Or.inl ⟨Nat.le_refl _, by omega⟩)).trans (hB10.block _ ht5))).trans HC5.out
              · exact HR5.out.keep (fun k hk hl => (hV k (Or.inl ⟨HRV.out k hk, by omega⟩)).trans (hB10.block k hl))
              · obtain ⟨lv, tv, vs', g1, g2, g3, g4, g5⟩ := HV10.out
                refine ⟨lv, tv, vs', g1.same (fun k hk => hV k ?_), g2, fun k hk => Nat.lt_of_lt_of_le (g3 k hk) hs, fun k hk => Nat.lt_of_lt_of_le (g4 k hk) hs, g5⟩
                rcases hk with hk | hk
                · rcases g2 k hk with e | e
                  · exact Or.inl ⟨by omega, by omega⟩
                  · exact Or.inl ⟨by omega, by omega⟩
                · exact Or.inr hk
            clear hTp hTr hB10 HI5 HE10 HV10 HM7 HQA hw10 hsz10 HRow HRow2 HOne HVL HTL HTO HB8 HB56 HI6 HK0 HK1 HKZ hB5 HC5 HR5 HRV
            generalize wr.heap.size = T0 at *
            go_wp2_with fail
            go_loopw [12] (fun v12 wq => ∃ (j : Nat) (pa sb : List So) (Xp Yp Zp Xq Yq Zq : Nat → Prop), j ≤ n1 ∧ v12 = .int .i64 (j : Int) ∧ Tp w w10 wq w.heap.size qa pa Xp Yp Zp gb qb sb Xq Yq Zq (fun k => (T0 ≤ k ∧ k < w10.heap.size) ∨ Za k) ∧ sb.length ≤ j ∧ pa.length ≤ 400 + j) (fun v12 _ => n1 - (intOf v12).toNat)
            case atStart => exact ⟨0, sa, [], _, _, _, _, _, _, Nat.zero_le _, rfl, HTR.out, Nat.le_refl _, by omega⟩
            case round =>
              clear HTR
              obtain ⟨j, pa, sb, Xp, Yp, Zp, Xq, Yq, Zq, hj, rfl, hI, hsb, hpa⟩ := hrel
              have HI := Lib.hid hI
              by_cases hjn : j < n1
              · have tj1 : (j : Int) < (n1 : Int) := by omega
                have tj0 : (0 : Int) ≤ (j : Int) := by omega
                have ej : IntKind.i64.wrap ((j : Int) + 1) = ((j + 1 : Nat) : Int) := by rw [i64_small (by omega) (by omega)]; omega
                obtain ⟨rfl, hbl⟩ := HP1.out (by omega)
                have q0 := (hI.be.cell (p := ⟨b1, off1 + (j * 3 + 0), none⟩) hbl).trans (HC1.out j hjn 0 (by omega))
                have q1 := (hI.be.cell (p := ⟨b1, off1 + (j * 3 + 1), none⟩) hbl).trans (HC1.out j hjn 1 (by omega))
                have q2 := (hI.be.cell (p := ⟨b1, off1 + (j * 3 + 2), none⟩) hbl).trans (HC1.out j hjn 2 (by omega))
                rw [← Nat.add_assoc] at q1 q2
                rw [Nat.add_zero] at q0
                have HQC : Hid (∀ V, Below w.heap.size w V → V.cell? ⟨b1, off1 + j * 3, none⟩ = some (.int .i64 (H j 0)) ∧ V.cell? ⟨b1, off1 + j * 3 + 1, none⟩ = some (.int .i64 (H j 1)) ∧ V.cell? ⟨b1, off1 + j * 3 + 2, none⟩ = some (.int .i64 (H j 2))) := fun V hV => by
                  refine ⟨?_, ?_, ?_⟩
                  · exact (hV.cell (p := ⟨b1, off1 + (j * 3 + 0), none⟩) hbl).trans (HC1.out j hjn 0 (by omega))
                  · exact (hV.cell (p := ⟨b1, off1 + (j * 3 + 1), none⟩) hbl).trans (HC1.out j hjn 1 (by omega))
                  · exact (hV.cell (p := ⟨b1, off1 + (j * 3 + 2), none⟩) hbl).trans (HC1.out j hjn 2 (by omega))
                generalize H j 0 = g0 at *
                generalize H j 1 = g1 at *
                generalize H j 2 = g2 at *
                have CD := does_any hI.b (by omega) g0 g1 g2
                have hln := stepS_len sb g0 g1 g2
                have hln2 := stepS_len pa g0 g1 g2
                clear hI
                go_wp2_with fail
                refine CD.mono ?_
                rintro e z1 ⟨rfl, hd⟩
                clear CD q0 q1 q2
                obtain ⟨X1, Y1, Z1, hI1⟩ := HI.out.stepB hd
                obtain ⟨q0, q1, q2⟩ := HQC.out z1 hI1.be
                have CD := does_any hI1.a (by omega) g0 g1 g2
                have HI1 := Lib.hid hI1
                clear hI1 hd HI
                go_wp2_with fail
                refine CD.mono ?_
                rintro e z2 ⟨rfl, hd⟩
                clear CD q0 q1 q2
                obtain ⟨X2, Y2, Z2, hI2⟩ := HI1.out.stepA hd
                have HI2 := Lib.hid hI2
                clear hI2 hd HI1
                go_wp2_with fail
                go_roundw
                case rel => exact ⟨j + 1, _, _, X2, Y2, Z2, X1, Y1, Z1, by omega, rfl, HI2.out, by omega, by omega⟩
                case measure =>
                  simp [intOf]
                  omega
              · obtain rfl : j = n1 := by omega
                have tj2 : ((j : Int) < (j : Int)) = False := by simp
                obtain ⟨hcT, hrT, hqT⟩ := HKEEP.out wr (fun k hk => (hI.r k hk).2) hI.gs
                have CG := goes_any (stop := 0) hcT hrT hqT
                have hfn := fn_neq T0
                clear hI hcT hrT hqT HKEEP
                unfold itV at CG hfn ⊢
                go_wp2_with fail
                refine CG.mono ?_
                rintro e z3 ⟨rfl, hb3⟩
                clear CG
                have HI3 := Lib.hid (HI.out.keep hb3)
                clear hb3 HI
                have CA := all_any HI3.out.a.sl
                go_wp2_with fail
                refine CA.mono ?_
                rintro e z4 ⟨rfl, ⟨rv4, hc4, hr4, _⟩, hb4⟩
                clear CA
                have HI4 := Lib.hid (HI3.out.keep hb4)
                have CG := goes_any (stop := 0) hc4 hr4 HI4.out.a.rq
                clear hc4 hr4 hb4 HI3
                unfold itV at CG ⊢
                go_wp2_with fail
                refine CG.mono ?_
                rintro e z5 ⟨rfl, hb5⟩
                clear CG
                have HI5 := Lib.hid (HI4.out.keep hb5)
                clear hb5 HI4
                have CA := all_any HI5.out.b.sl
                go_wp2_with fail
                refine CA.mono ?_
                rintro e z6 ⟨rfl, ⟨rv6, hc6, hr6, _⟩, hb6⟩
                clear CA
                have HI6 := Lib.hid (HI5.out.keep hb6)
                have CG := goes_any (stop := 0) hc6 hr6 HI6.out.b.rq
                clear hc6 hr6 hb6 HI5
                unfold itV at CG ⊢
                go_wp2_with fail
                refine CG.mono ?_
                rintro e z7 ⟨rfl, hb7⟩
                clear CG
                have HB7 := Lib.hid (HI6.out.be.trans (hb7.mono HI6.out.be.size))
                have CW := awake11_any z7
                clear hb7 HI6
                go_wp2_with fail
                refine CW.mono ?_
                rintro e z8 ⟨rfl, hb8⟩
                clear CW
                go_wp2
                go_ret
                exact ⟨rfl, HB7.out.trans (hb8.mono HB7.out.size)⟩
  · have hB : (400 : Int) < (n0 : Int) ∨ ((n0 : Int) ≤ 400 ∧ (400 : Int) < (n1 : Int)) := by omega
    have CA := awake11_any w
    clear h0 h1
    rcases hB with t0 | ⟨t0, t1⟩
    · go_enter Try.func5, Try.ntmps5
      go_wp2_with fail
      refine CA.mono ?_
      rintro e w9 ⟨rfl, hb9⟩
      clear CA
      go_wp2
      go_ret
      exact ⟨rfl, hb9⟩
    · go_enter Try.func5, Try.ntmps5
      go_wp2_with fail
      refine CA.mono ?_
      rintro e w9 ⟨rfl, hb9⟩
      clear CA
      go_wp2
      go_ret
      exact ⟨rfl, hb9⟩
end Go.Proofs.Ytmeljhnmpopkhaa
