/-
  The reference's Free and Add.
-/
import Derived.Test.YtbnmnmbfdfgohaaDoorSmRef
namespace Go.Proofs.YtbnmnmbfdfgohaaDoor
open Go.RowKit Go.WideShapes

/-- Both rows are turned at one place. -/
theorem Rq.turn {w : World} {q r N c t M d : Nat} {ss : List So} {vs : List Value} {B : Nat} {v : Value} {e' : So} (h : Rq w q ss (.slice (some ⟨r, 0, none⟩) N c) (.slice (some ⟨t, 0, none⟩) M d) vs B) (k : Nat) (hk : k < ss.length) (hZ : B ≤ r ∧ B ≤ t)
    (hv : e'.taken = true → ∃ a n c, v = .slice a n c ∧ Lz w B a n c e'.has.l) (hv1 : v.oneCell' = true) :
    Rq ((w.setCell ⟨r, k, none⟩ v).setCell ⟨t, k, none⟩ (.bool e'.taken)) q (ss.set k e') (.slice (some ⟨r, 0, none⟩) N c) (.slice (some ⟨t, 0, none⟩) M d) (vs.set k v) B := by
  have hqr : q ≠ r := fun e => h.nr (by rw [e]; rfl)
  have hqt : q ≠ t := fun e => h.nt (by rw [e]; rfl)
  have hrt : r ≠ t := fun e => h.ne r rfl (by rw [e]; rfl)
  obtain rfl := rowS_len h.row
  obtain rfl := rowS_len h.tk
  have hfar : ∀ g o, g ≠ r → g ≠ t → ((w.setCell ⟨r, k, none⟩ v).setCell ⟨t, k, none⟩ (.bool e'.taken)).cell? ⟨g, o, none⟩ = w.cell? ⟨g, o, none⟩ := fun g o e1 e2 => World.cell?_of_block (a := ⟨g, o, none⟩) ((setCell_blk e2).trans (setCell_blk e1))
  have hbel : Below B w ((w.setCell ⟨r, k, none⟩ v).setCell ⟨t, k, none⟩ (.bool e'.taken)) := ((Below.refl B w).setCell (p := ⟨r, k, none⟩) hZ.1 _).setCell (p := ⟨t, k, none⟩) hZ.2 _
  have hvl : vs.length = ss.length := by have := h.row.1; omega
  refine ⟨(hfar q 0 hqr hqt).trans h.c0, (hfar q 1 hqr hqt).trans h.c1, fun j => by rw [World.frozen?_setCell, World.frozen?_setCell]; exact h.z j, ?_, ?_, fun i hi hti => ?_, h.nr, h.nt, h.ne, by simpa using h.sm, fun u hu => by rcases List.mem_or_eq_of_mem_set hu with e | e; exact h.one u e; rw [e]; exact hv1⟩
  · rw [List.length_set]
    exact ownsS_same (h.row.stored k v).1 (fun j hj => setCell_blk (fun e => hrt (by injection hj with hj; exact hj.trans e)))
  · rw [List.length_set, tkv_set]
    have h1 : (w.setCell ⟨r, k, none⟩ v).ownsRow 0 4 1 (.slice (some ⟨t, 0, none⟩) ss.length d) ss.length (tkv ss) := ownsS_same h.tk (fun j hj => setCell_blk (fun e => hrt (by injection hj with hj; exact (hj.trans e).symm)))
    exact (h1.stored k _).1
  · rw [nts_set hk] at hti ⊢
    by_cases e : i = k
    · rw [if_pos e] at hti ⊢
      obtain ⟨a, n, c, rfl, h4⟩ := hv hti
      exact ⟨a, n, c, by rw [e]; simp [hvl, hk], h4.below hbel⟩
    · rw [if_neg e] at hti ⊢
      obtain ⟨a, n, c, hv', hc'⟩ := h.val i (by simpa using hi) hti
      exact ⟨a, n, c, by rw [List.getElem?_set, if_neg (fun h => e h.symm)]; exact hv', hc'.below hbel⟩
theorem Rq.cells {w : World} {q r N c t M d : Nat} {ss : List So} {vs : List Value} {Z : Nat} (h : Rq w q ss (.slice (some ⟨r, 0, none⟩) N c) (.slice (some ⟨t, 0, none⟩) M d) vs Z) (k : Nat) (hk : k < ss.length) :
    (∃ v, w.cell? ⟨r, k, none⟩ = some v) ∧ w.frozen? ⟨r, k, none⟩ = false ∧ w.cell? ⟨t, k, none⟩ = some (.bool (nts ss k).taken) ∧ w.frozen? ⟨t, k, none⟩ = false ∧ r ≠ t ∧ q ≠ r ∧ q ≠ t := by
  have hqr : q ≠ r := fun e => h.nr (by rw [e]; rfl)
  have hqt : q ≠ t := fun e => h.nt (by rw [e]; rfl)
  have hrt : r ≠ t := fun e => h.ne r rfl (by rw [e]; rfl)
  obtain rfl := rowS_len h.row
  obtain rfl := rowS_len h.tk
  have hlt : k < vs.length := by have := h.row.1; omega
  exact ⟨⟨vs[k], by rw [h.row.cellAt k (by omega), List.getElem?_eq_getElem hlt]⟩, h.row.frozenAt k, (h.tcell k hk).2, h.tk.frozenAt k, hrt, hqr, hqt⟩
theorem rfree_sl {w : World} {q : Nat} {ss : List So} {Y : Nat → Prop} {B : Nat} (h : RqV w q ss Y B) (i : Int) : Calls Tryd.prog 27 #[.pointer (some ⟨q, 0, none⟩), .int .i64 i] w fun e w' => e = .returned (.bool (isT ss i)) ∧ RqV w' q (freeS ss i) Y B ∧ Ex Y w w' := by
  obtain ⟨lv, tv, vs, h, hY, hYs, hBs⟩ := h
  have C := ris_any h i
  by_cases ht : isT ss i = true
  · obtain ⟨k, rfl, hk, hx⟩ := isT_ex ht
    obtain ⟨r, rc, rfl, _⟩ := ownsS_some h.row (by omega)
    obtain ⟨t, tc, rfl, _⟩ := ownsS_some h.tk (by omega)
    have c0 := h.c0
    have c1 := h.c1
    have hYr := hY r (Or.inr (Or.inl rfl))
    have hYt := hY t (Or.inr (Or.inr rfl))
    obtain ⟨⟨v0, r0⟩, z0, r1, z1, n1, n2, n3⟩ := h.cells k hk
    have hP := h.turn (v := .slice none 0 0) (e' := ⟨false, Sh.nil⟩) k hk ⟨(hYs r hYr).1, (hYs t hYt).1⟩ (fun e => by cases e) rfl
    have d1 : (w.setCell ⟨r, k, none⟩ (.slice none 0 0)).cell? ⟨q, 1, none⟩ = some (.slice (some ⟨t, 0, none⟩) ss.length tc) := (World.cell?_of_block (a := ⟨q, 1, none⟩) (setCell_blk n2)).trans c1
    have d2 : (w.setCell ⟨r, k, none⟩ (.slice none 0 0)).cell? ⟨t, k, none⟩ = some (.bool (nts ss k).taken) := (World.cell?_of_block (a := ⟨t, k, none⟩) (setCell_blk n1.symm)).trans r1
    have t1 : (k : Int) < (ss.length : Int) := by omega
    have t2 : (0 : Int) ≤ (k : Int) := by omega
    have es : freeS ss (k : Int) = ss.set k ⟨false, Sh.nil⟩ := by unfold freeS; rw [if_pos ht]; simp
    rw [es]
    rw [ht] at C ⊢
    have HP := Lib.hid hP
    clear h es ht hx hP
    generalize (nts ss k).taken = bb at *
    go_enter Tryd.func27, Tryd.ntmps27
    go_wp2_with fail
    refine C.mono ?_
    rintro e w1 ⟨rfl, rfl⟩
    clear C
    go_wp2
    go_ret
    exact ⟨rfl, ⟨_, _, _, HP.out, hY, fun k hk => by simpa [World.setCell] using hYs k hk, by simpa [World.setCell] using hBs⟩, Ex.setCell (X := Y) (Ex.setCell (X := Y) (Ex.refl Y w1) (fun _ => hYr) _) (fun _ => hYt) _⟩
  · have ht : isT ss i = false := by simpa using ht
    have es : freeS ss i = ss := by unfold freeS; rw [ht]; simp
    rw [es]
    rw [ht] at C ⊢
    have HR := Lib.hid h
    clear h es ht
    go_enter Tryd.func27, Tryd.ntmps27
    go_wp2_with fail
    refine C.mono ?_
    rintro e w1 ⟨rfl, rfl⟩
    clear C
    go_wp2
    go_ret
    exact ⟨rfl, ⟨lv, tv, vs, HR.out, hY, hYs, hBs⟩, Ex.refl _ _⟩
theorem Tryd.infoL : (Tryd.prog.info? 23).map (fun i => (i.zero, i.size, i.bytes)) = some (some (.slice none 0 0), 1, 24) := by kernel_rfl
theorem Tryd.infoB2 : (Tryd.prog.info? 4).map (fun i => (i.zero, i.size, i.bytes)) = some (some (.bool false), 1, 1) := by kernel_rfl
/-- Behind the first of Add's two appends. -/
structure Rm (w w' : World) (q : Nat) (ss : List So) (lv tv lv' : Value) (vs : List Value) (v : Value) (Z : Nat) : Prop where
  c0 : w'.cell? ⟨q, 0, none⟩ = some lv'
  c1 : w'.cell? ⟨q, 1, none⟩ = some tv
  z : ∀ j, w'.frozen? ⟨q, j, none⟩ = false
  row : w'.ownsRow 0 23 1 lv' (ss.length + 1) (vs ++ [v])
  tk : w'.ownsRow 0 4 1 tv ss.length (tkv ss)
  nr : lv'.ownBlock ≠ some q
  nt : tv.ownBlock ≠ some q
  ne : ∀ k, lv'.ownBlock = some k → tv.ownBlock = some k → False
  ex : Ex (RX q lv tv) w w'
  nw : ∀ k, lv'.ownBlock = some k → lv.ownBlock = some k ∨ w.heap.size ≤ k
theorem radd_mid1 {w w5 : World} {q : Nat} {ss : List So} {lv tv lv' v : Value} {vs : List Value} {Z : Nat} {o : Obj} (h : Rq w q ss lv tv vs Z) (hown : w5.ownsRow 0 23 1 lv' (ss.length + 1) (vs ++ [v])) (hg : (w.alloc o).grownBy w5 lv.ownBlock) (hat : lv'.ownBlock = lv.ownBlock ∨ lv'.ownBlock = some (w.heap.size + 1)) :
    w5.heap[q]? = w.heap[q]? ∧ Rm w (w5.setCell ⟨q, 0, none⟩ lv') q ss lv tv lv' vs v Z := by
  have hlq : q < w.heap.size := lt_of_cell h.c0
  have hsz : (w.alloc o).heap.size = w.heap.size + 1 := by simp
  have hs5 : w.heap.size ≤ w5.heap.size := by have := hg.size; omega
  have hb : w5.heap[q]? = w.heap[q]? := (hg.block q (by omega) (fun e => h.nr e.symm)).trans (Below.heap_alloc _ _ _ hlq)
  have hnr : lv'.ownBlock ≠ some q := by
    rcases hat with e | e
    · rw [e]; exact h.nr
    · rw [e]; intro e; injection e with e; omega
  refine ⟨hb, setCell_hit ((World.cell?_of_block (a := ⟨q, 0, none⟩) hb).trans h.c0), (setCell_ne (by omega)).trans ((World.cell?_of_block (a := ⟨q, 1, none⟩) hb).trans h.c1), fun j => by rw [World.frozen?_setCell]; exact (World.frozen?_of_block (a := ⟨q, j, none⟩) hb).trans (h.z j), ownsS_same hown (fun k hk => setCell_blk (fun e => hnr (by rw [hk, e]))), ownsS_same h.tk (fun k hk => ?_), hnr, h.nt, fun k h1 h2 => ?_, ?_, fun k hk => ?_⟩
  · have hkl := (World.ownsRow.lt h.tk k hk).2
    exact (setCell_blk (fun e => h.nt (by rw [hk, e]))).trans ((hg.block k (by omega) (fun e => h.ne k e.symm hk)).trans (Below.heap_alloc _ _ _ hkl))
  · rcases hat with e | e
    · exact h.ne k (by rw [← e]; exact h1) h2
    · rw [e] at h1
      injection h1 with h1
      have := (World.ownsRow.lt h.tk k h2).2
      omega
  · refine Ex.setCell (a := w) (w := w5) (p := ⟨q, 0, none⟩) (X := RX q lv tv) ⟨hg.os, hg.tape, hg.output, hs5, fun j hj hx => ?_⟩ (fun _ => Or.inl rfl) _
    exact (hg.block j (by omega) (fun e => hx (Or.inr (Or.inl e.symm)))).trans (Below.heap_alloc _ _ _ hj)
  · rcases hat with e | e
    · exact Or.inl (by rw [← e]; exact hk)
    · rw [e] at hk
      injection hk with hk
      exact Or.inr (by omega)
theorem radd_mid2 {w w1 w5 : World} {q : Nat} {ss : List So} {lv tv lv' tv' : Value} {vs : List Value} {Y : Nat → Prop} {B : Nat} {o : Obj} {x : Sh} {ax : Option Addr} {nx cx : Nat} (h : Rq w q ss lv tv vs B) (hs : ss.length < 100000) (hm : Rm w w1 q ss lv tv lv' vs (.slice ax nx cx) B) (hY : ∀ k, RX q lv tv k → Y k) (hYs : ∀ k, Y k → B ≤ k ∧ k < w.heap.size) (hBs : B ≤ w.heap.size) (hb : Lz w B ax nx cx x.l)
    (hown : w5.ownsRow 0 4 1 tv' (ss.length + 1) (tkv ss ++ [.bool true])) (hg : (w1.alloc o).grownBy w5 tv.ownBlock) (hat : tv'.ownBlock = tv.ownBlock ∨ tv'.ownBlock = some (w1.heap.size + 1)) :
    w5.heap[q]? = w1.heap[q]? ∧ (w5.setCell ⟨q, 1, none⟩ tv').cell? ⟨q, 0, none⟩ = some lv' ∧ RqV (w5.setCell ⟨q, 1, none⟩ tv') q (ss ++ [⟨true, x⟩]) (gX Y w (w5.setCell ⟨q, 1, none⟩ tv')) B ∧ Ex Y w (w5.setCell ⟨q, 1, none⟩ tv') := by
  have hlq : q < w1.heap.size := lt_of_cell hm.c0
  have hsz : (w1.alloc o).heap.size = w1.heap.size + 1 := by simp
  have hs5 : w1.heap.size ≤ w5.heap.size := by have := hg.size; omega
  have hs1 := hm.ex.size
  have hbq : w5.heap[q]? = w1.heap[q]? := (hg.block q (by omega) (fun e => hm.nt e.symm)).trans (Below.heap_alloc _ _ _ hlq)
  have hnt : tv'.ownBlock ≠ some q := by
    rcases hat with e | e
    · rw [e]; exact hm.nt
    · rw [e]; intro e; injection e with e; omega
  have ex : Ex Y w (w5.setCell ⟨q, 1, none⟩ tv') := by
    refine Ex.setCell (a := w) (w := w5) (p := ⟨q, 1, none⟩) (X := Y) ((hm.ex.mono (fun k _ hk => hY k hk)).next (Y := fun k => tv.ownBlock = some k) ⟨hg.os, hg.tape, hg.output, hs5, fun j hj hx => ?_⟩ (fun k _ hk => hY k (Or.inr (Or.inr hk)))) (fun _ => hY q (Or.inl rfl)) _
    exact (hg.block j (by omega) (fun e => hx e.symm)).trans (Below.heap_alloc _ _ _ hj)
  have hbel : Below B w (w5.setCell ⟨q, 1, none⟩ tv') := ex.below (fun k hk => (hYs k hk).1) hBs
  have c0 : (w5.setCell ⟨q, 1, none⟩ tv').cell? ⟨q, 0, none⟩ = some lv' := (setCell_ne (by omega)).trans ((World.cell?_of_block (a := ⟨q, 0, none⟩) hbq).trans hm.c0)
  have hrow : (w5.setCell ⟨q, 1, none⟩ tv').ownsRow 0 23 1 lv' (ss.length + 1) (vs ++ [.slice ax nx cx]) := ownsS_same hm.row (fun k hk => by
    have hkl := (World.ownsRow.lt hm.row k hk).2
    exact (setCell_blk (fun e => hm.nr (by rw [hk, e]))).trans ((hg.block k (by omega) (fun e => hm.ne k hk e.symm)).trans (Below.heap_alloc _ _ _ hkl)))
  have htk : (w5.setCell ⟨q, 1, none⟩ tv').ownsRow 0 4 1 tv' (ss.length + 1) (tkv ss ++ [.bool true]) := ownsS_same hown (fun k hk => setCell_blk (fun e => hnt (by rw [hk, e])))
  have hvl : vs.length = ss.length := by have := h.row.1; omega
  refine ⟨hbq, c0, ⟨lv', tv', vs ++ [.slice ax nx cx], ⟨c0, setCell_hit ((World.cell?_of_block (a := ⟨q, 1, none⟩) hbq).trans hm.c1), fun j => by rw [World.frozen?_setCell]; exact (World.frozen?_of_block (a := ⟨q, j, none⟩) hbq).trans (hm.z j), by simpa using hrow, by simpa [tkv] using htk, fun i hi hti => ?_, hm.nr, hnt, fun k h1 h2 => ?_, by simp; omega, fun u hu => by rcases List.mem_append.1 hu with e | e; exact h.one u e; simp at e; rw [e]; rfl⟩, fun k hk => ?_, fun k hk => ?_, Nat.le_trans hBs ex.size⟩, ex⟩
  · by_cases e : i < ss.length
    · rw [nts_app ss _ i e] at hti ⊢
      obtain ⟨a, n, c, h2, h3⟩ := h.val i e hti
      exact ⟨a, n, c, by rw [List.getElem?_append_left (by omega)]; exact h2, h3.below hbel⟩
    · have : i = ss.length := by simp at hi; omega
      subst this
      rw [nts_new]
      exact ⟨ax, nx, cx, by rw [← hvl, List.getElem?_append_right (Nat.le_refl _)]; simp, hb.below hbel⟩
  · rcases hat with e | e
    · exact hm.ne k h1 (by rw [← e]; exact h2)
    · rw [e] at h2
      injection h2 with h2
      have := (World.ownsRow.lt hm.row k h1).2
      omega
  · rcases hk with e | e | e
    · exact Or.inl (hY k (Or.inl e))
    · rcases hm.nw k e with e' | e'
      · exact Or.inl (hY k (Or.inr (Or.inl e')))
      · exact Or.inr ⟨e', (World.ownsRow.lt hrow k e).2⟩
    · rcases hat with e' | e'
      · exact Or.inl (hY k (Or.inr (Or.inr (by rw [← e']; exact e))))
      · have hk2 := (World.ownsRow.lt htk k e).2
        rw [e'] at e
        injection e with e
        exact Or.inr ⟨by omega, hk2⟩
  · rcases hk with hk | hk
    · exact ⟨(hYs k hk).1, Nat.lt_of_lt_of_le (hYs k hk).2 ex.size⟩
    · exact ⟨by omega, hk.2⟩
set_option maxRecDepth 100000 in
theorem radd_sl {w : World} {q : Nat} {ss : List So} {Y : Nat → Prop} {B : Nat} {x : Sh} {ax : Option Addr} {nx cx : Nat} (h : RqV w q ss Y B) (hs : ss.length < 100000) (hb : Lz w B ax nx cx x.l) : Calls Tryd.prog 25 #[.pointer (some ⟨q, 0, none⟩), .slice ax nx cx] w fun e w' => e = .returned (.int .i64 (low ss : Int)) ∧ RqV w' q (addS ss x) (gX Y w w') B ∧ Ex Y w w' := by
  obtain ⟨lv, tv, vs, h, hY, hYs, hBs⟩ := h
  obtain ⟨la, lc, rfl⟩ := ownsS_shape h.row
  obtain ⟨ta, tc, rfl⟩ := ownsS_shape h.tk
  have c0 := h.c0
  have c1 := h.c1
  have HR := Lib.hid h
  have HB := Lib.hid hb
  have hlow := low_le ss
  clear h hb
  go_enter Tryd.func25, Tryd.ntmps25
  go_wp2_with fail
  go_loopw [5] (fun v5 wr => ∃ j : Nat, v5 = .int .i64 (j : Int) ∧ j ≤ low ss ∧ w = wr) (fun v5 _ => ss.length - (intOf v5).toNat)
  case atStart => exact ⟨0, rfl, Nat.zero_le _, rfl⟩
  case round =>
    obtain ⟨j, rfl, hj, rfl⟩ := hrel
    by_cases hjn : j < ss.length
    · have tj : (j : Int) < (ss.length : Int) := by omega
      have tj0 : (0 : Int) ≤ (j : Int) := by omega
      have ej : IntKind.i64.wrap ((j : Int) + 1) = ((j + 1 : Nat) : Int) := by rw [i64_small (by omega) (by omega)]; omega
      obtain ⟨r, rc2, e, _⟩ := ownsS_some HR.out.row (by omega)
      injection e with e1 e2 e3
      subst e1 e3
      obtain ⟨t, tc2, e, _⟩ := ownsS_some HR.out.tk (by omega)
      injection e with e1 e2 e3
      subst e1 e3
      obtain ⟨⟨v0, r0⟩, z0, r1, z1, n1, n2, n3⟩ := HR.out.cells j hjn
      by_cases hjl : j < low ss
      · rw [low_taken ss j hjl] at r1
        go_wp2_with fail
        go_roundw
        case rel => first | exact ⟨j + 1, rfl, hjl, trivial⟩ | exact ⟨j + 1, rfl, hjl, rfl⟩ | exact ⟨j + 1, by rw [ej], hjl, rfl⟩
        case measure =>
          simp [intOf]
          omega
      · obtain rfl : j = low ss := by omega
        rw [low_free ss hjn] at r1
        have hYr := hY r (Or.inr (Or.inl rfl))
        have hYt := hY t (Or.inr (Or.inr rfl))
        have hP := HR.out.turn (v := .slice ax nx cx) (e' := ⟨true, x⟩) (low ss) hjn ⟨(hYs r hYr).1, (hYs t hYt).1⟩ (fun _ => ⟨ax, nx, cx, rfl, HB.out⟩) rfl
        have d1 : (w.setCell ⟨r, low ss, none⟩ (.slice ax nx cx)).cell? ⟨q, 1, none⟩ = some (.slice (some ⟨t, 0, none⟩) ss.length tc) := (World.cell?_of_block (a := ⟨q, 1, none⟩) (setCell_blk n2)).trans c1
        have d2 : (w.setCell ⟨r, low ss, none⟩ (.slice ax nx cx)).cell? ⟨t, low ss, none⟩ = some (.bool false) := (World.cell?_of_block (a := ⟨t, low ss, none⟩) (setCell_blk n1.symm)).trans r1
        have ea : addS ss x = ss.set (low ss) ⟨true, x⟩ := by unfold addS; rw [if_pos hjn]
        have HP := Lib.hid hP
        have HEA := Lib.hid ea
        clear hP ea
        go_wp2
        go_ret
        refine ⟨rfl, ⟨_, _, _, by rw [HEA.out]; exact HP.out, fun k hk => Or.inl (hY k hk), fun k hk => ?_, by simpa [World.setCell] using hBs⟩, Ex.setCell (X := Y) (Ex.setCell (X := Y) (Ex.refl Y w) (fun _ => hYr) _) (fun _ => hYt) _⟩
        rcases hk with hk | hk
        · simpa [World.setCell] using hYs k hk
        · exact ⟨by omega, hk.2⟩
    · obtain rfl : j = ss.length := by omega
      have hle : low ss = ss.length := by omega
      have tj : ((ss.length : Int) < (ss.length : Int)) = False := by simp
      have ea : addS ss x = ss ++ [⟨true, x⟩] := by unfold addS; rw [if_neg (by omega)]
      have HEA := Lib.hid ea
      have HLE := Lib.hid hle
      clear ea hle
      obtain ⟨i0, hi0, hz0, hz1, hz2⟩ := info_parts Tryd.infoL
      obtain ⟨j0, hj0, jz0, jz1, jz2⟩ := info_parts Tryd.infoB2
      have hown : w.ownsRow 0 23 1 (.slice la ss.length lc) ss.length vs := HR.out.row
      have z0 := HR.out.z 0
      have z1 := HR.out.z 1
      have e1 : IntKind.i64.wrap (((ss.length + 1 : Nat) : Int) - 1) = (ss.length : Int) := by rw [i64_small (by omega) (by omega)]; omega
      go_wp2_with (at_builtin; refine wpListS_append_own rfl _ _ 22 rfl 0 23 i0 (.slice none 0 0) 1 24 Tryd.underlying22 hi0 hz0 hz1 hz2 rfl (by decide) _ _ _ rfl (World.ownsRow.alloc hown _) ⟨w.heap.size, 0, none⟩ 1 1 [.slice ax nx cx] rfl rfl (newR_one _ _ _) (fun u hu => by simp at hu; subst hu; rfl) (by unfold maxLen; omega) (by omega) (Nat.zero_le _) ?_)
      intro v' w5 hown2 hgrow hat
      obtain ⟨a5, cap5, hv⟩ := ownsS_shape hown2
      subst hv
      obtain ⟨hbq, hM⟩ := radd_mid1 HR.out hown2 hgrow (by simpa using hat)
      have x0 := (World.cell?_of_block (a := ⟨q, 0, none⟩) hbq).trans c0
      have x1 := (World.frozen?_of_block (a := ⟨q, 0, none⟩) hbq).trans z0
      have y0 := hM.c0
      have y1 := hM.c1
      have y2 := hM.z 1
      have HM := Lib.hid hM
      have htk := hM.tk
      clear hown2 hgrow hat hbq hM hown
      go_upto_region 9 with fail
      generalize World.setCell w5 _ _ = w6 at *
      clear x0 x1
      go_wp2_with (at_builtin; refine wpListS_append_own rfl _ _ 38 rfl 0 4 j0 (.bool false) 1 1 Tryd.underlying38 hj0 jz0 jz1 jz2 rfl (by decide) _ _ _ rfl (World.ownsRow.alloc htk _) ⟨w6.heap.size, 0, none⟩ 1 1 [.bool true] rfl rfl (newR_one _ _ _) (fun u hu => by simp at hu; subst hu; rfl) (by unfold maxLen; omega) (by omega) (Nat.zero_le _) ?_)
      intro v' w7 hown2 hgrow hat
      obtain ⟨a7, cap7, hv⟩ := ownsS_shape hown2
      subst hv
      obtain ⟨hbq, hc8, hV8, hE8⟩ := radd_mid2 HR.out hs HM.out hY hYs hBs HB.out hown2 hgrow (by simpa using hat)
      have x0 := (World.cell?_of_block (a := ⟨q, 1, none⟩) hbq).trans y1
      have x1 := (World.frozen?_of_block (a := ⟨q, 1, none⟩) hbq).trans y2
      have HV := Lib.hid hV8
      have HE := Lib.hid hE8
      clear hown2 hgrow hat hbq hV8 hE8 htk HM y0 y1 y2
      generalize hn1 : ss.length + 1 = n1 at *
      go_wp2
      go_ret
      exact ⟨by rw [HLE.out]; rfl, by rw [HEA.out]; exact HV.out, HE.out⟩
end Go.Proofs.YtbnmnmbfdfgohaaDoor
