/-
  Going through slots, held against the reference.
-/
import Derived.Test.YtmeljhnmpopkhaaSlRef
namespace Go.Proofs.Ytmeljhnmpopkhaa
open Go.RowKit Go.WideShapes

theorem one_yes {w : World} {b : Nat} {x : Int} (h : w.cell? ⟨b, 0, none⟩ = some (.int .i64 x)) : Calls Try.prog 21 #[.slice (some ⟨b, 0, none⟩) 1 1] w fun e w' => e = .returned (.int .i64 x) ∧ w' = w := by
  go_enter Try.func21, Try.ntmps21
  go_wp2
  go_ret
  exact ⟨rfl, rfl⟩
theorem one_nil (w : World) : Calls Try.prog 21 #[.slice none 0 0] w fun e w' => e = .returned (.int .i64 0) ∧ w' = w := by
  go_enter Try.func21, Try.ntmps21
  go_wp2
  go_ret
  exact ⟨rfl, rfl⟩
/-- What goes keeps of its way. -/
structure Gs (W : World) (A D q : Nat) (stop : Int) (lval : Value) (m : Nat) (over : Bool) : Prop where
  cw : W.cell? ⟨A, 0, none⟩ = some (.pointer (some ⟨q, 0, none⟩))
  cs : W.cell? ⟨A + 1, 0, none⟩ = some (.int .i64 stop)
  cl : W.cell? ⟨D, 0, none⟩ = some lval
  cn : W.cell? ⟨D + 1, 0, none⟩ = some (.int .i64 (m : Int))
  ck : W.cell? ⟨D + 2, 0, none⟩ = some (.bool true)
  co : W.cell? ⟨D + 3, 0, none⟩ = some (.bool over)
  zn : W.frozen? ⟨D + 1, 0, none⟩ = false
  zk : W.frozen? ⟨D + 2, 0, none⟩ = false
  zo : W.frozen? ⟨D + 3, 0, none⟩ = false
def GX (D k : Nat) : Prop := k = D + 1 ∨ k = D + 2 ∨ k = D + 3
theorem Gs.keep {W W' : World} {A D q : Nat} {stop : Int} {lval : Value} {m : Nat} {over : Bool} (h : Gs W A D q stop lval m over) (hb : Below W.heap.size W W') : Gs W' A D q stop lval m over :=
  ⟨(hb.cell (lt_of_cell h.cw)).trans h.cw, (hb.cell (lt_of_cell h.cs)).trans h.cs, (hb.cell (lt_of_cell h.cl)).trans h.cl, (hb.cell (lt_of_cell h.cn)).trans h.cn, (hb.cell (lt_of_cell h.ck)).trans h.ck, (hb.cell (lt_of_cell h.co)).trans h.co, (World.frozen?_of_block (hb.block _ (lt_of_cell h.cn))).trans h.zn, (World.frozen?_of_block (hb.block _ (lt_of_cell h.ck))).trans h.zk, (World.frozen?_of_block (hb.block _ (lt_of_cell h.co))).trans h.zo⟩
theorem cell_far {w : World} {g i h : Nat} {v : Value} (e : g ≠ h) : (w.setCell ⟨h, 0, none⟩ v).cell? ⟨g, i, none⟩ = w.cell? ⟨g, i, none⟩ := World.cell?_of_block (a := ⟨g, i, none⟩) (setCell_blk e)
theorem Gs.step {W : World} {A D q : Nat} {stop : Int} {lval : Value} {m : Nat} {over : Bool} (h : Gs W A D q stop lval m over) (hA : A + 1 < D) (over' : Bool) : Gs (((W.setCell ⟨D + 2, 0, none⟩ (.bool true)).setCell ⟨D + 1, 0, none⟩ (.int .i64 ((m + 1 : Nat) : Int))).setCell ⟨D + 3, 0, none⟩ (.bool over')) A D q stop lval (m + 1) over' := by
  refine ⟨?_, ?_, ?_, ?_, ?_, ?_, ?_, ?_, ?_⟩
  · rw [cell_far (by omega), cell_far (by omega), cell_far (by omega)]; exact h.cw
  · rw [cell_far (by omega), cell_far (by omega), cell_far (by omega)]; exact h.cs
  · rw [cell_far (by omega), cell_far (by omega), cell_far (by omega)]; exact h.cl
  · rw [cell_far (by omega)]; exact setCell_hit (u := .int .i64 (m : Int)) (by rw [cell_far (by omega)]; exact h.cn)
  · rw [cell_far (by omega), cell_far (by omega)]; exact setCell_hit h.ck
  · exact setCell_hit (u := .bool over) (by rw [cell_far (by omega), cell_far (by omega)]; exact h.co)
  · rw [World.frozen?_setCell, World.frozen?_setCell, World.frozen?_setCell]; exact h.zn
  · rw [World.frozen?_setCell, World.frozen?_setCell, World.frozen?_setCell]; exact h.zk
  · rw [World.frozen?_setCell, World.frozen?_setCell, World.frozen?_setCell]; exact h.zo
set_option maxRecDepth 100000 in
theorem goes1_any {W : World} {A D q lb n cap r N c b m : Nat} {stop v : Int} {i : Nat} (h : Gs W A D q stop (.slice (some ⟨lb, 0, none⟩) n cap) m false) (hA : A + 1 < D) (hm : m < n) (hn : n ≤ 100000)
    (h1 : W.cell? ⟨lb, m, none⟩ = some (.int .i64 (i : Int))) (h2 : W.cell? ⟨q, 0, none⟩ = some (.slice (some ⟨r, 0, none⟩) N c)) (hi : i < N) (h3 : W.cell? ⟨r, i, none⟩ = some (.slice (some ⟨b, 0, none⟩) 1 1)) (h4 : W.cell? ⟨b, 0, none⟩ = some (.int .i64 v)) :
    Calls Try.prog 26 #[.int .i64 (i : Int), .int .i64 v, .pointer (some ⟨D + 2, 0, none⟩), .pointer (some ⟨D + 3, 0, none⟩), .pointer (some ⟨D + 1, 0, none⟩), .pointer (some ⟨D, 0, none⟩), .pointer (some ⟨A, 0, none⟩), .pointer (some ⟨A + 1, 0, none⟩)] W fun e w' =>
      e = .returned (.bool (!decide (((m + 1 : Nat) : Int) = stop))) ∧ Gs w' A D q stop (.slice (some ⟨lb, 0, none⟩) n cap) (m + 1) (decide (((m + 1 : Nat) : Int) = stop)) ∧ Ex (GX D) W w' := by
  have C1 := one_yes h4
  have k1 := h.cw
  have k2 := h.cs
  have k3 := h.cl
  have k4 := h.cn
  have k5 := h.ck
  have k6 := h.co
  have z1 := h.zn
  have z2 := h.zk
  have z3 := h.zo
  have t1 : (m : Int) < (n : Int) := by omega
  have t2 : (0 : Int) ≤ (m : Int) := by omega
  have t3 : (i : Int) < (N : Int) := by omega
  have t4 : (0 : Int) ≤ (i : Int) := by omega
  have e1 : IntKind.i64.wrap ((m : Int) + 1) = ((m + 1 : Nat) : Int) := by rw [i64_small (by omega) (by omega)]; omega
  have HS := Lib.hid h
  clear h
  generalize hm1 : m + 1 = m1 at *
  generalize hD1 : D + 1 = D1 at *
  generalize hD2 : D + 2 = D2 at *
  generalize hD3 : D + 3 = D3 at *
  generalize hA1 : A + 1 = A1 at *
  have n1 : ¬ D1 = D2 := by omega
  have n2 : ¬ D1 = D3 := by omega
  have n3 : ¬ D2 = D3 := by omega
  have n4 : ¬ A1 = D2 := by omega
  have n5 : ¬ A1 = D1 := by omega
  have n6 : ¬ D2 = D1 := by omega
  have n7 : ¬ D3 = D1 := by omega
  have n8 : ¬ D3 = D2 := by omega
  go_enter Try.func26, Try.ntmps26
  go_wp2_with fail
  refine C1.mono ?_
  rintro e w1 ⟨rfl, rfl⟩
  clear C1
  go_wp2
  go_ret
  subst hm1 hD1 hD2 hD3 hA1
  refine ⟨rfl, HS.out.step hA _, ?_⟩
  exact (((Ex.refl (GX D) w1).setCell (fun _ => Or.inr (Or.inl rfl)) _).setCell (fun _ => Or.inl rfl) _).setCell (fun _ => Or.inr (Or.inr rfl)) _
/-- A row of slots that can be read. -/
def Rd2 (w : World) (v : Value) (ss : List So) : Prop := ∃ B, w.ownsRow B 60 2 v ss.length (sol ss)
theorem Rd2.keep {w w' : World} {v : Value} {ss : List So} (h : Rd2 w v ss) (e : ∀ k, v.ownBlock = some k → k < w.heap.size → w'.heap[k]? = w.heap[k]?) : Rd2 w' v ss := by
  obtain ⟨B, h⟩ := h
  exact ⟨B, ownsS_same h (fun k hk => e k hk (World.ownsRow.lt h k hk).2)⟩
theorem Rd2.sr {w : World} {v : Value} {ss : List So} (h : Rd2 w v ss) : Sr2 w v ss := by
  obtain ⟨B, h⟩ := h
  refine ⟨h.1, ?_⟩
  rcases h.2 with h0 | ⟨g, cap, cur, e, h1, h2⟩
  · exact .inl h0
  · exact .inr ⟨g, cap, cur, e, Nat.zero_le _, h2⟩
/-- The function that goes through slots, and the one that is handed to it. -/
def itV (t : Nat) : Value := .func (.func 25) #[] #[.pointer (some ⟨t, 0, none⟩)]
def yiV (A D : Nat) : Value := .func (.func 26) #[] #[.pointer (some ⟨D + 2, 0, none⟩), .pointer (some ⟨D + 3, 0, none⟩), .pointer (some ⟨D + 1, 0, none⟩), .pointer (some ⟨D, 0, none⟩), .pointer (some ⟨A, 0, none⟩), .pointer (some ⟨A + 1, 0, none⟩)]
set_option maxRecDepth 100000 in
theorem all1_goes {W : World} {A D q t : Nat} {stop : Int} {rv lval lv tv : Value} {ss : List So} {vs : List Value} {Z : Nat → Prop} (hg : Gs W A D q stop lval 0 false) (hA : A + 1 < D) (ht : W.cell? ⟨t, 0, none⟩ = some rv) (hr : Rd2 W rv ss) (hq : Rq W q ss lv tv vs Z) (hl : IntsR 0 W lval (ixp ss ss.length))
    (hx : ∀ k, GX D k → k ≠ t ∧ rv.ownBlock ≠ some k ∧ ¬ RX q lv tv k ∧ ¬ Z k ∧ lval.ownBlock ≠ some k) (hz : ∀ k, Z k → k < W.heap.size) :
    Calls Try.prog 25 #[yiV A D, .pointer (some ⟨t, 0, none⟩)] W fun e w' => e = .returned (.tuple #[]) ∧ Ex (GX D) W w' ∧ ∃ m over, Gs w' A D q stop lval m over ∧ ((over = false ∧ m = (ixp ss ss.length).length) ∨ (over = true ∧ (m : Int) = stop ∧ 0 < m)) := by
  obtain ⟨ra, rc, rfl⟩ := ownsS_shape hr.sr
  obtain ⟨la, lc, rfl⟩ := ownsS_shape hl
  have hsm := hq.sm
  have HG := Lib.hid hg
  have HR := Lib.hid hr
  have HQ := Lib.hid hq
  have HL := Lib.hid hl
  have HX := Lib.hid hx
  have HZ := Lib.hid hz
  have hil := ixp_le ss ss.length
  clear hg hr hq hl hx hz
  unfold yiV
  go_enter Try.func25, Try.ntmps25
  go_wp2_with fail
  go_loopw [3, 4, 7] (fun _ _ v7 wr => ∃ j : Nat, j ≤ ss.length ∧ v7 = .int .i64 (j : Int) ∧ Gs wr A D q stop (.slice la (ixp ss ss.length).length lc) (ixp ss j).length false ∧ Ex (GX D) W wr) (fun _ _ v7 _ => ss.length - (intOf v7).toNat)
  case atStart => exact ⟨0, Nat.zero_le _, rfl, HG.out, Ex.refl _ _⟩
  case round =>
    clear HG
    obtain ⟨j, hj, rfl, hG, hE⟩ := hrel
    have HG := Lib.hid hG
    have HE := Lib.hid hE
    by_cases hjl : j < ss.length
    · have tj : (j : Int) < (ss.length : Int) := by omega
      have tj0 : (0 : Int) ≤ (j : Int) := by omega
      have ej : IntKind.i64.wrap ((j : Int) + 1) = ((j + 1 : Nat) : Int) := by rw [i64_small (by omega) (by omega)]; omega
      obtain ⟨r, rc2, e, hrlt⟩ := ownsS_some HR.out.sr (by omega)
      injection e with e1 e2 e3
      subst e1 e3
      have hrb := hE.block r hrlt (fun h => (HX.out r h).2.1 rfl)
      have r0 := (World.cell?_of_block (a := ⟨r, j * 2, none⟩) hrb).trans (HR.out.sr.c0 j hjl)
      have r1 := (World.cell?_of_block (a := ⟨r, j * 2 + 1, none⟩) hrb).trans (HR.out.sr.c1 j hjl)
      have hix := ixp_succ ss j
      clear hG hE
      cases hT : (nts ss j).taken
      · rw [hT] at r0 hix
        simp only [Bool.false_eq_true, if_false, List.append_nil] at hix
        have HIX := Lib.hid hix
        clear hix
        generalize (nts ss j).has = x at *
        have hbe : Below wr.heap.size wr (wr.alloc (.cells #[.bool false, .int .i64 x] 60)) := (Below.refl _ wr).alloc (Nat.le_refl _) _
        have HG2 := Lib.hid (HG.out.keep hbe)
        have HE2 := Lib.hid (HE.out.trans (ex_of hbe))
        clear hbe
        go_wp2_with fail
        go_roundw
        case rel => exact ⟨j + 1, by omega, rfl, by rw [HIX.out]; exact HG2.out, HE2.out⟩
        case measure =>
          simp [intOf]
          omega
      · rw [hT] at r0 hix
        simp only [if_true] at hix
        have HIX := Lib.hid hix
        clear hix
        have hq1 : Rq wr q ss lv tv vs Z := HQ.out.same (fun k hk => by
          have hkl : k < W.heap.size := by
            rcases hk with (hk | hk | hk) | hk
            · rw [hk]; exact lt_of_cell HQ.out.c0
            · exact (World.ownsRow.lt HQ.out.row k hk).2
            · exact (World.ownsRow.lt HQ.out.tk k hk).2
            · exact HZ.out k hk
          refine HE.out.block k hkl (fun hx => ?_)
          rcases hk with hk | hk
          · exact (HX.out k hx).2.2.1 hk
          · exact (HX.out k hx).2.2.2.1 hk)
        obtain ⟨b, hZb, hvb, hcb⟩ := hq1.val j hjl hT
        obtain ⟨rr, rrc, rfl, hrrlt⟩ := ownsS_some hq1.row (by omega)
        have hrc : wr.cell? ⟨rr, j, none⟩ = some (.slice (some ⟨b, 0, none⟩) 1 1) := by rw [hq1.row.cellAt j (by omega)]; exact hvb
        have hqc := hq1.c0
        have hml := ixp_len ss j ss.length hjl hT
        obtain ⟨a5, c5, lb, e5, _, h5⟩ := IntsR.open HL.out
        injection e5 with e51 e52 e53
        subst e51 e53
        obtain ⟨rfl, hlb, _, hlc, _⟩ := h5 (by omega)
        have hlm := hlc (ixp ss j).length hml
        have hlm2 := (World.cell?_of_block (a := ⟨lb, (ixp ss j).length, none⟩) (HE.out.block lb hlb (fun h => (HX.out lb h).2.2.2.2 rfl))).trans hlm
        have hat := ixp_at ss j ss.length hjl hT
        rw [hat] at hlm2
        simp only [Option.getD_some] at hlm2
        have hix2 : (ixp ss (j + 1)).length = (ixp ss j).length + 1 := by rw [HIX.out]; simp
        have HLEN := Lib.hid hix2
        clear hq1 hlc hlm hat h5 hix2 hvb
        generalize hx : (nts ss j).has = x at *
        generalize hM : (ixp ss j).length = m at *
        generalize hN : (ixp ss ss.length).length = n at *
        have hbe : Below wr.heap.size wr (wr.alloc (.cells #[.bool true, .int .i64 x] 60)) := (Below.refl _ wr).alloc (Nat.le_refl _) _
        have C1 := goes1_any (i := j) (HG.out.keep hbe) hA (by omega) (by omega) ((hbe.cell (lt_of_cell hlm2)).trans hlm2) ((hbe.cell (lt_of_cell hqc)).trans hqc) (by omega) ((hbe.cell (lt_of_cell hrc)).trans hrc) ((hbe.cell (lt_of_cell hcb)).trans hcb)
        have HE2 := Lib.hid (HE.out.trans (ex_of hbe))
        clear hbe hlm2 hqc hrc hcb
        have hcp : wr.heap.size < (wr.alloc (.cells #[.bool true, .int .i64 x] 60)).heap.size := by simp
        go_wp2_with fail
        refine C1.mono ?_
        rintro e w3 ⟨rfl, hG3, hE3⟩
        clear C1 hcp
        have HG3 := Lib.hid hG3
        have HE3 := Lib.hid (HE2.out.trans hE3)
        clear hG3 hE3 HE2
        generalize hm1 : m + 1 = m1 at *
        by_cases hst : (m1 : Int) = stop
        · have td : decide ((m1 : Int) = stop) = true := by simp [hst]
          rw [td] at HG3 ⊢
          have HST := Lib.hid hst
          clear hst td
          go_wp2
          refine bodyPost_ret (results_none rfl _ _ _) rfl ?_
          subst hN
          exact ⟨rfl, HE3.out, m1, true, HG3.out, Or.inr ⟨rfl, HST.out, by omega⟩⟩
        · have td : decide ((m1 : Int) = stop) = false := by simp [hst]
          rw [td] at HG3 ⊢
          clear hst td
          go_wp2_with fail
          go_roundw
          case rel => exact ⟨j + 1, by omega, rfl, by rw [HLEN.out]; exact HG3.out, HE3.out⟩
          case measure =>
            simp [intOf]
            omega
    · obtain rfl : j = ss.length := by omega
      have tj : ((ss.length : Int) < (ss.length : Int)) = False := by simp
      clear hG hE
      go_wp2
      go_end0
      exact ⟨rfl, HE.out, _, false, HG.out, Or.inl ⟨rfl, rfl⟩⟩
theorem IntsR.base {B : Nat} {w : World} {v : Value} {l : List Int} (h : IntsR B w v l) : IntsR 0 w v l := by
  refine ⟨h.1, ?_⟩
  rcases h.2 with h0 | ⟨g, cap, cur, e, h1, h2⟩
  · exact .inl h0
  · exact .inr ⟨g, cap, cur, e, Nat.zero_le _, h2⟩
/-- The world as goes lays its variables. -/
theorem gs_new {w1 : World} {A q : Nat} {stop : Int} {lval : Value} (hw : w1.cell? ⟨A, 0, none⟩ = some (.pointer (some ⟨q, 0, none⟩))) (hs : w1.cell? ⟨A + 1, 0, none⟩ = some (.int .i64 stop)) {t27 t3 t4 : TypeId} :
    Gs ((((w1.alloc (.cells #[lval] t27)).alloc (.cells #[.int .i64 0] t3)).alloc (.cells #[.bool true] t4)).alloc (.cells #[.bool false] t4)) A w1.heap.size q stop lval 0 false := by
  have s0 : A < w1.heap.size := lt_of_cell hw
  have s1 : A + 1 < w1.heap.size := lt_of_cell hs
  have hp : ∀ (w : World) (o : Obj) (a : Addr), a.block < w.heap.size → (w.alloc o).cell? a = w.cell? a := fun w o a h => World.cell?_of_block (Below.heap_alloc _ _ _ h)
  have hf : ∀ (w : World) (o : Obj) (a : Addr), a.block < w.heap.size → (w.alloc o).frozen? a = w.frozen? a := fun w o a h => World.frozen?_of_block (Below.heap_alloc _ _ _ h)
  have hn : ∀ (w : World) (v : Value) (t : TypeId), (w.alloc (.cells #[v] t)).cell? ⟨w.heap.size, 0, none⟩ = some v := fun w v t => by rw [World.cell?_alloc_at _ _ _ _ rfl]; rfl
  have hz : ∀ (w : World) (v : Value) (t : TypeId), (w.alloc (.cells #[v] t)).frozen? ⟨w.heap.size, 0, none⟩ = false := fun w v t => World.frozen?_alloc_at _ _ _ _ rfl
  have e2 : (w1.alloc (.cells #[lval] t27)).heap.size = w1.heap.size + 1 := by simp
  have e3 : ((w1.alloc (.cells #[lval] t27)).alloc (.cells #[.int .i64 0] t3)).heap.size = w1.heap.size + 2 := by simp
  have e4 : (((w1.alloc (.cells #[lval] t27)).alloc (.cells #[.int .i64 0] t3)).alloc (.cells #[.bool true] t4)).heap.size = w1.heap.size + 3 := by simp
  refine ⟨?_, ?_, ?_, ?_, ?_, ?_, ?_, ?_, ?_⟩
  · rw [hp _ _ _ (by rw [e4]; show A < _; omega), hp _ _ _ (by rw [e3]; show A < _; omega), hp _ _ _ (by rw [e2]; show A < _; omega), hp _ _ _ (by show A < _; omega)]; exact hw
  · rw [hp _ _ _ (by rw [e4]; show A + 1 < _; omega), hp _ _ _ (by rw [e3]; show A + 1 < _; omega), hp _ _ _ (by rw [e2]; show A + 1 < _; omega), hp _ _ _ (by show A + 1 < _; omega)]; exact hs
  · rw [hp _ _ _ (by rw [e4]; show w1.heap.size < _; omega), hp _ _ _ (by rw [e3]; show w1.heap.size < _; omega), hp _ _ _ (by rw [e2]; show w1.heap.size < _; omega)]; exact hn w1 lval t27
  · rw [hp _ _ _ (by rw [e4]; show w1.heap.size + 1 < _; omega), hp _ _ _ (by rw [e3]; show w1.heap.size + 1 < _; omega)]
    have := hn (w1.alloc (.cells #[lval] t27)) (.int .i64 0) t3
    rw [e2] at this
    exact this
  · rw [hp _ _ _ (by rw [e4]; show w1.heap.size + 2 < _; omega)]
    have := hn ((w1.alloc (.cells #[lval] t27)).alloc (.cells #[.int .i64 0] t3)) (.bool true) t4
    rw [e3] at this
    exact this
  · have := hn (((w1.alloc (.cells #[lval] t27)).alloc (.cells #[.int .i64 0] t3)).alloc (.cells #[.bool true] t4)) (.bool false) t4
    rw [e4] at this
    exact this
  · rw [hf _ _ _ (by rw [e4]; show w1.heap.size + 1 < _; omega), hf _ _ _ (by rw [e3]; show w1.heap.size + 1 < _; omega)]
    have := hz (w1.alloc (.cells #[lval] t27)) (.int .i64 0) t3
    rw [e2] at this
    exact this
  · rw [hf _ _ _ (by rw [e4]; show w1.heap.size + 2 < _; omega)]
    have := hz ((w1.alloc (.cells #[lval] t27)).alloc (.cells #[.int .i64 0] t3)) (.bool true) t4
    rw [e3] at this
    exact this
  · have := hz (((w1.alloc (.cells #[lval] t27)).alloc (.cells #[.int .i64 0] t3)).alloc (.cells #[.bool true] t4)) (.bool false) t4
    rw [e4] at this
    exact this
end Go.Proofs.Ytmeljhnmpopkhaa
