/-
  SlotsLowest: its walk.
-/
import Derived.Test.YtmeljhnmpopkhaaSlAwake
import Derived.Test.YtmeljhnmpopkhaaLwInts
import Derived.Deep.RegionHeld3
import Derived.Deep.CutRange
namespace Go.Proofs.Ytmeljhnmpopkhaa
open Go.RowKit Go.WideShapes

/-- How the law stands. -/
structure LowI (w wr : World) (g : Nat) (ss : List So) (tv : Value) (ts : List Bool) (X : Nat → Prop) : Prop where
  sl : SlV wr g ss X
  ge : ∀ k, X k → w.heap.size ≤ k
  rw : wr.ownsRow w.heap.size 4 1 tv ts.length (ts.map fun b => Value.bool b)
  ap : ∀ k, tv.ownBlock = some k → ¬ X k
  be : Below w.heap.size w wr
theorem LowI.append {w wr w5 : World} {g : Nat} {ss : List So} {tv tv' : Value} {ts : List Bool} {X : Nat → Prop} {o : Obj} (h : LowI w wr g ss tv ts X) (hown : w5.ownsRow w.heap.size 4 1 tv' (ts.length + 1) ((ts.map fun b => Value.bool b) ++ [.bool false])) (hg : (wr.alloc o).grownBy w5 tv.ownBlock) (hat : tv'.ownBlock = tv.ownBlock ∨ tv'.ownBlock = some (wr.heap.size + 1)) : LowI w w5 g ss tv' (ts ++ [false]) X := by
  have hsz : (wr.alloc o).heap.size = wr.heap.size + 1 := by simp
  have hs5 : wr.heap.size ≤ w5.heap.size := by have := hg.size; omega
  have hx : ∀ k, X k → k < wr.heap.size := by
    obtain ⟨rv, fv, n, f, _, _, h3⟩ := h.sl
    exact h3
  have ex5 : Ex (fun k => tv.ownBlock = some k) wr w5 := ⟨hg.os, hg.tape, hg.output, hs5, fun k hk hne => (hg.block k (by omega) (fun e => hne e.symm)).trans (Below.heap_alloc _ _ _ hk)⟩
  refine ⟨h.sl.keep ex5 (fun k hk e => h.ap k e hk), h.ge, by simpa using hown, fun k hk hX => ?_, h.be.trans (ex5.below (fun k hk => (World.ownsRow.lt h.rw k hk).1) h.be.size)⟩
  rcases hat with e | e
  · exact h.ap k (by rw [← e]; exact hk) hX
  · rw [e] at hk
    injection hk with hk
    have := hx k hX
    omega
theorem LowI.len {w wr : World} {g tb n cap : Nat} {ss : List So} {ts : List Bool} {X : Nat → Prop} (h : LowI w wr g ss (.slice (some ⟨tb, 0, none⟩) n cap) ts X) : n = ts.length := by
  rcases h.rw.2 with ⟨e, _⟩ | ⟨g', cap', cur, e, _⟩
  · cases e
  · cases e
    rfl
theorem LowI.put {w wr : World} {g tb n cap : Nat} {ss : List So} {ts : List Bool} {X : Nat → Prop} (h : LowI w wr g ss (.slice (some ⟨tb, 0, none⟩) n cap) ts X) (j : Nat) (b : Bool) : LowI w (wr.setCell ⟨tb, j, none⟩ (.bool b)) g ss (.slice (some ⟨tb, 0, none⟩) n cap) (ts.set j b) X := by
  obtain rfl := h.len
  have h1 := (h.rw.stored j (.bool b)).1
  have hb : Ex (fun k => k = tb) wr (wr.setCell ⟨tb, j, none⟩ (.bool b)) := Ex.setCell (X := fun k => k = tb) (p := ⟨tb, j, none⟩) (Ex.refl _ wr) (fun _ => rfl) _
  have htb := (World.ownsRow.lt h.rw tb rfl).1
  refine ⟨h.sl.keep hb (fun k hk e => h.ap k (by rw [e]; rfl) hk), h.ge, ?_, h.ap, h.be.trans (hb.below (fun k hk => by omega) h.be.size)⟩
  rw [List.map_set, List.length_set]
  exact h1
theorem LowI.turn {w wr w' : World} {g : Nat} {ss ss' : List So} {tv : Value} {ts : List Bool} {X : Nat → Prop} (h : LowI w wr g ss tv ts X) (h1 : SlV w' g ss' (gX X wr w')) (x : Ex X wr w') : LowI w w' g ss' tv ts (gX X wr w') := by
  refine ⟨h1, fun k hk => ?_, ownsS_same h.rw (fun k hk => x.block k (World.ownsRow.lt h.rw k hk).2 (h.ap k hk)), fun k hk hX => ?_, h.be.trans (x.below h.ge h.be.size)⟩
  · rcases hk with hk | hk
    · exact h.ge k hk
    · have := h.be.size
      omega
  · rcases hX with hX | hX
    · exact h.ap k hk hX
    · have := (World.ownsRow.lt h.rw k hk).2
      omega
theorem LowI.drewN {w wr : World} {g : Nat} {ss : List So} {tv : Value} {ts : List Bool} {X : Nat → Prop} (h : LowI w wr g ss tv ts X) (m : Nat) : LowI w (wr.drewN m) g ss tv ts X := by
  induction m with
  | zero => exact h
  | succ m ih => exact ⟨ih.sl.drewN 1, ih.ge, ih.rw, ih.ap, ih.be.drew⟩
theorem LowI.cell {w wr : World} {g tb n cap : Nat} {ss : List So} {ts : List Bool} {X : Nat → Prop} (h : LowI w wr g ss (.slice (some ⟨tb, 0, none⟩) n cap) ts X) (j : Nat) (hj : j < ts.length) : wr.cell? ⟨tb, j, none⟩ = some (.bool (ts.getD j false)) := by
  obtain rfl := h.len
  rw [h.rw.cellAt j (by omega)]
  simp [hj]
theorem LowI.frozen {w wr : World} {g tb n cap : Nat} {ss : List So} {ts : List Bool} {X : Nat → Prop} (h : LowI w wr g ss (.slice (some ⟨tb, 0, none⟩) n cap) ts X) (j : Nat) : wr.frozen? ⟨tb, j, none⟩ = false := by
  obtain rfl := h.len
  exact h.rw.frozenAt j
theorem LowI.opened {w wr : World} {g n cap : Nat} {a : Option Addr} {ss : List So} {ts : List Bool} {X : Nat → Prop} (h : LowI w wr g ss (.slice a n cap) ts X) (hn : 0 < n) : ∃ tb, a = some ⟨tb, 0, none⟩ := by
  rcases h.rw.2 with ⟨e, _⟩ | ⟨g', cap', cur, e, _⟩
  · cases e
    omega
  · cases e
    exact ⟨_, rfl⟩
/-- Which slots are taken. -/
def tks (ss : List So) : List Bool := ss.map (·.taken)
theorem tks_len (ss : List So) : (tks ss).length = ss.length := by simp [tks]
theorem tks_get (ss : List So) (j : Nat) (_ : j < ss.length) : (tks ss).getD j false = (nts ss j).taken := by
  simp [tks, nts, List.getD_eq_getElem?_getD, List.getElem?_map]
  cases ss[j]? <;> rfl
theorem tks_set (ss : List So) (j : Nat) (e : So) : tks (ss.set j e) = (tks ss).set j e.taken := by simp [tks, List.map_set]
theorem Try.infoB : (Try.prog.info? 4).map (fun i => (i.zero, i.size, i.bytes)) = some (some (.bool false), 1, 1) := by kernel_rfl
theorem cntS_all (ss : List So) (h : low ss = ss.length) : cntS ss = ss.length := by
  induction ss with
  | nil => rfl
  | cons e r ih =>
    rw [low] at h
    split at h
    · rename_i he
      rw [cntS, if_pos he, ih (by simpa using h), List.length_cons]
      omega
    · simp at h
theorem cntS_addS (ss : List So) (v : Int) : cntS (addS ss v) = cntS ss + 1 := by
  unfold addS
  split
  · rename_i h
    have := cntS_set ss (low ss) h ⟨true, v⟩
    rw [low_free ss h] at this
    simpa using this
  · rw [cntS_app]
    simp [cntS]
theorem lens_addS (ss : List So) (v : Int) : (addS ss v).length = if low ss < ss.length then ss.length else ss.length + 1 := by
  unfold addS
  split <;> simp
theorem cntS_low (ss : List So) (h : low ss < ss.length) : cntS ss + 1 ≤ ss.length := by
  have := cntS_set ss (low ss) h ⟨true, 0⟩
  rw [low_free ss h] at this
  have h2 := cntS_le (ss.set (low ss) ⟨true, 0⟩)
  simp at this h2
  omega
theorem tks_add (ss : List So) (v : Int) : tks (addS ss v) = if low ss < ss.length then (tks ss).set (low ss) true else tks ss ++ [true] := by
  unfold addS
  split
  · rw [tks_set]
  · simp [tks]
theorem drewN_drew (w : World) (m : Nat) : (w.drewN m).drew = w.drewN (m + 1) := rfl
set_option maxRecDepth 100000 in
set_option maxHeartbeats 4000000 in
theorem lowest_walk (a0 : Option Addr) (n0 c0 : Nat) (l : List Int) (a1 : Option Addr) (n1 c1 : Nat) (ks : List Int) (w : World) (h0 : SlI w a0 n0 c0 l) (h1 : SlI w a1 n1 c1 ks) :
    Calls Try.prog 6 #[.slice a0 n0 c0, .slice a1 n1 c1] w fun e w' => e = .returned (.bool true) ∧ Below w.heap.size w w' := by
  have CA := awake11_any w
  by_cases hb : n0 ≤ 400 ∧ n1 ≤ 400
  · have t0 : (n0 : Int) ≤ 400 := by omega
    have t1 : (n1 : Int) ≤ 400 := by omega
    have CN := slnew_any w
    have H0 := Lib.hid h0
    have H1 := Lib.hid h1
    have hl0 := h0.1
    have hl1 := h1.1
    clear CA h0 h1
    go_enter Try.func6, Try.ntmps6
    go_wp2_with fail
    refine CN.mono ?_
    rintro e w1 ⟨rfl, hs1, hb1, hz1⟩
    clear CN
    have HI1 : Hid (LowI w w1 w.heap.size [] (.slice none 0 0) (tks []) (fun k => k = w.heap.size)) := ⟨hs1, fun k hk => by omega, ⟨rfl, Or.inl ⟨rfl, rfl⟩⟩, (fun k hk => by cases hk), hb1⟩
    clear hs1 hb1
    go_wp2_with fail
    go_loopw [6, 7, 8, 9, 10, 11] (fun v6 v7 v8 v9 _ _ wr => ∃ (i : Nat) (ss : List So) (X : Nat → Prop), i ≤ n0 ∧ v9 = .int .i64 (i : Int) ∧ v7 = .int .i64 (ss.length : Int) ∧ v8 = .int .i64 (cntS ss : Int) ∧ LowI w wr w.heap.size ss v6 (tks ss) X ∧ ss.length ≤ i) (fun _ _ _ v9 _ _ _ => n0 - (intOf v9).toNat)
    case atStart => exact ⟨0, [], _, Nat.zero_le _, rfl, rfl, rfl, HI1.out, Nat.le_refl _⟩
    case round =>
      clear HI1 hz1
      obtain ⟨i, ss, X, hi, rfl, rfl, rfl, hI, hsi⟩ := hrel
      obtain ⟨ta, tc, rfl⟩ : ∃ ta tc, u6 = .slice ta ss.length tc := by
        obtain ⟨a, c, e⟩ := ownsS_shape hI.rw
        rw [tks_len] at e
        exact ⟨a, c, e⟩
      have HI := Lib.hid hI
      by_cases hin : i < n0
      · have ti : (i : Int) < (n0 : Int) := by omega
        have hcl := cntS_le ss
        have hlow := low_le ss
        clear hI
        go_wp2_with fail
        go_loopw [10] (fun v10 wq => ∃ j : Nat, v10 = .int .i64 (j : Int) ∧ j ≤ low ss ∧ wq = wr) (fun v10 _ => ss.length - (intOf v10).toNat)
        case atStart => exact ⟨0, rfl, Nat.zero_le _, rfl⟩
        case round =>
          obtain ⟨j, rfl, hj, rfl⟩ := hrel
          by_cases hjl : j < low ss
          · obtain ⟨tb, rfl⟩ := HI.out.opened (by omega)
            have r0 := HI.out.cell j (by rw [tks_len]; omega)
            rw [tks_get ss j (by omega), low_taken ss j hjl] at r0
            have tj : (j : Int) < (ss.length : Int) := by omega
            have tj0 : (0 : Int) ≤ (j : Int) := by omega
            have ej : IntKind.i64.wrap ((j : Int) + 1) = ((j + 1 : Nat) : Int) := by rw [i64_small (by omega) (by omega)]; omega
            go_wp2_with fail
            go_roundw
            case rel => first | exact ⟨j + 1, by first | rfl | rw [ej], hjl⟩ | exact hjl | exact ⟨j + 1, rfl, hjl, trivial⟩
            case measure =>
              simp [intOf]
              omega
          · obtain rfl : j = low ss := by omega
            by_cases hc : low ss < ss.length
            · obtain ⟨tb, rfl⟩ := HI.out.opened (by omega)
              have r0 := HI.out.cell (low ss) (by rw [tks_len]; first | omega | (have := HTA.out; omega))
              rw [tks_get ss (low ss) hc, low_free ss hc] at r0
              have z0 := HI.out.frozen (low ss)
              have HI2 := Lib.hid (HI.out.put (low ss) true)
              have tj : ((low ss : Nat) : Int) < (ss.length : Int) := by omega
              have tj0 : (0 : Int) ≤ ((low ss : Nat) : Int) := by omega
              have tj1 : (((low ss : Nat) : Int) = (ss.length : Int)) = False := by simp; omega
              have tj2 : (((low ss : Nat) : Int) == (ss.length : Int)) = false := by simp; omega
              clear HI
              go_upto_region 18 with fail
              generalize World.setCell wr _ _ = w2 at *
              clear r0 z0
              obtain ⟨b0, o0, p0, _, q1, q2⟩ := H0.out.open
              obtain ⟨rfl, hblt⟩ := p0 (by omega)
              have y0 := (HI2.out.be.cell (p := ⟨b0, o0 + i, none⟩) hblt).trans (q2 i hin)
              clear q2 p0
              obtain ⟨x, hx⟩ : ∃ x, l[i]?.getD 0 = x := ⟨_, rfl⟩
              rw [hx] at y0
              have ti0 : (0 : Int) ≤ (i : Int) := by omega
              have CAd := add_sl HI2.out.sl (by omega) x
              have eN : cntS (addS ss x) = cntS ss + 1 := cntS_addS ss x
              have e8 : IntKind.i64.wrap ((cntS ss : Int) + 1) = ((cntS ss + 1 : Nat) : Int) := by rw [i64_small (by omega) (by omega)]; omega
              have HLEN := Lib.hid (lens_addS ss x)
              have hTk : Hid (tks (addS ss x) = (tks ss).set (low ss) true) := by show _ = _; rw [tks_add, if_pos hc]
              generalize hC : cntS ss + 1 = C at *
              have tc1 : ((ss.length : Int) < (C : Int)) = False := by have := cntS_low ss hc; simp; omega
              go_wp2_with fail
              refine CAd.mono ?_
              rintro e w3 ⟨rfl, hs3, ex3⟩
              clear CAd
              have HI3 := Lib.hid (HI2.out.turn hs3 ex3)
              clear hs3 ex3 HI2
              generalize gX X _ w3 = X3 at *
              have CH := high_v HI3.out.sl
              rw [show (addS ss x).length = ss.length by rw [HLEN.out, if_pos hc]] at CH
              go_wp2_with fail
              refine CH.mono ?_
              rintro e w4 ⟨rfl, rfl⟩
              clear CH
              have CL := len_v HI3.out.sl
              rw [eN] at CL
              go_wp2_with fail
              refine CL.mono ?_
              rintro e w5 ⟨rfl, m, rfl⟩
              clear CL
              have HI5 := Lib.hid (HI3.out.drewN m)
              clear HI3
              generalize World.drewN _ m = w5 at *
              rw [← hTk.out] at HI5
              have hz5 := HI5.out.be.size
              have ei : IntKind.i64.wrap ((i : Int) + 1) = ((i + 1 : Nat) : Int) := by rw [i64_small (by omega) (by omega)]; omega
              have hT9' := HI5.out.len
              rw [tks_len] at hT9'
              have HT9 := Lib.hid hT9'
              clear hT9'
              by_cases hf : i < n1
              · have tf : (i : Int) < (n1 : Int) := by omega
                obtain ⟨b1, o1, p1, _, s1, s2⟩ := H1.out.open
                obtain ⟨rfl, hblt1⟩ := p1 (by omega)
                have y1 := (HI5.out.be.cell (p := ⟨b1, o1 + i, none⟩) hblt1).trans (s2 i hf)
                clear s2 p1
                generalize hk0 : ks[i]?.getD 0 = y at *
                by_cases hy : 0 ≤ y
                · have HAL : Hid ((addS ss x).length = ss.length) := by show _ = _; rw [HLEN.out, if_pos hc]
                  generalize hT : ss.length = T at *
                  have hT0 : 0 < T := by omega
                  have hTA : (addS ss x).length = T := by first | exact HAL.out | (rw [HAL.out]; omega) | (have := HT9.out; omega)
                  have HTA := Lib.hid hTA
                  clear hTA
                  obtain ⟨k, hk, hkl⟩ : ∃ k : Nat, y.tmod (T : Int) = (k : Int) ∧ k < T := by
                    have e1 := Int.tmod_nonneg (T : Int) hy
                    have e2 := Int.tmod_lt_of_pos y (show (0 : Int) < (T : Int) by omega)
                    exact ⟨(y.tmod (T : Int)).toNat, by omega, by omega⟩
                  have ek : IntKind.i64.wrap (k : Int) = (k : Int) := i64_small (by omega) (by omega)
                  have tT : ((T : Int) = 0) = False := by simp; omega
                  have tT2 : ((T : Int) == 0) = false := by simp; omega
                  have tk1 : (k : Int) < (T : Int) := by omega
                  have tk0 : (0 : Int) ≤ (k : Int) := by omega
                  have r5 := HI5.out.cell k (by rw [tks_len]; first | omega | (have := HTA.out; omega))
                  rw [tks_get _ k (by have := HTA.out; omega)] at r5
                  have CF := free_sl (HI5.out.drewN 1).sl (k : Int)
                  rw [isT_nat _ k (by have := HTA.out; omega)] at CF
                  have hne5 : ¬ X3 tb := HI5.out.ap tb rfl
                  have htb5 := (World.ownsRow.lt HI5.out.rw tb rfl).2
                  have hFR : Hid (freeS (addS ss x) (k : Int) = if (nts (addS ss x) k).taken then (addS ss x).set k ⟨false, 0⟩ else addS ss x) := by
                    show _ = _
                    unfold freeS
                    rw [isT_nat _ k (by have := HTA.out; omega)]
                    simp
                  have hCN : Hid (cntS ((addS ss x).set k ⟨false, 0⟩) + (if (nts (addS ss x) k).taken then 1 else 0) = cntS (addS ss x) + 0) := cntS_set (addS ss x) k (by have := HTA.out; omega) ⟨false, 0⟩
                  generalize hbb : (nts (addS ss x) k).taken = b at *
                  have d5 : w5.drew.cell? ⟨tb, k, none⟩ = some (.bool b) := r5
                  have hd5 : tb < w5.drew.heap.size := htb5
                  have CF' : Calls Try.prog 18 #[.pointer (some ⟨w.heap.size, 0, none⟩), .int .i64 (k : Int)] w5.drew fun e w' => e = .returned (.bool b) ∧ SlV w' w.heap.size (freeS (addS ss x) (k : Int)) (gX X3 w5.drew w') ∧ Ex X3 w5.drew w' := CF
                  clear CF
                  cases b
                  · go_wp2_with fail
                    go_region_held3 (fun V => V.cell? ⟨tb, k, none⟩ = some (.bool false)) (first | with_reducible exact d5 | with_reducible exact q5 | fail)
                      (first | (go_at_call 18; refine CF'.mono ?_; rintro e w6 ⟨rfl, hs6, ex6⟩; have q5 := (World.cell?_of_block (a := ⟨tb, k, none⟩) (ex6.block tb hd5 hne5)).trans d5) | fail)
                    all_goals
                      have HI6 := Lib.hid ((HI5.out.drewN 1).turn hs6 ex6)
                      have hc6 := HI6.out.cell k (by rw [tks_len]; first | omega | (have := HTA.out; omega))
                      rw [tks_get _ k (by have := HTA.out; omega), hbb] at hc6
                      have hz6 := HI6.out.frozen k
                      have HI7 := Lib.hid (HI6.out.put k false)
                      clear HI5 hs6 ex6 q5 d5 r5 CF' HI6
                      go_wp2_with fail
                      go_roundw
                      case rel =>
                        refine ⟨i + 1, addS ss x, gX X3 (w5.drewN 1) w6, by omega, rfl, by rw [HAL.out], by rw [eN], ?_, by have := HTA.out; omega⟩
                        have h9 := HI7.out
                        rw [hFR.out] at h9
                        simp only [Bool.false_eq_true, if_false] at h9
                        have e9 : (tks (addS ss x)).set k false = tks (addS ss x) := by
                          have h1 : (tks (addS ss x)).getD k false = false := by rw [tks_get _ k (by have := HTA.out; omega), hbb]
                          apply List.ext_getElem?
                          intro j
                          rw [List.getElem?_set]
                          by_cases e : k = j
                          · subst e
                            have hkk : k < (tks (addS ss x)).length := by rw [tks_len]; first | omega | (have := HTA.out; omega)
                            rw [if_pos rfl, if_pos hkk]
                            rw [List.getD_eq_getElem?_getD, List.getElem?_eq_getElem hkk] at h1
                            rw [List.getElem?_eq_getElem hkk]
                            simpa using h1.symm
                          · rw [if_neg e]
                        rw [e9] at h9
                        exact h9
                      case measure =>
                        simp [intOf]
                        omega
                  · go_wp2_with fail
                    go_region_held3 (fun V => V.cell? ⟨tb, k, none⟩ = some (.bool true)) (first | with_reducible exact d5 | with_reducible exact q5 | fail)
                      (first | (go_at_call 18; refine CF'.mono ?_; rintro e w6 ⟨rfl, hs6, ex6⟩; have q5 := (World.cell?_of_block (a := ⟨tb, k, none⟩) (ex6.block tb hd5 hne5)).trans d5) | fail)
                    all_goals
                      have HI6 := Lib.hid ((HI5.out.drewN 1).turn hs6 ex6)
                      have hc6 := HI6.out.cell k (by rw [tks_len]; first | omega | (have := HTA.out; omega))
                      rw [tks_get _ k (by have := HTA.out; omega), hbb] at hc6
                      have hz6 := HI6.out.frozen k
                      have HI7 := Lib.hid (HI6.out.put k false)
                      have e7 : IntKind.i64.wrap ((C : Int) - 1) = (((C - 1 : Nat)) : Int) := by rw [i64_small (by omega) (by omega)]; omega
                      clear HI5 hs6 ex6 q5 d5 r5 CF' HI6
                      go_wp2_with fail
                      go_roundw
                      case rel =>
                        have h9 := HI7.out
                        rw [hFR.out] at h9
                        simp only [if_true] at h9
                        have h8 := hCN.out
                        simp only [if_true] at h8
                        refine ⟨i + 1, (addS ss x).set k ⟨false, 0⟩, gX X3 (w5.drewN 1) w6, by omega, rfl, by rw [List.length_set, HAL.out], by congr 2; omega, ?_, by rw [List.length_set]; have := HTA.out; omega⟩
                        rw [tks_set]
                        exact h9
                      case measure =>
                        simp [intOf]
                        omega
                · have ty : (0 ≤ y) = False := by simp; omega
                  go_wp2_with fail
                  go_roundw
                  case rel => exact ⟨i + 1, addS ss x, X3, by omega, rfl, by rw [show (addS ss x).length = ss.length by rw [HLEN.out, if_pos hc]], by rw [eN], HI5.out, by rw [show (addS ss x).length = ss.length by rw [HLEN.out, if_pos hc]]; omega⟩
                  case measure =>
                    simp [intOf]
                    omega
              · have tf : ((i : Int) < (n1 : Int)) = False := by simp; omega
                go_wp2_with fail
                go_roundw
                case rel => exact ⟨i + 1, addS ss x, X3, by omega, rfl, by rw [show (addS ss x).length = ss.length by rw [HLEN.out, if_pos hc]], by rw [eN], HI5.out, by rw [show (addS ss x).length = ss.length by rw [HLEN.out, if_pos hc]]; omega⟩
                case measure =>
                  simp [intOf]
                  omega
            · have hle : low ss = ss.length := by omega
              obtain ⟨i0, hinf, hz0, hz1, hz2⟩ := info_parts Try.infoB
              have hown : wr.ownsRow w.heap.size 4 1 (.slice ta ss.length tc) ss.length ((tks ss).map fun b => Value.bool b) := by have := HI.out.rw; rw [tks_len] at this; exact this
              have hwr := HI.out.be.size
              have tj : (((low ss : Nat) : Int) < (ss.length : Int)) = False := by simp; omega
              have tj1 : (((low ss : Nat) : Int) = (ss.length : Int)) = True := by simp; omega
              have tj2 : (((low ss : Nat) : Int) == (ss.length : Int)) = true := by simp; omega
              go_wp2_with (at_builtin; refine wpListS_append_own rfl _ _ 33 rfl w.heap.size 4 i0 (.bool false) 1 1 Try.underlying33 hinf hz0 hz1 hz2 rfl (by decide) _ _ _ rfl (World.ownsRow.alloc hown _) ⟨wr.heap.size, 0, none⟩ 1 1 [.bool false] rfl rfl (newR_one _ _ _) (fun u hu => by simp at hu; subst hu; rfl) (by unfold maxLen; omega) (by omega) (by simp; omega) ?_)
              intro v' w7 hown2 hgrow hat
              have hIa := HI.out.append (by rw [tks_len]; exact hown2) hgrow (by simpa using hat)
              obtain ⟨tb, tc5, hv, _⟩ := ownsS_some hown2 (by omega)
              subst hv
              clear HI hown hown2 hgrow hat
              generalize hTL : ss.length + 1 = TL at *
              have r0 := hIa.cell ss.length (by simp [tks_len])
              have z0 := hIa.frozen ss.length
              have HI2 := Lib.hid (hIa.put ss.length true)
              have hset : (tks ss ++ [false]).set ss.length true = tks ss ++ [true] := by
                rw [← tks_len ss, List.set_append_right _ _ (Nat.le_refl _)]
                simp
              rw [hset] at HI2
              have tk9 : (ss.length : Int) < (TL : Int) := by omega
              have tk8 : (0 : Int) ≤ (ss.length : Int) := by omega
              clear hIa
              go_upto_region 18 with fail
              generalize World.setCell w7 _ _ = w2 at *
              clear r0 z0 hset
              obtain ⟨b0, o0, p0, _, q1, q2⟩ := H0.out.open
              obtain ⟨rfl, hblt⟩ := p0 (by omega)
              have y0 := (HI2.out.be.cell (p := ⟨b0, o0 + i, none⟩) hblt).trans (q2 i hin)
              clear q2 p0
              obtain ⟨x, hx⟩ : ∃ x, l[i]?.getD 0 = x := ⟨_, rfl⟩
              rw [hx] at y0
              have ti0 : (0 : Int) ≤ (i : Int) := by omega
              have CAd := add_sl HI2.out.sl (by omega) x
              have eN : cntS (addS ss x) = cntS ss + 1 := cntS_addS ss x
              have e8 : IntKind.i64.wrap ((cntS ss : Int) + 1) = ((cntS ss + 1 : Nat) : Int) := by rw [i64_small (by omega) (by omega)]; omega
              have HLEN := Lib.hid (lens_addS ss x)
              have hTk : Hid (tks (addS ss x) = tks ss ++ [true]) := by show _ = _; rw [tks_add, if_neg hc]
              generalize hC : cntS ss + 1 = C at *
              have hall := cntS_all ss (by omega)
              have tc1 : ((ss.length : Int) < (C : Int)) = True := by simp; omega
              go_wp2_with fail
              refine CAd.mono ?_
              rintro e w3 ⟨rfl, hs3, ex3⟩
              clear CAd
              have HI3 := Lib.hid (HI2.out.turn hs3 ex3)
              clear hs3 ex3 HI2
              generalize gX X _ w3 = X3 at *
              have CH := high_v HI3.out.sl
              rw [show (addS ss x).length = C by rw [HLEN.out, if_neg hc]; omega] at CH
              go_wp2_with fail
              refine CH.mono ?_
              rintro e w4 ⟨rfl, rfl⟩
              clear CH
              have CL := len_v HI3.out.sl
              rw [eN] at CL
              go_wp2_with fail
              refine CL.mono ?_
              rintro e w5 ⟨rfl, m, rfl⟩
              clear CL
              have HI5 := Lib.hid (HI3.out.drewN m)
              clear HI3
              generalize World.drewN _ m = w5 at *
              rw [← hTk.out] at HI5
              have hz5 := HI5.out.be.size
              have ei : IntKind.i64.wrap ((i : Int) + 1) = ((i + 1 : Nat) : Int) := by rw [i64_small (by omega) (by omega)]; omega
              have hT9' := HI5.out.len
              rw [tks_len] at hT9'
              have HT9 := Lib.hid hT9'
              clear hT9'
              by_cases hf : i < n1
              · have tf : (i : Int) < (n1 : Int) := by omega
                obtain ⟨b1, o1, p1, _, s1, s2⟩ := H1.out.open
                obtain ⟨rfl, hblt1⟩ := p1 (by omega)
                have y1 := (HI5.out.be.cell (p := ⟨b1, o1 + i, none⟩) hblt1).trans (s2 i hf)
                clear s2 p1
                generalize hk0 : ks[i]?.getD 0 = y at *
                by_cases hy : 0 ≤ y
                · have HAL : Hid ((addS ss x).length = C) := by show _ = _; rw [HLEN.out, if_neg hc]; omega
                  generalize hT : TL = T at *
                  have hT0 : 0 < T := by omega
                  have hTA : (addS ss x).length = T := by first | exact HAL.out | (rw [HAL.out]; omega) | (have := HT9.out; omega)
                  have HTA := Lib.hid hTA
                  clear hTA
                  obtain ⟨k, hk, hkl⟩ : ∃ k : Nat, y.tmod (T : Int) = (k : Int) ∧ k < T := by
                    have e1 := Int.tmod_nonneg (T : Int) hy
                    have e2 := Int.tmod_lt_of_pos y (show (0 : Int) < (T : Int) by omega)
                    exact ⟨(y.tmod (T : Int)).toNat, by omega, by omega⟩
                  have ek : IntKind.i64.wrap (k : Int) = (k : Int) := i64_small (by omega) (by omega)
                  have tT : ((T : Int) = 0) = False := by simp; omega
                  have tT2 : ((T : Int) == 0) = false := by simp; omega
                  have tk1 : (k : Int) < (T : Int) := by omega
                  have tk0 : (0 : Int) ≤ (k : Int) := by omega
                  have r5 := HI5.out.cell k (by rw [tks_len]; first | omega | (have := HTA.out; omega))
                  rw [tks_get _ k (by have := HTA.out; omega)] at r5
                  have CF := free_sl (HI5.out.drewN 1).sl (k : Int)
                  rw [isT_nat _ k (by have := HTA.out; omega)] at CF
                  have hne5 : ¬ X3 tb := HI5.out.ap tb rfl
                  have htb5 := (World.ownsRow.lt HI5.out.rw tb rfl).2
                  have hFR : Hid (freeS (addS ss x) (k : Int) = if (nts (addS ss x) k).taken then (addS ss x).set k ⟨false, 0⟩ else addS ss x) := by
                    show _ = _
                    unfold freeS
                    rw [isT_nat _ k (by have := HTA.out; omega)]
                    simp
                  have hCN : Hid (cntS ((addS ss x).set k ⟨false, 0⟩) + (if (nts (addS ss x) k).taken then 1 else 0) = cntS (addS ss x) + 0) := cntS_set (addS ss x) k (by have := HTA.out; omega) ⟨false, 0⟩
                  generalize hbb : (nts (addS ss x) k).taken = b at *
                  have d5 : w5.drew.cell? ⟨tb, k, none⟩ = some (.bool b) := r5
                  have hd5 : tb < w5.drew.heap.size := htb5
                  have CF' : Calls Try.prog 18 #[.pointer (some ⟨w.heap.size, 0, none⟩), .int .i64 (k : Int)] w5.drew fun e w' => e = .returned (.bool b) ∧ SlV w' w.heap.size (freeS (addS ss x) (k : Int)) (gX X3 w5.drew w') ∧ Ex X3 w5.drew w' := CF
                  clear CF
                  cases b
                  · go_wp2_with fail
                    go_region_held3 (fun V => V.cell? ⟨tb, k, none⟩ = some (.bool false)) (first | with_reducible exact d5 | with_reducible exact q5 | fail)
                      (first | (go_at_call 18; refine CF'.mono ?_; rintro e w6 ⟨rfl, hs6, ex6⟩; have q5 := (World.cell?_of_block (a := ⟨tb, k, none⟩) (ex6.block tb hd5 hne5)).trans d5) | fail)
                    all_goals
                      have HI6 := Lib.hid ((HI5.out.drewN 1).turn hs6 ex6)
                      have hc6 := HI6.out.cell k (by rw [tks_len]; first | omega | (have := HTA.out; omega))
                      rw [tks_get _ k (by have := HTA.out; omega), hbb] at hc6
                      have hz6 := HI6.out.frozen k
                      have HI7 := Lib.hid (HI6.out.put k false)
                      clear HI5 hs6 ex6 q5 d5 r5 CF' HI6
                      go_wp2_with fail
                      go_roundw
                      case rel =>
                        refine ⟨i + 1, addS ss x, gX X3 (w5.drewN 1) w6, by omega, rfl, by rw [HAL.out]; try (congr 1; omega), by rw [eN]; try (congr 1; omega), ?_, by have := HTA.out; omega⟩
                        have h9 := HI7.out
                        rw [hFR.out] at h9
                        simp only [Bool.false_eq_true, if_false] at h9
                        have e9 : (tks (addS ss x)).set k false = tks (addS ss x) := by
                          have h1 : (tks (addS ss x)).getD k false = false := by rw [tks_get _ k (by have := HTA.out; omega), hbb]
                          apply List.ext_getElem?
                          intro j
                          rw [List.getElem?_set]
                          by_cases e : k = j
                          · subst e
                            have hkk : k < (tks (addS ss x)).length := by rw [tks_len]; first | omega | (have := HTA.out; omega)
                            rw [if_pos rfl, if_pos hkk]
                            rw [List.getD_eq_getElem?_getD, List.getElem?_eq_getElem hkk] at h1
                            rw [List.getElem?_eq_getElem hkk]
                            simpa using h1.symm
                          · rw [if_neg e]
                        rw [e9] at h9
                        exact h9
                      case measure =>
                        simp [intOf]
                        omega
                  · go_wp2_with fail
                    go_region_held3 (fun V => V.cell? ⟨tb, k, none⟩ = some (.bool true)) (first | with_reducible exact d5 | with_reducible exact q5 | fail)
                      (first | (go_at_call 18; refine CF'.mono ?_; rintro e w6 ⟨rfl, hs6, ex6⟩; have q5 := (World.cell?_of_block (a := ⟨tb, k, none⟩) (ex6.block tb hd5 hne5)).trans d5) | fail)
                    all_goals
                      have HI6 := Lib.hid ((HI5.out.drewN 1).turn hs6 ex6)
                      have hc6 := HI6.out.cell k (by rw [tks_len]; first | omega | (have := HTA.out; omega))
                      rw [tks_get _ k (by have := HTA.out; omega), hbb] at hc6
                      have hz6 := HI6.out.frozen k
                      have HI7 := Lib.hid (HI6.out.put k false)
                      have e7 : IntKind.i64.wrap ((C : Int) - 1) = (((C - 1 : Nat)) : Int) := by rw [i64_small (by omega) (by omega)]; omega
                      clear HI5 hs6 ex6 q5 d5 r5 CF' HI6
                      go_wp2_with fail
                      go_roundw
                      case rel =>
                        have h9 := HI7.out
                        rw [hFR.out] at h9
                        simp only [if_true] at h9
                        have h8 := hCN.out
                        simp only [if_true] at h8
                        refine ⟨i + 1, (addS ss x).set k ⟨false, 0⟩, gX X3 (w5.drewN 1) w6, by omega, rfl, by rw [List.length_set, HAL.out]; try (congr 1; omega), by congr 2; omega, ?_, by rw [List.length_set]; have := HTA.out; omega⟩
                        rw [tks_set]
                        exact h9
                      case measure =>
                        simp [intOf]
                        omega
                · have ty : (0 ≤ y) = False := by simp; omega
                  go_wp2_with fail
                  go_roundw
                  case rel => exact ⟨i + 1, addS ss x, X3, by omega, rfl, by rw [show (addS ss x).length = C by rw [HLEN.out, if_neg hc]; omega]; try (congr 1; omega), by rw [eN]; try (congr 1; omega), HI5.out, by rw [show (addS ss x).length = C by rw [HLEN.out, if_neg hc]; omega]; omega⟩
                  case measure =>
                    simp [intOf]
                    omega
              · have tf : ((i : Int) < (n1 : Int)) = False := by simp; omega
                go_wp2_with fail
                go_roundw
                case rel => exact ⟨i + 1, addS ss x, X3, by omega, rfl, by rw [show (addS ss x).length = C by rw [HLEN.out, if_neg hc]; omega]; try (congr 1; omega), by rw [eN]; try (congr 1; omega), HI5.out, by rw [show (addS ss x).length = C by rw [HLEN.out, if_neg hc]; omega]; omega⟩
                case measure =>
                  simp [intOf]
                  omega
      · obtain rfl : i = n0 := by omega
        have CA := awake11_any wr
        have HB := Lib.hid hI.be
        clear hI
        go_wp2_with fail
        refine CA.mono ?_
        rintro e w9 ⟨rfl, hb9⟩
        clear CA
        go_wp2
        go_ret
        exact ⟨rfl, HB.out.trans (hb9.mono HB.out.size)⟩
  · have hB : (400 : Int) < (n0 : Int) ∨ ((n0 : Int) ≤ 400 ∧ (400 : Int) < (n1 : Int)) := by omega
    clear h0 h1
    rcases hB with t0 | ⟨t0, t1⟩
    · go_enter Try.func6, Try.ntmps6
      go_wp2_with fail
      refine CA.mono ?_
      rintro e w9 ⟨rfl, hb9⟩
      clear CA
      go_wp2
      go_ret
      exact ⟨rfl, hb9⟩
    · go_enter Try.func6, Try.ntmps6
      go_wp2_with fail
      refine CA.mono ?_
      rintro e w9 ⟨rfl, hb9⟩
      clear CA
      go_wp2
      go_ret
      exact ⟨rfl, hb9⟩
end Go.Proofs.Ytmeljhnmpopkhaa
