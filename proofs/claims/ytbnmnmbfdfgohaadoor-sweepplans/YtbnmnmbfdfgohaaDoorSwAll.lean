/-
  All of slots, and its iterator.
-/
import Derived.Test.YtbnmnmbfdfgohaaDoorSmRef
import Derived.Test.YtbnmnmbfdfgohaaDoorRgLaw
import Derived.OwnWalkIn
import Derived.TacticsInMore
import Derived.LoopNIn
import Derived.LoopIn
namespace Go.Proofs.YtbnmnmbfdfgohaaDoor
open Go.RowKit Go.WideShapes
attribute [local go_sem] Oper.semAt_some

/-- A row of slots that can be read. -/
def Rd2 (w : World) (v : Value) (ss : List So) : Prop := ∃ B, w.ownsRow B 62 2 v ss.length (sol ss)
theorem Rd2.keep {w w' : World} {v : Value} {ss : List So} (h : Rd2 w v ss) (e : ∀ k, v.ownBlock = some k → k < w.heap.size → w'.heap[k]? = w.heap[k]?) : Rd2 w' v ss := by
  obtain ⟨B, h⟩ := h
  exact ⟨B, ownsS_same h (fun k hk => e k hk (World.ownsRow.lt h k hk).2)⟩
theorem Rd2.sr {w : World} {v : Value} {ss : List So} (h : Rd2 w v ss) : Sr2 w v ss := by
  obtain ⟨B, h⟩ := h
  refine ⟨h.1, ?_⟩
  rcases h.2 with h0 | ⟨g, cap, cur, e, h1, h2⟩
  · exact .inl h0
  · exact .inr ⟨g, cap, cur, e, Nat.zero_le _, h2⟩
def itV (t : Nat) : Value := .func (.func 65) #[] #[.pointer (some ⟨t, 0, none⟩)]
theorem eq_nil_some (w : World) (r n c : Nat) : (binOp .eql 56 (.slice (some ⟨r, 0, none⟩) n c) (.slice none 0 0)).run Tryd.prog w = .ok (.bool false) w := by kernel_rfl
theorem eq_nil_none (w : World) : (binOp .eql 56 (.slice none 0 0) (.slice none 0 0)).run Tryd.prog w = .ok (.bool true) w := by kernel_rfl
theorem clone_none (w : World) : Calls Tryd.prog 64 #[.slice none 0 0] w fun e w' => e = .returned (.slice none 0 0) ∧ w' = w := by
  have hnn := eq_nil_none
  have hns := eq_nil_some
  go_enter Tryd.func64, Tryd.ntmps64
  go_wp2
  go_ret
  exact ⟨rfl, rfl⟩
set_option maxRecDepth 100000 in
theorem clone_some {w : World} {r n cap : Nat} {ss : List So} (h : Sr2 w (.slice (some ⟨r, 0, none⟩) n cap) ss) (hs : ss.length ≤ 100000) : Calls Tryd.prog 64 #[.slice (some ⟨r, 0, none⟩) n cap] w fun e w' => ∃ v, e = .returned v ∧ w'.ownsRow w.heap.size 62 2 v ss.length (sol ss) ∧ Below w.heap.size w w' := by
  obtain ⟨i0, hi, hz0, hz1, hz2⟩ := info_parts Tryd.infoSo
  obtain rfl := h.len
  have hrl : r < w.heap.size := (World.ownsRow.lt h r rfl).2
  have HC : Hid (∀ t j u, (sol ss)[j]? = some u → (w.alloc (.cells #[] t)).cell? (Addr.add ⟨r, 0, none⟩ j) = some u) := fun t j u hu => by
    have h0 : w.ownsRow 0 62 2 (.slice (some ⟨r, 0, none⟩) ss.length cap) ss.length (sol ss) := h
    rw [WideShapes.add_plain, Nat.zero_add, World.cell?_of_block (Below.heap_alloc _ _ _ hrl)]
    have hj := (List.getElem?_eq_some_iff.1 hu).1
    rw [sol_len] at hj
    rw [h0.cellAt j hj]
    exact hu
  have hsl : (sol ss).length = ss.length * 2 := sol_len ss
  have ho := sol_one ss
  have HL := Lib.hid hsl
  have HO := Lib.hid ho
  clear h hsl ho
  have hnn := eq_nil_none
  have hns := eq_nil_some
  go_enter Tryd.func64, Tryd.ntmps64
  go_wp2_with (at_builtin; refine wpListS_append_own rfl _ _ 56 rfl w.heap.size 62 i0 (.agg #[.bool false, .slice none 0 0]) 2 32 Tryd.underlying56 hi hz0 hz1 hz2 rfl (by decide) _ _ [] rfl (World.ownsRow_lit w #[] 0 (Nat.le_refl _) (by decide) rfl) ⟨r, 0, none⟩ ss.length cap (sol ss) rfl HL.out (HC.out _) HO.out (by unfold maxLen; omega) (by omega) (by simp) ?_)
  intro v' w5 hown2 hgrow hat
  have hB : Below w.heap.size w w5 := by
    have hsz : (w.alloc (.cells #[] 62)).heap.size = w.heap.size + 1 := by simp
    refine ⟨hgrow.os, hgrow.tape, hgrow.output, by have := hgrow.size; omega, fun k hk => (hgrow.block k (by omega) (fun e => ?_)).trans (Below.heap_alloc _ _ _ hk)⟩
    injection e with e
    simp at e
    omega
  have HB := Lib.hid hB
  have HW := Lib.hid hown2
  clear hown2 hgrow hat hB
  go_wp2
  go_ret
  exact ⟨_, rfl, by simpa using HW.out, HB.out⟩
set_option maxRecDepth 100000 in
theorem all_any {w : World} {g : Nat} {ss : List So} {X : Nat → Prop} (h : SlV w g ss X) : Calls Tryd.prog 48 #[.pointer (some ⟨g, 0, none⟩)] w fun e w' => e = .returned (itV w.heap.size) ∧ (∃ rv, w'.cell? ⟨w.heap.size, 0, none⟩ = some rv ∧ Rd2 w' rv ss ∧ ∀ k, rv.ownBlock = some k → w.heap.size ≤ k) ∧ Below w.heap.size w w' := by
  obtain ⟨rv, fv, n, f, h, hx, hX⟩ := h
  have hbA : Below w.heap.size w (w.alloc (.cells #[.slice none 0 0] 56)) := (Below.refl _ w).alloc (Nat.le_refl _) _
  have hA := h.same (fun k hk => hbA.block k (hX k (hx k hk)))
  have c0 := hA.c0
  have cn : (w.alloc (.cells #[.slice none 0 0] 56)).cell? ⟨w.heap.size, 0, none⟩ = some (.slice none 0 0) := by rw [World.cell?_alloc_at _ _ _ _ rfl]; rfl
  have zn : (w.alloc (.cells #[.slice none 0 0] 56)).frozen? ⟨w.heap.size, 0, none⟩ = false := World.frozen?_alloc_at _ _ _ _ rfl
  have hsz : (w.alloc (.cells #[.slice none 0 0] 56)).heap.size = w.heap.size + 1 := by simp
  have C : Calls Tryd.prog 64 #[rv] (w.alloc (.cells #[.slice none 0 0] 56)) fun e w' => ∃ v, e = .returned v ∧ w'.ownsRow (w.heap.size + 1) 62 2 v ss.length (sol ss) ∧ Below (w.heap.size + 1) (w.alloc (.cells #[.slice none 0 0] 56)) w' := by
    rcases hA.row.2 with ⟨rfl, hl⟩ | ⟨r, cap, cur, rfl, _⟩
    · refine (clone_none _).mono ?_
      rintro e w' ⟨rfl, rfl⟩
      exact ⟨_, rfl, ⟨hA.row.1, Or.inl ⟨rfl, hl⟩⟩, Below.refl _ _⟩
    · have := clone_some hA.row hA.sm
      rw [hsz] at this
      exact this
  have HBA := Lib.hid hbA
  clear h hA hx hX hbA
  go_enter Tryd.func48, Tryd.ntmps48
  go_wp2_with fail
  refine C.mono ?_
  rintro e w1 ⟨v, rfl, hv, hb⟩
  clear C
  obtain ⟨va, vc, rfl⟩ := ownsS_shape hv
  have c1 : w1.cell? ⟨w.heap.size, 0, none⟩ = some (.slice none 0 0) := (World.cell?_of_block (a := ⟨w.heap.size, 0, none⟩) (hb.block w.heap.size (by omega))).trans cn
  have z1 : w1.frozen? ⟨w.heap.size, 0, none⟩ = false := (World.frozen?_of_block (a := ⟨w.heap.size, 0, none⟩) (hb.block w.heap.size (by omega))).trans zn
  have HV := Lib.hid hv
  have HB := Lib.hid hb
  clear hv hb cn zn
  go_wp2
  go_ret
  have hne : ∀ k, (Value.slice va ss.length vc).ownBlock = some k → k ≠ w.heap.size := fun k hk => by have := (World.ownsRow.lt HV.out k hk).1; omega
  have hb1 : Below w.heap.size w w1 := HBA.out.trans (HB.out.mono (by omega))
  refine ⟨rfl, ⟨.slice va ss.length vc, setCell_hit c1, ⟨_, ownsS_same HV.out (fun k hk => setCell_blk (hne k hk))⟩, fun k hk => by have := (World.ownsRow.lt HV.out k hk).1; omega⟩, ?_⟩
  exact hb1.trans ((Ex.setCell (X := fun k => k = w.heap.size) (p := ⟨w.heap.size, 0, none⟩) (Ex.refl _ w1) (fun _ => rfl) _).below (fun k hk => by omega) hb1.size)
theorem nbs_pre (f : Nat → Bool) (j d : Nat) : ∃ r, nbs f (j + d) = nbs f j ++ r := ⟨_, nbs_add f j d⟩
theorem nbs_at (f : Nat → Bool) (j n : Nat) (hj : j < n) (ht : f j = true) : (nbs f n)[(nbs f j).length]? = some (j : Int) := by
  obtain ⟨r, hr⟩ := nbs_pre f (j + 1) (n - (j + 1))
  rw [show j + 1 + (n - (j + 1)) = n by omega, nbs_succ, if_pos ht] at hr
  rw [hr, List.append_assoc, List.getElem?_append_right (Nat.le_refl _)]
  simp
/-- The number of the k-th taken slot. -/
def px (ss : List So) (k : Nat) : Nat := ((nbs (tk ss) ss.length)[k]?.getD 0).toNat
theorem px_at {ss : List So} {j : Nat} (hj : j < ss.length) (ht : (nts ss j).taken = true) : px ss (nbs (tk ss) j).length = j ∧ (nbs (tk ss) j).length < (nbs (tk ss) ss.length).length := by
  have h := nbs_at (tk ss) j ss.length hj ht
  unfold px
  rw [h]
  exact ⟨by simp, (List.getElem?_eq_some_iff.1 h).1⟩
set_option maxRecDepth 100000 in
set_option maxHeartbeats 4000000 in
theorem all1_seq {ss : List So} {v : Value} (b : Nat) (w : World) (hlen : ss.length ≤ 100000) :
    SeqAt Tryd.prog 65 (fun l => #[.func (.yield l) #[] #[], .pointer (some ⟨b, 0, none⟩)]) (fun k => #[.int .i64 (px ss k : Int), .slice (nts ss (px ss k)).has.a (nts ss (px ss k)).has.n (nts ss (px ss k)).has.c]) (nbs (tk ss) ss.length).length (fun W => Rd2 W v ss ∧ W.cell? ⟨b, 0, none⟩ = some v) w := by
  intro l J Jx W hB HJ0 HJX0 hKp hY0 J0
  have HJ := (show Hid _ from HJ0)
  have HY := (show Hid _ from hY0)
  have HK := (show Hid _ from hKp)
  obtain ⟨hE, hb⟩ := hKp 0 W J0
  obtain ⟨a, cap, rfl⟩ := ownsS_shape hE.sr
  have HAE : Hid (0 < ss.length → ∃ r, a = some ⟨r, 0, none⟩) := fun h => by
    obtain ⟨r, c2, e, _⟩ := ownsS_some hE.sr h
    injection e with e1 e2 e3
    exact ⟨r, e1⟩
  clear HJ0 HJX0 hY0 hKp hE
  refine callsIn_of_wp Tryd.func65 rfl trivial ?_ rfl
  simp only [Tryd.ntmps65, List.size_toArray, List.length_cons, List.length_nil, Nat.reduceAdd, Nat.reduceSub, Array.replicate_succ, Array.replicate_zero, List.push_toArray, List.append_toArray, List.nil_append, List.cons_append]
  gi_wp2_with fail
  gi_loopw [3, 4, 7] (fun _ _ iv wr => ∃ i : Nat, i ≤ ss.length ∧ iv = .int .i64 (i : Int) ∧ J (nbs (tk ss) i).length wr ∧ W.heap.size ≤ wr.heap.size) (fun _ _ iv _ => ss.length - (intOf iv).toNat)
  case atStart => exact ⟨0, Nat.zero_le _, rfl, J0, Nat.le_refl _⟩
  case round =>
    obtain ⟨i, hi, rfl, hJ, hsz⟩ := hrel
    by_cases hlt : i < ss.length
    · have t1 : (i : Int) < (ss.length : Int) := by omega
      obtain ⟨r, ha⟩ := HAE.out (by omega)
      subst ha
      have hR := (HK.out _ _ hJ).1.sr
      have r0 := hR.c0 i hlt
      have r1 := hR.c1 i hlt
      clear hR
      obtain ⟨w2, hw2⟩ : ∃ y, wr.alloc (.cells #[.bool (nts ss i).taken, .slice (nts ss i).has.a (nts ss i).has.n (nts ss i).has.c] 62) = y := ⟨_, rfl⟩
      have hb2 : Below W.heap.size wr w2 := by rw [← hw2]; exact (Below.refl _ wr).alloc hsz _
      have hs2 : W.heap.size ≤ w2.heap.size := Nat.le_trans hsz hb2.size
      have hJ2 := HJ.out _ _ _ hJ hb2
      have p0 : w2.cell? ⟨wr.heap.size, 0, none⟩ = some (.bool (nts ss i).taken) := by rw [← hw2, World.cell?_alloc_at _ _ _ _ rfl]; rfl
      have p1 : w2.cell? ⟨wr.heap.size, 1, none⟩ = some (.slice (nts ss i).has.a (nts ss i).has.n (nts ss i).has.c) := by rw [← hw2, World.cell?_alloc_at _ _ _ _ rfl]; rfl
      have HW2 := Lib.hid hw2
      have hns := nbs_succ (tk ss) i
      clear hb2 hw2
      by_cases hlv : (nts ss i).taken = true
      · obtain ⟨hp, hk⟩ := px_at hlt hlv
        obtain ⟨fn, tmps, assign, body, hy, hR⟩ := HY.out _ w2 hk hJ2
        simp only [hp] at hy hR
        have HC2 : Hid ((nbs (tk ss) (i + 1)).length = (nbs (tk ss) i).length + 1) := by
          show _ = _
          rw [hns, if_pos (show tk ss i = true from hlv)]
          simp
        rw [hlv] at r0 p0 HW2
        clear hlv hns
        generalize (nts ss i).has.a = y1 at *
        generalize (nts ss i).has.n = y2 at *
        generalize (nts ss i).has.c = y3 at *
        have p0r : (wr.alloc (.cells #[.bool true, .slice y1 y2 y3] 62)).cell? ⟨wr.heap.size, 0, none⟩ = some (.bool true) := by rw [HW2.out]; exact p0
        have p1r : (wr.alloc (.cells #[.bool true, .slice y1 y2 y3] 62)).cell? ⟨wr.heap.size, 1, none⟩ = some (.slice y1 y2 y3) := by rw [HW2.out]; exact p1
        rw [← HW2.out] at hy
        gi_wp2_with fail
        rw [HW2.out]
        refine ⟨rfl, hR.mono ?_⟩
        clear hR hy
        rintro e w5 (⟨rfl, hJ5, hK5⟩ | ⟨rfl, hX5⟩)
        · gi_wp2_with fail
          go_roundw
          case rel => exact ⟨i + 1, by omega, by go_num, by rw [HC2.out]; exact hJ5, Nat.le_trans hs2 hK5.size⟩
          case measure => simp [intOf]; omega
        · gi_wp2
          refine bodyPost_ret (v := .tuple #[]) (by simp [results, Tryd.results65, go_sem]) rfl ?_
          exact ⟨⟨_, rfl⟩, .inr ⟨_, hk, hX5⟩⟩
      · have hlf : (nts ss i).taken = false := by cases h : (nts ss i).taken <;> simp_all
        have HC2 : Hid ((nbs (tk ss) (i + 1)).length = (nbs (tk ss) i).length) := by
          show _ = _
          rw [hns, if_neg (show ¬ tk ss i = true from hlv)]
          simp
        rw [hlf] at r0 p0 HW2
        clear hlv hlf hns
        generalize (nts ss i).has.a = y1 at *
        generalize (nts ss i).has.n = y2 at *
        generalize (nts ss i).has.c = y3 at *
        have p0r : (wr.alloc (.cells #[.bool false, .slice y1 y2 y3] 62)).cell? ⟨wr.heap.size, 0, none⟩ = some (.bool false) := by rw [HW2.out]; exact p0
        have p1r : (wr.alloc (.cells #[.bool false, .slice y1 y2 y3] 62)).cell? ⟨wr.heap.size, 1, none⟩ = some (.slice y1 y2 y3) := by rw [HW2.out]; exact p1
        gi_wp2_with fail
        refine ⟨fun _ h => (by cases h), ?_⟩
        rw [HW2.out]
        gi_wp2_with fail
        go_roundw
        case rel => exact ⟨i + 1, by omega, by go_num, by rw [HC2.out]; exact hJ2, hs2⟩
        case measure => simp [intOf]; omega
    · obtain rfl : i = ss.length := by omega
      have t1 : ¬ (ss.length : Int) < (ss.length : Int) := by omega
      gi_wp2
      go_end0
      exact ⟨⟨_, rfl⟩, .inl hJ⟩
end Go.Proofs.YtbnmnmbfdfgohaaDoor
