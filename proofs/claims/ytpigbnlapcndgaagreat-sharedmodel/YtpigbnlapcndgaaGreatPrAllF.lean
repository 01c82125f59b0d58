/-
  table.All's iterator, for bodies that alter what they have laid.
-/
import Derived.Test.YtpigbnlapcndgaaGreatPrr
import Derived.Test.YtpigbnlapcndgaaGreatRgFree
namespace Go.Proofs.YtpigbnlapcndgaaGreat
open Go.RowKit Go.WideShapes
attribute [local go_sem] Oper.semAt_some

set_option maxRecDepth 100000 in
set_option maxHeartbeats 4000000 in
theorem all1_fr {es : List En} {v : Value} (b : Nat) (w : World) (hlen : es.length ≤ 100000) (px : Nat → Nat) (hpx : ∀ i, i < es.length → (nth es i).live = true → px (cntL es i) = i) :
    SeqFr Tryz.prog 32 (fun l => #[.func (.yield l) #[] #[], .pointer (some ⟨b, 0, none⟩)]) (fun k => #[.int .i64 (px k : Int), eV (nth es (px k))]) (cntL es es.length) (fun W => Es W v es ∧ W.cell? ⟨b, 0, none⟩ = some v) w := by
  intro l J W _ HJ0 hKp hY0 J0
  have HJ := (show Hid _ from HJ0)
  have HY := (show Hid _ from hY0)
  have HK := (show Hid _ from hKp)
  have HPX := (show Hid _ from hpx)
  obtain ⟨hE, hb⟩ := hKp 0 W J0
  obtain ⟨a, cap, ge, hv, hae, hro⟩ := hE.open
  subst hv
  have hcap := hro.le
  have HAE : Hid (0 < es.length → a = some ⟨ge, 0, none⟩) := fun h => (hae h).1
  have HRO : Hid (∀ k W1, J k W1 → 0 < es.length → Ro W1 ge es.length cap es) := fun k W1 hJ hpos => by
    obtain ⟨a', cap', ge', hv', hae', hro'⟩ := (hKp k W1 hJ).1.open
    injection hv' with e1 e2 e3
    have h1 := (hae hpos).1
    have h2 := (hae' hpos).1
    rw [← e1, h1] at h2
    injection h2 with h2
    injection h2 with h2
    subst h2
    subst e3
    exact hro'
  clear HJ0 hY0 hKp hpx hE hae hro
  refine callsIn_of_wp Tryz.func32 rfl trivial ?_ rfl
  simp only [Tryz.ntmps32, List.size_toArray, List.length_cons, List.length_nil, Nat.reduceAdd, Nat.reduceSub, Array.replicate_succ, Array.replicate_zero, List.push_toArray, List.append_toArray, List.nil_append, List.cons_append]
  gi_wp2_with fail
  gi_loopw [3, 4, 7] (fun _ _ iv wr => ∃ i : Nat, i ≤ es.length ∧ iv = .int .i64 (i : Int) ∧ J (cntL es i) wr) (fun _ _ iv _ => es.length - (intOf iv).toNat)
  case atStart => exact ⟨0, Nat.zero_le _, rfl, J0⟩
  case round =>
    obtain ⟨i, hi, rfl, hJ⟩ := hrel
    by_cases hlt : i < es.length
    · have t1 : (i : Int) < (es.length : Int) := by omega
      have ha := HAE.out (by omega)
      subst ha
      have hR := HRO.out _ _ hJ (by omega)
      have r0 := hR.c0 i hlt
      have r1 := hR.c1 i hlt
      have r2 := hR.c2 i hlt
      have r3 := hR.c3 i hlt
      have r4 := hR.c4 i hlt
      clear hR
      obtain ⟨w2, hw2⟩ : ∃ y, wr.alloc (.cells #[.bool (nth es i).live, .int .i64 (nth es i).hash, .int .i64 (nth es i).key, .int .i64 (nth es i).value, .int .i64 (nth es i).birth] 78) = y := ⟨_, rfl⟩
      have hb2 : Below wr.heap.size wr w2 := by rw [← hw2]; exact (Below.refl _ wr).alloc (Nat.le_refl _) _
      have hX2 : Blk w2 wr.heap.size 5 (fun j => #[Value.bool (nth es i).live, .int .i64 (nth es i).hash, .int .i64 (nth es i).key, .int .i64 (nth es i).value, .int .i64 (nth es i).birth].getD j .nilFunc) := by rw [← hw2]; exact Blk.new wr _ _
      have hJ2 := HJ.out _ _ _ hJ hb2
      have p0 : w2.cell? ⟨wr.heap.size, 0, none⟩ = some (.bool (nth es i).live) := hX2.c 0 (by omega)
      have p1 : w2.cell? ⟨wr.heap.size, 1, none⟩ = some (.int .i64 (nth es i).hash) := hX2.c 1 (by omega)
      have p2 : w2.cell? ⟨wr.heap.size, 2, none⟩ = some (.int .i64 (nth es i).key) := hX2.c 2 (by omega)
      have p3 : w2.cell? ⟨wr.heap.size, 3, none⟩ = some (.int .i64 (nth es i).value) := hX2.c 3 (by omega)
      have p4 : w2.cell? ⟨wr.heap.size, 4, none⟩ = some (.int .i64 (nth es i).birth) := hX2.c 4 (by omega)
      have HW2 := Lib.hid hw2
      clear hX2 hb2 hw2
      have HC1 : Hid (cntL es (i + 1) = cntL es i + if (nth es i).live = true then 1 else 0) := rfl
      by_cases hlv : (nth es i).live = true
      · have hk : cntL es i < cntL es es.length := by
          have := cntL_le es (i := i + 1) (j := es.length) hlt
          rw [HC1.out, if_pos hlv] at this
          omega
        obtain ⟨fn, tmps, assign, body, hy, hR⟩ := HY.out (cntL es i) w2 hk hJ2
        have hp := HPX.out i hlt hlv
        simp only [hp] at hy hR
        have HC2 : Hid (cntL es (i + 1) = cntL es i + 1) := by
          have := HC1.out
          rw [if_pos hlv] at this
          exact this
        unfold eV at hy
        rw [hlv] at r0 p0 hy HW2
        clear hlv HC1
        generalize (nth es i).hash = y1 at *
        generalize (nth es i).key = y2 at *
        generalize (nth es i).value = y3 at *
        generalize (nth es i).birth = y4 at *
        have p0r : (wr.alloc (.cells #[.bool true, .int .i64 y1, .int .i64 y2, .int .i64 y3, .int .i64 y4] 78)).cell? ⟨wr.heap.size, 0, none⟩ = some (.bool true) := by rw [HW2.out]; exact p0
        have p1r : (wr.alloc (.cells #[.bool true, .int .i64 y1, .int .i64 y2, .int .i64 y3, .int .i64 y4] 78)).cell? ⟨wr.heap.size, 1, none⟩ = some (.int .i64 y1) := by rw [HW2.out]; exact p1
        have p2r : (wr.alloc (.cells #[.bool true, .int .i64 y1, .int .i64 y2, .int .i64 y3, .int .i64 y4] 78)).cell? ⟨wr.heap.size, 2, none⟩ = some (.int .i64 y2) := by rw [HW2.out]; exact p2
        have p3r : (wr.alloc (.cells #[.bool true, .int .i64 y1, .int .i64 y2, .int .i64 y3, .int .i64 y4] 78)).cell? ⟨wr.heap.size, 3, none⟩ = some (.int .i64 y3) := by rw [HW2.out]; exact p3
        have p4r : (wr.alloc (.cells #[.bool true, .int .i64 y1, .int .i64 y2, .int .i64 y3, .int .i64 y4] 78)).cell? ⟨wr.heap.size, 4, none⟩ = some (.int .i64 y4) := by rw [HW2.out]; exact p4
        rw [← HW2.out] at hy
        gi_wp2_with fail
        rw [HW2.out]
        refine ⟨rfl, hR.mono ?_⟩
        clear hR hy
        rintro e w5 ⟨rfl, hJ5⟩
        gi_wp2_with fail
        go_roundw
        case rel => exact ⟨i + 1, by omega, by go_num, by rw [HC2.out]; exact hJ5⟩
        case measure => simp [intOf]; omega
      · have hlf : (nth es i).live = false := by cases h : (nth es i).live <;> simp_all
        have HC2 : Hid (cntL es (i + 1) = cntL es i) := by
          have := HC1.out
          rw [if_neg hlv] at this
          exact this
        rw [hlf] at r0 p0 HW2
        clear hlv hlf HC1
        generalize (nth es i).hash = y1 at *
        generalize (nth es i).key = y2 at *
        generalize (nth es i).value = y3 at *
        generalize (nth es i).birth = y4 at *
        have p0r : (wr.alloc (.cells #[.bool false, .int .i64 y1, .int .i64 y2, .int .i64 y3, .int .i64 y4] 78)).cell? ⟨wr.heap.size, 0, none⟩ = some (.bool false) := by rw [HW2.out]; exact p0
        have p1r : (wr.alloc (.cells #[.bool false, .int .i64 y1, .int .i64 y2, .int .i64 y3, .int .i64 y4] 78)).cell? ⟨wr.heap.size, 1, none⟩ = some (.int .i64 y1) := by rw [HW2.out]; exact p1
        have p2r : (wr.alloc (.cells #[.bool false, .int .i64 y1, .int .i64 y2, .int .i64 y3, .int .i64 y4] 78)).cell? ⟨wr.heap.size, 2, none⟩ = some (.int .i64 y2) := by rw [HW2.out]; exact p2
        have p3r : (wr.alloc (.cells #[.bool false, .int .i64 y1, .int .i64 y2, .int .i64 y3, .int .i64 y4] 78)).cell? ⟨wr.heap.size, 3, none⟩ = some (.int .i64 y3) := by rw [HW2.out]; exact p3
        have p4r : (wr.alloc (.cells #[.bool false, .int .i64 y1, .int .i64 y2, .int .i64 y3, .int .i64 y4] 78)).cell? ⟨wr.heap.size, 4, none⟩ = some (.int .i64 y4) := by rw [HW2.out]; exact p4
        gi_wp2_with fail
        refine ⟨fun _ h => (by cases h), ?_⟩
        rw [HW2.out]
        gi_wp2_with fail
        go_roundw
        case rel => exact ⟨i + 1, by omega, by go_num, by rw [HC2.out]; exact hJ2⟩
        case measure => simp [intOf]; omega
    · obtain rfl : i = es.length := by omega
      have t1 : ¬ (es.length : Int) < (es.length : Int) := by omega
      gi_wp2
      go_end0
      exact ⟨⟨_, rfl⟩, hJ⟩
end Go.Proofs.YtpigbnlapcndgaaGreat
