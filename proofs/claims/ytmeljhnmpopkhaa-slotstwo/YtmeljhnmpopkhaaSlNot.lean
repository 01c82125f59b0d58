/-
  SlotsNothing: its walk.
-/
import Derived.Test.YtmeljhnmpopkhaaSlGoes2
import Derived.Test.YtmeljhnmpopkhaaSlOpen
namespace Go.Proofs.Ytmeljhnmpopkhaa
open Go.RowKit Go.WideShapes

/-- The reference's slots without a slot. -/
theorem rq_new (w : World) (t : TypeId) : RqV (w.alloc (.cells #[.slice none 0 0, .slice none 0 0] t)) w.heap.size [] (fun k => k = w.heap.size) (fun _ => False) := by
  refine ⟨.slice none 0 0, .slice none 0 0, [], ⟨?_, ?_, fun j => World.frozen?_alloc_at _ _ _ _ rfl, ⟨rfl, Or.inl ⟨rfl, rfl⟩⟩, ⟨rfl, Or.inl ⟨rfl, rfl⟩⟩, fun i hi => absurd hi (by simp), by simp [Value.ownBlock], by simp [Value.ownBlock], by simp [Value.ownBlock], by simp, by simp⟩, fun k hk => ?_, fun k hk => by subst hk; simp, fun k hk => hk.elim, fun k hk => hk.elim⟩
  · rw [World.cell?_alloc_at _ _ _ _ rfl]; rfl
  · rw [World.cell?_alloc_at _ _ _ _ rfl]; rfl
  · rcases hk with e | e | e
    · exact e
    · cases e
    · cases e
theorem fn_neq (t : Nat) (w : World) : (binOp .neq 42 (itV t) .nilFunc).run Try.prog w = .ok (.bool true) w := by kernel_rfl
set_option maxRecDepth 100000 in
theorem snothing11_walk (a0 : Option Addr) (n0 c0 : Nat) (G : Nat → Nat → Int) (w : World) (h0 : S3 w a0 n0 c0 G) :
    Calls Try.prog 4 #[.slice a0 n0 c0] w fun e w' => e = .returned (.bool true) ∧ Below w.heap.size w w' := by
  by_cases hb : n0 ≤ 400
  · have t0 : (n0 : Int) ≤ 400 := by omega
    obtain ⟨hc, b, off, hp, hcell⟩ := h0
    go_enter Try.func4, Try.ntmps4
    go_wp2_with fail
    go_loopw [4, 5, 6, 7] (fun v4 _ _ _ wr => ∃ i : Nat, i ≤ n0 ∧ v4 = .int .i64 (i : Int) ∧ Below w.heap.size w wr) (fun v4 _ _ _ _ => n0 - (intOf v4).toNat)
    case atStart => exact ⟨0, Nat.zero_le _, rfl, Below.refl _ _⟩
    case round =>
      obtain ⟨i, hi, rfl, hB⟩ := hrel
      by_cases hin : i < n0
      · have ti : (i : Int) < (n0 : Int) := by omega
        have ti0 : (0 : Int) ≤ (i : Int) := by omega
        have ei : IntKind.i64.wrap ((i : Int) + 1) = ((i + 1 : Nat) : Int) := by rw [i64_small (by omega) (by omega)]; omega
        obtain ⟨rfl, hbl⟩ := hp (by omega)
        have q0 := (hB.cell (p := ⟨b, off + (i * 3 + 0), none⟩) hbl).trans (hcell i hin 0 (by omega))
        have q1 := (hB.cell (p := ⟨b, off + (i * 3 + 1), none⟩) hbl).trans (hcell i hin 1 (by omega))
        have q2 := (hB.cell (p := ⟨b, off + (i * 3 + 2), none⟩) hbl).trans (hcell i hin 2 (by omega))
        rw [← Nat.add_assoc] at q1 q2
        rw [Nat.add_zero] at q0
        generalize G i 0 = g0 at *
        generalize G i 1 = g1 at *
        generalize G i 2 = g2 at *
        obtain ⟨w1, hw1⟩ : ∃ y, wr.alloc (.cells #[.int .i64 g0, .int .i64 g1, .int .i64 g2] 38) = y := ⟨_, rfl⟩
        have hb1 : Below w.heap.size w w1 := by rw [← hw1]; exact hB.alloc hB.size _
        have x1 : w1.cell? ⟨wr.heap.size, 1, none⟩ = some (.int .i64 g1) := by rw [← hw1, World.cell?_alloc_at _ _ _ _ rfl]; rfl
        have x2 : w1.cell? ⟨wr.heap.size, 2, none⟩ = some (.int .i64 g2) := by rw [← hw1, World.cell?_alloc_at _ _ _ _ rfl]; rfl
        have HW := Lib.hid hw1
        have HB := Lib.hid hb1
        clear hw1 hb1 hB
        have C1 := getS_nil w1 g1
        have C2 := addS_nil w1 g2
        have C3 := setS_nil w1 g1 g2
        have C4 := freeS_nil w1 g1
        have C5 := len_nil w1
        have C6 := high_nil w1
        go_upto_region 8 with fail
        rw [HW.out]
        go_wp2_with fail
        refine C1.mono ?_
        rintro e w2 ⟨rfl, rfl⟩
        clear C1
        go_wp2_with fail
        refine C2.mono ?_
        rintro e w3 ⟨rfl, rfl⟩
        clear C2
        go_wp2_with fail
        refine C3.mono ?_
        rintro e w4 ⟨rfl, rfl⟩
        clear C3
        go_wp2_with fail
        refine C4.mono ?_
        rintro e w5 ⟨rfl, rfl⟩
        clear C4
        go_wp2_with fail
        refine C5.mono ?_
        rintro e w6 ⟨rfl, rfl⟩
        clear C5
        go_wp2_with fail
        refine C6.mono ?_
        rintro e w7 ⟨rfl, rfl⟩
        clear C6
        go_wp2_with fail
        go_roundw
        case rel => exact ⟨i + 1, by omega, rfl, HB.out⟩
        case measure =>
          simp [intOf]
          omega
      · obtain rfl : i = n0 := by omega
        have tj : ((i : Int) < (i : Int)) = False := by simp
        have CA := all_nil wr
        have HB := Lib.hid hB
        clear hcell hp
        go_wp2_with fail
        refine CA.mono ?_
        rintro e w1 ⟨rfl, hc1, hb1⟩
        clear CA
        have hl1 : wr.heap.size < w1.heap.size := lt_of_cell hc1
        obtain ⟨w2, hw2⟩ : ∃ y, w1.alloc (.cells #[.slice none 0 0, .slice none 0 0] 35) = y := ⟨_, rfl⟩
        have hq2 : RqV w2 w1.heap.size [] (fun k => k = w1.heap.size) (fun _ => False) := by rw [← hw2]; exact rq_new w1 _
        have hb2 : Below w1.heap.size w1 w2 := by rw [← hw2]; exact (Below.refl _ w1).alloc (Nat.le_refl _) _
        have CG := goes_any (stop := 0) (t := wr.heap.size) ((hb2.cell (p := ⟨wr.heap.size, 0, none⟩) hl1).trans hc1) ⟨0, rfl, Or.inl ⟨rfl, rfl⟩⟩ hq2
        have hfn := fn_neq wr.heap.size
        unfold itV at CG hfn
        have HB2 : Hid (Below w.heap.size w w2) := (HB.out.trans (hb1.mono HB.out.size)).trans (hb2.mono (Nat.le_trans HB.out.size hb1.size))
        clear hq2 hb2 hc1 hb1
        go_wp2_with fail
        refine CG.mono ?_
        rintro e w3 ⟨rfl, hb3⟩
        clear CG hw2
        have HB3 := Lib.hid (HB2.out.trans (hb3.mono HB2.out.size))
        have CW := awake11_any w3
        clear hb3
        go_wp2_with fail
        refine CW.mono ?_
        rintro e w4 ⟨rfl, hb4⟩
        clear CW
        go_wp2
        go_ret
        exact ⟨rfl, HB3.out.trans (hb4.mono HB3.out.size)⟩
  · have t0 : (400 : Int) < (n0 : Int) := by omega
    have CA := awake11_any w
    clear h0
    go_enter Try.func4, Try.ntmps4
    go_wp2_with fail
    refine CA.mono ?_
    rintro e w9 ⟨rfl, hb9⟩
    clear CA
    go_wp2
    go_ret
    exact ⟨rfl, hb9⟩
end Go.Proofs.Ytmeljhnmpopkhaa
