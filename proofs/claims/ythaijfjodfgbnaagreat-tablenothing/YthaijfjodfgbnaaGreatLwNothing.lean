/-
  TableNothing, walked.
-/
import Derived.Test.YthaijfjodfgbnaaGreatLwGoes0
import Derived.Test.YthaijfjodfgbnaaGreatLdAwake
import Derived.Test.YthaijfjodfgbnaaGreatLwOpen5
namespace Go.Proofs.YthaijfjodfgbnaaGreat
open Go.RowKit Go.WideShapes

set_option maxRecDepth 100000 in
set_option maxHeartbeats 4000000 in
theorem nothing_walk (a : Option Addr) (n c : Nat) (G : Nat → Nat → Int) (w : World) (hS : S5 w a n c G) :
    Calls Tryz.prog 6 #[.slice a n c] w fun e w' => e = .returned (.bool true) ∧ Below w.heap.size w w' := by
  obtain ⟨hcap, b, off, hab, hG⟩ := hS
  by_cases hn : n ≤ 400
  · have tn : ¬ 400 < (n : Int) := by omega
    have HG := Lib.hid hG
    clear hG
    go_enter Tryz.func6, Tryz.ntmps6
    go_wp2_with fail
    go_loopw [5] (fun iv wr => ∃ k : Nat, k ≤ n ∧ iv = .int .i64 (k : Int) ∧ Below w.heap.size w wr) (fun iv _ => n - (intOf iv).toNat)
    case atStart => exact ⟨0, Nat.zero_le _, rfl, Below.refl _ _⟩
    case round =>
      obtain ⟨k, hk, rfl, hB⟩ := hrel
      by_cases hlt : k < n
      · obtain ⟨rfl, hbl⟩ := hab (by omega)
        have tk : (k : Int) < (n : Int) := by omega
        have c0 : wr.cell? ⟨b, off + k * 5, none⟩ = some (.int .i64 (G k 0)) := (hB.cell (p := ⟨b, off + (k * 5 + 0), none⟩) hbl).trans (HG.out k hlt 0 (by omega))
        have c1 : wr.cell? ⟨b, off + k * 5 + 1, none⟩ = some (.int .i64 (G k 1)) := (hB.cell (p := ⟨b, off + (k * 5 + 1), none⟩) hbl).trans (HG.out k hlt 1 (by omega))
        have c2 : wr.cell? ⟨b, off + k * 5 + 2, none⟩ = some (.int .i64 (G k 2)) := (hB.cell (p := ⟨b, off + (k * 5 + 2), none⟩) hbl).trans (HG.out k hlt 2 (by omega))
        have c3 : wr.cell? ⟨b, off + k * 5 + 3, none⟩ = some (.int .i64 (G k 3)) := (hB.cell (p := ⟨b, off + (k * 5 + 3), none⟩) hbl).trans (HG.out k hlt 3 (by omega))
        have c4 : wr.cell? ⟨b, off + k * 5 + 4, none⟩ = some (.int .i64 (G k 4)) := (hB.cell (p := ⟨b, off + (k * 5 + 4), none⟩) hbl).trans (HG.out k hlt 4 (by omega))
        generalize G k 0 = x0 at c0
        generalize G k 1 = x1 at c1
        generalize G k 2 = x2 at c2
        generalize G k 3 = x3 at c3
        generalize G k 4 = x4 at c4
        obtain ⟨wx, hwx⟩ : ∃ y, wr.alloc (.cells #[.int .i64 x0, .int .i64 x1, .int .i64 x2, .int .i64 x3, .int .i64 x4] 73) = y := ⟨_, rfl⟩
        have hX : Blk wx wr.heap.size 5 (fun j => #[Value.int .i64 x0, .int .i64 x1, .int .i64 x2, .int .i64 x3, .int .i64 x4].getD j .nilFunc) := by rw [← hwx]; exact Blk.new wr _ _
        have hBx : Below w.heap.size w wx := by rw [← hwx]; exact hB.alloc hB.size _
        have hgx : wr.heap.size < wx.heap.size := hX.lt (by omega)
        have hg0 : w.heap.size ≤ wr.heap.size := hB.size
        have d1 : wx.cell? ⟨wr.heap.size, 1, none⟩ = some (.int .i64 x1) := hX.c 1 (by omega)
        have d2 : wx.cell? ⟨wr.heap.size, 2, none⟩ = some (.int .i64 x2) := hX.c 2 (by omega)
        have d3 : wx.cell? ⟨wr.heap.size, 3, none⟩ = some (.int .i64 x3) := hX.c 3 (by omega)
        have d4 : wx.cell? ⟨wr.heap.size, 4, none⟩ = some (.int .i64 x4) := hX.c 4 (by omega)
        have CA := add_nil x1 x2 x3 wx
        have HT := Lib.hid (fun W => at_nil x4 W)
        have HWX := Lib.hid hwx
        clear hwx hX
        go_wp2_with fail
        try rw [HWX.out]
        refine CA.mono ?_
        rintro e w1 ⟨rfl, hB1⟩
        have p1 := (hB1.cell (p := ⟨wr.heap.size, 1, none⟩) hgx).trans d1
        have p3 := (hB1.cell (p := ⟨wr.heap.size, 3, none⟩) hgx).trans d3
        have p4 := (hB1.cell (p := ⟨wr.heap.size, 4, none⟩) hgx).trans d4
        have hBB := Lib.hid (hBx.trans (hB1.mono hBx.size))
        have hg1 := Nat.lt_of_lt_of_le hgx hB1.size
        clear CA d1 d2 d3 d4 c0 c1 c2 c3 c4 HWX hB1 hBx hgx
        generalize wr.heap.size = gx at *
        go_wp2_with fail
        refine (HT.out _).mono ?_
        rintro e w2 ⟨rfl, hB2⟩
        clear HT
        obtain ⟨wy, hwy⟩ : ∃ y, w2.alloc (.cells #[.bool false, .int .i64 0, .int .i64 0, .int .i64 0, .int .i64 0] 79) = y := ⟨_, rfl⟩
        have hY : Blk wy w2.heap.size 5 (fun j => #[Value.bool false, .int .i64 0, .int .i64 0, .int .i64 0, .int .i64 0].getD j .nilFunc) := by rw [← hwy]; exact Blk.new w2 _ _
        have hBy : Below w1.heap.size w1 wy := by rw [← hwy]; exact hB2.alloc hB2.size _
        have hg2 := hB2.size
        have CN := next_nil wy
        have HWY := Lib.hid hwy
        clear hwy hB2
        go_wp2_with fail
        rw [HWY.out]
        refine CN.mono ?_
        rintro e w3 ⟨rfl, hB3⟩
        go_wp2_with fail
        refine (clear_nil _).mono ?_
        rintro e w4 ⟨rfl, hB4⟩
        have hB34 := hB3.trans (hB4.mono hB3.size)
        have hB14 := hBy.trans (hB34.mono hBy.size)
        have q1 := (hB14.cell (p := ⟨gx, 1, none⟩) hg1).trans p1
        have q3 := (hB14.cell (p := ⟨gx, 3, none⟩) hg1).trans p3
        have q4 := (hB14.cell (p := ⟨gx, 4, none⟩) hg1).trans p4
        have hY4 := hY.of hB34 (by omega)
        have r0 : w4.cell? ⟨w2.heap.size, 0, none⟩ = some (.bool false) := hY4.c 0 (by omega)
        have r1 : w4.cell? ⟨w2.heap.size, 1, none⟩ = some (.int .i64 0) := hY4.c 1 (by omega)
        have r2 : w4.cell? ⟨w2.heap.size, 2, none⟩ = some (.int .i64 0) := hY4.c 2 (by omega)
        have r3 : w4.cell? ⟨w2.heap.size, 3, none⟩ = some (.int .i64 0) := hY4.c 3 (by omega)
        have r4 : w4.cell? ⟨w2.heap.size, 4, none⟩ = some (.int .i64 0) := hY4.c 4 (by omega)
        have HB4 := Lib.hid (hBB.out.trans (hB14.mono hBB.out.size))
        have hl4 : gx < w4.heap.size := Nat.lt_of_lt_of_le hg1 hB14.size
        have hly4 : w2.heap.size < w4.heap.size := lt_of_cell r0
        clear CN HWY hY hY4 hB14 hB34 hB4 hB3 hBy p1 p3 p4 hBB
        generalize w2.heap.size = gy at *
        have HPu := Lib.hid (fun W => put_nil x4 x3 W)
        have HKi := Lib.hid (fun W => kill_nil x4 W)
        have HSe := Lib.hid (fun W => seek_nil x1 W)
        go_wp2_with fail
        refine (HPu.out _).mono ?_
        rintro e w5 ⟨rfl, hB5⟩
        have s1 := (hB5.cell (p := ⟨gx, 1, none⟩) hl4).trans q1
        have s4 := (hB5.cell (p := ⟨gx, 4, none⟩) hl4).trans q4
        have HB5 := Lib.hid (HB4.out.trans (hB5.mono HB4.out.size))
        have hl5 := Nat.lt_of_lt_of_le hl4 hB5.size
        clear HPu hB5 q1 q3 q4 r0 r1 r2 r3 r4 HB4 hly4 hl4 hg1 hg2
        go_wp2_with fail
        refine (HKi.out _).mono ?_
        rintro e w6 ⟨rfl, hB6⟩
        have t1 := (hB6.cell (p := ⟨gx, 1, none⟩) hl5).trans s1
        have HB6 := Lib.hid (HB5.out.trans (hB6.mono HB5.out.size))
        have hl6 := Nat.lt_of_lt_of_le hl5 hB6.size
        clear HKi hB6 s1 s4 HB5 hl5
        go_wp2_with fail
        refine (visited_nil _).mono ?_
        rintro e w7 ⟨rfl, hB7⟩
        have u1 := (hB7.cell (p := ⟨gx, 1, none⟩) hl6).trans t1
        have HB7 := Lib.hid (HB6.out.trans (hB7.mono HB6.out.size))
        have hl7 := Nat.lt_of_lt_of_le hl6 hB7.size
        clear hB7 t1 HB6 hl6
        go_wp2_with fail
        refine (len_nil _).mono ?_
        rintro e w8 ⟨rfl, hB8⟩
        have v1 := (hB8.cell (p := ⟨gx, 1, none⟩) hl7).trans u1
        have HB8 := Lib.hid (HB7.out.trans (hB8.mono HB7.out.size))
        have hl8 := Nat.lt_of_lt_of_le hl7 hB8.size
        clear hB8 u1 HB7 hl7
        go_wp2_with fail
        refine (copy_nil _).mono ?_
        rintro e w9 ⟨rfl, hB9⟩
        have z1 := (hB9.cell (p := ⟨gx, 1, none⟩) hl8).trans v1
        have HB9 := Lib.hid (HB8.out.trans (hB9.mono HB8.out.size))
        clear hB9 v1 HB8 hl8
        go_wp2_with fail
        refine (HSe.out _).mono ?_
        rintro e wa ⟨rfl, hBa⟩
        have HBa := Lib.hid (HB9.out.trans (hBa.mono HB9.out.size))
        clear HSe hBa z1 HB9
        go_wp2_with fail
        refine (sight_nil _).mono ?_
        rintro e wb ⟨rfl, hBb⟩
        have HBb := Lib.hid (HBa.out.trans (hBb.mono HBa.out.size))
        clear hBb HBa
        have hE0 : SlE wb none 0 0 [] := by
          obtain ⟨a', cap', e', h'⟩ := (Es.nil wb).sl
          cases e'
          exact h'
        have hN0 : SlN wb none 0 0 (fun _ => 0) := ⟨Nat.le_refl _, 0, fun h => absurd h (by omega), fun j h => absurd h (by omega)⟩
        have CG := sight_any 0 0 0 0 0 none none none none 0 0 0 0 0 0 (fun _ => 0) [] wb hN0 hN0 hE0 hE0 (by omega) (by omega)
        clear hE0 hN0
        unfold siV at CG ⊢
        go_wp2_with fail
        refine CG.mono ?_
        rintro e wc ⟨rfl, hBc⟩
        have HBc := Lib.hid (HBb.out.trans (hBc.mono HBb.out.size))
        clear CG hBc HBb
        go_wp2_with fail
        go_roundw
        case rel => exact ⟨k + 1, by omega, by go_num, HBc.out⟩
        case measure => simp [intOf]; omega
      · obtain rfl : k = n := by omega
        have tk : ¬ (k : Int) < (k : Int) := by omega
        have hfn : ∀ wx fn f1 c, (binOp .neq 55 (.func fn f1 c) .nilFunc).run Tryz.prog wx = .ok (.bool true) wx := fun _ _ _ _ => by kernel_rfl
        have HB := Lib.hid hB
        clear hB HG hab
        go_wp2_with fail
        refine (all_nil _).mono ?_
        rintro e w1 ⟨ba, rfl, hla, ca, hB1⟩
        go_wp2_with fail
        refine (back_nil _).mono ?_
        rintro e w2 ⟨bb, rfl, hlb, cb, hB2⟩
        have ca2 := (hB2.cell (p := ⟨ba, 0, none⟩) hla).trans ca
        have hla2 := Nat.lt_of_lt_of_le hla hB2.size
        have HB2 := Lib.hid ((HB.out.trans (hB1.mono HB.out.size)).trans (hB2.mono (HB.out.trans (hB1.mono HB.out.size)).size))
        clear ca hla hB1 hB2 HB
        go_wp2_with fail
        refine (rtnew_any (mv := .pointer none) (a := 0) (b := 0) (c := 0) (d := 0) (.inl rfl) (by omega)).mono ?_
        rintro e w3 ⟨g, q, rfl, _, _, hR, _, hX⟩
        have hB3 : Below w2.heap.size w2 w3 := hX.below (fun k hk => by simp [mB] at hk) (Nat.le_refl _)
        have c0 : w3.cell? ⟨g, 0, none⟩ = some (.slice none 0 0) := hR.hd.c 0 (by omega)
        have ca3 := (hB3.cell (p := ⟨ba, 0, none⟩) hla2).trans ca2
        have cb3 := (hB3.cell (p := ⟨bb, 0, none⟩) hlb).trans cb
        have HB3 := Lib.hid (HB2.out.trans (hB3.mono HB2.out.size))
        clear hR hX hB3 ca2 cb hla2 hlb HB2
        have C1 := goes_none 36 ba g false w3 c0 ca3 Tryz.call36 (fun fy y1 y2 W h => all1_nil _ ba W h)
        have HG2 := Lib.hid (fun W h1 h2 => goes_none 37 bb g true W h1 h2 Tryz.call37 (fun fy y1 y2 W h => back1_nil fy y1 y2 bb W h))
        go_wp2_with fail
        refine C1.mono ?_
        rintro e w4 ⟨rfl, hB4⟩
        have C2 := HG2.out w4 ((hB4.cell (p := ⟨g, 0, none⟩) (lt_of_cell c0)).trans c0) ((hB4.cell (p := ⟨bb, 0, none⟩) (lt_of_cell cb3)).trans cb3)
        have HB4 := Lib.hid (HB3.out.trans (hB4.mono HB3.out.size))
        clear C1 HG2 hB4 HB3 c0 ca3 cb3
        go_wp2_with fail
        refine C2.mono ?_
        rintro e w5 ⟨rfl, hB5⟩
        have HB5 := Lib.hid (HB4.out.trans (hB5.mono HB4.out.size))
        have CW := awake7_any w5
        clear C2 hB5 HB4
        go_wp2_with fail
        refine CW.mono ?_
        rintro e w6 ⟨rfl, hB6⟩
        have HB6 := HB5.out.trans (hB6.mono HB5.out.size)
        clear CW hB6 HB5
        go_wp2
        go_ret
        exact ⟨rfl, HB6⟩
  · have tn : 400 < (n : Int) := by omega
    have CW := awake7_any w
    go_enter Tryz.func6, Tryz.ntmps6
    go_wp2_with fail
    refine CW.mono ?_
    rintro e w1 ⟨rfl, hb⟩
    go_wp2
    go_ret
    exact ⟨rfl, hb⟩
end Go.Proofs.YthaijfjodfgbnaaGreat
