/-
  SharedNothing, walked.
-/
import Derived.Test.YtmgachknfeamkaaGreatShl
import Derived.Test.YtmgachknfeamkaaGreatShOpen
namespace Go.Proofs.YtmgachknfeamkaaGreat
open Go.RowKit Go.WideShapes

/-- What stands when the loop begins. -/
structure Nz (W : World) (f s q zs rw g gi r h : Nat) : Prop where
  zf : Zf W f g gi r h
  sp : Blk W s 3 (spF f 114 q 0)
  sd : Blk W q 2 (sdF f (.slice none 0 0))
  ze : Blk W zs 3 (fun j => #[Value.pointer none, .nilIface, .int .u64 0].getD j .nilFunc)
  ro : Blk W rw 2 (fun j => #[Value.pointer none, .pointer (some ⟨zs, 0, none⟩)].getD j .nilFunc)
theorem Nz.below {W W' : World} {f s q zs rw g gi r h : Nat} (x : Nz W f s q zs rw g gi r h) (hb : Below W.heap.size W W') : Nz W' f s q zs rw g gi r h :=
  ⟨x.zf.below hb, x.sp.of hb (by omega), x.sd.of hb (by omega), x.ze.of hb (by omega), x.ro.of hb (by omega)⟩
theorem Nz.at {W : World} {f s q zs rw g gi r h : Nat} (x : Nz W f s q zs rw g gi r h) {k : Nat} (hk : k < 2) : ∃ pv, W.cell? ⟨rw, k, none⟩ = some (.pointer pv) ∧ (∀ V, Below W.heap.size W V → NoS V pv) ∧ Calls Tryz.prog 22 #[.pointer pv] W fun e w' => e = .returned (.int .i64 0) ∧ w' = W := by
  have : k = 0 ∨ k = 1 := by omega
  rcases this with rfl | rfl
  · exact ⟨none, x.ro.c 0 (by omega), fun V _ => isNothing_nil V, version_nil W⟩
  · exact ⟨some ⟨zs, 0, none⟩, x.ro.c 1 (by omega), fun V hV => isNothing_zero ((x.ze.of hV (by omega)).c 1 (by omega)), version_zero (x.ze.c 2 (by omega))⟩
theorem neSp0 (w : World) : (binOp .neq 53 (.pointer none) (.pointer none)).run Tryz.prog w = .ok (.bool false) w := by kernel_rfl
set_option maxRecDepth 100000 in
set_option maxHeartbeats 8000000 in
theorem snothing10_walk (a : Option Addr) (n c : Nat) (G : Nat → Stp) (w : World) (hS : S4 w a n c G) :
    Calls Tryz.prog 5 #[.slice a n c] w fun e w' => e = .returned (.bool true) ∧ Below w.heap.size w w' := by
  have CM := much_any hS
  obtain ⟨hcap, b, off, hab, hG⟩ := hS
  have HG := Lib.hid hG
  have HAB := Lib.hid hab
  clear hG hab
  go_enter Tryz.func5, Tryz.ntmps5
  go_wp2_with fail
  refine CM.mono ?_
  rintro e w0 ⟨mb, rfl, hw0, hmu⟩
  rw [hw0]
  clear CM hw0
  cases mb with
  | true =>
    have CA := awake10_any w
    go_wp2_with fail
    refine CA.mono ?_
    rintro e w9 ⟨rfl, hB9⟩
    clear CA
    go_wp2
    go_ret
    exact ⟨rfl, hB9⟩
  | false =>
    obtain ⟨hn, hsz⟩ := hmu rfl
    have HSZ := Lib.hid hsz
    clear hmu hsz
    obtain ⟨w1, hw1⟩ : ∃ y, w.alloc (.cells #[.pointer none, .pointer none, .int .i64 0, .int .i64 0, .map none, .slice none 0 0] 58) = y := ⟨_, rfl⟩
    have hB1 : Below w.heap.size w w1 := by rw [← hw1]; exact (Below.refl _ w).alloc (Nat.le_refl _) _
    have hs1 : w1.heap.size = w.heap.size + 1 := by rw [← hw1]; simp
    have hX1 : Blk w1 w.heap.size 6 (zF0 none) := by
      rw [← hw1]
      refine (Blk.new w _ _).congr fun j hj => ?_
      have : j = 0 ∨ j = 1 ∨ j = 2 ∨ j = 3 ∨ j = 4 ∨ j = 5 := by simp at hj; omega
      rcases this with rfl | rfl | rfl | rfl | rfl | rfl <;> rfl
    obtain ⟨w2, hw2⟩ : ∃ y, w1.alloc (.cells #[.pointer none, .nilIface, .int .u64 0] 63) = y := ⟨_, rfl⟩
    have hB2 : Below w1.heap.size w1 w2 := by rw [← hw2]; exact (Below.refl _ w1).alloc (Nat.le_refl _) _
    have hs2 : w2.heap.size = w.heap.size + 2 := by rw [← hw2]; simp; omega
    have hX2 : Blk w2 w1.heap.size 3 (fun j => #[Value.pointer none, .nilIface, .int .u64 0].getD j .nilFunc) := by rw [← hw2]; exact Blk.new w1 _ _
    rw [hs1] at hX2
    obtain ⟨w3, hw3⟩ : ∃ y, w2.alloc (.cells #[.pointer none, .pointer (some ⟨w.heap.size + 1, 0, none⟩)] 53) = y := ⟨_, rfl⟩
    have hB3 : Below w2.heap.size w2 w3 := by rw [← hw3]; exact (Below.refl _ w2).alloc (Nat.le_refl _) _
    have hX3 : Blk w3 w2.heap.size 2 (fun j => #[Value.pointer none, .pointer (some ⟨w.heap.size + 1, 0, none⟩)].getD j .nilFunc) := by rw [← hw3]; exact Blk.new w2 _ _
    rw [hs2] at hX3
    have hY2 := hX2.of hB3 (by omega)
    have hY1 := (hX1.of hB2 (by omega)).of hB3 (by omega)
    have HB3 : Hid (Below w.heap.size w w3) := hB1.trans ((hB2.trans (hB3.mono hB2.size)).mono hB1.size)
    have HW1 := Lib.hid hw1
    have HW2 := Lib.hid hw2
    have HW3 := Lib.hid hw3
    have hs3 : w.heap.size ≤ w3.heap.size := HB3.out.size
    have h0 := neSp0
    have CM := make_nil w3
    have CN := names_nil w3
    clear hw1 hw2 hw3 hB1 hB2 hB3 hX1 hX2
    go_upto_region 7 with fail
    rw [HW1.out, HW2.out, HW3.out]
    try rw [hs1]
    try rw [hs2]
    clear HW1 HW2 HW3
    have HX3 := Lib.hid hX3
    have HY2 := Lib.hid hY2
    have HY1 := Lib.hid hY1
    clear hX3 hY1 hY2 hs1 hs2
    go_wp2_with fail
    refine CM.mono ?_
    rintro e w4 ⟨rfl, rfl⟩
    clear CM
    go_wp2_with fail
    refine CN.mono ?_
    rintro e w5 ⟨rfl, hB5⟩
    clear CN
    have CS := fsight_nil w5
    go_wp2_with fail
    refine CS.mono ?_
    rintro e w6 ⟨rfl, hB6⟩
    clear CS
    have CT := sight10_none w6
    unfold siV at CT ⊢
    go_wp2_with fail
    refine CT.mono ?_
    rintro e w7 ⟨rfl, hB7⟩
    clear CT
    have hB47 := hB5.trans ((hB6.trans (hB7.mono hB6.size)).mono hB5.size)
    have CK := make_at w7 w.heap.size
    clear hB5 hB6 hB7
    go_wp2_with fail
    refine CK.mono ?_
    rintro e w8 ⟨s, q, rfl, hSp, hSd, hge1, hge2, hB8⟩
    clear CK
    have hB48 := hB47.trans (hB8.mono hB47.size)
    have CN := names_zero (HY1.out.of hB48 (by omega))
    have h2 := eqSp s
    have hs48 := hB48.size
    have hs47 := hB47.size
    have hs78 := hB8.size
    have ls := hSp.lt (by omega)
    have lq := hSd.lt (by omega)
    have l1 := HY1.out.lt (by omega)
    have HSp := Lib.hid hSp
    have HSd := Lib.hid hSd
    have HB48 := Lib.hid hB48
    clear hSp hSd hB8 hB47 hB48
    go_wp2_with fail
    refine CN.mono ?_
    rintro e w9 ⟨rfl, ⟨g, gi, r, h, hZ⟩, hx9⟩
    clear CN h2
    have hNz : Nz w9 w.heap.size s q (w.heap.size + 1) (w.heap.size + 2) g gi r h := by
      refine ⟨hZ, HSp.out.same (hx9.block _ ls (by omega)), HSd.out.same (hx9.block _ lq (by omega)), (HY2.out.of HB48.out (by omega)).same (hx9.block _ ?_ (by omega)), (HX3.out.of HB48.out (by omega)).same (hx9.block _ ?_ (by omega))⟩
      · have := HY2.out.lt (by omega); omega
      · have := HX3.out.lt (by omega); omega
    have HB9 : Hid (Below w.heap.size w w9) := HB3.out.trans ((HB48.out.mono hs3).trans (hx9.below (fun k hk => by omega) (by omega)))
    have HNZ := Lib.hid hNz
    clear hNz hZ hx9 HSp HSd HB48 HY1 HY2 HX3
    go_wp2_with fail
    go_loopw [8, 9, 10, 11, 12] (fun iv _ _ _ _ wr => ∃ i : Nat, i ≤ n ∧ iv = .int .i64 (i : Int) ∧ Below w9.heap.size w9 wr) (fun iv _ _ _ _ _ => n - (intOf iv).toNat)
    case atStart => exact ⟨0, Nat.zero_le _, rfl, Below.refl _ _⟩
    case round =>
      obtain ⟨i, hi, rfl, hB⟩ := hrel
      by_cases hlt : i < n
      · obtain ⟨rfl, hbl⟩ := HAB.out (by omega)
        have ti : (i : Int) < (n : Int) := by omega
        have e5 : IntKind.i64.wrap ((i : Int) + 1) = ((i + 1 : Nat) : Int) := by rw [i64_small (by omega) (by omega)]; omega
        have hBw : Below w.heap.size w wr := HB9.out.trans (hB.mono HB9.out.size)
        obtain ⟨g0, g1, g2, g3⟩ := HG.out i hlt
        have c0 : wr.cell? ⟨b, off + i * 4, none⟩ = some (.int .i64 (G i).kind) := (hBw.cell (p := ⟨b, off + (i * 4 + 0), none⟩) hbl).trans g0
        have c1 : wr.cell? ⟨b, off + i * 4 + 1, none⟩ = some (.int .i64 (G i).s) := (hBw.cell (p := ⟨b, off + (i * 4 + 1), none⟩) hbl).trans g1
        have c2 : wr.cell? ⟨b, off + i * 4 + 2, none⟩ = some (.string (G i).name) := (hBw.cell (p := ⟨b, off + (i * 4 + 2), none⟩) hbl).trans g2
        have c3 : wr.cell? ⟨b, off + i * 4 + 3, none⟩ = some (.int .i64 (G i).value) := (hBw.cell (p := ⟨b, off + (i * 4 + 3), none⟩) hbl).trans g3
        have hnm := HSZ.out i hlt
        generalize (G i).kind = x0 at c0
        generalize (G i).s = x1 at c1
        generalize (G i).name = nm at c2 hnm
        generalize (G i).value = x3 at c3
        clear g0 g1 g2 g3 hBw
        obtain ⟨wx, hwx⟩ : ∃ y, wr.alloc (.cells #[.int .i64 x0, .int .i64 x1, .string nm, .int .i64 x3] 74) = y := ⟨_, rfl⟩
        have hX : Blk wx wr.heap.size 4 (fun j => #[Value.int .i64 x0, .int .i64 x1, .string nm, .int .i64 x3].getD j .nilFunc) := by rw [← hwx]; exact Blk.new wr _ _
        have hBx : Below w9.heap.size w9 wx := by rw [← hwx]; exact hB.alloc hB.size _
        have HX := Lib.hid hX
        have HBX := Lib.hid hBx
        have HWX := Lib.hid hwx
        clear hwx hX hBx hB
        go_upto_region 16 with fail
        rw [HWX.out]
        clear HWX c0 c1 c2 c3
        generalize wr.heap.size = gx at HX ⊢
        clear wr
        go_wp2_with fail
        go_loopw [10, 11, 12] (fun kv _ _ wr => ∃ k : Nat, k ≤ 2 ∧ kv = .int .i64 (k : Int) ∧ Below wx.heap.size wx wr) (fun kv _ _ _ => 2 - (intOf kv).toNat)
        case atStart => exact ⟨0, by omega, rfl, Below.refl _ _⟩
        case round =>
          obtain ⟨k, hk, rfl, hBk⟩ := hrel
          have hXk := HX.out.of hBk (by omega)
          have hNk := HNZ.out.below (HBX.out.trans (hBk.mono HBX.out.size))
          by_cases hk2 : k < 2
          · have tk : (k : Int) < 2 := by omega
            have e6 : IntKind.i64.wrap ((k : Int) + 1) = ((k + 1 : Nat) : Int) := by rw [i64_small (by omega) (by omega)]; omega
            have hND := hNk.below ((Below.refl _ wr).drew)
            have hDD := hND.below ((Below.refl _ wr.drew).drew)
            obtain ⟨pv0, u0, hNo0, _⟩ := hND.at hk2
            have u2 : wr.drew.cell? ⟨gx, 2, none⟩ = some (.string nm) := hXk.c 2 (by omega)
            have CG := get_not (hNo0 _ (Below.refl _ _)) nm
            obtain ⟨pv, y0, hNo, CV⟩ := hDD.at hk2
            have y2 : wr.drew.drew.cell? ⟨gx, 2, none⟩ = some (.string nm) := hXk.c 2 (by omega)
            have y3 : wr.drew.drew.cell? ⟨gx, 3, none⟩ = some (.int .i64 x3) := hXk.c 3 (by omega)
            have hN0 := hNo _ (Below.refl _ _)
            have CSe := set_not hN0 nm x3
            have CD := del_not hN0 nm
            have CL := len_not hN0
            have CP := pairs_not hN0
            have CSh := shared_not hN0
            have CSi := ssight_not (w := wr.drew.drew) hNo
            have HC10 : Hid (∀ V, Calls Tryz.prog 15 #[.agg #[.int .i64 0, .int .i64 0, .slice none 0 0, .slice none 0 0, .int .i64 0, .int .i64 0, .int .i64 0], .agg #[.int .i64 0, .int .i64 0, .slice none 0 0, .slice none 0 0, .int .i64 0, .int .i64 0, .int .i64 0]] V fun e w' => e = .returned (.bool true) ∧ Below V.heap.size V w') := fun V => sight10_none V
            have HKP : Hid (∀ V, Below wr.drew.drew.heap.size wr.drew.drew V → (V.cell? ⟨w.heap.size + 2, k, none⟩ = some (.pointer pv) ∧ V.cell? ⟨gx, 2, none⟩ = some (.string nm) ∧ V.cell? ⟨gx, 3, none⟩ = some (.int .i64 x3))) := fun V hV => ⟨(hV.cell (lt_of_cell y0)).trans y0, (hV.cell (lt_of_cell y2)).trans y2, (hV.cell (lt_of_cell y3)).trans y3⟩
            have HBK := Lib.hid hBk
            clear hNo hN0 hND hNk hXk hBk hDD hNo0
            unfold siV at CSi
            go_wp2_with fail
            go_region_held3 (fun V => V.cell? ⟨w.heap.size + 2, k, none⟩ = some (.pointer pv0) ∧ V.cell? ⟨gx, 2, none⟩ = some (.string nm)) (first | with_reducible exact ⟨u0, u2⟩ | fail) (first | (go_at_call 17; refine CG.mono ?_; rintro e w4 ⟨rfl, rfl⟩) | fail)
            clear CG
            go_wp2_with fail
            go_region_held3 (fun V => V.cell? ⟨w.heap.size + 2, k, none⟩ = some (.pointer pv) ∧ V.cell? ⟨gx, 2, none⟩ = some (.string nm) ∧ V.cell? ⟨gx, 3, none⟩ = some (.int .i64 x3))
              (first | with_reducible exact ⟨y0, y2, y3⟩ | with_reducible exact HS2.out.1 | with_reducible exact HS1.out.1 | fail)
              (first | (go_at_call 18; refine CSe.mono ?_; rintro e w4 ⟨rfl, rfl⟩) | (go_at_call 19; refine CD.mono ?_; rintro e w4 ⟨rfl, rfl⟩) | (go_at_call 20; refine CL.mono ?_; rintro e w4 ⟨rfl, rfl⟩) | (go_at_call 21; refine CP.mono ?_; rintro e w4 ⟨rfl, rfl⟩) | (go_at_call 22; refine CV.mono ?_; rintro e w4 ⟨rfl, rfl⟩) | (go_at_call 23; refine CSh.mono ?_; rintro e w4 ⟨rfl, rfl⟩) | (go_at_call 24; refine CSi.mono ?_; rintro e w4 ⟨rfl, hB4⟩; have HS1 := Lib.hid (And.intro (HKP.out w4 hB4) hB4); clear hB4) | (go_at_call 15; refine (HC10.out _).mono ?_; rintro e w5 ⟨rfl, hB5⟩; have HS2 := Lib.hid (And.intro (HKP.out w5 (HS1.out.2.trans (hB5.mono HS1.out.2.size))) (HS1.out.2.trans (hB5.mono HS1.out.2.size))); clear hB5) | fail)
            go_wp2_with fail
            go_roundw
            case rel => exact ⟨k + 1, by omega, by first | rfl | trivial, HBK.out.trans ((((Below.refl _ wr).drew.drew).trans HS2.out.2).mono HBK.out.size)⟩
            case measure => simp [intOf]; omega
          · obtain rfl : k = 2 := by omega
            have tk : ¬ ((2 : Nat) : Int) < 2 := by omega
            have y2 : wr.cell? ⟨gx, 2, none⟩ = some (.string nm) := hXk.c 2 (by omega)
            have y3 : wr.cell? ⟨gx, 3, none⟩ = some (.int .i64 x3) := hXk.c 3 (by omega)
            have CZ := set_zero hNk.zf.1 hNk.zf.2 hNk.sp hNk.sd (nm := nm) (by omega) x3
            have HNK := Lib.hid hNk
            have HBK := Lib.hid hBk
            clear hNk hXk hBk
            go_wp2_with fail
            refine CZ.mono ?_
            rintro e w4 ⟨rfl, hB4⟩
            clear CZ
            have hN4 := HNK.out.below hB4
            have CL : Calls Tryz.prog 20 #[.pointer (some ⟨s, 0, none⟩)] w4 fun e w' => e = .returned (.int .i64 0) ∧ w' = w4 := slen_row (n := 0) (cap := 0) (av := none) hN4.sp (hN4.sd.c 1 (by omega))
            have HB4 : Hid (Below w9.heap.size w9 w4) := HBX.out.trans ((HBK.out.trans (hB4.mono HBK.out.size)).mono HBX.out.size)
            clear hN4 hB4
            go_wp2_with fail
            refine CL.mono ?_
            rintro e w5 ⟨rfl, rfl⟩
            clear CL
            go_wp2_with fail
            go_roundw
            case rel => exact ⟨i + 1, by omega, by first | rfl | trivial, HB4.out⟩
            case measure => simp [intOf]; omega
      · obtain rfl : i = n := by omega
        have ti : ¬ (i : Int) < (i : Int) := by omega
        have CA := awake10_any wr
        go_wp2_with fail
        refine CA.mono ?_
        rintro e wz ⟨rfl, hBz⟩
        clear CA
        go_wp2
        go_ret
        exact ⟨rfl, HB9.out.trans ((hB.trans (hBz.mono hB.size)).mono HB9.out.size)⟩
end Go.Proofs.YtmgachknfeamkaaGreat
