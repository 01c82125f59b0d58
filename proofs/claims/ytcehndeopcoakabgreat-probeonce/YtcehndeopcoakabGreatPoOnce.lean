/-
  ProbeOnce.
-/
import Derived.Test.YtcehndeopcoakabGreatPoMath
namespace Go.Proofs.YtcehndeopcoakabGreat
open Go.RowKit Go.WideShapes

/-- A turn that was laid down anew. -/
theorem tuB_new (w : World) (u : Tu) : Blk (w.alloc (.cells #[.int .i64 u.kind, .int .i64 u.key, .bool u.found, .int .i64 u.value, .int .i64 u.entry] 31)) w.heap.size 5 (tuB u) := by
  refine (Blk.new w _ _).congr fun j hj => ?_
  have : j = 0 ∨ j = 1 ∨ j = 2 ∨ j = 3 ∨ j = 4 := by simp at hj; omega
  rcases this with rfl | rfl | rfl | rfl | rfl <;> rfl
theorem tuB_put {w : World} {A : Nat} {F : Nat → Value} (h : Blk w A 5 F) (u : Tu) : Blk (putU w A u) A 5 (tuB u) := put5_blk h _ _ _ _ _
theorem putU_ex (w : World) (A : Nat) (u : Tu) : Ex (fun k => k = A) w (putU w A u) := by
  have hb := putU_below (B := 0) (w := w) A (Nat.zero_le _) u
  exact ⟨hb.os, hb.tape, hb.output, hb.size, fun k _ hk => putU_other w A u k hk⟩
/-- A machine's blocks lie below the heap's size. -/
theorem Aw.lts {K : Nat → Prop} {B : Nat} {w0 w : World} {d x : Nat} {t : Tb} {most : Int} {v : Nat} {m : Ma} {n g gi r h : Nat} {ev : Value} {s j f : Nat} (p : Aw K B w0 w d x t most v m n g gi r h ev s j f) : (∀ k, cX d g gi r h ev k → k < w.heap.size) ∧ x < w.heap.size ∧ s < w.heap.size := ⟨p.pd.dc.lt, p.mx.mc.lt (by omega), p.sw.sk.lt (by omega)⟩
/-- A new block is kept from now on. -/
theorem Aw.new {K : Nat → Prop} {B : Nat} {w0 w w' : World} {d x : Nat} {t : Tb} {most : Int} {v : Nat} {m : Ma} {n g gi r h : Nat} {ev : Value} {s j f : Nat} (p : Aw K B w0 w d x t most v m n g gi r h ev s j f) (hb : Below w.heap.size w w') (hl : w.heap.size < w'.heap.size) : Aw (fun k => k = w.heap.size) B w0 w' d x t most v m n g gi r h ev s j f := by
  obtain ⟨h1, h2, h3⟩ := p.lts
  exact (p.below hb).withK (fun k hk => ⟨by omega, fun hc => by have := h1 k hc; omega⟩) (by omega) (by omega)
theorem Pd.new {K : Nat → Prop} {B : Nat} {w0 w w' : World} {d g gi r h : Nat} {ev : Value} {t : Tb} {most : Int} {v : Nat} (p : Pd K B w0 w d g gi r h ev t most v) (hb : Below w.heap.size w w') (hl : w.heap.size < w'.heap.size) : Pd (fun k => k = w.heap.size) B w0 w' d g gi r h ev t most v :=
  (p.below hb).withK (fun k hk => ⟨by omega, fun hc => by have := p.dc.lt k hc; omega⟩)
theorem lwr_size {K : Nat → Prop} {B : Nat} {w0 : World} {d x : Nat} {t : Tb} {most : Int} {v : Nat} {m1 : Ma} {told : Int} {u : Tu} {w' : World} (h : LwR K B w0 d x t most v m1 told u w') : B ≤ w'.heap.size := by
  rcases h with ⟨_, _, _, _, _, _, _, _, _, _, _, _, _, p⟩ | ⟨_, _, hM⟩
  · exact p.pd.size
  · obtain ⟨_, _, _, _, _, _, _, _, p⟩ := hM.any
    exact p.size
set_option maxRecDepth 100000 in
set_option maxHeartbeats 8000000 in
theorem ponce_walk (a0 : Option Addr) (n0 c0 : Nat) (l : List Int) (hash same : Int) (w : World) (h0 : SlI w a0 n0 c0 l) :
    Calls Tryz.prog 3 #[.slice a0 n0 c0, .int .i64 hash, .int .i64 same] w fun e w' => e = .returned (.bool true) ∧ Below w.heap.size w w' := by
  obtain ⟨b, off, hb, hn, hcap, hcell⟩ := h0.open
  clear h0
  by_cases hb0 : n0 ≤ 200
  case neg =>
    have CW := awake8_any w
    have t0 : (200 : Int) < (n0 : Int) := by omega
    clear hcell
    go_enter Tryz.func3, Tryz.ntmps3
    go_wp2_with fail
    refine CW.mono ?_
    rintro e w' ⟨rfl, hB⟩
    clear CW
    go_wp2
    go_ret
    exact ⟨rfl, hB⟩
  case pos =>
    have t0 : ¬ (200 : Int) < (n0 : Int) := by omega
    have CN := lw_new w 1000 (by decide) (by decide)
    have HC : Hid (∀ W j, Below w.heap.size w W → j < n0 → a0 = some ⟨b, off, none⟩ ∧ W.cell? ⟨b, off + j, none⟩ = some (.int .i64 (l[j]?.getD 0))) := fun W j hW hj => ⟨(hb (by omega)).1, (hW.cell (p := ⟨b, off + j, none⟩) (hb (by omega)).2).trans (hcell j hj)⟩
    have HN := Lib.hid hn
    clear hb hcell hn
    go_enter Tryz.func3, Tryz.ntmps3
    go_wp2_with fail
    refine CN.mono ?_
    rintro e w1 ⟨d, g, gi, r, h, rfl, hP⟩
    clear CN
    have h1 := eqD d
    have HP := Lib.hid hP
    clear hP
    go_wp2_with fail
    go_loopw [9, 10, 11, 12] (fun iv _ _ _ wr => ∃ i : Nat, i ≤ n0 ∧ iv = .int .i64 (i : Int) ∧ Hid (∃ t g gi r h ev, Pd (fun _ => False) w.heap.size w wr d g gi r h ev t 1000 i ∧ Ad1 l i t)) (fun iv _ _ _ _ => n0 - (intOf iv).toNat)
    case atStart => exact ⟨0, Nat.zero_le _, rfl, ⟨Tb.new, g, gi, r, h, _, HP.out, Ad1.new l⟩⟩
    case round =>
      clear HP
      obtain ⟨i, hi, rfl, HI⟩ := hrel
      by_cases hil : i < n0
      · have ti : (i : Int) < (n0 : Int) := by omega
        obtain ⟨t, g2, gi2, r2, h2, ev2, hP, hA⟩ := HI.out
        obtain ⟨ha0, hc⟩ := HC.out wr i hP.bl hil
        subst ha0
        have CB := lw_begin hP 2 (by decide) (by decide) (l[i]?.getD 0) (i : Int) (i : Int)
        have HA := Lib.hid hA
        have HOK := Lib.hid hP.dc.ok
        clear hP hA HI
        obtain ⟨z, hz⟩ : ∃ z, l[i]?.getD 0 = z := ⟨_, rfl⟩
        rw [hz] at CB hc
        have HZ := Lib.hid hz
        clear hz
        go_wp2_with fail
        refine CB.mono ?_
        rintro e w2 ⟨x, rfl, hx, hkx, hnx, hm, hP, _⟩
        clear CB hc
        have hm2 := eqMa x
        have CS := fresh_step hP hx hm hnx hkx (HA.out.fit (by omega)) (fun n hn => by
          rw [(HA.out.key hn).1]
          have := ((HA.out.of _ _).1 hn).1
          omega)
        clear hP hm
        go_wp2_with fail
        refine CS.mono ?_
        rintro e w3 ⟨u, rfl, hL, _⟩
        clear CS
        unfold tuV
        obtain ⟨w4, hw4⟩ : ∃ y, w3.alloc (.cells #[.int .i64 u.kind, .int .i64 u.key, .bool u.found, .int .i64 u.value, .int .i64 u.entry] 31) = y := ⟨_, rfl⟩
        have hB4 : Below w3.heap.size w3 w4 := by rw [← hw4]; exact (Below.refl _ w3).alloc (Nat.le_refl _) _
        have hl4 : w3.heap.size < w4.heap.size := by rw [← hw4]; simp
        have hblk4 : Blk w4 w3.heap.size 5 (tuB u) := by rw [← hw4]; exact tuB_new w3 u
        have HIn : Hid (In1 w.heap.size w d x w3.heap.size l t i 0 w4) := in1_of (m := ⟨2, z, (i : Int), (i : Int), i, 1, Tu.zero, 0, false⟩) (told := -1) ⟨rfl, HZ.out.symm, rfl, rfl, rfl, rfl, rfl⟩ HA.out (by omega) HOK.out 0 (by decide) hL (lwr_size hL) hblk4 (fun _ _ _ _ _ _ _ _ _ _ p => p.new hB4 hl4) (fun _ _ _ _ _ _ _ p => p.new hB4 hl4)
        have HW4 := Lib.hid hw4
        clear hL hw4 hB4 hl4 hblk4
        go_upto_region 13 with fail
        rw [HW4.out]
        clear HW4
        generalize w3.heap.size = A at *
        go_wp2_with fail
        go_loopw [12] (fun nv wr => ∃ n : Nat, n ≤ n0 + 1 ∧ nv = .int .i64 (n : Int) ∧ Hid (In1 w.heap.size w d x A l t i n wr)) (fun nv _ => n0 + 1 - (intOf nv).toNat)
        case atStart => exact ⟨0, Nat.zero_le _, rfl, HIn⟩
        case round =>
          clear HIn
          obtain ⟨n, hn, rfl, HIn⟩ := hrel
          generalize wr = wq at *
          obtain ⟨u, hblk, hbA, hcase⟩ := HIn.out
          clear HIn
          by_cases hnl : n ≤ n0
          · have tn : (n : Int) ≤ (n0 : Int) := by omega
            rcases hcase with ⟨q, g5, gi5, r5, h5, ev5, s5, j5, f5, rfl, hnq, hqi, hAw⟩ | hdone
            · have c0' : wq.cell? ⟨A, 0, none⟩ = some (.int .i64 1) := hblk.c 0 (by omega)
              have CT := aw_tell hAw rfl false
              have HBL := Lib.hid hblk
              clear hAw hblk
              go_wp2_with fail
              refine CT.mono ?_
              rintro e w5 ⟨rfl, hAw, hkp⟩
              clear CT c0'
              have hbl5 := HBL.out.same (hkp A rfl)
              have CS := aw_step hAw rfl rfl (HA.out.fit (by omega)) (fun n hn => by
                rw [(HA.out.key hn).1]
                have := ((HA.out.of _ _).1 hn).1
                show (n : Int) ≠ (i : Int)
                omega)
              have HB5 := Lib.hid hbl5
              clear hAw hkp hbl5 HBL
              go_wp2_with fail
              refine CS.mono ?_
              rintro e w6 ⟨u6', rfl, hL, hkp⟩
              clear CS
              have hbl6 := HB5.out.same (hkp A rfl)
              have q0 := hbl6.c 0 (by omega)
              have q1 := hbl6.c 1 (by omega)
              have q2 := hbl6.c 2 (by omega)
              have q3 := hbl6.c 3 (by omega)
              have q4 := hbl6.c 4 (by omega)
              have z0 := hbl6.z 0
              have z1 := hbl6.z 1
              have z2 := hbl6.z 2
              have z3 := hbl6.z 3
              have z4 := hbl6.z 4
              have HI2 : Hid (In1 w.heap.size w d x A l t i (n + 1) (putU w6 A u6')) := in1_of (K := fun k => k = A) (l := l) (t := t) (i := i) (told := (q : Int)) ⟨rfl, rfl, rfl, rfl, rfl, rfl, rfl⟩ HA.out (by omega) HOK.out (n + 1) (by omega) hL hbA (tuB_put hbl6 u6') (fun _ _ _ _ _ _ _ _ _ _ p => p.touch (putU_ex _ _ _) (fun k hk => by rw [hk]; exact hbA)) (fun _ _ _ _ _ _ _ p => p.touch (putU_ex _ _ _) (fun k hk => by rw [hk]; exact hbA))
              clear hL hkp hbl6 HB5
              unfold putU put5 at HI2
              unfold tuV
              go_wp2_with fail
              go_roundw
              case rel => exact ⟨n + 1, by omega, by go_num, HI2⟩
              case measure => simp [intOf]; omega
            ·
              obtain ⟨rfl, g5, gi5, r5, h5, ev5, hP⟩ := hdone
              have c0' : wq.cell? ⟨A, 0, none⟩ = some (.int .i64 2) := hblk.c 0 (by omega)
              have c2' : wq.cell? ⟨A, 2, none⟩ = some (.bool false) := hblk.c 2 (by omega)
              have HO2 : Hid (∃ t g gi r h ev, Pd (fun _ => False) w.heap.size w wq d g gi r h ev t 1000 (i + 1) ∧ Ad1 l (i + 1) t) := ⟨_, g5, gi5, r5, h5, ev5, hP.noK, HA.out.add HOK.out (by omega)⟩
              clear hP hblk
              go_wp2_with fail
              go_roundw
              case rel => exact ⟨i + 1, by omega, by go_num, HO2⟩
              case measure => simp [intOf]; omega
          · have tn : ¬ (n : Int) ≤ (n0 : Int) := by omega
            rcases hcase with ⟨q, g5, gi5, r5, h5, ev5, s5, j5, f5, rfl, hnq, hqi, hAw⟩ | hdone
            · omega
            ·
              obtain ⟨rfl, g5, gi5, r5, h5, ev5, hP⟩ := hdone
              have c0' : wq.cell? ⟨A, 0, none⟩ = some (.int .i64 2) := hblk.c 0 (by omega)
              have c2' : wq.cell? ⟨A, 2, none⟩ = some (.bool false) := hblk.c 2 (by omega)
              have HO2 : Hid (∃ t g gi r h ev, Pd (fun _ => False) w.heap.size w wq d g gi r h ev t 1000 (i + 1) ∧ Ad1 l (i + 1) t) := ⟨_, g5, gi5, r5, h5, ev5, hP.noK, HA.out.add HOK.out (by omega)⟩
              clear hP hblk
              go_wp2_with fail
              go_roundw
              case rel => exact ⟨i + 1, by omega, by go_num, HO2⟩
              case measure => simp [intOf]; omega
      · have hin : i = n0 := by omega
        have ti : ¬ (i : Int) < (n0 : Int) := by omega
        obtain ⟨t, g2, gi2, r2, h2, ev2, hP, hA⟩ := HI.out
        rw [hin] at hP hA
        have CB := lw_begin hP 1 (by decide) (by decide) hash (-1) 0
        have HA := Lib.hid hA
        clear hP hA HI
        go_wp2_with fail
        refine CB.mono ?_
        rintro e w2 ⟨x, rfl, hx, hkx, hnx, hm, hP, _⟩
        clear CB
        have hm2 := eqMa x
        have CS := fresh_step hP hx hm hnx hkx (HA.out.fit (by omega)) (fun n hn => by
          rw [(HA.out.key hn).1]
          omega)
        clear hP hm ti hin hi
        go_wp2_with fail
        refine CS.mono ?_
        rintro e w3 ⟨u, rfl, hL, _⟩
        clear CS
        unfold tuV
        obtain ⟨w4, hw4⟩ : ∃ y, w3.alloc (.cells #[.int .i64 u.kind, .int .i64 u.key, .bool u.found, .int .i64 u.value, .int .i64 u.entry] 31) = y := ⟨_, rfl⟩
        have hB4 : Below w3.heap.size w3 w4 := by rw [← hw4]; exact (Below.refl _ w3).alloc (Nat.le_refl _) _
        have hl4 : w3.heap.size < w4.heap.size := by rw [← hw4]; simp
        have hblk4 : Blk w4 w3.heap.size 5 (tuB u) := by rw [← hw4]; exact tuB_new w3 u
        have HIn : Hid (In3 w.heap.size w d x w3.heap.size l t n0 hash same 0 w4) := in3_of (m := ⟨1, hash, -1, 0, n0, 1, Tu.zero, 0, false⟩) (told := -1) ⟨rfl, rfl, rfl, rfl, rfl, rfl, rfl⟩ HA.out 0 (by decide) (fun k hk => absurd hk (Nat.not_lt_zero _)) hL (lwr_size hL) hblk4 (fun _ _ _ _ _ _ _ _ _ _ p => p.new hB4 hl4) (fun _ _ _ _ _ _ _ p => p.new hB4 hl4) (fun m' s j hE _ _ => hE.of (hB4.block _ hE.lts.1) (hB4.block _ hE.lts.2))
        have HW4 := Lib.hid hw4
        clear hL hw4 hB4 hl4 hblk4
        go_upto_region 24 with fail
        rw [HW4.out]
        clear HW4
        generalize w3.heap.size = A at *
        go_wp2_with fail
        go_loopw [15] (fun nv wr => ∃ i : Nat, i ≤ n0 ∧ nv = .int .i64 (i : Int) ∧ Hid (In3 w.heap.size w d x A l t n0 hash same i wr)) (fun nv _ => n0 - (intOf nv).toNat)
        case atStart => exact ⟨0, Nat.zero_le _, rfl, HIn⟩
        case round =>
          clear HIn
          obtain ⟨i, hi, rfl, HIn⟩ := hrel
          generalize wr = wq at *
          obtain ⟨hns, u, hblk, hbA, hcase⟩ := HIn.out
          clear HIn
          have HNS := Lib.hid hns
          clear hns
          by_cases hil : i < n0
          · have ti : (i : Int) < (n0 : Int) := by omega
            have hbl0 : Below w.heap.size w wq := by
              rcases hcase with ⟨q, _, _, _, _, _, _, _, _, _, _, _, _, _, p⟩ | ⟨_, _, _, _, _, _, _, _, _, _, _, p⟩
              · exact p.pd.bl
              · exact p.bl
            obtain ⟨ha0, hc⟩ := HC.out wq i hbl0 hil
            clear hbl0
            subst ha0
            by_cases hz : l[i]?.getD 0 = hash
            · obtain ⟨g5, gi5, r5, h5, ev5, s5, j5, f5, hu, hAw⟩ : ∃ g gi r h ev s j f, u = ⟨1, (i : Int), false, 0, 0⟩ ∧ Aw (fun k => k = A) w.heap.size w wq d x t 1000 n0 ⟨1, hash, -1, 0, n0, 1, ⟨1, (i : Int), false, 0, 0⟩, (i : Int), false⟩ i g gi r h ev s j f := by
                rcases hcase with ⟨q, g5, gi5, r5, h5, ev5, s5, j5, f5, e1, e2, e3, e4, e5, p⟩ | ⟨e1, _⟩
                · have := e5 i hil hz (Nat.le_refl _)
                  have : q = i := by omega
                  subst this
                  exact ⟨g5, gi5, r5, h5, ev5, s5, j5, f5, e1, p⟩
                · exact absurd (e1 i hil hz) (Nat.lt_irrefl _)
              subst hu
              clear hcase
              have HOf : Hid (Of t.es hash i) := (HA.out.of _ _).2 ⟨hil, hz⟩
              have HHZ := Lib.hid hz
              rw [hz] at hc
              clear hz
              have tz : (hash != hash) = false := by simp
              have tk : ((i : Int) != (i : Int)) = false := by simp
              have c0' : wq.cell? ⟨A, 0, none⟩ = some (.int .i64 1) := hblk.c 0 (by omega)
              have c1' : wq.cell? ⟨A, 1, none⟩ = some (.int .i64 (i : Int)) := hblk.c 1 (by omega)
              have HBL := Lib.hid hblk
              clear hblk
              by_cases hs : (i : Int) = same
              · subst hs
                have te : ((i : Int) == (i : Int)) = true := by simp
                have CT := aw_tell hAw rfl true
                clear hAw
                go_wp2_with fail
                refine CT.mono ?_
                rintro e w5 ⟨rfl, hAw, hkp⟩
                clear CT c0' c1' hc tz tk
                have hbl5 := HBL.out.same (hkp A rfl)
                have CS := aw_same hAw rfl rfl (HA.out.fit (by omega)) rfl
                rw [(HA.out.key HOf.out).2] at CS
                have hkx := hAw.kx
                have hks := hAw.ks
                have HB5 := Lib.hid hbl5
                clear hAw hkp hbl5 HBL
                go_wp2_with fail
                refine CS.mono ?_
                rintro e w6 ⟨rfl, hE, hP, hkp⟩
                clear CS
                have hbl6 := HB5.out.same (hkp A rfl)
                have q0 := hbl6.c 0 (by omega)
                have q1 := hbl6.c 1 (by omega)
                have q2 := hbl6.c 2 (by omega)
                have q3 := hbl6.c 3 (by omega)
                have q4 := hbl6.c 4 (by omega)
                have z0 := hbl6.z 0
                have z1 := hbl6.z 1
                have z2 := hbl6.z 2
                have z3 := hbl6.z 3
                have z4 := hbl6.z 4
                have HBk : Hid (Blk (putU w6 A ⟨2, 0, true, (i : Int), (i : Int)⟩) A 5 (tuB ⟨2, 0, true, (i : Int), (i : Int)⟩)) := tuB_put hbl6 _
                have HFi : Hid (Fi3 w.heap.size w d x A t n0 (putU w6 A ⟨2, 0, true, (i : Int), (i : Int)⟩)) := ⟨_, _, _, _, _, _, _, _, hE.of (putU_other _ _ _ _ hkx) (putU_other _ _ _ _ hks), hP.touch (putU_ex _ _ _) (fun k hk => by rw [hk]; exact hbA)⟩
                clear hE hP hkp hbl6 HB5 hkx hks
                unfold putU put5 at HBk HFi
                unfold tuV
                go_upto_region 32 with fail
                generalize World.setCell (World.setCell (World.setCell (World.setCell (World.setCell w6 _ _) _ _) _ _) _ _) _ _ = wq at *
                clear q0 q1 q2 q3 q4 z0 z1 z2 z3 z4
                have hblk := HBk.out
                have hFi := HFi.out
                clear HBk HFi
                have hbl0 : Below w.heap.size w wq := by
                  obtain ⟨_, _, _, _, _, _, _, _, _, p⟩ := hFi
                  exact p.bl
                obtain ⟨_, hc⟩ := HC.out wq i hbl0 hil
                rw [HHZ.out] at hc
                clear hbl0
                have g1 : (0 : Int) ≤ (i : Int) := by omega
                have g3 : (hash == hash) = true := by simp
                have c0' : wq.cell? ⟨A, 0, none⟩ = some (.int .i64 2) := hblk.c 0 (by omega)
                have c2' : wq.cell? ⟨A, 2, none⟩ = some (.bool true) := hblk.c 2 (by omega)
                have c3' : wq.cell? ⟨A, 3, none⟩ = some (.int .i64 (i : Int)) := hblk.c 3 (by omega)
                obtain ⟨s9, j9, m9, g9, gi9, r9, h9, ev9, hE, hP⟩ := hFi
                have CSc := scans_any hE.mc
                rw [hE.scans] at CSc
                obtain ⟨_, _, _, _, _, _, hsk⟩ := hE.vi
                have CSn := scan_any hE.mc (hsk.c 7 (by omega))
                have CSi := psight_any hP.dc
                have hle := hE.le
                have hS : 2 ^ t.L ≤ 1048576 := Nat.le_trans (Nat.pow_le_pow_right (n := 2) (by decide) hP.dc.ok.sz.2) (by decide)
                have HBq := Lib.hid hP.bl
                clear hE hP hsk hblk
                unfold sgV at CSi
                generalize 2 ^ t.L = S at *
                have tw : IntKind.i64.wrap ((S : Int) + 13) = (S : Int) + 13 := i64_small (by omega) (by omega)
                have tle : (j9 : Int) ≤ (S : Int) + 13 := by omega
                have hfd := sg_field2
                go_wp2_with fail
                refine CSc.mono ?_
                rintro e v1 ⟨rfl, hv1⟩
                rw [hv1]
                clear CSc hv1
                go_wp2_with fail
                refine CSn.mono ?_
                rintro e v2 ⟨rfl, hv2⟩
                rw [hv2]
                clear CSn hv2
                go_wp2_with fail
                refine CSi.mono ?_
                rintro e w7 ⟨hc7, ev7, rfl, hSg7, hB7⟩
                clear CSi
                obtain ⟨ca, cn, cc, rfl⟩ : ∃ ca cn cc, ev7 = .slice ca cn cc := by
                  obtain ⟨a, cap, ge, hh, _⟩ := hSg7.es.es.open
                  exact ⟨a, _, cap, hh⟩
                have CW := awake8_any w7
                have HB7 := Lib.hid (HBq.out.trans (hB7.mono HBq.out.size))
                clear hSg7 hB7
                go_wp2_with fail
                refine CW.mono ?_
                rintro e w8 ⟨rfl, hb8⟩
                clear CW
                go_wp2
                go_ret
                exact ⟨rfl, HB7.out.trans (hb8.mono HB7.out.size)⟩
              · have te : ((i : Int) == same) = false := by rw [beq_eq_false_iff_ne]; exact hs
                have CT := aw_tell hAw rfl false
                clear hAw
                go_wp2_with fail
                refine CT.mono ?_
                rintro e w5 ⟨rfl, hAw, hkp⟩
                clear CT c0' c1' hc tz tk
                have hbl5 := HBL.out.same (hkp A rfl)
                have CS := aw_step hAw rfl rfl (HA.out.fit (by omega)) (fun n hn => by
                  rw [(HA.out.key hn).1]
                  show (n : Int) ≠ -1
                  omega)
                have HB5 := Lib.hid hbl5
                clear hAw hkp hbl5 HBL
                go_wp2_with fail
                refine CS.mono ?_
                rintro e w6 ⟨u6', rfl, hL, hkp⟩
                clear CS
                have hbl6 := HB5.out.same (hkp A rfl)
                have q0 := hbl6.c 0 (by omega)
                have q1 := hbl6.c 1 (by omega)
                have q2 := hbl6.c 2 (by omega)
                have q3 := hbl6.c 3 (by omega)
                have q4 := hbl6.c 4 (by omega)
                have z0 := hbl6.z 0
                have z1 := hbl6.z 1
                have z2 := hbl6.z 2
                have z3 := hbl6.z 3
                have z4 := hbl6.z 4
                have HI2 : Hid (In3 w.heap.size w d x A l t n0 hash same (i + 1) (putU w6 A u6')) := in3_of (K := fun k => k = A) (l := l) (t := t) (N := n0) (told := (i : Int)) ⟨rfl, rfl, rfl, rfl, rfl, rfl, rfl⟩ HA.out (i + 1) (by omega) (fun k hk he => by
                    rcases Nat.lt_or_ge k i with y | y
                    · exact HNS.out k y he
                    · rw [show k = i by omega]
                      exact hs) hL hbA (tuB_put hbl6 u6') (fun _ _ _ _ _ _ _ _ _ _ p => p.touch (putU_ex _ _ _) (fun k hk => by rw [hk]; exact hbA)) (fun _ _ _ _ _ _ _ p => p.touch (putU_ex _ _ _) (fun k hk => by rw [hk]; exact hbA)) (fun m' s j hE k1 k2 => hE.of (putU_other _ _ _ _ k2) (putU_other _ _ _ _ k1))
                clear hL hkp hbl6 HB5
                unfold putU put5 at HI2
                unfold tuV
                go_wp2_with fail
                go_roundw
                case rel => exact ⟨i + 1, by omega, by go_num, HI2⟩
                case measure => simp [intOf]; omega
            · have tz : (l[i]?.getD 0 != hash) = true := by rw [bne_iff_ne]; exact hz
              have HI2 : Hid (In3 w.heap.size w d x A l t n0 hash same (i + 1) wq) := by
                refine ⟨fun k hk he => ?_, u, hblk, hbA, ?_⟩
                · rcases Nat.lt_or_ge k i with y | y
                  · exact HNS.out k y he
                  · rw [show k = i by omega] at he
                    exact absurd he hz
                · rcases hcase with ⟨q, g5, gi5, r5, h5, ev5, s5, j5, f5, e1, e2, e3, e4, e5, p⟩ | ⟨e1, e2, e3⟩
                  · have : q ≠ i := fun e => hz (e ▸ e4)
                    exact .inl ⟨q, g5, gi5, r5, h5, ev5, s5, j5, f5, e1, by omega, e3, e4, fun k a1 a2 a3 => e5 k a1 a2 (by omega), p⟩
                  · exact .inr ⟨fun k a1 a2 => by have := e1 k a1 a2; omega, e2, e3⟩
              clear hcase hblk hz
              generalize l[i]?.getD 0 = z at *
              go_wp2_with fail
              go_roundw
              case rel => exact ⟨i + 1, by omega, by go_num, HI2⟩
              case measure => simp [intOf]; omega
          · have ti : ¬ (i : Int) < (n0 : Int) := by omega
            obtain ⟨hu, hFi⟩ : u = ⟨2, 0, false, 0, -1⟩ ∧ Fi3 w.heap.size w d x A t n0 wq := by
              rcases hcase with ⟨q, _, _, _, _, _, _, _, _, _, e2, e3, _⟩ | ⟨_, e2, e3⟩
              · omega
              · exact ⟨e2, e3⟩
            subst hu
            clear hcase
            by_cases g1 : (0 : Int) ≤ same
            · by_cases g2 : same < (n0 : Int)
              · obtain ⟨k, rfl⟩ : ∃ k : Nat, same = (k : Int) := ⟨same.toNat, by omega⟩
                have hk : k < n0 := by omega
                have hbl0 : Below w.heap.size w wq := by
                  obtain ⟨_, _, _, _, _, _, _, _, _, p⟩ := hFi
                  exact p.bl
                obtain ⟨ha0, hc⟩ := HC.out wq k hbl0 hk
                clear hbl0
                subst ha0
                have tz : (l[k]?.getD 0 == hash) = false := by
                  rw [beq_eq_false_iff_ne]
                  exact fun e => HNS.out k (by omega) e rfl
                generalize l[k]?.getD 0 = z at *
                have c0' : wq.cell? ⟨A, 0, none⟩ = some (.int .i64 2) := hblk.c 0 (by omega)
                have c2' : wq.cell? ⟨A, 2, none⟩ = some (.bool false) := hblk.c 2 (by omega)
                have c3' : wq.cell? ⟨A, 3, none⟩ = some (.int .i64 0) := hblk.c 3 (by omega)
                obtain ⟨s9, j9, m9, g9, gi9, r9, h9, ev9, hE, hP⟩ := hFi
                have CSc := scans_any hE.mc
                rw [hE.scans] at CSc
                obtain ⟨_, _, _, _, _, _, hsk⟩ := hE.vi
                have CSn := scan_any hE.mc (hsk.c 7 (by omega))
                have CSi := psight_any hP.dc
                have hle := hE.le
                have hS : 2 ^ t.L ≤ 1048576 := Nat.le_trans (Nat.pow_le_pow_right (n := 2) (by decide) hP.dc.ok.sz.2) (by decide)
                have HBq := Lib.hid hP.bl
                clear hE hP hsk hblk
                unfold sgV at CSi
                generalize 2 ^ t.L = S at *
                have tw : IntKind.i64.wrap ((S : Int) + 13) = (S : Int) + 13 := i64_small (by omega) (by omega)
                have tle : (j9 : Int) ≤ (S : Int) + 13 := by omega
                have hfd := sg_field2
                go_wp2_with fail
                refine CSc.mono ?_
                rintro e v1 ⟨rfl, hv1⟩
                rw [hv1]
                clear CSc hv1
                go_wp2_with fail
                refine CSn.mono ?_
                rintro e v2 ⟨rfl, hv2⟩
                rw [hv2]
                clear CSn hv2
                go_wp2_with fail
                refine CSi.mono ?_
                rintro e w7 ⟨hc7, ev7, rfl, hSg7, hB7⟩
                clear CSi
                obtain ⟨ca, cn, cc, rfl⟩ : ∃ ca cn cc, ev7 = .slice ca cn cc := by
                  obtain ⟨a, cap, ge, hh, _⟩ := hSg7.es.es.open
                  exact ⟨a, _, cap, hh⟩
                have CW := awake8_any w7
                have HB7 := Lib.hid (HBq.out.trans (hB7.mono HBq.out.size))
                clear hSg7 hB7
                go_wp2_with fail
                refine CW.mono ?_
                rintro e w8 ⟨rfl, hb8⟩
                clear CW
                go_wp2
                go_ret
                exact ⟨rfl, HB7.out.trans (hb8.mono HB7.out.size)⟩
              ·
                have c0' : wq.cell? ⟨A, 0, none⟩ = some (.int .i64 2) := hblk.c 0 (by omega)
                have c2' : wq.cell? ⟨A, 2, none⟩ = some (.bool false) := hblk.c 2 (by omega)
                have c3' : wq.cell? ⟨A, 3, none⟩ = some (.int .i64 0) := hblk.c 3 (by omega)
                obtain ⟨s9, j9, m9, g9, gi9, r9, h9, ev9, hE, hP⟩ := hFi
                have CSc := scans_any hE.mc
                rw [hE.scans] at CSc
                obtain ⟨_, _, _, _, _, _, hsk⟩ := hE.vi
                have CSn := scan_any hE.mc (hsk.c 7 (by omega))
                have CSi := psight_any hP.dc
                have hle := hE.le
                have hS : 2 ^ t.L ≤ 1048576 := Nat.le_trans (Nat.pow_le_pow_right (n := 2) (by decide) hP.dc.ok.sz.2) (by decide)
                have HBq := Lib.hid hP.bl
                clear hE hP hsk hblk
                unfold sgV at CSi
                generalize 2 ^ t.L = S at *
                have tw : IntKind.i64.wrap ((S : Int) + 13) = (S : Int) + 13 := i64_small (by omega) (by omega)
                have tle : (j9 : Int) ≤ (S : Int) + 13 := by omega
                have hfd := sg_field2
                go_wp2_with fail
                refine CSc.mono ?_
                rintro e v1 ⟨rfl, hv1⟩
                rw [hv1]
                clear CSc hv1
                go_wp2_with fail
                refine CSn.mono ?_
                rintro e v2 ⟨rfl, hv2⟩
                rw [hv2]
                clear CSn hv2
                go_wp2_with fail
                refine CSi.mono ?_
                rintro e w7 ⟨hc7, ev7, rfl, hSg7, hB7⟩
                clear CSi
                obtain ⟨ca, cn, cc, rfl⟩ : ∃ ca cn cc, ev7 = .slice ca cn cc := by
                  obtain ⟨a, cap, ge, hh, _⟩ := hSg7.es.es.open
                  exact ⟨a, _, cap, hh⟩
                have CW := awake8_any w7
                have HB7 := Lib.hid (HBq.out.trans (hB7.mono HBq.out.size))
                clear hSg7 hB7
                go_wp2_with fail
                refine CW.mono ?_
                rintro e w8 ⟨rfl, hb8⟩
                clear CW
                go_wp2
                go_ret
                exact ⟨rfl, HB7.out.trans (hb8.mono HB7.out.size)⟩
            ·
              have c0' : wq.cell? ⟨A, 0, none⟩ = some (.int .i64 2) := hblk.c 0 (by omega)
              have c2' : wq.cell? ⟨A, 2, none⟩ = some (.bool false) := hblk.c 2 (by omega)
              have c3' : wq.cell? ⟨A, 3, none⟩ = some (.int .i64 0) := hblk.c 3 (by omega)
              obtain ⟨s9, j9, m9, g9, gi9, r9, h9, ev9, hE, hP⟩ := hFi
              have CSc := scans_any hE.mc
              rw [hE.scans] at CSc
              obtain ⟨_, _, _, _, _, _, hsk⟩ := hE.vi
              have CSn := scan_any hE.mc (hsk.c 7 (by omega))
              have CSi := psight_any hP.dc
              have hle := hE.le
              have hS : 2 ^ t.L ≤ 1048576 := Nat.le_trans (Nat.pow_le_pow_right (n := 2) (by decide) hP.dc.ok.sz.2) (by decide)
              have HBq := Lib.hid hP.bl
              clear hE hP hsk hblk
              unfold sgV at CSi
              generalize 2 ^ t.L = S at *
              have tw : IntKind.i64.wrap ((S : Int) + 13) = (S : Int) + 13 := i64_small (by omega) (by omega)
              have tle : (j9 : Int) ≤ (S : Int) + 13 := by omega
              have hfd := sg_field2
              go_wp2_with fail
              refine CSc.mono ?_
              rintro e v1 ⟨rfl, hv1⟩
              rw [hv1]
              clear CSc hv1
              go_wp2_with fail
              refine CSn.mono ?_
              rintro e v2 ⟨rfl, hv2⟩
              rw [hv2]
              clear CSn hv2
              go_wp2_with fail
              refine CSi.mono ?_
              rintro e w7 ⟨hc7, ev7, rfl, hSg7, hB7⟩
              clear CSi
              obtain ⟨ca, cn, cc, rfl⟩ : ∃ ca cn cc, ev7 = .slice ca cn cc := by
                obtain ⟨a, cap, ge, hh, _⟩ := hSg7.es.es.open
                exact ⟨a, _, cap, hh⟩
              have CW := awake8_any w7
              have HB7 := Lib.hid (HBq.out.trans (hB7.mono HBq.out.size))
              clear hSg7 hB7
              go_wp2_with fail
              refine CW.mono ?_
              rintro e w8 ⟨rfl, hb8⟩
              clear CW
              go_wp2
              go_ret
              exact ⟨rfl, HB7.out.trans (hb8.mono HB7.out.size)⟩
end Go.Proofs.YtcehndeopcoakabGreat
