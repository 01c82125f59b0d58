/-
  ProbeFull.
-/
import Derived.Test.YtcehndeopcoakaaGreatPoFull0
import Derived.Test.YtcehndeopcoakaaGreatPrNil
import Derived.Test.YtcehndeopcoakaaGreatOpn
namespace Go.Proofs.YtcehndeopcoakaaGreat
open Go.RowKit Go.WideShapes

theorem tuBF_new (w : World) (u : Tu) : Blk (w.alloc (.cells #[.int .i64 u.kind, .int .i64 u.key, .bool u.found, .int .i64 u.value, .int .i64 u.entry] 77)) w.heap.size 5 (tuB u) := by
  refine (Blk.new w _ _).congr fun j hj => ?_
  have : j = 0 ∨ j = 1 ∨ j = 2 ∨ j = 3 ∨ j = 4 := by simp at hj; omega
  rcases this with rfl | rfl | rfl | rfl | rfl <;> rfl
theorem tuBF_put {w : World} {A : Nat} {F : Nat → Value} (h : Blk w A 5 F) (u : Tu) : Blk (putU w A u) A 5 (tuB u) := put5_blk h _ _ _ _ _
theorem putUF_ex {X : Nat → Prop} (w : World) (A : Nat) (u : Tu) (h : X A) : Ex X w (putU w A u) := by
  have hb := putU_below (B := 0) (w := w) A (Nat.zero_le _) u
  exact ⟨hb.os, hb.tape, hb.output, hb.size, fun k _ hk => putU_other w A u k (fun e => hk (e ▸ h))⟩
theorem lwq_pd {K : Nat → Prop} {B : Nat} {w0 : World} {d x : Nat} {t : Tb} {most : Int} {v : Nat} {goal : Nat} {uh key value told : Int} {u : Tu} {w' : World} (q : LwQ K B w0 d x t most v goal uh key value told u w') : B ≤ w'.heap.size := by
  rcases q with ⟨n, _, _, _, (⟨_, _, g, gi, r, h, ev, p⟩ | ⟨_, _, g, gi, r, h, ev, s, j, f, p⟩)⟩ | ⟨_, hM⟩
  · exact p.size
  · exact p.pd.size
  · obtain ⟨_, _, _, _, _, _, _, _, p⟩ := hM.any
    exact p.size
set_option maxRecDepth 100000 in
set_option maxHeartbeats 8000000 in
theorem pfull_walk (most : Int) (a0 : Option Addr) (n0 c0 : Nat) (l : List Int) (w : World) (h0 : SlI w a0 n0 c0 l) :
    Calls Tryz.prog 8 #[.int .i64 most, .slice a0 n0 c0] w fun e w' => e = .returned (.bool true) ∧ Below w.heap.size w w' := by
  obtain ⟨b, off, hb, hn, hcap, hcell⟩ := h0.open
  clear h0
  by_cases hc0 : 0 ≤ most ∧ most ≤ 100 ∧ n0 ≤ 150
  case neg =>
    have CW := awake8_any w
    clear hcell
    by_cases h1 : most < 0
    · go_enter Tryz.func8, Tryz.ntmps8
      go_wp2_with fail
      refine CW.mono ?_
      rintro e w' ⟨rfl, hB⟩
      clear CW
      go_wp2
      go_ret
      exact ⟨rfl, hB⟩
    · by_cases h2 : 100 < most
      · go_enter Tryz.func8, Tryz.ntmps8
        go_wp2_with fail
        refine CW.mono ?_
        rintro e w' ⟨rfl, hB⟩
        clear CW
        go_wp2
        go_ret
        exact ⟨rfl, hB⟩
      · have t0 : (150 : Int) < (n0 : Int) := by omega
        go_enter Tryz.func8, Tryz.ntmps8
        go_wp2_with fail
        refine CW.mono ?_
        rintro e w' ⟨rfl, hB⟩
        clear CW
        go_wp2
        go_ret
        exact ⟨rfl, hB⟩
  case pos =>
    obtain ⟨hm0, hm1, hn0⟩ := hc0
    obtain ⟨M, rfl⟩ : ∃ M : Nat, most = (M : Int) := ⟨most.toNat, by omega⟩
    have s0 : ¬ (M : Int) < 0 := by omega
    have s1 : ¬ (100 : Int) < (M : Int) := by omega
    have s2 : ¬ (150 : Int) < (n0 : Int) := by omega
    have CN := lw_new w (M : Int) (by omega) (by omega)
    have HC : Hid (∀ W j, Below w.heap.size w W → j < n0 → a0 = some ⟨b, off, none⟩ ∧ W.cell? ⟨b, off + j, none⟩ = some (.int .i64 (l[j]?.getD 0))) := fun W j hW hj => ⟨(hb (by omega)).1, (hW.cell (p := ⟨b, off + j, none⟩) (hb (by omega)).2).trans (hcell j hj)⟩
    clear hb hcell hn
    go_enter Tryz.func8, Tryz.ntmps8
    go_wp2_with fail
    refine CN.mono ?_
    rintro e w1 ⟨d, g, gi, r, h, rfl, hP⟩
    clear CN
    have h1 := eqD d
    have HP : Hid (FuD (fun _ => False) w w1 d l M 0 0) := ⟨fun _ => 0, Tb.new, g, gi, r, h, _, 0, hP, by
      rw [mAt_min, show min M 0 = 0 by omega]
      exact Fl.new l _, by omega⟩
    clear hP
    go_wp2_with fail
    go_loopw [7, 8, 9, 10, 11, 12, 13, 14, 15] (fun iv _ _ _ _ _ _ _ _ wr => ∃ i : Nat, i ≤ n0 ∧ iv = .int .i64 (i : Int) ∧ FuD (fun _ => False) w wr d l M i 0) (fun iv _ _ _ _ _ _ _ _ _ => n0 - (intOf iv).toNat)
    case atStart => exact ⟨0, Nat.zero_le _, rfl, HP.out⟩
    case round =>
      clear HP h1
      obtain ⟨i, hi, rfl, hD⟩ := hrel
      by_cases hil : i < n0
      · have ti : (i : Int) < (n0 : Int) := by omega
        have HD0 := Lib.hid hD
        clear hD
        go_wp2_with fail
        rename World => wo
        go_loopw [8, 9, 10, 11, 12, 13, 14, 15] (fun tv _ _ _ _ _ _ _ wr => ∃ τ : Nat, τ ≤ 2 ∧ tv = .int .i64 (τ : Int) ∧ FuD (fun _ => False) w wr d l M i τ) (fun tv _ _ _ _ _ _ _ _ => 2 - (intOf tv).toNat)
        case atStart => exact ⟨0, Nat.zero_le _, rfl, HD0.out⟩
        case round =>
          clear HD0
          obtain ⟨τ, hτ, rfl, vs, t, g, gi, r, h, ev, v, hP, hFl, hv⟩ := hrel
          by_cases hτ2 : τ < 2
          · have tτ : (τ : Int) < 2 := by omega
            have hmA : mAt M i τ ≤ 200 := mAt_le (by omega) (by omega)
            have HMA := Lib.hid hmA
            obtain ⟨ha0, hc⟩ := HC.out wr i hP.bl hil
            subst ha0
            have CP := pairs_any hP.dc
            have HOK := Lib.hid hP.dc.ok
            have HFL := Lib.hid hFl
            have HP0 := Lib.hid hP
            have hnl : (liveL t.es).length ≤ 200 := by
              have := liveL_len t.es
              have := hFl.len
              omega
            have lb := hP.bl.size
            clear hP hFl hmA
            go_wp2_with fail
            refine CP.mono ?_
            rintro e w3 ⟨vw, rfl, hEw, hB3⟩
            clear CP
            obtain ⟨aw, capw, hvw, _⟩ := hEw.es.sl
            have hKw : ∀ k, vw.ownBlock = some k → w.heap.size ≤ k := fun k hk => by have := hEw.ge k hk; omega
            have hP3 := (HP0.out.below hB3).withK (K' := fun k => vw.ownBlock = some k) (fun k hk => ⟨hEw.es.lt k hk, fun hc => by have := HP0.out.dc.lt k hc; have := hEw.ge k hk; omega⟩)
            have CV := version_any (v := v) (by omega) (hP3.dc.hd.c 2 (by omega))
            have HEW3 := Lib.hid hEw.es
            have HP3 := Lib.hid hP3
            generalize hNN : (liveL t.es).length = NL at *
            have HNN := Lib.hid hNN
            subst hvw
            clear hEw hP3 HP0 hNN
            go_wp2_with fail
            refine CV.mono ?_
            rintro e w4 ⟨rfl, h4⟩
            clear CV
            have hP4 := HP3.out
            rw [← h4] at hP4
            have HEW4 := HEW3
            rw [← h4] at HEW4
            have c4 : w4.cell? ⟨b, off + i, none⟩ = some (.int .i64 (l[i]?.getD 0)) := (HC.out w4 i hP4.bl hil).2
            clear h4 HEW3 HP3 hc
            obtain rfl | rfl : τ = 0 ∨ τ = 1 := by omega
            · clear tτ hτ2 hτ
              have CB := rd_begin hP4 2 (by decide) (by decide) (l[i]?.getD 0) (i : Int) (((0 : Nat)) : Int)
              have HK4 : Hid (∀ k, (Value.slice aw NL capw).ownBlock = some k → w.heap.size ≤ k) := hKw
              clear hP4 hKw
              go_wp2_with fail
              refine CB.mono ?_
              rintro e w5 ⟨x, rfl, hR5, hK5⟩
              clear CB
              have hEw5 : Es w5 (Value.slice aw NL capw) (liveL t.es) := HEW4.out.same fun k hk => hK5 k hk
              have CS := rd_step hR5 (HFL.out.fit (by have := HMA.out; omega) (by omega))
              have h2 := eqMa x
              have HEW5 := Lib.hid hEw5
              clear hR5 hK5 hEw5
              go_wp2_with fail
              refine CS.mono ?_
              rintro e w6 ⟨u, rfl, hQ, hK6⟩
              clear CS h2
              unfold tuV
              obtain ⟨w7, hw7⟩ : ∃ y, w6.alloc (.cells #[.int .i64 u.kind, .int .i64 u.key, .bool u.found, .int .i64 u.value, .int .i64 u.entry] 77) = y := ⟨_, rfl⟩
              have hB7 : Below w6.heap.size w6 w7 := by rw [← hw7]; exact (Below.refl _ w6).alloc (Nat.le_refl _) _
              have hl7 : w6.heap.size < w7.heap.size := by rw [← hw7]; simp
              have hblk7 : Blk w7 w6.heap.size 5 (tuB u) := by rw [← hw7]; exact tuBF_new w6 u
              have hA7 : w.heap.size ≤ w6.heap.size := lwq_pd hQ
              have HL7 : Hid (FuL (fun k => k = w6.heap.size ∨ (Value.slice aw NL capw).ownBlock = some k) w w7 d x w6.heap.size l M i 0 2 (Value.slice aw NL capw) t v 0) := by
                have hE7 : Es w7 (Value.slice aw NL capw) (liveL t.es) := (HEW5.out.same fun k hk => hK6 k hk).same fun k hk => hB7.block k (by
                  have := (HEW5.out.same (w' := w6) fun k hk => hK6 k hk).lt k hk
                  exact this)
                refine ⟨u, hblk7, hE7, ?_⟩
                rcases fu_of (.inl rfl) (by omega) HFL.out hv HOK.out (by omega) (by omega) hQ with ⟨q, _, hqi, hu, g, gi, r, h, ev, s, j, f, hA⟩ | hF
                · exact .inl ⟨q, Nat.zero_le _, hqi, hu, g, gi, r, h, ev, s, j, f, hA.ext hB7 hl7⟩
                · exact .inr (hF.ext hB7 hl7)
              have HVA : Hid (∀ k, (Value.slice aw NL capw).ownBlock = some k → k ≠ w6.heap.size) := fun k hk => by have := (HEW5.out.same (w' := w6) fun k hk => hK6 k hk).lt k hk; omega
              have HW7 := Lib.hid hw7
              clear hQ hw7 hB7 hl7 hblk7 hK6 HEW5
              go_upto_region 21 with fail
              rw [HW7.out]
              clear HW7
              generalize w6.heap.size = A at *
              go_wp2_with fail
              go_loopw [14] (fun nv wr => ∃ n : Nat, n ≤ n0 + 1 ∧ nv = .int .i64 (n : Int) ∧ FuL (fun k => k = A ∨ (Value.slice aw NL capw).ownBlock = some k) w wr d x A l M i 0 2 (Value.slice aw NL capw) t v n) (fun nv _ => n0 + 1 - (intOf nv).toNat)
              case atStart => exact ⟨0, Nat.zero_le _, rfl, HL7.out⟩
              case round =>
                clear HL7
                obtain ⟨n, hn, rfl, u, hblk, hEw, hcase⟩ := hrel
                by_cases hnl : n ≤ n0
                · have tn : (n : Int) ≤ (n0 : Int) := by omega
                  rcases hcase with ⟨q, hnq, hqi, rfl, g5, gi5, r5, h5, ev5, s5, j5, f5, hAw⟩ | hF
                  · have p0 : wr.cell? ⟨A, 0, none⟩ = some (.int .i64 1) := hblk.c 0 (by omega)
                    have CT := rd_tell hAw
                    have HBL := Lib.hid hblk
                    have HEW := Lib.hid hEw
                    clear hAw hblk hEw
                    go_wp2_with fail
                    refine CT.mono ?_
                    rintro e w8 ⟨rfl, hR8, hK8⟩
                    clear CT p0
                    have CS := rd_step hR8 (HFL.out.fit (by have := HMA.out; omega) (by omega))
                    have HB8 := Lib.hid (HBL.out.same (hK8 A (.inl rfl)))
                    have HE8 := Lib.hid (HEW.out.same fun k hk => hK8 k (.inr hk))
                    clear hR8 hK8 HBL HEW
                    go_wp2_with fail
                    refine CS.mono ?_
                    rintro e w9 ⟨u9, rfl, hQ, hK9⟩
                    clear CS
                    have hbl9 := HB8.out.same (hK9 A (.inl rfl))
                    have hE9 : Es w9 (Value.slice aw NL capw) (liveL t.es) := HE8.out.same fun k hk => hK9 k (.inr hk)
                    have q0 := hbl9.c 0 (by omega)
                    have q1 := hbl9.c 1 (by omega)
                    have q2 := hbl9.c 2 (by omega)
                    have q3 := hbl9.c 3 (by omega)
                    have q4 := hbl9.c 4 (by omega)
                    have z0 := hbl9.z 0
                    have z1 := hbl9.z 1
                    have z2 := hbl9.z 2
                    have z3 := hbl9.z 3
                    have z4 := hbl9.z 4
                    have hneA : ∀ k, (Value.slice aw NL capw).ownBlock = some k → k ≠ A := HVA.out
                    have HL2 : Hid (FuL (fun k => k = A ∨ (Value.slice aw NL capw).ownBlock = some k) w (putU w9 A u9) d x A l M i 0 2 (Value.slice aw NL capw) t v (n + 1)) := by
                      have hx : Ex (fun k => k = A ∨ (Value.slice aw NL capw).ownBlock = some k) w9 (putU w9 A u9) := putUF_ex w9 A u9 (.inl rfl)
                      have hKB : ∀ k, (k = A ∨ (Value.slice aw NL capw).ownBlock = some k) → w.heap.size ≤ k := by
                        rintro k (rfl | hk)
                        · exact hA7
                        · exact HK4.out k hk
                      refine ⟨u9, tuBF_put hbl9 u9, hE9.same fun k hk => putU_other w9 A u9 k (hneA k hk), ?_⟩
                      rcases fu_of (.inl rfl) (by omega) HFL.out hv HOK.out (by omega) (by omega) hQ with ⟨q', hq', hqi', hu, g, gi, r, h, ev, s, j, f, hA⟩ | hF
                      · exact .inl ⟨q', by omega, hqi', hu, g, gi, r, h, ev, s, j, f, hA.touch hx hKB⟩
                      · exact .inr (hF.touch hx hKB)
                    have e14 : IntKind.i64.wrap ((n : Int) + 1) = ((n + 1 : Nat) : Int) := by rw [i64_small (by omega) (by omega)]; omega
                    clear hQ hK9 hbl9 hE9 HB8 HE8
                    unfold putU put5 at HL2
                    unfold tuV
                    go_wp2_with fail
                    go_roundw
                    case rel => exact ⟨n + 1, by omega, rfl, HL2.out⟩
                    case measure => simp [intOf]; omega
                  ·
                    rcases hF with ⟨hMi, rfl, g8, gi8, r8, h8, ev8, hP8⟩ | ⟨hMi, hk8, hf8, hD8⟩
                    · have tM : (M : Int) ≤ (i : Int) := by omega
                      have p0 : wr.cell? ⟨A, 0, none⟩ = some (.int .i64 3) := hblk.c 0 (by omega)
                      have p2 : wr.cell? ⟨A, 2, none⟩ = some (.bool false) := hblk.c 2 (by omega)
                      have CP := pairs_any hP8.dc
                      have HP8 := Lib.hid hP8
                      have HEW := Lib.hid hEw
                      clear hblk hP8 hEw
                      go_wp2_with fail
                      refine CP.mono ?_
                      rintro e w9 ⟨vc, rfl, hEc, hB9⟩
                      clear CP
                      obtain ⟨ac, capc, hvc, hSc⟩ := hEc.es.sl
                      obtain ⟨_, _, hvb, hSb⟩ := (HEW.out.same (w' := w9) fun j hj => hB9.block j (HEW.out.lt j hj)).sl
                      rw [HNN.out] at hvc hSc hvb hSb
                      cases hvb
                      subst hvc
                      have CE := entries8_any ac aw NL capc capw (liveL t.es) w9 hSc hSb (by omega)
                      have hP9 := HP8.out.below hB9
                      have HP9 := Lib.hid hP9
                      clear hEc hSc hSb hP9 HEW HP8
                      go_wp2_with fail
                      refine CE.mono ?_
                      rintro e w10 ⟨rfl, hB10⟩
                      clear CE
                      have hP10 := HP9.out.below hB10
                      have CV := version_any (v := v) (by omega) (hP10.dc.hd.c 2 (by omega))
                      have HD : Hid (FuD (fun _ => False) w w10 d l M i (0 + 1)) := ⟨vs, t, g8, gi8, r8, h8, ev8, v, hP10.noK, by
                        have : mAt M i (0 + 1) = mAt M i 0 := by unfold mAt; rw [if_neg (by omega), if_neg (by omega)]
                        rw [this]
                        exact HFL.out, by omega⟩
                      clear hP10 HP9
                      go_wp2_with fail
                      refine CV.mono ?_
                      rintro e w11 ⟨rfl, rfl⟩
                      clear CV
                      go_wp2_with fail
                      go_roundw
                      case rel => exact ⟨0 + 1, by omega, by first | rfl | go_num, HD.out⟩
                      case measure => first | (simp [intOf]; done) | (simp [intOf]; omega)
                    · have tM : ¬ (M : Int) ≤ (i : Int) := by omega
                      have p0 : wr.cell? ⟨A, 0, none⟩ = some (.int .i64 2) := by rw [← hk8]; exact hblk.c 0 (by omega)
                      have p2 : wr.cell? ⟨A, 2, none⟩ = some (.bool false) := by rw [show false = u.found by rw [hf8]; rfl]; exact hblk.c 2 (by omega)
                      have HD : Hid (FuD (fun _ => False) w wr d l M i (0 + 1)) := by
                        obtain ⟨vs', t', g, gi, r, h, ev, v', p, q⟩ := hD8
                        exact ⟨vs', t', g, gi, r, h, ev, v', p.noK, q⟩
                      clear hblk hD8 hk8 hf8 hEw
                      go_wp2_with fail
                      go_roundw
                      case rel => exact ⟨0 + 1, by omega, by first | rfl | go_num, HD.out⟩
                      case measure => first | (simp [intOf]; done) | (simp [intOf]; omega)
                · have tn : ¬ (n : Int) ≤ (n0 : Int) := by omega
                  rcases hcase with ⟨q, hnq, hqi, _⟩ | hF
                  · omega
                  ·
                    rcases hF with ⟨hMi, rfl, g8, gi8, r8, h8, ev8, hP8⟩ | ⟨hMi, hk8, hf8, hD8⟩
                    · have tM : (M : Int) ≤ (i : Int) := by omega
                      have p0 : wr.cell? ⟨A, 0, none⟩ = some (.int .i64 3) := hblk.c 0 (by omega)
                      have p2 : wr.cell? ⟨A, 2, none⟩ = some (.bool false) := hblk.c 2 (by omega)
                      have CP := pairs_any hP8.dc
                      have HP8 := Lib.hid hP8
                      have HEW := Lib.hid hEw
                      clear hblk hP8 hEw
                      go_wp2_with fail
                      refine CP.mono ?_
                      rintro e w9 ⟨vc, rfl, hEc, hB9⟩
                      clear CP
                      obtain ⟨ac, capc, hvc, hSc⟩ := hEc.es.sl
                      obtain ⟨_, _, hvb, hSb⟩ := (HEW.out.same (w' := w9) fun j hj => hB9.block j (HEW.out.lt j hj)).sl
                      rw [HNN.out] at hvc hSc hvb hSb
                      cases hvb
                      subst hvc
                      have CE := entries8_any ac aw NL capc capw (liveL t.es) w9 hSc hSb (by omega)
                      have hP9 := HP8.out.below hB9
                      have HP9 := Lib.hid hP9
                      clear hEc hSc hSb hP9 HEW HP8
                      go_wp2_with fail
                      refine CE.mono ?_
                      rintro e w10 ⟨rfl, hB10⟩
                      clear CE
                      have hP10 := HP9.out.below hB10
                      have CV := version_any (v := v) (by omega) (hP10.dc.hd.c 2 (by omega))
                      have HD : Hid (FuD (fun _ => False) w w10 d l M i (0 + 1)) := ⟨vs, t, g8, gi8, r8, h8, ev8, v, hP10.noK, by
                        have : mAt M i (0 + 1) = mAt M i 0 := by unfold mAt; rw [if_neg (by omega), if_neg (by omega)]
                        rw [this]
                        exact HFL.out, by omega⟩
                      clear hP10 HP9
                      go_wp2_with fail
                      refine CV.mono ?_
                      rintro e w11 ⟨rfl, rfl⟩
                      clear CV
                      go_wp2_with fail
                      go_roundw
                      case rel => exact ⟨0 + 1, by omega, by first | rfl | go_num, HD.out⟩
                      case measure => first | (simp [intOf]; done) | (simp [intOf]; omega)
                    · have tM : ¬ (M : Int) ≤ (i : Int) := by omega
                      have p0 : wr.cell? ⟨A, 0, none⟩ = some (.int .i64 2) := by rw [← hk8]; exact hblk.c 0 (by omega)
                      have p2 : wr.cell? ⟨A, 2, none⟩ = some (.bool false) := by rw [show false = u.found by rw [hf8]; rfl]; exact hblk.c 2 (by omega)
                      have HD : Hid (FuD (fun _ => False) w wr d l M i (0 + 1)) := by
                        obtain ⟨vs', t', g, gi, r, h, ev, v', p, q⟩ := hD8
                        exact ⟨vs', t', g, gi, r, h, ev, v', p.noK, q⟩
                      clear hblk hD8 hk8 hf8 hEw
                      go_wp2_with fail
                      go_roundw
                      case rel => exact ⟨0 + 1, by omega, by first | rfl | go_num, HD.out⟩
                      case measure => first | (simp [intOf]; done) | (simp [intOf]; omega)
            · clear tτ hτ2 hτ
              by_cases hpar : i % 2 = 1
              · have hrem : Int.tmod (i : Int) 2 = 1 := by
                  have := (Int.ofNat_tmod i 2).symm
                  rw [hpar] at this
                  exact this
                clear hpar
                have CB := rd_begin hP4 4 (by decide) (by decide) (l[i]?.getD 0) (i : Int) (((1 : Nat)) : Int)
                have HK4 : Hid (∀ k, (Value.slice aw NL capw).ownBlock = some k → w.heap.size ≤ k) := hKw
                clear hP4 hKw
                go_wp2_with fail
                refine CB.mono ?_
                rintro e w5 ⟨x, rfl, hR5, hK5⟩
                clear CB
                have hEw5 : Es w5 (Value.slice aw NL capw) (liveL t.es) := HEW4.out.same fun k hk => hK5 k hk
                have CS := rd_step hR5 (HFL.out.fit (by have := HMA.out; omega) (by omega))
                have h2 := eqMa x
                have HEW5 := Lib.hid hEw5
                clear hR5 hK5 hEw5
                go_wp2_with fail
                refine CS.mono ?_
                rintro e w6 ⟨u, rfl, hQ, hK6⟩
                clear CS h2
                unfold tuV
                obtain ⟨w7, hw7⟩ : ∃ y, w6.alloc (.cells #[.int .i64 u.kind, .int .i64 u.key, .bool u.found, .int .i64 u.value, .int .i64 u.entry] 77) = y := ⟨_, rfl⟩
                have hB7 : Below w6.heap.size w6 w7 := by rw [← hw7]; exact (Below.refl _ w6).alloc (Nat.le_refl _) _
                have hl7 : w6.heap.size < w7.heap.size := by rw [← hw7]; simp
                have hblk7 : Blk w7 w6.heap.size 5 (tuB u) := by rw [← hw7]; exact tuBF_new w6 u
                have hA7 : w.heap.size ≤ w6.heap.size := lwq_pd hQ
                have HL7 : Hid (FuL (fun k => k = w6.heap.size ∨ (Value.slice aw NL capw).ownBlock = some k) w w7 d x w6.heap.size l M i 1 4 (Value.slice aw NL capw) t v 0) := by
                  have hE7 : Es w7 (Value.slice aw NL capw) (liveL t.es) := (HEW5.out.same fun k hk => hK6 k hk).same fun k hk => hB7.block k (by
                    have := (HEW5.out.same (w' := w6) fun k hk => hK6 k hk).lt k hk
                    exact this)
                  refine ⟨u, hblk7, hE7, ?_⟩
                  rcases fu_of (.inr rfl) (by omega) HFL.out hv HOK.out (by omega) (by omega) hQ with ⟨q, _, hqi, hu, g, gi, r, h, ev, s, j, f, hA⟩ | hF
                  · exact .inl ⟨q, Nat.zero_le _, hqi, hu, g, gi, r, h, ev, s, j, f, hA.ext hB7 hl7⟩
                  · exact .inr (hF.ext hB7 hl7)
                have HVA : Hid (∀ k, (Value.slice aw NL capw).ownBlock = some k → k ≠ w6.heap.size) := fun k hk => by have := (HEW5.out.same (w' := w6) fun k hk => hK6 k hk).lt k hk; omega
                have HW7 := Lib.hid hw7
                clear hQ hw7 hB7 hl7 hblk7 hK6 HEW5
                go_upto_region 21 with fail
                rw [HW7.out]
                clear HW7
                generalize w6.heap.size = A at *
                go_wp2_with fail
                go_loopw [14] (fun nv wr => ∃ n : Nat, n ≤ n0 + 1 ∧ nv = .int .i64 (n : Int) ∧ FuL (fun k => k = A ∨ (Value.slice aw NL capw).ownBlock = some k) w wr d x A l M i 1 4 (Value.slice aw NL capw) t v n) (fun nv _ => n0 + 1 - (intOf nv).toNat)
                case atStart => exact ⟨0, Nat.zero_le _, rfl, HL7.out⟩
                case round =>
                  clear HL7
                  obtain ⟨n, hn, rfl, u, hblk, hEw, hcase⟩ := hrel
                  by_cases hnl : n ≤ n0
                  · have tn : (n : Int) ≤ (n0 : Int) := by omega
                    rcases hcase with ⟨q, hnq, hqi, rfl, g5, gi5, r5, h5, ev5, s5, j5, f5, hAw⟩ | hF
                    · have p0 : wr.cell? ⟨A, 0, none⟩ = some (.int .i64 1) := hblk.c 0 (by omega)
                      have CT := rd_tell hAw
                      have HBL := Lib.hid hblk
                      have HEW := Lib.hid hEw
                      clear hAw hblk hEw
                      go_wp2_with fail
                      refine CT.mono ?_
                      rintro e w8 ⟨rfl, hR8, hK8⟩
                      clear CT p0
                      have CS := rd_step hR8 (HFL.out.fit (by have := HMA.out; omega) (by omega))
                      have HB8 := Lib.hid (HBL.out.same (hK8 A (.inl rfl)))
                      have HE8 := Lib.hid (HEW.out.same fun k hk => hK8 k (.inr hk))
                      clear hR8 hK8 HBL HEW
                      go_wp2_with fail
                      refine CS.mono ?_
                      rintro e w9 ⟨u9, rfl, hQ, hK9⟩
                      clear CS
                      have hbl9 := HB8.out.same (hK9 A (.inl rfl))
                      have hE9 : Es w9 (Value.slice aw NL capw) (liveL t.es) := HE8.out.same fun k hk => hK9 k (.inr hk)
                      have q0 := hbl9.c 0 (by omega)
                      have q1 := hbl9.c 1 (by omega)
                      have q2 := hbl9.c 2 (by omega)
                      have q3 := hbl9.c 3 (by omega)
                      have q4 := hbl9.c 4 (by omega)
                      have z0 := hbl9.z 0
                      have z1 := hbl9.z 1
                      have z2 := hbl9.z 2
                      have z3 := hbl9.z 3
                      have z4 := hbl9.z 4
                      have hneA : ∀ k, (Value.slice aw NL capw).ownBlock = some k → k ≠ A := HVA.out
                      have HL2 : Hid (FuL (fun k => k = A ∨ (Value.slice aw NL capw).ownBlock = some k) w (putU w9 A u9) d x A l M i 1 4 (Value.slice aw NL capw) t v (n + 1)) := by
                        have hx : Ex (fun k => k = A ∨ (Value.slice aw NL capw).ownBlock = some k) w9 (putU w9 A u9) := putUF_ex w9 A u9 (.inl rfl)
                        have hKB : ∀ k, (k = A ∨ (Value.slice aw NL capw).ownBlock = some k) → w.heap.size ≤ k := by
                          rintro k (rfl | hk)
                          · exact hA7
                          · exact HK4.out k hk
                        refine ⟨u9, tuBF_put hbl9 u9, hE9.same fun k hk => putU_other w9 A u9 k (hneA k hk), ?_⟩
                        rcases fu_of (.inr rfl) (by omega) HFL.out hv HOK.out (by omega) (by omega) hQ with ⟨q', hq', hqi', hu, g, gi, r, h, ev, s, j, f, hA⟩ | hF
                        · exact .inl ⟨q', by omega, hqi', hu, g, gi, r, h, ev, s, j, f, hA.touch hx hKB⟩
                        · exact .inr (hF.touch hx hKB)
                      have e14 : IntKind.i64.wrap ((n : Int) + 1) = ((n + 1 : Nat) : Int) := by rw [i64_small (by omega) (by omega)]; omega
                      clear hQ hK9 hbl9 hE9 HB8 HE8
                      unfold putU put5 at HL2
                      unfold tuV
                      go_wp2_with fail
                      go_roundw
                      case rel => exact ⟨n + 1, by omega, rfl, HL2.out⟩
                      case measure => simp [intOf]; omega
                    ·
                      rcases hF with ⟨hMi, rfl, g8, gi8, r8, h8, ev8, hP8⟩ | ⟨hMi, hk8, hf8, hD8⟩
                      · have tM : (M : Int) ≤ (i : Int) := by omega
                        have p0 : wr.cell? ⟨A, 0, none⟩ = some (.int .i64 3) := hblk.c 0 (by omega)
                        have p2 : wr.cell? ⟨A, 2, none⟩ = some (.bool false) := hblk.c 2 (by omega)
                        have CP := pairs_any hP8.dc
                        have HP8 := Lib.hid hP8
                        have HEW := Lib.hid hEw
                        clear hblk hP8 hEw
                        go_wp2_with fail
                        refine CP.mono ?_
                        rintro e w9 ⟨vc, rfl, hEc, hB9⟩
                        clear CP
                        obtain ⟨ac, capc, hvc, hSc⟩ := hEc.es.sl
                        obtain ⟨_, _, hvb, hSb⟩ := (HEW.out.same (w' := w9) fun j hj => hB9.block j (HEW.out.lt j hj)).sl
                        rw [HNN.out] at hvc hSc hvb hSb
                        cases hvb
                        subst hvc
                        have CE := entries8_any ac aw NL capc capw (liveL t.es) w9 hSc hSb (by omega)
                        have hP9 := HP8.out.below hB9
                        have HP9 := Lib.hid hP9
                        clear hEc hSc hSb hP9 HEW HP8
                        go_wp2_with fail
                        refine CE.mono ?_
                        rintro e w10 ⟨rfl, hB10⟩
                        clear CE
                        have hP10 := HP9.out.below hB10
                        have CV := version_any (v := v) (by omega) (hP10.dc.hd.c 2 (by omega))
                        have HD : Hid (FuD (fun _ => False) w w10 d l M i (1 + 1)) := ⟨vs, t, g8, gi8, r8, h8, ev8, v, hP10.noK, by
                          have : mAt M i (1 + 1) = mAt M i 1 := by unfold mAt; rw [if_neg (by omega), if_neg (by omega)]
                          rw [this]
                          exact HFL.out, by omega⟩
                        clear hP10 HP9
                        go_wp2_with fail
                        refine CV.mono ?_
                        rintro e w11 ⟨rfl, rfl⟩
                        clear CV
                        go_wp2_with fail
                        go_roundw
                        case rel => exact ⟨1 + 1, by omega, by first | rfl | go_num, HD.out⟩
                        case measure => first | (simp [intOf]; done) | (simp [intOf]; omega)
                      · have tM : ¬ (M : Int) ≤ (i : Int) := by omega
                        have p0 : wr.cell? ⟨A, 0, none⟩ = some (.int .i64 2) := by rw [← hk8]; exact hblk.c 0 (by omega)
                        have p2 : wr.cell? ⟨A, 2, none⟩ = some (.bool true) := by rw [show true = u.found by rw [hf8]; rfl]; exact hblk.c 2 (by omega)
                        have HD : Hid (FuD (fun _ => False) w wr d l M i (1 + 1)) := by
                          obtain ⟨vs', t', g, gi, r, h, ev, v', p, q⟩ := hD8
                          exact ⟨vs', t', g, gi, r, h, ev, v', p.noK, q⟩
                        clear hblk hD8 hk8 hf8 hEw
                        go_wp2_with fail
                        go_roundw
                        case rel => exact ⟨1 + 1, by omega, by first | rfl | go_num, HD.out⟩
                        case measure => first | (simp [intOf]; done) | (simp [intOf]; omega)
                  · have tn : ¬ (n : Int) ≤ (n0 : Int) := by omega
                    rcases hcase with ⟨q, hnq, hqi, _⟩ | hF
                    · omega
                    ·
                      rcases hF with ⟨hMi, rfl, g8, gi8, r8, h8, ev8, hP8⟩ | ⟨hMi, hk8, hf8, hD8⟩
                      · have tM : (M : Int) ≤ (i : Int) := by omega
                        have p0 : wr.cell? ⟨A, 0, none⟩ = some (.int .i64 3) := hblk.c 0 (by omega)
                        have p2 : wr.cell? ⟨A, 2, none⟩ = some (.bool false) := hblk.c 2 (by omega)
                        have CP := pairs_any hP8.dc
                        have HP8 := Lib.hid hP8
                        have HEW := Lib.hid hEw
                        clear hblk hP8 hEw
                        go_wp2_with fail
                        refine CP.mono ?_
                        rintro e w9 ⟨vc, rfl, hEc, hB9⟩
                        clear CP
                        obtain ⟨ac, capc, hvc, hSc⟩ := hEc.es.sl
                        obtain ⟨_, _, hvb, hSb⟩ := (HEW.out.same (w' := w9) fun j hj => hB9.block j (HEW.out.lt j hj)).sl
                        rw [HNN.out] at hvc hSc hvb hSb
                        cases hvb
                        subst hvc
                        have CE := entries8_any ac aw NL capc capw (liveL t.es) w9 hSc hSb (by omega)
                        have hP9 := HP8.out.below hB9
                        have HP9 := Lib.hid hP9
                        clear hEc hSc hSb hP9 HEW HP8
                        go_wp2_with fail
                        refine CE.mono ?_
                        rintro e w10 ⟨rfl, hB10⟩
                        clear CE
                        have hP10 := HP9.out.below hB10
                        have CV := version_any (v := v) (by omega) (hP10.dc.hd.c 2 (by omega))
                        have HD : Hid (FuD (fun _ => False) w w10 d l M i (1 + 1)) := ⟨vs, t, g8, gi8, r8, h8, ev8, v, hP10.noK, by
                          have : mAt M i (1 + 1) = mAt M i 1 := by unfold mAt; rw [if_neg (by omega), if_neg (by omega)]
                          rw [this]
                          exact HFL.out, by omega⟩
                        clear hP10 HP9
                        go_wp2_with fail
                        refine CV.mono ?_
                        rintro e w11 ⟨rfl, rfl⟩
                        clear CV
                        go_wp2_with fail
                        go_roundw
                        case rel => exact ⟨1 + 1, by omega, by first | rfl | go_num, HD.out⟩
                        case measure => first | (simp [intOf]; done) | (simp [intOf]; omega)
                      · have tM : ¬ (M : Int) ≤ (i : Int) := by omega
                        have p0 : wr.cell? ⟨A, 0, none⟩ = some (.int .i64 2) := by rw [← hk8]; exact hblk.c 0 (by omega)
                        have p2 : wr.cell? ⟨A, 2, none⟩ = some (.bool true) := by rw [show true = u.found by rw [hf8]; rfl]; exact hblk.c 2 (by omega)
                        have HD : Hid (FuD (fun _ => False) w wr d l M i (1 + 1)) := by
                          obtain ⟨vs', t', g, gi, r, h, ev, v', p, q⟩ := hD8
                          exact ⟨vs', t', g, gi, r, h, ev, v', p.noK, q⟩
                        clear hblk hD8 hk8 hf8 hEw
                        go_wp2_with fail
                        go_roundw
                        case rel => exact ⟨1 + 1, by omega, by first | rfl | go_num, HD.out⟩
                        case measure => first | (simp [intOf]; done) | (simp [intOf]; omega)
              · have hrem : Int.tmod (i : Int) 2 = 0 := by
                  have := (Int.ofNat_tmod i 2).symm
                  rw [show i % 2 = 0 by omega] at this
                  exact this
                clear hpar
                have CB := rd_begin hP4 2 (by decide) (by decide) (l[i]?.getD 0) (i : Int) (((1 : Nat)) : Int)
                have HK4 : Hid (∀ k, (Value.slice aw NL capw).ownBlock = some k → w.heap.size ≤ k) := hKw
                clear hP4 hKw
                go_wp2_with fail
                refine CB.mono ?_
                rintro e w5 ⟨x, rfl, hR5, hK5⟩
                clear CB
                have hEw5 : Es w5 (Value.slice aw NL capw) (liveL t.es) := HEW4.out.same fun k hk => hK5 k hk
                have CS := rd_step hR5 (HFL.out.fit (by have := HMA.out; omega) (by omega))
                have h2 := eqMa x
                have HEW5 := Lib.hid hEw5
                clear hR5 hK5 hEw5
                go_wp2_with fail
                refine CS.mono ?_
                rintro e w6 ⟨u, rfl, hQ, hK6⟩
                clear CS h2
                unfold tuV
                obtain ⟨w7, hw7⟩ : ∃ y, w6.alloc (.cells #[.int .i64 u.kind, .int .i64 u.key, .bool u.found, .int .i64 u.value, .int .i64 u.entry] 77) = y := ⟨_, rfl⟩
                have hB7 : Below w6.heap.size w6 w7 := by rw [← hw7]; exact (Below.refl _ w6).alloc (Nat.le_refl _) _
                have hl7 : w6.heap.size < w7.heap.size := by rw [← hw7]; simp
                have hblk7 : Blk w7 w6.heap.size 5 (tuB u) := by rw [← hw7]; exact tuBF_new w6 u
                have hA7 : w.heap.size ≤ w6.heap.size := lwq_pd hQ
                have HL7 : Hid (FuL (fun k => k = w6.heap.size ∨ (Value.slice aw NL capw).ownBlock = some k) w w7 d x w6.heap.size l M i 1 2 (Value.slice aw NL capw) t v 0) := by
                  have hE7 : Es w7 (Value.slice aw NL capw) (liveL t.es) := (HEW5.out.same fun k hk => hK6 k hk).same fun k hk => hB7.block k (by
                    have := (HEW5.out.same (w' := w6) fun k hk => hK6 k hk).lt k hk
                    exact this)
                  refine ⟨u, hblk7, hE7, ?_⟩
                  rcases fu_of (.inl rfl) (by omega) HFL.out hv HOK.out (by omega) (by omega) hQ with ⟨q, _, hqi, hu, g, gi, r, h, ev, s, j, f, hA⟩ | hF
                  · exact .inl ⟨q, Nat.zero_le _, hqi, hu, g, gi, r, h, ev, s, j, f, hA.ext hB7 hl7⟩
                  · exact .inr (hF.ext hB7 hl7)
                have HVA : Hid (∀ k, (Value.slice aw NL capw).ownBlock = some k → k ≠ w6.heap.size) := fun k hk => by have := (HEW5.out.same (w' := w6) fun k hk => hK6 k hk).lt k hk; omega
                have HW7 := Lib.hid hw7
                clear hQ hw7 hB7 hl7 hblk7 hK6 HEW5
                go_upto_region 21 with fail
                rw [HW7.out]
                clear HW7
                generalize w6.heap.size = A at *
                go_wp2_with fail
                go_loopw [14] (fun nv wr => ∃ n : Nat, n ≤ n0 + 1 ∧ nv = .int .i64 (n : Int) ∧ FuL (fun k => k = A ∨ (Value.slice aw NL capw).ownBlock = some k) w wr d x A l M i 1 2 (Value.slice aw NL capw) t v n) (fun nv _ => n0 + 1 - (intOf nv).toNat)
                case atStart => exact ⟨0, Nat.zero_le _, rfl, HL7.out⟩
                case round =>
                  clear HL7
                  obtain ⟨n, hn, rfl, u, hblk, hEw, hcase⟩ := hrel
                  by_cases hnl : n ≤ n0
                  · have tn : (n : Int) ≤ (n0 : Int) := by omega
                    rcases hcase with ⟨q, hnq, hqi, rfl, g5, gi5, r5, h5, ev5, s5, j5, f5, hAw⟩ | hF
                    · have p0 : wr.cell? ⟨A, 0, none⟩ = some (.int .i64 1) := hblk.c 0 (by omega)
                      have CT := rd_tell hAw
                      have HBL := Lib.hid hblk
                      have HEW := Lib.hid hEw
                      clear hAw hblk hEw
                      go_wp2_with fail
                      refine CT.mono ?_
                      rintro e w8 ⟨rfl, hR8, hK8⟩
                      clear CT p0
                      have CS := rd_step hR8 (HFL.out.fit (by have := HMA.out; omega) (by omega))
                      have HB8 := Lib.hid (HBL.out.same (hK8 A (.inl rfl)))
                      have HE8 := Lib.hid (HEW.out.same fun k hk => hK8 k (.inr hk))
                      clear hR8 hK8 HBL HEW
                      go_wp2_with fail
                      refine CS.mono ?_
                      rintro e w9 ⟨u9, rfl, hQ, hK9⟩
                      clear CS
                      have hbl9 := HB8.out.same (hK9 A (.inl rfl))
                      have hE9 : Es w9 (Value.slice aw NL capw) (liveL t.es) := HE8.out.same fun k hk => hK9 k (.inr hk)
                      have q0 := hbl9.c 0 (by omega)
                      have q1 := hbl9.c 1 (by omega)
                      have q2 := hbl9.c 2 (by omega)
                      have q3 := hbl9.c 3 (by omega)
                      have q4 := hbl9.c 4 (by omega)
                      have z0 := hbl9.z 0
                      have z1 := hbl9.z 1
                      have z2 := hbl9.z 2
                      have z3 := hbl9.z 3
                      have z4 := hbl9.z 4
                      have hneA : ∀ k, (Value.slice aw NL capw).ownBlock = some k → k ≠ A := HVA.out
                      have HL2 : Hid (FuL (fun k => k = A ∨ (Value.slice aw NL capw).ownBlock = some k) w (putU w9 A u9) d x A l M i 1 2 (Value.slice aw NL capw) t v (n + 1)) := by
                        have hx : Ex (fun k => k = A ∨ (Value.slice aw NL capw).ownBlock = some k) w9 (putU w9 A u9) := putUF_ex w9 A u9 (.inl rfl)
                        have hKB : ∀ k, (k = A ∨ (Value.slice aw NL capw).ownBlock = some k) → w.heap.size ≤ k := by
                          rintro k (rfl | hk)
                          · exact hA7
                          · exact HK4.out k hk
                        refine ⟨u9, tuBF_put hbl9 u9, hE9.same fun k hk => putU_other w9 A u9 k (hneA k hk), ?_⟩
                        rcases fu_of (.inl rfl) (by omega) HFL.out hv HOK.out (by omega) (by omega) hQ with ⟨q', hq', hqi', hu, g, gi, r, h, ev, s, j, f, hA⟩ | hF
                        · exact .inl ⟨q', by omega, hqi', hu, g, gi, r, h, ev, s, j, f, hA.touch hx hKB⟩
                        · exact .inr (hF.touch hx hKB)
                      have e14 : IntKind.i64.wrap ((n : Int) + 1) = ((n + 1 : Nat) : Int) := by rw [i64_small (by omega) (by omega)]; omega
                      clear hQ hK9 hbl9 hE9 HB8 HE8
                      unfold putU put5 at HL2
                      unfold tuV
                      go_wp2_with fail
                      go_roundw
                      case rel => exact ⟨n + 1, by omega, rfl, HL2.out⟩
                      case measure => simp [intOf]; omega
                    ·
                      rcases hF with ⟨hMi, rfl, g8, gi8, r8, h8, ev8, hP8⟩ | ⟨hMi, hk8, hf8, hD8⟩
                      · have tM : (M : Int) ≤ (i : Int) := by omega
                        have p0 : wr.cell? ⟨A, 0, none⟩ = some (.int .i64 3) := hblk.c 0 (by omega)
                        have p2 : wr.cell? ⟨A, 2, none⟩ = some (.bool false) := hblk.c 2 (by omega)
                        have CP := pairs_any hP8.dc
                        have HP8 := Lib.hid hP8
                        have HEW := Lib.hid hEw
                        clear hblk hP8 hEw
                        go_wp2_with fail
                        refine CP.mono ?_
                        rintro e w9 ⟨vc, rfl, hEc, hB9⟩
                        clear CP
                        obtain ⟨ac, capc, hvc, hSc⟩ := hEc.es.sl
                        obtain ⟨_, _, hvb, hSb⟩ := (HEW.out.same (w' := w9) fun j hj => hB9.block j (HEW.out.lt j hj)).sl
                        rw [HNN.out] at hvc hSc hvb hSb
                        cases hvb
                        subst hvc
                        have CE := entries8_any ac aw NL capc capw (liveL t.es) w9 hSc hSb (by omega)
                        have hP9 := HP8.out.below hB9
                        have HP9 := Lib.hid hP9
                        clear hEc hSc hSb hP9 HEW HP8
                        go_wp2_with fail
                        refine CE.mono ?_
                        rintro e w10 ⟨rfl, hB10⟩
                        clear CE
                        have hP10 := HP9.out.below hB10
                        have CV := version_any (v := v) (by omega) (hP10.dc.hd.c 2 (by omega))
                        have HD : Hid (FuD (fun _ => False) w w10 d l M i (1 + 1)) := ⟨vs, t, g8, gi8, r8, h8, ev8, v, hP10.noK, by
                          have : mAt M i (1 + 1) = mAt M i 1 := by unfold mAt; rw [if_neg (by omega), if_neg (by omega)]
                          rw [this]
                          exact HFL.out, by omega⟩
                        clear hP10 HP9
                        go_wp2_with fail
                        refine CV.mono ?_
                        rintro e w11 ⟨rfl, rfl⟩
                        clear CV
                        go_wp2_with fail
                        go_roundw
                        case rel => exact ⟨1 + 1, by omega, by first | rfl | go_num, HD.out⟩
                        case measure => first | (simp [intOf]; done) | (simp [intOf]; omega)
                      · have tM : ¬ (M : Int) ≤ (i : Int) := by omega
                        have p0 : wr.cell? ⟨A, 0, none⟩ = some (.int .i64 2) := by rw [← hk8]; exact hblk.c 0 (by omega)
                        have p2 : wr.cell? ⟨A, 2, none⟩ = some (.bool true) := by rw [show true = u.found by rw [hf8]; rfl]; exact hblk.c 2 (by omega)
                        have HD : Hid (FuD (fun _ => False) w wr d l M i (1 + 1)) := by
                          obtain ⟨vs', t', g, gi, r, h, ev, v', p, q⟩ := hD8
                          exact ⟨vs', t', g, gi, r, h, ev, v', p.noK, q⟩
                        clear hblk hD8 hk8 hf8 hEw
                        go_wp2_with fail
                        go_roundw
                        case rel => exact ⟨1 + 1, by omega, by first | rfl | go_num, HD.out⟩
                        case measure => first | (simp [intOf]; done) | (simp [intOf]; omega)
                  · have tn : ¬ (n : Int) ≤ (n0 : Int) := by omega
                    rcases hcase with ⟨q, hnq, hqi, _⟩ | hF
                    · omega
                    ·
                      rcases hF with ⟨hMi, rfl, g8, gi8, r8, h8, ev8, hP8⟩ | ⟨hMi, hk8, hf8, hD8⟩
                      · have tM : (M : Int) ≤ (i : Int) := by omega
                        have p0 : wr.cell? ⟨A, 0, none⟩ = some (.int .i64 3) := hblk.c 0 (by omega)
                        have p2 : wr.cell? ⟨A, 2, none⟩ = some (.bool false) := hblk.c 2 (by omega)
                        have CP := pairs_any hP8.dc
                        have HP8 := Lib.hid hP8
                        have HEW := Lib.hid hEw
                        clear hblk hP8 hEw
                        go_wp2_with fail
                        refine CP.mono ?_
                        rintro e w9 ⟨vc, rfl, hEc, hB9⟩
                        clear CP
                        obtain ⟨ac, capc, hvc, hSc⟩ := hEc.es.sl
                        obtain ⟨_, _, hvb, hSb⟩ := (HEW.out.same (w' := w9) fun j hj => hB9.block j (HEW.out.lt j hj)).sl
                        rw [HNN.out] at hvc hSc hvb hSb
                        cases hvb
                        subst hvc
                        have CE := entries8_any ac aw NL capc capw (liveL t.es) w9 hSc hSb (by omega)
                        have hP9 := HP8.out.below hB9
                        have HP9 := Lib.hid hP9
                        clear hEc hSc hSb hP9 HEW HP8
                        go_wp2_with fail
                        refine CE.mono ?_
                        rintro e w10 ⟨rfl, hB10⟩
                        clear CE
                        have hP10 := HP9.out.below hB10
                        have CV := version_any (v := v) (by omega) (hP10.dc.hd.c 2 (by omega))
                        have HD : Hid (FuD (fun _ => False) w w10 d l M i (1 + 1)) := ⟨vs, t, g8, gi8, r8, h8, ev8, v, hP10.noK, by
                          have : mAt M i (1 + 1) = mAt M i 1 := by unfold mAt; rw [if_neg (by omega), if_neg (by omega)]
                          rw [this]
                          exact HFL.out, by omega⟩
                        clear hP10 HP9
                        go_wp2_with fail
                        refine CV.mono ?_
                        rintro e w11 ⟨rfl, rfl⟩
                        clear CV
                        go_wp2_with fail
                        go_roundw
                        case rel => exact ⟨1 + 1, by omega, by first | rfl | go_num, HD.out⟩
                        case measure => first | (simp [intOf]; done) | (simp [intOf]; omega)
                      · have tM : ¬ (M : Int) ≤ (i : Int) := by omega
                        have p0 : wr.cell? ⟨A, 0, none⟩ = some (.int .i64 2) := by rw [← hk8]; exact hblk.c 0 (by omega)
                        have p2 : wr.cell? ⟨A, 2, none⟩ = some (.bool true) := by rw [show true = u.found by rw [hf8]; rfl]; exact hblk.c 2 (by omega)
                        have HD : Hid (FuD (fun _ => False) w wr d l M i (1 + 1)) := by
                          obtain ⟨vs', t', g, gi, r, h, ev, v', p, q⟩ := hD8
                          exact ⟨vs', t', g, gi, r, h, ev, v', p.noK, q⟩
                        clear hblk hD8 hk8 hf8 hEw
                        go_wp2_with fail
                        go_roundw
                        case rel => exact ⟨1 + 1, by omega, by first | rfl | go_num, HD.out⟩
                        case measure => first | (simp [intOf]; done) | (simp [intOf]; omega)
          · obtain rfl : τ = 2 := by omega
            have tτ : ¬ (((2 : Nat)) : Int) < 2 := by omega
            have e7 : IntKind.i64.wrap ((i : Int) + 1) = ((i + 1 : Nat) : Int) := by rw [i64_small (by omega) (by omega)]; omega
            have HN : Hid (FuD (fun _ => False) w wr d l M (i + 1) 0) := ⟨vs, t, g, gi, r, h, ev, v, hP, by
              rw [mAt_next]
              exact hFl, by omega⟩
            clear hP hFl
            go_wp2_with fail
            go_roundw
            case rel => exact ⟨i + 1, by omega, rfl, HN.out⟩
            case measure => simp [intOf]; omega
      · obtain rfl : i = n0 := by omega
        have ti : ¬ (i : Int) < (i : Int) := by omega
        obtain ⟨vs, t, g, gi, r, h, ev, v, hP, hFl, hv⟩ := hD
        have CL := plen_any (hP.dc.hd.c 0 (by omega)) (hP.dc.dt.hd.c 3 (by omega))
        have hlv : dF (.pointer none) gi ev t 3 = .int .i64 ((min M i : Nat) : Int) := by
          show Value.int .i64 (t.live : Int) = _
          rw [hFl.live]
          rw [mAt_min]
        have HBL := Lib.hid hP.bl
        have CL2 : Calls Tryz.prog 17 #[.pointer (some ⟨d, 0, none⟩)] wr fun e w' => e = .returned (.int .i64 ((min M i : Nat) : Int)) ∧ w' = wr := plen_any (hP.dc.hd.c 0 (by omega)) ((hP.dc.dt.hd.c 3 (by omega)).trans (by rw [hlv]))
        have CW := awake8_any wr
        clear CL hP hFl hlv
        go_wp2_with fail
        refine CL2.mono ?_
        rintro e w3 ⟨rfl, rfl⟩
        clear CL2
        by_cases hMi : M ≤ i
        · have t8 : (M : Int) ≤ (i : Int) := by omega
          have t9 : ¬ (i : Int) < (M : Int) := by omega
          rw [show min M i = M by omega]
          go_wp2_with fail
          refine CW.mono ?_
          rintro e w9 ⟨rfl, hB9⟩
          clear CW
          go_wp2
          go_ret
          exact ⟨rfl, HBL.out.trans (hB9.mono HBL.out.size)⟩
        · have t8 : ¬ (M : Int) ≤ (i : Int) := by omega
          have t9 : (i : Int) < (M : Int) := by omega
          rw [show min M i = i by omega]
          go_wp2_with fail
          refine CW.mono ?_
          rintro e w9 ⟨rfl, hB9⟩
          clear CW
          go_wp2
          go_ret
          exact ⟨rfl, HBL.out.trans (hB9.mono HBL.out.size)⟩
end Go.Proofs.YtcehndeopcoakaaGreat
