/-
  Tokens stand in order where their texts stand: the law.
-/
import Derived.Test.YtmckhkkbghihaaaDoorLxShape
import Derived.Test.YtmckhkkbghihaaaDoorLxReads
namespace Go.Proofs.YtmckhkkbghihaaaDoor
open Go.RowKit Go.WideShapes
namespace Lx

theorem tok_ne (k : Int) (X : ByteArray) (a : Int) (w : World) : (binOp .neq 30 (.agg #[.int .i64 k, .string X, .int .i64 a]) (.agg #[.int .i64 k, .string X, .int .i64 a])).run Tryd.prog w = .ok (.bool false) w := by
  have hu : Tryd.prog.underlying 30 = some (.struct (Tryd.prog.fieldsOf 30)) := by kernel_rfl
  have hp : Tryd.prog.stoodInHeld 30 = false := by kernel_rfl
  rw [run_neq_struct, run_equalIn_agg w 9999 _ _ _ hu hp]
  have hF : (Tryd.prog.fieldsOf 30).toList = [⟨"Kind", 3, 0, false, "", "", 0⟩, ⟨"Text", 9, 1, false, "", "", 8⟩, ⟨"At", 3, 2, false, "", "", 24⟩] := by kernel_rfl
  rw [hF]
  simp [Op.eqFields, go_sem]
set_option maxRecDepth 100000 in
set_option maxHeartbeats 40000000 in
theorem shape_walk (a : Option Addr) (n c : Nat) (l : List UInt8) (w : World) (hB : Bs w a n l) (hc : n ≤ c) (_ : c ≤ maxLen) (_ : a = none → c = 0) (hE : Env w) :
    Calls Tryd.prog 3 #[.slice a n c] w fun e w' => e = .returned (.bool true) ∧ Below w.heap.size w w' := by
  by_cases hbig : (70000 : Int) < (n : Int)
  · have CA := awake_any w hE
    clear hB
    go_enter Tryd.func3, Tryd.ntmps3
    go_wp2_with fail
    refine CA.mono ?_
    rintro e w1 ⟨rfl, hb⟩
    go_wp2_with fail
    go_ret
    exact ⟨rfl, hb⟩
  · have HB := Lib.hid hB
    have HNL := Lib.hid hB.1
    have C1 := ptok_any c hB hE
    have hn7 : n ≤ 70000 := by omega
    clear hB
    go_enter Tryd.func3, Tryd.ntmps3
    go_wp2_with fail
    refine C1.mono ?_
    rintro e w1 ⟨x, p, ts, ⟨tv, rfl, ho, hb1⟩, hD⟩
    clear C1
    have hcase : (x ≠ 0 ∧ ts = [] ∧ 0 ≤ p ∧ p ≤ (n : Int)) ∨ (x = 0 ∧ p = 0 ∧ Told l ts) := by
      rcases hD with ⟨h0, o, h1, h2⟩ | ⟨h0, h1, h2, h3⟩
      · have ht := lex_told h1 (shp0 l)
        have hcd := lex_code h1
        cases o with
        | ok t => obtain ⟨rfl, rfl, rfl⟩ := h2; exact Or.inr ⟨rfl, rfl, ht.1 _ rfl⟩
        | bad y z =>
          obtain ⟨rfl, rfl, rfl⟩ := h2
          have k1 := ht.2 y z rfl
          have k2 := hcd y z rfl
          rw [← HNL.out] at k1
          exact Or.inl ⟨by omega, rfl, by omega, by omega⟩
      · subst h1; subst h2; subst h3
        exact Or.inl ⟨by decide, rfl, by decide, by omega⟩
    obtain ⟨ta, tc, rfl⟩ := ownsS_shape ho
    have HO := Lib.hid ho
    have HB1 := Lib.hid hb1
    have HAW : Hid (∀ w', Below w.heap.size w1 w' → Env w') := fun w' h => hE.below (HB1.out.trans h)
    clear ho hb1 hD
    rcases hcase with ⟨hx, rfl, hp0, hpn⟩ | ⟨rfl, rfl, hTo⟩
    · have x0 : (x != 0) = true := by simp [hx]
      have C3 := fun o => awake_any (w1.alloc o) (HAW.out _ ((Below.refl _ w1).alloc HB1.out.size o))
      simp only [List.length_nil] at *
      clear hx
      go_wp2_with (go_at_call 6; refine (C3 _).mono ?_; rintro e w3 ⟨rfl, hb3⟩)
      go_ret
      exact ⟨rfl, (HB1.out.alloc HB1.out.size _).trans (hb3.mono (by have := HB1.out.size; simp; omega))⟩
    · have HTO := Lib.hid hTo
      obtain ⟨hlp, hlast⟩ := last_get _ _ hTo.last
      have hto := HO.out
      obtain ⟨gt, cap, hv, hgl, hcap, hgB⟩ := ownsS_some hto hlp
      rw [hv] at hto
      have hmx := own_max hto
      have HMX := Lib.hid hmx
      injection hv with hv1 hv2 hv3
      subst hv1
      subst hv3
      clear hv2 hmx hTo
      have HC : Hid (∀ i t, ts[i]? = some t → w1.cell? ⟨gt, i * 3, none⟩ = some (.int .i64 (t.kind : Int)) ∧ w1.cell? ⟨gt, i * 3 + 1, none⟩ = some (.string ⟨t.text.toArray⟩) ∧ w1.cell? ⟨gt, i * 3 + 2, none⟩ = some (.int .i64 (t.at_ : Int))) := fun i t ht =>
        ⟨ownsS_cell hto (i * 3) _ (by have := tkl_get ts i 0 t ht (by omega); rw [Nat.add_zero] at this; rw [this]; rfl), ownsS_cell hto (i * 3 + 1) _ (by rw [tkl_get ts i 1 t ht (by omega)]; rfl), ownsS_cell hto (i * 3 + 2) _ (by rw [tkl_get ts i 2 t ht (by omega)]; rfl)⟩
      have HGL := Lib.hid hgl
      obtain ⟨q0, q1, q2⟩ := HC.out _ _ hlast
      clear hto hlast hgB hcap
      have hal1 : ∀ o j, (w1.alloc o).cell? ⟨gt, j, none⟩ = w1.cell? ⟨gt, j, none⟩ := fun o j => World.cell?_of_block (a := ⟨gt, j, none⟩) (Below.heap_alloc w1 o gt hgl)
      have HBWo : Hid (∀ o, Below w1.heap.size w1 (w1.alloc o)) := fun o => (Below.refl _ w1).alloc (Nat.le_refl _) o
      have q0 : w1.cell? ⟨gt, (ts.length - 1) * 3, none⟩ = some (.int .i64 9) := q0
      have q1 : w1.cell? ⟨gt, (ts.length - 1) * 3 + 1, none⟩ = some (.string ⟨#[]⟩) := q1
      have q2 : w1.cell? ⟨gt, (ts.length - 1) * 3 + 2, none⟩ = some (.int .i64 (n : Int)) := by rw [q2, HNL.out]
      clear hgl
      obtain ⟨N, hN⟩ : ∃ N, ts.length = N := ⟨_, rfl⟩
      obtain ⟨m, hm⟩ : ∃ m, ts.length - 1 = m := ⟨_, rfl⟩
      rw [hm] at q0 q1 q2
      have HN := Lib.hid hN
      have HM := Lib.hid hm
      have g1 : ((N : Int) == 0) = false := beq_eq_false_iff_ne.2 (by omega)
      have g2 : IntKind.i64.wrap ((N : Int) - 1) = (m : Int) := by have := HMX.out; unfold maxLen at this; rw [i64_small (by omega) (by omega)]; omega
      have g3 : (m : Int) < (N : Int) := by omega
      have g4 : (0 : Int) ≤ (m : Int) := by omega
      have g5 := tok_ne 9 ⟨#[]⟩ (n : Int)
      rw [hN]
      clear hN hm hlp
      go_wp2_with fail
      clear q0 q1 q2 g2 g3 g4 g5 hal1
      have HBW := Lib.hid (HBWo.out (.cells #[.int .i64 0, .int .i64 0] 26))
      generalize w1.alloc (.cells #[.int .i64 0, .int .i64 0] 26) = W at *
      go_loopg [5, 6] N (fun gk v5 v6 wr => ∃ i, i + gk = N ∧ v6 = .int .i64 (i : Int) ∧ v5 = .int .i64 (dp (ts.take i)) ∧ Below W.heap.size W wr)
      case atStart => exact ⟨0, by omega, rfl, by simp [dp], Below.refl _ _⟩
      case round =>
        obtain ⟨i, hig, rfl, rfl, hbr⟩ := hrel
        have HBR := Lib.hid hbr
        have k0 : (0 : Int) ≤ (i : Int) := by omega
        have HGW : Hid (gt < W.heap.size) := by have := HGL.out; have := HBW.out.size; show gt < _; omega
        by_cases hil : i < N
        · have k1 : (i : Int) < (N : Int) := by omega
          have hti : ts[i]? = some (ts[i]'(by rw [HN.out]; exact hil)) := List.getElem?_eq_getElem _
          obtain ⟨hS, hd0, hd1⟩ := HTO.out.sh.at_ i _ hti
          obtain ⟨p0, p1, p2⟩ := HC.out i _ hti
          generalize ts[i]'(by rw [HN.out]; exact hil) = t at *
          have hgb : ∀ j, wr.cell? ⟨gt, j, none⟩ = w1.cell? ⟨gt, j, none⟩ := fun j => (hbr.cell (p := ⟨gt, j, none⟩) HGW.out).trans (HBW.out.cell (p := ⟨gt, j, none⟩) HGL.out)
          have p0 := (hgb _).trans p0
          have p1 := (hgb _).trans p1
          have p2 := (hgb _).trans p2
          have HPV : Hid (0 < i → ∃ q, (ts.take i).getLast? = some q ∧ wr.cell? ⟨gt, (i - 1) * 3, none⟩ = some (.int .i64 (q.kind : Int)) ∧ wr.cell? ⟨gt, (i - 1) * 3 + 2, none⟩ = some (.int .i64 (q.at_ : Int))) := fun h0 => by
            have hq : ts[i - 1]? = some (ts[i - 1]'(by rw [HN.out]; omega)) := List.getElem?_eq_getElem _
            obtain ⟨z0, _, z2⟩ := HC.out (i - 1) _ hq
            refine ⟨_, ?_, (hgb _).trans z0, (hgb _).trans z2⟩
            rw [List.getLast?_eq_getElem?, List.length_take, List.getElem?_take, if_pos (by rw [HN.out]; omega)]
            rw [show min i ts.length - 1 = i - 1 by rw [HN.out]; omega]
            exact hq
          have HEND : Hid (t.kind = 9 → i + 1 = N) := fun h9 => by
            rcases Nat.lt_or_ge (i + 1) N with z | z
            · have hq : ts[i + 1]? = some (ts[i + 1]'(by rw [HN.out]; exact z)) := List.getElem?_eq_getElem _
              have h5 := (HTO.out.sh.at_ (i + 1) _ hq).1.ge t (by
                rw [List.getLast?_eq_getElem?, List.length_take, List.getElem?_take, if_pos (by rw [HN.out]; omega)]
                rw [show min (i + 1) ts.length - 1 = i by rw [HN.out]; omega]
                exact hti)
              exact absurd h9 h5.2
            · omega
          have HSS := Lib.hid hS
          have HD0 := Lib.hid hd0
          have HD1 := Lib.hid hd1
          have hle := hS.le
          rw [← HNL.out] at hle
          have e1 : IntKind.i64.wrap ((i : Int) + 1) = ((i + 1 : Nat) : Int) := by have := HMX.out; unfold maxLen at this; rw [HN.out] at this; rw [i64_small (by omega) (by omega)]; omega
          have hal : ∀ o j, (wr.alloc o).cell? ⟨gt, j, none⟩ = wr.cell? ⟨gt, j, none⟩ := fun o j => World.cell?_of_block (a := ⟨gt, j, none⟩) (Below.heap_alloc wr o gt (by have := HGW.out; have := hbr.size; omega))
          clear hti hS hd0 hd1 hgb hbr
          have hdl := dp_le (ts.take i)
          have hti9 : ((ts.take i).length : Int) ≤ (i : Int) := by rw [List.length_take]; omega
          obtain ⟨d, hd⟩ : ∃ d, dp (ts.take i) = d := ⟨_, rfl⟩
          obtain ⟨d', hd'⟩ : ∃ d', dp (ts.take (i + 1)) = d' := ⟨_, rfl⟩
          have hdd := HD1.out
          have hdp := HD0.out
          rw [hd'] at hdd hdp
          rw [hd] at hdd hdl ⊢
          have HDE : Hid (dp (ts.take (i + 1)) = d') := hd'
          have hNM := HMX.out
          rw [HN.out] at hNM
          unfold maxLen at hNM
          have HNM := Lib.hid hNM
          clear hd hd' hNM
          have hkk := HSS.out.k1
          have hk9 := HSS.out.k9
          have HKK : (t.kind = 1 ∨ t.kind = 2 ∨ t.kind = 3 ∨ t.kind = 5) ∨ t.kind = 4 ∨ t.kind = 6 ∨ t.kind = 7 ∨ t.kind = 8 ∨ t.kind = 9 := by omega
          have nd : ¬ d' < 0 := by omega
          have u1 : decide ((t.at_ : Int) < 0) = false := by simp
          have u2 : decide ((n : Int) < (t.at_ : Int)) = false := by simp; omega
          have u3 : decide (n < t.at_) = false := by simp; omega
          clear hkk hk9
          rcases HKK with hk | hk | hk | hk | hk | hk
          · as_aux_lemma =>
              have hdv : d' = d := by
                rw [hdd]
                have h7 : t.kind ≠ 7 := by omega
                have h8 : t.kind ≠ 8 := by omega
                simp [dpT, h7, h8]
              rw [hdv] at HDE nd
              clear hdv hdd hdp hdl hti9
              obtain ⟨ht1, ht2, ht3⟩ := HSS.out.txt (by omega) (by omega)
              have hwd : t.kind ≤ 2 → wrd t.text = decide (t.kind = 2) := HSS.out.wrd
              have HNEW : Hid (∀ q, (ts.take i).getLast? = some q → q.at_ = t.at_ → q.kind = 7 ∨ q.kind = 8) := HSS.out.new (by omega)
              obtain ⟨X, hX⟩ : ∃ X : ByteArray, (ByteArray.mk t.text.toArray) = X := ⟨_, rfl⟩
              rw [hX] at p1
              have hXd : X.data.toList = t.text := by rw [← hX]
              have HW1 : Hid (t.kind = 1 → ∀ w, Calls Tryd.prog 8 #[.string X] w fun e w' => e = .returned (.bool false) ∧ w' = w) := fun h1 w => by
                have h := word_any X w
                rw [hXd, hwd (by omega), h1] at h
                exact h
              have HW2 : Hid (t.kind = 2 → ∀ w, Calls Tryd.prog 8 #[.string X] w fun e w' => e = .returned (.bool true) ∧ w' = w) := fun h1 w => by
                have h := word_any X w
                rw [hXd, hwd (by omega), h1] at h
                exact h
              have hXl : X.toList = t.text := by rw [toList_eq, hXd]
              have x1 : X.toList.isEmpty = false := by rw [hXl]; simp [ht3]
              have x2 : (X.toList == X.toList) = true := by simp
              obtain ⟨kl, hkl⟩ : ∃ kl, t.text.length = kl := ⟨_, rfl⟩
              have x3 : (X.size : Int) = (kl : Int) := by rw [← hX, arr_size, hkl]
              obtain ⟨me, hme⟩ : ∃ me : Nat, t.at_ + kl = me := ⟨_, rfl⟩
              rw [hkl] at ht1 ht2
              rw [← HNL.out] at ht1
              have x4 : IntKind.i64.wrap ((t.at_ : Int) + (kl : Int)) = (me : Int) := by rw [i64_small (by omega) (by omega)]; omega
              have x5 : decide ((n : Int) < (me : Int)) = false := by simp; omega
              have x5b : decide (n < me) = false := by simp; omega
              have x6 : (t.at_ : Int) ≤ (me : Int) := by omega
              have x7 : (me : Int) ≤ (c : Int) := by omega
              have x8 : ((me : Int) - (t.at_ : Int)).toNat = kl := by omega
              have x9 : me - t.at_ = kl := by omega
              have x10 : (0 : Int) ≤ (t.at_ : Int) := by omega
              have hkp : 0 < kl := by rw [← hkl]; exact List.length_pos_iff.2 ht3
              have x11 : ¬ c = t.at_ := by omega
              obtain ⟨-, bb, off, hab, hcell⟩ := HB.out
              obtain ⟨rfl, hbb⟩ := hab (by omega)
              have hcv0 : ∀ (w' : World), Below w.heap.size w w' → ∀ cc, (convert 22 9 (.slice (some ⟨bb, off + t.at_, none⟩) kl cc)).run Tryd.prog w' = .ok (.string X) w' := fun w' hb cc => by
                have h := Bs.part HNL.out (fun j hj => (hb.cell (p := ⟨bb, off + j, none⟩) hbb).trans (hcell j hj)) (Nat.lt_of_lt_of_le hbb hb.size) t.at_ kl (by omega)
                rw [ht2] at h
                rw [← hX]
                exact conv_bs h cc
              have hbwr : ∀ o q, Below w.heap.size w ((wr.alloc o).drewN q) := fun o q => below_drewN (((HB1.out.trans (HBW.out.mono HB1.out.size)).trans (HBR.out.mono (by have := HB1.out.size; have := HBW.out.size; omega))).alloc (by have := HB1.out.size; have := HBW.out.size; have := HBR.out.size; omega) o) q
              have hcv1 : ∀ o q cc, (convert 22 9 (.slice (some ⟨bb, off + t.at_, none⟩) kl cc)).run Tryd.prog ((wr.alloc o).drewN q) = .ok (.string X) ((wr.alloc o).drewN q) := fun o q cc => hcv0 _ (hbwr o q) cc
              have hcv2 : ∀ o q r cc, (convert 22 9 (.slice (some ⟨bb, off + t.at_, none⟩) kl cc)).run Tryd.prog (((wr.alloc o).drewN q).drewN r) = .ok (.string X) (((wr.alloc o).drewN q).drewN r) := fun o q r cc => hcv0 _ (below_drewN (hbwr o q) r) cc
              obtain ⟨kk, hkk⟩ : ∃ kk : Int, (t.kind : Int) = kk := ⟨_, rfl⟩
              rw [hkk] at p0
              have HKC : Hid ((kk = 1 ∧ t.kind = 1) ∨ (kk = 2 ∧ t.kind = 2) ∨ kk = 3 ∨ kk = 5) := by show _ ∨ _; omega
              have y6 : ¬ kk = 6 := by omega
              have y7 : ¬ kk = 7 := by omega
              have y8 : ¬ kk = 8 := by omega
              have y9 : ¬ kk = 9 := by omega
              have z6 : (kk == 6) = false := beq_eq_false_iff_ne.2 y6
              have z7 : (kk == 7) = false := beq_eq_false_iff_ne.2 y7
              have z8 : (kk == 8) = false := beq_eq_false_iff_ne.2 y8
              have z9 : (kk == 9) = false := beq_eq_false_iff_ne.2 y9
              clear hwd hX hXd hXl hkl hme ht1 ht2 ht3 hcv0 hbwr hcell hab hkp hk hkk
              go_upto_region 14 with fail
              go_cut [126] from 82 to 126 (fun v W => v = .bool false ∧ ∃ q, W = (wr.alloc (.cells #[.int .i64 kk, .string X, .int .i64 (t.at_ : Int)] 30)).drewN q)
              case first =>
                rcases Nat.eq_zero_or_pos i with hi0 | hi0
                · have zi : decide ((0 : Int) < (i : Int)) = false := by simp; omega
                  have zj : decide (0 < i) = false := by simp; omega
                  clear hi0
                  go_big_quiet (fail)
                  (try go_wp2_with fail)
                  go_meet
                  case rel => exact ⟨rfl, _, rfl⟩
                · obtain ⟨q, hq, c0q, c2q⟩ := HPV.out (by omega)
                  have zi : (0 : Int) < (i : Int) := by omega
                  have zj : decide (0 < i) = true := by simp; omega
                  obtain ⟨im, him⟩ : ∃ im, i - 1 = im := ⟨_, rfl⟩
                  rw [him] at c0q c2q
                  have e5 : IntKind.i64.wrap ((i : Int) - 1) = (im : Int) := by have := HNM.out; rw [i64_small (by omega) (by omega)]; omega
                  have e6 : (im : Int) < (N : Int) := by omega
                  have e7 : (0 : Int) ≤ (im : Int) := by omega
                  have hqa := (HSS.out.ge q hq).1
                  have e8 : decide ((t.at_ : Int) < (q.at_ : Int)) = false := by simp; omega
                  have e8b : decide (t.at_ < q.at_) = false := by simp; omega
                  clear him
                  clear hq hqa
                  go_big_quiet (fail)
                  (try go_wp2_with fail)
                  go_meet
                  case rel => exact ⟨rfl, _, rfl⟩
              case rest =>
                obtain ⟨rfl, q0, rfl⟩ := hcut
                go_upto_if 137 with fail
                go_cut [137] from 138 to 141 (fun v W => v = .bool true ∧ W = (wr.alloc (.cells #[.int .i64 kk, .string X, .int .i64 (t.at_ : Int)] 30)).drewN q0)
                case first =>
                  rcases HKC.out with ⟨rfl, -⟩ | ⟨rfl, -⟩ | rfl | rfl
                  · go_wp2_with fail
                    go_meet
                    case rel => exact ⟨rfl, rfl⟩
                  · go_wp2_with fail
                    go_meet
                    case rel => exact ⟨rfl, rfl⟩
                  · go_wp2_with fail
                    go_meet
                    case rel => exact ⟨rfl, rfl⟩
                  · go_wp2_with fail
                    go_meet
                    case rel => exact ⟨rfl, rfl⟩
                case rest =>
                  obtain ⟨rfl, rfl⟩ := hcut
                  go_upto_region 25 with fail
                  go_cut [204] from 142 to 204 (fun v W => v = .bool false ∧ ∃ q, W = (wr.alloc (.cells #[.int .i64 kk, .string X, .int .i64 (t.at_ : Int)] 30)).drewN q)
                  case first =>
                    rcases Nat.eq_zero_or_pos i with hi0 | hi0
                    · have zi : decide ((0 : Int) < (i : Int)) = false := by simp; omega
                      have zj : decide (0 < i) = false := by simp; omega
                      clear hi0
                      go_big_quiet (fail)
                      (try go_wp2_with fail)
                      go_meet
                      case rel => exact ⟨rfl, _, rfl⟩
                    · obtain ⟨q, hq, c0q, c2q⟩ := HPV.out (by omega)
                      have zi : (0 : Int) < (i : Int) := by omega
                      have zj : decide (0 < i) = true := by simp; omega
                      obtain ⟨im, him⟩ : ∃ im, i - 1 = im := ⟨_, rfl⟩
                      rw [him] at c0q c2q
                      have e5 : IntKind.i64.wrap ((i : Int) - 1) = (im : Int) := by have := HNM.out; rw [i64_small (by omega) (by omega)]; omega
                      have e6 : (im : Int) < (N : Int) := by omega
                      have e7 : (0 : Int) ≤ (im : Int) := by omega
                      have hqa := (HSS.out.ge q hq).1
                      have e8 : decide ((t.at_ : Int) < (q.at_ : Int)) = false := by simp; omega
                      have e8b : decide (t.at_ < q.at_) = false := by simp; omega
                      clear him
                      by_cases hqe : q.at_ = t.at_
                      · have hqk := HNEW.out q hq hqe
                        have f1 : ((q.at_ : Int) == (t.at_ : Int)) = true := by rw [hqe]; simp
                        have f2 : (q.at_ == t.at_) = true := by rw [hqe]; simp
                        have f3 : decide (q.at_ = t.at_) = true := by rw [hqe]; simp
                        clear hq hqa hqe
                        rcases hqk with hqk | hqk
                        · rw [hqk] at c0q
                          clear hqk
                          go_big_quiet (fail)
                          (try go_wp2_with fail)
                          go_meet
                          case rel => exact ⟨rfl, _, rfl⟩
                        · rw [hqk] at c0q
                          clear hqk
                          go_big_quiet (fail)
                          (try go_wp2_with fail)
                          go_meet
                          case rel => exact ⟨rfl, _, rfl⟩
                      · have f1 : ((q.at_ : Int) == (t.at_ : Int)) = false := beq_eq_false_iff_ne.2 (by omega)
                        have f2 : (q.at_ == t.at_) = false := beq_eq_false_iff_ne.2 (by omega)
                        have f3 : decide (q.at_ = t.at_) = false := decide_eq_false (by omega)
                        clear hq hqa hqe
                        go_big_quiet (fail)
                        (try go_wp2_with fail)
                        go_meet
                        case rel => exact ⟨rfl, _, rfl⟩
                  case rest =>
                    obtain ⟨rfl, q1, rfl⟩ := hcut
                    go_wp2_with fail
                    rcases HKC.out with ⟨rfl, hk1⟩ | ⟨rfl, hk2⟩ | rfl | rfl
                    · have CW := HW1.out hk1
                      go_big_quiet ((go_at_call 8; refine (CW _).mono ?_; rintro _ _ ⟨rfl, rfl⟩; exact ⟨rfl, _, rfl⟩))
                      go_wp2_with fail
                      go_roundg (gk - 1)
                      case measure => omega
                      case rel =>
                        refine ⟨i + 1, by omega, rfl, ?_, ?_⟩
                        · first
                            | (rw [HDE.out]; done)
                            | (rw [HDE.out])
                        · first
                          | exact HBR.out.alloc HBR.out.size _
                          | exact below_drewN (HBR.out.alloc HBR.out.size _) _
                          | exact below_drewN (below_drewN (HBR.out.alloc HBR.out.size _) _) _
                          | exact below_drewN (below_drewN (below_drewN (HBR.out.alloc HBR.out.size _) _) _) _
                    · have CW := HW2.out hk2
                      go_big_quiet ((go_at_call 8; refine (CW _).mono ?_; rintro _ _ ⟨rfl, rfl⟩; exact ⟨rfl, _, rfl⟩))
                      go_wp2_with fail
                      go_roundg (gk - 1)
                      case measure => omega
                      case rel =>
                        refine ⟨i + 1, by omega, rfl, ?_, ?_⟩
                        · first
                            | (rw [HDE.out]; done)
                            | (rw [HDE.out])
                        · first
                          | exact HBR.out.alloc HBR.out.size _
                          | exact below_drewN (HBR.out.alloc HBR.out.size _) _
                          | exact below_drewN (below_drewN (HBR.out.alloc HBR.out.size _) _) _
                          | exact below_drewN (below_drewN (below_drewN (HBR.out.alloc HBR.out.size _) _) _) _
                    · go_big_quiet (fail)
                      go_wp2_with fail
                      go_roundg (gk - 1)
                      case measure => omega
                      case rel =>
                        refine ⟨i + 1, by omega, rfl, ?_, ?_⟩
                        · first
                            | (rw [HDE.out]; done)
                            | (rw [HDE.out])
                        · first
                          | exact HBR.out.alloc HBR.out.size _
                          | exact below_drewN (HBR.out.alloc HBR.out.size _) _
                          | exact below_drewN (below_drewN (HBR.out.alloc HBR.out.size _) _) _
                          | exact below_drewN (below_drewN (below_drewN (HBR.out.alloc HBR.out.size _) _) _) _
                    · go_big_quiet (fail)
                      go_wp2_with fail
                      go_roundg (gk - 1)
                      case measure => omega
                      case rel =>
                        refine ⟨i + 1, by omega, rfl, ?_, ?_⟩
                        · first
                            | (rw [HDE.out]; done)
                            | (rw [HDE.out])
                        · first
                          | exact HBR.out.alloc HBR.out.size _
                          | exact below_drewN (HBR.out.alloc HBR.out.size _) _
                          | exact below_drewN (below_drewN (HBR.out.alloc HBR.out.size _) _) _
                          | exact below_drewN (below_drewN (below_drewN (HBR.out.alloc HBR.out.size _) _) _) _
          · as_aux_lemma =>
              rw [hk] at p0
              have hdv : d' = d := by rw [hdd]; simp [dpT, hk]
              rw [hdv] at HDE nd
              clear hdv
              clear hdd hdp hdl hti9
              rcases Nat.eq_zero_or_pos i with hi0 | hi0
              · clear hk
                have zi : decide ((0 : Int) < (i : Int)) = false := by simp; omega
                have zj : decide (0 < i) = false := by simp; omega
                clear hi0
                go_wp2_with fail
                go_big_quiet (fail)
                go_wp2_with fail
                go_roundg (gk - 1)
                case measure => omega
                case rel =>
                  refine ⟨i + 1, by omega, rfl, ?_, ?_⟩
                  · first
                      | (rw [HDE.out]; done)
                      | (rw [HDE.out])
                  · first
                    | exact HBR.out.alloc HBR.out.size _
                    | exact below_drewN (HBR.out.alloc HBR.out.size _) _
                    | exact below_drewN (below_drewN (HBR.out.alloc HBR.out.size _) _) _
                    | exact below_drewN (below_drewN (below_drewN (HBR.out.alloc HBR.out.size _) _) _) _
              · obtain ⟨q, hq, c0q, c2q⟩ := HPV.out (by omega)
                have zi : (0 : Int) < (i : Int) := by omega
                have zj : decide (0 < i) = true := by simp; omega
                obtain ⟨im, him⟩ : ∃ im, i - 1 = im := ⟨_, rfl⟩
                rw [him] at c0q c2q
                have e5 : IntKind.i64.wrap ((i : Int) - 1) = (im : Int) := by have := HNM.out; rw [i64_small (by omega) (by omega)]; omega
                have e6 : (im : Int) < (N : Int) := by omega
                have e7 : (0 : Int) ≤ (im : Int) := by omega
                have hqa := (HSS.out.ge q hq).1
                have e8 : decide ((t.at_ : Int) < (q.at_ : Int)) = false := by simp; omega
                have e8b : decide (t.at_ < q.at_) = false := by simp; omega
                clear him
                clear hq hqa hk
                go_wp2_with fail
                go_big_quiet (fail)
                go_wp2_with fail
                go_roundg (gk - 1)
                case measure => omega
                case rel =>
                  refine ⟨i + 1, by omega, rfl, ?_, ?_⟩
                  · first
                      | (rw [HDE.out]; done)
                      | (rw [HDE.out])
                  · first
                    | exact HBR.out.alloc HBR.out.size _
                    | exact below_drewN (HBR.out.alloc HBR.out.size _) _
                    | exact below_drewN (below_drewN (HBR.out.alloc HBR.out.size _) _) _
                    | exact below_drewN (below_drewN (below_drewN (HBR.out.alloc HBR.out.size _) _) _) _
          · as_aux_lemma =>
              rw [hk] at p0
              have hx : t.text = [] := HSS.out.bare (by omega)
              rw [hx] at p1
              clear hx
              have hdv : d' = d := by rw [hdd]; simp [dpT, hk]
              rw [hdv] at HDE nd
              clear hdv
              clear hdd hdp hdl hti9
              rcases Nat.eq_zero_or_pos i with hi0 | hi0
              · clear hk
                have zi : decide ((0 : Int) < (i : Int)) = false := by simp; omega
                have zj : decide (0 < i) = false := by simp; omega
                clear hi0
                go_wp2_with fail
                go_big_quiet (fail)
                go_wp2_with fail
                go_roundg (gk - 1)
                case measure => omega
                case rel =>
                  refine ⟨i + 1, by omega, rfl, ?_, ?_⟩
                  · first
                      | (rw [HDE.out]; done)
                      | (rw [HDE.out])
                  · first
                    | exact HBR.out.alloc HBR.out.size _
                    | exact below_drewN (HBR.out.alloc HBR.out.size _) _
                    | exact below_drewN (below_drewN (HBR.out.alloc HBR.out.size _) _) _
                    | exact below_drewN (below_drewN (below_drewN (HBR.out.alloc HBR.out.size _) _) _) _
              · obtain ⟨q, hq, c0q, c2q⟩ := HPV.out (by omega)
                have zi : (0 : Int) < (i : Int) := by omega
                have zj : decide (0 < i) = true := by simp; omega
                obtain ⟨im, him⟩ : ∃ im, i - 1 = im := ⟨_, rfl⟩
                rw [him] at c0q c2q
                have e5 : IntKind.i64.wrap ((i : Int) - 1) = (im : Int) := by have := HNM.out; rw [i64_small (by omega) (by omega)]; omega
                have e6 : (im : Int) < (N : Int) := by omega
                have e7 : (0 : Int) ≤ (im : Int) := by omega
                have hqa := (HSS.out.ge q hq).1
                have e8 : decide ((t.at_ : Int) < (q.at_ : Int)) = false := by simp; omega
                have e8b : decide (t.at_ < q.at_) = false := by simp; omega
                clear him
                clear hq hqa hk
                go_wp2_with fail
                go_big_quiet (fail)
                go_wp2_with fail
                go_roundg (gk - 1)
                case measure => omega
                case rel =>
                  refine ⟨i + 1, by omega, rfl, ?_, ?_⟩
                  · first
                      | (rw [HDE.out]; done)
                      | (rw [HDE.out])
                  · first
                    | exact HBR.out.alloc HBR.out.size _
                    | exact below_drewN (HBR.out.alloc HBR.out.size _) _
                    | exact below_drewN (below_drewN (HBR.out.alloc HBR.out.size _) _) _
                    | exact below_drewN (below_drewN (below_drewN (HBR.out.alloc HBR.out.size _) _) _) _
          · as_aux_lemma =>
              rw [hk] at p0
              have hx : t.text = [] := HSS.out.bare (by omega)
              rw [hx] at p1
              clear hx
              have hdv : d' = d + 1 := by rw [hdd]; simp [dpT, hk]
              have e10 : IntKind.i64.wrap (d + 1) = d' := by have := HNM.out; rw [i64_small (by omega) (by omega)]; omega
              clear hdv
              clear hdd hdp hdl hti9
              rcases Nat.eq_zero_or_pos i with hi0 | hi0
              · clear hk
                have zi : decide ((0 : Int) < (i : Int)) = false := by simp; omega
                have zj : decide (0 < i) = false := by simp; omega
                clear hi0
                go_wp2_with fail
                go_big_quiet (fail)
                go_wp2_with fail
                go_roundg (gk - 1)
                case measure => omega
                case rel =>
                  refine ⟨i + 1, by omega, rfl, ?_, ?_⟩
                  · first
                      | (rw [HDE.out]; done)
                      | (rw [HDE.out])
                  · first
                    | exact HBR.out.alloc HBR.out.size _
                    | exact below_drewN (HBR.out.alloc HBR.out.size _) _
                    | exact below_drewN (below_drewN (HBR.out.alloc HBR.out.size _) _) _
                    | exact below_drewN (below_drewN (below_drewN (HBR.out.alloc HBR.out.size _) _) _) _
              · obtain ⟨q, hq, c0q, c2q⟩ := HPV.out (by omega)
                have zi : (0 : Int) < (i : Int) := by omega
                have zj : decide (0 < i) = true := by simp; omega
                obtain ⟨im, him⟩ : ∃ im, i - 1 = im := ⟨_, rfl⟩
                rw [him] at c0q c2q
                have e5 : IntKind.i64.wrap ((i : Int) - 1) = (im : Int) := by have := HNM.out; rw [i64_small (by omega) (by omega)]; omega
                have e6 : (im : Int) < (N : Int) := by omega
                have e7 : (0 : Int) ≤ (im : Int) := by omega
                have hqa := (HSS.out.ge q hq).1
                have e8 : decide ((t.at_ : Int) < (q.at_ : Int)) = false := by simp; omega
                have e8b : decide (t.at_ < q.at_) = false := by simp; omega
                clear him
                clear hq hqa hk
                go_wp2_with fail
                go_big_quiet (fail)
                go_wp2_with fail
                go_roundg (gk - 1)
                case measure => omega
                case rel =>
                  refine ⟨i + 1, by omega, rfl, ?_, ?_⟩
                  · first
                      | (rw [HDE.out]; done)
                      | (rw [HDE.out])
                  · first
                    | exact HBR.out.alloc HBR.out.size _
                    | exact below_drewN (HBR.out.alloc HBR.out.size _) _
                    | exact below_drewN (below_drewN (HBR.out.alloc HBR.out.size _) _) _
                    | exact below_drewN (below_drewN (below_drewN (HBR.out.alloc HBR.out.size _) _) _) _
          · as_aux_lemma =>
              rw [hk] at p0
              have hx : t.text = [] := HSS.out.bare (by omega)
              rw [hx] at p1
              clear hx
              have hdv : d' = d - 1 := by rw [hdd]; simp [dpT, hk]; omega
              have e10 : IntKind.i64.wrap (d - 1) = d' := by have := HNM.out; rw [i64_small (by omega) (by omega)]; omega
              clear hdv
              clear hdd hdp hdl hti9
              rcases Nat.eq_zero_or_pos i with hi0 | hi0
              · clear hk
                have zi : decide ((0 : Int) < (i : Int)) = false := by simp; omega
                have zj : decide (0 < i) = false := by simp; omega
                clear hi0
                go_wp2_with fail
                go_big_quiet (fail)
                go_wp2_with fail
                go_roundg (gk - 1)
                case measure => omega
                case rel =>
                  refine ⟨i + 1, by omega, rfl, ?_, ?_⟩
                  · first
                      | (rw [HDE.out]; done)
                      | (rw [HDE.out])
                  · first
                    | exact HBR.out.alloc HBR.out.size _
                    | exact below_drewN (HBR.out.alloc HBR.out.size _) _
                    | exact below_drewN (below_drewN (HBR.out.alloc HBR.out.size _) _) _
                    | exact below_drewN (below_drewN (below_drewN (HBR.out.alloc HBR.out.size _) _) _) _
              · obtain ⟨q, hq, c0q, c2q⟩ := HPV.out (by omega)
                have zi : (0 : Int) < (i : Int) := by omega
                have zj : decide (0 < i) = true := by simp; omega
                obtain ⟨im, him⟩ : ∃ im, i - 1 = im := ⟨_, rfl⟩
                rw [him] at c0q c2q
                have e5 : IntKind.i64.wrap ((i : Int) - 1) = (im : Int) := by have := HNM.out; rw [i64_small (by omega) (by omega)]; omega
                have e6 : (im : Int) < (N : Int) := by omega
                have e7 : (0 : Int) ≤ (im : Int) := by omega
                have hqa := (HSS.out.ge q hq).1
                have e8 : decide ((t.at_ : Int) < (q.at_ : Int)) = false := by simp; omega
                have e8b : decide (t.at_ < q.at_) = false := by simp; omega
                clear him
                clear hq hqa hk
                go_wp2_with fail
                go_big_quiet (fail)
                go_wp2_with fail
                go_roundg (gk - 1)
                case measure => omega
                case rel =>
                  refine ⟨i + 1, by omega, rfl, ?_, ?_⟩
                  · first
                      | (rw [HDE.out]; done)
                      | (rw [HDE.out])
                  · first
                    | exact HBR.out.alloc HBR.out.size _
                    | exact below_drewN (HBR.out.alloc HBR.out.size _) _
                    | exact below_drewN (below_drewN (HBR.out.alloc HBR.out.size _) _) _
                    | exact below_drewN (below_drewN (below_drewN (HBR.out.alloc HBR.out.size _) _) _) _
          · as_aux_lemma =>
              rw [hk] at p0
              have hx : t.text = [] := HSS.out.bare (by omega)
              rw [hx] at p1
              clear hx
              have hN9 := HEND.out hk
              have e9b : decide (((i + 1 : Nat) : Int) < (N : Int)) = false := by simp; omega
              have e9c : decide ((i : Int) + 1 < (N : Int)) = false := by simp; omega
              have e9d : decide (i + 1 < N) = false := by simp; omega
              clear hN9
              have hdv : d' = d := by rw [hdd]; simp [dpT, hk]
              rw [hdv] at HDE nd
              clear hdv
              clear hdd hdp hdl hti9
              rcases Nat.eq_zero_or_pos i with hi0 | hi0
              · clear hk
                have zi : decide ((0 : Int) < (i : Int)) = false := by simp; omega
                have zj : decide (0 < i) = false := by simp; omega
                clear hi0
                go_wp2_with fail
                go_big_quiet (fail)
                go_wp2_with fail
                go_roundg (gk - 1)
                case measure => omega
                case rel =>
                  refine ⟨i + 1, by omega, rfl, ?_, ?_⟩
                  · first
                      | (rw [HDE.out]; done)
                      | (rw [HDE.out])
                  · first
                    | exact HBR.out.alloc HBR.out.size _
                    | exact below_drewN (HBR.out.alloc HBR.out.size _) _
                    | exact below_drewN (below_drewN (HBR.out.alloc HBR.out.size _) _) _
                    | exact below_drewN (below_drewN (below_drewN (HBR.out.alloc HBR.out.size _) _) _) _
              · obtain ⟨q, hq, c0q, c2q⟩ := HPV.out (by omega)
                have zi : (0 : Int) < (i : Int) := by omega
                have zj : decide (0 < i) = true := by simp; omega
                obtain ⟨im, him⟩ : ∃ im, i - 1 = im := ⟨_, rfl⟩
                rw [him] at c0q c2q
                have e5 : IntKind.i64.wrap ((i : Int) - 1) = (im : Int) := by have := HNM.out; rw [i64_small (by omega) (by omega)]; omega
                have e6 : (im : Int) < (N : Int) := by omega
                have e7 : (0 : Int) ≤ (im : Int) := by omega
                have hqa := (HSS.out.ge q hq).1
                have e8 : decide ((t.at_ : Int) < (q.at_ : Int)) = false := by simp; omega
                have e8b : decide (t.at_ < q.at_) = false := by simp; omega
                clear him
                clear hq hqa hk
                go_wp2_with fail
                go_big_quiet (fail)
                go_wp2_with fail
                go_roundg (gk - 1)
                case measure => omega
                case rel =>
                  refine ⟨i + 1, by omega, rfl, ?_, ?_⟩
                  · first
                      | (rw [HDE.out]; done)
                      | (rw [HDE.out])
                  · first
                    | exact HBR.out.alloc HBR.out.size _
                    | exact below_drewN (HBR.out.alloc HBR.out.size _) _
                    | exact below_drewN (below_drewN (HBR.out.alloc HBR.out.size _) _) _
                    | exact below_drewN (below_drewN (below_drewN (HBR.out.alloc HBR.out.size _) _) _) _
        · obtain hie : i = N := by omega
          have k1 : ¬ (i : Int) < (N : Int) := by omega
          have hdz : dp (ts.take i) = 0 := by rw [hie, List.take_of_length_le (by rw [HN.out]; exact Nat.le_refl _)]; exact HTO.out.dp
          have hbf : Below w.heap.size w wr := (HB1.out.trans (HBW.out.mono HB1.out.size)).trans (hbr.mono (by have := HB1.out.size; have := HBW.out.size; omega))
          have C3 := awake_any wr (hE.below hbf)
          rw [hdz]
          clear hdz hie hbr
          go_wp2_with fail
          refine C3.mono ?_
          rintro e w3 ⟨rfl, hb3⟩
          go_wp2_with fail
          go_ret
          exact ⟨rfl, hbf.trans (hb3.mono hbf.size)⟩
end Lx
end Go.Proofs.YtmckhkkbghihaaaDoor
