/-
  The law's does: Step and Tell, again.
-/
import Derived.Test.YtfhpkoakalihkaaGreatPp8x3
namespace Go.Proofs.YtfhpkoakalihkaaGreat
open Go.RowKit Go.WideShapes

theorem D8.then {w w1 w2 : World} {X : Nat} {S S1 S2 : St8} {mv mr : Value} {M : Int → Int → World → Prop} {a1 b1 a2 b2 most : Int} {c c' : Nat} (h : D8 w X S mv mr M most c S1 a1 b1 w1) (h2 : D8 w1 X S1 mv mr M most c' S2 a2 b2 w2) : D8 w X S mv mr M most c' S2 a2 b2 w2 :=
  ⟨h2.p, fun k hk => (h2.fx k hk).elim (fun y => h.fx k y) (fun y => .inr (Nat.le_trans h.ex.size y)), h.ex.next h2.ex (fun i hi y => by
    rcases y with y | y
    · exact (h.fx i y).elim .inl (fun z => by omega)
    · exact .inr y)⟩
set_option maxRecDepth 100000 in
set_option maxHeartbeats 8000000 in
theorem does8_again {w : World} {X : Nat} {S : St8} {pm pr : Option Addr} {M : Int → Int → World → Prop} {a b most : Int} {c : Nat} (hP : P8 w X S (.pointer pm) (.pointer pr) M a b most c) (hMo : MtOk (.pointer pm) M) (hMv : MvOk (.pointer pm) M) (hc : c ≤ 40000) (x1 x2 x3 x4 x5 x6 : Int) (sb : Bool) :
    Calls Tryz.prog 12 #[.pointer (some ⟨X, 0, none⟩), .agg #[.int .i64 4, .int .i64 x1, .int .i64 x2, .int .i64 x3, .int .i64 x4, .int .i64 x5, .int .i64 x6, .bool sb]] w fun e w' => e = .returned (.bool true) ∧ ∃ S' a' b', D8 w X S (.pointer pm) (.pointer pr) M most (c + 33) S' a' b' w' := by
  obtain ⟨w0, hw0⟩ : ∃ V, w.alloc (.cells #[.int .i64 4, .int .i64 x1, .int .i64 x2, .int .i64 x3, .int .i64 x4, .int .i64 x5, .int .i64 x6, .bool sb] 63) = V := ⟨_, rfl⟩
  have hb0 : Below w.heap.size w w0 := by rw [← hw0]; exact (Below.refl _ w).alloc (Nat.le_refl _) _
  have hB0 : Blk w0 w.heap.size 8 (fun j => #[Value.int .i64 4, .int .i64 x1, .int .i64 x2, .int .i64 x3, .int .i64 x4, .int .i64 x5, .int .i64 x6, .bool sb].getD j .nilFunc) := by rw [← hw0]; exact Blk.new w _ _
  have hP0 := hP.below hMo hb0
  have hlS := hB0.lt (by omega)
  have hnm := hP.nm
  obtain ⟨am, capm, em, hcapm⟩ := row_len hP0.rm
  have y2 : w0.cell? ⟨X, 2, none⟩ = some (.slice am S.nm capm) := by rw [← em]; exact hP0.hx.c 2 (by omega)
  have b0 : w0.cell? ⟨w.heap.size, 0, none⟩ = some (.int .i64 4) := hB0.c 0 (by omega)
  have b5 : w0.cell? ⟨w.heap.size, 5, none⟩ = some (.int .i64 x5) := hB0.c 5 (by omega)
  have HL : Hid (∀ k, S.all X k ∨ mB (.pointer pm) k ∨ mB (.pointer pr) k → k < w.heap.size) := hP.lt
  have HP := Lib.hid hP
  have HP0 := Lib.hid hP0
  have HB0 := Lib.hid hB0
  have HBW := Lib.hid hb0
  have HMo := Lib.hid hMo
  have HMv := Lib.hid hMv
  have HW0 := Lib.hid hw0
  clear hP hP0 hB0 hb0 hMo hMv hw0 em
  go_enter Tryz.func12, Tryz.ntmps12
  go_upto_region 2 with fail
  rw [HW0.out]
  rcases (by omega : S.nm = 0 ∨ 0 < S.nm) with hz | hz
  case inl =>
    have t0 : ¬ (0 : Int) < (S.nm : Int) := by omega
    go_upto_region 6 with fail
    have HBB : Hid (Below w.heap.size w w0) := HBW.out
    have HPB : Hid (P8 w0 X S (.pointer pm) (.pointer pr) M a b most c) := HP0.out
    have HCB : Hid (Blk w0 w.heap.size 8 _) := HB0.out
    have hsB : w.heap.size < w0.heap.size := hlS
    clear HP0 HB0 HBW hlS b0 b5 y2 HW0
    generalize w0 = wB at *
    obtain ⟨am2, cap2, em2, _⟩ := row_len HPB.out.rm
    have y2 : wB.cell? ⟨X, 2, none⟩ = some (.slice am2 S.nm cap2) := by rw [← em2]; exact HPB.out.hx.c 2 (by omega)
    have v8 : wB.cell? ⟨w.heap.size, 0, none⟩ = some (.int .i64 4) := HCB.out.c 0 (by omega)
    have v6 : wB.cell? ⟨w.heap.size, 6, none⟩ = some (.int .i64 x6) := HCB.out.c 6 (by omega)
    clear em2
    go_wp2_with fail
    go_loopw [10, 11, 12] (fun iv _ _ wr => iv = .int .i64 0 ∧ wr = wB) (fun _ _ _ _ => 0)
    case atStart => exact ⟨rfl, rfl⟩
    case round =>
      obtain ⟨rfl, e⟩ := hrel
      cases e
      by_cases g1 : (0 : Int) < x6
      · go_wp2_with fail
        go_ret
        exact ⟨rfl, D8.none HP.out HMo.out HBB.out (by omega)⟩
      · go_wp2_with fail
        go_ret
        exact ⟨rfl, D8.none HP.out HMo.out HBB.out (by omega)⟩
  case inr =>
    have t0 : (0 : Int) < (S.nm : Int) := by omega
    have hr := rem8 x5 S.nm hz
    have hn0 : ¬ (S.nm : Int) = 0 := by omega
    have hn1 : ¬ S.nm = 0 := by omega
    have hn2 : ((S.nm : Int) == 0) = false := by rw [beq_eq_false_iff_ne]; omega
    obtain ⟨hp1, hp2⟩ := pix_lt x5 hz
    generalize pix x5 S.nm = kk at *
    have d5 : w0.drew.cell? ⟨w.heap.size, 5, none⟩ = some (.int .i64 x5) := b5
    have d2 : w0.drew.cell? ⟨X, 2, none⟩ = some (.slice am S.nm capm) := y2
    go_upto_region 3 with fail
    go_region_held3 (fun V => V.cell? ⟨w.heap.size, 5, none⟩ = some (.int .i64 x5) ∧ V.cell? ⟨X, 2, none⟩ = some (.slice am S.nm capm)) (first | with_reducible exact ⟨d5, d2⟩ | fail) (fail)
    clear d5 d2 hr hn0 hn1 hn2
    by_cases hneg : Int.tmod x5 (S.nm : Int) < 0
    case' pos =>
      rw [if_pos hneg] at hp2
      have e5 : IntKind.i64.wrap (Int.tmod x5 (S.nm : Int) + (S.nm : Int)) = (kk : Int) := by rw [hp2]; exact i64_small (by omega) (by omega)
      go_upto_region 6 with fail
      clear e5
    case' neg =>
      rw [if_neg hneg] at hp2
      go_upto_region 6 with fail
      try rw [hp2]
    all_goals
      clear hp2 hneg
      have HBB : Hid (Below w.heap.size w w0.drew) := HBW.out.drew
      have HPB : Hid (P8 w0.drew X S (.pointer pm) (.pointer pr) M a b most c) := HP.out.below HMo.out HBB.out
      have HCB : Hid (Blk w0.drew w.heap.size 8 _) := HB0.out.same rfl
      have hsB : w.heap.size < w0.drew.heap.size := hlS
      clear HP0 HB0 HBW hlS b0 b5 y2 HW0
      generalize w0.drew = wB at *
      have v8 : wB.cell? ⟨w.heap.size, 0, none⟩ = some (.int .i64 4) := HCB.out.c 0 (by omega)
      go_wp2_with fail
      clear v8
      go_loopw [10, 11, 12] (fun iv _ _ wr => ∃ k : Nat, k ≤ 16 ∧ iv = .int .i64 (k : Int) ∧ ∃ S' a' b', D8 wB X S (.pointer pm) (.pointer pr) M most (c + 2 * k) S' a' b' wr ∧ S'.nm = S.nm ∧ S'.nd = S.nd) (fun iv _ _ _ => 16 - (intOf iv).toNat)
      case atStart => exact ⟨0, by omega, rfl, S, a, b, ⟨HPB.out, fun _ h => .inl h, Ex.refl _ _⟩, rfl, rfl⟩
      obtain ⟨k, hk, rfl, S', a', b', hD, hnm', hnd'⟩ := hrel
      have HDR := Lib.hid hD
      have HCR : Hid (Blk wr w.heap.size 8 _) := HCB.out.same (hD.ex.block _ hsB (fun h => by have := HL.out _ h; omega))
      have v6 : wr.cell? ⟨w.heap.size, 6, none⟩ = some (.int .i64 x6) := HCR.out.c 6 (by omega)
      obtain ⟨am2, cap2, em2, _⟩ := row_len hD.p.rm
      rw [hnm'] at em2
      have y2 : wr.cell? ⟨X, 2, none⟩ = some (.slice am2 S.nm cap2) := by rw [← em2]; exact hD.p.hx.c 2 (by omega)
      have hkk : kk < S'.nm := by omega
      have C1 := twostep_any hD.p HMo.out HMv.out (by omega) hkk
      unfold tuV at C1
      clear hD em2
      by_cases g1 : (k : Int) < x6
      case neg =>
        clear C1
        go_wp2_with fail
        go_ret
        exact ⟨rfl, S', a', b', HDR.out.up HBB.out (by omega)⟩
      by_cases g2 : (k : Int) < 16
      case neg =>
        clear C1
        go_wp2_with fail
        go_ret
        exact ⟨rfl, S', a', b', HDR.out.up HBB.out (by omega)⟩
      go_wp2_with fail
      refine C1.mono ?_
      rintro e w1 ⟨u, rfl, S1, a1, b1, hD1, hnm1, hnd1⟩
      clear C1 v6 y2 g1
      obtain ⟨wC, hwC⟩ : ∃ V, w1.alloc (.cells #[.int .i64 u.kind, .int .i64 u.key, .bool u.found, .int .i64 u.value, .int .i64 u.entry] 81) = V := ⟨_, rfl⟩
      have hbC : Below w1.heap.size w1 wC := by rw [← hwC]; exact (Below.refl _ w1).alloc (Nat.le_refl _) _
      have HDD := Lib.hid ((HDR.out.then hD1).after HMo.out hbC)
      have HWC := Lib.hid hwC
      have hsC : w.heap.size < wC.heap.size := Nat.lt_of_lt_of_le hsB HDD.out.ex.size
      have HCC : Hid (Blk wC w.heap.size 8 _) := HCB.out.same (HDD.out.ex.block _ hsB (fun h => by have := HL.out _ h; omega))
      have HLN : Hid (∀ i, S1.all X i ∨ mB (.pointer pm) i ∨ mB (.pointer pr) i → i ≠ w.heap.size) := fun i h e => by
        rcases h with h | h
        · rcases HDD.out.fx i h with h | h
          · have := HL.out i (.inl h); omega
          · omega
        · have := HL.out i (.inr h); omega
      clear hwC hbC hD1
      have hp2 : kk < S1.nm := by omega
      have HPD : Hid (P8 wC.drew X S1 (.pointer pm) (.pointer pr) M a1 b1 most (c + 2 * k + 1)) := HDD.out.p.keep HMo.out (Nat.le_refl _) (fun _ _ => rfl)
      have hkd := (HPD.out.mh kk hp2).1
      obtain ⟨gm, cm, em, _, hgm, hom, cgm⟩ := row_open HPD.out.rm hp2
      obtain ⟨gn, cn, en, _, hgn, hon, cgn⟩ := row_open HPD.out.rn hp2
      obtain ⟨Pw, C1, H2⟩ := tell_both3 HPD.out HMo.out hp2 sb
      have H2' := Lib.hid H2
      have HX0 : Hid (Blk wC.drew X 4 (x8F S1)) := HPD.out.hx
      have s0 : wC.drew.cell? ⟨X, 2, none⟩ = some (.slice (some ⟨gm, 0, none⟩) S1.nm cm) ∧ wC.drew.cell? ⟨X, 3, none⟩ = some (.slice (some ⟨gn, 0, none⟩) S1.nm cn) ∧ wC.drew.cell? ⟨gm, kk, none⟩ = some (.pointer (some ⟨(S1.ms kk).x, 0, none⟩)) ∧ wC.drew.cell? ⟨gn, kk, none⟩ = some (.pointer (some ⟨(S1.ms kk).y, 0, none⟩)) ∧ wC.drew.cell? ⟨w.heap.size, 7, none⟩ = some (.bool sb) := ⟨by rw [← em]; exact HX0.out.c 2 (by omega), by rw [← en]; exact HX0.out.c 3 (by omega), cgm, cgn, HCC.out.c 7 (by omega)⟩
      have t1 : (kk : Int) < (S1.nm : Int) := by omega
      have HS1 : Hid (∀ V, Ex (S1.A (S1.ms kk).k kk (.pointer pm)) wC.drew V → (V.cell? ⟨X, 2, none⟩ = some (.slice (some ⟨gm, 0, none⟩) S1.nm cm) ∧ V.cell? ⟨X, 3, none⟩ = some (.slice (some ⟨gn, 0, none⟩) S1.nm cn) ∧ V.cell? ⟨gm, kk, none⟩ = some (.pointer (some ⟨(S1.ms kk).x, 0, none⟩)) ∧ V.cell? ⟨gn, kk, none⟩ = some (.pointer (some ⟨(S1.ms kk).y, 0, none⟩)) ∧ V.cell? ⟨w.heap.size, 7, none⟩ = some (.bool sb))) := fun V hV => by
        obtain ⟨m1, m2, m3, _, _, _⟩ := HPD.out.mid hkd hV
        obtain ⟨gm', cm', em', _, _, _, cgm'⟩ := row_open m2 hp2
        obtain ⟨gn', cn', en', _, _, _, cgn'⟩ := row_open m3 hp2
        rw [em] at em'
        rw [en] at en'
        cases em'
        cases en'
        refine ⟨by rw [← em]; exact m1.c 2 (by omega), by rw [← en]; exact m1.c 3 (by omega), cgm', cgn', ?_⟩
        have hb : V.heap[w.heap.size]? = wC.drew.heap[w.heap.size]? := hV.block _ (by show _ < wC.heap.size; omega) (fun h => by
          rcases h with h | h | ⟨_, h⟩
          · exact HLN.out _ (.inl (.inr (.inr (.inr (.inl ⟨_, hkd, .inl h⟩))))) rfl
          · exact HLN.out _ (.inr (.inl h)) rfl
          · exact HLN.out _ (.inl (.inr (.inr (.inr (.inr ⟨_, hp2, .inl h⟩))))) rfl)
        exact (World.cell?_of_block (a := ⟨w.heap.size, 7, none⟩) hb).trans (HCC.out.c 7 (by omega))
      have HS2 : Hid (∀ V V', Ex (S1.A (S1.ms kk).k kk (.pointer pm)) wC.drew V → Ex (S1.B (S1.ms kk).k kk (.pointer pr)) V V' → (V.cell? ⟨X, 2, none⟩ = some (.slice (some ⟨gm, 0, none⟩) S1.nm cm) ∧ V.cell? ⟨X, 3, none⟩ = some (.slice (some ⟨gn, 0, none⟩) S1.nm cn) ∧ V.cell? ⟨gm, kk, none⟩ = some (.pointer (some ⟨(S1.ms kk).x, 0, none⟩)) ∧ V.cell? ⟨gn, kk, none⟩ = some (.pointer (some ⟨(S1.ms kk).y, 0, none⟩)) ∧ V.cell? ⟨w.heap.size, 7, none⟩ = some (.bool sb)) → (V'.cell? ⟨X, 2, none⟩ = some (.slice (some ⟨gm, 0, none⟩) S1.nm cm) ∧ V'.cell? ⟨X, 3, none⟩ = some (.slice (some ⟨gn, 0, none⟩) S1.nm cn) ∧ V'.cell? ⟨gm, kk, none⟩ = some (.pointer (some ⟨(S1.ms kk).x, 0, none⟩)) ∧ V'.cell? ⟨gn, kk, none⟩ = some (.pointer (some ⟨(S1.ms kk).y, 0, none⟩)) ∧ V'.cell? ⟨w.heap.size, 7, none⟩ = some (.bool sb))) := fun V V' h1 h2 hs => by
        obtain ⟨lab, sp⟩ := HPD.out.sep
        have n2 : ∀ i, i < wC.drew.heap.size → (lab i = 0 ∨ lab i = 3 ∨ lab i = 4) → V'.heap[i]? = V.heap[i]? := fun i hi hl => h2.block i (Nat.lt_of_lt_of_le hi h1.size) (fun h => by
          rcases h with h | h | ⟨_, h⟩
          · have := (sp.dr _ hkd i h).1; omega
          · have := (sp.r i h).1; omega
          · have := (sp.mr _ hp2 i h).1; omega)
        have nX := n2 X sp.x.2 (.inl sp.x.1)
        have nm' := n2 gm (sp.rm gm hom).2 (.inr (.inl (sp.rm gm hom).1))
        have nn' := n2 gn (sp.rn gn hon).2 (.inr (.inr (sp.rn gn hon).1))
        have nS : V'.heap[w.heap.size]? = V.heap[w.heap.size]? := h2.block _ (Nat.lt_of_lt_of_le (by show _ < wC.heap.size; omega) h1.size) (fun h => by
          rcases h with h | h | ⟨_, h⟩
          · exact HLN.out _ (.inl (.inr (.inr (.inr (.inl ⟨_, hkd, .inr h⟩))))) rfl
          · exact HLN.out _ (.inr (.inr h)) rfl
          · exact HLN.out _ (.inl (.inr (.inr (.inr (.inr ⟨_, hp2, .inr h⟩))))) rfl)
        exact ⟨(World.cell?_of_block (a := ⟨X, 2, none⟩) nX).trans hs.1, (World.cell?_of_block (a := ⟨X, 3, none⟩) nX).trans hs.2.1, (World.cell?_of_block (a := ⟨gm, kk, none⟩) nm').trans hs.2.2.1, (World.cell?_of_block (a := ⟨gn, kk, none⟩) nn').trans hs.2.2.2.1, (World.cell?_of_block (a := ⟨w.heap.size, 7, none⟩) nS).trans hs.2.2.2.2⟩
      clear H2 em en
      go_upto_region 26 with fail
      rw [HWC.out]
      go_region_held3 (fun V => (V.cell? ⟨X, 2, none⟩ = some (.slice (some ⟨gm, 0, none⟩) S1.nm cm) ∧ V.cell? ⟨X, 3, none⟩ = some (.slice (some ⟨gn, 0, none⟩) S1.nm cn) ∧ V.cell? ⟨gm, kk, none⟩ = some (.pointer (some ⟨(S1.ms kk).x, 0, none⟩)) ∧ V.cell? ⟨gn, kk, none⟩ = some (.pointer (some ⟨(S1.ms kk).y, 0, none⟩)) ∧ V.cell? ⟨w.heap.size, 7, none⟩ = some (.bool sb))) (first | with_reducible exact s0 | with_reducible exact s1 | with_reducible exact s2 | fail)
        (first | (go_at_call 20; refine C1.mono ?_; rintro e w3 ⟨x, rfl, hPw⟩; obtain ⟨hxA, C2⟩ := H2'.out x w3 hPw; have s1 := HS1.out w3 hxA; clear hPw) | (go_at_call 31; refine C2.mono ?_; rintro e w4 ⟨rfl, hxB, hD⟩; have HD := Lib.hid hD; have s2 := HS2.out w3 w4 hxA hxB s1; clear hD hxB) | fail)
      go_wp2_with fail
      go_roundw
      case rel =>
        obtain ⟨S2, a2, b2, hD2, hn2, hn2'⟩ := HD.out
        exact ⟨k + 1, by omega, by go_num, S2, a2, b2, HDD.out.then (hD2.up (Below.refl _ wC).drew (by omega : c + 2 * k + 1 + 1 ≤ c + 2 * (k + 1))), by omega, by omega⟩
      case measure => simp [intOf]; omega
end Go.Proofs.YtfhpkoakalihkaaGreat
