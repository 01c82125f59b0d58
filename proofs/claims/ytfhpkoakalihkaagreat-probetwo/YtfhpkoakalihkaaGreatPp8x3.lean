/-
  The law's does: Tell.
-/
import Derived.Test.YtfhpkoakalihkaaGreatGq
namespace Go.Proofs.YtfhpkoakalihkaaGreat
open Go.RowKit Go.WideShapes

theorem tell_both3 {w : World} {X : Nat} {S : St8} {pm pr : Option Addr} {M : Int → Int → World → Prop} {a b most : Int} {c : Nat} (hP : P8 w X S (.pointer pm) (.pointer pr) M a b most c) (hMo : MtOk (.pointer pm) M) {j : Nat} (hj : j < S.nm) (o : Bool) :
    ∃ Pw : Int → World → Prop, (Calls Tryz.prog 20 #[.pointer (some ⟨(S.ms j).x, 0, none⟩), .bool o] w fun e w1 => ∃ x, e = .returned (.int .i64 x) ∧ Pw x w1) ∧
      ∀ x w1, Pw x w1 → Ex (S.A (S.ms j).k j (.pointer pm)) w w1 ∧ Calls Tryz.prog 31 #[.pointer (some ⟨(S.ms j).y, 0, none⟩), .bool o] w1 fun e w2 => e = .returned (.int .i64 x) ∧ Ex (S.B (S.ms j).k j (.pointer pr)) w1 w2 ∧ D8s w X S (.pointer pm) (.pointer pr) M most (c + 1) w2 := by
  obtain ⟨hk, hM⟩ := hP.mh j hj
  obtain ⟨dc, rc, bd⟩ := hP.dk _ hk
  obtain ⟨lab, sp⟩ := hP.sep
  have hlq := hM.lt
  have hsc := hM.scans
  by_cases h1 : (S.ms j).m.u.kind = 1
  case neg =>
    refine ⟨fun x w1 => x = 8 ∧ Below w.heap.size w w1, (tell_no hM.mc h1 o).mono fun e w1 ⟨g1, g2⟩ => ⟨_, g1, rfl, g2⟩, ?_⟩
    rintro x w1 ⟨rfl, hb⟩
    have hrm : Rm w1 (S.ms j).y (S.ms j).sw (S.ds (S.ms j).k).d2 (S.ms j).m (S.ms j).z := Blk.of hM.rm hb (by omega)
    have hov : (S.ms j).z.over = true ∨ (S.ms j).z.waits = false := by
      rcases hM.tn with y | ⟨y, _⟩ | y
      · exact .inr y.2.1
      · exact absurd y h1
      · exact .inl y.2.2.1
    refine ⟨ex_of hb, (rtell_no hrm hov o).mono ?_⟩
    rintro e w2 ⟨rfl, rfl⟩
    exact ⟨rfl, Ex.refl _ _, _, _, _, D8.same hP hMo hb, rfl, rfl⟩
  case pos =>
    have hz : (S.ms j).z.waits = true ∧ (S.ms j).z.over = false := by
      rcases hM.tn with ⟨y, _⟩ | ⟨_, y1, y2, _⟩ | ⟨_, y, _⟩
      · omega
      · exact ⟨y1, y2⟩
      · exact absurd h1 y
    have hsk : ∃ s s2 vis, (S.ms j).sv = .pointer (some ⟨s, 0, none⟩) ∧ (S.ms j).sw = .pointer (some ⟨s2, 0, none⟩) ∧ (S.ms j).m.scans ≠ 0 ∧ Vi w s vis ∧ V2 w s2 vis ∧ ((S.ms j).m.ver = (S.ds (S.ms j).k).v → Live w w (S.ds (S.ms j).k) (S.ms j) s s2 ∨ ((S.ms j).m.u.kind ≠ 0 ∧ (S.ms j).m.u.kind ≠ 1)) := by
      rcases hM.sk with ⟨_, _, _, y⟩ | y
      · omega
      · exact y
    obtain ⟨s, s2, vis, e1, e2, e3, hvi, hv2, hlive⟩ := hsk
    have nsx := vi_ne hM.mc hvi
    have nsy := v2_ne hM.rm hv2
    refine ⟨fun x w1 => x = 0 ∧ Mc w1 (S.ms j).x (S.ms j).sv (S.ds (S.ms j).k).d { (S.ms j).m with u := Tu.zero, same := o } ∧ Ex (fun k => k = (S.ms j).x) w w1, (tell_yes hM.mc h1 o).mono fun e w1 ⟨g1, g2, g3⟩ => ⟨_, g1, rfl, g2, g3⟩, ?_⟩
    rintro x w1 ⟨rfl, hmc, hx⟩
    have x1 : Ex (S.A (S.ms j).k j (.pointer pm)) w w1 := hx.mono fun i _ hi => .inr (.inr ⟨hj, .inl hi⟩)
    obtain ⟨_, _, _, hRc, hRb, hMs1⟩ := hP.mid hk x1
    have hrm1 : Rm w1 (S.ms j).y (S.ms j).sw (S.ds (S.ms j).k).d2 (S.ms j).m (S.ms j).z := Blk.same hM.rm (hRb j hj _ (.inl rfl))
    refine ⟨x1, (rtell_yes hrm1 hz.2 hz.1 o).mono ?_⟩
    rintro e w2 ⟨rfl, hrm2, hx2⟩
    have x2 : Ex (S.B (S.ms j).k j (.pointer pr)) w1 w2 := hx2.mono fun i _ hi => .inr (.inr ⟨hj, .inl hi⟩)
    rw [e1] at hmc
    rw [e2] at hrm2
    have ls := hlq.1 s (.inr e1)
    have ls2 := hlq.2 s2 (.inr e2)
    have k1 : w1.heap[s]? = w.heap[s]? := hx.block s ls nsx
    have k2 : w2.heap[s2]? = w.heap[s2]? := (hx2.block s2 (Nat.lt_of_lt_of_le ls2 hx.size) nsy).trans (hRb j hj s2 (.inr e2))
    have hdc1 : ∀ i, cX (S.ds (S.ms j).k).d (S.ds (S.ms j).k).g (S.ds (S.ms j).k).gi (S.ds (S.ms j).k).r (S.ds (S.ms j).k).h (S.ds (S.ms j).k).ev i → w1.heap[i]? = w.heap[i]? := fun i hi => hx.block i (dc.lt i hi) (fun e => by have g1 := sp.mp j hj i (.inl e); have g2 := sp.dp _ hk i hi; omega)
    have hrc2 : ∀ i, rX (S.ds (S.ms j).k).d2 (S.ds (S.ms j).k).g2 (S.ds (S.ms j).k).q2 (S.ds (S.ms j).k).ev2 i → w2.heap[i]? = w1.heap[i]? := fun i hi => hx2.block i ((hRc _ hk).lt i hi) (fun e => by have g1 := sp.mr j hj i (.inl e); have g2 := sp.dr _ hk i hi; omega)
    refine ⟨rfl, x2, D8j.s (step_fin hP hMo hj (p := S.ds (S.ms j).k) (m1 := { (S.ms j).m with u := Tu.zero, same := o }) (z1 := { (S.ms j).z with waits := false, same := o }) (s := s) (s2 := s2) (a' := a) (b' := b) x1 x2 rfl rfl rfl rfl (Nat.le_refl _) (fun _ => rfl) ⟨dc.same hdc1, (hRc _ hk).same hrc2, bd.le (Nat.le_succ c)⟩ (fun i hi => .inl hi) (fun i hi => .inl hi) (hMo.same _ _ _ _ hP.m fun i hi => hx.block i (sp.m i hi).2 (fun e => by have g1 := sp.mp j hj i (.inl e); have g2 := sp.m i hi; omega)) (hMs1.same fun i hi => hx2.block i (hMs1.lt i hi) (fun e => by have g1 := sp.mr j hj i (.inl e); have g2 := sp.r i hi; omega)) ⟨by omega, by omega⟩ ⟨by omega, by omega⟩ ⟨hmc, hrm2, hM.goal, hM.ver, by show (S.ms j).m.scans ≤ c + 1; omega, .inl ⟨rfl, rfl, hz.2⟩, .inr ⟨s, s2, vis, rfl, rfl, e3, hvi.same k1, hv2.same k2, fun hver => .inl ?_⟩⟩ (.inl e1) (.inl e2) (fun h => by have g1 := sp.mp j hj s (.inr e1); have g2 := sp.dp _ hk s h; omega) (fun h => by have g1 := sp.mr j hj s2 (.inr e2); have g2 := sp.dr _ hk s2 h; omega) e3)⟩
    rcases hlive hver with (⟨y, _⟩ | ⟨y, i, told, f, z1, z2, z3⟩) | ⟨_, y⟩
    · omega
    · rcases y with ⟨y, _⟩ | ⟨_, n, y1, y2, y3, y4⟩
      · omega
      · cases o with
        | true => exact .inl ⟨rfl, rfl, rfl, n, y1, y2, y3, y4⟩
        | false => exact .inr ⟨.inl ⟨rfl, rfl, rfl⟩, i, told, f, Blk.same z1 k1, Blk.same z2 k2, z3⟩
    · exact absurd h1 y
set_option maxRecDepth 100000 in
set_option maxHeartbeats 8000000 in
theorem does8_tell {w : World} {X : Nat} {S : St8} {pm pr : Option Addr} {M : Int → Int → World → Prop} {a b most : Int} {c : Nat} (hP : P8 w X S (.pointer pm) (.pointer pr) M a b most c) (hMo : MtOk (.pointer pm) M) (hMv : MvOk (.pointer pm) M) (x1 x2 x3 x4 x5 x6 : Int) (sb : Bool) :
    Calls Tryz.prog 12 #[.pointer (some ⟨X, 0, none⟩), .agg #[.int .i64 3, .int .i64 x1, .int .i64 x2, .int .i64 x3, .int .i64 x4, .int .i64 x5, .int .i64 x6, .bool sb]] w fun e w' => e = .returned (.bool true) ∧ ∃ S' a' b', D8 w X S (.pointer pm) (.pointer pr) M most (c + 33) S' a' b' w' := by
  obtain ⟨w0, hw0⟩ : ∃ V, w.alloc (.cells #[.int .i64 3, .int .i64 x1, .int .i64 x2, .int .i64 x3, .int .i64 x4, .int .i64 x5, .int .i64 x6, .bool sb] 63) = V := ⟨_, rfl⟩
  have hb0 : Below w.heap.size w w0 := by rw [← hw0]; exact (Below.refl _ w).alloc (Nat.le_refl _) _
  have hB0 : Blk w0 w.heap.size 8 (fun j => #[Value.int .i64 3, .int .i64 x1, .int .i64 x2, .int .i64 x3, .int .i64 x4, .int .i64 x5, .int .i64 x6, .bool sb].getD j .nilFunc) := by rw [← hw0]; exact Blk.new w _ _
  have hP0 := hP.below hMo hb0
  have hlS := hB0.lt (by omega)
  have hnm := hP.nm
  obtain ⟨am, capm, em, hcapm⟩ := row_len hP0.rm
  have y2 : w0.cell? ⟨X, 2, none⟩ = some (.slice am S.nm capm) := by rw [← em]; exact hP0.hx.c 2 (by omega)
  have b0 : w0.cell? ⟨w.heap.size, 0, none⟩ = some (.int .i64 3) := hB0.c 0 (by omega)
  have b5 : w0.cell? ⟨w.heap.size, 5, none⟩ = some (.int .i64 x5) := hB0.c 5 (by omega)
  have HL : Hid (∀ k, S.all X k ∨ mB (.pointer pm) k ∨ mB (.pointer pr) k → k < w.heap.size) := hP.lt
  have HP := Lib.hid hP
  have HP0 := Lib.hid hP0
  have HB0 := Lib.hid hB0
  have HBW := Lib.hid hb0
  have HMo := Lib.hid hMo
  have HMv := Lib.hid hMv
  have HW0 := Lib.hid hw0
  clear hP hP0 hB0 hb0 hMo hMv hw0 em
  go_enter Tryz.func12, Tryz.ntmps12
  go_upto_region 2 with fail
  rw [HW0.out]
  rcases (by omega : S.nm = 0 ∨ 0 < S.nm) with hz | hz
  case inl =>
    have t0 : ¬ (0 : Int) < (S.nm : Int) := by omega
    go_upto_region 6 with fail
    have HBB : Hid (Below w.heap.size w w0) := HBW.out
    have HPB : Hid (P8 w0 X S (.pointer pm) (.pointer pr) M a b most c) := HP0.out
    have HCB : Hid (Blk w0 w.heap.size 8 _) := HB0.out
    have hsB : w.heap.size < w0.heap.size := hlS
    clear HP0 HB0 HBW hlS b0 b5 y2 HW0
    generalize w0 = wB at *
    obtain ⟨am2, cap2, em2, _⟩ := row_len HPB.out.rm
    have y2 : wB.cell? ⟨X, 2, none⟩ = some (.slice am2 S.nm cap2) := by rw [← em2]; exact HPB.out.hx.c 2 (by omega)
    have v8 : wB.cell? ⟨w.heap.size, 0, none⟩ = some (.int .i64 3) := HCB.out.c 0 (by omega)
    have tz : ((S.nm : Int) == 0) = true := by rw [beq_iff_eq]; omega
    clear em2
    go_upto_region 20 with fail
    go_quiet (fail)
    have HBQ : Hid (Below w.heap.size w (wB.drewN nq)) := ⟨HBB.out.os, HBB.out.tape, HBB.out.output, HBB.out.size, HBB.out.block⟩
    go_wp2_with fail
    go_ret
    exact ⟨rfl, D8.none HP.out HMo.out HBQ.out (by omega)⟩
  case inr =>
    have t0 : (0 : Int) < (S.nm : Int) := by omega
    have hr := rem8 x5 S.nm hz
    have hn0 : ¬ (S.nm : Int) = 0 := by omega
    have hn1 : ¬ S.nm = 0 := by omega
    have hn2 : ((S.nm : Int) == 0) = false := by rw [beq_eq_false_iff_ne]; omega
    obtain ⟨hp1, hp2⟩ := pix_lt x5 hz
    generalize pix x5 S.nm = kk at *
    have d5 : w0.drew.cell? ⟨w.heap.size, 5, none⟩ = some (.int .i64 x5) := b5
    have d2 : w0.drew.cell? ⟨X, 2, none⟩ = some (.slice am S.nm capm) := y2
    go_upto_region 3 with fail
    go_region_held3 (fun V => V.cell? ⟨w.heap.size, 5, none⟩ = some (.int .i64 x5) ∧ V.cell? ⟨X, 2, none⟩ = some (.slice am S.nm capm)) (first | with_reducible exact ⟨d5, d2⟩ | fail) (fail)
    clear d5 d2 hr hn0 hn1 hn2
    by_cases hneg : Int.tmod x5 (S.nm : Int) < 0
    case' pos =>
      rw [if_pos hneg] at hp2
      have e5 : IntKind.i64.wrap (Int.tmod x5 (S.nm : Int) + (S.nm : Int)) = (kk : Int) := by rw [hp2]; exact i64_small (by omega) (by omega)
      go_upto_region 6 with fail
      clear e5
    case' neg =>
      rw [if_neg hneg] at hp2
      go_upto_region 6 with fail
      try rw [hp2]
    all_goals
      clear hp2 hneg
      have HBB : Hid (Below w.heap.size w w0.drew) := HBW.out.drew
      have HPB : Hid (P8 w0.drew X S (.pointer pm) (.pointer pr) M a b most c) := HP.out.below HMo.out HBB.out
      have HCB : Hid (Blk w0.drew w.heap.size 8 _) := HB0.out.same rfl
      have hsB : w.heap.size < w0.drew.heap.size := hlS
      clear HP0 HB0 HBW hlS b0 b5 y2 HW0
      generalize w0.drew = wB at *
      have HB1 : Hid (Below w.heap.size w wB.drew) := HBB.out.drew
      have HPD : Hid (P8 wB.drew X S (.pointer pm) (.pointer pr) M a b most c) := HPB.out.keep HMo.out (Nat.le_refl _) (fun _ _ => rfl)
      have hkd := (HPD.out.mh kk hp1).1
      obtain ⟨gm, cm, em, _, hgm, hom, cgm⟩ := row_open HPD.out.rm hp1
      obtain ⟨gn, cn, en, _, hgn, hon, cgn⟩ := row_open HPD.out.rn hp1
      obtain ⟨Pw, C1, H2⟩ := tell_both3 HPD.out HMo.out hp1 sb
      have H2' := Lib.hid H2
      have HLB := Lib.hid HP.out.lt
      have v8 : wB.cell? ⟨w.heap.size, 0, none⟩ = some (.int .i64 3) := HCB.out.c 0 (by omega)
      have HX0 : Hid (Blk wB.drew X 4 (x8F S)) := HPD.out.hx
      have y20 : wB.cell? ⟨X, 2, none⟩ = some (.slice (some ⟨gm, 0, none⟩) S.nm cm) := by rw [← em]; exact HPB.out.hx.c 2 (by omega)
      have s0 : wB.drew.cell? ⟨X, 2, none⟩ = some (.slice (some ⟨gm, 0, none⟩) S.nm cm) ∧ wB.drew.cell? ⟨X, 3, none⟩ = some (.slice (some ⟨gn, 0, none⟩) S.nm cn) ∧ wB.drew.cell? ⟨gm, kk, none⟩ = some (.pointer (some ⟨(S.ms kk).x, 0, none⟩)) ∧ wB.drew.cell? ⟨gn, kk, none⟩ = some (.pointer (some ⟨(S.ms kk).y, 0, none⟩)) ∧ wB.drew.cell? ⟨w.heap.size, 7, none⟩ = some (.bool sb) := ⟨y20, by rw [← en]; exact HX0.out.c 3 (by omega), cgm, cgn, HCB.out.c 7 (by omega)⟩
      have tz : ((S.nm : Int) == 0) = false := by rw [beq_eq_false_iff_ne]; omega
      have t1 : (kk : Int) < (S.nm : Int) := by omega
      have HS1 : Hid (∀ V, Ex (S.A (S.ms kk).k kk (.pointer pm)) wB.drew V → (V.cell? ⟨X, 2, none⟩ = some (.slice (some ⟨gm, 0, none⟩) S.nm cm) ∧ V.cell? ⟨X, 3, none⟩ = some (.slice (some ⟨gn, 0, none⟩) S.nm cn) ∧ V.cell? ⟨gm, kk, none⟩ = some (.pointer (some ⟨(S.ms kk).x, 0, none⟩)) ∧ V.cell? ⟨gn, kk, none⟩ = some (.pointer (some ⟨(S.ms kk).y, 0, none⟩)) ∧ V.cell? ⟨w.heap.size, 7, none⟩ = some (.bool sb))) := fun V hV => by
        obtain ⟨m1, m2, m3, _, _, _⟩ := HPD.out.mid hkd hV
        obtain ⟨gm', cm', em', _, _, _, cgm'⟩ := row_open m2 hp1
        obtain ⟨gn', cn', en', _, _, _, cgn'⟩ := row_open m3 hp1
        rw [em] at em'
        rw [en] at en'
        cases em'
        cases en'
        refine ⟨by rw [← em]; exact m1.c 2 (by omega), by rw [← en]; exact m1.c 3 (by omega), cgm', cgn', ?_⟩
        have hb : V.heap[w.heap.size]? = wB.drew.heap[w.heap.size]? := hV.block _ (by show _ < wB.heap.size; omega) (fun h => by
          rcases h with h | h | ⟨_, h⟩
          · have := HLB.out _ (.inl (.inr (.inr (.inr (.inl ⟨_, hkd, .inl h⟩))))); omega
          · have := HLB.out _ (.inr (.inl h)); omega
          · have := HLB.out _ (.inl (.inr (.inr (.inr (.inr ⟨_, hp1, .inl h⟩))))); omega)
        exact (World.cell?_of_block (a := ⟨w.heap.size, 7, none⟩) hb).trans (HCB.out.c 7 (by omega))
      have HS2 : Hid (∀ V V', Ex (S.A (S.ms kk).k kk (.pointer pm)) wB.drew V → Ex (S.B (S.ms kk).k kk (.pointer pr)) V V' → (V.cell? ⟨X, 2, none⟩ = some (.slice (some ⟨gm, 0, none⟩) S.nm cm) ∧ V.cell? ⟨X, 3, none⟩ = some (.slice (some ⟨gn, 0, none⟩) S.nm cn) ∧ V.cell? ⟨gm, kk, none⟩ = some (.pointer (some ⟨(S.ms kk).x, 0, none⟩)) ∧ V.cell? ⟨gn, kk, none⟩ = some (.pointer (some ⟨(S.ms kk).y, 0, none⟩)) ∧ V.cell? ⟨w.heap.size, 7, none⟩ = some (.bool sb)) → (V'.cell? ⟨X, 2, none⟩ = some (.slice (some ⟨gm, 0, none⟩) S.nm cm) ∧ V'.cell? ⟨X, 3, none⟩ = some (.slice (some ⟨gn, 0, none⟩) S.nm cn) ∧ V'.cell? ⟨gm, kk, none⟩ = some (.pointer (some ⟨(S.ms kk).x, 0, none⟩)) ∧ V'.cell? ⟨gn, kk, none⟩ = some (.pointer (some ⟨(S.ms kk).y, 0, none⟩)) ∧ V'.cell? ⟨w.heap.size, 7, none⟩ = some (.bool sb))) := fun V V' h1 h2 hs => by
        obtain ⟨lab, sp⟩ := HPD.out.sep
        have n2 : ∀ i, i < wB.drew.heap.size → (lab i = 0 ∨ lab i = 3 ∨ lab i = 4) → V'.heap[i]? = V.heap[i]? := fun i hi hl => h2.block i (Nat.lt_of_lt_of_le hi h1.size) (fun h => by
          rcases h with h | h | ⟨_, h⟩
          · have := (sp.dr _ hkd i h).1; omega
          · have := (sp.r i h).1; omega
          · have := (sp.mr _ hp1 i h).1; omega)
        have nX := n2 X sp.x.2 (.inl sp.x.1)
        have nm' := n2 gm (sp.rm gm hom).2 (.inr (.inl (sp.rm gm hom).1))
        have nn' := n2 gn (sp.rn gn hon).2 (.inr (.inr (sp.rn gn hon).1))
        have nS : V'.heap[w.heap.size]? = V.heap[w.heap.size]? := h2.block _ (Nat.lt_of_lt_of_le (by show _ < wB.heap.size; omega) h1.size) (fun h => by
          rcases h with h | h | ⟨_, h⟩
          · have := HLB.out _ (.inl (.inr (.inr (.inr (.inl ⟨_, hkd, .inr h⟩))))); omega
          · have := HLB.out _ (.inr (.inr h)); omega
          · have := HLB.out _ (.inl (.inr (.inr (.inr (.inr ⟨_, hp1, .inr h⟩))))); omega)
        exact ⟨(World.cell?_of_block (a := ⟨X, 2, none⟩) nX).trans hs.1, (World.cell?_of_block (a := ⟨X, 3, none⟩) nX).trans hs.2.1, (World.cell?_of_block (a := ⟨gm, kk, none⟩) nm').trans hs.2.2.1, (World.cell?_of_block (a := ⟨gn, kk, none⟩) nn').trans hs.2.2.2.1, (World.cell?_of_block (a := ⟨w.heap.size, 7, none⟩) nS).trans hs.2.2.2.2⟩
      clear H2 em en
      go_upto_region 20 with fail
      clear y20
      go_region_held3 (fun V => (V.cell? ⟨X, 2, none⟩ = some (.slice (some ⟨gm, 0, none⟩) S.nm cm) ∧ V.cell? ⟨X, 3, none⟩ = some (.slice (some ⟨gn, 0, none⟩) S.nm cn) ∧ V.cell? ⟨gm, kk, none⟩ = some (.pointer (some ⟨(S.ms kk).x, 0, none⟩)) ∧ V.cell? ⟨gn, kk, none⟩ = some (.pointer (some ⟨(S.ms kk).y, 0, none⟩)) ∧ V.cell? ⟨w.heap.size, 7, none⟩ = some (.bool sb))) (first | with_reducible exact s0 | with_reducible exact s1 | with_reducible exact s2 | fail)
        (first | (go_at_call 20; refine C1.mono ?_; rintro e w1 ⟨x, rfl, hPw⟩; obtain ⟨hxA, C2⟩ := H2'.out x w1 hPw; have s1 := HS1.out w1 hxA; clear hPw) | (go_at_call 31; refine C2.mono ?_; rintro e w2 ⟨rfl, hxB, hD⟩; have HD := Lib.hid (hD.fin HB1.out (by omega : c + 1 ≤ c + 33)); have s2 := HS2.out w1 w2 hxA hxB s1; clear hD hxB) | fail)
      go_wp2_with fail
      go_ret
      exact ⟨rfl, HD.out⟩
end Go.Proofs.YtfhpkoakalihkaaGreat
