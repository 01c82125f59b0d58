/-
  goOn from where it asks its Seeker on, walked.
-/
import Derived.Test.YtejfmajbggmghaaGreatGh
import Derived.BigQuiet
namespace Go.Proofs.YtejfmajbggmghaaGreat
open Go.RowKit Go.WideShapes

/-- Whether a machine begins a scan, or goes on with the one that it has. -/
def Way (w : World) (d g gi r h : Nat) (ev : Value) (t : Tb) (mv : Value) (v : Nat) (x : Nat) (sv : Value) (m : Ma) : Prop :=
  (m.scans = 0 ∨ m.ver ≠ v) ∨ (m.scans ≠ 0 ∧ m.ver = v ∧ m.same = false ∧ ∃ s i told f, sv = .pointer (some ⟨s, 0, none⟩) ∧ Sw w d g gi r h ev t mv x s m.hash i told f)
/-- Where the Seeker stands that goOn asks: a new one, or the one that there was. -/
def St0 (w : World) (d g gi r h : Nat) (ev : Value) (t : Tb) (mv : Value) (v : Nat) (x : Nat) (sv : Value) (m : Ma) (s i : Nat) (told : Int) (f sc : Nat) : Prop := (m.scans = 0 ∨ m.ver ≠ v) ∧ i = 0 ∧ told = -1 ∧ sc = m.scans + 1 ∧ w.heap.size ≤ s ∧ f < 2 ^ t.L + 13 ∧ IsF t.c (uw m.hash) t.L f ∨ (m.scans ≠ 0 ∧ m.ver = v) ∧ sv = .pointer (some ⟨s, 0, none⟩) ∧ sc = m.scans ∧ Sw w d g gi r h ev t mv x s m.hash i told f
theorem Sw.of {w w' : World} {d g gi r h : Nat} {ev : Value} {t : Tb} {mv : Value} {x s : Nat} {u : Int} {i : Nat} {told : Int} {f : Nat} (hS : Sw w d g gi r h ev t mv x s u i told f) (e : w'.heap[s]? = w.heap[s]?) : Sw w' d g gi r h ev t mv x s u i told f := ⟨hS.sk.same e, hS.td, hS.ff, hS.le, hS.lt, hS.ge, hS.nc, hS.nm, hS.nx⟩
set_option maxRecDepth 100000 in
set_option maxHeartbeats 8000000 in
theorem goOn_next {w : World} {d g gi r h : Nat} {ev : Value} {t : Tb} {mv : Value} {M : Int → Int → World → Prop} {a b : Int} {most : Int} {v : Nat} (hC : Dc w d g gi r h ev t mv most v) (hMo : MtOk mv M) (hMv : MvOk mv M) (hM : M a b w) (hm1 : t.made ≤ 1000000) (ha : 0 ≤ a ∧ a ≤ 1000000000) (hb : 0 ≤ b ∧ b ≤ 100000000000) (ht : t.turn ≤ 1000000) (hbi : t.births < 100000) (hv : v ≤ 1000000000) {x : Nat} {sv : Value} {m : Ma} (hm : Mx w d g gi r h ev mv x sv m) (hsc : m.scans ≤ 1000000) (hver : m.ver ≤ 1000000000) (hW : Way w d g gi r h ev t mv v x sv m) :
    Calls Tryz.prog 28 #[.pointer (some ⟨x, 0, none⟩)] w fun e w' => ∃ u s i told f sc, e = .returned (tuV u) ∧ St0 w d g gi r h ev t mv v x sv m s i told f sc ∧ GoR w d g gi r h ev t mv M x sv a b most v { m with ver := v, scans := sc } s i told f u w' := by
  obtain ⟨w1, hw1⟩ : ∃ y, w.alloc (.cells #[.int .i64 0, .int .i64 0, .bool false, .int .i64 0, .int .i64 0] 45) = y := ⟨_, rfl⟩
  obtain ⟨hX1, hB1, hs1⟩ := tu_zero_blk w hw1
  have hC1 := hC.below hB1
  have hmx1 := hm.below hB1
  have lx := hm.mc.lt (by omega)
  have hlm := fun k hk => hMo.lt a b w k hM hk
  have k1 : w1.cell? ⟨x, 1, none⟩ = some (.pointer (some ⟨d, 0, none⟩)) := hmx1.mc.c 1 (by omega)
  have k8 : w1.cell? ⟨x, 8, none⟩ = some (.int .u64 (m.ver : Int)) := hmx1.mc.c 8 (by omega)
  have k9 : w1.cell? ⟨x, 9, none⟩ = some (.int .i64 (m.scans : Int)) := hmx1.mc.c 9 (by omega)
  have k16 : w1.cell? ⟨x, 16, none⟩ = some (.bool m.same) := hmx1.mc.c 16 (by omega)
  have d2 : w1.cell? ⟨d, 2, none⟩ = some (.int .u64 (v : Int)) := hC1.hd.c 2 (by omega)
  have hxR : x ≠ w.heap.size := by omega
  have HC := Lib.hid hC
  have HMo := Lib.hid hMo
  have HMv := Lib.hid hMv
  have HM := Lib.hid hM
  have HMX := Lib.hid hm
  have HB1 := Lib.hid hB1
  have HX1 := Lib.hid hX1
  have HW1 := Lib.hid hw1
  have HWay := Lib.hid hW
  clear hC hMo hMv hM hm hC1 hmx1 hB1 hX1 hw1 hW
  go_enter Tryz.func28, Tryz.ntmps28
  go_upto_region 1 with fail
  rw [HW1.out]
  have W3 : m.scans = 0 ∨ (m.scans ≠ 0 ∧ m.ver ≠ v) ∨ (m.scans ≠ 0 ∧ m.ver = v ∧ m.same = false ∧ ∃ s i told f, sv = .pointer (some ⟨s, 0, none⟩) ∧ Sw w d g gi r h ev t mv x s m.hash i told f) := by
    rcases HWay.out with (y | y) | y
    · exact .inl y
    · by_cases z : m.scans = 0
      · exact .inl z
      · exact .inr (.inl ⟨z, y⟩)
    · exact .inr (.inr y)
  have HCS : Hid (∀ V, Below w.heap.size w V → Calls Tryz.prog 57 #[.pointer (some ⟨x, 0, none⟩)] V fun e w' => e = .returned (.tuple #[]) ∧ ∃ s, V.heap.size ≤ s ∧ Sk w' s (.pointer (some ⟨g, 0, none⟩)) t.turn m.hash t.L 0 (-1) 0 ∧ Mc w' x (.pointer (some ⟨s, 0, none⟩)) d { m with ver := v, scans := m.scans + 1 } ∧ Ex (fun k => k = x) V w') := fun V hV => beginScan_any (HC.out.below hV) (HMX.out.below hV) hsc
  clear HWay
  rcases W3 with h0 | ⟨h0, hvv⟩ | ⟨hne0, hev, hsm, s, i, told, f, hsv, hSW⟩
  case' inl =>
      have t0 : ((m.scans : Int) == 0) = true := by rw [beq_iff_eq]; omega
      have HBEG : Hid (m.scans = 0 ∨ m.ver ≠ v) := .inl h0
      clear h0
      go_quiet (fail)
      clear t0
      have hBq : Below w.heap.size w (w1.drewN nq) := ⟨HB1.out.os, HB1.out.tape, HB1.out.output, HB1.out.size, HB1.out.block⟩
      have hXq : Blk (w1.drewN nq) w.heap.size 5 rZ := HX1.out.same rfl
      have CS := HCS.out _ hBq
      have HBq := Lib.hid hBq
      have HXq := Lib.hid hXq
      have hsq : (w1.drewN nq).heap.size = w.heap.size + 1 := hs1
      clear hBq hXq k1 k8 k9 k16 d2
      generalize w1.drewN nq = wq at *
      go_wp2_with fail
      refine CS.mono ?_
      rintro e wS ⟨rfl, s, hs, hK, hmc, hx⟩
      clear CS HCS
      obtain ⟨f, hf1, hf2⟩ := HC.out.ok.inv.first m.hash
      have hCq := HC.out.below HBq.out
      have HA5 : Hid (A5 w d g gi r h ev t mv M x sv a b most v { m with ver := v, scans := m.scans + 1 } s 0 (-1) f wS) :=
        ⟨hCq.same fun k hk => hx.block k (hCq.lt k hk) (fun (e : k = x) => HMX.out.ne (e ▸ hk)), HMo.out.same _ _ _ _ (HMo.out.below HM.out HBq.out) fun k hk => hx.block k (by have := hlm k hk; omega) (fun (e : k = x) => HMX.out.nm (e ▸ hk)), hmc,
          ⟨hK, told_zero _ _ _ _, hf2, Nat.zero_le _, hf1, Int.le_refl _, fun hk => by have := HC.out.lt s hk; omega, fun hk => by have := hlm s hk; omega, by omega⟩, .inr (by omega), (ex_of HBq.out).next hx (fun _ _ y => y)⟩
      have HR5 : Hid (Blk wS w.heap.size 5 rZ) := HXq.out.same (hx.block _ (by omega) (fun e => hxR e.symm))
      have hsR : s ≠ w.heap.size := by omega
      have hRS : w.heap.size < wS.heap.size := by have := hx.size; omega
      have HST : Hid (St0 w d g gi r h ev t mv v x sv m s 0 (-1) f (m.scans + 1)) := .inl ⟨HBEG.out, rfl, rfl, rfl, by omega, hf1, hf2⟩
      clear hs hK hmc hx hCq hf1 hf2 HBEG HXq HBq hsq
      go_upto_region 5 with fail
      obtain ⟨i, told, sc, HA5, HST⟩ : ∃ i told sc, Hid (A5 w d g gi r h ev t mv M x sv a b most v { m with ver := v, scans := sc } s i told f wS) ∧ Hid (St0 w d g gi r h ev t mv v x sv m s i told f sc) := ⟨_, _, _, HA5, HST⟩
  case' inr.inl =>
      have t0 : ((m.scans : Int) == 0) = false := by rw [beq_eq_false_iff_ne]; omega
      have t1 : ((m.ver : Int) != (v : Int)) = true := by rw [bne_iff_ne]; omega
      have HBEG : Hid (m.scans = 0 ∨ m.ver ≠ v) := .inr hvv
      clear h0 hvv
      go_quiet (fail)
      clear t0 t1
      have hBq : Below w.heap.size w (w1.drewN nq) := ⟨HB1.out.os, HB1.out.tape, HB1.out.output, HB1.out.size, HB1.out.block⟩
      have hXq : Blk (w1.drewN nq) w.heap.size 5 rZ := HX1.out.same rfl
      have CS := HCS.out _ hBq
      have HBq := Lib.hid hBq
      have HXq := Lib.hid hXq
      have hsq : (w1.drewN nq).heap.size = w.heap.size + 1 := hs1
      clear hBq hXq k1 k8 k9 k16 d2
      generalize w1.drewN nq = wq at *
      go_wp2_with fail
      refine CS.mono ?_
      rintro e wS ⟨rfl, s, hs, hK, hmc, hx⟩
      clear CS HCS
      obtain ⟨f, hf1, hf2⟩ := HC.out.ok.inv.first m.hash
      have hCq := HC.out.below HBq.out
      have HA5 : Hid (A5 w d g gi r h ev t mv M x sv a b most v { m with ver := v, scans := m.scans + 1 } s 0 (-1) f wS) :=
        ⟨hCq.same fun k hk => hx.block k (hCq.lt k hk) (fun (e : k = x) => HMX.out.ne (e ▸ hk)), HMo.out.same _ _ _ _ (HMo.out.below HM.out HBq.out) fun k hk => hx.block k (by have := hlm k hk; omega) (fun (e : k = x) => HMX.out.nm (e ▸ hk)), hmc,
          ⟨hK, told_zero _ _ _ _, hf2, Nat.zero_le _, hf1, Int.le_refl _, fun hk => by have := HC.out.lt s hk; omega, fun hk => by have := hlm s hk; omega, by omega⟩, .inr (by omega), (ex_of HBq.out).next hx (fun _ _ y => y)⟩
      have HR5 : Hid (Blk wS w.heap.size 5 rZ) := HXq.out.same (hx.block _ (by omega) (fun e => hxR e.symm))
      have hsR : s ≠ w.heap.size := by omega
      have hRS : w.heap.size < wS.heap.size := by have := hx.size; omega
      have HST : Hid (St0 w d g gi r h ev t mv v x sv m s 0 (-1) f (m.scans + 1)) := .inl ⟨HBEG.out, rfl, rfl, rfl, by omega, hf1, hf2⟩
      clear hs hK hmc hx hCq hf1 hf2 HBEG HXq HBq hsq
      go_upto_region 5 with fail
      obtain ⟨i, told, sc, HA5, HST⟩ : ∃ i told sc, Hid (A5 w d g gi r h ev t mv M x sv a b most v { m with ver := v, scans := sc } s i told f wS) ∧ Hid (St0 w d g gi r h ev t mv v x sv m s i told f sc) := ⟨_, _, _, HA5, HST⟩
  case' inr.inr =>
    clear HCS
    have t0 : ((m.scans : Int) == 0) = false := by rw [beq_eq_false_iff_ne]; omega
    have t1 : ((m.ver : Int) != (v : Int)) = false := by rw [hev]; simp
    rw [hsm] at k16
    have hBq : Hid (∀ n, Below w.heap.size w (w1.drewN n)) := fun n => ⟨HB1.out.os, HB1.out.tape, HB1.out.output, HB1.out.size, HB1.out.block⟩
    have ls := hSW.sk.lt (by omega)
    have hmm : ({ m with ver := v, scans := m.scans } : Ma) = m := by cases m; simp at hev; subst hev; rfl
    have HST : Hid (St0 w d g gi r h ev t mv v x sv m s i told f m.scans) := .inr ⟨⟨hne0, hev⟩, hsv, rfl, hSW⟩
    have HA : Hid (∀ n, A5 w d g gi r h ev t mv M x sv a b most v { m with ver := v, scans := m.scans } s i told f (w1.drewN n)) := fun n => by
      rw [hmm]
      have hbb := hBq.out n
      exact ⟨HC.out.below hbb, HMo.out.below HM.out hbb, by rw [← hsv]; exact (HMX.out.below hbb).mc, hSW.of (hbb.block s ls), .inl hsv, ex_of hbb⟩
    have HRq : Hid (∀ n, Blk (w1.drewN n) w.heap.size 5 rZ) := fun n => HX1.out.same rfl
    have hsR : s ≠ w.heap.size := by omega
    have hRs : ∀ n, (w1.drewN n).heap.size = w.heap.size + 1 := fun n => hs1
    have HRs := Lib.hid hRs
    clear hne0 hev hsm hsv hSW hmm hRs
    go_quiet (fail)
    clear t0 t1
    go_upto_region 5 with fail
    clear k1 k8 k9 k16 d2
    have HA5 := Lib.hid (HA.out nq)
    have HR5 := Lib.hid (HRq.out nq)
    have hRS : w.heap.size < (w1.drewN nq).heap.size := by rw [HRs.out nq]; omega
    generalize w1.drewN nq = wS at *
    obtain ⟨sc, HA5, HST⟩ : ∃ sc, Hid (A5 w d g gi r h ev t mv M x sv a b most v { m with ver := v, scans := sc } s i told f wS) ∧ Hid (St0 w d g gi r h ev t mv v x sv m s i told f sc) := ⟨_, HA5, HST⟩
    clear HA HRq HRs hBq ls
  all_goals
    have hA5 := HA5.out
    have k0 : wS.cell? ⟨x, 0, none⟩ = some (.pointer (some ⟨s, 0, none⟩)) := hA5.mx.c 0 (by omega)
    have CN := hA5.next HMo.out HMv.out hb HMX.out.ne HMX.out.nm
    clear hA5
    go_wp2_with fail
    refine CN.mono ?_
    rintro e w6 ⟨j, hij, hjf, hA6, hx6, hVk, hcase⟩
    have HVk := Lib.hid hVk
    clear hVk
    clear CN k0
    have hR6 : Blk w6 w.heap.size 5 rZ := HR5.out.same (hx6.block _ hRS (fun y => y.elim (fun e => hsR e.symm) (fun z => by have := hlm _ z; omega)))
    have hRl6 := hR6.lt (by omega)
    have lx6 := hA6.mx.lt (by omega)
    have HA6 := Lib.hid hA6
    have HR6 := Lib.hid hR6
    have hclt := Lib.hid HC.out.lt
    have nRc : ¬ cX d g gi r h ev w.heap.size := fun hk => by have := HC.out.lt _ hk; omega
    have nRm : ¬ mB mv w.heap.size := fun hk => by have := hlm _ hk; omega
    have hne := HMX.out.ne
    have hnm := HMX.out.nm
    clear HR5 HA5 hx6 hR6 HX1 HB1 HM HMX HW1
    rcases hcase with ⟨n, rfl, hO, hl, hmin, hSw⟩ | ⟨rfl, hjF, hall⟩
    · have hn := hO.1
      have C1 := kept_yes (hA6.dc.hd.c 0 (by omega))
      have C2 := at7_yes hA6.dc.dt n hn hO.2.1
      have k1 : w6.cell? ⟨x, 1, none⟩ = some (.pointer (some ⟨d, 0, none⟩)) := hA6.mx.c 1 (by omega)
      have HO := Lib.hid hO
      have HSW := Lib.hid hSw
      have HMIN := Lib.hid hmin
      have HHIT : Hid (∀ V, Below w6.heap.size w6 V → Calls Tryz.prog 58 #[.pointer (some ⟨x, 0, none⟩), .int .i64 (n : Int)] V fun e w' => e = .returned (tuV ⟨2, 0, true, (nth t.es n).value, (n : Int)⟩) ∧ Cd V d g gi r h ev mv M a (b + ((j + 1 - i : Nat) : Int)) most (hitN m.goal v) (hitT { m with ver := v, scans := sc } t n) w' gi r h ev) := fun V hV => hit_any (hA6.dc.below hV) HMo.out (HMo.out.below hA6.m hV) ht hv ⟨hA6.mx.of hV (by omega), hne, hnm⟩ n hn hO.2.1
      have HK6 : Hid (∀ V, Below w6.heap.size w6 V → Mc V x (.pointer (some ⟨s, 0, none⟩)) d { m with ver := v, scans := sc }) := fun V hV => hA6.mx.of hV (by omega)
      clear hA6 hO hSw hmin
      generalize hy0 : (nth t.es n).live = y0 at C2
      generalize (nth t.es n).hash = y1 at C2
      generalize hy2 : (nth t.es n).key = y2 at *
      generalize hy3 : (nth t.es n).value = y3 at *
      generalize (nth t.es n).birth = y4 at C2
      have HY2 := Lib.hid hy2
      have HY3 := Lib.hid hy3
      clear hy0 hy2 hy3
      unfold tuV at HHIT
      go_wp2_with fail
      refine C1.mono ?_
      rintro e w6' ⟨rfl, hw6⟩
      rw [hw6]
      clear hw6 w6'
      go_wp2_with fail
      refine C2.mono ?_
      rintro e w7 ⟨rfl, hB7⟩
      clear C1 C2 k1
      obtain ⟨w8, hw8⟩ : ∃ y, w7.alloc (.cells #[.bool y0, .int .i64 y1, .int .i64 y2, .int .i64 y3, .int .i64 y4] 48) = y := ⟨_, rfl⟩
      have hb8 : Below w7.heap.size w7 w8 := by rw [← hw8]; exact (Below.refl _ w7).alloc (Nat.le_refl _) _
      have hX8 : Blk w8 w7.heap.size 5 (fun j => #[Value.bool y0, .int .i64 y1, .int .i64 y2, .int .i64 y3, .int .i64 y4].getD j .nilFunc) := by rw [← hw8]; exact Blk.new w7 _ _
      have hB68 := hB7.trans (hb8.mono hB7.size)
      have hM8 := HK6.out w8 hB68
      have p2 : w8.cell? ⟨w7.heap.size, 2, none⟩ = some (.int .i64 y2) := hX8.c 2 (by omega)
      have k6 : w8.cell? ⟨x, 6, none⟩ = some (.int .i64 m.key) := hM8.c 6 (by omega)
      have HB68 := Lib.hid hB68
      have HX8 := Lib.hid hX8
      have HW8 := Lib.hid hw8
      have hs7 := hB7.size
      have lE := hX8.lt (by omega)
      clear hb8 hX8 hB68 hM8 hw8 hB7
      go_upto_region 9 with fail
      rw [HW8.out]
      clear HW8
      by_cases hkey : y2 = m.key
      · have tk : (y2 == m.key) = true := by rw [beq_iff_eq]; exact hkey
        have HKEY := Lib.hid hkey
        clear hkey
        go_quiet (fail)
        clear p2 k6 tk
        have hB69 : Below w6.heap.size w6 (w8.drewN nq) := ⟨HB68.out.os, HB68.out.tape, HB68.out.output, HB68.out.size, HB68.out.block⟩
        have CH := HHIT.out _ hB69
        have HB69 := Lib.hid hB69
        have hR9 : Blk (w8.drewN nq) w.heap.size 5 rZ := HR6.out.same (hB69.block _ hRl6)
        have HRq := Lib.hid hR9
        have hl9 := hR9.lt (by omega)
        have lx9 : x < (w8.drewN nq).heap.size := by have := hB69.size; omega
        have HMq := Lib.hid (HK6.out _ hB69)
        clear hB69 hR9
        generalize w8.drewN nq = w9 at *
        go_wp2_with fail
        refine CH.mono ?_
        rintro e wA ⟨rfl, hF⟩
        clear CH HHIT
        have hRz := HRq.out.same (hF.block hl9 nRc nRm)
        have q0 : wA.cell? ⟨w.heap.size, 0, none⟩ = some (.int .i64 0) := hRz.c 0 (by omega)
        have q1 : wA.cell? ⟨w.heap.size, 1, none⟩ = some (.int .i64 0) := hRz.c 1 (by omega)
        have q2 : wA.cell? ⟨w.heap.size, 2, none⟩ = some (.bool false) := hRz.c 2 (by omega)
        have q3 : wA.cell? ⟨w.heap.size, 3, none⟩ = some (.int .i64 0) := hRz.c 3 (by omega)
        have q4 : wA.cell? ⟨w.heap.size, 4, none⟩ = some (.int .i64 0) := hRz.c 4 (by omega)
        have z0 := hRz.z 0
        have z1 := hRz.z 1
        have z2 := hRz.z 2
        have z3 := hRz.z 3
        have z4 := hRz.z 4
        have HR9 : Hid (Blk (putU wA w.heap.size ⟨2, 0, true, y3, (n : Int)⟩) w.heap.size 5 _) := put5_blk hRz _ _ _ _ _
        have HF9 : Hid (Cm w d g gi r h ev mv M x sv a (b + ((j + 1 - i : Nat) : Int)) most (hitN m.goal v) (hitT { m with ver := v, scans := sc } t n) (putU wA w.heap.size ⟨2, 0, true, y3, (n : Int)⟩) gi r h ev ∧ Mc (putU wA w.heap.size ⟨2, 0, true, y3, (n : Int)⟩) x (.pointer (some ⟨s, 0, none⟩)) d { m with ver := v, scans := sc } ∧ Vi (putU wA w.heap.size ⟨2, 0, true, y3, (n : Int)⟩) s (j + 1)) := ⟨HA6.out.cmp (hF.from HB69.out) HMo.out hclt.out hlm (Nat.le_refl _) hRl6 _, (HMq.out.same (hF.block lx9 hne hnm)).same (putU_other _ _ _ _ hxR), ((HVk.out.1.same (HB69.out.block s HA6.out.ls)).same (hF.block (Nat.lt_of_lt_of_le HA6.out.ls HB69.out.size) HVk.out.2.1 HVk.out.2.2)).same (putU_other _ _ _ _ hsR)⟩
        clear hF hRz
        unfold putU put5 at HR9 HF9
        go_wp2_with fail
        generalize World.setCell (World.setCell (World.setCell (World.setCell (World.setCell wA _ _) _ _) _ _) _ _) _ _ = wZ at *
        have o0 : wZ.cell? ⟨w.heap.size, 0, none⟩ = some (.int .i64 2) := HR9.out.c 0 (by omega)
        have o1 : wZ.cell? ⟨w.heap.size, 1, none⟩ = some (.int .i64 0) := HR9.out.c 1 (by omega)
        have o2 : wZ.cell? ⟨w.heap.size, 2, none⟩ = some (.bool true) := HR9.out.c 2 (by omega)
        have o3 : wZ.cell? ⟨w.heap.size, 3, none⟩ = some (.int .i64 y3) := HR9.out.c 3 (by omega)
        have o4 : wZ.cell? ⟨w.heap.size, 4, none⟩ = some (.int .i64 (n : Int)) := HR9.out.c 4 (by omega)
        refine bodyPost_ret (v := .agg #[.int .i64 2, .int .i64 0, .bool true, .int .i64 y3, .int .i64 (n : Int)]) ?_ rfl ⟨⟨2, 0, true, y3, (n : Int)⟩, s, i, told, f, sc, rfl, HST.out, j, hij, hjf, .inl ⟨n, HO.out, hl, HMIN.out, .inl ⟨HY2.out.trans HKEY.out, by rw [HY3.out], HF9.out.1, HF9.out.2⟩⟩⟩
        simp [results, Tryz.results28, go_sem, o0, o1, o2, o3, o4]
      · have tk : (y2 == m.key) = false := by rw [beq_eq_false_iff_ne]; exact hkey
        have HKEY := Lib.hid hkey
        clear hkey
        go_quiet (fail)
        clear p2 k6 tk HHIT
        have hB69 : Below w6.heap.size w6 (w8.drewN nq) := ⟨HB68.out.os, HB68.out.tape, HB68.out.output, HB68.out.size, HB68.out.block⟩
        have hR9 : Blk (w8.drewN nq) w.heap.size 5 rZ := HR6.out.same (hB69.block _ hRl6)
        have hM9 := HK6.out _ hB69
        have hX9 := HX8.out.same (w' := w8.drewN nq) rfl
        generalize w8.drewN nq = w9 at *
        have k15 : w9.cell? ⟨x, 15, none⟩ = some (.int .i64 m.asked) := hM9.c 15 (by omega)
        have z15 := hM9.z 15
        have hMA := hM9.put 15 (.int .i64 (n : Int))
        have hMA' : Mc (w9.setCell ⟨x, 15, none⟩ (.int .i64 (n : Int))) x (.pointer (some ⟨s, 0, none⟩)) d { m with ver := v, scans := sc, asked := (n : Int) } := hMA.congr fun j hj => by
          rcases lt17 hj with rfl | rfl | rfl | rfl | rfl | rfl | rfl | rfl | rfl | rfl | rfl | rfl | rfl | rfl | rfl | rfl | rfl <;> rfl
        have hoA : ∀ k, k ≠ x → (w9.setCell ⟨x, 15, none⟩ (.int .i64 (n : Int))).heap[k]? = w9.heap[k]? := fun k hk => Below.heap_setCell _ _ _ _ hk
        have hRz := hR9.same (hoA w.heap.size (fun e => hxR e.symm))
        have hXA := hX9.same (hoA w7.heap.size (by omega))
        have p2 : (w9.setCell ⟨x, 15, none⟩ (.int .i64 (n : Int))).cell? ⟨w7.heap.size, 2, none⟩ = some (.int .i64 y2) := hXA.c 2 (by omega)
        have q0 : (w9.setCell ⟨x, 15, none⟩ (.int .i64 (n : Int))).cell? ⟨w.heap.size, 0, none⟩ = some (.int .i64 0) := hRz.c 0 (by omega)
        have q1 : (w9.setCell ⟨x, 15, none⟩ (.int .i64 (n : Int))).cell? ⟨w.heap.size, 1, none⟩ = some (.int .i64 0) := hRz.c 1 (by omega)
        have q2 : (w9.setCell ⟨x, 15, none⟩ (.int .i64 (n : Int))).cell? ⟨w.heap.size, 2, none⟩ = some (.bool false) := hRz.c 2 (by omega)
        have q3 : (w9.setCell ⟨x, 15, none⟩ (.int .i64 (n : Int))).cell? ⟨w.heap.size, 3, none⟩ = some (.int .i64 0) := hRz.c 3 (by omega)
        have q4 : (w9.setCell ⟨x, 15, none⟩ (.int .i64 (n : Int))).cell? ⟨w.heap.size, 4, none⟩ = some (.int .i64 0) := hRz.c 4 (by omega)
        have z0 := hRz.z 0
        have z1 := hRz.z 1
        have z2 := hRz.z 2
        have z3 := hRz.z 3
        have z4 := hRz.z 4
        have HR9 : Hid (Blk (putU (w9.setCell ⟨x, 15, none⟩ (.int .i64 (n : Int))) w.heap.size ⟨1, y2, false, 0, 0⟩) w.heap.size 5 _) := put5_blk hRz _ _ _ _ _
        have hnd : ∀ k, cX d g gi r h ev k → k ≠ x ∧ k ≠ w.heap.size ∧ k < w6.heap.size := fun k hk => ⟨fun e => hne (e ▸ hk), by have := hclt.out k hk; omega, by have := hclt.out k hk; have := HA6.out.ex.size; omega⟩
        have hmd : ∀ k, mB mv k → k ≠ x ∧ k ≠ w.heap.size ∧ k < w6.heap.size := fun k hk => ⟨fun e => hnm (e ▸ hk), by have := hlm k hk; omega, by have := hlm k hk; have := HA6.out.ex.size; omega⟩
        have hall : ∀ k, k ≠ x → k ≠ w.heap.size → k < w6.heap.size → (putU (w9.setCell ⟨x, 15, none⟩ (.int .i64 (n : Int))) w.heap.size ⟨1, y2, false, 0, 0⟩).heap[k]? = w6.heap[k]? := fun k h1 h2 h3 => by rw [putU_other _ _ _ _ h2, hoA k h1, hB69.block k h3]
        have hxW : Ex (fun k => k = x) w6 (w9.setCell ⟨x, 15, none⟩ (.int .i64 (n : Int))) := (show Ex (fun k => k = x) w6 w9 from ex_of hB69).setCell (p := ⟨x, 15, none⟩) (fun _ => rfl) _
        have hbp : Below w.heap.size (w9.setCell ⟨x, 15, none⟩ (.int .i64 (n : Int))) (putU (w9.setCell ⟨x, 15, none⟩ (.int .i64 (n : Int))) w.heap.size ⟨1, y2, false, 0, 0⟩) := putU_below _ (Nat.le_refl _) _
        have HF9 : Hid (Cm w d g gi r h ev mv M x sv a (b + ((j + 1 - i : Nat) : Int)) most v t (putU (w9.setCell ⟨x, 15, none⟩ (.int .i64 (n : Int))) w.heap.size ⟨1, y2, false, 0, 0⟩) gi r h ev ∧ Mc (putU (w9.setCell ⟨x, 15, none⟩ (.int .i64 (n : Int))) w.heap.size ⟨1, y2, false, 0, 0⟩) x (.pointer (some ⟨s, 0, none⟩)) d { m with ver := v, scans := sc, asked := (n : Int) } ∧ Sw (putU (w9.setCell ⟨x, 15, none⟩ (.int .i64 (n : Int))) w.heap.size ⟨1, y2, false, 0, 0⟩) d g gi r h ev t mv x s m.hash (j + 1) (n : Int) f) :=
          ⟨⟨HA6.out.dc.same fun k hk => hall k (hnd k hk).1 (hnd k hk).2.1 (hnd k hk).2.2, HMo.out.same _ _ _ _ HA6.out.m fun k hk => hall k (hmd k hk).1 (hmd k hk).2.1 (hmd k hk).2.2, fun j hj => .inl hj, (((HA6.out.ex.mono (fun k _ hk => .inr hk)).next hxW (fun k _ e => .inr (.inr (.inl e)))).next (Y := fun k => w.heap.size ≤ k) ⟨hbp.os, hbp.tape, hbp.output, hbp.size, fun k _ hy => hbp.block k (by omega)⟩ (fun k hk hy => by omega))⟩, hMA'.same (putU_other _ _ _ _ hxR), HSW.out.of (hall s HSW.out.nx hsR HA6.out.ls)⟩
        clear hB69 hR9 hM9 hX9 hMA hMA' hoA hRz hXA hnd hmd hall hxW hbp
        unfold putU put5 at HR9 HF9
        go_wp2_with fail
        generalize World.setCell (World.setCell (World.setCell (World.setCell (World.setCell (World.setCell w9 _ _) _ _) _ _) _ _) _ _) _ _ = wZ at *
        have o0 : wZ.cell? ⟨w.heap.size, 0, none⟩ = some (.int .i64 1) := HR9.out.c 0 (by omega)
        have o1 : wZ.cell? ⟨w.heap.size, 1, none⟩ = some (.int .i64 y2) := HR9.out.c 1 (by omega)
        have o2 : wZ.cell? ⟨w.heap.size, 2, none⟩ = some (.bool false) := HR9.out.c 2 (by omega)
        have o3 : wZ.cell? ⟨w.heap.size, 3, none⟩ = some (.int .i64 0) := HR9.out.c 3 (by omega)
        have o4 : wZ.cell? ⟨w.heap.size, 4, none⟩ = some (.int .i64 0) := HR9.out.c 4 (by omega)
        refine bodyPost_ret (v := .agg #[.int .i64 1, .int .i64 y2, .bool false, .int .i64 0, .int .i64 0]) ?_ rfl ⟨⟨1, y2, false, 0, 0⟩, rfl, s, i, told, f, sc, HST.out, j, hij, hjf, .inl ⟨n, HO.out, hl, HMIN.out, .inr ⟨fun e => HKEY.out (HY2.out.symm.trans e), by rw [HY2.out], HF9.out.1, HF9.out.2.1, HF9.out.2.2⟩⟩⟩
        simp [results, Tryz.results28, go_sem, o0, o1, o2, o3, o4]
    · have CM := missF_any hA6.dc HMo.out hA6.m hm1 ha ht hbi hv (m := { m with ver := v, scans := sc }) ⟨hA6.mx, hne, hnm⟩
      have k4 : w6.cell? ⟨x, 4, none⟩ = some (.func (.func (missF m.goal)) #[] #[]) := hA6.mx.c 4 (by omega)
      have CM' : Calls Tryz.prog (missF m.goal) #[.pointer (some ⟨x, 0, none⟩)] w6 fun e w' => ∃ u, e = .returned (tuV u) ∧ MsR { m with ver := v, scans := sc } t most u (fun da dv t' => ∃ gi' r' h' ev', Cd w6 d g gi r h ev mv M (a + da) (b + ((j + 1 - i : Nat) : Int)) most (v + dv) t' w' gi' r' h' ev') := CM
      have hcf : ∀ args w, (callFunc (missF m.goal) args).run Tryz.prog w = .ok (.enter (missF m.goal) args) w := by
        unfold missF
        split
        · exact Tryz.call50
        · exact Tryz.call48
      have HALL := Lib.hid hall
      have HJF := Lib.hid hjF
      have HMq := Lib.hid hA6.mx
      clear hA6 hall CM hjF
      generalize missF m.goal = F at *
      go_wp2_with fail
      refine CM'.mono ?_
      rintro e wA ⟨u, rfl, hMs⟩
      clear CM' k4 hcf
      obtain ⟨_, _, _, gi', r', h', ev', hF⟩ := hMs.any
      have hRz := HR6.out.same (hF.block hRl6 nRc nRm)
      obtain ⟨uk, uy, uf, uv, ue⟩ := u
      unfold tuV
      have q0 : wA.cell? ⟨w.heap.size, 0, none⟩ = some (.int .i64 0) := hRz.c 0 (by omega)
      have q1 : wA.cell? ⟨w.heap.size, 1, none⟩ = some (.int .i64 0) := hRz.c 1 (by omega)
      have q2 : wA.cell? ⟨w.heap.size, 2, none⟩ = some (.bool false) := hRz.c 2 (by omega)
      have q3 : wA.cell? ⟨w.heap.size, 3, none⟩ = some (.int .i64 0) := hRz.c 3 (by omega)
      have q4 : wA.cell? ⟨w.heap.size, 4, none⟩ = some (.int .i64 0) := hRz.c 4 (by omega)
      have z0 := hRz.z 0
      have z1 := hRz.z 1
      have z2 := hRz.z 2
      have z3 := hRz.z 3
      have z4 := hRz.z 4
      have HR9 : Hid (Blk (putU wA w.heap.size ⟨uk, uy, uf, uv, ue⟩) w.heap.size 5 _) := put5_blk hRz _ _ _ _ _
      have HF9 : Hid (MsR { m with ver := v, scans := sc } t most ⟨uk, uy, uf, uv, ue⟩ (fun da dv t' => ∃ gi' r' h' ev', Cm w d g gi r h ev mv M x sv (a + da) (b + ((j + 1 - i : Nat) : Int)) most (v + dv) t' (putU wA w.heap.size ⟨uk, uy, uf, uv, ue⟩) gi' r' h' ev' ∧ ¬ cX d g gi' r' h' ev' s) ∧ Mc (putU wA w.heap.size ⟨uk, uy, uf, uv, ue⟩) x (.pointer (some ⟨s, 0, none⟩)) d { m with ver := v, scans := sc } ∧ Vi (putU wA w.heap.size ⟨uk, uy, uf, uv, ue⟩) s (j + 1)) := ⟨hMs.mono (fun _ _ _ ⟨gi', r', h', ev', c⟩ => ⟨gi', r', h', ev', HA6.out.cmp c HMo.out hclt.out hlm (Nat.le_refl _) hRl6 _, fun hk => hk.elim (fun e => HVk.out.2.1 (.inl e)) (fun y => (c.fx s y).elim (fun z => HVk.out.2.1 (.inr z)) (fun z => by have := HA6.out.ls; omega))⟩), (HMq.out.same (hF.block lx6 hne hnm)).same (putU_other _ _ _ _ hxR), (HVk.out.1.same (hF.block HA6.out.ls HVk.out.2.1 HVk.out.2.2)).same (putU_other _ _ _ _ hsR)⟩
      clear hF hRz hMs
      unfold putU put5 at HR9 HF9
      go_wp2_with fail
      generalize World.setCell (World.setCell (World.setCell (World.setCell (World.setCell wA _ _) _ _) _ _) _ _) _ _ = wZ at *
      have o0 : wZ.cell? ⟨w.heap.size, 0, none⟩ = some (.int .i64 uk) := HR9.out.c 0 (by omega)
      have o1 : wZ.cell? ⟨w.heap.size, 1, none⟩ = some (.int .i64 uy) := HR9.out.c 1 (by omega)
      have o2 : wZ.cell? ⟨w.heap.size, 2, none⟩ = some (.bool uf) := HR9.out.c 2 (by omega)
      have o3 : wZ.cell? ⟨w.heap.size, 3, none⟩ = some (.int .i64 uv) := HR9.out.c 3 (by omega)
      have o4 : wZ.cell? ⟨w.heap.size, 4, none⟩ = some (.int .i64 ue) := HR9.out.c 4 (by omega)
      refine bodyPost_ret (v := .agg #[.int .i64 uk, .int .i64 uy, .bool uf, .int .i64 uv, .int .i64 ue]) ?_ rfl ⟨⟨uk, uy, uf, uv, ue⟩, s, i, told, f, sc, rfl, HST.out, j, hij, hjf, .inr ⟨HJF.out, HALL.out, HF9.out.1, HF9.out.2⟩⟩
      simp [results, Tryz.results28, go_sem, o0, o1, o2, o3, o4]
end Go.Proofs.YtejfmajbggmghaaGreat
