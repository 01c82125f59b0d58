/-
  A machine's Step, on both sides: the theorem.
  Tell, Clear, First, Last, Begin and Copy, on both sides.
-/
import Derived.Test.YtejfmajbggmghaaGreatGn
namespace Go.Proofs.YtejfmajbggmghaaGreat
open Go.RowKit Go.WideShapes

/-- What a call on both has left: the state turned, as many dictionaries and machines. -/
def D8s (w : World) (X : Nat) (S : St8) (mv mr : Value) (M : Int → Int → World → Prop) (most : Int) (c n : Nat) (w' : World) : Prop := ∃ S' a' b', D8 w X S mv mr M most c S' a' b' w' ∧ Kept S S' ∧ UpN n S S'
/-- The same, the machine j having scanned. -/
def D8j (w : World) (X : Nat) (S : St8) (mv mr : Value) (M : Int → Int → World → Prop) (most : Int) (c j : Nat) (u : Tu) (w' : World) : Prop := ∃ S' a' b', D8 w X S mv mr M most c S' a' b' w' ∧ Kept S S' ∧ UpN 1 S S' ∧ (u.kind = 1 → UpN 0 S S') ∧ (S'.ms j).m.scans ≠ 0
theorem D8j.s {w : World} {X : Nat} {S : St8} {mv mr : Value} {M : Int → Int → World → Prop} {most : Int} {c j : Nat} {u : Tu} {w' : World} (hu : u.kind = 1) (h : D8j w X S mv mr M most c j u w') : D8s w X S mv mr M most c 0 w' := by
  obtain ⟨S', a', b', h1, h2, _, h3, _⟩ := h
  exact ⟨S', a', b', h1, h2, h3 hu⟩
theorem D8.same {w w' : World} {X : Nat} {S : St8} {mv mr : Value} {M : Int → Int → World → Prop} {a b most : Int} {c : Nat} (hP : P8 w X S mv mr M a b most c) (hMo : MtOk mv M) (hb : Below w.heap.size w w') : D8 w X S mv mr M most (c + 1) S a b w' := ⟨(hP.below hMo hb).le (Nat.le_succ c), fun _ hk => .inl hk, ex_of hb⟩
/-- Step told u, and left q of its machine and p of its dictionary. -/
theorem step_fin {w w1 w2 : World} {X : Nat} {S : St8} {mv mr : Value} {M : Int → Int → World → Prop} {a b most : Int} {c : Nat} (hP : P8 w X S mv mr M a b most c) (hMo : MtOk mv M) {j : Nat} (hj : j < S.nm) {p : Dp} {m1 : Ma} {z1 : Rz} {s s2 : Nat} {a' b' : Int}
    (x1 : Ex (S.A (S.ms j).k j mv) w w1) (x2 : Ex (S.B (S.ms j).k j mr) w1 w2)
    (pd : p.d = (S.ds (S.ms j).k).d) (pd2 : p.d2 = (S.ds (S.ms j).k).d2) (pg : p.g = (S.ds (S.ms j).k).g) (pg2 : p.g2 = (S.ds (S.ms j).k).g2) (pv : (S.ds (S.ms j).k).v ≤ p.v) (pt : p.v = (S.ds (S.ms j).k).v → p.t = (S.ds (S.ms j).k).t)
    (hd : Dk w1 w2 p mv mr most (c + 1)) (fP : ∀ i, p.P i → (S.ds (S.ms j).k).P i ∨ w.heap.size ≤ i) (fR : ∀ i, p.R i → (S.ds (S.ms j).k).R i ∨ w1.heap.size ≤ i)
    (hm : M a' b' w1) (hms : Ms w2 mr a' b' 0 0) (ha : a ≤ a' ∧ a' ≤ a + 1) (hb : b ≤ b' ∧ b' ≤ b + 1048600)
    (hk : Mk w1 w2 p { S.ms j with sv := .pointer (some ⟨s, 0, none⟩), sw := .pointer (some ⟨s2, 0, none⟩), m := m1, z := z1 } (c + 1))
    (hs : mB (S.ms j).sv s ∨ w.heap.size ≤ s) (hs2 : mB (S.ms j).sw s2 ∨ w1.heap.size ≤ s2) (ns : ¬ p.P s) (ns2 : ¬ p.R s2) (h1 : m1.scans ≠ 0) {u : Tu} (hu1 : ∀ c, Bp (S.ds (S.ms j).k) c → Bp p (c + 1)) (hu0 : u.kind = 1 → ∀ c, Bp (S.ds (S.ms j).k) c → Bp p c) : D8j w X S mv mr M most (c + 1) j u w2 := by
  obtain ⟨lab, sp⟩ := hP.sep
  have hkn := (hP.mh j hj).1
  have ab := hP.ab
  have hx1s := x1.size
  have hq := hP.both hMo (k := (S.ms j).k) (j := j) hkn (p := p) (q := { S.ms j with sv := .pointer (some ⟨s, 0, none⟩), sw := .pointer (some ⟨s2, 0, none⟩), m := m1, z := z1 }) (Nat.le_succ c) x1 x2 pd pd2 pg pg2 pv pt hd fP fR hm hms ⟨by omega, by push_cast; omega, by omega, by push_cast; omega⟩ (fun _ => ⟨rfl, rfl, rfl, rfl, hk, fun i hi => by cases hi; exact hs, fun i hi => by cases hi; exact hs2, fun i hi hp => ?_, fun i hi hp => ?_⟩)
  · exact ⟨_, _, _, ⟨hq.1, hq.2.1, hq.2.2⟩, Kept.to pd pd2 rfl rfl rfl, UpN.to hu1, fun h => UpN.to (n := 0) (hu0 h), by show (updA S.ms j _ j).m.scans ≠ 0; rw [updA_at]; exact h1⟩
  · rcases hi with y | y
    · have h1 := sp.mp j hj i (.inl y)
      rcases fP i hp with z | z
      · have h2 := sp.dp _ hkn i z; omega
      · omega
    · cases y; exact ns hp
  · rcases hi with y | y
    · have h1 := sp.mr j hj i (.inl y)
      rcases fR i hp with z | z
      · have h2 := sp.dr _ hkn i z; omega
      · omega
    · cases y; exact ns2 hp
theorem step_more {w : World} {X : Nat} {S : St8} {pm pr : Option Addr} {M : Int → Int → World → Prop} {a b most : Int} {c : Nat} (hP : P8 w X S (.pointer pm) (.pointer pr) M a b most c) (hMo : MtOk (.pointer pm) M) (hMv : MvOk (.pointer pm) M) (hc : c ≤ 50000) {j : Nat} (hj : j < S.nm) (hk : (S.ms j).k < S.nd) (hM : Mk w w (S.ds (S.ms j).k) (S.ms j) c) {lab : Nat → Nat} (sp : Sep8 w.heap.size X S (.pointer pm) (.pointer pr) lab) (h0 : (S.ms j).m.u.kind = 0) (hz : (S.ms j).z.waits = false ∧ (S.ms j).z.over = false)
    (ly : ¬ (S.ds (S.ms j).k).R (S.ms j).y) (lym : ¬ mB (.pointer pr) (S.ms j).y) (hMx : Mx w (S.ds (S.ms j).k).d (S.ds (S.ms j).k).g (S.ds (S.ms j).k).gi (S.ds (S.ms j).k).r (S.ds (S.ms j).k).h (S.ds (S.ms j).k).ev (.pointer pm) (S.ms j).x (S.ms j).sv (S.ms j).m)
    (htold : ¬ ((S.ms j).m.scans ≠ 0 ∧ (S.ms j).m.ver = (S.ds (S.ms j).k).v ∧ (S.ms j).m.same = true ∧ (S.ms j).z.same = true ∧ ∃ n : Nat, (S.ms j).m.asked = (n : Int) ∧ (S.ms j).z.at_ = (n : Int) ∧ n < (S.ds (S.ms j).k).t.es.length ∧ (nth (S.ds (S.ms j).k).t.es n).live = true))
    (sA : ∀ {w'}, Ex (fun i => cX (S.ds (S.ms j).k).d (S.ds (S.ms j).k).g (S.ds (S.ms j).k).gi (S.ds (S.ms j).k).r (S.ds (S.ms j).k).h (S.ds (S.ms j).k).ev i ∨ mB (.pointer pm) i ∨ i = (S.ms j).x ∨ mB (S.ms j).sv i) w w' → Ex (S.A (S.ms j).k j (.pointer pm)) w w')
    (sB : ∀ {w1 w'}, Ex (fun i => rX (S.ds (S.ms j).k).d2 (S.ds (S.ms j).k).g2 (S.ds (S.ms j).k).q2 (S.ds (S.ms j).k).ev2 i ∨ mB (.pointer pr) i ∨ i = (S.ms j).y ∨ mB (S.ms j).sw i) w1 w' → Ex (S.B (S.ms j).k j (.pointer pr)) w1 w') :
    ∃ Pw : Tu → World → Prop, (∀ u w1 V, Pw u w1 → Below w1.heap.size w1 V → Pw u V) ∧ (Calls Tryz.prog 10 #[.pointer (some ⟨(S.ms j).x, 0, none⟩)] w fun e w1 => ∃ u, e = .returned (tuV u) ∧ Pw u w1) ∧
      ∀ u w1, Pw u w1 → Ex (S.A (S.ms j).k j (.pointer pm)) w w1 ∧ Calls Tryz.prog 33 #[.pointer (some ⟨(S.ms j).y, 0, none⟩)] w1 fun e w2 => e = .returned (tuV u) ∧ Ex (S.B (S.ms j).k j (.pointer pr)) w1 w2 ∧ D8j w X S (.pointer pm) (.pointer pr) M most (c + 1) j u w2 := by
  obtain ⟨dc, rc, bd, hbn⟩ := hP.dk _ hk
  have hlq := hM.lt
  have ab := hP.ab
  have b1 := bd.births
  have b2 := bd.made
  have b3 := bd.turn
  have b4 := bd.ver
  have hsc := hM.scans
  have hvr := hM.ver
  have hlsv : ∀ i, mB (S.ms j).sv i → i < w.heap.size := fun i hi => hlq.1 i (.inr hi)
  have hP2 : 2 ^ (S.ds (S.ms j).k).t.L ≤ 1048576 := Nat.le_trans (Nat.pow_le_pow_right (n := 2) (by decide) dc.ok.sz.2) (by decide)
  -- where its Seekers stand
  have hSK : ((S.ms j).m.scans = 0 ∧ (S.ms j).sv = .pointer none ∧ (S.ms j).sw = .pointer none) ∨ ∃ s s2, (S.ms j).sv = .pointer (some ⟨s, 0, none⟩) ∧ (S.ms j).sw = .pointer (some ⟨s2, 0, none⟩) ∧ (S.ms j).m.scans ≠ 0 ∧ s ≠ (S.ms j).x ∧ s2 ≠ (S.ms j).y ∧ ((S.ms j).m.ver ≠ (S.ds (S.ms j).k).v ∨ (S.ms j).m.ver = (S.ds (S.ms j).k).v ∧ (S.ms j).m.same = false ∧ (S.ms j).z.same = false ∧ ∃ (i : Nat) (told : Int) (f : Nat), Sk w s (.pointer (some ⟨(S.ds (S.ms j).k).g, 0, none⟩)) (S.ds (S.ms j).k).t.turn (S.ms j).m.hash (S.ds (S.ms j).k).t.L i told i ∧ S2 w s2 (S.ds (S.ms j).k).g2 (S.ds (S.ms j).k).t (S.ms j).m.hash i told ∧ Told (S.ds (S.ms j).k).t.es (S.ds (S.ms j).k).t.L (S.ds (S.ms j).k).t.c (S.ms j).m.hash i told ∧ IsF (S.ds (S.ms j).k).t.c (uw (S.ms j).m.hash) (S.ds (S.ms j).k).t.L f ∧ i ≤ f ∧ f < 2 ^ (S.ds (S.ms j).k).t.L + 13 ∧ -1 ≤ told) := by
    rcases hM.sk with ⟨y1, y2, y3, _⟩ | ⟨s, s2, vis, y1, y2, y3, y4, y5, y6⟩
    · exact .inl ⟨y1, y2, y3⟩
    · refine .inr ⟨s, s2, y1, y2, y3, vi_ne hM.mc y4, v2_ne hM.rm y5, ?_⟩
      by_cases hv : (S.ms j).m.ver = (S.ds (S.ms j).k).v
      · rcases y6 hv with (⟨z1, z2, z3, z4⟩ | ⟨⟨z1, z2, z3⟩ | ⟨z1, _⟩, z4⟩) | ⟨z1, _⟩
        · exact absurd ⟨y3, hv, z2, z3, z4⟩ htold
        · exact .inr ⟨hv, z2, z3, z4⟩
        · omega
        · exact absurd h0 z1
      · exact .inl hv
  have hW : Way w (S.ds (S.ms j).k).d (S.ds (S.ms j).k).g (S.ds (S.ms j).k).gi (S.ds (S.ms j).k).r (S.ds (S.ms j).k).h (S.ds (S.ms j).k).ev (S.ds (S.ms j).k).t (.pointer pm) (S.ds (S.ms j).k).v (S.ms j).x (S.ms j).sv (S.ms j).m := by
    rcases hSK with ⟨y1, _⟩ | ⟨s, s2, y1, y2, y3, y4, y5, y6 | ⟨y6, y7, y8, i, told, f, z1, z2, z3, z4, z5, z6, z7⟩⟩
    · exact .inl (.inl y1)
    · exact .inl (.inr y6)
    · exact .inr ⟨y3, y6, y7, s, i, told, f, y1, z1, z3, z4, z5, z6, z7, fun h => by have g1 := sp.mp j hj s (.inr y1); have g2 := sp.dp _ hk s h; omega, fun h => by have g1 := sp.mp j hj s (.inr y1); have g2 := sp.m s h; omega, y4⟩
  refine ⟨fun u w1 => ∃ s i told f sc, St0 w (S.ds (S.ms j).k).d (S.ds (S.ms j).k).g (S.ds (S.ms j).k).gi (S.ds (S.ms j).k).r (S.ds (S.ms j).k).h (S.ds (S.ms j).k).ev (S.ds (S.ms j).k).t (.pointer pm) (S.ds (S.ms j).k).v (S.ms j).x (S.ms j).sv (S.ms j).m s i told f sc ∧ SoR w (S.ds (S.ms j).k).d (S.ds (S.ms j).k).g (S.ds (S.ms j).k).gi (S.ds (S.ms j).k).r (S.ds (S.ms j).k).h (S.ds (S.ms j).k).ev (S.ds (S.ms j).k).t (.pointer pm) M (S.ms j).x (S.ms j).sv a b most (S.ds (S.ms j).k).v { (S.ms j).m with ver := (S.ds (S.ms j).k).v, scans := sc } s i told f u w1,
    fun u w1 V ⟨s, i, told, f, sc, h1, h2⟩ hb => ⟨s, i, told, f, sc, h1, h2.below hMo hb⟩, (step_next dc hMo hMv hP.m (by omega) ⟨by omega, by omega⟩ ⟨by omega, by omega⟩ (by omega) (by omega) (by omega) hMx h0 hlsv (by omega) (by omega) hW).mono fun e w1 ⟨u, s, i, told, f, sc, h1, h2, h3⟩ => ⟨u, h1, s, i, told, f, sc, h2, h3⟩, ?_⟩
  rintro u w1 ⟨s, i, told, f, sc, hSt, hSo⟩
  have x1 := sA hSo.cm
  have hx1s := x1.size
  obtain ⟨_, _, _, hRc, hRb, hMs1⟩ := hP.mid hk x1
  have hrm1 : Rm w1 (S.ms j).y (S.ms j).sw (S.ds (S.ms j).k).d2 (S.ms j).m (S.ms j).z := Blk.same hM.rm (hRb j hj _ (.inl rfl))
  have hW2 : (S.ms j).sw = .pointer none ∨ (∃ s0, (S.ms j).sw = .pointer (some ⟨s0, 0, none⟩)) ∧ (S.ms j).m.ver ≠ (S.ds (S.ms j).k).v ∨ (S.ms j).m.ver = (S.ds (S.ms j).k).v ∧ (S.ms j).z.same = false ∧ ∃ s i told f, (S.ms j).sw = .pointer (some ⟨s, 0, none⟩) ∧ S2 w1 s (S.ds (S.ms j).k).g2 (S.ds (S.ms j).k).t (S.ms j).m.hash i told ∧ Told (S.ds (S.ms j).k).t.es (S.ds (S.ms j).k).t.L (S.ds (S.ms j).k).t.c (S.ms j).m.hash i told ∧ IsF (S.ds (S.ms j).k).t.c (uw (S.ms j).m.hash) (S.ds (S.ms j).k).t.L f ∧ i ≤ f ∧ f < 2 ^ (S.ds (S.ms j).k).t.L + 13 ∧ -1 ≤ told ∧ ¬ rX (S.ds (S.ms j).k).d2 (S.ds (S.ms j).k).g2 (S.ds (S.ms j).k).q2 (S.ds (S.ms j).k).ev2 s ∧ ¬ mB (.pointer pr) s ∧ s ≠ (S.ms j).y := by
    rcases hSK with ⟨_, _, y1⟩ | ⟨s, s2, y1, y2, y3, y4, y5, y6 | ⟨y6, y7, y8, i, told, f, z1, z2, z3, z4, z5, z6, z7⟩⟩
    · exact .inl y1
    · exact .inr (.inl ⟨⟨_, y2⟩, y6⟩)
    · exact .inr (.inr ⟨y6, y8, s2, i, told, f, y2, Blk.same z2 (hRb j hj s2 (.inr y2)), z3, z4, z5, z6, z7, fun h => by have g1 := sp.mr j hj s2 (.inr y2); have g2 := sp.dr _ hk s2 h; omega, fun h => by have g1 := sp.mr j hj s2 (.inr y2); have g2 := sp.r s2 h; omega, y5⟩)
  refine ⟨x1, (rstep_next (hRc _ hk) hMs1 dc.ok (by omega) ⟨by omega, by omega⟩ ⟨by omega, by omega⟩ (by omega) (by omega) (by omega) hrm1 hz.2 hz.1 hM.goal (by omega) ly lym (fun i hi => Nat.lt_of_lt_of_le (hlq.2 i (.inr hi)) hx1s) hW2).mono ?_⟩
  rintro e w2 ⟨u', s', i', told', f', sc', zs, rfl, hSt', hSr⟩
  have x2 := sB hSr.cm
  -- both stood at one place
  have hEQ : sc' = sc ∧ i' = i ∧ told' = told ∧ f' = f ∧ sc ≠ 0 ∧ sc ≤ c + 1 ∧ f < 2 ^ (S.ds (S.ms j).k).t.L + 13 ∧ (mB (S.ms j).sv s ∨ w.heap.size ≤ s) ∧ (mB (S.ms j).sw s' ∨ w1.heap.size ≤ s') ∧ -1 ≤ told := by
    rcases hSt with ⟨g0, rfl, rfl, g3, g4, g5, g6⟩ | ⟨⟨g1, g2⟩, g3, g4, g5⟩ <;> rcases hSt' with ⟨k0, rfl, rfl, k3, k4, k5, k6⟩ | ⟨⟨k1, k2⟩, k3, k4, k5, k6⟩
    · exact ⟨by omega, rfl, rfl, k6.uniq g6, by omega, by omega, g5, .inr g4, .inr k4, Int.le_refl _⟩
    · exfalso
      rcases hSK with ⟨_, _, y⟩ | ⟨_, _, _, _, y, _⟩
      · exact k1 y
      · rcases g0 with z | z
        · exact y z
        · exact z k2
    · exfalso
      rcases hSK with ⟨y, _⟩ | ⟨_, _, _, y, _⟩
      · exact g1 y
      · rcases k0 with z | z
        · rw [y] at z; cases z
        · exact z g2
    · rcases hSK with ⟨y, _⟩ | ⟨s0, s20, y1, y2, _, _, _, y6 | ⟨_, _, _, i0, told0, f0, z1, z2, z3, z4, z5, z6, z7⟩⟩
      · exact absurd y g1
      · exact absurd g2 y6
      · rw [g3] at y1
        cases y1
        rw [k3] at y2
        cases y2
        have c6 := (Blk.c z1 6 (by omega)).symm.trans (Blk.c g5.sk 6 (by omega))
        have c7 := (Blk.c z1 7 (by omega)).symm.trans (Blk.c g5.sk 7 (by omega))
        have hz2' : S2 w1 s' (S.ds (S.ms j).k).g2 (S.ds (S.ms j).k).t (S.ms j).m.hash i0 told0 := Blk.same z2 (hRb j hj s' (.inr k3))
        have d6 := (Blk.c hz2' 6 (by omega)).symm.trans (Blk.c k5 6 (by omega))
        have d7 := (Blk.c hz2' 7 (by omega)).symm.trans (Blk.c k5 7 (by omega))
        injection c6 with c6
        injection c6 with _ c6
        injection c7 with c7
        injection c7 with _ c7
        injection d6 with d6
        injection d6 with _ d6
        injection d7 with d7
        injection d7 with _ d7
        exact ⟨by omega, by omega, by omega, k6.uniq g5.ff, by omega, by omega, g5.lt, .inl g3, .inl k3, g5.ge⟩
  obtain ⟨rfl, rfl, rfl, rfl, hsc0, hscc, hfl, hss, hss2, htd⟩ := hEQ
  have hnP : ¬ (S.ds (S.ms j).k).P s := fun h => by
    have g2 := sp.dp _ hk s h
    rcases hss with y | y
    · have g1 := sp.mp j hj s (.inr y); omega
    · omega
  have hnR : ¬ (S.ds (S.ms j).k).R s' := fun h => by
    have g2 := sp.dr _ hk s' h
    rcases hss2 with y | y
    · have g1 := sp.mr j hj s' (.inr y); omega
    · omega
  have hI := dc.ok.inv
  have hj1 : ∀ j1 : Nat, i' ≤ j1 → j1 ≤ f' → b ≤ b + ((j1 + 1 - i' : Nat) : Int) ∧ b + ((j1 + 1 - i' : Nat) : Int) ≤ b + 1048600 := fun j1 h1 h2 => ⟨by omega, by omega⟩
  obtain ⟨j1, q1, q2, hA⟩ := hSo
  obtain ⟨j2, r1, r2, hB⟩ := hSr
  rcases hA with ⟨n, o1, l1, ⟨m1, c1, t1⟩, hA⟩ | ⟨f1, n1, hMs, hmc, hvi⟩
  · rcases hB with ⟨n', o2, l2, ⟨m2, c2, t2⟩, hB⟩ | ⟨_, n2, _⟩
    · have en : n' = n := Nat.le_antisymm (m2 n o1 l1) (m1 n' o2 l2)
      subst en
      have ej : j2 = j1 := Pos.uniq (pin_eq hI o2 l2 c2 t2) (pin_eq hI o1 l1 c1 t1)
      subst ej
      rcases hA with ⟨k1, k2, k3, k4, k5⟩ | ⟨k1, k2, k3, k4, k5⟩ <;> rcases hB with ⟨e1, e2, e3, e4, e5⟩ | ⟨e1, e2, e3, e4, e5⟩
      · -- a hit
        have eu : u' = u := by rw [e2, k2]
        subst eu
        obtain ⟨v1, v2, v3, v4, v5, v6⟩ := hit_turn { (S.ms j).m with ver := (S.ds (S.ms j).k).v, scans := sc' } (S.ds (S.ms j).k).t n' (S.ds (S.ms j).k).v
        have hup : ∀ c, Bp (S.ds (S.ms j).k) c → Bp { S.ds (S.ms j).k with t := hitT { (S.ms j).m with ver := (S.ds (S.ms j).k).v, scans := sc' } (S.ds (S.ms j).k).t n', v := hitN (S.ms j).m.goal (S.ds (S.ms j).k).v } (c + 1) := fun c hb => ⟨Nat.le_trans (Nat.le_of_eq v4) (by have := hb.births; omega), Nat.le_trans (Nat.le_of_eq v5) (by have := hb.made; omega), Nat.le_trans v6 (by have := hb.turn; omega), Nat.le_trans v2 (by have := hb.ver; omega)⟩
        refine ⟨rfl, x2, step_fin hP hMo hj (p := { S.ds (S.ms j).k with t := hitT { (S.ms j).m with ver := (S.ds (S.ms j).k).v, scans := sc' } (S.ds (S.ms j).k).t n', v := hitN (S.ms j).m.goal (S.ds (S.ms j).k).v }) (m1 := { (S.ms j).m with ver := (S.ds (S.ms j).k).v, scans := sc', u := u' }) (z1 := { (S.ms j).z with same := zs, at_ := (n' : Int), over := true, u := u' }) (s := s) (s2 := s') x1 x2 rfl rfl rfl rfl v1 v3 ⟨k3.dc, e3.dc, hup c bd, hitT_born hbn _ _⟩ (fun i hi => .inl hi) (fun i hi => .inl hi) k3.m e3.ms ⟨by omega, by omega⟩ (hj1 j2 q1 q2) ⟨k4, e4, hM.goal, v1, hscc, ?_, ?_⟩ hss hss2 hnP hnR hsc0 hup (fun h => absurd h (by rw [k2]; show ¬ ((2 : Int) = 1); decide))⟩
        · refine .inr (.inr ⟨?_, ?_, rfl, rfl⟩)
          · show ¬ u'.kind = 0; rw [k2]; show ¬ ((2 : Int) = 0); decide
          · show ¬ u'.kind = 1; rw [k2]; show ¬ ((2 : Int) = 1); decide
        · refine .inr ⟨s, s', j2 + 1, rfl, rfl, hsc0, k5, e5, fun _ => .inr ⟨?_, ?_⟩⟩
          · show ¬ u'.kind = 0; rw [k2]; show ¬ ((2 : Int) = 0); decide
          · show ¬ u'.kind = 1; rw [k2]; show ¬ ((2 : Int) = 1); decide
      · exact absurd k1 e1
      · exact absurd e1 k1
      · -- it asks
        have eu : u' = u := by rw [e2, k2]
        subst eu
        refine ⟨rfl, x2, step_fin hP hMo hj (p := S.ds (S.ms j).k) (m1 := { (S.ms j).m with ver := (S.ds (S.ms j).k).v, scans := sc', asked := (n' : Int), u := u' }) (z1 := { (S.ms j).z with same := zs, at_ := (n' : Int), waits := true, u := u' }) (s := s) (s2 := s') x1 x2 rfl rfl rfl rfl (Nat.le_refl _) (fun _ => rfl) ⟨k3.dc, e3.dc, bd.le (Nat.le_succ c), hbn⟩ (fun i hi => .inl hi) (fun i hi => .inl hi) k3.m e3.ms ⟨by omega, by omega⟩ (hj1 j2 q1 q2) ⟨k4, e4, hM.goal, Nat.le_refl _, hscc, ?_, ?_⟩ hss hss2 hnP hnR hsc0 (fun c h => h.le (Nat.le_succ c)) (fun _ _ h => h)⟩
        · refine .inr (.inl ⟨?_, rfl, hz.2, rfl⟩)
          show u'.kind = 1; rw [k2]
        · refine .inr ⟨s, s', j2 + 1, rfl, rfl, hsc0, ⟨_, _, _, _, _, _, k5.sk⟩, ⟨_, _, _, _, _, _, _, e5⟩, fun _ => .inl (.inr ⟨.inr ⟨?_, n', rfl, rfl, o1.1, o1.2.1⟩, j2 + 1, (n' : Int), f', k5.sk, e5, k5.td, k5.ff, k5.le, k5.lt, k5.ge⟩)⟩
          show u'.kind = 1; rw [k2]
    · have := n2 n o1
      omega
  · rcases hB with ⟨n', o2, l2, _, _⟩ | ⟨f2, n2, hMs2, hrm2, hv2⟩
    · have := n1 n' o2
      omega
    · have ej : j2 = j1 := by omega
      subst ej
      obtain ⟨eu, da, dv, t', ⟨gi', r', h', ev', hcm, hns⟩, ⟨q2', ev2', hrc, hnr⟩, hkd, hdd⟩ := msr_u hMs hMs2 rfl rfl rfl rfl
      subst eu
      have hkn : ¬ u.kind = 0 ∧ ¬ u.kind = 1 := by rcases hkd with h | h <;> rw [h] <;> exact ⟨by decide, by decide⟩
      have hau := (S.ds (S.ms j).k).t.add_up (S.ms j).m.hash (S.ms j).m.key (S.ms j).m.value
      have hbb : t'.births ≤ c + 1 ∧ t'.made ≤ c + 1 + 1 ∧ t'.turn ≤ c + 1 ∧ (S.ds (S.ms j).k).v + dv ≤ c + 1 ∧ (a ≤ a + da ∧ a + da ≤ a + 1) ∧ ((S.ds (S.ms j).k).v + dv = (S.ds (S.ms j).k).v → t' = (S.ds (S.ms j).k).t) := by
        rcases hdd with ⟨d1, d2, d3⟩ | ⟨d1, d2, d3⟩
        · subst d1 d2 d3
          obtain ⟨y1, y2, y3, y4⟩ := hau
          exact ⟨by show ((S.ds (S.ms j).k).t.add (S.ms j).m.hash (S.ms j).m.key (S.ms j).m.value).births ≤ _; omega, by show ((S.ds (S.ms j).k).t.add (S.ms j).m.hash (S.ms j).m.key (S.ms j).m.value).made ≤ _; omega, by show ((S.ds (S.ms j).k).t.add (S.ms j).m.hash (S.ms j).m.key (S.ms j).m.value).turn ≤ _; omega, by omega, ⟨by omega, by show a + ((((S.ds (S.ms j).k).t.add (S.ms j).m.hash (S.ms j).m.key (S.ms j).m.value).made - (S.ds (S.ms j).k).t.made : Nat) : Int) ≤ _; omega⟩, fun h => by omega⟩
        · subst d1 d2 d3
          exact ⟨by omega, by omega, by omega, by omega, ⟨by omega, by omega⟩, fun _ => rfl⟩
      obtain ⟨u1, u2, u3, u4, u5, u6⟩ := hbb
      have hup : ∀ c, Bp (S.ds (S.ms j).k) c → Bp { S.ds (S.ms j).k with gi := gi', r := r', h := h', ev := ev', q2 := q2', ev2 := ev2', t := t', v := (S.ds (S.ms j).k).v + dv } (c + 1) := fun c hb => by
        have p1 := hb.births
        have p2 := hb.made
        have p3 := hb.turn
        have p4 := hb.ver
        rcases hdd with ⟨d1, d2, d3⟩ | ⟨d1, d2, d3⟩
        · subst d1 d2 d3
          obtain ⟨y1, y2, y3, y4⟩ := hau
          exact ⟨by show ((S.ds (S.ms j).k).t.add (S.ms j).m.hash (S.ms j).m.key (S.ms j).m.value).births ≤ _; omega, by show ((S.ds (S.ms j).k).t.add (S.ms j).m.hash (S.ms j).m.key (S.ms j).m.value).made ≤ _; omega, by show ((S.ds (S.ms j).k).t.add (S.ms j).m.hash (S.ms j).m.key (S.ms j).m.value).turn ≤ _; omega, by show (S.ds (S.ms j).k).v + 1 ≤ _; omega⟩
        · subst d1 d2 d3
          exact ⟨by show (S.ds (S.ms j).k).t.births ≤ _; omega, by show (S.ds (S.ms j).k).t.made ≤ _; omega, by show (S.ds (S.ms j).k).t.turn ≤ _; omega, by show (S.ds (S.ms j).k).v + 0 ≤ _; omega⟩
      have hbt : t'.Born := by
        rcases hdd with ⟨_, _, d3⟩ | ⟨_, _, d3⟩
        · rw [d3]; exact hbn.add _ _ _
        · rw [d3]; exact hbn
      refine ⟨rfl, x2, step_fin hP hMo hj (p := { S.ds (S.ms j).k with gi := gi', r := r', h := h', ev := ev', q2 := q2', ev2 := ev2', t := t', v := (S.ds (S.ms j).k).v + dv }) (m1 := { (S.ms j).m with ver := (S.ds (S.ms j).k).v, scans := sc', u := u }) (z1 := { (S.ms j).z with same := zs, over := true, u := u }) (s := s) (s2 := s') x1 x2 rfl rfl rfl rfl (Nat.le_add_right _ _) u6 ⟨hcm.dc, hrc.dc, ⟨u1, u2, u3, u4⟩, hbt⟩ (fun i hi => ?_) (fun i hi => hrc.fx i hi) hcm.m hrc.ms u5 (hj1 j2 q1 q2) ⟨hmc, hrm2, hM.goal, Nat.le_add_right _ _, hscc, .inr (.inr ⟨hkn.1, hkn.2, rfl, rfl⟩), .inr ⟨s, s', j2 + 1, rfl, rfl, hsc0, hvi, hv2, fun _ => .inr hkn⟩⟩ hss hss2 hns hnr hsc0 hup (fun h => absurd h hkn.2)⟩
      rcases hi with y | y
      · exact .inl (.inl y)
      · exact (hcm.fx i y).elim (fun z => .inl (.inr z)) .inr
theorem step_both {w : World} {X : Nat} {S : St8} {pm pr : Option Addr} {M : Int → Int → World → Prop} {a b most : Int} {c : Nat} (hP : P8 w X S (.pointer pm) (.pointer pr) M a b most c) (hMo : MtOk (.pointer pm) M) (hMv : MvOk (.pointer pm) M) (hc : c ≤ 50000) {j : Nat} (hj : j < S.nm) :
    ∃ Pw : Tu → World → Prop, (∀ u w1 V, Pw u w1 → Below w1.heap.size w1 V → Pw u V) ∧ (Calls Tryz.prog 10 #[.pointer (some ⟨(S.ms j).x, 0, none⟩)] w fun e w1 => ∃ u, e = .returned (tuV u) ∧ Pw u w1) ∧
      ∀ u w1, Pw u w1 → Ex (S.A (S.ms j).k j (.pointer pm)) w w1 ∧ Calls Tryz.prog 33 #[.pointer (some ⟨(S.ms j).y, 0, none⟩)] w1 fun e w2 => e = .returned (tuV u) ∧ Ex (S.B (S.ms j).k j (.pointer pr)) w1 w2 ∧ D8j w X S (.pointer pm) (.pointer pr) M most (c + 1) j u w2 := by
  obtain ⟨hk, hM⟩ := hP.mh j hj
  obtain ⟨dc, rc, bd, hbn⟩ := hP.dk _ hk
  obtain ⟨lab, sp⟩ := hP.sep
  have hlq := hM.lt
  have ab := hP.ab
  by_cases h0 : (S.ms j).m.u.kind = 0
  case neg =>
    have hs0 : (S.ms j).m.scans ≠ 0 := by
      rcases hM.sk with ⟨_, _, _, y⟩ | ⟨_, _, _, _, _, y, _⟩
      · exact absurd y h0
      · exact y
    refine ⟨fun u w1 => u = (S.ms j).m.u ∧ Below w.heap.size w w1, fun u w1 V h hb => ⟨h.1, h.2.trans (hb.mono h.2.size)⟩, (step_wait hM.mc h0).mono fun e w1 ⟨h1, h2⟩ => ⟨_, h1, rfl, h2⟩, ?_⟩
    rintro u w1 ⟨rfl, hb⟩
    have hrm : Rm w1 (S.ms j).y (S.ms j).sw (S.ds (S.ms j).k).d2 (S.ms j).m (S.ms j).z := Blk.of hM.rm hb (by omega)
    refine ⟨ex_of hb, ?_⟩
    rcases hM.tn with ⟨y, _⟩ | ⟨y, y1, y2, y3⟩ | ⟨y, y1, y2, y3⟩
    · exact absurd y h0
    · refine (rstep_wait hrm (.inr ⟨y2, y1⟩)).mono ?_
      rintro e w2 ⟨rfl, hb2⟩
      exact ⟨by rw [y3], ex_of hb2, _, _, _, D8.same hP hMo (hb.trans (hb2.mono hb.size)), Kept.refl _, UpN.refl _ _, fun _ => UpN.refl _ _, hs0⟩
    · refine (rstep_wait hrm (.inl y2)).mono ?_
      rintro e w2 ⟨rfl, hb2⟩
      exact ⟨by rw [y3], ex_of hb2, _, _, _, D8.same hP hMo (hb.trans (hb2.mono hb.size)), Kept.refl _, UpN.refl _ _, fun _ => UpN.refl _ _, hs0⟩
  case pos =>
    have hz : (S.ms j).z.waits = false ∧ (S.ms j).z.over = false := by
      rcases hM.tn with y | ⟨y, _⟩ | ⟨y, _⟩
      · exact y.2
      · omega
      · exact absurd h0 y
    have lx : ¬ (S.ds (S.ms j).k).P (S.ms j).x := fun h => by have h1 := sp.mp j hj _ (.inl rfl); have h2 := sp.dp _ hk _ h; omega
    have lxm : ¬ mB (.pointer pm) (S.ms j).x := fun h => by have h1 := sp.mp j hj _ (.inl rfl); have h2 := sp.m _ h; omega
    have ly : ¬ (S.ds (S.ms j).k).R (S.ms j).y := fun h => by have h1 := sp.mr j hj _ (.inl rfl); have h2 := sp.dr _ hk _ h; omega
    have lym : ¬ mB (.pointer pr) (S.ms j).y := fun h => by have h1 := sp.mr j hj _ (.inl rfl); have h2 := sp.r _ h; omega
    have hMx : Mx w (S.ds (S.ms j).k).d (S.ds (S.ms j).k).g (S.ds (S.ms j).k).gi (S.ds (S.ms j).k).r (S.ds (S.ms j).k).h (S.ds (S.ms j).k).ev (.pointer pm) (S.ms j).x (S.ms j).sv (S.ms j).m := ⟨hM.mc, lx, lxm⟩
    have hlsv : ∀ i, mB (S.ms j).sv i → i < w.heap.size := fun i hi => hlq.1 i (.inr hi)
    have sA : ∀ {w'}, Ex (fun i => cX (S.ds (S.ms j).k).d (S.ds (S.ms j).k).g (S.ds (S.ms j).k).gi (S.ds (S.ms j).k).r (S.ds (S.ms j).k).h (S.ds (S.ms j).k).ev i ∨ mB (.pointer pm) i ∨ i = (S.ms j).x ∨ mB (S.ms j).sv i) w w' → Ex (S.A (S.ms j).k j (.pointer pm)) w w' := fun h => h.mono fun i _ hi => by
      rcases hi with y | y | y | y
      · exact .inl y
      · exact .inr (.inl y)
      · exact .inr (.inr ⟨hj, .inl y⟩)
      · exact .inr (.inr ⟨hj, .inr y⟩)
    have sB : ∀ {w1 w'}, Ex (fun i => rX (S.ds (S.ms j).k).d2 (S.ds (S.ms j).k).g2 (S.ds (S.ms j).k).q2 (S.ds (S.ms j).k).ev2 i ∨ mB (.pointer pr) i ∨ i = (S.ms j).y ∨ mB (S.ms j).sw i) w1 w' → Ex (S.B (S.ms j).k j (.pointer pr)) w1 w' := fun h => h.mono fun i _ hi => by
      rcases hi with y | y | y | y
      · exact .inl y
      · exact .inr (.inl y)
      · exact .inr (.inr ⟨hj, .inl y⟩)
      · exact .inr (.inr ⟨hj, .inr y⟩)
    have b1 := bd.births
    have b2 := bd.made
    have b3 := bd.turn
    have b4 := bd.ver
    have hsc := hM.scans
    have hvr := hM.ver
    by_cases htold : (S.ms j).m.scans ≠ 0 ∧ (S.ms j).m.ver = (S.ds (S.ms j).k).v ∧ (S.ms j).m.same = true ∧ (S.ms j).z.same = true ∧ ∃ n : Nat, (S.ms j).m.asked = (n : Int) ∧ (S.ms j).z.at_ = (n : Int) ∧ n < (S.ds (S.ms j).k).t.es.length ∧ (nth (S.ds (S.ms j).k).t.es n).live = true
    case pos =>
      obtain ⟨t1, t2, t3, t4, n, t5, t6, t7, t8⟩ := htold
      have hsk : ∃ s s2 vis, (S.ms j).sv = .pointer (some ⟨s, 0, none⟩) ∧ (S.ms j).sw = .pointer (some ⟨s2, 0, none⟩) ∧ Vi w s vis ∧ V2 w s2 vis := by
        rcases hM.sk with ⟨y, _⟩ | ⟨s, s2, vis, y1, y2, _, y3, y4, _⟩
        · exact absurd y t1
        · exact ⟨s, s2, vis, y1, y2, y3, y4⟩
      obtain ⟨s, s2, vis, e1, e2, hvi, hv2⟩ := hsk
      refine ⟨fun u w1 => u = ⟨2, 0, true, (nth (S.ds (S.ms j).k).t.es n).value, (n : Int)⟩ ∧ Cm w (S.ds (S.ms j).k).d (S.ds (S.ms j).k).g (S.ds (S.ms j).k).gi (S.ds (S.ms j).k).r (S.ds (S.ms j).k).h (S.ds (S.ms j).k).ev (.pointer pm) M (S.ms j).x (S.ms j).sv a b most (hitN (S.ms j).m.goal (S.ds (S.ms j).k).v) (hitT (S.ms j).m (S.ds (S.ms j).k).t n) w1 (S.ds (S.ms j).k).gi (S.ds (S.ms j).k).r (S.ds (S.ms j).k).h (S.ds (S.ms j).k).ev ∧ Mc w1 (S.ms j).x (S.ms j).sv (S.ds (S.ms j).k).d { (S.ms j).m with u := u } ∧ w1.heap[s]? = w.heap[s]?,
        fun u w1 V h hb => ⟨h.1, h.2.1.below hMo hb, Blk.of h.2.2.1 hb (by omega), (hb.block s (Nat.lt_of_lt_of_le (hlsv s e1) h.2.1.ex.size)).trans h.2.2.2⟩, (step_told dc hMo hP.m (by omega) (by omega) hMx h0 hlsv t1 t2 t3 n t5 t7 t8).mono fun e w1 ⟨h1, h2, h3, h4⟩ => ⟨_, h1, rfl, h2, h3, h4 s (hlsv s e1) (fun h => by have g1 := sp.mp j hj s (.inr e1); have g2 := sp.dp _ hk s h; omega) (fun h => by have g1 := sp.mp j hj s (.inr e1); have g2 := sp.m s h; omega) (vi_ne hM.mc hvi)⟩, ?_⟩
      rintro u w1 ⟨rfl, hc1, hmc1, hs1⟩
      have x1 := sA hc1.ex
      obtain ⟨_, _, _, hRc, hRb, hMs1⟩ := hP.mid hk x1
      have hrm1 : Rm w1 (S.ms j).y (.pointer (some ⟨s2, 0, none⟩)) (S.ds (S.ms j).k).d2 (S.ms j).m (S.ms j).z := by
        have h := Blk.same hM.rm (hRb j hj _ (.inl rfl))
        rw [e2] at h
        exact h
      have hv21 := hv2.same (hRb j hj s2 (.inr e2))
      refine ⟨x1, (rstep_told (hRc _ hk) hMs1 (by omega) (Nat.le_trans dc.ok.few dc.ok.all) (by omega) hrm1 hz.2 hz.1 t4 t2 ly lym n t6 t7 t8).mono ?_⟩
      rintro e w2 ⟨u', rfl, hu', hc2, hrm2⟩
      subst hu'
      obtain ⟨v1, v2, v3, v4, v5, v6⟩ := hit_turn (S.ms j).m (S.ds (S.ms j).k).t n (S.ds (S.ms j).k).v
      have hs2w := hlq.2 s2 (.inr e2)
      have hv22 : V2 w2 s2 vis := hv21.same (hc2.ex.block s2 (Nat.lt_of_lt_of_le hs2w x1.size) (fun h => by
        have g1 := sp.mr j hj s2 (.inr e2)
        rcases h with h | h | h | h
        · have g2 := sp.dr _ hk s2 h; omega
        · have g2 := sp.r s2 h; omega
        · exact v2_ne hM.rm hv2 h
        · cases h))
      rw [e1] at hmc1
      have x2 : Ex (S.B (S.ms j).k j (.pointer pr)) w1 w2 := sB (hc2.ex.mono fun i _ hi => by
        rcases hi with h | h | h | h
        · exact .inl h
        · exact .inr (.inl h)
        · exact .inr (.inr (.inl h))
        · cases h)
      have hup : ∀ c, Bp (S.ds (S.ms j).k) c → Bp { S.ds (S.ms j).k with t := hitT (S.ms j).m (S.ds (S.ms j).k).t n, v := hitN (S.ms j).m.goal (S.ds (S.ms j).k).v } (c + 1) := fun c hb => ⟨Nat.le_trans (Nat.le_of_eq v4) (by have := hb.births; omega), Nat.le_trans (Nat.le_of_eq v5) (by have := hb.made; omega), Nat.le_trans v6 (by have := hb.turn; omega), Nat.le_trans v2 (by have := hb.ver; omega)⟩
      refine ⟨rfl, x2, step_fin hP hMo hj (p := { S.ds (S.ms j).k with t := hitT (S.ms j).m (S.ds (S.ms j).k).t n, v := hitN (S.ms j).m.goal (S.ds (S.ms j).k).v }) (m1 := { (S.ms j).m with u := ⟨2, 0, true, (nth (S.ds (S.ms j).k).t.es n).value, (n : Int)⟩ }) (z1 := { (S.ms j).z with over := true, u := ⟨2, 0, true, (nth (S.ds (S.ms j).k).t.es n).value, (n : Int)⟩ }) (s := s) (s2 := s2) x1 x2 rfl rfl rfl rfl v1 v3 ⟨hc1.dc, hc2.dc, hup c bd, hitT_born hbn _ _⟩ (fun i hi => .inl hi) (fun i hi => .inl hi) hc1.m hc2.ms ⟨by omega, by omega⟩ ⟨by omega, by omega⟩ ⟨hmc1, hrm2, hM.goal, ?_, by show (S.ms j).m.scans ≤ c + 1; omega, ?_, ?_⟩ (.inl e1) (.inl e2) (fun h => by have g1 := sp.mp j hj s (.inr e1); have g2 := sp.dp _ hk s h; omega) (fun h => by have g1 := sp.mr j hj s2 (.inr e2); have g2 := sp.dr _ hk s2 h; omega) t1 hup (fun h => absurd h (by show ¬ ((2 : Int) = 1); decide))⟩
      · show (S.ms j).m.ver ≤ hitN _ _; omega
      · exact .inr (.inr ⟨by show ¬ ((2 : Int) = 0); decide, by show ¬ ((2 : Int) = 1); decide, rfl, rfl⟩)
      · exact .inr ⟨s, s2, vis, rfl, rfl, t1, hvi.same hs1, hv22, fun _ => .inr ⟨by show ¬ ((2 : Int) = 0); decide, by show ¬ ((2 : Int) = 1); decide⟩⟩
    case neg =>
      exact step_more hP hMo hMv hc hj hk hM sp h0 hz ly lym hMx htold sA sB
end Go.Proofs.YtejfmajbggmghaaGreat
namespace Go.Proofs.YtejfmajbggmghaaGreat
open Go.RowKit Go.WideShapes

set_option maxRecDepth 100000 in
theorem tell_no {w : World} {x d : Nat} {sv : Value} {m : Ma} (hm : Mc w x sv d m) (hk : m.u.kind ≠ 1) (c : Bool) :
    Calls Tryz.prog 34 #[.pointer (some ⟨x, 0, none⟩), .bool c] w fun e w' => e = .returned (.int .i64 8) ∧ Below w.heap.size w w' := by
  have k1 : w.cell? ⟨x, 1, none⟩ = some (.pointer (some ⟨d, 0, none⟩)) := hm.c 1 (by omega)
  have C1 := maNone_no k1
  have t0 : (m.u.kind != 1) = true := by rw [bne_iff_ne]; exact hk
  have lx := hm.lt (by omega)
  have HM := Lib.hid hm
  clear hm k1 hk
  go_enter Tryz.func34, Tryz.ntmps34
  go_wp2_with fail
  refine C1.mono ?_
  rintro e w2 ⟨rfl, hb2⟩
  clear C1
  have hm2 : Mc w2 x sv d m := HM.out.of hb2 (by omega)
  have k10 : w2.cell? ⟨x, 10, none⟩ = some (.int .i64 m.u.kind) := hm2.c 10 (by omega)
  have HB := Lib.hid hb2
  clear hm2 hb2
  go_wp2_with fail
  go_ret
  exact ⟨rfl, HB.out⟩
theorem tell_both {w : World} {X : Nat} {S : St8} {pm pr : Option Addr} {M : Int → Int → World → Prop} {a b most : Int} {c : Nat} (hP : P8 w X S (.pointer pm) (.pointer pr) M a b most c) (hMo : MtOk (.pointer pm) M) {j : Nat} (hj : j < S.nm) (o : Bool) :
    ∃ Pw : Int → World → Prop, (Calls Tryz.prog 34 #[.pointer (some ⟨(S.ms j).x, 0, none⟩), .bool o] w fun e w1 => ∃ x, e = .returned (.int .i64 x) ∧ Pw x w1) ∧
      ∀ x w1, Pw x w1 → Ex (S.A (S.ms j).k j (.pointer pm)) w w1 ∧ Calls Tryz.prog 35 #[.pointer (some ⟨(S.ms j).y, 0, none⟩), .bool o] w1 fun e w2 => e = .returned (.int .i64 x) ∧ D8s w X S (.pointer pm) (.pointer pr) M most (c + 1) 0 w2 := by
  obtain ⟨hk, hM⟩ := hP.mh j hj
  obtain ⟨dc, rc, bd, hbn⟩ := hP.dk _ hk
  obtain ⟨lab, sp⟩ := hP.sep
  have hlq := hM.lt
  have hsc := hM.scans
  by_cases h1 : (S.ms j).m.u.kind = 1
  case neg =>
    refine ⟨fun x w1 => x = 8 ∧ Below w.heap.size w w1, (tell_no hM.mc h1 o).mono fun e w1 ⟨g1, g2⟩ => ⟨_, g1, rfl, g2⟩, ?_⟩
    rintro x w1 ⟨rfl, hb⟩
    have hrm : Rm w1 (S.ms j).y (S.ms j).sw (S.ds (S.ms j).k).d2 (S.ms j).m (S.ms j).z := Blk.of hM.rm hb (by omega)
    have hov : (S.ms j).z.over = true ∨ (S.ms j).z.waits = false := by
      rcases hM.tn with y | ⟨y, _⟩ | y
      · exact .inr y.2.1
      · exact absurd y h1
      · exact .inl y.2.2.1
    refine ⟨ex_of hb, (rtell_no hrm hov o).mono ?_⟩
    rintro e w2 ⟨rfl, rfl⟩
    exact ⟨rfl, _, _, _, D8.same hP hMo hb, Kept.refl _, UpN.refl _ _⟩
  case pos =>
    have hz : (S.ms j).z.waits = true ∧ (S.ms j).z.over = false := by
      rcases hM.tn with ⟨y, _⟩ | ⟨_, y1, y2, _⟩ | ⟨_, y, _⟩
      · omega
      · exact ⟨y1, y2⟩
      · exact absurd h1 y
    have hsk : ∃ s s2 vis, (S.ms j).sv = .pointer (some ⟨s, 0, none⟩) ∧ (S.ms j).sw = .pointer (some ⟨s2, 0, none⟩) ∧ (S.ms j).m.scans ≠ 0 ∧ Vi w s vis ∧ V2 w s2 vis ∧ ((S.ms j).m.ver = (S.ds (S.ms j).k).v → Live w w (S.ds (S.ms j).k) (S.ms j) s s2 ∨ ((S.ms j).m.u.kind ≠ 0 ∧ (S.ms j).m.u.kind ≠ 1)) := by
      rcases hM.sk with ⟨_, _, _, y⟩ | y
      · omega
      · exact y
    obtain ⟨s, s2, vis, e1, e2, e3, hvi, hv2, hlive⟩ := hsk
    have nsx := vi_ne hM.mc hvi
    have nsy := v2_ne hM.rm hv2
    refine ⟨fun x w1 => x = 0 ∧ Mc w1 (S.ms j).x (S.ms j).sv (S.ds (S.ms j).k).d { (S.ms j).m with u := Tu.zero, same := o } ∧ Ex (fun k => k = (S.ms j).x) w w1, (tell_yes hM.mc h1 o).mono fun e w1 ⟨g1, g2, g3⟩ => ⟨_, g1, rfl, g2, g3⟩, ?_⟩
    rintro x w1 ⟨rfl, hmc, hx⟩
    have x1 : Ex (S.A (S.ms j).k j (.pointer pm)) w w1 := hx.mono fun i _ hi => .inr (.inr ⟨hj, .inl hi⟩)
    obtain ⟨_, _, _, hRc, hRb, hMs1⟩ := hP.mid hk x1
    have hrm1 : Rm w1 (S.ms j).y (S.ms j).sw (S.ds (S.ms j).k).d2 (S.ms j).m (S.ms j).z := Blk.same hM.rm (hRb j hj _ (.inl rfl))
    refine ⟨x1, (rtell_yes hrm1 hz.2 hz.1 o).mono ?_⟩
    rintro e w2 ⟨rfl, hrm2, hx2⟩
    have x2 : Ex (S.B (S.ms j).k j (.pointer pr)) w1 w2 := hx2.mono fun i _ hi => .inr (.inr ⟨hj, .inl hi⟩)
    rw [e1] at hmc
    rw [e2] at hrm2
    have ls := hlq.1 s (.inr e1)
    have ls2 := hlq.2 s2 (.inr e2)
    have k1 : w1.heap[s]? = w.heap[s]? := hx.block s ls nsx
    have k2 : w2.heap[s2]? = w.heap[s2]? := (hx2.block s2 (Nat.lt_of_lt_of_le ls2 hx.size) nsy).trans (hRb j hj s2 (.inr e2))
    have hdc1 : ∀ i, cX (S.ds (S.ms j).k).d (S.ds (S.ms j).k).g (S.ds (S.ms j).k).gi (S.ds (S.ms j).k).r (S.ds (S.ms j).k).h (S.ds (S.ms j).k).ev i → w1.heap[i]? = w.heap[i]? := fun i hi => hx.block i (dc.lt i hi) (fun e => by have g1 := sp.mp j hj i (.inl e); have g2 := sp.dp _ hk i hi; omega)
    have hrc2 : ∀ i, rX (S.ds (S.ms j).k).d2 (S.ds (S.ms j).k).g2 (S.ds (S.ms j).k).q2 (S.ds (S.ms j).k).ev2 i → w2.heap[i]? = w1.heap[i]? := fun i hi => hx2.block i ((hRc _ hk).lt i hi) (fun e => by have g1 := sp.mr j hj i (.inl e); have g2 := sp.dr _ hk i hi; omega)
    refine ⟨rfl, D8j.s rfl (step_fin hP hMo hj (p := S.ds (S.ms j).k) (m1 := { (S.ms j).m with u := Tu.zero, same := o }) (z1 := { (S.ms j).z with waits := false, same := o }) (s := s) (s2 := s2) (a' := a) (b' := b) x1 x2 rfl rfl rfl rfl (Nat.le_refl _) (fun _ => rfl) ⟨dc.same hdc1, (hRc _ hk).same hrc2, bd.le (Nat.le_succ c), hbn⟩ (fun i hi => .inl hi) (fun i hi => .inl hi) (hMo.same _ _ _ _ hP.m fun i hi => hx.block i (sp.m i hi).2 (fun e => by have g1 := sp.mp j hj i (.inl e); have g2 := sp.m i hi; omega)) (hMs1.same fun i hi => hx2.block i (hMs1.lt i hi) (fun e => by have g1 := sp.mr j hj i (.inl e); have g2 := sp.r i hi; omega)) ⟨by omega, by omega⟩ ⟨by omega, by omega⟩ ⟨hmc, hrm2, hM.goal, hM.ver, by show (S.ms j).m.scans ≤ c + 1; omega, .inl ⟨rfl, rfl, hz.2⟩, .inr ⟨s, s2, vis, rfl, rfl, e3, hvi.same k1, hv2.same k2, fun hver => .inl ?_⟩⟩ (.inl e1) (.inl e2) (fun h => by have g1 := sp.mp j hj s (.inr e1); have g2 := sp.dp _ hk s h; omega) (fun h => by have g1 := sp.mr j hj s2 (.inr e2); have g2 := sp.dr _ hk s2 h; omega) e3 (u := ⟨1, 0, false, 0, 0⟩) (fun c h => h.le (Nat.le_succ c)) (fun _ _ h => h))⟩
    rcases hlive hver with (⟨y, _⟩ | ⟨y, i, told, f, z1, z2, z3⟩) | ⟨_, y⟩
    · omega
    · rcases y with ⟨y, _⟩ | ⟨_, n, y1, y2, y3, y4⟩
      · omega
      · cases o with
        | true => exact .inl ⟨rfl, rfl, rfl, n, y1, y2, y3, y4⟩
        | false => exact .inr ⟨.inl ⟨rfl, rfl, rfl⟩, i, told, f, Blk.same z1 k1, Blk.same z2 k2, z3⟩
    · exact absurd h1 y
/-- A call on a dictionary, on both sides. -/
theorem dict_fin {w w1 w2 : World} {X : Nat} {S : St8} {mv mr : Value} {M : Int → Int → World → Prop} {a b most : Int} {c : Nat} (hP : P8 w X S mv mr M a b most c) (hMo : MtOk mv M) {k : Nat} (hk : k < S.nd) {t' : Tb} {v' : Nat} {a' : Int} {gi' r' h' q' : Nat} {ev' evr : Value}
    (hc : Cd w (S.ds k).d (S.ds k).g (S.ds k).gi (S.ds k).r (S.ds k).h (S.ds k).ev mv M a' b most v' t' w1 gi' r' h' ev')
    (hr : Rcd w1 (S.ds k).d2 (S.ds k).g2 (S.ds k).q2 (S.ds k).ev2 mr (fun _ => False) a' b most v' t' w2 q' evr)
    (ha : a ≤ a' ∧ a' ≤ a + 1) (hv : (S.ds k).v ≤ v' ∧ v' ≤ (S.ds k).v + 1) (ht : v' = (S.ds k).v → t' = (S.ds k).t) (hbt : t'.Born) (hb : ∀ c, Bp (S.ds k) c → t'.births ≤ c + 1 ∧ t'.made ≤ c + 2 ∧ t'.turn ≤ c + 1) : D8s w X S mv mr M most (c + 1) 1 w2 := by
  have ab := hP.ab
  have bv := (hP.dk k hk).bd.ver
  have hbc := hb c (hP.dk k hk).bd
  have hq := hP.both hMo (k := k) (j := S.nm) hk (p := { S.ds k with gi := gi', r := r', h := h', ev := ev', q2 := q', ev2 := evr, t := t', v := v' }) (q := S.ms S.nm) (Nat.le_succ c) (hc.ex.mono fun i _ hi => hi.elim .inl (fun y => .inr (.inl y))) (hr.ex.mono fun i _ hi => by
    rcases hi with y | y | y
    · exact .inl y
    · exact .inr (.inl y)
    · exact y.elim) rfl rfl rfl rfl hv.1 ht ⟨hc.dc, hr.dc, ⟨hbc.1, hbc.2.1, hbc.2.2, by show v' ≤ c + 1; omega⟩, hbt⟩ (fun i hi => by
      rcases hi with y | y
      · exact .inl (.inl y)
      · exact (hc.fx i y).elim (fun z => .inl (.inr z)) .inr) (fun i hi => hr.fx i hi) hc.m hr.ms ⟨by omega, by push_cast; omega, by omega, by push_cast; omega⟩ (fun h => absurd h (Nat.lt_irrefl _))
  exact ⟨_, _, _, ⟨hq.1, hq.2.1, hq.2.2⟩, Kept.to rfl rfl rfl rfl rfl, UpN.to fun c h => ⟨(hb c h).1, (hb c h).2.1, (hb c h).2.2, by show v' ≤ c + 1; have := h.ver; omega⟩⟩
theorem exA_cd {w w1 : World} {S : St8} {mv : Value} {M : Int → Int → World → Prop} {a b most : Int} {k v' : Nat} {t' : Tb} {gi' r' h' : Nat} {ev' : Value} (hc : Cd w (S.ds k).d (S.ds k).g (S.ds k).gi (S.ds k).r (S.ds k).h (S.ds k).ev mv M a b most v' t' w1 gi' r' h' ev') : Ex (S.A k S.nm mv) w w1 := hc.ex.mono fun _ _ hi => hi.elim .inl (fun y => .inr (.inl y))
theorem exB_rc {w w1 : World} {S : St8} {mr : Value} {a b most : Int} {k v' : Nat} {t' : Tb} {q' : Nat} {ev' : Value} (hr : Rcd w (S.ds k).d2 (S.ds k).g2 (S.ds k).q2 (S.ds k).ev2 mr (fun _ => False) a b most v' t' w1 q' ev') : Ex (S.B k S.nm mr) w w1 := hr.ex.mono fun _ _ hi => by
  rcases hi with y | y | y
  · exact .inl y
  · exact .inr (.inl y)
  · exact y.elim
theorem clear_both {w : World} {X : Nat} {S : St8} {pm pr : Option Addr} {M : Int → Int → World → Prop} {a b most : Int} {c : Nat} (hP : P8 w X S (.pointer pm) (.pointer pr) M a b most c) (hMo : MtOk (.pointer pm) M) (hc : c ≤ 50000) {k : Nat} (hk : k < S.nd) :
    ∃ Pw : World → Prop, (Calls Tryz.prog 15 #[.pointer (some ⟨(S.ds k).d, 0, none⟩)] w fun e w1 => e = .returned (.tuple #[]) ∧ Pw w1) ∧
      ∀ w1, Pw w1 → Ex (S.A k S.nm (.pointer pm)) w w1 ∧ Calls Tryz.prog 16 #[.pointer (some ⟨(S.ds k).d2, 0, none⟩)] w1 fun e w2 => e = .returned (.tuple #[]) ∧ D8s w X S (.pointer pm) (.pointer pr) M most (c + 1) 1 w2 := by
  obtain ⟨dc, rc, bd, hbn⟩ := hP.dk _ hk
  have ab := hP.ab
  have b1 := bd.births
  have b2 := bd.made
  have b3 := bd.turn
  have b4 := bd.ver
  refine ⟨fun w1 => ∃ gi' r' h' ev', Cd w (S.ds k).d (S.ds k).g (S.ds k).gi (S.ds k).r (S.ds k).h (S.ds k).ev (.pointer pm) M (a + 1) b most ((S.ds k).v + 1) (S.ds k).t.clear w1 gi' r' h' ev', pclear_any dc hMo hP.m (by omega) ⟨by omega, by omega⟩ (by omega) (by omega), ?_⟩
  rintro w1 ⟨gi', r', h', ev', hcd⟩
  obtain ⟨_, _, _, hRc, hRb, hMs1⟩ := hP.mid hk (exA_cd hcd)
  refine ⟨exA_cd hcd, (rclear8_any (hRc _ hk) hMs1 (by omega) ⟨by omega, by omega⟩ (by omega) (by omega)).mono ?_⟩
  rintro e w2 ⟨rfl, q', evr, hr⟩
  exact ⟨rfl, dict_fin hP hMo hk hcd hr ⟨by omega, by omega⟩ ⟨by omega, by omega⟩ (fun h => by omega) Tb.Born.clear (fun c hb => by have p1 := hb.births; have p2 := hb.made; have p3 := hb.turn; exact ⟨by show (S.ds k).t.births ≤ _; omega, by show (S.ds k).t.made + 1 ≤ _; omega, by show (S.ds k).t.turn + 1 ≤ _; omega⟩)⟩
theorem last_both {w : World} {X : Nat} {S : St8} {pm pr : Option Addr} {M : Int → Int → World → Prop} {a b most : Int} {c : Nat} (hP : P8 w X S (.pointer pm) (.pointer pr) M a b most c) (hMo : MtOk (.pointer pm) M) (hc : c ≤ 50000) {k : Nat} (hk : k < S.nd) :
    ∃ Pw : En → Int → World → Prop, (∀ x y w1 V, Pw x y w1 → Below w1.heap.size w1 V → Pw x y V) ∧ (Calls Tryz.prog 19 #[.pointer (some ⟨(S.ds k).d, 0, none⟩)] w fun e w1 => ∃ x y, e = .returned (.tuple #[eV x, .int .i64 y]) ∧ Pw x y w1) ∧
      ∀ x y w1, Pw x y w1 → Ex (S.A k S.nm (.pointer pm)) w w1 ∧ Calls Tryz.prog 20 #[.pointer (some ⟨(S.ds k).d2, 0, none⟩)] w1 fun e w2 => e = .returned (.tuple #[eV x, .int .i64 y]) ∧ Ex (S.B k S.nm (.pointer pr)) w1 w2 ∧ D8s w X S (.pointer pm) (.pointer pr) M most (c + 1) 1 w2 := by
  obtain ⟨dc, rc, bd, hbn⟩ := hP.dk _ hk
  have ab := hP.ab
  have b1 := bd.births
  have b2 := bd.made
  have b3 := bd.turn
  have b4 := bd.ver
  refine ⟨fun x y w1 => ∃ o, LstR (S.ds k).t.es o ∧ TkR (S.ds k).t o x y (fun dv t' => Cd w (S.ds k).d (S.ds k).g (S.ds k).gi (S.ds k).r (S.ds k).h (S.ds k).ev (.pointer pm) M a b most ((S.ds k).v + dv) t' w1 (S.ds k).gi (S.ds k).r (S.ds k).h (S.ds k).ev), fun x y w1 V ⟨o, h1, h2⟩ hb => ⟨o, h1, h2.mono fun dv t' hc => hc.over dc hMo (fun i hi => hMo.lt _ _ _ i hP.m hi) (hb.mono hc.ex.size)⟩, (plast_any dc hMo hP.m (by omega) (by omega)).mono fun e w1 ⟨o, x, y, h1, h2, h3⟩ => ⟨x, y, h1, o, h2, h3⟩, ?_⟩
  rintro x y w1 ⟨o, ho, ht⟩
  obtain ⟨_, _, hcd0⟩ := ht.any
  obtain ⟨_, _, _, hRc, hRb, hMs1⟩ := hP.mid hk (exA_cd hcd0)
  refine ⟨exA_cd hcd0, (rlast8_any (hRc _ hk) hMs1 (by omega) (by omega) (Nat.le_trans dc.ok.few dc.ok.all)).mono ?_⟩
  rintro e w2 ⟨o', x', y', rfl, ho', ht'⟩
  have eo := lst_one ho ho'
  subst eo
  rcases ht with ⟨rfl, rfl, rfl, hcd⟩ | ⟨n, rfl, hn, hl, rfl, rfl, hcd⟩ <;> rcases ht' with ⟨e1, rfl, rfl, hr⟩ | ⟨n', e1, hn', hl', rfl, rfl, hr⟩
  · exact ⟨rfl, exB_rc hr, dict_fin hP hMo hk hcd hr ⟨by omega, by omega⟩ ⟨by omega, by omega⟩ (fun h => rfl) hbn (fun c hb => by have p1 := hb.births; have p2 := hb.made; have p3 := hb.turn; exact ⟨by omega, by omega, by omega⟩)⟩
  · omega
  · omega
  · obtain rfl : n' = n := by omega
    exact ⟨rfl, exB_rc hr, dict_fin hP hMo hk hcd hr ⟨by omega, by omega⟩ ⟨by omega, by omega⟩ (fun h => by omega) (hbn.kill _) (fun c hb => by have p1 := hb.births; have p2 := hb.made; have p3 := hb.turn; exact ⟨by show (S.ds k).t.births ≤ _; omega, by show (S.ds k).t.made ≤ _; omega, by show (S.ds k).t.turn + 1 ≤ _; omega⟩)⟩
end Go.Proofs.YtejfmajbggmghaaGreat
