/-
  TableGoes: the iterator of Back, with the law's closure as yield.
-/
import Derived.Test.YtjkggidcheagpaaGreatTgAll1
import Derived.Test.YtjkggidcheagpaaGreatRgBox
import Derived.OwnWalkIn
import Derived.TacticsInMore
import Derived.LoopNIn
import Derived.LoopIn
namespace Go.Proofs.YtjkggidcheagpaaGreat
open Go.RowKit Go.WideShapes
attribute [local go_sem] Oper.semAt_some

theorem backward7_new (w : World) (a : Option Addr) (n c : Nat) : Calls Tryz.prog 21 #[.slice a n c] w fun e w' => e = .returned (.func (.func 53) #[] #[.pointer (some ⟨w.heap.size, 0, none⟩)]) ∧ w' = w.alloc (.cells #[.slice a n c] 37) := by
  have hmf : ∀ (fn : Fn) (first cap : Array Value) (w : World), (Instr.makeFunc fn first cap).run Tryz.prog w = .ok (.func fn first cap) w := fun _ _ _ _ => rfl
  go_enter Tryz.func21, Tryz.ntmps21
  go_wp2
  go_ret
  exact ⟨by simp, rfl⟩
set_option maxRecDepth 100000 in
set_option maxHeartbeats 4000000 in
theorem backward7_seq {es : List En} {v : Value} (b : Nat) (w : World) (hlen : es.length ≤ 100000) :
    SeqAt Tryz.prog 53 (fun l => #[.func (.yield l) #[] #[], .pointer (some ⟨b, 0, none⟩)]) (fun k => #[.int .i64 ((es.length - 1 - k : Nat) : Int), eV7 (nth es (es.length - 1 - k))]) es.length (fun W => Es W v es ∧ W.cell? ⟨b, 0, none⟩ = some v) w := by
  intro l J Jx W hB HJ0 HJX0 hKp hY0 J0
  have HJ := (show Hid _ from HJ0)
  have HY := (show Hid _ from hY0)
  obtain ⟨hE, hb⟩ := hKp 0 W J0
  obtain ⟨a, cap, ge, hv, hae, hro⟩ := hE.open
  subst hv
  have hcap := hro.le
  have HK : Hid (∀ k W1, J k W1 → W1.cell? ⟨b, 0, none⟩ = some (.slice a es.length cap)) := fun k W1 h => (hKp k W1 h).2
  have HAE : Hid (0 < es.length → a = some ⟨ge, 0, none⟩) := fun h => (hae h).1
  have HRO : Hid (∀ k W1, J k W1 → 0 < es.length → Ro W1 ge es.length cap es) := fun k W1 hJ hpos => by
    obtain ⟨a', cap', ge', hv', hae', hro'⟩ := (hKp k W1 hJ).1.open
    injection hv' with e1 e2 e3
    have h1 := (hae hpos).1
    have h2 := (hae' hpos).1
    rw [← e1, h1] at h2
    injection h2 with h2
    injection h2 with h2
    subst h2
    subst e3
    exact hro'
  have e0 : IntKind.i64.wrap ((es.length : Int) - 1) = (es.length : Int) - 1 := i64_small (by omega) (by omega)
  clear HJ0 HJX0 hY0 hKp hE hae hro
  refine callsIn_of_wp Tryz.func53 rfl trivial ?_ rfl
  simp only [Tryz.ntmps53, List.size_toArray, List.length_cons, List.length_nil, Nat.reduceAdd, Nat.reduceSub, Array.replicate_succ, Array.replicate_zero, List.push_toArray, List.append_toArray, List.nil_append, List.cons_append]
  gi_wp2_with fail
  gi_loopw [3] (fun iv wr => ∃ k : Nat, k ≤ es.length ∧ iv = .int .i64 ((es.length : Int) - 1 - (k : Int)) ∧ J k wr ∧ W.heap.size ≤ wr.heap.size) (fun iv _ => (intOf iv + 1).toNat)
  case atStart => exact ⟨0, Nat.zero_le _, by simp, J0, Nat.le_refl _⟩
  case round =>
    clear hb e0
    obtain ⟨k, hk, rfl, hJ, hsz⟩ := hrel
    by_cases hlt : k < es.length
    · obtain ⟨q, hq⟩ : ∃ q : Nat, (es.length : Int) - 1 - (k : Int) = (q : Int) := ⟨es.length - 1 - k, by omega⟩
      have hqn : es.length - 1 - k = q := by omega
      have hql : q < es.length := by omega
      rw [hq]
      have t0 : (0 : Int) ≤ (q : Int) := by omega
      have t1 : (q : Int) < (es.length : Int) := by omega
      have e1 : IntKind.i64.wrap ((q : Int) - 1) = (es.length : Int) - 1 - ((k + 1 : Nat) : Int) := by rw [i64_small (by omega) (by omega)]; omega
      have ha := HAE.out (by omega)
      subst ha
      have hR := HRO.out _ _ hJ (by omega)
      have cb := HK.out _ _ hJ
      have r0 := hR.c0 q hql
      have r1 := hR.c1 q hql
      have r2 := hR.c2 q hql
      have r3 := hR.c3 q hql
      have r4 := hR.c4 q hql
      obtain ⟨fn, tmps, assign, body, hy, hR2⟩ := HY.out k wr hlt hJ
      simp only [hqn, eV7] at hy hR2
      clear hR
      generalize (nth es q).live = y0 at *
      generalize (nth es q).hash = y1 at *
      generalize (nth es q).key = y2 at *
      generalize (nth es q).value = y3 at *
      generalize (nth es q).birth = y4 at *
      gi_wp2_with fail
      refine ⟨rfl, hR2.mono ?_⟩
      clear hR2 hy
      rintro e w5 (⟨rfl, hJ5, hK5⟩ | ⟨rfl, hX5⟩)
      · gi_wp2_with fail
        go_roundw
        case rel => exact ⟨k + 1, by omega, rfl, hJ5, Nat.le_trans hsz hK5.size⟩
        case measure => simp [intOf]; omega
      · gi_wp2
        refine bodyPost_ret (v := .tuple #[]) (by simp [results, Tryz.results53, go_sem]) rfl ?_
        exact ⟨⟨_, rfl⟩, .inr ⟨_, hlt, hX5⟩⟩
    · obtain rfl : k = es.length := by omega
      have t1 : ¬ (0 : Int) ≤ (es.length : Int) - 1 - (es.length : Int) := by omega
      gi_wp2
      go_end0
      exact ⟨⟨_, rfl⟩, .inl hJ⟩
/-- How many of the last k entries live. -/
def bkn (es : List En) (k : Nat) : Nat := (liveL es).length - (lvn es (es.length - k)).length
theorem bkn_zero (es : List En) : bkn es 0 = 0 := by
  unfold bkn
  rw [Nat.sub_zero, lvn_all]
  omega
theorem bkn_all (es : List En) : bkn es es.length = (liveL es).length := by
  unfold bkn
  rw [Nat.sub_self]
  simp [lvn]
theorem bkn_live {es : List En} {k : Nat} (hk : k < es.length) (hl : (nth es (es.length - 1 - k)).live = true) : bkn es k = (liveL es).length - 1 - (lvn es (es.length - 1 - k)).length ∧ bkn es (k + 1) = bkn es k + 1 := by
  obtain ⟨-, h2, h3⟩ := lvn_at es (i := es.length - 1 - k) (j := es.length) (by omega) hl
  rw [lvn_all] at h2
  have e1 : es.length - k = es.length - 1 - k + 1 := by omega
  have e2 : es.length - (k + 1) = es.length - 1 - k := by omega
  unfold bkn
  rw [e1, e2, h3]
  omega
theorem bkn_dead {es : List En} {k : Nat} (hk : k < es.length) (hl : (nth es (es.length - 1 - k)).live = false) : bkn es (k + 1) = bkn es k := by
  have e1 : es.length - k = es.length - 1 - k + 1 := by omega
  have e2 : es.length - (k + 1) = es.length - 1 - k := by omega
  unfold bkn
  rw [e1, e2, lvn_dead es hl]
/-- The way back, k of the entries gone through. -/
structure Gk (W : World) (v : Gv) (stop : Int) (lv nv ev : Value) (es : List En) (k : Nat) (V : World) : Prop where
  g : Gt V v true stop lv nv (bkn es k) false
  e : Ex v.X W V
  y : V.cell? ⟨W.heap.size, 0, none⟩ = some (yiV7 v)
  c : V.cell? ⟨W.heap.size + 1, 0, none⟩ = some ev
theorem Ex.then7 {X : Nat → Prop} {B : Nat} {a b c : World} (x : Ex X a b) (y : Below B b c) (h : a.heap.size ≤ B) : Ex X a c :=
  ⟨y.os.trans x.os, y.tape.trans x.tape, y.output.trans x.output, Nat.le_trans x.size y.size, fun i hi hx => (y.block i (by omega)).trans (x.block i hi hx)⟩
set_option maxRecDepth 100000 in
set_option maxHeartbeats 8000000 in
theorem back1_goes {W : World} {v : Gv} {stop : Int} {lv nv ev : Value} {es : List En} {b : Nat} (hL : Gl W v lv nv es) (hG : Gt W v true stop lv nv 0 false) (hb : W.cell? ⟨b, 0, none⟩ = some ev) (hev : Es W ev es) (xe : ∀ k, ev.ownBlock = some k → ¬ v.X k) :
    Calls Tryz.prog 20 #[yiV7 v, .pointer (some ⟨b, 0, none⟩)] W fun e w' => e = .returned (.tuple #[]) ∧ Ex v.X W w' ∧ Gfin w' v true stop lv nv (liveL es).length := by
  obtain ⟨a, cap, ge, hv, hae, hro⟩ := hev.open
  subst hv
  have hlen := hL.len
  have hGX : ∀ j, v.X j → j < W.heap.size := fun j hj => hG.lt j (by rcases hj with e | e | e <;> simp [Gv.In, e])
  obtain ⟨W1, hW1⟩ : ∃ W1, W.alloc (.cells #[yiV7 v] 64) = W1 := ⟨_, rfl⟩
  have hs1 : W1.heap.size = W.heap.size + 1 := by rw [← hW1]; simp
  have hb1 : Below W.heap.size W W1 := by rw [← hW1]; exact (Below.refl _ W).alloc (Nat.le_refl _) _
  have hy1 : W1.cell? ⟨W.heap.size, 0, none⟩ = some (yiV7 v) := by rw [← hW1]; exact World.cell?_alloc_at _ _ _ _ rfl
  have CB := backward7_new W1 a es.length cap
  have hlb := lt_of_cell hb
  have HL := Lib.hid hL
  have HG := Lib.hid hG
  have HEV := Lib.hid hev
  have HXE := Lib.hid xe
  have HGX := Lib.hid hGX
  have HB1 := Lib.hid hb1
  have HY1 := Lib.hid hy1
  have HS1 := Lib.hid hs1
  clear hL hG hev xe hGX hb1 hy1 hs1 hae hro
  unfold yiV7 at hW1 ⊢
  refine callsIn_wide.1 (callsIn_of_wp_marks (n := 0) Tryz.func20 rfl trivial ?_ rfl)
  simp only [Tryz.ntmps20, List.size_toArray, List.length_cons, List.length_nil, Nat.reduceAdd, Nat.reduceSub, Array.replicate_succ, Array.replicate_zero, List.push_toArray, List.append_toArray, List.nil_append, List.cons_append]
  have HW1 := Lib.hid hW1
  clear hW1
  gi_wp2_with fail
  rw [HW1.out]
  refine ⟨trivial, rfl, (callsIn_wide.2 CB).mono ?_⟩
  rintro e w3 ⟨rfl, hw3⟩
  clear CB hb HW1
  have hb3 : Below W1.heap.size W1 w3 := by rw [hw3]; exact (Below.refl _ W1).alloc (Nat.le_refl _) _
  have hc3 : w3.cell? ⟨W.heap.size + 1, 0, none⟩ = some (.slice a es.length cap) := by rw [hw3]; exact World.cell?_alloc_at _ _ _ _ HS1.out.symm
  have hs3 : w3.heap.size = W.heap.size + 2 := by rw [hw3]; simp [HS1.out]
  have hbw3 : Below W.heap.size W w3 := HB1.out.trans (hb3.mono HB1.out.size)
  have hG0 : Gk W v stop lv nv (.slice a es.length cap) es 0 w3 := ⟨by rw [bkn_zero]; exact HG.out.below hbw3, ex_of hbw3, cell_keep7 HY1.out hb3, hc3⟩
  have HSQ := Lib.hid (backward7_seq (v := .slice a es.length cap) (W.heap.size + 1) w3 hlen)
  have HG0 := Lib.hid hG0
  have HS3 := Lib.hid hs3
  have hwx : W1.heap.size = W.heap.size + 1 := HS1.out
  rw [hwx]
  clear hw3 hb3 hc3 hs3 hbw3 hG0 hwx
  have HST : Hid (∀ k V V', Gk W v stop lv nv (.slice a es.length cap) es k V → Below w3.heap.size V V' → Gk W v stop lv nv (.slice a es.length cap) es k V') := by
    rintro k V V' ⟨x1, x2, x3, x4⟩ hb
    have hs := HS3.out
    exact ⟨x1.same (fun j hj => hb.block j (by have := HG.out.lt j hj; omega)), x2.then7 hb (by omega), (World.cell?_of_block (a := ⟨W.heap.size, 0, none⟩) (hb.block W.heap.size (by omega))).trans x3, (World.cell?_of_block (a := ⟨W.heap.size + 1, 0, none⟩) (hb.block (W.heap.size + 1) (by omega))).trans x4⟩
  gi_wp2_with fail
  refine wpIn_range_box (fun l => { target := .fn (.func 53) #[.pointer (some ⟨W.heap.size + 1, 0, none⟩)], args := #[.func (.yield l) #[] #[]] }) (fun l W => by simp [resolve, Deferred.ofValue, go_sem, Act.eval]) (fun l W => by simp [invoke, go_sem, Tryz.call53])
    HSQ.out (fun _ => rfl) (fun k V => Gk W v stop lv nv (.slice a es.length cap) es k V) (fun c _ V => c = .ret ∧ Ex v.X W V ∧ ∃ m, Gt V v true stop lv nv m true ∧ (m : Int) = stop ∧ 0 < m) (fun k V V' h hb => HST.out k V V' h hb)
    (fun c k V V' h hb => ⟨h.1, h.2.1.then7 hb (by have := HS3.out; omega), h.2.2.imp (fun m hm => ⟨hm.1.same (fun j hj => hb.block j (by have := HG.out.lt j hj; have := HS3.out; omega)), hm.2⟩)⟩) (fun k V h => ⟨HEV.out.same (fun j hj => h.e.block j (HEV.out.lt j hj) (HXE.out j hj)), h.c⟩) HG0.out
    (fun k a' V => ∃ bx, w3.heap.size + 2 ≤ bx ∧ Gk W v stop lv nv (.slice a es.length cap) es k V ∧ Ce V bx 0 (nth es (es.length - 1 - k)).live (nth es (es.length - 1 - k)).hash (nth es (es.length - 1 - k)).key (nth es (es.length - 1 - k)).value (nth es (es.length - 1 - k)).birth ∧ a' = { tmps := #[yiV7 v, .pointer (some ⟨b, 0, none⟩), .pointer (some ⟨W.heap.size, 0, none⟩), .int .i64 ((es.length - 1 - k : Nat) : Int), .pointer (some ⟨bx, 0, none⟩), .slice a es.length cap, .func (.func 53) #[] #[.pointer (some ⟨W.heap.size + 1, 0, none⟩)], .int .i64 ((es.length - 1 - k : Nat) : Int), eV7 (nth es (es.length - 1 - k)), undef, undef, undef, undef, undef, undef, undef, undef, undef], defers := [] }) ?hA ?assign ?body ?done ?stop
  case hA =>
    rintro k a' V o ⟨bx, hbx, hI, hXx, ha⟩
    have kc : ∀ i, (V.putObj (w3.heap.size + 1) o).cell? ⟨bx, i, none⟩ = V.cell? ⟨bx, i, none⟩ := fun i => World.cell?_of_block (a := ⟨bx, i, none⟩) (World.putObj_heap_other (by show bx ≠ _; omega))
    exact ⟨bx, hbx, HST.out _ _ _ hI (below_put (by omega)), ⟨(kc _).trans hXx.1, (kc _).trans hXx.2.1, (kc _).trans hXx.2.2.1, (kc _).trans hXx.2.2.2.1, (kc _).trans hXx.2.2.2.2⟩, ha⟩
  case assign =>
    intro l k V K hsz hk hI hK
    simp only [eV7] at hK ⊢
    generalize nth es (es.length - 1 - k) = x at *
    obtain ⟨y0, y1, y2, y3, y4⟩ := x
    simp only at hK ⊢
    obtain ⟨V1, hV1⟩ : ∃ V1, V.alloc (.cells #[.bool y0, .int .i64 y1, .int .i64 y2, .int .i64 y3, .int .i64 y4] 66) = V1 := ⟨_, rfl⟩
    have hB1 : Below V.heap.size V V1 := by rw [← hV1]; exact (Below.refl _ V).alloc (Nat.le_refl _) _
    have hBk : Blk V1 V.heap.size 5 (fun j => #[Value.bool y0, .int .i64 y1, .int .i64 y2, .int .i64 y3, .int .i64 y4].getD j .nilFunc) := by rw [← hV1]; exact Blk.new V _ _
    have hKK := hK _ V1 ⟨V.heap.size, hsz, HST.out _ _ _ hI (hB1.mono (by omega)), ⟨hBk.c 0 (by omega), hBk.c 1 (by omega), hBk.c 2 (by omega), hBk.c 3 (by omega), hBk.c 4 (by omega)⟩, rfl⟩ hB1
    have HKK := Lib.hid hKK
    have HV1 := Lib.hid hV1
    clear hI hK hKK hB1 hBk hV1
    gi_wp2_with fail
    rw [HV1.out]
    exact HKK.out
  case body =>
    rintro l k a' V hk ⟨bx, hbx, hI, hXx, rfl⟩
    have hs3 := HS3.out
    have hyb := hI.y
    unfold yiV7 at hyb
    have hSV : ∀ W6, Ex v.X V W6 → Since w3.heap.size V W6 := fun W6 h => ⟨h.size, fun i h1 h2 => h.block i h2 (fun hx => by have := HGX.out i hx; omega)⟩
    have hVs : W.heap.size + 2 ≤ V.heap.size := by
      have h1 := lt_of_cell hI.c
      omega
    have HSV := Lib.hid hSV
    have HI := Lib.hid hI
    cases hlv : (nth es (es.length - 1 - k)).live with
    | true =>
      obtain ⟨b1, b2⟩ := bkn_live hk hlv
      have C := yield_any (i := es.length - 1 - k) HL.out hI.e hI.g (by omega) hlv (by rw [b1]; simp)
      rw [← b2] at C
      have HB2 : Hid (0 < bkn es (k + 1)) := by show _ < _; omega
      rw [hlv] at hXx
      unfold eV7 at C ⊢
      rw [hlv] at C ⊢
      clear hI hSV b1 b2 hlv
      generalize es.length - 1 - k = q at *
      generalize (nth es q).hash = y1 at *
      generalize (nth es q).key = y2 at *
      generalize (nth es q).value = y3 at *
      generalize (nth es q).birth = y4 at *
      obtain ⟨p0, p1, p2, p3, p4⟩ := hXx
      obtain ⟨bd, hbd⟩ : ∃ bd, decide (((bkn es (k + 1) : Nat) : Int) = stop) = bd := ⟨_, rfl⟩
      rw [hbd] at C
      have HBD := Lib.hid hbd
      clear hbd
      gi_wp2_with fail
      refine ⟨trivial, rfl, (CallsIn.inRound l (callsIn_wide.2 C)).mono ?_⟩
      rintro e W6 ⟨rfl, hg6, hx6⟩
      have HG6 := Lib.hid hg6
      have HS6 := Lib.hid (HSV.out W6 hx6)
      have HE6 := Lib.hid (HI.out.e.trans hx6)
      have HY6 : Hid (W6.cell? ⟨W.heap.size, 0, none⟩ = some (yiV7 v)) := (World.cell?_of_block (a := ⟨W.heap.size, 0, none⟩) (hx6.block W.heap.size (by omega) (fun h => by have := HGX.out _ h; omega))).trans HI.out.y
      have HC6 : Hid (W6.cell? ⟨W.heap.size + 1, 0, none⟩ = some (.slice a es.length cap)) := (World.cell?_of_block (a := ⟨W.heap.size + 1, 0, none⟩) (hx6.block (W.heap.size + 1) (by omega) (fun h => by have := HGX.out _ h; omega))).trans HI.out.c
      clear C hg6 hx6 p0 p1 p2 p3 p4 hyb
      cases bd with
      | true =>
        gi_wp2_with fail
        exact ⟨HS6.out, hk, rfl, HE6.out, _, HG6.out, of_decide_eq_true HBD.out, HB2.out⟩
      | false =>
        gi_wp2_with fail
        exact ⟨HS6.out, HG6.out, HE6.out, HY6.out, HC6.out⟩
    | false =>
      have HBK := Lib.hid (bkn_dead hk hlv)
      rw [hlv] at hXx
      unfold eV7
      rw [hlv]
      clear hI hSV hlv
      generalize es.length - 1 - k = q at *
      generalize (nth es q).hash = y1 at *
      generalize (nth es q).key = y2 at *
      generalize (nth es q).value = y3 at *
      generalize (nth es q).birth = y4 at *
      obtain ⟨p0, p1, p2, p3, p4⟩ := hXx
      gi_wp2_with fail
      refine ⟨fun _ h => (by cases h), ?_⟩
      gi_wp2_with fail
      exact ⟨⟨Nat.le_refl _, fun _ _ _ => rfl⟩, by rw [HBK.out]; exact HI.out.g, HI.out.e, HI.out.y, HI.out.c⟩
  case done =>
    rintro V ⟨x1, x2, x3, x4⟩ hK
    rw [bkn_all] at x1
    have H1 := Lib.hid x1
    have H2 := Lib.hid x2
    clear x1 x2 x4
    gi_wp2_with fail
    have hs := HS3.out
    refine ⟨by simp, .inl ⟨_, _, rfl, run_takeDeferred hK, ?_⟩⟩
    refine ⟨_, results_none rfl _ _ _, rfl, ?_⟩
    have hbp : Below w3.heap.size V (V.putObj w3.heap.size (.deferred none)) := below_put (by omega)
    exact ⟨H2.out.then7 hbp (by omega), ⟨_, false, H1.out.same (fun j hj => hbp.block j (by have := HG.out.lt j hj; omega)), Or.inl ⟨rfl, rfl⟩⟩⟩
  case stop =>
    rintro c k V hk ⟨rfl, x2, m, x1, x3, x4⟩ hK
    have H1 := Lib.hid x1
    have H2 := Lib.hid x2
    clear x1 x2
    gi_wp2_with fail
    have hs := HS3.out
    refine ⟨by simp, .inl ⟨_, _, rfl, run_takeDeferred hK, ?_⟩⟩
    refine ⟨_, results_none rfl _ _ _, rfl, ?_⟩
    have hbp : Below w3.heap.size V (V.putObj w3.heap.size (.deferred none)) := below_put (by omega)
    exact ⟨H2.out.then7 hbp (by omega), ⟨m, true, H1.out.same (fun j hj => hbp.block j (by have := HG.out.lt j hj; omega)), Or.inr ⟨rfl, x3, x4⟩⟩⟩
end Go.Proofs.YtjkggidcheagpaaGreat
