/-
  The reference's Add.
-/
import Derived.Test.YtejfmajbggmghaaGreatTfAll
import Derived.Test.YtejfmajbggmghaaGreatEnStep
import Derived.Deep.RegionHeld3
namespace Go.Proofs.YtejfmajbggmghaaGreat
open Go.RowKit Go.WideShapes

/-- What a call on a table may turn. -/
def tX (g : Nat) (ev : Value) (q : Nat) (mv : Value) (k : Nat) : Prop := k = g ∨ k = q ∨ ev.ownBlock = some k ∨ mB mv k
/-- Where Add stands when there is room: the table t1, out of which push makes what add makes of t. -/
structure Ta (w : World) (g : Nat) (ev : Value) (q : Nat) (t : Tb) (mv : Value) (a b c d u k v : Int) (w1 : World) (ev1 : Value) (q1 : Nat) (t1 : Tb) : Prop where
  rt : Rt w1 g ev1 q1 t1 mv
  ok : t1.Ok
  room : t1.es.length < rm (2 ^ t1.L)
  eq : t.add u k v = t1.push u k v
  ms : Ms w1 mv (a + (t1.made - t.made : Nat)) b c d
  bi : t1.births = t.births
  tu : t1.turn = t.turn
  qf : q1 = q ∨ w.heap.size ≤ q1
  ef : ∀ j, ev1.ownBlock = some j → ev.ownBlock = some j ∨ w.heap.size ≤ j
  ex : Ex (tX g ev q mv) w w1
/-- The head of the table behind Add's four stores. -/
def addW (w5 : World) (g : Nat) (ev2 : Value) (t1 : Tb) : World := (((w5.setCell ⟨g, 0, none⟩ ev2).setCell ⟨g, 4, none⟩ (.int .i64 ((t1.births : Int) + 1))).setCell ⟨g, 3, none⟩ (.int .i64 ((t1.live : Int) + 1))).setCell ⟨g, 6, none⟩ (.int .i64 ((t1.turn : Int) + 1))
theorem addW_other (w5 : World) (g : Nat) (ev2 : Value) (t1 : Tb) (j : Nat) (hj : j ≠ g) : (addW w5 g ev2 t1).heap[j]? = w5.heap[j]? := by
  unfold addW
  rw [Below.heap_setCell _ _ _ _ hj, Below.heap_setCell _ _ _ _ hj, Below.heap_setCell _ _ _ _ hj, Below.heap_setCell _ _ _ _ hj]
theorem add_fin {w : World} {g : Nat} {ev : Value} {q : Nat} {t : Tb} {mv : Value} {a b c d u k v : Int} {w1 : World} {ev1 : Value} {q1 : Nat} {t1 : Tb} (hT : Ta w g ev q t mv a b c d u k v w1 ev1 q1 t1) {o : Obj} {w5 : World} {ev2 : Value}
    (hown : w5.ownsRow 0 48 5 ev2 (t1.es.length + 1) (enl t1.es ++ enc5 ⟨true, u, k, v, (t1.births : Int)⟩)) (hgrow : (w1.drew.alloc o).grownBy w5 ev1.ownBlock) (hat : ev2.ownBlock = ev1.ownBlock ∨ ev2.ownBlock = some (w1.drew.alloc o).heap.size) :
    Blk w5 g 8 (tF ev1 q1 t1 mv) ∧ ∃ i, IsF t1.c (uw u) t1.L i ∧ i < 2 ^ t1.L + 13 ∧ Rf (addW w5 g ev2 t1) q1 (2 ^ t1.L) t1.c ∧
      (addW w5 g ev2 t1).cell? ⟨g, 1, none⟩ = some (.int .i64 (t1.L : Int)) ∧ (addW w5 g ev2 t1).cell? ⟨g, 2, none⟩ = some (.slice (some ⟨q1, 0, none⟩) (2 ^ t1.L) (2 ^ t1.L)) ∧
      Rt ((addW w5 g ev2 t1).setCell ⟨q1, trl (uw u) t1.L i, none⟩ (.int .i64 (t1.es.length : Int))) g ev2 q1 (t1.push u k v) mv ∧
      Ms ((addW w5 g ev2 t1).setCell ⟨q1, trl (uw u) t1.L i, none⟩ (.int .i64 (t1.es.length : Int))) mv (a + (t1.made - t.made : Nat)) b c d ∧
      Ex (tX g ev q mv) w ((addW w5 g ev2 t1).setCell ⟨q1, trl (uw u) t1.L i, none⟩ (.int .i64 (t1.es.length : Int))) ∧ (∀ j, ev2.ownBlock = some j → ev.ownBlock = some j ∨ w.heap.size ≤ j) := by
  have hR := hT.rt
  have hgq := hR.gq
  have lg := hR.hd.lt (by omega)
  have lq := hR.rf.lt (pow2_pos _)
  have hblk : ∀ j, j < w1.heap.size → ev1.ownBlock ≠ some j → w5.heap[j]? = w1.heap[j]? := fun j hj hne => (hgrow.block j (by simp; exact Nat.lt_succ_of_lt hj) (fun e => hne e.symm)).trans (Below.heap_alloc _ _ _ hj)
  have hB5 : Blk w5 g 8 (tF ev1 q1 t1 mv) := hR.hd.same (hblk g lg (fun e => (hR.ap g e).1 rfl))
  have hR5 : Rf w5 q1 (2 ^ t1.L) t1.c := hR.rf.same (hblk q1 lq (fun e => (hR.ap q1 e).2 rfl))
  have hsz : w1.heap.size ≤ w5.heap.size := by have := hgrow.size; simp at this; exact Nat.le_of_succ_le this
  have hB7 : Blk (addW w5 g ev2 t1) g 8 (tF ev2 q1 (t1.push u k v) mv) := ((((hB5.put 0 ev2).put 4 (.int .i64 ((t1.births : Int) + 1))).put 3 (.int .i64 ((t1.live : Int) + 1))).put 6 (.int .i64 ((t1.turn : Int) + 1))).congr (fun j hj => by
    have : j = 0 ∨ j = 1 ∨ j = 2 ∨ j = 3 ∨ j = 4 ∨ j = 5 ∨ j = 6 ∨ j = 7 := by omega
    rcases this with rfl | rfl | rfl | rfl | rfl | rfl | rfl | rfl
    · rfl
    · rfl
    · rfl
    · show Value.int .i64 (((t1.push u k v).live : Nat) : Int) = Value.int .i64 ((t1.live : Int) + 1)
      rw [Tb.live_push, Int.natCast_add]
      rfl
    · show Value.int .i64 (((t1.births + 1 : Nat)) : Int) = Value.int .i64 ((t1.births : Int) + 1)
      rw [Int.natCast_add]
      rfl
    · rfl
    · show Value.int .i64 (((t1.turn + 1 : Nat)) : Int) = Value.int .i64 ((t1.turn : Int) + 1)
      rw [Int.natCast_add]
      rfl
    · rfl)
  have hap2 : ∀ j, ev2.ownBlock = some j → (ev1.ownBlock = some j ∨ w1.heap.size ≤ j) := by
    intro j hj
    rcases hat with e | e
    · exact .inl (e ▸ hj)
    · rw [e] at hj
      cases hj
      exact .inr (by simp)
  have hngq : ∀ j, ev2.ownBlock = some j → j ≠ g ∧ j ≠ q1 := by
    intro j hj
    rcases hap2 j hj with e | e
    · exact hR.ap j e
    · exact ⟨by omega, by omega⟩
  have hR7 : Rf (addW w5 g ev2 t1) q1 (2 ^ t1.L) t1.c := hR5.same (addW_other _ _ _ _ _ (fun e => hgq e.symm))
  have hE5 : Es w5 ev2 (t1.es ++ [⟨true, u, k, v, (t1.births : Int)⟩]) := (EsB.snoc hown).es
  obtain ⟨i, hil, hif⟩ := hT.ok.inv.first u
  have hm1 := hT.ms.lt
  have h8 : ∀ j, j ≠ q1 → ((addW w5 g ev2 t1).setCell ⟨q1, trl (uw u) t1.L i, none⟩ (.int .i64 (t1.es.length : Int))).heap[j]? = (addW w5 g ev2 t1).heap[j]? := fun j hj => Below.heap_setCell _ _ _ _ hj
  refine ⟨hB5, i, hif, hil, hR7, hB7.c 1 (by omega), hB7.c 2 (by omega), ?_, ?_, ?_, ?_⟩
  · refine ⟨hB7.same (h8 g hgq), hE5.same fun j hj => ?_, ?_, hngq, hR.sz, fun j hj => ⟨(hR.mp j hj).1, (hR.mp j hj).2.1, fun e => ?_⟩⟩
    · obtain ⟨x1, x2⟩ := hngq j hj
      rw [h8 j x2, addW_other _ _ _ _ _ x1]
    · show Rf _ q1 (2 ^ t1.L) (layc t1.c t1.L u t1.es.length)
      rw [layc, fidx_eq hif]
      exact hR7.put _ (trl_lt _ _ _) _
    · rcases hap2 j e with x | x
      · exact (hR.mp j hj).2.2 x
      · have := hm1 j hj; omega
  · refine hT.ms.same fun j hj => ?_
    obtain ⟨x1, x2, x3⟩ := hR.mp j hj
    rw [h8 j x2, addW_other _ _ _ _ _ x1, hblk j (hm1 j hj) x3]
  · have x1 : Ex (tX g ev q mv) w w5 := ⟨hgrow.os.trans hT.ex.os, hgrow.tape.trans hT.ex.tape, hgrow.output.trans hT.ex.output, Nat.le_trans hT.ex.size hsz, fun j hj hx => (hblk j (Nat.lt_of_lt_of_le hj hT.ex.size) (fun e => by
      rcases hT.ef j e with y | y
      · exact hx (.inr (.inr (.inl y)))
      · omega)).trans (hT.ex.block j hj hx)⟩
    unfold addW
    refine ((((x1.setCell (p := ⟨g, 0, none⟩) (fun _ => .inl rfl) _).setCell (p := ⟨g, 4, none⟩) (fun _ => .inl rfl) _).setCell (p := ⟨g, 3, none⟩) (fun _ => .inl rfl) _).setCell (p := ⟨g, 6, none⟩) (fun _ => .inl rfl) _).setCell (p := ⟨q1, trl (uw u) t1.L i, none⟩) (fun hq => ?_) _
    rcases hT.qf with e | e
    · exact .inr (.inl e)
    · exact absurd hq (Nat.not_lt.2 e)
  · intro j hj
    rcases hap2 j hj with e | e
    · exact hT.ef j e
    · exact .inr (Nat.le_trans hT.ex.size e)
set_option maxRecDepth 100000 in
set_option maxHeartbeats 8000000 in
theorem radd_any {w : World} {g : Nat} {ev : Value} {q : Nat} {t : Tb} {mv : Value} {a b c d : Int} (hR : Rt w g ev q t mv) (hO : t.Ok) (hM : Ms w mv a b c d) (hm : t.made ≤ 1000000) (ha : 0 ≤ a ∧ a ≤ 1000000000) (ht : t.turn ≤ 1000000) (hb : t.births < 100000) (u k v : Int) :
    Calls Tryz.prog 85 #[.pointer (some ⟨g, 0, none⟩), .int .i64 u, .int .i64 k, .int .i64 v] w fun e w' => e = .returned (.tuple #[.int .i64 (((t.add u k v).es.length - 1 : Nat) : Int), .int .i64 0]) ∧ ∃ ev' q', (q' = q ∨ w.heap.size ≤ q') ∧ (∀ j, ev'.ownBlock = some j → ev.ownBlock = some j ∨ w.heap.size ≤ j) ∧ Rt w' g ev' q' (t.add u k v) mv ∧ Ms w' mv (a + ((t.add u k v).made - t.made : Nat)) b c d ∧ Ex (tX g ev q mv) w w' := by
  obtain ⟨i0, hi, hz0, hz1, hz2⟩ := info_parts Tryz.infoEn
  have f0 : w.cell? ⟨g, 0, none⟩ = some ev := hR.hd.c 0 (by omega)
  have f1 : w.cell? ⟨g, 1, none⟩ = some (.int .i64 (t.L : Int)) := hR.hd.c 1 (by omega)
  obtain ⟨ae, cape, ge, ev1, _, hro⟩ := hR.es.open
  have hcap := hro.le
  subst ev1
  have hlen : t.es.length ≤ 100000 := Nat.le_trans hO.few hO.all
  have CR := rroom_any (L := t.L) (S := 2 ^ t.L) ⟨rfl, hO.sz.1, hO.sz.2⟩ w.drew
  clear hro
  go_enter Tryz.func85, Tryz.ntmps85
  go_wp2_with fail
  go_region_held3 (fun V => V.cell? ⟨g, 0, none⟩ = some (.slice ae t.es.length cape) ∧ V.cell? ⟨g, 1, none⟩ = some (.int .i64 (t.L : Int)))
    (first | exact ⟨f0, f1⟩ | fail)
    (first | (go_at_call 101; refine CR.mono ?_; rintro e w2 ⟨rfl, rfl⟩) | fail)
  clear CR f0 f1
  have hlv : t.live ≤ 100000 := Nat.le_trans t.live_le hlen
  by_cases hf : t.es.length < rm (2 ^ t.L)
  case' pos =>
    have hfd : decide (rm (2 ^ t.L) ≤ t.es.length) = false := decide_eq_false (by omega)
    have HT : Hid (Ta w g (.slice ae t.es.length cape) q t mv a b c d u k v w.drew (.slice ae t.es.length cape) q t) := ⟨hR.below (Below.refl _ w).drew, hO, hf, by unfold Tb.add; rw [if_pos hf], by rw [Nat.sub_self, Int.natCast_zero, Int.add_zero]; exact hM.below (Below.refl _ w).drew, rfl, rfl, .inl rfl, fun j hj => .inl hj, (Ex.refl _ w).drew⟩
    clear hR hO hM hf hcap
    rw [hfd]
    go_upto_region 8 with fail
    generalize hW1 : w.drew = w1 at HT ⊢
    obtain ⟨ev1, hev1⟩ : ∃ x, Value.slice ae t.es.length cape = x := ⟨_, rfl⟩
    obtain ⟨t1, q1, HT⟩ : ∃ t1 q1, Hid (Ta w g (.slice ae t.es.length cape) q t mv a b c d u k v w1 ev1 q1 t1) := ⟨t, q, by rw [← hev1]; exact HT⟩
    clear hW1 hev1
  case' neg =>
    have hfd : decide (rm (2 ^ t.L) ≤ t.es.length) = true := decide_eq_true (by omega)
    have HR0 := Lib.hid hR
    have HM0 := Lib.hid hM
    have HO := Lib.hid hO
    have HF := Lib.hid hf
    have f3 : w.cell? ⟨g, 3, none⟩ = some (.int .i64 (t.live : Int)) := hR.hd.c 3 (by omega)
    have hlg := hR.hd.lt (by omega)
    obtain ⟨hg1, hg2, hg3⟩ := glog_ok (n := t.live) (by omega)
    have hgr := grow_room (n := t.live) (by omega)
    clear hR hO hM hf hcap
    rw [hfd]
    go_wp2_with fail
    go_loopw [10] (fun lv wr => ∃ l : Nat, 3 ≤ l ∧ l ≤ 20 ∧ lv = .int .i64 (l : Int) ∧ (∀ j, 3 ≤ j → j < l → 2 ^ j < 3 * t.live) ∧ Below w.heap.size w wr) (fun lv _ => 21 - (intOf lv).toNat)
    case atStart => exact ⟨3, by omega, by omega, rfl, fun j h1 h2 => absurd h2 (by omega), (Below.refl _ w).drew⟩
    case' round =>
      obtain ⟨l, hl3, hl20, rfl, hlj, hBl⟩ := hrel
      have f3r := (hBl.cell (p := ⟨g, 3, none⟩) hlg).trans f3
      have hP : 2 ^ l ≤ 1048576 := Nat.le_trans (Nat.pow_le_pow_right (n := 2) (by decide) hl20) (by decide)
      have e1 : IntKind.i64.wrap ((2 : Int) ^ l) = ((2 ^ l : Nat) : Int) := by
        rw [show ((2 : Int) ^ l) = ((2 ^ l : Nat) : Int) by push_cast; rfl]
        generalize 2 ^ l = P at hP
        exact i64_small (by omega) (by omega)
      have e2 : IntKind.i64.wrap (3 * (t.live : Int)) = 3 * (t.live : Int) := i64_small (by omega) (by omega)
      have HLJ := Lib.hid hlj
      have HPP : Hid (2 ^ l = 2 ^ l) := rfl
      by_cases hc : 2 ^ l < 3 * t.live
      case' pos =>
        have hl19 : l < 20 := by
          rcases Nat.lt_or_ge l 20 with z | z
          · exact z
          · have h20' : (2 : Nat) ^ 20 = 1048576 := by decide
            rw [show l = 20 by omega] at hc
            omega
        have HL2 : Hid (∀ j, 3 ≤ j → j < l + 1 → 2 ^ j < 3 * t.live) := fun j h1 h2 => by
          rcases Nat.lt_or_ge j l with z | z
          · exact HLJ.out j h1 z
          · rw [show j = l by omega]; exact hc
        generalize 2 ^ l = P at e1 hP hc HPP
        have hc' : (P : Int) < 3 * (t.live : Int) := by omega
        clear hc hlj
        go_upto_region 3 with fail
        go_region_held3 (fun V => V.cell? ⟨g, 3, none⟩ = some (.int .i64 (t.live : Int))) (first | exact f3r | fail) (fail)
        go_wp2_with fail
        go_roundw
        case rel => exact ⟨l + 1, by omega, by omega, by go_num, HL2.out, hBl.drew⟩
        case measure => simp [intOf]; omega
      case' neg =>
        have hgl := glog_eq (n := t.live) (by omega) hl3 hc HLJ.out
        generalize hPx : 2 ^ l = P at e1 hP hc HPP
        have hc' : ¬ (P : Int) < 3 * (t.live : Int) := by omega
        have hBd := hBl.drew
        have CA := rall7_any (log := l) (HR0.out.below hBd) (HM0.out.below hBd) hm ha hlen hl3 hl20 (by rw [← hgl]; omega)
        have HGL := Lib.hid hgl
        have HPX := Lib.hid hPx
        clear hc hlj hgl hPx
        go_upto_region 3 with fail
        go_region_held3 (fun V => V.cell? ⟨g, 3, none⟩ = some (.int .i64 (t.live : Int))) (first | exact f3r | fail) (fail)
        have i20 : ¬ 20 < (l : Int) := by omega
        go_wp2_with fail
        refine CA.mono ?_
        rintro e w1 ⟨rfl, ev1, q1, hq1, hef1, hRt1, hMs1, hEx1⟩
        clear CA
        have hszd := hBd.size
        have HT : Hid (Ta w g (.slice ae t.es.length cape) q t mv a b c d u k v w1 ev1 q1 (t.re l)) := ⟨hRt1, HO.out.re hl3 hl20 (by rw [← HGL.out]; omega), by show (liveL t.es).length < rm (2 ^ l); rw [← t.live_eq, ← HGL.out]; exact hgr, by unfold Tb.add; rw [if_neg HF.out, HGL.out], by rw [show (t.re l).made - t.made = 1 by show t.made + 1 - t.made = 1; omega]; exact hMs1, rfl, rfl, .inr (Nat.le_trans hszd hq1), fun j hj => .inr (Nat.le_trans hszd (hef1 j hj)), (ex_of hBd).next hEx1 (fun j _ hj => hj.elim (fun x => .inl x) (fun x => .inr (.inr (.inr x))))⟩
        clear hRt1 hMs1 hEx1 hq1 hef1 f3r
        go_upto_region 8 with fail
        obtain ⟨t1, HT⟩ : ∃ t1, Hid (Ta w g (.slice ae t.es.length cape) q t mv a b c d u k v w1 ev1 q1 t1) := ⟨_, HT⟩
  all_goals
    have hT := HT.out
    have hB := hT.rt.hd
    obtain ⟨a1, cap1, ge1, hev, _, hro1⟩ := hT.rt.es.open
    have hcap1 := hro1.le
    subst hev
    have f0 : w1.cell? ⟨g, 0, none⟩ = some (.slice a1 t1.es.length cap1) := hB.c 0 (by omega)
    have f4 : w1.cell? ⟨g, 4, none⟩ = some (.int .i64 (t1.births : Int)) := hB.c 4 (by omega)
    have z0 := hB.z 0
    have hlg := hB.lt (by omega)
    have hl1 : t1.es.length ≤ 100000 := Nat.le_trans hT.ok.few hT.ok.all
    have hown : w1.drew.ownsRow 0 48 5 (.slice a1 t1.es.length cap1) t1.es.length (enl t1.es) := hT.rt.es
    have NF : Hid (∀ j u', (enc5 ⟨true, u, k, v, (t1.births : Int)⟩)[j]? = some u' → (w1.drew.alloc (.cells #[.bool true, .int .i64 u, .int .i64 k, .int .i64 v, .int .i64 (t1.births : Int)] 48)).cell? (Addr.add ⟨w1.drew.heap.size, 0, none⟩ j) = some u') := new_five w1.drew ⟨true, u, k, v, (t1.births : Int)⟩ 48
    have HE5 : Hid ((enc5 ⟨true, u, k, v, (t1.births : Int)⟩).length = 5 ∧ ∀ u' ∈ enc5 ⟨true, u, k, v, (t1.births : Int)⟩, u'.oneCell' = true) := ⟨rfl, fun u' hu => enl_one [⟨true, u, k, v, (t1.births : Int)⟩] u' (by simpa [enl] using hu)⟩
    have HGB : Hid (∀ w5 : World, (w1.drew.alloc (.cells #[.bool true, .int .i64 u, .int .i64 k, .int .i64 v, .int .i64 (t1.births : Int)] 48)).grownBy w5 (Value.slice a1 t1.es.length cap1).ownBlock → ∀ j, j < w1.heap.size → (Value.slice a1 t1.es.length cap1).ownBlock ≠ some j → w5.heap[j]? = w1.heap[j]?) := fun w5 hgw j hj hne => (hgw.block j (by simp; exact Nat.lt_succ_of_lt hj) (fun e => hne e.symm)).trans (Below.heap_alloc _ _ _ hj)
    have HNG : Hid ((Value.slice a1 t1.es.length cap1).ownBlock ≠ some g) := fun e => (hT.rt.ap g e).1 rfl
    clear hT hro1
    go_upto_region 9 with fail
    go_region_law (refine step_append_own rfl _ _ 84 rfl 0 48 i0 (.agg #[.bool false, .int .i64 0, .int .i64 0, .int .i64 0, .int .i64 0]) 5 40 Tryz.underlying84 hi hz0 hz1 hz2 rfl (by decide) (.slice a1 t1.es.length cap1) t1.es.length (enl t1.es) (by simp [Act.eval]) (World.ownsRow.alloc hown _) ⟨w1.drew.heap.size, 0, none⟩ 1 1 (enc5 ⟨true, u, k, v, (t1.births : Int)⟩) (by simp [Act.eval]) HE5.out.1 NF.out HE5.out.2 (by unfold maxLen; omega) (by omega) (Nat.zero_le _) ?_; intro v' w5 hown2 hgrow hat; obtain ⟨a2, cap2, hv2⟩ := ownsRow_shape hown2; subst hv2; have hb5 := HGB.out w5 hgrow g hlg HNG.out; have g0 := (World.cell?_of_block (a := ⟨g, 0, none⟩) hb5).trans f0; have gz0 := (World.frozen?_of_block (a := ⟨g, 0, none⟩) hb5).trans z0)
    all_goals
      obtain ⟨hB5, i, hif, hil, hR7, k1, k2, hRt, hMs, hEx, hEf⟩ := add_fin HT.out hown2 hgrow hat
      have CL := rlay_any (n := (t1.es.length : Int)) ⟨rfl, HT.out.ok.sz.2⟩ k1 k2 hR7 u hif hil
      have x4 : w5.cell? ⟨g, 4, none⟩ = some (.int .i64 (t1.births : Int)) := hB5.c 4 (by omega)
      have x3 : w5.cell? ⟨g, 3, none⟩ = some (.int .i64 (t1.live : Int)) := hB5.c 3 (by omega)
      have x6 : w5.cell? ⟨g, 6, none⟩ = some (.int .i64 (t1.turn : Int)) := hB5.c 6 (by omega)
      have y4 := hB5.z 4
      have y3 := hB5.z 3
      have y6 := hB5.z 6
      have hbi := HT.out.bi
      have htu := HT.out.tu
      have hlv1 := t1.live_le
      have e4 : IntKind.i64.wrap ((t1.births : Int) + 1) = (t1.births : Int) + 1 := i64_small (by omega) (by omega)
      have e3 : IntKind.i64.wrap ((t1.live : Int) + 1) = (t1.live : Int) + 1 := i64_small (by omega) (by omega)
      have e6 : IntKind.i64.wrap ((t1.turn : Int) + 1) = (t1.turn : Int) + 1 := i64_small (by omega) (by omega)
      have HN : Hid ((t.add u k v).es.length - 1 = t1.es.length) := by
        show _ = _
        rw [HT.out.eq]
        show (t1.es ++ [_]).length - 1 = _
        simp
      have HMD : Hid ((t.add u k v).made = t1.made) := by
        show _ = _
        rw [HT.out.eq]
        rfl
      have HRT : Hid (Rt ((addW w5 g (.slice a2 (t1.es.length + 1) cap2) t1).setCell ⟨q1, trl (uw u) t1.L i, none⟩ (.int .i64 (t1.es.length : Int))) g (.slice a2 (t1.es.length + 1) cap2) q1 (t.add u k v) mv) := by
        show Rt _ _ _ _ _ _
        rw [HT.out.eq]
        exact hRt
      have HMS := Lib.hid hMs
      have HEX := Lib.hid hEx
      have HEF := Lib.hid hEf
      have HQF := Lib.hid HT.out.qf
      clear hown2 hgrow hat hB5 hif hil hR7 k1 k2 hRt hMs hEx hEf f0 f4 z0 hbi htu
      unfold addW at *
      go_upto_region 13 with fail
      generalize World.setCell (World.setCell (World.setCell (World.setCell w5 _ _) _ _) _ _) _ _ = w7 at *
      clear x4 x3 x6 y4 y3 y6 g0 gz0
      generalize World.setCell _ _ _ = w8 at *
      go_wp2_with fail
      refine CL.mono ?_
      rintro e w9 ⟨rfl, rfl⟩
      clear CL
      go_wp2
      go_ret2
      refine ⟨by rw [HN.out]; rfl, _, q1, HQF.out, HEF.out, HRT.out, ?_, HEX.out⟩
      rw [HMD.out]
      exact HMS.out
end Go.Proofs.YtejfmajbggmghaaGreat
