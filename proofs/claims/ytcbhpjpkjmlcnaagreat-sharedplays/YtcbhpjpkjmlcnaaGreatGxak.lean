/-
  The reference's Add.
  The reference's Put, Kill, At, Clear.
  The reference's All and Numbers; two lists of entries that are the same.
-/
import Derived.Test.YtcbhpjpkjmlcnaaGreatGxaj
import Derived.Test.YtcbhpjpkjmlcnaaGreatGxab
import Derived.Deep.RegionHeld3
namespace Go.Proofs.YtcbhpjpkjmlcnaaGreat
open Go.RowKit Go.WideShapes

/-- What a call on a table may turn. -/
def tX (g : Nat) (ev : Value) (q : Nat) (mv : Value) (k : Nat) : Prop := k = g ∨ k = q ∨ ev.ownBlock = some k ∨ mB mv k
/-- Where Add stands when there is room: the table t1, out of which push makes what add makes of t. -/
structure Ta (w : World) (g : Nat) (ev : Value) (q : Nat) (t : Tb) (mv : Value) (a b c d u k v : Int) (w1 : World) (ev1 : Value) (q1 : Nat) (t1 : Tb) : Prop where
  rt : Rt w1 g ev1 q1 t1 mv
  ok : t1.Ok
  room : t1.es.length < rm (2 ^ t1.L)
  eq : t.add u k v = t1.push u k v
  ms : Ms w1 mv (a + (t1.made - t.made : Nat)) b c d
  bi : t1.births = t.births
  tu : t1.turn = t.turn
  qf : q1 = q ∨ w.heap.size ≤ q1
  ef : ∀ j, ev1.ownBlock = some j → ev.ownBlock = some j ∨ w.heap.size ≤ j
  ex : Ex (tX g ev q mv) w w1
/-- The head of the table behind Add's four stores. -/
def addW (w5 : World) (g : Nat) (ev2 : Value) (t1 : Tb) : World := (((w5.setCell ⟨g, 0, none⟩ ev2).setCell ⟨g, 4, none⟩ (.int .i64 ((t1.births : Int) + 1))).setCell ⟨g, 3, none⟩ (.int .i64 ((t1.live : Int) + 1))).setCell ⟨g, 6, none⟩ (.int .i64 ((t1.turn : Int) + 1))
theorem addW_other (w5 : World) (g : Nat) (ev2 : Value) (t1 : Tb) (j : Nat) (hj : j ≠ g) : (addW w5 g ev2 t1).heap[j]? = w5.heap[j]? := by
  unfold addW
  rw [Below.heap_setCell _ _ _ _ hj, Below.heap_setCell _ _ _ _ hj, Below.heap_setCell _ _ _ _ hj, Below.heap_setCell _ _ _ _ hj]
theorem add_fin {w : World} {g : Nat} {ev : Value} {q : Nat} {t : Tb} {mv : Value} {a b c d u k v : Int} {w1 : World} {ev1 : Value} {q1 : Nat} {t1 : Tb} (hT : Ta w g ev q t mv a b c d u k v w1 ev1 q1 t1) {o : Obj} {w5 : World} {ev2 : Value}
    (hown : w5.ownsRow 0 107 5 ev2 (t1.es.length + 1) (enl t1.es ++ enc5 ⟨true, u, k, v, (t1.births : Int)⟩)) (hgrow : (w1.drew.alloc o).grownBy w5 ev1.ownBlock) (hat : ev2.ownBlock = ev1.ownBlock ∨ ev2.ownBlock = some (w1.drew.alloc o).heap.size) :
    Blk w5 g 8 (tF ev1 q1 t1 mv) ∧ ∃ i, IsF t1.c (uw u) t1.L i ∧ i < 2 ^ t1.L + 13 ∧ Rf (addW w5 g ev2 t1) q1 (2 ^ t1.L) t1.c ∧
      (addW w5 g ev2 t1).cell? ⟨g, 1, none⟩ = some (.int .i64 (t1.L : Int)) ∧ (addW w5 g ev2 t1).cell? ⟨g, 2, none⟩ = some (.slice (some ⟨q1, 0, none⟩) (2 ^ t1.L) (2 ^ t1.L)) ∧
      Rt ((addW w5 g ev2 t1).setCell ⟨q1, trl (uw u) t1.L i, none⟩ (.int .i64 (t1.es.length : Int))) g ev2 q1 (t1.push u k v) mv ∧
      Ms ((addW w5 g ev2 t1).setCell ⟨q1, trl (uw u) t1.L i, none⟩ (.int .i64 (t1.es.length : Int))) mv (a + (t1.made - t.made : Nat)) b c d ∧
      Ex (tX g ev q mv) w ((addW w5 g ev2 t1).setCell ⟨q1, trl (uw u) t1.L i, none⟩ (.int .i64 (t1.es.length : Int))) ∧ (∀ j, ev2.ownBlock = some j → ev.ownBlock = some j ∨ w.heap.size ≤ j) := by
  have hR := hT.rt
  have hgq := hR.gq
  have lg := hR.hd.lt (by omega)
  have lq := hR.rf.lt (pow2_pos _)
  have hblk : ∀ j, j < w1.heap.size → ev1.ownBlock ≠ some j → w5.heap[j]? = w1.heap[j]? := fun j hj hne => (hgrow.block j (by simp; exact Nat.lt_succ_of_lt hj) (fun e => hne e.symm)).trans (Below.heap_alloc _ _ _ hj)
  have hB5 : Blk w5 g 8 (tF ev1 q1 t1 mv) := hR.hd.same (hblk g lg (fun e => (hR.ap g e).1 rfl))
  have hR5 : Rf w5 q1 (2 ^ t1.L) t1.c := hR.rf.same (hblk q1 lq (fun e => (hR.ap q1 e).2 rfl))
  have hsz : w1.heap.size ≤ w5.heap.size := by have := hgrow.size; simp at this; exact Nat.le_of_succ_le this
  have hB7 : Blk (addW w5 g ev2 t1) g 8 (tF ev2 q1 (t1.push u k v) mv) := ((((hB5.put 0 ev2).put 4 (.int .i64 ((t1.births : Int) + 1))).put 3 (.int .i64 ((t1.live : Int) + 1))).put 6 (.int .i64 ((t1.turn : Int) + 1))).congr (fun j hj => by
    have : j = 0 ∨ j = 1 ∨ j = 2 ∨ j = 3 ∨ j = 4 ∨ j = 5 ∨ j = 6 ∨ j = 7 := by omega
    rcases this with rfl | rfl | rfl | rfl | rfl | rfl | rfl | rfl
    · rfl
    · rfl
    · rfl
    · show Value.int .i64 (((t1.push u k v).live : Nat) : Int) = Value.int .i64 ((t1.live : Int) + 1)
      rw [Tb.live_push, Int.natCast_add]
      rfl
    · show Value.int .i64 (((t1.births + 1 : Nat)) : Int) = Value.int .i64 ((t1.births : Int) + 1)
      rw [Int.natCast_add]
      rfl
    · rfl
    · show Value.int .i64 (((t1.turn + 1 : Nat)) : Int) = Value.int .i64 ((t1.turn : Int) + 1)
      rw [Int.natCast_add]
      rfl
    · rfl)
  have hap2 : ∀ j, ev2.ownBlock = some j → (ev1.ownBlock = some j ∨ w1.heap.size ≤ j) := by
    intro j hj
    rcases hat with e | e
    · exact .inl (e ▸ hj)
    · rw [e] at hj
      cases hj
      exact .inr (by simp)
  have hngq : ∀ j, ev2.ownBlock = some j → j ≠ g ∧ j ≠ q1 := by
    intro j hj
    rcases hap2 j hj with e | e
    · exact hR.ap j e
    · exact ⟨by omega, by omega⟩
  have hR7 : Rf (addW w5 g ev2 t1) q1 (2 ^ t1.L) t1.c := hR5.same (addW_other _ _ _ _ _ (fun e => hgq e.symm))
  have hE5 : Es w5 ev2 (t1.es ++ [⟨true, u, k, v, (t1.births : Int)⟩]) := (EsB.snoc hown).es
  obtain ⟨i, hil, hif⟩ := hT.ok.inv.first u
  have hm1 := hT.ms.lt
  have h8 : ∀ j, j ≠ q1 → ((addW w5 g ev2 t1).setCell ⟨q1, trl (uw u) t1.L i, none⟩ (.int .i64 (t1.es.length : Int))).heap[j]? = (addW w5 g ev2 t1).heap[j]? := fun j hj => Below.heap_setCell _ _ _ _ hj
  refine ⟨hB5, i, hif, hil, hR7, hB7.c 1 (by omega), hB7.c 2 (by omega), ?_, ?_, ?_, ?_⟩
  · refine ⟨hB7.same (h8 g hgq), hE5.same fun j hj => ?_, ?_, hngq, hR.sz, fun j hj => ⟨(hR.mp j hj).1, (hR.mp j hj).2.1, fun e => ?_⟩⟩
    · obtain ⟨x1, x2⟩ := hngq j hj
      rw [h8 j x2, addW_other _ _ _ _ _ x1]
    · show Rf _ q1 (2 ^ t1.L) (layc t1.c t1.L u t1.es.length)
      rw [layc, fidx_eq hif]
      exact hR7.put _ (trl_lt _ _ _) _
    · rcases hap2 j e with x | x
      · exact (hR.mp j hj).2.2 x
      · have := hm1 j hj; omega
  · refine hT.ms.same fun j hj => ?_
    obtain ⟨x1, x2, x3⟩ := hR.mp j hj
    rw [h8 j x2, addW_other _ _ _ _ _ x1, hblk j (hm1 j hj) x3]
  · have x1 : Ex (tX g ev q mv) w w5 := ⟨hgrow.os.trans hT.ex.os, hgrow.tape.trans hT.ex.tape, hgrow.output.trans hT.ex.output, Nat.le_trans hT.ex.size hsz, fun j hj hx => (hblk j (Nat.lt_of_lt_of_le hj hT.ex.size) (fun e => by
      rcases hT.ef j e with y | y
      · exact hx (.inr (.inr (.inl y)))
      · omega)).trans (hT.ex.block j hj hx)⟩
    unfold addW
    refine ((((x1.setCell (p := ⟨g, 0, none⟩) (fun _ => .inl rfl) _).setCell (p := ⟨g, 4, none⟩) (fun _ => .inl rfl) _).setCell (p := ⟨g, 3, none⟩) (fun _ => .inl rfl) _).setCell (p := ⟨g, 6, none⟩) (fun _ => .inl rfl) _).setCell (p := ⟨q1, trl (uw u) t1.L i, none⟩) (fun hq => ?_) _
    rcases hT.qf with e | e
    · exact .inr (.inl e)
    · exact absurd hq (Nat.not_lt.2 e)
  · intro j hj
    rcases hap2 j hj with e | e
    · exact hT.ef j e
    · exact .inr (Nat.le_trans hT.ex.size e)
set_option maxRecDepth 100000 in
set_option maxHeartbeats 8000000 in
theorem radd_any {w : World} {g : Nat} {ev : Value} {q : Nat} {t : Tb} {mv : Value} {a b c d : Int} (hR : Rt w g ev q t mv) (hO : t.Ok) (hM : Ms w mv a b c d) (hm : t.made ≤ 1000000) (ha : 0 ≤ a ∧ a ≤ 1000000000) (ht : t.turn ≤ 1000000) (hb : t.births < 100000) (u k v : Int) :
    Calls Tryz.prog 69 #[.pointer (some ⟨g, 0, none⟩), .int .i64 u, .int .i64 k, .int .i64 v] w fun e w' => e = .returned (.tuple #[.int .i64 (((t.add u k v).es.length - 1 : Nat) : Int), .int .i64 0]) ∧ ∃ ev' q', (q' = q ∨ w.heap.size ≤ q') ∧ (∀ j, ev'.ownBlock = some j → ev.ownBlock = some j ∨ w.heap.size ≤ j) ∧ Rt w' g ev' q' (t.add u k v) mv ∧ Ms w' mv (a + ((t.add u k v).made - t.made : Nat)) b c d ∧ Ex (tX g ev q mv) w w' := by
  obtain ⟨i0, hi, hz0, hz1, hz2⟩ := info_parts Tryz.infoEn
  have f0 : w.cell? ⟨g, 0, none⟩ = some ev := hR.hd.c 0 (by omega)
  have f1 : w.cell? ⟨g, 1, none⟩ = some (.int .i64 (t.L : Int)) := hR.hd.c 1 (by omega)
  obtain ⟨ae, cape, ge, ev1, _, hro⟩ := hR.es.open
  have hcap := hro.le
  subst ev1
  have hlen : t.es.length ≤ 100000 := Nat.le_trans hO.few hO.all
  have CR := rroom_any (L := t.L) (S := 2 ^ t.L) ⟨rfl, hO.sz.1, hO.sz.2⟩ w.drew
  clear hro
  go_enter Tryz.func69, Tryz.ntmps69
  go_wp2_with fail
  go_region_held3 (fun V => V.cell? ⟨g, 0, none⟩ = some (.slice ae t.es.length cape) ∧ V.cell? ⟨g, 1, none⟩ = some (.int .i64 (t.L : Int)))
    (first | exact ⟨f0, f1⟩ | fail)
    (first | (go_at_call 93; refine CR.mono ?_; rintro e w2 ⟨rfl, rfl⟩) | fail)
  clear CR f0 f1
  have hlv : t.live ≤ 100000 := Nat.le_trans t.live_le hlen
  by_cases hf : t.es.length < rm (2 ^ t.L)
  case' pos =>
    have hfd : decide (rm (2 ^ t.L) ≤ t.es.length) = false := decide_eq_false (by omega)
    have HT : Hid (Ta w g (.slice ae t.es.length cape) q t mv a b c d u k v w.drew (.slice ae t.es.length cape) q t) := ⟨hR.below (Below.refl _ w).drew, hO, hf, by unfold Tb.add; rw [if_pos hf], by rw [Nat.sub_self, Int.natCast_zero, Int.add_zero]; exact hM.below (Below.refl _ w).drew, rfl, rfl, .inl rfl, fun j hj => .inl hj, (Ex.refl _ w).drew⟩
    clear hR hO hM hf hcap
    rw [hfd]
    go_upto_region 8 with fail
    generalize hW1 : w.drew = w1 at HT ⊢
    obtain ⟨ev1, hev1⟩ : ∃ x, Value.slice ae t.es.length cape = x := ⟨_, rfl⟩
    obtain ⟨t1, q1, HT⟩ : ∃ t1 q1, Hid (Ta w g (.slice ae t.es.length cape) q t mv a b c d u k v w1 ev1 q1 t1) := ⟨t, q, by rw [← hev1]; exact HT⟩
    clear hW1 hev1
  case' neg =>
    have hfd : decide (rm (2 ^ t.L) ≤ t.es.length) = true := decide_eq_true (by omega)
    have HR0 := Lib.hid hR
    have HM0 := Lib.hid hM
    have HO := Lib.hid hO
    have HF := Lib.hid hf
    have f3 : w.cell? ⟨g, 3, none⟩ = some (.int .i64 (t.live : Int)) := hR.hd.c 3 (by omega)
    have hlg := hR.hd.lt (by omega)
    obtain ⟨hg1, hg2, hg3⟩ := glog_ok (n := t.live) (by omega)
    have hgr := grow_room (n := t.live) (by omega)
    clear hR hO hM hf hcap
    rw [hfd]
    go_wp2_with fail
    go_loopw [10] (fun lv wr => ∃ l : Nat, 3 ≤ l ∧ l ≤ 20 ∧ lv = .int .i64 (l : Int) ∧ (∀ j, 3 ≤ j → j < l → 2 ^ j < 3 * t.live) ∧ Below w.heap.size w wr) (fun lv _ => 21 - (intOf lv).toNat)
    case atStart => exact ⟨3, by omega, by omega, rfl, fun j h1 h2 => absurd h2 (by omega), (Below.refl _ w).drew⟩
    case' round =>
      obtain ⟨l, hl3, hl20, rfl, hlj, hBl⟩ := hrel
      have f3r := (hBl.cell (p := ⟨g, 3, none⟩) hlg).trans f3
      have hP : 2 ^ l ≤ 1048576 := Nat.le_trans (Nat.pow_le_pow_right (n := 2) (by decide) hl20) (by decide)
      have e1 : IntKind.i64.wrap ((2 : Int) ^ l) = ((2 ^ l : Nat) : Int) := by
        rw [show ((2 : Int) ^ l) = ((2 ^ l : Nat) : Int) by push_cast; rfl]
        generalize 2 ^ l = P at hP
        exact i64_small (by omega) (by omega)
      have e2 : IntKind.i64.wrap (3 * (t.live : Int)) = 3 * (t.live : Int) := i64_small (by omega) (by omega)
      have HLJ := Lib.hid hlj
      have HPP : Hid (2 ^ l = 2 ^ l) := rfl
      by_cases hc : 2 ^ l < 3 * t.live
      case' pos =>
        have hl19 : l < 20 := by
          rcases Nat.lt_or_ge l 20 with z | z
          · exact z
          · have h20' : (2 : Nat) ^ 20 = 1048576 := by decide
            rw [show l = 20 by omega] at hc
            omega
        have HL2 : Hid (∀ j, 3 ≤ j → j < l + 1 → 2 ^ j < 3 * t.live) := fun j h1 h2 => by
          rcases Nat.lt_or_ge j l with z | z
          · exact HLJ.out j h1 z
          · rw [show j = l by omega]; exact hc
        generalize 2 ^ l = P at e1 hP hc HPP
        have hc' : (P : Int) < 3 * (t.live : Int) := by omega
        clear hc hlj
        go_upto_region 3 with fail
        go_region_held3 (fun V => V.cell? ⟨g, 3, none⟩ = some (.int .i64 (t.live : Int))) (first | exact f3r | fail) (fail)
        go_wp2_with fail
        go_roundw
        case rel => exact ⟨l + 1, by omega, by omega, by go_num, HL2.out, hBl.drew⟩
        case measure => simp [intOf]; omega
      case' neg =>
        have hgl := glog_eq (n := t.live) (by omega) hl3 hc HLJ.out
        generalize hPx : 2 ^ l = P at e1 hP hc HPP
        have hc' : ¬ (P : Int) < 3 * (t.live : Int) := by omega
        have hBd := hBl.drew
        have CA := rall7_any (log := l) (HR0.out.below hBd) (HM0.out.below hBd) hm ha hlen hl3 hl20 (by rw [← hgl]; omega)
        have HGL := Lib.hid hgl
        have HPX := Lib.hid hPx
        clear hc hlj hgl hPx
        go_upto_region 3 with fail
        go_region_held3 (fun V => V.cell? ⟨g, 3, none⟩ = some (.int .i64 (t.live : Int))) (first | exact f3r | fail) (fail)
        have i20 : ¬ 20 < (l : Int) := by omega
        go_wp2_with fail
        refine CA.mono ?_
        rintro e w1 ⟨rfl, ev1, q1, hq1, hef1, hRt1, hMs1, hEx1⟩
        clear CA
        have hszd := hBd.size
        have HT : Hid (Ta w g (.slice ae t.es.length cape) q t mv a b c d u k v w1 ev1 q1 (t.re l)) := ⟨hRt1, HO.out.re hl3 hl20 (by rw [← HGL.out]; omega), by show (liveL t.es).length < rm (2 ^ l); rw [← t.live_eq, ← HGL.out]; exact hgr, by unfold Tb.add; rw [if_neg HF.out, HGL.out], by rw [show (t.re l).made - t.made = 1 by show t.made + 1 - t.made = 1; omega]; exact hMs1, rfl, rfl, .inr (Nat.le_trans hszd hq1), fun j hj => .inr (Nat.le_trans hszd (hef1 j hj)), (ex_of hBd).next hEx1 (fun j _ hj => hj.elim (fun x => .inl x) (fun x => .inr (.inr (.inr x))))⟩
        clear hRt1 hMs1 hEx1 hq1 hef1 f3r
        go_upto_region 8 with fail
        obtain ⟨t1, HT⟩ : ∃ t1, Hid (Ta w g (.slice ae t.es.length cape) q t mv a b c d u k v w1 ev1 q1 t1) := ⟨_, HT⟩
  all_goals
    have hT := HT.out
    have hB := hT.rt.hd
    obtain ⟨a1, cap1, ge1, hev, _, hro1⟩ := hT.rt.es.open
    have hcap1 := hro1.le
    subst hev
    have f0 : w1.cell? ⟨g, 0, none⟩ = some (.slice a1 t1.es.length cap1) := hB.c 0 (by omega)
    have f4 : w1.cell? ⟨g, 4, none⟩ = some (.int .i64 (t1.births : Int)) := hB.c 4 (by omega)
    have z0 := hB.z 0
    have hlg := hB.lt (by omega)
    have hl1 : t1.es.length ≤ 100000 := Nat.le_trans hT.ok.few hT.ok.all
    have hown : w1.drew.ownsRow 0 107 5 (.slice a1 t1.es.length cap1) t1.es.length (enl t1.es) := hT.rt.es
    have NF : Hid (∀ j u', (enc5 ⟨true, u, k, v, (t1.births : Int)⟩)[j]? = some u' → (w1.drew.alloc (.cells #[.bool true, .int .i64 u, .int .i64 k, .int .i64 v, .int .i64 (t1.births : Int)] 107)).cell? (Addr.add ⟨w1.drew.heap.size, 0, none⟩ j) = some u') := new_five w1.drew ⟨true, u, k, v, (t1.births : Int)⟩ 107
    have HE5 : Hid ((enc5 ⟨true, u, k, v, (t1.births : Int)⟩).length = 5 ∧ ∀ u' ∈ enc5 ⟨true, u, k, v, (t1.births : Int)⟩, u'.oneCell' = true) := ⟨rfl, fun u' hu => enl_one [⟨true, u, k, v, (t1.births : Int)⟩] u' (by simpa [enl] using hu)⟩
    have HGB : Hid (∀ w5 : World, (w1.drew.alloc (.cells #[.bool true, .int .i64 u, .int .i64 k, .int .i64 v, .int .i64 (t1.births : Int)] 107)).grownBy w5 (Value.slice a1 t1.es.length cap1).ownBlock → ∀ j, j < w1.heap.size → (Value.slice a1 t1.es.length cap1).ownBlock ≠ some j → w5.heap[j]? = w1.heap[j]?) := fun w5 hgw j hj hne => (hgw.block j (by simp; exact Nat.lt_succ_of_lt hj) (fun e => hne e.symm)).trans (Below.heap_alloc _ _ _ hj)
    have HNG : Hid ((Value.slice a1 t1.es.length cap1).ownBlock ≠ some g) := fun e => (hT.rt.ap g e).1 rfl
    clear hT hro1
    go_upto_region 9 with fail
    go_region_law (refine step_append_own rfl _ _ 71 rfl 0 107 i0 (.agg #[.bool false, .int .i64 0, .int .i64 0, .int .i64 0, .int .i64 0]) 5 40 Tryz.underlying71 hi hz0 hz1 hz2 rfl (by decide) (.slice a1 t1.es.length cap1) t1.es.length (enl t1.es) (by simp [Act.eval]) (World.ownsRow.alloc hown _) ⟨w1.drew.heap.size, 0, none⟩ 1 1 (enc5 ⟨true, u, k, v, (t1.births : Int)⟩) (by simp [Act.eval]) HE5.out.1 NF.out HE5.out.2 (by unfold maxLen; omega) (by omega) (Nat.zero_le _) ?_; intro v' w5 hown2 hgrow hat; obtain ⟨a2, cap2, hv2⟩ := ownsRow_shape hown2; subst hv2; have hb5 := HGB.out w5 hgrow g hlg HNG.out; have g0 := (World.cell?_of_block (a := ⟨g, 0, none⟩) hb5).trans f0; have gz0 := (World.frozen?_of_block (a := ⟨g, 0, none⟩) hb5).trans z0)
    all_goals
      obtain ⟨hB5, i, hif, hil, hR7, k1, k2, hRt, hMs, hEx, hEf⟩ := add_fin HT.out hown2 hgrow hat
      have CL := rlay_any (n := (t1.es.length : Int)) ⟨rfl, HT.out.ok.sz.2⟩ k1 k2 hR7 u hif hil
      have x4 : w5.cell? ⟨g, 4, none⟩ = some (.int .i64 (t1.births : Int)) := hB5.c 4 (by omega)
      have x3 : w5.cell? ⟨g, 3, none⟩ = some (.int .i64 (t1.live : Int)) := hB5.c 3 (by omega)
      have x6 : w5.cell? ⟨g, 6, none⟩ = some (.int .i64 (t1.turn : Int)) := hB5.c 6 (by omega)
      have y4 := hB5.z 4
      have y3 := hB5.z 3
      have y6 := hB5.z 6
      have hbi := HT.out.bi
      have htu := HT.out.tu
      have hlv1 := t1.live_le
      have e4 : IntKind.i64.wrap ((t1.births : Int) + 1) = (t1.births : Int) + 1 := i64_small (by omega) (by omega)
      have e3 : IntKind.i64.wrap ((t1.live : Int) + 1) = (t1.live : Int) + 1 := i64_small (by omega) (by omega)
      have e6 : IntKind.i64.wrap ((t1.turn : Int) + 1) = (t1.turn : Int) + 1 := i64_small (by omega) (by omega)
      have HN : Hid ((t.add u k v).es.length - 1 = t1.es.length) := by
        show _ = _
        rw [HT.out.eq]
        show (t1.es ++ [_]).length - 1 = _
        simp
      have HMD : Hid ((t.add u k v).made = t1.made) := by
        show _ = _
        rw [HT.out.eq]
        rfl
      have HRT : Hid (Rt ((addW w5 g (.slice a2 (t1.es.length + 1) cap2) t1).setCell ⟨q1, trl (uw u) t1.L i, none⟩ (.int .i64 (t1.es.length : Int))) g (.slice a2 (t1.es.length + 1) cap2) q1 (t.add u k v) mv) := by
        show Rt _ _ _ _ _ _
        rw [HT.out.eq]
        exact hRt
      have HMS := Lib.hid hMs
      have HEX := Lib.hid hEx
      have HEF := Lib.hid hEf
      have HQF := Lib.hid HT.out.qf
      clear hown2 hgrow hat hB5 hif hil hR7 k1 k2 hRt hMs hEx hEf f0 f4 z0 hbi htu
      unfold addW at *
      go_upto_region 13 with fail
      generalize World.setCell (World.setCell (World.setCell (World.setCell w5 _ _) _ _) _ _) _ _ = w7 at *
      clear x4 x3 x6 y4 y3 y6 g0 gz0
      generalize World.setCell _ _ _ = w8 at *
      go_wp2_with fail
      refine CL.mono ?_
      rintro e w9 ⟨rfl, rfl⟩
      clear CL
      go_wp2
      go_ret2
      refine ⟨by rw [HN.out]; rfl, _, q1, HQF.out, HEF.out, HRT.out, ?_, HEX.out⟩
      rw [HMD.out]
      exact HMS.out
end Go.Proofs.YtcbhpjpkjmlcnaaGreat
namespace Go.Proofs.YtcbhpjpkjmlcnaaGreat
open Go.RowKit Go.WideShapes

theorem rthere_no {w : World} {g : Nat} {ev : Value} {q : Nat} {t : Tb} {mv : Value} (hR : Rt w g ev q t mv) (n : Int) (hn : ¬ (0 ≤ n ∧ n < (t.es.length : Int))) :
    Calls Tryz.prog 92 #[.pointer (some ⟨g, 0, none⟩), .int .i64 n] w fun e w' => e = .returned (.bool false) ∧ w' = w := by
  have f0 : w.cell? ⟨g, 0, none⟩ = some ev := hR.hd.c 0 (by omega)
  obtain ⟨ae, cape, ge, ev1, _, _⟩ := hR.es.open
  subst ev1
  clear hR
  by_cases h0 : 0 ≤ n
  case' pos => have h1 : ¬ n < (t.es.length : Int) := by omega
  all_goals
    clear hn
    go_enter Tryz.func92, Tryz.ntmps92
    go_wp2
    go_ret
    exact ⟨rfl, rfl⟩
theorem rthere_yes {w : World} {g : Nat} {ev : Value} {q : Nat} {t : Tb} {mv : Value} (hR : Rt w g ev q t mv) (n : Nat) (hn : n < t.es.length) :
    Calls Tryz.prog 92 #[.pointer (some ⟨g, 0, none⟩), .int .i64 (n : Int)] w fun e w' => e = .returned (.bool (nth t.es n).live) ∧ w' = w := by
  have f0 : w.cell? ⟨g, 0, none⟩ = some ev := hR.hd.c 0 (by omega)
  obtain ⟨ae, cape, ge, ev1, hp, hro⟩ := hR.es.open
  obtain ⟨rfl, _, _⟩ := hp (by omega)
  subst ev1
  have d0 := hro.c0 n hn
  have hle := hro.le
  have t1 : (n : Int) < (t.es.length : Int) := by omega
  clear hR hro hp
  generalize (nth t.es n).live = b at *
  go_enter Tryz.func92, Tryz.ntmps92
  go_wp2
  go_ret
  exact ⟨rfl, rfl⟩
/-- Whether a call on that entry goes. -/
theorem has_cases (t : Tb) (n : Int) : (∃ m : Nat, n = (m : Int) ∧ m < t.es.length ∧ (nth t.es m).live = true) ∨ (¬ t.has n) := by
  by_cases h : t.has n
  · exact .inl ⟨n.toNat, by have := h.1; omega, by have := h.1; have := h.2.1; omega, h.2.2⟩
  · exact .inr h
theorem rthere_has {w : World} {g : Nat} {ev : Value} {q : Nat} {t : Tb} {mv : Value} (hR : Rt w g ev q t mv) (n : Int) (hn : ¬ t.has n) :
    Calls Tryz.prog 92 #[.pointer (some ⟨g, 0, none⟩), .int .i64 n] w fun e w' => e = .returned (.bool false) ∧ w' = w := by
  by_cases h : 0 ≤ n ∧ n < (t.es.length : Int)
  · obtain ⟨m, rfl⟩ : ∃ m : Nat, n = (m : Int) := ⟨n.toNat, by omega⟩
    have h1 := rthere_yes hR m (by omega)
    have h2 : (nth t.es m).live = false := by
      cases e : (nth t.es m).live with
      | false => rfl
      | true => exact absurd ⟨h.1, h.2, by simpa using e⟩ hn
    rwa [h2] at h1
  · exact rthere_no hR n h
theorem rput_no {w : World} {g : Nat} {ev : Value} {q : Nat} {t : Tb} {mv : Value} (hR : Rt w g ev q t mv) (n v : Int) (hn : ¬ t.has n) :
    Calls Tryz.prog 66 #[.pointer (some ⟨g, 0, none⟩), .int .i64 n, .int .i64 v] w fun e w' => e = .returned (.int .i64 7) ∧ w' = w := by
  have C1 := rthere_has hR n hn
  clear hR hn
  go_enter Tryz.func66, Tryz.ntmps66
  go_wp2_with fail
  refine C1.mono ?_
  rintro e w1 ⟨rfl, rfl⟩
  clear C1
  go_wp2
  go_ret
  exact ⟨rfl, rfl⟩
theorem rput_yes {w : World} {g : Nat} {ev : Value} {q : Nat} {t : Tb} {mv : Value} (hR : Rt w g ev q t mv) (n : Nat) (v : Int) (hn : n < t.es.length) (hl : (nth t.es n).live = true) :
    Calls Tryz.prog 66 #[.pointer (some ⟨g, 0, none⟩), .int .i64 (n : Int), .int .i64 v] w fun e w' => e = .returned (.int .i64 0) ∧ Rt w' g ev q (t.putv n v) mv ∧ Ex (fun k => ev.ownBlock = some k) w w' := by
  have C1 := rthere_yes hR n hn
  rw [hl] at C1
  have f0 : w.cell? ⟨g, 0, none⟩ = some ev := hR.hd.c 0 (by omega)
  obtain ⟨ae, cape, ge, ev1, hp, hro⟩ := hR.es.open
  obtain ⟨rfl, hob, hfz⟩ := hp (by omega)
  subst ev1
  have d3 := hro.c3 n hn
  have z3 := hfz (n * 5 + 3)
  have hle := hro.le
  have t1 : (n : Int) < (t.es.length : Int) := by omega
  obtain ⟨hng, hnq⟩ := hR.ap ge hob
  have hoth : ∀ j, j ≠ ge → (w.setCell ⟨ge, n * 5 + 3, none⟩ (.int .i64 v)).heap[j]? = w.heap[j]? := fun j hj => Below.heap_setCell _ _ _ _ hj
  have HRT : Hid (Rt (w.setCell ⟨ge, n * 5 + 3, none⟩ (.int .i64 v)) g (.slice (some ⟨ge, 0, none⟩) t.es.length cape) q (t.putv n v) mv) := by
    refine ⟨(hR.hd.same (hoth g (fun e => hng e.symm))).congr (fun j hj => ?_), Es.put rfl hR.es n 3 hn (by decide) (.int .i64 v) _ rfl rfl, hR.rf.same (hoth q (fun e => hnq e.symm)), hR.ap, hR.sz, hR.mp⟩
    have h1 : (t.putv n v).live = t.live := by
      show (t.es.set n _).length - deadN (t.es.set n _) = _
      rw [List.length_set, deadN_put t.es n ⟨(nth t.es n).live, (nth t.es n).hash, (nth t.es n).key, v, (nth t.es n).birth⟩ hl hl]
      rfl
    have : j = 0 ∨ j = 1 ∨ j = 2 ∨ j = 3 ∨ j = 4 ∨ j = 5 ∨ j = 6 ∨ j = 7 := by omega
    rcases this with rfl | rfl | rfl | rfl | rfl | rfl | rfl | rfl
    · rfl
    · rfl
    · rfl
    · show Value.int .i64 (((t.putv n v).live : Nat) : Int) = Value.int .i64 ((t.live : Nat) : Int)
      rw [h1]
    · rfl
    · rfl
    · rfl
    · rfl
  have HEX : Hid (Ex (fun k => (Value.slice (some ⟨ge, 0, none⟩) t.es.length cape).ownBlock = some k) w (w.setCell ⟨ge, n * 5 + 3, none⟩ (.int .i64 v))) := (Ex.refl (fun k => (Value.slice (some ⟨ge, 0, none⟩) t.es.length cape).ownBlock = some k) w).setCell (p := ⟨ge, n * 5 + 3, none⟩) (fun _ => rfl) _
  clear hR hro hp hfz hoth hob
  go_enter Tryz.func66, Tryz.ntmps66
  go_wp2_with fail
  refine C1.mono ?_
  rintro e w1 ⟨rfl, rfl⟩
  clear C1
  go_wp2
  go_ret
  exact ⟨rfl, HRT.out, HEX.out⟩
/-- An entry as one value. -/
def enV (e : En) : Value := .agg #[.bool e.live, .int .i64 e.hash, .int .i64 e.key, .int .i64 e.value, .int .i64 e.birth]
theorem mix_skip (k : Nat) (l f : Nat → Int) (h : l k = f k) : mix (k + 1) l f = mix k l f := by
  funext x
  unfold mix
  by_cases e : x = k
  · subst e
    rw [if_pos (by omega), if_neg (by omega), h]
  · by_cases h2 : x < k
    · rw [if_pos h2, if_pos (by omega)]
    · rw [if_neg h2, if_neg (by omega)]
theorem rkill_no {w : World} {g : Nat} {ev : Value} {q : Nat} {t : Tb} {mv : Value} (hR : Rt w g ev q t mv) (n : Int) (hn : ¬ t.has n) :
    Calls Tryz.prog 72 #[.pointer (some ⟨g, 0, none⟩), .int .i64 n] w fun e w' => e = .returned (.int .i64 7) ∧ w' = w := by
  have C1 := rthere_has hR n hn
  clear hR hn
  go_enter Tryz.func72, Tryz.ntmps72
  go_wp2_with fail
  refine C1.mono ?_
  rintro e w1 ⟨rfl, rfl⟩
  clear C1
  go_wp2
  go_ret
  exact ⟨rfl, rfl⟩
/-- The five stores and the two counts of Kill. -/
def killW (w : World) (g ge n : Nat) (t : Tb) : World :=
  ((((((w.setCell ⟨ge, n * 5, none⟩ (.bool false)).setCell ⟨ge, n * 5 + 1, none⟩ (.int .i64 0)).setCell ⟨ge, n * 5 + 2, none⟩ (.int .i64 0)).setCell ⟨ge, n * 5 + 3, none⟩ (.int .i64 0)).setCell ⟨ge, n * 5 + 4, none⟩ (.int .i64 0)).setCell ⟨g, 3, none⟩ (.int .i64 ((t.live : Int) - 1))).setCell ⟨g, 6, none⟩ (.int .i64 ((t.turn : Int) + 1))
theorem kill_fin {w : World} {g : Nat} {q : Nat} {t : Tb} {mv : Value} {ge cape n : Nat} (hR : Rt w g (.slice (some ⟨ge, 0, none⟩) t.es.length cape) q { t with c := killc t.c n } mv) (hn : n < t.es.length) (hl : (nth t.es n).live = true) :
    Rt (killW w g ge n t) g (.slice (some ⟨ge, 0, none⟩) t.es.length cape) q (t.killz n) mv ∧ Ex (fun k => k = g ∨ k = ge) w (killW w g ge n t) := by
  obtain ⟨hng, hnq⟩ := hR.ap ge rfl
  have hgq := hR.gq
  have hlv := Tb.live_killz n hl
  have hlp := Tb.live_pos n hl
  constructor
  · have e0 : Es (w.setCell ⟨ge, n * 5 + 0, none⟩ (.bool false)) (.slice (some ⟨ge, 0, none⟩) t.es.length cape) (t.es.set n ⟨false, (nth t.es n).hash, (nth t.es n).key, (nth t.es n).value, (nth t.es n).birth⟩) := Es.put rfl hR.es n 0 hn (by decide) (.bool false) _ rfl rfl
    have sh : ∀ (es : List En) (e : En), n < es.length → nth (es.set n e) n = e := fun es e h => by rw [nth_set h, if_pos rfl]
    have e1 := Es.put (by simp) e0 n 1 (by simpa using hn) (by decide) (.int .i64 0) ⟨false, 0, (nth t.es n).key, (nth t.es n).value, (nth t.es n).birth⟩ (by rw [sh _ _ hn]; rfl) rfl
    rw [List.set_set] at e1
    have e2 := Es.put (by simp) e1 n 2 (by simpa using hn) (by decide) (.int .i64 0) ⟨false, 0, 0, (nth t.es n).value, (nth t.es n).birth⟩ (by rw [sh _ _ hn]; rfl) rfl
    rw [List.set_set] at e2
    have e3 := Es.put (by simp) e2 n 3 (by simpa using hn) (by decide) (.int .i64 0) ⟨false, 0, 0, 0, (nth t.es n).birth⟩ (by rw [sh _ _ hn]; rfl) rfl
    rw [List.set_set] at e3
    have e4 := Es.put (by simp) e3 n 4 (by simpa using hn) (by decide) (.int .i64 0) En.zero (by rw [sh _ _ hn]; rfl) rfl
    rw [List.set_set, Nat.add_zero] at e4
    have h5 : ∀ j, j ≠ ge → (((((w.setCell ⟨ge, n * 5, none⟩ (.bool false)).setCell ⟨ge, n * 5 + 1, none⟩ (.int .i64 0)).setCell ⟨ge, n * 5 + 2, none⟩ (.int .i64 0)).setCell ⟨ge, n * 5 + 3, none⟩ (.int .i64 0)).setCell ⟨ge, n * 5 + 4, none⟩ (.int .i64 0)).heap[j]? = w.heap[j]? := fun j hj => by
      rw [Below.heap_setCell _ _ _ _ hj, Below.heap_setCell _ _ _ _ hj, Below.heap_setCell _ _ _ _ hj, Below.heap_setCell _ _ _ _ hj, Below.heap_setCell _ _ _ _ hj]
    have hB5 := hR.hd.same (h5 g (fun e => hng e.symm))
    have hR5 := hR.rf.same (h5 q (fun e => hnq e.symm))
    unfold killW
    generalize World.setCell (World.setCell (World.setCell (World.setCell (World.setCell w _ _) _ _) _ _) _ _) _ _ = w5 at *
    have h7 : ∀ j, j ≠ g → ((w5.setCell ⟨g, 3, none⟩ (.int .i64 ((t.live : Int) - 1))).setCell ⟨g, 6, none⟩ (.int .i64 ((t.turn : Int) + 1))).heap[j]? = w5.heap[j]? := fun j hj => by
      rw [Below.heap_setCell _ _ _ _ hj, Below.heap_setCell _ _ _ _ hj]
    refine ⟨((hB5.put 3 (.int .i64 ((t.live : Int) - 1))).put 6 (.int .i64 ((t.turn : Int) + 1))).congr (fun j hj => ?_), e4.same (fun j hj => h7 j (by cases hj; exact hng)), hR5.same (h7 q (fun e => hgq e.symm)), hR.ap, hR.sz, hR.mp⟩
    have : j = 0 ∨ j = 1 ∨ j = 2 ∨ j = 3 ∨ j = 4 ∨ j = 5 ∨ j = 6 ∨ j = 7 := by omega
    rcases this with rfl | rfl | rfl | rfl | rfl | rfl | rfl | rfl
    · rfl
    · rfl
    · rfl
    · show Value.int .i64 (((t.killz n).live : Nat) : Int) = Value.int .i64 ((t.live : Int) - 1)
      rw [hlv, Int.natCast_sub hlp]
      rfl
    · rfl
    · rfl
    · show Value.int .i64 (((t.turn + 1 : Nat)) : Int) = Value.int .i64 ((t.turn : Int) + 1)
      rw [Int.natCast_add]
      rfl
    · rfl
  · unfold killW
    exact (((((((Ex.refl (fun k => k = g ∨ k = ge) w).setCell (p := ⟨ge, n * 5, none⟩) (fun _ => .inr rfl) _).setCell (p := ⟨ge, n * 5 + 1, none⟩) (fun _ => .inr rfl) _).setCell (p := ⟨ge, n * 5 + 2, none⟩) (fun _ => .inr rfl) _).setCell (p := ⟨ge, n * 5 + 3, none⟩) (fun _ => .inr rfl) _).setCell (p := ⟨ge, n * 5 + 4, none⟩) (fun _ => .inr rfl) _).setCell (p := ⟨g, 3, none⟩) (fun _ => .inl rfl) _).setCell (p := ⟨g, 6, none⟩) (fun _ => .inl rfl) _
set_option maxRecDepth 100000 in
set_option maxHeartbeats 4000000 in
theorem rkill_yes {w : World} {g : Nat} {ev : Value} {q : Nat} {t : Tb} {mv : Value} (hR : Rt w g ev q t mv) (n : Nat) (hn : n < t.es.length) (hl : (nth t.es n).live = true) (hlen : t.es.length ≤ 100000) (ht : t.turn ≤ 1000000) :
    Calls Tryz.prog 72 #[.pointer (some ⟨g, 0, none⟩), .int .i64 (n : Int)] w fun e w' => e = .returned (.int .i64 0) ∧ Rt w' g ev q (t.killz n) mv ∧ Ex (fun k => k = g ∨ k = q ∨ ev.ownBlock = some k) w w' := by
  have C1 := rthere_yes hR n hn
  rw [hl] at C1
  have lg := hR.hd.lt (by omega)
  have hgq := hR.gq
  have hP : 2 ^ t.L ≤ 1048576 := Nat.le_trans (Nat.pow_le_pow_right (n := 2) (by decide) hR.sz.2) (by decide)
  have HRT := Lib.hid hR
  have HR0 : Hid (Rf w q (2 ^ t.L) (mix 0 (killc t.c n) t.c)) := hR.rf.congr fun j _ => by unfold mix; rw [if_neg (by omega)]
  obtain ⟨ae, cape, ge, ev1, hp, hro⟩ := hR.es.open
  obtain ⟨rfl, hob, hfz⟩ := hp (by omega)
  have hle := hro.le
  subst ev1
  clear hR hro hp hfz
  go_enter Tryz.func72, Tryz.ntmps72
  go_wp2_with fail
  refine C1.mono ?_
  rintro e w1 ⟨rfl, rfl⟩
  clear C1
  generalize hS : 2 ^ t.L = S at *
  have HS := Lib.hid hS
  clear hS
  go_wp2_with fail
  go_loopw [5] (fun iv wr => ∃ k : Nat, k ≤ S ∧ iv = .int .i64 (k : Int) ∧ Rf wr q S (mix k (killc t.c n) t.c) ∧ But q w1 wr) (fun iv _ => S - (intOf iv).toNat)
  case atStart => exact ⟨0, Nat.zero_le _, rfl, HR0.out, But.refl _ _⟩
  case round =>
    clear HR0
    obtain ⟨k, hk, rfl, hRk, hBk⟩ := hrel
    have hBz := HRT.out.hd.same (hBk.block g lg hgq)
    have k2 : wr.cell? ⟨g, 2, none⟩ = some (.slice (some ⟨q, 0, none⟩) S S) := by rw [← HS.out]; exact hBz.c 2 (by omega)
    by_cases hlt : k < S
    · have t1 : (k : Int) < (S : Int) := by omega
      have d1 := hRk.hc k hlt
      have d2 := hRk.hz k
      have hmk : mix k (killc t.c n) t.c k = t.c k := by unfold mix; rw [if_neg (by omega)]
      rw [hmk] at d1
      by_cases he : t.c k = (n : Int)
      · have hkc : killc t.c n k = -2 := by unfold killc; rw [if_pos he]
        have HP := Lib.hid (hRk.put k hlt (killc t.c n k))
        rw [mix_upd, hkc] at HP
        have HPB := Lib.hid (hBk.setCell k (.int .i64 (-2)))
        rw [he] at d1
        have t3 : ((n : Int) == (n : Int)) = true := by simp
        clear he hkc hmk hRk hBk hBz
        go_wp2_with fail
        go_roundw
        case rel => exact ⟨k + 1, by omega, by go_num, HP.out, HPB.out⟩
        case measure => simp [intOf]; omega
      · have hkc : killc t.c n k = t.c k := by unfold killc; rw [if_neg he]
        have HP : Hid (Rf wr q S (mix (k + 1) (killc t.c n) t.c)) := by
          show Rf _ _ _ _
          rw [mix_skip _ _ _ hkc]
          exact hRk
        have t3 : (t.c k == (n : Int)) = false := by simp [he]
        generalize t.c k = y at d1 t3
        clear he hkc hmk hRk hBz
        go_wp2_with fail
        go_roundw
        case rel => exact ⟨k + 1, by omega, by go_num, HP.out, hBk⟩
        case measure => simp [intOf]; omega
    · have t1 : ¬ (k : Int) < (S : Int) := by omega
      obtain rfl : k = S := by omega
      have hRT := HRT.out
      have hng := (hRT.ap ge hob).2
      have hRt2 : Rt wr g (.slice (some ⟨ge, 0, none⟩) t.es.length cape) q { t with c := killc t.c n } mv := ⟨hBz, hRT.es.same (fun j hj => hBk.block j (hRT.es.lt j hj) ((hRT.ap j hj).2)), by show Rf wr q (2 ^ t.L) (killc t.c n); rw [HS.out]; exact hRk.congr (fun j hj => by unfold mix; rw [if_pos hj]), hRT.ap, hRT.sz, hRT.mp⟩
      obtain ⟨hF, hX⟩ := kill_fin hRt2 hn hl
      obtain ⟨ae', cape', ge', ev', hp', hro'⟩ := hRt2.es.open
      cases ev'
      obtain ⟨ea, _, hfz'⟩ := hp' (by show 0 < t.es.length; omega)
      cases ea
      have f0 : wr.cell? ⟨g, 0, none⟩ = some (.slice (some ⟨ge, 0, none⟩) t.es.length cape) := hBz.c 0 (by omega)
      have f3 : wr.cell? ⟨g, 3, none⟩ = some (.int .i64 (t.live : Int)) := hBz.c 3 (by omega)
      have f6 : wr.cell? ⟨g, 6, none⟩ = some (.int .i64 (t.turn : Int)) := hBz.c 6 (by omega)
      have z3 := hBz.z 3
      have z6 := hBz.z 6
      have d0 := hro'.c0 n hn
      have d1 := hro'.c1 n hn
      have d2 := hro'.c2 n hn
      have d3 := hro'.c3 n hn
      have d4 := hro'.c4 n hn
      have y0 := hfz' (n * 5)
      have y1 := hfz' (n * 5 + 1)
      have y2 := hfz' (n * 5 + 2)
      have y3 := hfz' (n * 5 + 3)
      have y4 := hfz' (n * 5 + 4)
      have t2 : (n : Int) < (t.es.length : Int) := by omega
      have hlp := Tb.live_pos n hl
      have hll := t.live_le
      have e1 : IntKind.i64.wrap ((t.live : Int) - 1) = (t.live : Int) - 1 := i64_small (by omega) (by omega)
      have e2 : IntKind.i64.wrap ((t.turn : Int) + 1) = (t.turn : Int) + 1 := i64_small (by omega) (by omega)
      have hgg : ge ≠ g := (hRT.ap ge hob).1
      have HFF := Lib.hid hF
      have HXX : Hid (Ex (fun k => k = g ∨ k = q ∨ (Value.slice (some ⟨ge, 0, none⟩) t.es.length cape).ownBlock = some k) w1 (killW wr g ge n t)) := (hBk.ex.mono (fun _ _ h => .inr (.inl h))).next hX (fun j _ h => h.elim (fun x => .inl x) (fun x => .inr (.inr (by rw [x]; rfl))))
      clear hF hX hRt2 hro' hp' hfz' hBz hBk hRk hRT
      unfold killW at *
      generalize (nth t.es n).live = x0 at d0
      generalize nth { t with c := killc t.c n }.es n = xx at *
      go_wp2_with fail
      go_ret
      exact ⟨rfl, HFF.out, HXX.out.mono (fun j _ h => by simpa [Value.ownBlock] using h)⟩
end Go.Proofs.YtcbhpjpkjmlcnaaGreat
namespace Go.Proofs.YtcbhpjpkjmlcnaaGreat
open Go.RowKit Go.WideShapes

set_option maxRecDepth 100000 in
set_option maxHeartbeats 4000000 in
theorem rlive_any {w : World} {g : Nat} {ev : Value} {q : Nat} {t : Tb} {mv : Value} (hR : Rt w g ev q t mv) (hn : t.es.length ≤ 100000) :
    Calls Tryz.prog 44 #[.pointer (some ⟨g, 0, none⟩)] w fun e w' => ∃ v, e = .returned v ∧ EsB w.heap.size w' v (liveL t.es) ∧ Below w.heap.size w w' := by
  obtain ⟨i0, hi, hz0, hz1, hz2⟩ := info_parts Tryz.infoEn
  obtain ⟨ae, cape, ge, ev1, hpe, hro⟩ := hR.es.open
  have hcape := hro.le
  have HRO : Hid (0 < t.es.length → ae = some ⟨ge, 0, none⟩ ∧ ge < w.heap.size ∧ Ro w ge t.es.length cape t.es) := fun h0 => ⟨(hpe h0).1, hR.es.lt ge (hpe h0).2.1, hro⟩
  have HRT := Lib.hid hR
  have lg := hR.hd.lt (by omega)
  subst ev1
  clear hR hro hpe
  go_enter Tryz.func44, Tryz.ntmps44
  go_wp2_with fail
  go_loopw [3, 4] (fun lv iv wr => ∃ k : Nat, k ≤ t.es.length ∧ iv = .int .i64 (k : Int) ∧ EsB w.heap.size wr lv (liveL (t.es.take k)) ∧ Below w.heap.size w wr) (fun _ iv _ => t.es.length - (intOf iv).toNat)
  case atStart => exact ⟨0, Nat.zero_le _, rfl, ⟨rfl, Or.inl ⟨rfl, rfl⟩⟩, Below.refl _ _⟩
  case round =>
    obtain ⟨k, hk, rfl, hE, hB⟩ := hrel
    have f0 : wr.cell? ⟨g, 0, none⟩ = some (.slice ae t.es.length cape) := (HRT.out.hd.of hB (by omega)).c 0 (by omega)
    by_cases hlt : k < t.es.length
    · have t1 : (k : Int) < (t.es.length : Int) := by omega
      obtain ⟨ea, lge, hro⟩ := HRO.out (by omega)
      subst ea
      have key : ∀ o, wr.cell? ⟨ge, o, none⟩ = w.cell? ⟨ge, o, none⟩ := fun o => hB.cell (p := ⟨ge, o, none⟩) lge
      have d0 := (key _).trans (hro.c0 k hlt)
      have d1 := (key _).trans (hro.c1 k hlt)
      have d2 := (key _).trans (hro.c2 k hlt)
      have d3 := (key _).trans (hro.c3 k hlt)
      have d4 := (key _).trans (hro.c4 k hlt)
      have HTK := Lib.hid (liveL_take hlt)
      clear hro key
      cases hlive : (nth t.es k).live with
      | true =>
        have hown : wr.ownsRow w.heap.size 107 5 u3 (liveL (t.es.take k)).length (enl (liveL (t.es.take k))) := hE
        have hlk : (liveL (t.es.take k)).length ≤ k := by have := liveL_len (t.es.take k); rw [List.length_take] at this; omega
        have FIN : Hid (∀ (v' : Value) (w5 : World), w5.ownsRow w.heap.size 107 5 v' ((liveL (t.es.take k)).length + 1) (enl (liveL (t.es.take k)) ++ enc5 (nth t.es k)) → EsB w.heap.size w5 v' (liveL (t.es.take (k + 1)))) := fun v' w5 h5 => by
          rw [HTK.out, if_pos hlive]
          exact EsB.snoc h5
        have NF : Hid (∀ j u, (enc5 (nth t.es k))[j]? = some u → (wr.alloc (.cells #[.bool (nth t.es k).live, .int .i64 (nth t.es k).hash, .int .i64 (nth t.es k).key, .int .i64 (nth t.es k).value, .int .i64 (nth t.es k).birth] 107)).cell? (Addr.add ⟨wr.heap.size, 0, none⟩ j) = some u) := new_five _ _ _
        have HE5 : Hid ((enc5 (nth t.es k)).length = 5 ∧ ∀ u ∈ enc5 (nth t.es k), u.oneCell' = true) := ⟨rfl, fun u hu => enl_one [nth t.es k] u (by simpa [enl] using hu)⟩
        have HRL : Hid ((enl (liveL (t.es.take k))).length = (liveL (t.es.take k)).length * 5) := enl_len _
        rw [hlive] at d0 NF
        have hsz := hB.size
        clear hE
        generalize enc5 (nth t.es k) = E5 at FIN NF HE5
        generalize enl (liveL (t.es.take k)) = R at hown FIN HRL
        generalize (liveL (t.es.take k)).length = m at hown FIN hlk HRL
        generalize (nth t.es k).hash = x1 at *
        generalize (nth t.es k).key = x2 at *
        generalize (nth t.es k).value = x3 at *
        generalize (nth t.es k).birth = x4 at *
        clear hlive HTK
        go_wp2_with (at_builtin; refine wpList_append_own _ rfl _ _ 71 rfl w.heap.size 107 i0 (.agg #[.bool false, .int .i64 0, .int .i64 0, .int .i64 0, .int .i64 0]) 5 40 Tryz.underlying71 hi hz0 hz1 hz2 rfl (by decide) _ _ _ rfl (World.ownsRow.alloc hown _) ⟨wr.heap.size, 0, none⟩ 1 1 E5 rfl HE5.out.1 NF.out HE5.out.2 (by unfold maxLen; omega) (by omega) (by simp; omega) ?_; intro v' w5 hown2 hgrow _; have hI2 := Lib.hid (FIN.out v' w5 hown2); have hb5 := below_grown5 hB (Nat.le_refl _) hown hgrow; clear hgrow hown2)
        go_roundw
        case rel => exact ⟨k + 1, by omega, by go_num, hI2.out, hb5⟩
        case measure => simp [intOf]; omega
      | false =>
        rw [hlive] at d0
        have HE : Hid (EsB w.heap.size wr u3 (liveL (t.es.take (k + 1)))) := by
          show EsB _ _ _ _
          rw [HTK.out, if_neg (by rw [hlive]; simp)]
          exact hE
        clear hE hlive HTK
        go_wp2_with fail
        go_roundw
        case rel => exact ⟨k + 1, by omega, by go_num, HE.out, hB⟩
        case measure => simp [intOf]; omega
    · have t1 : ¬ (k : Int) < (t.es.length : Int) := by omega
      obtain rfl : k = t.es.length := by omega
      rw [List.take_length] at hE
      go_wp2
      go_ret
      exact ⟨_, rfl, hE, hB⟩
end Go.Proofs.YtcbhpjpkjmlcnaaGreat
