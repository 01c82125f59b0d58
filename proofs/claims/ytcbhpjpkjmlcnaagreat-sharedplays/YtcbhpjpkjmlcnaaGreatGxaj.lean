/-
  A table as it is told: dead entries keep nothing. No program.
  The reference's New, Get, Set.
  The reference's table in memory; lay.
  What is left as it was; the counts; index.
  The reference's New and all.
-/
import Derived.Test.YtcbhpjpkjmlcnaaGreatGxaa
import Derived.Deep.CutRange
import Derived.Maps.AppendAt
import Derived.Deep.LoopGhost
namespace Go.Proofs.YtcbhpjpkjmlcnaaGreat

/-- A table as it is told. -/
def Tb.sh (t : Tb) : Tb := { t with es := shw t.es }
theorem liveL_sh (es : List En) : liveL (shw es) = liveL es := by
  induction es with
  | nil => rfl
  | cons e r ih =>
    show liveL (e.shown :: shw r) = _
    rw [liveL, liveL, e.shown_is, ih]
    by_cases h : e.live = true
    · rw [if_pos h, if_pos h, En.shown_live h]
    · rw [if_neg h, if_neg h]
theorem Tb.sh_len (t : Tb) : t.sh.es.length = t.es.length := shw_len _
theorem Tb.sh_live (t : Tb) : t.sh.live = t.live := by
  show (shw t.es).length - deadN (shw t.es) = _
  rw [shw_len, deadN_shw]
  rfl
theorem shown_hash {es : List En} {n : Nat} (h : (nth es n).live = true) : nth (shw es) n = nth es n := by rw [nth_shw, En.shown_live h]
theorem sh_is (es : List En) (n : Nat) : (nth (shw es) n).live = (nth es n).live := by rw [nth_shw, En.shown_is]
theorem of_sh {es : List En} {u : Int} {n : Nat} : Of (shw es) u n ↔ Of es u n := by
  constructor
  · rintro ⟨h1, h2, h3⟩
    rw [sh_is] at h2
    rw [shown_hash h2] at h3
    exact ⟨by rw [shw_len] at h1; exact h1, h2, h3⟩
  · rintro ⟨h1, h2, h3⟩
    exact ⟨by rw [shw_len]; exact h1, by rw [sh_is]; exact h2, by rw [shown_hash h2]; exact h3⟩
theorem pos_sh {es : List En} {L : Nat} {c : Nat → Int} {n i : Nat} (hl : (nth es n).live = true) : Pos (shw es) L c n i ↔ Pos es L c n i := by
  unfold Pos
  rw [shown_hash hl]
theorem told_sh {es : List En} {L : Nat} {c : Nat → Int} {u : Int} {i : Nat} {last : Int} : Told (shw es) L c u i last ↔ Told es L c u i last := by
  constructor
  · intro h n hn p hp
    exact h n (of_sh.2 hn) p ((pos_sh hn.2.1).2 hp)
  · intro h n hn p hp
    exact h n (of_sh.1 hn) p ((pos_sh (of_sh.1 hn).2.1).1 hp)
theorem Inv.sh {es : List En} {L : Nat} {c : Nat → Int} (h : Inv es L c) : Inv (shw es) L c :=
  ⟨by rw [shw_len]; exact h.room, fun x hx => by
    rcases h.val x hx with a | a | ⟨n, a, b, d⟩
    · exact .inl a
    · exact .inr (.inl a)
    · exact .inr (.inr ⟨n, by rw [shw_len]; exact a, b, by rw [sh_is]; exact d⟩), h.inj, fun n hn hl => by
    rw [shw_len] at hn
    rw [sh_is] at hl
    obtain ⟨i, hi⟩ := h.pos n hn hl
    exact ⟨i, (pos_sh hl).2 hi⟩, by rw [shw_len]; exact h.used, by rw [deadN_shw]; exact h.dead⟩
theorem Tb.Ok.sh {t : Tb} (h : t.Ok) : t.sh.Ok := ⟨h.inv.sh, h.sz, by rw [t.sh_len]; exact h.few, h.all⟩
theorem Tb.sh_has (t : Tb) (n : Int) : t.sh.has n ↔ t.has n := by
  unfold Tb.has
  rw [t.sh_len]
  show _ ∧ _ ∧ (nth (shw t.es) n.toNat).live = true ↔ _
  rw [sh_is]
theorem shw_set (es : List En) (n : Nat) (e : En) : shw (es.set n e) = (shw es).set n e.shown := by
  unfold shw
  rw [List.map_set]
theorem Tb.sh_push (t : Tb) (u k v : Int) : (t.push u k v).sh = t.sh.push u k v := by
  unfold Tb.push Tb.sh
  simp only
  rw [shw_app, shw_len]
  rfl
theorem Tb.sh_re (t : Tb) (log : Nat) : (t.re log).sh = t.sh.re log := by
  unfold Tb.re Tb.sh
  simp only
  rw [liveL_sh, shw_all (liveL_live t.es)]
theorem Tb.sh_add (t : Tb) (u k v : Int) : (t.add u k v).sh = t.sh.add u k v := by
  unfold Tb.add
  rw [Tb.sh_push, t.sh_live, t.sh_len]
  by_cases h : t.es.length < rm (2 ^ t.L)
  · rw [if_pos h, if_pos (show t.es.length < rm (2 ^ t.sh.L) from h)]
  · rw [if_neg h, if_neg (show ¬ t.es.length < rm (2 ^ t.sh.L) from h), Tb.sh_re]
theorem Tb.sh_kill (t : Tb) (n : Nat) : (t.kill n).sh = t.sh.killz n := by
  unfold Tb.kill Tb.killz Tb.sh
  simp only
  rw [shw_set]
  rfl
theorem Tb.sh_putv (t : Tb) (n : Nat) (hl : (nth t.es n).live = true) (v : Int) : (t.putv n v).sh = t.sh.putv n v := by
  unfold Tb.putv Tb.sh
  simp only
  rw [shw_set, shown_hash hl, En.shown_live (by exact hl)]
theorem Tb.sh_clear (t : Tb) : t.clear.sh = t.sh.clear := rfl
end Go.Proofs.YtcbhpjpkjmlcnaaGreat
namespace Go.Proofs.YtcbhpjpkjmlcnaaGreat
open Go.RowKit Go.WideShapes

/-- The reference's cells: their log, their list at block q. -/
def rv (L q S : Nat) : Value := .agg #[.int .i64 (L : Int), .slice (some ⟨q, 0, none⟩) S S]
structure Rf (w : World) (q S : Nat) (f : Nat → Int) : Prop where
  hc : ∀ j, j < S → w.cell? ⟨q, j, none⟩ = some (.int .i64 (f j))
  hz : ∀ j, w.frozen? ⟨q, j, none⟩ = false
theorem Rf.same {w w' : World} {q S : Nat} {f : Nat → Int} (h : Rf w q S f) (e : w'.heap[q]? = w.heap[q]?) : Rf w' q S f :=
  ⟨fun j hj => (World.cell?_of_block (a := ⟨q, j, none⟩) e).trans (h.hc j hj), fun j => (World.frozen?_of_block (a := ⟨q, j, none⟩) e).trans (h.hz j)⟩
theorem Rf.lt {w : World} {q S : Nat} {f : Nat → Int} (h : Rf w q S f) (hS : 0 < S) : q < w.heap.size := lt_of_cell (h.hc 0 hS)
theorem Rf.below {w w' : World} {q S : Nat} {f : Nat → Int} (h : Rf w q S f) (hS : 0 < S) (hb : Below w.heap.size w w') : Rf w' q S f := h.same (hb.block _ (h.lt hS))
theorem Rf.put {w : World} {q S : Nat} {f : Nat → Int} (h : Rf w q S f) (i : Nat) (hi : i < S) (v : Int) : Rf (w.setCell ⟨q, i, none⟩ (.int .i64 v)) q S (upd f i v) := by
  refine ⟨fun j hj => ?_, fun j => by rw [World.frozen?_setCell]; exact h.hz j⟩
  unfold upd
  by_cases e : j = i
  · subst e
    rw [if_pos rfl]
    exact World.cell?_setCell_same' _ _ _ (by rw [h.hc j hj]; rfl)
  · rw [if_neg e, World.cell?_setCell_other _ _ _ _ (by intro he; injection he with h1 h2; exact e h2.symm)]
    exact h.hc j hj
theorem Rf.congr {w : World} {q S : Nat} {f f' : Nat → Int} (h : Rf w q S f) (e : ∀ j, j < S → f' j = f j) : Rf w q S f' :=
  ⟨fun j hj => by rw [e j hj]; exact h.hc j hj, h.hz⟩
theorem Tryz.infoInt : (Tryz.prog.info? 3).map (fun i => (i.zero, i.size, i.bytes)) = some (some (.int .i64 0), 1, 8) := by kernel_rfl

set_option maxRecDepth 100000 in
theorem rnew_no (l : Int) (hl : ¬ (3 ≤ l ∧ l ≤ 20)) (w : World) : Calls Tryz.prog 111 #[.int .i64 l] w fun e w' => e = .returned (.tuple #[.agg #[.int .i64 0, .slice none 0 0], .int .i64 1]) ∧ Below w.heap.size w w' := by
  have hb : Below w.heap.size w (w.alloc (.cells #[.int .i64 0, .slice none 0 0] 113)) := (Below.refl _ w).alloc (Nat.le_refl _) _
  have HB := Lib.hid hb
  clear hb
  by_cases i2 : l < 3
  case' neg => have i3 : 20 < l := by omega
  all_goals
    clear hl
    go_enter Tryz.func111, Tryz.ntmps111
    go_wp2
    refine bodyPost_ret (v := .tuple #[.agg #[.int .i64 0, .slice none 0 0], .int .i64 1]) ?_ rfl ⟨rfl, HB.out⟩
    simp [results, Tryz.results111, go_sem]
theorem cell_new0 (w : World) (a b : Value) (t : TypeId) : (w.alloc (.cells #[a, b] t)).cell? ⟨w.heap.size, 0, none⟩ = some a := by rw [World.cell?_alloc_at _ _ _ _ rfl]; rfl
theorem cell_new1 (w : World) (a b : Value) (t : TypeId) : (w.alloc (.cells #[a, b] t)).cell? ⟨w.heap.size, 1, none⟩ = some b := by rw [World.cell?_alloc_at _ _ _ _ rfl]; rfl
theorem put2_facts {w : World} {K : Nat} {u v : Value} (h0 : w.cell? ⟨K, 0, none⟩ = some u) (h1 : w.cell? ⟨K, 1, none⟩ = some v) (a b : Value) :
    ((w.setCell ⟨K, 0, none⟩ a).setCell ⟨K, 1, none⟩ b).cell? ⟨K, 0, none⟩ = some a ∧ ((w.setCell ⟨K, 0, none⟩ a).setCell ⟨K, 1, none⟩ b).cell? ⟨K, 1, none⟩ = some b ∧ But K w ((w.setCell ⟨K, 0, none⟩ a).setCell ⟨K, 1, none⟩ b) := by
  refine ⟨?_, ?_, ((But.refl K w).setCell 0 a).setCell 1 b⟩
  · rw [World.cell?_setCell_other _ _ _ _ (by intro he; injection he with _ h2; omega)]
    exact World.cell?_setCell_same' _ _ _ (by rw [h0]; rfl)
  · refine World.cell?_setCell_same' _ _ _ ?_
    rw [World.cell?_setCell_other _ _ _ _ (by intro he; injection he with _ h2; omega), h1]
    rfl
/-- A list of ints that was just made. -/
theorem rf_made {w1 : World} {B n g : Nat} (h : w1.ownsRow B 3 1 (.slice (some ⟨g, 0, none⟩) n n) n (madeCells (Value.int .i64 0).cells (n * 1)).toList) : Rf w1 g n (emp 0) := by
  refine ⟨fun j hj => ?_, fun j => h.frozenAt j⟩
  rw [h.cellAt j (by omega)]
  simp [madeCells, Value.cells, hj, Nat.mod_one, emp]
set_option maxRecDepth 100000 in
set_option maxHeartbeats 4000000 in
theorem rnew_any {L S : Nat} (hS : Sz L S) (w : World) : Calls Tryz.prog 111 #[.int .i64 (L : Int)] w fun e w' => ∃ q, e = .returned (.tuple #[rv L q S, .int .i64 0]) ∧ w.heap.size ≤ q ∧ Rf w' q S (fun _ => -1) ∧ Below w.heap.size w w' := by
  obtain ⟨i0, hi, hz0, hz1, hz2⟩ := info_parts Tryz.infoInt
  have hm := hS.most
  have hp := hS.pos
  have hle := hS.le
  have hge := hS.ge
  have h64 := hS.i64
  have i1 : ¬ (L : Int) < 3 := by omega
  have i2 : ¬ 20 < (L : Int) := by omega
  clear hS
  unfold rv
  obtain ⟨w1, hw1⟩ : ∃ w1, w.alloc (.cells #[.int .i64 0, .slice none 0 0] 113) = w1 := ⟨_, rfl⟩
  have k0 : w1.cell? ⟨w.heap.size, 0, none⟩ = some (.int .i64 0) := by rw [← hw1]; exact cell_new0 _ _ _ _
  have k1 : w1.cell? ⟨w.heap.size, 1, none⟩ = some (.slice none 0 0) := by rw [← hw1]; exact cell_new1 _ _ _ _
  have kz : ∀ j, w1.frozen? ⟨w.heap.size, j, none⟩ = false := by rw [← hw1]; exact fun j => World.frozen?_alloc_at _ _ _ _ rfl
  have hb1 : Below w.heap.size w w1 := by rw [← hw1]; exact (Below.refl _ w).alloc (Nat.le_refl _) _
  have hs1 : w1.heap.size = w.heap.size + 1 := by rw [← hw1]; simp
  go_enter Tryz.func111, Tryz.ntmps111
  go_upto_region 1 with fail
  clear hw1
  go_wp2_with (at_make; refine wpList_make_full _ rfl _ _ 70 rfl w1.heap.size 3 i0 (.int .i64 0) 1 Tryz.underlying70 hi hz0 hz1 .i64 .i64 _ _ S rfl rfl (by omega) (by omega) (by rw [hz2]; omega) (by unfold maxLen; omega) (Nat.le_refl _) ?_; intro w2 hown2 hgrow2; have hb2 : Below w1.heap.size w1 w2 := (Below.refl _ w1).grown hgrow2 (Nat.le_refl _) (fun k e => by cases e); have hr2 := rf_made hown2; clear hown2 hgrow2)
  rw [hs1] at hb2 hr2
  have hw2 : w.heap.size + 1 < w2.heap.size := hr2.lt (by omega)
  obtain ⟨w3, hw3⟩ : ∃ w3, w2.alloc (.cells #[.int .i64 (L : Int), .slice (some ⟨w.heap.size + 1, 0, none⟩) S S] 113) = w3 := ⟨_, rfl⟩
  have hb3 : Below w2.heap.size w2 w3 := by rw [← hw3]; exact (Below.refl _ w2).alloc (Nat.le_refl _) _
  have hs3 : w3.heap.size = w2.heap.size + 1 := by rw [← hw3]; simp
  have HM0 : Hid (w3.cell? ⟨w2.heap.size, 0, none⟩ = some (.int .i64 (L : Int))) := by show _ = _; rw [← hw3]; exact cell_new0 _ _ _ _
  have HM1 : Hid (w3.cell? ⟨w2.heap.size, 1, none⟩ = some (.slice (some ⟨w.heap.size + 1, 0, none⟩) S S)) := by show _ = _; rw [← hw3]; exact cell_new1 _ _ _ _
  have HR0 := Lib.hid (hr2.below (by omega) hb3)
  have hbK : Below (w.heap.size + 1) w1 w3 := hb2.trans (hb3.mono (by omega))
  have HK0 : Hid (w3.cell? ⟨w.heap.size, 0, none⟩ = some (.int .i64 0)) := (hbK.cell (p := ⟨w.heap.size, 0, none⟩) (by show w.heap.size < w.heap.size + 1; omega)).trans k0
  have HK1 : Hid (w3.cell? ⟨w.heap.size, 1, none⟩ = some (.slice none 0 0)) := (hbK.cell (p := ⟨w.heap.size, 1, none⟩) (by show w.heap.size < w.heap.size + 1; omega)).trans k1
  have HKZ : Hid (∀ j, w3.frozen? ⟨w.heap.size, j, none⟩ = false) := fun j => (World.frozen?_of_block (a := ⟨w.heap.size, j, none⟩) (hbK.block w.heap.size (by omega))).trans (kz j)
  have HB3 := Lib.hid (hb1.trans (hbK.mono (by omega)))
  rw [hw3]
  generalize w2.heap.size = M at *
  clear hw3 hb3 hbK hb2 hr2 k0 k1 kz hb1 hs1
  go_loopw [5] (fun iv wr => ∃ k : Nat, k ≤ S ∧ iv = .int .i64 (k : Int) ∧ Rf wr (w.heap.size + 1) S (emp k) ∧ But (w.heap.size + 1) w3 wr) (fun iv _ => S - (intOf iv).toNat)
  case atStart => exact ⟨0, Nat.zero_le _, rfl, HR0.out, But.refl _ _⟩
  case round =>
    clear HR0
    obtain ⟨k, hk, rfl, hR, hB⟩ := hrel
    have m0 := (hB.cell (p := ⟨M, 0, none⟩) (by show M < _; omega) (by show M ≠ _; omega)).trans HM0.out
    have m1 := (hB.cell (p := ⟨M, 1, none⟩) (by show M < _; omega) (by show M ≠ _; omega)).trans HM1.out
    by_cases hlt : k < S
    · have t1 : (k : Int) < (S : Int) := by omega
      have d1 := hR.hc k hlt
      have d2 := hR.hz k
      have HP := Lib.hid (hR.put k hlt (-1))
      rw [emp_upd] at HP
      have HPB := Lib.hid (hB.setCell k (.int .i64 (-1)))
      clear hR
      go_wp2_with fail
      go_roundw
      case rel => exact ⟨k + 1, by omega, by go_num, HP.out, HPB.out⟩
      case measure => simp [intOf]; omega
    · have t1 : ¬ (k : Int) < (S : Int) := by omega
      obtain rfl : k = S := by omega
      have c0 := (hB.cell (p := ⟨w.heap.size, 0, none⟩) (by show w.heap.size < _; omega) (by show w.heap.size ≠ _; omega)).trans HK0.out
      have c1 := (hB.cell (p := ⟨w.heap.size, 1, none⟩) (by show w.heap.size < _; omega) (by show w.heap.size ≠ _; omega)).trans HK1.out
      have z0 := (hB.frozen (p := ⟨w.heap.size, 0, none⟩) (by show w.heap.size < _; omega) (by show w.heap.size ≠ _; omega)).trans (HKZ.out 0)
      have z1 := (hB.frozen (p := ⟨w.heap.size, 1, none⟩) (by show w.heap.size < _; omega) (by show w.heap.size ≠ _; omega)).trans (HKZ.out 1)
      go_wp2_with fail
      obtain ⟨p0, p1, pb⟩ := put2_facts c0 c1 (.int .i64 (L : Int)) (.slice (some ⟨w.heap.size + 1, 0, none⟩) k k)
      have HRR := Lib.hid ((hR.congr (f' := fun _ => -1) (fun j hj => by unfold emp; rw [if_pos hj])).same (pb.block _ (hR.lt (by omega)) (by omega)))
      have HBB := Lib.hid ((HB3.out.trans (hB.below (B := w.heap.size) (by omega) (by omega))).trans (pb.below (Nat.le_refl _) (by have := hB.size; omega)))
      clear c0 c1 hR hB
      generalize World.setCell (World.setCell _ _ _) _ _ = wz at *
      refine bodyPost_ret (v := .tuple #[.agg #[.int .i64 (L : Int), .slice (some ⟨w.heap.size + 1, 0, none⟩) k k], .int .i64 0]) ?_ rfl ⟨_, rfl, by omega, HRR.out, HBB.out⟩
      simp [results, Tryz.results111, go_sem, p0, p1]
end Go.Proofs.YtcbhpjpkjmlcnaaGreat
namespace Go.Proofs.YtcbhpjpkjmlcnaaGreat
open Go.RowKit Go.WideShapes

/-- Its cells in memory. -/
def tF (ev : Value) (q : Nat) (t : Tb) (mv : Value) : Nat → Value
  | 0 => ev
  | 1 => .int .i64 (t.L : Int)
  | 2 => .slice (some ⟨q, 0, none⟩) (2 ^ t.L) (2 ^ t.L)
  | 3 => .int .i64 (t.live : Int)
  | 4 => .int .i64 (t.births : Int)
  | 5 => .int .i64 (t.made : Int)
  | 6 => .int .i64 (t.turn : Int)
  | _ => mv
structure Rt (w : World) (g : Nat) (ev : Value) (q : Nat) (t : Tb) (mv : Value) : Prop where
  hd : Blk w g 8 (tF ev q t mv)
  es : Es w ev t.es
  rf : Rf w q (2 ^ t.L) t.c
  ap : ∀ k, ev.ownBlock = some k → k ≠ g ∧ k ≠ q
  sz : 3 ≤ t.L ∧ t.L ≤ 20
  mp : ∀ k, mB mv k → k ≠ g ∧ k ≠ q ∧ ev.ownBlock ≠ some k
theorem Rt.gq {w : World} {g : Nat} {ev : Value} {q : Nat} {t : Tb} {mv : Value} (h : Rt w g ev q t mv) : g ≠ q := by
  intro e
  subst e
  have h1 := h.rf.hc 2 (Nat.lt_of_lt_of_le (by decide) (Nat.pow_le_pow_right (n := 2) (by decide) h.sz.1))
  have h2 : w.cell? ⟨g, 2, none⟩ = some (.slice (some ⟨g, 0, none⟩) (2 ^ t.L) (2 ^ t.L)) := h.hd.c 2 (by omega)
  rw [h2] at h1
  simp at h1
theorem Rt.same {w w' : World} {g : Nat} {ev : Value} {q : Nat} {t : Tb} {mv : Value} (h : Rt w g ev q t mv) (e : ∀ k, (k = g ∨ k = q ∨ ev.ownBlock = some k) → w'.heap[k]? = w.heap[k]?) : Rt w' g ev q t mv :=
  ⟨h.hd.same (e g (.inl rfl)), h.es.same fun k hk => e k (.inr (.inr hk)), h.rf.same (e q (.inr (.inl rfl))), h.ap, h.sz, h.mp⟩
theorem Rt.below {w w' : World} {g : Nat} {ev : Value} {q : Nat} {t : Tb} {mv : Value} (h : Rt w g ev q t mv) (hb : Below w.heap.size w w') : Rt w' g ev q t mv :=
  h.same fun k hk => hb.block k (by
    rcases hk with rfl | rfl | hk
    · exact h.hd.lt (by omega)
    · exact h.rf.lt (pow2_pos _)
    · exact h.es.lt k hk)
theorem Rt.trSz {w : World} {g : Nat} {ev : Value} {q : Nat} {t : Tb} {mv : Value} (h : Rt w g ev q t mv) : Tr.Sz t.L (2 ^ t.L) := ⟨rfl, h.sz.2⟩
set_option maxRecDepth 100000 in
set_option maxHeartbeats 4000000 in
/-- lay: the number goes into the first empty cell of the trail. -/
theorem rlay_any {w : World} {g q L : Nat} {c : Nat → Int} (hS : Tr.Sz L (2 ^ L)) (k1 : w.cell? ⟨g, 1, none⟩ = some (.int .i64 (L : Int))) (k2 : w.cell? ⟨g, 2, none⟩ = some (.slice (some ⟨q, 0, none⟩) (2 ^ L) (2 ^ L))) (hR : Rf w q (2 ^ L) c) (u : Int) (n : Int) {i : Nat} (hF : IsF c (uw u) L i) (hi : i < 2 ^ L + 13) :
    Calls Tryz.prog 95 #[.pointer (some ⟨g, 0, none⟩), .int .i64 u, .int .i64 n] w fun e w' => e = .returned (.tuple #[]) ∧ w' = w.setCell ⟨q, trl (uw u) L i, none⟩ (.int .i64 n) := by
  have C1 := Tr.rfirst_any u (L : Int) w
  rw [show Tr.firstZ u (L : Int) = ((trl (uw u) L 0 : Nat) : Int) by rw [Tr.firstZ_yes u hS, trl]] at C1
  have h1 := uw_int u
  have h2 := uw_lt u
  have HS := Lib.hid hS
  have HR := Lib.hid hR
  have HF := Lib.hid hF
  have hm := hS.most
  have HLT : Hid (∀ k, trl (uw u) L k < 2 ^ L) := fun k => trl_lt _ _ _
  have HT1 : Hid (∀ k, (trl (uw u) L k * 5 + uw u / 32 ^ k / 32 + 1) % 2 ^ L = trl (uw u) L (k + 1)) := fun k => by rw [trl, left_step]
  have HT4 : Hid (∀ k, uw u / 32 ^ k / 32 = uw u / 32 ^ (k + 1)) := fun k => left_step _ _
  have HT3 : Hid (∀ k, uw u / 32 ^ k < 18446744073709551616) := fun k => Nat.lt_of_le_of_lt (Nat.div_le_self _ _) h2
  clear hS hR hF
  generalize uw u = U at *
  generalize hSS : 2 ^ L = S at *
  clear hSS
  go_enter Tryz.func95, Tryz.ntmps95
  go_wp2_with fail
  refine C1.mono ?_
  rintro e w1 ⟨rfl, rfl⟩
  clear C1
  go_wp2_with fail
  go_loopg [6, 7] i (fun gk cv pv wr => ∃ k : Nat, k + gk = i ∧ cv = .int .i64 ((trl U L k : Nat) : Int) ∧ pv = .int .u64 ((U / 32 ^ k : Nat) : Int) ∧ wr = w1)
  case atStart => exact ⟨0, by omega, rfl, by simp, rfl⟩
  case round =>
    obtain ⟨k, hk, rfl, rfl, rfl⟩ := hrel
    have hlt := HLT.out k
    have d1 := HR.out.hc _ hlt
    have d2 := HR.out.hz (trl U L k)
    have HX1 := Lib.hid (HT1.out k)
    have HX4 := Lib.hid (HT4.out k)
    have hp64 := HT3.out k
    by_cases he : c (trl U L k) = -1
    · obtain rfl : k = i := (show IsF c U L k from ⟨he, fun j hj => HF.out.2 j (by omega)⟩).uniq HF.out
      rw [he] at d1
      generalize hx : trl U L k = x at *
      have HX := Lib.hid hx
      have t1 : (x : Int) < (S : Int) := by omega
      clear he hx
      go_wp2
      go_end0
      exact ⟨rfl, by rw [HX.out]⟩
    · have hki : k < i := by
        rcases Nat.lt_or_ge k i with z | z
        · exact z
        · exact absurd (by rw [show k = i by omega]; exact HF.out.1) he
      have N1 := Tr.next_any HS.out (trl U L k) (U / 32 ^ k) hlt hp64 wr
      rw [HX1.out, HX4.out] at N1
      have t2 : (c (trl U L k) != -1) = true := by simp [he]
      generalize c (trl U L k) = y at *
      generalize hx : trl U L k = x at *
      generalize hx1 : trl U L (k + 1) = x1 at *
      generalize hp0 : U / 32 ^ k = p0 at *
      generalize hp1 : U / 32 ^ (k + 1) = p1 at *
      have HE1 := Lib.hid hx1
      have HE2 := Lib.hid hp1
      have t1 : (x : Int) < (S : Int) := by omega
      clear hx hx1 hp0 hp1 he
      go_wp2_with fail
      refine N1.mono ?_
      rintro e w2 ⟨rfl, rfl⟩
      go_wp2_with fail
      go_roundg (i - (k + 1))
      case measure => omega
      case rel => exact ⟨k + 1, by omega, by rw [HE1.out], by rw [HE2.out], rfl⟩
end Go.Proofs.YtcbhpjpkjmlcnaaGreat
namespace Go.Proofs.YtcbhpjpkjmlcnaaGreat
open Go.RowKit Go.WideShapes

/-- What is counted, where there are counts. -/
def four4 (a b c d : Int) : Nat → Value
  | 0 => .int .i64 a
  | 1 => .int .i64 b
  | 2 => .int .i64 c
  | _ => .int .i64 d
def Ms (w : World) (mv : Value) (a b c d : Int) : Prop := mv = .pointer none ∨ ∃ m, mv = .pointer (some ⟨m, 0, none⟩) ∧ Blk w m 4 (four4 a b c d)
theorem Ms.same {w w' : World} {mv : Value} {a b c d : Int} (h : Ms w mv a b c d) (e : ∀ k, mB mv k → w'.heap[k]? = w.heap[k]?) : Ms w' mv a b c d := by
  rcases h with h | ⟨m, h1, h2⟩
  · exact .inl h
  · exact .inr ⟨m, h1, h2.same (e m h1)⟩
theorem Ms.lt {w : World} {mv : Value} {a b c d : Int} (h : Ms w mv a b c d) : ∀ k, mB mv k → k < w.heap.size := by
  intro k hk
  rcases h with h | ⟨m, h1, h2⟩
  · rw [mB, h] at hk; cases hk
  · rw [mB, h1] at hk
    cases hk
    exact h2.lt (by omega)
theorem Ms.below {w w' : World} {mv : Value} {a b c d : Int} (h : Ms w mv a b c d) (hb : Below w.heap.size w w') : Ms w' mv a b c d := h.same fun k hk => hb.block k (h.lt k hk)
/-- The head of a table, its cells turned. -/
def setI (F : Nat → Value) (L q made : Nat) : Nat → Value
  | 1 => .int .i64 (L : Int)
  | 2 => .slice (some ⟨q, 0, none⟩) (2 ^ L) (2 ^ L)
  | 5 => .int .i64 ((made : Int) + 1)
  | j => F j
set_option maxRecDepth 100000 in
set_option maxHeartbeats 4000000 in
theorem rindex_any {w : World} {g L made : Nat} {F : Nat → Value} {mv : Value} {a b c d : Int} (hS : Sz L (2 ^ L)) (hB : Blk w g 8 F) (h5 : F 5 = .int .i64 (made : Int)) (h7 : F 7 = mv) (hM : Ms w mv a b c d) (hg : ∀ k, mB mv k → k ≠ g) (hm : made ≤ 1000000) (ha : 0 ≤ a ∧ a ≤ 1000000000) :
    Calls Tryz.prog 89 #[.pointer (some ⟨g, 0, none⟩), .int .i64 (L : Int)] w fun e w' => e = .returned (.tuple #[]) ∧ ∃ q, w.heap.size ≤ q ∧ Blk w' g 8 (setI F L q made) ∧ Rf w' q (2 ^ L) (fun _ => -1) ∧ Ms w' mv (a + 1) b c d ∧ Ex (fun k => k = g ∨ mB mv k) w w' := by
  have C1 := rnew_any hS w
  have hge := hB.lt (by omega)
  have hlm := hM.lt
  generalize hSS : 2 ^ L = S at *
  go_enter Tryz.func89, Tryz.ntmps89
  go_wp2_with fail
  refine C1.mono ?_
  rintro e w1 ⟨q, rfl, hq, hR, hb1⟩
  clear C1
  have hB1 := hB.same (hb1.block g hge)
  have f1 := hB1.c 1 (by omega)
  have f2 := hB1.c 2 (by omega)
  have f5 := hB1.c 5 (by omega)
  have z1 := hB1.z 1
  have z2 := hB1.z 2
  have z5 := hB1.z 5
  rw [h5] at f5
  have hM1 := hM.below hb1
  have e1 : IntKind.i64.wrap ((made : Int) + 1) = (made : Int) + 1 := i64_small (by omega) (by omega)
  have e2 : IntKind.i64.wrap (a + 1) = a + 1 := i64_small (by omega) (by omega)
  have hB2 := (((hB1.put 1 (.int .i64 (L : Int))).put 2 (.slice (some ⟨q, 0, none⟩) S S)).put 5 (.int .i64 ((made : Int) + 1))).congr (F' := setI F L q made) (fun j hj => by
    subst hSS
    have : j = 0 ∨ j = 1 ∨ j = 2 ∨ j = 3 ∨ j = 4 ∨ j = 5 ∨ j = 6 ∨ j = 7 := by omega
    rcases this with rfl | rfl | rfl | rfl | rfl | rfl | rfl | rfl <;> rfl)
  have hX2 : Ex (fun k => k = g ∨ mB mv k) w (((w1.setCell ⟨g, 1, none⟩ (.int .i64 (L : Int))).setCell ⟨g, 2, none⟩ (.slice (some ⟨q, 0, none⟩) S S)).setCell ⟨g, 5, none⟩ (.int .i64 ((made : Int) + 1))) :=
    (((ex_of hb1).setCell (p := ⟨g, 1, none⟩) (fun _ => .inl rfl) _).setCell (p := ⟨g, 2, none⟩) (fun _ => .inl rfl) _).setCell (p := ⟨g, 5, none⟩) (fun _ => .inl rfl) _
  have hk : ∀ k, k ≠ g → (((w1.setCell ⟨g, 1, none⟩ (.int .i64 (L : Int))).setCell ⟨g, 2, none⟩ (.slice (some ⟨q, 0, none⟩) S S)).setCell ⟨g, 5, none⟩ (.int .i64 ((made : Int) + 1))).heap[k]? = w1.heap[k]? := fun k hk => by
    rw [Below.heap_setCell _ _ _ _ hk, Below.heap_setCell _ _ _ _ hk, Below.heap_setCell _ _ _ _ hk]
  have hR2 := hR.same (hk q (by omega))
  have hM2 := hM1.same fun k hm => hk k (hg k hm)
  have HB2 := Lib.hid hB2
  have HX2 := Lib.hid hX2
  have HR2 := Lib.hid hR2
  clear hB2 hX2 hk hR2 hR hM1 hB1 hB hM
  unfold rv
  go_upto_region 2 with fail
  generalize World.setCell (World.setCell (World.setCell _ _ _) _ _) _ _ = w2 at HB2 HX2 HR2 hM2 ⊢
  clear f1 f2 f5 z1 z2 z5 hb1
  have f7 : w2.cell? ⟨g, 7, none⟩ = some mv := by rw [← h7]; exact HB2.out.c 7 (by omega)
  rcases hM2 with rfl | ⟨m, rfl, hMb⟩
  · go_wp2
    go_end0
    exact ⟨rfl, q, hq, HB2.out, HR2.out, .inl rfl, HX2.out⟩
  · have c0 : w2.cell? ⟨m, 0, none⟩ = some (.int .i64 a) := hMb.c 0 (by omega)
    have z0 := hMb.z 0
    have hmg : m ≠ g := hg m rfl
    have hmq : m ≠ q := by have := hlm m rfl; omega
    have HM3 : Hid (Blk (w2.setCell ⟨m, 0, none⟩ (.int .i64 (a + 1))) m 4 (four4 (a + 1) b c d)) := (hMb.put 0 _).congr (fun j hj => by
      have : j = 0 ∨ j = 1 ∨ j = 2 ∨ j = 3 := by omega
      rcases this with rfl | rfl | rfl | rfl <;> rfl)
    have HB3 := Lib.hid (HB2.out.same (w' := w2.setCell ⟨m, 0, none⟩ (.int .i64 (a + 1))) (Below.heap_setCell _ _ _ _ (fun e => hmg e.symm)))
    have HR3 := Lib.hid (HR2.out.same (w' := w2.setCell ⟨m, 0, none⟩ (.int .i64 (a + 1))) (Below.heap_setCell _ _ _ _ (fun e => hmq e.symm)))
    have HX3 := Lib.hid (HX2.out.setCell (p := ⟨m, 0, none⟩) (fun _ => .inr rfl) (.int .i64 (a + 1)))
    clear hMb
    go_wp2
    go_end0
    exact ⟨rfl, q, hq, HB3.out, HR3.out, .inr ⟨m, rfl, HM3.out⟩, HX3.out⟩
end Go.Proofs.YtcbhpjpkjmlcnaaGreat
namespace Go.Proofs.YtcbhpjpkjmlcnaaGreat
open Go.RowKit Go.WideShapes

set_option maxRecDepth 100000 in
theorem rtnew_any {w : World} {mv : Value} {a b c d : Int} (hM : Ms w mv a b c d) (ha : 0 ≤ a ∧ a ≤ 1000000000) :
    Calls Tryz.prog 63 #[mv] w fun e w' => ∃ g q, e = .returned (.pointer (some ⟨g, 0, none⟩)) ∧ w.heap.size ≤ g ∧ w.heap.size ≤ q ∧ Rt w' g (.slice none 0 0) q Tb.new mv ∧ Ms w' mv (a + 1) b c d ∧ Ex (mB mv) w w' := by
  obtain ⟨pm, rfl⟩ : ∃ pm, mv = .pointer pm := by
    rcases hM with h | ⟨m, h, _⟩
    · exact ⟨_, h⟩
    · exact ⟨_, h⟩
  obtain ⟨w1, hw1⟩ : ∃ w1, w.alloc (.cells #[.slice none 0 0, .int .i64 0, .slice none 0 0, .int .i64 0, .int .i64 0, .int .i64 0, .int .i64 0, .pointer pm] 115) = w1 := ⟨_, rfl⟩
  have hB1 : Blk w1 w.heap.size 8 (fun j => #[Value.slice none 0 0, .int .i64 0, .slice none 0 0, .int .i64 0, .int .i64 0, .int .i64 0, .int .i64 0, .pointer pm].getD j .nilFunc) := by rw [← hw1]; exact Blk.new w _ _
  have hb1 : Below w.heap.size w w1 := by rw [← hw1]; exact (Below.refl _ w).alloc (Nat.le_refl _) _
  have hs1 : w1.heap.size = w.heap.size + 1 := by rw [← hw1]; simp
  have hlm := hM.lt
  have C1 := rindex_any (L := 3) (made := 0) ⟨rfl, by decide, by decide⟩ hB1 rfl rfl (hM.below hb1) (fun k hk => by have := hlm k hk; omega) (by decide) ha
  have C1' : Calls Tryz.prog 89 #[.pointer (some ⟨w.heap.size, 0, none⟩), .int .i64 3] w1 _ := C1
  have HX : Hid (Ex (mB (.pointer pm)) w w1) := ex_of hb1
  clear C1 hB1 hb1
  go_enter Tryz.func63, Tryz.ntmps63
  go_wp2_with fail
  refine C1'.mono ?_
  rintro e w2 ⟨rfl, q, hq, hB, hR, hM2, hX⟩
  clear C1'
  have HR : Hid (Rt w2 w.heap.size (.slice none 0 0) q Tb.new (.pointer pm)) := ⟨hB.congr (fun j hj => by
      have : j = 0 ∨ j = 1 ∨ j = 2 ∨ j = 3 ∨ j = 4 ∨ j = 5 ∨ j = 6 ∨ j = 7 := by omega
      rcases this with rfl | rfl | rfl | rfl | rfl | rfl | rfl | rfl <;> rfl), Es.nil _, hR, (fun k hk => by cases hk), (by show 3 ≤ 3 ∧ 3 ≤ 20; omega), fun k hk => ⟨by have := hlm k hk; omega, by have := hlm k hk; omega, by simp [Value.ownBlock]⟩⟩
  have HXX := Lib.hid (HX.out.next hX (fun k hk h => h.elim (fun e => by omega) id))
  have HM := Lib.hid hM2
  clear hB hR hM2 hX
  go_wp2
  go_ret
  exact ⟨_, q, rfl, Nat.le_refl _, by omega, HR.out, HM.out, HXX.out⟩
set_option maxRecDepth 100000 in
set_option maxHeartbeats 8000000 in
/-- all: a new index table, the dead entries dropped, the live ones laid anew. -/
theorem rall7_any {w : World} {g : Nat} {ev : Value} {q : Nat} {t : Tb} {mv : Value} {a b c d : Int} {log : Nat} (hR : Rt w g ev q t mv) (hM : Ms w mv a b c d) (hm : t.made ≤ 1000000) (ha : 0 ≤ a ∧ a ≤ 1000000000) (hn : t.es.length ≤ 100000) (h3 : 3 ≤ log) (h20 : log ≤ 20) (hr : t.live ≤ rm (2 ^ log)) :
    Calls Tryz.prog 94 #[.pointer (some ⟨g, 0, none⟩), .int .i64 (log : Int)] w fun e w' => e = .returned (.tuple #[]) ∧ ∃ ev' q', w.heap.size ≤ q' ∧ (∀ k, ev'.ownBlock = some k → w.heap.size ≤ k) ∧ Rt w' g ev' q' (t.re log) mv ∧ Ms w' mv (a + 1) b c d ∧ Ex (fun k => k = g ∨ mB mv k) w w' := by
  obtain ⟨i0, hi, hz0, hz1, hz2⟩ := info_parts Tryz.infoEn
  have C1 := rindex_any (L := log) ⟨rfl, h3, h20⟩ hR.hd (made := t.made) rfl rfl hM (fun k hk => (hR.mp k hk).1) hm ha
  have lg := hR.hd.lt (by omega)
  have hlm := hM.lt
  obtain ⟨ae, cape, ge, ev1, hpe, hro⟩ := hR.es.open
  have hlv := t.live_eq
  have hll : (liveL t.es).length ≤ t.es.length := by have := liveL_len t.es; omega
  have hcape := hro.le
  have HPE : Hid (0 < t.es.length → ae = some ⟨ge, 0, none⟩ ∧ ge < w.heap.size ∧ ge ≠ g ∧ ¬ mB mv ge) := by
    intro h0
    obtain ⟨h1, h2, _⟩ := hpe h0
    exact ⟨h1, hR.es.lt ge h2, (hR.ap ge h2).1, fun hb => (hR.mp ge hb).2.2 h2⟩
  have HRO := Lib.hid hro
  have HRT := Lib.hid hR
  clear hR hro hpe hM
  subst ev1
  go_enter Tryz.func94, Tryz.ntmps94
  go_wp2_with fail
  refine C1.mono ?_
  rintro e w1 ⟨rfl, q', hq', hB1, hR1, hM1, hX1⟩
  clear C1
  have hsz1 := hX1.size
  have HRO1 : Hid (0 < t.es.length → ae = some ⟨ge, 0, none⟩ ∧ ge < w1.heap.size ∧ Ro w1 ge t.es.length cape t.es) := by
    intro h0
    obtain ⟨h1, h2, h3, h4⟩ := HPE.out h0
    have e := hX1.block ge h2 (fun x => x.elim h3 h4)
    have key : ∀ o, w1.cell? ⟨ge, o, none⟩ = w.cell? ⟨ge, o, none⟩ := fun o => World.cell?_of_block (a := ⟨ge, o, none⟩) e
    exact ⟨h1, by omega, HRO.out.le, fun n hn => (key _).trans (HRO.out.c0 n hn), fun n hn => (key _).trans (HRO.out.c1 n hn), fun n hn => (key _).trans (HRO.out.c2 n hn), fun n hn => (key _).trans (HRO.out.c3 n hn), fun n hn => (key _).trans (HRO.out.c4 n hn)⟩
  have HB1 := Lib.hid hB1
  have HR1 := Lib.hid hR1
  have HM1 := Lib.hid hM1
  have HX1 := Lib.hid hX1
  have lg1 := hB1.lt (by omega)
  clear hB1 hR1 hM1 hX1 HRO HPE
  go_wp2_with fail
  go_loopw [4, 5] (fun lv iv wr => ∃ k : Nat, k ≤ t.es.length ∧ iv = .int .i64 (k : Int) ∧ EsB w1.heap.size wr lv (liveL (t.es.take k)) ∧ Below w1.heap.size w1 wr) (fun _ iv _ => t.es.length - (intOf iv).toNat)
  case atStart => exact ⟨0, Nat.zero_le _, rfl, ⟨rfl, Or.inl ⟨rfl, rfl⟩⟩, Below.refl _ _⟩
  case round =>
    obtain ⟨k, hk, rfl, hE, hB⟩ := hrel
    have hBr := HB1.out.of hB (by omega)
    have f0 : wr.cell? ⟨g, 0, none⟩ = some (.slice ae t.es.length cape) := hBr.c 0 (by omega)
    by_cases hlt : k < t.es.length
    · have t1 : (k : Int) < (t.es.length : Int) := by omega
      obtain ⟨ea, lge, hro⟩ := HRO1.out (by omega)
      subst ea
      have key : ∀ o, wr.cell? ⟨ge, o, none⟩ = w1.cell? ⟨ge, o, none⟩ := fun o => hB.cell (p := ⟨ge, o, none⟩) lge
      have d0 := (key _).trans (hro.c0 k hlt)
      have d1 := (key _).trans (hro.c1 k hlt)
      have d2 := (key _).trans (hro.c2 k hlt)
      have d3 := (key _).trans (hro.c3 k hlt)
      have d4 := (key _).trans (hro.c4 k hlt)
      have HTK := Lib.hid (liveL_take hlt)
      clear hro key
      cases hlive : (nth t.es k).live with
      | true =>
        have hown : wr.ownsRow w1.heap.size 107 5 u4 (liveL (t.es.take k)).length (enl (liveL (t.es.take k))) := hE
        have hlk : (liveL (t.es.take k)).length ≤ k := by have := liveL_len (t.es.take k); rw [List.length_take] at this; omega
        have FIN : Hid (∀ (v' : Value) (w5 : World), w5.ownsRow w1.heap.size 107 5 v' ((liveL (t.es.take k)).length + 1) (enl (liveL (t.es.take k)) ++ enc5 (nth t.es k)) → EsB w1.heap.size w5 v' (liveL (t.es.take (k + 1)))) := fun v' w5 h5 => by
          rw [HTK.out, if_pos hlive]
          exact EsB.snoc h5
        have NF : Hid (∀ j u, (enc5 (nth t.es k))[j]? = some u → (wr.alloc (.cells #[.bool (nth t.es k).live, .int .i64 (nth t.es k).hash, .int .i64 (nth t.es k).key, .int .i64 (nth t.es k).value, .int .i64 (nth t.es k).birth] 107)).cell? (Addr.add ⟨wr.heap.size, 0, none⟩ j) = some u) := new_five _ _ _
        have HE5 : Hid ((enc5 (nth t.es k)).length = 5 ∧ ∀ u ∈ enc5 (nth t.es k), u.oneCell' = true) := ⟨rfl, fun u hu => enl_one [nth t.es k] u (by simpa [enl] using hu)⟩
        have HRL : Hid ((enl (liveL (t.es.take k))).length = (liveL (t.es.take k)).length * 5) := enl_len _
        rw [hlive] at d0 NF
        have hsz := hB.size
        clear hE
        generalize enc5 (nth t.es k) = E5 at FIN NF HE5
        generalize enl (liveL (t.es.take k)) = R at hown FIN HRL
        generalize (liveL (t.es.take k)).length = m at hown FIN hlk HRL
        generalize (nth t.es k).hash = x1 at *
        generalize (nth t.es k).key = x2 at *
        generalize (nth t.es k).value = x3 at *
        generalize (nth t.es k).birth = x4 at *
        clear hlive HTK
        go_wp2_with (at_builtin; refine wpList_append_own _ rfl _ _ 71 rfl w1.heap.size 107 i0 (.agg #[.bool false, .int .i64 0, .int .i64 0, .int .i64 0, .int .i64 0]) 5 40 Tryz.underlying71 hi hz0 hz1 hz2 rfl (by decide) _ _ _ rfl (World.ownsRow.alloc hown _) ⟨wr.heap.size, 0, none⟩ 1 1 E5 rfl HE5.out.1 NF.out HE5.out.2 (by unfold maxLen; omega) (by omega) (by simp; omega) ?_; intro v' w5 hown2 hgrow _; have hI2 := Lib.hid (FIN.out v' w5 hown2); have hb5 := below_grown5 hB (Nat.le_refl _) hown hgrow; clear hgrow hown2)
        go_roundw
        case rel => exact ⟨k + 1, by omega, by go_num, hI2.out, hb5⟩
        case measure => simp [intOf]; omega
      | false =>
        rw [hlive] at d0
        have HE : Hid (EsB w1.heap.size wr u4 (liveL (t.es.take (k + 1)))) := by
          show EsB _ _ _ _
          rw [HTK.out, if_neg (by rw [hlive]; simp)]
          exact hE
        clear hE hlive HTK
        go_wp2_with fail
        go_roundw
        case rel => exact ⟨k + 1, by omega, by go_num, HE.out, hB⟩
        case measure => simp [intOf]; omega
    · have t1 : ¬ (k : Int) < (t.es.length : Int) := by omega
      obtain rfl : k = t.es.length := by omega
      rw [List.take_length] at hE
      have z0 := hBr.z 0
      have hEs := hE.es
      have hgeE := hE.ge
      obtain ⟨al, capl, gl, evl, hpl, hrol⟩ := hEs.open
      have lq1 := HR1.out.lt (pow2_pos log)
      have hBp := (hBr.put 0 u4).congr (F' := tF u4 q' (t.re log) mv) (fun j hj => by
        have : j = 0 ∨ j = 1 ∨ j = 2 ∨ j = 3 ∨ j = 4 ∨ j = 5 ∨ j = 6 ∨ j = 7 := by omega
        rcases this with rfl | rfl | rfl | rfl | rfl | rfl | rfl | rfl
        · rfl
        · rfl
        · rfl
        · show Value.int .i64 (((t.re log).live : Nat) : Int) = Value.int .i64 ((t.live : Nat) : Int)
          have h1 : (t.re log).live = (liveL t.es).length - deadN (liveL t.es) := rfl
          rw [h1, deadN_live _ (liveL_live _), hlv, Nat.sub_zero]
        · rfl
        · rfl
        · rfl
        · rfl)
      have hother : ∀ k, k ≠ g → (wr.setCell ⟨g, 0, none⟩ u4).heap[k]? = wr.heap[k]? := fun k hk => Below.heap_setCell _ _ _ _ hk
      have hRp := (HR1.out.below (pow2_pos log) hB).same (hother q' (by omega))
      have hEp : Es (wr.setCell ⟨g, 0, none⟩ u4) u4 (liveL t.es) := hEs.same fun k hk => hother k (by have := hgeE k hk; omega)
      have hMp := (HM1.out.below hB).same fun k hk => hother k (HRT.out.mp k hk).1
      have hXp : Ex (fun k => k = g ∨ mB mv k) w (wr.setCell ⟨g, 0, none⟩ u4) := (HX1.out.next (ex_of (X := fun _ => False) hB) (fun _ _ h => h.elim)).setCell (p := ⟨g, 0, none⟩) (fun _ => .inl rfl) _
      have HBP := Lib.hid hBp
      have HRP := Lib.hid hRp
      have HEP := Lib.hid hEp
      have HMP := Lib.hid hMp
      have HXP := Lib.hid hXp
      have HGE := Lib.hid hgeE
      have hszr := hB.size
      clear hBp hRp hEp hMp hXp hgeE hother hEs hE hpl hrol hBr hB HB1 HR1 HM1 HX1 HRO1
      subst evl
      go_upto_region 9 with fail
      generalize World.setCell _ _ _ = w2 at *
      clear f0 z0
      obtain ⟨al', capl', gl', evl', hpl, hrol⟩ := HEP.out.open
      cases evl'
      have HROL := Lib.hid hrol
      have HPL := Lib.hid hpl
      have hcl := hrol.le
      have HLI : Hid (∀ n, n < (liveL t.es).length → Inv ((liveL t.es).take n) log (layN (liveL t.es) log n)) := fun n hn => layN_inv (liveL t.es) log (fun n hn => liveL_nth _ n hn) (by omega) n (by omega)
      have HLS : Hid (∀ n i, IsF (layN (liveL t.es) log n) (uw (nth (liveL t.es) n).hash) log i → upd (layN (liveL t.es) log n) (trl (uw (nth (liveL t.es) n).hash) log i) (n : Int) = layN (liveL t.es) log (n + 1)) := fun n i hf => by rw [layN, layc, fidx_eq hf]
      have HR0 : Hid (Rf w2 q' (2 ^ log) (layN (liveL t.es) log 0)) := HRP.out
      have HRE : Hid (∀ wz, Blk wz g 8 (tF (.slice al (liveL t.es).length capl) q' (t.re log) mv) → Es wz (.slice al (liveL t.es).length capl) (liveL t.es) → Rf wz q' (2 ^ log) (layN (liveL t.es) log (liveL t.es).length) → Rt wz g (.slice al (liveL t.es).length capl) q' (t.re log) mv) := fun wz h1 h2 h3' => ⟨h1, h2, h3', fun k hk => ⟨by have := HGE.out k hk; omega, by have := HGE.out k hk; omega⟩, ⟨h3, h20⟩, fun k hk => ⟨(HRT.out.mp k hk).1, by have := hlm k hk; omega, fun h => by have := HGE.out k h; have := hlm k hk; omega⟩⟩
      clear hpl hrol
      generalize hLL : liveL t.es = ll at *
      go_loopw [6] (fun iv wr => ∃ k : Nat, k ≤ ll.length ∧ iv = .int .i64 (k : Int) ∧ Rf wr q' (2 ^ log) (layN ll log k) ∧ But q' w2 wr) (fun iv _ => ll.length - (intOf iv).toNat)
      case atStart => exact ⟨0, Nat.zero_le _, rfl, HR0.out, But.refl _ _⟩
      case round =>
        obtain ⟨k, hk, rfl, hRk, hBk⟩ := hrel
        by_cases hlt : k < ll.length
        · have t2 : (k : Int) < (ll.length : Int) := by omega
          obtain ⟨ea, hob, _⟩ := HPL.out (by omega)
          have hgl := HGE.out _ hob
          have lgl := HEP.out.lt _ hob
          cases ea
          have d1 := (hBk.cell (p := ⟨gl', k * 5 + 1, none⟩) lgl (by show gl' ≠ q'; omega)).trans (HROL.out.c1 k hlt)
          have hBz := HBP.out.same (hBk.block g (HBP.out.lt (by omega)) (by omega))
          have k1 : wr.cell? ⟨g, 1, none⟩ = some (.int .i64 (log : Int)) := hBz.c 1 (by omega)
          have k2 : wr.cell? ⟨g, 2, none⟩ = some (.slice (some ⟨q', 0, none⟩) (2 ^ log) (2 ^ log)) := hBz.c 2 (by omega)
          obtain ⟨i, hil, hif⟩ := (HLI.out k hlt).first (nth ll k).hash
          have CL := rlay_any (n := (k : Int)) ⟨rfl, h20⟩ k1 k2 hRk (nth ll k).hash hif hil
          have HP := Lib.hid (hRk.put _ (trl_lt (uw (nth ll k).hash) log i) (k : Int))
          rw [HLS.out k i hif] at HP
          have HPB := Lib.hid (hBk.setCell (trl (uw (nth ll k).hash) log i) (.int .i64 (k : Int)))
          clear hRk hBk hBz k1 k2 hif
          generalize World.setCell _ _ _ = wz at CL HP HPB
          generalize (nth ll k).hash = u at *
          go_wp2_with fail
          refine CL.mono ?_
          rintro e w6 ⟨rfl, rfl⟩
          clear CL
          go_wp2_with fail
          go_roundw
          case rel => exact ⟨k + 1, by omega, by go_num, HP.out, HPB.out⟩
          case measure => simp [intOf]; omega
        · have t2 : ¬ (k : Int) < (ll.length : Int) := by omega
          obtain rfl : k = ll.length := by omega
          have hbl : ∀ j, j < w2.heap.size → j ≠ q' → wr.heap[j]? = w2.heap[j]? := fun j h1 h2 => hBk.block j h1 h2
          have HF := Lib.hid (HRE.out wr (HBP.out.same (hbl g (HBP.out.lt (by omega)) (by omega))) (HEP.out.same fun k hk => hbl k (HEP.out.lt k hk) (by have := HGE.out k hk; omega)) hRk)
          have HMF := Lib.hid (HMP.out.same fun k hk => hbl k (HMP.out.lt k hk) (by have := hlm k hk; omega))
          have HXF := Lib.hid (HXP.out.next hBk.ex (fun k hk h => by omega))
          clear hRk hBk hbl
          go_wp2
          go_end0
          exact ⟨rfl, _, q', hq', fun k hk => by have := HGE.out k hk; omega, HF.out, HMF.out, HXF.out⟩
end Go.Proofs.YtcbhpjpkjmlcnaaGreat
