/-
  A dictionary in memory, and what its inner calls do.
-/
import Derived.Test.YtooneobnfepncaaGreatDtPut
import Derived.Test.YtooneobnfepncaaGreatDtKill
import Derived.Test.YtooneobnfepncaaGreatDtSight
import Derived.Test.YtooneobnfepncaaGreatDtCp
namespace Go.Proofs.YtooneobnfepncaaGreat
open Go.RowKit Go.WideShapes

/-- A dictionary's cells: its table, how many pairs it may have, its version. -/
def dcF (g : Nat) (most : Int) (v : Nat) : Nat → Value
  | 0 => .pointer (some ⟨g, 0, none⟩)
  | 1 => .int .i64 most
  | _ => .int .u64 (v : Int)
structure Dc (w : World) (d g gi r h : Nat) (ev : Value) (t : Tb) (mv : Value) (most : Int) (v : Nat) : Prop where
  hd : Blk w d 3 (dcF g most v)
  dt : Dt w g gi r h ev t mv
  ok : t.Ok
  ne : ¬ dX g gi r h ev d
  nm : ¬ mB mv d
/-- The blocks of a dictionary. -/
def cX (d g gi r h : Nat) (ev : Value) (k : Nat) : Prop := k = d ∨ dX g gi r h ev k
theorem Dc.same {w w' : World} {d g gi r h : Nat} {ev : Value} {t : Tb} {mv : Value} {most : Int} {v : Nat} (x : Dc w d g gi r h ev t mv most v) (e : ∀ k, cX d g gi r h ev k → w'.heap[k]? = w.heap[k]?) : Dc w' d g gi r h ev t mv most v :=
  ⟨x.hd.same (e d (.inl rfl)), x.dt.same fun k hk => e k (.inr hk), x.ok, x.ne, x.nm⟩
theorem Dc.lt {w : World} {d g gi r h : Nat} {ev : Value} {t : Tb} {mv : Value} {most : Int} {v : Nat} (x : Dc w d g gi r h ev t mv most v) : ∀ k, cX d g gi r h ev k → k < w.heap.size := by
  rintro k (rfl | hk)
  · exact x.hd.lt (by omega)
  · exact x.dt.lt k hk
theorem Dc.below {w w' : World} {d g gi r h : Nat} {ev : Value} {t : Tb} {mv : Value} {most : Int} {v : Nat} (x : Dc w d g gi r h ev t mv most v) (hb : Below w.heap.size w w') : Dc w' d g gi r h ev t mv most v := x.same fun k hk => hb.block k (x.lt k hk)
theorem eqD (d : Nat) (w : World) : (binOp .eql 53 (.pointer (some ⟨d, 0, none⟩)) (.pointer none)).run Tryz.prog w = .ok (.bool false) w := by kernel_rfl
theorem eqTb (g : Nat) (w : World) : (binOp .eql 55 (.pointer (some ⟨g, 0, none⟩)) (.pointer none)).run Tryz.prog w = .ok (.bool false) w := by kernel_rfl
theorem kept_yes {w : World} {d g : Nat} (k0 : w.cell? ⟨d, 0, none⟩ = some (.pointer (some ⟨g, 0, none⟩))) :
    Calls Tryz.prog 37 #[.pointer (some ⟨d, 0, none⟩)] w fun e w' => e = .returned (.pointer (some ⟨g, 0, none⟩)) ∧ w' = w := by
  have h1 := eqD d
  have h2 := eqTb g
  go_enter Tryz.func37, Tryz.ntmps37
  go_wp2
  go_ret
  exact ⟨rfl, rfl⟩
theorem change_any {w : World} {d : Nat} {v : Nat} (hv : v ≤ 1000000000) (k2 : w.cell? ⟨d, 2, none⟩ = some (.int .u64 (v : Int))) (z2 : w.frozen? ⟨d, 2, none⟩ = false) :
    Calls Tryz.prog 39 #[.pointer (some ⟨d, 0, none⟩)] w fun e w' => e = .returned (.tuple #[]) ∧ w' = w.setCell ⟨d, 2, none⟩ (.int .u64 ((v : Int) + 1)) := by
  have e1 : IntKind.u64.wrap ((v : Int) + 1) = (v : Int) + 1 := by rw [IntKind.wrap_u64]; omega
  go_enter Tryz.func39, Tryz.ntmps39
  go_wp2
  go_end0
  exact ⟨rfl, rfl⟩
theorem plen_any {w : World} {d g : Nat} {n : Int} (k0 : w.cell? ⟨d, 0, none⟩ = some (.pointer (some ⟨g, 0, none⟩))) (k3 : w.cell? ⟨g, 3, none⟩ = some (.int .i64 n)) :
    Calls Tryz.prog 16 #[.pointer (some ⟨d, 0, none⟩)] w fun e w' => e = .returned (.int .i64 n) ∧ w' = w := by
  have C1 := kept_yes k0
  have C2 := len_any k3
  clear k0 k3
  go_enter Tryz.func16, Tryz.ntmps16
  go_wp2_with fail
  refine C1.mono ?_
  rintro e w1 ⟨rfl, rfl⟩
  go_wp2_with fail
  refine C2.mono ?_
  rintro e w2 ⟨rfl, rfl⟩
  go_wp2
  go_ret
  exact ⟨rfl, rfl⟩
theorem isFull_any {w : World} {d g : Nat} {n most : Int} (k0 : w.cell? ⟨d, 0, none⟩ = some (.pointer (some ⟨g, 0, none⟩))) (k1 : w.cell? ⟨d, 1, none⟩ = some (.int .i64 most)) (k3 : w.cell? ⟨g, 3, none⟩ = some (.int .i64 n)) :
    Calls Tryz.prog 124 #[.pointer (some ⟨d, 0, none⟩)] w fun e w' => e = .returned (.bool (decide (most ≤ n))) ∧ w' = w.drew := by
  have C1 : Calls Tryz.prog 16 #[.pointer (some ⟨d, 0, none⟩)] w.drew fun e w' => e = .returned (.int .i64 n) ∧ w' = w.drew := plen_any k0 k3
  have d1 : w.drew.cell? ⟨d, 1, none⟩ = some (.int .i64 most) := k1
  go_enter Tryz.func124, Tryz.ntmps124
  go_wp2_with fail
  go_region_held3 (fun V => V.cell? ⟨d, 1, none⟩ = some (.int .i64 most)) (first | exact d1 | fail) (first | (go_at_call 16; refine C1.mono ?_; rintro e w2 ⟨rfl, rfl⟩) | fail)
  go_wp2
  go_ret
  exact ⟨rfl, rfl⟩
/-- What a call that changes a dictionary leaves. -/
structure Cd (w : World) (d g gi r h : Nat) (ev : Value) (mv : Value) (M : Int → Int → World → Prop) (a b : Int) (most : Int) (v : Nat) (t' : Tb) (w' : World) (gi' r' h' : Nat) (ev' : Value) : Prop where
  dc : Dc w' d g gi' r' h' ev' t' mv most v
  m : M a b w'
  fx : ∀ j, dX g gi' r' h' ev' j → dX g gi r h ev j ∨ w.heap.size ≤ j
  ex : Ex (fun j => cX d g gi r h ev j ∨ mB mv j) w w'
/-- Its table changed, and then its version. -/
theorem cd_of {w w1 : World} {d g gi r h : Nat} {ev : Value} {t t' : Tb} {mv : Value} {M : Int → Int → World → Prop} {a b : Int} {most : Int} {v : Nat} (hC : Dc w d g gi r h ev t mv most v) (hMo : MtOk mv M) {gi' r' h' : Nat} {ev' : Value} (ok : t'.Ok)
    (hd : Dt w1 g gi' r' h' ev' t' mv) (hm : M a b w1) (fx : ∀ j, dX g gi' r' h' ev' j → dX g gi r h ev j ∨ w.heap.size ≤ j) (ex : Ex (fun j => dX g gi r h ev j ∨ mB mv j) w w1) :
    Blk w1 d 3 (dcF g most v) ∧ Cd w d g gi r h ev mv M a b most (v + 1) t' (w1.setCell ⟨d, 2, none⟩ (.int .u64 ((v : Int) + 1))) gi' r' h' ev' := by
  have ld := hC.hd.lt (by omega)
  have hB1 : Blk w1 d 3 (dcF g most v) := hC.hd.same (ex.block d ld (fun h => h.elim hC.ne hC.nm))
  have nd : ¬ dX g gi' r' h' ev' d := fun h => (fx d h).elim hC.ne (fun x => by omega)
  refine ⟨hB1, ⟨?_, hd.same fun k hk => Below.heap_setCell _ _ _ _ (fun (e : k = d) => nd (e ▸ hk)), ok, nd, hC.nm⟩, hMo.same _ _ _ _ hm fun k hk => Below.heap_setCell _ _ _ _ (fun (e : k = d) => hC.nm (e ▸ hk)), fx, ?_⟩
  · refine (hB1.put 2 _).congr fun j hj => ?_
    have : j = 0 ∨ j = 1 ∨ j = 2 := by omega
    rcases this with rfl | rfl | rfl
    · rfl
    · rfl
    · show Value.int .u64 (((v + 1 : Nat)) : Int) = Value.int .u64 ((v : Int) + 1)
      rw [Int.natCast_add]
      rfl
  · exact (ex.mono (fun k _ hk => hk.elim (fun y => .inl (.inr y)) .inr)).setCell (p := ⟨d, 2, none⟩) (fun _ => .inl (.inl rfl)) _
set_option maxRecDepth 100000 in
theorem padd_any {w : World} {d g gi r h : Nat} {ev : Value} {t : Tb} {mv : Value} {M : Int → Int → World → Prop} {a b : Int} {most : Int} {v : Nat} (hC : Dc w d g gi r h ev t mv most v) (hMo : MtOk mv M) (hM : M a b w) (hm : t.made ≤ 1000000) (ha : 0 ≤ a ∧ a ≤ 1000000000) (ht : t.turn ≤ 1000000) (hb : t.births < 100000) (hv : v ≤ 1000000000) (u k x : Int) :
    Calls Tryz.prog 125 #[.pointer (some ⟨d, 0, none⟩), .int .i64 u, .int .i64 k, .int .i64 x] w fun e w' => e = .returned (.int .i64 (((t.add u k x).es.length - 1 : Nat) : Int)) ∧ ∃ gi' r' h' ev', Cd w d g gi r h ev mv M (a + ((t.add u k x).made - t.made : Nat)) b most (v + 1) (t.add u k x) w' gi' r' h' ev' := by
  have C1 := kept_yes (hC.hd.c 0 (by omega))
  have C2 := add_any hC.dt hC.ok hMo hM hm ha ht hb u k x
  have HC := Lib.hid hC
  have HMo := Lib.hid hMo
  clear hC hMo hM
  go_enter Tryz.func125, Tryz.ntmps125
  go_wp2_with fail
  refine C1.mono ?_
  rintro e w1 ⟨rfl, rfl⟩
  go_wp2_with fail
  refine C2.mono ?_
  rintro e w2 ⟨rfl, gi', r', h', ev', hA⟩
  clear C1 C2
  obtain ⟨hB2, hF⟩ := cd_of HC.out HMo.out (HC.out.ok.add u k x hb) hA.dt hA.m hA.fx hA.ex
  have C3 := change_any hv (hB2.c 2 (by omega)) (hB2.z 2)
  have HF := Lib.hid hF
  clear hA hB2 hF
  go_wp2_with fail
  refine C3.mono ?_
  rintro e w3 ⟨rfl, rfl⟩
  clear C3
  go_wp2
  go_ret
  exact ⟨rfl, gi', r', h', ev', HF.out⟩
theorem pturn_any {w : World} {d g gi r h : Nat} {ev : Value} {t : Tb} {mv : Value} {M : Int → Int → World → Prop} {a b : Int} {most : Int} {v : Nat} (hC : Dc w d g gi r h ev t mv most v) (hMo : MtOk mv M) (hM : M a b w) (hv : v ≤ 1000000000) (n : Nat) (hn : n < t.es.length) (hl : (nth t.es n).live = true) (x : Int) :
    Calls Tryz.prog 123 #[.pointer (some ⟨d, 0, none⟩), .int .i64 (n : Int), .int .i64 x] w fun e w' => e = .returned (.tuple #[]) ∧ Cd w d g gi r h ev mv M a b most (v + 1) (t.putv n x) w' gi r h ev := by
  have C1 := kept_yes (hC.hd.c 0 (by omega))
  have C2 := put7_yes hC.dt n x hn hl
  have HC := Lib.hid hC
  have HMo := Lib.hid hMo
  have HM := Lib.hid hM
  clear hC hMo hM
  go_enter Tryz.func123, Tryz.ntmps123
  go_wp2_with fail
  refine C1.mono ?_
  rintro e w1 ⟨rfl, rfl⟩
  go_wp2_with fail
  refine C2.mono ?_
  rintro e w2 ⟨rfl, hD2, hx2⟩
  clear C1 C2
  have hM2 : M a b w2 := HMo.out.same _ _ _ _ HM.out fun k hk => hx2.block k (HMo.out.lt _ _ _ k HM.out hk) (fun (h : ev.ownBlock = some k) => (HC.out.dt.mp k hk).2.2.2.2 h)
  obtain ⟨hB2, hF⟩ := cd_of HC.out HMo.out (HC.out.ok.putv n hn hl x) hD2 hM2 (fun j hj => .inl hj) (hx2.mono (fun k _ hk => .inl (.inr (.inr (.inr (.inr hk))))))
  have C3 := change_any hv (hB2.c 2 (by omega)) (hB2.z 2)
  have HF := Lib.hid hF
  clear hD2 hB2 hF hx2 hM2
  go_wp2_with fail
  refine C3.mono ?_
  rintro e w3 ⟨rfl, rfl⟩
  clear C3
  go_wp2
  go_end0
  exact ⟨rfl, HF.out⟩
/-- An entry as a value. -/
def eV (e : En) : Value := .agg #[.bool e.live, .int .i64 e.hash, .int .i64 e.key, .int .i64 e.value, .int .i64 e.birth]
theorem Cd.over {w w' w'' : World} {d g gi r h : Nat} {ev : Value} {t t' : Tb} {mv : Value} {M : Int → Int → World → Prop} {a b : Int} {most : Int} {v v' : Nat} (c : Cd w d g gi r h ev mv M a b most v' t' w' gi r h ev) (hC : Dc w d g gi r h ev t mv most v) (hMo : MtOk mv M) (hlt : ∀ k, mB mv k → k < w.heap.size) (hb : Below w.heap.size w' w'') : Cd w d g gi r h ev mv M a b most v' t' w'' gi r h ev :=
  ⟨c.dc.same fun k hk => hb.block k (hC.lt k hk), hMo.same _ _ _ _ c.m fun k hk => hb.block k (hlt k hk), c.fx, c.ex.next (Y := fun k => w.heap.size ≤ k) ⟨hb.os, hb.tape, hb.output, hb.size, fun k _ hx => hb.block k (by omega)⟩ (fun k hk hx => by omega)⟩
/-- Five cells set. -/
def put5 (w : World) (R : Nat) (v0 v1 v2 v3 v4 : Value) : World := ((((w.setCell ⟨R, 0, none⟩ v0).setCell ⟨R, 1, none⟩ v1).setCell ⟨R, 2, none⟩ v2).setCell ⟨R, 3, none⟩ v3).setCell ⟨R, 4, none⟩ v4
theorem put5_below {B : Nat} {w : World} (R : Nat) (hR : B ≤ R) (v0 v1 v2 v3 v4 : Value) : Below B w (put5 w R v0 v1 v2 v3 v4) :=
  (((((Below.refl B w).setCell (p := ⟨R, 0, none⟩) hR _).setCell (p := ⟨R, 1, none⟩) hR _).setCell (p := ⟨R, 2, none⟩) hR _).setCell (p := ⟨R, 3, none⟩) hR _).setCell (p := ⟨R, 4, none⟩) hR _
theorem put5_blk {w : World} {R : Nat} {F : Nat → Value} (h : Blk w R 5 F) (v0 v1 v2 v3 v4 : Value) : Blk (put5 w R v0 v1 v2 v3 v4) R 5 (fun j => [v0, v1, v2, v3, v4].getD j .nilFunc) := by
  unfold put5
  refine (((((h.put 0 v0).put 1 v1).put 2 v2).put 3 v3).put 4 v4).congr fun j hj => ?_
  have : j = 0 ∨ j = 1 ∨ j = 2 ∨ j = 3 ∨ j = 4 := by omega
  rcases this with rfl | rfl | rfl | rfl | rfl <;> rfl
set_option maxRecDepth 100000 in
theorem ptake_yes {w : World} {d g gi r h : Nat} {ev : Value} {t : Tb} {mv : Value} {M : Int → Int → World → Prop} {a b : Int} {most : Int} {v : Nat} (hC : Dc w d g gi r h ev t mv most v) (hMo : MtOk mv M) (hM : M a b w) (ht : t.turn ≤ 1000000) (hv : v ≤ 1000000000) (n : Nat) (hn : n < t.es.length) (hl : (nth t.es n).live = true) :
    Calls Tryz.prog 40 #[.pointer (some ⟨d, 0, none⟩), .int .i64 (n : Int)] w fun e w' => e = .returned (.tuple #[eV (nth t.es n), .int .i64 0]) ∧ Cd w d g gi r h ev mv M a b most (v + 1) (t.kill n) w' gi r h ev := by
  obtain ⟨w1, hw1⟩ : ∃ y, w.alloc (.cells #[.bool false, .int .i64 0, .int .i64 0, .int .i64 0, .int .i64 0] 62) = y := ⟨_, rfl⟩
  have hB1 : Below w.heap.size w w1 := by rw [← hw1]; exact (Below.refl _ w).alloc (Nat.le_refl _) _
  have hX1 : Blk w1 w.heap.size 5 (fun j => #[Value.bool false, .int .i64 0, .int .i64 0, .int .i64 0, .int .i64 0].getD j .nilFunc) := by rw [← hw1]; exact Blk.new w _ _
  have hC1 := hC.below hB1
  have C1 := kept_yes (hC1.hd.c 0 (by omega))
  have C2 := at7_yes hC1.dt n hn hl
  have hlm := fun k hk => hMo.lt a b w k hM hk
  have HC := Lib.hid hC
  have HC1 := Lib.hid hC1
  have HMo := Lib.hid hMo
  have HM := Lib.hid hM
  have HX1 := Lib.hid hX1
  have HB1 := Lib.hid hB1
  have HW1 := Lib.hid hw1
  have lR := hX1.lt (by omega)
  clear hC hMo hM hC1 hX1 hB1 hw1
  unfold eV
  obtain ⟨HL, HN⟩ : Hid ((nth t.es n).live = true) ∧ Hid (n < t.es.length) := ⟨hl, hn⟩
  clear hl
  generalize (nth t.es n).live = y0 at C2 ⊢
  generalize (nth t.es n).hash = y1 at *
  generalize (nth t.es n).key = y2 at *
  generalize (nth t.es n).value = y3 at *
  generalize (nth t.es n).birth = y4 at *
  go_enter Tryz.func40, Tryz.ntmps40
  go_wp2_with fail
  rw [HW1.out]
  refine C1.mono ?_
  rintro e w1' ⟨rfl, rfl⟩
  go_wp2_with fail
  refine C2.mono ?_
  rintro e w2 ⟨rfl, hB2⟩
  clear C1 C2
  obtain ⟨w3, hw3⟩ : ∃ y, w2.alloc (.cells #[.bool y0, .int .i64 y1, .int .i64 y2, .int .i64 y3, .int .i64 y4] 62) = y := ⟨_, rfl⟩
  have hB3 : Below w2.heap.size w2 w3 := by rw [← hw3]; exact (Below.refl _ w2).alloc (Nat.le_refl _) _
  have hX3 : Blk w3 w2.heap.size 5 (fun j => #[Value.bool y0, .int .i64 y1, .int .i64 y2, .int .i64 y3, .int .i64 y4].getD j .nilFunc) := by rw [← hw3]; exact Blk.new w2 _ _
  have hB13 := hB2.trans (hB3.mono hB2.size)
  have hB03 := HB1.out.trans (hB13.mono HB1.out.size)
  have hC3 := HC.out.below hB03
  have hs2 := hB2.size
  have C3 := kept_yes (hC3.hd.c 0 (by omega))
  have C4 := kill_yes hC3.dt hC3.ok n hn HL.out ht
  have HX3 := Lib.hid hX3
  have HB03 := Lib.hid hB03
  have HB13 := Lib.hid hB13
  have HC3 := Lib.hid hC3
  have lE := hX3.lt (by omega)
  have HW3 := Lib.hid hw3
  clear hX3 hB3 hB13 hB03 hC3 hw3 hB2
  go_wp2_with fail
  rw [HW3.out]
  refine C3.mono ?_
  rintro e w3' ⟨rfl, rfl⟩
  go_wp2_with fail
  refine C4.mono ?_
  rintro e w4 ⟨rfl, hD4, hx4⟩
  clear C3 C4
  have hx04 : Ex (fun j => dX g gi r h ev j ∨ mB mv j) w w4 := (ex_of HB03.out).next hx4 (fun k _ hk => .inl hk)
  have hM4 : M a b w4 := HMo.out.same _ _ _ _ (HMo.out.below HM.out HB03.out) fun k hk => hx4.block k (by have := hlm k hk; have := HB03.out.size; omega) (fun hx => by
    obtain ⟨m1, m2, m3, m4, m5⟩ := HC.out.dt.mp k hk
    rcases hx with y | y | y | y | y
    · exact m1 y
    · exact m2 y
    · exact m3 y
    · exact m4 y
    · exact m5 y)
  obtain ⟨hB4, hF⟩ := cd_of HC.out HMo.out (HC.out.ok.kill n hn HL.out) hD4 hM4 (fun j hj => .inl hj) hx04
  have C5 := change_any hv (hB4.c 2 (by omega)) (hB4.z 2)
  have ndw : ∀ k, w.heap.size ≤ k → ¬ dX g gi r h ev k := fun k hk hx => by have := HC.out.dt.lt k hx; omega
  have ld := HC.out.hd.lt (by omega)
  have hX4 : Blk w4 w2.heap.size 5 (fun j => #[Value.bool y0, .int .i64 y1, .int .i64 y2, .int .i64 y3, .int .i64 y4].getD j .nilFunc) := HX3.out.same (hx4.block _ lE (ndw _ (by omega)))
  have hR4 : Blk w4 w.heap.size 5 (fun j => #[Value.bool false, .int .i64 0, .int .i64 0, .int .i64 0, .int .i64 0].getD j .nilFunc) := (HX1.out.of HB13.out (by omega)).same (hx4.block _ (by have := HB13.out.size; omega) (ndw _ (Nat.le_refl _)))
  have hX5 := hX4.same (w' := w4.setCell ⟨d, 2, none⟩ (.int .u64 ((v : Int) + 1))) (Below.heap_setCell _ _ _ _ (by show w2.heap.size ≠ d; omega))
  have hR5 := hR4.same (w' := w4.setCell ⟨d, 2, none⟩ (.int .u64 ((v : Int) + 1))) (Below.heap_setCell _ _ _ _ (by show w.heap.size ≠ d; omega))
  have HF := Lib.hid hF
  clear hD4 hx4 hx04 hM4 hB4 hF hX4 hR4
  go_wp2_with fail
  refine C5.mono ?_
  rintro e w5 ⟨rfl, hw5⟩
  rw [← hw5] at hX5 hR5 HF
  clear C5 hw5
  have p0 : w5.cell? ⟨w2.heap.size, 0, none⟩ = some (.bool y0) := hX5.c 0 (by omega)
  have p1 : w5.cell? ⟨w2.heap.size, 1, none⟩ = some (.int .i64 y1) := hX5.c 1 (by omega)
  have p2 : w5.cell? ⟨w2.heap.size, 2, none⟩ = some (.int .i64 y2) := hX5.c 2 (by omega)
  have p3 : w5.cell? ⟨w2.heap.size, 3, none⟩ = some (.int .i64 y3) := hX5.c 3 (by omega)
  have p4 : w5.cell? ⟨w2.heap.size, 4, none⟩ = some (.int .i64 y4) := hX5.c 4 (by omega)
  have q0 : w5.cell? ⟨w.heap.size, 0, none⟩ = some (.bool false) := hR5.c 0 (by omega)
  have q1 : w5.cell? ⟨w.heap.size, 1, none⟩ = some (.int .i64 0) := hR5.c 1 (by omega)
  have q2 : w5.cell? ⟨w.heap.size, 2, none⟩ = some (.int .i64 0) := hR5.c 2 (by omega)
  have q3 : w5.cell? ⟨w.heap.size, 3, none⟩ = some (.int .i64 0) := hR5.c 3 (by omega)
  have q4 : w5.cell? ⟨w.heap.size, 4, none⟩ = some (.int .i64 0) := hR5.c 4 (by omega)
  have z0 := hR5.z 0
  have z1 := hR5.z 1
  have z2 := hR5.z 2
  have z3 := hR5.z 3
  have z4 := hR5.z 4
  have HR6 := Lib.hid (put5_blk hR5 (.bool y0) (.int .i64 y1) (.int .i64 y2) (.int .i64 y3) (.int .i64 y4))
  have HF6 := Lib.hid (HF.out.over HC.out HMo.out hlm (put5_below (w := w5) w.heap.size (Nat.le_refl _) (.bool y0) (.int .i64 y1) (.int .i64 y2) (.int .i64 y3) (.int .i64 y4)))
  unfold put5 at HR6 HF6
  clear hX5 hR5
  go_wp2_with fail
  generalize World.setCell (World.setCell (World.setCell (World.setCell (World.setCell w5 _ _) _ _) _ _) _ _) _ _ = w6 at *
  have o0 : w6.cell? ⟨w.heap.size, 0, none⟩ = some (.bool y0) := HR6.out.c 0 (by omega)
  have o1 : w6.cell? ⟨w.heap.size, 1, none⟩ = some (.int .i64 y1) := HR6.out.c 1 (by omega)
  have o2 : w6.cell? ⟨w.heap.size, 2, none⟩ = some (.int .i64 y2) := HR6.out.c 2 (by omega)
  have o3 : w6.cell? ⟨w.heap.size, 3, none⟩ = some (.int .i64 y3) := HR6.out.c 3 (by omega)
  have o4 : w6.cell? ⟨w.heap.size, 4, none⟩ = some (.int .i64 y4) := HR6.out.c 4 (by omega)
  refine bodyPost_ret (v := .tuple #[.agg #[.bool y0, .int .i64 y1, .int .i64 y2, .int .i64 y3, .int .i64 y4], .int .i64 0]) ?_ rfl ⟨rfl, HF6.out⟩
  simp [results, Tryz.results40, go_sem, o0, o1, o2, o3, o4]
end Go.Proofs.YtooneobnfepncaaGreat
