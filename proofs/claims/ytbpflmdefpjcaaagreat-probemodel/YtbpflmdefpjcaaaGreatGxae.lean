/-
  A dictionary in memory, and what its inner calls do.
  What is done for a goal: rowOf.
  A machine in memory; Begin; what a hit and a miss do.
  A machine's hit and beginScan.
  A machine begins a scan.
  A machine goes on: goOn.
  goOn, walked.
  goOn from where it asks its Seeker on, walked.
  goOn where it was told yes; Step, Tell, Scan, Scans.
-/
import Derived.Test.YtbpflmdefpjcaaaGreatGxad
import Derived.Laws.EntriesVeiled
import Derived.BigQuiet
namespace Go.Proofs.YtbpflmdefpjcaaaGreat
open Go.RowKit Go.WideShapes

/-- A dictionary's cells: its table, how many pairs it may have, its version. -/
def dcF (g : Nat) (most : Int) (v : Nat) : Nat → Value
  | 0 => .pointer (some ⟨g, 0, none⟩)
  | 1 => .int .i64 most
  | _ => .int .u64 (v : Int)
structure Dc (w : World) (d g gi r h : Nat) (ev : Value) (t : Tb) (mv : Value) (most : Int) (v : Nat) : Prop where
  hd : Blk w d 3 (dcF g most v)
  dt : Dt w g gi r h ev t mv
  ok : t.Ok
  ne : ¬ dX g gi r h ev d
  nm : ¬ mB mv d
/-- The blocks of a dictionary. -/
def cX (d g gi r h : Nat) (ev : Value) (k : Nat) : Prop := k = d ∨ dX g gi r h ev k
theorem Dc.same {w w' : World} {d g gi r h : Nat} {ev : Value} {t : Tb} {mv : Value} {most : Int} {v : Nat} (x : Dc w d g gi r h ev t mv most v) (e : ∀ k, cX d g gi r h ev k → w'.heap[k]? = w.heap[k]?) : Dc w' d g gi r h ev t mv most v :=
  ⟨x.hd.same (e d (.inl rfl)), x.dt.same fun k hk => e k (.inr hk), x.ok, x.ne, x.nm⟩
theorem Dc.lt {w : World} {d g gi r h : Nat} {ev : Value} {t : Tb} {mv : Value} {most : Int} {v : Nat} (x : Dc w d g gi r h ev t mv most v) : ∀ k, cX d g gi r h ev k → k < w.heap.size := by
  rintro k (rfl | hk)
  · exact x.hd.lt (by omega)
  · exact x.dt.lt k hk
theorem Dc.below {w w' : World} {d g gi r h : Nat} {ev : Value} {t : Tb} {mv : Value} {most : Int} {v : Nat} (x : Dc w d g gi r h ev t mv most v) (hb : Below w.heap.size w w') : Dc w' d g gi r h ev t mv most v := x.same fun k hk => hb.block k (x.lt k hk)
theorem eqD (d : Nat) (w : World) : (binOp .eql 25 (.pointer (some ⟨d, 0, none⟩)) (.pointer none)).run Tryz.prog w = .ok (.bool false) w := by kernel_rfl
theorem eqTb (g : Nat) (w : World) : (binOp .eql 50 (.pointer (some ⟨g, 0, none⟩)) (.pointer none)).run Tryz.prog w = .ok (.bool false) w := by kernel_rfl
theorem kept_yes {w : World} {d g : Nat} (k0 : w.cell? ⟨d, 0, none⟩ = some (.pointer (some ⟨g, 0, none⟩))) :
    Calls Tryz.prog 30 #[.pointer (some ⟨d, 0, none⟩)] w fun e w' => e = .returned (.pointer (some ⟨g, 0, none⟩)) ∧ w' = w := by
  have h1 := eqD d
  have h2 := eqTb g
  go_enter Tryz.func30, Tryz.ntmps30
  go_wp2
  go_ret
  exact ⟨rfl, rfl⟩
theorem change_any {w : World} {d : Nat} {v : Nat} (hv : v ≤ 1000000000) (k2 : w.cell? ⟨d, 2, none⟩ = some (.int .u64 (v : Int))) (z2 : w.frozen? ⟨d, 2, none⟩ = false) :
    Calls Tryz.prog 51 #[.pointer (some ⟨d, 0, none⟩)] w fun e w' => e = .returned (.tuple #[]) ∧ w' = w.setCell ⟨d, 2, none⟩ (.int .u64 ((v : Int) + 1)) := by
  have e1 : IntKind.u64.wrap ((v : Int) + 1) = (v : Int) + 1 := by rw [IntKind.wrap_u64]; omega
  go_enter Tryz.func51, Tryz.ntmps51
  go_wp2
  go_end0
  exact ⟨rfl, rfl⟩
theorem plen_any {w : World} {d g : Nat} {n : Int} (k0 : w.cell? ⟨d, 0, none⟩ = some (.pointer (some ⟨g, 0, none⟩))) (k3 : w.cell? ⟨g, 3, none⟩ = some (.int .i64 n)) :
    Calls Tryz.prog 21 #[.pointer (some ⟨d, 0, none⟩)] w fun e w' => e = .returned (.int .i64 n) ∧ w' = w := by
  have C1 := kept_yes k0
  have C2 := len_any k3
  clear k0 k3
  go_enter Tryz.func21, Tryz.ntmps21
  go_wp2_with fail
  refine C1.mono ?_
  rintro e w1 ⟨rfl, rfl⟩
  go_wp2_with fail
  refine C2.mono ?_
  rintro e w2 ⟨rfl, rfl⟩
  go_wp2
  go_ret
  exact ⟨rfl, rfl⟩
theorem isFull_any {w : World} {d g : Nat} {n most : Int} (k0 : w.cell? ⟨d, 0, none⟩ = some (.pointer (some ⟨g, 0, none⟩))) (k1 : w.cell? ⟨d, 1, none⟩ = some (.int .i64 most)) (k3 : w.cell? ⟨g, 3, none⟩ = some (.int .i64 n)) :
    Calls Tryz.prog 55 #[.pointer (some ⟨d, 0, none⟩)] w fun e w' => e = .returned (.bool (decide (most ≤ n))) ∧ w' = w.drew := by
  have C1 : Calls Tryz.prog 21 #[.pointer (some ⟨d, 0, none⟩)] w.drew fun e w' => e = .returned (.int .i64 n) ∧ w' = w.drew := plen_any k0 k3
  have d1 : w.drew.cell? ⟨d, 1, none⟩ = some (.int .i64 most) := k1
  go_enter Tryz.func55, Tryz.ntmps55
  go_wp2_with fail
  go_region_held3 (fun V => V.cell? ⟨d, 1, none⟩ = some (.int .i64 most)) (first | exact d1 | fail) (first | (go_at_call 21; refine C1.mono ?_; rintro e w2 ⟨rfl, rfl⟩) | fail)
  go_wp2
  go_ret
  exact ⟨rfl, rfl⟩
/-- What a call that changes a dictionary leaves. -/
structure Cd (w : World) (d g gi r h : Nat) (ev : Value) (mv : Value) (M : Int → Int → World → Prop) (a b : Int) (most : Int) (v : Nat) (t' : Tb) (w' : World) (gi' r' h' : Nat) (ev' : Value) : Prop where
  dc : Dc w' d g gi' r' h' ev' t' mv most v
  m : M a b w'
  fx : ∀ j, dX g gi' r' h' ev' j → dX g gi r h ev j ∨ w.heap.size ≤ j
  ex : Ex (fun j => cX d g gi r h ev j ∨ mB mv j) w w'
/-- Its table changed, and then its version. -/
theorem cd_of {w w1 : World} {d g gi r h : Nat} {ev : Value} {t t' : Tb} {mv : Value} {M : Int → Int → World → Prop} {a b : Int} {most : Int} {v : Nat} (hC : Dc w d g gi r h ev t mv most v) (hMo : MtOk mv M) {gi' r' h' : Nat} {ev' : Value} (ok : t'.Ok)
    (hd : Dt w1 g gi' r' h' ev' t' mv) (hm : M a b w1) (fx : ∀ j, dX g gi' r' h' ev' j → dX g gi r h ev j ∨ w.heap.size ≤ j) (ex : Ex (fun j => dX g gi r h ev j ∨ mB mv j) w w1) :
    Blk w1 d 3 (dcF g most v) ∧ Cd w d g gi r h ev mv M a b most (v + 1) t' (w1.setCell ⟨d, 2, none⟩ (.int .u64 ((v : Int) + 1))) gi' r' h' ev' := by
  have ld := hC.hd.lt (by omega)
  have hB1 : Blk w1 d 3 (dcF g most v) := hC.hd.same (ex.block d ld (fun h => h.elim hC.ne hC.nm))
  have nd : ¬ dX g gi' r' h' ev' d := fun h => (fx d h).elim hC.ne (fun x => by omega)
  refine ⟨hB1, ⟨?_, hd.same fun k hk => Below.heap_setCell _ _ _ _ (fun (e : k = d) => nd (e ▸ hk)), ok, nd, hC.nm⟩, hMo.same _ _ _ _ hm fun k hk => Below.heap_setCell _ _ _ _ (fun (e : k = d) => hC.nm (e ▸ hk)), fx, ?_⟩
  · refine (hB1.put 2 _).congr fun j hj => ?_
    have : j = 0 ∨ j = 1 ∨ j = 2 := by omega
    rcases this with rfl | rfl | rfl
    · rfl
    · rfl
    · show Value.int .u64 (((v + 1 : Nat)) : Int) = Value.int .u64 ((v : Int) + 1)
      rw [Int.natCast_add]
      rfl
  · exact (ex.mono (fun k _ hk => hk.elim (fun y => .inl (.inr y)) .inr)).setCell (p := ⟨d, 2, none⟩) (fun _ => .inl (.inl rfl)) _
set_option maxRecDepth 100000 in
theorem padd_any {w : World} {d g gi r h : Nat} {ev : Value} {t : Tb} {mv : Value} {M : Int → Int → World → Prop} {a b : Int} {most : Int} {v : Nat} (hC : Dc w d g gi r h ev t mv most v) (hMo : MtOk mv M) (hM : M a b w) (hm : t.made ≤ 1000000) (ha : 0 ≤ a ∧ a ≤ 1000000000) (ht : t.turn ≤ 1000000) (hb : t.births < 100000) (hv : v ≤ 1000000000) (u k x : Int) :
    Calls Tryz.prog 56 #[.pointer (some ⟨d, 0, none⟩), .int .i64 u, .int .i64 k, .int .i64 x] w fun e w' => e = .returned (.int .i64 (((t.add u k x).es.length - 1 : Nat) : Int)) ∧ ∃ gi' r' h' ev', Cd w d g gi r h ev mv M (a + ((t.add u k x).made - t.made : Nat)) b most (v + 1) (t.add u k x) w' gi' r' h' ev' := by
  have C1 := kept_yes (hC.hd.c 0 (by omega))
  have C2 := add_any hC.dt hC.ok hMo hM hm ha ht hb u k x
  have HC := Lib.hid hC
  have HMo := Lib.hid hMo
  clear hC hMo hM
  go_enter Tryz.func56, Tryz.ntmps56
  go_wp2_with fail
  refine C1.mono ?_
  rintro e w1 ⟨rfl, rfl⟩
  go_wp2_with fail
  refine C2.mono ?_
  rintro e w2 ⟨rfl, gi', r', h', ev', hA⟩
  clear C1 C2
  obtain ⟨hB2, hF⟩ := cd_of HC.out HMo.out (HC.out.ok.add u k x hb) hA.dt hA.m hA.fx hA.ex
  have C3 := change_any hv (hB2.c 2 (by omega)) (hB2.z 2)
  have HF := Lib.hid hF
  clear hA hB2 hF
  go_wp2_with fail
  refine C3.mono ?_
  rintro e w3 ⟨rfl, rfl⟩
  clear C3
  go_wp2
  go_ret
  exact ⟨rfl, gi', r', h', ev', HF.out⟩
theorem pturn_any {w : World} {d g gi r h : Nat} {ev : Value} {t : Tb} {mv : Value} {M : Int → Int → World → Prop} {a b : Int} {most : Int} {v : Nat} (hC : Dc w d g gi r h ev t mv most v) (hMo : MtOk mv M) (hM : M a b w) (hv : v ≤ 1000000000) (n : Nat) (hn : n < t.es.length) (hl : (nth t.es n).live = true) (x : Int) :
    Calls Tryz.prog 54 #[.pointer (some ⟨d, 0, none⟩), .int .i64 (n : Int), .int .i64 x] w fun e w' => e = .returned (.tuple #[]) ∧ Cd w d g gi r h ev mv M a b most (v + 1) (t.putv n x) w' gi r h ev := by
  have C1 := kept_yes (hC.hd.c 0 (by omega))
  have C2 := put7_yes hC.dt n x hn hl
  have HC := Lib.hid hC
  have HMo := Lib.hid hMo
  have HM := Lib.hid hM
  clear hC hMo hM
  go_enter Tryz.func54, Tryz.ntmps54
  go_wp2_with fail
  refine C1.mono ?_
  rintro e w1 ⟨rfl, rfl⟩
  go_wp2_with fail
  refine C2.mono ?_
  rintro e w2 ⟨rfl, hD2, hx2⟩
  clear C1 C2
  have hM2 : M a b w2 := HMo.out.same _ _ _ _ HM.out fun k hk => hx2.block k (HMo.out.lt _ _ _ k HM.out hk) (fun (h : ev.ownBlock = some k) => (HC.out.dt.mp k hk).2.2.2.2 h)
  obtain ⟨hB2, hF⟩ := cd_of HC.out HMo.out (HC.out.ok.putv n hn hl x) hD2 hM2 (fun j hj => .inl hj) (hx2.mono (fun k _ hk => .inl (.inr (.inr (.inr (.inr hk))))))
  have C3 := change_any hv (hB2.c 2 (by omega)) (hB2.z 2)
  have HF := Lib.hid hF
  clear hD2 hB2 hF hx2 hM2
  go_wp2_with fail
  refine C3.mono ?_
  rintro e w3 ⟨rfl, rfl⟩
  clear C3
  go_wp2
  go_end0
  exact ⟨rfl, HF.out⟩
/-- An entry as a value. -/
def eV (e : En) : Value := .agg #[.bool e.live, .int .i64 e.hash, .int .i64 e.key, .int .i64 e.value, .int .i64 e.birth]
theorem Cd.over {w w' w'' : World} {d g gi r h : Nat} {ev : Value} {t t' : Tb} {mv : Value} {M : Int → Int → World → Prop} {a b : Int} {most : Int} {v v' : Nat} (c : Cd w d g gi r h ev mv M a b most v' t' w' gi r h ev) (hC : Dc w d g gi r h ev t mv most v) (hMo : MtOk mv M) (hlt : ∀ k, mB mv k → k < w.heap.size) (hb : Below w.heap.size w' w'') : Cd w d g gi r h ev mv M a b most v' t' w'' gi r h ev :=
  ⟨c.dc.same fun k hk => hb.block k (hC.lt k hk), hMo.same _ _ _ _ c.m fun k hk => hb.block k (hlt k hk), c.fx, c.ex.next (Y := fun k => w.heap.size ≤ k) ⟨hb.os, hb.tape, hb.output, hb.size, fun k _ hx => hb.block k (by omega)⟩ (fun k hk hx => by omega)⟩
/-- Five cells set. -/
def put5 (w : World) (R : Nat) (v0 v1 v2 v3 v4 : Value) : World := ((((w.setCell ⟨R, 0, none⟩ v0).setCell ⟨R, 1, none⟩ v1).setCell ⟨R, 2, none⟩ v2).setCell ⟨R, 3, none⟩ v3).setCell ⟨R, 4, none⟩ v4
theorem put5_below {B : Nat} {w : World} (R : Nat) (hR : B ≤ R) (v0 v1 v2 v3 v4 : Value) : Below B w (put5 w R v0 v1 v2 v3 v4) :=
  (((((Below.refl B w).setCell (p := ⟨R, 0, none⟩) hR _).setCell (p := ⟨R, 1, none⟩) hR _).setCell (p := ⟨R, 2, none⟩) hR _).setCell (p := ⟨R, 3, none⟩) hR _).setCell (p := ⟨R, 4, none⟩) hR _
theorem put5_blk {w : World} {R : Nat} {F : Nat → Value} (h : Blk w R 5 F) (v0 v1 v2 v3 v4 : Value) : Blk (put5 w R v0 v1 v2 v3 v4) R 5 (fun j => [v0, v1, v2, v3, v4].getD j .nilFunc) := by
  unfold put5
  refine (((((h.put 0 v0).put 1 v1).put 2 v2).put 3 v3).put 4 v4).congr fun j hj => ?_
  have : j = 0 ∨ j = 1 ∨ j = 2 ∨ j = 3 ∨ j = 4 := by omega
  rcases this with rfl | rfl | rfl | rfl | rfl <;> rfl
set_option maxRecDepth 100000 in
theorem ptake_yes {w : World} {d g gi r h : Nat} {ev : Value} {t : Tb} {mv : Value} {M : Int → Int → World → Prop} {a b : Int} {most : Int} {v : Nat} (hC : Dc w d g gi r h ev t mv most v) (hMo : MtOk mv M) (hM : M a b w) (ht : t.turn ≤ 1000000) (hv : v ≤ 1000000000) (n : Nat) (hn : n < t.es.length) (hl : (nth t.es n).live = true) :
    Calls Tryz.prog 57 #[.pointer (some ⟨d, 0, none⟩), .int .i64 (n : Int)] w fun e w' => e = .returned (.tuple #[eV (nth t.es n), .int .i64 0]) ∧ Cd w d g gi r h ev mv M a b most (v + 1) (t.kill n) w' gi r h ev := by
  obtain ⟨w1, hw1⟩ : ∃ y, w.alloc (.cells #[.bool false, .int .i64 0, .int .i64 0, .int .i64 0, .int .i64 0] 69) = y := ⟨_, rfl⟩
  have hB1 : Below w.heap.size w w1 := by rw [← hw1]; exact (Below.refl _ w).alloc (Nat.le_refl _) _
  have hX1 : Blk w1 w.heap.size 5 (fun j => #[Value.bool false, .int .i64 0, .int .i64 0, .int .i64 0, .int .i64 0].getD j .nilFunc) := by rw [← hw1]; exact Blk.new w _ _
  have hC1 := hC.below hB1
  have C1 := kept_yes (hC1.hd.c 0 (by omega))
  have C2 := at7_yes hC1.dt n hn hl
  have hlm := fun k hk => hMo.lt a b w k hM hk
  have HC := Lib.hid hC
  have HC1 := Lib.hid hC1
  have HMo := Lib.hid hMo
  have HM := Lib.hid hM
  have HX1 := Lib.hid hX1
  have HB1 := Lib.hid hB1
  have HW1 := Lib.hid hw1
  have lR := hX1.lt (by omega)
  clear hC hMo hM hC1 hX1 hB1 hw1
  unfold eV
  obtain ⟨HL, HN⟩ : Hid ((nth t.es n).live = true) ∧ Hid (n < t.es.length) := ⟨hl, hn⟩
  clear hl
  generalize (nth t.es n).live = y0 at C2 ⊢
  generalize (nth t.es n).hash = y1 at *
  generalize (nth t.es n).key = y2 at *
  generalize (nth t.es n).value = y3 at *
  generalize (nth t.es n).birth = y4 at *
  go_enter Tryz.func57, Tryz.ntmps57
  go_wp2_with fail
  rw [HW1.out]
  refine C1.mono ?_
  rintro e w1' ⟨rfl, rfl⟩
  go_wp2_with fail
  refine C2.mono ?_
  rintro e w2 ⟨rfl, hB2⟩
  clear C1 C2
  obtain ⟨w3, hw3⟩ : ∃ y, w2.alloc (.cells #[.bool y0, .int .i64 y1, .int .i64 y2, .int .i64 y3, .int .i64 y4] 69) = y := ⟨_, rfl⟩
  have hB3 : Below w2.heap.size w2 w3 := by rw [← hw3]; exact (Below.refl _ w2).alloc (Nat.le_refl _) _
  have hX3 : Blk w3 w2.heap.size 5 (fun j => #[Value.bool y0, .int .i64 y1, .int .i64 y2, .int .i64 y3, .int .i64 y4].getD j .nilFunc) := by rw [← hw3]; exact Blk.new w2 _ _
  have hB13 := hB2.trans (hB3.mono hB2.size)
  have hB03 := HB1.out.trans (hB13.mono HB1.out.size)
  have hC3 := HC.out.below hB03
  have hs2 := hB2.size
  have C3 := kept_yes (hC3.hd.c 0 (by omega))
  have C4 := kill_yes hC3.dt hC3.ok n hn HL.out ht
  have HX3 := Lib.hid hX3
  have HB03 := Lib.hid hB03
  have HB13 := Lib.hid hB13
  have HC3 := Lib.hid hC3
  have lE := hX3.lt (by omega)
  have HW3 := Lib.hid hw3
  clear hX3 hB3 hB13 hB03 hC3 hw3 hB2
  go_wp2_with fail
  rw [HW3.out]
  refine C3.mono ?_
  rintro e w3' ⟨rfl, rfl⟩
  go_wp2_with fail
  refine C4.mono ?_
  rintro e w4 ⟨rfl, hD4, hx4⟩
  clear C3 C4
  have hx04 : Ex (fun j => dX g gi r h ev j ∨ mB mv j) w w4 := (ex_of HB03.out).next hx4 (fun k _ hk => .inl hk)
  have hM4 : M a b w4 := HMo.out.same _ _ _ _ (HMo.out.below HM.out HB03.out) fun k hk => hx4.block k (by have := hlm k hk; have := HB03.out.size; omega) (fun hx => by
    obtain ⟨m1, m2, m3, m4, m5⟩ := HC.out.dt.mp k hk
    rcases hx with y | y | y | y | y
    · exact m1 y
    · exact m2 y
    · exact m3 y
    · exact m4 y
    · exact m5 y)
  obtain ⟨hB4, hF⟩ := cd_of HC.out HMo.out (HC.out.ok.kill n hn HL.out) hD4 hM4 (fun j hj => .inl hj) hx04
  have C5 := change_any hv (hB4.c 2 (by omega)) (hB4.z 2)
  have ndw : ∀ k, w.heap.size ≤ k → ¬ dX g gi r h ev k := fun k hk hx => by have := HC.out.dt.lt k hx; omega
  have ld := HC.out.hd.lt (by omega)
  have hX4 : Blk w4 w2.heap.size 5 (fun j => #[Value.bool y0, .int .i64 y1, .int .i64 y2, .int .i64 y3, .int .i64 y4].getD j .nilFunc) := HX3.out.same (hx4.block _ lE (ndw _ (by omega)))
  have hR4 : Blk w4 w.heap.size 5 (fun j => #[Value.bool false, .int .i64 0, .int .i64 0, .int .i64 0, .int .i64 0].getD j .nilFunc) := (HX1.out.of HB13.out (by omega)).same (hx4.block _ (by have := HB13.out.size; omega) (ndw _ (Nat.le_refl _)))
  have hX5 := hX4.same (w' := w4.setCell ⟨d, 2, none⟩ (.int .u64 ((v : Int) + 1))) (Below.heap_setCell _ _ _ _ (by show w2.heap.size ≠ d; omega))
  have hR5 := hR4.same (w' := w4.setCell ⟨d, 2, none⟩ (.int .u64 ((v : Int) + 1))) (Below.heap_setCell _ _ _ _ (by show w.heap.size ≠ d; omega))
  have HF := Lib.hid hF
  clear hD4 hx4 hx04 hM4 hB4 hF hX4 hR4
  go_wp2_with fail
  refine C5.mono ?_
  rintro e w5 ⟨rfl, hw5⟩
  rw [← hw5] at hX5 hR5 HF
  clear C5 hw5
  have p0 : w5.cell? ⟨w2.heap.size, 0, none⟩ = some (.bool y0) := hX5.c 0 (by omega)
  have p1 : w5.cell? ⟨w2.heap.size, 1, none⟩ = some (.int .i64 y1) := hX5.c 1 (by omega)
  have p2 : w5.cell? ⟨w2.heap.size, 2, none⟩ = some (.int .i64 y2) := hX5.c 2 (by omega)
  have p3 : w5.cell? ⟨w2.heap.size, 3, none⟩ = some (.int .i64 y3) := hX5.c 3 (by omega)
  have p4 : w5.cell? ⟨w2.heap.size, 4, none⟩ = some (.int .i64 y4) := hX5.c 4 (by omega)
  have q0 : w5.cell? ⟨w.heap.size, 0, none⟩ = some (.bool false) := hR5.c 0 (by omega)
  have q1 : w5.cell? ⟨w.heap.size, 1, none⟩ = some (.int .i64 0) := hR5.c 1 (by omega)
  have q2 : w5.cell? ⟨w.heap.size, 2, none⟩ = some (.int .i64 0) := hR5.c 2 (by omega)
  have q3 : w5.cell? ⟨w.heap.size, 3, none⟩ = some (.int .i64 0) := hR5.c 3 (by omega)
  have q4 : w5.cell? ⟨w.heap.size, 4, none⟩ = some (.int .i64 0) := hR5.c 4 (by omega)
  have z0 := hR5.z 0
  have z1 := hR5.z 1
  have z2 := hR5.z 2
  have z3 := hR5.z 3
  have z4 := hR5.z 4
  have HR6 := Lib.hid (put5_blk hR5 (.bool y0) (.int .i64 y1) (.int .i64 y2) (.int .i64 y3) (.int .i64 y4))
  have HF6 := Lib.hid (HF.out.over HC.out HMo.out hlm (put5_below (w := w5) w.heap.size (Nat.le_refl _) (.bool y0) (.int .i64 y1) (.int .i64 y2) (.int .i64 y3) (.int .i64 y4)))
  unfold put5 at HR6 HF6
  clear hX5 hR5
  go_wp2_with fail
  generalize World.setCell (World.setCell (World.setCell (World.setCell (World.setCell w5 _ _) _ _) _ _) _ _) _ _ = w6 at *
  have o0 : w6.cell? ⟨w.heap.size, 0, none⟩ = some (.bool y0) := HR6.out.c 0 (by omega)
  have o1 : w6.cell? ⟨w.heap.size, 1, none⟩ = some (.int .i64 y1) := HR6.out.c 1 (by omega)
  have o2 : w6.cell? ⟨w.heap.size, 2, none⟩ = some (.int .i64 y2) := HR6.out.c 2 (by omega)
  have o3 : w6.cell? ⟨w.heap.size, 3, none⟩ = some (.int .i64 y3) := HR6.out.c 3 (by omega)
  have o4 : w6.cell? ⟨w.heap.size, 4, none⟩ = some (.int .i64 y4) := HR6.out.c 4 (by omega)
  refine bodyPost_ret (v := .tuple #[.agg #[.bool y0, .int .i64 y1, .int .i64 y2, .int .i64 y3, .int .i64 y4], .int .i64 0]) ?_ rfl ⟨rfl, HF6.out⟩
  simp [results, Tryz.results57, go_sem, o0, o1, o2, o3, o4]
end Go.Proofs.YtbpflmdefpjcaaaGreat
namespace Go.Proofs.YtbpflmdefpjcaaaGreat
open Go.RowKit Go.WideShapes

def hitF (goal : Nat) : FuncId := if goal = 2 then 37 else if goal = 3 then 39 else 35
def missF (goal : Nat) : FuncId := if goal = 2 ∨ goal = 4 then 38 else 36
def hitV (goal : Nat) : Value := .func (.func (hitF goal)) #[] #[]
def missV (goal : Nat) : Value := .func (.func (missF goal)) #[] #[]
def rowsF (j : Nat) : Value := #[Value.int .i64 1, hitV 1, missV 1, .int .i64 2, hitV 2, missV 2, .int .i64 3, hitV 3, missV 3, .int .i64 4, hitV 4, missV 4].getD j .nilFunc
theorem rowsF_at (k : Nat) (hk : k < 4) : rowsF (k * 3) = .int .i64 ((k : Int) + 1) ∧ rowsF (k * 3 + 1) = hitV (k + 1) ∧ rowsF (k * 3 + 2) = missV (k + 1) := by
  have : k = 0 ∨ k = 1 ∨ k = 2 ∨ k = 3 := by omega
  rcases this with rfl | rfl | rfl | rfl <;> exact ⟨rfl, rfl, rfl⟩
def zR (j : Nat) : Value := #[Value.int .i64 0, .nilFunc, .nilFunc].getD j .nilFunc
theorem rows_new (w : World) {w2 : World} (h : (w.alloc (.cells #[.int .i64 0, .nilFunc, .nilFunc] 73)).alloc (.cells #[.int .i64 1, hitV 1, missV 1, .int .i64 2, hitV 2, missV 2, .int .i64 3, hitV 3, missV 3, .int .i64 4, hitV 4, missV 4] 73) = w2) :
    Blk w2 w.heap.size 3 zR ∧ Blk w2 (w.heap.size + 1) 12 rowsF ∧ Below w.heap.size w w2 := by
  have hb : Below w.heap.size w w2 := by rw [← h]; exact ((Below.refl _ w).alloc (Nat.le_refl _) _).alloc (by simp) _
  refine ⟨?_, ?_, hb⟩
  · have h1 : Blk (w.alloc (.cells #[.int .i64 0, .nilFunc, .nilFunc] 73)) w.heap.size 3 zR := Blk.new w #[.int .i64 0, .nilFunc, .nilFunc] 73
    rw [← h]
    exact h1.same (Below.heap_alloc _ _ _ (by simp))
  · have h1 := Blk.new (w.alloc (.cells #[.int .i64 0, .nilFunc, .nilFunc] 73)) #[.int .i64 1, hitV 1, missV 1, .int .i64 2, hitV 2, missV 2, .int .i64 3, hitV 3, missV 3, .int .i64 4, hitV 4, missV 4] 73
    have e : (w.alloc (.cells #[.int .i64 0, .nilFunc, .nilFunc] 73)).heap.size = w.heap.size + 1 := by simp
    rw [← h]
    rw [e] at h1
    exact h1
set_option maxRecDepth 100000 in
set_option maxHeartbeats 4000000 in
theorem rowOf_yes (goal : Nat) (hg1 : 1 ≤ goal) (hg4 : goal ≤ 4) (w : World) :
    Calls Tryz.prog 23 #[.int .i64 (goal : Int)] w fun e w' => e = .returned (.tuple #[.agg #[.int .i64 (goal : Int), hitV goal, missV goal], .bool true]) ∧ Below w.heap.size w w' := by
  obtain ⟨w2, hw2⟩ : ∃ y, (w.alloc (.cells #[.int .i64 0, .nilFunc, .nilFunc] 73)).alloc (.cells #[.int .i64 1, hitV 1, missV 1, .int .i64 2, hitV 2, missV 2, .int .i64 3, hitV 3, missV 3, .int .i64 4, hitV 4, missV 4] 73) = y := ⟨_, rfl⟩
  obtain ⟨hR, hB, hb2⟩ := rows_new w hw2
  have lR := hR.lt (by omega)
  have lB := hB.lt (by omega)
  have HR := Lib.hid hR
  have HB := Lib.hid hB
  have HB2 := Lib.hid hb2
  have HW2 : Hid ((w.alloc (.cells #[.int .i64 0, .nilFunc, .nilFunc] 73)).alloc (.cells #[.int .i64 1, .func (.func 35) #[] #[], .func (.func 36) #[] #[], .int .i64 2, .func (.func 37) #[] #[], .func (.func 38) #[] #[], .int .i64 3, .func (.func 39) #[] #[], .func (.func 36) #[] #[], .int .i64 4, .func (.func 35) #[] #[], .func (.func 38) #[] #[]] 73) = w2) := hw2
  clear hR hB hb2 hw2
  go_enter Tryz.func23, Tryz.ntmps23
  go_wp2_with fail
  rw [HW2.out]
  go_loopw [14, 6] (fun iv _ wr => ∃ k : Nat, k < goal ∧ iv = .int .i64 (k : Int) ∧ Below w2.heap.size w2 wr) (fun iv _ _ => 4 - (intOf iv).toNat)
  case atStart => exact ⟨0, by omega, rfl, Below.refl _ _⟩
  case round =>
    obtain ⟨k, hk, rfl, hbk⟩ := hrel
    have t1 : (k : Int) < 4 := by omega
    obtain ⟨e0, e1, e2⟩ := rowsF_at k (by omega)
    have hBk := HB.out.of hbk (by omega)
    have c0 : wr.cell? ⟨w.heap.size + 1, k * 3, none⟩ = some (.int .i64 ((k : Int) + 1)) := by rw [hBk.c _ (by omega), e0]
    have c1 : wr.cell? ⟨w.heap.size + 1, k * 3 + 1, none⟩ = some (hitV (k + 1)) := by rw [hBk.c _ (by omega), e1]
    have c2 : wr.cell? ⟨w.heap.size + 1, k * 3 + 2, none⟩ = some (missV (k + 1)) := by rw [hBk.c _ (by omega), e2]
    clear e0 e1 e2 hBk
    obtain ⟨fh, hfh⟩ : ∃ x, hitV (k + 1) = Value.func (.func x) #[] #[] := ⟨_, rfl⟩
    obtain ⟨fm, hfm⟩ : ∃ x, missV (k + 1) = Value.func (.func x) #[] #[] := ⟨_, rfl⟩
    rw [hfh] at c1
    rw [hfm] at c2
    by_cases hkg : k + 1 = goal
    · have HKG := Lib.hid hkg
      have tq : ((k : Int) + 1 == (goal : Int)) = true := by rw [beq_iff_eq]; omega
      obtain ⟨w3, hw3⟩ : ∃ y, wr.alloc (.cells #[.int .i64 ((k : Int) + 1), .func (.func fh) #[] #[], .func (.func fm) #[] #[]] 73) = y := ⟨_, rfl⟩
      have hb3 : Below wr.heap.size wr w3 := by rw [← hw3]; exact (Below.refl _ wr).alloc (Nat.le_refl _) _
      have hX3 : Blk w3 wr.heap.size 3 (fun j => #[Value.int .i64 ((k : Int) + 1), .func (.func fh) #[] #[], .func (.func fm) #[] #[]].getD j .nilFunc) := by rw [← hw3]; exact Blk.new wr _ _
      have hR3 := (HR.out.of hbk (by omega)).of hb3 (by omega)
      have p0 : w3.cell? ⟨wr.heap.size, 0, none⟩ = some (.int .i64 ((k : Int) + 1)) := hX3.c 0 (by omega)
      have p1 : w3.cell? ⟨wr.heap.size, 1, none⟩ = some (.func (.func fh) #[] #[]) := hX3.c 1 (by omega)
      have p2 : w3.cell? ⟨wr.heap.size, 2, none⟩ = some (.func (.func fm) #[] #[]) := hX3.c 2 (by omega)
      have q0 : w3.cell? ⟨w.heap.size, 0, none⟩ = some (.int .i64 0) := hR3.c 0 (by omega)
      have q1 : w3.cell? ⟨w.heap.size, 1, none⟩ = some .nilFunc := hR3.c 1 (by omega)
      have q2 : w3.cell? ⟨w.heap.size, 2, none⟩ = some .nilFunc := hR3.c 2 (by omega)
      have z0 := hR3.z 0
      have z1 := hR3.z 1
      have z2 := hR3.z 2
      have HF := Lib.hid (((hR3.put 0 (.int .i64 ((k : Int) + 1))).put 1 (.func (.func fh) #[] #[])).put 2 (.func (.func fm) #[] #[]))
      have HBB : Hid (Below w.heap.size w (((w3.setCell ⟨w.heap.size, 0, none⟩ (.int .i64 ((k : Int) + 1))).setCell ⟨w.heap.size, 1, none⟩ (.func (.func fh) #[] #[])).setCell ⟨w.heap.size, 2, none⟩ (.func (.func fm) #[] #[]))) := by
        have h1 := HB2.out.trans (hbk.mono HB2.out.size)
        have h2 := h1.trans (hb3.mono h1.size)
        exact ((h2.setCell (p := ⟨w.heap.size, 0, none⟩) (Nat.le_refl _) _).setCell (p := ⟨w.heap.size, 1, none⟩) (Nat.le_refl _) _).setCell (p := ⟨w.heap.size, 2, none⟩) (Nat.le_refl _) _
      have HW3 := Lib.hid hw3
      have HFH := Lib.hid hfh
      have HFM := Lib.hid hfm
      clear hb3 hX3 hR3 hw3 hbk hkg hfh hfm
      go_upto_if 21 with fail
      rw [HW3.out]
      clear c0 c1 c2
      go_wp2_with fail
      generalize World.setCell (World.setCell (World.setCell w3 _ _) _ _) _ _ = w4 at *
      have o0 : w4.cell? ⟨w.heap.size, 0, none⟩ = some (.int .i64 ((k : Int) + 1)) := HF.out.c 0 (by omega)
      have o1 : w4.cell? ⟨w.heap.size, 1, none⟩ = some (.func (.func fh) #[] #[]) := HF.out.c 1 (by omega)
      have o2 : w4.cell? ⟨w.heap.size, 2, none⟩ = some (.func (.func fm) #[] #[]) := HF.out.c 2 (by omega)
      refine bodyPost_ret (v := .tuple #[.agg #[.int .i64 ((k : Int) + 1), .func (.func fh) #[] #[], .func (.func fm) #[] #[]], .bool true]) ?_ rfl ⟨?_, HBB.out⟩
      · simp [results, Tryz.results23, go_sem, o0, o1, o2]
      · rw [← HFH.out, ← HFM.out, HKG.out, show ((k : Int) + 1) = (goal : Int) by have := HKG.out; omega]
    · have tq : ((k : Int) + 1 == (goal : Int)) = false := by rw [beq_eq_false_iff_ne]; omega
      have HBN : Hid (∀ o, Below w2.heap.size w2 (wr.alloc o)) := fun o => hbk.alloc hbk.size o
      clear hbk
      go_wp2_with fail
      go_roundw
      case rel => exact ⟨k + 1, by omega, by go_num, HBN.out _⟩
      case measure => simp [intOf]; omega
end Go.Proofs.YtbpflmdefpjcaaaGreat
namespace Go.Proofs.YtbpflmdefpjcaaaGreat
open Go.RowKit Go.WideShapes

/-- A turn. -/
structure Tu where
  kind : Int
  key : Int
  found : Bool
  value : Int
  entry : Int
def Tu.zero : Tu := ⟨0, 0, false, 0, 0⟩
def tuV (u : Tu) : Value := .agg #[.int .i64 u.kind, .int .i64 u.key, .bool u.found, .int .i64 u.value, .int .i64 u.entry]
/-- A machine: its goal, hash, key, value; the version that it kept, its scans, its turn, what it asked at, what it was told. -/
structure Ma where
  goal : Nat
  hash : Int
  key : Int
  value : Int
  ver : Nat
  scans : Nat
  u : Tu
  asked : Int
  same : Bool
def mcF (sv : Value) (d : Nat) (m : Ma) : Nat → Value
  | 0 => sv
  | 1 => .pointer (some ⟨d, 0, none⟩)
  | 2 => .int .i64 (m.goal : Int)
  | 3 => hitV m.goal
  | 4 => missV m.goal
  | 5 => .int .i64 m.hash
  | 6 => .int .i64 m.key
  | 7 => .int .i64 m.value
  | 8 => .int .u64 (m.ver : Int)
  | 9 => .int .i64 (m.scans : Int)
  | 10 => .int .i64 m.u.kind
  | 11 => .int .i64 m.u.key
  | 12 => .bool m.u.found
  | 13 => .int .i64 m.u.value
  | 14 => .int .i64 m.u.entry
  | 15 => .int .i64 m.asked
  | _ => .bool m.same
def Mc (w : World) (x : Nat) (sv : Value) (d : Nat) (m : Ma) : Prop := Blk w x 17 (mcF sv d m)
theorem lt17 {j : Nat} (h : j < 17) : j = 0 ∨ j = 1 ∨ j = 2 ∨ j = 3 ∨ j = 4 ∨ j = 5 ∨ j = 6 ∨ j = 7 ∨ j = 8 ∨ j = 9 ∨ j = 10 ∨ j = 11 ∨ j = 12 ∨ j = 13 ∨ j = 14 ∨ j = 15 ∨ j = 16 := by omega
set_option maxRecDepth 100000 in
set_option maxHeartbeats 2000000 in
theorem begin_yes (d : Nat) (goal : Nat) (hg1 : 1 ≤ goal) (hg4 : goal ≤ 4) (u k x : Int) (w : World) :
    Calls Tryz.prog 9 #[.pointer (some ⟨d, 0, none⟩), .int .i64 (goal : Int), .int .i64 u, .int .i64 k, .int .i64 x] w fun e w' => ∃ b, e = .returned (.pointer (some ⟨b, 0, none⟩)) ∧ w.heap.size ≤ b ∧ Mc w' b (.pointer none) d ⟨goal, u, k, x, 0, 0, Tu.zero, 0, false⟩ ∧ Below w.heap.size w w' := by
  have C1 := rowOf_yes goal hg1 hg4 w
  have h1 := eqD d
  obtain ⟨fh, hfh⟩ : ∃ y, hitV goal = Value.func (.func y) #[] #[] := ⟨_, rfl⟩
  obtain ⟨fm, hfm⟩ : ∃ y, missV goal = Value.func (.func y) #[] #[] := ⟨_, rfl⟩
  rw [hfh, hfm] at C1
  have HFH := Lib.hid hfh
  have HFM := Lib.hid hfm
  clear hfh hfm
  go_enter Tryz.func9, Tryz.ntmps9
  go_wp2_with fail
  refine C1.mono ?_
  rintro e w1 ⟨rfl, hb1⟩
  clear C1
  obtain ⟨w2, hw2⟩ : ∃ y, w1.alloc (.cells #[.int .i64 (goal : Int), .func (.func fh) #[] #[], .func (.func fm) #[] #[]] 73) = y := ⟨_, rfl⟩
  have hb2 : Below w1.heap.size w1 w2 := by rw [← hw2]; exact (Below.refl _ w1).alloc (Nat.le_refl _) _
  have hX2 : Blk w2 w1.heap.size 3 (fun j => #[Value.int .i64 (goal : Int), .func (.func fh) #[] #[], .func (.func fm) #[] #[]].getD j .nilFunc) := by rw [← hw2]; exact Blk.new w1 _ _
  have p0 : w2.cell? ⟨w1.heap.size, 0, none⟩ = some (.int .i64 (goal : Int)) := hX2.c 0 (by omega)
  have p1 : w2.cell? ⟨w1.heap.size, 1, none⟩ = some (.func (.func fh) #[] #[]) := hX2.c 1 (by omega)
  have p2 : w2.cell? ⟨w1.heap.size, 2, none⟩ = some (.func (.func fm) #[] #[]) := hX2.c 2 (by omega)
  have HB2 := Lib.hid (hb1.trans (hb2.mono hb1.size))
  have HW2 := Lib.hid hw2
  have HM : Hid (Mc (w2.alloc (.cells #[.pointer none, .pointer (some ⟨d, 0, none⟩), .int .i64 (goal : Int), .func (.func fh) #[] #[], .func (.func fm) #[] #[], .int .i64 u, .int .i64 k, .int .i64 x, .int .u64 0, .int .i64 0, .int .i64 0, .int .i64 0, .bool false, .int .i64 0, .int .i64 0, .int .i64 0, .bool false] 78)) w2.heap.size (.pointer none) d ⟨goal, u, k, x, 0, 0, Tu.zero, 0, false⟩) := by
    refine (Blk.new w2 _ _).congr fun j hj => ?_
    rcases lt17 (by simpa using hj) with rfl | rfl | rfl | rfl | rfl | rfl | rfl | rfl | rfl | rfl | rfl | rfl | rfl | rfl | rfl | rfl | rfl
    · rfl
    · rfl
    · rfl
    · exact HFH.out
    · exact HFM.out
    all_goals rfl
  clear hw2 hX2 hb1 hb2
  go_upto_region 2 with fail
  rw [HW2.out]
  go_wp2
  go_ret
  exact ⟨_, rfl, HB2.out.size, HM.out, HB2.out.alloc HB2.out.size _⟩
theorem leave_any (a b : Value) (w : World) : Calls Tryz.prog 35 #[a, b] w fun e w' => e = .returned (.tuple #[]) ∧ w' = w := by
  go_enter Tryz.func35, Tryz.ntmps35
  go_wp2
  go_end0
  exact ⟨rfl, rfl⟩
set_option maxRecDepth 100000 in
theorem tellNone_any (a : Value) (w : World) : Calls Tryz.prog 36 #[a] w fun e w' => e = .returned (tuV ⟨2, 0, false, 0, -1⟩) ∧ Below w.heap.size w w' := by
  unfold tuV
  go_enter Tryz.func36, Tryz.ntmps36
  go_wp2
  refine bodyPost_ret (v := .agg #[.int .i64 2, .int .i64 0, .bool false, .int .i64 0, .int .i64 (-1)]) ?_ rfl ⟨rfl, (Below.refl _ w).alloc (Nat.le_refl _) _⟩
  simp [results, Tryz.results36, go_sem]
/-- A machine lies apart from its dictionary. -/
structure Mx (w : World) (d g gi r h : Nat) (ev : Value) (mv : Value) (x : Nat) (sv : Value) (m : Ma) : Prop where
  mc : Mc w x sv d m
  ne : ¬ cX d g gi r h ev x
  nm : ¬ mB mv x
theorem Cd.block {w w' : World} {d g gi r h : Nat} {ev : Value} {mv : Value} {M : Int → Int → World → Prop} {a b : Int} {most : Int} {v : Nat} {t' : Tb} {gi' r' h' : Nat} {ev' : Value} (c : Cd w d g gi r h ev mv M a b most v t' w' gi' r' h' ev') {x : Nat} (hx : x < w.heap.size) (h1 : ¬ cX d g gi r h ev x) (h2 : ¬ mB mv x) : w'.heap[x]? = w.heap[x]? := c.ex.block x hx (fun h => h.elim h1 h2)
/-- Nothing changed. -/
theorem Dc.cd {w w' : World} {d g gi r h : Nat} {ev : Value} {t : Tb} {mv : Value} {M : Int → Int → World → Prop} {a b : Int} {most : Int} {v : Nat} (hC : Dc w d g gi r h ev t mv most v) (hMo : MtOk mv M) (hM : M a b w) (hb : Below w.heap.size w w') : Cd w d g gi r h ev mv M a b most v t w' gi r h ev :=
  ⟨hC.below hb, hMo.below hM hb, fun _ hj => .inl hj, ex_of hb⟩
/-- The same call, from a world that has only more. -/
theorem Cd.from {w w0 w' : World} {d g gi r h : Nat} {ev : Value} {mv : Value} {M : Int → Int → World → Prop} {a b : Int} {most : Int} {v : Nat} {t' : Tb} {gi' r' h' : Nat} {ev' : Value} (c : Cd w0 d g gi r h ev mv M a b most v t' w' gi' r' h' ev') (hb : Below w.heap.size w w0) : Cd w d g gi r h ev mv M a b most v t' w' gi' r' h' ev' :=
  ⟨c.dc, c.m, fun j hj => (c.fx j hj).elim .inl (fun x => .inr (Nat.le_trans hb.size x)), (ex_of hb).next c.ex (fun _ _ x => x)⟩
set_option maxRecDepth 100000 in
theorem turnValue_any {w : World} {d g gi r h : Nat} {ev : Value} {t : Tb} {mv : Value} {M : Int → Int → World → Prop} {a b : Int} {most : Int} {v : Nat} (hC : Dc w d g gi r h ev t mv most v) (hMo : MtOk mv M) (hM : M a b w) (hv : v ≤ 1000000000) {x : Nat} {sv : Value} {m : Ma} (hm : Mx w d g gi r h ev mv x sv m) (n : Nat) (hn : n < t.es.length) (hl : (nth t.es n).live = true) :
    Calls Tryz.prog 37 #[.pointer (some ⟨x, 0, none⟩), .int .i64 (n : Int)] w fun e w' => e = .returned (.tuple #[]) ∧ Cd w d g gi r h ev mv M a b most (v + 1) (t.putv n m.value) w' gi r h ev := by
  have hbd : Below w.heap.size w w.drew := (Below.refl _ w).drew
  have C1 := pturn_any (hC.below hbd) hMo (hMo.below hM hbd) hv n hn hl m.value
  have k1 : w.drew.cell? ⟨x, 1, none⟩ = some (.pointer (some ⟨d, 0, none⟩)) := hm.mc.c 1 (by omega)
  have k7 : w.drew.cell? ⟨x, 7, none⟩ = some (.int .i64 m.value) := hm.mc.c 7 (by omega)
  have HK : Hid (∀ V : World, V.heap[x]? = w.heap[x]? → V.cell? ⟨x, 1, none⟩ = some (.pointer (some ⟨d, 0, none⟩)) ∧ V.cell? ⟨x, 7, none⟩ = some (.int .i64 m.value)) := fun V hV => ⟨(hm.mc.same hV).c 1 (by omega), (hm.mc.same hV).c 7 (by omega)⟩
  have hlx := hm.mc.lt (by omega)
  have hne := hm.ne
  have hnm := hm.nm
  have HBD := Lib.hid hbd
  clear hC hMo hM hm hl hbd
  generalize m.value = z at *
  go_enter Tryz.func37, Tryz.ntmps37
  go_wp2_with fail
  go_region_held3 (fun V => V.cell? ⟨x, 1, none⟩ = some (.pointer (some ⟨d, 0, none⟩)) ∧ V.cell? ⟨x, 7, none⟩ = some (.int .i64 z))
    (first | with_reducible exact ⟨k1, k7⟩ | with_reducible exact s1 | fail)
    (first | (go_at_call 54; refine C1.mono ?_; rintro e w1 ⟨rfl, hF⟩; have s1 := HK.out w1 (hF.block hlx hne hnm)) | fail)
  have HF := Lib.hid (hF.from HBD.out)
  clear hF s1 k1 k7 C1
  go_wp2
  go_end0
  exact ⟨rfl, HF.out⟩
theorem takeOut_any {w : World} {d g gi r h : Nat} {ev : Value} {t : Tb} {mv : Value} {M : Int → Int → World → Prop} {a b : Int} {most : Int} {v : Nat} (hC : Dc w d g gi r h ev t mv most v) (hMo : MtOk mv M) (hM : M a b w) (ht : t.turn ≤ 1000000) (hv : v ≤ 1000000000) {x : Nat} {sv : Value} {m : Ma} (hm : Mx w d g gi r h ev mv x sv m) (n : Nat) (hn : n < t.es.length) (hl : (nth t.es n).live = true) :
    Calls Tryz.prog 39 #[.pointer (some ⟨x, 0, none⟩), .int .i64 (n : Int)] w fun e w' => e = .returned (.tuple #[]) ∧ Cd w d g gi r h ev mv M a b most (v + 1) (t.kill n) w' gi r h ev := by
  have C1 := ptake_yes hC hMo hM ht hv n hn hl
  have k1 : w.cell? ⟨x, 1, none⟩ = some (.pointer (some ⟨d, 0, none⟩)) := hm.mc.c 1 (by omega)
  clear hC hMo hM hm hl
  unfold eV at C1
  go_enter Tryz.func39, Tryz.ntmps39
  go_wp2_with fail
  refine C1.mono ?_
  rintro e w1 ⟨rfl, hF⟩
  clear C1
  have HF := Lib.hid hF
  clear hF
  go_wp2
  go_end0
  exact ⟨rfl, HF.out⟩
/-- What a hit makes of a table and its version. -/
noncomputable def hitT (m : Ma) (t : Tb) (n : Nat) : Tb := if m.goal = 2 then t.putv n m.value else if m.goal = 3 then t.kill n else t
def hitN (goal v : Nat) : Nat := if goal = 2 ∨ goal = 3 then v + 1 else v
theorem hitF_any {w : World} {d g gi r h : Nat} {ev : Value} {t : Tb} {mv : Value} {M : Int → Int → World → Prop} {a b : Int} {most : Int} {v : Nat} (hC : Dc w d g gi r h ev t mv most v) (hMo : MtOk mv M) (hM : M a b w) (ht : t.turn ≤ 1000000) (hv : v ≤ 1000000000) {x : Nat} {sv : Value} {m : Ma} (hm : Mx w d g gi r h ev mv x sv m) (n : Nat) (hn : n < t.es.length) (hl : (nth t.es n).live = true) :
    Calls Tryz.prog (hitF m.goal) #[.pointer (some ⟨x, 0, none⟩), .int .i64 (n : Int)] w fun e w' => e = .returned (.tuple #[]) ∧ Cd w d g gi r h ev mv M a b most (hitN m.goal v) (hitT m t n) w' gi r h ev := by
  by_cases h2 : m.goal = 2
  · rw [hitF, if_pos h2, hitN, if_pos (.inl h2), hitT, if_pos h2]
    exact turnValue_any hC hMo hM hv hm n hn hl
  · by_cases h3 : m.goal = 3
    · rw [hitF, if_neg h2, if_pos h3, hitN, if_pos (.inr h3), hitT, if_neg h2, if_pos h3]
      exact takeOut_any hC hMo hM ht hv hm n hn hl
    · rw [hitF, if_neg h2, if_neg h3, hitN, if_neg (fun x => x.elim h2 h3), hitT, if_neg h2, if_neg h3]
      refine (leave_any _ _ w).mono ?_
      rintro e w' ⟨rfl, rfl⟩
      exact ⟨rfl, hC.cd hMo hM (Below.refl _ _)⟩
/-- What a miss makes of a table and its version, and what it tells. -/
noncomputable def missT (m : Ma) (t : Tb) (most : Int) : Tb := if (m.goal = 2 ∨ m.goal = 4) ∧ (t.live : Int) < most then t.add m.hash m.key m.value else t
def missN (m : Ma) (t : Tb) (most : Int) (v : Nat) : Nat := if (m.goal = 2 ∨ m.goal = 4) ∧ (t.live : Int) < most then v + 1 else v
noncomputable def missU (m : Ma) (t : Tb) (most : Int) : Tu := if m.goal = 2 ∨ m.goal = 4 then (if (t.live : Int) < most then ⟨2, 0, false, m.value, (((t.add m.hash m.key m.value).es.length - 1 : Nat) : Int)⟩ else ⟨3, 0, false, 0, 0⟩) else ⟨2, 0, false, 0, -1⟩
set_option maxRecDepth 100000 in
set_option maxHeartbeats 2000000 in
theorem addPair_yes {w : World} {d g gi r h : Nat} {ev : Value} {t : Tb} {mv : Value} {M : Int → Int → World → Prop} {a b : Int} {most : Int} {v : Nat} (hC : Dc w d g gi r h ev t mv most v) (hMo : MtOk mv M) (hM : M a b w) (hm1 : t.made ≤ 1000000) (ha : 0 ≤ a ∧ a ≤ 1000000000) (ht : t.turn ≤ 1000000) (hb : t.births < 100000) (hv : v ≤ 1000000000) {x : Nat} {sv : Value} {m : Ma} (hm : Mx w d g gi r h ev mv x sv m) (hf : (t.live : Int) < most) :
    Calls Tryz.prog 38 #[.pointer (some ⟨x, 0, none⟩)] w fun e w' => e = .returned (tuV ⟨2, 0, false, m.value, (((t.add m.hash m.key m.value).es.length - 1 : Nat) : Int)⟩) ∧ ∃ gi' r' h' ev', Cd w d g gi r h ev mv M (a + ((t.add m.hash m.key m.value).made - t.made : Nat)) b most (v + 1) (t.add m.hash m.key m.value) w' gi' r' h' ev' := by
  have HK0 : Hid (∀ V : World, V.heap[x]? = w.heap[x]? → (V.cell? ⟨x, 1, none⟩ = some (.pointer (some ⟨d, 0, none⟩)) ∧ V.cell? ⟨x, 5, none⟩ = some (.int .i64 m.hash)) ∧ V.cell? ⟨x, 6, none⟩ = some (.int .i64 m.key) ∧ V.cell? ⟨x, 7, none⟩ = some (.int .i64 m.value)) := fun V hV => by
    have h1 : Mc V x sv d m := hm.mc.same hV
    exact ⟨⟨h1.c 1 (by omega), h1.c 5 (by omega)⟩, h1.c 6 (by omega), h1.c 7 (by omega)⟩
  have hne := hm.ne
  have hnm := hm.nm
  obtain ⟨w1, hw1⟩ : ∃ y, w.alloc (.cells #[.int .i64 0, .int .i64 0, .bool false, .int .i64 0, .int .i64 0] 40) = y := ⟨_, rfl⟩
  have hB1 : Below w.heap.size w w1 := by rw [← hw1]; exact (Below.refl _ w).alloc (Nat.le_refl _) _
  have hX1 : Blk w1 w.heap.size 5 (fun j => #[Value.int .i64 0, .int .i64 0, .bool false, .int .i64 0, .int .i64 0].getD j .nilFunc) := by rw [← hw1]; exact Blk.new w _ _
  have hC1 := hC.below hB1
  have hm1' : Mc w1 x sv d m := hm.mc.of hB1 (by omega)
  have lx := hm.mc.lt (by omega)
  have lR := hX1.lt (by omega)
  have k1 : w1.cell? ⟨x, 1, none⟩ = some (.pointer (some ⟨d, 0, none⟩)) := hm1'.c 1 (by omega)
  have C1 := isFull_any (hC1.hd.c 0 (by omega)) (hC1.hd.c 1 (by omega)) (hC1.dt.hd.c 3 (by omega))
  have C1' : Calls Tryz.prog 55 #[.pointer (some ⟨d, 0, none⟩)] w1 fun e w' => e = .returned (.bool (decide (most ≤ (t.live : Int)))) ∧ w' = w1.drew := C1
  have hlm := fun k hk => hMo.lt a b w k hM hk
  have HC := Lib.hid hC
  have HMo := Lib.hid hMo
  have HM := Lib.hid hM
  have HB1 := Lib.hid hB1
  have HX1 := Lib.hid hX1
  have HW1 := Lib.hid hw1
  clear hC hMo hM hC1 hm1' hB1 hX1 hw1 C1 hm
  unfold tuV
  generalize m.hash = zh at *
  generalize m.key = zk at *
  generalize m.value = zv at *
  go_enter Tryz.func38, Tryz.ntmps38
  go_upto_region 1 with fail
  rw [HW1.out]
  go_wp2_with fail
  refine C1'.mono ?_
  rintro e w2 ⟨rfl, hw2⟩
  clear C1'
  have hB2 : Below w.heap.size w w2 := by rw [hw2]; exact HB1.out.drew
  have hX2 : Blk w2 w.heap.size 5 (fun j => #[Value.int .i64 0, .int .i64 0, .bool false, .int .i64 0, .int .i64 0].getD j .nilFunc) := by rw [hw2]; exact HX1.out.same rfl
  have hl2 : w.heap.size < w2.heap.size := by rw [hw2]; exact lR
  clear hw2 k1
  have tf : decide (most ≤ (t.live : Int)) = false := decide_eq_false (by omega)
  rw [tf]
  have hBd := hB2.drew
  have hCd := HC.out.below hBd
  have C2 := padd_any hCd HMo.out (HMo.out.below HM.out hBd) hm1 ha ht hb hv zh zk zv
  have hx2 : w2.heap[x]? = w.heap[x]? := hB2.block x lx
  have HK : Hid (∀ V : World, V.heap[x]? = w2.heap[x]? → (V.cell? ⟨x, 1, none⟩ = some (.pointer (some ⟨d, 0, none⟩)) ∧ V.cell? ⟨x, 5, none⟩ = some (.int .i64 zh)) ∧ V.cell? ⟨x, 6, none⟩ = some (.int .i64 zk) ∧ V.cell? ⟨x, 7, none⟩ = some (.int .i64 zv)) := fun V hV => HK0.out V (hV.trans hx2)
  have s0 := HK.out w2.drew rfl
  have lx2 : x < w2.drew.heap.size := by have h9 : w2.drew.heap.size = w2.heap.size := rfl; have := hB2.size; omega
  have HBd := Lib.hid hBd
  have HX2 := Lib.hid hX2
  clear hB2 hX2 hBd hCd tf hx2
  go_upto_region 3 with fail
  go_region_held3 (fun V => (V.cell? ⟨x, 1, none⟩ = some (.pointer (some ⟨d, 0, none⟩)) ∧ V.cell? ⟨x, 5, none⟩ = some (.int .i64 zh)) ∧ V.cell? ⟨x, 6, none⟩ = some (.int .i64 zk) ∧ V.cell? ⟨x, 7, none⟩ = some (.int .i64 zv))
    (first | with_reducible exact s0 | with_reducible exact s1 | fail)
    (first | (go_at_call 56; refine C2.mono ?_; rintro e w3 ⟨rfl, gi', r', h', ev', hF⟩; have s1 := HK.out w3 (hF.block lx2 hne hnm)) | fail)
  clear C2 s0
  have ncR : ¬ cX d g gi r h ev w.heap.size := fun hx => by have := HC.out.lt _ hx; omega
  have nmR : ¬ mB mv w.heap.size := fun hx => by have := hlm _ hx; omega
  have hX3 := HX2.out.same (w' := w3) (hF.block hl2 ncR nmR)
  have q0 : w3.cell? ⟨w.heap.size, 0, none⟩ = some (.int .i64 0) := hX3.c 0 (by omega)
  have q1 : w3.cell? ⟨w.heap.size, 1, none⟩ = some (.int .i64 0) := hX3.c 1 (by omega)
  have q2 : w3.cell? ⟨w.heap.size, 2, none⟩ = some (.bool false) := hX3.c 2 (by omega)
  have q3 : w3.cell? ⟨w.heap.size, 3, none⟩ = some (.int .i64 0) := hX3.c 3 (by omega)
  have q4 : w3.cell? ⟨w.heap.size, 4, none⟩ = some (.int .i64 0) := hX3.c 4 (by omega)
  have z0 := hX3.z 0
  have z1 := hX3.z 1
  have z2 := hX3.z 2
  have z3 := hX3.z 3
  have z4 := hX3.z 4
  have x7 := s1.2.2
  obtain ⟨N, hN⟩ : ∃ N : Int, (((t.add zh zk zv).es.length - 1 : Nat) : Int) = N := ⟨_, rfl⟩
  rw [hN]
  have HR4 := Lib.hid (put5_blk hX3 (.int .i64 2) (.int .i64 0) (.bool false) (.int .i64 zv) (.int .i64 N))
  have HF4 : Hid (Cd w d g gi r h ev mv M (a + ((t.add zh zk zv).made - t.made : Nat)) b most (v + 1) (t.add zh zk zv) (put5 w3 w.heap.size (.int .i64 2) (.int .i64 0) (.bool false) (.int .i64 zv) (.int .i64 N)) gi' r' h' ev') := by
    have hbp := put5_below (B := w.heap.size) (w := w3) w.heap.size (Nat.le_refl _) (.int .i64 2) (.int .i64 0) (.bool false) (.int .i64 zv) (.int .i64 N)
    have hoth : ∀ k, k ≠ w.heap.size → (put5 w3 w.heap.size (.int .i64 2) (.int .i64 0) (.bool false) (.int .i64 zv) (.int .i64 N)).heap[k]? = w3.heap[k]? := fun k hk => by
      unfold put5
      rw [Below.heap_setCell _ _ _ _ hk, Below.heap_setCell _ _ _ _ hk, Below.heap_setCell _ _ _ _ hk, Below.heap_setCell _ _ _ _ hk, Below.heap_setCell _ _ _ _ hk]
    have c := hF.from HBd.out
    have hnR : ∀ k, cX d g gi' r' h' ev' k → k ≠ w.heap.size := fun k hk e => by
      rcases hk with hk | hk
      · have := HC.out.hd.lt (by omega); omega
      · rcases hF.fx k hk with y | y
        · have := HC.out.dt.lt k y; omega
        · have h9 : w2.drew.heap.size = w2.heap.size := rfl
          omega
    exact ⟨c.dc.same fun k hk => hoth k (hnR k hk), HMo.out.same _ _ _ _ c.m fun k hk => hbp.block k (hlm k hk), c.fx, c.ex.next (Y := fun k => w.heap.size ≤ k) ⟨hbp.os, hbp.tape, hbp.output, hbp.size, fun k _ hx => hbp.block k (by omega)⟩ (fun k hk hx => by omega)⟩
  have HN := Lib.hid hN
  unfold put5 at HR4 HF4
  clear hF hX3 s1 HX2
  go_wp2_with fail
  generalize World.setCell (World.setCell (World.setCell (World.setCell (World.setCell w3 _ _) _ _) _ _) _ _) _ _ = w4 at *
  have o0 : w4.cell? ⟨w.heap.size, 0, none⟩ = some (.int .i64 2) := HR4.out.c 0 (by omega)
  have o1 : w4.cell? ⟨w.heap.size, 1, none⟩ = some (.int .i64 0) := HR4.out.c 1 (by omega)
  have o2 : w4.cell? ⟨w.heap.size, 2, none⟩ = some (.bool false) := HR4.out.c 2 (by omega)
  have o3 : w4.cell? ⟨w.heap.size, 3, none⟩ = some (.int .i64 zv) := HR4.out.c 3 (by omega)
  have o4 : w4.cell? ⟨w.heap.size, 4, none⟩ = some (.int .i64 N) := HR4.out.c 4 (by omega)
  refine bodyPost_ret (v := .agg #[.int .i64 2, .int .i64 0, .bool false, .int .i64 zv, .int .i64 N]) ?_ rfl ⟨?_, gi', r', h', ev', HF4.out⟩
  · simp [results, Tryz.results38, go_sem, o0, o1, o2, o3, o4]
  · rw [← HN.out]
set_option maxRecDepth 100000 in
set_option maxHeartbeats 2000000 in
theorem addPair_no {w : World} {d g gi r h : Nat} {ev : Value} {t : Tb} {mv : Value} {M : Int → Int → World → Prop} {a b : Int} {most : Int} {v : Nat} (hC : Dc w d g gi r h ev t mv most v) (hMo : MtOk mv M) (hM : M a b w) {x : Nat} {sv : Value} {m : Ma} (hm : Mx w d g gi r h ev mv x sv m) (hf : ¬ (t.live : Int) < most) :
    Calls Tryz.prog 38 #[.pointer (some ⟨x, 0, none⟩)] w fun e w' => e = .returned (tuV ⟨3, 0, false, 0, 0⟩) ∧ Cd w d g gi r h ev mv M a b most v t w' gi r h ev := by
  obtain ⟨w1, hw1⟩ : ∃ y, w.alloc (.cells #[.int .i64 0, .int .i64 0, .bool false, .int .i64 0, .int .i64 0] 40) = y := ⟨_, rfl⟩
  have hB1 : Below w.heap.size w w1 := by rw [← hw1]; exact (Below.refl _ w).alloc (Nat.le_refl _) _
  have hX1 : Blk w1 w.heap.size 5 (fun j => #[Value.int .i64 0, .int .i64 0, .bool false, .int .i64 0, .int .i64 0].getD j .nilFunc) := by rw [← hw1]; exact Blk.new w _ _
  have hC1 := hC.below hB1
  have hm1' : Mc w1 x sv d m := hm.mc.of hB1 (by omega)
  have lx := hm.mc.lt (by omega)
  have lR := hX1.lt (by omega)
  have k1 : w1.cell? ⟨x, 1, none⟩ = some (.pointer (some ⟨d, 0, none⟩)) := hm1'.c 1 (by omega)
  have C1 := isFull_any (hC1.hd.c 0 (by omega)) (hC1.hd.c 1 (by omega)) (hC1.dt.hd.c 3 (by omega))
  have C1' : Calls Tryz.prog 55 #[.pointer (some ⟨d, 0, none⟩)] w1 fun e w' => e = .returned (.bool (decide (most ≤ (t.live : Int)))) ∧ w' = w1.drew := C1
  have HC := Lib.hid hC
  have HMo := Lib.hid hMo
  have HM := Lib.hid hM
  have HB1 := Lib.hid hB1
  have HX1 := Lib.hid hX1
  have HW1 := Lib.hid hw1
  clear hC hMo hM hC1 hm1' hB1 hX1 hw1 C1 hm
  unfold tuV
  go_enter Tryz.func38, Tryz.ntmps38
  go_upto_region 1 with fail
  rw [HW1.out]
  go_wp2_with fail
  refine C1'.mono ?_
  rintro e w2 ⟨rfl, hw2⟩
  clear C1'
  have hB2 : Below w.heap.size w w2 := by rw [hw2]; exact HB1.out.drew
  have hX2 : Blk w2 w.heap.size 5 (fun j => #[Value.int .i64 0, .int .i64 0, .bool false, .int .i64 0, .int .i64 0].getD j .nilFunc) := by rw [hw2]; exact HX1.out.same rfl
  have hl2 : w.heap.size < w2.heap.size := by rw [hw2]; exact lR
  clear hw2 k1
  have tf : decide (most ≤ (t.live : Int)) = true := decide_eq_true (by omega)
  rw [tf]
  have q0 : w2.cell? ⟨w.heap.size, 0, none⟩ = some (.int .i64 0) := hX2.c 0 (by omega)
  have q1 : w2.cell? ⟨w.heap.size, 1, none⟩ = some (.int .i64 0) := hX2.c 1 (by omega)
  have q2 : w2.cell? ⟨w.heap.size, 2, none⟩ = some (.bool false) := hX2.c 2 (by omega)
  have q3 : w2.cell? ⟨w.heap.size, 3, none⟩ = some (.int .i64 0) := hX2.c 3 (by omega)
  have q4 : w2.cell? ⟨w.heap.size, 4, none⟩ = some (.int .i64 0) := hX2.c 4 (by omega)
  have z0 := hX2.z 0
  have z1 := hX2.z 1
  have z2 := hX2.z 2
  have z3 := hX2.z 3
  have z4 := hX2.z 4
  have HR4 := Lib.hid (put5_blk hX2 (.int .i64 3) (.int .i64 0) (.bool false) (.int .i64 0) (.int .i64 0))
  have HF4 := Lib.hid (HC.out.cd HMo.out HM.out (hB2.trans (put5_below (B := w.heap.size) (w := w2) w.heap.size (Nat.le_refl _) (.int .i64 3) (.int .i64 0) (.bool false) (.int .i64 0) (.int .i64 0))))
  unfold put5 at HR4 HF4
  clear hB2 hX2 tf
  go_wp2_with fail
  generalize World.setCell (World.setCell (World.setCell (World.setCell (World.setCell w2 _ _) _ _) _ _) _ _) _ _ = w4 at *
  have o0 : w4.cell? ⟨w.heap.size, 0, none⟩ = some (.int .i64 3) := HR4.out.c 0 (by omega)
  have o1 : w4.cell? ⟨w.heap.size, 1, none⟩ = some (.int .i64 0) := HR4.out.c 1 (by omega)
  have o2 : w4.cell? ⟨w.heap.size, 2, none⟩ = some (.bool false) := HR4.out.c 2 (by omega)
  have o3 : w4.cell? ⟨w.heap.size, 3, none⟩ = some (.int .i64 0) := HR4.out.c 3 (by omega)
  have o4 : w4.cell? ⟨w.heap.size, 4, none⟩ = some (.int .i64 0) := HR4.out.c 4 (by omega)
  refine bodyPost_ret (v := .agg #[.int .i64 3, .int .i64 0, .bool false, .int .i64 0, .int .i64 0]) ?_ rfl ⟨rfl, HF4.out⟩
  simp [results, Tryz.results38, go_sem, o0, o1, o2, o3, o4]
end Go.Proofs.YtbpflmdefpjcaaaGreat
namespace Go.Proofs.YtbpflmdefpjcaaaGreat
open Go.RowKit Go.WideShapes

theorem Mx.below {w w' : World} {d g gi r h : Nat} {ev : Value} {mv : Value} {x : Nat} {sv : Value} {m : Ma} (hm : Mx w d g gi r h ev mv x sv m) (hb : Below w.heap.size w w') : Mx w' d g gi r h ev mv x sv m := ⟨hm.mc.of hb (by omega), hm.ne, hm.nm⟩
theorem tu_zero_blk (w : World) {w1 : World} (h : w.alloc (.cells #[.int .i64 0, .int .i64 0, .bool false, .int .i64 0, .int .i64 0] 40) = w1) : Blk w1 w.heap.size 5 (fun j => #[Value.int .i64 0, .int .i64 0, .bool false, .int .i64 0, .int .i64 0].getD j .nilFunc) ∧ Below w.heap.size w w1 ∧ w1.heap.size = w.heap.size + 1 := by
  rw [← h]
  exact ⟨Blk.new w _ _, (Below.refl _ w).alloc (Nat.le_refl _) _, by simp⟩
set_option maxRecDepth 100000 in
set_option maxHeartbeats 2000000 in
theorem hit_any {w : World} {d g gi r h : Nat} {ev : Value} {t : Tb} {mv : Value} {M : Int → Int → World → Prop} {a b : Int} {most : Int} {v : Nat} (hC : Dc w d g gi r h ev t mv most v) (hMo : MtOk mv M) (hM : M a b w) (ht : t.turn ≤ 1000000) (hv : v ≤ 1000000000) {x : Nat} {sv : Value} {m : Ma} (hm : Mx w d g gi r h ev mv x sv m) (n : Nat) (hn : n < t.es.length) (hl : (nth t.es n).live = true) :
    Calls Tryz.prog 41 #[.pointer (some ⟨x, 0, none⟩), .int .i64 (n : Int)] w fun e w' => e = .returned (tuV ⟨2, 0, true, (nth t.es n).value, (n : Int)⟩) ∧ Cd w d g gi r h ev mv M a b most (hitN m.goal v) (hitT m t n) w' gi r h ev := by
  obtain ⟨w1, hw1⟩ : ∃ y, w.alloc (.cells #[.int .i64 0, .int .i64 0, .bool false, .int .i64 0, .int .i64 0] 40) = y := ⟨_, rfl⟩
  obtain ⟨hX1, hB1, hs1⟩ := tu_zero_blk w hw1
  have hC1 := hC.below hB1
  have hm1 := hm.below hB1
  have C1 := kept_yes (hC1.hd.c 0 (by omega))
  have C2 := at7_yes hC1.dt n hn hl
  have k1 : w1.cell? ⟨x, 1, none⟩ = some (.pointer (some ⟨d, 0, none⟩)) := hm1.mc.c 1 (by omega)
  have hlm := fun k hk => hMo.lt a b w k hM hk
  have lx := hm.mc.lt (by omega)
  have HC := Lib.hid hC
  have HMo := Lib.hid hMo
  have HM := Lib.hid hM
  have HMX := Lib.hid hm
  have HB1 := Lib.hid hB1
  have HX1 := Lib.hid hX1
  have HW1 := Lib.hid hw1
  have HL := Lib.hid hl
  have hcf : ∀ args w, (callFunc (hitF m.goal) args).run Tryz.prog w = .ok (.enter (hitF m.goal) args) w := by
    unfold hitF
    split
    · exact Tryz.call37
    · split
      · exact Tryz.call39
      · exact Tryz.call35
  have HCF : Hid (∀ V, Below w.heap.size w V → Calls Tryz.prog (hitF m.goal) #[.pointer (some ⟨x, 0, none⟩), .int .i64 (n : Int)] V fun e w' => e = .returned (.tuple #[]) ∧ Cd V d g gi r h ev mv M a b most (hitN m.goal v) (hitT m t n) w' gi r h ev) := fun V hV => hitF_any (hC.below hV) hMo (hMo.below hM hV) ht hv (hm.below hV) n hn hl
  have HK3 : Hid (∀ V, Below w.heap.size w V → V.cell? ⟨x, 3, none⟩ = some (.func (.func (hitF m.goal)) #[] #[])) := fun V hV => (hm.mc.of hV (by omega)).c 3 (by omega)
  clear hC hMo hM hm hC1 hm1 hB1 hX1 hw1 hl
  unfold tuV
  generalize (nth t.es n).live = y0 at *
  generalize (nth t.es n).hash = y1 at *
  generalize (nth t.es n).key = y2 at *
  generalize (nth t.es n).value = y3 at *
  generalize (nth t.es n).birth = y4 at *
  generalize hitF m.goal = F at *
  generalize hitN m.goal v = v' at *
  generalize hitT m t n = t' at *
  go_enter Tryz.func41, Tryz.ntmps41
  go_upto_region 1 with fail
  rw [HW1.out]
  go_wp2_with fail
  refine C1.mono ?_
  rintro e w1' ⟨rfl, rfl⟩
  go_wp2_with fail
  refine C2.mono ?_
  rintro e w2 ⟨rfl, hB2⟩
  clear C1 C2 k1
  obtain ⟨w3, hw3⟩ : ∃ y, w2.alloc (.cells #[.bool y0, .int .i64 y1, .int .i64 y2, .int .i64 y3, .int .i64 y4] 69) = y := ⟨_, rfl⟩
  have hB3 : Below w2.heap.size w2 w3 := by rw [← hw3]; exact (Below.refl _ w2).alloc (Nat.le_refl _) _
  have hX3 : Blk w3 w2.heap.size 5 (fun j => #[Value.bool y0, .int .i64 y1, .int .i64 y2, .int .i64 y3, .int .i64 y4].getD j .nilFunc) := by rw [← hw3]; exact Blk.new w2 _ _
  have hB13 := hB2.trans (hB3.mono hB2.size)
  have hB03 := HB1.out.trans (hB13.mono HB1.out.size)
  have C4 := HCF.out w3 hB03
  have k3 := HK3.out w3 hB03
  have hs2 := hB2.size
  have lE := hX3.lt (by omega)
  have HX3 := Lib.hid hX3
  have HR3 := Lib.hid (HX1.out.of hB13 (by omega))
  have HB03 := Lib.hid hB03
  have HW3 := Lib.hid hw3
  clear hB3 hX3 hB13 hB03 hw3 hB2 HCF HK3
  go_upto_region 2 with fail
  rw [HW3.out]
  go_wp2_with fail
  refine C4.mono ?_
  rintro e w4 ⟨rfl, hF⟩
  clear C4 k3
  have hs3 : w.heap.size < w3.heap.size := by omega
  have ncw : ∀ k, w.heap.size ≤ k → ¬ cX d g gi r h ev k := fun k hk hx => by have := HC.out.lt k hx; omega
  have nmw : ∀ k, w.heap.size ≤ k → ¬ mB mv k := fun k hk hx => by have := hlm k hx; omega
  have hX4 := HX3.out.same (hF.block lE (ncw _ (by omega)) (nmw _ (by omega)))
  have hR4 := HR3.out.same (hF.block hs3 (ncw _ (Nat.le_refl _)) (nmw _ (Nat.le_refl _)))
  have p3 : w4.cell? ⟨w2.heap.size, 3, none⟩ = some (.int .i64 y3) := hX4.c 3 (by omega)
  have q0 : w4.cell? ⟨w.heap.size, 0, none⟩ = some (.int .i64 0) := hR4.c 0 (by omega)
  have q1 : w4.cell? ⟨w.heap.size, 1, none⟩ = some (.int .i64 0) := hR4.c 1 (by omega)
  have q2 : w4.cell? ⟨w.heap.size, 2, none⟩ = some (.bool false) := hR4.c 2 (by omega)
  have q3 : w4.cell? ⟨w.heap.size, 3, none⟩ = some (.int .i64 0) := hR4.c 3 (by omega)
  have q4 : w4.cell? ⟨w.heap.size, 4, none⟩ = some (.int .i64 0) := hR4.c 4 (by omega)
  have z0 := hR4.z 0
  have z1 := hR4.z 1
  have z2 := hR4.z 2
  have z3 := hR4.z 3
  have z4 := hR4.z 4
  have HR5 := Lib.hid (put5_blk hR4 (.int .i64 2) (.int .i64 0) (.bool true) (.int .i64 y3) (.int .i64 (n : Int)))
  have HF5 := Lib.hid ((hF.from HB03.out).over HC.out HMo.out hlm (put5_below (B := w.heap.size) (w := w4) w.heap.size (Nat.le_refl _) (.int .i64 2) (.int .i64 0) (.bool true) (.int .i64 y3) (.int .i64 (n : Int))))
  unfold put5 at HR5 HF5
  clear hX4 hR4 hF
  go_wp2_with fail
  generalize World.setCell (World.setCell (World.setCell (World.setCell (World.setCell w4 _ _) _ _) _ _) _ _) _ _ = w5 at *
  have o0 : w5.cell? ⟨w.heap.size, 0, none⟩ = some (.int .i64 2) := HR5.out.c 0 (by omega)
  have o1 : w5.cell? ⟨w.heap.size, 1, none⟩ = some (.int .i64 0) := HR5.out.c 1 (by omega)
  have o2 : w5.cell? ⟨w.heap.size, 2, none⟩ = some (.bool true) := HR5.out.c 2 (by omega)
  have o3 : w5.cell? ⟨w.heap.size, 3, none⟩ = some (.int .i64 y3) := HR5.out.c 3 (by omega)
  have o4 : w5.cell? ⟨w.heap.size, 4, none⟩ = some (.int .i64 (n : Int)) := HR5.out.c 4 (by omega)
  refine bodyPost_ret (v := .agg #[.int .i64 2, .int .i64 0, .bool true, .int .i64 y3, .int .i64 (n : Int)]) ?_ rfl ⟨rfl, HF5.out⟩
  simp [results, Tryz.results41, go_sem, o0, o1, o2, o3, o4]
end Go.Proofs.YtbpflmdefpjcaaaGreat
namespace Go.Proofs.YtbpflmdefpjcaaaGreat
open Go.RowKit Go.WideShapes

set_option maxRecDepth 100000 in
set_option maxHeartbeats 2000000 in
theorem beginScan_any {w : World} {d g gi r h : Nat} {ev : Value} {t : Tb} {mv : Value} {most : Int} {v : Nat} (hC : Dc w d g gi r h ev t mv most v) {x : Nat} {sv : Value} {m : Ma} (hm : Mx w d g gi r h ev mv x sv m) (hsc : m.scans ≤ 1000000) :
    Calls Tryz.prog 40 #[.pointer (some ⟨x, 0, none⟩)] w fun e w' => e = .returned (.tuple #[]) ∧ ∃ s, w.heap.size ≤ s ∧ Sk w' s (.pointer (some ⟨g, 0, none⟩)) t.turn m.hash t.L 0 (-1) 0 ∧ Mc w' x (.pointer (some ⟨s, 0, none⟩)) d { m with ver := v, scans := m.scans + 1 } ∧ Ex (fun k => k = x) w w' := by
  have hbd : Below w.heap.size w w.drew := (Below.refl _ w).drew
  have hCd := hC.below hbd
  have lx := hm.mc.lt (by omega)
  have ld := hC.hd.lt (by omega)
  have hxd : x ≠ d := fun e => hm.ne (.inl e)
  have C1 : Calls Tryz.prog 30 #[.pointer (some ⟨d, 0, none⟩)] w.drew fun e w' => e = .returned (.pointer (some ⟨g, 0, none⟩)) ∧ w' = w.drew := kept_yes (hCd.hd.c 0 (by omega))
  have C2 := seek_any hCd.dt m.hash
  have hmd : Mc w.drew x sv d m := hm.mc.of hbd (by omega)
  have k1 : w.drew.cell? ⟨x, 1, none⟩ = some (.pointer (some ⟨d, 0, none⟩)) := hmd.c 1 (by omega)
  have k5 : w.drew.cell? ⟨x, 5, none⟩ = some (.int .i64 m.hash) := hmd.c 5 (by omega)
  have HMD := Lib.hid hmd
  have HCD := Lib.hid hCd.hd
  have HBD := Lib.hid hbd
  have e9 : IntKind.i64.wrap ((m.scans : Int) + 1) = (m.scans : Int) + 1 := i64_small (by omega) (by omega)
  clear hC hCd hm hmd hbd
  go_enter Tryz.func40, Tryz.ntmps40
  go_upto_region 0 with fail
  go_region_held3 (fun V => V.cell? ⟨x, 1, none⟩ = some (.pointer (some ⟨d, 0, none⟩)) ∧ V.cell? ⟨x, 5, none⟩ = some (.int .i64 m.hash))
    (first | with_reducible exact ⟨k1, k5⟩ | with_reducible exact s1 | with_reducible exact s2 | fail)
    (first | (go_at_call 30; refine C1.mono ?_; rintro e w0 ⟨rfl, rfl⟩) | (go_at_call 58; refine C2.mono ?_; rintro e w1 ⟨s, rfl, hs, hK, hb1⟩; have hM1 : Mc w1 x sv d m := HMD.out.of hb1 (by omega); have s1 : w1.cell? ⟨x, 1, none⟩ = some (.pointer (some ⟨d, 0, none⟩)) ∧ w1.cell? ⟨x, 5, none⟩ = some (.int .i64 m.hash) := ⟨hM1.c 1 (by omega), hM1.c 5 (by omega)⟩; have c0 : w1.cell? ⟨x, 0, none⟩ = some sv := hM1.c 0 (by omega); have z0 := hM1.z 0; have hM2 := hM1.put 0 (.pointer (some ⟨s, 0, none⟩)); have s2 : (w1.setCell ⟨x, 0, none⟩ (.pointer (some ⟨s, 0, none⟩))).cell? ⟨x, 1, none⟩ = some (.pointer (some ⟨d, 0, none⟩)) ∧ (w1.setCell ⟨x, 0, none⟩ (.pointer (some ⟨s, 0, none⟩))).cell? ⟨x, 5, none⟩ = some (.int .i64 m.hash) := ⟨hM2.c 1 (by omega), hM2.c 5 (by omega)⟩) | fail)
  clear C1 C2 k1 k5
  have hD2 : Blk (w1.setCell ⟨x, 0, none⟩ (.pointer (some ⟨s, 0, none⟩))) d 3 (dcF g most v) := (HCD.out.of hb1 (by omega)).same (Below.heap_setCell _ _ _ _ (fun (e : d = x) => hxd e.symm))
  have hM2' : Mc (w1.setCell ⟨x, 0, none⟩ (.pointer (some ⟨s, 0, none⟩))) x (.pointer (some ⟨s, 0, none⟩)) d m := hM2.congr fun j hj => by
    rcases lt17 hj with rfl | rfl | rfl | rfl | rfl | rfl | rfl | rfl | rfl | rfl | rfl | rfl | rfl | rfl | rfl | rfl | rfl <;> rfl
  have hsx : s ≠ x := by have h9 : w.drew.heap.size = w.heap.size := rfl; omega
  have hK2 : Sk (w1.setCell ⟨x, 0, none⟩ (.pointer (some ⟨s, 0, none⟩))) s (.pointer (some ⟨g, 0, none⟩)) t.turn m.hash t.L 0 (-1) 0 := Blk.same hK (Below.heap_setCell _ _ _ _ hsx)
  have hx2 : Ex (fun k => k = x) w (w1.setCell ⟨x, 0, none⟩ (.pointer (some ⟨s, 0, none⟩))) := (show Ex (fun k => k = x) w w1 from ex_of (HBD.out.trans hb1)).setCell (p := ⟨x, 0, none⟩) (fun _ => rfl) _
  have HS : Hid (w.heap.size ≤ s) := hs
  clear s1 s2 c0 z0 hM1 hM2 hK hb1 hs
  generalize w1.setCell ⟨x, 0, none⟩ (.pointer (some ⟨s, 0, none⟩)) = w2 at *
  have k1 : w2.cell? ⟨x, 1, none⟩ = some (.pointer (some ⟨d, 0, none⟩)) := hM2'.c 1 (by omega)
  have k8 : w2.cell? ⟨x, 8, none⟩ = some (.int .u64 (m.ver : Int)) := hM2'.c 8 (by omega)
  have k9 : w2.cell? ⟨x, 9, none⟩ = some (.int .i64 (m.scans : Int)) := hM2'.c 9 (by omega)
  have d2 : w2.cell? ⟨d, 2, none⟩ = some (.int .u64 (v : Int)) := hD2.c 2 (by omega)
  have z8 := hM2'.z 8
  have z9 := hM2'.z 9
  have HF : Hid (Mc ((w2.setCell ⟨x, 8, none⟩ (.int .u64 (v : Int))).setCell ⟨x, 9, none⟩ (.int .i64 ((m.scans : Int) + 1))) x (.pointer (some ⟨s, 0, none⟩)) d { m with ver := v, scans := m.scans + 1 }) := ((hM2'.put 8 _).put 9 _).congr fun j hj => by
    rcases lt17 hj with rfl | rfl | rfl | rfl | rfl | rfl | rfl | rfl | rfl | rfl | rfl | rfl | rfl | rfl | rfl | rfl | rfl
    all_goals first | rfl | (show Value.int .i64 (((m.scans + 1 : Nat)) : Int) = Value.int .i64 ((m.scans : Int) + 1); rw [Int.natCast_add]; rfl)
  have HK3 : Hid (Sk ((w2.setCell ⟨x, 8, none⟩ (.int .u64 (v : Int))).setCell ⟨x, 9, none⟩ (.int .i64 ((m.scans : Int) + 1))) s (.pointer (some ⟨g, 0, none⟩)) t.turn m.hash t.L 0 (-1) 0) := Blk.same hK2 (by rw [Below.heap_setCell _ _ _ _ hsx, Below.heap_setCell _ _ _ _ hsx])
  have HX3 := Lib.hid ((hx2.setCell (p := ⟨x, 8, none⟩) (fun _ => rfl) (.int .u64 (v : Int))).setCell (p := ⟨x, 9, none⟩) (fun _ => rfl) (.int .i64 ((m.scans : Int) + 1)))
  clear hM2' hD2 hK2 hx2
  go_wp2_with fail
  go_end0
  exact ⟨rfl, s, HS.out, HK3.out, HF.out, HX3.out⟩
end Go.Proofs.YtbpflmdefpjcaaaGreat
namespace Go.Proofs.YtbpflmdefpjcaaaGreat
open Go.RowKit Go.WideShapes

/-- What a machine's step leaves of its dictionary: all but that, its meter, the machine and its Seeker is as it was. -/
structure Cm (w : World) (d g gi r h : Nat) (ev : Value) (mv : Value) (M : Int → Int → World → Prop) (x : Nat) (sv : Value) (a b : Int) (most : Int) (v : Nat) (t' : Tb) (w' : World) (gi' r' h' : Nat) (ev' : Value) : Prop where
  dc : Dc w' d g gi' r' h' ev' t' mv most v
  m : M a b w'
  fx : ∀ j, dX g gi' r' h' ev' j → dX g gi r h ev j ∨ w.heap.size ≤ j
  ex : Ex (fun j => cX d g gi r h ev j ∨ mB mv j ∨ j = x ∨ mB sv j) w w'
/-- A Seeker under way, at place i. -/
structure Sw (w : World) (d g gi r h : Nat) (ev : Value) (t : Tb) (mv : Value) (x s : Nat) (u : Int) (i : Nat) (told : Int) (f : Nat) : Prop where
  sk : Sk w s (.pointer (some ⟨g, 0, none⟩)) t.turn u t.L i told i
  td : Told t.es t.L t.c u i told
  ff : IsF t.c (uw u) t.L f
  le : i ≤ f
  lt : f < 2 ^ t.L + 13
  ge : -1 ≤ told
  nc : ¬ cX d g gi r h ev s
  nm : ¬ mB mv s
  nx : s ≠ x
/-- Where goOn stands when it asks its Seeker. -/
structure A5 (w : World) (d g gi r h : Nat) (ev : Value) (t : Tb) (mv : Value) (M : Int → Int → World → Prop) (x : Nat) (sv : Value) (a b : Int) (most : Int) (v : Nat) (m1 : Ma) (s i : Nat) (told : Int) (f : Nat) (wS : World) : Prop where
  dc : Dc wS d g gi r h ev t mv most v
  m : M a b wS
  mx : Mc wS x (.pointer (some ⟨s, 0, none⟩)) d m1
  sw : Sw wS d g gi r h ev t mv x s m1.hash i told f
  sf : mB sv s ∨ w.heap.size ≤ s
  ex : Ex (fun k => k = x) w wS
/-- Behind Next. -/
structure A6 (w : World) (d g gi r h : Nat) (ev : Value) (t : Tb) (mv : Value) (M : Int → Int → World → Prop) (x : Nat) (sv : Value) (a b : Int) (most : Int) (v : Nat) (m1 : Ma) (s : Nat) (w6 : World) : Prop where
  dc : Dc w6 d g gi r h ev t mv most v
  m : M a b w6
  mx : Mc w6 x (.pointer (some ⟨s, 0, none⟩)) d m1
  ls : s < w6.heap.size
  sf : mB sv s ∨ w.heap.size ≤ s
  ex : Ex (fun k => mB mv k ∨ k = x ∨ mB sv k) w w6
/-- A Seeker that has visited so many cells. -/
def Vi (w : World) (s n : Nat) : Prop := ∃ tp turn u L i told, Sk w s tp turn u L i told n
theorem Vi.same {w w' : World} {s n : Nat} (h : Vi w s n) (e : w'.heap[s]? = w.heap[s]?) : Vi w' s n := by
  obtain ⟨tp, turn, u, L, i, told, h⟩ := h
  exact ⟨tp, turn, u, L, i, told, Blk.same h e⟩
theorem A5.next {w : World} {d g gi r h : Nat} {ev : Value} {t : Tb} {mv : Value} {M : Int → Int → World → Prop} {x : Nat} {sv : Value} {a b : Int} {most : Int} {v : Nat} {m1 : Ma} {s i : Nat} {told : Int} {f : Nat} {wS : World} (hA : A5 w d g gi r h ev t mv M x sv a b most v m1 s i told f wS) (hMo : MtOk mv M) (hMv : MvOk mv M) (hb : 0 ≤ b ∧ b ≤ 100000000000) (nx : ¬ cX d g gi r h ev x) (nmx : ¬ mB mv x) :
    Calls Tryz.prog 42 #[.pointer (some ⟨s, 0, none⟩)] wS fun e w6 => ∃ j, i ≤ j ∧ j ≤ f ∧ A6 w d g gi r h ev t mv M x sv a (b + ((j + 1 - i : Nat) : Int)) most v m1 s w6 ∧ Ex (fun k => k = s ∨ mB mv k) wS w6 ∧ (Vi w6 s (j + 1) ∧ ¬ cX d g gi r h ev s ∧ ¬ mB mv s) ∧
      ((∃ n : Nat, e = .returned (.tuple #[.int .i64 (n : Int), .bool true]) ∧ Of t.es m1.hash n ∧ told < (n : Int) ∧ ((∀ k, Of t.es m1.hash k → told < (k : Int) → n ≤ k) ∧ t.c (trl (uw m1.hash) t.L j) = (n : Int) ∧ Told t.es t.L t.c m1.hash j told) ∧ Sw w6 d g gi r h ev t mv x s m1.hash (j + 1) (n : Int) f) ∨
       (e = .returned (.tuple #[.int .i64 (-1), .bool false]) ∧ j = f ∧ (∀ n, Of t.es m1.hash n → (n : Int) ≤ told))) := by
  have hP : 2 ^ t.L ≤ 1048576 := Nat.le_trans (Nat.pow_le_pow_right (n := 2) (by decide) hA.dc.ok.sz.2) (by decide)
  have hlen : t.es.length ≤ 100000 := Nat.le_trans hA.dc.ok.few hA.dc.ok.all
  have nds : ¬ dX g gi r h ev s := fun h => hA.sw.nc (.inr h)
  have hlt := hA.sw.lt
  have hle := hA.sw.le
  have key : ∀ w6, Ex (fun k => k = s ∨ mB mv k) wS w6 → ∀ b', M a b' w6 → A6 w d g gi r h ev t mv M x sv a b' most v m1 s w6 := fun w6 hx b' hm => by
    have lx := hA.mx.lt (by omega)
    refine ⟨hA.dc.same fun k hk => hx.block k (hA.dc.lt k hk) (fun hy => ?_), hm, hA.mx.same (hx.block x lx (fun hy => hy.elim (fun e => hA.sw.nx e.symm) nmx)), Nat.lt_of_lt_of_le (hA.sw.sk.lt (by omega)) hx.size, hA.sf, ?_⟩
    · rcases hy with rfl | hy
      · exact hA.sw.nc hk
      · rcases hk with rfl | hk
        · exact hA.dc.nm hy
        · obtain ⟨m1', m2, m3, m4, m5⟩ := hA.dc.dt.mp k hy
          rcases hk with y | y | y | y | y
          · exact m1' y
          · exact m2 y
          · exact m3 y
          · exact m4 y
          · exact m5 y
    · refine (hA.ex.mono (fun k _ e => .inr (.inl e))).next hx (fun k hk hy => ?_)
      rcases hy with rfl | hy
      · exact hA.sf.elim (fun y => .inr (.inr y)) (fun y => by omega)
      · exact .inl hy
  refine (next7_any hA.dc.dt hA.dc.ok.inv hMo hMv hA.m hb hA.sw.sk nds hA.sw.nm (by omega) hA.sw.td hA.sw.ff hA.sw.lt hA.sw.le hA.sw.ge hlen).mono ?_
  rintro e w6 ⟨j, h1, h2, hcs⟩
  have vi : ∀ {tp : Value} {told' : Int}, Sk w6 s tp t.turn m1.hash t.L (j + 1) told' (i + (j + 1 - i)) → Sk w6 s tp t.turn m1.hash t.L (j + 1) told' (j + 1) := fun hk => by
    rw [show i + (j + 1 - i) = j + 1 by omega] at hk
    exact hk
  rcases hcs with (⟨n, rfl, o1, l1, c1, a1, b1, m1', hN⟩ | ⟨rfl, rfl, hall, hN⟩)
  · refine ⟨j, h1, h2, key w6 hN.ex _ hN.m, hN.ex, ⟨⟨_, _, _, _, _, _, vi hN.sk⟩, hA.sw.nc, hA.sw.nm⟩, .inl ⟨n, rfl, o1, l1, ⟨m1', c1, a1⟩, ?_⟩⟩
    have hjlt : j < f := by
      rcases Nat.lt_or_ge j f with z | z
      · exact z
      · have : j = f := by omega
        rw [this, hA.sw.ff.1] at c1
        omega
    have hk := hN.sk
    rw [show i + (j + 1 - i) = j + 1 by omega] at hk
    exact ⟨hk, b1, hA.sw.ff, hjlt, hA.sw.lt, by omega, hA.sw.nc, hA.sw.nm, hA.sw.nx⟩
  · exact ⟨j, h1, h2, key w6 hN.ex _ hN.m, hN.ex, ⟨⟨_, _, _, _, _, _, vi hN.sk⟩, hA.sw.nc, hA.sw.nm⟩, .inr ⟨rfl, rfl, hall⟩⟩
/-- A call of the dictionary behind that. -/
theorem A6.cm {w w' : World} {d g gi r h : Nat} {ev : Value} {t : Tb} {mv : Value} {M : Int → Int → World → Prop} {x : Nat} {sv : Value} {a b a' b' : Int} {most : Int} {v v' : Nat} {m1 : Ma} {s : Nat} {w6 : World} (hA : A6 w d g gi r h ev t mv M x sv a b most v m1 s w6) {t' : Tb} {gi' r' h' : Nat} {ev' : Value} (c : Cd w6 d g gi r h ev mv M a' b' most v' t' w' gi' r' h' ev') : Cm w d g gi r h ev mv M x sv a' b' most v' t' w' gi' r' h' ev' :=
  ⟨c.dc, c.m, fun j hj => (c.fx j hj).elim .inl (fun y => .inr (Nat.le_trans hA.ex.size y)), (hA.ex.mono (fun _ _ hk => .inr hk)).next c.ex (fun _ _ hk => hk.elim .inl (fun y => .inr (.inl y)))⟩
end Go.Proofs.YtbpflmdefpjcaaaGreat
namespace Go.Proofs.YtbpflmdefpjcaaaGreat
open Go.RowKit Go.WideShapes

/-- What a miss tells, and what it makes of a dictionary. -/
def MsR (m : Ma) (t : Tb) (most : Int) (u : Tu) (P : Int → Nat → Tb → Prop) : Prop :=
  ((m.goal = 2 ∨ m.goal = 4) ∧ (t.live : Int) < most ∧ u = ⟨2, 0, false, m.value, (((t.add m.hash m.key m.value).es.length - 1 : Nat) : Int)⟩ ∧ P (((t.add m.hash m.key m.value).made - t.made : Nat) : Int) 1 (t.add m.hash m.key m.value)) ∨
  ((m.goal = 2 ∨ m.goal = 4) ∧ ¬ (t.live : Int) < most ∧ u = ⟨3, 0, false, 0, 0⟩ ∧ P 0 0 t) ∨
  (¬ (m.goal = 2 ∨ m.goal = 4) ∧ u = ⟨2, 0, false, 0, -1⟩ ∧ P 0 0 t)
theorem MsR.mono {m : Ma} {t : Tb} {most : Int} {u : Tu} {P Q : Int → Nat → Tb → Prop} (h : MsR m t most u P) (f : ∀ a v t', P a v t' → Q a v t') : MsR m t most u Q := by
  rcases h with ⟨h1, h2, h3, h4⟩ | ⟨h1, h2, h3, h4⟩ | ⟨h1, h2, h3⟩
  · exact .inl ⟨h1, h2, h3, f _ _ _ h4⟩
  · exact .inr (.inl ⟨h1, h2, h3, f _ _ _ h4⟩)
  · exact .inr (.inr ⟨h1, h2, f _ _ _ h3⟩)
theorem missF_any {w : World} {d g gi r h : Nat} {ev : Value} {t : Tb} {mv : Value} {M : Int → Int → World → Prop} {a b : Int} {most : Int} {v : Nat} (hC : Dc w d g gi r h ev t mv most v) (hMo : MtOk mv M) (hM : M a b w) (hm1 : t.made ≤ 1000000) (ha : 0 ≤ a ∧ a ≤ 1000000000) (ht : t.turn ≤ 1000000) (hb : t.births < 100000) (hv : v ≤ 1000000000) {x : Nat} {sv : Value} {m : Ma} (hm : Mx w d g gi r h ev mv x sv m) :
    Calls Tryz.prog (missF m.goal) #[.pointer (some ⟨x, 0, none⟩)] w fun e w' => ∃ u, e = .returned (tuV u) ∧ MsR m t most u (fun da dv t' => ∃ gi' r' h' ev', Cd w d g gi r h ev mv M (a + da) b most (v + dv) t' w' gi' r' h' ev') := by
  by_cases hg : m.goal = 2 ∨ m.goal = 4
  · rw [missF, if_pos hg]
    by_cases hf : (t.live : Int) < most
    · refine (addPair_yes hC hMo hM hm1 ha ht hb hv hm hf).mono ?_
      rintro e w' ⟨rfl, h2⟩
      exact ⟨_, rfl, .inl ⟨hg, hf, rfl, h2⟩⟩
    · refine (addPair_no hC hMo hM hm hf).mono ?_
      rintro e w' ⟨rfl, h2⟩
      exact ⟨_, rfl, .inr (.inl ⟨hg, hf, rfl, gi, r, h, ev, by rw [Int.add_zero]; exact h2⟩)⟩
  · rw [missF, if_neg hg]
    refine (tellNone_any _ w).mono ?_
    rintro e w' ⟨rfl, h2⟩
    exact ⟨_, rfl, .inr (.inr ⟨hg, rfl, gi, r, h, ev, by rw [Int.add_zero]; exact hC.cd hMo hM h2⟩)⟩
/-- What goOn tells and leaves, its Seeker at place i. -/
def GoR (w : World) (d g gi r h : Nat) (ev : Value) (t : Tb) (mv : Value) (M : Int → Int → World → Prop) (x : Nat) (sv : Value) (a b : Int) (most : Int) (v : Nat) (m1 : Ma) (s i : Nat) (told : Int) (f : Nat) (u : Tu) (w' : World) : Prop :=
  ∃ j, i ≤ j ∧ j ≤ f ∧
    ((∃ n : Nat, Of t.es m1.hash n ∧ told < (n : Int) ∧ ((∀ k, Of t.es m1.hash k → told < (k : Int) → n ≤ k) ∧ t.c (trl (uw m1.hash) t.L j) = (n : Int) ∧ Told t.es t.L t.c m1.hash j told) ∧
        (((nth t.es n).key = m1.key ∧ u = ⟨2, 0, true, (nth t.es n).value, (n : Int)⟩ ∧ Cm w d g gi r h ev mv M x sv a (b + ((j + 1 - i : Nat) : Int)) most (hitN m1.goal v) (hitT m1 t n) w' gi r h ev ∧ Mc w' x (.pointer (some ⟨s, 0, none⟩)) d m1 ∧ Vi w' s (j + 1)) ∨
         ((nth t.es n).key ≠ m1.key ∧ u = ⟨1, (nth t.es n).key, false, 0, 0⟩ ∧ Cm w d g gi r h ev mv M x sv a (b + ((j + 1 - i : Nat) : Int)) most v t w' gi r h ev ∧ Mc w' x (.pointer (some ⟨s, 0, none⟩)) d { m1 with asked := (n : Int) } ∧ Sw w' d g gi r h ev t mv x s m1.hash (j + 1) (n : Int) f))) ∨
     (j = f ∧ (∀ n, Of t.es m1.hash n → (n : Int) ≤ told) ∧ MsR m1 t most u (fun da dv t' => ∃ gi' r' h' ev', Cm w d g gi r h ev mv M x sv (a + da) (b + ((j + 1 - i : Nat) : Int)) most (v + dv) t' w' gi' r' h' ev' ∧ ¬ cX d g gi' r' h' ev' s) ∧ Mc w' x (.pointer (some ⟨s, 0, none⟩)) d m1 ∧ Vi w' s (j + 1)))
/-- A result's five cells. -/
def rZ (j : Nat) : Value := #[Value.int .i64 0, .int .i64 0, .bool false, .int .i64 0, .int .i64 0].getD j .nilFunc
def putU (w : World) (R : Nat) (u : Tu) : World := put5 w R (.int .i64 u.kind) (.int .i64 u.key) (.bool u.found) (.int .i64 u.value) (.int .i64 u.entry)
theorem putU_below {B : Nat} {w : World} (R : Nat) (hR : B ≤ R) (u : Tu) : Below B w (putU w R u) := put5_below R hR _ _ _ _ _
theorem putU_other (w : World) (R : Nat) (u : Tu) (k : Nat) (hk : k ≠ R) : (putU w R u).heap[k]? = w.heap[k]? := by
  unfold putU put5
  rw [Below.heap_setCell _ _ _ _ hk, Below.heap_setCell _ _ _ _ hk, Below.heap_setCell _ _ _ _ hk, Below.heap_setCell _ _ _ _ hk, Below.heap_setCell _ _ _ _ hk]
/-- A call of the dictionary, and the turn laid into the result. -/
theorem A6.cmp {w w7 : World} {d g gi r h : Nat} {ev : Value} {t : Tb} {mv : Value} {M : Int → Int → World → Prop} {x : Nat} {sv : Value} {a b a' b' : Int} {most : Int} {v v' : Nat} {m1 : Ma} {s : Nat} {w6 : World} (hA : A6 w d g gi r h ev t mv M x sv a b most v m1 s w6) {t' : Tb} {gi' r' h' : Nat} {ev' : Value} (c : Cd w6 d g gi r h ev mv M a' b' most v' t' w7 gi' r' h' ev') (hMo : MtOk mv M) (hlt : ∀ k, cX d g gi r h ev k → k < w.heap.size) (hlm : ∀ k, mB mv k → k < w.heap.size) {R : Nat} (hR : w.heap.size ≤ R) (hR6 : R < w6.heap.size) (u : Tu) : Cm w d g gi r h ev mv M x sv a' b' most v' t' (putU w7 R u) gi' r' h' ev' := by
  have hbp : Below w.heap.size w7 (putU w7 R u) := putU_below R hR u
  have c' := hA.cm c
  refine ⟨c.dc.same fun k hk => putU_other w7 R u k (fun e => ?_), hMo.same _ _ _ _ c.m fun k hk => hbp.block k (hlm k hk), c'.fx, c'.ex.next (Y := fun k => w.heap.size ≤ k) ⟨hbp.os, hbp.tape, hbp.output, hbp.size, fun k _ hy => hbp.block k (by omega)⟩ (fun k hk hy => by omega)⟩
  rcases hk with hk | hk
  · have := hlt k (.inl hk); omega
  · rcases c.fx k hk with y | y
    · have := hlt k (.inr y); omega
    · omega
theorem MsR.any {m : Ma} {t : Tb} {most : Int} {u : Tu} {P : Int → Nat → Tb → Prop} (h : MsR m t most u P) : ∃ a v t', P a v t' := by
  rcases h with ⟨_, _, _, h⟩ | ⟨_, _, _, h⟩ | ⟨_, _, h⟩
  · exact ⟨_, _, _, h⟩
  · exact ⟨_, _, _, h⟩
  · exact ⟨_, _, _, h⟩
end Go.Proofs.YtbpflmdefpjcaaaGreat
namespace Go.Proofs.YtbpflmdefpjcaaaGreat
open Go.RowKit Go.WideShapes

/-- Whether a machine begins a scan, or goes on with the one that it has. -/
def Way (w : World) (d g gi r h : Nat) (ev : Value) (t : Tb) (mv : Value) (v : Nat) (x : Nat) (sv : Value) (m : Ma) : Prop :=
  (m.scans = 0 ∨ m.ver ≠ v) ∨ (m.scans ≠ 0 ∧ m.ver = v ∧ m.same = false ∧ ∃ s i told f, sv = .pointer (some ⟨s, 0, none⟩) ∧ Sw w d g gi r h ev t mv x s m.hash i told f)
/-- Where the Seeker stands that goOn asks: a new one, or the one that there was. -/
def St0 (w : World) (d g gi r h : Nat) (ev : Value) (t : Tb) (mv : Value) (v : Nat) (x : Nat) (sv : Value) (m : Ma) (s i : Nat) (told : Int) (f sc : Nat) : Prop := (m.scans = 0 ∨ m.ver ≠ v) ∧ i = 0 ∧ told = -1 ∧ sc = m.scans + 1 ∧ w.heap.size ≤ s ∧ f < 2 ^ t.L + 13 ∧ IsF t.c (uw m.hash) t.L f ∨ (m.scans ≠ 0 ∧ m.ver = v) ∧ sv = .pointer (some ⟨s, 0, none⟩) ∧ sc = m.scans ∧ Sw w d g gi r h ev t mv x s m.hash i told f
theorem Sw.of {w w' : World} {d g gi r h : Nat} {ev : Value} {t : Tb} {mv : Value} {x s : Nat} {u : Int} {i : Nat} {told : Int} {f : Nat} (hS : Sw w d g gi r h ev t mv x s u i told f) (e : w'.heap[s]? = w.heap[s]?) : Sw w' d g gi r h ev t mv x s u i told f := ⟨hS.sk.same e, hS.td, hS.ff, hS.le, hS.lt, hS.ge, hS.nc, hS.nm, hS.nx⟩
set_option maxRecDepth 100000 in
set_option maxHeartbeats 8000000 in
theorem goOn_next {w : World} {d g gi r h : Nat} {ev : Value} {t : Tb} {mv : Value} {M : Int → Int → World → Prop} {a b : Int} {most : Int} {v : Nat} (hC : Dc w d g gi r h ev t mv most v) (hMo : MtOk mv M) (hMv : MvOk mv M) (hM : M a b w) (hm1 : t.made ≤ 1000000) (ha : 0 ≤ a ∧ a ≤ 1000000000) (hb : 0 ≤ b ∧ b ≤ 100000000000) (ht : t.turn ≤ 1000000) (hbi : t.births < 100000) (hv : v ≤ 1000000000) {x : Nat} {sv : Value} {m : Ma} (hm : Mx w d g gi r h ev mv x sv m) (hsc : m.scans ≤ 1000000) (hver : m.ver ≤ 1000000000) (hW : Way w d g gi r h ev t mv v x sv m) :
    Calls Tryz.prog 25 #[.pointer (some ⟨x, 0, none⟩)] w fun e w' => ∃ u s i told f sc, e = .returned (tuV u) ∧ St0 w d g gi r h ev t mv v x sv m s i told f sc ∧ GoR w d g gi r h ev t mv M x sv a b most v { m with ver := v, scans := sc } s i told f u w' := by
  obtain ⟨w1, hw1⟩ : ∃ y, w.alloc (.cells #[.int .i64 0, .int .i64 0, .bool false, .int .i64 0, .int .i64 0] 40) = y := ⟨_, rfl⟩
  obtain ⟨hX1, hB1, hs1⟩ := tu_zero_blk w hw1
  have hC1 := hC.below hB1
  have hmx1 := hm.below hB1
  have lx := hm.mc.lt (by omega)
  have hlm := fun k hk => hMo.lt a b w k hM hk
  have k1 : w1.cell? ⟨x, 1, none⟩ = some (.pointer (some ⟨d, 0, none⟩)) := hmx1.mc.c 1 (by omega)
  have k8 : w1.cell? ⟨x, 8, none⟩ = some (.int .u64 (m.ver : Int)) := hmx1.mc.c 8 (by omega)
  have k9 : w1.cell? ⟨x, 9, none⟩ = some (.int .i64 (m.scans : Int)) := hmx1.mc.c 9 (by omega)
  have k16 : w1.cell? ⟨x, 16, none⟩ = some (.bool m.same) := hmx1.mc.c 16 (by omega)
  have d2 : w1.cell? ⟨d, 2, none⟩ = some (.int .u64 (v : Int)) := hC1.hd.c 2 (by omega)
  have hxR : x ≠ w.heap.size := by omega
  have HC := Lib.hid hC
  have HMo := Lib.hid hMo
  have HMv := Lib.hid hMv
  have HM := Lib.hid hM
  have HMX := Lib.hid hm
  have HB1 := Lib.hid hB1
  have HX1 := Lib.hid hX1
  have HW1 := Lib.hid hw1
  have HWay := Lib.hid hW
  clear hC hMo hMv hM hm hC1 hmx1 hB1 hX1 hw1 hW
  go_enter Tryz.func25, Tryz.ntmps25
  go_upto_region 1 with fail
  rw [HW1.out]
  have W3 : m.scans = 0 ∨ (m.scans ≠ 0 ∧ m.ver ≠ v) ∨ (m.scans ≠ 0 ∧ m.ver = v ∧ m.same = false ∧ ∃ s i told f, sv = .pointer (some ⟨s, 0, none⟩) ∧ Sw w d g gi r h ev t mv x s m.hash i told f) := by
    rcases HWay.out with (y | y) | y
    · exact .inl y
    · by_cases z : m.scans = 0
      · exact .inl z
      · exact .inr (.inl ⟨z, y⟩)
    · exact .inr (.inr y)
  have HCS : Hid (∀ V, Below w.heap.size w V → Calls Tryz.prog 40 #[.pointer (some ⟨x, 0, none⟩)] V fun e w' => e = .returned (.tuple #[]) ∧ ∃ s, V.heap.size ≤ s ∧ Sk w' s (.pointer (some ⟨g, 0, none⟩)) t.turn m.hash t.L 0 (-1) 0 ∧ Mc w' x (.pointer (some ⟨s, 0, none⟩)) d { m with ver := v, scans := m.scans + 1 } ∧ Ex (fun k => k = x) V w') := fun V hV => beginScan_any (HC.out.below hV) (HMX.out.below hV) hsc
  clear HWay
  rcases W3 with h0 | ⟨h0, hvv⟩ | ⟨hne0, hev, hsm, s, i, told, f, hsv, hSW⟩
  case' inl =>
      have t0 : ((m.scans : Int) == 0) = true := by rw [beq_iff_eq]; omega
      have HBEG : Hid (m.scans = 0 ∨ m.ver ≠ v) := .inl h0
      clear h0
      go_quiet (fail)
      clear t0
      have hBq : Below w.heap.size w (w1.drewN nq) := ⟨HB1.out.os, HB1.out.tape, HB1.out.output, HB1.out.size, HB1.out.block⟩
      have hXq : Blk (w1.drewN nq) w.heap.size 5 rZ := HX1.out.same rfl
      have CS := HCS.out _ hBq
      have HBq := Lib.hid hBq
      have HXq := Lib.hid hXq
      have hsq : (w1.drewN nq).heap.size = w.heap.size + 1 := hs1
      clear hBq hXq k1 k8 k9 k16 d2
      generalize w1.drewN nq = wq at *
      go_wp2_with fail
      refine CS.mono ?_
      rintro e wS ⟨rfl, s, hs, hK, hmc, hx⟩
      clear CS HCS
      obtain ⟨f, hf1, hf2⟩ := HC.out.ok.inv.first m.hash
      have hCq := HC.out.below HBq.out
      have HA5 : Hid (A5 w d g gi r h ev t mv M x sv a b most v { m with ver := v, scans := m.scans + 1 } s 0 (-1) f wS) :=
        ⟨hCq.same fun k hk => hx.block k (hCq.lt k hk) (fun (e : k = x) => HMX.out.ne (e ▸ hk)), HMo.out.same _ _ _ _ (HMo.out.below HM.out HBq.out) fun k hk => hx.block k (by have := hlm k hk; omega) (fun (e : k = x) => HMX.out.nm (e ▸ hk)), hmc,
          ⟨hK, told_zero _ _ _ _, hf2, Nat.zero_le _, hf1, Int.le_refl _, fun hk => by have := HC.out.lt s hk; omega, fun hk => by have := hlm s hk; omega, by omega⟩, .inr (by omega), (ex_of HBq.out).next hx (fun _ _ y => y)⟩
      have HR5 : Hid (Blk wS w.heap.size 5 rZ) := HXq.out.same (hx.block _ (by omega) (fun e => hxR e.symm))
      have hsR : s ≠ w.heap.size := by omega
      have hRS : w.heap.size < wS.heap.size := by have := hx.size; omega
      have HST : Hid (St0 w d g gi r h ev t mv v x sv m s 0 (-1) f (m.scans + 1)) := .inl ⟨HBEG.out, rfl, rfl, rfl, by omega, hf1, hf2⟩
      clear hs hK hmc hx hCq hf1 hf2 HBEG HXq HBq hsq
      go_upto_region 5 with fail
      obtain ⟨i, told, sc, HA5, HST⟩ : ∃ i told sc, Hid (A5 w d g gi r h ev t mv M x sv a b most v { m with ver := v, scans := sc } s i told f wS) ∧ Hid (St0 w d g gi r h ev t mv v x sv m s i told f sc) := ⟨_, _, _, HA5, HST⟩
  case' inr.inl =>
      have t0 : ((m.scans : Int) == 0) = false := by rw [beq_eq_false_iff_ne]; omega
      have t1 : ((m.ver : Int) != (v : Int)) = true := by rw [bne_iff_ne]; omega
      have HBEG : Hid (m.scans = 0 ∨ m.ver ≠ v) := .inr hvv
      clear h0 hvv
      go_quiet (fail)
      clear t0 t1
      have hBq : Below w.heap.size w (w1.drewN nq) := ⟨HB1.out.os, HB1.out.tape, HB1.out.output, HB1.out.size, HB1.out.block⟩
      have hXq : Blk (w1.drewN nq) w.heap.size 5 rZ := HX1.out.same rfl
      have CS := HCS.out _ hBq
      have HBq := Lib.hid hBq
      have HXq := Lib.hid hXq
      have hsq : (w1.drewN nq).heap.size = w.heap.size + 1 := hs1
      clear hBq hXq k1 k8 k9 k16 d2
      generalize w1.drewN nq = wq at *
      go_wp2_with fail
      refine CS.mono ?_
      rintro e wS ⟨rfl, s, hs, hK, hmc, hx⟩
      clear CS HCS
      obtain ⟨f, hf1, hf2⟩ := HC.out.ok.inv.first m.hash
      have hCq := HC.out.below HBq.out
      have HA5 : Hid (A5 w d g gi r h ev t mv M x sv a b most v { m with ver := v, scans := m.scans + 1 } s 0 (-1) f wS) :=
        ⟨hCq.same fun k hk => hx.block k (hCq.lt k hk) (fun (e : k = x) => HMX.out.ne (e ▸ hk)), HMo.out.same _ _ _ _ (HMo.out.below HM.out HBq.out) fun k hk => hx.block k (by have := hlm k hk; omega) (fun (e : k = x) => HMX.out.nm (e ▸ hk)), hmc,
          ⟨hK, told_zero _ _ _ _, hf2, Nat.zero_le _, hf1, Int.le_refl _, fun hk => by have := HC.out.lt s hk; omega, fun hk => by have := hlm s hk; omega, by omega⟩, .inr (by omega), (ex_of HBq.out).next hx (fun _ _ y => y)⟩
      have HR5 : Hid (Blk wS w.heap.size 5 rZ) := HXq.out.same (hx.block _ (by omega) (fun e => hxR e.symm))
      have hsR : s ≠ w.heap.size := by omega
      have hRS : w.heap.size < wS.heap.size := by have := hx.size; omega
      have HST : Hid (St0 w d g gi r h ev t mv v x sv m s 0 (-1) f (m.scans + 1)) := .inl ⟨HBEG.out, rfl, rfl, rfl, by omega, hf1, hf2⟩
      clear hs hK hmc hx hCq hf1 hf2 HBEG HXq HBq hsq
      go_upto_region 5 with fail
      obtain ⟨i, told, sc, HA5, HST⟩ : ∃ i told sc, Hid (A5 w d g gi r h ev t mv M x sv a b most v { m with ver := v, scans := sc } s i told f wS) ∧ Hid (St0 w d g gi r h ev t mv v x sv m s i told f sc) := ⟨_, _, _, HA5, HST⟩
  case' inr.inr =>
    clear HCS
    have t0 : ((m.scans : Int) == 0) = false := by rw [beq_eq_false_iff_ne]; omega
    have t1 : ((m.ver : Int) != (v : Int)) = false := by rw [hev]; simp
    rw [hsm] at k16
    have hBq : Hid (∀ n, Below w.heap.size w (w1.drewN n)) := fun n => ⟨HB1.out.os, HB1.out.tape, HB1.out.output, HB1.out.size, HB1.out.block⟩
    have ls := hSW.sk.lt (by omega)
    have hmm : ({ m with ver := v, scans := m.scans } : Ma) = m := by cases m; simp at hev; subst hev; rfl
    have HST : Hid (St0 w d g gi r h ev t mv v x sv m s i told f m.scans) := .inr ⟨⟨hne0, hev⟩, hsv, rfl, hSW⟩
    have HA : Hid (∀ n, A5 w d g gi r h ev t mv M x sv a b most v { m with ver := v, scans := m.scans } s i told f (w1.drewN n)) := fun n => by
      rw [hmm]
      have hbb := hBq.out n
      exact ⟨HC.out.below hbb, HMo.out.below HM.out hbb, by rw [← hsv]; exact (HMX.out.below hbb).mc, hSW.of (hbb.block s ls), .inl hsv, ex_of hbb⟩
    have HRq : Hid (∀ n, Blk (w1.drewN n) w.heap.size 5 rZ) := fun n => HX1.out.same rfl
    have hsR : s ≠ w.heap.size := by omega
    have hRs : ∀ n, (w1.drewN n).heap.size = w.heap.size + 1 := fun n => hs1
    have HRs := Lib.hid hRs
    clear hne0 hev hsm hsv hSW hmm hRs
    go_quiet (fail)
    clear t0 t1
    go_upto_region 5 with fail
    clear k1 k8 k9 k16 d2
    have HA5 := Lib.hid (HA.out nq)
    have HR5 := Lib.hid (HRq.out nq)
    have hRS : w.heap.size < (w1.drewN nq).heap.size := by rw [HRs.out nq]; omega
    generalize w1.drewN nq = wS at *
    obtain ⟨sc, HA5, HST⟩ : ∃ sc, Hid (A5 w d g gi r h ev t mv M x sv a b most v { m with ver := v, scans := sc } s i told f wS) ∧ Hid (St0 w d g gi r h ev t mv v x sv m s i told f sc) := ⟨_, HA5, HST⟩
    clear HA HRq HRs hBq ls
  all_goals
    have hA5 := HA5.out
    have k0 : wS.cell? ⟨x, 0, none⟩ = some (.pointer (some ⟨s, 0, none⟩)) := hA5.mx.c 0 (by omega)
    have CN := hA5.next HMo.out HMv.out hb HMX.out.ne HMX.out.nm
    clear hA5
    go_wp2_with fail
    refine CN.mono ?_
    rintro e w6 ⟨j, hij, hjf, hA6, hx6, hVk, hcase⟩
    have HVk := Lib.hid hVk
    clear hVk
    clear CN k0
    have hR6 : Blk w6 w.heap.size 5 rZ := HR5.out.same (hx6.block _ hRS (fun y => y.elim (fun e => hsR e.symm) (fun z => by have := hlm _ z; omega)))
    have hRl6 := hR6.lt (by omega)
    have lx6 := hA6.mx.lt (by omega)
    have HA6 := Lib.hid hA6
    have HR6 := Lib.hid hR6
    have hclt := Lib.hid HC.out.lt
    have nRc : ¬ cX d g gi r h ev w.heap.size := fun hk => by have := HC.out.lt _ hk; omega
    have nRm : ¬ mB mv w.heap.size := fun hk => by have := hlm _ hk; omega
    have hne := HMX.out.ne
    have hnm := HMX.out.nm
    clear HR5 HA5 hx6 hR6 HX1 HB1 HM HMX HW1
    rcases hcase with ⟨n, rfl, hO, hl, hmin, hSw⟩ | ⟨rfl, hjF, hall⟩
    · have hn := hO.1
      have C1 := kept_yes (hA6.dc.hd.c 0 (by omega))
      have C2 := at7_yes hA6.dc.dt n hn hO.2.1
      have k1 : w6.cell? ⟨x, 1, none⟩ = some (.pointer (some ⟨d, 0, none⟩)) := hA6.mx.c 1 (by omega)
      have HO := Lib.hid hO
      have HSW := Lib.hid hSw
      have HMIN := Lib.hid hmin
      have HHIT : Hid (∀ V, Below w6.heap.size w6 V → Calls Tryz.prog 41 #[.pointer (some ⟨x, 0, none⟩), .int .i64 (n : Int)] V fun e w' => e = .returned (tuV ⟨2, 0, true, (nth t.es n).value, (n : Int)⟩) ∧ Cd V d g gi r h ev mv M a (b + ((j + 1 - i : Nat) : Int)) most (hitN m.goal v) (hitT { m with ver := v, scans := sc } t n) w' gi r h ev) := fun V hV => hit_any (hA6.dc.below hV) HMo.out (HMo.out.below hA6.m hV) ht hv ⟨hA6.mx.of hV (by omega), hne, hnm⟩ n hn hO.2.1
      have HK6 : Hid (∀ V, Below w6.heap.size w6 V → Mc V x (.pointer (some ⟨s, 0, none⟩)) d { m with ver := v, scans := sc }) := fun V hV => hA6.mx.of hV (by omega)
      clear hA6 hO hSw hmin
      generalize hy0 : (nth t.es n).live = y0 at C2
      generalize (nth t.es n).hash = y1 at C2
      generalize hy2 : (nth t.es n).key = y2 at *
      generalize hy3 : (nth t.es n).value = y3 at *
      generalize (nth t.es n).birth = y4 at C2
      have HY2 := Lib.hid hy2
      have HY3 := Lib.hid hy3
      clear hy0 hy2 hy3
      unfold tuV at HHIT
      go_wp2_with fail
      refine C1.mono ?_
      rintro e w6' ⟨rfl, hw6⟩
      rw [hw6]
      clear hw6 w6'
      go_wp2_with fail
      refine C2.mono ?_
      rintro e w7 ⟨rfl, hB7⟩
      clear C1 C2 k1
      obtain ⟨w8, hw8⟩ : ∃ y, w7.alloc (.cells #[.bool y0, .int .i64 y1, .int .i64 y2, .int .i64 y3, .int .i64 y4] 69) = y := ⟨_, rfl⟩
      have hb8 : Below w7.heap.size w7 w8 := by rw [← hw8]; exact (Below.refl _ w7).alloc (Nat.le_refl _) _
      have hX8 : Blk w8 w7.heap.size 5 (fun j => #[Value.bool y0, .int .i64 y1, .int .i64 y2, .int .i64 y3, .int .i64 y4].getD j .nilFunc) := by rw [← hw8]; exact Blk.new w7 _ _
      have hB68 := hB7.trans (hb8.mono hB7.size)
      have hM8 := HK6.out w8 hB68
      have p2 : w8.cell? ⟨w7.heap.size, 2, none⟩ = some (.int .i64 y2) := hX8.c 2 (by omega)
      have k6 : w8.cell? ⟨x, 6, none⟩ = some (.int .i64 m.key) := hM8.c 6 (by omega)
      have HB68 := Lib.hid hB68
      have HX8 := Lib.hid hX8
      have HW8 := Lib.hid hw8
      have hs7 := hB7.size
      have lE := hX8.lt (by omega)
      clear hb8 hX8 hB68 hM8 hw8 hB7
      go_upto_region 9 with fail
      rw [HW8.out]
      clear HW8
      by_cases hkey : y2 = m.key
      · have tk : (y2 == m.key) = true := by rw [beq_iff_eq]; exact hkey
        have HKEY := Lib.hid hkey
        clear hkey
        go_quiet (fail)
        clear p2 k6 tk
        have hB69 : Below w6.heap.size w6 (w8.drewN nq) := ⟨HB68.out.os, HB68.out.tape, HB68.out.output, HB68.out.size, HB68.out.block⟩
        have CH := HHIT.out _ hB69
        have HB69 := Lib.hid hB69
        have hR9 : Blk (w8.drewN nq) w.heap.size 5 rZ := HR6.out.same (hB69.block _ hRl6)
        have HRq := Lib.hid hR9
        have hl9 := hR9.lt (by omega)
        have lx9 : x < (w8.drewN nq).heap.size := by have := hB69.size; omega
        have HMq := Lib.hid (HK6.out _ hB69)
        clear hB69 hR9
        generalize w8.drewN nq = w9 at *
        go_wp2_with fail
        refine CH.mono ?_
        rintro e wA ⟨rfl, hF⟩
        clear CH HHIT
        have hRz := HRq.out.same (hF.block hl9 nRc nRm)
        have q0 : wA.cell? ⟨w.heap.size, 0, none⟩ = some (.int .i64 0) := hRz.c 0 (by omega)
        have q1 : wA.cell? ⟨w.heap.size, 1, none⟩ = some (.int .i64 0) := hRz.c 1 (by omega)
        have q2 : wA.cell? ⟨w.heap.size, 2, none⟩ = some (.bool false) := hRz.c 2 (by omega)
        have q3 : wA.cell? ⟨w.heap.size, 3, none⟩ = some (.int .i64 0) := hRz.c 3 (by omega)
        have q4 : wA.cell? ⟨w.heap.size, 4, none⟩ = some (.int .i64 0) := hRz.c 4 (by omega)
        have z0 := hRz.z 0
        have z1 := hRz.z 1
        have z2 := hRz.z 2
        have z3 := hRz.z 3
        have z4 := hRz.z 4
        have HR9 : Hid (Blk (putU wA w.heap.size ⟨2, 0, true, y3, (n : Int)⟩) w.heap.size 5 _) := put5_blk hRz _ _ _ _ _
        have HF9 : Hid (Cm w d g gi r h ev mv M x sv a (b + ((j + 1 - i : Nat) : Int)) most (hitN m.goal v) (hitT { m with ver := v, scans := sc } t n) (putU wA w.heap.size ⟨2, 0, true, y3, (n : Int)⟩) gi r h ev ∧ Mc (putU wA w.heap.size ⟨2, 0, true, y3, (n : Int)⟩) x (.pointer (some ⟨s, 0, none⟩)) d { m with ver := v, scans := sc } ∧ Vi (putU wA w.heap.size ⟨2, 0, true, y3, (n : Int)⟩) s (j + 1)) := ⟨HA6.out.cmp (hF.from HB69.out) HMo.out hclt.out hlm (Nat.le_refl _) hRl6 _, (HMq.out.same (hF.block lx9 hne hnm)).same (putU_other _ _ _ _ hxR), ((HVk.out.1.same (HB69.out.block s HA6.out.ls)).same (hF.block (Nat.lt_of_lt_of_le HA6.out.ls HB69.out.size) HVk.out.2.1 HVk.out.2.2)).same (putU_other _ _ _ _ hsR)⟩
        clear hF hRz
        unfold putU put5 at HR9 HF9
        go_wp2_with fail
        generalize World.setCell (World.setCell (World.setCell (World.setCell (World.setCell wA _ _) _ _) _ _) _ _) _ _ = wZ at *
        have o0 : wZ.cell? ⟨w.heap.size, 0, none⟩ = some (.int .i64 2) := HR9.out.c 0 (by omega)
        have o1 : wZ.cell? ⟨w.heap.size, 1, none⟩ = some (.int .i64 0) := HR9.out.c 1 (by omega)
        have o2 : wZ.cell? ⟨w.heap.size, 2, none⟩ = some (.bool true) := HR9.out.c 2 (by omega)
        have o3 : wZ.cell? ⟨w.heap.size, 3, none⟩ = some (.int .i64 y3) := HR9.out.c 3 (by omega)
        have o4 : wZ.cell? ⟨w.heap.size, 4, none⟩ = some (.int .i64 (n : Int)) := HR9.out.c 4 (by omega)
        refine bodyPost_ret (v := .agg #[.int .i64 2, .int .i64 0, .bool true, .int .i64 y3, .int .i64 (n : Int)]) ?_ rfl ⟨⟨2, 0, true, y3, (n : Int)⟩, s, i, told, f, sc, rfl, HST.out, j, hij, hjf, .inl ⟨n, HO.out, hl, HMIN.out, .inl ⟨HY2.out.trans HKEY.out, by rw [HY3.out], HF9.out.1, HF9.out.2⟩⟩⟩
        simp [results, Tryz.results25, go_sem, o0, o1, o2, o3, o4]
      · have tk : (y2 == m.key) = false := by rw [beq_eq_false_iff_ne]; exact hkey
        have HKEY := Lib.hid hkey
        clear hkey
        go_quiet (fail)
        clear p2 k6 tk HHIT
        have hB69 : Below w6.heap.size w6 (w8.drewN nq) := ⟨HB68.out.os, HB68.out.tape, HB68.out.output, HB68.out.size, HB68.out.block⟩
        have hR9 : Blk (w8.drewN nq) w.heap.size 5 rZ := HR6.out.same (hB69.block _ hRl6)
        have hM9 := HK6.out _ hB69
        have hX9 := HX8.out.same (w' := w8.drewN nq) rfl
        generalize w8.drewN nq = w9 at *
        have k15 : w9.cell? ⟨x, 15, none⟩ = some (.int .i64 m.asked) := hM9.c 15 (by omega)
        have z15 := hM9.z 15
        have hMA := hM9.put 15 (.int .i64 (n : Int))
        have hMA' : Mc (w9.setCell ⟨x, 15, none⟩ (.int .i64 (n : Int))) x (.pointer (some ⟨s, 0, none⟩)) d { m with ver := v, scans := sc, asked := (n : Int) } := hMA.congr fun j hj => by
          rcases lt17 hj with rfl | rfl | rfl | rfl | rfl | rfl | rfl | rfl | rfl | rfl | rfl | rfl | rfl | rfl | rfl | rfl | rfl <;> rfl
        have hoA : ∀ k, k ≠ x → (w9.setCell ⟨x, 15, none⟩ (.int .i64 (n : Int))).heap[k]? = w9.heap[k]? := fun k hk => Below.heap_setCell _ _ _ _ hk
        have hRz := hR9.same (hoA w.heap.size (fun e => hxR e.symm))
        have hXA := hX9.same (hoA w7.heap.size (by omega))
        have p2 : (w9.setCell ⟨x, 15, none⟩ (.int .i64 (n : Int))).cell? ⟨w7.heap.size, 2, none⟩ = some (.int .i64 y2) := hXA.c 2 (by omega)
        have q0 : (w9.setCell ⟨x, 15, none⟩ (.int .i64 (n : Int))).cell? ⟨w.heap.size, 0, none⟩ = some (.int .i64 0) := hRz.c 0 (by omega)
        have q1 : (w9.setCell ⟨x, 15, none⟩ (.int .i64 (n : Int))).cell? ⟨w.heap.size, 1, none⟩ = some (.int .i64 0) := hRz.c 1 (by omega)
        have q2 : (w9.setCell ⟨x, 15, none⟩ (.int .i64 (n : Int))).cell? ⟨w.heap.size, 2, none⟩ = some (.bool false) := hRz.c 2 (by omega)
        have q3 : (w9.setCell ⟨x, 15, none⟩ (.int .i64 (n : Int))).cell? ⟨w.heap.size, 3, none⟩ = some (.int .i64 0) := hRz.c 3 (by omega)
        have q4 : (w9.setCell ⟨x, 15, none⟩ (.int .i64 (n : Int))).cell? ⟨w.heap.size, 4, none⟩ = some (.int .i64 0) := hRz.c 4 (by omega)
        have z0 := hRz.z 0
        have z1 := hRz.z 1
        have z2 := hRz.z 2
        have z3 := hRz.z 3
        have z4 := hRz.z 4
        have HR9 : Hid (Blk (putU (w9.setCell ⟨x, 15, none⟩ (.int .i64 (n : Int))) w.heap.size ⟨1, y2, false, 0, 0⟩) w.heap.size 5 _) := put5_blk hRz _ _ _ _ _
        have hnd : ∀ k, cX d g gi r h ev k → k ≠ x ∧ k ≠ w.heap.size ∧ k < w6.heap.size := fun k hk => ⟨fun e => hne (e ▸ hk), by have := hclt.out k hk; omega, by have := hclt.out k hk; have := HA6.out.ex.size; omega⟩
        have hmd : ∀ k, mB mv k → k ≠ x ∧ k ≠ w.heap.size ∧ k < w6.heap.size := fun k hk => ⟨fun e => hnm (e ▸ hk), by have := hlm k hk; omega, by have := hlm k hk; have := HA6.out.ex.size; omega⟩
        have hall : ∀ k, k ≠ x → k ≠ w.heap.size → k < w6.heap.size → (putU (w9.setCell ⟨x, 15, none⟩ (.int .i64 (n : Int))) w.heap.size ⟨1, y2, false, 0, 0⟩).heap[k]? = w6.heap[k]? := fun k h1 h2 h3 => by rw [putU_other _ _ _ _ h2, hoA k h1, hB69.block k h3]
        have hxW : Ex (fun k => k = x) w6 (w9.setCell ⟨x, 15, none⟩ (.int .i64 (n : Int))) := (show Ex (fun k => k = x) w6 w9 from ex_of hB69).setCell (p := ⟨x, 15, none⟩) (fun _ => rfl) _
        have hbp : Below w.heap.size (w9.setCell ⟨x, 15, none⟩ (.int .i64 (n : Int))) (putU (w9.setCell ⟨x, 15, none⟩ (.int .i64 (n : Int))) w.heap.size ⟨1, y2, false, 0, 0⟩) := putU_below _ (Nat.le_refl _) _
        have HF9 : Hid (Cm w d g gi r h ev mv M x sv a (b + ((j + 1 - i : Nat) : Int)) most v t (putU (w9.setCell ⟨x, 15, none⟩ (.int .i64 (n : Int))) w.heap.size ⟨1, y2, false, 0, 0⟩) gi r h ev ∧ Mc (putU (w9.setCell ⟨x, 15, none⟩ (.int .i64 (n : Int))) w.heap.size ⟨1, y2, false, 0, 0⟩) x (.pointer (some ⟨s, 0, none⟩)) d { m with ver := v, scans := sc, asked := (n : Int) } ∧ Sw (putU (w9.setCell ⟨x, 15, none⟩ (.int .i64 (n : Int))) w.heap.size ⟨1, y2, false, 0, 0⟩) d g gi r h ev t mv x s m.hash (j + 1) (n : Int) f) :=
          ⟨⟨HA6.out.dc.same fun k hk => hall k (hnd k hk).1 (hnd k hk).2.1 (hnd k hk).2.2, HMo.out.same _ _ _ _ HA6.out.m fun k hk => hall k (hmd k hk).1 (hmd k hk).2.1 (hmd k hk).2.2, fun j hj => .inl hj, (((HA6.out.ex.mono (fun k _ hk => .inr hk)).next hxW (fun k _ e => .inr (.inr (.inl e)))).next (Y := fun k => w.heap.size ≤ k) ⟨hbp.os, hbp.tape, hbp.output, hbp.size, fun k _ hy => hbp.block k (by omega)⟩ (fun k hk hy => by omega))⟩, hMA'.same (putU_other _ _ _ _ hxR), HSW.out.of (hall s HSW.out.nx hsR HA6.out.ls)⟩
        clear hB69 hR9 hM9 hX9 hMA hMA' hoA hRz hXA hnd hmd hall hxW hbp
        unfold putU put5 at HR9 HF9
        go_wp2_with fail
        generalize World.setCell (World.setCell (World.setCell (World.setCell (World.setCell (World.setCell w9 _ _) _ _) _ _) _ _) _ _) _ _ = wZ at *
        have o0 : wZ.cell? ⟨w.heap.size, 0, none⟩ = some (.int .i64 1) := HR9.out.c 0 (by omega)
        have o1 : wZ.cell? ⟨w.heap.size, 1, none⟩ = some (.int .i64 y2) := HR9.out.c 1 (by omega)
        have o2 : wZ.cell? ⟨w.heap.size, 2, none⟩ = some (.bool false) := HR9.out.c 2 (by omega)
        have o3 : wZ.cell? ⟨w.heap.size, 3, none⟩ = some (.int .i64 0) := HR9.out.c 3 (by omega)
        have o4 : wZ.cell? ⟨w.heap.size, 4, none⟩ = some (.int .i64 0) := HR9.out.c 4 (by omega)
        refine bodyPost_ret (v := .agg #[.int .i64 1, .int .i64 y2, .bool false, .int .i64 0, .int .i64 0]) ?_ rfl ⟨⟨1, y2, false, 0, 0⟩, rfl, s, i, told, f, sc, HST.out, j, hij, hjf, .inl ⟨n, HO.out, hl, HMIN.out, .inr ⟨fun e => HKEY.out (HY2.out.symm.trans e), by rw [HY2.out], HF9.out.1, HF9.out.2.1, HF9.out.2.2⟩⟩⟩
        simp [results, Tryz.results25, go_sem, o0, o1, o2, o3, o4]
    · have CM := missF_any hA6.dc HMo.out hA6.m hm1 ha ht hbi hv (m := { m with ver := v, scans := sc }) ⟨hA6.mx, hne, hnm⟩
      have k4 : w6.cell? ⟨x, 4, none⟩ = some (.func (.func (missF m.goal)) #[] #[]) := hA6.mx.c 4 (by omega)
      have CM' : Calls Tryz.prog (missF m.goal) #[.pointer (some ⟨x, 0, none⟩)] w6 fun e w' => ∃ u, e = .returned (tuV u) ∧ MsR { m with ver := v, scans := sc } t most u (fun da dv t' => ∃ gi' r' h' ev', Cd w6 d g gi r h ev mv M (a + da) (b + ((j + 1 - i : Nat) : Int)) most (v + dv) t' w' gi' r' h' ev') := CM
      have hcf : ∀ args w, (callFunc (missF m.goal) args).run Tryz.prog w = .ok (.enter (missF m.goal) args) w := by
        unfold missF
        split
        · exact Tryz.call38
        · exact Tryz.call36
      have HALL := Lib.hid hall
      have HJF := Lib.hid hjF
      have HMq := Lib.hid hA6.mx
      clear hA6 hall CM hjF
      generalize missF m.goal = F at *
      go_wp2_with fail
      refine CM'.mono ?_
      rintro e wA ⟨u, rfl, hMs⟩
      clear CM' k4 hcf
      obtain ⟨_, _, _, gi', r', h', ev', hF⟩ := hMs.any
      have hRz := HR6.out.same (hF.block hRl6 nRc nRm)
      obtain ⟨uk, uy, uf, uv, ue⟩ := u
      unfold tuV
      have q0 : wA.cell? ⟨w.heap.size, 0, none⟩ = some (.int .i64 0) := hRz.c 0 (by omega)
      have q1 : wA.cell? ⟨w.heap.size, 1, none⟩ = some (.int .i64 0) := hRz.c 1 (by omega)
      have q2 : wA.cell? ⟨w.heap.size, 2, none⟩ = some (.bool false) := hRz.c 2 (by omega)
      have q3 : wA.cell? ⟨w.heap.size, 3, none⟩ = some (.int .i64 0) := hRz.c 3 (by omega)
      have q4 : wA.cell? ⟨w.heap.size, 4, none⟩ = some (.int .i64 0) := hRz.c 4 (by omega)
      have z0 := hRz.z 0
      have z1 := hRz.z 1
      have z2 := hRz.z 2
      have z3 := hRz.z 3
      have z4 := hRz.z 4
      have HR9 : Hid (Blk (putU wA w.heap.size ⟨uk, uy, uf, uv, ue⟩) w.heap.size 5 _) := put5_blk hRz _ _ _ _ _
      have HF9 : Hid (MsR { m with ver := v, scans := sc } t most ⟨uk, uy, uf, uv, ue⟩ (fun da dv t' => ∃ gi' r' h' ev', Cm w d g gi r h ev mv M x sv (a + da) (b + ((j + 1 - i : Nat) : Int)) most (v + dv) t' (putU wA w.heap.size ⟨uk, uy, uf, uv, ue⟩) gi' r' h' ev' ∧ ¬ cX d g gi' r' h' ev' s) ∧ Mc (putU wA w.heap.size ⟨uk, uy, uf, uv, ue⟩) x (.pointer (some ⟨s, 0, none⟩)) d { m with ver := v, scans := sc } ∧ Vi (putU wA w.heap.size ⟨uk, uy, uf, uv, ue⟩) s (j + 1)) := ⟨hMs.mono (fun _ _ _ ⟨gi', r', h', ev', c⟩ => ⟨gi', r', h', ev', HA6.out.cmp c HMo.out hclt.out hlm (Nat.le_refl _) hRl6 _, fun hk => hk.elim (fun e => HVk.out.2.1 (.inl e)) (fun y => (c.fx s y).elim (fun z => HVk.out.2.1 (.inr z)) (fun z => by have := HA6.out.ls; omega))⟩), (HMq.out.same (hF.block lx6 hne hnm)).same (putU_other _ _ _ _ hxR), (HVk.out.1.same (hF.block HA6.out.ls HVk.out.2.1 HVk.out.2.2)).same (putU_other _ _ _ _ hsR)⟩
      clear hF hRz hMs
      unfold putU put5 at HR9 HF9
      go_wp2_with fail
      generalize World.setCell (World.setCell (World.setCell (World.setCell (World.setCell wA _ _) _ _) _ _) _ _) _ _ = wZ at *
      have o0 : wZ.cell? ⟨w.heap.size, 0, none⟩ = some (.int .i64 uk) := HR9.out.c 0 (by omega)
      have o1 : wZ.cell? ⟨w.heap.size, 1, none⟩ = some (.int .i64 uy) := HR9.out.c 1 (by omega)
      have o2 : wZ.cell? ⟨w.heap.size, 2, none⟩ = some (.bool uf) := HR9.out.c 2 (by omega)
      have o3 : wZ.cell? ⟨w.heap.size, 3, none⟩ = some (.int .i64 uv) := HR9.out.c 3 (by omega)
      have o4 : wZ.cell? ⟨w.heap.size, 4, none⟩ = some (.int .i64 ue) := HR9.out.c 4 (by omega)
      refine bodyPost_ret (v := .agg #[.int .i64 uk, .int .i64 uy, .bool uf, .int .i64 uv, .int .i64 ue]) ?_ rfl ⟨⟨uk, uy, uf, uv, ue⟩, s, i, told, f, sc, rfl, HST.out, j, hij, hjf, .inr ⟨HJF.out, HALL.out, HF9.out.1, HF9.out.2⟩⟩
      simp [results, Tryz.results25, go_sem, o0, o1, o2, o3, o4]
end Go.Proofs.YtbpflmdefpjcaaaGreat
namespace Go.Proofs.YtbpflmdefpjcaaaGreat
open Go.RowKit Go.WideShapes

set_option maxRecDepth 100000 in
set_option maxHeartbeats 4000000 in
theorem goOn_told {w : World} {d g gi r h : Nat} {ev : Value} {t : Tb} {mv : Value} {M : Int → Int → World → Prop} {a b : Int} {most : Int} {v : Nat} (hC : Dc w d g gi r h ev t mv most v) (hMo : MtOk mv M) (hM : M a b w) (ht : t.turn ≤ 1000000) (hv : v ≤ 1000000000) {x : Nat} {sv : Value} {m : Ma} (hm : Mx w d g gi r h ev mv x sv m) (h0 : m.scans ≠ 0) (hver : m.ver = v) (hsame : m.same = true) (n : Nat) (hask : m.asked = (n : Int)) (hn : n < t.es.length) (hl : (nth t.es n).live = true) :
    Calls Tryz.prog 25 #[.pointer (some ⟨x, 0, none⟩)] w fun e w' => e = .returned (tuV ⟨2, 0, true, (nth t.es n).value, (n : Int)⟩) ∧ Cm w d g gi r h ev mv M x sv a b most (hitN m.goal v) (hitT m t n) w' gi r h ev ∧ Mc w' x sv d m ∧ Ex (fun k => cX d g gi r h ev k ∨ mB mv k) w w' := by
  obtain ⟨w1, hw1⟩ : ∃ y, w.alloc (.cells #[.int .i64 0, .int .i64 0, .bool false, .int .i64 0, .int .i64 0] 40) = y := ⟨_, rfl⟩
  obtain ⟨hX1, hB1, hs1⟩ := tu_zero_blk w hw1
  have hC1 := hC.below hB1
  have hmx1 := hm.below hB1
  have lx := hm.mc.lt (by omega)
  have hlm := fun k hk => hMo.lt a b w k hM hk
  have k1 : w1.cell? ⟨x, 1, none⟩ = some (.pointer (some ⟨d, 0, none⟩)) := hmx1.mc.c 1 (by omega)
  have k8 : w1.cell? ⟨x, 8, none⟩ = some (.int .u64 (v : Int)) := by rw [← hver]; exact hmx1.mc.c 8 (by omega)
  have k9 : w1.cell? ⟨x, 9, none⟩ = some (.int .i64 (m.scans : Int)) := hmx1.mc.c 9 (by omega)
  have k15 : w1.cell? ⟨x, 15, none⟩ = some (.int .i64 (n : Int)) := by rw [← hask]; exact hmx1.mc.c 15 (by omega)
  have k16 : w1.cell? ⟨x, 16, none⟩ = some (.bool true) := by rw [← hsame]; exact hmx1.mc.c 16 (by omega)
  have d2 : w1.cell? ⟨d, 2, none⟩ = some (.int .u64 (v : Int)) := hC1.hd.c 2 (by omega)
  have t0 : ((m.scans : Int) == 0) = false := by rw [beq_eq_false_iff_ne]; omega
  have t1 : ((v : Int) != (v : Int)) = false := by simp
  have hxR : x ≠ w.heap.size := by omega
  have nRc : ¬ cX d g gi r h ev w.heap.size := fun hk => by have := hC.lt _ hk; omega
  have nRm : ¬ mB mv w.heap.size := fun hk => by have := hlm _ hk; omega
  have hne := hm.ne
  have hnm := hm.nm
  have hlR := hX1.lt (by omega)
  have HH : Hid (∀ V, Below w.heap.size w V → Calls Tryz.prog 41 #[.pointer (some ⟨x, 0, none⟩), .int .i64 (n : Int)] V fun e w' => e = .returned (tuV ⟨2, 0, true, (nth t.es n).value, (n : Int)⟩) ∧ Cd V d g gi r h ev mv M a b most (hitN m.goal v) (hitT m t n) w' gi r h ev) := fun V hV => hit_any (hC.below hV) hMo (hMo.below hM hV) ht hv (hm.below hV) n hn hl
  have HBQ : Hid (∀ k, Below w.heap.size w (w1.drewN k)) := fun k => ⟨hB1.os, hB1.tape, hB1.output, hB1.size, hB1.block⟩
  have HXQ : Hid (∀ k, Blk (w1.drewN k) w.heap.size 5 rZ) := fun k => hX1.same rfl
  have HSZ : Hid (∀ k, (w1.drewN k).heap.size = w.heap.size + 1) := fun k => hs1
  have HC := Lib.hid hC
  have HMo := Lib.hid hMo
  have HMX := Lib.hid hm
  have HW1 := Lib.hid hw1
  clear hC hMo hM hm hC1 hmx1 hB1 hX1 hw1 hl hask hver hsame h0
  generalize (nth t.es n).value = y3 at *
  unfold tuV at HH ⊢
  go_enter Tryz.func25, Tryz.ntmps25
  go_upto_region 1 with fail
  rw [HW1.out]
  go_quiet (fail)
  have hBq := HBQ.out nq
  have hXq := HXQ.out nq
  have hsq := HSZ.out nq
  have CH := HH.out _ hBq
  have q15 : (w1.drewN nq).cell? ⟨x, 15, none⟩ = some (.int .i64 (n : Int)) := k15
  have q16 : (w1.drewN nq).cell? ⟨x, 16, none⟩ = some (.bool true) := k16
  have HBq := Lib.hid hBq
  have HXq := Lib.hid hXq
  clear hBq hXq k1 k8 k9 k15 k16 d2 t0 t1 HBQ HXQ HSZ HH
  generalize w1.drewN nq = wq at *
  go_wp2_with fail
  refine CH.mono ?_
  rintro e wA ⟨rfl, hF⟩
  clear CH q15 q16
  have hRz := HXq.out.same (hF.block (by omega) nRc nRm)
  have q0 : wA.cell? ⟨w.heap.size, 0, none⟩ = some (.int .i64 0) := hRz.c 0 (by omega)
  have q1 : wA.cell? ⟨w.heap.size, 1, none⟩ = some (.int .i64 0) := hRz.c 1 (by omega)
  have q2 : wA.cell? ⟨w.heap.size, 2, none⟩ = some (.bool false) := hRz.c 2 (by omega)
  have q3 : wA.cell? ⟨w.heap.size, 3, none⟩ = some (.int .i64 0) := hRz.c 3 (by omega)
  have q4 : wA.cell? ⟨w.heap.size, 4, none⟩ = some (.int .i64 0) := hRz.c 4 (by omega)
  have z0 := hRz.z 0
  have z1 := hRz.z 1
  have z2 := hRz.z 2
  have z3 := hRz.z 3
  have z4 := hRz.z 4
  have HR9 : Hid (Blk (putU wA w.heap.size ⟨2, 0, true, y3, (n : Int)⟩) w.heap.size 5 _) := put5_blk hRz _ _ _ _ _
  have hc := hF.from HBq.out
  have hbp : Below w.heap.size wA (putU wA w.heap.size ⟨2, 0, true, y3, (n : Int)⟩) := putU_below _ (Nat.le_refl _) _
  have hov := hc.over HC.out HMo.out hlm hbp
  have HF9 : Hid (Cm w d g gi r h ev mv M x sv a b most (hitN m.goal v) (hitT m t n) (putU wA w.heap.size ⟨2, 0, true, y3, (n : Int)⟩) gi r h ev ∧ Mc (putU wA w.heap.size ⟨2, 0, true, y3, (n : Int)⟩) x sv d m ∧ Ex (fun k => cX d g gi r h ev k ∨ mB mv k) w (putU wA w.heap.size ⟨2, 0, true, y3, (n : Int)⟩)) := ⟨⟨hov.dc, hov.m, hov.fx, hov.ex.mono (fun k _ hk => hk.elim .inl (fun y => .inr (.inl y)))⟩, ((HMX.out.below HBq.out).mc.same (hF.block (by omega) hne hnm)).same (putU_other _ _ _ _ hxR), hov.ex⟩
  clear hF hRz hc hbp hov
  unfold putU put5 at HR9 HF9
  go_wp2_with fail
  generalize World.setCell (World.setCell (World.setCell (World.setCell (World.setCell wA _ _) _ _) _ _) _ _) _ _ = wZ at *
  have o0 : wZ.cell? ⟨w.heap.size, 0, none⟩ = some (.int .i64 2) := HR9.out.c 0 (by omega)
  have o1 : wZ.cell? ⟨w.heap.size, 1, none⟩ = some (.int .i64 0) := HR9.out.c 1 (by omega)
  have o2 : wZ.cell? ⟨w.heap.size, 2, none⟩ = some (.bool true) := HR9.out.c 2 (by omega)
  have o3 : wZ.cell? ⟨w.heap.size, 3, none⟩ = some (.int .i64 y3) := HR9.out.c 3 (by omega)
  have o4 : wZ.cell? ⟨w.heap.size, 4, none⟩ = some (.int .i64 (n : Int)) := HR9.out.c 4 (by omega)
  refine bodyPost_ret (v := .agg #[.int .i64 2, .int .i64 0, .bool true, .int .i64 y3, .int .i64 (n : Int)]) ?_ rfl ⟨rfl, HF9.out⟩
  simp [results, Tryz.results25, go_sem, o0, o1, o2, o3, o4]
end Go.Proofs.YtbpflmdefpjcaaaGreat
