/-
  A dictionary in memory, and what its inner calls do.
  What is done for a goal: rowOf.
  A machine in memory; Begin; what a hit and a miss do.
  A machine's hit and beginScan.
  A machine begins a scan.
-/
import Derived.Test.YtejfmajbggmghaaGreatGf
import Derived.Test.YtejfmajbggmghaaGreatLwMem
import Derived.Test.YtejfmajbggmghaaGreatGd
import Derived.Laws.EntriesVeiled
namespace Go.Proofs.YtejfmajbggmghaaGreat
open Go.RowKit Go.WideShapes

/-- A dictionary's cells: its table, how many pairs it may have, its version. -/
def dcF (g : Nat) (most : Int) (v : Nat) : Nat → Value
  | 0 => .pointer (some ⟨g, 0, none⟩)
  | 1 => .int .i64 most
  | _ => .int .u64 (v : Int)
structure Dc (w : World) (d g gi r h : Nat) (ev : Value) (t : Tb) (mv : Value) (most : Int) (v : Nat) : Prop where
  hd : Blk w d 3 (dcF g most v)
  dt : Dt w g gi r h ev t mv
  ok : t.Ok
  ne : ¬ dX g gi r h ev d
  nm : ¬ mB mv d
/-- The blocks of a dictionary. -/
def cX (d g gi r h : Nat) (ev : Value) (k : Nat) : Prop := k = d ∨ dX g gi r h ev k
theorem Dc.same {w w' : World} {d g gi r h : Nat} {ev : Value} {t : Tb} {mv : Value} {most : Int} {v : Nat} (x : Dc w d g gi r h ev t mv most v) (e : ∀ k, cX d g gi r h ev k → w'.heap[k]? = w.heap[k]?) : Dc w' d g gi r h ev t mv most v :=
  ⟨x.hd.same (e d (.inl rfl)), x.dt.same fun k hk => e k (.inr hk), x.ok, x.ne, x.nm⟩
theorem Dc.lt {w : World} {d g gi r h : Nat} {ev : Value} {t : Tb} {mv : Value} {most : Int} {v : Nat} (x : Dc w d g gi r h ev t mv most v) : ∀ k, cX d g gi r h ev k → k < w.heap.size := by
  rintro k (rfl | hk)
  · exact x.hd.lt (by omega)
  · exact x.dt.lt k hk
theorem Dc.below {w w' : World} {d g gi r h : Nat} {ev : Value} {t : Tb} {mv : Value} {most : Int} {v : Nat} (x : Dc w d g gi r h ev t mv most v) (hb : Below w.heap.size w w') : Dc w' d g gi r h ev t mv most v := x.same fun k hk => hb.block k (x.lt k hk)
theorem eqD (d : Nat) (w : World) : (binOp .eql 24 (.pointer (some ⟨d, 0, none⟩)) (.pointer none)).run Tryz.prog w = .ok (.bool false) w := by kernel_rfl
theorem eqTb (g : Nat) (w : World) : (binOp .eql 52 (.pointer (some ⟨g, 0, none⟩)) (.pointer none)).run Tryz.prog w = .ok (.bool false) w := by kernel_rfl
theorem kept_yes {w : World} {d g : Nat} (k0 : w.cell? ⟨d, 0, none⟩ = some (.pointer (some ⟨g, 0, none⟩))) :
    Calls Tryz.prog 36 #[.pointer (some ⟨d, 0, none⟩)] w fun e w' => e = .returned (.pointer (some ⟨g, 0, none⟩)) ∧ w' = w := by
  have h1 := eqD d
  have h2 := eqTb g
  go_enter Tryz.func36, Tryz.ntmps36
  go_wp2
  go_ret
  exact ⟨rfl, rfl⟩
theorem change_any {w : World} {d : Nat} {v : Nat} (hv : v ≤ 1000000000) (k2 : w.cell? ⟨d, 2, none⟩ = some (.int .u64 (v : Int))) (z2 : w.frozen? ⟨d, 2, none⟩ = false) :
    Calls Tryz.prog 38 #[.pointer (some ⟨d, 0, none⟩)] w fun e w' => e = .returned (.tuple #[]) ∧ w' = w.setCell ⟨d, 2, none⟩ (.int .u64 ((v : Int) + 1)) := by
  have e1 : IntKind.u64.wrap ((v : Int) + 1) = (v : Int) + 1 := by rw [IntKind.wrap_u64]; omega
  go_enter Tryz.func38, Tryz.ntmps38
  go_wp2
  go_end0
  exact ⟨rfl, rfl⟩
theorem plen_any {w : World} {d g : Nat} {n : Int} (k0 : w.cell? ⟨d, 0, none⟩ = some (.pointer (some ⟨g, 0, none⟩))) (k3 : w.cell? ⟨g, 3, none⟩ = some (.int .i64 n)) :
    Calls Tryz.prog 22 #[.pointer (some ⟨d, 0, none⟩)] w fun e w' => e = .returned (.int .i64 n) ∧ w' = w := by
  have C1 := kept_yes k0
  have C2 := len_any k3
  clear k0 k3
  go_enter Tryz.func22, Tryz.ntmps22
  go_wp2_with fail
  refine C1.mono ?_
  rintro e w1 ⟨rfl, rfl⟩
  go_wp2_with fail
  refine C2.mono ?_
  rintro e w2 ⟨rfl, rfl⟩
  go_wp2
  go_ret
  exact ⟨rfl, rfl⟩
theorem isFull_any {w : World} {d g : Nat} {n most : Int} (k0 : w.cell? ⟨d, 0, none⟩ = some (.pointer (some ⟨g, 0, none⟩))) (k1 : w.cell? ⟨d, 1, none⟩ = some (.int .i64 most)) (k3 : w.cell? ⟨g, 3, none⟩ = some (.int .i64 n)) :
    Calls Tryz.prog 70 #[.pointer (some ⟨d, 0, none⟩)] w fun e w' => e = .returned (.bool (decide (most ≤ n))) ∧ w' = w.drew := by
  have C1 : Calls Tryz.prog 22 #[.pointer (some ⟨d, 0, none⟩)] w.drew fun e w' => e = .returned (.int .i64 n) ∧ w' = w.drew := plen_any k0 k3
  have d1 : w.drew.cell? ⟨d, 1, none⟩ = some (.int .i64 most) := k1
  go_enter Tryz.func70, Tryz.ntmps70
  go_wp2_with fail
  go_region_held3 (fun V => V.cell? ⟨d, 1, none⟩ = some (.int .i64 most)) (first | exact d1 | fail) (first | (go_at_call 22; refine C1.mono ?_; rintro e w2 ⟨rfl, rfl⟩) | fail)
  go_wp2
  go_ret
  exact ⟨rfl, rfl⟩
/-- What a call that changes a dictionary leaves. -/
structure Cd (w : World) (d g gi r h : Nat) (ev : Value) (mv : Value) (M : Int → Int → World → Prop) (a b : Int) (most : Int) (v : Nat) (t' : Tb) (w' : World) (gi' r' h' : Nat) (ev' : Value) : Prop where
  dc : Dc w' d g gi' r' h' ev' t' mv most v
  m : M a b w'
  fx : ∀ j, dX g gi' r' h' ev' j → dX g gi r h ev j ∨ w.heap.size ≤ j
  ex : Ex (fun j => cX d g gi r h ev j ∨ mB mv j) w w'
/-- Its table changed, and then its version. -/
theorem cd_of {w w1 : World} {d g gi r h : Nat} {ev : Value} {t t' : Tb} {mv : Value} {M : Int → Int → World → Prop} {a b : Int} {most : Int} {v : Nat} (hC : Dc w d g gi r h ev t mv most v) (hMo : MtOk mv M) {gi' r' h' : Nat} {ev' : Value} (ok : t'.Ok)
    (hd : Dt w1 g gi' r' h' ev' t' mv) (hm : M a b w1) (fx : ∀ j, dX g gi' r' h' ev' j → dX g gi r h ev j ∨ w.heap.size ≤ j) (ex : Ex (fun j => dX g gi r h ev j ∨ mB mv j) w w1) :
    Blk w1 d 3 (dcF g most v) ∧ Cd w d g gi r h ev mv M a b most (v + 1) t' (w1.setCell ⟨d, 2, none⟩ (.int .u64 ((v : Int) + 1))) gi' r' h' ev' := by
  have ld := hC.hd.lt (by omega)
  have hB1 : Blk w1 d 3 (dcF g most v) := hC.hd.same (ex.block d ld (fun h => h.elim hC.ne hC.nm))
  have nd : ¬ dX g gi' r' h' ev' d := fun h => (fx d h).elim hC.ne (fun x => by omega)
  refine ⟨hB1, ⟨?_, hd.same fun k hk => Below.heap_setCell _ _ _ _ (fun (e : k = d) => nd (e ▸ hk)), ok, nd, hC.nm⟩, hMo.same _ _ _ _ hm fun k hk => Below.heap_setCell _ _ _ _ (fun (e : k = d) => hC.nm (e ▸ hk)), fx, ?_⟩
  · refine (hB1.put 2 _).congr fun j hj => ?_
    have : j = 0 ∨ j = 1 ∨ j = 2 := by omega
    rcases this with rfl | rfl | rfl
    · rfl
    · rfl
    · show Value.int .u64 (((v + 1 : Nat)) : Int) = Value.int .u64 ((v : Int) + 1)
      rw [Int.natCast_add]
      rfl
  · exact (ex.mono (fun k _ hk => hk.elim (fun y => .inl (.inr y)) .inr)).setCell (p := ⟨d, 2, none⟩) (fun _ => .inl (.inl rfl)) _
set_option maxRecDepth 100000 in
theorem padd_any {w : World} {d g gi r h : Nat} {ev : Value} {t : Tb} {mv : Value} {M : Int → Int → World → Prop} {a b : Int} {most : Int} {v : Nat} (hC : Dc w d g gi r h ev t mv most v) (hMo : MtOk mv M) (hM : M a b w) (hm : t.made ≤ 1000000) (ha : 0 ≤ a ∧ a ≤ 1000000000) (ht : t.turn ≤ 1000000) (hb : t.births < 100000) (hv : v ≤ 1000000000) (u k x : Int) :
    Calls Tryz.prog 71 #[.pointer (some ⟨d, 0, none⟩), .int .i64 u, .int .i64 k, .int .i64 x] w fun e w' => e = .returned (.int .i64 (((t.add u k x).es.length - 1 : Nat) : Int)) ∧ ∃ gi' r' h' ev', Cd w d g gi r h ev mv M (a + ((t.add u k x).made - t.made : Nat)) b most (v + 1) (t.add u k x) w' gi' r' h' ev' := by
  have C1 := kept_yes (hC.hd.c 0 (by omega))
  have C2 := add_any hC.dt hC.ok hMo hM hm ha ht hb u k x
  have HC := Lib.hid hC
  have HMo := Lib.hid hMo
  clear hC hMo hM
  go_enter Tryz.func71, Tryz.ntmps71
  go_wp2_with fail
  refine C1.mono ?_
  rintro e w1 ⟨rfl, rfl⟩
  go_wp2_with fail
  refine C2.mono ?_
  rintro e w2 ⟨rfl, gi', r', h', ev', hA⟩
  clear C1 C2
  obtain ⟨hB2, hF⟩ := cd_of HC.out HMo.out (HC.out.ok.add u k x hb) hA.dt hA.m hA.fx hA.ex
  have C3 := change_any hv (hB2.c 2 (by omega)) (hB2.z 2)
  have HF := Lib.hid hF
  clear hA hB2 hF
  go_wp2_with fail
  refine C3.mono ?_
  rintro e w3 ⟨rfl, rfl⟩
  clear C3
  go_wp2
  go_ret
  exact ⟨rfl, gi', r', h', ev', HF.out⟩
theorem pturn_any {w : World} {d g gi r h : Nat} {ev : Value} {t : Tb} {mv : Value} {M : Int → Int → World → Prop} {a b : Int} {most : Int} {v : Nat} (hC : Dc w d g gi r h ev t mv most v) (hMo : MtOk mv M) (hM : M a b w) (hv : v ≤ 1000000000) (n : Nat) (hn : n < t.es.length) (hl : (nth t.es n).live = true) (x : Int) :
    Calls Tryz.prog 69 #[.pointer (some ⟨d, 0, none⟩), .int .i64 (n : Int), .int .i64 x] w fun e w' => e = .returned (.tuple #[]) ∧ Cd w d g gi r h ev mv M a b most (v + 1) (t.putv n x) w' gi r h ev := by
  have C1 := kept_yes (hC.hd.c 0 (by omega))
  have C2 := put7_yes hC.dt n x hn hl
  have HC := Lib.hid hC
  have HMo := Lib.hid hMo
  have HM := Lib.hid hM
  clear hC hMo hM
  go_enter Tryz.func69, Tryz.ntmps69
  go_wp2_with fail
  refine C1.mono ?_
  rintro e w1 ⟨rfl, rfl⟩
  go_wp2_with fail
  refine C2.mono ?_
  rintro e w2 ⟨rfl, hD2, hx2⟩
  clear C1 C2
  have hM2 : M a b w2 := HMo.out.same _ _ _ _ HM.out fun k hk => hx2.block k (HMo.out.lt _ _ _ k HM.out hk) (fun (h : ev.ownBlock = some k) => (HC.out.dt.mp k hk).2.2.2.2 h)
  obtain ⟨hB2, hF⟩ := cd_of HC.out HMo.out (HC.out.ok.putv n hn hl x) hD2 hM2 (fun j hj => .inl hj) (hx2.mono (fun k _ hk => .inl (.inr (.inr (.inr (.inr hk))))))
  have C3 := change_any hv (hB2.c 2 (by omega)) (hB2.z 2)
  have HF := Lib.hid hF
  clear hD2 hB2 hF hx2 hM2
  go_wp2_with fail
  refine C3.mono ?_
  rintro e w3 ⟨rfl, rfl⟩
  clear C3
  go_wp2
  go_end0
  exact ⟨rfl, HF.out⟩
/-- An entry as a value. -/
def eV (e : En) : Value := .agg #[.bool e.live, .int .i64 e.hash, .int .i64 e.key, .int .i64 e.value, .int .i64 e.birth]
theorem Cd.over {w w' w'' : World} {d g gi r h : Nat} {ev : Value} {t t' : Tb} {mv : Value} {M : Int → Int → World → Prop} {a b : Int} {most : Int} {v v' : Nat} (c : Cd w d g gi r h ev mv M a b most v' t' w' gi r h ev) (hC : Dc w d g gi r h ev t mv most v) (hMo : MtOk mv M) (hlt : ∀ k, mB mv k → k < w.heap.size) (hb : Below w.heap.size w' w'') : Cd w d g gi r h ev mv M a b most v' t' w'' gi r h ev :=
  ⟨c.dc.same fun k hk => hb.block k (hC.lt k hk), hMo.same _ _ _ _ c.m fun k hk => hb.block k (hlt k hk), c.fx, c.ex.next (Y := fun k => w.heap.size ≤ k) ⟨hb.os, hb.tape, hb.output, hb.size, fun k _ hx => hb.block k (by omega)⟩ (fun k hk hx => by omega)⟩
/-- Five cells set. -/
def put5 (w : World) (R : Nat) (v0 v1 v2 v3 v4 : Value) : World := ((((w.setCell ⟨R, 0, none⟩ v0).setCell ⟨R, 1, none⟩ v1).setCell ⟨R, 2, none⟩ v2).setCell ⟨R, 3, none⟩ v3).setCell ⟨R, 4, none⟩ v4
theorem put5_below {B : Nat} {w : World} (R : Nat) (hR : B ≤ R) (v0 v1 v2 v3 v4 : Value) : Below B w (put5 w R v0 v1 v2 v3 v4) :=
  (((((Below.refl B w).setCell (p := ⟨R, 0, none⟩) hR _).setCell (p := ⟨R, 1, none⟩) hR _).setCell (p := ⟨R, 2, none⟩) hR _).setCell (p := ⟨R, 3, none⟩) hR _).setCell (p := ⟨R, 4, none⟩) hR _
theorem put5_blk {w : World} {R : Nat} {F : Nat → Value} (h : Blk w R 5 F) (v0 v1 v2 v3 v4 : Value) : Blk (put5 w R v0 v1 v2 v3 v4) R 5 (fun j => [v0, v1, v2, v3, v4].getD j .nilFunc) := by
  unfold put5
  refine (((((h.put 0 v0).put 1 v1).put 2 v2).put 3 v3).put 4 v4).congr fun j hj => ?_
  have : j = 0 ∨ j = 1 ∨ j = 2 ∨ j = 3 ∨ j = 4 := by omega
  rcases this with rfl | rfl | rfl | rfl | rfl <;> rfl
set_option maxRecDepth 100000 in
theorem ptake_yes {w : World} {d g gi r h : Nat} {ev : Value} {t : Tb} {mv : Value} {M : Int → Int → World → Prop} {a b : Int} {most : Int} {v : Nat} (hC : Dc w d g gi r h ev t mv most v) (hMo : MtOk mv M) (hM : M a b w) (ht : t.turn ≤ 1000000) (hv : v ≤ 1000000000) (n : Nat) (hn : n < t.es.length) (hl : (nth t.es n).live = true) :
    Calls Tryz.prog 43 #[.pointer (some ⟨d, 0, none⟩), .int .i64 (n : Int)] w fun e w' => e = .returned (.tuple #[eV (nth t.es n), .int .i64 0]) ∧ Cd w d g gi r h ev mv M a b most (v + 1) (t.kill n) w' gi r h ev := by
  obtain ⟨w1, hw1⟩ : ∃ y, w.alloc (.cells #[.bool false, .int .i64 0, .int .i64 0, .int .i64 0, .int .i64 0] 48) = y := ⟨_, rfl⟩
  have hB1 : Below w.heap.size w w1 := by rw [← hw1]; exact (Below.refl _ w).alloc (Nat.le_refl _) _
  have hX1 : Blk w1 w.heap.size 5 (fun j => #[Value.bool false, .int .i64 0, .int .i64 0, .int .i64 0, .int .i64 0].getD j .nilFunc) := by rw [← hw1]; exact Blk.new w _ _
  have hC1 := hC.below hB1
  have C1 := kept_yes (hC1.hd.c 0 (by omega))
  have C2 := at7_yes hC1.dt n hn hl
  have hlm := fun k hk => hMo.lt a b w k hM hk
  have HC := Lib.hid hC
  have HC1 := Lib.hid hC1
  have HMo := Lib.hid hMo
  have HM := Lib.hid hM
  have HX1 := Lib.hid hX1
  have HB1 := Lib.hid hB1
  have HW1 := Lib.hid hw1
  have lR := hX1.lt (by omega)
  clear hC hMo hM hC1 hX1 hB1 hw1
  unfold eV
  obtain ⟨HL, HN⟩ : Hid ((nth t.es n).live = true) ∧ Hid (n < t.es.length) := ⟨hl, hn⟩
  clear hl
  generalize (nth t.es n).live = y0 at C2 ⊢
  generalize (nth t.es n).hash = y1 at *
  generalize (nth t.es n).key = y2 at *
  generalize (nth t.es n).value = y3 at *
  generalize (nth t.es n).birth = y4 at *
  go_enter Tryz.func43, Tryz.ntmps43
  go_wp2_with fail
  rw [HW1.out]
  refine C1.mono ?_
  rintro e w1' ⟨rfl, rfl⟩
  go_wp2_with fail
  refine C2.mono ?_
  rintro e w2 ⟨rfl, hB2⟩
  clear C1 C2
  obtain ⟨w3, hw3⟩ : ∃ y, w2.alloc (.cells #[.bool y0, .int .i64 y1, .int .i64 y2, .int .i64 y3, .int .i64 y4] 48) = y := ⟨_, rfl⟩
  have hB3 : Below w2.heap.size w2 w3 := by rw [← hw3]; exact (Below.refl _ w2).alloc (Nat.le_refl _) _
  have hX3 : Blk w3 w2.heap.size 5 (fun j => #[Value.bool y0, .int .i64 y1, .int .i64 y2, .int .i64 y3, .int .i64 y4].getD j .nilFunc) := by rw [← hw3]; exact Blk.new w2 _ _
  have hB13 := hB2.trans (hB3.mono hB2.size)
  have hB03 := HB1.out.trans (hB13.mono HB1.out.size)
  have hC3 := HC.out.below hB03
  have hs2 := hB2.size
  have C3 := kept_yes (hC3.hd.c 0 (by omega))
  have C4 := kill_yes hC3.dt hC3.ok n hn HL.out ht
  have HX3 := Lib.hid hX3
  have HB03 := Lib.hid hB03
  have HB13 := Lib.hid hB13
  have HC3 := Lib.hid hC3
  have lE := hX3.lt (by omega)
  have HW3 := Lib.hid hw3
  clear hX3 hB3 hB13 hB03 hC3 hw3 hB2
  go_wp2_with fail
  rw [HW3.out]
  refine C3.mono ?_
  rintro e w3' ⟨rfl, rfl⟩
  go_wp2_with fail
  refine C4.mono ?_
  rintro e w4 ⟨rfl, hD4, hx4⟩
  clear C3 C4
  have hx04 : Ex (fun j => dX g gi r h ev j ∨ mB mv j) w w4 := (ex_of HB03.out).next hx4 (fun k _ hk => .inl hk)
  have hM4 : M a b w4 := HMo.out.same _ _ _ _ (HMo.out.below HM.out HB03.out) fun k hk => hx4.block k (by have := hlm k hk; have := HB03.out.size; omega) (fun hx => by
    obtain ⟨m1, m2, m3, m4, m5⟩ := HC.out.dt.mp k hk
    rcases hx with y | y | y | y | y
    · exact m1 y
    · exact m2 y
    · exact m3 y
    · exact m4 y
    · exact m5 y)
  obtain ⟨hB4, hF⟩ := cd_of HC.out HMo.out (HC.out.ok.kill n hn HL.out) hD4 hM4 (fun j hj => .inl hj) hx04
  have C5 := change_any hv (hB4.c 2 (by omega)) (hB4.z 2)
  have ndw : ∀ k, w.heap.size ≤ k → ¬ dX g gi r h ev k := fun k hk hx => by have := HC.out.dt.lt k hx; omega
  have ld := HC.out.hd.lt (by omega)
  have hX4 : Blk w4 w2.heap.size 5 (fun j => #[Value.bool y0, .int .i64 y1, .int .i64 y2, .int .i64 y3, .int .i64 y4].getD j .nilFunc) := HX3.out.same (hx4.block _ lE (ndw _ (by omega)))
  have hR4 : Blk w4 w.heap.size 5 (fun j => #[Value.bool false, .int .i64 0, .int .i64 0, .int .i64 0, .int .i64 0].getD j .nilFunc) := (HX1.out.of HB13.out (by omega)).same (hx4.block _ (by have := HB13.out.size; omega) (ndw _ (Nat.le_refl _)))
  have hX5 := hX4.same (w' := w4.setCell ⟨d, 2, none⟩ (.int .u64 ((v : Int) + 1))) (Below.heap_setCell _ _ _ _ (by show w2.heap.size ≠ d; omega))
  have hR5 := hR4.same (w' := w4.setCell ⟨d, 2, none⟩ (.int .u64 ((v : Int) + 1))) (Below.heap_setCell _ _ _ _ (by show w.heap.size ≠ d; omega))
  have HF := Lib.hid hF
  clear hD4 hx4 hx04 hM4 hB4 hF hX4 hR4
  go_wp2_with fail
  refine C5.mono ?_
  rintro e w5 ⟨rfl, hw5⟩
  rw [← hw5] at hX5 hR5 HF
  clear C5 hw5
  have p0 : w5.cell? ⟨w2.heap.size, 0, none⟩ = some (.bool y0) := hX5.c 0 (by omega)
  have p1 : w5.cell? ⟨w2.heap.size, 1, none⟩ = some (.int .i64 y1) := hX5.c 1 (by omega)
  have p2 : w5.cell? ⟨w2.heap.size, 2, none⟩ = some (.int .i64 y2) := hX5.c 2 (by omega)
  have p3 : w5.cell? ⟨w2.heap.size, 3, none⟩ = some (.int .i64 y3) := hX5.c 3 (by omega)
  have p4 : w5.cell? ⟨w2.heap.size, 4, none⟩ = some (.int .i64 y4) := hX5.c 4 (by omega)
  have q0 : w5.cell? ⟨w.heap.size, 0, none⟩ = some (.bool false) := hR5.c 0 (by omega)
  have q1 : w5.cell? ⟨w.heap.size, 1, none⟩ = some (.int .i64 0) := hR5.c 1 (by omega)
  have q2 : w5.cell? ⟨w.heap.size, 2, none⟩ = some (.int .i64 0) := hR5.c 2 (by omega)
  have q3 : w5.cell? ⟨w.heap.size, 3, none⟩ = some (.int .i64 0) := hR5.c 3 (by omega)
  have q4 : w5.cell? ⟨w.heap.size, 4, none⟩ = some (.int .i64 0) := hR5.c 4 (by omega)
  have z0 := hR5.z 0
  have z1 := hR5.z 1
  have z2 := hR5.z 2
  have z3 := hR5.z 3
  have z4 := hR5.z 4
  have HR6 := Lib.hid (put5_blk hR5 (.bool y0) (.int .i64 y1) (.int .i64 y2) (.int .i64 y3) (.int .i64 y4))
  have HF6 := Lib.hid (HF.out.over HC.out HMo.out hlm (put5_below (w := w5) w.heap.size (Nat.le_refl _) (.bool y0) (.int .i64 y1) (.int .i64 y2) (.int .i64 y3) (.int .i64 y4)))
  unfold put5 at HR6 HF6
  clear hX5 hR5
  go_wp2_with fail
  generalize World.setCell (World.setCell (World.setCell (World.setCell (World.setCell w5 _ _) _ _) _ _) _ _) _ _ = w6 at *
  have o0 : w6.cell? ⟨w.heap.size, 0, none⟩ = some (.bool y0) := HR6.out.c 0 (by omega)
  have o1 : w6.cell? ⟨w.heap.size, 1, none⟩ = some (.int .i64 y1) := HR6.out.c 1 (by omega)
  have o2 : w6.cell? ⟨w.heap.size, 2, none⟩ = some (.int .i64 y2) := HR6.out.c 2 (by omega)
  have o3 : w6.cell? ⟨w.heap.size, 3, none⟩ = some (.int .i64 y3) := HR6.out.c 3 (by omega)
  have o4 : w6.cell? ⟨w.heap.size, 4, none⟩ = some (.int .i64 y4) := HR6.out.c 4 (by omega)
  refine bodyPost_ret (v := .tuple #[.agg #[.bool y0, .int .i64 y1, .int .i64 y2, .int .i64 y3, .int .i64 y4], .int .i64 0]) ?_ rfl ⟨rfl, HF6.out⟩
  simp [results, Tryz.results43, go_sem, o0, o1, o2, o3, o4]
end Go.Proofs.YtejfmajbggmghaaGreat
namespace Go.Proofs.YtejfmajbggmghaaGreat
open Go.RowKit Go.WideShapes

def hitF (goal : Nat) : FuncId := if goal = 2 then 49 else if goal = 3 then 51 else 47
def missF (goal : Nat) : FuncId := if goal = 2 ∨ goal = 4 then 50 else 48
def hitV (goal : Nat) : Value := .func (.func (hitF goal)) #[] #[]
def missV (goal : Nat) : Value := .func (.func (missF goal)) #[] #[]
def rowsF (j : Nat) : Value := #[Value.int .i64 1, hitV 1, missV 1, .int .i64 2, hitV 2, missV 2, .int .i64 3, hitV 3, missV 3, .int .i64 4, hitV 4, missV 4].getD j .nilFunc
theorem rowsF_at (k : Nat) (hk : k < 4) : rowsF (k * 3) = .int .i64 ((k : Int) + 1) ∧ rowsF (k * 3 + 1) = hitV (k + 1) ∧ rowsF (k * 3 + 2) = missV (k + 1) := by
  have : k = 0 ∨ k = 1 ∨ k = 2 ∨ k = 3 := by omega
  rcases this with rfl | rfl | rfl | rfl <;> exact ⟨rfl, rfl, rfl⟩
def zR (j : Nat) : Value := #[Value.int .i64 0, .nilFunc, .nilFunc].getD j .nilFunc
theorem rows_new (w : World) {w2 : World} (h : (w.alloc (.cells #[.int .i64 0, .nilFunc, .nilFunc] 70)).alloc (.cells #[.int .i64 1, hitV 1, missV 1, .int .i64 2, hitV 2, missV 2, .int .i64 3, hitV 3, missV 3, .int .i64 4, hitV 4, missV 4] 70) = w2) :
    Blk w2 w.heap.size 3 zR ∧ Blk w2 (w.heap.size + 1) 12 rowsF ∧ Below w.heap.size w w2 := by
  have hb : Below w.heap.size w w2 := by rw [← h]; exact ((Below.refl _ w).alloc (Nat.le_refl _) _).alloc (by simp) _
  refine ⟨?_, ?_, hb⟩
  · have h1 : Blk (w.alloc (.cells #[.int .i64 0, .nilFunc, .nilFunc] 70)) w.heap.size 3 zR := Blk.new w #[.int .i64 0, .nilFunc, .nilFunc] 70
    rw [← h]
    exact h1.same (Below.heap_alloc _ _ _ (by simp))
  · have h1 := Blk.new (w.alloc (.cells #[.int .i64 0, .nilFunc, .nilFunc] 70)) #[.int .i64 1, hitV 1, missV 1, .int .i64 2, hitV 2, missV 2, .int .i64 3, hitV 3, missV 3, .int .i64 4, hitV 4, missV 4] 70
    have e : (w.alloc (.cells #[.int .i64 0, .nilFunc, .nilFunc] 70)).heap.size = w.heap.size + 1 := by simp
    rw [← h]
    rw [e] at h1
    exact h1
set_option maxRecDepth 100000 in
set_option maxHeartbeats 4000000 in
theorem rowOf_yes (goal : Nat) (hg1 : 1 ≤ goal) (hg4 : goal ≤ 4) (w : World) :
    Calls Tryz.prog 21 #[.int .i64 (goal : Int)] w fun e w' => e = .returned (.tuple #[.agg #[.int .i64 (goal : Int), hitV goal, missV goal], .bool true]) ∧ Below w.heap.size w w' := by
  obtain ⟨w2, hw2⟩ : ∃ y, (w.alloc (.cells #[.int .i64 0, .nilFunc, .nilFunc] 70)).alloc (.cells #[.int .i64 1, hitV 1, missV 1, .int .i64 2, hitV 2, missV 2, .int .i64 3, hitV 3, missV 3, .int .i64 4, hitV 4, missV 4] 70) = y := ⟨_, rfl⟩
  obtain ⟨hR, hB, hb2⟩ := rows_new w hw2
  have lR := hR.lt (by omega)
  have lB := hB.lt (by omega)
  have HR := Lib.hid hR
  have HB := Lib.hid hB
  have HB2 := Lib.hid hb2
  have HW2 : Hid ((w.alloc (.cells #[.int .i64 0, .nilFunc, .nilFunc] 70)).alloc (.cells #[.int .i64 1, .func (.func 47) #[] #[], .func (.func 48) #[] #[], .int .i64 2, .func (.func 49) #[] #[], .func (.func 50) #[] #[], .int .i64 3, .func (.func 51) #[] #[], .func (.func 48) #[] #[], .int .i64 4, .func (.func 47) #[] #[], .func (.func 50) #[] #[]] 70) = w2) := hw2
  clear hR hB hb2 hw2
  go_enter Tryz.func21, Tryz.ntmps21
  go_wp2_with fail
  rw [HW2.out]
  go_loopw [14, 6] (fun iv _ wr => ∃ k : Nat, k < goal ∧ iv = .int .i64 (k : Int) ∧ Below w2.heap.size w2 wr) (fun iv _ _ => 4 - (intOf iv).toNat)
  case atStart => exact ⟨0, by omega, rfl, Below.refl _ _⟩
  case round =>
    obtain ⟨k, hk, rfl, hbk⟩ := hrel
    have t1 : (k : Int) < 4 := by omega
    obtain ⟨e0, e1, e2⟩ := rowsF_at k (by omega)
    have hBk := HB.out.of hbk (by omega)
    have c0 : wr.cell? ⟨w.heap.size + 1, k * 3, none⟩ = some (.int .i64 ((k : Int) + 1)) := by rw [hBk.c _ (by omega), e0]
    have c1 : wr.cell? ⟨w.heap.size + 1, k * 3 + 1, none⟩ = some (hitV (k + 1)) := by rw [hBk.c _ (by omega), e1]
    have c2 : wr.cell? ⟨w.heap.size + 1, k * 3 + 2, none⟩ = some (missV (k + 1)) := by rw [hBk.c _ (by omega), e2]
    clear e0 e1 e2 hBk
    obtain ⟨fh, hfh⟩ : ∃ x, hitV (k + 1) = Value.func (.func x) #[] #[] := ⟨_, rfl⟩
    obtain ⟨fm, hfm⟩ : ∃ x, missV (k + 1) = Value.func (.func x) #[] #[] := ⟨_, rfl⟩
    rw [hfh] at c1
    rw [hfm] at c2
    by_cases hkg : k + 1 = goal
    · have HKG := Lib.hid hkg
      have tq : ((k : Int) + 1 == (goal : Int)) = true := by rw [beq_iff_eq]; omega
      obtain ⟨w3, hw3⟩ : ∃ y, wr.alloc (.cells #[.int .i64 ((k : Int) + 1), .func (.func fh) #[] #[], .func (.func fm) #[] #[]] 70) = y := ⟨_, rfl⟩
      have hb3 : Below wr.heap.size wr w3 := by rw [← hw3]; exact (Below.refl _ wr).alloc (Nat.le_refl _) _
      have hX3 : Blk w3 wr.heap.size 3 (fun j => #[Value.int .i64 ((k : Int) + 1), .func (.func fh) #[] #[], .func (.func fm) #[] #[]].getD j .nilFunc) := by rw [← hw3]; exact Blk.new wr _ _
      have hR3 := (HR.out.of hbk (by omega)).of hb3 (by omega)
      have p0 : w3.cell? ⟨wr.heap.size, 0, none⟩ = some (.int .i64 ((k : Int) + 1)) := hX3.c 0 (by omega)
      have p1 : w3.cell? ⟨wr.heap.size, 1, none⟩ = some (.func (.func fh) #[] #[]) := hX3.c 1 (by omega)
      have p2 : w3.cell? ⟨wr.heap.size, 2, none⟩ = some (.func (.func fm) #[] #[]) := hX3.c 2 (by omega)
      have q0 : w3.cell? ⟨w.heap.size, 0, none⟩ = some (.int .i64 0) := hR3.c 0 (by omega)
      have q1 : w3.cell? ⟨w.heap.size, 1, none⟩ = some .nilFunc := hR3.c 1 (by omega)
      have q2 : w3.cell? ⟨w.heap.size, 2, none⟩ = some .nilFunc := hR3.c 2 (by omega)
      have z0 := hR3.z 0
      have z1 := hR3.z 1
      have z2 := hR3.z 2
      have HF := Lib.hid (((hR3.put 0 (.int .i64 ((k : Int) + 1))).put 1 (.func (.func fh) #[] #[])).put 2 (.func (.func fm) #[] #[]))
      have HBB : Hid (Below w.heap.size w (((w3.setCell ⟨w.heap.size, 0, none⟩ (.int .i64 ((k : Int) + 1))).setCell ⟨w.heap.size, 1, none⟩ (.func (.func fh) #[] #[])).setCell ⟨w.heap.size, 2, none⟩ (.func (.func fm) #[] #[]))) := by
        have h1 := HB2.out.trans (hbk.mono HB2.out.size)
        have h2 := h1.trans (hb3.mono h1.size)
        exact ((h2.setCell (p := ⟨w.heap.size, 0, none⟩) (Nat.le_refl _) _).setCell (p := ⟨w.heap.size, 1, none⟩) (Nat.le_refl _) _).setCell (p := ⟨w.heap.size, 2, none⟩) (Nat.le_refl _) _
      have HW3 := Lib.hid hw3
      have HFH := Lib.hid hfh
      have HFM := Lib.hid hfm
      clear hb3 hX3 hR3 hw3 hbk hkg hfh hfm
      go_upto_if 21 with fail
      rw [HW3.out]
      clear c0 c1 c2
      go_wp2_with fail
      generalize World.setCell (World.setCell (World.setCell w3 _ _) _ _) _ _ = w4 at *
      have o0 : w4.cell? ⟨w.heap.size, 0, none⟩ = some (.int .i64 ((k : Int) + 1)) := HF.out.c 0 (by omega)
      have o1 : w4.cell? ⟨w.heap.size, 1, none⟩ = some (.func (.func fh) #[] #[]) := HF.out.c 1 (by omega)
      have o2 : w4.cell? ⟨w.heap.size, 2, none⟩ = some (.func (.func fm) #[] #[]) := HF.out.c 2 (by omega)
      refine bodyPost_ret (v := .tuple #[.agg #[.int .i64 ((k : Int) + 1), .func (.func fh) #[] #[], .func (.func fm) #[] #[]], .bool true]) ?_ rfl ⟨?_, HBB.out⟩
      · simp [results, Tryz.results21, go_sem, o0, o1, o2]
      · rw [← HFH.out, ← HFM.out, HKG.out, show ((k : Int) + 1) = (goal : Int) by have := HKG.out; omega]
    · have tq : ((k : Int) + 1 == (goal : Int)) = false := by rw [beq_eq_false_iff_ne]; omega
      have HBN : Hid (∀ o, Below w2.heap.size w2 (wr.alloc o)) := fun o => hbk.alloc hbk.size o
      clear hbk
      go_wp2_with fail
      go_roundw
      case rel => exact ⟨k + 1, by omega, by go_num, HBN.out _⟩
      case measure => simp [intOf]; omega
end Go.Proofs.YtejfmajbggmghaaGreat
namespace Go.Proofs.YtejfmajbggmghaaGreat
open Go.RowKit Go.WideShapes

/-- A turn. -/
structure Tu where
  kind : Int
  key : Int
  found : Bool
  value : Int
  entry : Int
def Tu.zero : Tu := ⟨0, 0, false, 0, 0⟩
def tuV (u : Tu) : Value := .agg #[.int .i64 u.kind, .int .i64 u.key, .bool u.found, .int .i64 u.value, .int .i64 u.entry]
/-- A machine: its goal, hash, key, value; the version that it kept, its scans, its turn, what it asked at, what it was told. -/
structure Ma where
  goal : Nat
  hash : Int
  key : Int
  value : Int
  ver : Nat
  scans : Nat
  u : Tu
  asked : Int
  same : Bool
def mcF (sv : Value) (d : Nat) (m : Ma) : Nat → Value
  | 0 => sv
  | 1 => .pointer (some ⟨d, 0, none⟩)
  | 2 => .int .i64 (m.goal : Int)
  | 3 => hitV m.goal
  | 4 => missV m.goal
  | 5 => .int .i64 m.hash
  | 6 => .int .i64 m.key
  | 7 => .int .i64 m.value
  | 8 => .int .u64 (m.ver : Int)
  | 9 => .int .i64 (m.scans : Int)
  | 10 => .int .i64 m.u.kind
  | 11 => .int .i64 m.u.key
  | 12 => .bool m.u.found
  | 13 => .int .i64 m.u.value
  | 14 => .int .i64 m.u.entry
  | 15 => .int .i64 m.asked
  | _ => .bool m.same
def Mc (w : World) (x : Nat) (sv : Value) (d : Nat) (m : Ma) : Prop := Blk w x 17 (mcF sv d m)
theorem lt17 {j : Nat} (h : j < 17) : j = 0 ∨ j = 1 ∨ j = 2 ∨ j = 3 ∨ j = 4 ∨ j = 5 ∨ j = 6 ∨ j = 7 ∨ j = 8 ∨ j = 9 ∨ j = 10 ∨ j = 11 ∨ j = 12 ∨ j = 13 ∨ j = 14 ∨ j = 15 ∨ j = 16 := by omega
set_option maxRecDepth 100000 in
set_option maxHeartbeats 2000000 in
theorem begin_yes (d : Nat) (goal : Nat) (hg1 : 1 ≤ goal) (hg4 : goal ≤ 4) (u k x : Int) (w : World) :
    Calls Tryz.prog 8 #[.pointer (some ⟨d, 0, none⟩), .int .i64 (goal : Int), .int .i64 u, .int .i64 k, .int .i64 x] w fun e w' => ∃ b, e = .returned (.pointer (some ⟨b, 0, none⟩)) ∧ w.heap.size ≤ b ∧ Mc w' b (.pointer none) d ⟨goal, u, k, x, 0, 0, Tu.zero, 0, false⟩ ∧ Below w.heap.size w w' := by
  have C1 := rowOf_yes goal hg1 hg4 w
  have h1 := eqD d
  obtain ⟨fh, hfh⟩ : ∃ y, hitV goal = Value.func (.func y) #[] #[] := ⟨_, rfl⟩
  obtain ⟨fm, hfm⟩ : ∃ y, missV goal = Value.func (.func y) #[] #[] := ⟨_, rfl⟩
  rw [hfh, hfm] at C1
  have HFH := Lib.hid hfh
  have HFM := Lib.hid hfm
  clear hfh hfm
  go_enter Tryz.func8, Tryz.ntmps8
  go_wp2_with fail
  refine C1.mono ?_
  rintro e w1 ⟨rfl, hb1⟩
  clear C1
  obtain ⟨w2, hw2⟩ : ∃ y, w1.alloc (.cells #[.int .i64 (goal : Int), .func (.func fh) #[] #[], .func (.func fm) #[] #[]] 70) = y := ⟨_, rfl⟩
  have hb2 : Below w1.heap.size w1 w2 := by rw [← hw2]; exact (Below.refl _ w1).alloc (Nat.le_refl _) _
  have hX2 : Blk w2 w1.heap.size 3 (fun j => #[Value.int .i64 (goal : Int), .func (.func fh) #[] #[], .func (.func fm) #[] #[]].getD j .nilFunc) := by rw [← hw2]; exact Blk.new w1 _ _
  have p0 : w2.cell? ⟨w1.heap.size, 0, none⟩ = some (.int .i64 (goal : Int)) := hX2.c 0 (by omega)
  have p1 : w2.cell? ⟨w1.heap.size, 1, none⟩ = some (.func (.func fh) #[] #[]) := hX2.c 1 (by omega)
  have p2 : w2.cell? ⟨w1.heap.size, 2, none⟩ = some (.func (.func fm) #[] #[]) := hX2.c 2 (by omega)
  have HB2 := Lib.hid (hb1.trans (hb2.mono hb1.size))
  have HW2 := Lib.hid hw2
  have HM : Hid (Mc (w2.alloc (.cells #[.pointer none, .pointer (some ⟨d, 0, none⟩), .int .i64 (goal : Int), .func (.func fh) #[] #[], .func (.func fm) #[] #[], .int .i64 u, .int .i64 k, .int .i64 x, .int .u64 0, .int .i64 0, .int .i64 0, .int .i64 0, .bool false, .int .i64 0, .int .i64 0, .int .i64 0, .bool false] 75)) w2.heap.size (.pointer none) d ⟨goal, u, k, x, 0, 0, Tu.zero, 0, false⟩) := by
    refine (Blk.new w2 _ _).congr fun j hj => ?_
    rcases lt17 (by simpa using hj) with rfl | rfl | rfl | rfl | rfl | rfl | rfl | rfl | rfl | rfl | rfl | rfl | rfl | rfl | rfl | rfl | rfl
    · rfl
    · rfl
    · rfl
    · exact HFH.out
    · exact HFM.out
    all_goals rfl
  clear hw2 hX2 hb1 hb2
  go_upto_region 2 with fail
  rw [HW2.out]
  go_wp2
  go_ret
  exact ⟨_, rfl, HB2.out.size, HM.out, HB2.out.alloc HB2.out.size _⟩
theorem leave_any (a b : Value) (w : World) : Calls Tryz.prog 47 #[a, b] w fun e w' => e = .returned (.tuple #[]) ∧ w' = w := by
  go_enter Tryz.func47, Tryz.ntmps47
  go_wp2
  go_end0
  exact ⟨rfl, rfl⟩
set_option maxRecDepth 100000 in
theorem tellNone_any (a : Value) (w : World) : Calls Tryz.prog 48 #[a] w fun e w' => e = .returned (tuV ⟨2, 0, false, 0, -1⟩) ∧ Below w.heap.size w w' := by
  unfold tuV
  go_enter Tryz.func48, Tryz.ntmps48
  go_wp2
  refine bodyPost_ret (v := .agg #[.int .i64 2, .int .i64 0, .bool false, .int .i64 0, .int .i64 (-1)]) ?_ rfl ⟨rfl, (Below.refl _ w).alloc (Nat.le_refl _) _⟩
  simp [results, Tryz.results48, go_sem]
/-- A machine lies apart from its dictionary. -/
structure Mx (w : World) (d g gi r h : Nat) (ev : Value) (mv : Value) (x : Nat) (sv : Value) (m : Ma) : Prop where
  mc : Mc w x sv d m
  ne : ¬ cX d g gi r h ev x
  nm : ¬ mB mv x
theorem Cd.block {w w' : World} {d g gi r h : Nat} {ev : Value} {mv : Value} {M : Int → Int → World → Prop} {a b : Int} {most : Int} {v : Nat} {t' : Tb} {gi' r' h' : Nat} {ev' : Value} (c : Cd w d g gi r h ev mv M a b most v t' w' gi' r' h' ev') {x : Nat} (hx : x < w.heap.size) (h1 : ¬ cX d g gi r h ev x) (h2 : ¬ mB mv x) : w'.heap[x]? = w.heap[x]? := c.ex.block x hx (fun h => h.elim h1 h2)
/-- Nothing changed. -/
theorem Dc.cd {w w' : World} {d g gi r h : Nat} {ev : Value} {t : Tb} {mv : Value} {M : Int → Int → World → Prop} {a b : Int} {most : Int} {v : Nat} (hC : Dc w d g gi r h ev t mv most v) (hMo : MtOk mv M) (hM : M a b w) (hb : Below w.heap.size w w') : Cd w d g gi r h ev mv M a b most v t w' gi r h ev :=
  ⟨hC.below hb, hMo.below hM hb, fun _ hj => .inl hj, ex_of hb⟩
/-- The same call, from a world that has only more. -/
theorem Cd.from {w w0 w' : World} {d g gi r h : Nat} {ev : Value} {mv : Value} {M : Int → Int → World → Prop} {a b : Int} {most : Int} {v : Nat} {t' : Tb} {gi' r' h' : Nat} {ev' : Value} (c : Cd w0 d g gi r h ev mv M a b most v t' w' gi' r' h' ev') (hb : Below w.heap.size w w0) : Cd w d g gi r h ev mv M a b most v t' w' gi' r' h' ev' :=
  ⟨c.dc, c.m, fun j hj => (c.fx j hj).elim .inl (fun x => .inr (Nat.le_trans hb.size x)), (ex_of hb).next c.ex (fun _ _ x => x)⟩
set_option maxRecDepth 100000 in
theorem turnValue_any {w : World} {d g gi r h : Nat} {ev : Value} {t : Tb} {mv : Value} {M : Int → Int → World → Prop} {a b : Int} {most : Int} {v : Nat} (hC : Dc w d g gi r h ev t mv most v) (hMo : MtOk mv M) (hM : M a b w) (hv : v ≤ 1000000000) {x : Nat} {sv : Value} {m : Ma} (hm : Mx w d g gi r h ev mv x sv m) (n : Nat) (hn : n < t.es.length) (hl : (nth t.es n).live = true) :
    Calls Tryz.prog 49 #[.pointer (some ⟨x, 0, none⟩), .int .i64 (n : Int)] w fun e w' => e = .returned (.tuple #[]) ∧ Cd w d g gi r h ev mv M a b most (v + 1) (t.putv n m.value) w' gi r h ev := by
  have hbd : Below w.heap.size w w.drew := (Below.refl _ w).drew
  have C1 := pturn_any (hC.below hbd) hMo (hMo.below hM hbd) hv n hn hl m.value
  have k1 : w.drew.cell? ⟨x, 1, none⟩ = some (.pointer (some ⟨d, 0, none⟩)) := hm.mc.c 1 (by omega)
  have k7 : w.drew.cell? ⟨x, 7, none⟩ = some (.int .i64 m.value) := hm.mc.c 7 (by omega)
  have HK : Hid (∀ V : World, V.heap[x]? = w.heap[x]? → V.cell? ⟨x, 1, none⟩ = some (.pointer (some ⟨d, 0, none⟩)) ∧ V.cell? ⟨x, 7, none⟩ = some (.int .i64 m.value)) := fun V hV => ⟨(hm.mc.same hV).c 1 (by omega), (hm.mc.same hV).c 7 (by omega)⟩
  have hlx := hm.mc.lt (by omega)
  have hne := hm.ne
  have hnm := hm.nm
  have HBD := Lib.hid hbd
  clear hC hMo hM hm hl hbd
  generalize m.value = z at *
  go_enter Tryz.func49, Tryz.ntmps49
  go_wp2_with fail
  go_region_held3 (fun V => V.cell? ⟨x, 1, none⟩ = some (.pointer (some ⟨d, 0, none⟩)) ∧ V.cell? ⟨x, 7, none⟩ = some (.int .i64 z))
    (first | with_reducible exact ⟨k1, k7⟩ | with_reducible exact s1 | fail)
    (first | (go_at_call 69; refine C1.mono ?_; rintro e w1 ⟨rfl, hF⟩; have s1 := HK.out w1 (hF.block hlx hne hnm)) | fail)
  have HF := Lib.hid (hF.from HBD.out)
  clear hF s1 k1 k7 C1
  go_wp2
  go_end0
  exact ⟨rfl, HF.out⟩
theorem takeOut_any {w : World} {d g gi r h : Nat} {ev : Value} {t : Tb} {mv : Value} {M : Int → Int → World → Prop} {a b : Int} {most : Int} {v : Nat} (hC : Dc w d g gi r h ev t mv most v) (hMo : MtOk mv M) (hM : M a b w) (ht : t.turn ≤ 1000000) (hv : v ≤ 1000000000) {x : Nat} {sv : Value} {m : Ma} (hm : Mx w d g gi r h ev mv x sv m) (n : Nat) (hn : n < t.es.length) (hl : (nth t.es n).live = true) :
    Calls Tryz.prog 51 #[.pointer (some ⟨x, 0, none⟩), .int .i64 (n : Int)] w fun e w' => e = .returned (.tuple #[]) ∧ Cd w d g gi r h ev mv M a b most (v + 1) (t.kill n) w' gi r h ev := by
  have C1 := ptake_yes hC hMo hM ht hv n hn hl
  have k1 : w.cell? ⟨x, 1, none⟩ = some (.pointer (some ⟨d, 0, none⟩)) := hm.mc.c 1 (by omega)
  clear hC hMo hM hm hl
  unfold eV at C1
  go_enter Tryz.func51, Tryz.ntmps51
  go_wp2_with fail
  refine C1.mono ?_
  rintro e w1 ⟨rfl, hF⟩
  clear C1
  have HF := Lib.hid hF
  clear hF
  go_wp2
  go_end0
  exact ⟨rfl, HF.out⟩
/-- What a hit makes of a table and its version. -/
noncomputable def hitT (m : Ma) (t : Tb) (n : Nat) : Tb := if m.goal = 2 then t.putv n m.value else if m.goal = 3 then t.kill n else t
def hitN (goal v : Nat) : Nat := if goal = 2 ∨ goal = 3 then v + 1 else v
theorem hitF_any {w : World} {d g gi r h : Nat} {ev : Value} {t : Tb} {mv : Value} {M : Int → Int → World → Prop} {a b : Int} {most : Int} {v : Nat} (hC : Dc w d g gi r h ev t mv most v) (hMo : MtOk mv M) (hM : M a b w) (ht : t.turn ≤ 1000000) (hv : v ≤ 1000000000) {x : Nat} {sv : Value} {m : Ma} (hm : Mx w d g gi r h ev mv x sv m) (n : Nat) (hn : n < t.es.length) (hl : (nth t.es n).live = true) :
    Calls Tryz.prog (hitF m.goal) #[.pointer (some ⟨x, 0, none⟩), .int .i64 (n : Int)] w fun e w' => e = .returned (.tuple #[]) ∧ Cd w d g gi r h ev mv M a b most (hitN m.goal v) (hitT m t n) w' gi r h ev := by
  by_cases h2 : m.goal = 2
  · rw [hitF, if_pos h2, hitN, if_pos (.inl h2), hitT, if_pos h2]
    exact turnValue_any hC hMo hM hv hm n hn hl
  · by_cases h3 : m.goal = 3
    · rw [hitF, if_neg h2, if_pos h3, hitN, if_pos (.inr h3), hitT, if_neg h2, if_pos h3]
      exact takeOut_any hC hMo hM ht hv hm n hn hl
    · rw [hitF, if_neg h2, if_neg h3, hitN, if_neg (fun x => x.elim h2 h3), hitT, if_neg h2, if_neg h3]
      refine (leave_any _ _ w).mono ?_
      rintro e w' ⟨rfl, rfl⟩
      exact ⟨rfl, hC.cd hMo hM (Below.refl _ _)⟩
/-- What a miss makes of a table and its version, and what it tells. -/
noncomputable def missT (m : Ma) (t : Tb) (most : Int) : Tb := if (m.goal = 2 ∨ m.goal = 4) ∧ (t.live : Int) < most then t.add m.hash m.key m.value else t
def missN (m : Ma) (t : Tb) (most : Int) (v : Nat) : Nat := if (m.goal = 2 ∨ m.goal = 4) ∧ (t.live : Int) < most then v + 1 else v
noncomputable def missU (m : Ma) (t : Tb) (most : Int) : Tu := if m.goal = 2 ∨ m.goal = 4 then (if (t.live : Int) < most then ⟨2, 0, false, m.value, (((t.add m.hash m.key m.value).es.length - 1 : Nat) : Int)⟩ else ⟨3, 0, false, 0, 0⟩) else ⟨2, 0, false, 0, -1⟩
set_option maxRecDepth 100000 in
set_option maxHeartbeats 2000000 in
theorem addPair_yes {w : World} {d g gi r h : Nat} {ev : Value} {t : Tb} {mv : Value} {M : Int → Int → World → Prop} {a b : Int} {most : Int} {v : Nat} (hC : Dc w d g gi r h ev t mv most v) (hMo : MtOk mv M) (hM : M a b w) (hm1 : t.made ≤ 1000000) (ha : 0 ≤ a ∧ a ≤ 1000000000) (ht : t.turn ≤ 1000000) (hb : t.births < 100000) (hv : v ≤ 1000000000) {x : Nat} {sv : Value} {m : Ma} (hm : Mx w d g gi r h ev mv x sv m) (hf : (t.live : Int) < most) :
    Calls Tryz.prog 50 #[.pointer (some ⟨x, 0, none⟩)] w fun e w' => e = .returned (tuV ⟨2, 0, false, m.value, (((t.add m.hash m.key m.value).es.length - 1 : Nat) : Int)⟩) ∧ ∃ gi' r' h' ev', Cd w d g gi r h ev mv M (a + ((t.add m.hash m.key m.value).made - t.made : Nat)) b most (v + 1) (t.add m.hash m.key m.value) w' gi' r' h' ev' := by
  have HK0 : Hid (∀ V : World, V.heap[x]? = w.heap[x]? → (V.cell? ⟨x, 1, none⟩ = some (.pointer (some ⟨d, 0, none⟩)) ∧ V.cell? ⟨x, 5, none⟩ = some (.int .i64 m.hash)) ∧ V.cell? ⟨x, 6, none⟩ = some (.int .i64 m.key) ∧ V.cell? ⟨x, 7, none⟩ = some (.int .i64 m.value)) := fun V hV => by
    have h1 : Mc V x sv d m := hm.mc.same hV
    exact ⟨⟨h1.c 1 (by omega), h1.c 5 (by omega)⟩, h1.c 6 (by omega), h1.c 7 (by omega)⟩
  have hne := hm.ne
  have hnm := hm.nm
  obtain ⟨w1, hw1⟩ : ∃ y, w.alloc (.cells #[.int .i64 0, .int .i64 0, .bool false, .int .i64 0, .int .i64 0] 45) = y := ⟨_, rfl⟩
  have hB1 : Below w.heap.size w w1 := by rw [← hw1]; exact (Below.refl _ w).alloc (Nat.le_refl _) _
  have hX1 : Blk w1 w.heap.size 5 (fun j => #[Value.int .i64 0, .int .i64 0, .bool false, .int .i64 0, .int .i64 0].getD j .nilFunc) := by rw [← hw1]; exact Blk.new w _ _
  have hC1 := hC.below hB1
  have hm1' : Mc w1 x sv d m := hm.mc.of hB1 (by omega)
  have lx := hm.mc.lt (by omega)
  have lR := hX1.lt (by omega)
  have k1 : w1.cell? ⟨x, 1, none⟩ = some (.pointer (some ⟨d, 0, none⟩)) := hm1'.c 1 (by omega)
  have C1 := isFull_any (hC1.hd.c 0 (by omega)) (hC1.hd.c 1 (by omega)) (hC1.dt.hd.c 3 (by omega))
  have C1' : Calls Tryz.prog 70 #[.pointer (some ⟨d, 0, none⟩)] w1 fun e w' => e = .returned (.bool (decide (most ≤ (t.live : Int)))) ∧ w' = w1.drew := C1
  have hlm := fun k hk => hMo.lt a b w k hM hk
  have HC := Lib.hid hC
  have HMo := Lib.hid hMo
  have HM := Lib.hid hM
  have HB1 := Lib.hid hB1
  have HX1 := Lib.hid hX1
  have HW1 := Lib.hid hw1
  clear hC hMo hM hC1 hm1' hB1 hX1 hw1 C1 hm
  unfold tuV
  generalize m.hash = zh at *
  generalize m.key = zk at *
  generalize m.value = zv at *
  go_enter Tryz.func50, Tryz.ntmps50
  go_upto_region 1 with fail
  rw [HW1.out]
  go_wp2_with fail
  refine C1'.mono ?_
  rintro e w2 ⟨rfl, hw2⟩
  clear C1'
  have hB2 : Below w.heap.size w w2 := by rw [hw2]; exact HB1.out.drew
  have hX2 : Blk w2 w.heap.size 5 (fun j => #[Value.int .i64 0, .int .i64 0, .bool false, .int .i64 0, .int .i64 0].getD j .nilFunc) := by rw [hw2]; exact HX1.out.same rfl
  have hl2 : w.heap.size < w2.heap.size := by rw [hw2]; exact lR
  clear hw2 k1
  have tf : decide (most ≤ (t.live : Int)) = false := decide_eq_false (by omega)
  rw [tf]
  have hBd := hB2.drew
  have hCd := HC.out.below hBd
  have C2 := padd_any hCd HMo.out (HMo.out.below HM.out hBd) hm1 ha ht hb hv zh zk zv
  have hx2 : w2.heap[x]? = w.heap[x]? := hB2.block x lx
  have HK : Hid (∀ V : World, V.heap[x]? = w2.heap[x]? → (V.cell? ⟨x, 1, none⟩ = some (.pointer (some ⟨d, 0, none⟩)) ∧ V.cell? ⟨x, 5, none⟩ = some (.int .i64 zh)) ∧ V.cell? ⟨x, 6, none⟩ = some (.int .i64 zk) ∧ V.cell? ⟨x, 7, none⟩ = some (.int .i64 zv)) := fun V hV => HK0.out V (hV.trans hx2)
  have s0 := HK.out w2.drew rfl
  have lx2 : x < w2.drew.heap.size := by have h9 : w2.drew.heap.size = w2.heap.size := rfl; have := hB2.size; omega
  have HBd := Lib.hid hBd
  have HX2 := Lib.hid hX2
  clear hB2 hX2 hBd hCd tf hx2
  go_upto_region 3 with fail
  go_region_held3 (fun V => (V.cell? ⟨x, 1, none⟩ = some (.pointer (some ⟨d, 0, none⟩)) ∧ V.cell? ⟨x, 5, none⟩ = some (.int .i64 zh)) ∧ V.cell? ⟨x, 6, none⟩ = some (.int .i64 zk) ∧ V.cell? ⟨x, 7, none⟩ = some (.int .i64 zv))
    (first | with_reducible exact s0 | with_reducible exact s1 | fail)
    (first | (go_at_call 71; refine C2.mono ?_; rintro e w3 ⟨rfl, gi', r', h', ev', hF⟩; have s1 := HK.out w3 (hF.block lx2 hne hnm)) | fail)
  clear C2 s0
  have ncR : ¬ cX d g gi r h ev w.heap.size := fun hx => by have := HC.out.lt _ hx; omega
  have nmR : ¬ mB mv w.heap.size := fun hx => by have := hlm _ hx; omega
  have hX3 := HX2.out.same (w' := w3) (hF.block hl2 ncR nmR)
  have q0 : w3.cell? ⟨w.heap.size, 0, none⟩ = some (.int .i64 0) := hX3.c 0 (by omega)
  have q1 : w3.cell? ⟨w.heap.size, 1, none⟩ = some (.int .i64 0) := hX3.c 1 (by omega)
  have q2 : w3.cell? ⟨w.heap.size, 2, none⟩ = some (.bool false) := hX3.c 2 (by omega)
  have q3 : w3.cell? ⟨w.heap.size, 3, none⟩ = some (.int .i64 0) := hX3.c 3 (by omega)
  have q4 : w3.cell? ⟨w.heap.size, 4, none⟩ = some (.int .i64 0) := hX3.c 4 (by omega)
  have z0 := hX3.z 0
  have z1 := hX3.z 1
  have z2 := hX3.z 2
  have z3 := hX3.z 3
  have z4 := hX3.z 4
  have x7 := s1.2.2
  obtain ⟨N, hN⟩ : ∃ N : Int, (((t.add zh zk zv).es.length - 1 : Nat) : Int) = N := ⟨_, rfl⟩
  rw [hN]
  have HR4 := Lib.hid (put5_blk hX3 (.int .i64 2) (.int .i64 0) (.bool false) (.int .i64 zv) (.int .i64 N))
  have HF4 : Hid (Cd w d g gi r h ev mv M (a + ((t.add zh zk zv).made - t.made : Nat)) b most (v + 1) (t.add zh zk zv) (put5 w3 w.heap.size (.int .i64 2) (.int .i64 0) (.bool false) (.int .i64 zv) (.int .i64 N)) gi' r' h' ev') := by
    have hbp := put5_below (B := w.heap.size) (w := w3) w.heap.size (Nat.le_refl _) (.int .i64 2) (.int .i64 0) (.bool false) (.int .i64 zv) (.int .i64 N)
    have hoth : ∀ k, k ≠ w.heap.size → (put5 w3 w.heap.size (.int .i64 2) (.int .i64 0) (.bool false) (.int .i64 zv) (.int .i64 N)).heap[k]? = w3.heap[k]? := fun k hk => by
      unfold put5
      rw [Below.heap_setCell _ _ _ _ hk, Below.heap_setCell _ _ _ _ hk, Below.heap_setCell _ _ _ _ hk, Below.heap_setCell _ _ _ _ hk, Below.heap_setCell _ _ _ _ hk]
    have c := hF.from HBd.out
    have hnR : ∀ k, cX d g gi' r' h' ev' k → k ≠ w.heap.size := fun k hk e => by
      rcases hk with hk | hk
      · have := HC.out.hd.lt (by omega); omega
      · rcases hF.fx k hk with y | y
        · have := HC.out.dt.lt k y; omega
        · have h9 : w2.drew.heap.size = w2.heap.size := rfl
          omega
    exact ⟨c.dc.same fun k hk => hoth k (hnR k hk), HMo.out.same _ _ _ _ c.m fun k hk => hbp.block k (hlm k hk), c.fx, c.ex.next (Y := fun k => w.heap.size ≤ k) ⟨hbp.os, hbp.tape, hbp.output, hbp.size, fun k _ hx => hbp.block k (by omega)⟩ (fun k hk hx => by omega)⟩
  have HN := Lib.hid hN
  unfold put5 at HR4 HF4
  clear hF hX3 s1 HX2
  go_wp2_with fail
  generalize World.setCell (World.setCell (World.setCell (World.setCell (World.setCell w3 _ _) _ _) _ _) _ _) _ _ = w4 at *
  have o0 : w4.cell? ⟨w.heap.size, 0, none⟩ = some (.int .i64 2) := HR4.out.c 0 (by omega)
  have o1 : w4.cell? ⟨w.heap.size, 1, none⟩ = some (.int .i64 0) := HR4.out.c 1 (by omega)
  have o2 : w4.cell? ⟨w.heap.size, 2, none⟩ = some (.bool false) := HR4.out.c 2 (by omega)
  have o3 : w4.cell? ⟨w.heap.size, 3, none⟩ = some (.int .i64 zv) := HR4.out.c 3 (by omega)
  have o4 : w4.cell? ⟨w.heap.size, 4, none⟩ = some (.int .i64 N) := HR4.out.c 4 (by omega)
  refine bodyPost_ret (v := .agg #[.int .i64 2, .int .i64 0, .bool false, .int .i64 zv, .int .i64 N]) ?_ rfl ⟨?_, gi', r', h', ev', HF4.out⟩
  · simp [results, Tryz.results50, go_sem, o0, o1, o2, o3, o4]
  · rw [← HN.out]
set_option maxRecDepth 100000 in
set_option maxHeartbeats 2000000 in
theorem addPair_no {w : World} {d g gi r h : Nat} {ev : Value} {t : Tb} {mv : Value} {M : Int → Int → World → Prop} {a b : Int} {most : Int} {v : Nat} (hC : Dc w d g gi r h ev t mv most v) (hMo : MtOk mv M) (hM : M a b w) {x : Nat} {sv : Value} {m : Ma} (hm : Mx w d g gi r h ev mv x sv m) (hf : ¬ (t.live : Int) < most) :
    Calls Tryz.prog 50 #[.pointer (some ⟨x, 0, none⟩)] w fun e w' => e = .returned (tuV ⟨3, 0, false, 0, 0⟩) ∧ Cd w d g gi r h ev mv M a b most v t w' gi r h ev := by
  obtain ⟨w1, hw1⟩ : ∃ y, w.alloc (.cells #[.int .i64 0, .int .i64 0, .bool false, .int .i64 0, .int .i64 0] 45) = y := ⟨_, rfl⟩
  have hB1 : Below w.heap.size w w1 := by rw [← hw1]; exact (Below.refl _ w).alloc (Nat.le_refl _) _
  have hX1 : Blk w1 w.heap.size 5 (fun j => #[Value.int .i64 0, .int .i64 0, .bool false, .int .i64 0, .int .i64 0].getD j .nilFunc) := by rw [← hw1]; exact Blk.new w _ _
  have hC1 := hC.below hB1
  have hm1' : Mc w1 x sv d m := hm.mc.of hB1 (by omega)
  have lx := hm.mc.lt (by omega)
  have lR := hX1.lt (by omega)
  have k1 : w1.cell? ⟨x, 1, none⟩ = some (.pointer (some ⟨d, 0, none⟩)) := hm1'.c 1 (by omega)
  have C1 := isFull_any (hC1.hd.c 0 (by omega)) (hC1.hd.c 1 (by omega)) (hC1.dt.hd.c 3 (by omega))
  have C1' : Calls Tryz.prog 70 #[.pointer (some ⟨d, 0, none⟩)] w1 fun e w' => e = .returned (.bool (decide (most ≤ (t.live : Int)))) ∧ w' = w1.drew := C1
  have HC := Lib.hid hC
  have HMo := Lib.hid hMo
  have HM := Lib.hid hM
  have HB1 := Lib.hid hB1
  have HX1 := Lib.hid hX1
  have HW1 := Lib.hid hw1
  clear hC hMo hM hC1 hm1' hB1 hX1 hw1 C1 hm
  unfold tuV
  go_enter Tryz.func50, Tryz.ntmps50
  go_upto_region 1 with fail
  rw [HW1.out]
  go_wp2_with fail
  refine C1'.mono ?_
  rintro e w2 ⟨rfl, hw2⟩
  clear C1'
  have hB2 : Below w.heap.size w w2 := by rw [hw2]; exact HB1.out.drew
  have hX2 : Blk w2 w.heap.size 5 (fun j => #[Value.int .i64 0, .int .i64 0, .bool false, .int .i64 0, .int .i64 0].getD j .nilFunc) := by rw [hw2]; exact HX1.out.same rfl
  have hl2 : w.heap.size < w2.heap.size := by rw [hw2]; exact lR
  clear hw2 k1
  have tf : decide (most ≤ (t.live : Int)) = true := decide_eq_true (by omega)
  rw [tf]
  have q0 : w2.cell? ⟨w.heap.size, 0, none⟩ = some (.int .i64 0) := hX2.c 0 (by omega)
  have q1 : w2.cell? ⟨w.heap.size, 1, none⟩ = some (.int .i64 0) := hX2.c 1 (by omega)
  have q2 : w2.cell? ⟨w.heap.size, 2, none⟩ = some (.bool false) := hX2.c 2 (by omega)
  have q3 : w2.cell? ⟨w.heap.size, 3, none⟩ = some (.int .i64 0) := hX2.c 3 (by omega)
  have q4 : w2.cell? ⟨w.heap.size, 4, none⟩ = some (.int .i64 0) := hX2.c 4 (by omega)
  have z0 := hX2.z 0
  have z1 := hX2.z 1
  have z2 := hX2.z 2
  have z3 := hX2.z 3
  have z4 := hX2.z 4
  have HR4 := Lib.hid (put5_blk hX2 (.int .i64 3) (.int .i64 0) (.bool false) (.int .i64 0) (.int .i64 0))
  have HF4 := Lib.hid (HC.out.cd HMo.out HM.out (hB2.trans (put5_below (B := w.heap.size) (w := w2) w.heap.size (Nat.le_refl _) (.int .i64 3) (.int .i64 0) (.bool false) (.int .i64 0) (.int .i64 0))))
  unfold put5 at HR4 HF4
  clear hB2 hX2 tf
  go_wp2_with fail
  generalize World.setCell (World.setCell (World.setCell (World.setCell (World.setCell w2 _ _) _ _) _ _) _ _) _ _ = w4 at *
  have o0 : w4.cell? ⟨w.heap.size, 0, none⟩ = some (.int .i64 3) := HR4.out.c 0 (by omega)
  have o1 : w4.cell? ⟨w.heap.size, 1, none⟩ = some (.int .i64 0) := HR4.out.c 1 (by omega)
  have o2 : w4.cell? ⟨w.heap.size, 2, none⟩ = some (.bool false) := HR4.out.c 2 (by omega)
  have o3 : w4.cell? ⟨w.heap.size, 3, none⟩ = some (.int .i64 0) := HR4.out.c 3 (by omega)
  have o4 : w4.cell? ⟨w.heap.size, 4, none⟩ = some (.int .i64 0) := HR4.out.c 4 (by omega)
  refine bodyPost_ret (v := .agg #[.int .i64 3, .int .i64 0, .bool false, .int .i64 0, .int .i64 0]) ?_ rfl ⟨rfl, HF4.out⟩
  simp [results, Tryz.results50, go_sem, o0, o1, o2, o3, o4]
end Go.Proofs.YtejfmajbggmghaaGreat
namespace Go.Proofs.YtejfmajbggmghaaGreat
open Go.RowKit Go.WideShapes

theorem Mx.below {w w' : World} {d g gi r h : Nat} {ev : Value} {mv : Value} {x : Nat} {sv : Value} {m : Ma} (hm : Mx w d g gi r h ev mv x sv m) (hb : Below w.heap.size w w') : Mx w' d g gi r h ev mv x sv m := ⟨hm.mc.of hb (by omega), hm.ne, hm.nm⟩
theorem tu_zero_blk (w : World) {w1 : World} (h : w.alloc (.cells #[.int .i64 0, .int .i64 0, .bool false, .int .i64 0, .int .i64 0] 45) = w1) : Blk w1 w.heap.size 5 (fun j => #[Value.int .i64 0, .int .i64 0, .bool false, .int .i64 0, .int .i64 0].getD j .nilFunc) ∧ Below w.heap.size w w1 ∧ w1.heap.size = w.heap.size + 1 := by
  rw [← h]
  exact ⟨Blk.new w _ _, (Below.refl _ w).alloc (Nat.le_refl _) _, by simp⟩
set_option maxRecDepth 100000 in
set_option maxHeartbeats 2000000 in
theorem hit_any {w : World} {d g gi r h : Nat} {ev : Value} {t : Tb} {mv : Value} {M : Int → Int → World → Prop} {a b : Int} {most : Int} {v : Nat} (hC : Dc w d g gi r h ev t mv most v) (hMo : MtOk mv M) (hM : M a b w) (ht : t.turn ≤ 1000000) (hv : v ≤ 1000000000) {x : Nat} {sv : Value} {m : Ma} (hm : Mx w d g gi r h ev mv x sv m) (n : Nat) (hn : n < t.es.length) (hl : (nth t.es n).live = true) :
    Calls Tryz.prog 58 #[.pointer (some ⟨x, 0, none⟩), .int .i64 (n : Int)] w fun e w' => e = .returned (tuV ⟨2, 0, true, (nth t.es n).value, (n : Int)⟩) ∧ Cd w d g gi r h ev mv M a b most (hitN m.goal v) (hitT m t n) w' gi r h ev := by
  obtain ⟨w1, hw1⟩ : ∃ y, w.alloc (.cells #[.int .i64 0, .int .i64 0, .bool false, .int .i64 0, .int .i64 0] 45) = y := ⟨_, rfl⟩
  obtain ⟨hX1, hB1, hs1⟩ := tu_zero_blk w hw1
  have hC1 := hC.below hB1
  have hm1 := hm.below hB1
  have C1 := kept_yes (hC1.hd.c 0 (by omega))
  have C2 := at7_yes hC1.dt n hn hl
  have k1 : w1.cell? ⟨x, 1, none⟩ = some (.pointer (some ⟨d, 0, none⟩)) := hm1.mc.c 1 (by omega)
  have hlm := fun k hk => hMo.lt a b w k hM hk
  have lx := hm.mc.lt (by omega)
  have HC := Lib.hid hC
  have HMo := Lib.hid hMo
  have HM := Lib.hid hM
  have HMX := Lib.hid hm
  have HB1 := Lib.hid hB1
  have HX1 := Lib.hid hX1
  have HW1 := Lib.hid hw1
  have HL := Lib.hid hl
  have hcf : ∀ args w, (callFunc (hitF m.goal) args).run Tryz.prog w = .ok (.enter (hitF m.goal) args) w := by
    unfold hitF
    split
    · exact Tryz.call49
    · split
      · exact Tryz.call51
      · exact Tryz.call47
  have HCF : Hid (∀ V, Below w.heap.size w V → Calls Tryz.prog (hitF m.goal) #[.pointer (some ⟨x, 0, none⟩), .int .i64 (n : Int)] V fun e w' => e = .returned (.tuple #[]) ∧ Cd V d g gi r h ev mv M a b most (hitN m.goal v) (hitT m t n) w' gi r h ev) := fun V hV => hitF_any (hC.below hV) hMo (hMo.below hM hV) ht hv (hm.below hV) n hn hl
  have HK3 : Hid (∀ V, Below w.heap.size w V → V.cell? ⟨x, 3, none⟩ = some (.func (.func (hitF m.goal)) #[] #[])) := fun V hV => (hm.mc.of hV (by omega)).c 3 (by omega)
  clear hC hMo hM hm hC1 hm1 hB1 hX1 hw1 hl
  unfold tuV
  generalize (nth t.es n).live = y0 at *
  generalize (nth t.es n).hash = y1 at *
  generalize (nth t.es n).key = y2 at *
  generalize (nth t.es n).value = y3 at *
  generalize (nth t.es n).birth = y4 at *
  generalize hitF m.goal = F at *
  generalize hitN m.goal v = v' at *
  generalize hitT m t n = t' at *
  go_enter Tryz.func58, Tryz.ntmps58
  go_upto_region 1 with fail
  rw [HW1.out]
  go_wp2_with fail
  refine C1.mono ?_
  rintro e w1' ⟨rfl, rfl⟩
  go_wp2_with fail
  refine C2.mono ?_
  rintro e w2 ⟨rfl, hB2⟩
  clear C1 C2 k1
  obtain ⟨w3, hw3⟩ : ∃ y, w2.alloc (.cells #[.bool y0, .int .i64 y1, .int .i64 y2, .int .i64 y3, .int .i64 y4] 48) = y := ⟨_, rfl⟩
  have hB3 : Below w2.heap.size w2 w3 := by rw [← hw3]; exact (Below.refl _ w2).alloc (Nat.le_refl _) _
  have hX3 : Blk w3 w2.heap.size 5 (fun j => #[Value.bool y0, .int .i64 y1, .int .i64 y2, .int .i64 y3, .int .i64 y4].getD j .nilFunc) := by rw [← hw3]; exact Blk.new w2 _ _
  have hB13 := hB2.trans (hB3.mono hB2.size)
  have hB03 := HB1.out.trans (hB13.mono HB1.out.size)
  have C4 := HCF.out w3 hB03
  have k3 := HK3.out w3 hB03
  have hs2 := hB2.size
  have lE := hX3.lt (by omega)
  have HX3 := Lib.hid hX3
  have HR3 := Lib.hid (HX1.out.of hB13 (by omega))
  have HB03 := Lib.hid hB03
  have HW3 := Lib.hid hw3
  clear hB3 hX3 hB13 hB03 hw3 hB2 HCF HK3
  go_upto_region 2 with fail
  rw [HW3.out]
  go_wp2_with fail
  refine C4.mono ?_
  rintro e w4 ⟨rfl, hF⟩
  clear C4 k3
  have hs3 : w.heap.size < w3.heap.size := by omega
  have ncw : ∀ k, w.heap.size ≤ k → ¬ cX d g gi r h ev k := fun k hk hx => by have := HC.out.lt k hx; omega
  have nmw : ∀ k, w.heap.size ≤ k → ¬ mB mv k := fun k hk hx => by have := hlm k hx; omega
  have hX4 := HX3.out.same (hF.block lE (ncw _ (by omega)) (nmw _ (by omega)))
  have hR4 := HR3.out.same (hF.block hs3 (ncw _ (Nat.le_refl _)) (nmw _ (Nat.le_refl _)))
  have p3 : w4.cell? ⟨w2.heap.size, 3, none⟩ = some (.int .i64 y3) := hX4.c 3 (by omega)
  have q0 : w4.cell? ⟨w.heap.size, 0, none⟩ = some (.int .i64 0) := hR4.c 0 (by omega)
  have q1 : w4.cell? ⟨w.heap.size, 1, none⟩ = some (.int .i64 0) := hR4.c 1 (by omega)
  have q2 : w4.cell? ⟨w.heap.size, 2, none⟩ = some (.bool false) := hR4.c 2 (by omega)
  have q3 : w4.cell? ⟨w.heap.size, 3, none⟩ = some (.int .i64 0) := hR4.c 3 (by omega)
  have q4 : w4.cell? ⟨w.heap.size, 4, none⟩ = some (.int .i64 0) := hR4.c 4 (by omega)
  have z0 := hR4.z 0
  have z1 := hR4.z 1
  have z2 := hR4.z 2
  have z3 := hR4.z 3
  have z4 := hR4.z 4
  have HR5 := Lib.hid (put5_blk hR4 (.int .i64 2) (.int .i64 0) (.bool true) (.int .i64 y3) (.int .i64 (n : Int)))
  have HF5 := Lib.hid ((hF.from HB03.out).over HC.out HMo.out hlm (put5_below (B := w.heap.size) (w := w4) w.heap.size (Nat.le_refl _) (.int .i64 2) (.int .i64 0) (.bool true) (.int .i64 y3) (.int .i64 (n : Int))))
  unfold put5 at HR5 HF5
  clear hX4 hR4 hF
  go_wp2_with fail
  generalize World.setCell (World.setCell (World.setCell (World.setCell (World.setCell w4 _ _) _ _) _ _) _ _) _ _ = w5 at *
  have o0 : w5.cell? ⟨w.heap.size, 0, none⟩ = some (.int .i64 2) := HR5.out.c 0 (by omega)
  have o1 : w5.cell? ⟨w.heap.size, 1, none⟩ = some (.int .i64 0) := HR5.out.c 1 (by omega)
  have o2 : w5.cell? ⟨w.heap.size, 2, none⟩ = some (.bool true) := HR5.out.c 2 (by omega)
  have o3 : w5.cell? ⟨w.heap.size, 3, none⟩ = some (.int .i64 y3) := HR5.out.c 3 (by omega)
  have o4 : w5.cell? ⟨w.heap.size, 4, none⟩ = some (.int .i64 (n : Int)) := HR5.out.c 4 (by omega)
  refine bodyPost_ret (v := .agg #[.int .i64 2, .int .i64 0, .bool true, .int .i64 y3, .int .i64 (n : Int)]) ?_ rfl ⟨rfl, HF5.out⟩
  simp [results, Tryz.results58, go_sem, o0, o1, o2, o3, o4]
end Go.Proofs.YtejfmajbggmghaaGreat
namespace Go.Proofs.YtejfmajbggmghaaGreat
open Go.RowKit Go.WideShapes

set_option maxRecDepth 100000 in
set_option maxHeartbeats 2000000 in
theorem beginScan_any {w : World} {d g gi r h : Nat} {ev : Value} {t : Tb} {mv : Value} {most : Int} {v : Nat} (hC : Dc w d g gi r h ev t mv most v) {x : Nat} {sv : Value} {m : Ma} (hm : Mx w d g gi r h ev mv x sv m) (hsc : m.scans ≤ 1000000) :
    Calls Tryz.prog 57 #[.pointer (some ⟨x, 0, none⟩)] w fun e w' => e = .returned (.tuple #[]) ∧ ∃ s, w.heap.size ≤ s ∧ Sk w' s (.pointer (some ⟨g, 0, none⟩)) t.turn m.hash t.L 0 (-1) 0 ∧ Mc w' x (.pointer (some ⟨s, 0, none⟩)) d { m with ver := v, scans := m.scans + 1 } ∧ Ex (fun k => k = x) w w' := by
  have hbd : Below w.heap.size w w.drew := (Below.refl _ w).drew
  have hCd := hC.below hbd
  have lx := hm.mc.lt (by omega)
  have ld := hC.hd.lt (by omega)
  have hxd : x ≠ d := fun e => hm.ne (.inl e)
  have C1 : Calls Tryz.prog 36 #[.pointer (some ⟨d, 0, none⟩)] w.drew fun e w' => e = .returned (.pointer (some ⟨g, 0, none⟩)) ∧ w' = w.drew := kept_yes (hCd.hd.c 0 (by omega))
  have C2 := seek_any hCd.dt m.hash
  have hmd : Mc w.drew x sv d m := hm.mc.of hbd (by omega)
  have k1 : w.drew.cell? ⟨x, 1, none⟩ = some (.pointer (some ⟨d, 0, none⟩)) := hmd.c 1 (by omega)
  have k5 : w.drew.cell? ⟨x, 5, none⟩ = some (.int .i64 m.hash) := hmd.c 5 (by omega)
  have HMD := Lib.hid hmd
  have HCD := Lib.hid hCd.hd
  have HBD := Lib.hid hbd
  have e9 : IntKind.i64.wrap ((m.scans : Int) + 1) = (m.scans : Int) + 1 := i64_small (by omega) (by omega)
  clear hC hCd hm hmd hbd
  go_enter Tryz.func57, Tryz.ntmps57
  go_upto_region 0 with fail
  go_region_held3 (fun V => V.cell? ⟨x, 1, none⟩ = some (.pointer (some ⟨d, 0, none⟩)) ∧ V.cell? ⟨x, 5, none⟩ = some (.int .i64 m.hash))
    (first | with_reducible exact ⟨k1, k5⟩ | with_reducible exact s1 | with_reducible exact s2 | fail)
    (first | (go_at_call 36; refine C1.mono ?_; rintro e w0 ⟨rfl, rfl⟩) | (go_at_call 74; refine C2.mono ?_; rintro e w1 ⟨s, rfl, hs, hK, hb1⟩; have hM1 : Mc w1 x sv d m := HMD.out.of hb1 (by omega); have s1 : w1.cell? ⟨x, 1, none⟩ = some (.pointer (some ⟨d, 0, none⟩)) ∧ w1.cell? ⟨x, 5, none⟩ = some (.int .i64 m.hash) := ⟨hM1.c 1 (by omega), hM1.c 5 (by omega)⟩; have c0 : w1.cell? ⟨x, 0, none⟩ = some sv := hM1.c 0 (by omega); have z0 := hM1.z 0; have hM2 := hM1.put 0 (.pointer (some ⟨s, 0, none⟩)); have s2 : (w1.setCell ⟨x, 0, none⟩ (.pointer (some ⟨s, 0, none⟩))).cell? ⟨x, 1, none⟩ = some (.pointer (some ⟨d, 0, none⟩)) ∧ (w1.setCell ⟨x, 0, none⟩ (.pointer (some ⟨s, 0, none⟩))).cell? ⟨x, 5, none⟩ = some (.int .i64 m.hash) := ⟨hM2.c 1 (by omega), hM2.c 5 (by omega)⟩) | fail)
  clear C1 C2 k1 k5
  have hD2 : Blk (w1.setCell ⟨x, 0, none⟩ (.pointer (some ⟨s, 0, none⟩))) d 3 (dcF g most v) := (HCD.out.of hb1 (by omega)).same (Below.heap_setCell _ _ _ _ (fun (e : d = x) => hxd e.symm))
  have hM2' : Mc (w1.setCell ⟨x, 0, none⟩ (.pointer (some ⟨s, 0, none⟩))) x (.pointer (some ⟨s, 0, none⟩)) d m := hM2.congr fun j hj => by
    rcases lt17 hj with rfl | rfl | rfl | rfl | rfl | rfl | rfl | rfl | rfl | rfl | rfl | rfl | rfl | rfl | rfl | rfl | rfl <;> rfl
  have hsx : s ≠ x := by have h9 : w.drew.heap.size = w.heap.size := rfl; omega
  have hK2 : Sk (w1.setCell ⟨x, 0, none⟩ (.pointer (some ⟨s, 0, none⟩))) s (.pointer (some ⟨g, 0, none⟩)) t.turn m.hash t.L 0 (-1) 0 := Blk.same hK (Below.heap_setCell _ _ _ _ hsx)
  have hx2 : Ex (fun k => k = x) w (w1.setCell ⟨x, 0, none⟩ (.pointer (some ⟨s, 0, none⟩))) := (show Ex (fun k => k = x) w w1 from ex_of (HBD.out.trans hb1)).setCell (p := ⟨x, 0, none⟩) (fun _ => rfl) _
  have HS : Hid (w.heap.size ≤ s) := hs
  clear s1 s2 c0 z0 hM1 hM2 hK hb1 hs
  generalize w1.setCell ⟨x, 0, none⟩ (.pointer (some ⟨s, 0, none⟩)) = w2 at *
  have k1 : w2.cell? ⟨x, 1, none⟩ = some (.pointer (some ⟨d, 0, none⟩)) := hM2'.c 1 (by omega)
  have k8 : w2.cell? ⟨x, 8, none⟩ = some (.int .u64 (m.ver : Int)) := hM2'.c 8 (by omega)
  have k9 : w2.cell? ⟨x, 9, none⟩ = some (.int .i64 (m.scans : Int)) := hM2'.c 9 (by omega)
  have d2 : w2.cell? ⟨d, 2, none⟩ = some (.int .u64 (v : Int)) := hD2.c 2 (by omega)
  have z8 := hM2'.z 8
  have z9 := hM2'.z 9
  have HF : Hid (Mc ((w2.setCell ⟨x, 8, none⟩ (.int .u64 (v : Int))).setCell ⟨x, 9, none⟩ (.int .i64 ((m.scans : Int) + 1))) x (.pointer (some ⟨s, 0, none⟩)) d { m with ver := v, scans := m.scans + 1 }) := ((hM2'.put 8 _).put 9 _).congr fun j hj => by
    rcases lt17 hj with rfl | rfl | rfl | rfl | rfl | rfl | rfl | rfl | rfl | rfl | rfl | rfl | rfl | rfl | rfl | rfl | rfl
    all_goals first | rfl | (show Value.int .i64 (((m.scans + 1 : Nat)) : Int) = Value.int .i64 ((m.scans : Int) + 1); rw [Int.natCast_add]; rfl)
  have HK3 : Hid (Sk ((w2.setCell ⟨x, 8, none⟩ (.int .u64 (v : Int))).setCell ⟨x, 9, none⟩ (.int .i64 ((m.scans : Int) + 1))) s (.pointer (some ⟨g, 0, none⟩)) t.turn m.hash t.L 0 (-1) 0) := Blk.same hK2 (by rw [Below.heap_setCell _ _ _ _ hsx, Below.heap_setCell _ _ _ _ hsx])
  have HX3 := Lib.hid ((hx2.setCell (p := ⟨x, 8, none⟩) (fun _ => rfl) (.int .u64 (v : Int))).setCell (p := ⟨x, 9, none⟩) (fun _ => rfl) (.int .i64 ((m.scans : Int) + 1)))
  clear hM2' hD2 hK2 hx2
  go_wp2_with fail
  go_end0
  exact ⟨rfl, s, HS.out, HK3.out, HF.out, HX3.out⟩
end Go.Proofs.YtejfmajbggmghaaGreat
