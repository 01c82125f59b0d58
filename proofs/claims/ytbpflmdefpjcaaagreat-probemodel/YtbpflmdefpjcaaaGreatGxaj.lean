/-
  What is done at an ask, on the program's side.
  The model's find, where somebody is asked.
  One more ask; an act behind a state.
-/
import Derived.Test.YtbpflmdefpjcaaaGreatGxah
import Derived.Test.YtbpflmdefpjcaaaGreatGxai
import Derived.Test.YtbpflmdefpjcaaaGreatGxag
namespace Go.Proofs.YtbpflmdefpjcaaaGreat
open Go.RowKit Go.WideShapes

/-- A state behind w, the numbers of its blocks left out. -/
def RqE (w : World) (r d g gi rr h : Nat) (ev av tv : Value) (t : Tb) (most v : Nat) (same : Int) (L1 : List Pq) (v1 : Nat) (q : List Int) (inner : Bool) (w1 : World) : Prop :=
  ∃ gi1 rr1 h1 ev1 av1 t1, RqR w r d g gi rr h ev av tv t most v same L1 v1 q inner w1 gi1 rr1 h1 ev1 av1 t1
section
variable {w w1 w2 : World} {r d g gi rr h : Nat} {ev av tv : Value} {t : Tb} {most v v1 : Nat} {q : List Int} {same : Int} {inner : Bool} {L1 : List Pq}
theorem RqE.refl {q : List Int} {inner : Bool} (x : Rq w r d g gi rr h ev av tv t most v q same inner) : RqE w r d g gi rr h ev av tv t most v same (pqs t.es) v q inner w := ⟨_, _, _, _, _, _, RqR.refl x⟩
theorem RqE.below (a : RqE w r d g gi rr h ev av tv t most v same L1 v1 q inner w1) (hb : Below w1.heap.size w1 w2) : RqE w r d g gi rr h ev av tv t most v same L1 v1 q inner w2 := by
  obtain ⟨_, _, _, _, _, _, x⟩ := a
  exact ⟨_, _, _, _, _, _, x.below hb⟩
theorem RqE.ex (a : RqE w r d g gi rr h ev av tv t most v same L1 v1 q inner w1) : Ex (rqX r d g gi rr h ev av) w w1 := by
  obtain ⟨_, _, _, _, _, _, x⟩ := a
  exact x.ex
theorem RqE.cells (a : RqE w r d g gi rr h ev av tv t most v same L1 v1 q inner w1) : w1.cell? ⟨r, 2, none⟩ = some tv ∧ w1.cell? ⟨r, 4, none⟩ = some (.bool inner) ∧ w1.frozen? ⟨r, 4, none⟩ = false ∧ w1.cell? ⟨r, 0, none⟩ = some (.pointer (some ⟨d, 0, none⟩)) ∧ r < w1.heap.size ∧ (d < w1.heap.size) := by
  obtain ⟨_, _, _, _, _, _, x⟩ := a
  exact ⟨x.rq.hd.c 2 (by omega), x.rq.hd.c 4 (by omega), x.rq.hd.z 4, x.rq.hd.c 0 (by omega), x.rq.hd.lt (by omega), x.rq.dc.hd.lt (by omega)⟩
theorem Rq.setInner {q : List Int} {inner : Bool} (x : Rq w r d g gi rr h ev av tv t most v q same inner) (b : Bool) : Rq (w.setCell ⟨r, 4, none⟩ (.bool b)) r d g gi rr h ev av tv t most v q same b := by
  have o : ∀ k, k ≠ r → (w.setCell ⟨r, 4, none⟩ (.bool b)).heap[k]? = w.heap[k]? := fun k hk => Below.heap_setCell w ⟨r, 4, none⟩ _ k hk
  refine ⟨(x.hd.put 4 _).congr fun j hj => ?_, x.ask.same8 fun k hk => o k (x.na k hk).1, x.dc.same fun k hk => o k (fun e => x.nr (e ▸ hk)), x.na, x.nr, x.bd⟩
  have : j = 0 ∨ j = 1 ∨ j = 2 ∨ j = 3 ∨ j = 4 ∨ j = 5 := by omega
  rcases this with rfl | rfl | rfl | rfl | rfl | rfl <;> rfl
theorem RqE.setI (a : RqE w r d g gi rr h ev av tv t most v same L1 v1 q inner w1) (b : Bool) : RqE w r d g gi rr h ev av tv t most v same L1 v1 q b (w1.setCell ⟨r, 4, none⟩ (.bool b)) := by
  obtain ⟨gi1, rr1, h1, ev1, av1, t1, x⟩ := a
  exact ⟨gi1, rr1, h1, ev1, av1, t1, x.rq.setInner b, x.pq, x.sm, x.vl, x.fx, x.ex.next ((Ex.refl (fun k => k = r) w1).setCell (p := ⟨r, 4, none⟩) (fun _ => rfl) _) (fun _ _ e => .inl e)⟩
/-- A call of what stands there behind w. -/
theorem RqE.callI (a : RqE w r d g gi rr h ev av tv t most v same L1 v1 q true w1) (hv : v1 ≤ 1000) (c : Cq) (hg : 1 ≤ c.goal ∧ c.goal ≤ 4) :
    Calls Tryz.prog 7 #[.pointer (some ⟨r, 0, none⟩), .agg #[.int .i64 (c.goal : Int), .int .i64 c.hash, .int .i64 c.key, .int .i64 c.value]] w1 fun e w' => ∃ u, e = .returned (.tuple #[tuV u, .bool true]) ∧ RqE w r d g gi rr h ev av tv t most v same (callQ most same c (L1, v1)).2.1 (callQ most same c (L1, v1)).2.2 q true w' := by
  obtain ⟨gi1, rr1, h1, ev1, av1, t1, x⟩ := a
  have hpq := x.pq
  subst hpq
  obtain ⟨q', k, hF, hk⟩ := FdQ.calm (most := most) (same := same) (c := c) (L := pqs t1.es) (v := v1) (q := []) (m := (pqs t1.es).length) (i := 0) rfl (by omega) (fun j hj => by omega)
  have hl : (pqs t1.es).length ≤ v1 := by
    have h1 := x.rq.dc.ok.few
    have h2 := t1.live_le
    have h3 := live_pqs t1
    have h4 := x.rq.bd.1
    omega
  exact (rcallI_any x.rq hF (by omega) (by show v1 + 0 ≤ 1000; omega) hg).mono fun e w' ⟨g1, gi2, rr2, h2, ev2, av2, t2, y⟩ => ⟨_, g1, gi2, rr2, h2, ev2, av2, t2, x.trans y⟩
theorem RqE.clear (a : RqE w r d g gi rr h ev av tv t most v same L1 v1 q inner w1) (hv : v1 ≤ 1000) :
    Calls Tryz.prog 32 #[.pointer (some ⟨d, 0, none⟩)] w1 fun e w' => e = .returned (.tuple #[]) ∧ RqE w r d g gi rr h ev av tv t most v same [] (v1 + 1) q inner w' := by
  obtain ⟨gi1, rr1, h1, ev1, av1, t1, x⟩ := a
  obtain ⟨b1, b2, b3⟩ := x.rq.bd
  refine (pclear_any (M := noM) (a := 0) (b := 0) x.rq.dc mtOk_nil trivial (by omega) (by omega) (by omega) (by omega)).mono fun e w' ⟨g1, gi2, rr2, h2, ev2, cd⟩ => ⟨g1, gi2, rr2, h2, ev2, av1, t1.clear, x.trans ?_⟩
  have hnx : ¬ rqX r d g gi1 rr1 h1 ev1 av1 w1.heap.size := fun y => Nat.lt_irrefl _ (x.rq.lt _ y)
  obtain ⟨p1, p2, p3⟩ := RqR.cm (w' := w') (x := w1.heap.size) (sv := .pointer none) x.rq ⟨cd.dc, cd.m, cd.fx, cd.ex.mono fun _ _ y => y.elim .inl (fun z => .inr (.inl z))⟩ hnx (fun k hk => (noneB hk).elim) ⟨by show t1.births ≤ _; omega, by show t1.turn + 1 ≤ _; omega, by show t1.made + 1 ≤ _; omega⟩
  exact ⟨p1, pqs_clear _, fun e => by omega, by omega, p2, p3.mono fun k hl y => by
    rcases y with y | y | y
    · exact y
    · omega
    · exact (noneB y).elim⟩
end
set_option maxRecDepth 100000 in
set_option maxHeartbeats 8000000 in
theorem ract_any {B : Nat} {w : World} {r d g gi rr h : Nat} {ev av tv : Value} {t : Tb} {most v : Nat} {q : List Int} {same : Int} {A : List Ac} (p : Rq w r d g gi rr h ev av tv t most v q same false) (hA : ArB B w tv A) (hB : ∀ k, rqX r d g gi rr h ev av k → B ≤ k) (hBw : B ≤ w.heap.size) (hv : v ≤ 900) (hq : q.length ≤ 1000000) (hAl : A.length ≤ 80) :
    Calls Tryz.prog 18 #[.pointer (some ⟨r, 0, none⟩)] w fun e w' => e = .returned (.tuple #[]) ∧ RqE w r d g gi rr h ev av tv t most v same (actsQ most same ((q.length : Int) - 1) A (pqs t.es, v)).1 (actsQ most same ((q.length : Int) - 1) A (pqs t.es, v)).2 q false w' := by
  obtain ⟨aa, capa, ga, hav, hcapa, _⟩ := p.ask.open
  subst hav
  have x3 : w.cell? ⟨r, 1, none⟩ = some (.slice aa q.length capa) := p.hd.c 1 (by omega)
  have hRF := RqE.refl p
  have lv0 : (pqs t.es).length ≤ v := by
    have h1 := p.dc.ok.few
    have h2 := t.live_le
    have h3 := live_pqs t
    have h4 := p.bd.1
    omega
  generalize hL0 : pqs t.es = L at *
  clear hL0
  have HM := Lib.hid hRF
  have e1 : IntKind.i64.wrap ((q.length : Int) - 1) = (q.length : Int) - 1 := i64_small (by omega) (by omega)
  obtain ⟨at0, capt, htv, hcapt, bA, offA, hab, hcl⟩ := hA
  subst htv
  have HA : Hid (∀ V L' v' i', RqE w r d g gi rr h ev (.slice aa q.length capa) (.slice at0 A.length capt) t most v same L' v' q i' V → ∀ k, k < A.length → at0 = some ⟨bA, offA, none⟩ ∧ V.cell? ⟨bA, offA + k * 5, none⟩ = some (.int .i64 (A.getD k default).ask) ∧ V.cell? ⟨bA, offA + k * 5 + 1, none⟩ = some (.int .i64 (A.getD k default).kind) ∧ V.cell? ⟨bA, offA + k * 5 + 2, none⟩ = some (.int .i64 (A.getD k default).hash) ∧ V.cell? ⟨bA, offA + k * 5 + 3, none⟩ = some (.int .i64 (A.getD k default).key) ∧ V.cell? ⟨bA, offA + k * 5 + 4, none⟩ = some (.int .i64 (A.getD k default).value)) := fun V L' v' i' hR k hk => by
    have r3 := hR.ex
    have hbA := (hab (by omega)).2
    have hb := r3.block bA (by omega) (fun y => by have := hB bA y; omega)
    obtain ⟨g0, g1, g2, g3, g4⟩ := hcl k hk
    exact ⟨(hab (by omega)).1, (World.cell?_of_block (a := ⟨bA, offA + k * 5, none⟩) hb).trans g0, (World.cell?_of_block (a := ⟨bA, offA + k * 5 + 1, none⟩) hb).trans g1, (World.cell?_of_block (a := ⟨bA, offA + k * 5 + 2, none⟩) hb).trans g2, (World.cell?_of_block (a := ⟨bA, offA + k * 5 + 3, none⟩) hb).trans g3, (World.cell?_of_block (a := ⟨bA, offA + k * 5 + 4, none⟩) hb).trans g4⟩
  clear p hRF hB hcl hab
  generalize hnn : ((q.length : Int) - 1) = nn at *
  go_enter Tryz.func18, Tryz.ntmps18
  go_wp2_with fail
  go_loopw [3] (fun iv wr => ∃ k : Nat, k ≤ A.length ∧ iv = .int .i64 (k : Int) ∧ RqE w r d g gi rr h ev (.slice aa q.length capa) (.slice at0 A.length capt) t most v same (actsQ most same nn (A.take k) (L, v)).1 (actsQ most same nn (A.take k) (L, v)).2 q false wr) (fun iv _ => A.length - (intOf iv).toNat)
  case atStart => exact ⟨0, Nat.zero_le _, rfl, HM.out⟩
  case round =>
    obtain ⟨k, hk, rfl, hR⟩ := hrel
    obtain ⟨x4, x6, x6z, x0, lmw, _⟩ := hR.cells
    by_cases hlt : k < A.length
    · have t1 : (k : Int) < (A.length : Int) := by omega
      have e5 : IntKind.i64.wrap ((k : Int) + 1) = ((k + 1 : Nat) : Int) := by rw [i64_small (by omega) (by omega)]; omega
      obtain ⟨hat, c0, c1, c2, c3, c4⟩ := HA.out wr _ _ _ hR k hlt
      have hat' := hat
      subst hat'
      have hF := actsQ_few most same nn (A.take k) (L, v)
      have hTK := actsQ_take (most := most) (same := same) (n := nn) hlt (L, v)
      have hAk : (A.take k).length ≤ 80 := by rw [List.length_take]; omega
      generalize actsQ most same nn (A.take k) (L, v) = st at *
      obtain ⟨L1, v1⟩ := st
      generalize hac : A.getD k default = ac at *
      obtain ⟨ask, kind, hash, key, value⟩ := ac
      simp only at c0 c1 c2 c3 c4 hF hTK hR
      obtain ⟨W0, hW0⟩ : ∃ V, wr.alloc (.cells #[.int .i64 ask, .int .i64 kind, .int .i64 hash, .int .i64 key, .int .i64 value] 84) = V := ⟨_, rfl⟩
      have hb0 : Below wr.heap.size wr W0 := by rw [← hW0]; exact (Below.refl _ wr).alloc (Nat.le_refl _) _
      have hT0 : Blk W0 wr.heap.size 5 (fun j => #[Value.int .i64 ask, .int .i64 kind, .int .i64 hash, .int .i64 key, .int .i64 value].getD j .nilFunc) := by rw [← hW0]; exact Blk.new wr _ _
      have hR0 := hR.below hb0
      have HR0 := Lib.hid hR0
      have HTK := Lib.hid hTK
      have HW0 := Lib.hid hW0
      have y0 : W0.cell? ⟨wr.heap.size, 0, none⟩ = some (.int .i64 ask) := hT0.c 0 (by omega)
      have nmT : wr.heap.size ≠ r := by omega
      obtain ⟨u2, u4, u4z, u0, _, _⟩ := hR0.cells
      have HT0 := Lib.hid hT0
      clear hR hR0 hTK hat hW0 hb0 hT0
      by_cases hask : ask = nn
      · have hne : (ask != nn) = false := by simp [hask]
        rw [if_pos hask] at HTK
        clear hask
        obtain ⟨W1, hW1⟩ : ∃ V, W0.setCell ⟨r, 4, none⟩ (.bool true) = V := ⟨_, rfl⟩
        have hR1 : RqE w r d g gi rr h ev (.slice aa q.length capa) (.slice (some ⟨bA, offA, none⟩) A.length capt) t most v same L1 v1 q true W1 := by rw [← hW1]; exact HR0.out.setI true
        have hT1 : Blk W1 wr.heap.size 5 (fun j => #[Value.int .i64 ask, .int .i64 kind, .int .i64 hash, .int .i64 key, .int .i64 value].getD j .nilFunc) := by rw [← hW1]; exact HT0.out.same (Below.heap_setCell W0 ⟨r, 4, none⟩ _ _ nmT)
        have p1 : W1.cell? ⟨wr.heap.size, 1, none⟩ = some (.int .i64 kind) := hT1.c 1 (by omega)
        have p2 : W1.cell? ⟨wr.heap.size, 2, none⟩ = some (.int .i64 hash) := hT1.c 2 (by omega)
        have p3 : W1.cell? ⟨wr.heap.size, 3, none⟩ = some (.int .i64 key) := hT1.c 3 (by omega)
        have p4 : W1.cell? ⟨wr.heap.size, 4, none⟩ = some (.int .i64 value) := hT1.c 4 (by omega)
        obtain ⟨n2, n4, n4z, n0, _, _⟩ := hR1.cells
        have HR1 := Lib.hid hR1
        have HW1 := Lib.hid hW1
        clear hR1 hT1 hW1
        go_upto_region 5 with fail
        rw [HW0.out]
        go_upto_region 7 with fail
        rw [HW1.out]
        by_cases hk1 : kind = 1
        · subst hk1
          have CP : Calls Tryz.prog 7 #[.pointer (some ⟨r, 0, none⟩), .agg #[.int .i64 2, .int .i64 hash, .int .i64 key, .int .i64 value]] W1 fun e w' => ∃ u, e = .returned (.tuple #[tuV u, .bool true]) ∧ RqE w r d g gi rr h ev (.slice aa q.length capa) (.slice (some ⟨bA, offA, none⟩) A.length capt) t most v same (callQ most same ⟨2, hash, key, value⟩ (L1, v1)).2.1 (callQ most same ⟨2, hash, key, value⟩ (L1, v1)).2.2 q true w' := HR1.out.callI (by omega) ⟨2, hash, key, value⟩ ⟨(by decide : 1 ≤ 2), (by decide : 2 ≤ 4)⟩
          go_wp2_with fail
          refine CP.mono ?_
          rintro e W2 ⟨u, rfl, hR2⟩
          obtain ⟨_, m4, m4z, _, _, _⟩ := hR2.cells
          have HR3 := Lib.hid (hR2.setI false)
          clear CP hR2
          go_wp2_with fail
          go_roundw
          case rel => exact ⟨k + 1, by omega, by first | rfl | go_num, by rw [HTK.out]; exact HR3.out⟩
          case measure => simp [intOf]; omega
        · have hf1 : (kind == 1) = false := by rw [beq_eq_false_iff_ne]; exact hk1
          by_cases hk2 : kind = 2
          · subst hk2
            have CP : Calls Tryz.prog 7 #[.pointer (some ⟨r, 0, none⟩), .agg #[.int .i64 3, .int .i64 hash, .int .i64 key, .int .i64 0]] W1 fun e w' => ∃ u, e = .returned (.tuple #[tuV u, .bool true]) ∧ RqE w r d g gi rr h ev (.slice aa q.length capa) (.slice (some ⟨bA, offA, none⟩) A.length capt) t most v same (callQ most same ⟨3, hash, key, 0⟩ (L1, v1)).2.1 (callQ most same ⟨3, hash, key, 0⟩ (L1, v1)).2.2 q true w' := HR1.out.callI (by omega) ⟨3, hash, key, 0⟩ ⟨(by decide : 1 ≤ 3), (by decide : 3 ≤ 4)⟩
            go_wp2_with fail
            refine CP.mono ?_
            rintro e W2 ⟨u, rfl, hR2⟩
            obtain ⟨_, m4, m4z, _, _, _⟩ := hR2.cells
            have HR3 := Lib.hid (hR2.setI false)
            clear CP hR2
            go_wp2_with fail
            go_roundw
            case rel => exact ⟨k + 1, by omega, by first | rfl | go_num, by rw [HTK.out]; exact HR3.out⟩
            case measure => simp [intOf]; omega
          · have hf2 : (kind == 2) = false := by rw [beq_eq_false_iff_ne]; exact hk2
            by_cases hk3 : kind = 3
            · subst hk3
              have CP := HR1.out.clear (by omega)
              go_wp2_with fail
              refine CP.mono ?_
              rintro e W2 ⟨rfl, hR2⟩
              obtain ⟨_, m4, m4z, _, _, _⟩ := hR2.cells
              have HR3 := Lib.hid (hR2.setI false)
              clear CP hR2
              go_wp2_with fail
              go_roundw
              case rel => exact ⟨k + 1, by omega, by first | rfl | go_num, by rw [HTK.out]; exact HR3.out⟩
              case measure => simp [intOf]; omega
            · have hf3 : (kind == 3) = false := by rw [beq_eq_false_iff_ne]; exact hk3
              have HR3 := Lib.hid (HR1.out.setI false)
              have hAQ : actQ most same ⟨ask, kind, hash, key, value⟩ (L1, v1) = (L1, v1) := by
                unfold actQ
                simp only
                rw [if_neg hk1, if_neg hk2, if_neg hk3]
              have HAQ := Lib.hid hAQ
              clear hAQ
              go_wp2_with fail
              go_roundw
              case rel => exact ⟨k + 1, by omega, by first | rfl | go_num, by rw [HTK.out, HAQ.out]; exact HR3.out⟩
              case measure => simp [intOf]; omega
      · have hne : (ask != nn) = true := by simp [hask]
        rw [if_neg hask] at HTK
        go_upto_region 5 with fail
        rw [HW0.out]
        go_wp2_with fail
        go_roundw
        case rel => exact ⟨k + 1, by omega, by first | rfl | go_num, by rw [HTK.out]; exact HR0.out⟩
        case measure => simp [intOf]; omega
    · have t1 : ¬ (k : Int) < (A.length : Int) := by omega
      obtain rfl : k = A.length := by omega
      rw [List.take_length] at hR
      have HR := Lib.hid hR
      clear hR
      go_wp2_with fail
      go_end0
      exact ⟨rfl, HR.out⟩
end Go.Proofs.YtbpflmdefpjcaaaGreat
namespace Go.Proofs.YtbpflmdefpjcaaaGreat
open Go.RowKit Go.WideShapes

theorem Tryz.infoI8 : (Tryz.prog.info? 3).map (fun i => (i.zero, i.size, i.bytes)) = some (some (.int .i64 0), 1, 8) := by kernel_rfl
theorem new_int (w : World) (x : Int) (t : TypeId) : ∀ j u, [Value.int .i64 x][j]? = some u → (w.alloc (.cells #[.int .i64 x] t)).cell? (Addr.add ⟨w.heap.size, 0, none⟩ j) = some u := by
  intro j u hj
  rw [WideShapes.add_plain, World.cell?_alloc_at _ _ _ _ rfl]
  simpa using hj
/-- One more was asked. -/
theorem ask_push {w W : World} {m : Nat} {lv av tv : Value} {L : List Pq} {most v : Nat} {q : List Int} {same : Int} {inner : Bool} (h : MqR w m lv av tv L most v q same inner W) (x : Int) :
    ∃ a cap, W.cell? ⟨m, 3, none⟩ = some (.slice a q.length cap) ∧ W.ownsRow 0 3 1 (.slice a q.length cap) q.length (q.map fun x : Int => Value.int .i64 x) ∧ ∀ (o : Obj) v' w3, w3.ownsRow 0 3 1 v' (q.length + 1) ((q.map fun x : Int => Value.int .i64 x) ++ [.int .i64 x]) → (W.alloc o).grownBy w3 (Value.slice a q.length cap).ownBlock → (v'.ownBlock = (Value.slice a q.length cap).ownBlock ∨ v'.ownBlock = some (W.alloc o).heap.size) →
      (w3.cell? ⟨m, 3, none⟩ = some (.slice a q.length cap) ∧ w3.frozen? ⟨m, 3, none⟩ = false) ∧ ∀ w4, w3.setCell ⟨m, 3, none⟩ v' = w4 → MqR w m lv av tv L most v (q ++ [x]) same inner w4 := by
  obtain ⟨lv1, av1, h1, h2, h3⟩ := h
  obtain ⟨a, cap, g, hav, hcap, _⟩ := h1.ask.open
  subst hav
  refine ⟨a, cap, h1.hd.c 3 (by omega), h1.ask, fun o v' w3 g1 g2 g3 => ?_⟩
  have hba : Below W.heap.size W (W.alloc o) := (Below.refl _ W).alloc (Nat.le_refl _) _
  have lm := h1.hd.lt (by omega)
  have g5 : ∀ k, k < W.heap.size → (Value.slice a q.length cap).ownBlock ≠ some k → w3.heap[k]? = W.heap[k]? := fun k hk hne => (g2.block k (Nat.lt_of_lt_of_le hk hba.size) (fun e => hne e.symm)).trans (hba.block k hk)
  have gs : W.heap.size ≤ w3.heap.size := Nat.le_trans hba.size g2.size
  have nX : (Value.slice a q.length cap).ownBlock ≠ some m := fun e => h1.na m e rfl
  have hX3 := h1.hd.same (g5 m lm nX)
  refine ⟨⟨hX3.c 3 (by omega), hX3.z 3⟩, fun w4 hw4 => ?_⟩
  have o6 : ∀ k, k ≠ m → w4.heap[k]? = w3.heap[k]? := fun k hk => by rw [← hw4]; exact Below.heap_setCell w3 ⟨m, 3, none⟩ _ k hk
  have hx4 : Ex (fun k => k = m) w3 w4 := by rw [← hw4]; exact (Ex.refl (fun k => k = m) w3).setCell (p := ⟨m, 3, none⟩) (fun _ => rfl) _
  have hv' : ∀ k, v'.ownBlock = some k → ((Value.slice a q.length cap).ownBlock = some k ∨ W.heap.size ≤ k) ∧ k < w3.heap.size := fun k hk => ⟨by
    rcases g3 with e | e
    · exact .inl (e ▸ hk)
    · rw [e] at hk
      injection hk with hk
      have := hba.size
      exact .inr (by omega), (World.ownsRow.lt g1 k hk).2⟩
  have nv : ∀ k, v'.ownBlock = some k → k ≠ m := fun k hk e => by
    rcases (hv' k hk).1 with y | y
    · exact nX (e ▸ y)
    · omega
  have hask : IntsR 0 w4 v' (q ++ [x]) := IntsR.same8 (w := w3) (intsR_snoc g1) (fun k hk => o6 k (nv k hk))
  have hp := hX3.put 3 v'
  rw [hw4] at hp
  have hrow : PqR 0 w4 lv1 L := h1.row.same fun k hk => (o6 k (h1.nl k hk).1).trans (g5 k (h1.row.lt k hk).2 (h1.nl k hk).2)
  refine MqR.trans h2 h3 ⟨lv1, v', ⟨hp.congr fun j hj => ?_, hrow, hask, fun k hk => ⟨(h1.nl k hk).1, fun e => ?_⟩, nv⟩, fun k hk => ?_, ?_⟩
  · have : j = 0 ∨ j = 1 ∨ j = 2 ∨ j = 3 ∨ j = 4 ∨ j = 5 ∨ j = 6 := by omega
    rcases this with rfl | rfl | rfl | rfl | rfl | rfl | rfl <;> rfl
  · rcases (hv' k e).1 with y | y
    · exact (h1.nl k hk).2 y
    · have := (h1.row.lt k hk).2; omega
  · rcases hk with y | y | y
    · exact .inl (.inl y)
    · exact .inl (.inr (.inl y))
    · exact (hv' k y).1.elim (fun z => .inl (.inr (.inr z))) .inr
  · have hx3 : Ex (fun k => (Value.slice a q.length cap).ownBlock = some k) W w3 := ⟨g2.os.trans hba.os, g2.tape.trans hba.tape, g2.output.trans hba.output, gs, fun k hk hne => g5 k hk hne⟩
    exact (hx3.mono (fun _ _ e => .inr (.inr e))).next hx4 (fun _ _ e => .inl e)
/-- An act at W of what stands there behind w. -/
theorem MqR.act {B : Nat} {w W : World} {m : Nat} {lv av tv : Value} {L : List Pq} {most v : Nat} {q : List Int} {same : Int} {A : List Ac} (h : MqR w m lv av tv L most v q same false W) (hA : ArB B w tv A) (hB : ∀ k, mqX m lv av k → B ≤ k) (hBw : B ≤ w.heap.size) (hv : v ≤ 800000) (hl : L.length ≤ 80000) (hq : q.length ≤ 100000) (hAl : A.length ≤ 1000) :
    Calls Tryz.prog 27 #[.pointer (some ⟨m, 0, none⟩)] W fun e w' => e = .returned (.tuple #[]) ∧ MqR w m lv av tv (actsQ most same ((q.length : Int) - 1) A (L, v)).1 most (actsQ most same ((q.length : Int) - 1) A (L, v)).2 q same false w' := by
  obtain ⟨lv1, av1, h1, h2, h3⟩ := h
  exact (mact_any h1 (hA.keep fun k hk => h3.block k (by omega) (fun y => by have := hB k y; omega)) (fun k hk => (h2 k hk).elim (hB k) (fun y => Nat.le_trans hBw y)) (Nat.le_trans hBw h3.size) hv hl hq hAl).mono fun _ _ ⟨g1, g2⟩ => ⟨g1, MqR.trans h2 h3 g2⟩
theorem MqR.pairs {w W : World} {m : Nat} {lv av tv : Value} {L : List Pq} {most v : Nat} {q : List Int} {same : Int} {inner : Bool} (h : MqR w m lv av tv L most v q same inner W) : ∃ a cap g, W.cell? ⟨m, 0, none⟩ = some (.slice a L.length cap) ∧ W.cell? ⟨m, 5, none⟩ = some (.int .i64 same) ∧ L.length ≤ cap ∧ ∀ j, j < L.length → a = some ⟨g, 0, none⟩ ∧ W.cell? ⟨g, j * 3, none⟩ = some (.int .i64 (L.getD j default).hash) ∧ W.cell? ⟨g, j * 3 + 1, none⟩ = some (.int .i64 (L.getD j default).key) := by
  obtain ⟨lv1, av1, h1, _, _⟩ := h
  obtain ⟨a, cap, hlv, hcap, g, ha, hc⟩ := h1.row.open
  exact ⟨a, cap, g, by rw [← hlv]; exact h1.hd.c 0 (by omega), h1.hd.c 5 (by omega), hcap, fun j hj => ⟨ha (by omega), (hc j hj).1, (hc j hj).2.1⟩⟩
/-- What the model's find leaves. -/
def FoQ (most : Nat) (same : Int) (A : List Ac) (c : Cq) (w : World) (m : Nat) (lv av tv : Value) (L : List Pq) (v : Nat) (q : List Int) (e : Ending) (w' : World) : Prop :=
  (∃ a L' v' q' k, FdQ most same A c L v q 0 0 a L' v' q' k ∧ e = .returned (.tuple #[.int .i64 (atQ L' a), .bool true]) ∧ MqR w m lv av tv L' most v' q' same false w') ∨ (e = .returned (.tuple #[.int .i64 (-1), .bool false]) ∧ Ex (mqX m lv av) w w')
theorem foQ_yes {most : Nat} {same : Int} {A : List Ac} {c : Cq} {w : World} {m : Nat} {lv av tv : Value} {L : List Pq} {v : Nat} {q : List Int} {w' : World} {a : Nat} {L' : List Pq} {v' : Nat} {q' : List Int} {k : Nat} {x : Int} (h1 : FdQ most same A c L v q 0 0 a L' v' q' k) (h2 : atQ L' a = x) (h3 : MqR w m lv av tv L' most v' q' same false w') : FoQ most same A c w m lv av tv L v q (.returned (.tuple #[.int .i64 x, .bool true])) w' := .inl ⟨a, L', v', q', k, h1, by rw [h2], h3⟩
theorem foQ_no {most : Nat} {same : Int} {A : List Ac} {c : Cq} {w : World} {m : Nat} {lv av tv : Value} {L : List Pq} {v : Nat} {q : List Int} {w' : World} (h : Ex (mqX m lv av) w w') : FoQ most same A c w m lv av tv L v q (.returned (.tuple #[.int .i64 (-1), .bool false])) w' := .inr ⟨rfl, h⟩
/-- Where a scan under way stands. -/
structure Sc8 (most : Nat) (same : Int) (A : List Ac) (c : Cq) (L0 : List Pq) (v0 : Nat) (q0 : List Int) (M : Nat) (L : List Pq) (v : Nat) (q : List Int) (i sc d : Nat) : Prop where
  pre : ∀ a L' v' q' k, FdQ most same A c L v q i sc a L' v' q' k → FdQ most same A c L0 v0 q0 0 0 a L' v' q' (k + d)
theorem Sc8.bd {most : Nat} {same : Int} {A : List Ac} {L : List Pq} {v M Mv : Nat} {q : List Int} {L1 : List Pq} {v1 : Nat} (hJ : L.length + potQ (q.length : Int) A ≤ M ∧ v + potQ (q.length : Int) A ≤ Mv) (he : actsQ most same (q.length : Int) A (L, v) = (L1, v1)) (x : Int) : L1.length + potQ ((q ++ [x]).length : Int) A ≤ M ∧ v1 + potQ ((q ++ [x]).length : Int) A ≤ Mv := by
  have h := actsQ_step most same (q.length : Int) A (L, v)
  rw [he] at h
  have e : ((q ++ [x]).length : Int) = (q.length : Int) + 1 := by simp
  rw [e]
  have h1 := h.2.1
  have h2 := h.2.2.1
  simp only at h1 h2
  omega
end Go.Proofs.YtbpflmdefpjcaaaGreat
namespace Go.Proofs.YtbpflmdefpjcaaaGreat
open Go.RowKit Go.WideShapes

theorem rask_push {W : World} {r d g gi rr h : Nat} {ev av tv : Value} {t : Tb} {most v : Nat} {q : List Int} {same : Int} {inner : Bool} (p : Rq W r d g gi rr h ev av tv t most v q same inner) (x : Int) :
    ∃ a cap, av = .slice a q.length cap ∧ W.cell? ⟨r, 1, none⟩ = some (.slice a q.length cap) ∧ W.ownsRow 0 3 1 (.slice a q.length cap) q.length (q.map fun x : Int => Value.int .i64 x) ∧ ∀ (o : Obj) v' w3, w3.ownsRow 0 3 1 v' (q.length + 1) ((q.map fun x : Int => Value.int .i64 x) ++ [.int .i64 x]) → (W.alloc o).grownBy w3 (Value.slice a q.length cap).ownBlock → (v'.ownBlock = (Value.slice a q.length cap).ownBlock ∨ v'.ownBlock = some (W.alloc o).heap.size) →
      (w3.cell? ⟨r, 1, none⟩ = some (.slice a q.length cap) ∧ w3.frozen? ⟨r, 1, none⟩ = false) ∧ (∀ k, k < W.heap.size → ¬ rqX r d g gi rr h ev av k → w3.heap[k]? = W.heap[k]? ∧ (w3.setCell ⟨r, 1, none⟩ v').heap[k]? = W.heap[k]?) ∧ ∀ w4, w3.setCell ⟨r, 1, none⟩ v' = w4 → RqR W r d g gi rr h ev av tv t most v same (pqs t.es) v (q ++ [x]) inner w4 gi rr h ev v' t := by
  obtain ⟨a, cap, gA, hav, hcap, _⟩ := p.ask.open
  subst hav
  refine ⟨a, cap, rfl, p.hd.c 1 (by omega), p.ask, fun o v' w3 g1 g2 g3 => ?_⟩
  have hba : Below W.heap.size W (W.alloc o) := (Below.refl _ W).alloc (Nat.le_refl _) _
  have lr := p.hd.lt (by omega)
  have g5 : ∀ k, k < W.heap.size → (Value.slice a q.length cap).ownBlock ≠ some k → w3.heap[k]? = W.heap[k]? := fun k hk hne => (g2.block k (Nat.lt_of_lt_of_le hk hba.size) (fun e => hne e.symm)).trans (hba.block k hk)
  have gs : W.heap.size ≤ w3.heap.size := Nat.le_trans hba.size g2.size
  have nX : (Value.slice a q.length cap).ownBlock ≠ some r := fun e => (p.na r e).1 rfl
  have hX3 := p.hd.same (g5 r lr nX)
  have o6 : ∀ k, k ≠ r → (w3.setCell ⟨r, 1, none⟩ v').heap[k]? = w3.heap[k]? := fun k hk => Below.heap_setCell w3 ⟨r, 1, none⟩ _ k hk
  have hv' : ∀ k, v'.ownBlock = some k → ((Value.slice a q.length cap).ownBlock = some k ∨ W.heap.size ≤ k) ∧ k < w3.heap.size := fun k hk => ⟨by
    rcases g3 with e | e
    · exact .inl (e ▸ hk)
    · rw [e] at hk
      injection hk with hk
      have := hba.size
      exact .inr (by omega), (World.ownsRow.lt g1 k hk).2⟩
  have nv : ∀ k, v'.ownBlock = some k → k ≠ r := fun k hk e => by
    rcases (hv' k hk).1 with y | y
    · exact nX (e ▸ y)
    · omega
  refine ⟨⟨hX3.c 1 (by omega), hX3.z 1⟩, fun k hk hn => ?_, fun w4 hw4 => ?_⟩
  · have e := g5 k hk (fun e => hn (.inr (.inl e)))
    exact ⟨e, (o6 k (fun e => hn (.inl e))).trans e⟩
  · have o7 : ∀ k, k ≠ r → w4.heap[k]? = w3.heap[k]? := fun k hk => by rw [← hw4]; exact o6 k hk
    have hx4 : Ex (fun k => k = r) w3 w4 := by rw [← hw4]; exact (Ex.refl (fun k => k = r) w3).setCell (p := ⟨r, 1, none⟩) (fun _ => rfl) _
    have hask : IntsR 0 w4 v' (q ++ [x]) := IntsR.same8 (w := w3) (intsR_snoc g1) (fun k hk => o7 k (nv k hk))
    have hp := hX3.put 1 v'
    rw [hw4] at hp
    have nc : ∀ k, v'.ownBlock = some k → ¬ cX d g gi rr h ev k := fun k hk e => by
      rcases (hv' k hk).1 with y | y
      · exact (p.na k y).2 e
      · have := p.dc.lt k e; omega
    have hdc := p.dc.same (w' := w4) fun k hk => (o7 k (fun e => p.nr (e ▸ hk))).trans (g5 k (p.dc.lt k hk) (fun e => (p.na k e).2 hk))
    refine ⟨⟨hp.congr fun j hj => ?_, hask, hdc, fun k hk => ⟨nv k hk, nc k hk⟩, p.nr, p.bd⟩, rfl, fun _ => rfl, Nat.le_refl _, fun k hk => ?_, ?_⟩
    · have : j = 0 ∨ j = 1 ∨ j = 2 ∨ j = 3 ∨ j = 4 ∨ j = 5 := by omega
      rcases this with rfl | rfl | rfl | rfl | rfl | rfl <;> rfl
    · rcases hk with y | y | y
      · exact .inl (.inl y)
      · exact (hv' k y).1.elim (fun z => .inl (.inr (.inl z))) .inr
      · exact .inl (.inr (.inr y))
    · have hx3 : Ex (fun k => (Value.slice a q.length cap).ownBlock = some k) W w3 := ⟨g2.os.trans hba.os, g2.tape.trans hba.tape, g2.output.trans hba.output, gs, fun k hk hne => g5 k hk hne⟩
      exact (hx3.mono (fun _ _ e => .inr (.inl e))).next hx4 (fun _ _ e => .inl e)
/-- An act at W of what stands there behind w. -/
theorem RqR.act {B : Nat} {w W : World} {r d g gi rr h gi1 rr1 h1 : Nat} {ev av ev1 av1 tv : Value} {t t1 : Tb} {most v v1 : Nat} {q : List Int} {same : Int} {A : List Ac} {L1 : List Pq} (a : RqR w r d g gi rr h ev av tv t most v same L1 v1 q false W gi1 rr1 h1 ev1 av1 t1) (hA : ArB B w tv A) (hB : ∀ k, rqX r d g gi rr h ev av k → B ≤ k) (hBw : B ≤ w.heap.size) (hv : v1 ≤ 900) (hq : q.length ≤ 1000000) (hAl : A.length ≤ 80) {n : Int} (hn : (q.length : Int) - 1 = n) :
    Calls Tryz.prog 18 #[.pointer (some ⟨r, 0, none⟩)] W fun e w' => e = .returned (.tuple #[]) ∧ ∃ gi2 rr2 h2 ev2 av2 t2, RqR W r d g gi1 rr1 h1 ev1 av1 tv t1 most v1 same (actsQ most same n A (L1, v1)).1 (actsQ most same n A (L1, v1)).2 q false w' gi2 rr2 h2 ev2 av2 t2 := by
  have hpq := a.pq
  subst hpq hn
  exact ract_any a.rq (hA.keep fun k hk => a.ex.block k (by omega) (fun y => by have := hB k y; omega)) (fun k hk => (a.fx k hk).elim (hB k) (fun y => Nat.le_trans hBw y)) (Nat.le_trans hBw a.ex.size) hv hq hAl
end Go.Proofs.YtbpflmdefpjcaaaGreat
