/-
  SlotsPlay: its walk.
-/
import Derived.Test.YtmeljhnmpopkhaaSlDoes2
import Derived.Test.YtmeljhnmpopkhaaSlAll
import Derived.Test.YtmeljhnmpopkhaaSlNot
namespace Go.Proofs.Ytmeljhnmpopkhaa
open Go.RowKit Go.WideShapes

section
variable {P : Program} {ops : Array Oper} {Q : Exit → Act → World → Prop} {md : Region.Mode} {S S2 : World → Prop}
/-- Behind a call the walk may hold another condition, that says more. -/
theorem wpAnyS_weak (h12 : ∀ w, S2 w → S w) : ∀ {fuel : Nat} {listed : Array Bool} {a : Act} {w : World}, wpAnyH P md ops Q S2 fuel listed a w → wpAnyH P md ops Q S fuel listed a w
  | 0, _, _, _, h => h
  | _ + 1, _, _, _, h => ⟨h.1, fun i hi => wpOp_mono (fun _ _ h' => ⟨h12 _ h'.1, wpAnyS_weak h12 h'.2⟩) (h.2 i hi)⟩
/-- Take number i first, its slot written out. -/
theorem takeS_at {i : Nat} {oi : Oper} {v : Value} {d : Option Nat} {fuel : Nat} {listed : Array Bool} {a : Act} {w : World} (hi : ops[i]? = some oi) (hd : oi.dst = d)
    (hs : Region.noSelect ops = true) (hf : Region.free md ops listed i = true) (hr : (Region.ready md ops listed).contains i = true)
    (hQ : ∀ c a w, Q (.panic c) (a.put d v) w → Q (.panic c) a w) (hy : YieldsIf P ops S oi v a) (hS : S w)
    (h : wpAnyH P md ops Q S fuel (listed.setIfInBounds i true) (a.put d v) w) : wpAnyH P md ops Q S (fuel + 1) listed a w := by
  subst hd
  exact wpAnyH_take hi hs hf hr hQ hy hS h
end
/-- Slots and the reference's in new memory. -/
structure BoI (w wr : World) (g q : Nat) (ss : List So) (X Y Z : Nat → Prop) : Prop where
  bo : Bo wr g q ss X Y Z
  gx : ∀ k, X k → w.heap.size ≤ k
  gy : ∀ k, Y k → w.heap.size ≤ k
  gz : ∀ k, Z k → w.heap.size ≤ k
  be : Below w.heap.size w wr
theorem BoI.step {w wr w1 : World} {g q : Nat} {ss ss' : List So} {X Y Z : Nat → Prop} (h : BoI w wr g q ss X Y Z) (d : Dd wr w1 g q ss' X Y Z) : ∃ X' Y' Z', BoI w w1 g q ss' X' Y' Z' := by
  obtain ⟨X', Y', Z', hB, h1, h2, h3, ex⟩ := d
  have hs := h.be.size
  refine ⟨X', Y', Z', hB, fun k hk => ?_, fun k hk => ?_, fun k hk => ?_, h.be.trans (ex.below (fun k hk => ?_) hs)⟩
  · rcases h1 k hk with e | e
    · exact h.gx k e
    · omega
  · rcases h2 k hk with e | e
    · exact h.gy k e
    · omega
  · rcases h3 k hk with e | e
    · exact h.gz k e
    · omega
  · rcases hk with e | e
    · exact h.gx k e
    · exact h.gy k e
theorem BoI.keep {w wr w1 : World} {g q : Nat} {ss : List So} {X Y Z : Nat → Prop} (h : BoI w wr g q ss X Y Z) (b : Below wr.heap.size wr w1) : BoI w w1 g q ss X Y Z := ⟨h.bo.keep b, h.gx, h.gy, h.gz, h.be.trans (b.mono h.be.size)⟩
theorem below_drewN (w : World) (m : Nat) : Below w.heap.size w (w.drewN m) := by
  induction m with
  | zero => exact Below.refl _ _
  | succ m ih => exact ih.drew
theorem sl_new (w : World) (t : TypeId) : SlV (w.alloc (.cells #[.slice none 0 0, .slice none 0 0] t)) w.heap.size [] (fun k => k = w.heap.size) := by
  refine ⟨.slice none 0 0, .slice none 0 0, 0, fun _ => 0, ⟨?_, ?_, fun j => World.frozen?_alloc_at _ _ _ _ rfl, ⟨rfl, Or.inl ⟨rfl, rfl⟩⟩, ⟨rfl, Or.inl ⟨rfl, rfl⟩⟩, Ho.nil _, by simp [Value.ownBlock], by simp [Value.ownBlock], by simp [Value.ownBlock], by simp⟩, fun k hk => ?_, fun k hk => ?_⟩
  · rw [World.cell?_alloc_at _ _ _ _ rfl]; rfl
  · rw [World.cell?_alloc_at _ _ _ _ rfl]; rfl
  · rcases hk with e | e | e
    · exact e
    · cases e
    · cases e
  · subst hk
    simp
/-- Slots and the reference's, both new. -/
theorem boi_new {w w1 : World} {g : Nat} (hs : SlV w1 g [] (fun k => k = g)) (hb : Below w.heap.size w w1) (hg : w.heap.size ≤ g) (t : TypeId) : BoI w (w1.alloc (.cells #[.slice none 0 0, .slice none 0 0] t)) g w1.heap.size [] (fun k => k = g) (fun k => k = w1.heap.size) (fun _ => False) := by
  have hlt := hs.lt g rfl
  have hsz := hb.size
  refine ⟨⟨hs.keep (Y := fun _ => False) ((Ex.refl _ w1).alloc _) (fun _ _ h => h), rq_new w1 t, fun k hk => ⟨by omega, fun h => h⟩⟩, fun k hk => by omega, fun k hk => by omega, fun k hk => hk.elim, hb.alloc hsz _⟩
set_option maxRecDepth 100000 in
set_option maxHeartbeats 8000000 in
theorem play11_walk (zero : Bool) (a0 : Option Addr) (n0 c0 : Nat) (G : Nat → Nat → Int) (stop : Int) (w : World) (h0 : S3 w a0 n0 c0 G) :
    Calls Try.prog 3 #[.bool zero, .slice a0 n0 c0, .int .i64 stop] w fun e w' => e = .returned (.bool true) ∧ Below w.heap.size w w' := by
  by_cases hb : n0 ≤ 400
  · have t0 : (n0 : Int) ≤ 400 := by omega
    obtain ⟨hc, b, off, hp, hcell⟩ := h0
    have HP := Lib.hid hp
    have HC := Lib.hid hcell
    have CN := slnew_any w
    clear hp hcell
    cases zero
    · go_enter Try.func3, Try.ntmps3
      go_wp2_with fail
      refine CN.mono ?_
      rintro e w1 ⟨rfl, hs1, hb1, hz1⟩
      clear CN hz1
      obtain ⟨w3, hw3⟩ : ∃ y, w1.alloc (.cells #[.slice none 0 0, .slice none 0 0] 35) = y := ⟨_, rfl⟩
      have hI := boi_new hs1 hb1 (Nat.le_refl _) 35
      rw [hw3] at hI
      have HI := Lib.hid hI
      clear hI hs1 hb1
      go_wp2_with fail
      clear hw3
      go_loopw [9] (fun v9 wr => ∃ (i : Nat) (ss : List So) (X Y Z : Nat → Prop), i ≤ n0 ∧ v9 = .int .i64 (i : Int) ∧ BoI w wr w.heap.size w1.heap.size ss X Y Z ∧ ss.length ≤ i) (fun v9 _ => n0 - (intOf v9).toNat)
      case atStart => exact ⟨0, [], _, _, _, Nat.zero_le _, rfl, HI.out, Nat.le_refl _⟩
      case round =>
        clear HI
        obtain ⟨i, ss, X, Y, Z, hi, rfl, hI, hsi⟩ := hrel
        have HI := Lib.hid hI
        by_cases hin : i < n0
        · have ti : (i : Int) < (n0 : Int) := by omega
          have ti0 : (0 : Int) ≤ (i : Int) := by omega
          have ei : IntKind.i64.wrap ((i : Int) + 1) = ((i + 1 : Nat) : Int) := by rw [i64_small (by omega) (by omega)]; omega
          obtain ⟨rfl, hbl⟩ := HP.out (by omega)
          have q0 := (hI.be.cell (p := ⟨b, off + (i * 3 + 0), none⟩) hbl).trans (HC.out i hin 0 (by omega))
          have q1 := (hI.be.cell (p := ⟨b, off + (i * 3 + 1), none⟩) hbl).trans (HC.out i hin 1 (by omega))
          have q2 := (hI.be.cell (p := ⟨b, off + (i * 3 + 2), none⟩) hbl).trans (HC.out i hin 2 (by omega))
          rw [← Nat.add_assoc] at q1 q2
          rw [Nat.add_zero] at q0
          generalize G i 0 = g0 at *
          generalize G i 1 = g1 at *
          generalize G i 2 = g2 at *
          have hId := hI.keep ((Below.refl _ wr).drew)
          have CD := does_any hId.bo (by omega) g0 g1 g2
          have HST := Lib.hid (fun w1 d => BoI.step (w1 := w1) (ss' := stepS ss g0 g1 g2) hId d)
          have hln := stepS_len ss g0 g1 g2
          have d0 : wr.drew.cell? ⟨b, off + i * 3, none⟩ = some (.int .i64 g0) := q0
          have d1 : wr.drew.cell? ⟨b, off + i * 3 + 1, none⟩ = some (.int .i64 g1) := q1
          have d2 : wr.drew.cell? ⟨b, off + i * 3 + 2, none⟩ = some (.int .i64 g2) := q2
          generalize stepS ss g0 g1 g2 = s1 at *
          clear hI hId HI
          go_wp2_with fail
          refine wp_region_noPanic ?_
          refine wp_region_held_drew (S := fun _ => True) (by kernel_rfl) trivial (fun hSc => ?_)
          refine takeS_at (i := 0) (d := some 29) (v := ?_) rfl rfl (by kernel_rfl) (by kernel_rfl) (by kernel_rfl) (fun _ _ _ h => h) (Or.inl ⟨by rfl, ?hy⟩) hSc ?_
          case hy => (intro w hSw; (try dsimp only at hSw); go_simp; try with_reducible rfl)
          simp only [Act.put, List.setIfInBounds_toArray, List.set_cons_zero, List.set_cons_succ]
          refine takeS_at (i := 1) (d := some 30) (v := ?_) rfl rfl (by kernel_rfl) (by kernel_rfl) (by kernel_rfl) (fun _ _ _ h => h) (Or.inl ⟨by rfl, ?hy⟩) hSc ?_
          case hy => (intro w hSw; (try dsimp only at hSw); go_simp; try with_reducible rfl)
          simp only [Act.put, List.setIfInBounds_toArray, List.set_cons_zero, List.set_cons_succ]
          refine takeS_at (i := 2) (d := some 31) (v := ?_) rfl rfl (by kernel_rfl) (by kernel_rfl) (by kernel_rfl) (fun _ _ _ h => h) (Or.inl ⟨by rfl, ?hy⟩) hSc ?_
          case hy => (intro w hSw; (try dsimp only at hSw); go_simp; try with_reducible rfl)
          simp only [Act.put, List.setIfInBounds_toArray, List.set_cons_zero, List.set_cons_succ]
          refine takeS_at (i := 3) (d := some 32) (v := ?_) rfl rfl (by kernel_rfl) (by kernel_rfl) (by kernel_rfl) (fun _ _ _ h => h) (Or.inl ⟨by rfl, ?hy⟩) hSc ?_
          case hy => (intro w hSw; (try dsimp only at hSw); go_simp; try with_reducible rfl)
          simp only [Act.put, List.setIfInBounds_toArray, List.set_cons_zero, List.set_cons_succ]
          refine takeS_at (i := 4) (d := some 33) (v := ?_) rfl rfl (by kernel_rfl) (by kernel_rfl) (by kernel_rfl) (fun _ _ _ h => h) (Or.inl ⟨by rfl, ?hy⟩) hSc ?_
          case hy => (intro w hSw; (try dsimp only at hSw); go_simp; try with_reducible rfl)
          simp only [Act.put, List.setIfInBounds_toArray, List.set_cons_zero, List.set_cons_succ]
          refine wpAnyH_ready (rs := [5]) (by kernel_rfl) (by simp) ?_
          refine AllReadyH.cons rfl (fun K hK => ?_) AllReadyH.nil
          go_simp
          refine hK.out _ _ trivial (fun hSn => ?_)
          clear hK K
          refine wpAnyH_ready (rs := [6]) (by kernel_rfl) (by simp) ?_
          refine AllReadyH.cons rfl (fun K hK => ?_) AllReadyH.nil
          go_simp
          refine CD.mono ?_
          rintro e z1 ⟨rfl, hd1⟩
          obtain ⟨X1, Y1, Z1, hI1⟩ := HST.out z1 hd1
          have HI1 := Lib.hid hI1
          clear hI1 hd1 CD HST d0 d1 d2 q0 q1 q2
          refine hK.out _ _ trivial (fun hSn => ?_)
          clear hK K
          refine takeS_at (i := 7) (d := some 36) (v := ?_) rfl rfl (by kernel_rfl) (by kernel_rfl) (by kernel_rfl) (fun _ _ _ h => h) (Or.inl ⟨by rfl, ?hy⟩) hSc ?_
          case hy => (intro w hSw; (try dsimp only at hSw); go_simp; try with_reducible rfl)
          simp only [Act.put, List.setIfInBounds_toArray, List.set_cons_zero, List.set_cons_succ]
          refine takeS_at (i := 8) (d := some 37) (v := ?_) rfl rfl (by kernel_rfl) (by kernel_rfl) (by kernel_rfl) (fun _ _ _ h => h) (Or.inl ⟨by rfl, ?hy⟩) hSc ?_
          case hy => (intro w hSw; (try dsimp only at hSw); go_simp; try with_reducible rfl)
          simp only [Act.put, List.setIfInBounds_toArray, List.set_cons_zero, List.set_cons_succ]
          refine takeS_at (i := 9) (d := some 38) (v := ?_) rfl rfl (by kernel_rfl) (by kernel_rfl) (by kernel_rfl) (fun _ _ _ h => h) (Or.inl ⟨by rfl, ?hy⟩) hSc ?_
          case hy => (intro w hSw; (try dsimp only at hSw); go_simp; try with_reducible rfl)
          simp only [Act.put, List.setIfInBounds_toArray, List.set_cons_zero, List.set_cons_succ]
          refine takeS_at (i := 11) (d := some 40) (v := ?_) rfl rfl (by kernel_rfl) (by kernel_rfl) (by kernel_rfl) (fun _ _ _ h => h) (Or.inl ⟨by rfl, ?hy⟩) hSc ?_
          case hy => (intro w hSw; (try dsimp only at hSw); go_simp; try with_reducible rfl)
          simp only [Act.put, List.setIfInBounds_toArray, List.set_cons_zero, List.set_cons_succ]
          have CL := len_v HI1.out.bo.sl
          refine wpAnyH_ready (rs := [10]) (by kernel_rfl) (by simp) ?_
          refine AllReadyH.cons rfl (fun K hK => ?_) AllReadyH.nil
          go_simp
          refine CL.mono ?_
          rintro e z2 ⟨rfl, m, rfl⟩
          clear CL
          have hI2 := HI1.out.keep (below_drewN z1 m)
          have HI2 := Lib.hid hI2
          clear hI2 HI1
          generalize World.drewN z1 m = z2 at *
          refine hK.out _ _ trivial (fun hSn => ?_)
          clear hK K
          obtain ⟨lv, tv, vs, hr2, _⟩ := HI2.out.bo.rq
          have CR := rall_any hr2
          clear hr2
          refine wpAnyH_ready (rs := [12]) (by kernel_rfl) (by simp) ?_
          refine AllReadyH.cons rfl (fun K hK => ?_) AllReadyH.nil
          go_simp
          refine CR.mono ?_
          rintro e z3 ⟨v, rfl, hv3, hb3⟩
          clear CR
          obtain ⟨va, vc, hve⟩ := ownsS_shape hv3
          rw [ixp_all] at hve
          subst hve
          have HI3 := Lib.hid (HI2.out.keep hb3)
          clear hv3 hb3 HI2
          refine hK.out _ _ trivial (fun hSn => ?_)
          clear hK K
          clear hSc
          obtain ⟨lv3, tv3, vs3, hr3, _⟩ := HI3.out.bo.rq
          obtain ⟨la3, lc3, hle⟩ := ownsS_shape hr3.row
          subst hle
          have hSc : z3.cell? ⟨w1.heap.size, 0, none⟩ = some (.slice la3 s1.length lc3) := hr3.c0
          clear hr3
          refine wpAnyS_weak (S2 := fun V => V.cell? ⟨w1.heap.size, 0, none⟩ = some (.slice la3 s1.length lc3)) (fun _ _ => trivial) ?_
          refine takeS_at (i := 13) (d := some 42) (v := ?_) rfl rfl (by kernel_rfl) (by kernel_rfl) (by kernel_rfl) (fun _ _ _ h => h) (Or.inl ⟨by rfl, ?hy⟩) hSc ?_
          case hy => (intro w hSw; (try dsimp only at hSw); go_simp; try with_reducible rfl)
          simp only [Act.put, List.setIfInBounds_toArray, List.set_cons_zero, List.set_cons_succ]
          refine takeS_at (i := 14) (d := some 43) (v := ?_) rfl rfl (by kernel_rfl) (by kernel_rfl) (by kernel_rfl) (fun _ _ _ h => h) (Or.inl ⟨by rfl, ?hy⟩) hSc ?_
          case hy => (intro w hSw; (try dsimp only at hSw); go_simp; try with_reducible rfl)
          simp only [Act.put, List.setIfInBounds_toArray, List.set_cons_zero, List.set_cons_succ]
          refine takeS_at (i := 15) (d := some 44) (v := ?_) rfl rfl (by kernel_rfl) (by kernel_rfl) (by kernel_rfl) (fun _ _ _ h => h) (Or.inl ⟨by rfl, ?hy⟩) hSc ?_
          case hy => (intro w hSw; (try dsimp only at hSw); go_simp; try with_reducible rfl)
          simp only [Act.put, List.setIfInBounds_toArray, List.set_cons_zero, List.set_cons_succ]
          refine takeS_at (i := 16) (d := some 45) (v := ?_) rfl rfl (by kernel_rfl) (by kernel_rfl) (by kernel_rfl) (fun _ _ _ h => h) (Or.inl ⟨by rfl, ?hy⟩) hSc ?_
          case hy => (intro w hSw; (try dsimp only at hSw); go_simp; try with_reducible rfl)
          simp only [Act.put, List.setIfInBounds_toArray, List.set_cons_zero, List.set_cons_succ]
          refine takeS_at (i := 17) (d := some 46) (v := ?_) rfl rfl (by kernel_rfl) (by kernel_rfl) (by kernel_rfl) (fun _ _ _ h => h) (Or.inl ⟨by rfl, ?hy⟩) hSc ?_
          case hy => (intro w hSw; (try dsimp only at hSw); go_simp; try with_reducible rfl)
          simp only [Act.put, List.setIfInBounds_toArray, List.set_cons_zero, List.set_cons_succ]
          refine takeS_at (i := 19) (d := some 48) (v := ?_) rfl rfl (by kernel_rfl) (by kernel_rfl) (by kernel_rfl) (fun _ _ _ h => h) (Or.inl ⟨by rfl, ?hy⟩) hSc ?_
          case hy => (intro w hSw; (try dsimp only at hSw); go_simp; try with_reducible rfl)
          simp only [Act.put, List.setIfInBounds_toArray, List.set_cons_zero, List.set_cons_succ]
          refine takeS_at (i := 20) (d := some 49) (v := ?_) rfl rfl (by kernel_rfl) (by kernel_rfl) (by kernel_rfl) (fun _ _ _ h => h) (Or.inl ⟨by rfl, ?hy⟩) hSc ?_
          case hy => (intro w hSw; (try dsimp only at hSw); go_simp; try with_reducible rfl)
          simp only [Act.put, List.setIfInBounds_toArray, List.set_cons_zero, List.set_cons_succ]
          refine takeS_at (i := 21) (d := some 50) (v := ?_) rfl rfl (by kernel_rfl) (by kernel_rfl) (by kernel_rfl) (fun _ _ _ h => h) (Or.inl ⟨by rfl, ?hy⟩) hSc ?_
          case hy => (intro w hSw; (try dsimp only at hSw); go_simp; try with_reducible rfl)
          simp only [Act.put, List.setIfInBounds_toArray, List.set_cons_zero, List.set_cons_succ]
          refine takeS_at (i := 22) (d := some 51) (v := ?_) rfl rfl (by kernel_rfl) (by kernel_rfl) (by kernel_rfl) (fun _ _ _ h => h) (Or.inl ⟨by rfl, ?hy⟩) hSc ?_
          case hy => (intro w hSw; (try dsimp only at hSw); go_simp; try with_reducible rfl)
          simp only [Act.put, List.setIfInBounds_toArray, List.set_cons_zero, List.set_cons_succ]
          refine takeS_at (i := 23) (d := some 52) (v := ?_) rfl rfl (by kernel_rfl) (by kernel_rfl) (by kernel_rfl) (fun _ _ _ h => h) (Or.inl ⟨by rfl, ?hy⟩) hSc ?_
          case hy => (intro w hSw; (try dsimp only at hSw); go_simp; try with_reducible rfl)
          simp only [Act.put, List.setIfInBounds_toArray, List.set_cons_zero, List.set_cons_succ]
          have CH := high_v HI3.out.bo.sl
          refine wpAnyH_ready (rs := [18]) (by kernel_rfl) (by simp) ?_
          refine AllReadyH.cons rfl (fun K hK => ?_) AllReadyH.nil
          go_simp
          refine CH.mono ?_
          rintro e z4 ⟨rfl, rfl⟩
          clear CH
          refine hK.out _ _ hSc (fun hSn => ?_)
          clear hK K
          refine takeS_at (i := 24) (d := some 53) (v := ?_) rfl rfl (by kernel_rfl) (by kernel_rfl) (by kernel_rfl) (fun _ _ _ h => h) (Or.inl ⟨by rfl, ?hy⟩) hSc ?_
          case hy => (intro w hSw; (try dsimp only at hSw); go_simp; try with_reducible rfl)
          simp only [Act.put, List.setIfInBounds_toArray, List.set_cons_zero, List.set_cons_succ]
          refine takeS_at (i := 25) (d := some 54) (v := ?_) rfl rfl (by kernel_rfl) (by kernel_rfl) (by kernel_rfl) (fun _ _ _ h => h) (Or.inl ⟨by rfl, ?hy⟩) hSc ?_
          case hy => (intro w hSw; (try dsimp only at hSw); go_simp; try with_reducible rfl)
          simp only [Act.put, List.setIfInBounds_toArray, List.set_cons_zero, List.set_cons_succ]
          refine wpAnyH_done (by kernel_rfl) ?_ _
          refine NoPanic.normal ?_
          go_wp2_with fail
          go_roundw
          case rel => exact ⟨i + 1, s1, X1, Y1, Z1, by omega, rfl, HI3.out, by omega⟩
          case measure => simp [intOf]; omega
        · obtain rfl : i = n0 := by omega
          have tj : ((i : Int) < (i : Int)) = False := by simp
          have CA := all_any hI.bo.sl
          have HP2 := HP
          clear hI HP HC
          go_wp2_with fail
          refine CA.mono ?_
          rintro e w4 ⟨rfl, ⟨rv, hc4, hr4, _⟩, hb4⟩
          clear CA
          have hI4 := HI.out.keep hb4
          have CG := goes_any (stop := stop) hc4 hr4 hI4.bo.rq
          have hfn := fn_neq wr.heap.size
          have HI4 := Lib.hid hI4
          have HR4 := Lib.hid hr4
          have HC4 := Lib.hid hc4
          clear hI4 hr4 hc4 hb4 HI
          unfold itV at CG hfn ⊢
          go_wp2_with fail
          refine CG.mono ?_
          rintro e w5 ⟨rfl, hb5⟩
          clear CG
          have hI5 := HI4.out.keep hb5
          have hr5 : Rd2 w5 rv ss := HR4.out.keep (fun k _ hk => hb5.block k hk)
          have CG := goes_any (stop := 0) ((hb5.cell (lt_of_cell HC4.out)).trans HC4.out) hr5 hI5.bo.rq
          have HI5 := Lib.hid hI5
          clear hI5 hr5 hb5 HI4 HR4 HC4
          unfold itV at CG
          go_wp2_with fail
          refine CG.mono ?_
          rintro e w6 ⟨rfl, hb6⟩
          clear CG
          have HB6 := Lib.hid (HI5.out.be.trans (hb6.mono HI5.out.be.size))
          have CW := awake11_any w6
          clear hb6 HI5
          go_wp2_with fail
          refine CW.mono ?_
          rintro e w7 ⟨rfl, hb7⟩
          clear CW
          go_wp2
          go_ret
          exact ⟨rfl, HB6.out.trans (hb7.mono HB6.out.size)⟩
    · go_enter Try.func3, Try.ntmps3
      go_wp2_with fail
      refine CN.mono ?_
      rintro e w1 ⟨rfl, hs1, hb1, hz1⟩
      clear CN hs1 hz1
      obtain ⟨w2, hw2⟩ : ∃ y, w1.alloc (.cells #[.slice none 0 0, .slice none 0 0] 30) = y := ⟨_, rfl⟩
      obtain ⟨w3, hw3⟩ : ∃ y, w2.alloc (.cells #[.slice none 0 0, .slice none 0 0] 35) = y := ⟨_, rfl⟩
      have hs2 : SlV w2 w1.heap.size [] (fun k => k = w1.heap.size) := by rw [← hw2]; exact sl_new w1 _
      have hb2 : Below w.heap.size w w2 := by rw [← hw2]; exact hb1.alloc hb1.size _
      have hI := boi_new hs2 hb2 hb1.size 35
      rw [hw3] at hI
      have HI := Lib.hid hI
      clear hI hs2 hb1 hb2
      go_wp2_with fail
      clear hw3 hw2
      go_loopw [9] (fun v9 wr => ∃ (i : Nat) (ss : List So) (X Y Z : Nat → Prop), i ≤ n0 ∧ v9 = .int .i64 (i : Int) ∧ BoI w wr w1.heap.size w2.heap.size ss X Y Z ∧ ss.length ≤ i) (fun v9 _ => n0 - (intOf v9).toNat)
      case atStart => exact ⟨0, [], _, _, _, Nat.zero_le _, rfl, HI.out, Nat.le_refl _⟩
      case round =>
        clear HI
        obtain ⟨i, ss, X, Y, Z, hi, rfl, hI, hsi⟩ := hrel
        have HI := Lib.hid hI
        by_cases hin : i < n0
        · have ti : (i : Int) < (n0 : Int) := by omega
          have ti0 : (0 : Int) ≤ (i : Int) := by omega
          have ei : IntKind.i64.wrap ((i : Int) + 1) = ((i + 1 : Nat) : Int) := by rw [i64_small (by omega) (by omega)]; omega
          obtain ⟨rfl, hbl⟩ := HP.out (by omega)
          have q0 := (hI.be.cell (p := ⟨b, off + (i * 3 + 0), none⟩) hbl).trans (HC.out i hin 0 (by omega))
          have q1 := (hI.be.cell (p := ⟨b, off + (i * 3 + 1), none⟩) hbl).trans (HC.out i hin 1 (by omega))
          have q2 := (hI.be.cell (p := ⟨b, off + (i * 3 + 2), none⟩) hbl).trans (HC.out i hin 2 (by omega))
          rw [← Nat.add_assoc] at q1 q2
          rw [Nat.add_zero] at q0
          generalize G i 0 = g0 at *
          generalize G i 1 = g1 at *
          generalize G i 2 = g2 at *
          have hId := hI.keep ((Below.refl _ wr).drew)
          have CD := does_any hId.bo (by omega) g0 g1 g2
          have HST := Lib.hid (fun w1 d => BoI.step (w1 := w1) (ss' := stepS ss g0 g1 g2) hId d)
          have hln := stepS_len ss g0 g1 g2
          have d0 : wr.drew.cell? ⟨b, off + i * 3, none⟩ = some (.int .i64 g0) := q0
          have d1 : wr.drew.cell? ⟨b, off + i * 3 + 1, none⟩ = some (.int .i64 g1) := q1
          have d2 : wr.drew.cell? ⟨b, off + i * 3 + 2, none⟩ = some (.int .i64 g2) := q2
          generalize stepS ss g0 g1 g2 = s1 at *
          clear hI hId HI
          go_wp2_with fail
          refine wp_region_noPanic ?_
          refine wp_region_held_drew (S := fun _ => True) (by kernel_rfl) trivial (fun hSc => ?_)
          refine takeS_at (i := 0) (d := some 29) (v := ?_) rfl rfl (by kernel_rfl) (by kernel_rfl) (by kernel_rfl) (fun _ _ _ h => h) (Or.inl ⟨by rfl, ?hy⟩) hSc ?_
          case hy => (intro w hSw; (try dsimp only at hSw); go_simp; try with_reducible rfl)
          simp only [Act.put, List.setIfInBounds_toArray, List.set_cons_zero, List.set_cons_succ]
          refine takeS_at (i := 1) (d := some 30) (v := ?_) rfl rfl (by kernel_rfl) (by kernel_rfl) (by kernel_rfl) (fun _ _ _ h => h) (Or.inl ⟨by rfl, ?hy⟩) hSc ?_
          case hy => (intro w hSw; (try dsimp only at hSw); go_simp; try with_reducible rfl)
          simp only [Act.put, List.setIfInBounds_toArray, List.set_cons_zero, List.set_cons_succ]
          refine takeS_at (i := 2) (d := some 31) (v := ?_) rfl rfl (by kernel_rfl) (by kernel_rfl) (by kernel_rfl) (fun _ _ _ h => h) (Or.inl ⟨by rfl, ?hy⟩) hSc ?_
          case hy => (intro w hSw; (try dsimp only at hSw); go_simp; try with_reducible rfl)
          simp only [Act.put, List.setIfInBounds_toArray, List.set_cons_zero, List.set_cons_succ]
          refine takeS_at (i := 3) (d := some 32) (v := ?_) rfl rfl (by kernel_rfl) (by kernel_rfl) (by kernel_rfl) (fun _ _ _ h => h) (Or.inl ⟨by rfl, ?hy⟩) hSc ?_
          case hy => (intro w hSw; (try dsimp only at hSw); go_simp; try with_reducible rfl)
          simp only [Act.put, List.setIfInBounds_toArray, List.set_cons_zero, List.set_cons_succ]
          refine takeS_at (i := 4) (d := some 33) (v := ?_) rfl rfl (by kernel_rfl) (by kernel_rfl) (by kernel_rfl) (fun _ _ _ h => h) (Or.inl ⟨by rfl, ?hy⟩) hSc ?_
          case hy => (intro w hSw; (try dsimp only at hSw); go_simp; try with_reducible rfl)
          simp only [Act.put, List.setIfInBounds_toArray, List.set_cons_zero, List.set_cons_succ]
          refine wpAnyH_ready (rs := [5]) (by kernel_rfl) (by simp) ?_
          refine AllReadyH.cons rfl (fun K hK => ?_) AllReadyH.nil
          go_simp
          refine hK.out _ _ trivial (fun hSn => ?_)
          clear hK K
          refine wpAnyH_ready (rs := [6]) (by kernel_rfl) (by simp) ?_
          refine AllReadyH.cons rfl (fun K hK => ?_) AllReadyH.nil
          go_simp
          refine CD.mono ?_
          rintro e z1 ⟨rfl, hd1⟩
          obtain ⟨X1, Y1, Z1, hI1⟩ := HST.out z1 hd1
          have HI1 := Lib.hid hI1
          clear hI1 hd1 CD HST d0 d1 d2 q0 q1 q2
          refine hK.out _ _ trivial (fun hSn => ?_)
          clear hK K
          refine takeS_at (i := 7) (d := some 36) (v := ?_) rfl rfl (by kernel_rfl) (by kernel_rfl) (by kernel_rfl) (fun _ _ _ h => h) (Or.inl ⟨by rfl, ?hy⟩) hSc ?_
          case hy => (intro w hSw; (try dsimp only at hSw); go_simp; try with_reducible rfl)
          simp only [Act.put, List.setIfInBounds_toArray, List.set_cons_zero, List.set_cons_succ]
          refine takeS_at (i := 8) (d := some 37) (v := ?_) rfl rfl (by kernel_rfl) (by kernel_rfl) (by kernel_rfl) (fun _ _ _ h => h) (Or.inl ⟨by rfl, ?hy⟩) hSc ?_
          case hy => (intro w hSw; (try dsimp only at hSw); go_simp; try with_reducible rfl)
          simp only [Act.put, List.setIfInBounds_toArray, List.set_cons_zero, List.set_cons_succ]
          refine takeS_at (i := 9) (d := some 38) (v := ?_) rfl rfl (by kernel_rfl) (by kernel_rfl) (by kernel_rfl) (fun _ _ _ h => h) (Or.inl ⟨by rfl, ?hy⟩) hSc ?_
          case hy => (intro w hSw; (try dsimp only at hSw); go_simp; try with_reducible rfl)
          simp only [Act.put, List.setIfInBounds_toArray, List.set_cons_zero, List.set_cons_succ]
          refine takeS_at (i := 11) (d := some 40) (v := ?_) rfl rfl (by kernel_rfl) (by kernel_rfl) (by kernel_rfl) (fun _ _ _ h => h) (Or.inl ⟨by rfl, ?hy⟩) hSc ?_
          case hy => (intro w hSw; (try dsimp only at hSw); go_simp; try with_reducible rfl)
          simp only [Act.put, List.setIfInBounds_toArray, List.set_cons_zero, List.set_cons_succ]
          have CL := len_v HI1.out.bo.sl
          refine wpAnyH_ready (rs := [10]) (by kernel_rfl) (by simp) ?_
          refine AllReadyH.cons rfl (fun K hK => ?_) AllReadyH.nil
          go_simp
          refine CL.mono ?_
          rintro e z2 ⟨rfl, m, rfl⟩
          clear CL
          have hI2 := HI1.out.keep (below_drewN z1 m)
          have HI2 := Lib.hid hI2
          clear hI2 HI1
          generalize World.drewN z1 m = z2 at *
          refine hK.out _ _ trivial (fun hSn => ?_)
          clear hK K
          obtain ⟨lv, tv, vs, hr2, _⟩ := HI2.out.bo.rq
          have CR := rall_any hr2
          clear hr2
          refine wpAnyH_ready (rs := [12]) (by kernel_rfl) (by simp) ?_
          refine AllReadyH.cons rfl (fun K hK => ?_) AllReadyH.nil
          go_simp
          refine CR.mono ?_
          rintro e z3 ⟨v, rfl, hv3, hb3⟩
          clear CR
          obtain ⟨va, vc, hve⟩ := ownsS_shape hv3
          rw [ixp_all] at hve
          subst hve
          have HI3 := Lib.hid (HI2.out.keep hb3)
          clear hv3 hb3 HI2
          refine hK.out _ _ trivial (fun hSn => ?_)
          clear hK K
          clear hSc
          obtain ⟨lv3, tv3, vs3, hr3, _⟩ := HI3.out.bo.rq
          obtain ⟨la3, lc3, hle⟩ := ownsS_shape hr3.row
          subst hle
          have hSc : z3.cell? ⟨w2.heap.size, 0, none⟩ = some (.slice la3 s1.length lc3) := hr3.c0
          clear hr3
          refine wpAnyS_weak (S2 := fun V => V.cell? ⟨w2.heap.size, 0, none⟩ = some (.slice la3 s1.length lc3)) (fun _ _ => trivial) ?_
          refine takeS_at (i := 13) (d := some 42) (v := ?_) rfl rfl (by kernel_rfl) (by kernel_rfl) (by kernel_rfl) (fun _ _ _ h => h) (Or.inl ⟨by rfl, ?hy⟩) hSc ?_
          case hy => (intro w hSw; (try dsimp only at hSw); go_simp; try with_reducible rfl)
          simp only [Act.put, List.setIfInBounds_toArray, List.set_cons_zero, List.set_cons_succ]
          refine takeS_at (i := 14) (d := some 43) (v := ?_) rfl rfl (by kernel_rfl) (by kernel_rfl) (by kernel_rfl) (fun _ _ _ h => h) (Or.inl ⟨by rfl, ?hy⟩) hSc ?_
          case hy => (intro w hSw; (try dsimp only at hSw); go_simp; try with_reducible rfl)
          simp only [Act.put, List.setIfInBounds_toArray, List.set_cons_zero, List.set_cons_succ]
          refine takeS_at (i := 15) (d := some 44) (v := ?_) rfl rfl (by kernel_rfl) (by kernel_rfl) (by kernel_rfl) (fun _ _ _ h => h) (Or.inl ⟨by rfl, ?hy⟩) hSc ?_
          case hy => (intro w hSw; (try dsimp only at hSw); go_simp; try with_reducible rfl)
          simp only [Act.put, List.setIfInBounds_toArray, List.set_cons_zero, List.set_cons_succ]
          refine takeS_at (i := 16) (d := some 45) (v := ?_) rfl rfl (by kernel_rfl) (by kernel_rfl) (by kernel_rfl) (fun _ _ _ h => h) (Or.inl ⟨by rfl, ?hy⟩) hSc ?_
          case hy => (intro w hSw; (try dsimp only at hSw); go_simp; try with_reducible rfl)
          simp only [Act.put, List.setIfInBounds_toArray, List.set_cons_zero, List.set_cons_succ]
          refine takeS_at (i := 17) (d := some 46) (v := ?_) rfl rfl (by kernel_rfl) (by kernel_rfl) (by kernel_rfl) (fun _ _ _ h => h) (Or.inl ⟨by rfl, ?hy⟩) hSc ?_
          case hy => (intro w hSw; (try dsimp only at hSw); go_simp; try with_reducible rfl)
          simp only [Act.put, List.setIfInBounds_toArray, List.set_cons_zero, List.set_cons_succ]
          refine takeS_at (i := 19) (d := some 48) (v := ?_) rfl rfl (by kernel_rfl) (by kernel_rfl) (by kernel_rfl) (fun _ _ _ h => h) (Or.inl ⟨by rfl, ?hy⟩) hSc ?_
          case hy => (intro w hSw; (try dsimp only at hSw); go_simp; try with_reducible rfl)
          simp only [Act.put, List.setIfInBounds_toArray, List.set_cons_zero, List.set_cons_succ]
          refine takeS_at (i := 20) (d := some 49) (v := ?_) rfl rfl (by kernel_rfl) (by kernel_rfl) (by kernel_rfl) (fun _ _ _ h => h) (Or.inl ⟨by rfl, ?hy⟩) hSc ?_
          case hy => (intro w hSw; (try dsimp only at hSw); go_simp; try with_reducible rfl)
          simp only [Act.put, List.setIfInBounds_toArray, List.set_cons_zero, List.set_cons_succ]
          refine takeS_at (i := 21) (d := some 50) (v := ?_) rfl rfl (by kernel_rfl) (by kernel_rfl) (by kernel_rfl) (fun _ _ _ h => h) (Or.inl ⟨by rfl, ?hy⟩) hSc ?_
          case hy => (intro w hSw; (try dsimp only at hSw); go_simp; try with_reducible rfl)
          simp only [Act.put, List.setIfInBounds_toArray, List.set_cons_zero, List.set_cons_succ]
          refine takeS_at (i := 22) (d := some 51) (v := ?_) rfl rfl (by kernel_rfl) (by kernel_rfl) (by kernel_rfl) (fun _ _ _ h => h) (Or.inl ⟨by rfl, ?hy⟩) hSc ?_
          case hy => (intro w hSw; (try dsimp only at hSw); go_simp; try with_reducible rfl)
          simp only [Act.put, List.setIfInBounds_toArray, List.set_cons_zero, List.set_cons_succ]
          refine takeS_at (i := 23) (d := some 52) (v := ?_) rfl rfl (by kernel_rfl) (by kernel_rfl) (by kernel_rfl) (fun _ _ _ h => h) (Or.inl ⟨by rfl, ?hy⟩) hSc ?_
          case hy => (intro w hSw; (try dsimp only at hSw); go_simp; try with_reducible rfl)
          simp only [Act.put, List.setIfInBounds_toArray, List.set_cons_zero, List.set_cons_succ]
          have CH := high_v HI3.out.bo.sl
          refine wpAnyH_ready (rs := [18]) (by kernel_rfl) (by simp) ?_
          refine AllReadyH.cons rfl (fun K hK => ?_) AllReadyH.nil
          go_simp
          refine CH.mono ?_
          rintro e z4 ⟨rfl, rfl⟩
          clear CH
          refine hK.out _ _ hSc (fun hSn => ?_)
          clear hK K
          refine takeS_at (i := 24) (d := some 53) (v := ?_) rfl rfl (by kernel_rfl) (by kernel_rfl) (by kernel_rfl) (fun _ _ _ h => h) (Or.inl ⟨by rfl, ?hy⟩) hSc ?_
          case hy => (intro w hSw; (try dsimp only at hSw); go_simp; try with_reducible rfl)
          simp only [Act.put, List.setIfInBounds_toArray, List.set_cons_zero, List.set_cons_succ]
          refine takeS_at (i := 25) (d := some 54) (v := ?_) rfl rfl (by kernel_rfl) (by kernel_rfl) (by kernel_rfl) (fun _ _ _ h => h) (Or.inl ⟨by rfl, ?hy⟩) hSc ?_
          case hy => (intro w hSw; (try dsimp only at hSw); go_simp; try with_reducible rfl)
          simp only [Act.put, List.setIfInBounds_toArray, List.set_cons_zero, List.set_cons_succ]
          refine wpAnyH_done (by kernel_rfl) ?_ _
          refine NoPanic.normal ?_
          go_wp2_with fail
          go_roundw
          case rel => exact ⟨i + 1, s1, X1, Y1, Z1, by omega, rfl, HI3.out, by omega⟩
          case measure => simp [intOf]; omega
        · obtain rfl : i = n0 := by omega
          have tj : ((i : Int) < (i : Int)) = False := by simp
          have CA := all_any hI.bo.sl
          have HP2 := HP
          clear hI HP HC
          go_wp2_with fail
          refine CA.mono ?_
          rintro e w4 ⟨rfl, ⟨rv, hc4, hr4, _⟩, hb4⟩
          clear CA
          have hI4 := HI.out.keep hb4
          have CG := goes_any (stop := stop) hc4 hr4 hI4.bo.rq
          have hfn := fn_neq wr.heap.size
          have HI4 := Lib.hid hI4
          have HR4 := Lib.hid hr4
          have HC4 := Lib.hid hc4
          clear hI4 hr4 hc4 hb4 HI
          unfold itV at CG hfn ⊢
          go_wp2_with fail
          refine CG.mono ?_
          rintro e w5 ⟨rfl, hb5⟩
          clear CG
          have hI5 := HI4.out.keep hb5
          have hr5 : Rd2 w5 rv ss := HR4.out.keep (fun k _ hk => hb5.block k hk)
          have CG := goes_any (stop := 0) ((hb5.cell (lt_of_cell HC4.out)).trans HC4.out) hr5 hI5.bo.rq
          have HI5 := Lib.hid hI5
          clear hI5 hr5 hb5 HI4 HR4 HC4
          unfold itV at CG
          go_wp2_with fail
          refine CG.mono ?_
          rintro e w6 ⟨rfl, hb6⟩
          clear CG
          have HB6 := Lib.hid (HI5.out.be.trans (hb6.mono HI5.out.be.size))
          have CW := awake11_any w6
          clear hb6 HI5
          go_wp2_with fail
          refine CW.mono ?_
          rintro e w7 ⟨rfl, hb7⟩
          clear CW
          go_wp2
          go_ret
          exact ⟨rfl, HB6.out.trans (hb7.mono HB6.out.size)⟩
  · have t0 : (400 : Int) < (n0 : Int) := by omega
    have CA := awake11_any w
    clear h0
    go_enter Try.func3, Try.ntmps3
    go_wp2_with fail
    refine CA.mono ?_
    rintro e w9 ⟨rfl, hb9⟩
    clear CA
    go_wp2
    go_ret
    exact ⟨rfl, hb9⟩
end Go.Proofs.Ytmeljhnmpopkhaa
