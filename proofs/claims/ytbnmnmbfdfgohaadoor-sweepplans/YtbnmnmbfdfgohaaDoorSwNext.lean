/-
  next, begin.
-/
import Derived.Test.YtbnmnmbfdfgohaaDoorSwWay
import Derived.Test.YtbnmnmbfdfgohaaDoorSwAll
namespace Go.Proofs.YtbnmnmbfdfgohaaDoor
open Go.RowKit Go.WideShapes
attribute [local go_sem] Oper.semAt_some

theorem next_none {w : World} {B b m : Nat} {lf rf : Nat → Bool} (h : WmV w B b m ⟨lf, rf, []⟩) : Calls Tryd.prog 39 #[.pointer (some ⟨b, 0, none⟩)] w fun e w' => e = .returned (.tuple #[.int .i64 0, .bool false]) ∧ w' = w := by
  obtain ⟨gr, gl, sv, Wr, Wl, h⟩ := h
  have c2 := h.c2
  obtain ⟨sa, sc, rfl⟩ := ownsS_shape h.st
  clear h
  go_enter Tryd.func39, Tryd.ntmps39
  go_wp2
  go_ret2
  exact ⟨rfl, rfl⟩
set_option maxRecDepth 100000 in
theorem next_some {w : World} {B b m : Nat} {lf rf : Nat → Bool} {s : List Int} {i : Int} (h : WmV w B b m ⟨lf, rf, s ++ [i]⟩) (hs : s.length ≤ 1000000) : Calls Tryd.prog 39 #[.pointer (some ⟨b, 0, none⟩)] w fun e w' => e = .returned (.tuple #[.int .i64 i, .bool true]) ∧ WmV w' B b m ⟨lf, rf, s⟩ ∧ Below B w w' := by
  obtain ⟨gr, gl, sv, Wr, Wl, h⟩ := h
  have c2 := h.c2
  have z2 := h.z 2
  have hlen : (s ++ [i]).length = s.length + 1 := by simp
  obtain ⟨g, sc, hv, hglt⟩ := ownsS_some h.st (by simp)
  subst hv
  have hcap : s.length + 1 ≤ sc := by
    rcases h.st.2 with ⟨e, _⟩ | ⟨_, _, _, e, _, _, h3, _⟩
    · cases e
    · cases e
      rw [← hlen]
      exact h3
  have h0 : w.ownsRow B 3 1 (.slice (some ⟨g, 0, none⟩) (s ++ [i]).length sc) (s ++ [i]).length ((s ++ [i]).map fun x : Int => Value.int .i64 x) := h.st
  have ci : w.cell? ⟨g, s.length, none⟩ = some (.int .i64 i) := by
    rw [h0.cellAt s.length (by simp)]
    simp
  have hcut := ownsS_cut h0 s.length (by simp)
  have hst : IntsR B w (.slice (some ⟨g, 0, none⟩) s.length sc) s := by
    unfold IntsR
    rw [show (s.map fun x : Int => Value.int .i64 x) = ((s ++ [i]).map fun x : Int => Value.int .i64 x).take (s.length * 1) by simp]
    exact hcut
  have hb := h.n4 g rfl
  rw [hlen] at c2
  have e1 : IntKind.i64.wrap (((s.length + 1 : Nat) : Int) - 1) = (s.length : Int) := by rw [i64_small (by omega) (by omega)]; omega
  have t1 : ((s.length : Int) < 0) = False := by simp
  have t2 : (s.length : Int) < ((s.length + 1 : Nat) : Int) := by omega
  have t3 : (0 : Int) ≤ (s.length : Int) := by omega
  have t4 : (s.length : Int) ≤ (sc : Int) := by omega
  have HH : Hid (Wm (w.setCell ⟨b, 2, none⟩ (.slice (some ⟨g, 0, none⟩) s.length sc)) B b m gr gl (.slice (some ⟨g, 0, none⟩) s.length sc) Wr Wl ⟨lf, rf, s⟩) :=
    ⟨(setCell_ne (by omega)).trans h.c0, (setCell_ne (by omega)).trans h.c1, setCell_hit h.c2, fun j => by rw [World.frozen?_setCell]; exact h.z j, h.mr.same (setCell_blk (fun e => h.n1 e.symm)), h.fr, h.ml.same (setCell_blk (fun e => h.n2 e.symm)), h.fl, ownsS_same hst (fun k hk => setCell_blk (fun e => by injection hk with hk; exact hb.1 (hk.trans e))), h.n1, h.n2, h.n3, h.n4, h.ge, h.sm⟩
  have hge := h.ge.1
  clear h h0 hcut hst hlen
  generalize hn1 : s.length + 1 = n1 at *
  generalize hn : s.length = n at *
  go_enter Tryd.func39, Tryd.ntmps39
  go_wp2
  go_ret2
  exact ⟨rfl, ⟨_, _, _, _, _, HH.out⟩, (Below.refl B w).setCell (p := ⟨b, 2, none⟩) hge _⟩
theorem Wm.keep {w w' : World} {B b m gr gl : Nat} {sv : Value} {Wr Wl : Nat → Nat} {y : Wy} (h : Wm w B b m gr gl sv Wr Wl y) (e : ∀ k, k = b ∨ k = gr ∨ k = gl ∨ sv.ownBlock = some k → w'.heap[k]? = w.heap[k]?) : Wm w' B b m gr gl sv Wr Wl y := by
  have hb := e b (Or.inl rfl)
  exact ⟨(World.cell?_of_block (a := ⟨b, 0, none⟩) hb).trans h.c0, (World.cell?_of_block (a := ⟨b, 1, none⟩) hb).trans h.c1, (World.cell?_of_block (a := ⟨b, 2, none⟩) hb).trans h.c2, fun j => (World.frozen?_of_block (a := ⟨b, j, none⟩) hb).trans (h.z j), h.mr.same (e gr (Or.inr (Or.inl rfl))), h.fr, h.ml.same (e gl (Or.inr (Or.inr (Or.inl rfl)))), h.fl, ownsS_same h.st (fun k hk => e k (Or.inr (Or.inr (Or.inr hk)))), h.n1, h.n2, h.n3, h.n4, h.ge, h.sm⟩
theorem px_is {ss : List So} {k : Nat} (hk : k < (nbs (tk ss) ss.length).length) : (nbs (tk ss) ss.length)[k]? = some (px ss k : Int) ∧ px ss k < ss.length := by
  have h1 := List.getElem?_eq_getElem hk
  obtain ⟨q, e, h2, h3⟩ := nbs_mem.1 (List.getElem_mem hk)
  have : px ss k = q := by unfold px; rw [h1, e]; simp
  rw [this, h1, e]
  exact ⟨rfl, h2⟩
theorem tk_lt {ss : List So} {k : Nat} (h : tk ss k = true) : k < ss.length := by
  apply Nat.lt_of_not_le
  intro hle
  unfold tk nts at h
  rw [List.getD_eq_getElem?_getD, List.getElem?_eq_none hle] at h
  cases h
/-- Slots, or none, by what their calls tell. -/
structure Sla (w : World) (pv : Option Addr) (ss : List So) : Prop where
  high : ∀ w', Below w.heap.size w w' → Calls Tryd.prog 45 #[.pointer pv] w' fun e w'' => e = .returned (.int .i64 (ss.length : Int)) ∧ w'' = w'
  all : ∀ w', Below w.heap.size w w' → Calls Tryd.prog 48 #[.pointer pv] w' fun e w'' => e = .returned (itV w'.heap.size) ∧ (∃ rv, w''.cell? ⟨w'.heap.size, 0, none⟩ = some rv ∧ Rd2 w'' rv ss ∧ ∀ k, rv.ownBlock = some k → w'.heap.size ≤ k) ∧ Below w'.heap.size w' w''
  get : ∀ w' k, Below w.heap.size w w' → tk ss k = true → Calls Tryd.prog 31 #[.pointer pv, .int .i64 (k : Int)] w' fun e w'' => e = .returned (.tuple #[.slice (nts ss k).has.a (nts ss k).has.n (nts ss k).has.c, .bool true]) ∧ w'' = w'
theorem SlV.sla {w : World} {g : Nat} {ss : List So} {X : Nat → Prop} (h : SlV w g ss X) : Sla w (some ⟨g, 0, none⟩) ss := by
  have hk : ∀ w', Below w.heap.size w w' → SlV w' g ss X := fun w' hb => h.keep (Y := fun _ => False) (ex_of hb) (fun _ _ h => h)
  refine ⟨fun w' hb => high_v (hk w' hb), fun w' hb => all_any (hk w' hb), fun w' k hb ht => ?_⟩
  have hkl := tk_lt ht
  have C := get_v (hk w' hb) (k : Int)
  have hisT : isT ss (k : Int) = true := by rw [isT_nat ss k hkl]; exact ht
  have hget : getS ss (k : Int) = (nts ss k).has := by unfold getS; rw [if_pos hisT]; simp
  rw [hisT, hget] at C
  exact C
theorem Sla.below {w w1 : World} {pv : Option Addr} {ss : List So} (h : Sla w pv ss) (hb : Below w.heap.size w w1) : Sla w1 pv ss :=
  ⟨fun w' h1 => h.high w' (hb.trans (h1.mono hb.size)), fun w' h1 => h.all w' (hb.trans (h1.mono hb.size)), fun w' k h1 => h.get w' k (hb.trans (h1.mono hb.size))⟩
theorem sla_nil (w : World) : Sla w none [] := by
  refine ⟨fun w' _ => ?_, fun w' _ => ?_, fun w' k _ h => by simp [tk, nts] at h⟩
  · go_enter Tryd.func45, Tryd.ntmps45
    go_wp2
    go_ret
    exact ⟨rfl, rfl⟩
  · go_enter Tryd.func48, Tryd.ntmps48
    go_wp2
    go_ret
    refine ⟨rfl, ⟨.slice none 0 0, ?_, ⟨0, rfl, Or.inl ⟨rfl, rfl⟩⟩, fun k hk => by cases hk⟩, (Below.refl _ w').alloc (Nat.le_refl _) _⟩
    rw [World.cell?_alloc_at _ _ _ _ rfl]
    rfl
/-- What begin keeps while it goes through the slots. -/
structure Bg (w0 : World) (B b t gr gl m : Nat) (rv : Value) (ss : List So) (k : Nat) (W : World) : Prop where
  wm : ∃ Wl, Wm W B b m gr gl (.slice none 0 0) (fun _ => 0) Wl ⟨fun j => decide ((j : Int) ∈ (nbs (tk ss) ss.length).take k), fun _ => false, []⟩
  cp : W.cell? ⟨b + 1, 0, none⟩ = some (.pointer (some ⟨b, 0, none⟩))
  rd : Rd2 W rv ss
  ct : W.cell? ⟨t, 0, none⟩ = some rv
  be : Below B w0 W
set_option maxRecDepth 100000 in
set_option maxHeartbeats 4000000 in
theorem begin_any {w : World} {pv : Option Addr} {ss : List So} (h : Sla w pv ss) (hs : ss.length ≤ 60000) : Calls Tryd.prog 37 #[.pointer pv] w fun e w' => ∃ b, e = .returned (.pointer (some ⟨b, 0, none⟩)) ∧ WmV w' w.heap.size b ((ss.length + 63) / 64) ⟨tk ss, fun _ => false, []⟩ ∧ Below w.heap.size w w' := by
  refine callsIn_wide.1 (callsIn_of_wp_marks (n := 0) Tryd.func37 rfl trivial ?_ rfl)
  simp only [Tryd.ntmps37, List.size_toArray, List.length_cons, List.length_nil, Nat.reduceAdd, Nat.reduceSub, Array.replicate_succ, Array.replicate_zero, List.push_toArray, List.append_toArray, List.nil_append, List.cons_append]
  have C1 := h.high w (Below.refl _ _)
  have C2 := unmarked_any w ss.length (by omega)
  gi_wp2_with fail
  refine ⟨trivial, rfl, (callsIn_wide.2 C1).mono ?_⟩
  rintro e w0 ⟨rfl, rfl⟩
  gi_wp2_with fail
  refine ⟨trivial, rfl, (callsIn_wide.2 C2).mono ?_⟩
  rintro e w1 ⟨rfl, hm1, hb1⟩
  clear C2 C1
  have h1 := h.below hb1
  have C3 := h1.high w1 (Below.refl _ _)
  have C4 := unmarked_any w1 ss.length (by omega)
  have hm : (ss.length + 63) / 64 ≤ 1000 := by omega
  have hmn : ss.length ≤ (ss.length + 63) / 64 * 64 := by omega
  obtain ⟨m, hmm⟩ : ∃ m, (ss.length + 63) / 64 = m := ⟨_, rfl⟩
  rw [hmm] at hm hmn hm1 C4 ⊢
  gi_wp2_with fail
  refine ⟨trivial, rfl, (callsIn_wide.2 C3).mono ?_⟩
  rintro e w1' ⟨rfl, hw1⟩
  subst hw1
  gi_wp2_with fail
  refine ⟨trivial, rfl, (callsIn_wide.2 C4).mono ?_⟩
  rintro e w2 ⟨rfl, hm2, hb2⟩
  clear C3 C4
  have hlt1 := hm1.lt
  have hlt2 := hm2.lt
  obtain ⟨w4, hw4⟩ : ∃ y, (w2.alloc (.cells #[.slice (some ⟨w0.heap.size, 0, none⟩) m m, .slice (some ⟨w1'.heap.size, 0, none⟩) m m, .slice none 0 0] 71)).alloc (.cells #[.pointer (some ⟨w2.heap.size, 0, none⟩)] 65) = y := ⟨_, rfl⟩
  have hb4 : Below w2.heap.size w2 w4 := by rw [← hw4]; exact ((Below.refl _ w2).alloc (Nat.le_refl _) _).alloc (by simp) _
  have hs4 : w2.heap.size + 2 ≤ w4.heap.size := by rw [← hw4]; simp
  have hX4 : Blk w4 w2.heap.size 3 (fun j => #[Value.slice (some ⟨w0.heap.size, 0, none⟩) m m, .slice (some ⟨w1'.heap.size, 0, none⟩) m m, .slice none 0 0].getD j .nilFunc) := by
    rw [← hw4]
    exact (Blk.new w2 _ _).same (Below.heap_alloc _ _ _ (by simp))
  have hP4 : Blk w4 (w2.heap.size + 1) 1 (fun j => #[Value.pointer (some ⟨w2.heap.size, 0, none⟩)].getD j .nilFunc) := by
    rw [← hw4]
    have := Blk.new (w2.alloc (.cells #[.slice (some ⟨w0.heap.size, 0, none⟩) m m, .slice (some ⟨w1'.heap.size, 0, none⟩) m m, .slice none 0 0] 71)) #[Value.pointer (some ⟨w2.heap.size, 0, none⟩)] 65
    rw [World.size_alloc] at this
    exact this
  have h4 := (h1.below hb2).below hb4
  have hs2 := hb2.size
  have hs1 := hb1.size
  have hb04 : Below w0.heap.size w0 w4 := hb1.trans ((hb2.mono hs1).trans (hb4.mono (by omega)))
  have hW4 : Wm w4 w0.heap.size w2.heap.size m w0.heap.size w1'.heap.size (.slice none 0 0) (fun _ => 0) (fun _ => 0) ⟨fun j => decide ((j : Int) ∈ (nbs (tk ss) ss.length).take 0), fun _ => false, []⟩ := by
    refine ⟨hX4.c 0 (by omega), hX4.c 1 (by omega), hX4.c 2 (by omega), hX4.z, hm1.same ((hb4.block _ (by omega)).trans (hb2.block _ hlt1)), Wf.zero m, hm2.same (hb4.block _ hlt2), ?_, IntsR.nil _ _, by omega, by omega, by omega, (fun k hk => by cases hk), ⟨by omega, by omega, by omega⟩, hm⟩
    have := Wf.zero m
    simpa using this
  have CA := h4.all w4 (Below.refl _ _)
  have HW4 := Lib.hid hw4
  clear hw4 hX4 h4 hb4 hb2 hb1 h1 hm1 hm2
  gi_wp2_with fail
  rw [HW4.out]
  refine ⟨trivial, rfl, (callsIn_wide.2 CA).mono ?_⟩
  rintro e w5 ⟨rfl, ⟨rv, hrv, hrd, hrb⟩, hb5⟩
  clear CA
  have hs5 := hb5.size
  have hrl : ∀ k, rv.ownBlock = some k → k < w5.heap.size := fun k hk => by
    obtain ⟨B', hB'⟩ := hrd
    exact (World.ownsRow.lt hB' k hk).2
  have htl : w4.heap.size < w5.heap.size := lt_of_cell hrv
  have hB0 : Bg w0 w0.heap.size w2.heap.size w4.heap.size w0.heap.size w1'.heap.size m rv ss 0 w5 := by
    refine ⟨⟨_, hW4.keep (fun k hk => hb5.block k ?_)⟩, (World.cell?_of_block (a := ⟨w2.heap.size + 1, 0, none⟩) (hb5.block (w2.heap.size + 1) (by omega))).trans (hP4.c 0 (by omega)), hrd, hrv, hb04.trans (hb5.mono (by omega))⟩
    rcases hk with e | e | e | e
    · omega
    · omega
    · omega
    · cases e
  have HB0 := Lib.hid hB0
  clear hB0 hW4 hP4 hb04 hb5 hrd hrv
  unfold itV
  gi_wp2_with fail
  refine wpIn_range_at (fun l => { target := .fn (.func 65) #[.pointer (some ⟨w4.heap.size, 0, none⟩)], args := #[.func (.yield l) #[] #[]] }) (fun l W => by simp [resolve, Deferred.ofValue, go_sem, Act.eval]) (fun l W => by simp [invoke, go_sem, Tryd.call65])
    (all1_seq (v := rv) w4.heap.size w5 (by omega)) (fun _ => rfl) (fun k W => Bg w0 w0.heap.size w2.heap.size w4.heap.size w0.heap.size w1'.heap.size m rv ss k W) (fun _ _ _ => False) ?hI (fun _ _ _ _ h _ => h) (fun k W h => ⟨h.rd, h.ct⟩) HB0.out
    (fun k => { tmps := #[.pointer pv, undef, .pointer none, .pointer (some ⟨w2.heap.size + 1, 0, none⟩), .int .i64 (px ss k : Int), .pointer pv, .int .i64 (ss.length : Int), .slice (some ⟨w0.heap.size, 0, none⟩) m m, .pointer pv, .int .i64 (ss.length : Int), .slice (some ⟨w1'.heap.size, 0, none⟩) m m, .agg #[.slice (some ⟨w0.heap.size, 0, none⟩) m m, .slice (some ⟨w1'.heap.size, 0, none⟩) m m, .slice none 0 0], .pointer (some ⟨w2.heap.size, 0, none⟩), .pointer pv, .func (.func 65) #[] #[.pointer (some ⟨w4.heap.size, 0, none⟩)], .int .i64 (px ss k : Int), .slice (nts ss (px ss k)).has.a (nts ss (px ss k)).has.n (nts ss (px ss k)).has.c, undef, undef, undef, undef, undef, undef, undef], defers := [] }) ?assign ?body ?done (fun _ _ _ _ h _ => h.elim)
  case hI =>
    rintro k A A' ⟨⟨Wl, x1⟩, x2, x3, x4, x5⟩ hb
    refine ⟨⟨Wl, x1.keep (fun q hq => hb.block q ?_)⟩, (hb.cell (p := ⟨w2.heap.size + 1, 0, none⟩) (by show w2.heap.size + 1 < _; omega)).trans x2, x3.keep (fun q hq _ => hb.block q (hrl q hq)), (hb.cell (p := ⟨w4.heap.size, 0, none⟩) htl).trans x4, x5.trans (hb.mono (by omega))⟩
    rcases hq with e | e | e | e
    · omega
    · omega
    · omega
    · cases e
  case assign =>
    intro l k W K hK
    gi_wp2
    exact hK
  case body =>
    rintro l k W hk ⟨⟨Wl, x1⟩, x2, x3, x4, x5⟩
    obtain ⟨hpk, hpl⟩ := px_is hk
    have CP := mput_any x1.ml x1.fl (show px ss k < m * 64 by omega) (by omega)
    have c1 := x1.c1
    have HX1 := Lib.hid x1
    have HX3 := Lib.hid x3
    clear x1 x3
    gi_wp2_with fail
    refine ⟨trivial, rfl, (CallsIn.inRound l (callsIn_wide.2 CP)).mono ?_⟩
    rintro e W2 ⟨rfl, ⟨Wl2, hm2, hf2⟩, hx2⟩
    clear CP
    gi_wp2_with fail
    have hL : (nbs (tk ss) ss.length).take (k + 1) = (nbs (tk ss) ss.length).take k ++ [(px ss k : Int)] := by
      rw [List.take_add_one, hpk]
      rfl
    have hfe : (fun j : Nat => decide ((j : Int) ∈ (nbs (tk ss) ss.length).take k) || decide (j = px ss k)) = (fun j : Nat => decide ((j : Int) ∈ (nbs (tk ss) ss.length).take (k + 1))) := by
      funext j
      rw [hL]
      simp only [List.mem_append, List.mem_singleton, Int.ofNat_inj, Bool.decide_or]
    rw [hfe] at hf2
    refine ⟨⟨hx2.size, fun q h1 h2 => hx2.block q h2 (by omega)⟩, ⟨⟨Wl2, HX1.out.left hx2 hm2 hf2⟩, ?_, HX3.out.keep (fun q hq hq2 => hx2.block q hq2 (fun e => ?_)), ?_, x5.trans (hx2.below (fun q hq => by omega) x5.size)⟩⟩
    · exact (World.cell?_of_block (a := ⟨w2.heap.size + 1, 0, none⟩) (hx2.block (w2.heap.size + 1) (lt_of_cell x2) (by omega))).trans x2
    · have := hrb q hq
      omega
    · exact (World.cell?_of_block (a := ⟨w4.heap.size, 0, none⟩) (hx2.block w4.heap.size (lt_of_cell x4) (by omega))).trans x4
  case done =>
    rintro W ⟨⟨Wl, x1⟩, x2, x3, x4, x5⟩ hK
    have HX1 := Lib.hid x1
    have hf : (fun j : Nat => decide ((j : Int) ∈ (nbs (tk ss) ss.length).take (nbs (tk ss) ss.length).length)) = tk ss := by
      funext j
      rw [List.take_length]
      cases ht : tk ss j with
      | true => exact decide_eq_true (nbs_mem.2 ⟨j, rfl, tk_lt ht, ht⟩)
      | false =>
        refine decide_eq_false (fun hm => ?_)
        obtain ⟨q, e, _, h2⟩ := nbs_mem.1 hm
        obtain rfl : j = q := by omega
        rw [ht] at h2
        cases h2
    rw [hf] at HX1
    clear x1 hf x3
    gi_wp2_with fail
    gi_wp2
    refine ⟨by simp, .inl ⟨_, _, rfl, run_takeDeferred hK, ?_⟩⟩
    refine ⟨_, results_tmp rfl _ _ _, _, rfl, ?_, x5.trans (below_put (by omega))⟩
    rw [hmm]
    refine ⟨_, _, _, _, _, HX1.out.keep (fun q hq => World.putObj_heap_other ?_)⟩
    rcases hq with e | e | e | e
    · omega
    · omega
    · omega
    · cases e
end Go.Proofs.YtbnmnmbfdfgohaaDoor
