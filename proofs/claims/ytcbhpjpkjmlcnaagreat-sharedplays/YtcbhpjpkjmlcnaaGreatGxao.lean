/-
  The document's private: a table of its own.
  What a step on the document's family and a namespace leaves, step behind step.
  The document's Del.
  Steps on the document's family: a name behind the names, a key into the key table.
-/
import Derived.Test.YtcbhpjpkjmlcnaaGreatGxan
namespace Go.Proofs.YtcbhpjpkjmlcnaaGreat
open Go.RowKit Go.WideShapes

theorem Tb.add_up (t : Tb) (u k v : Int) : t.made ≤ (t.add u k v).made ∧ (t.add u k v).made ≤ t.made + 1 ∧ (t.add u k v).births = t.births + 1 ∧ (t.add u k v).turn = t.turn + 1 := by
  unfold Tb.add
  by_cases h : t.es.length < rm (2 ^ t.L)
  · rw [if_pos h]
    exact ⟨Nat.le_refl _, Nat.le_succ _, rfl, rfl⟩
  · rw [if_neg h]
    exact ⟨Nat.le_succ _, Nat.le_refl _, rfl, rfl⟩
/-- The table under way. -/
def PvI (w : World) (mr : Value) (es : List En) (vs : List Int) (g : Nat) (a b c d : Int) (i : Nat) (wr : World) : Prop :=
  ∃ ev q, RtS wr g ev q (turnN es vs i) mr ∧ (w.heap.size ≤ g ∧ w.heap.size ≤ q ∧ ∀ k, ev.ownBlock = some k → w.heap.size ≤ k) ∧ Ms wr mr (a + ((turnN es vs i).made : Int)) b c d ∧ Ex (mB mr) w wr
/-- What private leaves. -/
def Pvt (w : World) (f s : Nat) (F : Fa) (mr : Value) (XF XS : Nat → Prop) (vs : List Int) (v : Nat) (a b c d : Int) (w' : World) : Prop :=
  ∃ XS', Qp w' f F mr XF s (.own (turnN F.kt.es vs vs.length)) v XS' ∧ Ms w' mr (a + ((turnN F.kt.es vs vs.length).made : Int)) b c (d + 1) ∧ (∀ k, XS' k → XS k ∨ w.heap.size ≤ k) ∧ Ex (fun k => XS k ∨ mB mr k) w w'
theorem pvt_of {w wr w3 w4 : World} {f s g : Nat} {F : Fa} {mr : Value} {XF XS : Nat → Prop} {vs : List Int} {v : Nat} {a b c d : Int} (h : Qp w f F mr XF s (.row vs) v XS) (hM : Ms w mr a b c d) (hP : PvI w mr F.kt.es vs g a b c d vs.length wr)
    (m1 : Blk w3 s 4 (qsF f (.slice none 0 0) (.pointer (some ⟨g, 0, none⟩)) v)) (m3 : Ex (fun i => i = s) wr w3) (hx : Ex (mB mr) w3 w4) (hM4 : Ms w4 mr (a + ((turnN F.kt.es vs vs.length).made : Int)) b c (d + 1)) : Pvt w f s F mr XF XS vs v a b c d w4 := by
  obtain ⟨ev, q, hT, ⟨n1, n2, n3⟩, _, he⟩ := hP
  obtain ⟨vv, h1, h2, h3, hXS⟩ := h.sm
  have ls : s < w.heap.size := h1.lt (by omega)
  have hs : XS s := by rw [hXS]; exact .inl rfl
  have tl := hT.lt'
  have kp : ∀ k, k < wr.heap.size → k ≠ s → ¬ mB mr k → w4.heap[k]? = wr.heap[k]? := fun k hk h1 h2 => (hx.block k (Nat.lt_of_lt_of_le hk m3.size) h2).trans (m3.block k hk h1)
  have old : ∀ k, k < w.heap.size → k ≠ s → ¬ mB mr k → w4.heap[k]? = w.heap[k]? := fun k hk h1 h2 => (kp k (Nat.lt_of_lt_of_le hk he.size) h1 h2).trans (he.block k hk h2)
  have tn : ∀ k, (k = g ∨ k = q ∨ ev.ownBlock = some k) → w.heap.size ≤ k := fun k y => by
    rcases y with rfl | rfl | y
    · exact n1
    · exact n2
    · exact n3 k y
  have tm : ∀ k, mB mr k → k < w.heap.size := fun k hk => hM.lt k hk
  refine ⟨fun k => k = s ∨ k = g ∨ k = q ∨ ev.ownBlock = some k, ⟨h.fm.same fun k hk => old k (h.fm.lt k hk) (fun e => h.ap k hk (e ▸ hs)) (fun y => h.fm.nm k y hk), ⟨g, ev, q, m1.same (hx.block s (Nat.lt_of_lt_of_le ls (Nat.le_trans he.size m3.size)) (fun y => h.mq s y hs)), hT.same fun k hk => kp k (tl k hk) (fun e => by have := tn k hk; omega) (fun y => by have := tn k hk; have := tm k y; omega), fun y => by have := tn s y; omega, rfl⟩, fun k hk y => ?_, fun k hk y => ?_⟩, hM4, fun k y => ?_, ?_⟩
  · rcases y with y | y
    · exact h.ap k hk (y ▸ hs)
    · have := h.fm.lt k hk; have := tn k y; omega
  · rcases y with y | y
    · exact h.mq k hk (y ▸ hs)
    · have := tm k hk; have := tn k y; omega
  · rcases y with y | y
    · exact .inl (y ▸ hs)
    · exact .inr (tn k y)
  · exact ((he.mono (fun _ _ y => .inr y)).next m3 (fun k _ y => .inl (by rw [y]; exact hs))).next hx (fun _ _ y => .inr y)
set_option maxRecDepth 100000 in
set_option maxHeartbeats 4000000 in
theorem rprivate_any {w : World} {f s : Nat} {F : Fa} {pr : Option Addr} {XF XS : Nat → Prop} {vs : List Int} {v : Nat} {a b c d : Int} {c0 : Nat} (h : Qp w f F (.pointer pr) XF s (.row vs) v XS) (hM : Ms w (.pointer pr) a b c d) (ha : 0 ≤ a ∧ a ≤ 100000000) (hd : 0 ≤ d ∧ d ≤ 1000000000) (hO : F.Ok hsT c0) (hl : vs.length ≤ F.kt.es.length) :
    Calls Tryz.prog 71 #[.pointer (some ⟨s, 0, none⟩)] w fun e w' => e = .returned (.tuple #[]) ∧ Pvt w f s F (.pointer pr) XF XS vs v a b c d w' := by
  obtain ⟨gk, evk, qk, nv, hQf, hXF⟩ := h.fm
  obtain ⟨vv, h1, h2, h3, hXS⟩ := h.sm
  obtain ⟨av, cap, gv, hvv, hcap, hvo⟩ := h2.open
  have h256 : F.kt.es.length ≤ 256 := Nat.le_trans hO.len hO.room
  have ls := h1.lt (by omega)
  have hms : ¬ mB (.pointer pr) s := fun y => h.mq s y (by rw [hXS]; exact .inl rfl)
  have C1 := rtnew_s hM (by omega : 0 ≤ a ∧ a ≤ 1000000000)
  have k0 : w.cell? ⟨s, 0, none⟩ = some (.pointer (some ⟨f, 0, none⟩)) := h1.c 0 (by omega)
  have f4 : w.cell? ⟨f, 4, none⟩ = some (.pointer pr) := hQf.hd.c 4 (by omega)
  -- what stays while the table grows
  have HKEEP : Hid (∀ V, Ex (mB (.pointer pr)) w V → Blk V s 4 (qsF f vv (.pointer none) v) ∧ V.cell? ⟨s, 1, none⟩ = some (.slice av vs.length cap) ∧ V.cell? ⟨f, 2, none⟩ = some (.pointer (some ⟨gk, 0, none⟩)) ∧ V.cell? ⟨f, 4, none⟩ = some (.pointer pr) ∧ (∃ ae cape ge, V.cell? ⟨gk, 0, none⟩ = some (.slice ae F.kt.es.length cape) ∧ ∀ i, i < F.kt.es.length → ae = some ⟨ge, 0, none⟩ ∧ V.cell? ⟨ge, i * 5, none⟩ = some (.bool (nth F.kt.es i).live) ∧ V.cell? ⟨ge, i * 5 + 1, none⟩ = some (.int .i64 (nth F.kt.es i).hash) ∧ V.cell? ⟨ge, i * 5 + 2, none⟩ = some (.int .i64 (nth F.kt.es i).key) ∧ V.cell? ⟨ge, i * 5 + 3, none⟩ = some (.int .i64 (nth F.kt.es i).value) ∧ V.cell? ⟨ge, i * 5 + 4, none⟩ = some (.int .i64 (nth F.kt.es i).birth)) ∧ ∀ i, i < vs.length → av = some ⟨gv, 0, none⟩ ∧ V.cell? ⟨gv, i, none⟩ = some (.int .i64 (vs[i]?.getD 0))) := fun V e => by
    have g2 := hQf.met e
    have gs : Blk V s 4 (qsF f vv (.pointer none) v) := h1.same (e.block s ls hms)
    obtain ⟨ae, cape, ge, hev, hge0, hro⟩ := g2.kt.es.open
    refine ⟨gs, by rw [← hvv]; exact gs.c 1 (by omega), g2.hd.c 2 (by omega), g2.hd.c 4 (by omega), ⟨ae, cape, ge, ?_, fun i hi => ?_⟩, fun i hi => ?_⟩
    · have := g2.kt.hd.c 0 (by omega)
      rw [show tF evk qk F.kt.sh (.pointer pr) 0 = evk from rfl, hev, Tb.sh_len] at this
      exact this
    · have hi' : i < F.kt.sh.es.length := by rw [Tb.sh_len]; exact hi
      have en : nth F.kt.sh.es i = nth F.kt.es i := shown_hash (dead_live hO.dead hi)
      have q0 := hro.c0 i hi'
      have q1 := hro.c1 i hi'
      have q2 := hro.c2 i hi'
      have q3 := hro.c3 i hi'
      have q4 := hro.c4 i hi'
      rw [en] at q0 q1 q2 q3 q4
      exact ⟨(hge0 (by omega)).1, q0, q1, q2, q3, q4⟩
    · obtain ⟨ea, lg, _, hB⟩ := hvo (by omega)
      have q0 : w.cell? ⟨gv, i, none⟩ = some (.int .i64 (vs[i]?.getD 0)) := hB.c i hi
      exact ⟨ea, (World.cell?_of_block (a := ⟨gv, i, none⟩) (e.block gv lg (fun y => h.mq gv y (by rw [hXS]; right; rw [hvv, ea]; rfl)))).trans q0⟩
  have HTI : Hid (∀ i, i ≤ 1000 → (turnN F.kt.es vs i).Ok ∧ (turnN F.kt.es vs i).births = i ∧ (turnN F.kt.es vs i).made ≤ i + 1 ∧ (turnN F.kt.es vs i).turn = i) := fun i hi => ⟨(turnN_is _ _ i hi).1, (turnN_is _ _ i hi).2.1, (turnN_is _ _ i hi).2.2.1, (turnN_is _ _ i hi).2.2.2.1⟩
  have HFIN : Hid (∀ g wr w3 w4, PvI w (.pointer pr) F.kt.es vs g a b c d vs.length wr → Blk w3 s 4 (qsF f (.slice none 0 0) (.pointer (some ⟨g, 0, none⟩)) v) → Ex (fun i => i = s) wr w3 → Ex (mB (.pointer pr)) w3 w4 → Ms w4 (.pointer pr) (a + ((turnN F.kt.es vs vs.length).made : Int)) b c (d + 1) → Pvt w f s F (.pointer pr) XF XS vs v a b c d w4) := fun g wr w3 w4 g1 g2 g3 g4 g5 => pvt_of h hM g1 g2 g3 g4 g5
  have hpr := ms_ptr hM
  have HLM : Hid (∀ k, mB (.pointer pr) k → k < w.heap.size ∧ k ≠ s) := fun k hk => ⟨hM.lt k hk, fun e => hms (e ▸ hk)⟩
  clear h hQf h1 h2 h3 hXF hXS hvv hvo hO hM hms
  obtain ⟨n, hn⟩ : ∃ n, vs.length = n := ⟨_, rfl⟩
  rw [hn] at HKEEP hl HFIN hcap
  obtain ⟨m, hm⟩ : ∃ m, F.kt.es.length = m := ⟨_, rfl⟩
  rw [hm] at HKEEP hl h256
  go_enter Tryz.func71, Tryz.ntmps71
  go_wp2_with fail
  refine C1.mono ?_
  rintro e w1 ⟨g, q, rfl, hg, hq, hR, hM1, hX1⟩
  clear C1 k0 f4
  have HI0 : Hid (PvI w (.pointer pr) F.kt.es vs g a b c d 0 w1) := ⟨_, q, hR, ⟨hg, hq, fun k hk => by cases hk⟩, hM1, hX1⟩
  clear hR hM1 hX1 hg hq
  go_wp2_with fail
  go_loopw [3] (fun iv wr => ∃ i : Nat, i ≤ n ∧ iv = .int .i64 (i : Int) ∧ PvI w (.pointer pr) F.kt.es vs g a b c d i wr) (fun iv _ => n - (intOf iv).toNat)
  case atStart => exact ⟨0, Nat.zero_le _, rfl, HI0.out⟩
  case round =>
    clear HI0
    obtain ⟨i, hi, rfl, hP⟩ := hrel
    have hP0 := hP
    obtain ⟨ev, q, hT, hnew, hMr, hX⟩ := hP0
    obtain ⟨gs, ks1, kf2, kf4, ⟨ae, cape, ge, kg0, ken⟩, kvs⟩ := HKEEP.out wr hX
    have k0 : wr.cell? ⟨s, 0, none⟩ = some (.pointer (some ⟨f, 0, none⟩)) := gs.c 0 (by omega)
    by_cases hin : i < n
    · have ti : (i : Int) < (n : Int) := by omega
      have tm : (i : Int) < (m : Int) := by omega
      obtain ⟨rfl, q0, q1, q2, q3, q4⟩ := ken i (by omega)
      obtain ⟨rfl, qv⟩ := kvs i hin
      have e5 : IntKind.i64.wrap ((i : Int) + 1) = ((i + 1 : Nat) : Int) := by rw [i64_small (by omega) (by omega)]; omega
      obtain ⟨o1, o2, o3, o4⟩ := HTI.out i (by omega)
      obtain ⟨en, hen⟩ : ∃ en, nth F.kt.es i = en := ⟨_, rfl⟩
      rw [hen] at q0 q1 q2 q3 q4
      obtain ⟨xv, hxv⟩ : ∃ x, vs[i]?.getD 0 = x := ⟨_, rfl⟩
      rw [hxv] at qv
      obtain ⟨x0, x1, x2, x3, x4⟩ := en
      simp only at q0 q1 q2 q3 q4
      obtain ⟨w4, hw4⟩ : ∃ V, wr.alloc (.cells #[.bool x0, .int .i64 x1, .int .i64 x2, .int .i64 x3, .int .i64 x4] 107) = V := ⟨_, rfl⟩
      have hB4 : Below wr.heap.size wr w4 := by rw [← hw4]; exact (Below.refl _ wr).alloc (Nat.le_refl _) _
      have hX4 : Blk w4 wr.heap.size 5 (fun j => #[Value.bool x0, .int .i64 x1, .int .i64 x2, .int .i64 x3, .int .i64 x4].getD j .nilFunc) := by rw [← hw4]; exact Blk.new wr _ _
      have hBd := hB4.drew
      have hTd : RtS w4.drew g ev q (turnN F.kt.es vs i) (.pointer pr) := hT.same fun k hk => hBd.block k (hT.lt' k hk)
      have CA := radd_s hTd o1 (hMr.below hBd) (by omega) ⟨by omega, by omega⟩ (by omega) (by omega) x1 x2 xv
      have s0 : w4.drew.cell? ⟨wr.heap.size, 1, none⟩ = some (.int .i64 x1) ∧ w4.drew.cell? ⟨wr.heap.size, 2, none⟩ = some (.int .i64 x2) ∧ w4.drew.cell? ⟨s, 1, none⟩ = some (.slice (some ⟨gv, 0, none⟩) n cap) ∧ w4.drew.cell? ⟨gv, i, none⟩ = some (.int .i64 xv) := ⟨hX4.c 1 (by omega), hX4.c 2 (by omega), (hB4.cell (p := ⟨s, 1, none⟩) (lt_of_cell ks1)).trans ks1, (hB4.cell (p := ⟨gv, i, none⟩) (lt_of_cell qv)).trans qv⟩
      have HNX : Hid (∀ w5 ev' q', (q' = q ∨ w4.drew.heap.size ≤ q') → (∀ j, ev'.ownBlock = some j → ev.ownBlock = some j ∨ w4.drew.heap.size ≤ j) → RtS w5 g ev' q' ((turnN F.kt.es vs i).add x1 x2 xv) (.pointer pr) → Ms w5 (.pointer pr) (a + ((turnN F.kt.es vs i).made : Int) + ((((turnN F.kt.es vs i).add x1 x2 xv).made - (turnN F.kt.es vs i).made : Nat) : Int)) b c d → Ex (tX g ev q (.pointer pr)) w4.drew w5 → PvI w (.pointer pr) F.kt.es vs g a b c d (i + 1) w5) := fun w5 ev' q' g1 g2 g3 g4 g5 => by
        have ha := (turnN F.kt.es vs i).add_up x1 x2 xv
        have et : turnN F.kt.es vs (i + 1) = (turnN F.kt.es vs i).add x1 x2 xv := by
          show (turnN F.kt.es vs i).add (nth F.kt.es i).hash (nth F.kt.es i).key (vs[i]?.getD 0) = _
          rw [hen, hxv]
        have hsz : wr.heap.size ≤ w4.drew.heap.size := hBd.size
        have hs0 := hX.size
        obtain ⟨n1, n2, n3⟩ := hnew
        refine ⟨ev', q', by rw [et]; exact g3, ⟨n1, ?_, fun k hk => ?_⟩, ?_, ?_⟩
        · rcases g1 with e | e
          · rw [e]; exact n2
          · omega
        · rcases g2 k hk with e | e
          · exact n3 k e
          · omega
        · rw [et]
          rw [show a + (((turnN F.kt.es vs i).add x1 x2 xv).made : Int) = a + ((turnN F.kt.es vs i).made : Int) + ((((turnN F.kt.es vs i).add x1 x2 xv).made - (turnN F.kt.es vs i).made : Nat) : Int) by omega]
          exact g4
        · refine (hX.next (ex_of (X := fun _ => False) hBd) (fun _ _ y => y.elim)).next g5 (fun k hk y => ?_)
          rcases y with y | y | y | y
          · omega
          · omega
          · have := n3 k y; omega
          · exact y
      have HS5 : Hid (∀ w5, PvI w (.pointer pr) F.kt.es vs g a b c d (i + 1) w5 → Ex (tX g ev q (.pointer pr)) w4.drew w5 → w5.cell? ⟨wr.heap.size, 1, none⟩ = some (.int .i64 x1) ∧ w5.cell? ⟨wr.heap.size, 2, none⟩ = some (.int .i64 x2) ∧ w5.cell? ⟨s, 1, none⟩ = some (.slice (some ⟨gv, 0, none⟩) n cap) ∧ w5.cell? ⟨gv, i, none⟩ = some (.int .i64 xv)) := fun w5 h5 g5 => by
        obtain ⟨_, _, _, _, _, hX5⟩ := h5
        obtain ⟨_, ks5, _, _, _, kv5⟩ := HKEEP.out w5 hX5
        have hsz := hX.size
        have tl := hT.lt'
        have eb : w5.heap[wr.heap.size]? = w4.drew.heap[wr.heap.size]? := g5.block _ (hX4.lt (by omega)) (fun y => by
          rcases y with y | y | y | y
          · have := tl _ (.inl y); omega
          · have := tl _ (.inr (.inl y)); omega
          · have := tl _ (.inr (.inr y)); omega
          · have := (HLM.out _ y).1; omega)
        refine ⟨(World.cell?_of_block (a := ⟨wr.heap.size, 1, none⟩) eb).trans (hX4.c 1 (by omega)), (World.cell?_of_block (a := ⟨wr.heap.size, 2, none⟩) eb).trans (hX4.c 2 (by omega)), ks5, ?_⟩
        have := (kv5 i hin).2
        rw [hxv] at this
        exact this
      have HW4 := Lib.hid hw4
      clear hw4 hB4 hX4 hBd hTd hMr hX hT hP gs ken kvs qv hnew hen hxv
      go_upto_region 5 with fail
      rw [HW4.out]
      go_region_held3 (fun V => V.cell? ⟨wr.heap.size, 1, none⟩ = some (.int .i64 x1) ∧ V.cell? ⟨wr.heap.size, 2, none⟩ = some (.int .i64 x2) ∧ V.cell? ⟨s, 1, none⟩ = some (.slice (some ⟨gv, 0, none⟩) n cap) ∧ V.cell? ⟨gv, i, none⟩ = some (.int .i64 xv)) (first | with_reducible exact s0 | with_reducible exact s5 | fail)
        (first | (go_at_call 69; refine CA.mono ?_; rintro e w5 ⟨rfl, ev', q', g1, g2, g3, g4, g5⟩; have hN := HNX.out w5 ev' q' g1 g2 g3 g4 g5; have s5 := HS5.out w5 hN g5; have HN := Lib.hid hN; clear hN g3 g4 g5) | fail)
      clear s0 s5
      go_wp2_with fail
      go_roundw
      case rel => exact ⟨i + 1, by omega, by go_num, HN.out⟩
      case measure => simp [intOf]; omega
    · obtain rfl : i = n := by omega
      have ti : ¬ (i : Int) < (i : Int) := by omega
      have k2 := gs.c 2 (by omega)
      have z1 := gs.z 1
      have z2 := gs.z 2
      obtain ⟨w3, hw3⟩ : ∃ y, (wr.setCell ⟨s, 2, none⟩ (.pointer (some ⟨g, 0, none⟩))).setCell ⟨s, 1, none⟩ (.slice none 0 0) = y := ⟨_, rfl⟩
      have m1 : Blk w3 s 4 (qsF f (.slice none 0 0) (.pointer (some ⟨g, 0, none⟩)) v) := by
        rw [← hw3]
        exact ((gs.put 2 _).put 1 _).congr fun j hj => by rcases (by omega : j = 0 ∨ j = 1 ∨ j = 2 ∨ j = 3) with rfl | rfl | rfl | rfl <;> rfl
      have m3 : Ex (fun k => k = s) wr w3 := by
        have e0 : Ex (fun k => k = s) wr wr := Ex.refl _ _
        rw [← hw3]
        exact (e0.setCell (p := ⟨s, 2, none⟩) (fun _ => rfl) _).setCell (p := ⟨s, 1, none⟩) (fun _ => rfl) _
      have d0 : w3.cell? ⟨s, 0, none⟩ = some (.pointer (some ⟨f, 0, none⟩)) := m1.c 0 (by omega)
      have hfs : f ≠ s := fun e => by
        rw [e] at kf2
        have h9 := gs.c 2 (by omega)
        rw [kf2] at h9
        cases h9
      have d4 : w3.cell? ⟨f, 4, none⟩ = some (.pointer pr) := (World.cell?_of_block (a := ⟨f, 4, none⟩) (m3.block f (lt_of_cell kf4) hfs)).trans kf4
      have hM3 : Ms w3 (.pointer pr) (a + ((turnN F.kt.es vs i).made : Int)) b c d := hMr.same fun k hk => m3.block k (hMr.lt k hk) (HLM.out k hk).2
      have HF : Hid (∀ w4, Ex (mB (.pointer pr)) w3 w4 → Ms w4 (.pointer pr) (a + ((turnN F.kt.es vs i).made : Int)) b c (d + 1) → Pvt w f s F (.pointer pr) XF XS vs v a b c d w4) := fun w4 g4 g5 => HFIN.out g wr w3 w4 hP m1 m3 g4 g5
      have HW3 := Lib.hid hw3
      clear hw3 m1 m3 hP hT hnew hMr hX gs kf2 kf4 ken kvs kg0 HKEEP HFIN HTI
      go_upto_region 8 with fail
      rw [HW3.out]
      rcases hpr with rfl | ⟨mm, rfl⟩
      · have e1 := neC7n
        have HB := Lib.hid (HF.out w3 (Ex.refl _ _) (ms_none hM3))
        clear hM3 HF
        go_wp2_with fail
        go_end0
        exact ⟨rfl, HB.out⟩
      · have e1 := neC7 mm
        have hb := ms_some hM3
        have c3 : w3.cell? ⟨mm, 3, none⟩ = some (.int .i64 d) := hb.c 3 (by omega)
        have z3 := hb.z 3
        have ew : IntKind.i64.wrap (d + 1) = d + 1 := i64_small (by omega) (by omega)
        have HB := Lib.hid (HF.out (w3.setCell ⟨mm, 3, none⟩ (.int .i64 (d + 1))) ((Ex.refl (mB (.pointer (some ⟨mm, 0, none⟩))) w3).setCell (p := ⟨mm, 3, none⟩) (fun _ => rfl) _) (.inr ⟨mm, rfl, (hb.put 3 _).congr fun j hj => by rcases (by omega : j = 0 ∨ j = 1 ∨ j = 2 ∨ j = 3) with rfl | rfl | rfl | rfl <;> rfl⟩))
        clear hM3 HF hb
        go_wp2_with fail
        go_end0
        exact ⟨rfl, HB.out⟩
end Go.Proofs.YtcbhpjpkjmlcnaaGreat
namespace Go.Proofs.YtcbhpjpkjmlcnaaGreat
open Go.RowKit Go.WideShapes

theorem QsR.met {w w' : World} {f s : Nat} {F : Fa} {mr : Value} {XF XS : Nat → Prop} {st : Stn} {v : Nat} {a b c d : Int} (h : Qp w f F mr XF s st v XS) (hM : Ms w' mr a b c d) (hx : Ex (mB mr) w w') : QsR w f mr XF XS s F st v a b c d w' XF XS :=
  ⟨h.met hx, hM, fun _ y => .inl y, fun _ y => .inl y, hx.mono fun _ _ y => .inr (.inr y)⟩
theorem QsR.trans {w w1 w2 : World} {f s : Nat} {F1 F2 : Fa} {mr : Value} {XF XS XF1 XS1 XF2 XS2 : Nat → Prop} {st1 st2 : Stn} {v1 v2 : Nat} {a1 b1 c1 d1 a2 b2 c2 d2 : Int} (x : QsR w f mr XF XS s F1 st1 v1 a1 b1 c1 d1 w1 XF1 XS1) (y : QsR w1 f mr XF1 XS1 s F2 st2 v2 a2 b2 c2 d2 w2 XF2 XS2) : QsR w f mr XF XS s F2 st2 v2 a2 b2 c2 d2 w2 XF2 XS2 := by
  have hs := x.ex.size
  refine ⟨y.qp, y.n, fun k hk => ?_, fun k hk => ?_, x.ex.next y.ex fun k hk z => ?_⟩
  · rcases y.hf k hk with z | z
    · exact x.hf k z
    · exact .inr (Nat.le_trans hs z)
  · rcases y.hs k hk with z | z
    · exact x.hs k z
    · exact .inr (Nat.le_trans hs z)
  · rcases z with z | z | z
    · rcases x.hf k z with u | u
      · exact .inl u
      · omega
    · rcases x.hs k z with u | u
      · exact .inr (.inl u)
      · omega
    · exact .inr (.inr z)
theorem Beh.left {w w' : World} {f s : Nat} {F : Fa} {mr : Value} {XF XS : Nat → Prop} {vs : List Int} {x : Int} {v : Nat} {a b c d : Int} (h : Beh w f s F mr XF XS vs x v a b c d w') : ∃ XS', QsR w f mr XF XS s F (.row (vs ++ [x])) v a b (c + 1) d w' XF XS' := by
  obtain ⟨XS', h1, h2, h3, h4⟩ := h
  exact ⟨XS', h1, h2, fun _ y => .inl y, h3, h4.mono fun _ _ y => .inr y⟩
theorem Pvt.left {w w' : World} {f s : Nat} {F : Fa} {mr : Value} {XF XS : Nat → Prop} {vs : List Int} {v : Nat} {a b c d : Int} (h : Pvt w f s F mr XF XS vs v a b c d w') : ∃ XS', QsR w f mr XF XS s F (.own (turnN F.kt.es vs vs.length)) v (a + ((turnN F.kt.es vs vs.length).made : Int)) b c (d + 1) w' XF XS' := by
  obtain ⟨XS', h1, h2, h3, h4⟩ := h
  exact ⟨XS', h1, h2, fun _ y => .inl y, h3, h4.mono fun _ _ y => .inr y⟩
/-- Where a namespace's head lies. -/
theorem Qs.head {w : World} {s f : Nat} {mr : Value} {v : Nat} {X : Nat → Prop} {st : Stn} (x : Qs w s f mr v X st) : ∃ rv ov, Blk w s 4 (qsF f rv ov v) ∧ X s := by
  cases st with
  | row vs =>
    obtain ⟨vv, h1, h2, h3, rfl⟩ := x
    exact ⟨_, _, h1, .inl rfl⟩
  | own t =>
    obtain ⟨g, ev, q, h1, h2, h3, rfl⟩ := x
    exact ⟨_, _, h1, .inl rfl⟩
theorem qsF_ver (f : Nat) (rv ov : Value) (v : Nat) : ∀ j, j < 4 → qsF f rv ov (v + 1) j = if j = 3 then .int .i64 ((v : Int) + 1) else qsF f rv ov v j := by
  intro j hj
  have : j = 0 ∨ j = 1 ∨ j = 2 ∨ j = 3 := by omega
  rcases this with rfl | rfl | rfl | rfl <;> rfl
/-- The version goes up. -/
theorem qs_up {w : World} {f s : Nat} {F : Fa} {mr : Value} {XF XS : Nat → Prop} {st : Stn} {v : Nat} {a b c d : Int} (h : Qp w f F mr XF s st v XS) (hM : Ms w mr a b c d) :
    (w.cell? ⟨s, 3, none⟩ = some (.int .i64 (v : Int)) ∧ w.frozen? ⟨s, 3, none⟩ = false) ∧ QsR w f mr XF XS s F st (v + 1) a b c d (w.setCell ⟨s, 3, none⟩ (.int .i64 ((v : Int) + 1))) XF XS := by
  obtain ⟨rv, ov, h1, hs⟩ := h.sm.head
  have o : ∀ k, k ≠ s → (w.setCell ⟨s, 3, none⟩ (.int .i64 ((v : Int) + 1))).heap[k]? = w.heap[k]? := fun k hk => Below.heap_setCell _ _ _ _ hk
  have hx : Ex (fun k => k = s) w (w.setCell ⟨s, 3, none⟩ (.int .i64 ((v : Int) + 1))) := (Ex.refl (fun k => k = s) w).setCell (p := ⟨s, 3, none⟩) (fun _ => rfl) _
  refine ⟨⟨h1.c 3 (by omega), h1.z 3⟩, ⟨⟨h.fm.same fun k hk => o k (fun e => h.ap k hk (e ▸ hs)), ?_, h.ap, h.mq⟩, hM.same fun k hk => o k (fun e => h.mq k hk (e ▸ hs)), fun _ y => .inl y, fun _ y => .inl y, hx.mono fun k _ y => .inr (.inl (y ▸ hs))⟩⟩
  have hsm := h.sm
  cases st with
  | row vs =>
    obtain ⟨vv, g1, g2, g3, rfl⟩ := hsm
    exact ⟨vv, (g1.put 3 _).congr (qsF_ver _ _ _ _), g2.same0 fun k hk => o k (fun e => g3 (e ▸ hk)), g3, rfl⟩
  | own t =>
    obtain ⟨g, ev, q, g1, g2, g3, rfl⟩ := hsm
    exact ⟨g, ev, q, (g1.put 3 _).congr (qsF_ver _ _ _ _), g2.same fun k hk => o k (fun e => g3 (e ▸ hk)), g3, rfl⟩
/-- The namespace's own table has changed. -/
theorem qs_tab {w w' : World} {f s g q q' : Nat} {F : Fa} {mr : Value} {XF XS : Nat → Prop} {t t' : Tb} {v : Nat} {ev ev' : Value} {a b c d : Int} (h : Qp w f F mr XF s (.own t) v XS) (h1 : Blk w s 4 (qsF f (.slice none 0 0) (.pointer (some ⟨g, 0, none⟩)) v)) (_ : RtS w g ev q t mr) (h3 : ¬ (s = g ∨ s = q ∨ ev.ownBlock = some s)) (h4 : XS = fun k => k = s ∨ k = g ∨ k = q ∨ ev.ownBlock = some k)
    (hR : RtS w' g ev' q' t' mr) (nq : q' = q ∨ w.heap.size ≤ q') (ne : ∀ j, ev'.ownBlock = some j → ev.ownBlock = some j ∨ w.heap.size ≤ j) (hM : Ms w mr a b c d) {a' b' c' d' : Int} (hM' : Ms w' mr a' b' c' d') (hx : Ex (tX g ev q mr) w w') : ∃ XS', QsR w f mr XF XS s F (.own t') v a' b' c' d' w' XF XS' := by
  subst h4
  have ls := h1.lt (by omega)
  have hin : ∀ k, (k = g ∨ k = q' ∨ ev'.ownBlock = some k) → (k = g ∨ k = q ∨ ev.ownBlock = some k) ∨ w.heap.size ≤ k := by
    rintro k (y | y | y)
    · exact .inl (.inl y)
    · rcases nq with e | e
      · exact .inl (.inr (.inl (y.trans e)))
      · exact .inr (y ▸ e)
    · rcases ne k y with e | e
      · exact .inl (.inr (.inr e))
      · exact .inr e
  have kp : ∀ k, k < w.heap.size → ¬ (k = g ∨ k = q ∨ ev.ownBlock = some k) → ¬ mB mr k → w'.heap[k]? = w.heap[k]? := fun k hk n1 n2 => hx.block k hk fun y => by
    rcases y with y | y | y | y
    · exact n1 (.inl y)
    · exact n1 (.inr (.inl y))
    · exact n1 (.inr (.inr y))
    · exact n2 y
  refine ⟨fun k => k = s ∨ k = g ∨ k = q' ∨ ev'.ownBlock = some k, ⟨⟨h.fm.same fun k hk => kp k (h.fm.lt k hk) (fun y => h.ap k hk (.inr y)) (fun y => h.fm.nm k y hk), ⟨g, ev', q', h1.same (kp s ls h3 fun y => h.mq s y (.inl rfl)), hR, fun y => ?_, rfl⟩, fun k hk y => ?_, fun k hk y => ?_⟩, hM', fun _ y => .inl y, fun k y => ?_, hx.mono fun k _ y => ?_⟩⟩
  · rcases hin s y with z | z
    · exact h3 z
    · omega
  · have := h.fm.lt k hk
    rcases y with y | y
    · exact h.ap k hk (.inl y)
    · rcases hin k y with z | z
      · exact h.ap k hk (.inr z)
      · omega
  · have := hM.lt k hk
    rcases y with y | y
    · exact h.mq k hk (.inl y)
    · rcases hin k y with z | z
      · exact h.mq k hk (.inr z)
      · omega
  · rcases y with y | y
    · exact .inl (.inl y)
    · rcases hin k y with z | z
      · exact .inl (.inr z)
      · exact .inr z
  · rcases y with y | y | y | y
    · exact .inr (.inl (.inr (.inl y)))
    · exact .inr (.inl (.inr (.inr (.inl y))))
    · exact .inr (.inl (.inr (.inr (.inr y))))
    · exact .inr (.inr y)
/-- A value of the row has changed. -/
theorem qs_row {w : World} {f s g cap n : Nat} {F : Fa} {mr : Value} {XF XS : Nat → Prop} {vs : List Int} {x : Int} {v : Nat} {a b c d : Int} (h : Qp w f F mr XF s (.row vs) v XS) (h1 : Blk w s 4 (qsF f (.slice (some ⟨g, 0, none⟩) vs.length cap) (.pointer none) v)) (h2 : IntsR 0 w (.slice (some ⟨g, 0, none⟩) vs.length cap) vs) (h3 : (Value.slice (some ⟨g, 0, none⟩) vs.length cap).ownBlock ≠ some s) (h4 : XS = fun k => k = s ∨ (Value.slice (some ⟨g, 0, none⟩) vs.length cap).ownBlock = some k) (hM : Ms w mr a b c d) :
    QsR w f mr XF XS s F (.row (vs.set n x)) v a b c d (w.setCell ⟨g, n, none⟩ (.int .i64 x)) XF XS := by
  subst h4
  have hg : (Value.slice (some ⟨g, 0, none⟩) vs.length cap).ownBlock = some g := rfl
  have o : ∀ k, k ≠ g → (w.setCell ⟨g, n, none⟩ (.int .i64 x)).heap[k]? = w.heap[k]? := fun k hk => Below.heap_setCell _ _ _ _ hk
  have hx : Ex (fun k => k = g) w (w.setCell ⟨g, n, none⟩ (.int .i64 x)) := (Ex.refl (fun k => k = g) w).setCell (p := ⟨g, n, none⟩) (fun _ => rfl) _
  have hv := h2.put n x
  refine ⟨⟨h.fm.same fun k hk => o k (fun e => h.ap k hk (.inr (by rw [e]; rfl))), ⟨.slice (some ⟨g, 0, none⟩) vs.length cap, h1.same (o s (fun e => h3 (by rw [e]; rfl))), hv, h3, rfl⟩, h.ap, h.mq⟩, hM.same fun k hk => o k (fun e => h.mq k hk (.inr (by rw [e]; rfl))), fun _ y => .inl y, fun _ y => .inl y, hx.mono fun k _ y => .inr (.inl (.inr (by rw [y]; rfl)))⟩
end Go.Proofs.YtcbhpjpkjmlcnaaGreat
namespace Go.Proofs.YtcbhpjpkjmlcnaaGreat
open Go.RowKit Go.WideShapes

/-- What a Del of the document leaves. -/
def RDelQ (w : World) (f : Nat) (F : Fa) (mr : Value) (a b c d : Int) (XF : Nat → Prop) (s : Nat) (st : Stn) (v : Nat) (XS : Nat → Prop) (nm : ByteArray) (er : Int) (w' : World) : Prop :=
  ∃ st' dd, DelR F nm st st' er dd ∧ ∃ k res jj, Num F.all nm k ∧ SkR (tbS F st) (hsT nm) k res jj ∧ ∃ XF' XS', QsR w f mr XF XS s F st' (if er = 0 then v + 1 else v) (a + (mdS st' : Int) - (mdS st : Int)) (b + (jj : Int)) c (d + (dd : Int)) w' XF' XS'
theorem rdelQ_of {w w' : World} {f : Nat} {F : Fa} {mr : Value} {a b c d : Int} {XF : Nat → Prop} {s : Nat} {st : Stn} {v : Nat} {XS : Nat → Prop} {nm : ByteArray} {er : Int} {st' : Stn} {dd : Nat} {k res : Int} {jj v' : Nat} {a' d' : Int} {XF' XS' : Nat → Prop} (hdel : DelR F nm st st' er dd) (hk : Num F.all nm k) (hsk : SkR (tbS F st) (hsT nm) k res jj) (R : QsR w f mr XF XS s F st' v' a' (b + (jj : Int)) c d' w' XF' XS') (hv : v' = if er = 0 then v + 1 else v) (ha : a' = a + (mdS st' : Int) - (mdS st : Int)) (hd : d' = d + (dd : Int)) : RDelQ w f F mr a b c d XF s st v XS nm er w' := by
  subst hv ha hd
  exact ⟨st', dd, hdel, k, res, jj, hk, hsk, XF', XS', R⟩
/-- The entry is struck from the namespace's own table, and the version goes up. -/
theorem rkill_up {w w1 : World} {f s n : Nat} {F : Fa} {mr : Value} {XF XS XF1 XS1 : Nat → Prop} {t : Tb} {v : Nat} {a b c d : Int} (R : QsR w f mr XF XS s F (.own t) v a b c d w1 XF1 XS1) (hn : n < t.es.length) (hl : (nth t.es n).live = true) (hlen : t.es.length ≤ 100000) (ht : t.turn ≤ 1000000) :
    ∃ g, w1.cell? ⟨s, 2, none⟩ = some (.pointer (some ⟨g, 0, none⟩)) ∧ Calls Tryz.prog 72 #[.pointer (some ⟨g, 0, none⟩), .int .i64 (n : Int)] w1 fun e w2 => e = .returned (.int .i64 0) ∧ (w2.cell? ⟨s, 3, none⟩ = some (.int .i64 (v : Int)) ∧ w2.frozen? ⟨s, 3, none⟩ = false) ∧ Hid (∃ XF' XS', QsR w f mr XF XS s F (.own (t.kill n)) (v + 1) a b c d (w2.setCell ⟨s, 3, none⟩ (.int .i64 ((v : Int) + 1))) XF' XS') := by
  obtain ⟨g, ev, q, h1, h2, h3, h4⟩ := R.qp.sm
  refine ⟨g, h1.c 2 (by omega), (rkill_yes_s h2 n hn hl hlen ht).mono fun e w2 ⟨e1, e2, e3⟩ => ?_⟩
  have hM2 : Ms w2 mr a b c d := R.n.same fun k hk => e3.block k (R.n.lt k hk) (fun y => by
    obtain ⟨m1, m2, m3⟩ := h2.mp k hk
    rcases y with y | y | y
    · exact m1 y
    · exact m2 y
    · exact m3 y)
  obtain ⟨XS2, R2⟩ := qs_tab R.qp h1 h2 h3 h4 e2 (.inl rfl) (fun _ y => .inl y) R.n hM2 (e3.mono fun k _ y => by
    rcases y with y | y | y
    · exact .inl y
    · exact .inr (.inl y)
    · exact .inr (.inr (.inl y)))
  obtain ⟨u1, u2⟩ := qs_up R2.qp R2.n
  exact ⟨e1, u1, ⟨_, _, (R.trans R2).trans u2⟩⟩
set_option maxRecDepth 100000 in
set_option maxHeartbeats 4000000 in
theorem rdel_row {w : World} {f s : Nat} {F : Fa} {pr : Option Addr} {XF XS : Nat → Prop} {vs : List Int} {v : Nat} {a b c d : Int} {c0 : Nat} (h : Qp w f F (.pointer pr) XF s (.row vs) v XS) (hM : Ms w (.pointer pr) a b c d) (ha : 0 ≤ a ∧ a ≤ 100000000) (hb : 0 ≤ b ∧ b ≤ 10000000000) (hd : 0 ≤ d ∧ d ≤ 1000000000) (hO : F.Ok hsT c0) (hst : (Stn.row vs).Ok hsT F c0) (hc0 : c0 ≤ 90000) (hv : v ≤ 1000000000) {nm : ByteArray} (hs3 : nm.size ≤ 3000) :
    Calls Tryz.prog 33 #[.pointer (some ⟨s, 0, none⟩), .string nm] w fun e w' => ∃ er : Int, e = .returned (.int .i64 er) ∧ RDelQ w f F (.pointer pr) a b c d XF s (.row vs) v XS nm er w' := by
  obtain ⟨k, hk⟩ := num_ex F.all nm
  have C1 := rfind_any h hM hb hO hst hc0 hs3 hk
  have hvl : vs.length ≤ F.kt.es.length := hst
  have h256 : F.kt.es.length ≤ 256 := Nat.le_trans hO.len hO.room
  have HF := Lib.hid h
  have HO := Lib.hid hO
  have HK := Lib.hid hk
  have ew : IntKind.i64.wrap ((v : Int) + 1) = (v : Int) + 1 := i64_small (by omega) (by omega)
  clear h hM hO hk hst
  go_enter Tryz.func33, Tryz.ntmps33
  go_wp2_with fail
  refine C1.mono ?_
  rintro e w1 ⟨res, jj, rfl, hSK, hm, hx⟩
  clear C1
  have R1 := QsR.met HF.out hm hx
  have HSK := Lib.hid hSK
  by_cases hr : 0 ≤ res ∧ res < (vs.length : Int)
  · obtain ⟨n, rfl⟩ := Int.eq_ofNat_of_zero_le hr.1
    have hn : n < vs.length := by have := hr.2; omega
    have hfd : fdR (.row vs) (n : Int) = (n : Int) := by show (if (n : Int) < (vs.length : Int) then (n : Int) else -1) = _; rw [if_pos hr.2]
    have HFN : Hid (Fnd F.kt.es k n) := by
      rcases hSK with ⟨m, hm1, hm2, _⟩ | ⟨h9, _⟩
      · obtain rfl : m = n := by omega
        exact hm2
      · omega
    obtain ⟨vv, h1, h2, h3, h4⟩ := R1.qp.sm
    have k2 : w1.cell? ⟨s, 2, none⟩ = some (.pointer none) := h1.c 2 (by omega)
    have CP := (rprivate_any R1.qp R1.n ha hd HO.out hvl).mono (R' := fun e w2 => e = .returned (.tuple #[]) ∧ ∃ g, w2.cell? ⟨s, 2, none⟩ = some (.pointer (some ⟨g, 0, none⟩)) ∧ Calls Tryz.prog 72 #[.pointer (some ⟨g, 0, none⟩), .int .i64 (n : Int)] w2 fun e w3 => e = .returned (.int .i64 0) ∧ (w3.cell? ⟨s, 3, none⟩ = some (.int .i64 (v : Int)) ∧ w3.frozen? ⟨s, 3, none⟩ = false) ∧ Hid (RDelQ w f F (.pointer pr) a b c d XF s (.row vs) v XS nm 0 (w3.setCell ⟨s, 3, none⟩ (.int .i64 ((v : Int) + 1))))) (fun e w2 ⟨e1, e2⟩ => by
      obtain ⟨XS2, R2⟩ := e2.left
      obtain ⟨a1, a2⟩ := turnN_at F.kt.es vs hn
      obtain ⟨t1, t2, t3, t4, _⟩ := turnN_is F.kt.es vs vs.length (by omega)
      have hle := (turnN_all F.kt.es vs vs.length).1
      obtain ⟨g, k2, CK⟩ := rkill_up (R1.trans R2) a1 a2 (by omega) (by omega)
      refine ⟨e1, g, k2, CK.mono fun e w3 ⟨c1, c2, ⟨XF', XS', c3⟩⟩ => ⟨c1, c2, ?_⟩⟩
      exact rdelQ_of (.turn HK.out HFN.out hn) HK.out HSK.out c3 rfl (by show a + ((turnN F.kt.es vs vs.length).made : Int) = a + ((turnN F.kt.es vs vs.length).made : Int) - ((0 : Nat) : Int); omega) (by omega))
    have t1 : ¬ (n : Int) < 0 := by omega
    have e1 := eqQ7n
    rw [hfd]
    clear R1 hm hx hSK hfd h1 h2 h3 h4
    go_wp2_with fail
    refine CP.mono ?_
    rintro e w2 ⟨rfl, g, k5, CK⟩
    clear CP k2
    go_wp2_with fail
    refine CK.mono ?_
    rintro e w3 ⟨rfl, ⟨k6, z6⟩, HD⟩
    clear CK
    go_wp2_with fail
    go_ret
    exact ⟨0, rfl, HD.out⟩
  · have hfd : fdR (.row vs) res = -1 := by
      rcases HSK.out with ⟨m, rfl, _⟩ | ⟨rfl, _⟩
      · show (if (m : Int) < (vs.length : Int) then (m : Int) else -1) = -1
        rw [if_neg (by omega)]
      · show (if (-1 : Int) < (vs.length : Int) then (-1 : Int) else -1) = -1
        split <;> rfl
    have HNF : Hid (∀ n, Fnd F.kt.es k n → vs.length ≤ n) := fun n hn => by
      rcases HSK.out with ⟨m, rfl, hm2, _⟩ | ⟨rfl, h8, _⟩
      · have := HO.out.nle.one hm2 hn
        omega
      · exact absurd hn (h8 n)
    have HQ : Hid (RDelQ w f F (.pointer pr) a b c d XF s (.row vs) v XS nm 7 w1) := rdelQ_of (.noneR HK.out HNF.out) HK.out HSK.out R1 rfl (by omega) (by omega)
    rw [hfd]
    clear R1 hm hx hSK hfd
    go_wp2_with fail
    go_ret
    exact ⟨7, rfl, HQ.out⟩
set_option maxRecDepth 100000 in
set_option maxHeartbeats 4000000 in
theorem rdel_own {w : World} {f s : Nat} {F : Fa} {pr : Option Addr} {XF XS : Nat → Prop} {t : Tb} {v : Nat} {a b c d : Int} {c0 : Nat} (h : Qp w f F (.pointer pr) XF s (.own t) v XS) (hM : Ms w (.pointer pr) a b c d) (hb : 0 ≤ b ∧ b ≤ 10000000000) (hO : F.Ok hsT c0) (hst : (Stn.own t).Ok hsT F c0) (hc0 : c0 ≤ 90000) (hv : v ≤ 1000000000) {nm : ByteArray} (hs3 : nm.size ≤ 3000) :
    Calls Tryz.prog 33 #[.pointer (some ⟨s, 0, none⟩), .string nm] w fun e w' => ∃ er : Int, e = .returned (.int .i64 er) ∧ RDelQ w f F (.pointer pr) a b c d XF s (.own t) v XS nm er w' := by
  obtain ⟨k, hk⟩ := num_ex F.all nm
  have C1 := rfind_any h hM hb hO hst hc0 hs3 hk
  obtain ⟨t1, t2, t3, t4, t5⟩ := hst
  have hlen : t.es.length ≤ 100000 := Nat.le_trans t1.few t1.all
  have HF := Lib.hid h
  have HO := Lib.hid hO
  have HK := Lib.hid hk
  have ew : IntKind.i64.wrap ((v : Int) + 1) = (v : Int) + 1 := i64_small (by omega) (by omega)
  clear h hM hO hk t1 t2 t3 t4
  go_enter Tryz.func33, Tryz.ntmps33
  go_wp2_with fail
  refine C1.mono ?_
  rintro e w1 ⟨res, jj, rfl, hSK, hm, hx⟩
  clear C1
  have R1 := QsR.met HF.out hm hx
  have HSK := Lib.hid hSK
  have hfd : fdR (.own t) res = res := rfl
  rw [hfd]
  clear hfd
  rcases hSK with ⟨n, rfl, hn, _⟩ | ⟨rfl, hno, _⟩
  · obtain ⟨g, k2, CK0⟩ := rkill_up R1 hn.1 hn.2.1 hlen (by omega)
    have CK := CK0.mono (R' := fun e w3 => e = .returned (.int .i64 0) ∧ (w3.cell? ⟨s, 3, none⟩ = some (.int .i64 (v : Int)) ∧ w3.frozen? ⟨s, 3, none⟩ = false) ∧ Hid (RDelQ w f F (.pointer pr) a b c d XF s (.own t) v XS nm 0 (w3.setCell ⟨s, 3, none⟩ (.int .i64 ((v : Int) + 1))))) (fun e w3 ⟨c1, c2, ⟨XF', XS', c3⟩⟩ => ⟨c1, c2, rdelQ_of (.kill HK.out hn) HK.out HSK.out c3 rfl (by show a = a + (t.made : Int) - (t.made : Int); omega) (by omega)⟩)
    have t1 : ¬ (n : Int) < 0 := by omega
    have e1 := eqQ7 g
    clear R1 hm hx CK0 hn
    go_wp2_with fail
    refine CK.mono ?_
    rintro e w3 ⟨rfl, ⟨k6, z6⟩, HD⟩
    clear CK
    go_wp2_with fail
    go_ret
    exact ⟨0, rfl, HD.out⟩
  · have HQ : Hid (RDelQ w f F (.pointer pr) a b c d XF s (.own t) v XS nm 7 w1) := rdelQ_of (.noneO HK.out hno) HK.out HSK.out R1 rfl (by omega) (by omega)
    clear R1 hm hx hno
    go_wp2_with fail
    go_ret
    exact ⟨7, rfl, HQ.out⟩
theorem rdel_any {w : World} {f s : Nat} {F : Fa} {pr : Option Addr} {XF XS : Nat → Prop} {st : Stn} {v : Nat} {a b c d : Int} {c0 : Nat} (h : Qp w f F (.pointer pr) XF s st v XS) (hM : Ms w (.pointer pr) a b c d) (ha : 0 ≤ a ∧ a ≤ 100000000) (hb : 0 ≤ b ∧ b ≤ 10000000000) (hd : 0 ≤ d ∧ d ≤ 1000000000) (hO : F.Ok hsT c0) (hst : st.Ok hsT F c0) (hc0 : c0 ≤ 90000) (hv : v ≤ 1000000000) {nm : ByteArray} (hs3 : nm.size ≤ 3000) :
    Calls Tryz.prog 33 #[.pointer (some ⟨s, 0, none⟩), .string nm] w fun e w' => ∃ er : Int, e = .returned (.int .i64 er) ∧ RDelQ w f F (.pointer pr) a b c d XF s st v XS nm er w' := by
  cases st with
  | row vs => exact rdel_row h hM ha hb hd hO hst hc0 hv hs3
  | own t => exact rdel_own h hM hb hO hst hc0 hv hs3
end Go.Proofs.YtcbhpjpkjmlcnaaGreat
namespace Go.Proofs.YtcbhpjpkjmlcnaaGreat
open Go.RowKit Go.WideShapes

theorem push_rowN {W w3 : World} {X fi n B N : Nat} {F : Nat → Value} {T : TypeId} {o : Obj} {v v' : Value} {xs : List Value} (hX : Blk W X N F) (hN : 0 < N) (hne : ∀ i, v.ownBlock = some i → i ≠ X) (h1 : w3.ownsRow B T 1 v' n xs) (h2 : (W.alloc o).grownBy w3 v.ownBlock) (h3 : v'.ownBlock = v.ownBlock ∨ v'.ownBlock = some (W.alloc o).heap.size) :
    Blk w3 X N F ∧ ∀ w4, w3.setCell ⟨X, fi, none⟩ v' = w4 → Blk w4 X N (fun x => if x = fi then v' else F x) ∧ w4.ownsRow B T 1 v' n xs ∧ Ex (fun i => i = X ∨ v.ownBlock = some i) W w4 ∧ ∀ i, v'.ownBlock = some i → v.ownBlock = some i ∨ (W.heap.size ≤ i ∧ i < w4.heap.size) := by
  have lX := hX.lt hN
  have h0 : Ex (fun i => i = X ∨ v.ownBlock = some i) W (W.alloc o) := (Ex.refl _ W).alloc o
  have e1 : Ex (fun i => i = X ∨ v.ownBlock = some i) W w3 := ⟨h2.os.trans h0.os, h2.tape.trans h0.tape, h2.output.trans h0.output, Nat.le_trans h0.size h2.size, fun k hk hx => (h2.block k (Nat.lt_of_lt_of_le hk h0.size) (fun e => hx (.inr e.symm))).trans (h0.block k hk hx)⟩
  have bX : w3.heap[X]? = W.heap[X]? := (h2.block X (Nat.lt_of_lt_of_le lX h0.size) (fun e => hne X e.symm rfl)).trans (Below.heap_alloc _ _ _ lX)
  have hX3 : Blk w3 X N F := hX.same bX
  refine ⟨hX3, fun w4 hw4 => ?_⟩
  have hx4 : Ex (fun i => i = X) w3 w4 := by rw [← hw4]; exact (Ex.refl (fun i => i = X) w3).setCell (p := ⟨X, fi, none⟩) (fun _ => rfl) _
  have hp := hX3.put fi v'
  rw [hw4] at hp
  have g : ∀ i, v'.ownBlock = some i → (v.ownBlock = some i ∨ W.heap.size ≤ i) ∧ i < w3.heap.size := fun i hi => ⟨by
    rcases h3 with e | e
    · exact .inl (e ▸ hi)
    · rw [e] at hi
      injection hi with hi
      simp at hi
      exact .inr (by omega), (h1.lt i hi).2⟩
  have nX : ∀ i, v'.ownBlock = some i → i ≠ X := fun i hi => by
    rcases (g i hi).1 with y | y
    · exact hne i y
    · omega
  exact ⟨hp, owns_same h1 (fun k hk => hx4.block k (g k hk).2 (nX k hk)), e1.next hx4 (fun _ _ e => .inl e), fun i hi => ((g i hi).1).elim .inl (fun y => .inr ⟨y, Nat.lt_of_lt_of_le (g i hi).2 hx4.size⟩)⟩
theorem qfF_put (room most g : Nat) (nv nv' mr : Value) : ∀ j, j < 5 → qfF room most g nv' mr j = if j = 3 then nv' else qfF room most g nv mr j := by
  intro j hj
  have : j = 0 ∨ j = 1 ∨ j = 2 ∨ j = 3 ∨ j = 4 := by omega
  rcases this with rfl | rfl | rfl | rfl | rfl <;> rfl
/-- A name behind the family's names. -/
theorem qf_names {w w2 : World} {f s g q : Nat} {ev nv v' : Value} {F : Fa} {mr : Value} {XF XS : Nat → Prop} {st : Stn} {v : Nat} {a b c d : Int} {o : Obj} {nm : ByteArray} (h : Qp w f F mr XF s st v XS) (hQf : Qf w f g ev q nv F mr) (hXF : XF = qfX f g ev q nv) (hM : Ms w mr a b c d)
    (h1 : w2.ownsRow 0 9 1 v' (F.all.length + 1) (F.all.map Value.string ++ [.string nm])) (h2 : (w.alloc o).grownBy w2 nv.ownBlock) (h3 : v'.ownBlock = nv.ownBlock ∨ v'.ownBlock = some (w.alloc o).heap.size) :
    (w2.cell? ⟨f, 3, none⟩ = some nv ∧ w2.frozen? ⟨f, 3, none⟩ = false) ∧ ∀ w3, w2.setCell ⟨f, 3, none⟩ v' = w3 → ∃ XF', QsR w f mr XF XS s { F with all := F.all ++ [nm] } st v a b c d w3 XF' XS := by
  subst hXF
  obtain ⟨p1, p2⟩ := push_rowN (fi := 3) hQf.hd (by omega) (fun i hi => (hQf.n2 i hi).1) h1 h2 h3
  refine ⟨⟨p1.c 3 (by omega), p1.z 3⟩, fun w3 hw3 => ?_⟩
  obtain ⟨m1, m2, m3, m4⟩ := p2 w3 hw3
  have hin : ∀ k, qfX f g ev q v' k → qfX f g ev q nv k ∨ w.heap.size ≤ k := by
    rintro k (y | y | y | y | y)
    · exact .inl (.inl y)
    · exact .inl (.inr (.inl y))
    · exact .inl (.inr (.inr (.inl y)))
    · exact .inl (.inr (.inr (.inr (.inl y))))
    · rcases m4 k y with z | z
      · exact .inl (.inr (.inr (.inr (.inr z))))
      · exact .inr z.1
  have ns3 : Ns w3 v' (F.all ++ [nm]) := by
    unfold Ns
    rw [List.length_append, List.map_append]
    exact m2
  have kt3 : RtS w3 g ev q F.kt mr := hQf.kt.same fun k hk => m3.block k (hQf.kt.lt' k hk) (fun y => by
    rcases y with y | y
    · exact hQf.n1 (y ▸ hk)
    · exact (hQf.n2 k y).2 hk)
  refine ⟨qfX f g ev q v', ⟨⟨⟨g, ev, q, v', ⟨m1.congr (qfF_put _ _ _ _ _ _), kt3, ns3, hQf.n1, fun k hk => ?_, fun k hk => ?_⟩, rfl⟩, h.sm.same fun k hk => m3.block k (h.sm.lt k hk) (fun y => ?_), fun k hk y => ?_, h.mq⟩, hM.same fun k hk => m3.block k (hM.lt k hk) (fun y => ?_), hin, fun _ y => .inl y, m3.mono fun k _ y => ?_⟩⟩
  · rcases m4 k hk with z | z
    · exact hQf.n2 k z
    · refine ⟨fun e => ?_, fun y => ?_⟩
      · have := hQf.lt f (.inl rfl); omega
      · have := hQf.kt.lt' k y; omega
  · refine ⟨(hQf.mp k hk).1, fun y => ?_⟩
    rcases m4 k y with z | z
    · exact (hQf.mp k hk).2 z
    · have := hM.lt k hk; omega
  · refine h.ap k ?_ hk
    rcases y with y | y
    · exact .inl y
    · exact .inr (.inr (.inr (.inr y)))
  · rcases hin k hk with z | z
    · exact h.ap k z y
    · have := h.sm.lt k y; omega
  · refine hQf.nm k hk ?_
    rcases y with y | y
    · exact .inl y
    · exact .inr (.inr (.inr (.inr y)))
  · rcases y with y | y
    · exact .inl (.inl y)
    · exact .inl (.inr (.inr (.inr (.inr y))))
/-- The key table has changed. -/
theorem qf_keys {w w' : World} {f s g q q' : Nat} {ev ev' nv : Value} {F : Fa} {t' : Tb} {mr : Value} {XF XS : Nat → Prop} {st : Stn} {v : Nat} (h : Qp w f F mr XF s st v XS) (hQf : Qf w f g ev q nv F mr) (hXF : XF = qfX f g ev q nv)
    (hR : RtS w' g ev' q' t' mr) (nq : q' = q ∨ w.heap.size ≤ q') (ne : ∀ j, ev'.ownBlock = some j → ev.ownBlock = some j ∨ w.heap.size ≤ j) {a' b' c' d' : Int} (hM' : Ms w' mr a' b' c' d') (hx : Ex (tX g ev q mr) w w') : ∃ XF', QsR w f mr XF XS s { F with kt := t' } st v a' b' c' d' w' XF' XS := by
  subst hXF
  have hin : ∀ k, (k = g ∨ k = q' ∨ ev'.ownBlock = some k) → (k = g ∨ k = q ∨ ev.ownBlock = some k) ∨ w.heap.size ≤ k := by
    rintro k (y | y | y)
    · exact .inl (.inl y)
    · rcases nq with e | e
      · exact .inl (.inr (.inl (y.trans e)))
      · exact .inr (y ▸ e)
    · rcases ne k y with e | e
      · exact .inl (.inr (.inr e))
      · exact .inr e
  have toX : ∀ k, (k = g ∨ k = q ∨ ev.ownBlock = some k) → qfX f g ev q nv k := by
    rintro k (y | y | y)
    · exact .inr (.inl y)
    · exact .inr (.inr (.inl y))
    · exact .inr (.inr (.inr (.inl y)))
  have kp : ∀ k, k < w.heap.size → ¬ (k = g ∨ k = q ∨ ev.ownBlock = some k) → ¬ mB mr k → w'.heap[k]? = w.heap[k]? := fun k hk n1 n2 => hx.block k hk fun y => by
    rcases y with y | y | y | y
    · exact n1 (.inl y)
    · exact n1 (.inr (.inl y))
    · exact n1 (.inr (.inr y))
    · exact n2 y
  have lf := hQf.lt f (.inl rfl)
  refine ⟨qfX f g ev' q' nv, ⟨⟨⟨g, ev', q', nv, ⟨hQf.hd.same (kp f lf hQf.n1 fun y => (hQf.mp f y).1 rfl), hR, hQf.ns.same fun k hk => kp k (hQf.ns.lt k hk) (hQf.n2 k hk).2 (fun y => (hQf.mp k y).2 hk), fun y => ?_, fun k hk => ⟨(hQf.n2 k hk).1, fun y => ?_⟩, hQf.mp⟩, rfl⟩, h.sm.same fun k hk => kp k (h.sm.lt k hk) (fun y => h.ap k (toX k y) hk) (fun y => h.mq k y hk), fun k hk y => ?_, h.mq⟩, hM', fun k hk => ?_, fun _ y => .inl y, hx.mono fun k _ y => ?_⟩⟩
  · rcases hin f y with z | z
    · exact hQf.n1 z
    · omega
  · rcases hin k y with z | z
    · exact (hQf.n2 k hk).2 z
    · have := hQf.ns.lt k hk; omega
  · have hl := h.sm.lt k y
    rcases hk with z | z | z | z | z
    · exact h.ap k (.inl z) y
    · exact h.ap k (.inr (.inl z)) y
    · rcases hin k (.inr (.inl z)) with u | u
      · exact h.ap k (toX k u) y
      · omega
    · rcases hin k (.inr (.inr z)) with u | u
      · exact h.ap k (toX k u) y
      · omega
    · exact h.ap k (.inr (.inr (.inr (.inr z)))) y
  · rcases hk with z | z | z | z | z
    · exact .inl (.inl z)
    · exact .inl (.inr (.inl z))
    · rcases hin k (.inr (.inl z)) with u | u
      · exact .inl (toX k u)
      · exact .inr u
    · rcases hin k (.inr (.inr z)) with u | u
      · exact .inl (toX k u)
      · exact .inr u
    · exact .inl (.inr (.inr (.inr (.inr z))))
  · rcases y with y | y | y | y
    · exact .inl (toX k (.inl y))
    · exact .inl (toX k (.inr (.inl y)))
    · exact .inl (toX k (.inr (.inr y)))
    · exact .inr (.inr y)
/-- What a Set of the document leaves. -/
def RSetQ (w : World) (f : Nat) (F : Fa) (mr : Value) (a b c d : Int) (XF : Nat → Prop) (s : Nat) (st : Stn) (v : Nat) (XS : Nat → Prop) (nm : ByteArray) (x : Int) (er : Int) (w' : World) : Prop :=
  ∃ F' st' dc dd, SetR hsT F nm x st F' st' er dc dd ∧ ∃ k res jj, Num F.all nm k ∧ SkR (tbS F st) (hsT nm) k res jj ∧ ∃ XF' XS', QsR w f mr XF XS s F' st' (if er = 0 then v + 1 else v) (a + (F'.kt.made : Int) - (F.kt.made : Int) + (mdS st' : Int) - (mdS st : Int)) (b + (jj : Int)) (c + (dc : Int)) (d + (dd : Int)) w' XF' XS'
theorem rsetQ_of {w w' : World} {f : Nat} {F : Fa} {mr : Value} {a b c d : Int} {XF : Nat → Prop} {s : Nat} {st : Stn} {v : Nat} {XS : Nat → Prop} {nm : ByteArray} {x : Int} {er : Int} {F' : Fa} {st' : Stn} {dc dd : Nat} {k res : Int} {jj v' : Nat} {a' c' d' : Int} {XF' XS' : Nat → Prop} (hset : SetR hsT F nm x st F' st' er dc dd) (hk : Num F.all nm k) (hsk : SkR (tbS F st) (hsT nm) k res jj)
    (R : QsR w f mr XF XS s F' st' v' a' (b + (jj : Int)) c' d' w' XF' XS') (hv : v' = if er = 0 then v + 1 else v) (ha : a' = a + (F'.kt.made : Int) - (F.kt.made : Int) + (mdS st' : Int) - (mdS st : Int)) (hc : c' = c + (dc : Int)) (hd : d' = d + (dd : Int)) : RSetQ w f F mr a b c d XF s st v XS nm x er w' := by
  subst hv ha hc hd
  exact ⟨F', st', dc, dd, hset, k, res, jj, hk, hsk, XF', XS', R⟩
end Go.Proofs.YtcbhpjpkjmlcnaaGreat
