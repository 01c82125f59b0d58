/-
  The law's does: the last Seeker's Next, so many times.
  The law's does: the last Seeker's Next, so many times: the walk.
-/
import Derived.Test.YtdjabdmnknlaeaaGreatTwm
import Derived.Test.YtdjabdmnknlaeaaGreatTwa
namespace Go.Proofs.YtdjabdmnknlaeaaGreat
open Go.RowKit Go.WideShapes

set_option maxRecDepth 100000 in
set_option maxHeartbeats 4000000 in
/-- The document's Seeker that has ended. -/
theorem rnext_end {w : World} {g : Nat} {ev : Value} {q : Nat} {t : Tb} {mv : Value} (hR : Rt w g ev q t mv) {s : Nat} {u2 : Int} {tu cell p2 v : Nat} {over : Bool} {last : Int} (hB : Blk w s 8 (sF g u2 tu cell p2 over v last)) (hO : over = true ∨ tu < t.turn) :
    Calls Tryz.prog 37 #[.pointer (some ⟨s, 0, none⟩)] w fun e w' => e = .returned (.tuple #[.int .i64 (-1), .bool false]) ∧ Blk w' s 8 (sF g u2 tu cell p2 true v last) ∧ Ex (fun k => k = s) w w' := by
  have x0 : w.cell? ⟨s, 0, none⟩ = some (.pointer (some ⟨g, 0, none⟩)) := hB.c 0 (by omega)
  have x2 : w.cell? ⟨s, 2, none⟩ = some (.int .i64 (tu : Int)) := hB.c 2 (by omega)
  have x5 : w.cell? ⟨s, 5, none⟩ = some (.bool over) := hB.c 5 (by omega)
  have z5 := hB.z 5
  have f6 : w.cell? ⟨g, 6, none⟩ = some (.int .i64 (t.turn : Int)) := hR.hd.c 6 (by omega)
  have HFIN : Hid (∀ nq, Blk ((w.drewN nq).setCell ⟨s, 5, none⟩ (.bool true)) s 8 (sF g u2 tu cell p2 true v last) ∧ Ex (fun k => k = s) w ((w.drewN nq).setCell ⟨s, 5, none⟩ (.bool true))) := fun nq => by
    refine ⟨((hB.drewN nq).put 5 _).congr (fun j hj => ?_), (show Ex (fun k => k = s) w (w.drewN nq) from ⟨rfl, rfl, rfl, Nat.le_refl _, fun _ _ _ => rfl⟩).setCell (p := ⟨s, 5, none⟩) (fun _ => rfl) _⟩
    have : j = 0 ∨ j = 1 ∨ j = 2 ∨ j = 3 ∨ j = 4 ∨ j = 5 ∨ j = 6 ∨ j = 7 := by omega
    rcases this with rfl | rfl | rfl | rfl | rfl | rfl | rfl | rfl <;> rfl
  cases over with
  | true =>
    clear hB hR hO
    go_enter Tryz.func37, Tryz.ntmps37
    go_wp2_with fail
    go_loopg [4] 0 (fun _ _ wr => wr = w)
    case atStart => rfl
    case round =>
      subst hrel
      go_upto_region 1 with fail
      go_quiet (fail)
      go_wp2
      go_ret2
      exact ⟨rfl, HFIN.out _⟩
  | false =>
    have hlt : tu < t.turn := hO.elim (fun e => by cases e) id
    have tq : ((tu : Int) == (t.turn : Int)) = false := by rw [beq_eq_false_iff_ne]; omega
    clear hB hR hO
    generalize t.turn = tn at *
    go_enter Tryz.func37, Tryz.ntmps37
    go_wp2_with fail
    go_loopg [4] 0 (fun _ _ wr => wr = w)
    case atStart => rfl
    case round =>
      subst hrel
      go_upto_region 1 with fail
      go_quiet (fail)
      go_wp2
      go_ret2
      exact ⟨rfl, HFIN.out _⟩
/-- What both tell is one. -/
theorem next_one {t : Tb} {u : Int} {told : Int} (hI : Inv t.es t.L t.c) {j1 j2 n1 n2 : Nat} (o1 : Of t.es u n1) (l1 : told < (n1 : Int)) (a1 : Told t.es t.L t.c u j1 told) (b1 : Told t.es t.L t.c u (j1 + 1) (n1 : Int)) (m1 : ∀ m, Of t.es u m → told < (m : Int) → n1 ≤ m)
    (o2 : Of t.es u n2) (l2 : told < (n2 : Int)) (a2 : Told t.es t.L t.c u j2 told) (b2 : Told t.es t.L t.c u (j2 + 1) (n2 : Int)) (m2 : ∀ m, Of t.es u m → told < (m : Int) → n2 ≤ m) : n1 = n2 ∧ j1 = j2 := by
  have h1 := m1 n2 o2 l2
  have h2 := m2 n1 o1 l1
  obtain rfl : n1 = n2 := by omega
  obtain ⟨q, hq⟩ := hI.pos n1 o1.1 o1.2.1
  have k1 := a1 n1 o1 q hq
  have k2 := b1 n1 o1 q hq
  have k3 := a2 n1 o1 q hq
  have k4 := b2 n1 o1 q hq
  refine ⟨rfl, ?_⟩
  have e1 : ¬ q < j1 := fun h => by have := k1.1 h; omega
  have e2 : q < j1 + 1 := k2.2 (Int.le_refl _)
  have e3 : ¬ q < j2 := fun h => by have := k3.1 h; omega
  have e4 : q < j2 + 1 := k4.2 (Int.le_refl _)
  omega
/-- Both Seekers have gone on. -/
theorem Tw.goes_on {w w2 : World} {X : Nat} {p : Pl} {t : Tb} {mv mr : Value} {M : Int → Int → World → Prop} {a b b' : Int} (hT : Tw w X p t mv mr M a b) {s s2 : Nat} (hs : p.sp = .pointer (some ⟨s, 0, none⟩)) (hk : p.kp = .pointer (some ⟨s2, 0, none⟩))
    (x : Ex (fun k => k = s ∨ k = s2 ∨ mB mv k ∨ mB mr k) w w2) (hm : M a b' w2) (hms : Ms w2 mr a b' 0 0) (hq : Lv w2 p t s s2 ∨ Ov w2 p t s s2) : Tw w2 X p t mv mr M a b' := by
  obtain ⟨lab, sp⟩ := hT.sep
  have l3 := sp.s s hs
  have l4 := sp.k s2 hk
  have key : ∀ k, k < w.heap.size → lab k ≠ 3 → lab k ≠ 4 → lab k ≠ 5 → lab k ≠ 6 → w2.heap[k]? = w.heap[k]? := fun k hl h3 h4 h5 h6 => x.block k hl (fun h => by
    rcases h with h | h | h | h
    · rw [h] at h3; exact h3 l3
    · rw [h] at h4; exact h4 l4
    · exact h5 (sp.m k h).1
    · exact h6 (sp.r k h).1)
  have hz := x.size
  refine ⟨hT.hx.same ?_, hT.dt.same fun k h => ?_, hT.rt.same fun k h => ?_, hT.ok, hm, hms, .inr ⟨s, s2, hs, hk, hq⟩, lab, fun k h => Nat.lt_of_lt_of_le (sp.lt k h) hz, sp.x, sp.d, sp.e, sp.s, sp.k, fun k h => ⟨(sp.m k h).1, Nat.lt_of_lt_of_le (sp.m k h).2 hz⟩, fun k h => ⟨(sp.r k h).1, Nat.lt_of_lt_of_le (sp.r k h).2 hz⟩⟩
  · have := sp.x
    exact key X (sp.lt X (.inl rfl)) (by omega) (by omega) (by omega) (by omega)
  · have := sp.d k h
    exact key k (sp.lt k (.inr (.inl h))) (by omega) (by omega) (by omega) (by omega)
  · have := sp.e k h
    exact key k (sp.lt k (.inr (.inr (.inl h)))) (by omega) (by omega) (by omega) (by omega)
/-- One Next on both: what the law's round asks. -/
structure Nb (w : World) (X : Nat) (p : Pl) (t : Tb) (mv mr : Value) (M : Int → Int → World → Prop) (a b : Int) (s s2 : Nat) (x : Int) (ok : Bool) (w1 w2 : World) (v : Nat) (b' : Int) : Prop where
  x1 : Ex (fun k => k = s ∨ mB mv k) w w1
  x2 : Ex (fun k => k = s2 ∨ mB mr k) w1 w2
  v1 : w2.cell? ⟨s, 7, none⟩ = some (.int .i64 (v : Int))
  v2 : w2.cell? ⟨s2, 6, none⟩ = some (.int .i64 (v : Int))
  tw : Tw w2 X p t mv mr M a b'
  bb : b ≤ b' ∧ b' ≤ b + 1048600
theorem next_both {w : World} {X : Nat} {p : Pl} {t : Tb} {pm pr : Option Addr} {M : Int → Int → World → Prop} {a b : Int} (hT : Tw w X p t (.pointer pm) (.pointer pr) M a b) (hMo : MtOk (.pointer pm) M) (hMv : MvOk (.pointer pm) M) (hb : 0 ≤ b ∧ b ≤ 100000000000) {s s2 : Nat} (hs : p.sp = .pointer (some ⟨s, 0, none⟩)) (hk : p.kp = .pointer (some ⟨s2, 0, none⟩)) :
    ∃ P : Int → Bool → World → Prop, Calls Tryz.prog 36 #[.pointer (some ⟨s, 0, none⟩)] w (fun e w1 => ∃ x ok, e = .returned (.tuple #[.int .i64 x, .bool ok]) ∧ P x ok w1) ∧
      ∀ x ok w1, P x ok w1 → Ex (fun k => k = s ∨ mB (.pointer pm) k) w w1 ∧ Calls Tryz.prog 37 #[.pointer (some ⟨s2, 0, none⟩)] w1 (fun e w2 => e = .returned (.tuple #[.int .i64 x, .bool ok]) ∧ ∃ v b', Nb w X p t (.pointer pm) (.pointer pr) M a b s s2 x ok w1 w2 v b') := by
  obtain ⟨lab, sp⟩ := hT.sep
  have l3 := sp.s s hs
  have l4 := sp.k s2 hk
  have hlen : t.es.length ≤ 100000 := Nat.le_trans hT.ok.few hT.ok.all
  have hI := hT.ok.inv
  have hP : 2 ^ t.L ≤ 1048576 := Nat.le_trans (Nat.pow_le_pow_right (n := 2) (by decide) hT.ok.sz.2) (by decide)
  have ls := sp.lt s (.inr (.inr (.inr (.inl hs))))
  have ls2 := sp.lt s2 (.inr (.inr (.inr (.inr hk))))
  have hss : s ≠ s2 := fun e => by rw [e] at l3; omega
  have nd : ¬ dX p.g p.gi p.r p.h p.ev s := fun h => by have := sp.d s h; omega
  have nm : ¬ mB (.pointer pm) s := fun h => by have := (sp.m s h).1; omega
  have nm2 : ¬ mB (.pointer pr) s2 := fun h => by have := (sp.r s2 h).1; omega
  have nm3 : ¬ mB (.pointer pm) s2 := fun h => by have := (sp.m s2 h).1; omega
  have nm4 : ¬ mB (.pointer pr) s := fun h => by have := (sp.r s h).1; omega
  have ne2 : s2 ≠ p.g2 ∧ s2 ≠ p.q2 ∧ p.ev2.ownBlock ≠ some s2 := ⟨fun e => by have := sp.e s2 (.inl e); omega, fun e => by have := sp.e s2 (.inr (.inl e)); omega, fun e => by have := sp.e s2 (.inr (.inr e)); omega⟩
  have key1 : ∀ w1, Ex (fun k => k = s ∨ mB (.pointer pm) k) w w1 → RtS w1 p.g2 p.ev2 p.q2 t (.pointer pr) ∧ Ms w1 (.pointer pr) a b 0 0 := fun w1 x1 => ⟨hT.rt.same fun k hk' => x1.block k (sp.lt k (.inr (.inr (.inl hk')))) (fun h => by
      have h2 := sp.e k hk'
      rcases h with h | h
      · rw [h] at h2; omega
      · have := (sp.m k h).1; omega), hT.ms.same fun k hk' => x1.block k (sp.r k hk').2 (fun h => by
      have h2 := (sp.r k hk').1
      rcases h with h | h
      · rw [h] at h2; omega
      · have := (sp.m k h).1; omega)⟩
  have key2 : ∀ w1 w2, Ex (fun k => k = s ∨ mB (.pointer pm) k) w w1 → Ex (fun k => k = s2 ∨ mB (.pointer pr) k) w1 w2 → Ex (fun k => k = s ∨ k = s2 ∨ mB (.pointer pm) k ∨ mB (.pointer pr) k) w w2 := fun w1 w2 x1 x2 => (x1.mono (fun k _ h => h.elim .inl (fun y => .inr (.inr (.inl y))))).next x2 (fun k _ h => h.elim (fun y => .inr (.inl y)) (fun y => .inr (.inr (.inr y))))
  have key3 : ∀ w1 w2 b', Ex (fun k => k = s ∨ mB (.pointer pm) k) w w1 → Ex (fun k => k = s2 ∨ mB (.pointer pr) k) w1 w2 → M a b' w1 → M a b' w2 := fun w1 w2 b' x1 x2 hm => hMo.same _ _ _ _ hm fun k hk' => x2.block k (Nat.lt_of_lt_of_le (sp.m k hk').2 x1.size) (fun h => by
      have h2 := (sp.m k hk').1
      rcases h with h | h
      · rw [h] at h2; omega
      · have := (sp.r k h).1; omega)
  have key4 : ∀ w1 w2, Ex (fun k => k = s ∨ mB (.pointer pm) k) w w1 → Ex (fun k => k = s2 ∨ mB (.pointer pr) k) w1 w2 → w2.heap[s]? = w1.heap[s]? := fun w1 w2 x1 x2 => x2.block s (Nat.lt_of_lt_of_le ls x1.size) (fun h => h.elim (fun e => hss e) nm4)
  rcases hT.sq with h0 | ⟨s', s2', hs', hk', hq⟩
  · rw [hs] at h0; cases h0
  · rw [hs] at hs'
    rw [hk] at hk'
    cases hs'
    cases hk'
    rcases hq with hq | hq
    · obtain ⟨u, i, told, f, hSk, hB2, hTo, hF, hif, hf, htd⟩ := hq
      have C1 := next7_any hT.dt hI hMo hMv hT.m hb hSk nd nm (by omega) hTo hF hf hif htd hlen
      refine ⟨fun x ok w1 => ∃ j, i ≤ j ∧ j ≤ f ∧ ((∃ n : Nat, x = (n : Int) ∧ ok = true ∧ Of t.es u n ∧ told < (n : Int) ∧ t.c (trl (uw u) t.L j) = (n : Int) ∧ Told t.es t.L t.c u j told ∧ Told t.es t.L t.c u (j + 1) (n : Int) ∧ (∀ m, Of t.es u m → told < (m : Int) → n ≤ m) ∧ Nx w s p.g t (.pointer pm) M a b u i i j (.pointer (some ⟨p.g, 0, none⟩)) (n : Int) w1) ∨ (x = -1 ∧ ok = false ∧ j = f ∧ (∀ n, Of t.es u n → (n : Int) ≤ told) ∧ Nx w s p.g t (.pointer pm) M a b u i i j (.pointer none) told w1)), C1.mono ?_, ?_⟩
      · rintro e w1 ⟨j, h1, h2, (⟨n, rfl, h3⟩ | ⟨rfl, h3⟩)⟩
        · exact ⟨_, _, rfl, j, h1, h2, .inl ⟨n, rfl, rfl, h3⟩⟩
        · exact ⟨_, _, rfl, j, h1, h2, .inr ⟨rfl, rfl, h3⟩⟩
      · rintro x ok w1 ⟨j, hij, hjf, hcase⟩
        have x1 : Ex (fun k => k = s ∨ mB (.pointer pm) k) w w1 := by rcases hcase with ⟨n, _, _, _, _, _, _, _, _, hN⟩ | ⟨_, _, _, _, hN⟩ <;> exact hN.ex
        refine ⟨x1, ?_⟩
        have hB21 := hB2.same (x1.block s2 ls2 (fun h => h.elim (fun e => hss e.symm) nm3))
        have C2 := rnext_s (key1 w1 x1).1 hI (key1 w1 x1).2 ne2 nm2 hB21 hTo hF hif hf (by omega) hb htd hlen
        refine C2.mono ?_
        rintro e w2 ⟨j2, hij2, hjf2, hcase2⟩
        rcases hcase with ⟨n, rfl, rfl, o1, l1, c1, a1, b1, m1, hN⟩ | ⟨rfl, rfl, rfl, hall, hN⟩
        · rcases hcase2 with ⟨n2, rfl, o2, l2, c2, a2, b2, m2, hR⟩ | ⟨_, _, hall, _⟩
          · obtain ⟨rfl, rfl⟩ := next_one hI o1 l1 a1 b1 m1 o2 l2 a2 b2 m2
            have hjlt : j < f := by
              rcases Nat.lt_or_ge j f with z | z
              · exact z
              · have : j = f := by omega
                rw [this, hF.1] at c1
                omega
            refine ⟨rfl, j + 1, b + ((j + 1 - i : Nat) : Int), hN.ex, hR.ex, ?_, ?_, ?_, by omega, by omega⟩
            · have : w2.cell? ⟨s, 7, none⟩ = some (.int .i64 ((i + (j + 1 - i) : Nat) : Int)) := (World.cell?_of_block (a := ⟨s, 7, none⟩) (key4 w1 w2 hN.ex hR.ex)).trans (hN.sk.c 7 (by omega))
              rw [show i + (j + 1 - i) = j + 1 by omega] at this
              exact this
            · have : w2.cell? ⟨s2, 6, none⟩ = some (.int .i64 ((i + (j + 1 - i) : Nat) : Int)) := hR.bk.c 6 (by omega)
              rw [show i + (j + 1 - i) = j + 1 by omega] at this
              exact this
            · refine hT.goes_on hs hk (key2 w1 w2 hN.ex hR.ex) (key3 w1 w2 _ hN.ex hR.ex hN.m) hR.ms (.inl ⟨u, j + 1, n, f, ?_, ?_, b1, hF, hjlt, hf, by omega⟩)
              · have := hN.sk.same (key4 w1 w2 hN.ex hR.ex)
                rw [show i + (j + 1 - i) = j + 1 by omega] at this
                exact this
              · have := hR.bk
                rw [show i + (j + 1 - i) = j + 1 by omega] at this
                exact this
          · exact absurd (hall n o1) (by omega)
        · rcases hcase2 with ⟨n2, rfl, o2, l2, _⟩ | ⟨rfl, rfl, _, hR⟩
          · exact absurd (hall n2 o2) (by omega)
          · refine ⟨rfl, j2 + 1, b + ((j2 + 1 - i : Nat) : Int), hN.ex, hR.ex, ?_, ?_, ?_, by omega, by omega⟩
            · have : w2.cell? ⟨s, 7, none⟩ = some (.int .i64 ((i + (j2 + 1 - i) : Nat) : Int)) := (World.cell?_of_block (a := ⟨s, 7, none⟩) (key4 w1 w2 hN.ex hR.ex)).trans (hN.sk.c 7 (by omega))
              rw [show i + (j2 + 1 - i) = j2 + 1 by omega] at this
              exact this
            · have : w2.cell? ⟨s2, 6, none⟩ = some (.int .i64 ((i + (j2 + 1 - i) : Nat) : Int)) := hR.bk.c 6 (by omega)
              rw [show i + (j2 + 1 - i) = j2 + 1 by omega] at this
              exact this
            · exact hT.goes_on hs hk (key2 w1 w2 hN.ex hR.ex) (key3 w1 w2 _ hN.ex hR.ex hN.m) hR.ms (.inr ⟨_, _, _, _, _, _, _, _, hN.sk.same (key4 w1 w2 hN.ex hR.ex), .inl rfl, _, _, _, _, _, _, hR.bk, .inl rfl⟩)
    · obtain ⟨tp, tu, u, c, q, S, told, v, hB1, htp, u2, tu2, cell, q2, over, last, hB2, hov⟩ := hq
      have CE : Calls Tryz.prog 61 #[.pointer (some ⟨s, 0, none⟩)] w fun e w' => e = .returned (.bool true) ∧ Below w.heap.size w w' := by
        rcases htp with rfl | ⟨rfl, hlt⟩
        · exact hasEnded_over (hB1.c 0 (by omega))
        · exact hasEnded_turn (hB1.c 0 (by omega)) (hB1.c 1 (by omega)) (hT.dt.hd.c 6 (by omega)) hlt
      refine ⟨fun x ok w1 => x = -1 ∧ ok = false ∧ Below w.heap.size w w1, (next7_end CE).mono ?_, ?_⟩
      · rintro e w1 ⟨rfl, hbl⟩
        exact ⟨_, _, rfl, rfl, rfl, hbl⟩
      · rintro x ok w1 ⟨rfl, rfl, hbl⟩
        refine ⟨ex_of hbl, ?_⟩
        have C2 := rnext_end (key1 w1 (ex_of hbl)).1 (hB2.of hbl (by omega)) hov
        refine C2.mono ?_
        rintro e w2 ⟨rfl, hB22, hx2⟩
        have x2 : Ex (fun k => k = s2 ∨ mB (.pointer pr) k) w1 w2 := hx2.mono (fun k _ h => .inl h)
        have x1 : Ex (fun k => k = s ∨ mB (.pointer pm) k) w w1 := ex_of hbl
        have hB12 := (hB1.of hbl (by omega)).same (key4 w1 w2 x1 x2)
        refine ⟨rfl, v, b, x1, x2, hB12.c 7 (by omega), hB22.c 6 (by omega), ?_, by omega, by omega⟩
        refine hT.goes_on hs hk (key2 w1 w2 x1 x2) (key3 w1 w2 _ x1 x2 (hMo.below hT.m hbl)) ((key1 w1 x1).2.same fun k hk' => hx2.block k (Nat.lt_of_lt_of_le (sp.r k hk').2 hbl.size) (fun (e : k = s2) => nm2 (e ▸ hk'))) (.inr ⟨_, _, _, _, _, _, _, _, hB12, htp, _, _, _, _, _, _, hB22, .inl rfl⟩)
end Go.Proofs.YtdjabdmnknlaeaaGreat
namespace Go.Proofs.YtdjabdmnknlaeaaGreat
open Go.RowKit Go.WideShapes

set_option maxRecDepth 100000 in
set_option maxHeartbeats 8000000 in
theorem does_next {w : World} {X : Nat} {p : Pl} {t : Tb} {pm pr : Option Addr} {M : Int → Int → World → Prop} {a b : Int} {n : Nat} (hT : Tw w X p t (.pointer pm) (.pointer pr) M a b) (hMo : MtOk (.pointer pm) M) (hMv : MvOk (.pointer pm) M) (hBd : Bd t a b n) (hn : n ≤ 2000) (x1 x2 x3 x4 : Int) :
    Calls Tryz.prog 10 #[.pointer (some ⟨X, 0, none⟩), .agg #[.int .i64 8, .int .i64 x1, .int .i64 x2, .int .i64 x3, .int .i64 x4]] w fun e w' => e = .returned (.bool true) ∧ ∃ p' a' b', Dn w X p (.pointer pm) (.pointer pr) M (n + 1) p' (t.step 8 x1 x2 x3 x4) a' b' w' := by
  obtain ⟨w0, hw0⟩ : ∃ y, w.alloc (.cells #[.int .i64 8, .int .i64 x1, .int .i64 x2, .int .i64 x3, .int .i64 x4] 51) = y := ⟨_, rfl⟩
  have hb : Below w.heap.size w w0 := by rw [← hw0]; exact (Below.refl _ w).alloc (Nat.le_refl _) _
  have hT0 := hT.below hMo hb
  have hB0 : Blk w0 w.heap.size 5 (fun j => #[Value.int .i64 8, .int .i64 x1, .int .i64 x2, .int .i64 x3, .int .i64 x4].getD j .nilFunc) := by rw [← hw0]; exact Blk.new w #[Value.int .i64 8, .int .i64 x1, .int .i64 x2, .int .i64 x3, .int .i64 x4] 51
  have c4 : w0.cell? ⟨w.heap.size, 4, none⟩ = some (.int .i64 x4) := hB0.c 4 (by omega)
  have hlb := hB0.lt (by omega)
  obtain ⟨lab, sp⟩ := hT.sep
  have HNX : Hid (∀ k, p.all X k ∨ mB (.pointer pm) k ∨ mB (.pointer pr) k → k < w.heap.size) := fun k h => by
    rcases h with h | h | h
    · exact sp.lt k h
    · exact (sp.m k h).2
    · exact (sp.r k h).2
  have HBD := Lib.hid hBd
  have HW0 := Lib.hid hw0
  have HB := Lib.hid hb
  have HT0 := Lib.hid hT0
  have HMo := Lib.hid hMo
  have HMv := Lib.hid hMv
  have HFIN : Hid (∀ b' wr, Tw wr X p t (.pointer pm) (.pointer pr) M a b' → b ≤ b' → b' ≤ b + 16 * 1048600 → Ex (fun k => p.all X k ∨ mB (.pointer pm) k ∨ mB (.pointer pr) k) w0 wr → ∃ p' a' b', Dn w X p (.pointer pm) (.pointer pr) M (n + 1) p' (t.step 8 x1 x2 x3 x4) a' b' wr) := fun b' wr h1 h2 h3 h4 => by
    obtain ⟨d1, d2, d3, d4, d5, d6, d7⟩ := HBD.out
    rw [step_same t 8 x1 x2 x3 x4 ⟨by decide, by decide, by decide, by decide, by decide⟩]
    exact ⟨_, _, _, dn_of (n := n + 1) HB.out ⟨h1, fun k hk => .inl hk, h4⟩ ⟨by omega, by omega, by omega, d4, by omega, by omega, by omega⟩⟩
  have hbnd : 0 ≤ b ∧ b ≤ 50000000000 := by
    obtain ⟨d1, d2, d3, d4, d5, d6, d7⟩ := hBd
    omega
  clear hw0 hb hT0 hT hMo hMv sp hB0 hBd
  go_enter Tryz.func10, Tryz.ntmps10
  go_wp2_with fail
  rw [HW0.out]
  generalize w.heap.size = bx at *
  go_loopw [13, 14, 15, 16, 17] (fun iv _ _ _ _ wr => ∃ (k : Nat) (b' : Int), k ≤ 16 ∧ iv = .int .i64 (k : Int) ∧ b ≤ b' ∧ b' ≤ b + (k : Int) * 1048600 ∧ Tw wr X p t (.pointer pm) (.pointer pr) M a b' ∧ Ex (fun k => p.all X k ∨ mB (.pointer pm) k ∨ mB (.pointer pr) k) w0 wr) (fun iv _ _ _ _ _ => 16 - (intOf iv).toNat)
  case atStart => exact ⟨0, b, by omega, rfl, by omega, by omega, HT0.out, Ex.refl _ _⟩
  case round =>
    obtain ⟨k, b', hk, rfl, hb1, hb2, hTk, hXk⟩ := hrel
    have r4 := (World.cell?_of_block (a := ⟨bx, 4, none⟩) (hXk.block bx hlb (fun h => by have := HNX.out bx h; omega))).trans c4
    have q2 : wr.cell? ⟨X, 2, none⟩ = some p.sp := hTk.hx.c 2 (by omega)
    have q3 : wr.cell? ⟨X, 3, none⟩ = some p.kp := hTk.hx.c 3 (by omega)
    by_cases hgo : (k : Int) < x4 ∧ k < 16
    · obtain ⟨t1, hk16⟩ := hgo
      have t2 : (k : Int) < 16 := by omega
      rcases hTk.sq with hnil | ⟨s, s2, hs, hk2, _⟩
      · have HF := Lib.hid (HFIN.out b' wr hTk hb1 (by omega) hXk)
        rw [hnil] at q2
        clear hTk hXk hnil
        go_wp2_with fail
        go_ret
        exact ⟨rfl, HF.out⟩
      · obtain ⟨P, C1, C2⟩ := next_both hTk HMo.out HMv.out ⟨by omega, by omega⟩ hs hk2
        have HC2 := Lib.hid C2
        have hnq := neqS s
        obtain ⟨lab2, sp2⟩ := hTk.sep
        have l0 := sp2.x
        have l3 := sp2.s s hs
        have l4 := sp2.k s2 hk2
        have HSP := Lib.hid sp2
        have hlX := sp2.lt X (.inl rfl)
        have HXk := Lib.hid hXk
        rw [hs] at q2
        rw [hk2] at q3
        have hls := sp2.lt s (.inr (.inr (.inr (.inl hs))))
        have HK1 : Hid (∀ w1, Ex (fun k => k = s ∨ mB (.pointer pm) k) wr w1 → w1.heap[X]? = wr.heap[X]?) := fun w1 h1 => h1.block X hlX (fun h => by
          rcases h with h | h
          · rw [h] at l0; omega
          · have := (sp2.m X h).1; omega)
        have HALL : Hid (∀ w1 w2, Ex (fun k => k = s ∨ mB (.pointer pm) k) wr w1 → Ex (fun k => k = s2 ∨ mB (.pointer pr) k) w1 w2 → Ex (fun k => p.all X k ∨ mB (.pointer pm) k ∨ mB (.pointer pr) k) w0 w2) := fun w1 w2 h1 h2 => (HXk.out.next h1 (fun k _ h => h.elim (fun e => .inl (.inr (.inr (.inr (.inl (by rw [e]; exact hs)))))) (fun y => .inr (.inl y)))).next h2 (fun k _ h => h.elim (fun e => .inl (.inr (.inr (.inr (.inr (by rw [e]; exact hk2)))))) (fun y => .inr (.inr y)))
        clear hTk hXk C2 sp2 hs hk2
        go_wp2_with fail
        refine C1.mono ?_
        rintro e w1 ⟨x, ok, rfl, hPw⟩
        clear C1
        obtain ⟨hX1, C2⟩ := HC2.out x ok w1 hPw
        have p3 := (World.cell?_of_block (a := ⟨X, 3, none⟩) (HK1.out w1 hX1)).trans q3
        have HX1 := Lib.hid hX1
        clear hX1 HC2 hPw
        go_wp2_with fail
        refine C2.mono ?_
        rintro e w2 ⟨rfl, v, b2, hN⟩
        clear C2
        have hx2 := hN.tw.hx
        have u2 : w2.cell? ⟨X, 2, none⟩ = some p.sp := hx2.c 2 (by omega)
        have u3 : w2.cell? ⟨X, 3, none⟩ = some p.kp := hx2.c 3 (by omega)
        have u2' : w2.cell? ⟨X, 2, none⟩ = some (.pointer (some ⟨s, 0, none⟩)) := by
          have e := HK1.out w1 HX1.out
          have h1 := (World.cell?_of_block (a := ⟨X, 2, none⟩) e).trans q2
          exact (World.cell?_of_block (a := ⟨X, 2, none⟩) (hN.x2.block X (Nat.lt_of_lt_of_le hlX HX1.out.size) (fun h => by
            rcases h with h | h
            · rw [h] at l0; omega
            · have := (HSP.out.r X h).1; omega))).trans h1
        have u3' : w2.cell? ⟨X, 3, none⟩ = some (.pointer (some ⟨s2, 0, none⟩)) := (World.cell?_of_block (a := ⟨X, 3, none⟩) (hN.x2.block X (Nat.lt_of_lt_of_le hlX HX1.out.size) (fun h => by
            rcases h with h | h
            · rw [h] at l0; omega
            · have := (HSP.out.r X h).1; omega))).trans p3
        have v1 := hN.v1
        have v2 := hN.v2
        have CV : Calls Tryz.prog 38 #[.pointer (some ⟨s, 0, none⟩)] w2.drew fun e w' => e = .returned (.int .i64 (v : Int)) ∧ w' = w2.drew := visited_any v1
        have n1 : (x != x) = false := by simp
        have n2 : (ok != ok) = false := by simp
        have n3 : ((v : Int) != (v : Int)) = false := by simp
        have HN := Lib.hid (hN.tw.below HMo.out (Below.refl _ w2).drew)
        have HA2 := Lib.hid (HALL.out w1 w2 HX1.out hN.x2).drew
        have hbb := hN.bb
        clear hN hx2 u2 u3 q2 q3 p3 r4
        go_wp2_with fail
        go_region_held3 (fun V => V.cell? ⟨X, 2, none⟩ = some (.pointer (some ⟨s, 0, none⟩)) ∧ V.cell? ⟨X, 3, none⟩ = some (.pointer (some ⟨s2, 0, none⟩)) ∧ V.cell? ⟨s2, 6, none⟩ = some (.int .i64 (v : Int)))
          (first | exact ⟨u2', u3', v2⟩ | fail)
          (first | (go_at_call 38; refine CV.mono ?_; rintro e v2 ⟨rfl, rfl⟩) | fail)
        go_wp2_with fail
        go_roundw
        case rel => exact ⟨k + 1, b2, by omega, by go_num, by omega, by push_cast; omega, HN.out, HA2.out⟩
        case measure => simp [intOf]; omega
    · have HF := Lib.hid (HFIN.out b' wr hTk hb1 (by omega) hXk)
      clear hTk hXk
      by_cases t1 : (k : Int) < x4
      · have t2 : ¬ (k : Int) < 16 := by omega
        go_wp2_with fail
        go_ret
        exact ⟨rfl, HF.out⟩
      · go_wp2_with fail
        go_ret
        exact ⟨rfl, HF.out⟩
end Go.Proofs.YtdjabdmnknlaeaaGreat
