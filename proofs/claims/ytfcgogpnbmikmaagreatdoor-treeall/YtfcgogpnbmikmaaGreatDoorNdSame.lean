/-
  Same, none: trees that are alike.
-/
import Derived.Test.YtfcgogpnbmikmaaGreatDoorNdCp
import Derived.Deep.RegionHeld3
import Derived.BigQuiet
import Derived.Deep.QuietTactic
namespace Go.Proofs.YtfcgogpnbmikmaaGreatDoor
open Go.RowKit Go.WideShapes
namespace Nd
open Lx

/-- Alike; the places too, where they are asked. -/
def Lk (at_ : Bool) : Tr → Tr → Prop
  | .mk k a s neg mg n kid, .mk k' a' s' neg' mg' n' kid' => k = k' ∧ (at_ = true → a = a') ∧ s = s' ∧ neg = neg' ∧ mg = mg' ∧ n = n' ∧ ∀ i, i < n → Lk at_ (kid i) (kid' i)
  | .no, .no => True
  | _, _ => False
theorem Lk.refl (at_ : Bool) : ∀ t, Lk at_ t t := by
  intro t
  induction t with
  | no => trivial
  | mk k a s neg mg n kid ih => exact ⟨rfl, fun _ => rfl, rfl, rfl, rfl, rfl, fun i _ => ih i⟩
/-- A tree without its places. -/
def bare : Tr → Tr
  | .mk k _ s neg mg n kid => .mk k 0 s neg mg n (fun i => bare (kid i))
  | .no => .no
theorem bare_lk : ∀ t, Lk false (bare t) t := by
  intro t
  induction t with
  | no => trivial
  | mk k a s neg mg n kid ih => exact ⟨rfl, (fun h => by cases h), rfl, rfl, rfl, rfl, fun i _ => ih i⟩
theorem wt_bare : ∀ t, wt (bare t) = wt t := by
  intro t
  induction t with
  | no => rfl
  | mk k a s neg mg n kid ih =>
    simp only [bare, wt]
    rw [funext ih]
theorem below_dN {B : Nat} {w w' : World} (h : Below B w w') (n : Nat) : Below B w (w'.drewN n) := ⟨h.os, h.tape, h.output, h.size, h.block⟩
abbrev S14 (w0 : World) (p q : Nat) (kv lv : Value) (b1 o1 b2 o2 : Nat) (x y : Nv) (V : World) : Prop :=
  (V.cell? ⟨p, 5, none⟩ = some kv ∧ V.cell? ⟨q, 5, none⟩ = some lv) ∧ (V.cell? ⟨b1, o1, none⟩ = some (.int .i64 x.k) ∧ V.cell? ⟨b1, o1 + 1, none⟩ = some (.int .i64 x.a) ∧ V.cell? ⟨b1, o1 + 2, none⟩ = some (.string x.s) ∧ V.cell? ⟨b1, o1 + 3, none⟩ = some (.bool x.neg) ∧ V.cell? ⟨b1, o1 + 4, none⟩ = some x.mv ∧ V.cell? ⟨b1, o1 + 5, none⟩ = some x.kv) ∧
  (V.cell? ⟨b2, o2, none⟩ = some (.int .i64 y.k) ∧ V.cell? ⟨b2, o2 + 1, none⟩ = some (.int .i64 y.a) ∧ V.cell? ⟨b2, o2 + 2, none⟩ = some (.string y.s) ∧ V.cell? ⟨b2, o2 + 3, none⟩ = some (.bool y.neg) ∧ V.cell? ⟨b2, o2 + 4, none⟩ = some y.mv ∧ V.cell? ⟨b2, o2 + 5, none⟩ = some y.kv) ∧ Below w0.heap.size w0 V
theorem cell_keep {w w' : World} {b o : Nat} {v : Value} (h : w.cell? ⟨b, o, none⟩ = some v) (hb : Below w.heap.size w w') : w'.cell? ⟨b, o, none⟩ = some v := (hb.cell (p := ⟨b, o, none⟩) (lt_of_cell h)).trans h
theorem S14.keep {w0 V V' : World} {p q : Nat} {kv lv : Value} {b1 o1 b2 o2 : Nat} {x y : Nv} (h : S14 w0 p q kv lv b1 o1 b2 o2 x y V) (hb : Below V.heap.size V V') : S14 w0 p q kv lv b1 o1 b2 o2 x y V' := by
  obtain ⟨⟨h1, h2⟩, ⟨a0, a1, a2, a3, a4, a5⟩, ⟨c0, c1, c2, c3, c4, c5⟩, hB⟩ := h
  exact ⟨⟨cell_keep h1 hb, cell_keep h2 hb⟩, ⟨cell_keep a0 hb, cell_keep a1 hb, cell_keep a2 hb, cell_keep a3 hb, cell_keep a4 hb, cell_keep a5 hb⟩, ⟨cell_keep c0 hb, cell_keep c1 hb, cell_keep c2 hb, cell_keep c3 hb, cell_keep c4 hb, cell_keep c5 hb⟩, hB.trans (hb.mono hB.size)⟩
set_option maxRecDepth 100000 in
set_option maxHeartbeats 8000000 in
theorem same_any {ok ok' : Nat → Prop} (at_ : Bool) : ∀ (t u : Tr) (x y : Nv) (w : World), Rd w ok t x → Rd w ok' u y → Lk at_ t u → wt t ≤ 3000 → (∀ b, ok b → b < w.heap.size) → (∀ b, ok' b → b < w.heap.size) →
    Calls Tryz.prog 17 #[x.v, y.v, .bool at_] w fun e w' => e = .returned (.bool true) ∧ Below w.heap.size w w' := by
  intro t
  induction t with
  | no => exact fun _ _ _ _ h => h.elim
  | mk k a s neg mg n kid ih =>
    rintro (⟨k', a', s', neg', mg', n', kid'⟩ | _)
    case no => exact fun _ _ _ _ h => h.elim
    rintro ⟨xk, xa, xs, xn, xm, xkv⟩ ⟨yk, ya, ys, yn, ym, ykv⟩ w ⟨h1, h2, h3, h4, h5, ka, kc, h6, h7, b, off, h8, us, h9⟩ ⟨g1, g2, g3, g4, g5, la, lc, g6, g7, d, doff, g8, vs, g9⟩ ⟨l1, l2, l3, l4, l5, l6, l7⟩ hwt hok hok'
    simp only at h1 h2 h3 h4 h5 h6 g1 g2 g3 g4 g5 g6
    subst l1 l3 l4 l5 l6
    subst h1 h2 h3 h4 h6
    subst g1 g2 g3 g4 g6
    simp only [wt] at hwt
    have hn3 : n ≤ 3000 := by have := sm_ge (fun i => wt (kid i)) (fun i => wt_pos _) n; omega
    have hm3 : mg.length ≤ 3000 := by omega
    have HWK : Hid (∀ i, i < n → wt (kid i) ≤ 3000) := fun i hi => by have := sm_get (fun i => wt (kid i)) hi; omega
    obtain ⟨ma, mc, rfl, -, -, mb, mo, m4, m5⟩ := h5
    obtain ⟨na, nc, rfl, -, -, nb, no, n4, n5⟩ := g5
    simp only [Nv.v]
    have HIH := Lib.hid ih
    have H9 := Lib.hid h9
    have H8 := Lib.hid h8
    have G9 := Lib.hid g9
    have G8 := Lib.hid g8
    have HL2 := Lib.hid l2
    have HL7 := Lib.hid l7
    have M4 := Lib.hid m4
    have M5 := Lib.hid m5
    have N4 := Lib.hid n4
    have N5 := Lib.hid n5
    have HOK := Lib.hid hok
    have HOK2 := Lib.hid hok'
    have hat : at_ = true → decide (xa = ya) = true := fun h => by simp [l2 h]
    have hat2 : at_ = true → (xa != ya) = false := fun h => by simp [l2 h]
    clear ih h9 h8 g9 g8 l7 m4 m5 n4 n5 hok hok' hwt l2
    obtain ⟨ml, hml⟩ : ∃ ml, mg.length = ml := ⟨_, rfl⟩
    have HML := Lib.hid hml
    rw [hml] at hm3 ⊢
    clear hml
    go_enter Tryz.func17, Tryz.ntmps17
    cases at_ with
    | true =>
      have hat := hat rfl
      have hat2 := hat2 rfl
      go_wp2_with fail
      obtain ⟨W, hW⟩ : ∃ W, (w.alloc (.cells #[.int .i64 yk, .int .i64 xa, .string ys, .bool yn, .slice ma ml mc, .slice ka n kc] 27)).alloc (.cells #[.int .i64 yk, .int .i64 ya, .string ys, .bool yn, .slice na ml nc, .slice la n lc] 27) = W := ⟨_, rfl⟩
      rw [hW]
      have hsz : W.heap.size = w.heap.size + 2 := by rw [← hW]; simp
      have hbW : Below w.heap.size w W := by rw [← hW]; exact ((Below.refl _ w).alloc (Nat.le_refl _) _).alloc (by simp) _
      have hA4 : W.cell? ⟨w.heap.size, 4, none⟩ = some (.slice ma ml mc) ∧ W.cell? ⟨w.heap.size, 5, none⟩ = some (.slice ka n kc) := by
        rw [← hW]
        constructor
        · rw [World.cell?_of_block (a := ⟨w.heap.size, 4, none⟩) (Below.heap_alloc _ _ _ (by simp))]; exact World.cell?_alloc_at _ _ _ _ rfl
        · rw [World.cell?_of_block (a := ⟨w.heap.size, 5, none⟩) (Below.heap_alloc _ _ _ (by simp))]; exact World.cell?_alloc_at _ _ _ _ rfl
      have hB4 : W.cell? ⟨w.heap.size + 1, 4, none⟩ = some (.slice na ml nc) ∧ W.cell? ⟨w.heap.size + 1, 5, none⟩ = some (.slice la n lc) := by
        rw [← hW]
        constructor
        · rw [World.cell?_alloc_at _ _ _ _ (by simp)]; rfl
        · rw [World.cell?_alloc_at _ _ _ _ (by simp)]; rfl
      have HBW := Lib.hid hbW
      have HSZ := Lib.hid hsz
      have HA4 := Lib.hid hA4
      have HB4 := Lib.hid hB4
      clear hbW hsz hA4 hB4 hW
      have HSM : Hid (∀ V, Below W.heap.size W V → ∀ k, k < w.heap.size → V.heap[k]? = w.heap[k]?) := fun V hV k hk => (hV.block k (by have := HSZ.out; omega)).trans (HBW.out.block k hk)
      go_loopg [7] ml (fun gk v7 wr => ∃ i : Nat, i + gk = ml ∧ v7 = .int .i64 (i : Int) ∧ Below W.heap.size W wr)
      case atStart => exact ⟨0, by omega, rfl, Below.refl _ _⟩
      case round =>
        obtain ⟨i, hig, rfl, hB⟩ := hrel
        have HB := Lib.hid hB
        have r4 := cell_keep HA4.out.1 hB
        have s4 := cell_keep HB4.out.1 hB
        have k0 : (0 : Int) ≤ (i : Int) := by omega
        clear hB
        by_cases hin : i < ml
        · have k1 : (i : Int) < (ml : Int) := by omega
          have e2 : IntKind.i64.wrap ((i : Int) + 1) = ((i + 1 : Nat) : Int) := by rw [i64_small (by omega) (by omega)]; omega
          obtain ⟨rfl, ob⟩ := M4.out (by rw [HML.out]; omega)
          obtain ⟨rfl, ob'⟩ := N4.out (by rw [HML.out]; omega)
          have u1 := (World.cell?_of_block (a := ⟨mb, mo + i, none⟩) (HSM.out wr HB.out mb (HOK.out mb ob))).trans (M5.out i (by rw [HML.out]; exact hin))
          have u2 := (World.cell?_of_block (a := ⟨nb, no + i, none⟩) (HSM.out wr HB.out nb (HOK2.out nb ob'))).trans (N5.out i (by rw [HML.out]; exact hin))
          generalize mg.getD i 0 = q at *
          go_wp2_with fail
          go_big_quiet (fail)
          go_wp2_with fail
          go_roundg (gk - 1)
          case measure => omega
          case rel => exact ⟨i + 1, by omega, rfl, below_dN HB.out _⟩
        · have k1 : ¬ (i : Int) < (ml : Int) := by omega
          clear r4 s4
          have r4 := cell_keep HA4.out.1 HB.out
          go_wp2_with fail
          go_loopg [8] n (fun gk v8 wv => ∃ j : Nat, j + gk = n ∧ v8 = .int .i64 (j : Int) ∧ Below W.heap.size W wv)
          case atStart => exact ⟨0, by omega, rfl, HB.out⟩
          case round =>
            obtain ⟨j, hjg, rfl, hB⟩ := hrel
            have HC := Lib.hid hB
            have r5 := cell_keep HA4.out.2 hB
            have s5 := cell_keep HB4.out.2 hB
            have k2 : (0 : Int) ≤ (j : Int) := by omega
            clear hB r4
            by_cases hjn : j < n
            · have k3 : (j : Int) < (n : Int) := by omega
              have e2 : IntKind.i64.wrap ((j : Int) + 1) = ((j + 1 : Nat) : Int) := by rw [i64_small (by omega) (by omega)]; omega
              obtain ⟨rfl, ob⟩ := H8.out (by omega)
              obtain ⟨rfl, ob'⟩ := G8.out (by omega)
              obtain ⟨ha, hr⟩ := H9.out j hjn
              obtain ⟨hc, hs⟩ := G9.out j hjn
              have ha := ha.same (HSM.out wr HC.out b (HOK.out b ob))
              have hc := hc.same (HSM.out wr HC.out d (HOK2.out d ob'))
              have HRR := Lib.hid hr
              have HSS := Lib.hid hs
              have hS : S14 wr w.heap.size (w.heap.size + 1) (.slice (some ⟨b, off, none⟩) n kc) (.slice (some ⟨d, doff, none⟩) n lc) b (off + j * 6) d (doff + j * 6) (us j) (vs j) wr := ⟨⟨r5, s5⟩, ⟨ha.c0, ha.c1, ha.c2, ha.c3, ha.c4, ha.c5⟩, ⟨hc.c0, hc.c1, hc.c2, hc.c3, hc.c4, hc.c5⟩, Below.refl _ _⟩
              have C : ∀ V, Below wr.heap.size wr V → Calls Tryz.prog 17 #[(us j).v, (vs j).v, .bool true] V fun e w' => e = .returned (.bool true) ∧ Below V.heap.size V w' := fun V hV => by
                have hVW := HC.out.trans (hV.mono HC.out.size)
                exact HIH.out j (kid' j) (us j) (vs j) V (HRR.out.same (fun b hb => HSM.out V hVW b (HOK.out b hb))) (HSS.out.same (fun b hb => HSM.out V hVW b (HOK2.out b hb))) (HL7.out j hjn) (HWK.out j hjn) (fun b hb => Nat.lt_of_lt_of_le (HOK.out b hb) (by have := hVW.size; have := HSZ.out; omega)) (fun b hb => Nat.lt_of_lt_of_le (HOK2.out b hb) (by have := hVW.size; have := HSZ.out; omega))
              simp only [Nv.v] at C
              clear ha hc hr hs
              generalize us j = p at *
              generalize vs j = q at *
              go_wp2_with fail
              go_region_held3 (fun V => (V.cell? ⟨w.heap.size, 5, none⟩ = some (.slice (some ⟨b, off, none⟩) n kc) ∧ V.cell? ⟨w.heap.size + 1, 5, none⟩ = some (.slice (some ⟨d, doff, none⟩) n lc)) ∧ (V.cell? ⟨b, off + j * 6, none⟩ = some (.int .i64 p.k) ∧ V.cell? ⟨b, off + j * 6 + 1, none⟩ = some (.int .i64 p.a) ∧ V.cell? ⟨b, off + j * 6 + 2, none⟩ = some (.string p.s) ∧ V.cell? ⟨b, off + j * 6 + 3, none⟩ = some (.bool p.neg) ∧ V.cell? ⟨b, off + j * 6 + 4, none⟩ = some p.mv ∧ V.cell? ⟨b, off + j * 6 + 5, none⟩ = some p.kv) ∧ (V.cell? ⟨d, doff + j * 6, none⟩ = some (.int .i64 q.k) ∧ V.cell? ⟨d, doff + j * 6 + 1, none⟩ = some (.int .i64 q.a) ∧ V.cell? ⟨d, doff + j * 6 + 2, none⟩ = some (.string q.s) ∧ V.cell? ⟨d, doff + j * 6 + 3, none⟩ = some (.bool q.neg) ∧ V.cell? ⟨d, doff + j * 6 + 4, none⟩ = some q.mv ∧ V.cell? ⟨d, doff + j * 6 + 5, none⟩ = some q.kv) ∧ Below wr.heap.size wr V)
                (first | exact hS | exact S14.keep hS (Below.refl _ _).drew | exact S14.keep (by assumption) (by assumption) | fail)
                (first | (go_at_call 17; refine (C _ (by first | exact (Below.refl _ _).drew | exact Below.refl _ _ | exact (by assumption : S14 _ _ _ _ _ _ _ _ _ _ _ _).2.2.2)).mono ?_; rintro e w2 ⟨rfl, hb2⟩) | fail)
              have hS2 : S14 wr w.heap.size (w.heap.size + 1) (.slice (some ⟨b, off, none⟩) n kc) (.slice (some ⟨d, doff, none⟩) n lc) b (off + j * 6) d (doff + j * 6) p q w2 := by assumption
              have HF := Lib.hid (HC.out.trans (hS2.2.2.2.mono HC.out.size))
              clear hS2 hS C hb2
              go_wp2_with fail
              go_roundg (gk - 1)
              case measure => omega
              case rel => exact ⟨j + 1, by omega, rfl, HF.out⟩
            · have k3 : ¬ (j : Int) < (n : Int) := by omega
              go_wp2_with fail
              go_ret
              exact ⟨rfl, HBW.out.trans (HC.out.mono (by rw [HSZ.out]; omega))⟩
    | false =>
      clear hat hat2
      go_wp2_with fail
      obtain ⟨W, hW⟩ : ∃ W, (w.alloc (.cells #[.int .i64 yk, .int .i64 xa, .string ys, .bool yn, .slice ma ml mc, .slice ka n kc] 27)).alloc (.cells #[.int .i64 yk, .int .i64 ya, .string ys, .bool yn, .slice na ml nc, .slice la n lc] 27) = W := ⟨_, rfl⟩
      rw [hW]
      have hsz : W.heap.size = w.heap.size + 2 := by rw [← hW]; simp
      have hbW : Below w.heap.size w W := by rw [← hW]; exact ((Below.refl _ w).alloc (Nat.le_refl _) _).alloc (by simp) _
      have hA4 : W.cell? ⟨w.heap.size, 4, none⟩ = some (.slice ma ml mc) ∧ W.cell? ⟨w.heap.size, 5, none⟩ = some (.slice ka n kc) := by
        rw [← hW]
        constructor
        · rw [World.cell?_of_block (a := ⟨w.heap.size, 4, none⟩) (Below.heap_alloc _ _ _ (by simp))]; exact World.cell?_alloc_at _ _ _ _ rfl
        · rw [World.cell?_of_block (a := ⟨w.heap.size, 5, none⟩) (Below.heap_alloc _ _ _ (by simp))]; exact World.cell?_alloc_at _ _ _ _ rfl
      have hB4 : W.cell? ⟨w.heap.size + 1, 4, none⟩ = some (.slice na ml nc) ∧ W.cell? ⟨w.heap.size + 1, 5, none⟩ = some (.slice la n lc) := by
        rw [← hW]
        constructor
        · rw [World.cell?_alloc_at _ _ _ _ (by simp)]; rfl
        · rw [World.cell?_alloc_at _ _ _ _ (by simp)]; rfl
      have HBW := Lib.hid hbW
      have HSZ := Lib.hid hsz
      have HA4 := Lib.hid hA4
      have HB4 := Lib.hid hB4
      clear hbW hsz hA4 hB4 hW
      have HSM : Hid (∀ V, Below W.heap.size W V → ∀ k, k < w.heap.size → V.heap[k]? = w.heap[k]?) := fun V hV k hk => (hV.block k (by have := HSZ.out; omega)).trans (HBW.out.block k hk)
      go_loopg [7] ml (fun gk v7 wr => ∃ i : Nat, i + gk = ml ∧ v7 = .int .i64 (i : Int) ∧ Below W.heap.size W wr)
      case atStart => exact ⟨0, by omega, rfl, Below.refl _ _⟩
      case round =>
        obtain ⟨i, hig, rfl, hB⟩ := hrel
        have HB := Lib.hid hB
        have r4 := cell_keep HA4.out.1 hB
        have s4 := cell_keep HB4.out.1 hB
        have k0 : (0 : Int) ≤ (i : Int) := by omega
        clear hB
        by_cases hin : i < ml
        · have k1 : (i : Int) < (ml : Int) := by omega
          have e2 : IntKind.i64.wrap ((i : Int) + 1) = ((i + 1 : Nat) : Int) := by rw [i64_small (by omega) (by omega)]; omega
          obtain ⟨rfl, ob⟩ := M4.out (by rw [HML.out]; omega)
          obtain ⟨rfl, ob'⟩ := N4.out (by rw [HML.out]; omega)
          have u1 := (World.cell?_of_block (a := ⟨mb, mo + i, none⟩) (HSM.out wr HB.out mb (HOK.out mb ob))).trans (M5.out i (by rw [HML.out]; exact hin))
          have u2 := (World.cell?_of_block (a := ⟨nb, no + i, none⟩) (HSM.out wr HB.out nb (HOK2.out nb ob'))).trans (N5.out i (by rw [HML.out]; exact hin))
          generalize mg.getD i 0 = q at *
          go_wp2_with fail
          go_big_quiet (fail)
          go_wp2_with fail
          go_roundg (gk - 1)
          case measure => omega
          case rel => exact ⟨i + 1, by omega, rfl, below_dN HB.out _⟩
        · have k1 : ¬ (i : Int) < (ml : Int) := by omega
          clear r4 s4
          have r4 := cell_keep HA4.out.1 HB.out
          go_wp2_with fail
          go_loopg [8] n (fun gk v8 wv => ∃ j : Nat, j + gk = n ∧ v8 = .int .i64 (j : Int) ∧ Below W.heap.size W wv)
          case atStart => exact ⟨0, by omega, rfl, HB.out⟩
          case round =>
            obtain ⟨j, hjg, rfl, hB⟩ := hrel
            have HC := Lib.hid hB
            have r5 := cell_keep HA4.out.2 hB
            have s5 := cell_keep HB4.out.2 hB
            have k2 : (0 : Int) ≤ (j : Int) := by omega
            clear hB r4
            by_cases hjn : j < n
            · have k3 : (j : Int) < (n : Int) := by omega
              have e2 : IntKind.i64.wrap ((j : Int) + 1) = ((j + 1 : Nat) : Int) := by rw [i64_small (by omega) (by omega)]; omega
              obtain ⟨rfl, ob⟩ := H8.out (by omega)
              obtain ⟨rfl, ob'⟩ := G8.out (by omega)
              obtain ⟨ha, hr⟩ := H9.out j hjn
              obtain ⟨hc, hs⟩ := G9.out j hjn
              have ha := ha.same (HSM.out wr HC.out b (HOK.out b ob))
              have hc := hc.same (HSM.out wr HC.out d (HOK2.out d ob'))
              have HRR := Lib.hid hr
              have HSS := Lib.hid hs
              have hS : S14 wr w.heap.size (w.heap.size + 1) (.slice (some ⟨b, off, none⟩) n kc) (.slice (some ⟨d, doff, none⟩) n lc) b (off + j * 6) d (doff + j * 6) (us j) (vs j) wr := ⟨⟨r5, s5⟩, ⟨ha.c0, ha.c1, ha.c2, ha.c3, ha.c4, ha.c5⟩, ⟨hc.c0, hc.c1, hc.c2, hc.c3, hc.c4, hc.c5⟩, Below.refl _ _⟩
              have C : ∀ V, Below wr.heap.size wr V → Calls Tryz.prog 17 #[(us j).v, (vs j).v, .bool false] V fun e w' => e = .returned (.bool true) ∧ Below V.heap.size V w' := fun V hV => by
                have hVW := HC.out.trans (hV.mono HC.out.size)
                exact HIH.out j (kid' j) (us j) (vs j) V (HRR.out.same (fun b hb => HSM.out V hVW b (HOK.out b hb))) (HSS.out.same (fun b hb => HSM.out V hVW b (HOK2.out b hb))) (HL7.out j hjn) (HWK.out j hjn) (fun b hb => Nat.lt_of_lt_of_le (HOK.out b hb) (by have := hVW.size; have := HSZ.out; omega)) (fun b hb => Nat.lt_of_lt_of_le (HOK2.out b hb) (by have := hVW.size; have := HSZ.out; omega))
              simp only [Nv.v] at C
              clear ha hc hr hs
              generalize us j = p at *
              generalize vs j = q at *
              go_wp2_with fail
              go_region_held3 (fun V => (V.cell? ⟨w.heap.size, 5, none⟩ = some (.slice (some ⟨b, off, none⟩) n kc) ∧ V.cell? ⟨w.heap.size + 1, 5, none⟩ = some (.slice (some ⟨d, doff, none⟩) n lc)) ∧ (V.cell? ⟨b, off + j * 6, none⟩ = some (.int .i64 p.k) ∧ V.cell? ⟨b, off + j * 6 + 1, none⟩ = some (.int .i64 p.a) ∧ V.cell? ⟨b, off + j * 6 + 2, none⟩ = some (.string p.s) ∧ V.cell? ⟨b, off + j * 6 + 3, none⟩ = some (.bool p.neg) ∧ V.cell? ⟨b, off + j * 6 + 4, none⟩ = some p.mv ∧ V.cell? ⟨b, off + j * 6 + 5, none⟩ = some p.kv) ∧ (V.cell? ⟨d, doff + j * 6, none⟩ = some (.int .i64 q.k) ∧ V.cell? ⟨d, doff + j * 6 + 1, none⟩ = some (.int .i64 q.a) ∧ V.cell? ⟨d, doff + j * 6 + 2, none⟩ = some (.string q.s) ∧ V.cell? ⟨d, doff + j * 6 + 3, none⟩ = some (.bool q.neg) ∧ V.cell? ⟨d, doff + j * 6 + 4, none⟩ = some q.mv ∧ V.cell? ⟨d, doff + j * 6 + 5, none⟩ = some q.kv) ∧ Below wr.heap.size wr V)
                (first | exact hS | exact S14.keep hS (Below.refl _ _).drew | exact S14.keep (by assumption) (by assumption) | fail)
                (first | (go_at_call 17; refine (C _ (by first | exact (Below.refl _ _).drew | exact Below.refl _ _ | exact (by assumption : S14 _ _ _ _ _ _ _ _ _ _ _ _).2.2.2)).mono ?_; rintro e w2 ⟨rfl, hb2⟩) | fail)
              have hS2 : S14 wr w.heap.size (w.heap.size + 1) (.slice (some ⟨b, off, none⟩) n kc) (.slice (some ⟨d, doff, none⟩) n lc) b (off + j * 6) d (doff + j * 6) p q w2 := by assumption
              have HF := Lib.hid (HC.out.trans (hS2.2.2.2.mono HC.out.size))
              clear hS2 hS C hb2
              go_wp2_with fail
              go_roundg (gk - 1)
              case measure => omega
              case rel => exact ⟨j + 1, by omega, rfl, HF.out⟩
            · have k3 : ¬ (j : Int) < (n : Int) := by omega
              go_wp2_with fail
              go_ret
              exact ⟨rfl, HBW.out.trans (HC.out.mono (by rw [HSZ.out]; omega))⟩
end Nd
end Go.Proofs.YtfcgogpnbmikmaaGreatDoor
