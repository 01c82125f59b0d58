/-
  TableGoes: the iterator of All, with the law's closure as yield.
-/
import Derived.Test.YtjkggidcheagpaaGreatTgGo1
namespace Go.Proofs.YtjkggidcheagpaaGreat
open Go.RowKit Go.WideShapes

/-- The closure as a value. -/
def yiV7 (v : Gv) : Value := .func (.func 27) #[] #[.pointer (some ⟨v.n, 0, none⟩), .pointer (some ⟨v.b, 0, none⟩), .pointer (some ⟨v.l, 0, none⟩), .pointer (some ⟨v.k, 0, none⟩), .pointer (some ⟨v.o, 0, none⟩), .pointer (some ⟨v.m, 0, none⟩), .pointer (some ⟨v.s, 0, none⟩)]
/-- What goes holds: the live entries and their numbers. -/
structure Gl (W : World) (v : Gv) (lv nv : Value) (es : List En) : Prop where
  l : Es W lv (liveL es)
  n : IntsR 0 W nv (lvn es es.length)
  ok : v.Ok
  xl : ∀ k, lv.ownBlock = some k → ¬ v.X k
  xn : ∀ k, nv.ownBlock = some k → ¬ v.X k
  len : es.length ≤ 100000
/-- How it ends: all told, or told to stop. -/
def Gfin (w : World) (v : Gv) (bk : Bool) (stop : Int) (lv nv : Value) (N : Nat) : Prop := ∃ m ov, Gt w v bk stop lv nv m ov ∧ ((ov = false ∧ m = N) ∨ (ov = true ∧ (m : Int) = stop ∧ 0 < m))
theorem IntsR.lt0 {B : Nat} {w : World} {v : Value} {l : List Int} (h : IntsR B w v l) : ∀ k, v.ownBlock = some k → k < w.heap.size := fun k hk => (World.ownsRow.lt h k hk).2
theorem ownsR_same {B n : Nat} {w w' : World} {v : Value} {t : TypeId} {sz : Nat} {xs : List Value} (h : w.ownsRow B t sz v n xs) (e : ∀ k, v.ownBlock = some k → w'.heap[k]? = w.heap[k]?) : w'.ownsRow B t sz v n xs := by
  refine ⟨h.1, ?_⟩
  rcases h.2 with h0 | ⟨g, cap, cur, rfl, h1, h2, h3⟩
  · exact .inl h0
  · exact .inr ⟨g, cap, cur, rfl, h1, (e g rfl).trans h2, h3⟩
theorem yield_any {W : World} {v : Gv} {bk : Bool} {stop : Int} {lv nv : Value} {es : List En} (hL : Gl W v lv nv es) {V : World} {m i : Nat} (hE : Ex v.X W V) (hG : Gt V v bk stop lv nv m false) (hi : i < es.length) (hl : (nth es i).live = true) (hm : m = if bk then (liveL es).length - 1 - (lvn es i).length else (lvn es i).length) :
    Calls Tryz.prog 27 #[.int .i64 (i : Int), eV7 (nth es i), .pointer (some ⟨v.n, 0, none⟩), .pointer (some ⟨v.b, 0, none⟩), .pointer (some ⟨v.l, 0, none⟩), .pointer (some ⟨v.k, 0, none⟩), .pointer (some ⟨v.o, 0, none⟩), .pointer (some ⟨v.m, 0, none⟩), .pointer (some ⟨v.s, 0, none⟩)] V fun e w' =>
      e = .returned (.bool (!decide (((m + 1 : Nat) : Int) = stop))) ∧ Gt w' v bk stop lv nv (m + 1) (decide (((m + 1 : Nat) : Int) = stop)) ∧ Ex v.X V w' := by
  obtain ⟨hat, hlt, -⟩ := lvn_at es (j := es.length) hi hl
  have hNN := lvn_all es
  have hll := liveL_len es
  have hlV : Es V lv (liveL es) := hL.l.same fun k hk => hE.block k (hL.l.lt k hk) (hL.xl k hk)
  have hnV : IntsR 0 V nv (lvn es es.length) := ownsR_same hL.n fun k hk => hE.block k (hL.n.lt0 k hk) (hL.xn k hk)
  obtain ⟨a1, c1, g1, rfl, p1, hro⟩ := hlV.open
  obtain ⟨a2, c2, g2, rfl, _, p2⟩ := hnV.open
  obtain ⟨rfl, o1, _⟩ := p1 (by omega)
  obtain ⟨rfl, _, _, hb2⟩ := p2 (by omega)
  have hnum := hb2.c (lvn es i).length hlt
  rw [hat] at hnum
  have hnn := live_at hi hl
  rw [hNN] at hG hlt ⊢
  have hlen := hL.len
  refine goes1_any (x := nth es i) (i := (i : Int)) (j := (lvn es i).length) hG hL.ok (by cases bk <;> simp at hm <;> omega) (by omega) (by cases bk <;> simp at hm ⊢ <;> omega) ?_ hnum (hL.xl g1 rfl) (hL.xn g2 rfl)
  have h0 := hro.c0 (lvn es i).length hlt
  have h1 := hro.c1 (lvn es i).length hlt
  have h2 := hro.c2 (lvn es i).length hlt
  have h3 := hro.c3 (lvn es i).length hlt
  have h4 := hro.c4 (lvn es i).length hlt
  rw [hnn] at h0 h1 h2 h3 h4
  exact ⟨h0, h1, h2, h3, h4⟩
set_option maxRecDepth 100000 in
set_option maxHeartbeats 4000000 in
theorem all1_goes {W : World} {v : Gv} {stop : Int} {lv nv ev : Value} {es : List En} {b : Nat} (hL : Gl W v lv nv es) (hG : Gt W v false stop lv nv 0 false) (hb : W.cell? ⟨b, 0, none⟩ = some ev) (hev : Es W ev es) (xe : ∀ k, ev.ownBlock = some k → ¬ v.X k) :
    Calls Tryz.prog 19 #[yiV7 v, .pointer (some ⟨b, 0, none⟩)] W fun e w' => e = .returned (.tuple #[]) ∧ Ex v.X W w' ∧ Gfin w' v false stop lv nv (liveL es).length := by
  obtain ⟨a, cap, ge, rfl, hae, hro⟩ := hev.open
  have hcap := hro.le
  have hlen := hL.len
  have HL := Lib.hid hL
  have HRO : Hid (∀ V, Ex v.X W V → 0 < es.length → Ro V ge es.length cap es) := fun V hV h0 => by
    have h1 := hV.block ge (hev.lt ge (hae h0).2.1) (xe ge (hae h0).2.1)
    have c : ∀ o, V.cell? ⟨ge, o, none⟩ = W.cell? ⟨ge, o, none⟩ := fun o => World.cell?_of_block (a := ⟨ge, o, none⟩) h1
    exact ⟨hro.le, fun n hn => (c _).trans (hro.c0 n hn), fun n hn => (c _).trans (hro.c1 n hn), fun n hn => (c _).trans (hro.c2 n hn), fun n hn => (c _).trans (hro.c3 n hn), fun n hn => (c _).trans (hro.c4 n hn)⟩
  have HAE : Hid (0 < es.length → a = some ⟨ge, 0, none⟩) := fun h => (hae h).1
  have HG := Lib.hid hG
  clear hL hro hae hG hev xe
  unfold yiV7
  go_enter Tryz.func19, Tryz.ntmps19
  go_wp2_with fail
  go_loopw [3, 4, 7] (fun _ _ iv wr => ∃ i : Nat, i ≤ es.length ∧ iv = .int .i64 (i : Int) ∧ Gt wr v false stop lv nv (lvn es i).length false ∧ Ex v.X W wr) (fun _ _ iv _ => es.length - (intOf iv).toNat)
  case atStart => exact ⟨0, Nat.zero_le _, rfl, HG.out, Ex.refl _ _⟩
  case round =>
    clear HG
    obtain ⟨i, hi, rfl, hG, hE⟩ := hrel
    have HG := Lib.hid hG
    have HE := Lib.hid hE
    clear hG hE
    by_cases hlt : i < es.length
    · have t1 : (i : Int) < (es.length : Int) := by omega
      have t0 : (0 : Int) ≤ (i : Int) := by omega
      have e1 : IntKind.i64.wrap ((i : Int) + 1) = ((i + 1 : Nat) : Int) := by rw [i64_small (by omega) (by omega)]; omega
      have ha := HAE.out (by omega)
      subst ha
      have hR := HRO.out wr HE.out (by omega)
      have r0 := hR.c0 i hlt
      have r1 := hR.c1 i hlt
      have r2 := hR.c2 i hlt
      have r3 := hR.c3 i hlt
      have r4 := hR.c4 i hlt
      clear hR
      obtain ⟨w2, hw2⟩ : ∃ y, wr.alloc (.cells #[.bool (nth es i).live, .int .i64 (nth es i).hash, .int .i64 (nth es i).key, .int .i64 (nth es i).value, .int .i64 (nth es i).birth] 66) = y := ⟨_, rfl⟩
      have hb2 : Below wr.heap.size wr w2 := by rw [← hw2]; exact (Below.refl _ wr).alloc (Nat.le_refl _) _
      have HG2 := Lib.hid (HG.out.below hb2)
      have HE2 := Lib.hid (HE.out.trans (ex_of hb2))
      cases hlv : (nth es i).live with
      | true =>
        have C1 := yield_any HL.out HE2.out HG2.out hlt hlv (by simp)
        unfold eV7 at C1
        obtain ⟨-, -, h3⟩ := lvn_at es (j := es.length) hlt hlv
        have HL1 := Lib.hid h3
        rw [hlv] at r0 hw2 C1
        have HW2 := Lib.hid hw2
        rw [← hw2] at C1
        clear hlv h3 hb2 hw2
        generalize (nth es i).hash = y1 at *
        generalize (nth es i).key = y2 at *
        generalize (nth es i).value = y3 at *
        generalize (nth es i).birth = y4 at *
        go_wp2_with fail
        refine C1.mono ?_
        rintro e w3 ⟨rfl, hG3, hE3⟩
        clear C1
        rw [HW2.out] at hE3
        have HG3 := Lib.hid hG3
        have HE3 := Lib.hid (HE2.out.trans hE3)
        clear hG3 hE3 HE2 HG2
        generalize hm1 : (lvn es i).length + 1 = m1 at *
        by_cases hst : (m1 : Int) = stop
        · have td : decide ((m1 : Int) = stop) = true := by simp [hst]
          rw [td] at HG3 ⊢
          have HST := Lib.hid hst
          clear hst td
          go_wp2_with fail
          refine bodyPost_ret (results_none rfl _ _ _) rfl ?_
          exact ⟨rfl, HE3.out, ⟨m1, true, HG3.out, Or.inr ⟨rfl, HST.out, by omega⟩⟩⟩
        · have td : decide ((m1 : Int) = stop) = false := by simp [hst]
          rw [td] at HG3 ⊢
          clear hst td
          go_wp2_with fail
          go_roundw
          case rel => exact ⟨i + 1, by omega, rfl, by rw [HL1.out]; exact HG3.out, HE3.out⟩
          case measure => simp [intOf]; omega
      | false =>
        have HL1 := Lib.hid (lvn_dead es hlv)
        rw [hlv] at r0 hw2
        have HW2 := Lib.hid hw2
        clear hlv hb2 hw2
        generalize (nth es i).hash = y1 at *
        generalize (nth es i).key = y2 at *
        generalize (nth es i).value = y3 at *
        generalize (nth es i).birth = y4 at *
        go_wp2_with fail
        go_roundw
        case rel => exact ⟨i + 1, by omega, rfl, by rw [HL1.out, HW2.out]; exact HG2.out, by rw [HW2.out]; exact HE2.out⟩
        case measure => simp [intOf]; omega
    · obtain rfl : i = es.length := by omega
      have t1 : ¬ (es.length : Int) < (es.length : Int) := by omega
      go_wp2
      go_end0
      exact ⟨rfl, HE.out, ⟨_, false, HG.out, Or.inl ⟨rfl, lvn_all es⟩⟩⟩
end Go.Proofs.YtjkggidcheagpaaGreat
