/-
  TableGoes: what the law holds.
  TableGoes: goes at the law's own iterators.
-/
import Derived.Test.YtjkggidcheagpaaGreatTgGoes
import Derived.Test.YtjkggidcheagpaaGreatTwTwo
import Derived.Test.YtjkggidcheagpaaGreatLdn
import Derived.Laws.OwnMore
namespace Go.Proofs.YtjkggidcheagpaaGreat
open Go.RowKit Go.WideShapes

section
variable {w : World} {g : Nat} {ev : Value} {es : List En}
theorem new7_from {w1 w2 : World} {v : Value} (hE1 : EsB w.heap.size w1 v es) (hB1 : Below w.heap.size w w1) (hw2 : w1.alloc (.cells #[v] 37) = w2) : w.heap.size ≤ w1.heap.size ∧ w2.cell? ⟨w1.heap.size, 0, none⟩ = some v ∧ EsB w.heap.size w2 v es ∧ Below w.heap.size w w2 := by
  have hb2 : Below w1.heap.size w1 w2 := by rw [← hw2]; exact (Below.refl _ w1).alloc (Nat.le_refl _) _
  refine ⟨hB1.size, by rw [← hw2]; exact cell_alloc_new _ _ _ _ rfl, ?_, hB1.trans (hb2.mono hB1.size)⟩
  exact ownsR_same hE1 fun k hk => hb2.block k (hE1.es.lt k hk)
set_option maxRecDepth 100000 in
theorem all7_it (k2 : w.cell? ⟨g, 2, none⟩ = some ev) (hE : Es w ev es) (hlen : es.length ≤ 100000) :
    Calls Tryz.prog 6 #[.pointer (some ⟨g, 0, none⟩)] w fun e w' => ∃ b v, e = .returned (.func (.func 19) #[] #[.pointer (some ⟨b, 0, none⟩)]) ∧ w.heap.size ≤ b ∧ w'.cell? ⟨b, 0, none⟩ = some v ∧ EsB w.heap.size w' v es ∧ Below w.heap.size w w' := by
  have hmf : ∀ (fn : Fn) (first cap : Array Value) (w : World), (Instr.makeFunc fn first cap).run Tryz.prog w = .ok (.func fn first cap) w := fun _ _ _ _ => rfl
  have C1 := copied_any k2 hE hlen
  clear k2 hE
  go_enter Tryz.func6, Tryz.ntmps6
  go_wp2_with fail
  refine C1.mono ?_
  rintro e w1 ⟨v, rfl, hE1, hB1⟩
  clear C1
  obtain ⟨a, cap, ge, hv, _⟩ := hE1.es.open
  obtain ⟨w2, hw2⟩ : ∃ y, w1.alloc (.cells #[v] 37) = y := ⟨_, rfl⟩
  have HR := Lib.hid (new7_from hE1 hB1 hw2)
  have HW2 := Lib.hid hw2
  subst hv
  clear hw2 hE1 hB1
  go_wp2_with fail
  rw [HW2.out]
  go_ret
  exact ⟨_, _, by simp, HR.out⟩
set_option maxRecDepth 100000 in
theorem back7_it (k2 : w.cell? ⟨g, 2, none⟩ = some ev) (hE : Es w ev es) (hlen : es.length ≤ 100000) :
    Calls Tryz.prog 7 #[.pointer (some ⟨g, 0, none⟩)] w fun e w' => ∃ b v, e = .returned (.func (.func 20) #[] #[.pointer (some ⟨b, 0, none⟩)]) ∧ w.heap.size ≤ b ∧ w'.cell? ⟨b, 0, none⟩ = some v ∧ EsB w.heap.size w' v es ∧ Below w.heap.size w w' := by
  have hmf : ∀ (fn : Fn) (first cap : Array Value) (w : World), (Instr.makeFunc fn first cap).run Tryz.prog w = .ok (.func fn first cap) w := fun _ _ _ _ => rfl
  have C1 := copied_any k2 hE hlen
  clear k2 hE
  go_enter Tryz.func7, Tryz.ntmps7
  go_wp2_with fail
  refine C1.mono ?_
  rintro e w1 ⟨v, rfl, hE1, hB1⟩
  clear C1
  obtain ⟨a, cap, ge, hv, _⟩ := hE1.es.open
  obtain ⟨w2, hw2⟩ : ∃ y, w1.alloc (.cells #[v] 37) = y := ⟨_, rfl⟩
  have HR := Lib.hid (new7_from hE1 hB1 hw2)
  have HW2 := Lib.hid hw2
  subst hv
  clear hw2 hE1 hB1
  go_wp2_with fail
  rw [HW2.out]
  go_ret
  exact ⟨_, _, by simp, HR.out⟩
end
/-- Rows of entries with the block that holds each: the two iterators' and the document's table as it was. -/
structure Kr where
  b1 : Nat
  e1 : Value
  b2 : Nat
  e2 : Value
  b3 : Nat
  e3 : Value
def Kr.In (r : Kr) (k : Nat) : Prop := k = r.b1 ∨ r.e1.ownBlock = some k ∨ k = r.b2 ∨ r.e2.ownBlock = some k ∨ k = r.b3 ∨ r.e3.ownBlock = some k
structure Kw (V : World) (r : Kr) (es : List En) : Prop where
  c1 : V.cell? ⟨r.b1, 0, none⟩ = some r.e1
  r1 : Es V r.e1 es
  c2 : V.cell? ⟨r.b2, 0, none⟩ = some r.e2
  r2 : Es V r.e2 es
  c3 : V.cell? ⟨r.b3, 0, none⟩ = some r.e3
  r3 : Es V r.e3 (shw es)
theorem Kw.lt {V : World} {r : Kr} {es : List En} (h : Kw V r es) : ∀ k, r.In k → k < V.heap.size := by
  rintro k (rfl | hk | rfl | hk | rfl | hk)
  · exact lt_of_cell h.c1
  · exact h.r1.lt k hk
  · exact lt_of_cell h.c2
  · exact h.r2.lt k hk
  · exact lt_of_cell h.c3
  · exact h.r3.lt k hk
theorem Kw.same {V V' : World} {r : Kr} {es : List En} (h : Kw V r es) (e : ∀ k, r.In k → V'.heap[k]? = V.heap[k]?) : Kw V' r es := by
  unfold Kr.In at e
  exact ⟨(World.cell?_of_block (a := ⟨r.b1, 0, none⟩) (e r.b1 (by simp))).trans h.c1, h.r1.same (fun k hk => e k (by simp [hk])), (World.cell?_of_block (a := ⟨r.b2, 0, none⟩) (e r.b2 (by simp))).trans h.c2, h.r2.same (fun k hk => e k (by simp [hk])), (World.cell?_of_block (a := ⟨r.b3, 0, none⟩) (e r.b3 (by simp))).trans h.c3, h.r3.same (fun k hk => e k (by simp [hk]))⟩
/-- How the law stands: both tables played, and what was told of them before kept beside. -/
structure Lg (w0 V : World) (X : Nat) (p : Pl) (t : Tb) (a b : Int) (n : Nat) (r : Kr) (es : List En) : Prop where
  tw : Tw V X p t (.pointer none) (.pointer none) noM a b
  bd : Bd t a b n
  kw : Kw V r es
  ap : ∀ k, p.all X k → ¬ r.In k
  fx : ∀ k, p.all X k → w0.heap.size ≤ k
  bl : Below w0.heap.size w0 V
theorem Lg.step {w0 w w1 : World} {X : Nat} {p p1 : Pl} {t t1 : Tb} {a b a1 b1 : Int} {n : Nat} {r : Kr} {es : List En} (h : Lg w0 w X p t a b n r es) (d : Dn w X p (.pointer none) (.pointer none) noM (n + 1) p1 t1 a1 b1 w1) : Lg w0 w1 X p1 t1 a1 b1 (n + 1) r es := by
  have hx : ∀ k, ¬ p.all X k → ¬ (p.all X k ∨ mB (.pointer none) k ∨ mB (.pointer none) k) := fun k hk hh => hh.elim hk (fun y => y.elim noneB noneB)
  refine ⟨d.tw, d.bd, h.kw.same (fun k hk => d.ex.block k (h.kw.lt k hk) (hx k (fun hp => h.ap k hp hk))), fun k hk hr => ?_, fun k hk => ?_, ?_⟩
  · rcases d.fx k hk with z | z
    · exact h.ap k z hr
    · have := h.kw.lt k hr; omega
  · rcases d.fx k hk with z | z
    · exact h.fx k z
    · exact Nat.le_trans h.bl.size z
  · refine h.bl.trans ⟨d.ex.os, d.ex.tape, d.ex.output, d.ex.size, fun k hk => d.ex.block k (Nat.lt_of_lt_of_le hk h.bl.size) (hx k (fun hp => by have := h.fx k hp; omega))⟩
theorem Lg.below {w0 w w' : World} {X : Nat} {p : Pl} {t : Tb} {a b : Int} {n : Nat} {r : Kr} {es : List En} (h : Lg w0 w X p t a b n r es) (hb : Below w.heap.size w w') : Lg w0 w' X p t a b n r es :=
  ⟨h.tw.below mtOk_nil hb, h.bd, h.kw.same (fun k hk => hb.block k (h.kw.lt k hk)), h.ap, h.fx, h.bl.trans (hb.mono h.bl.size)⟩
theorem lvn_shw (es : List En) : ∀ i, lvn (shw es) i = lvn es i
  | 0 => rfl
  | i + 1 => by
    have h : (nth (shw es) i).live = (nth es i).live := by
      rw [nth_shw]
      unfold En.shown
      split <;> simp_all [En.zero]
    rw [lvn, lvn, lvn_shw es i, h]
theorem lvn_sh (es : List En) : lvn (shw es) (shw es).length = lvn es es.length := by rw [lvn_shw, shw_len]
/-- Entries appended to none. -/
theorem wp_app_es {ops : Array Oper} {rest : List Oper} {o : Oper} {a : Act} {w : World} {Q : Exit → Act → World → Prop} (hgd : o.guard = none) (s x : Operand) (ho : o.op = .call { callee := .builtin .append, args := #[s, x], argTypes := #[37, 37] }) {W0 : World} (hW : w = W0.alloc (.cells #[] 66)) (hs : a.eval s = .slice (some ⟨W0.heap.size, 0, none⟩) 0 0) {xv : Value} {es : List En} (hx : a.eval x = xv) (hE : Es w xv es) (hlen : es.length ≤ 100000)
    (h : ∀ v' w', EsB W0.heap.size w' v' es → Below W0.heap.size W0 w' → wpList Tryz.prog ops Q rest (a.put o.dst v') w') : wpList Tryz.prog ops Q (o :: rest) a w := by
  obtain ⟨i0, hi, hz0, hz1, hz2⟩ := info_parts Tryz.infoEn
  have hown : w.ownsRow W0.heap.size 66 5 (.slice (some ⟨W0.heap.size, 0, none⟩) 0 0) 0 [] := by rw [hW]; exact World.ownsRow_lit W0 #[] 0 (Nat.le_refl _) (by unfold maxLen; omega) rfl
  have hb : Below W0.heap.size W0 w := by rw [hW]; exact (Below.refl _ W0).alloc (Nat.le_refl _) _
  have hE0 : w.ownsRow 0 66 5 xv es.length (enl es) := hE
  rcases hE0.2 with ⟨rfl, h1⟩ | ⟨g, cap, cur, rfl, h1⟩
  · obtain rfl : es = [] := List.eq_nil_of_length_eq_zero h1
    refine wpList_plain hgd fun K hK => ?_
    have hr := run_append_owned_none (P := Tryz.prog) (w := w) W0.heap.size 37 o.type 66 i0 5 Tryz.underlying37 hi _ 0 [] hown
    unfold Oper.wp
    simp [execOp, ho, resolve, invoke, builtin, hs, hx, hr, Result.andThen]
    exact hK _ _ (h _ _ hown hb)
  · refine wpList_append_own w hgd s x _ ho W0.heap.size 66 i0 (.agg #[.bool false, .int .i64 0, .int .i64 0, .int .i64 0, .int .i64 0]) 5 40 Tryz.underlying37 hi hz0 hz1 hz2 rfl (by decide) _ 0 [] hs hown ⟨g, 0, none⟩ es.length cap (enl es) hx (enl_len es) (fun j u hu => hE0.cells (g := g) rfl j u hu) (enl_one es) (by unfold maxLen; omega) (by omega) hb.size (fun v' w' g1 g2 _ => h v' w' ?_ ?_)
    · rw [Nat.zero_add, List.nil_append] at g1
      exact g1
    · exact hb.grown g2 hb.size (fun k e => by simp [Value.ownBlock] at e; omega)
end Go.Proofs.YtjkggidcheagpaaGreat
namespace Go.Proofs.YtjkggidcheagpaaGreat
open Go.RowKit Go.WideShapes

section
variable {w0 V : World} {X : Nat} {p : Pl} {t : Tb} {a b : Int} {n : Nat} {r : Kr} {es : List En}
theorem Lg.goes1 (h : Lg w0 V X p t a b n r es) (hlen : es.length ≤ 100000) (stop : Int) : Calls Tryz.prog 9 #[.func (.func 19) #[] #[.pointer (some ⟨r.b1, 0, none⟩)], .pointer (some ⟨r.b3, 0, none⟩), .bool false, .int .i64 stop] V fun e w' => e = .returned (.bool true) ∧ Below V.heap.size V w' :=
  goes_any (itr_all r.b1 r.e1 es) (fun _ _ => Tryz.call19 _ _) h.kw.c1 h.kw.r1 h.kw.c3 h.kw.r3 (liveL_sh es) (lvn_sh es) hlen (by rw [shw_len]; exact hlen)
theorem Lg.goes2 (h : Lg w0 V X p t a b n r es) (hlen : es.length ≤ 100000) (stop : Int) : Calls Tryz.prog 9 #[.func (.func 20) #[] #[.pointer (some ⟨r.b2, 0, none⟩)], .pointer (some ⟨r.b3, 0, none⟩), .bool true, .int .i64 stop] V fun e w' => e = .returned (.bool true) ∧ Below V.heap.size V w' :=
  goes_any (itr_back r.b2 r.e2 es) (fun _ _ => Tryz.call20 _ _) h.kw.c2 h.kw.r2 h.kw.c3 h.kw.r3 (liveL_sh es) (lvn_sh es) hlen (by rw [shw_len]; exact hlen)
theorem Lg.few (h : Lg w0 V X p t a b n r es) : t.es.length ≤ 100000 := Nat.le_trans h.tw.ok.few h.tw.ok.all
theorem Lg.all (h : Lg w0 V X p t a b n r es) : Calls Tryz.prog 6 #[.pointer (some ⟨p.g, 0, none⟩)] V fun e w' => ∃ b v, e = .returned (.func (.func 19) #[] #[.pointer (some ⟨b, 0, none⟩)]) ∧ V.heap.size ≤ b ∧ w'.cell? ⟨b, 0, none⟩ = some v ∧ EsB V.heap.size w' v t.es ∧ Below V.heap.size V w' :=
  all7_it (h.tw.dt.hd.c 2 (by omega)) h.tw.dt.es h.few
theorem Lg.goes3 (h : Lg w0 V X p t a b n r es) {bn : Nat} {v : Value} (hc : V.cell? ⟨bn, 0, none⟩ = some v) (hv : Es V v t.es) : Calls Tryz.prog 9 #[.func (.func 19) #[] #[.pointer (some ⟨bn, 0, none⟩)], .pointer (some ⟨p.g2, 0, none⟩), .bool false, .int .i64 0] V fun e w' => e = .returned (.bool true) ∧ Below V.heap.size V w' :=
  goes_any (itr_all bn v t.es) (fun _ _ => Tryz.call19 _ _) hc hv (h.tw.rt.hd.c 0 (by omega)) h.tw.rt.es (liveL_sh t.es) (lvn_sh t.es) h.few (by show (shw t.es).length ≤ _; rw [shw_len]; exact h.few)
end
/-- What the law's last expression reads. -/
abbrev Sw (w0 : World) (X g g2 : Nat) (V : World) : Prop := (V.cell? ⟨X, 0, none⟩ = some (.pointer (some ⟨g, 0, none⟩)) ∧ V.cell? ⟨X, 1, none⟩ = some (.pointer (some ⟨g2, 0, none⟩))) ∧ Below w0.heap.size w0 V
theorem Sw.keep {w0 V V' : World} {X g g2 : Nat} (h : Sw w0 X g g2 V) (hb : Below V.heap.size V V') : Sw w0 X g g2 V' := ⟨⟨cell_keep7 h.1.1 hb, cell_keep7 h.1.2 hb⟩, h.2.trans (hb.mono h.2.size)⟩
theorem lg_new {w w1 w2 w3 w4 w6 : World} {X : Nat} {p : Pl} {t : Tb} {a b : Int} {n ba bb gw : Nat} {va vb vw v6 : Value} (hP : Py w (.pointer none) (.pointer none) noM X p t a b n w1) (hb1 : Below w.heap.size w w1)
    (ga : w1.heap.size ≤ ba) (ca : w2.cell? ⟨ba, 0, none⟩ = some va) (ea : EsB w1.heap.size w2 va t.es) (hB2 : Below w1.heap.size w1 w2) (gb : w2.heap.size ≤ bb) (cb : w3.cell? ⟨bb, 0, none⟩ = some vb) (eb : EsB w2.heap.size w3 vb t.es) (hB3 : Below w2.heap.size w2 w3)
    (gg : w3.heap.size ≤ gw) (k0 : w4.cell? ⟨gw, 0, none⟩ = some vw) (hB4 : Below w3.heap.size w3 w4) (hE6 : EsB w4.heap.size w6 v6 (shw t.es)) (hB6 : Below w4.heap.size w4 w6) :
    Lg w (w6.setCell ⟨gw, 0, none⟩ v6) X p t a b n ⟨ba, va, bb, vb, gw, v6⟩ t.es := by
  have s2 := hB2.size
  have s3 := hB3.size
  have s4 := hB4.size
  have s6 := hB6.size
  have lgw := lt_of_cell k0
  have lba := lt_of_cell ca
  have lbb := lt_of_cell cb
  have e4 : ∀ k, k < w4.heap.size → k ≠ gw → (w6.setCell ⟨gw, 0, none⟩ v6).heap[k]? = w4.heap[k]? := fun k hk hn => (Below.heap_setCell _ _ _ _ hn).trans (hB6.block k hk)
  have e3 : ∀ k, k < w3.heap.size → (w6.setCell ⟨gw, 0, none⟩ v6).heap[k]? = w3.heap[k]? := fun k hk => (e4 k (by omega) (by omega)).trans (hB4.block k hk)
  have e2 : ∀ k, k < w2.heap.size → (w6.setCell ⟨gw, 0, none⟩ v6).heap[k]? = w2.heap[k]? := fun k hk => (e3 k (by omega)).trans (hB3.block k hk)
  have e1 : ∀ k, k < w1.heap.size → (w6.setCell ⟨gw, 0, none⟩ v6).heap[k]? = w1.heap[k]? := fun k hk => (e2 k (by omega)).trans (hB2.block k hk)
  have hsz : (w6.setCell ⟨gw, 0, none⟩ v6).heap.size = w6.heap.size := by simp [World.setCell]
  obtain ⟨lab, sp⟩ := hP.tw.sep
  refine ⟨hP.tw.keep mtOk_nil (by omega) (fun k hk _ => e1 k hk), hP.bd, ⟨?_, ?_, ?_, ?_, ?_, ?_⟩, ?_, hP.fx, ?_⟩
  · exact (World.cell?_of_block (a := ⟨ba, 0, none⟩) (e2 ba lba)).trans ca
  · exact ea.es.same fun k hk => e2 k (ea.es.lt k hk)
  · exact (World.cell?_of_block (a := ⟨bb, 0, none⟩) (e3 bb lbb)).trans cb
  · exact eb.es.same fun k hk => e3 k (eb.es.lt k hk)
  · exact hit7 (cell_keep7 k0 hB6)
  · exact hE6.es.same fun k hk => Below.heap_setCell _ _ _ _ (by have := hE6.ge k hk; show k ≠ gw; omega)
  · intro k hk hr
    have h1 := sp.lt k hk
    rcases hr with h | h | h | h | h | h
    · simp only at h; omega
    · have := ea.ge k h; omega
    · simp only at h; omega
    · have := eb.ge k h; omega
    · simp only at h; omega
    · have := hE6.ge k h; omega
  · have b2 := hb1.trans (hB2.mono hb1.size)
    have b3 := b2.trans (hB3.mono b2.size)
    have b4 := b3.trans (hB4.mono b3.size)
    have b6 := b4.trans (hB6.mono b4.size)
    exact b6.setCell (p := ⟨gw, 0, none⟩) (by have := b3.size; show w.heap.size ≤ gw; omega) _
end Go.Proofs.YtjkggidcheagpaaGreat
