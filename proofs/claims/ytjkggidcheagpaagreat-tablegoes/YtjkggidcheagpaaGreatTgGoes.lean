/-
  TableGoes: goes, over any iterator that tells a table's live entries.
-/
import Derived.Test.YtjkggidcheagpaaGreatTgBack
import Derived.Test.YtjkggidcheagpaaGreatLwGoes0
namespace Go.Proofs.YtjkggidcheagpaaGreat
open Go.RowKit Go.WideShapes

/-- An iterator that tells the live ones of these entries, one way or the other. -/
def Itr (F : FuncId) (bk : Bool) (b : Nat) (ev : Value) (es : List En) : Prop := ∀ (W : World) (v : Gv) (stop : Int) (lv nv : Value), Gl W v lv nv es → Gt W v bk stop lv nv 0 false → W.cell? ⟨b, 0, none⟩ = some ev → Es W ev es → (∀ k, ev.ownBlock = some k → ¬ v.X k) →
  Calls Tryz.prog F #[yiV7 v, .pointer (some ⟨b, 0, none⟩)] W fun e w' => e = .returned (.tuple #[]) ∧ Ex v.X W w' ∧ Gfin w' v bk stop lv nv (liveL es).length
theorem itr_all (b : Nat) (ev : Value) (es : List En) : Itr 19 false b ev es := fun _ _ _ _ _ h1 h2 h3 h4 h5 => all1_goes h1 h2 h3 h4 h5
theorem itr_back (b : Nat) (ev : Value) (es : List En) : Itr 20 true b ev es := fun _ _ _ _ _ h1 h2 h3 h4 h5 => back1_goes h1 h2 h3 h4 h5
theorem one_cell {w : World} {g : Nat} {x : Value} {t : TypeId} (h : w.heap[g]? = some (.cells #[x] t)) : w.cell? ⟨g, 0, none⟩ = some x ∧ w.frozen? ⟨g, 0, none⟩ = false := by
  constructor
  · simp [World.cell?, h]
  · simp [World.frozen?, h]
theorem four_new (w : World) (x : Value) (t1 t2 t3 t4 : TypeId) {w5 : World} (h : (((w.alloc (.cells #[x] t1)).alloc (.cells #[.int .i64 0] t2)).alloc (.cells #[.bool true] t3)).alloc (.cells #[.bool false] t4) = w5) :
    w5.heap[w.heap.size]? = some (.cells #[x] t1) ∧ w5.heap[w.heap.size + 1]? = some (.cells #[.int .i64 0] t2) ∧ w5.heap[w.heap.size + 1 + 1]? = some (.cells #[.bool true] t3) ∧ w5.heap[w.heap.size + 1 + 1 + 1]? = some (.cells #[.bool false] t4) := by
  have n : ∀ (w : World) (o : Obj) (k : Nat), k = w.heap.size → (w.alloc o).heap[k]? = some o := fun w o k hk => by subst hk; exact World.alloc_heap_new w o
  have p : ∀ (w : World) (o : Obj) (k : Nat), k < w.heap.size → (w.alloc o).heap[k]? = w.heap[k]? := fun w o k hk => Below.heap_alloc w o k hk
  subst h
  refine ⟨?_, ?_, ?_, ?_⟩
  · rw [p _ _ _ (by simp; omega), p _ _ _ (by simp; omega), p _ _ _ (by simp)]; exact n _ _ _ rfl
  · rw [p _ _ _ (by simp), p _ _ _ (by simp)]; exact n _ _ _ (by simp)
  · rw [p _ _ _ (by simp)]; exact n _ _ _ (by simp)
  · exact n _ _ _ (by simp)
set_option maxRecDepth 100000 in
set_option maxHeartbeats 4000000 in
theorem goes_any {w : World} {F : FuncId} {bk : Bool} {stop : Int} {b g : Nat} {ev rv : Value} {es es' : List En} (hF : Itr F bk b ev es) (eg : ∀ args w, (callFunc F args).run Tryz.prog w = .ok (.enter F args) w) (hc : w.cell? ⟨b, 0, none⟩ = some ev) (hev : Es w ev es) (h0 : w.cell? ⟨g, 0, none⟩ = some rv) (hrv : Es w rv es')
    (hl : liveL es' = liveL es) (hn : lvn es' es'.length = lvn es es.length) (hlen : es.length ≤ 100000) (hlen' : es'.length ≤ 100000) :
    Calls Tryz.prog 9 #[.func (.func F) #[] #[.pointer (some ⟨b, 0, none⟩)], .pointer (some ⟨g, 0, none⟩), .bool bk, .int .i64 stop] w fun e w' => e = .returned (.bool true) ∧ Below w.heap.size w w' := by
  have hmf : ∀ (fn : Fn) (first cap : Array Value) (w : World), (Instr.makeFunc fn first cap).run Tryz.prog w = .ok (.func fn first cap) w := fun _ _ _ _ => rfl
  have hlb := lt_of_cell hc
  have hlg := lt_of_cell h0
  obtain ⟨w1, hw1⟩ : ∃ x, (w.alloc (.cells #[.bool bk] 4)).alloc (.cells #[.int .i64 stop] 3) = x := ⟨_, rfl⟩
  have hB1 : Below w.heap.size w w1 := by rw [← hw1]; exact ((Below.refl _ w).alloc (Nat.le_refl _) _).alloc (by simp) _
  have hs1 : w1.heap.size = w.heap.size + 2 := by rw [← hw1]; simp
  have v0 : w1.cell? ⟨w.heap.size, 0, none⟩ = some (.bool bk) := by rw [← hw1, cell_alloc_old _ _ _ _ (by simp)]; exact cell_alloc_new _ _ _ _ rfl
  have v1 : w1.cell? ⟨w.heap.size + 1, 0, none⟩ = some (.int .i64 stop) := by rw [← hw1]; exact cell_alloc_new _ _ _ _ (by simp)
  have C1 := rlive0 (cell_keep7 h0 hB1) (hrv.same fun k hk => hB1.block k (hrv.lt k hk)) hlen'
  have HRV := Lib.hid hrv
  have HEV := Lib.hid hev
  have HH0 := Lib.hid h0
  have HHC := Lib.hid hc
  have HF := Lib.hid hF
  have HN := Lib.hid hn
  have HW1 := Lib.hid hw1
  have HB1 := Lib.hid hB1
  have HV0 := Lib.hid v0
  have HV1 := Lib.hid v1
  rw [hl] at C1
  clear hw1 hrv hev h0 hc hF hn hB1 v0 v1 hl
  go_enter Tryz.func9, Tryz.ntmps9
  go_wp2_with fail
  rw [HW1.out]
  refine C1.mono ?_
  rintro e w2 ⟨lv, rfl, hE2, hB2⟩
  clear C1 HW1
  obtain ⟨la, lc, lg, rfl, -, -⟩ := hE2.es.open
  obtain ⟨N, hNN⟩ : ∃ N, (liveL es).length = N := ⟨_, rfl⟩
  rw [hNN]
  obtain ⟨w3, hw3⟩ : ∃ x, w2.alloc (.cells #[.slice la N lc] 37) = x := ⟨_, rfl⟩
  have hB23 : Below w2.heap.size w2 w3 := by rw [← hw3]; exact (Below.refl _ w2).alloc (Nat.le_refl _) _
  have hs2 := hB2.size
  have hB13 : Below w1.heap.size w1 w3 := hB2.trans (hB23.mono hB2.size)
  have hB03 := HB1.out.trans (hB13.mono HB1.out.size)
  have v3 : w3.cell? ⟨w2.heap.size, 0, none⟩ = some (.slice la N lc) := by rw [← hw3]; exact cell_alloc_new _ _ _ _ rfl
  have C2 := rnumbers0 (cell_keep7 HH0.out hB03) (HRV.out.same fun k hk => hB03.block k (HRV.out.lt k hk)) hlen'
  rw [HN.out] at C2
  have HW3 := Lib.hid hw3
  have HE3 : Hid (Es w3 (.slice la N lc) (liveL es)) := by
    show Es _ _ _
    rw [← hNN]
    exact hE2.es.same fun k hk => hB23.block k (hE2.es.lt k hk)
  have HLT : Hid (∀ k, (Value.slice la N lc).ownBlock = some k → k < w2.heap.size) := fun k hk => hE2.es.lt k (by rw [hNN]; exact hk)
  have HB03 := Lib.hid hB03
  have HB13 := Lib.hid hB13
  have HV3 := Lib.hid v3
  have hs3 := hB23.size
  clear hw3 hE2 hB2 hB23 hB13 hB03 v3
  go_wp2_with fail
  rw [HW3.out]
  refine C2.mono ?_
  rintro e w4 ⟨nv, rfl, hE4, hB4⟩
  clear C2 HW3
  obtain ⟨na, nc, ng, rfl, -, -⟩ := hE4.open
  rw [lvn_all, hNN]
  rw [lvn_all, hNN] at hE4
  obtain ⟨w5, hw5⟩ : ∃ x, (((w4.alloc (.cells #[.slice na N nc] 38)).alloc (.cells #[.int .i64 0] 3)).alloc (.cells #[.bool true] 4)).alloc (.cells #[.bool false] 4) = x := ⟨_, rfl⟩
  have hB5 : Below w4.heap.size w4 w5 := by rw [← hw5]; exact ((((Below.refl _ w4).alloc (Nat.le_refl _) _).alloc (by simp) _).alloc (by simp; omega) _).alloc (by simp; omega) _
  have hs4 := hB4.size
  have hs5 : w5.heap.size = w4.heap.size + 4 := by rw [← hw5]; simp
  obtain ⟨f1, f2, f3, f4⟩ := four_new w4 _ _ _ _ _ hw5
  have hB35 : Below w3.heap.size w3 w5 := hB4.trans (hB5.mono hB4.size)
  have hB15 := HB13.out.trans (hB35.mono HB13.out.size)
  have hB05 := HB03.out.trans (hB35.mono HB03.out.size)
  have hlt4 := hE4.lt0
  have hlt2 := HLT.out
  obtain ⟨v, hv⟩ : ∃ v : Gv, v = ⟨w4.heap.size + 1, w.heap.size, w2.heap.size, w4.heap.size + 1 + 1, w4.heap.size + 1 + 1 + 1, w4.heap.size, w.heap.size + 1⟩ := ⟨_, rfl⟩
  have hG5 : Gt w5 v bk stop (.slice la N lc) (.slice na N nc) 0 false := by
    rw [hv]
    exact ⟨(one_cell f2).1, cell_keep7 HV0.out hB15, cell_keep7 HV3.out hB35, (one_cell f3).1, (one_cell f4).1, (one_cell f1).1, cell_keep7 HV1.out hB15, (one_cell f2).2, (one_cell f3).2, (one_cell f4).2⟩
  have hl3 := lt_of_cell HV3.out
  have hX : ∀ k, k ≤ w4.heap.size → ¬ v.X k := fun k hk h => by rw [hv] at h; unfold Gv.X at h; simp only at h; omega
  have hL5 : Gl w5 v (.slice la N lc) (.slice na N nc) es := by
    refine ⟨HE3.out.same fun k hk => hB35.block k (by have := hlt2 k hk; omega), ?_, ?_, fun k hk => hX k (by have := hlt2 k hk; omega), fun k hk => hX k (by have := hlt4 k hk; omega), hlen⟩
    · have h := ownsR_same (w' := w5) hE4 (fun k hk => hB5.block k (hlt4 k hk))
      refine ⟨h.1, ?_⟩
      rcases h.2 with h0 | ⟨g, cap, cur, e, h1, h2⟩
      · exact .inl h0
      · exact .inr ⟨g, cap, cur, e, Nat.zero_le _, h2⟩
    · refine ⟨?_, ?_, ?_, ?_, ?_, ?_, ?_⟩
      · rw [hv]; show w4.heap.size + 1 ≠ w4.heap.size + 1 + 1; omega
      · rw [hv]; show w4.heap.size + 1 ≠ w4.heap.size + 1 + 1 + 1; omega
      · rw [hv]; show w4.heap.size + 1 + 1 ≠ w4.heap.size + 1 + 1 + 1; omega
      · exact hX _ (by rw [hv]; show w.heap.size ≤ _; omega)
      · exact hX _ (by rw [hv]; show w2.heap.size ≤ _; omega)
      · exact hX _ (by rw [hv]; exact Nat.le_refl _)
      · exact hX _ (by rw [hv]; show w.heap.size + 1 ≤ _; omega)
  have CF := HF.out w5 v stop _ _ hL5 hG5 (cell_keep7 HHC.out hB05) (HEV.out.same fun k hk => hB05.block k (HEV.out.lt k hk)) (fun k hk => hX k (by have := HEV.out.lt k hk; omega))
  have HVX : Hid (∀ k, v.X k → w.heap.size ≤ k) := fun k h => by rw [hv] at h; unfold Gv.X at h; simp only at h; omega
  have HB05 := Lib.hid hB05
  have HV := Lib.hid hv
  have HW5 := Lib.hid hw5
  rw [hv] at CF
  unfold yiV7 at CF
  simp only at CF
  rw [hNN] at CF
  clear hw5 f1 f2 f3 f4 hB35 hB15 hB05 hlt4 hlt2 hG5 hL5 hX hl3 hE4 hB4 hB5
  go_wp2_with fail
  rw [HW5.out]
  refine CF.mono ?_
  rintro e w6 ⟨rfl, hE6, m, ov, hG6, hor⟩
  clear CF
  have hb6 : Below w.heap.size w w6 := HB05.out.trans (hE6.below (fun k hk => HVX.out k (by rw [HV.out]; exact hk)) HB05.out.size)
  have HB6 := Lib.hid hb6
  have n6 : w6.cell? ⟨w4.heap.size + 1, 0, none⟩ = some (.int .i64 (m : Int)) := hG6.n
  have k6 : w6.cell? ⟨w4.heap.size + 1 + 1, 0, none⟩ = some (.bool true) := hG6.k
  have l6 : w6.cell? ⟨w2.heap.size, 0, none⟩ = some (.slice la N lc) := hG6.l
  have s6 : w6.cell? ⟨w.heap.size + 1, 0, none⟩ = some (.int .i64 stop) := hG6.s
  clear hb6 hE6 hG6 HV HW5
  rcases hor with ⟨rfl, rfl⟩ | ⟨rfl, hst, hm⟩
  · by_cases e1 : (m : Int) = stop
    · by_cases e2 : 0 < stop
      · have e3 : ((m : Int) == stop) = true := by simp [e1]
        go_wp2_with fail
        go_ret
        exact ⟨by first | rfl | simp, HB6.out⟩
      · have e3 : ((m : Int) == stop) = true := by simp [e1]
        go_wp2_with fail
        go_ret
        exact ⟨by first | rfl | simp, HB6.out⟩
    · have e3 : ((m : Int) == stop) = false := by simp [e1]
      go_wp2_with fail
      go_ret
      exact ⟨by first | rfl | simp, HB6.out⟩
  · have e2 : 0 < stop := by omega
    have e3 : ((m : Int) == stop) = true := by simp [hst]
    go_wp2_with fail
    go_ret
    exact ⟨by first | rfl | simp, HB6.out⟩
end Go.Proofs.YtjkggidcheagpaaGreat
