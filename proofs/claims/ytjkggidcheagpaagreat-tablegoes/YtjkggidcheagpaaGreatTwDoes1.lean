/-
  The law's does: Add.
-/
import Derived.Test.YtjkggidcheagpaaGreatTwMem
namespace Go.Proofs.YtjkggidcheagpaaGreat
open Go.RowKit Go.WideShapes

/-- A value turned, if there is such an entry; an entry killed. -/
noncomputable def Tb.sput (t : Tb) (n v : Int) : Tb := @ite Tb (t.has n) (Classical.propDecidable _) (t.putv n.toNat v) t
noncomputable def Tb.skill (t : Tb) (n : Int) : Tb := @ite Tb (t.has n) (Classical.propDecidable _) (t.kill n.toNat) t
/-- What a step makes of a table. -/
noncomputable def Tb.step (t : Tb) (x0 x1 x2 x3 x4 : Int) : Tb := if x0 = 1 then t.add x1 x2 x3 else if x0 = 2 then t.sput x4 x3 else if x0 = 3 then t.skill x4 else if x0 = 5 then t.clear else if x0 = 6 then t.cp else t
theorem step_add (t : Tb) (x1 x2 x3 x4 : Int) : t.step 1 x1 x2 x3 x4 = t.add x1 x2 x3 := by unfold Tb.step; rw [if_pos rfl]
theorem step_put (t : Tb) (x1 x2 x3 : Int) (m : Nat) (hm : m < t.es.length) (hl : (nth t.es m).live = true) : t.step 2 x1 x2 x3 (m : Int) = t.putv m x3 := by
  unfold Tb.step
  rw [if_neg (by decide), if_pos rfl]
  exact (if_pos ⟨by omega, by omega, by rw [Int.toNat_natCast]; exact hl⟩).trans (by rw [Int.toNat_natCast])
theorem step_put_no (t : Tb) (x1 x2 x3 x4 : Int) (h : ¬ t.has x4) : t.step 2 x1 x2 x3 x4 = t := by
  unfold Tb.step
  rw [if_neg (by decide), if_pos rfl]
  exact if_neg h
theorem step_kill (t : Tb) (x1 x2 x3 : Int) (m : Nat) (hm : m < t.es.length) (hl : (nth t.es m).live = true) : t.step 3 x1 x2 x3 (m : Int) = t.kill m := by
  unfold Tb.step
  rw [if_neg (by decide), if_neg (by decide), if_pos rfl]
  exact (if_pos ⟨by omega, by omega, by rw [Int.toNat_natCast]; exact hl⟩).trans (by rw [Int.toNat_natCast])
theorem step_kill_no (t : Tb) (x1 x2 x3 x4 : Int) (h : ¬ t.has x4) : t.step 3 x1 x2 x3 x4 = t := by
  unfold Tb.step
  rw [if_neg (by decide), if_neg (by decide), if_pos rfl]
  exact if_neg h
theorem step_clear (t : Tb) (x1 x2 x3 x4 : Int) : t.step 5 x1 x2 x3 x4 = t.clear := by unfold Tb.step; rw [if_neg (by decide), if_neg (by decide), if_neg (by decide), if_pos rfl]
theorem step_copy (t : Tb) (x1 x2 x3 x4 : Int) : t.step 6 x1 x2 x3 x4 = t.cp := by unfold Tb.step; rw [if_neg (by decide), if_neg (by decide), if_neg (by decide), if_neg (by decide), if_pos rfl]
theorem step_same (t : Tb) (x0 x1 x2 x3 x4 : Int) (h : x0 ≠ 1 ∧ x0 ≠ 2 ∧ x0 ≠ 3 ∧ x0 ≠ 5 ∧ x0 ≠ 6) : t.step x0 x1 x2 x3 x4 = t := by unfold Tb.step; rw [if_neg h.1, if_neg h.2.1, if_neg h.2.2.1, if_neg h.2.2.2.1, if_neg h.2.2.2.2]
theorem dn_of {w w0 w2 : World} {X : Nat} {p p' : Pl} {t' : Tb} {mv mr : Value} {M : Int → Int → World → Prop} {a' b' : Int} {n : Nat} (hb : Below w.heap.size w w0) (h : Tw w2 X p' t' mv mr M a' b' ∧ (∀ k, p'.all X k → p.all X k ∨ w0.heap.size ≤ k) ∧ Ex (fun k => p.all X k ∨ mB mv k ∨ mB mr k) w0 w2) (bd : Bd t' a' b' n) : Dn w X p mv mr M n p' t' a' b' w2 :=
  ⟨h.1, bd, fun k hk => (h.2.1 k hk).elim .inl (fun x => .inr (Nat.le_trans hb.size x)), (ex_of hb).next h.2.2 (fun _ _ x => x)⟩
/-- A call that has turned nothing. -/
theorem dn_same {w w' : World} {X : Nat} {p : Pl} {t : Tb} {mv mr : Value} {M : Int → Int → World → Prop} {a b : Int} {n : Nat} (h : Tw w X p t mv mr M a b) (hMo : MtOk mv M) (hb : Below w.heap.size w w') (bd : Bd t a b n) : Dn w X p mv mr M (n + 1) p t a b w' :=
  ⟨h.below hMo hb, ⟨by have := bd.1; omega, by have := bd.2.1; omega, by have := bd.2.2.1; omega, bd.2.2.2.1, by have := bd.2.2.2.2.1; omega, bd.2.2.2.2.2.1, by have := bd.2.2.2.2.2.2; omega⟩, fun _ hk => .inl hk, ex_of hb⟩
/-- What does looks at: the four pointers, and the step's ints. -/
theorem Tw.seen {w w0 V : World} {X : Nat} {p : Pl} {t : Tb} {mv mr : Value} {M : Int → Int → World → Prop} {a b : Int} (h : Tw w X p t mv mr M a b) (hMo : MtOk mv M) {x0 x1 x2 x3 x4 : Int} {ty : TypeId} (hw0 : (w.alloc (.cells #[.int .i64 x0, .int .i64 x1, .int .i64 x2, .int .i64 x3, .int .i64 x4] ty)).drew = w0) (hV : Ex (fun k => p.d k ∨ p.e k ∨ mB mv k ∨ mB mr k) w0 V) :
    ((V.cell? ⟨X, 0, none⟩ = some (.pointer (some ⟨p.g, 0, none⟩)) ∧ V.cell? ⟨X, 1, none⟩ = some (.pointer (some ⟨p.g2, 0, none⟩))) ∧ (V.cell? ⟨X, 2, none⟩ = some p.sp ∧ V.cell? ⟨X, 3, none⟩ = some p.kp)) ∧
    ((V.cell? ⟨w.heap.size, 0, none⟩ = some (.int .i64 x0) ∧ V.cell? ⟨w.heap.size, 1, none⟩ = some (.int .i64 x1)) ∧ (V.cell? ⟨w.heap.size, 2, none⟩ = some (.int .i64 x2) ∧ V.cell? ⟨w.heap.size, 3, none⟩ = some (.int .i64 x3) ∧ V.cell? ⟨w.heap.size, 4, none⟩ = some (.int .i64 x4))) := by
  have hb : Below w.heap.size w w0 := by rw [← hw0]; exact ((Below.refl _ w).alloc (Nat.le_refl _) _).drew
  have hs : w0.heap.size = w.heap.size + 1 := by rw [← hw0]; show (w.alloc _).heap.size = _; simp
  obtain ⟨lab, sp⟩ := h.sep
  have hB : Blk w0 w.heap.size 5 (fun j => #[Value.int .i64 x0, .int .i64 x1, .int .i64 x2, .int .i64 x3, .int .i64 x4].getD j .nilFunc) := by rw [← hw0]; exact (Blk.new w #[Value.int .i64 x0, .int .i64 x1, .int .i64 x2, .int .i64 x3, .int .i64 x4] ty).same rfl
  have eX : V.heap[X]? = w0.heap[X]? := hV.block X (by have := sp.lt X (.inl rfl); omega) (fun hx => by
    have h0 := sp.x
    rcases hx with y | y | y | y
    · have := sp.d _ y; omega
    · have := sp.e _ y; omega
    · have := (sp.m _ y).1; omega
    · have := (sp.r _ y).1; omega)
  have eB : V.heap[w.heap.size]? = w0.heap[w.heap.size]? := hV.block _ (by omega) (fun hx => by
    rcases hx with y | y | y | y
    · have := sp.lt _ (.inr (.inl y)); omega
    · have := sp.lt _ (.inr (.inr (.inl y))); omega
    · have := (sp.m _ y).2; omega
    · have := (sp.r _ y).2; omega)
  have hX := (h.below hMo hb).hx.same eX
  have hB' := hB.same eB
  exact ⟨⟨⟨hX.c 0 (by omega), hX.c 1 (by omega)⟩, hX.c 2 (by omega), hX.c 3 (by omega)⟩, ⟨hB'.c 0 (by omega), hB'.c 1 (by omega)⟩, hB'.c 2 (by omega), hB'.c 3 (by omega), hB'.c 4 (by omega)⟩
theorem Tb.add_made (t : Tb) (u k v : Int) : t.made ≤ (t.add u k v).made ∧ (t.add u k v).made ≤ t.made + 1 ∧ (t.add u k v).births = t.births + 1 ∧ (t.add u k v).turn = t.turn + 1 := by
  unfold Tb.add
  by_cases h : t.es.length < rm (2 ^ t.L)
  · rw [if_pos h]
    exact ⟨Nat.le_refl _, Nat.le_succ _, rfl, rfl⟩
  · rw [if_neg h]
    exact ⟨Nat.le_succ _, Nat.le_refl _, rfl, rfl⟩
set_option maxRecDepth 100000 in
set_option maxHeartbeats 4000000 in
theorem does_add {w : World} {X : Nat} {p : Pl} {t : Tb} {pm pr : Option Addr} {M : Int → Int → World → Prop} {a b : Int} {n : Nat} (hT : Tw w X p t (.pointer pm) (.pointer pr) M a b) (hMo : MtOk (.pointer pm) M) (hBd : Bd t a b n) (hn : n ≤ 2000) (x1 x2 x3 x4 : Int) :
    Calls Tryz.prog 10 #[.pointer (some ⟨X, 0, none⟩), .agg #[.int .i64 1, .int .i64 x1, .int .i64 x2, .int .i64 x3, .int .i64 x4]] w fun e w' => e = .returned (.bool true) ∧ ∃ p' a' b', Dn w X p (.pointer pm) (.pointer pr) M (n + 1) p' (t.step 1 x1 x2 x3 x4) a' b' w' := by
  obtain ⟨w0, hw0⟩ : ∃ y, (w.alloc (.cells #[.int .i64 1, .int .i64 x1, .int .i64 x2, .int .i64 x3, .int .i64 x4] 47)).drew = y := ⟨_, rfl⟩
  have hb : Below w.heap.size w w0 := by rw [← hw0]; exact ((Below.refl _ w).alloc (Nat.le_refl _) _).drew
  have hT0 := hT.below hMo hb
  obtain ⟨d1, d2, d3, d4, d5, d6, d7⟩ := hBd
  have C1 := add_any hT0.dt hT0.ok hMo hT0.m (by omega) ⟨by omega, by omega⟩ (by omega) (by omega) x1 x2 x3
  have had := t.add_made x1 x2 x3
  have HSE : Hid (∀ V, Ex (fun k => p.d k ∨ p.e k ∨ mB (.pointer pm) k ∨ mB (.pointer pr) k) w0 V → V.cell? ⟨X, 0, none⟩ = some (.pointer (some ⟨p.g, 0, none⟩)) ∧ V.cell? ⟨w.heap.size, 1, none⟩ = some (.int .i64 x1) ∧ V.cell? ⟨w.heap.size, 2, none⟩ = some (.int .i64 x2) ∧ V.cell? ⟨w.heap.size, 3, none⟩ = some (.int .i64 x3)) := fun V hV => by
    obtain ⟨⟨⟨q0, q1⟩, q2, q3⟩, ⟨r0, r1⟩, r2, r3, r4⟩ := hT.seen hMo hw0 hV
    exact ⟨q0, r1, r2, r3⟩
  have HSE2 : Hid (∀ V, Ex (fun k => p.d k ∨ p.e k ∨ mB (.pointer pm) k ∨ mB (.pointer pr) k) w0 V → V.cell? ⟨X, 1, none⟩ = some (.pointer (some ⟨p.g2, 0, none⟩)) ∧ V.cell? ⟨w.heap.size, 1, none⟩ = some (.int .i64 x1) ∧ V.cell? ⟨w.heap.size, 2, none⟩ = some (.int .i64 x2) ∧ V.cell? ⟨w.heap.size, 3, none⟩ = some (.int .i64 x3)) := fun V hV => by
    obtain ⟨⟨⟨q0, q1⟩, q2, q3⟩, ⟨r0, r1⟩, r2, r3, r4⟩ := hT.seen hMo hw0 hV
    exact ⟨q1, r1, r2, r3⟩
  have s0 := HSE.out w0 (Ex.refl _ _)
  have HW0 := Lib.hid hw0
  have HB := Lib.hid hb
  have HT0 := Lib.hid hT0
  have HMo := Lib.hid hMo
  clear hw0 hb hT0 hT hMo
  go_enter Tryz.func10, Tryz.ntmps10
  go_upto_region 3 with fail
  have s0' := s0
  rw [← HW0.out] at s0'
  go_region_held3 (fun V => V.cell? ⟨X, 0, none⟩ = some (.pointer (some ⟨p.g, 0, none⟩)) ∧ V.cell? ⟨w.heap.size, 1, none⟩ = some (.int .i64 x1) ∧ V.cell? ⟨w.heap.size, 2, none⟩ = some (.int .i64 x2) ∧ V.cell? ⟨w.heap.size, 3, none⟩ = some (.int .i64 x3))
    (first | with_reducible exact s0' | with_reducible exact s1 | fail)
    (first | (go_at_call 12; rw [HW0.out]; refine C1.mono ?_; rintro e w1 ⟨rfl, gi', r', h', ev', hA⟩; have s1 := HSE.out w1 (hA.ex.mono (fun k _ hk => hk.elim .inl (fun x => .inr (.inr (.inl x)))))) | fail)
  have hX1 : Ex (fun k => p.d k ∨ p.e k ∨ mB (.pointer pm) k ∨ mB (.pointer pr) k) w0 w1 := hA.ex.mono (fun k _ hk => hk.elim .inl (fun x => .inr (.inr (.inl x))))
  obtain ⟨hR1, hM1, _⟩ := HT0.out.mid hA.ex
  have hB1d : Below w1.heap.size w1 w1.drew := (Below.refl _ w1).drew
  have C2 := radd_s (hR1.below hB1d) HT0.out.ok (hM1.below hB1d) (by omega) ⟨by omega, by omega⟩ (by omega) (by omega) x1 x2 x3
  have s2 := HSE2.out w1.drew hX1.drew
  have HA := Lib.hid hA
  have HX1 := Lib.hid hX1
  clear hA hX1 hR1 hM1 s0 s0' s1 C1
  go_upto_region 4 with fail
  go_region_held3 (fun V => V.cell? ⟨X, 1, none⟩ = some (.pointer (some ⟨p.g2, 0, none⟩)) ∧ V.cell? ⟨w.heap.size, 1, none⟩ = some (.int .i64 x1) ∧ V.cell? ⟨w.heap.size, 2, none⟩ = some (.int .i64 x2) ∧ V.cell? ⟨w.heap.size, 3, none⟩ = some (.int .i64 x3))
    (first | with_reducible exact s2 | with_reducible exact s3 | fail)
    (first | (go_at_call 28; refine C2.mono ?_; rintro e w2 ⟨rfl, ev2', q2', hq2, he2, hR2, hM2, hx2⟩; have s3 := HSE2.out w2 (HX1.out.drew.next hx2 (fun k hk h => by rcases h with h | h | h | h; exact .inr (.inl (.inl h)); exact .inr (.inl (.inr (.inl h))); exact .inr (.inl (.inr (.inr h))); exact .inr (.inr (.inr h))))) | fail)
  have HF := Lib.hid (dn_of (n := n + 1) HB.out (Tw.both HT0.out HMo.out HA.out.dt HA.out.fx HA.out.m HA.out.ex hR2 (fun j hj => by
    rcases hj with h | h | h
    · exact .inl (.inl h)
    · rcases hq2 with y | y
      · exact .inl (.inr (.inl (h.trans y)))
      · exact .inr (by rw [h]; exact y)
    · rcases he2 j h with y | y
      · exact .inl (.inr (.inr y))
      · exact .inr y) hM2 ((Ex.refl _ w1).drew.next hx2 (fun k hk h => by
        rcases h with h | h | h | h
        · exact .inl (.inl h)
        · exact .inl (.inr (.inl h))
        · exact .inl (.inr (.inr h))
        · exact .inr h)) (HT0.out.ok.add x1 x2 x3 (by omega)) (.inl (by omega))) ⟨by omega, by omega, by omega, by omega, by omega, d6, by omega⟩)
  clear HA hR2 hM2 hx2 hq2 he2 s2 s3 C2 HX1
  go_wp2_with fail
  go_ret
  exact ⟨rfl, _, _, _, by rw [step_add]; exact HF.out⟩
end Go.Proofs.YtjkggidcheagpaaGreat
