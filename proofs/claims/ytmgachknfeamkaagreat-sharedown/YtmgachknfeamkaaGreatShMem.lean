/-
  A family and a namespace in memory; numberOf, keys.
-/
import Derived.Test.YtmgachknfeamkaaGreatShMath
import Derived.Test.YtmgachknfeamkaaGreatDts
import Derived.Test.YtmgachknfeamkaaGreatDtPut
import Derived.Test.YtmgachknfeamkaaGreatDtKill
import Derived.Test.YtmgachknfeamkaaGreatStRow
import Derived.Test.YtmgachknfeamkaaGreatDgText
import Derived.Maps.OwnSet
import Derived.StringKeys
import Derived.Laws.EntriesVeiled
namespace Go.Proofs.YtmgachknfeamkaaGreat
open Go.RowKit Go.WideShapes

/-- A text's hash; a text as a key of a map. -/
def hsT (s : ByteArray) : Int := hashed (tsum s s.size) (-2)
theorem text_h (s : ByteArray) (w : World) (hs : s.size ≤ 3000) : Calls Tryz.prog 80 #[.string s] w fun e w' => e = .returned (.int .i64 (hsT s)) ∧ w' = w := text_any s w hs
def klS (s : ByteArray) : Lit := .string s.data.toList
theorem klS_inj {a b : ByteArray} (h : klS a = klS b) : a = b := by
  unfold klS at h
  injection h with h
  have : a.data = b.data := Array.toList_inj.1 h
  cases a
  cases b
  simp_all
theorem isKl (s : ByteArray) : WideAt.IsKeyLit (klS s) := by unfold klS; simp [WideAt.IsKeyLit]
theorem Tryz.keyS : Maps.Keyed Tryz.prog 9 := Maps.string_keyed Tryz.underlying9
theorem Tryz.zeroI (w : World) : (zeroValue 3).run Tryz.prog w = .ok (.int .i64 0) w := by kernel_rfl
theorem keyS_mk {s : ByteArray} (hs : s.size ≤ 3000) : keyOf Tryz.prog 9 (.string s) = some (klS s) := WideMaps.keyOf_string_mk Tryz.underlying9 (Nat.le_trans hs (by unfold maxLen; decide))
theorem wf_len {n : Nat} (h : n ≤ 1000000) : (Lit.int .i64 (n : Int)).wf = true := by
  have h1 : IntKind.i64.min = -9223372036854775808 := by decide
  have h2 : IntKind.i64.max = 9223372036854775807 := by decide
  simp [Lit.wf, h1, h2]
  omega
/-- The map of the names' numbers. -/
def Nm (w : World) (mb : Nat) (all : List ByteArray) : Prop := ∃ D : DataW Unit, w.ownsMap Tryz.prog 9 (plainElem Tryz.prog 3) mb all.length D ∧
  ∀ s : ByteArray, (∀ n : Nat, all[n]? = some s → Maps.has D (klS s) = true ∧ D.atKey (klS s) (.lit (.int .i64 0)) = .lit (.int .i64 (n : Int))) ∧ (s ∉ all → Maps.has D (klS s) = false)
theorem Nm.lt {w : World} {mb : Nat} {all : List ByteArray} (h : Nm w mb all) : mb < w.heap.size := by
  obtain ⟨D, h, _⟩ := h
  exact h.lt
theorem Nm.same {w w' : World} {mb : Nat} {all : List ByteArray} (h : Nm w mb all) (e : w'.heap[mb]? = w.heap[mb]?) : Nm w' mb all := by
  obtain ⟨D, ⟨es, clock, hb, F, hs, hD⟩, h2⟩ := h
  exact ⟨D, ⟨es, clock, e.trans hb, F, hs, hD⟩, h2⟩
theorem Nm.new (w : World) : Nm (w.alloc (.map #[] 0)) w.heap.size [] :=
  ⟨.map [], World.ownsMap_made w _ _ _, fun s => ⟨fun n h => by simp at h, fun _ => rfl⟩⟩
theorem Nm.look {w : World} {mb : Nat} {all : List ByteArray} (h : Nm w mb all) {s : ByteArray} (hs : s.size ≤ 3000) {k : Int} (hk : Num all s k) :
    (Instr.lookup 55 (.map (some mb)) (.string s) true).run Tryz.prog w = .ok (.tuple #[.int .i64 (if k = -1 then 0 else k), .bool (decide (k ≠ -1))]) w := by
  obtain ⟨D, hD, h2⟩ := h
  obtain ⟨v, ps, hr, hv⟩ := hD.look_ok (t := 55) Tryz.keyS Tryz.underlying55 (Tryz.zeroI w) (plainElem_int Tryz.underlying3 (by decide)) (keyS_mk hs)
  obtain ⟨c, rfl, hc, _⟩ := plainElem_int_inv Tryz.underlying3 hv
  rw [hr]
  have hc' : D.atKey (klS s) (.lit (.int .i64 0)) = .lit (.int .i64 c) := by injection hc
  rcases hk with ⟨n, rfl, hn⟩ | ⟨rfl, hn⟩
  · obtain ⟨g1, g2⟩ := (h2 s).1 n hn
    rw [g2] at hc'
    have hc' := (Lit.int.inj (DataW.lit.inj hc')).2
    rw [g1, ← hc', if_neg (by omega), show decide (((n : Nat) : Int) ≠ -1) = true from decide_eq_true (by omega)]
  · have g1 := (h2 s).2 hn
    rw [Maps.atKey_of_not_has g1] at hc'
    have hc' := (Lit.int.inj (DataW.lit.inj hc')).2
    rw [g1, ← hc', if_pos rfl]
    simp
theorem Nm.put {w : World} {mb : Nat} {all : List ByteArray} (h : Nm w mb all) {s : ByteArray} (hs : s.size ≤ 3000) (hn : s ∉ all) (hl : all.length ≤ 1000000) :
    ∃ w', (Instr.mapUpdate 55 (.map (some mb)) (.string s) (.int .i64 (all.length : Int))).run Tryz.prog w = .ok () w' ∧ Nm w' mb (all ++ [s]) ∧ w.grownBy w' (some mb) := by
  obtain ⟨D, hD, h2⟩ := h
  obtain ⟨w', hr, hD', hg⟩ := hD.update (t := 55) Tryz.keyS Tryz.underlying55 (by unfold maxLen; omega) (keyS_mk hs) (plainElem_int Tryz.underlying3 (a := (all.length : Int)) (wf_len hl))
  refine ⟨w', hr, ⟨_, by rw [List.length_append]; exact hD', fun x => ?_⟩, hg⟩
  have hm := hD.isMap
  by_cases hx : x = s
  · subst hx
    refine ⟨fun n h3 => ?_, fun h3 => absurd (by simp) h3⟩
    have : n = all.length := by
      rcases Nat.lt_or_ge n all.length with c | c
      · rw [List.getElem?_append_left c] at h3
        exact absurd (List.mem_of_getElem? h3) hn
      · have := (List.getElem?_eq_some_iff.1 h3).1
        simp at this
        omega
    rw [this]
    exact ⟨Maps.has_put_same hm (isKl _) _, Maps.atKey_put_same hm (isKl _) _ _⟩
  · have hne : klS x ≠ klS s := fun e => hx (klS_inj e)
    refine ⟨fun n h3 => ?_, fun h3 => ?_⟩
    · have hl : n < all.length := by
        have h4 := (List.getElem?_eq_some_iff.1 h3).1
        simp at h4
        rcases Nat.lt_or_ge n all.length with c | c
        · exact c
        · rw [List.getElem?_append_right c, show n - all.length = 0 by omega] at h3
          simp at h3
          exact absurd h3.symm hx
      rw [List.getElem?_append_left hl] at h3
      rw [Maps.has_put_other hne, Maps.atKey_put_other hne]
      exact (h2 x).1 n h3
    · rw [Maps.has_put_other hne]
      exact (h2 x).2 (fun h4 => h3 (List.mem_append_left _ h4))
theorem numberOf_any {w : World} {f mb : Nat} {all : List ByteArray} (k4 : w.cell? ⟨f, 4, none⟩ = some (.map (some mb))) (h : Nm w mb all) {s : ByteArray} (hs : s.size ≤ 3000) {k : Int} (hk : Num all s k) :
    Calls Tryz.prog 78 #[.pointer (some ⟨f, 0, none⟩), .string s] w fun e w' => e = .returned (.int .i64 k) ∧ w' = w := by
  have hL := h.look hs hk
  by_cases hc : k = -1
  · subst hc
    rw [if_pos rfl, show decide ((-1 : Int) ≠ -1) = false by decide] at hL
    clear h hk
    go_enter Tryz.func78, Tryz.ntmps78
    go_wp2
    go_ret
    exact ⟨rfl, rfl⟩
  · rw [if_neg hc, show decide (k ≠ -1) = true by simp [hc]] at hL
    clear h hk hc
    go_enter Tryz.func78, Tryz.ntmps78
    go_wp2
    go_ret
    exact ⟨rfl, rfl⟩
theorem eqFa (f : Nat) (w : World) : (binOp .eql 52 (.pointer (some ⟨f, 0, none⟩)) (.pointer none)).run Tryz.prog w = .ok (.bool false) w := by kernel_rfl
theorem eqSp (s : Nat) (w : World) : (binOp .eql 53 (.pointer (some ⟨s, 0, none⟩)) (.pointer none)).run Tryz.prog w = .ok (.bool false) w := by kernel_rfl
theorem eqT7 (g : Nat) (w : World) : (binOp .eql 54 (.pointer (some ⟨g, 0, none⟩)) (.pointer none)).run Tryz.prog w = .ok (.bool false) w := by kernel_rfl
theorem keys_yes {w : World} {f g : Nat} (k1 : w.cell? ⟨f, 1, none⟩ = some (.pointer (some ⟨g, 0, none⟩))) :
    Calls Tryz.prog 41 #[.pointer (some ⟨f, 0, none⟩)] w fun e w' => e = .returned (.pointer (some ⟨g, 0, none⟩)) ∧ w' = w := by
  have h1 := eqFa f
  have h2 := eqT7 g
  go_enter Tryz.func41, Tryz.ntmps41
  go_wp2
  go_ret
  exact ⟨rfl, rfl⟩
/-- A family's cells. -/
def fF (mv : Value) (g room most mb : Nat) (nv : Value) : Nat → Value
  | 0 => mv
  | 1 => .pointer (some ⟨g, 0, none⟩)
  | 2 => .int .i64 (room : Int)
  | 3 => .int .i64 (most : Int)
  | 4 => .map (some mb)
  | _ => nv
def Ns (w : World) (v : Value) (l : List ByteArray) : Prop := w.ownsRow 0 9 1 v l.length (l.map Value.string)
theorem Ns.nil (w : World) : Ns w (.slice none 0 0) [] := ⟨rfl, Or.inl ⟨rfl, rfl⟩⟩
theorem Ns.same {w w' : World} {v : Value} {l : List ByteArray} (h : Ns w v l) (e : ∀ k, v.ownBlock = some k → w'.heap[k]? = w.heap[k]?) : Ns w' v l := by
  refine ⟨h.1, ?_⟩
  rcases h.2 with x | ⟨g, cap, cur, hv, h1, h2, h3⟩
  · exact .inl x
  · exact .inr ⟨g, cap, cur, hv, h1, (e g (by rw [hv]; rfl)).trans h2, h3⟩
theorem Ns.lt {w : World} {v : Value} {l : List ByteArray} (h : Ns w v l) : ∀ k, v.ownBlock = some k → k < w.heap.size := fun k hk => (World.ownsRow.lt h k hk).2
/-- A family but for its key table's inside. -/
structure Nh (w : World) (f g room most mb : Nat) (nv : Value) (all : List ByteArray) (mv : Value) : Prop where
  hd : Blk w f 6 (fF mv g room most mb nv)
  mp : Nm w mb all
  ns : Ns w nv all
  n1 : f ≠ mb
  n2 : ∀ k, nv.ownBlock = some k → k ≠ f ∧ k ≠ mb
def hX (f mb : Nat) (nv : Value) (k : Nat) : Prop := k = f ∨ k = mb ∨ nv.ownBlock = some k
theorem Nh.same {w w' : World} {f g room most mb : Nat} {nv : Value} {all : List ByteArray} {mv : Value} (x : Nh w f g room most mb nv all mv) (e : ∀ k, hX f mb nv k → w'.heap[k]? = w.heap[k]?) : Nh w' f g room most mb nv all mv :=
  ⟨x.hd.same (e f (.inl rfl)), x.mp.same (e mb (.inr (.inl rfl))), x.ns.same fun k hk => e k (.inr (.inr hk)), x.n1, x.n2⟩
theorem Nh.lt {w : World} {f g room most mb : Nat} {nv : Value} {all : List ByteArray} {mv : Value} (x : Nh w f g room most mb nv all mv) : ∀ k, hX f mb nv k → k < w.heap.size := by
  rintro k (rfl | rfl | hk)
  · exact x.hd.lt (by omega)
  · exact x.mp.lt
  · exact x.ns.lt k hk
structure Fam (w : World) (f g gi r h : Nat) (ev : Value) (mb : Nat) (nv : Value) (F : Fa) (mv : Value) : Prop where
  nh : Nh w f g F.room F.most mb nv F.all mv
  dt : Dt w g gi r h ev F.kt mv
  ap : ∀ k, hX f mb nv k → ¬ dX g gi r h ev k
  n3 : ∀ k, mB mv k → ¬ hX f mb nv k
/-- The blocks of a family. -/
def fX (f g gi r h : Nat) (ev : Value) (mb : Nat) (nv : Value) (k : Nat) : Prop := hX f mb nv k ∨ dX g gi r h ev k
theorem Fam.same {w w' : World} {f g gi r h : Nat} {ev : Value} {mb : Nat} {nv : Value} {F : Fa} {mv : Value} (x : Fam w f g gi r h ev mb nv F mv) (e : ∀ k, fX f g gi r h ev mb nv k → w'.heap[k]? = w.heap[k]?) : Fam w' f g gi r h ev mb nv F mv :=
  ⟨x.nh.same fun k hk => e k (.inl hk), x.dt.same fun k hk => e k (.inr hk), x.ap, x.n3⟩
theorem Fam.lt {w : World} {f g gi r h : Nat} {ev : Value} {mb : Nat} {nv : Value} {F : Fa} {mv : Value} (x : Fam w f g gi r h ev mb nv F mv) : ∀ k, fX f g gi r h ev mb nv k → k < w.heap.size := by
  rintro k (hk | hk)
  · exact x.nh.lt k hk
  · exact x.dt.lt k hk
theorem Fam.below {w w' : World} {f g gi r h : Nat} {ev : Value} {mb : Nat} {nv : Value} {F : Fa} {mv : Value} (x : Fam w f g gi r h ev mb nv F mv) (hb : Below w.heap.size w w') : Fam w' f g gi r h ev mb nv F mv := x.same fun k hk => hb.block k (x.lt k hk)
theorem Dt.nm {w : World} {g gi r h : Nat} {ev : Value} {t : Tb} {mv : Value} (x : Dt w g gi r h ev t mv) {k : Nat} (y : mB mv k) : ¬ dX g gi r h ev k := by
  intro hk
  obtain ⟨h1, h2, h3, h4, h5⟩ := x.mp k y
  rcases hk with z | z | z | z | z
  · exact h1 z
  · exact h2 z
  · exact h3 z
  · exact h4 z
  · exact h5 z
theorem Fam.nm {w : World} {f g gi r h : Nat} {ev : Value} {mb : Nat} {nv : Value} {F : Fa} {mv : Value} (x : Fam w f g gi r h ev mb nv F mv) : ∀ k, mB mv k → ¬ fX f g gi r h ev mb nv k := by
  rintro k hk (y | y)
  · exact x.n3 k hk y
  · exact x.dt.nm hk y
/-- .. while its meter alone counts. -/
theorem Fam.met {w w' : World} {f g gi r h : Nat} {ev : Value} {mb : Nat} {nv : Value} {F : Fa} {mv : Value} (x : Fam w f g gi r h ev mb nv F mv) (e : Ex (mB mv) w w') : Fam w' f g gi r h ev mb nv F mv := x.same fun k hk => e.block k (x.lt k hk) (fun y => x.nm k y hk)
theorem Dt.met {w w' : World} {g gi r h : Nat} {ev : Value} {t : Tb} {mv : Value} (x : Dt w g gi r h ev t mv) (e : Ex (mB mv) w w') : Dt w' g gi r h ev t mv := x.same fun k hk => e.block k (x.lt k hk) (fun y => x.nm y hk)
/-- A namespace's cells; those of its row, and of its own table's stand. -/
def spF (f : Nat) (T : TypeId) (q v : Nat) : Nat → Value
  | 0 => .pointer (some ⟨f, 0, none⟩)
  | 1 => .iface T (.pointer (some ⟨q, 0, none⟩))
  | _ => .int .u64 (v : Int)
def sdF (f : Nat) (x : Value) : Nat → Value
  | 0 => .pointer (some ⟨f, 0, none⟩)
  | _ => x
theorem IntsR.lt0 {w : World} {v : Value} {l : List Int} (h : IntsR 0 w v l) : ∀ k, v.ownBlock = some k → k < w.heap.size := fun k hk => (World.ownsRow.lt h k hk).2
theorem IntsR.same0 {w w' : World} {v : Value} {l : List Int} (h : IntsR 0 w v l) (e : ∀ k, v.ownBlock = some k → w'.heap[k]? = w.heap[k]?) : IntsR 0 w' v l := by
  refine ⟨h.1, ?_⟩
  rcases h.2 with x | ⟨g, cap, cur, hv, h1, h2, h3⟩
  · exact .inl x
  · exact .inr ⟨g, cap, cur, hv, h1, (e g (by rw [hv]; rfl)).trans h2, h3⟩
/-- How a namespace stands, in memory at q, in its blocks X. -/
def Sq (w : World) (q f : Nat) (mv : Value) (X : Nat → Prop) : Stn → Prop
  | .row vs => ∃ vv, Blk w q 2 (sdF f vv) ∧ IntsR 0 w vv vs ∧ vv.ownBlock ≠ some q ∧ X = fun k => k = q ∨ vv.ownBlock = some k
  | .own t => ∃ g gi r h ev, Blk w q 2 (sdF f (.pointer (some ⟨g, 0, none⟩))) ∧ Dt w g gi r h ev t mv ∧ ¬ dX g gi r h ev q ∧ X = fun k => k = q ∨ dX g gi r h ev k
theorem Sq.same {w w' : World} {q f : Nat} {mv : Value} {X : Nat → Prop} {st : Stn} (x : Sq w q f mv X st) (e : ∀ k, X k → w'.heap[k]? = w.heap[k]?) : Sq w' q f mv X st := by
  cases st with
  | row vs =>
    obtain ⟨vv, h1, h2, h3, rfl⟩ := x
    exact ⟨vv, h1.same (e q (.inl rfl)), h2.same0 fun k hk => e k (.inr hk), h3, rfl⟩
  | own t =>
    obtain ⟨g, gi, r, h', ev, h1, h2, h3, rfl⟩ := x
    exact ⟨g, gi, r, h', ev, h1.same (e q (.inl rfl)), h2.same fun k hk => e k (.inr hk), h3, rfl⟩
theorem Sq.lt {w : World} {q f : Nat} {mv : Value} {X : Nat → Prop} {st : Stn} (x : Sq w q f mv X st) : ∀ k, X k → k < w.heap.size := by
  cases st with
  | row vs =>
    obtain ⟨vv, h1, h2, h3, rfl⟩ := x
    rintro k (rfl | hk)
    · exact h1.lt (by omega)
    · exact h2.lt0 k hk
  | own t =>
    obtain ⟨g, gi, r, h', ev, h1, h2, h3, rfl⟩ := x
    rintro k (rfl | hk)
    · exact h1.lt (by omega)
    · exact h2.lt k hk
theorem Sq.q {w : World} {q f : Nat} {mv : Value} {X : Nat → Prop} {st : Stn} (x : Sq w q f mv X st) : X q := by
  cases st with
  | row vs => obtain ⟨vv, h1, h2, h3, rfl⟩ := x; exact .inl rfl
  | own t => obtain ⟨g, gi, r, h', ev, h1, h2, h3, rfl⟩ := x; exact .inl rfl
def FamX (w : World) (f : Nat) (F : Fa) (mv : Value) (X : Nat → Prop) : Prop := ∃ g gi r h ev mb nv, Fam w f g gi r h ev mb nv F mv ∧ X = fX f g gi r h ev mb nv
theorem FamX.same {w w' : World} {f : Nat} {F : Fa} {mv : Value} {X : Nat → Prop} (x : FamX w f F mv X) (e : ∀ k, X k → w'.heap[k]? = w.heap[k]?) : FamX w' f F mv X := by
  obtain ⟨g, gi, r, h, ev, mb, nv, h1, rfl⟩ := x
  exact ⟨g, gi, r, h, ev, mb, nv, h1.same e, rfl⟩
theorem FamX.lt {w : World} {f : Nat} {F : Fa} {mv : Value} {X : Nat → Prop} (x : FamX w f F mv X) : ∀ k, X k → k < w.heap.size := by
  obtain ⟨g, gi, r, h, ev, mb, nv, h1, rfl⟩ := x
  exact h1.lt
theorem FamX.nm {w : World} {f : Nat} {F : Fa} {mv : Value} {X : Nat → Prop} (x : FamX w f F mv X) : ∀ k, mB mv k → ¬ X k := by
  obtain ⟨g, gi, r, h, ev, mb, nv, h1, rfl⟩ := x
  exact h1.nm
theorem FamX.f {w : World} {f : Nat} {F : Fa} {mv : Value} {X : Nat → Prop} (x : FamX w f F mv X) : X f := by
  obtain ⟨g, gi, r, h, ev, mb, nv, h1, rfl⟩ := x
  exact .inl (.inl rfl)
/-- The type of a stand. -/
def tyS : Stn → TypeId
  | .row _ => 114
  | .own _ => 236
/-- How many tables a namespace has made of its own. -/
def mdS : Stn → Nat
  | .row _ => 0
  | .own t => t.made
/-- A namespace in memory, in its blocks X. -/
def Sm (w : World) (s f : Nat) (mv : Value) (v : Nat) (X : Nat → Prop) (st : Stn) : Prop := ∃ q XQ, Blk w s 3 (spF f (tyS st) q v) ∧ Sq w q f mv XQ st ∧ ¬ XQ s ∧ X = fun k => k = s ∨ XQ k
theorem Sm.same {w w' : World} {s f : Nat} {mv : Value} {v : Nat} {X : Nat → Prop} {st : Stn} (x : Sm w s f mv v X st) (e : ∀ k, X k → w'.heap[k]? = w.heap[k]?) : Sm w' s f mv v X st := by
  obtain ⟨q, XQ, h1, h2, h3, rfl⟩ := x
  exact ⟨q, XQ, h1.same (e s (.inl rfl)), h2.same fun k hk => e k (.inr hk), h3, rfl⟩
theorem Sm.lt {w : World} {s f : Nat} {mv : Value} {v : Nat} {X : Nat → Prop} {st : Stn} (x : Sm w s f mv v X st) : ∀ k, X k → k < w.heap.size := by
  obtain ⟨q, XQ, h1, h2, h3, rfl⟩ := x
  rintro k (rfl | hk)
  · exact h1.lt (by omega)
  · exact h2.lt k hk
end Go.Proofs.YtmgachknfeamkaaGreat
