/-
  A family and a namespace in memory; numberOf, keys.
  A family's add: a name laid behind the others of a table.
  A namespace's seek.
  What the stands of a namespace tell: a row's size, has, value; an own table's.
  A row that is turned: a table of its own.
-/
import Derived.Test.YtcbhpjpkjmlcnaaGreatGxae
import Derived.Test.YtcbhpjpkjmlcnaaGreatGxac
import Derived.Test.YtcbhpjpkjmlcnaaGreatGxad
import Derived.Test.YtcbhpjpkjmlcnaaGreatGxav
import Derived.Maps.OwnSet
import Derived.StringKeys
import Derived.Laws.EntriesVeiled
import Derived.Maps.AppendAt
import Derived.Test.YtcbhpjpkjmlcnaaGreatGxab
namespace Go.Proofs.YtcbhpjpkjmlcnaaGreat
open Go.RowKit Go.WideShapes

/-- A text's hash; a text as a key of a map. -/
def hsT (s : ByteArray) : Int := hashed (tsum s s.size) (-2)
theorem text_h (s : ByteArray) (w : World) (hs : s.size ≤ 3000) : Calls Tryz.prog 83 #[.string s] w fun e w' => e = .returned (.int .i64 (hsT s)) ∧ w' = w := text_any s w hs
def klS (s : ByteArray) : Lit := .string s.data.toList
theorem klS_inj {a b : ByteArray} (h : klS a = klS b) : a = b := by
  unfold klS at h
  injection h with h
  have : a.data = b.data := Array.toList_inj.1 h
  cases a
  cases b
  simp_all
theorem isKl (s : ByteArray) : WideAt.IsKeyLit (klS s) := by unfold klS; simp [WideAt.IsKeyLit]
theorem Tryz.keyS : Maps.Keyed Tryz.prog 9 := Maps.string_keyed Tryz.underlying9
theorem Tryz.zeroI (w : World) : (zeroValue 3).run Tryz.prog w = .ok (.int .i64 0) w := by kernel_rfl
theorem keyS_mk {s : ByteArray} (hs : s.size ≤ 3000) : keyOf Tryz.prog 9 (.string s) = some (klS s) := WideMaps.keyOf_string_mk Tryz.underlying9 (Nat.le_trans hs (by unfold maxLen; decide))
theorem wf_len {n : Nat} (h : n ≤ 1000000) : (Lit.int .i64 (n : Int)).wf = true := by
  have h1 : IntKind.i64.min = -9223372036854775808 := by decide
  have h2 : IntKind.i64.max = 9223372036854775807 := by decide
  simp [Lit.wf, h1, h2]
  omega
/-- The map of the names' numbers. -/
def Nm (w : World) (mb : Nat) (all : List ByteArray) : Prop := ∃ D : DataW Unit, w.ownsMap Tryz.prog 9 (plainElem Tryz.prog 3) mb all.length D ∧
  ∀ s : ByteArray, (∀ n : Nat, all[n]? = some s → Maps.has D (klS s) = true ∧ D.atKey (klS s) (.lit (.int .i64 0)) = .lit (.int .i64 (n : Int))) ∧ (s ∉ all → Maps.has D (klS s) = false)
theorem Nm.lt {w : World} {mb : Nat} {all : List ByteArray} (h : Nm w mb all) : mb < w.heap.size := by
  obtain ⟨D, h, _⟩ := h
  exact h.lt
theorem Nm.same {w w' : World} {mb : Nat} {all : List ByteArray} (h : Nm w mb all) (e : w'.heap[mb]? = w.heap[mb]?) : Nm w' mb all := by
  obtain ⟨D, ⟨es, clock, hb, F, hs, hD⟩, h2⟩ := h
  exact ⟨D, ⟨es, clock, e.trans hb, F, hs, hD⟩, h2⟩
theorem Nm.new (w : World) : Nm (w.alloc (.map #[] 0)) w.heap.size [] :=
  ⟨.map [], World.ownsMap_made w _ _ _, fun s => ⟨fun n h => by simp at h, fun _ => rfl⟩⟩
theorem Nm.look {w : World} {mb : Nat} {all : List ByteArray} (h : Nm w mb all) {s : ByteArray} (hs : s.size ≤ 3000) {k : Int} (hk : Num all s k) :
    (Instr.lookup 108 (.map (some mb)) (.string s) true).run Tryz.prog w = .ok (.tuple #[.int .i64 (if k = -1 then 0 else k), .bool (decide (k ≠ -1))]) w := by
  obtain ⟨D, hD, h2⟩ := h
  obtain ⟨v, ps, hr, hv⟩ := hD.look_ok (t := 108) Tryz.keyS Tryz.underlying108 (Tryz.zeroI w) (plainElem_int Tryz.underlying3 (by decide)) (keyS_mk hs)
  obtain ⟨c, rfl, hc, _⟩ := plainElem_int_inv Tryz.underlying3 hv
  rw [hr]
  have hc' : D.atKey (klS s) (.lit (.int .i64 0)) = .lit (.int .i64 c) := by injection hc
  rcases hk with ⟨n, rfl, hn⟩ | ⟨rfl, hn⟩
  · obtain ⟨g1, g2⟩ := (h2 s).1 n hn
    rw [g2] at hc'
    have hc' := (Lit.int.inj (DataW.lit.inj hc')).2
    rw [g1, ← hc', if_neg (by omega), show decide (((n : Nat) : Int) ≠ -1) = true from decide_eq_true (by omega)]
  · have g1 := (h2 s).2 hn
    rw [Maps.atKey_of_not_has g1] at hc'
    have hc' := (Lit.int.inj (DataW.lit.inj hc')).2
    rw [g1, ← hc', if_pos rfl]
    simp
theorem Nm.put {w : World} {mb : Nat} {all : List ByteArray} (h : Nm w mb all) {s : ByteArray} (hs : s.size ≤ 3000) (hn : s ∉ all) (hl : all.length ≤ 1000000) :
    ∃ w', (Instr.mapUpdate 108 (.map (some mb)) (.string s) (.int .i64 (all.length : Int))).run Tryz.prog w = .ok () w' ∧ Nm w' mb (all ++ [s]) ∧ w.grownBy w' (some mb) := by
  obtain ⟨D, hD, h2⟩ := h
  obtain ⟨w', hr, hD', hg⟩ := hD.update (t := 108) Tryz.keyS Tryz.underlying108 (by unfold maxLen; omega) (keyS_mk hs) (plainElem_int Tryz.underlying3 (a := (all.length : Int)) (wf_len hl))
  refine ⟨w', hr, ⟨_, by rw [List.length_append]; exact hD', fun x => ?_⟩, hg⟩
  have hm := hD.isMap
  by_cases hx : x = s
  · subst hx
    refine ⟨fun n h3 => ?_, fun h3 => absurd (by simp) h3⟩
    have : n = all.length := by
      rcases Nat.lt_or_ge n all.length with c | c
      · rw [List.getElem?_append_left c] at h3
        exact absurd (List.mem_of_getElem? h3) hn
      · have := (List.getElem?_eq_some_iff.1 h3).1
        simp at this
        omega
    rw [this]
    exact ⟨Maps.has_put_same hm (isKl _) _, Maps.atKey_put_same hm (isKl _) _ _⟩
  · have hne : klS x ≠ klS s := fun e => hx (klS_inj e)
    refine ⟨fun n h3 => ?_, fun h3 => ?_⟩
    · have hl : n < all.length := by
        have h4 := (List.getElem?_eq_some_iff.1 h3).1
        simp at h4
        rcases Nat.lt_or_ge n all.length with c | c
        · exact c
        · rw [List.getElem?_append_right c, show n - all.length = 0 by omega] at h3
          simp at h3
          exact absurd h3.symm hx
      rw [List.getElem?_append_left hl] at h3
      rw [Maps.has_put_other hne, Maps.atKey_put_other hne]
      exact (h2 x).1 n h3
    · rw [Maps.has_put_other hne]
      exact (h2 x).2 (fun h4 => h3 (List.mem_append_left _ h4))
theorem numberOf_any {w : World} {f mb : Nat} {all : List ByteArray} (k4 : w.cell? ⟨f, 4, none⟩ = some (.map (some mb))) (h : Nm w mb all) {s : ByteArray} (hs : s.size ≤ 3000) {k : Int} (hk : Num all s k) :
    Calls Tryz.prog 81 #[.pointer (some ⟨f, 0, none⟩), .string s] w fun e w' => e = .returned (.int .i64 k) ∧ w' = w := by
  have hL := h.look hs hk
  by_cases hc : k = -1
  · subst hc
    rw [if_pos rfl, show decide ((-1 : Int) ≠ -1) = false by decide] at hL
    clear h hk
    go_enter Tryz.func81, Tryz.ntmps81
    go_wp2
    go_ret
    exact ⟨rfl, rfl⟩
  · rw [if_neg hc, show decide (k ≠ -1) = true by simp [hc]] at hL
    clear h hk hc
    go_enter Tryz.func81, Tryz.ntmps81
    go_wp2
    go_ret
    exact ⟨rfl, rfl⟩
theorem eqFa (f : Nat) (w : World) : (binOp .eql 62 (.pointer (some ⟨f, 0, none⟩)) (.pointer none)).run Tryz.prog w = .ok (.bool false) w := by kernel_rfl
theorem eqSp (s : Nat) (w : World) : (binOp .eql 81 (.pointer (some ⟨s, 0, none⟩)) (.pointer none)).run Tryz.prog w = .ok (.bool false) w := by kernel_rfl
theorem eqT7 (g : Nat) (w : World) : (binOp .eql 103 (.pointer (some ⟨g, 0, none⟩)) (.pointer none)).run Tryz.prog w = .ok (.bool false) w := by kernel_rfl
theorem keys_yes {w : World} {f g : Nat} (k1 : w.cell? ⟨f, 1, none⟩ = some (.pointer (some ⟨g, 0, none⟩))) :
    Calls Tryz.prog 42 #[.pointer (some ⟨f, 0, none⟩)] w fun e w' => e = .returned (.pointer (some ⟨g, 0, none⟩)) ∧ w' = w := by
  have h1 := eqFa f
  have h2 := eqT7 g
  go_enter Tryz.func42, Tryz.ntmps42
  go_wp2
  go_ret
  exact ⟨rfl, rfl⟩
/-- A family's cells. -/
def fF (mv : Value) (g room most mb : Nat) (nv : Value) : Nat → Value
  | 0 => mv
  | 1 => .pointer (some ⟨g, 0, none⟩)
  | 2 => .int .i64 (room : Int)
  | 3 => .int .i64 (most : Int)
  | 4 => .map (some mb)
  | _ => nv
def Ns (w : World) (v : Value) (l : List ByteArray) : Prop := w.ownsRow 0 9 1 v l.length (l.map Value.string)
theorem Ns.nil (w : World) : Ns w (.slice none 0 0) [] := ⟨rfl, Or.inl ⟨rfl, rfl⟩⟩
theorem Ns.same {w w' : World} {v : Value} {l : List ByteArray} (h : Ns w v l) (e : ∀ k, v.ownBlock = some k → w'.heap[k]? = w.heap[k]?) : Ns w' v l := by
  refine ⟨h.1, ?_⟩
  rcases h.2 with x | ⟨g, cap, cur, hv, h1, h2, h3⟩
  · exact .inl x
  · exact .inr ⟨g, cap, cur, hv, h1, (e g (by rw [hv]; rfl)).trans h2, h3⟩
theorem Ns.lt {w : World} {v : Value} {l : List ByteArray} (h : Ns w v l) : ∀ k, v.ownBlock = some k → k < w.heap.size := fun k hk => (World.ownsRow.lt h k hk).2
/-- A family but for its key table's inside. -/
structure Nh (w : World) (f g room most mb : Nat) (nv : Value) (all : List ByteArray) (mv : Value) : Prop where
  hd : Blk w f 6 (fF mv g room most mb nv)
  mp : Nm w mb all
  ns : Ns w nv all
  n1 : f ≠ mb
  n2 : ∀ k, nv.ownBlock = some k → k ≠ f ∧ k ≠ mb
def hX (f mb : Nat) (nv : Value) (k : Nat) : Prop := k = f ∨ k = mb ∨ nv.ownBlock = some k
theorem Nh.same {w w' : World} {f g room most mb : Nat} {nv : Value} {all : List ByteArray} {mv : Value} (x : Nh w f g room most mb nv all mv) (e : ∀ k, hX f mb nv k → w'.heap[k]? = w.heap[k]?) : Nh w' f g room most mb nv all mv :=
  ⟨x.hd.same (e f (.inl rfl)), x.mp.same (e mb (.inr (.inl rfl))), x.ns.same fun k hk => e k (.inr (.inr hk)), x.n1, x.n2⟩
theorem Nh.lt {w : World} {f g room most mb : Nat} {nv : Value} {all : List ByteArray} {mv : Value} (x : Nh w f g room most mb nv all mv) : ∀ k, hX f mb nv k → k < w.heap.size := by
  rintro k (rfl | rfl | hk)
  · exact x.hd.lt (by omega)
  · exact x.mp.lt
  · exact x.ns.lt k hk
structure Fam (w : World) (f g gi r h : Nat) (ev : Value) (mb : Nat) (nv : Value) (F : Fa) (mv : Value) : Prop where
  nh : Nh w f g F.room F.most mb nv F.all mv
  dt : Dt w g gi r h ev F.kt mv
  ap : ∀ k, hX f mb nv k → ¬ dX g gi r h ev k
  n3 : ∀ k, mB mv k → ¬ hX f mb nv k
/-- The blocks of a family. -/
def fX (f g gi r h : Nat) (ev : Value) (mb : Nat) (nv : Value) (k : Nat) : Prop := hX f mb nv k ∨ dX g gi r h ev k
theorem Fam.same {w w' : World} {f g gi r h : Nat} {ev : Value} {mb : Nat} {nv : Value} {F : Fa} {mv : Value} (x : Fam w f g gi r h ev mb nv F mv) (e : ∀ k, fX f g gi r h ev mb nv k → w'.heap[k]? = w.heap[k]?) : Fam w' f g gi r h ev mb nv F mv :=
  ⟨x.nh.same fun k hk => e k (.inl hk), x.dt.same fun k hk => e k (.inr hk), x.ap, x.n3⟩
theorem Fam.lt {w : World} {f g gi r h : Nat} {ev : Value} {mb : Nat} {nv : Value} {F : Fa} {mv : Value} (x : Fam w f g gi r h ev mb nv F mv) : ∀ k, fX f g gi r h ev mb nv k → k < w.heap.size := by
  rintro k (hk | hk)
  · exact x.nh.lt k hk
  · exact x.dt.lt k hk
theorem Fam.below {w w' : World} {f g gi r h : Nat} {ev : Value} {mb : Nat} {nv : Value} {F : Fa} {mv : Value} (x : Fam w f g gi r h ev mb nv F mv) (hb : Below w.heap.size w w') : Fam w' f g gi r h ev mb nv F mv := x.same fun k hk => hb.block k (x.lt k hk)
theorem Dt.nm {w : World} {g gi r h : Nat} {ev : Value} {t : Tb} {mv : Value} (x : Dt w g gi r h ev t mv) {k : Nat} (y : mB mv k) : ¬ dX g gi r h ev k := by
  intro hk
  obtain ⟨h1, h2, h3, h4, h5⟩ := x.mp k y
  rcases hk with z | z | z | z | z
  · exact h1 z
  · exact h2 z
  · exact h3 z
  · exact h4 z
  · exact h5 z
theorem Fam.nm {w : World} {f g gi r h : Nat} {ev : Value} {mb : Nat} {nv : Value} {F : Fa} {mv : Value} (x : Fam w f g gi r h ev mb nv F mv) : ∀ k, mB mv k → ¬ fX f g gi r h ev mb nv k := by
  rintro k hk (y | y)
  · exact x.n3 k hk y
  · exact x.dt.nm hk y
/-- .. while its meter alone counts. -/
theorem Fam.met {w w' : World} {f g gi r h : Nat} {ev : Value} {mb : Nat} {nv : Value} {F : Fa} {mv : Value} (x : Fam w f g gi r h ev mb nv F mv) (e : Ex (mB mv) w w') : Fam w' f g gi r h ev mb nv F mv := x.same fun k hk => e.block k (x.lt k hk) (fun y => x.nm k y hk)
theorem Dt.met {w w' : World} {g gi r h : Nat} {ev : Value} {t : Tb} {mv : Value} (x : Dt w g gi r h ev t mv) (e : Ex (mB mv) w w') : Dt w' g gi r h ev t mv := x.same fun k hk => e.block k (x.lt k hk) (fun y => x.nm y hk)
/-- A namespace's cells; those of its row, and of its own table's stand. -/
def spF (f : Nat) (T : TypeId) (q v : Nat) : Nat → Value
  | 0 => .pointer (some ⟨f, 0, none⟩)
  | 1 => .iface T (.pointer (some ⟨q, 0, none⟩))
  | _ => .int .u64 (v : Int)
def sdF (f : Nat) (x : Value) : Nat → Value
  | 0 => .pointer (some ⟨f, 0, none⟩)
  | _ => x
theorem IntsR.lt0 {w : World} {v : Value} {l : List Int} (h : IntsR 0 w v l) : ∀ k, v.ownBlock = some k → k < w.heap.size := fun k hk => (World.ownsRow.lt h k hk).2
theorem IntsR.same0 {w w' : World} {v : Value} {l : List Int} (h : IntsR 0 w v l) (e : ∀ k, v.ownBlock = some k → w'.heap[k]? = w.heap[k]?) : IntsR 0 w' v l := by
  refine ⟨h.1, ?_⟩
  rcases h.2 with x | ⟨g, cap, cur, hv, h1, h2, h3⟩
  · exact .inl x
  · exact .inr ⟨g, cap, cur, hv, h1, (e g (by rw [hv]; rfl)).trans h2, h3⟩
/-- How a namespace stands, in memory at q, in its blocks X. -/
def Sq (w : World) (q f : Nat) (mv : Value) (X : Nat → Prop) : Stn → Prop
  | .row vs => ∃ vv, Blk w q 2 (sdF f vv) ∧ IntsR 0 w vv vs ∧ vv.ownBlock ≠ some q ∧ X = fun k => k = q ∨ vv.ownBlock = some k
  | .own t => ∃ g gi r h ev, Blk w q 2 (sdF f (.pointer (some ⟨g, 0, none⟩))) ∧ Dt w g gi r h ev t mv ∧ ¬ dX g gi r h ev q ∧ X = fun k => k = q ∨ dX g gi r h ev k
theorem Sq.same {w w' : World} {q f : Nat} {mv : Value} {X : Nat → Prop} {st : Stn} (x : Sq w q f mv X st) (e : ∀ k, X k → w'.heap[k]? = w.heap[k]?) : Sq w' q f mv X st := by
  cases st with
  | row vs =>
    obtain ⟨vv, h1, h2, h3, rfl⟩ := x
    exact ⟨vv, h1.same (e q (.inl rfl)), h2.same0 fun k hk => e k (.inr hk), h3, rfl⟩
  | own t =>
    obtain ⟨g, gi, r, h', ev, h1, h2, h3, rfl⟩ := x
    exact ⟨g, gi, r, h', ev, h1.same (e q (.inl rfl)), h2.same fun k hk => e k (.inr hk), h3, rfl⟩
theorem Sq.lt {w : World} {q f : Nat} {mv : Value} {X : Nat → Prop} {st : Stn} (x : Sq w q f mv X st) : ∀ k, X k → k < w.heap.size := by
  cases st with
  | row vs =>
    obtain ⟨vv, h1, h2, h3, rfl⟩ := x
    rintro k (rfl | hk)
    · exact h1.lt (by omega)
    · exact h2.lt0 k hk
  | own t =>
    obtain ⟨g, gi, r, h', ev, h1, h2, h3, rfl⟩ := x
    rintro k (rfl | hk)
    · exact h1.lt (by omega)
    · exact h2.lt k hk
theorem Sq.q {w : World} {q f : Nat} {mv : Value} {X : Nat → Prop} {st : Stn} (x : Sq w q f mv X st) : X q := by
  cases st with
  | row vs => obtain ⟨vv, h1, h2, h3, rfl⟩ := x; exact .inl rfl
  | own t => obtain ⟨g, gi, r, h', ev, h1, h2, h3, rfl⟩ := x; exact .inl rfl
def FamX (w : World) (f : Nat) (F : Fa) (mv : Value) (X : Nat → Prop) : Prop := ∃ g gi r h ev mb nv, Fam w f g gi r h ev mb nv F mv ∧ X = fX f g gi r h ev mb nv
theorem FamX.same {w w' : World} {f : Nat} {F : Fa} {mv : Value} {X : Nat → Prop} (x : FamX w f F mv X) (e : ∀ k, X k → w'.heap[k]? = w.heap[k]?) : FamX w' f F mv X := by
  obtain ⟨g, gi, r, h, ev, mb, nv, h1, rfl⟩ := x
  exact ⟨g, gi, r, h, ev, mb, nv, h1.same e, rfl⟩
theorem FamX.lt {w : World} {f : Nat} {F : Fa} {mv : Value} {X : Nat → Prop} (x : FamX w f F mv X) : ∀ k, X k → k < w.heap.size := by
  obtain ⟨g, gi, r, h, ev, mb, nv, h1, rfl⟩ := x
  exact h1.lt
theorem FamX.nm {w : World} {f : Nat} {F : Fa} {mv : Value} {X : Nat → Prop} (x : FamX w f F mv X) : ∀ k, mB mv k → ¬ X k := by
  obtain ⟨g, gi, r, h, ev, mb, nv, h1, rfl⟩ := x
  exact h1.nm
theorem FamX.f {w : World} {f : Nat} {F : Fa} {mv : Value} {X : Nat → Prop} (x : FamX w f F mv X) : X f := by
  obtain ⟨g, gi, r, h, ev, mb, nv, h1, rfl⟩ := x
  exact .inl (.inl rfl)
/-- The type of a stand. -/
def tyS : Stn → TypeId
  | .row _ => 117
  | .own _ => 229
/-- How many tables a namespace has made of its own. -/
def mdS : Stn → Nat
  | .row _ => 0
  | .own t => t.made
/-- A namespace in memory, in its blocks X. -/
def Sm (w : World) (s f : Nat) (mv : Value) (v : Nat) (X : Nat → Prop) (st : Stn) : Prop := ∃ q XQ, Blk w s 3 (spF f (tyS st) q v) ∧ Sq w q f mv XQ st ∧ ¬ XQ s ∧ X = fun k => k = s ∨ XQ k
theorem Sm.same {w w' : World} {s f : Nat} {mv : Value} {v : Nat} {X : Nat → Prop} {st : Stn} (x : Sm w s f mv v X st) (e : ∀ k, X k → w'.heap[k]? = w.heap[k]?) : Sm w' s f mv v X st := by
  obtain ⟨q, XQ, h1, h2, h3, rfl⟩ := x
  exact ⟨q, XQ, h1.same (e s (.inl rfl)), h2.same fun k hk => e k (.inr hk), h3, rfl⟩
theorem Sm.lt {w : World} {s f : Nat} {mv : Value} {v : Nat} {X : Nat → Prop} {st : Stn} (x : Sm w s f mv v X st) : ∀ k, X k → k < w.heap.size := by
  obtain ⟨q, XQ, h1, h2, h3, rfl⟩ := x
  rintro k (rfl | hk)
  · exact h1.lt (by omega)
  · exact h2.lt k hk
end Go.Proofs.YtcbhpjpkjmlcnaaGreat
namespace Go.Proofs.YtcbhpjpkjmlcnaaGreat
open Go.RowKit Go.WideShapes

theorem Tryz.infoStr : (Tryz.prog.info? 9).map (fun i => (i.zero, i.size, i.bytes)) = some (some (.string ByteArray.empty), 1, 16) := by kernel_rfl
theorem ex_grown {w w' : World} {row : Option Nat} {X : Nat → Prop} (h : w.grownBy w' row) (hx : ∀ k, k < w.heap.size → row = some k → X k) : Ex X w w' := ⟨h.os, h.tape, h.output, h.size, fun k hk hn => h.block k hk (fun e => hn (hx k hk e.symm))⟩
theorem fF_put (mv : Value) (g room most mb : Nat) (nv v' : Value) : ∀ j, j < 6 → fF mv g room most mb v' j = if j = 5 then v' else fF mv g room most mb nv j := by
  intro j hj
  have : j = 0 ∨ j = 1 ∨ j = 2 ∨ j = 3 ∨ j = 4 ∨ j = 5 := by omega
  rcases this with rfl | rfl | rfl | rfl | rfl | rfl <;> rfl
/-- The names with one more. -/
theorem nh_more {w wm w2 : World} {f g room most mb : Nat} {nv v' : Value} {all : List ByteArray} {mv : Value} {nm : ByteArray} {o : Obj} (hN : Nh w f g room most mb nv all mv) (hgm : w.grownBy wm (some mb)) (hNm : Nm wm mb (all ++ [nm]))
    (hown : w2.ownsRow 0 9 1 v' (all.length + 1) ((all.map Value.string) ++ [.string nm])) (hgrow : (wm.alloc o).grownBy w2 nv.ownBlock) (hob : v'.ownBlock = nv.ownBlock ∨ v'.ownBlock = some (wm.alloc o).heap.size) :
    Nh (w2.setCell ⟨f, 5, none⟩ v') f g room most mb v' (all ++ [nm]) mv ∧ Ex (hX f mb nv) w (w2.setCell ⟨f, 5, none⟩ v') ∧ ∀ k, v'.ownBlock = some k → nv.ownBlock = some k ∨ w.heap.size ≤ k := by
  have hl := hN.lt
  have lf := hl f (.inl rfl)
  have lm := hl mb (.inr (.inl rfl))
  have hs1 : wm.heap.size ≤ (wm.alloc o).heap.size := by simp
  have hs0 := hgm.size
  have hal : ∀ k, k < wm.heap.size → (wm.alloc o).heap[k]? = wm.heap[k]? := fun k hk => Below.heap_alloc _ _ _ hk
  have e2 : ∀ k, k < w.heap.size → k ≠ mb → nv.ownBlock ≠ some k → w2.heap[k]? = w.heap[k]? := fun k hk h1 h2 => (hgrow.block k (by omega) (fun e => h2 e.symm)).trans ((hal k (by omega)).trans (hgm.block k hk (fun e => h1 (by injection e))))
  have em : w2.heap[mb]? = wm.heap[mb]? := (hgrow.block mb (by omega) (fun e => (hN.n2 mb e.symm).2 rfl)).trans (hal mb (by omega))
  have hv' : ∀ k, v'.ownBlock = some k → nv.ownBlock = some k ∨ w.heap.size ≤ k := fun k hk => by
    rcases hob with h | h
    · exact .inl (h ▸ hk)
    · right
      rw [h] at hk
      injection hk with hk
      omega
  have n2 : ∀ k, v'.ownBlock = some k → k ≠ f ∧ k ≠ mb := fun k hk => by
    rcases hv' k hk with h | h
    · exact hN.n2 k h
    · exact ⟨by omega, by omega⟩
  have hf2 : Blk w2 f 6 (fF mv g room most mb nv) := hN.hd.same (e2 f lf hN.n1 (fun h => (hN.n2 f h).1 rfl))
  refine ⟨⟨(hf2.put 5 v').congr (fF_put mv g room most mb nv v'), (hNm.same em).same (Below.heap_setCell _ _ _ _ (fun e => hN.n1 e.symm)), ?_, hN.n1, n2⟩, ?_, hv'⟩
  · have : Ns w2 v' (all ++ [nm]) := by unfold Ns; simpa using hown
    exact this.same fun k hk => Below.heap_setCell _ _ _ _ (n2 k hk).1
  · have x1 : Ex (hX f mb nv) w w2 := ⟨hgrow.os.trans hgm.os, hgrow.tape.trans hgm.tape, hgrow.output.trans hgm.output, by have := hgrow.size; omega, fun k hk hn => e2 k hk (fun e => hn (.inr (.inl e))) (fun e => hn (.inr (.inr e)))⟩
    exact x1.setCell (p := ⟨f, 5, none⟩) (fun _ => .inl rfl) _
/-- What add leaves. -/
structure Fd (w : World) (f g room most mb : Nat) (nv : Value) (mv : Value) (tg tgi tr th : Nat) (tev : Value) (M : Int → Int → World → Prop) (a b : Int) (all' : List ByteArray) (t' : Tb) (w' : World) (nv' : Value) (tgi' tr' th' : Nat) (tev' : Value) : Prop where
  nh : Nh w' f g room most mb nv' all' mv
  dt : Dt w' tg tgi' tr' th' tev' t' mv
  m : M a b w'
  hx : ∀ j, hX f mb nv' j → hX f mb nv j ∨ w.heap.size ≤ j
  fx : ∀ j, dX tg tgi' tr' th' tev' j → dX tg tgi tr th tev j ∨ w.heap.size ≤ j
  ap : ∀ k, hX f mb nv' k → ¬ dX tg tgi' tr' th' tev' k
  n3 : ∀ k, mB mv k → ¬ hX f mb nv' k
  ex : Ex (fun j => hX f mb nv j ∨ dX tg tgi tr th tev j ∨ mB mv j) w w'
/-- .. put together: the names first, then the table. -/
theorem fd_of {w w3 w' : World} {f g room most mb : Nat} {nv nv' : Value} {mv : Value} {tg tgi tr th : Nat} {tev : Value} {M : Int → Int → World → Prop} {a b : Int} {all' : List ByteArray} {tt t' : Tb} {tgi' tr' th' : Nat} {tev' : Value} (hMo : MtOk mv M) {a0 b0 : Int} (hM : M a0 b0 w)
    (hD : Dt w tg tgi tr th tev tt mv) (ap : ∀ k, hX f mb nv k → ¬ dX tg tgi tr th tev k) (n3 : ∀ k, mB mv k → ¬ hX f mb nv k)
    (hN3 : Nh w3 f g room most mb nv' all' mv) (x3 : Ex (hX f mb nv) w w3) (hv : ∀ k, nv'.ownBlock = some k → nv.ownBlock = some k ∨ w.heap.size ≤ k)
    (A : Ad w3 tg tgi tr th tev mv M a b t' w' tgi' tr' th' tev') : Fd w f g room most mb nv mv tg tgi tr th tev M a b all' t' w' nv' tgi' tr' th' tev' := by
  have hx : ∀ j, hX f mb nv' j → hX f mb nv j ∨ w.heap.size ≤ j := by
    rintro j (h | h | h)
    · exact .inl (.inl h)
    · exact .inl (.inr (.inl h))
    · rcases hv j h with y | y
      · exact .inl (.inr (.inr y))
      · exact .inr y
  have h0 : ∀ k, hX f mb nv' k → ¬ dX tg tgi tr th tev k := fun k hk y => by
    rcases hx k hk with z | z
    · exact ap k z y
    · have := hD.lt k y; omega
  have hm3 : ∀ k, mB mv k → ¬ hX f mb nv' k := fun k hk y => by
    rcases hx k y with z | z
    · exact n3 k hk z
    · have := hMo.lt _ _ _ _ hM hk; omega
  have hs := x3.size
  refine ⟨hN3.same fun k hk => A.ex.block k (hN3.lt k hk) (fun y => y.elim (h0 k hk) (fun z => hm3 k z hk)), A.dt, A.m, hx, fun j hj => ?_, fun k hk y => ?_, hm3, ?_⟩
  · rcases A.fx j hj with y | y
    · exact .inl y
    · exact .inr (by omega)
  · rcases A.fx k y with z | z
    · exact h0 k hk z
    · have := hN3.lt k hk; omega
  · refine (x3.mono fun k _ hk => .inl hk).next A.ex fun k _ hk => hk.elim (fun y => .inr (.inl y)) (fun y => .inr (.inr y))
set_option maxRecDepth 100000 in
set_option maxHeartbeats 4000000 in
theorem fadd_any {w : World} {f g room most mb : Nat} {nv : Value} {all : List ByteArray} {mv : Value} {tg tgi tr th : Nat} {tev : Value} {tt : Tb} {M : Int → Int → World → Prop} {a b : Int} (hN : Nh w f g room most mb nv all mv) (hD : Dt w tg tgi tr th tev tt mv) (ap : ∀ k, hX f mb nv k → ¬ dX tg tgi tr th tev k) (n3 : ∀ k, mB mv k → ¬ hX f mb nv k)
    (hO : tt.Ok) (hMo : MtOk mv M) (hM : M a b w) (hm : tt.made ≤ 1000000) (ha : 0 ≤ a ∧ a ≤ 1000000000) (ht : tt.turn ≤ 1000000) (hb : tt.births < 100000) {nm : ByteArray} (hs : nm.size ≤ 3000) {k : Int} (hk : Num all nm k) (hl : all.length ≤ 100000) (v : Int) :
    Calls Tryz.prog 160 #[.pointer (some ⟨f, 0, none⟩), .pointer (some ⟨tg, 0, none⟩), .string nm, .int .i64 v] w fun e w' => e = .returned (.tuple #[]) ∧ ∃ nv' tgi' tr' th' tev', Fd w f g room most mb nv mv tg tgi tr th tev M (a + ((tt.add (hsT nm) (numn all k) v).made - tt.made : Nat)) b (alln all nm k) (tt.add (hsT nm) (numn all k) v) w' nv' tgi' tr' th' tev' := by
  have CN := numberOf_any (hN.hd.c 4 (by omega)) hN.mp hs hk
  have klt := hk.lt
  by_cases hc : k = -1
  · subst hc
    obtain ⟨i0, hi0, hz0, hz1, hz2⟩ := info_parts Tryz.infoStr
    have hn : nm ∉ all := by
      rcases hk with ⟨n, h, _⟩ | ⟨_, h⟩
      · omega
      · exact h
    have e1 : numn all (-1) = (all.length : Int) := if_pos rfl
    have e2 : alln all nm (-1) = all ++ [nm] := if_pos rfl
    rw [e1, e2]
    obtain ⟨an, capn, hnv⟩ := ownsRow_shape hN.ns
    obtain ⟨wm, hrm, hNm, hgm⟩ := hN.mp.put hs hn (by omega)
    have c4 : w.cell? ⟨f, 4, none⟩ = some (.map (some mb)) := hN.hd.c 4 (by omega)
    have c5 : w.cell? ⟨f, 5, none⟩ = some nv := hN.hd.c 5 (by omega)
    have lf := hN.lt f (.inl rfl)
    have d5 : wm.cell? ⟨f, 5, none⟩ = some nv := (World.cell?_of_block (a := ⟨f, 5, none⟩) (hgm.block f lf (fun e => hN.n1 (by injection e)))).trans c5
    have hownm : wm.ownsRow 0 9 1 nv all.length (all.map Value.string) := (hN.ns.same fun k' hk' => hgm.block k' (hN.lt k' (.inr (.inr hk'))) (fun e => (hN.n2 k' hk').2 (by injection e)))
    have HFIN : Hid (∀ v' w2, w2.ownsRow 0 9 1 v' (all.length + 1) ((all.map Value.string) ++ [.string nm]) → (wm.alloc (.cells #[.string nm] 9)).grownBy w2 nv.ownBlock → (v'.ownBlock = nv.ownBlock ∨ v'.ownBlock = some (wm.alloc (.cells #[.string nm] 9)).heap.size) →
        (w2.cell? ⟨f, 5, none⟩ = some nv ∧ w2.frozen? ⟨f, 5, none⟩ = false) ∧ ∀ w3, w2.setCell ⟨f, 5, none⟩ v' = w3 → Calls Tryz.prog 83 #[.string nm] w3 (fun e w' => e = .returned (.int .i64 (hsT nm)) ∧ w' = w3) ∧
          Calls Tryz.prog 161 #[.pointer (some ⟨tg, 0, none⟩), .int .i64 (hsT nm), .int .i64 (all.length : Int), .int .i64 v] w3 fun e w' => e = .returned (.tuple #[.int .i64 (((tt.add (hsT nm) (all.length : Int) v).es.length - 1 : Nat) : Int), .int .i64 0]) ∧ ∃ nv' tgi' tr' th' tev', Fd w f g room most mb nv mv tg tgi tr th tev M (a + ((tt.add (hsT nm) (all.length : Int) v).made - tt.made : Nat)) b (all ++ [nm]) (tt.add (hsT nm) (all.length : Int) v) w' nv' tgi' tr' th' tev') := by
      intro v' w2 h1 h2 h3
      obtain ⟨q1, q2, q3⟩ := nh_more hN hgm hNm h1 h2 h3
      have hbl : w2.heap[f]? = w.heap[f]? := (h2.block f (by simp; have := hgm.size; omega) (fun e => (hN.n2 f e.symm).1 rfl)).trans ((Below.heap_alloc _ _ _ (by have := hgm.size; omega)).trans (hgm.block f lf (fun e => hN.n1 (by injection e))))
      refine ⟨⟨(World.cell?_of_block (a := ⟨f, 5, none⟩) hbl).trans c5, (World.frozen?_of_block (a := ⟨f, 5, none⟩) hbl).trans (hN.hd.z 5)⟩, fun w3 hw3 => ?_⟩
      rw [hw3] at q1 q2
      have hD3 := hD.same (w' := w3) fun k' hk' => q2.block k' (hD.lt k' hk') (fun y => ap k' y hk')
      have hM3 := hMo.same _ _ _ w3 hM fun k' hk' => q2.block k' (hMo.lt _ _ _ _ hM hk') (n3 k' hk')
      refine ⟨text_h nm w3 hs, (add_any hD3 hO hMo hM3 hm ha ht hb (hsT nm) (all.length : Int) v).mono ?_⟩
      rintro e w' ⟨h1, gi', r', h', ev', A⟩
      exact ⟨h1, v', gi', r', h', ev', fd_of hMo hM hD ap n3 q1 q2 q3 A⟩
    obtain ⟨U, hU⟩ : ∃ U, hsT nm = U := ⟨_, rfl⟩
    rw [hU] at HFIN ⊢
    obtain ⟨R, hR⟩ : ∃ R, all.map Value.string = R := ⟨_, rfl⟩
    rw [hR] at hownm HFIN
    have hsz := hgm.size
    subst hnv
    clear hN hD ap n3 hO hMo hM hk hn hNm hgm klt e1 e2 hU hR
    go_enter Tryz.func160, Tryz.ntmps160
    go_wp2_with fail
    refine CN.mono ?_
    rintro e w1 ⟨rfl, rfl⟩
    clear CN
    go_wp2_with (at_builtin; refine wpList_append_own_at _ rfl _ _ 61 rfl 0 9 i0 (.string ByteArray.empty) 1 16 Tryz.underlying61 hi0 hz0 hz1 hz2 rfl (by decide) _ _ _ rfl (World.ownsRow.alloc hownm _) ⟨wm.heap.size, 0, none⟩ 1 1 [.string nm] rfl rfl (newR_one _ _ _) (by simp [Value.oneCell']) (by unfold maxLen; omega) (by omega) (by simp) ?_; intro v' w2 hown2 hgrow _ hob; obtain ⟨⟨k5, z5⟩, HN3⟩ := HFIN.out v' w2 hown2 hgrow hob; have HN4 := Lib.hid HN3; obtain ⟨a', cap', hv'⟩ := ownsRow_shape hown2; subst hv'; clear hown2 hgrow hob HN3)
    obtain ⟨w3, hw3⟩ : ∃ y, w2.setCell ⟨f, 5, none⟩ (.slice a' (all.length + 1) cap') = y := ⟨_, rfl⟩
    obtain ⟨CX, CA⟩ := HN4.out w3 hw3
    have HW3 := Lib.hid hw3
    clear hw3 HN4 HFIN
    go_upto_region 5 with fail
    rw [HW3.out]
    go_wp2_with fail
    refine CX.mono ?_
    rintro e w4 ⟨rfl, rfl⟩
    clear CX
    go_wp2_with fail
    refine CA.mono ?_
    rintro e w5 ⟨rfl, hF⟩
    clear CA
    have HF := Lib.hid hF
    clear hF
    go_wp2
    go_end0
    exact ⟨rfl, HF.out⟩
  · have e1 : numn all k = k := if_neg hc
    have e2 : alln all nm k = all := if_neg hc
    rw [e1, e2]
    have CX := text_h nm w hs
    have CA := (add_any hD hO hMo hM hm ha ht hb (hsT nm) k v).mono (R' := fun e w' => e = .returned (.tuple #[.int .i64 (((tt.add (hsT nm) k v).es.length - 1 : Nat) : Int), .int .i64 0]) ∧ ∃ nv' tgi' tr' th' tev', Fd w f g room most mb nv mv tg tgi tr th tev M (a + ((tt.add (hsT nm) k v).made - tt.made : Nat)) b all (tt.add (hsT nm) k v) w' nv' tgi' tr' th' tev') (fun e w' ⟨h1, gi', r', h', ev', A⟩ => ⟨h1, nv, gi', r', h', ev', fd_of hMo hM hD ap n3 hN (Ex.refl _ _) (fun k hk => .inl hk) A⟩)
    have tq : (k == -1) = false := by simp [hc]
    have tq2 : (k = -1) = False := by simp [hc]
    clear hN hD ap n3 hO hMo hM hk hc e1 e2 klt
    obtain ⟨U, hU⟩ : ∃ U, hsT nm = U := ⟨_, rfl⟩
    rw [hU] at CX CA ⊢
    clear hU
    go_enter Tryz.func160, Tryz.ntmps160
    go_wp2_with fail
    refine CN.mono ?_
    rintro e w1 ⟨rfl, rfl⟩
    clear CN
    go_wp2_with fail
    refine CX.mono ?_
    rintro e w2 ⟨rfl, rfl⟩
    clear CX
    go_wp2_with fail
    refine CA.mono ?_
    rintro e w3 ⟨rfl, hF⟩
    clear CA
    have HF := Lib.hid hF
    clear hF
    go_wp2
    go_end0
    exact ⟨rfl, HF.out⟩
end Go.Proofs.YtcbhpjpkjmlcnaaGreat
namespace Go.Proofs.YtcbhpjpkjmlcnaaGreat
open Go.RowKit Go.WideShapes

/-- How a seek stands behind a Next: at an entry of the hash, or at its end. -/
def SeekS (w wr : World) (s g : Nat) (t : Tb) (mv : Value) (M : Int → Int → World → Prop) (a b : Int) (u k : Int) (f : Nat) (e8 e9 : Value) : Prop :=
  ∃ j : Nat, j ≤ f ∧ Ex (mB mv) w wr ∧ M a (b + ((j + 1 : Nat) : Int)) wr ∧
   ((∃ n : Nat, e8 = .int .i64 (n : Int) ∧ e9 = .bool true ∧ j < f ∧ Of t.es u n ∧ Sk wr s (.pointer (some ⟨g, 0, none⟩)) t.turn u t.L (j + 1) (n : Int) (j + 1) ∧ Told t.es t.L t.c u (j + 1) (n : Int) ∧ (∀ m : Nat, Of t.es u m → m < n → (nth t.es m).key ≠ k) ∧ (∀ p, Pos t.es t.L t.c n p → p = j)) ∨
    (e8 = .int .i64 (-1) ∧ e9 = .bool false ∧ j = f ∧ ∀ m, Of t.es u m → (nth t.es m).key ≠ k))
def skMeas (L : Nat) (e8 e9 : Value) : Nat := match e9 with
  | .bool true => L + 1 - (intOf e8).toNat
  | _ => 0
theorem told_pos {es : List En} {L : Nat} {c : Nat → Int} {u : Int} {j n : Nat} {told : Int} (h1 : Told es L c u j told) (h2 : Told es L c u (j + 1) (n : Int)) (h3 : told < (n : Int)) (hO : Of es u n) {p : Nat} (hp : Pos es L c n p) : p = j := by
  have a := (h2 n hO p hp).2 (Int.le_refl _)
  have b : ¬ p < j := fun h => by have := (h1 n hO p hp).1 h; omega
  omega
theorem seekS_of {w W W' : World} {s g : Nat} {t : Tb} {mv : Value} {M : Int → Int → World → Prop} {a b : Int} {u k : Int} {f i : Nat} {told : Int} {e : Ending} (hx : Ex (mB mv) w W) (hs : w.heap.size ≤ s) (hno : ∀ m : Nat, Of t.es u m → (m : Int) ≤ told → (nth t.es m).key ≠ k) (hF : IsF t.c (uw u) t.L f)
    (q : ∃ j, i ≤ j ∧ j ≤ f ∧ ((∃ n : Nat, e = .returned (.tuple #[.int .i64 (n : Int), .bool true]) ∧ Of t.es u n ∧ told < (n : Int) ∧ t.c (trl (uw u) t.L j) = (n : Int) ∧ Told t.es t.L t.c u j told ∧ Told t.es t.L t.c u (j + 1) (n : Int) ∧ (∀ m, Of t.es u m → told < (m : Int) → n ≤ m) ∧ Nx W s g t mv M a (b + (i : Int)) u i i j (.pointer (some ⟨g, 0, none⟩)) (n : Int) W') ∨
      (e = .returned (.tuple #[.int .i64 (-1), .bool false]) ∧ j = f ∧ (∀ n, Of t.es u n → (n : Int) ≤ told) ∧ Nx W s g t mv M a (b + (i : Int)) u i i j (.pointer none) told W'))) :
    ∃ e8 e9, e = .returned (.tuple #[e8, e9]) ∧ SeekS w W' s g t mv M a b u k f e8 e9 ∧ ((∃ n : Nat, e8 = .int .i64 (n : Int) ∧ e9 = .bool true ∧ told < (n : Int) ∧ n < t.es.length) ∨ (e8 = .int .i64 (-1) ∧ e9 = .bool false)) := by
  obtain ⟨j, h1, h2, (⟨n, rfl, h3, h4, h5, h6, h7, h8, h9⟩ | ⟨rfl, h3, h4, h5⟩)⟩ := q
  · refine ⟨_, _, rfl, ⟨j, h2, hx.next h9.ex (fun k' hk' y => ?_), ?_, .inl ⟨n, rfl, rfl, ?_, h3, ?_, h7, fun m hm hmn => ?_, fun p hp => told_pos h6 h7 h4 h3 hp⟩⟩, .inl ⟨n, rfl, rfl, h4, h3.1⟩⟩
    · rcases y with y | y
      · omega
      · exact y
    · have := h9.m
      rw [show b + (i : Int) + ((j + 1 - i : Nat) : Int) = b + ((j + 1 : Nat) : Int) by omega] at this
      exact this
    · rcases Nat.lt_or_ge j f with c | c
      · exact c
      · have e : j = f := by omega
        rw [e] at h5
        have := hF.1
        rw [h5] at this
        omega
    · have := h9.sk
      rw [show i + (j + 1 - i) = j + 1 by omega] at this
      exact this
    · by_cases c : (m : Int) ≤ told
      · exact hno m hm c
      · have := h8 m hm (by omega)
        omega
  · refine ⟨_, _, rfl, ⟨j, h2, hx.next h5.ex (fun k' hk' y => ?_), ?_, .inr ⟨rfl, rfl, h3, fun m hm => hno m hm (h4 m hm)⟩⟩, .inr ⟨rfl, rfl⟩⟩
    · rcases y with y | y
      · omega
      · exact y
    · have := h5.m
      rw [show b + (i : Int) + ((j + 1 - i : Nat) : Int) = b + ((j + 1 : Nat) : Int) by omega] at this
      exact this
/-- What a seek finds, and how many cells it visits. -/
def SkR (t : Tb) (u k res : Int) (jj : Nat) : Prop :=
  (∃ n : Nat, res = (n : Int) ∧ Fnd t.es k n ∧ ∀ p, Pos t.es t.L t.c n p → jj = p + 1) ∨ (res = -1 ∧ (∀ n, ¬ Fnd t.es k n) ∧ ∀ p, IsF t.c (uw u) t.L p → jj = p + 1)
set_option maxRecDepth 100000 in
set_option maxHeartbeats 4000000 in
theorem seek_gen {w : World} {s q f g gi r h : Nat} {ev : Value} {t : Tb} {mv : Value} {M : Int → Int → World → Prop} {a b : Int} {T : TypeId} {Fn : FuncId} {nm : ByteArray} {k : Int} (hnm : nm.size ≤ 3000)
    (x0 : w.cell? ⟨s, 0, none⟩ = some (.pointer (some ⟨f, 0, none⟩))) (x1 : w.cell? ⟨s, 1, none⟩ = some (.iface T (.pointer (some ⟨q, 0, none⟩))))
    (hm : ∀ w, (method 342 T (.pointer (some ⟨q, 0, none⟩)) "lexicon/shared.table").run Tryz.prog w = .ok (Fn, .pointer (some ⟨q, 0, none⟩)) w) (he : ∀ args w, (callFunc Fn args).run Tryz.prog w = .ok (.enter Fn args) w)
    (CN : Calls Tryz.prog 81 #[.pointer (some ⟨f, 0, none⟩), .string nm] w fun e w' => e = .returned (.int .i64 k) ∧ w' = w)
    (CT : Calls Tryz.prog Fn #[.pointer (some ⟨q, 0, none⟩)] w fun e w' => e = .returned (.pointer (some ⟨g, 0, none⟩)) ∧ w' = w)
    (hD : Dt w g gi r h ev t mv) (hO : t.Ok) (hMo : MtOk mv M) (hMv : MvOk mv M) (hM : M a b w) (hb : 0 ≤ b ∧ b ≤ 10000000000) (hlen : t.es.length ≤ 100000) (hu : ∀ n, Fnd t.es k n → Of t.es (hsT nm) n) :
    Calls Tryz.prog 49 #[.pointer (some ⟨s, 0, none⟩), .string nm] w fun e w' => ∃ (res : Int) (jj : Nat), e = .returned (.int .i64 res) ∧ SkR t (hsT nm) k res jj ∧ M a (b + (jj : Int)) w' ∧ Ex (mB mv) w w' := by
  obtain ⟨u, hue⟩ : ∃ u, hsT nm = u := ⟨_, rfl⟩
  have CX := text_h nm w hnm
  rw [hue] at CX hu
  rw [hue]
  clear hue
  have CS := seek_any hD u
  obtain ⟨fi, hfi, hF⟩ := hO.inv.first u
  have hL : 2 ^ t.L ≤ 1048576 := Nat.le_trans (Nat.pow_le_pow_right (n := 2) (by decide) hD.cl.sz.le) (by decide)
  have HD := Lib.hid hD
  have HO := Lib.hid hO
  have HMo := Lib.hid hMo
  have HMv := Lib.hid hMv
  have HM := Lib.hid hM
  have HU := Lib.hid hu
  have HF := Lib.hid hF
  have HFI := Lib.hid hfi
  have HL := Lib.hid hL
  clear hD hO hMo hMv hM hu hF hfi hL
  go_enter Tryz.func49, Tryz.ntmps49
  go_wp2_with fail
  refine CN.mono ?_
  rintro e w1 ⟨rfl, rfl⟩
  clear CN
  go_wp2_with fail
  refine CT.mono ?_
  rintro e w2 ⟨rfl, rfl⟩
  clear CT
  go_wp2_with fail
  refine CX.mono ?_
  rintro e w3 ⟨rfl, rfl⟩
  clear CX
  go_wp2_with fail
  refine CS.mono ?_
  rintro e w4 ⟨sk, rfl, hsk, hSk, hB4⟩
  clear CS
  have hD4 := HD.out.below hB4
  have hx4 : Ex (mB mv) w3 w4 := ex_of hB4
  have C1 := next7_any hD4 HO.out.inv HMo.out HMv.out (a := a) (b := b) (HMo.out.below HM.out hB4) ⟨hb.1, by omega⟩ hSk (fun hc => by have := HD.out.lt _ hc; omega) (fun hc => by have := HMo.out.lt _ _ _ _ HM.out hc; omega) (by omega) (told_zero _ _ _ _) HF.out HFI.out (Nat.zero_le _) (by omega) hlen
  have C1' := C1.mono (R' := fun e w' => ∃ e8 e9, e = .returned (.tuple #[e8, e9]) ∧ SeekS w3 w' sk g t mv M a b u k fi e8 e9) (fun e w' hq => by
    obtain ⟨e8, e9, h1, h2, _⟩ := seekS_of (k := k) (i := 0) (b := b) (told := -1) hx4 hsk (fun m _ hm => by omega) HF.out (by simpa using hq)
    exact ⟨e8, e9, h1, h2⟩)
  clear C1 hSk hB4 hD4 hx4
  go_wp2_with fail
  refine C1'.mono ?_
  rintro e w5 ⟨e8, e9, rfl, hS5⟩
  clear C1'
  have HS5 := Lib.hid hS5
  clear hS5
  go_wp2_with fail
  go_loopw [8, 9, 10, 11] (fun e8 e9 _ _ wr => SeekS w3 wr sk g t mv M a b u k fi e8 e9) (fun e8 e9 _ _ _ => skMeas t.es.length e8 e9)
  case atStart => exact HS5.out
  case round =>
    clear HS5
    obtain ⟨j, hj, hx, hm', (⟨n, rfl, rfl, hjf, hO, hK, hT, hno, hp⟩ | ⟨rfl, rfl, rfl, hno⟩)⟩ := hrel
    · have hDr := HD.out.met hx
      have CA := at7_yes hDr n hO.1 hO.2.1
      obtain ⟨E, hE⟩ : ∃ E, nth t.es n = E := ⟨_, rfl⟩
      rw [hE] at CA
      have HE := Lib.hid hE
      have HX := Lib.hid hx
      have HMM := Lib.hid hm'
      have HOf := Lib.hid hO
      have HK := Lib.hid hK
      have HT := Lib.hid hT
      have HNO := Lib.hid hno
      have HP := Lib.hid hp
      have HDR := Lib.hid hDr
      have hnl := hO.1
      clear hx hm' hO hK hT hno hp hDr hE
      go_wp2_with fail
      refine CA.mono ?_
      rintro e w6 ⟨rfl, hB6⟩
      clear CA
      obtain ⟨w7, hw7⟩ : ∃ y, w6.alloc (.cells #[.bool E.live, .int .i64 E.hash, .int .i64 E.key, .int .i64 E.value, .int .i64 E.birth] 107) = y := ⟨_, rfl⟩
      have hB7 : Below wr.heap.size wr w7 := by rw [← hw7]; exact hB6.alloc hB6.size _
      have hX7 : Blk w7 w6.heap.size 5 (fun j => #[Value.bool E.live, .int .i64 E.hash, .int .i64 E.key, .int .i64 E.value, .int .i64 E.birth].getD j .nilFunc) := by rw [← hw7]; exact Blk.new w6 _ _
      have p2 : w7.cell? ⟨w6.heap.size, 2, none⟩ = some (.int .i64 E.key) := hX7.c 2 (by omega)
      have hM7 := HMo.out.below HMM.out hB7
      have hx7 : Ex (mB mv) w3 w7 := HX.out.trans (ex_of hB7)
      have HW7 := Lib.hid hw7
      clear hw7 hX7 hB6
      by_cases hk : E.key = k
      · have HR : Hid (SkR t u k (n : Int) (j + 1)) := .inl ⟨n, rfl, ⟨hnl, HOf.out.2.1, by rw [HE.out]; exact hk⟩, fun p hp => by rw [HP.out p hp]⟩
        have tq : (E.key == k) = true := by simp [hk]
        have HM7 := Lib.hid hM7
        have HX7 := Lib.hid hx7
        clear hM7 hx7 hB7
        rw [hk] at p2 HW7 ⊢
        clear hk tq
        go_upto_region 8 with fail
        rw [HW7.out]
        go_wp2
        go_ret
        exact ⟨(n : Int), j + 1, rfl, HR.out, HM7.out, HX7.out⟩
      · have tq : (E.key == k) = false := by simp [hk]
        have tq2 : (E.key = k) = False := by simp [hk]
        have hno2 : ∀ m : Nat, Of t.es u m → (m : Int) ≤ (n : Int) → (nth t.es m).key ≠ k := fun m hm hmn => by
          rcases Nat.lt_or_ge m n with c | c
          · exact HNO.out m hm c
          · rw [show m = n by omega, HE.out]; exact hk
        have hlw := HX.out.size
        have C2 := next7_any (HDR.out.below hB7) HO.out.inv HMo.out HMv.out (a := a) (b := b + ((j + 1 : Nat) : Int)) hM7 ⟨by omega, by have := HFI.out; have := HL.out; omega⟩ (HK.out.of hB7 (by omega)) (fun hc => by have := HD.out.lt _ hc; omega) (fun hc => by have := HMo.out.lt _ _ _ _ HM.out hc; omega) (by have := HFI.out; have := HL.out; omega) HT.out HF.out HFI.out hjf (by omega) hlen
        have C2' := C2.mono (R' := fun e w' => ∃ e8 e9, e = .returned (.tuple #[e8, e9]) ∧ SeekS w3 w' sk g t mv M a b u k fi e8 e9 ∧ skMeas t.es.length e8 e9 < t.es.length + 1 - n) (fun e w' hq => by
          obtain ⟨e8, e9, h1, h2, h3⟩ := seekS_of (k := k) (i := j + 1) (b := b) hx7 hsk hno2 HF.out hq
          refine ⟨e8, e9, h1, h2, ?_⟩
          rcases h3 with ⟨m, rfl, rfl, h4, h5⟩ | ⟨rfl, rfl⟩
          · show t.es.length + 1 - (intOf (.int .i64 (m : Int))).toNat < _
            simp [intOf]
            omega
          · show 0 < _
            omega)
        clear C2 hM7 hx7 hB7 hno2 HK HT HNO
        go_upto_region 8 with fail
        rw [HW7.out]
        go_wp2_with fail
        refine C2'.mono ?_
        rintro e w8 ⟨e8, e9, rfl, hS8, hms⟩
        clear C2'
        have HS8 := Lib.hid hS8
        have HMS := Lib.hid hms
        clear hS8 hms
        go_wp2_with fail
        go_roundw
        case rel => exact HS8.out
        case measure =>
          have := HMS.out
          show skMeas t.es.length e8 e9 < t.es.length + 1 - (intOf (.int .i64 (n : Int))).toNat
          simp [intOf]
          omega
    · have HR : Hid (SkR t u k (-1) (j + 1)) := .inr ⟨rfl, fun n hn => hno n (HU.out n hn) hn.2.2, fun p hp => by rw [hp.uniq HF.out]⟩
      have HX := Lib.hid hx
      have HMM := Lib.hid hm'
      clear hx hm' hno
      go_wp2
      go_ret
      exact ⟨-1, j + 1, rfl, HR.out, HMM.out, HX.out⟩
end Go.Proofs.YtcbhpjpkjmlcnaaGreat
namespace Go.Proofs.YtcbhpjpkjmlcnaaGreat
open Go.RowKit Go.WideShapes

theorem rowSize_any {w : World} {q n cap : Nat} {av : Option Addr} (k1 : w.cell? ⟨q, 1, none⟩ = some (.slice av n cap)) :
    Calls Tryz.prog 173 #[.pointer (some ⟨q, 0, none⟩)] w fun e w' => e = .returned (.int .i64 (n : Int)) ∧ w' = w := by
  go_enter Tryz.func173, Tryz.ntmps173
  go_wp2
  go_ret
  exact ⟨rfl, rfl⟩
theorem rowTable_any {w : World} {q f g : Nat} (k0 : w.cell? ⟨q, 0, none⟩ = some (.pointer (some ⟨f, 0, none⟩))) (k1 : w.cell? ⟨f, 1, none⟩ = some (.pointer (some ⟨g, 0, none⟩))) :
    Calls Tryz.prog 174 #[.pointer (some ⟨q, 0, none⟩)] w fun e w' => e = .returned (.pointer (some ⟨g, 0, none⟩)) ∧ w' = w := by
  have C1 := keys_yes k1
  clear k1
  go_enter Tryz.func174, Tryz.ntmps174
  go_wp2_with fail
  refine C1.mono ?_
  rintro e w1 ⟨rfl, rfl⟩
  go_wp2
  go_ret
  exact ⟨rfl, rfl⟩
theorem rowHas_none {w : World} {q : Nat} : Calls Tryz.prog 168 #[.pointer (some ⟨q, 0, none⟩), .int .i64 (-1)] w fun e w' => e = .returned (.bool false) ∧ w' = w := by
  go_enter Tryz.func168, Tryz.ntmps168
  go_wp2
  go_ret
  exact ⟨rfl, rfl⟩
theorem rowHas_any {w : World} {q n cap : Nat} {av : Option Addr} (k1 : w.cell? ⟨q, 1, none⟩ = some (.slice av n cap)) (m : Nat) :
    Calls Tryz.prog 168 #[.pointer (some ⟨q, 0, none⟩), .int .i64 (m : Int)] w fun e w' => e = .returned (.bool (decide (m < n))) ∧ w' = w := by
  have h1 : ((m : Int) != -1) = true := by rw [bne_iff_ne]; omega
  have h2 : ((m : Int) = -1) = False := by first | (simp; done) | (simp; omega)
  go_enter Tryz.func168, Tryz.ntmps168
  go_wp2
  go_ret
  exact ⟨rfl, rfl⟩
theorem ownHas_none {w : World} {q : Nat} : Calls Tryz.prog 209 #[.pointer (some ⟨q, 0, none⟩), .int .i64 (-1)] w fun e w' => e = .returned (.bool false) ∧ w' = w := by
  go_enter Tryz.func209, Tryz.ntmps209
  go_wp2
  go_ret
  exact ⟨rfl, rfl⟩
theorem ownHas_any {w : World} {q : Nat} (m : Nat) : Calls Tryz.prog 209 #[.pointer (some ⟨q, 0, none⟩), .int .i64 (m : Int)] w fun e w' => e = .returned (.bool true) ∧ w' = w := by
  have h1 : ((m : Int) != -1) = true := by rw [bne_iff_ne]; omega
  have h2 : ((m : Int) = -1) = False := by first | (simp; done) | (simp; omega)
  go_enter Tryz.func209, Tryz.ntmps209
  go_wp2
  go_ret
  exact ⟨rfl, rfl⟩
theorem rowValue_any {w : World} {q n cap gv m : Nat} {x : Int} (k1 : w.cell? ⟨q, 1, none⟩ = some (.slice (some ⟨gv, 0, none⟩) n cap)) (hm : m < n) (k2 : w.cell? ⟨gv, m, none⟩ = some (.int .i64 x)) :
    Calls Tryz.prog 176 #[.pointer (some ⟨q, 0, none⟩), .int .i64 (m : Int)] w fun e w' => e = .returned (.int .i64 x) ∧ w' = w := by
  have h1 : (m : Int) < (n : Int) := by omega
  go_enter Tryz.func176, Tryz.ntmps176
  go_wp2
  go_ret
  exact ⟨rfl, rfl⟩
theorem rowPut_any {w : World} {q n cap gv m : Nat} {x : Int} {y : Value} (k1 : w.cell? ⟨q, 1, none⟩ = some (.slice (some ⟨gv, 0, none⟩) n cap)) (hm : m < n) (k2 : w.cell? ⟨gv, m, none⟩ = some y) (z2 : w.frozen? ⟨gv, m, none⟩ = false) :
    Calls Tryz.prog 171 #[.pointer (some ⟨q, 0, none⟩), .int .i64 (m : Int), .int .i64 x] w fun e w' => e = .returned (.tuple #[]) ∧ w' = w.setCell ⟨gv, m, none⟩ (.int .i64 x) := by
  have h1 : (m : Int) < (n : Int) := by omega
  go_enter Tryz.func171, Tryz.ntmps171
  go_wp2
  go_end0
  exact ⟨rfl, rfl⟩
theorem ownSize_any {w : World} {q g : Nat} {n : Int} (k1 : w.cell? ⟨q, 1, none⟩ = some (.pointer (some ⟨g, 0, none⟩))) (k3 : w.cell? ⟨g, 3, none⟩ = some (.int .i64 n)) :
    Calls Tryz.prog 214 #[.pointer (some ⟨q, 0, none⟩)] w fun e w' => e = .returned (.int .i64 n) ∧ w' = w := by
  have C1 := len_any k3
  clear k3
  go_enter Tryz.func214, Tryz.ntmps214
  go_wp2_with fail
  refine C1.mono ?_
  rintro e w1 ⟨rfl, rfl⟩
  go_wp2
  go_ret
  exact ⟨rfl, rfl⟩
theorem ownTable_any {w : World} {q g : Nat} (k1 : w.cell? ⟨q, 1, none⟩ = some (.pointer (some ⟨g, 0, none⟩))) :
    Calls Tryz.prog 215 #[.pointer (some ⟨q, 0, none⟩)] w fun e w' => e = .returned (.pointer (some ⟨g, 0, none⟩)) ∧ w' = w := by
  go_enter Tryz.func215, Tryz.ntmps215
  go_wp2
  go_ret
  exact ⟨rfl, rfl⟩
theorem ownValue_any {w : World} {q g gi r h : Nat} {ev : Value} {t : Tb} {mv : Value} (k1 : w.cell? ⟨q, 1, none⟩ = some (.pointer (some ⟨g, 0, none⟩))) (hD : Dt w g gi r h ev t mv) {n : Nat} (hn : n < t.es.length) (hl : (nth t.es n).live = true) :
    Calls Tryz.prog 216 #[.pointer (some ⟨q, 0, none⟩), .int .i64 (n : Int)] w fun e w' => e = .returned (.int .i64 (nth t.es n).value) ∧ Below w.heap.size w w' := by
  have CA := at7_yes hD n hn hl
  clear hl
  generalize nth t.es n = E at *
  clear hD
  go_enter Tryz.func216, Tryz.ntmps216
  go_wp2_with fail
  refine CA.mono ?_
  rintro e w6 ⟨rfl, hB6⟩
  clear CA
  obtain ⟨w7, hw7⟩ : ∃ y, w6.alloc (.cells #[.bool E.live, .int .i64 E.hash, .int .i64 E.key, .int .i64 E.value, .int .i64 E.birth] 107) = y := ⟨_, rfl⟩
  have hB7 : Below w.heap.size w w7 := by rw [← hw7]; exact hB6.alloc hB6.size _
  have hX7 : Blk w7 w6.heap.size 5 (fun j => #[Value.bool E.live, .int .i64 E.hash, .int .i64 E.key, .int .i64 E.value, .int .i64 E.birth].getD j .nilFunc) := by rw [← hw7]; exact Blk.new w6 _ _
  have p3 : w7.cell? ⟨w6.heap.size, 3, none⟩ = some (.int .i64 E.value) := hX7.c 3 (by omega)
  have HW7 := Lib.hid hw7
  clear hw7 hX7 hB6
  go_upto_region 2 with fail
  rw [HW7.out]
  go_wp2
  go_ret
  exact ⟨rfl, hB7⟩
theorem ownPut_any {w : World} {q g gi r h : Nat} {ev : Value} {t : Tb} {mv : Value} (k1 : w.cell? ⟨q, 1, none⟩ = some (.pointer (some ⟨g, 0, none⟩))) (hD : Dt w g gi r h ev t mv) {n : Nat} (hn : n < t.es.length) (hl : (nth t.es n).live = true) (x : Int) :
    Calls Tryz.prog 212 #[.pointer (some ⟨q, 0, none⟩), .int .i64 (n : Int), .int .i64 x] w fun e w' => e = .returned (.tuple #[]) ∧ Dt w' g gi r h ev (t.putv n x) mv ∧ Ex (fun k => ev.ownBlock = some k) w w' := by
  have CA := put7_yes hD n x hn hl
  clear hD
  go_enter Tryz.func212, Tryz.ntmps212
  go_wp2_with fail
  refine CA.mono ?_
  rintro e w6 ⟨rfl, hD6, hx6⟩
  clear CA
  have HD6 := Lib.hid hD6
  clear hD6
  go_wp2
  go_end0
  exact ⟨rfl, HD6.out, hx6⟩
theorem ownTake_any {w : World} {q g gi r h : Nat} {ev : Value} {t : Tb} {mv : Value} (k1 : w.cell? ⟨q, 1, none⟩ = some (.pointer (some ⟨g, 0, none⟩))) (hD : Dt w g gi r h ev t mv) (hO : t.Ok) {n : Nat} (hn : n < t.es.length) (hl : (nth t.es n).live = true) (ht : t.turn ≤ 1000000) :
    Calls Tryz.prog 181 #[.pointer (some ⟨q, 0, none⟩), .int .i64 (n : Int)] w fun e w' => e = .returned (.iface 229 (.pointer (some ⟨q, 0, none⟩))) ∧ Dt w' g gi r h ev (t.kill n) mv ∧ Ex (dX g gi r h ev) w w' := by
  have CA := kill_yes hD hO n hn hl ht
  clear hD hO
  go_enter Tryz.func181, Tryz.ntmps181
  go_wp2_with fail
  refine CA.mono ?_
  rintro e w6 ⟨rfl, hD6, hx6⟩
  clear CA
  have HD6 := Lib.hid hD6
  clear hD6
  go_wp2
  go_ret
  exact ⟨rfl, HD6.out, hx6⟩
/-- Does a new name come next, or may it be the one that does from now on? -/
theorem fits_any {w : World} {q f g n cap : Nat} {av : Option Addr} {lv room : Int} (k0 : w.cell? ⟨q, 0, none⟩ = some (.pointer (some ⟨f, 0, none⟩))) (k1 : w.cell? ⟨q, 1, none⟩ = some (.slice av n cap)) (k2 : w.cell? ⟨f, 1, none⟩ = some (.pointer (some ⟨g, 0, none⟩))) (k3 : w.cell? ⟨f, 2, none⟩ = some (.int .i64 room)) (k4 : w.cell? ⟨g, 3, none⟩ = some (.int .i64 lv)) (x : Int) :
    Calls Tryz.prog 177 #[.pointer (some ⟨q, 0, none⟩), .int .i64 x] w fun e w' => e = .returned (.bool (if (n : Int) < lv then decide (x = (n : Int)) else decide ((n : Int) < room))) ∧ Below w.heap.size w w' := by
  have C1 : Calls Tryz.prog 174 #[.pointer (some ⟨q, 0, none⟩)] w.drew fun e w' => e = .returned (.pointer (some ⟨g, 0, none⟩)) ∧ w' = w.drew := rowTable_any k0 k2
  have C2 : Calls Tryz.prog 182 #[.pointer (some ⟨g, 0, none⟩)] w.drew fun e w' => e = .returned (.int .i64 lv) ∧ w' = w.drew := len_any k4
  have d1 : w.drew.cell? ⟨q, 1, none⟩ = some (.slice av n cap) := k1
  have d0 : w.drew.drew.cell? ⟨q, 0, none⟩ = some (.pointer (some ⟨f, 0, none⟩)) := k0
  have d2 : w.drew.drew.cell? ⟨q, 1, none⟩ = some (.slice av n cap) := k1
  have d3 : w.drew.drew.cell? ⟨f, 2, none⟩ = some (.int .i64 room) := k3
  clear k2 k4
  by_cases hc : (n : Int) < lv
  · rw [if_pos hc]
    go_enter Tryz.func177, Tryz.ntmps177
    go_wp2_with fail
    go_region_held3 (fun V => V.cell? ⟨q, 1, none⟩ = some (.slice av n cap)) (first | with_reducible exact d1 | fail)
      (first | (go_at_call 174; refine C1.mono ?_; rintro e w2 ⟨rfl, rfl⟩) | (go_at_call 182; refine C2.mono ?_; rintro e w2 ⟨rfl, rfl⟩) | fail)
    clear C1 C2
    go_wp2
    go_ret
    exact ⟨by first | rfl | (simp; rfl) | (simp [beq_eq_decide]), (Below.refl _ w).drew⟩
  · rw [if_neg hc]
    go_enter Tryz.func177, Tryz.ntmps177
    go_wp2_with fail
    go_region_held3 (fun V => V.cell? ⟨q, 1, none⟩ = some (.slice av n cap)) (first | with_reducible exact d1 | fail)
      (first | (go_at_call 174; refine C1.mono ?_; rintro e w2 ⟨rfl, rfl⟩) | (go_at_call 182; refine C2.mono ?_; rintro e w2 ⟨rfl, rfl⟩) | fail)
    clear C1 C2
    go_wp2_with fail
    go_region_held3 (fun V => V.cell? ⟨q, 0, none⟩ = some (.pointer (some ⟨f, 0, none⟩)) ∧ V.cell? ⟨q, 1, none⟩ = some (.slice av n cap) ∧ V.cell? ⟨f, 2, none⟩ = some (.int .i64 room)) (first | with_reducible exact ⟨d0, d2, d3⟩ | fail) (fail)
    go_wp2
    go_ret
    exact ⟨by first | rfl | simp, (Below.refl _ w).drew.drew⟩
end Go.Proofs.YtcbhpjpkjmlcnaaGreat
namespace Go.Proofs.YtcbhpjpkjmlcnaaGreat
open Go.RowKit Go.WideShapes

/-- What a family asks of its meter: N a b c d w: it has counted a tables, b cells, c values, d turns. -/
structure M4 (mv : Value) (N : Int → Int → Int → Int → World → Prop) : Prop where
  mt : ∀ c d, MtOk mv (fun a b w => N a b c d w)
  vi : ∀ c d, MvOk mv (fun a b w => N a b c d w)
  ch : ∀ a b c d w, 0 ≤ c → c ≤ 1000000000 → N a b c d w → Calls Tryz.prog 180 #[mv, .int .i64 1] w fun e w' => e = .returned (.tuple #[]) ∧ N a b (c + 1) d w' ∧ Ex (mB mv) w w'
  tu : ∀ a b c d w, 0 ≤ d → d ≤ 1000000000 → N a b c d w → Calls Tryz.prog 183 #[mv] w fun e w' => e = .returned (.tuple #[]) ∧ N a b c (d + 1) w' ∧ Ex (mB mv) w w'
theorem Ex.met {mv : Value} {w w' : World} (e : Ex (mB mv) w w') {k : Nat} (hk : k < w.heap.size) (hn : ¬ mB mv k) : w'.heap[k]? = w.heap[k]? := e.block k hk hn
/-- The table under way. -/
def TurnS (w wr : World) (g : Nat) (mv : Value) (N : Int → Int → Int → Int → World → Prop) (a b c d : Int) (t : Tb) : Prop :=
  ∃ gi r h ev, Dt wr g gi r h ev t mv ∧ (∀ k, dX g gi r h ev k → w.heap.size ≤ k) ∧ N (a + (t.made : Int)) b c d wr ∧ Ex (mB mv) w wr
/-- A table of a namespace's own, new. -/
def OwnN (w w' : World) (f q : Nat) (mv : Value) (N : Int → Int → Int → Int → World → Prop) (a b c d : Int) (t : Tb) : Prop :=
  ∃ g gi r h ev, Blk w' q 2 (sdF f (.pointer (some ⟨g, 0, none⟩))) ∧ Dt w' g gi r h ev t mv ∧ (∀ k, dX g gi r h ev k → w.heap.size ≤ k ∧ k ≠ q) ∧ N a b c d w' ∧ Ex (mB mv) w w'
set_option maxRecDepth 100000 in
set_option maxHeartbeats 4000000 in
theorem turned_any {w : World} {q f g gi r h : Nat} {ev : Value} {mb : Nat} {nv : Value} {F : Fa} {pm : Option Addr} {vv : Value} {vs : List Int} {N : Int → Int → Int → Int → World → Prop} {a b c d : Int} (hF : Fam w f g gi r h ev mb nv F (.pointer pm)) (hM4 : M4 (.pointer pm) N) (hM : N a b c d w) (ha : 0 ≤ a ∧ a ≤ 100000000) (hd : 0 ≤ d ∧ d ≤ 100000000)
    (hq : Blk w q 2 (sdF f vv)) (hv : IntsR 0 w vv vs) (nq : ¬ mB (.pointer pm) q) (nv' : ∀ k, vv.ownBlock = some k → ¬ mB (.pointer pm) k) (hl : vs.length ≤ F.kt.es.length) (hr : vs.length ≤ 256) (hlv : deadN F.kt.es = 0) :
    Calls Tryz.prog 178 #[.pointer (some ⟨q, 0, none⟩)] w fun e w' => ∃ q', e = .returned (.pointer (some ⟨q', 0, none⟩)) ∧ w.heap.size ≤ q' ∧ OwnN w w' f q' (.pointer pm) N (a + ((turnN F.kt.es vs vs.length).made : Int)) b c (d + 1) (turnN F.kt.es vs vs.length) := by
  obtain ⟨av, cap, gv, rfl, hcap, hvo⟩ := hv.open
  have k0 : w.cell? ⟨q, 0, none⟩ = some (.pointer (some ⟨f, 0, none⟩)) := hq.c 0 (by omega)
  have k1 : w.cell? ⟨q, 1, none⟩ = some (.slice av vs.length cap) := hq.c 1 (by omega)
  have m0 : w.cell? ⟨f, 0, none⟩ = some (.pointer pm) := hF.nh.hd.c 0 (by omega)
  have t1 : w.cell? ⟨f, 1, none⟩ = some (.pointer (some ⟨g, 0, none⟩)) := hF.nh.hd.c 1 (by omega)
  have lq := hq.lt (by omega)
  have lf := hF.lt f (.inl (.inl rfl))
  have nf : ¬ mB (.pointer pm) f := fun y => hF.nm f y (.inl (.inl rfl))
  have CN := new7_any (hM4.mt c d) hM ⟨ha.1, by omega⟩
  have HCELL : Hid (∀ W, Ex (mB (.pointer pm)) w W → W.cell? ⟨q, 0, none⟩ = some (.pointer (some ⟨f, 0, none⟩)) ∧ W.cell? ⟨q, 1, none⟩ = some (.slice av vs.length cap) ∧ W.cell? ⟨f, 0, none⟩ = some (.pointer pm) ∧ W.cell? ⟨f, 1, none⟩ = some (.pointer (some ⟨g, 0, none⟩)) ∧ ∀ i, i < vs.length → av = some ⟨gv, 0, none⟩ ∧ W.cell? ⟨gv, i, none⟩ = some (.int .i64 (vs[i]?.getD 0))) := by
    intro W hW
    refine ⟨(World.cell?_of_block (a := ⟨q, 0, none⟩) (hW.met lq nq)).trans k0, (World.cell?_of_block (a := ⟨q, 1, none⟩) (hW.met lq nq)).trans k1, (World.cell?_of_block (a := ⟨f, 0, none⟩) (hW.met lf nf)).trans m0, (World.cell?_of_block (a := ⟨f, 1, none⟩) (hW.met lf nf)).trans t1, fun i hi => ?_⟩
    obtain ⟨h1, h2, _, h4⟩ := hvo (by omega)
    refine ⟨h1, (World.cell?_of_block (a := ⟨gv, i, none⟩) (hW.met h2 (nv' gv (by rw [h1]; rfl)))).trans ?_⟩
    exact h4.c i hi
  have HF := Lib.hid hF
  have HM4 := Lib.hid hM4
  have HLV := Lib.hid hlv
  obtain ⟨n, hn⟩ : ∃ n, vs.length = n := ⟨_, rfl⟩
  rw [hn] at k1 hl hr HCELL ⊢
  clear hF hM4 hM hq hv hvo nv' hlv nf nq t1 hn hcap
  go_enter Tryz.func178, Tryz.ntmps178
  go_wp2_with fail
  refine CN.mono ?_
  rintro e w1 ⟨g2, gi2, r2, h2, rfl, hg2, hgi2, hr2, hh2, hD2, hM2, hx2⟩
  clear CN k0 k1 m0
  have HS : Hid (TurnS w w1 g2 (.pointer pm) N a b c d (turnN F.kt.es vs 0)) := ⟨gi2, r2, h2, _, hD2, (by
    rintro k (h | h | h | h | h)
    · omega
    · omega
    · omega
    · omega
    · cases h), hM2, hx2⟩
  obtain ⟨c0, c1, c2, c3, c4⟩ := HCELL.out w1 hx2
  clear hD2 hM2 hx2 c0 c2 c3 c4
  go_wp2_with fail
  clear c1
  go_loopw [4, 5, 6, 7, 21] (fun _ _ _ _ iv wr => ∃ i : Nat, i ≤ n ∧ iv = .int .i64 (i : Int) ∧ TurnS w wr g2 (.pointer pm) N a b c d (turnN F.kt.es vs i)) (fun _ _ _ _ iv _ => n - (intOf iv).toNat)
  case atStart => exact ⟨0, Nat.zero_le _, rfl, HS.out⟩
  case round =>
    clear HS
    obtain ⟨i, hi, rfl, gi3, r3, h3, ev3, hD3, hX3, hM3, hx3⟩ := hrel
    obtain ⟨k0, k1, m0, t1, hcl⟩ := HCELL.out wr hx3
    obtain ⟨hO3, hb3, hmd3, htn3, _⟩ := turnN_is F.kt.es vs i (by omega)
    by_cases hin : i < n
    · have ti : (i : Int) < (n : Int) := by omega
      obtain ⟨ha0, hvi⟩ := hcl i hin
      subst ha0
      have hDr := HF.out.dt.met hx3
      have CT := rowTable_any k0 t1
      have CA := at7_yes hDr i (by omega) (dead_live HLV.out (by omega))
      have hsz := hx3.size
      have C2 := fun (W : World) (hB : Below wr.heap.size wr W) => (add_any (hD3.below hB) hO3 (HM4.out.mt c d) ((HM4.out.mt c d).below hM3 hB) (by omega) ⟨by omega, by omega⟩ (by omega) (by omega) (nth F.kt.es i).hash (nth F.kt.es i).key (vs[i]?.getD 0)).mono (R' := fun e w' => (∃ x y, e = .returned (.tuple #[x, y])) ∧ TurnS w w' g2 (.pointer pm) N a b c d (turnN F.kt.es vs (i + 1))) (fun e w' ⟨h1, gi', r', h', ev', A⟩ => ⟨⟨_, _, h1⟩, gi', r', h', ev', A.dt, (fun k hk => (A.fx k hk).elim (hX3 k) (fun y => by have := hB.size; omega)), (by
        have hm := A.m
        have hq := ((turnN F.kt.es vs i).add_rest (nth F.kt.es i).hash (nth F.kt.es i).key (vs[i]?.getD 0)).2.2.1
        rw [show a + ((turnN F.kt.es vs i).made : Int) + ((((turnN F.kt.es vs i).add (nth F.kt.es i).hash (nth F.kt.es i).key (vs[i]?.getD 0)).made - (turnN F.kt.es vs i).made : Nat) : Int) = a + (((turnN F.kt.es vs (i + 1)).made : Nat) : Int) by show _ = a + ((((turnN F.kt.es vs i).add (nth F.kt.es i).hash (nth F.kt.es i).key (vs[i]?.getD 0)).made : Nat) : Int); omega] at hm
        exact hm), ((hx3.trans (ex_of hB)).next A.ex (fun k hk y => y.elim (fun z => by have := hX3 k z; omega) id))⟩)
      have HC2 := Lib.hid C2
      have e21 : IntKind.i64.wrap ((i : Int) + 1) = ((i + 1 : Nat) : Int) := by rw [i64_small (by omega) (by omega)]; omega
      clear C2 hDr hD3 hX3 hM3 hx3 hcl hO3 hb3 hmd3 htn3
      generalize nth F.kt.es i = E at *
      generalize vs[i]?.getD 0 = vi at *
      go_wp2_with fail
      refine CT.mono ?_
      rintro e w2 ⟨rfl, rfl⟩
      clear CT
      go_wp2_with fail
      refine CA.mono ?_
      rintro e w6 ⟨rfl, hB6⟩
      clear CA
      obtain ⟨w7, hw7⟩ : ∃ y, w6.alloc (.cells #[.bool E.live, .int .i64 E.hash, .int .i64 E.key, .int .i64 E.value, .int .i64 E.birth] 107) = y := ⟨_, rfl⟩
      have hB7 : Below w2.heap.size w2 w7 := by rw [← hw7]; exact hB6.alloc hB6.size _
      have hX7 : Blk w7 w6.heap.size 5 (fun j => #[Value.bool E.live, .int .i64 E.hash, .int .i64 E.key, .int .i64 E.value, .int .i64 E.birth].getD j .nilFunc) := by rw [← hw7]; exact Blk.new w6 _ _
      have p1 : w7.cell? ⟨w6.heap.size, 1, none⟩ = some (.int .i64 E.hash) := hX7.c 1 (by omega)
      have p2 : w7.cell? ⟨w6.heap.size, 2, none⟩ = some (.int .i64 E.key) := hX7.c 2 (by omega)
      have C3 := HC2.out w7 hB7
      have HW7 := Lib.hid hw7
      clear hw7 hX7 hB6 hB7 HC2
      go_upto_region 6 with fail
      rw [HW7.out]
      go_wp2_with fail
      refine C3.mono ?_
      rintro e w8 ⟨⟨x, y, rfl⟩, hS8⟩
      clear C3
      have HS8 := Lib.hid hS8
      clear hS8
      go_wp2_with fail
      go_roundw
      case rel => exact ⟨i + 1, by omega, rfl, HS8.out⟩
      case measure => simp [intOf]; omega
    · have hie : i = n := by omega
      have ti : ¬ (i : Int) < (n : Int) := by omega
      rw [hie] at hD3 hM3
      have CT := HM4.out.tu _ _ _ _ _ hd.1 (by omega) hM3
      have HD3 := Lib.hid hD3
      have HX3 := Lib.hid hX3
      have HX := Lib.hid hx3
      have HM3 := Lib.hid hM3
      clear hD3 hX3 hM3 hx3 hcl k1 t1 hie hO3 hb3 hmd3 htn3
      go_wp2_with fail
      refine CT.mono ?_
      rintro e w5 ⟨rfl, hM5, hx5⟩
      clear CT
      have hxw : Ex (mB (.pointer pm)) w w5 := HX.out.trans hx5
      obtain ⟨c0, _, _, _, _⟩ := HCELL.out w5 hxw
      have hs5 := hxw.size
      obtain ⟨w6, hw6⟩ : ∃ y, w5.alloc (.cells #[.pointer (some ⟨f, 0, none⟩), .pointer (some ⟨g2, 0, none⟩)] 232) = y := ⟨_, rfl⟩
      have hB6 : Below w5.heap.size w5 w6 := by rw [← hw6]; exact (Below.refl _ w5).alloc (Nat.le_refl _) _
      have hX6 : Blk w6 w5.heap.size 2 (sdF f (.pointer (some ⟨g2, 0, none⟩))) := by
        rw [← hw6]
        refine (Blk.new w5 _ _).congr fun j hj => ?_
        have : j = 0 ∨ j = 1 := by simp at hj; omega
        rcases this with rfl | rfl <;> rfl
      have hD5 := HD3.out.met hx5
      have HO : Hid (OwnN w w6 f w5.heap.size (.pointer pm) N (a + ((turnN F.kt.es vs n).made : Int)) b c (d + 1) (turnN F.kt.es vs n)) := ⟨g2, gi3, r3, h3, ev3, hX6, hD5.below hB6, (fun k hk => ⟨HX3.out k hk, by have := hD5.lt k hk; omega⟩), (HM4.out.mt c (d + 1)).below hM5 hB6, hxw.trans (ex_of hB6)⟩
      have HW6 := Lib.hid hw6
      clear hw6 hB6 hX6 hD5 hM5 hx5 hxw
      go_wp2
      rw [HW6.out]
      go_ret
      exact ⟨w5.heap.size, rfl, hs5, HO.out⟩
end Go.Proofs.YtcbhpjpkjmlcnaaGreat
