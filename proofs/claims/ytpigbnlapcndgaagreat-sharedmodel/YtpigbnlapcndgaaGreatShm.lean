/-
  Three namespaces over one family, with the rows that a law keeps beside them.
  Three namespaces: rows that grow; a round's steps.
  Three namespaces: what a step of SharedModel does, to the namespaces and to the sequences beside them.
  SharedModel, walked.
  How many names a namespace has; what Get tells of a name that is there.
  SharedModel: what a call leaves of blocks that are nobody's.
-/
import Derived.Test.YtpigbnlapcndgaaGreatShSet0
import Derived.Test.YtpigbnlapcndgaaGreatShPairs
import Derived.Test.YtpigbnlapcndgaaGreatShn
import Derived.Test.YtpigbnlapcndgaaGreatMod
import Derived.Test.YtpigbnlapcndgaaGreatShOpen
import Derived.Test.YtpigbnlapcndgaaGreatShGet
import Derived.Test.YtpigbnlapcndgaaGreatSaw
import Derived.Test.YtpigbnlapcndgaaGreatShOwn0
namespace Go.Proofs.YtpigbnlapcndgaaGreat
open Go.RowKit Go.WideShapes

/-- A function, but for one place. -/
def up3 {α : Type} (g : Nat → α) (k : Nat) (x : α) : Nat → α := fun j => if j = k then x else g j
theorem up3_at {α : Type} (g : Nat → α) (k : Nat) (x : α) : up3 g k x k = x := if_pos rfl
theorem up3_ne {α : Type} {g : Nat → α} {k j : Nat} {x : α} (h : j ≠ k) : up3 g k x j = g j := if_neg h
theorem map_up3 {α : Type} (g : Nat → α) (n k : Nat) (x : α) : (List.range n).map (up3 g k x) = ((List.range n).map g).set k x := by
  refine List.ext_getElem? fun j => ?_
  rw [List.getElem?_set]
  by_cases hj : j < n
  · by_cases e : k = j
    · subst e
      simp [hj, up3]
    · have : j ≠ k := fun h => e h.symm
      simp [hj, up3, e, this]
  · by_cases e : k = j
    · subst e
      simp [hj]
    · simp [hj, e]
theorem row3_same {w w' : World} {B : Nat} {e : TypeId} {size n : Nat} {v : Value} {xs : List Value} (h : w.ownsRow B e size v n xs) (he : ∀ k, v.ownBlock = some k → w'.heap[k]? = w.heap[k]?) : w'.ownsRow B e size v n xs := by
  refine ⟨h.1, ?_⟩
  rcases h.2 with h0 | ⟨g, cap, cur, rfl, h1, h2, h3⟩
  · exact .inl h0
  · exact .inr ⟨g, cap, cur, rfl, h1, (he g rfl).trans h2, h3⟩
/-- The pointers to namespaces, the rows of pairs, the numbers, as cells. -/
def spC (sp : Nat → Nat) (n : Nat) : List Value := (List.range n).map fun j => .pointer (some ⟨sp j, 0, none⟩)
def vvC (vv : Nat → Nat) (n : Nat) : List Value := (List.range n).map fun j => .int .i64 (vv j : Int)
/-- n namespaces over one family; tag tells whose a block is. -/
structure T3 (w : World) (f : Nat) (n nS nW nV : Nat) (sp : Nat → Nat) (vS vW vV : Value) (F : Fa) (st : Nat → Stn) (v vv : Nat → Nat) (u : Nat → Value) (l : Nat → List (ByteArray × Int)) (c : Nat) (XF : Nat → Prop) (X : Nat → Nat → Prop) (tag : Nat → Nat) (W : World) : Prop where
  n3 : n ≤ 3
  fm : FamX W f F (.pointer none) XF
  sm : ∀ j, j < n → Sm W (sp j) f (.pointer none) (v j) (X j) (st j)
  ok : F.Ok hsT c
  so : ∀ j, j < n → Stn.Ok hsT F c (st j)
  wt : ∀ j, j < n → PsB w.heap.size W (u j) (l j)
  rS : W.ownsRow w.heap.size 32 1 vS nS (spC sp nS)
  rW : W.ownsRow w.heap.size 36 1 vW nW ((List.range nW).map u)
  rV : W.ownsRow w.heap.size 3 1 vV nV (vvC vv nV)
  tF : ∀ k, XF k → tag k = 0 ∧ w.heap.size ≤ k
  tX : ∀ j, j < n → ∀ k, X j k → tag k = 1 + j ∧ w.heap.size ≤ k
  tU : ∀ j, j < n → ∀ k, (u j).ownBlock = some k → tag k = 4 + j
  tS : ∀ k, vS.ownBlock = some k → tag k = 7
  tW : ∀ k, vW.ownBlock = some k → tag k = 8
  tV : ∀ k, vV.ownBlock = some k → tag k = 9
  hb : Below w.heap.size w W
theorem T3.fs {w : World} {f n nS nW nV : Nat} {sp : Nat → Nat} {vS vW vV : Value} {F : Fa} {st : Nat → Stn} {v vv : Nat → Nat} {u : Nat → Value} {l : Nat → List (ByteArray × Int)} {c : Nat} {XF : Nat → Prop} {X : Nat → Nat → Prop} {tag : Nat → Nat} {W : World} (h : T3 w f n nS nW nV sp vS vW vV F st v vv u l c XF X tag W) {j : Nat} (hj : j < n) : Fs W f F (.pointer none) XF (sp j) (st j) (v j) (X j) :=
  ⟨h.fm, h.sm j hj, fun k hk hx => by have := (h.tF k hk).1; have := (h.tX j hj k hx).1; omega, fun k hk => (noMet hk).elim⟩
/-- .. while something else goes on. -/
theorem T3.keep {w : World} {f n nS nW nV : Nat} {sp : Nat → Nat} {vS vW vV : Value} {F : Fa} {st : Nat → Stn} {v vv : Nat → Nat} {u : Nat → Value} {l : Nat → List (ByteArray × Int)} {c : Nat} {XF : Nat → Prop} {X : Nat → Nat → Prop} {tag : Nat → Nat} {W W' : World} (h : T3 w f n nS nW nV sp vS vW vV F st v vv u l c XF X tag W) (hb : Below W.heap.size W W') : T3 w f n nS nW nV sp vS vW vV F st v vv u l c XF X tag W' where
  n3 := h.n3
  fm := h.fm.same fun k hk => hb.block k (h.fm.lt k hk)
  sm := fun j hj => (h.sm j hj).same fun k hk => hb.block k ((h.sm j hj).lt k hk)
  ok := h.ok
  so := h.so
  wt := fun j hj => own_keep (h.wt j hj) hb
  rS := own_keep h.rS hb
  rW := own_keep h.rW hb
  rV := own_keep h.rV hb
  tF := h.tF
  tX := h.tX
  tU := h.tU
  tS := h.tS
  tW := h.tW
  tV := h.tV
  hb := h.hb.trans (hb.mono h.hb.size)
/-- Other rows beside the namespaces. -/
theorem T3.rows {w : World} {f n nS nW nV nS' nW' nV' : Nat} {sp sp' : Nat → Nat} {vS vW vV vS' vW' vV' : Value} {F : Fa} {st : Nat → Stn} {v vv vv' : Nat → Nat} {u : Nat → Value} {l : Nat → List (ByteArray × Int)} {c : Nat} {XF : Nat → Prop} {X : Nat → Nat → Prop} {tag : Nat → Nat} {W W' : World} (h : T3 w f n nS nW nV sp vS vW vV F st v vv u l c XF X tag W) (t0 : Nat) (hx : Ex (fun k => 7 ≤ tag k ∧ w.heap.size ≤ k) W W') (hsp : ∀ j, j < n → sp' j = sp j)
    (rS : W'.ownsRow w.heap.size 32 1 vS' nS' (spC sp' nS')) (rW : W'.ownsRow w.heap.size 36 1 vW' nW' ((List.range nW').map u)) (rV : W'.ownsRow w.heap.size 3 1 vV' nV' (vvC vv' nV'))
    (oS : ∀ k, vS'.ownBlock = some k → (k < W.heap.size ∧ vS.ownBlock = some k) ∨ (W.heap.size ≤ k ∧ t0 = 7)) (oW : ∀ k, vW'.ownBlock = some k → (k < W.heap.size ∧ vW.ownBlock = some k) ∨ (W.heap.size ≤ k ∧ t0 = 8)) (oV : ∀ k, vV'.ownBlock = some k → (k < W.heap.size ∧ vV.ownBlock = some k) ∨ (W.heap.size ≤ k ∧ t0 = 9)) :
    T3 w f n nS' nW' nV' sp' vS' vW' vV' F st v vv' u l c XF X (fun k => if k < W.heap.size then tag k else t0) W' where
  n3 := h.n3
  fm := h.fm.same fun k hk => hx.block k (h.fm.lt k hk) (fun y => by have := (h.tF k hk).1; omega)
  sm := fun j hj => by
    rw [hsp j hj]
    exact (h.sm j hj).same fun k hk => hx.block k ((h.sm j hj).lt k hk) (fun y => by have := (h.tX j hj k hk).1; have := h.n3; omega)
  ok := h.ok
  so := h.so
  wt := fun j hj => row3_same (h.wt j hj) fun k hk => hx.block k (World.ownsRow.lt (h.wt j hj) k hk).2 (fun y => by have := h.tU j hj k hk; have := h.n3; omega)
  rS := rS
  rW := rW
  rV := rV
  tF := fun k hk => by rw [if_pos (h.fm.lt k hk)]; exact h.tF k hk
  tX := fun j hj k hk => by rw [if_pos ((h.sm j hj).lt k hk)]; exact h.tX j hj k hk
  tU := fun j hj k hk => by rw [if_pos (World.ownsRow.lt (h.wt j hj) k hk).2]; exact h.tU j hj k hk
  tS := fun k hk => by
    rcases oS k hk with ⟨a, b⟩ | ⟨a, b⟩
    · rw [if_pos a]; exact h.tS k b
    · rw [if_neg (by omega)]; exact b
  tW := fun k hk => by
    rcases oW k hk with ⟨a, b⟩ | ⟨a, b⟩
    · rw [if_pos a]; exact h.tW k b
    · rw [if_neg (by omega)]; exact b
  tV := fun k hk => by
    rcases oV k hk with ⟨a, b⟩ | ⟨a, b⟩
    · rw [if_pos a]; exact h.tV k b
    · rw [if_neg (by omega)]; exact b
  hb := h.hb.trans (hx.below (fun k hk => hk.2) h.hb.size)
/-- One namespace more. -/
theorem T3.make {w : World} {f n nS nW nV : Nat} {sp : Nat → Nat} {vS vW vV : Value} {F : Fa} {st : Nat → Stn} {v vv : Nat → Nat} {u : Nat → Value} {l : Nat → List (ByteArray × Int)} {c : Nat} {XF : Nat → Prop} {X : Nat → Nat → Prop} {tag : Nat → Nat} {W W' : World} (h : T3 w f n nS nW nV sp vS vW vV F st v vv u l c XF X tag W) (hn : n < 3) (hS : nS ≤ n) {s : Nat} {XS : Nat → Prop} (hF : Fs W' f F (.pointer none) XF s (.row []) 0 XS) (hX : ∀ k, XS k → W.heap.size ≤ k) (hb : Below W.heap.size W W') (e1 : st n = .row []) (e2 : v n = 0) (e3 : u n = .slice none 0 0) (e4 : l n = []) :
    T3 w f (n + 1) nS nW nV (up3 sp n s) vS vW vV F st v vv u l c XF (up3 X n XS) (fun k => if k < W.heap.size then tag k else 1 + n) W' := by
  have K := h.keep hb
  have hsz := h.hb.size
  refine ⟨by omega, K.fm, fun j hj => ?_, K.ok, fun j hj => ?_, fun j hj => ?_, ?_, K.rW, K.rV, fun k hk => ?_, fun j hj k hk => ?_, fun j hj k hk => ?_, fun k hk => ?_, fun k hk => ?_, fun k hk => ?_, K.hb⟩
  · by_cases e : j = n
    · subst e
      rw [up3_at, up3_at, e1, e2]
      exact hF.sm
    · rw [up3_ne e, up3_ne e]
      exact K.sm j (by omega)
  · by_cases e : j = n
    · subst e
      rw [e1]
      exact Nat.zero_le _
    · exact K.so j (by omega)
  · by_cases e : j = n
    · subst e
      rw [e3, e4]
      exact World.ownsRow_nil _ _ _ _
    · exact K.wt j (by omega)
  · have e : spC (up3 sp n s) nS = spC sp nS := by
      unfold spC
      refine List.map_congr_left fun j hj => ?_
      have := List.mem_range.1 hj
      rw [up3_ne (by omega)]
    rw [e]
    exact K.rS
  · show (if _ then _ else _) = _ ∧ _
    rw [if_pos (h.fm.lt k hk)]
    exact h.tF k hk
  · show (if _ then _ else _) = _ ∧ _
    by_cases e : j = n
    · subst e
      rw [up3_at] at hk
      have := hX k hk
      rw [if_neg (by omega)]
      exact ⟨rfl, by omega⟩
    · rw [up3_ne e] at hk
      rw [if_pos ((h.sm j (by omega)).lt k hk)]
      exact h.tX j (by omega) k hk
  · show (if _ then _ else _) = _
    by_cases e : j = n
    · subst e
      rw [e3] at hk
      cases hk
    · rw [if_pos (World.ownsRow.lt (h.wt j (by omega)) k hk).2]
      exact h.tU j (by omega) k hk
  · show (if _ then _ else _) = _
    rw [if_pos (World.ownsRow.lt h.rS k hk).2]
    exact h.tS k hk
  · show (if _ then _ else _) = _
    rw [if_pos (World.ownsRow.lt h.rW k hk).2]
    exact h.tW k hk
  · show (if _ then _ else _) = _
    rw [if_pos (World.ownsRow.lt h.rV k hk).2]
    exact h.tV k hk
/-- Another sequence for one namespace. -/
theorem T3.want {w : World} {f n nS nV : Nat} {sp : Nat → Nat} {vS vV : Value} {g cap : Nat} {F : Fa} {st : Nat → Stn} {v vv : Nat → Nat} {u : Nat → Value} {l : Nat → List (ByteArray × Int)} {c : Nat} {XF : Nat → Prop} {X : Nat → Nat → Prop} {tag : Nat → Nat} {W W' : World} (h : T3 w f n nS n nV sp vS (.slice (some ⟨g, 0, none⟩) n cap) vV F st v vv u l c XF X tag W) {k : Nat} (hk : k < n) {u' : Value} {l' : List (ByteArray × Int)} (hx : Ex (fun b => (u k).ownBlock = some b) W W') (hP : PsB w.heap.size W' u' l') (ho : ∀ b, u'.ownBlock = some b → (u k).ownBlock = some b ∨ W.heap.size ≤ b) :
    T3 w f n nS n nV sp vS (.slice (some ⟨g, 0, none⟩) n cap) vV F st v vv (up3 u k u') (up3 l k l') c XF X (fun b => if b < W.heap.size then tag b else 4 + k) (W'.setCell ⟨g, k, none⟩ u') := by
  have hn3 := h.n3
  have hg : tag g = 8 := h.tW g rfl
  have hgl := World.ownsRow.lt h.rW g rfl
  have hx2 : Ex (fun b => (u k).ownBlock = some b ∨ b = g) W (W'.setCell ⟨g, k, none⟩ u') := (hx.mono fun _ _ y => .inl y).setCell (p := ⟨g, k, none⟩) (fun _ => .inr rfl) u'
  have hx3 : Ex (fun b => b = g) W' (W'.setCell ⟨g, k, none⟩ u') := (Ex.refl (fun b => b = g) W').setCell (p := ⟨g, k, none⟩) (fun _ => rfl) u'
  have hU := h.tU k hk
  refine ⟨hn3, h.fm.same fun b hb => hx2.block b (h.fm.lt b hb) ?_, fun j hj => (h.sm j hj).same fun b hb => hx2.block b ((h.sm j hj).lt b hb) ?_, h.ok, h.so, fun j hj => ?_, row3_same h.rS fun b hb => hx2.block b (World.ownsRow.lt h.rS b hb).2 ?_, ?_, row3_same h.rV fun b hb => hx2.block b (World.ownsRow.lt h.rV b hb).2 ?_, fun b hb => ?_, fun j hj b hb => ?_, fun j hj b hb => ?_, fun b hb => ?_, fun b hb => ?_, fun b hb => ?_, ?_⟩
  · have := (h.tF b hb).1
    rintro (y | rfl)
    · have := hU b y; omega
    · omega
  · have := (h.tX j hj b hb).1
    rintro (y | rfl)
    · have := hU b y; omega
    · omega
  · by_cases e : j = k
    · subst e
      rw [up3_at, up3_at]
      refine row3_same hP fun b hb => hx3.block b (World.ownsRow.lt hP b hb).2 ?_
      rintro rfl
      rcases ho _ hb with y | y
      · have := hU _ y; omega
      · omega
    · rw [up3_ne e, up3_ne e]
      refine row3_same (h.wt j hj) fun b hb => hx2.block b (World.ownsRow.lt (h.wt j hj) b hb).2 ?_
      have := h.tU j hj b hb
      rintro (y | rfl)
      · have := hU b y; omega
      · omega
  · have := h.tS b hb
    rintro (y | rfl)
    · have := hU b y; omega
    · omega
  · rw [map_up3]
    have h1 : W'.ownsRow w.heap.size 36 1 (.slice (some ⟨g, 0, none⟩) n cap) n ((List.range n).map u) := row3_same h.rW fun b hb => hx.block b (World.ownsRow.lt h.rW b hb).2 (fun y => by have := hU b y; have := h.tW b hb; omega)
    exact (World.ownsRow.stored h1 k u').1
  · have := h.tV b hb
    rintro (y | rfl)
    · have := hU b y; omega
    · omega
  · show (if _ then _ else _) = _ ∧ _
    rw [if_pos (h.fm.lt b hb)]
    exact h.tF b hb
  · show (if _ then _ else _) = _ ∧ _
    rw [if_pos ((h.sm j hj).lt b hb)]
    exact h.tX j hj b hb
  · show (if _ then _ else _) = _
    by_cases e : j = k
    · subst e
      rw [up3_at] at hb
      rcases ho b hb with y | y
      · rw [if_pos (World.ownsRow.lt (h.wt j hj) b y).2]
        exact hU b y
      · rw [if_neg (by omega)]
    · rw [up3_ne e] at hb
      rw [if_pos (World.ownsRow.lt (h.wt j hj) b hb).2]
      exact h.tU j hj b hb
  · show (if _ then _ else _) = _
    rw [if_pos (World.ownsRow.lt h.rS b hb).2]
    exact h.tS b hb
  · show (if _ then _ else _) = _
    rw [if_pos (World.ownsRow.lt h.rW b hb).2]
    exact h.tW b hb
  · show (if _ then _ else _) = _
    rw [if_pos (World.ownsRow.lt h.rV b hb).2]
    exact h.tV b hb
  · refine h.hb.trans (hx2.below (fun b hb => ?_) h.hb.size)
    rcases hb with y | rfl
    · exact (World.ownsRow.lt (h.wt k hk) b y).1
    · exact hgl.1
/-- Set or Del of one namespace. -/
theorem T3.call {w : World} {f n nS nW nV : Nat} {sp : Nat → Nat} {vS vW vV : Value} {F F' : Fa} {st : Nat → Stn} {v vv : Nat → Nat} {u : Nat → Value} {l : Nat → List (ByteArray × Int)} {c : Nat} {XF : Nat → Prop} {X : Nat → Nat → Prop} {tag : Nat → Nat} {W W' : World} (h : T3 w f n nS nW nV sp vS vW vV F st v vv u l c XF X tag W) {k : Nat} (hk : k < n) {st' : Stn} {v' : Nat} {a b d e : Int} {XF' XS' : Nat → Prop} (R : SsR W f (.pointer none) no4 XF (X k) (sp k) F' st' v' a b d e W' XF' XS') (hO : F'.Ok hsT (c + 1)) (hs : Stn.Ok hsT F' (c + 1) st') (hl : Fle F F') :
    ∃ tag', T3 w f n nS nW nV sp vS vW vV F' (up3 st k st') (up3 v k v') vv u l (c + 1) XF' (up3 X k XS') tag' W' := by
  classical
  have hn3 := h.n3
  have hsz := h.hb.size
  have hno : ∀ b, b < W.heap.size → tag b ≠ 0 → tag b ≠ 1 + k → W'.heap[b]? = W.heap[b]? := fun b hb h1 h2 => R.ex.block b hb (by
    rintro (y | y | y)
    · exact h1 (h.tF b y).1
    · exact h2 (h.tX k hk b y).1
    · exact noMet y)
  refine ⟨fun b => if b < W.heap.size then tag b else if XF' b then 0 else 1 + k, hn3, R.fs.fm, fun j hj => ?_, hO, fun j hj => ?_, fun j hj => row3_same (h.wt j hj) fun b hb => ?_, row3_same h.rS fun b hb => ?_, row3_same h.rW fun b hb => ?_, row3_same h.rV fun b hb => ?_, fun b hb => ?_, fun j hj b hb => ?_, fun j hj b hb => ?_, fun b hb => ?_, fun b hb => ?_, fun b hb => ?_, ?_⟩
  · by_cases e : j = k
    · subst e
      rw [up3_at, up3_at, up3_at]
      exact R.fs.sm
    · rw [up3_ne e, up3_ne e, up3_ne e]
      refine (h.sm j hj).same fun b hb => ?_
      have := (h.tX j hj b hb).1
      exact hno b ((h.sm j hj).lt b hb) (by omega) (by omega)
  · by_cases e : j = k
    · subst e
      rw [up3_at]
      exact hs
    · rw [up3_ne e]
      exact (h.so j hj).le hl (by omega)
  · have := h.tU j hj b hb
    exact hno b (World.ownsRow.lt (h.wt j hj) b hb).2 (by omega) (by omega)
  · have := h.tS b hb
    exact hno b (World.ownsRow.lt h.rS b hb).2 (by omega) (by omega)
  · have := h.tW b hb
    exact hno b (World.ownsRow.lt h.rW b hb).2 (by omega) (by omega)
  · have := h.tV b hb
    exact hno b (World.ownsRow.lt h.rV b hb).2 (by omega) (by omega)
  · show (if _ then _ else _) = _ ∧ _
    rcases R.hf b hb with y | y
    · rw [if_pos (h.fm.lt b y)]
      exact h.tF b y
    · rw [if_neg (by omega), if_pos hb]
      exact ⟨rfl, by omega⟩
  · show (if _ then _ else _) = _ ∧ _
    by_cases e : j = k
    · subst e
      rw [up3_at] at hb
      rcases R.hs b hb with y | y
      · rw [if_pos ((h.sm j hj).lt b y)]
        exact h.tX j hj b y
      · rw [if_neg (by omega), if_neg (fun z => R.fs.ap b z hb)]
        exact ⟨rfl, by omega⟩
    · rw [up3_ne e] at hb
      rw [if_pos ((h.sm j hj).lt b hb)]
      exact h.tX j hj b hb
  · show (if _ then _ else _) = _
    rw [if_pos (World.ownsRow.lt (h.wt j hj) b hb).2]
    exact h.tU j hj b hb
  · show (if _ then _ else _) = _
    rw [if_pos (World.ownsRow.lt h.rS b hb).2]
    exact h.tS b hb
  · show (if _ then _ else _) = _
    rw [if_pos (World.ownsRow.lt h.rW b hb).2]
    exact h.tW b hb
  · show (if _ then _ else _) = _
    rw [if_pos (World.ownsRow.lt h.rV b hb).2]
    exact h.tV b hb
  · refine h.hb.trans (R.ex.below (fun b hb => ?_) hsz)
    rcases hb with y | y | y
    · exact (h.tF b y).2
    · exact (h.tX k hk b y).2
    · exact (noMet y).elim
end Go.Proofs.YtpigbnlapcndgaaGreat
namespace Go.Proofs.YtpigbnlapcndgaaGreat
open Go.RowKit Go.WideShapes

theorem wpList3_append_own {P : Program} {ops : Array Oper} {rest : List Oper} {o : Oper} {a : Act} {w : World} {Q : Exit → Act → World → Prop} (hgd : o.guard = none) (s x : Operand) (t : TypeId)
    (ho : o.op = .call { callee := .builtin .append, args := #[s, x], argTypes := #[t, t] })
    (base : Nat) (e : TypeId) (i : TypeInfo) (z : Value) (size bytes : Nat) (ht : P.underlying t = some (.slice e)) (hi : P.info? e = some i) (hz : i.zero = some z)
    (hsize : i.size = size) (hby : i.bytes = bytes) (hzs : z.cells.size = size) (hsz : 0 < size)
    (v : Value) (n : Nat) (xs : List Value) (hs : a.eval s = v) (hown : w.ownsRow base e size v n xs)
    (ad : Addr) (m c : Nat) (news : List Value) (hx : a.eval x = .slice (some ad) m c) (hl : news.length = m * size) (hnews : ∀ j u, news[j]? = some u → w.cell? (ad.add j) = some u) (h1 : ∀ u ∈ news, u.oneCell' = true)
    (h63 : n + m ≤ maxLen) (hbytes : (n + m) * bytes ≤ 140737488355328) (hbase : base ≤ w.heap.size)
    (h : ∀ v' w', w'.ownsRow base e size v' (n + m) (xs ++ news) → w.grownBy w' v.ownBlock → (v'.ownBlock = v.ownBlock ∨ v'.ownBlock = some w.heap.size) → wpList P ops Q rest (a.put o.dst v') w') : wpList P ops Q (o :: rest) a w := by
  refine wpList_plain hgd fun K hK => ?_
  obtain ⟨v', w', hr, h2, h3, _, h5⟩ := run_append_own_at (P := P) w base t o.type e i z size bytes ht hi hz hsize hby hzs hsz v n xs hown ad m c news hl hnews h1 h63 hbytes hbase
  unfold Oper.wp execOp
  simp only [ho, resolve, invoke, builtin, Sem.run_bind, Sem.run_pure, Result.andThen_ok, List.map_toArray, List.map_cons, List.map_nil, hs, hx, hr]
  exact hK _ _ (h v' w' h2 h3 h5)
theorem Tryz.infoSp : (Tryz.prog.info? 32).map (fun i => (i.zero, i.size, i.bytes)) = some (some (.pointer none), 1, 8) := by kernel_rfl
theorem Tryz.infoPs : (Tryz.prog.info? 36).map (fun i => (i.zero, i.size, i.bytes)) = some (some (.slice none 0 0), 1, 24) := by kernel_rfl
theorem Tryz.infoI3 : (Tryz.prog.info? 3).map (fun i => (i.zero, i.size, i.bytes)) = some (some (.int .i64 0), 1, 8) := by kernel_rfl
theorem grown_ex {W W' : World} {o : Obj} {v : Value} {X : Nat → Prop} (hg : (W.alloc o).grownBy W' v.ownBlock) (h : ∀ k, v.ownBlock = some k → X k) : Ex X W W' := by
  have h1 : Ex X W (W.alloc o) := (Ex.refl X W).alloc o
  exact ⟨hg.os.trans h1.os, hg.tape.trans h1.tape, hg.output.trans h1.output, Nat.le_trans h1.size hg.size, fun k hk hx => (hg.block k (Nat.lt_of_lt_of_le hk h1.size) (fun e => hx (h k e.symm))).trans (h1.block k hk hx)⟩
theorem own_app {W : World} {o : Obj} {B n : Nat} {t : TypeId} {v v' : Value} {xs : List Value} (hr : W.ownsRow B t 1 v n xs) (ho : v'.ownBlock = v.ownBlock ∨ v'.ownBlock = some (W.alloc o).heap.size) : ∀ k, v'.ownBlock = some k → (k < W.heap.size ∧ v.ownBlock = some k) ∨ W.heap.size ≤ k := by
  intro k hk
  rcases ho with e | e
  · rw [e] at hk
    exact .inl ⟨(World.ownsRow.lt hr k hk).2, hk⟩
  · rw [e] at hk
    injection hk with hk
    simp at hk
    exact .inr (by omega)
theorem own_stay {W : World} {B n : Nat} {t : TypeId} {v : Value} {xs : List Value} {t0 t1 : Nat} (hr : W.ownsRow B t 1 v n xs) : ∀ k, v.ownBlock = some k → (k < W.heap.size ∧ v.ownBlock = some k) ∨ (W.heap.size ≤ k ∧ t0 = t1) := fun k hk => .inl ⟨(World.ownsRow.lt hr k hk).2, hk⟩
theorem T3.addS {w : World} {f n nS nW nV : Nat} {sp : Nat → Nat} {vS vW vV : Value} {F : Fa} {st : Nat → Stn} {v vv : Nat → Nat} {u : Nat → Value} {l : Nat → List (ByteArray × Int)} {c : Nat} {XF : Nat → Prop} {X : Nat → Nat → Prop} {tag : Nat → Nat} {W W' : World} {o : Obj} (h : T3 w f n nS nW nV sp vS vW vV F st v vv u l c XF X tag W) {v' : Value} (hown : W'.ownsRow w.heap.size 32 1 v' (nS + 1) (spC sp nS ++ [.pointer (some ⟨sp nS, 0, none⟩)])) (hg : (W.alloc o).grownBy W' vS.ownBlock) (ho : v'.ownBlock = vS.ownBlock ∨ v'.ownBlock = some (W.alloc o).heap.size) :
    ∃ tag', T3 w f n (nS + 1) nW nV sp v' vW vV F st v vv u l c XF X tag' W' := by
  have hx : Ex (fun k => vS.ownBlock = some k) W W' := grown_ex hg fun k hk => hk
  refine ⟨_, h.rows 7 (hx.mono fun k _ hk => ⟨by have := h.tS k hk; omega, (World.ownsRow.lt h.rS k hk).1⟩) (fun _ _ => rfl) ?_ (row3_same h.rW fun k hk => hx.block k (World.ownsRow.lt h.rW k hk).2 (fun y => by have := h.tS k y; have := h.tW k hk; omega)) (row3_same h.rV fun k hk => hx.block k (World.ownsRow.lt h.rV k hk).2 (fun y => by have := h.tS k y; have := h.tV k hk; omega)) (fun k hk => (own_app h.rS ho k hk).imp id fun y => ⟨y, rfl⟩) (own_stay h.rW) (own_stay h.rV)⟩
  unfold spC at hown ⊢
  rw [List.range_succ, List.map_append]
  exact hown
theorem T3.addW {w : World} {f n nS nW nV : Nat} {sp : Nat → Nat} {vS vW vV : Value} {F : Fa} {st : Nat → Stn} {v vv : Nat → Nat} {u : Nat → Value} {l : Nat → List (ByteArray × Int)} {c : Nat} {XF : Nat → Prop} {X : Nat → Nat → Prop} {tag : Nat → Nat} {W W' : World} {o : Obj} (h : T3 w f n nS nW nV sp vS vW vV F st v vv u l c XF X tag W) {v' : Value} (hown : W'.ownsRow w.heap.size 36 1 v' (nW + 1) ((List.range nW).map u ++ [u nW])) (hg : (W.alloc o).grownBy W' vW.ownBlock) (ho : v'.ownBlock = vW.ownBlock ∨ v'.ownBlock = some (W.alloc o).heap.size) :
    ∃ tag', T3 w f n nS (nW + 1) nV sp vS v' vV F st v vv u l c XF X tag' W' := by
  have hx : Ex (fun k => vW.ownBlock = some k) W W' := grown_ex hg fun k hk => hk
  refine ⟨_, h.rows 8 (hx.mono fun k _ hk => ⟨by have := h.tW k hk; omega, (World.ownsRow.lt h.rW k hk).1⟩) (fun _ _ => rfl) (row3_same h.rS fun k hk => hx.block k (World.ownsRow.lt h.rS k hk).2 (fun y => by have := h.tW k y; have := h.tS k hk; omega)) ?_ (row3_same h.rV fun k hk => hx.block k (World.ownsRow.lt h.rV k hk).2 (fun y => by have := h.tW k y; have := h.tV k hk; omega)) (own_stay h.rS) (fun k hk => (own_app h.rW ho k hk).imp id fun y => ⟨y, rfl⟩) (own_stay h.rV)⟩
  rw [List.range_succ, List.map_append]
  exact hown
theorem T3.addV {w : World} {f n nS nW nV : Nat} {sp : Nat → Nat} {vS vW vV : Value} {F : Fa} {st : Nat → Stn} {v vv : Nat → Nat} {u : Nat → Value} {l : Nat → List (ByteArray × Int)} {c : Nat} {XF : Nat → Prop} {X : Nat → Nat → Prop} {tag : Nat → Nat} {W W' : World} {o : Obj} (h : T3 w f n nS nW nV sp vS vW vV F st v vv u l c XF X tag W) {v' : Value} (hown : W'.ownsRow w.heap.size 3 1 v' (nV + 1) (vvC vv nV ++ [.int .i64 (vv nV : Int)])) (hg : (W.alloc o).grownBy W' vV.ownBlock) (ho : v'.ownBlock = vV.ownBlock ∨ v'.ownBlock = some (W.alloc o).heap.size) :
    ∃ tag', T3 w f n nS nW (nV + 1) sp vS vW v' F st v vv u l c XF X tag' W' := by
  have hx : Ex (fun k => vV.ownBlock = some k) W W' := grown_ex hg fun k hk => hk
  refine ⟨_, h.rows 9 (hx.mono fun k _ hk => ⟨by have := h.tV k hk; omega, (World.ownsRow.lt h.rV k hk).1⟩) (fun _ _ => rfl) (row3_same h.rS fun k hk => hx.block k (World.ownsRow.lt h.rS k hk).2 (fun y => by have := h.tV k y; have := h.tS k hk; omega)) (row3_same h.rW fun k hk => hx.block k (World.ownsRow.lt h.rW k hk).2 (fun y => by have := h.tV k y; have := h.tW k hk; omega)) ?_ (own_stay h.rS) (own_stay h.rW) (fun k hk => (own_app h.rV ho k hk).imp id fun y => ⟨y, rfl⟩)⟩
  unfold vvC at hown ⊢
  rw [List.range_succ, List.map_append]
  exact hown
/-- One more version. -/
theorem T3.ver {w : World} {f n nS nW : Nat} {sp : Nat → Nat} {vS vW : Value} {g m cap : Nat} {F : Fa} {st : Nat → Stn} {v vv : Nat → Nat} {u : Nat → Value} {l : Nat → List (ByteArray × Int)} {c : Nat} {XF : Nat → Prop} {X : Nat → Nat → Prop} {tag : Nat → Nat} {W : World} (h : T3 w f n nS nW m sp vS vW (.slice (some ⟨g, 0, none⟩) m cap) F st v vv u l c XF X tag W) (k x : Nat) :
    ∃ tag', T3 w f n nS nW m sp vS vW (.slice (some ⟨g, 0, none⟩) m cap) F st v (up3 vv k x) u l c XF X tag' (W.setCell ⟨g, k, none⟩ (.int .i64 (x : Int))) := by
  have hg : tag g = 9 := h.tV g rfl
  have hgl := World.ownsRow.lt h.rV g rfl
  have hx : Ex (fun b => b = g) W (W.setCell ⟨g, k, none⟩ (.int .i64 (x : Int))) := (Ex.refl (fun b => b = g) W).setCell (p := ⟨g, k, none⟩) (fun _ => rfl) _
  refine ⟨_, h.rows 0 (hx.mono fun b _ hb => by subst hb; exact ⟨by omega, hgl.1⟩) (fun _ _ => rfl) (row3_same h.rS fun b hb => hx.block b (World.ownsRow.lt h.rS b hb).2 (by rintro rfl; have := h.tS b hb; omega)) (row3_same h.rW fun b hb => hx.block b (World.ownsRow.lt h.rW b hb).2 (by rintro rfl; have := h.tW b hb; omega)) ?_ (own_stay h.rS) (own_stay h.rW) (own_stay h.rV)⟩
  have e : vvC (up3 vv k x) m = (vvC vv m).set k (.int .i64 (x : Int)) := by
    unfold vvC
    rw [← map_up3]
    refine List.map_congr_left fun j _ => ?_
    unfold up3
    split <;> rfl
  rw [e]
  exact (World.ownsRow.stored h.rV k _).1
/-- What the rows hold. -/
theorem T3.at {w : World} {f n nS nW nV : Nat} {sp : Nat → Nat} {gS cS gW cW gV cV : Nat} {F : Fa} {st : Nat → Stn} {v vv : Nat → Nat} {u : Nat → Value} {l : Nat → List (ByteArray × Int)} {c : Nat} {XF : Nat → Prop} {X : Nat → Nat → Prop} {tag : Nat → Nat} {W : World} (h : T3 w f n nS nW nV sp (.slice (some ⟨gS, 0, none⟩) nS cS) (.slice (some ⟨gW, 0, none⟩) nW cW) (.slice (some ⟨gV, 0, none⟩) nV cV) F st v vv u l c XF X tag W) :
    (∀ j, j < nS → W.cell? ⟨gS, j, none⟩ = some (.pointer (some ⟨sp j, 0, none⟩))) ∧ (∀ j, j < nW → W.cell? ⟨gW, j, none⟩ = some (u j)) ∧ (∀ j, j < nV → W.cell? ⟨gV, j, none⟩ = some (.int .i64 (vv j : Int))) ∧ (∀ j, W.frozen? ⟨gW, j, none⟩ = false) ∧ ∀ j, W.frozen? ⟨gV, j, none⟩ = false := by
  refine ⟨fun j hj => ?_, fun j hj => ?_, fun j hj => ?_, fun j => World.ownsRow.frozenAt h.rW j, fun j => World.ownsRow.frozenAt h.rV j⟩
  · rw [World.ownsRow.cellAt h.rS j (by omega)]
    unfold spC
    simp [hj]
  · rw [World.ownsRow.cellAt h.rW j (by omega)]
    simp [hj]
  · rw [World.ownsRow.cellAt h.rV j (by omega)]
    unfold vvC
    simp [hj]
end Go.Proofs.YtpigbnlapcndgaaGreat
namespace Go.Proofs.YtpigbnlapcndgaaGreat
open Go.RowKit Go.WideShapes

theorem T3.congr {w : World} {f n nS nW nV : Nat} {sp : Nat → Nat} {vS vW vV : Value} {F : Fa} {st : Nat → Stn} {v vv vv' : Nat → Nat} {u : Nat → Value} {l l' : Nat → List (ByteArray × Int)} {c : Nat} {XF : Nat → Prop} {X : Nat → Nat → Prop} {tag : Nat → Nat} {W : World} (h : T3 w f n nS nW nV sp vS vW vV F st v vv u l c XF X tag W) (e : ∀ j, j < n → l' j = l j) (e2 : vv' = vv) : T3 w f n nS nW nV sp vS vW vV F st v vv' u l' c XF X tag W := by
  subst e2
  exact ⟨h.n3, h.fm, h.sm, h.ok, h.so, fun j hj => by rw [e j hj]; exact h.wt j hj, h.rS, h.rW, h.rV, h.tF, h.tX, h.tU, h.tS, h.tW, h.tV, h.hb⟩
theorem T3.more {w : World} {f n nS nW nV : Nat} {sp : Nat → Nat} {vS vW vV : Value} {F : Fa} {st : Nat → Stn} {v vv : Nat → Nat} {u : Nat → Value} {l : Nat → List (ByteArray × Int)} {c : Nat} {XF : Nat → Prop} {X : Nat → Nat → Prop} {tag : Nat → Nat} {W : World} (h : T3 w f n nS nW nV sp vS vW vV F st v vv u l c XF X tag W) : T3 w f n nS nW nV sp vS vW vV F st v vv u l (c + 1) XF X tag W :=
  ⟨h.n3, h.fm, h.sm, h.ok.le (by omega), fun j hj => (h.so j hj).le (Fle.refl _) (by omega), h.wt, h.rS, h.rW, h.rV, h.tF, h.tX, h.tU, h.tS, h.tW, h.tV, h.hb⟩
/-- Blocks of nobody, from B0 on. -/
theorem T3.tell {w : World} {f n nS nW nV : Nat} {sp : Nat → Nat} {vS vW vV : Value} {F : Fa} {st : Nat → Stn} {v vv : Nat → Nat} {u : Nat → Value} {l : Nat → List (ByteArray × Int)} {c : Nat} {XF : Nat → Prop} {X : Nat → Nat → Prop} {tag : Nat → Nat} {W : World} (h : T3 w f n nS nW nV sp vS vW vV F st v vv u l c XF X tag W) : T3 w f n nS nW nV sp vS vW vV F st v vv u l c XF X (fun k => if k < W.heap.size then tag k else 10) W := by
  refine ⟨h.n3, h.fm, h.sm, h.ok, h.so, h.wt, h.rS, h.rW, h.rV, fun k hk => ?_, fun j hj k hk => ?_, fun j hj k hk => ?_, fun k hk => ?_, fun k hk => ?_, fun k hk => ?_, h.hb⟩
  · show (if _ then _ else _) = _ ∧ _
    rw [if_pos (h.fm.lt k hk)]
    exact h.tF k hk
  · show (if _ then _ else _) = _ ∧ _
    rw [if_pos ((h.sm j hj).lt k hk)]
    exact h.tX j hj k hk
  · show (if _ then _ else _) = _
    rw [if_pos (World.ownsRow.lt (h.wt j hj) k hk).2]
    exact h.tU j hj k hk
  · show (if _ then _ else _) = _
    rw [if_pos (World.ownsRow.lt h.rS k hk).2]
    exact h.tS k hk
  · show (if _ then _ else _) = _
    rw [if_pos (World.ownsRow.lt h.rW k hk).2]
    exact h.tW k hk
  · show (if _ then _ else _) = _
    rw [if_pos (World.ownsRow.lt h.rV k hk).2]
    exact h.tV k hk
/-- Where the rows lie. -/
structure R3 where
  f : Nat
  gS : Nat
  cS : Nat
  gW : Nat
  cW : Nat
  gV : Nat
  cV : Nat
  sp : Nat → Nat
/-- Three namespaces, with sequences l beside them. -/
def M3 (w : World) (r : R3) (F : Fa) (st : Nat → Stn) (v vv : Nat → Nat) (l : Nat → List (ByteArray × Int)) (c : Nat) (W : World) : Prop :=
  ∃ u XF X tag, T3 w r.f 3 3 3 3 r.sp (.slice (some ⟨r.gS, 0, none⟩) 3 r.cS) (.slice (some ⟨r.gW, 0, none⟩) 3 r.cW) (.slice (some ⟨r.gV, 0, none⟩) 3 r.cV) F st v vv u l c XF X tag W
theorem M3.keep {w : World} {r : R3} {F : Fa} {st : Nat → Stn} {v vv : Nat → Nat} {l : Nat → List (ByteArray × Int)} {c : Nat} {W W' : World} (h : M3 w r F st v vv l c W) (hb : Below W.heap.size W W') : M3 w r F st v vv l c W' := by
  obtain ⟨u, XF, X, tag, h⟩ := h
  exact ⟨u, XF, X, tag, h.keep hb⟩
theorem M3.hb {w : World} {r : R3} {F : Fa} {st : Nat → Stn} {v vv : Nat → Nat} {l : Nat → List (ByteArray × Int)} {c : Nat} {W : World} (h : M3 w r F st v vv l c W) : Below w.heap.size w W := by
  obtain ⟨u, XF, X, tag, h⟩ := h
  exact h.hb
theorem prs_few {F : Fa} {c : Nat} {st : Stn} (hO : F.Ok hsT c) (hs : Stn.Ok hsT F c st) (hc : c ≤ 1000) : (prsS F st).length ≤ 3000 := by
  cases st with
  | row vs =>
    show (prsN _ _ _ _).length ≤ _
    rw [prsN_len]
    have h1 : vs.length ≤ F.kt.es.length := hs
    have := hO.len
    have := hO.room
    omega
  | own t =>
    show (prsO _ _).length ≤ _
    unfold prsO
    rw [List.length_map]
    have := liveL_len t.es
    have := hs.1.few
    have := hs.1.all
    have := hs.2.2.1
    omega
theorem M3.few {w : World} {r : R3} {F : Fa} {st : Nat → Stn} {v vv : Nat → Nat} {l : Nat → List (ByteArray × Int)} {c : Nat} {W : World} (h : M3 w r F st v vv l c W) (hc : c ≤ 1000) {k : Nat} (hk : k < 3) : (prsS F (st k)).length ≤ 3000 := by
  obtain ⟨u, XF, X, tag, h⟩ := h
  exact prs_few h.ok (h.so k hk) hc
/-- The law's set or del, of one sequence; the cells of nobody stay. -/
theorem M3.want {w : World} {r : R3} {F : Fa} {st : Nat → Stn} {v vv : Nat → Nat} {l : Nat → List (ByteArray × Int)} {c : Nat} {W0 W : World} (h : M3 w r F st v vv l c W0) (hb : Below W0.heap.size W0 W) {k : Nat} (hk : k < 3) (hl : (l k).length ≤ 3000) :
    ∃ (ka : Option Addr) (kn kc : Nat), W.cell? ⟨r.gW, k, none⟩ = some (.slice ka kn kc) ∧ W.cell? ⟨r.gS, k, none⟩ = some (.pointer (some ⟨r.sp k, 0, none⟩)) ∧
      ∀ {nm : ByteArray},
      (∀ (x : Int) (m : Nat), Calls Tryz.prog 9 #[.slice ka kn kc, .string nm, .int .i64 x, .int .i64 (m : Int)] W fun e W' => ∃ (ua : Option Addr) (un uc : Nat) (l' : List (ByteArray × Int)) (er : Int), e = .returned (.tuple #[.slice ua un uc, .bool (decide (er = 0))]) ∧ MsR (l k) nm x m l' er ∧ W'.frozen? ⟨r.gW, k, none⟩ = false ∧ (∃ y, W'.cell? ⟨r.gW, k, none⟩ = some y) ∧ (∀ b j, W0.heap.size ≤ b → b < W.heap.size → (W'.setCell ⟨r.gW, k, none⟩ (.slice ua un uc)).cell? ⟨b, j, none⟩ = W.cell? ⟨b, j, none⟩) ∧ M3 w r F st v vv (up3 l k l') c (W'.setCell ⟨r.gW, k, none⟩ (.slice ua un uc))) ∧
      Calls Tryz.prog 11 #[.slice ka kn kc, .string nm] W fun e W' => ∃ (ua : Option Addr) (un uc : Nat) (l' : List (ByteArray × Int)) (er : Int), e = .returned (.tuple #[.slice ua un uc, .bool (decide (er = 0))]) ∧ MdR (l k) nm l' er ∧ W'.frozen? ⟨r.gW, k, none⟩ = false ∧ (∃ y, W'.cell? ⟨r.gW, k, none⟩ = some y) ∧ (∀ b j, W0.heap.size ≤ b → b < W.heap.size → (W'.setCell ⟨r.gW, k, none⟩ (.slice ua un uc)).cell? ⟨b, j, none⟩ = W.cell? ⟨b, j, none⟩) ∧ M3 w r F st v vv (up3 l k l') c (W'.setCell ⟨r.gW, k, none⟩ (.slice ua un uc)) := by
  obtain ⟨u, XF, X, tag, h0⟩ := h
  have h1 := h0.tell.keep hb
  obtain ⟨a1, a2, a3, a4, a5⟩ := h1.at
  have hP := h1.wt k hk
  have hsz := h1.hb.size
  have fin : ∀ {W' : World} {u' : Value} {l' : List (ByteArray × Int)}, Ex (fun b => (u k).ownBlock = some b) W W' → PsB w.heap.size W' u' l' → (∀ b, u'.ownBlock = some b → (u k).ownBlock = some b ∨ W.heap.size ≤ b) → W'.frozen? ⟨r.gW, k, none⟩ = false ∧ (∃ y, W'.cell? ⟨r.gW, k, none⟩ = some y) ∧ (∀ b j, W0.heap.size ≤ b → b < W.heap.size → (W'.setCell ⟨r.gW, k, none⟩ u').cell? ⟨b, j, none⟩ = W.cell? ⟨b, j, none⟩) ∧ M3 w r F st v vv (up3 l k l') c (W'.setCell ⟨r.gW, k, none⟩ u') := by
    intro W' u' l' hx hP' ho
    have g8 := h1.tW r.gW rfl
    have hr : W'.ownsRow w.heap.size 36 1 (.slice (some ⟨r.gW, 0, none⟩) 3 r.cW) 3 ((List.range 3).map u) := row3_same h1.rW fun b hb => hx.block b (World.ownsRow.lt h1.rW b hb).2 (fun y => by have := h1.tU k hk b y; have := h1.tW b hb; omega)
    refine ⟨World.ownsRow.frozenAt hr k, ⟨u k, by rw [World.ownsRow.cellAt hr k (by omega)]; simp [hk]⟩, fun b j hb1 hb2 => ?_, _, XF, X, _, h1.want hk hx hP' ho⟩
    have hx2 : Ex (fun b => (u k).ownBlock = some b ∨ b = r.gW) W (W'.setCell ⟨r.gW, k, none⟩ u') := (hx.mono fun _ _ y => .inl y).setCell (p := ⟨r.gW, k, none⟩) (fun _ => .inr rfl) u'
    have t10 : (if b < W0.heap.size then tag b else 10) = 10 := if_neg (by omega)
    exact World.cell?_of_block (hx2.block b hb2 (by
      rintro (y | rfl)
      · have : (if b < W0.heap.size then tag b else 10) = 4 + k := h1.tU k hk b y
        omega
      · have : (if r.gW < W0.heap.size then tag r.gW else 10) = 8 := g8
        omega))
  obtain ⟨ka, kc, ek, -⟩ := hP.rd
  refine ⟨ka, (l k).length, kc, by rw [← ek]; exact a2 k hk, a1 k hk, fun {nm} => ?_⟩
  rw [← ek]
  refine ⟨fun x m => ?_, ?_⟩
  · refine (mset_any hP (by omega) hsz nm x m).mono ?_
    rintro e W' ⟨u', l', er, rfl, hm, hP', hx, ho⟩
    obtain ⟨ua, uc, rfl, -⟩ := hP'.rd
    exact ⟨ua, _, uc, l', er, rfl, hm, fin hx hP' fun b hb => by
      rcases ho with e | ⟨q, hq, e⟩
      · exact .inl (e ▸ hb)
      · rw [e] at hb
        injection hb with hb
        exact .inr (by omega)⟩
  · refine (mdel_any hP (by omega) nm).mono ?_
    rintro e W' ⟨u', l', er, rfl, hm, hP', hB⟩
    rcases hP' with ⟨rfl, rfl⟩ | hP'
    · rw [ek]
      refine ⟨ka, _, kc, _, er, rfl, hm, ?_⟩
      rw [← ek]
      exact fin (ex_of hB) (own_keep hP hB) fun b hb => .inl hb
    · obtain ⟨ua, uc, rfl, -⟩ := hP'.rd
      exact ⟨ua, _, uc, l', er, rfl, hm, fin (ex_of hB) (hP'.mono hsz) fun b hb => .inr (World.ownsRow.lt hP' b hb).1⟩
theorem setR_row {hs : ByteArray → Int} {F : Fa} {s : ByteArray} {v : Int} {st : Stn} {F' : Fa} {st' : Stn} {er : Int} {dc dd : Nat} (h : SetR hs F s v st F' st' er dc dd) : isRow st' = true → isRow st = true := by
  cases h <;> simp [isRow]
theorem delR_row {F : Fa} {s : ByteArray} {st st' : Stn} {er : Int} {dd : Nat} (h : DelR F s st st' er dd) : isRow st' = true → isRow st = true := by
  cases h <;> simp [isRow]
/-- Set, where the sequence has been set already. -/
theorem M3.set {w : World} {r : R3} {F : Fa} {st : Nat → Stn} {v : Nat → Nat} {c : Nat} {W : World} {k : Nat} {l' : List (ByteArray × Int)} {nm : ByteArray} {x er : Int} (h : M3 w r F st v v (up3 (fun j => prsS F (st j)) k l') c W) (hk : k < 3) (hm : MsR (prsS F (st k)) nm x F.most l' er) (hc : c ≤ 1000) (hv : v k ≤ 1000) (hn : nm.size ≤ 3000) :
    Calls Tryz.prog 10 #[.pointer (some ⟨r.sp k, 0, none⟩), .string nm, .int .i64 x] W fun e W' => e = .returned (.int .i64 er) ∧ ∃ F' st', F'.most = F.most ∧ (isRow (st' k) = true → isRow (st k) = true) ∧ M3 w r F' st' (up3 v k (if er = 0 then v k + 1 else v k)) v (fun j => prsS F' (st' j)) (c + 1) W' := by
  obtain ⟨u, XF, X, tag, h⟩ := h
  refine (set_any (N := no4) (a := 0) (b := 0) (c := 0) (d := 0) (h.fs hk) m4_nil trivial (by omega) (by omega) (by omega) (by omega) h.ok (h.so k hk) (by omega) (by omega) hn x).mono ?_
  rintro e W' ⟨er', rfl, F', st', dc, dd, hset, q, res, jj, -, -, XF', XS', R⟩
  obtain ⟨o1, o2, o3⟩ := setR_ok hset h.ok (h.so k hk) hn (by omega)
  have hp := setR_prs hset h.ok (h.so k hk) hn (by omega)
  obtain ⟨e1, e2⟩ := prs_tb h.ok (h.so k hk)
  have nd : ((prsS F (st k)).map Prod.fst).Nodup := by rw [e1]; exact prs_nd e2 h.ok.nd
  obtain ⟨rfl, rfl⟩ := MsR.uniq nd hp hm
  obtain ⟨tag', T⟩ := h.call hk R o1 o2 o3
  refine ⟨rfl, F', up3 st k st', o3.most, ?_, u, XF', _, tag', T.congr (fun j hj => ?_) rfl⟩
  · rw [up3_at]
    exact setR_row hset
  · by_cases e : j = k
    · subst e
      rw [up3_at, up3_at]
    · rw [up3_ne e, up3_ne e]
      exact prs_fle h.ok (h.so j hj) o3
theorem M3.del {w : World} {r : R3} {F : Fa} {st : Nat → Stn} {v : Nat → Nat} {c : Nat} {W : World} {k : Nat} {l' : List (ByteArray × Int)} {nm : ByteArray} {er : Int} (h : M3 w r F st v v (up3 (fun j => prsS F (st j)) k l') c W) (hk : k < 3) (hm : MdR (prsS F (st k)) nm l' er) (hc : c ≤ 1000) (hv : v k ≤ 1000) (hn : nm.size ≤ 3000) :
    Calls Tryz.prog 12 #[.pointer (some ⟨r.sp k, 0, none⟩), .string nm] W fun e W' => e = .returned (.int .i64 er) ∧ ∃ F' st', F'.most = F.most ∧ (isRow (st' k) = true → isRow (st k) = true) ∧ M3 w r F' st' (up3 v k (if er = 0 then v k + 1 else v k)) v (fun j => prsS F' (st' j)) (c + 1) W' := by
  obtain ⟨u, XF, X, tag, h⟩ := h
  refine (del_any (N := no4) (a := 0) (b := 0) (c := 0) (d := 0) (h.fs hk) m4_nil trivial (by omega) (by omega) (by omega) h.ok (h.so k hk) (by omega) (by omega) hn).mono ?_
  rintro e W' ⟨er', rfl, st', dd, hdel, q, res, jj, -, -, XF', XS', R⟩
  have o2 := delR_ok hdel h.ok (h.so k hk)
  have hp := delR_prs hdel h.ok (h.so k hk)
  obtain ⟨e1, e2⟩ := prs_tb h.ok (h.so k hk)
  have nd : ((prsS F (st k)).map Prod.fst).Nodup := by rw [e1]; exact prs_nd e2 h.ok.nd
  obtain ⟨rfl, rfl⟩ := MdR.uniq nd hp hm
  obtain ⟨tag', T⟩ := h.call hk R (h.ok.le (by omega)) o2 (Fle.refl _)
  refine ⟨rfl, F, up3 st k st', rfl, ?_, u, XF', _, tag', T.congr (fun j hj => ?_) rfl⟩
  · rw [up3_at]
    exact delR_row hdel
  · by_cases e : j = k
    · subst e
      rw [up3_at, up3_at]
    · rw [up3_ne e, up3_ne e]
/-- The version counted. -/
theorem M3.ver {w : World} {r : R3} {F : Fa} {st : Nat → Stn} {v v' : Nat → Nat} {l : Nat → List (ByteArray × Int)} {c : Nat} {W : World} (h : M3 w r F st v' v l c W) {k : Nat} (hk : k < 3) : W.cell? ⟨r.gV, k, none⟩ = some (.int .i64 (v k : Int)) ∧ W.frozen? ⟨r.gV, k, none⟩ = false ∧ M3 w r F st v' (up3 v k (v k + 1)) l c (W.setCell ⟨r.gV, k, none⟩ (.int .i64 ((v k + 1 : Nat) : Int))) := by
  obtain ⟨u, XF, X, tag, h⟩ := h
  obtain ⟨a1, a2, a3, a4, a5⟩ := h.at
  obtain ⟨tag', T⟩ := h.ver k (v k + 1)
  exact ⟨a3 k hk, a5 k, u, XF, X, tag', T⟩
/-- What is asked of one of them. -/
theorem M3.look {w : World} {r : R3} {F : Fa} {st : Nat → Stn} {v vv : Nat → Nat} {l : Nat → List (ByteArray × Int)} {c : Nat} {W : World} (h : M3 w r F st v vv l c W) {k : Nat} (hk : k < 3) (hv : v k ≤ 1000) :
    ∃ a cap, W.cell? ⟨r.gS, k, none⟩ = some (.pointer (some ⟨r.sp k, 0, none⟩)) ∧ W.cell? ⟨r.gW, k, none⟩ = some (.slice a (l k).length cap) ∧ W.cell? ⟨r.gV, k, none⟩ = some (.int .i64 (vv k : Int)) ∧ RdP W a (l k) ∧
      Calls Tryz.prog 8 #[.pointer (some ⟨r.sp k, 0, none⟩)] W (fun e w' => e = .returned (.bool (isRow (st k))) ∧ w' = W) ∧
      Calls Tryz.prog 15 #[.pointer (some ⟨r.sp k, 0, none⟩)] W (fun e w' => e = .returned (.int .i64 (lenS (st k) : Int)) ∧ w' = W) ∧
      Calls Tryz.prog 16 #[.pointer (some ⟨r.sp k, 0, none⟩)] W (fun e w' => e = .returned (.int .i64 (v k : Int)) ∧ w' = W) ∧
      Calls Tryz.prog 14 #[.pointer (some ⟨r.sp k, 0, none⟩)] W (fun e w' => ∃ v, e = .returned v ∧ PsB W.heap.size w' v (prsS F (st k)) ∧ Below W.heap.size W w') := by
  obtain ⟨u, XF, X, tag, h⟩ := h
  obtain ⟨a1, a2, a3, a4, a5⟩ := h.at
  obtain ⟨a, cap, e, hr⟩ := (h.wt k hk).rd
  have hs := h.sm k hk
  exact ⟨a, cap, a1 k hk, by rw [← e]; exact a2 k hk, a3 k hk, hr, shared_any hs, slen_any hs, version10_any hs (by omega), spairs_any (h.fs hk) h.ok (h.so k hk) (Nat.le_trans h.ok.len h.ok.room)⟩
end Go.Proofs.YtpigbnlapcndgaaGreat
namespace Go.Proofs.YtpigbnlapcndgaaGreat
open Go.RowKit Go.WideShapes

/-- While the namespaces are made. -/
def Mk3 (w : World) (f i : Nat) (F : Fa) (vS vW vV : Value) (W : World) : Prop :=
  ∃ sp XF X tag, T3 w f i i i i sp vS vW vV F (fun _ => .row []) (fun _ => 0) (fun _ => 0) (fun _ => .slice none 0 0) (fun _ => []) 0 XF X tag W
theorem Mk3.fm {w W : World} {f i : Nat} {F : Fa} {vS vW vV : Value} (h : Mk3 w f i F vS vW vV W) : (∃ XF, FamX W f F (.pointer none) XF) ∧ Below w.heap.size w W := by
  obtain ⟨sp, XF, X, tag, h⟩ := h
  exact ⟨⟨XF, h.fm⟩, h.hb⟩
/-- A namespace more, ahead of the rows. -/
def Mk4 (w : World) (f i s nS nW nV : Nat) (F : Fa) (vS vW vV : Value) (W : World) : Prop :=
  ∃ sp XF X tag, sp i = s ∧ T3 w f (i + 1) nS nW nV sp vS vW vV F (fun _ => .row []) (fun _ => 0) (fun _ => 0) (fun _ => .slice none 0 0) (fun _ => []) 0 XF X tag W
theorem Mk3.make {w W : World} {f i : Nat} {F : Fa} {vS vW vV : Value} (h : Mk3 w f i F vS vW vV W) (hi : i < 3) :
    Calls Tryz.prog 7 #[.pointer (some ⟨f, 0, none⟩)] W fun e W' => ∃ s, e = .returned (.pointer (some ⟨s, 0, none⟩)) ∧ Mk4 w f i s i i i F vS vW vV W' := by
  obtain ⟨sp, XF, X, tag, h⟩ := h
  refine (make_any h.fm (fun k hk => (noMet hk).elim)).mono ?_
  rintro e W' ⟨s, XS, rfl, h1, h2, h3⟩
  exact ⟨s, rfl, _, XF, _, _, up3_at _ _ _, h.make hi (Nat.le_refl _) h1 h2 h3 rfl rfl rfl rfl⟩
theorem Mk4.rows {w W : World} {f i s nS nW nV : Nat} {F : Fa} {vS vW vV : Value} (h : Mk4 w f i s nS nW nV F vS vW vV W) : W.ownsRow w.heap.size 36 1 vW nW ((List.range nW).map fun _ => .slice none 0 0) ∧ W.ownsRow w.heap.size 3 1 vV nV (vvC (fun _ => 0) nV) ∧ w.heap.size ≤ W.heap.size := by
  obtain ⟨sp, XF, X, tag, e, h⟩ := h
  exact ⟨h.rW, h.rV, h.hb.size⟩
theorem Mk4.rowS {w W : World} {f i s nW nV : Nat} {F : Fa} {vS vW vV : Value} (h : Mk4 w f i s i nW nV F vS vW vV W) : ∃ l, W.ownsRow w.heap.size 32 1 vS i l ∧ ∀ (o : Obj) (v' : Value) (W' : World), W'.ownsRow w.heap.size 32 1 v' (i + 1) (l ++ [.pointer (some ⟨s, 0, none⟩)]) → (W.alloc o).grownBy W' vS.ownBlock → (v'.ownBlock = vS.ownBlock ∨ v'.ownBlock = some (W.alloc o).heap.size) → Mk4 w f i s (i + 1) nW nV F v' vW vV W' ∧ ∃ g cap, v' = .slice (some ⟨g, 0, none⟩) (i + 1) cap ∧ g < W'.heap.size := by
  obtain ⟨sp, XF, X, tag, e, h⟩ := h
  subst e
  refine ⟨spC sp i, h.rS, fun o v' W' h1 h2 h3 => ⟨?_, ?_⟩⟩
  · obtain ⟨tag', T⟩ := h.addS h1 h2 h3
    exact ⟨sp, XF, X, tag', rfl, T⟩
  · rcases h1.2 with ⟨_, h0⟩ | ⟨g, cap, cur, h5, _, h6, _⟩
    · omega
    · exact ⟨g, cap, h5, (Array.getElem?_eq_some_iff.1 h6).1⟩
theorem Mk4.rowW {w W : World} {f i s nS nW nV : Nat} {F : Fa} {vS vW vV : Value} (h : Mk4 w f i s nS nW nV F vS vW vV W) {o : Obj} {v' : Value} {W' : World} (h1 : W'.ownsRow w.heap.size 36 1 v' (nW + 1) (((List.range nW).map fun _ => .slice none 0 0) ++ [.slice none 0 0])) (h2 : (W.alloc o).grownBy W' vW.ownBlock) (h3 : v'.ownBlock = vW.ownBlock ∨ v'.ownBlock = some (W.alloc o).heap.size) : Mk4 w f i s nS (nW + 1) nV F vS v' vV W' := by
  obtain ⟨sp, XF, X, tag, e, h⟩ := h
  obtain ⟨tag', T⟩ := h.addW h1 h2 h3
  exact ⟨sp, XF, X, tag', e, T⟩
theorem Mk4.rowV {w W : World} {f i s nS nW nV : Nat} {F : Fa} {vS vW vV : Value} (h : Mk4 w f i s nS nW nV F vS vW vV W) {o : Obj} {v' : Value} {W' : World} (h1 : W'.ownsRow w.heap.size 3 1 v' (nV + 1) (vvC (fun _ => 0) nV ++ [.int .i64 0])) (h2 : (W.alloc o).grownBy W' vV.ownBlock) (h3 : v'.ownBlock = vV.ownBlock ∨ v'.ownBlock = some (W.alloc o).heap.size) : Mk4 w f i s nS nW (nV + 1) F vS vW v' W' := by
  obtain ⟨sp, XF, X, tag, e, h⟩ := h
  obtain ⟨tag', T⟩ := h.addV h1 h2 h3
  exact ⟨sp, XF, X, tag', e, T⟩
theorem Mk4.done {w W : World} {f i s : Nat} {F : Fa} {g cap : Nat} {vW vV : Value} (h : Mk4 w f i s (i + 1) (i + 1) (i + 1) F (.slice (some ⟨g, 0, none⟩) (i + 1) cap) vW vV W) : Mk3 w f (i + 1) F (.slice (some ⟨g, 0, none⟩) (i + 1) cap) vW vV W ∧ W.cell? ⟨g, i, none⟩ = some (.pointer (some ⟨s, 0, none⟩)) := by
  obtain ⟨sp, XF, X, tag, e, h⟩ := h
  refine ⟨⟨sp, XF, X, tag, h⟩, ?_⟩
  rw [World.ownsRow.cellAt h.rS i (by omega)]
  unfold spC
  simp [e]
theorem Mk3.full {w W : World} {f : Nat} {F : Fa} {vS vW vV : Value} (h : Mk3 w f 3 F vS vW vV W) : ∃ r : R3, r.f = f ∧ vS = .slice (some ⟨r.gS, 0, none⟩) 3 r.cS ∧ vW = .slice (some ⟨r.gW, 0, none⟩) 3 r.cW ∧ vV = .slice (some ⟨r.gV, 0, none⟩) 3 r.cV ∧ M3 w r F (fun _ => .row []) (fun _ => 0) (fun _ => 0) (fun j => prsS F ((fun _ => Stn.row []) j)) 0 W := by
  obtain ⟨sp, XF, X, tag, h⟩ := h
  have hS : ∃ g cap, vS = .slice (some ⟨g, 0, none⟩) 3 cap := by
    rcases h.rS.2 with ⟨_, h0⟩ | ⟨g, cap, cur, h5, _⟩
    · omega
    · exact ⟨g, cap, h5⟩
  have hW : ∃ g cap, vW = .slice (some ⟨g, 0, none⟩) 3 cap := by
    rcases h.rW.2 with ⟨_, h0⟩ | ⟨g, cap, cur, h5, _⟩
    · omega
    · exact ⟨g, cap, h5⟩
  have hV : ∃ g cap, vV = .slice (some ⟨g, 0, none⟩) 3 cap := by
    rcases h.rV.2 with ⟨_, h0⟩ | ⟨g, cap, cur, h5, _⟩
    · omega
    · exact ⟨g, cap, h5⟩
  obtain ⟨gS, cS, rfl⟩ := hS
  obtain ⟨gW, cW, rfl⟩ := hW
  obtain ⟨gV, cV, rfl⟩ := hV
  exact ⟨⟨f, gS, cS, gW, cW, gV, cV, sp⟩, rfl, rfl, rfl, rfl, _, XF, X, tag, h.congr (fun _ _ => rfl) rfl⟩
end Go.Proofs.YtpigbnlapcndgaaGreat
namespace Go.Proofs.YtpigbnlapcndgaaGreat
open Go.RowKit Go.WideShapes

theorem prs_len {F : Fa} (st : Stn) : (prsS F st).length = lenS st := by
  cases st with
  | row vs => exact prsN_len _ _ _ _
  | own t =>
    show (prsO _ _).length = t.live
    unfold prsO
    rw [List.length_map, Tb.live_eq]
theorem fst_one {l : List (ByteArray × Int)} (nd : (l.map Prod.fst).Nodup) {s : ByteArray} {x y : Int} (h1 : (s, x) ∈ l) (h2 : (s, y) ∈ l) : x = y := by
  induction l with
  | nil => cases h1
  | cons p l ih =>
    rw [List.map_cons, List.nodup_cons] at nd
    have no : ∀ z, p = (s, z) → ∀ z', (s, z') ∉ l := fun z e z' h => nd.1 (by rw [e]; exact List.mem_map.2 ⟨_, h, rfl⟩)
    rcases List.mem_cons.1 h1 with e1 | m1 <;> rcases List.mem_cons.1 h2 with e2 | m2
    · exact congrArg Prod.snd (e1.trans e2.symm)
    · exact absurd m2 (no x e1.symm y)
    · exact absurd m1 (no y e2.symm x)
    · exact ih nd.2 m1 m2
theorem get_prs {F : Fa} {c : Nat} {st : Stn} (hO : F.Ok hsT c) (hs : Stn.Ok hsT F c st) {nm : ByteArray} {x y : Int} {ok : Bool} (h : GetR F nm st x ok) (hm : (nm, y) ∈ prsS F st) : ok = true ∧ x = y := by
  obtain ⟨e1, e2⟩ := prs_tb hO hs
  have nd : ((prsS F st).map Prod.fst).Nodup := by rw [e1]; exact prs_nd e2 hO.nd
  have hin : nm ∈ (prsS F st).map Prod.fst := List.mem_map.2 ⟨_, hm, rfl⟩
  cases st with
  | row vs =>
    obtain ⟨k, hk, ⟨n, hn, hl, hx, ho⟩ | ⟨hn, _, _⟩⟩ := h
    · refine ⟨ho, ?_⟩
      refine fst_one nd (x := x) ?_ hm
      show _ ∈ prsN _ _ _ _
      rw [prsN_map]
      refine List.mem_map.2 ⟨n, List.mem_range.2 hl, ?_⟩
      have hkey := (name_key (by rw [live_all hO.dead]; exact hO.nl) hO.nd hk (live_mem hn.1 hn.2.1)).2 hn.2.2
      rw [hkey, hx]
    · exact absurd hin (row_no hO hs hk hn)
  | own t =>
    obtain ⟨k, hk, ⟨n, hn, hx, ho⟩ | ⟨hn, _, _⟩⟩ := h
    · refine ⟨ho, ?_⟩
      refine fst_one nd (x := x) ?_ hm
      show _ ∈ prsO _ _
      rw [prs_at hs.2.1 hO.nd hk hn, hx]
      simp
    · exact absurd hin (own_no hO hs.2.1 hk hn)
/-- Get, of the j-th name of a sequence. -/
theorem M3.get {w : World} {r : R3} {F : Fa} {st : Nat → Stn} {v vv : Nat → Nat} {c : Nat} {W : World} (h : M3 w r F st v vv (fun j => prsS F (st j)) c W) {k : Nat} (hk : k < 3) {nm : ByteArray} {y : Int} (hm : (nm, y) ∈ prsS F (st k)) (hn : nm.size ≤ 3000) :
    Calls Tryz.prog 17 #[.pointer (some ⟨r.sp k, 0, none⟩), .string nm] W fun e w' => e = .returned (.tuple #[.int .i64 y, .bool true]) ∧ Below W.heap.size W w' := by
  obtain ⟨u, XF, X, tag, h⟩ := h
  refine (get_any (N := no4) (a := 0) (b := 0) (c := 0) (d := 0) (h.fs hk) m4_nil trivial (by omega) h.ok (h.so k hk) hn).mono ?_
  rintro e w' ⟨x, ok, q, res, jj, rfl, hg, -, -, -, hx⟩
  obtain ⟨rfl, rfl⟩ := get_prs h.ok (h.so k hk) hg hm
  exact ⟨rfl, hx.below (fun k hk => (noMet hk).elim) (Nat.le_refl _)⟩
/-- The names of a sequence are short. -/
theorem M3.short {w : World} {r : R3} {F : Fa} {st : Nat → Stn} {v vv : Nat → Nat} {l : Nat → List (ByteArray × Int)} {c : Nat} {W : World} (h : M3 w r F st v vv l c W) {k : Nat} (hk : k < 3) {nm : ByteArray} {y : Int} (hm : (nm, y) ∈ prsS F (st k)) : nm.size ≤ 3000 := by
  obtain ⟨u, XF, X, tag, h⟩ := h
  obtain ⟨e1, e2⟩ := prs_tb h.ok (h.so k hk)
  rw [e1] at hm
  unfold prsO at hm
  obtain ⟨e, he, h3⟩ := List.mem_map.1 hm
  injection h3 with h3 h4
  have hw := h.ok.wide
  unfold nmOf at h3
  subst h3
  by_cases hb : e.key.toNat < F.all.length
  · exact hw _ (by rw [List.getElem?_eq_getElem hb]; exact List.getElem_mem hb)
  · rw [List.getElem?_eq_none (by omega)]
    exact Nat.zero_le _
end Go.Proofs.YtpigbnlapcndgaaGreat
namespace Go.Proofs.YtpigbnlapcndgaaGreat
open Go.RowKit Go.WideShapes

/-- Three namespaces, with blocks lo .. hi that are nobody's. -/
def M3n (w : World) (r : R3) (F : Fa) (st : Nat → Stn) (v vv : Nat → Nat) (l : Nat → List (ByteArray × Int)) (c lo hi : Nat) (W : World) : Prop :=
  ∃ u XF X tag, T3 w r.f 3 3 3 3 r.sp (.slice (some ⟨r.gS, 0, none⟩) 3 r.cS) (.slice (some ⟨r.gW, 0, none⟩) 3 r.cW) (.slice (some ⟨r.gV, 0, none⟩) 3 r.cV) F st v vv u l c XF X tag W ∧ (∀ b, lo ≤ b → b < hi → tag b = 10) ∧ hi ≤ W.heap.size
theorem M3n.m3 {w : World} {r : R3} {F : Fa} {st : Nat → Stn} {v vv : Nat → Nat} {l : Nat → List (ByteArray × Int)} {c lo hi : Nat} {W : World} (h : M3n w r F st v vv l c lo hi W) : M3 w r F st v vv l c W := by
  obtain ⟨u, XF, X, tag, h, _⟩ := h
  exact ⟨u, XF, X, tag, h⟩
theorem M3n.keep {w : World} {r : R3} {F : Fa} {st : Nat → Stn} {v vv : Nat → Nat} {l : Nat → List (ByteArray × Int)} {c lo hi : Nat} {W W' : World} (h : M3n w r F st v vv l c lo hi W) (hb : Below W.heap.size W W') : M3n w r F st v vv l c lo hi W' := by
  obtain ⟨u, XF, X, tag, h, ht, hs⟩ := h
  exact ⟨u, XF, X, tag, h.keep hb, ht, Nat.le_trans hs hb.size⟩
theorem m3n_cell {w : World} {f n nS nW nV : Nat} {sp : Nat → Nat} {vS vW vV : Value} {F : Fa} {st : Nat → Stn} {v vv : Nat → Nat} {u : Nat → Value} {l : Nat → List (ByteArray × Int)} {c : Nat} {XF : Nat → Prop} {X : Nat → Nat → Prop} {tag : Nat → Nat} {W W' : World} (h : T3 w f n nS nW nV sp vS vW vV F st v vv u l c XF X tag W) {k : Nat} (hk : k < n) {lo hi : Nat} (ht : ∀ b, lo ≤ b → b < hi → tag b = 10) (hhi : hi ≤ W.heap.size) (e : Ex (fun b => XF b ∨ X k b ∨ mB (.pointer none) b) W W') : ∀ b j, lo ≤ b → b < hi → W'.cell? ⟨b, j, none⟩ = W.cell? ⟨b, j, none⟩ := fun b j h1 h2 => World.cell?_of_block (a := ⟨b, j, none⟩) (e.block b (by omega) (fun hx => by
  have h10 := ht b h1 h2
  have hn3 := h.n3
  rcases hx with y | y | y
  · have := (h.tF b y).1; omega
  · have := (h.tX k hk b y).1; omega
  · exact (noMet y).elim))
theorem M3.wantN {w : World} {r : R3} {F : Fa} {st : Nat → Stn} {v vv : Nat → Nat} {l : Nat → List (ByteArray × Int)} {c : Nat} {W0 W : World} (h : M3 w r F st v vv l c W0) (hb : Below W0.heap.size W0 W) {k : Nat} (hk : k < 3) (hl : (l k).length ≤ 3000) :
    ∃ (ka : Option Addr) (kn kc : Nat), W.cell? ⟨r.gW, k, none⟩ = some (.slice ka kn kc) ∧ W.cell? ⟨r.gS, k, none⟩ = some (.pointer (some ⟨r.sp k, 0, none⟩)) ∧
      ∀ {nm : ByteArray},
      (∀ (x : Int) (m : Nat), Calls Tryz.prog 9 #[.slice ka kn kc, .string nm, .int .i64 x, .int .i64 (m : Int)] W fun e W' => ∃ (ua : Option Addr) (un uc : Nat) (l' : List (ByteArray × Int)) (er : Int), e = .returned (.tuple #[.slice ua un uc, .bool (decide (er = 0))]) ∧ MsR (l k) nm x m l' er ∧ W'.frozen? ⟨r.gW, k, none⟩ = false ∧ (∃ y, W'.cell? ⟨r.gW, k, none⟩ = some y) ∧ (∀ b j, W0.heap.size ≤ b → b < W.heap.size → (W'.setCell ⟨r.gW, k, none⟩ (.slice ua un uc)).cell? ⟨b, j, none⟩ = W.cell? ⟨b, j, none⟩) ∧ M3n w r F st v vv (up3 l k l') c W0.heap.size W.heap.size (W'.setCell ⟨r.gW, k, none⟩ (.slice ua un uc))) ∧
      Calls Tryz.prog 11 #[.slice ka kn kc, .string nm] W fun e W' => ∃ (ua : Option Addr) (un uc : Nat) (l' : List (ByteArray × Int)) (er : Int), e = .returned (.tuple #[.slice ua un uc, .bool (decide (er = 0))]) ∧ MdR (l k) nm l' er ∧ W'.frozen? ⟨r.gW, k, none⟩ = false ∧ (∃ y, W'.cell? ⟨r.gW, k, none⟩ = some y) ∧ (∀ b j, W0.heap.size ≤ b → b < W.heap.size → (W'.setCell ⟨r.gW, k, none⟩ (.slice ua un uc)).cell? ⟨b, j, none⟩ = W.cell? ⟨b, j, none⟩) ∧ M3n w r F st v vv (up3 l k l') c W0.heap.size W.heap.size (W'.setCell ⟨r.gW, k, none⟩ (.slice ua un uc)) := by
  obtain ⟨u, XF, X, tag, h0⟩ := h
  have h1 := h0.tell.keep hb
  obtain ⟨a1, a2, a3, a4, a5⟩ := h1.at
  have hP := h1.wt k hk
  have hsz := h1.hb.size
  have fin : ∀ {W' : World} {u' : Value} {l' : List (ByteArray × Int)}, Ex (fun b => (u k).ownBlock = some b) W W' → PsB w.heap.size W' u' l' → (∀ b, u'.ownBlock = some b → (u k).ownBlock = some b ∨ W.heap.size ≤ b) → W'.frozen? ⟨r.gW, k, none⟩ = false ∧ (∃ y, W'.cell? ⟨r.gW, k, none⟩ = some y) ∧ (∀ b j, W0.heap.size ≤ b → b < W.heap.size → (W'.setCell ⟨r.gW, k, none⟩ u').cell? ⟨b, j, none⟩ = W.cell? ⟨b, j, none⟩) ∧ M3n w r F st v vv (up3 l k l') c W0.heap.size W.heap.size (W'.setCell ⟨r.gW, k, none⟩ u') := by
    intro W' u' l' hx hP' ho
    have g8 := h1.tW r.gW rfl
    have hr : W'.ownsRow w.heap.size 36 1 (.slice (some ⟨r.gW, 0, none⟩) 3 r.cW) 3 ((List.range 3).map u) := row3_same h1.rW fun b hb => hx.block b (World.ownsRow.lt h1.rW b hb).2 (fun y => by have := h1.tU k hk b y; have := h1.tW b hb; omega)
    refine ⟨World.ownsRow.frozenAt hr k, ⟨u k, by rw [World.ownsRow.cellAt hr k (by omega)]; simp [hk]⟩, fun b j hb1 hb2 => ?_, _, XF, X, _, h1.want hk hx hP' ho, (fun b hb1 hb2 => by show (if b < W.heap.size then (if b < W0.heap.size then tag b else 10) else 4 + k) = 10; rw [if_pos hb2, if_neg (by omega)]), by have := hx.size; simp; omega⟩
    have hx2 : Ex (fun b => (u k).ownBlock = some b ∨ b = r.gW) W (W'.setCell ⟨r.gW, k, none⟩ u') := (hx.mono fun _ _ y => .inl y).setCell (p := ⟨r.gW, k, none⟩) (fun _ => .inr rfl) u'
    have t10 : (if b < W0.heap.size then tag b else 10) = 10 := if_neg (by omega)
    exact World.cell?_of_block (hx2.block b hb2 (by
      rintro (y | rfl)
      · have : (if b < W0.heap.size then tag b else 10) = 4 + k := h1.tU k hk b y
        omega
      · have : (if r.gW < W0.heap.size then tag r.gW else 10) = 8 := g8
        omega))
  obtain ⟨ka, kc, ek, -⟩ := hP.rd
  refine ⟨ka, (l k).length, kc, by rw [← ek]; exact a2 k hk, a1 k hk, fun {nm} => ?_⟩
  rw [← ek]
  refine ⟨fun x m => ?_, ?_⟩
  · refine (mset_any hP (by omega) hsz nm x m).mono ?_
    rintro e W' ⟨u', l', er, rfl, hm, hP', hx, ho⟩
    obtain ⟨ua, uc, rfl, -⟩ := hP'.rd
    exact ⟨ua, _, uc, l', er, rfl, hm, fin hx hP' fun b hb => by
      rcases ho with e | ⟨q, hq, e⟩
      · exact .inl (e ▸ hb)
      · rw [e] at hb
        injection hb with hb
        exact .inr (by omega)⟩
  · refine (mdel_any hP (by omega) nm).mono ?_
    rintro e W' ⟨u', l', er, rfl, hm, hP', hB⟩
    rcases hP' with ⟨rfl, rfl⟩ | hP'
    · rw [ek]
      refine ⟨ka, _, kc, _, er, rfl, hm, ?_⟩
      rw [← ek]
      exact fin (ex_of hB) (own_keep hP hB) fun b hb => .inl hb
    · obtain ⟨ua, uc, rfl, -⟩ := hP'.rd
      exact ⟨ua, _, uc, l', er, rfl, hm, fin (ex_of hB) (hP'.mono hsz) fun b hb => .inr (World.ownsRow.lt hP' b hb).1⟩
/-- Set, where the sequence has been set already. -/
theorem M3n.set {w : World} {r : R3} {F : Fa} {st : Nat → Stn} {v : Nat → Nat} {c : Nat} {W : World} {k : Nat} {l' : List (ByteArray × Int)} {nm : ByteArray} {x er : Int} {lo hi : Nat} (h : M3n w r F st v v (up3 (fun j => prsS F (st j)) k l') c lo hi W) (hk : k < 3) (hm : MsR (prsS F (st k)) nm x F.most l' er) (hc : c ≤ 1000) (hv : v k ≤ 1000) (hn : nm.size ≤ 3000) :
    Calls Tryz.prog 10 #[.pointer (some ⟨r.sp k, 0, none⟩), .string nm, .int .i64 x] W fun e W' => e = .returned (.int .i64 er) ∧ (∀ b j, lo ≤ b → b < hi → W'.cell? ⟨b, j, none⟩ = W.cell? ⟨b, j, none⟩) ∧ ∃ F' st', F'.most = F.most ∧ (isRow (st' k) = true → isRow (st k) = true) ∧ M3 w r F' st' (up3 v k (if er = 0 then v k + 1 else v k)) v (fun j => prsS F' (st' j)) (c + 1) W' := by
  obtain ⟨u, XF, X, tag, h, htag, hhi⟩ := h
  refine (set_any (N := no4) (a := 0) (b := 0) (c := 0) (d := 0) (h.fs hk) m4_nil trivial (by omega) (by omega) (by omega) (by omega) h.ok (h.so k hk) (by omega) (by omega) hn x).mono ?_
  rintro e W' ⟨er', rfl, F', st', dc, dd, hset, q, res, jj, -, -, XF', XS', R⟩
  obtain ⟨o1, o2, o3⟩ := setR_ok hset h.ok (h.so k hk) hn (by omega)
  have hp := setR_prs hset h.ok (h.so k hk) hn (by omega)
  obtain ⟨e1, e2⟩ := prs_tb h.ok (h.so k hk)
  have nd : ((prsS F (st k)).map Prod.fst).Nodup := by rw [e1]; exact prs_nd e2 h.ok.nd
  obtain ⟨rfl, rfl⟩ := MsR.uniq nd hp hm
  obtain ⟨tag', T⟩ := h.call hk R o1 o2 o3
  refine ⟨rfl, m3n_cell h hk htag hhi R.ex, F', up3 st k st', o3.most, ?_, u, XF', _, tag', T.congr (fun j hj => ?_) rfl⟩
  · rw [up3_at]
    exact setR_row hset
  · by_cases e : j = k
    · subst e
      rw [up3_at, up3_at]
    · rw [up3_ne e, up3_ne e]
      exact prs_fle h.ok (h.so j hj) o3
theorem M3n.del {w : World} {r : R3} {F : Fa} {st : Nat → Stn} {v : Nat → Nat} {c : Nat} {W : World} {k : Nat} {l' : List (ByteArray × Int)} {nm : ByteArray} {er : Int} {lo hi : Nat} (h : M3n w r F st v v (up3 (fun j => prsS F (st j)) k l') c lo hi W) (hk : k < 3) (hm : MdR (prsS F (st k)) nm l' er) (hc : c ≤ 1000) (hv : v k ≤ 1000) (hn : nm.size ≤ 3000) :
    Calls Tryz.prog 12 #[.pointer (some ⟨r.sp k, 0, none⟩), .string nm] W fun e W' => e = .returned (.int .i64 er) ∧ (∀ b j, lo ≤ b → b < hi → W'.cell? ⟨b, j, none⟩ = W.cell? ⟨b, j, none⟩) ∧ ∃ F' st', F'.most = F.most ∧ (isRow (st' k) = true → isRow (st k) = true) ∧ M3 w r F' st' (up3 v k (if er = 0 then v k + 1 else v k)) v (fun j => prsS F' (st' j)) (c + 1) W' := by
  obtain ⟨u, XF, X, tag, h, htag, hhi⟩ := h
  refine (del_any (N := no4) (a := 0) (b := 0) (c := 0) (d := 0) (h.fs hk) m4_nil trivial (by omega) (by omega) (by omega) h.ok (h.so k hk) (by omega) (by omega) hn).mono ?_
  rintro e W' ⟨er', rfl, st', dd, hdel, q, res, jj, -, -, XF', XS', R⟩
  have o2 := delR_ok hdel h.ok (h.so k hk)
  have hp := delR_prs hdel h.ok (h.so k hk)
  obtain ⟨e1, e2⟩ := prs_tb h.ok (h.so k hk)
  have nd : ((prsS F (st k)).map Prod.fst).Nodup := by rw [e1]; exact prs_nd e2 h.ok.nd
  obtain ⟨rfl, rfl⟩ := MdR.uniq nd hp hm
  obtain ⟨tag', T⟩ := h.call hk R (h.ok.le (by omega)) o2 (Fle.refl _)
  refine ⟨rfl, m3n_cell h hk htag hhi R.ex, F, up3 st k st', rfl, ?_, u, XF', _, tag', T.congr (fun j hj => ?_) rfl⟩
  · rw [up3_at]
    exact delR_row hdel
  · by_cases e : j = k
    · subst e
      rw [up3_at, up3_at]
    · rw [up3_ne e, up3_ne e]
end Go.Proofs.YtpigbnlapcndgaaGreat
