/-
  awake: a builder builds its two terms.
-/
import Derived.Test.YtjkpailkamafcaaGreatDoorStoVa
import Derived.Test.YtjkpailkamafcaaGreatDoorEnStep
import Derived.Deep.Cut
import Derived.Deep.RegionLaw
namespace Go.Proofs.YtjkpailkamafcaaGreatDoor
open Go.RowKit Go.WideShapes

namespace Sto
/-- Behind the first term. -/
structure B1 (w : World) (N b g T K Hm r c q : Nat) (rv : Value) (p h : Int) (pm : Option Addr) : Prop where
  bb : Blk w b 4 (bF g T Hm (.slice (some ⟨r, 0, none⟩) 1 c))
  tt : Blk w T 16 (tF K)
  kk : Blk w K 2 (fun _ => .int .i64 0)
  row : ∃ B, w.ownsRow B 3 1 (.slice (some ⟨r, 0, none⟩) 1 c) 1 [.int .i64 0]
  st : St w g [⟨true, some (84, ⟨q, 0, none⟩)⟩] rv none 0 p h pm
  qq : w.cell? ⟨q, 0, none⟩ = some (.string ⟨#[97]⟩)
  ne : b ≠ g ∧ T ≠ g ∧ K ≠ g ∧ r ≠ g ∧ q ≠ g ∧ T ≠ b ∧ K ≠ b ∧ r ≠ b ∧ q ≠ b ∧ T ≠ r ∧ K ≠ r ∧ q ≠ r
  nr : ∀ k, rv.ownBlock = some k → k ≠ b ∧ k ≠ T ∧ k ≠ K ∧ k ≠ r ∧ k ≠ q
  lo : N ≤ r ∧ ∀ k, rv.ownBlock = some k → N ≤ k
/-- Behind both. -/
structure B2 (w : World) (b g T K r c q t m : Nat) (rv : Value) (p h : Int) (pm : Option Addr) : Prop where
  b0 : w.cell? ⟨b, 0, none⟩ = some (.pointer (some ⟨g, 0, none⟩))
  b1 : w.cell? ⟨b, 1, none⟩ = some (.slice (some ⟨T, 0, none⟩) 2 2)
  b2 : w.cell? ⟨b, 2, none⟩ = some (.slice (some ⟨r, 0, none⟩) 2 c)
  tb : Blk w T 16 (tF K)
  r0 : w.cell? ⟨r, 0, none⟩ = some (.int .i64 0)
  r1 : w.cell? ⟨r, 1, none⟩ = some (.int .i64 1)
  st : St w g [⟨true, some (84, ⟨q, 0, none⟩)⟩, ⟨true, some (89, ⟨t, 0, none⟩)⟩] rv (some m) 1 p h pm
  qq : w.cell? ⟨q, 0, none⟩ = some (.string ⟨#[97]⟩)
  tt : ∃ a' c', w.cell? ⟨t, 0, none⟩ = some (.slice a' 2 c')
  mm : w.heap[m]? = some oneMap
/-- What is turned. -/
def XB (b g : Nat) (k : Nat) : Prop := k = g ∨ k = b
/-- A term's block. -/
theorem term_new (w : World) (xs : Array Value) (hx : xs.size = 8) : Blk (w.alloc (.cells xs 69)) w.heap.size 8 (fun j => xs.getD j .nilFunc) := by
  have := Blk.new w xs 69
  rw [hx] at this
  exact this
/-- Behind the first call: made gets its first number. -/
theorem first_made {w w2 w5 : World} {b g T K Hm q : Nat} {rv v' : Value} {p h : Int} {pm : Option Addr} (hb : Blk w b 4 (bF g T Hm (.slice none 0 0))) (ht : Blk w T 16 (tF K)) (hk : Blk w K 2 (fun _ => .int .i64 0)) (ne : b ≠ g ∧ T ≠ g ∧ K ≠ g ∧ T ≠ b ∧ K ≠ b)
    (hst : St w2 g [⟨true, some (84, ⟨q, 0, none⟩)⟩] rv none 0 p h pm) (hrv : ∀ k, rv.ownBlock = some k → w.heap.size ≤ k) (hq : w2.cell? ⟨q, 0, none⟩ = some (.string ⟨#[97]⟩)) (hqw : w.heap.size ≤ q) (hqr : ∀ k, rv.ownBlock = some k → k ≠ q) (hx : Ex (fun k => k = g) w w2) (hlg : g < w.heap.size)
    (hown : w5.ownsRow w2.heap.size 3 1 v' 1 [.int .i64 0]) (hg : w2.grownBy w5 none) :
    w5.heap[b]? = w.heap[b]? ∧ ∃ r c, v' = .slice (some ⟨r, 0, none⟩) 1 c ∧ B1 (w5.setCell ⟨b, 2, none⟩ v') w.heap.size b g T K Hm r c q rv p h pm ∧ Ex (XB b g) w (w5.setCell ⟨b, 2, none⟩ v') := by
  obtain ⟨n1, n2, n3, n4, n5⟩ := ne
  obtain ⟨r, c, rfl, hrl⟩ := ownsS_some hown (by omega)
  have lb := hb.lt (by omega)
  have lt := ht.lt (by omega)
  have lk := hk.lt (by omega)
  have hs := hx.size
  have hr2 : w2.heap.size ≤ r := (World.ownsRow.lt hown r rfl).1
  have hlq := lt_of_cell hq
  have hkeep : ∀ k, k < w2.heap.size → w5.heap[k]? = w2.heap[k]? := fun k hk => hg.block k hk (by simp)
  have hold : ∀ k, k < w.heap.size → k ≠ g → w5.heap[k]? = w.heap[k]? := fun k hk hkg => (hkeep k (by omega)).trans (hx.block k hk hkg)
  have hset : ∀ k, k ≠ b → (w5.setCell ⟨b, 2, none⟩ (.slice (some ⟨r, 0, none⟩) 1 c)).heap[k]? = w5.heap[k]? := fun k hk => Below.heap_setCell _ _ _ _ hk
  have hbb := hold b lb n1
  have hrv2 : ∀ k, rv.ownBlock = some k → k < w2.heap.size := fun k hk => (World.ownsRow.lt hst.row k hk).2
  refine ⟨hbb, r, c, rfl, ⟨((hb.same hbb).put 2 _).congr (fun j hj => ?_), ht.same ((hset T n4).trans (hold T lt n2)), hk.same ((hset K n5).trans (hold K lk n3)), ⟨_, ownsS_same hown (fun k hk => hset k (by have : r = k := Option.some.inj hk; omega))⟩, hst.same (fun k hk => (hset k (by
      rcases hk with rfl | hk
      · exact Ne.symm n1
      · have := hrv k hk; omega)).trans (hkeep k (by
      rcases hk with rfl | hk
      · omega
      · exact hrv2 k hk))), (World.cell?_of_block (a := ⟨q, 0, none⟩) ((hset q (by omega)).trans (hkeep q hlq))).trans hq, ⟨n1, n2, n3, by omega, by omega, n4, n5, by omega, by omega, by omega, by omega, by omega⟩, fun k hk => ?_, ⟨by omega, hrv⟩⟩, ?_⟩
  · by_cases e : j = 2
    · subst e
      rfl
    · rw [if_neg e]
      have : j = 0 ∨ j = 1 ∨ j = 3 := by omega
      rcases this with rfl | rfl | rfl <;> rfl
  · have a1 := hrv k hk
    have a2 := hrv2 k hk
    have a3 := hqr k hk
    omega
  · refine Ex.setCell (a := w) (w := w5) (p := ⟨b, 2, none⟩) (X := XB b g) ⟨hg.os.trans hx.os, hg.tape.trans hx.tape, hg.output.trans hx.output, Nat.le_trans hs hg.size, fun k hk hkx => hold k hk (fun e => hkx (Or.inl e))⟩ (fun _ => Or.inr rfl) _
/-- Behind the second call: made gets its second number. -/
theorem second_made {w w2 w5 : World} {b g T K Hm r c q m t B : Nat} {rv rv' v' : Value} {o : Obj} {p h : Int} {pm : Option Addr} {N : Nat} (H : B1 w N b g T K Hm r c q rv p h pm) (hrow : w.ownsRow B 3 1 (.slice (some ⟨r, 0, none⟩) 1 c) 1 [.int .i64 0])
    (hst : St w2 g [⟨true, some (84, ⟨q, 0, none⟩)⟩, ⟨true, some (89, ⟨t, 0, none⟩)⟩] rv' (some m) 1 p h pm) (ha : rv'.ownBlock = rv.ownBlock ∨ ∃ k, rv'.ownBlock = some k ∧ w.heap.size ≤ k) (hm : w2.heap[m]? = some oneMap) (ht : ∃ a' c', w2.cell? ⟨t, 0, none⟩ = some (.slice a' 2 c')) (hlm : w.heap.size ≤ m) (hlt : w.heap.size ≤ t) (hx : Ex (Own g rv) w w2)
    (hown : w5.ownsRow B 3 1 v' 2 [.int .i64 0, .int .i64 1]) (hg : (w2.alloc o).grownBy w5 (some r)) (hat : v'.ownBlock = some r ∨ v'.ownBlock = some (w2.alloc o).heap.size) :
    w5.heap[b]? = w.heap[b]? ∧ ∃ r' c', v' = .slice (some ⟨r', 0, none⟩) 2 c' ∧ B2 (w5.setCell ⟨b, 2, none⟩ v') b g T K r' c' q t m rv' p h pm ∧ Ex (fun k => k = g ∨ k = b ∨ k = r ∨ rv.ownBlock = some k) w (w5.setCell ⟨b, 2, none⟩ v') := by
  obtain ⟨n1, n2, n3, n4, n5, n6, n7, n8, n9, n10, n11, n12⟩ := H.ne
  obtain ⟨r', c', rfl, hrl⟩ := ownsS_some hown (by omega)
  have lb := H.bb.lt (by omega)
  have lg := H.st.lt
  have lq := lt_of_cell H.qq
  have lr := (World.ownsRow.lt hrow r rfl).2
  have hs := hx.size
  have hsz : (w2.alloc o).heap.size = w2.heap.size + 1 := by simp
  have hr' : r' = r ∨ r' = w2.heap.size + 1 := by
    rcases hat with e | e
    · exact Or.inl (Option.some.inj e)
    · rw [hsz] at e
      exact Or.inr (Option.some.inj e)
  have hkeep : ∀ k, k < w2.heap.size → k ≠ r → w5.heap[k]? = w2.heap[k]? := fun k hk hkr => (hg.block k (by omega) (fun e => hkr (Option.some.inj e))).trans (Below.heap_alloc _ _ _ hk)
  have hold : ∀ k, k < w.heap.size → k ≠ g → k ≠ r → rv.ownBlock ≠ some k → w5.heap[k]? = w.heap[k]? := fun k hk h1 h2 h3 => (hkeep k (by omega) h2).trans (hx.block k hk (fun hk => by
    rcases hk with e | e
    · exact h1 e
    · exact h3 e))
  have hset : ∀ k, k ≠ b → (w5.setCell ⟨b, 2, none⟩ (.slice (some ⟨r', 0, none⟩) 2 c')).heap[k]? = w5.heap[k]? := fun k hk => Below.heap_setCell _ _ _ _ hk
  have nrb : rv.ownBlock ≠ some b := fun e => (H.nr b e).1 rfl
  have hbb := hold b lb n1 (by omega) nrb
  have hlm2 : m < w2.heap.size := (Array.getElem?_eq_some_iff.1 hm).1
  obtain ⟨a', c2, ht⟩ := ht
  have hlt2 := lt_of_cell ht
  have hP := ((H.bb.same hbb).put 2 (.slice (some ⟨r', 0, none⟩) 2 c'))
  have hrv2 : ∀ k, rv'.ownBlock = some k → k < w2.heap.size ∧ k ≠ r ∧ k ≠ b := fun k hk => by
    refine ⟨(World.ownsRow.lt hst.row k hk).2, ?_⟩
    rcases ha with e | ⟨k', e, hk'⟩
    · rw [hk] at e
      obtain ⟨y1, y2, y3, y4, y5⟩ := H.nr k e.symm
      exact ⟨y4, y1⟩
    · rw [hk] at e
      have := Option.some.inj e
      omega
  have hr5 : ∀ j, j < 2 → (w5.setCell ⟨b, 2, none⟩ (.slice (some ⟨r', 0, none⟩) 2 c')).cell? ⟨r', j, none⟩ = [Value.int .i64 0, .int .i64 1][j]? := fun j hj =>
    (World.cell?_of_block (a := ⟨r', j, none⟩) (hset r' (by omega))).trans (hown.cellAt j (by omega))
  refine ⟨hbb, r', c', rfl, ⟨hP.c 0 (by omega), hP.c 1 (by omega), hP.c 2 (by omega), H.tt.same ((hset T n6).trans (hold T (H.tt.lt (by omega)) n2 n10 (fun e => (H.nr T e).2.1 rfl))), hr5 0 (by omega), hr5 1 (by omega), hst.same (fun k hk => ?_), ?_, ⟨a', c2, ?_⟩, ?_⟩, ?_⟩
  · rcases hk with rfl | hk
    · exact (hset _ (Ne.symm n1)).trans (hkeep _ (by omega) (Ne.symm n4))
    · obtain ⟨y1, y2, y3⟩ := hrv2 k hk
      exact (hset k y3).trans (hkeep k y1 y2)
  · exact (World.cell?_of_block (a := ⟨q, 0, none⟩) ((hset q (by omega)).trans (hold q lq n5 n12 (fun e => (H.nr q e).2.2.2.2 rfl)))).trans H.qq
  · exact (World.cell?_of_block (a := ⟨t, 0, none⟩) ((hset t (by omega)).trans (hkeep t hlt2 (by omega)))).trans ht
  · exact ((hset m (by omega)).trans (hkeep m hlm2 (by omega))).trans hm
  · refine Ex.setCell (a := w) (w := w5) (p := ⟨b, 2, none⟩) (X := fun k => k = g ∨ k = b ∨ k = r ∨ rv.ownBlock = some k) ⟨hg.os.trans hx.os, hg.tape.trans hx.tape, hg.output.trans hx.output, by have := hg.size; omega, fun k hk hkx => hold k hk (fun e => hkx (Or.inl e)) (fun e => hkx (Or.inr (Or.inr (Or.inl e)))) (fun e => hkx (Or.inr (Or.inr (Or.inr e))))⟩ (fun _ => Or.inr (Or.inl rfl)) _
end Sto
end Go.Proofs.YtjkpailkamafcaaGreatDoor
