/-
  WholeSums, walked.
-/
import Derived.Test.YteplmnnpmekngabLent
import Derived.Test.YteplmnnpmekngabRCmp
import Derived.Test.YteplmnnpmekngabRests
namespace Go.Proofs.Yteplmnnpmekngab
open Go.RowKit

/-- The two numbers in their boxes, and what was lent in its boxes, all below block T. -/
structure St (w : World) (T P Q : Nat) (na : Bool) (a0 : Option Addr) (l0 c0 : Nat) (nb : Bool) (a1 : Option Addr) (l1 c1 g h cp cq : Nat) (xs ys : List Nat) (W : World) : Prop where
  bA : Box2 W w.heap.size na a0 l0 c0
  bB : Box2 W (w.heap.size + 1) nb a1 l1 c1
  bP : Box2 W P na (some ⟨g, 0, none⟩) l0 cp
  bQ : Box2 W Q nb (some ⟨h, 0, none⟩) l1 cq
  lP : LentAt w.heap.size W g l0 cp xs
  lQ : LentAt w.heap.size W h l1 cq ys
  sA : Sl .u32 W (.slice a0 l0 c0) xs
  sB : Sl .u32 W (.slice a1 l1 c1) ys
  bel : Below w.heap.size w W
  t0 : w.heap.size + 1 < T
  tP : P < T
  tQ : Q < T
  tg : g < T
  th : h < T
  tW : T ≤ W.heap.size
theorem Box2.lower {w w' : World} {B N : Nat} {neg : Bool} {a : Option Addr} {n cap : Nat} (h : Box2 w N neg a n cap) (hb : Below B w w') (hN : N < B) : Box2 w' N neg a n cap :=
  ⟨(hb.cell (p := ⟨N, 0, none⟩) hN).trans h.c0, (hb.cell (p := ⟨N, 1, none⟩) hN).trans h.c1, (hb.frozen (p := ⟨N, 0, none⟩) hN).trans h.f0, (hb.frozen (p := ⟨N, 1, none⟩) hN).trans h.f1⟩
theorem LentAt.lower {A B : Nat} {w w' : World} {g n cap : Nat} {xs : List Nat} (h : LentAt A w g n cap xs) (hb : Below B w w') (hg : g < B) : LentAt A w' g n cap xs := ⟨h.len, h.room, h.ge, h.seg.below hb hg⟩
section
variable {w W W' : World} {T P Q : Nat} {na : Bool} {a0 : Option Addr} {l0 c0 : Nat} {nb : Bool} {a1 : Option Addr} {l1 c1 g h cp cq : Nat} {xs ys : List Nat}
theorem St.keep {B : Nat} (s : St w T P Q na a0 l0 c0 nb a1 l1 c1 g h cp cq xs ys W) (hb : Below B W W') (hB : T ≤ B) (hx : Sl .u32 w (.slice a0 l0 c0) xs) (hy : Sl .u32 w (.slice a1 l1 c1) ys) : St w T P Q na a0 l0 c0 nb a1 l1 c1 g h cp cq xs ys W' := by
  have t0 := s.t0
  have tP := s.tP
  have tQ := s.tQ
  have tg := s.tg
  have th := s.th
  have bel : Below w.heap.size w W' := s.bel.trans (hb.mono (by omega))
  exact ⟨s.bA.lower hb (by omega), s.bB.lower hb (by omega), s.bP.lower hb (by omega), s.bQ.lower hb (by omega), s.lP.lower hb (by omega), s.lQ.lower hb (by omega), hx.below bel, hy.below bel, bel, t0, tP, tQ, tg, th, Nat.le_trans s.tW hb.size⟩
end
/-- What a sum or product is, or 0 where it is refused; and the error. -/
def refused (x y : Nat) (z : Int) : Bool := decide (pw 256 ≤ x ∨ pw 256 ≤ y ∨ pw 256 ≤ z.natAbs)
def given (x y : Nat) (z : Int) : Int := if refused x y z = true then 0 else z
def errOf (x y : Nat) (z : Int) : Int := if refused x y z = true then 3 else 0
theorem SumRes.ans {B : Nat} {w : World} {n : Bool} {a : Option Addr} {l c : Nat} {k z : Int} {x y : Nat} (h : SumRes B w (.agg #[.bool n, .slice a l c]) k x y z) :
    (∃ zs, Ow .u32 B w (.slice a l c) zs ∧ okw zs ∧ Fm n zs ∧ zs.length ≤ 256 ∧ zv n (val zs) = given x y z) ∧ k = errOf x y z := by
  have nil : ∀ {n : Bool} {a : Option Addr} {l c : Nat}, Value.agg #[.bool n, .slice a l c] = .agg #[.bool false, .slice none 0 0] → refused x y z = true → ∃ zs, Ow .u32 B w (.slice a l c) zs ∧ okw zs ∧ Fm n zs ∧ zs.length ≤ 256 ∧ zv n (val zs) = given x y z := by
    intro n a l c e hr
    cases e
    refine ⟨[], Ow_nil _ _ _ _ _, okw_nil, ⟨Or.inl rfl, fun _ => rfl⟩, by simp, ?_⟩
    unfold given
    rw [if_pos hr]
    simp [zv, val]
  rcases h with ⟨h1, h2, h3⟩ | ⟨⟨hx, hy⟩, ⟨hz, h2, h3⟩ | ⟨hz, h2, h3⟩⟩
  · have hr : refused x y z = true := decide_eq_true (h1.elim Or.inl (fun h => Or.inr (Or.inl h)))
    exact ⟨nil h3 hr, by unfold errOf; rw [if_pos hr]; exact h2⟩
  · have hr : ¬ refused x y z = true := by unfold refused; simp only [decide_eq_true_eq]; omega
    obtain ⟨zs, o, k', f, e⟩ := h3.open
    refine ⟨⟨zs, o, k', f, Tr_len_le f.tr 256 (by rw [← zv_abs n (val zs), e]; exact hz), ?_⟩, ?_⟩
    · unfold given; rw [if_neg hr]; exact e
    · unfold errOf; rw [if_neg hr]; exact h2
  · have hr : refused x y z = true := decide_eq_true (Or.inr (Or.inr hz))
    exact ⟨nil h3 hr, by unfold errOf; rw [if_pos hr]; exact h2⟩
theorem Ow.away_low {B M : Nat} {w : World} {a : Option Addr} {l c : Nat} {zs : List Nat} (h : Ow .u32 B w (.slice a l c) zs) (hM : M < B) : zs ≠ [] → ∀ o, a ≠ some ⟨M, o, none⟩ := fun h0 o e => by
  obtain ⟨b, off, hp, hge, _, _⟩ := h.place
  rw [(hp h0).1] at e
  injection e with e
  injection e with e
  omega
theorem Ow.away_high {B M : Nat} {w : World} {a : Option Addr} {l c : Nat} {zs : List Nat} (h : Ow .u32 B w (.slice a l c) zs) (hM : w.heap.size ≤ M) : zs ≠ [] → ∀ o, a ≠ some ⟨M, o, none⟩ := fun h0 o e => by
  obtain ⟨b, off, hp, hge, _, _⟩ := h.place
  have := (hp h0).2
  rw [(hp h0).1] at e
  injection e with e
  injection e with e
  omega

theorem st_cells {w W : World} {T P Q X : Nat} {na : Bool} {a0 : Option Addr} {l0 c0 : Nat} {nb : Bool} {a1 : Option Addr} {l1 c1 g h cp cq : Nat} {xs ys : List Nat} {n7 : Bool} {a7 : Option Addr} {l7 c7 : Nat} (s : St w T P Q na a0 l0 c0 nb a1 l1 c1 g h cp cq xs ys W) (b : Box2 W X n7 a7 l7 c7) :
    W.cell? ⟨X, 0, none⟩ = some (.bool n7) ∧ W.cell? ⟨X, 1, none⟩ = some (.slice a7 l7 c7) ∧ W.cell? ⟨w.heap.size, 0, none⟩ = some (.bool na) ∧ W.cell? ⟨w.heap.size, 1, none⟩ = some (.slice a0 l0 c0) ∧ W.cell? ⟨w.heap.size + 1, 0, none⟩ = some (.bool nb) ∧ W.cell? ⟨w.heap.size + 1, 1, none⟩ = some (.slice a1 l1 c1) ∧ W.cell? ⟨P, 0, none⟩ = some (.bool na) ∧ W.cell? ⟨P, 1, none⟩ = some (.slice (some ⟨g, 0, none⟩) l0 cp) ∧ W.cell? ⟨Q, 0, none⟩ = some (.bool nb) ∧ W.cell? ⟨Q, 1, none⟩ = some (.slice (some ⟨h, 0, none⟩) l1 cq) :=
  ⟨b.c0, b.c1, s.bA.c0, s.bA.c1, s.bB.c0, s.bB.c1, s.bP.c0, s.bP.c1, s.bQ.c0, s.bQ.c1⟩

end Go.Proofs.Yteplmnnpmekngab
