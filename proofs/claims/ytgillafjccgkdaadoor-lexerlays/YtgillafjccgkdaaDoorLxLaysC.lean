/-
  LexerLays, walked, with the contracts of what it calls.
-/
import Derived.Test.YtgillafjccgkdaaDoorLye
import Derived.Test.YtgillafjccgkdaaDoorLxWords
import Derived.Test.YtgillafjccgkdaaDoorLxEq
import Derived.Test.YtgillafjccgkdaaDoorLxAwake
import Derived.Test.YtgillafjccgkdaaDoorLeRefQ2
import Derived.Test.YtgillafjccgkdaaDoorLeQQ
namespace Go.Proofs.YtgillafjccgkdaaDoor
open Go.RowKit Go.WideShapes
namespace Lx

theorem quote_pg : ∀ p ∈ textP, (∀ t, unq (quo p ++ t) = some (p, (quo p).length)) ∧ (∃ r, quo p = 39 :: r) ∧ (quo p).length ≤ 30 ∧ p.length ≤ 30 := by
  intro p hp
  have hm : mend p = p := by
    simp only [textP, List.mem_cons, List.not_mem_nil, or_false] at hp
    rcases hp with rfl | rfl | rfl | rfl | rfl | rfl <;> rfl
  refine ⟨fun t => by rw [unq_quo, hm], ⟨_, rfl⟩, ?_, ?_⟩
  · simp only [textP, List.mem_cons, List.not_mem_nil, or_false] at hp
    rcases hp with rfl | rfl | rfl | rfl | rfl | rfl <;> decide
  · simp only [textP, List.mem_cons, List.not_mem_nil, or_false] at hp
    rcases hp with rfl | rfl | rfl | rfl | rfl | rfl <;> decide
theorem row_max {ts : List Tok} {v : Value} {B : Nat} {w : World} (h : w.ownsRow B 29 3 v ts.length (tkl ts)) : ts.length ≤ maxLen := by
  rcases h.2 with ⟨_, h0⟩ | ⟨g, cap, cur, _, _, _, h1, h2, _⟩
  · rw [h0]; exact Nat.zero_le _
  · omega
theorem al_of_map {x y : List Tok} (h : x.map kt = y.map kt) : Al false x y := by
  have hl : x.length = y.length := by simpa using congrArg List.length h
  refine ⟨hl, fun i t u h1 h2 => ?_⟩
  have e1 : (x.map kt)[i]? = some (kt t) := by rw [List.getElem?_map, h1]; rfl
  have e2 : (y.map kt)[i]? = some (kt u) := by rw [List.getElem?_map, h2]; rfl
  rw [h, e2] at e1
  injection e1 with e1
  unfold kt at e1
  injection e1 with k1 k2
  exact ⟨k1.symm, k2.symm, fun h => by cases h⟩
theorem lays_walk (a : Option Addr) (n c : Nat) (A : Nat → Option Addr) (N C : Nat → Nat) (X : Nat → Nat → Nat → Int) (b off : Nat) (b' off' : Nat → Nat) (ra : Option Addr) (rn rc : Nat) (rb ro : Nat) (R : Nat → Int) (w : World) (hL : Lns w a n A N C X b off b' off') (hR : 0 < rn → ra = some ⟨rb, ro, none⟩ ∧ rb < w.heap.size) (hRc : ∀ j, j < rn → w.cell? ⟨rb, ro + j, none⟩ = some (.int .i64 (R j))) (hE : Env w) :
    Calls Tryd.prog 3 #[.slice a n c, .slice ra rn rc] w fun e w' => e = .returned (.bool true) ∧ Below w.heap.size w w' := by
  refine lays_whole a n c A N C X b off b' off' ra rn rc rb ro R w hL hR hRc (fun x0 x1 x2 V => pword_any x0 x1 x2 V (fun p V => ?_) (fun p hp V => ?_)) (fun V vp P ts hb hp hl hx => ?_) (fun V v1 v2 x y B1 B2 h1 h2 hm => tokens_eq false (tr_of h1) (tr_of h2) (al_of_map hm) (row_max h1)) (fun V hb => awake_any V (hE.below hb))
  · have h := refWord_any ⟨p.toArray⟩ V
    simpa using h
  · obtain ⟨q1, q2, q3, q4⟩ := quote_pg p hp
    refine (refQuote_any ⟨p.toArray⟩ V (by simp [ByteArray.size]; omega)).mono ?_
    rintro e w' ⟨rfl, hb⟩
    exact ⟨quo p, rfl, pg_text q1 q2, q3, hb⟩
  · obtain ⟨a', c', rfl, hbs⟩ := Ob.bs hp
    refine (tokens_any hbs c' hl (hE.below hb)).mono ?_
    rintro e w' ⟨o, hLx, hb1, hm1⟩
    obtain rfl := hLx.det hx
    obtain ⟨tv, rfl, ho⟩ := hm1
    exact ⟨tv, rfl, ho, hb1⟩
end Lx
end Go.Proofs.YtgillafjccgkdaaDoor
