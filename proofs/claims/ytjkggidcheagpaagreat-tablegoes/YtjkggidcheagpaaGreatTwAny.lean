/-
  The law's does, whatever the step.
-/
import Derived.Test.YtjkggidcheagpaaGreatTwa
import Derived.Test.YtjkggidcheagpaaGreatTwDoes4
namespace Go.Proofs.YtjkggidcheagpaaGreat
open Go.RowKit Go.WideShapes

theorem does_any {w : World} {X : Nat} {p : Pl} {t : Tb} {pm pr : Option Addr} {M : Int → Int → World → Prop} {a b : Int} {n : Nat} (hT : Tw w X p t (.pointer pm) (.pointer pr) M a b) (hMo : MtOk (.pointer pm) M) (hMv : MvOk (.pointer pm) M) (hBd : Bd t a b n) (hn : n ≤ 2000) (x0 x1 x2 x3 x4 : Int) :
    Calls Tryz.prog 10 #[.pointer (some ⟨X, 0, none⟩), .agg #[.int .i64 x0, .int .i64 x1, .int .i64 x2, .int .i64 x3, .int .i64 x4]] w fun e w' => e = .returned (.bool true) ∧ ∃ p' a' b', Dn w X p (.pointer pm) (.pointer pr) M (n + 1) p' (t.step x0 x1 x2 x3 x4) a' b' w' := by
  by_cases h : 1 ≤ x0 ∧ x0 ≤ 8
  · have : x0 = 1 ∨ x0 = 2 ∨ x0 = 3 ∨ x0 = 4 ∨ x0 = 5 ∨ x0 = 6 ∨ x0 = 7 ∨ x0 = 8 := by omega
    rcases this with rfl | rfl | rfl | rfl | rfl | rfl | rfl | rfl
    · exact does_add hT hMo hBd hn x1 x2 x3 x4
    · exact does_put hT hMo hBd hn x1 x2 x3 x4
    · exact does_kill hT hMo hBd hn x1 x2 x3 x4
    · exact does_at hT hMo hBd x1 x2 x3 x4
    · exact does_clear hT hMo hBd hn x1 x2 x3 x4
    · exact does_copy hT hMo hBd hn x1 x2 x3 x4
    · exact does_seek hT hMo hBd x1 x2 x3 x4
    · exact does_next hT hMo hMv hBd hn x1 x2 x3 x4
  · exact does_none hT hMo hBd x0 x1 x2 x3 x4 h
end Go.Proofs.YtjkggidcheagpaaGreat
