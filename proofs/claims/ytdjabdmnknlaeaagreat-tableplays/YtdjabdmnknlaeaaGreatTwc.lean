/-
  The law's does, whatever the step.
  The law's sight over both.
-/
import Derived.Test.YtdjabdmnknlaeaaGreatTwa
import Derived.Test.YtdjabdmnknlaeaaGreatTwDoes4
import Derived.Test.YtdjabdmnknlaeaaGreatTwb
import Derived.Test.YtdjabdmnknlaeaaGreatTwm
namespace Go.Proofs.YtdjabdmnknlaeaaGreat
open Go.RowKit Go.WideShapes

theorem does_any {w : World} {X : Nat} {p : Pl} {t : Tb} {pm pr : Option Addr} {M : Int → Int → World → Prop} {a b : Int} {n : Nat} (hT : Tw w X p t (.pointer pm) (.pointer pr) M a b) (hMo : MtOk (.pointer pm) M) (hMv : MvOk (.pointer pm) M) (hBd : Bd t a b n) (hn : n ≤ 2000) (x0 x1 x2 x3 x4 : Int) :
    Calls Tryz.prog 10 #[.pointer (some ⟨X, 0, none⟩), .agg #[.int .i64 x0, .int .i64 x1, .int .i64 x2, .int .i64 x3, .int .i64 x4]] w fun e w' => e = .returned (.bool true) ∧ ∃ p' a' b', Dn w X p (.pointer pm) (.pointer pr) M (n + 1) p' (t.step x0 x1 x2 x3 x4) a' b' w' := by
  by_cases h : 1 ≤ x0 ∧ x0 ≤ 8
  · have : x0 = 1 ∨ x0 = 2 ∨ x0 = 3 ∨ x0 = 4 ∨ x0 = 5 ∨ x0 = 6 ∨ x0 = 7 ∨ x0 = 8 := by omega
    rcases this with rfl | rfl | rfl | rfl | rfl | rfl | rfl | rfl
    · exact does_add hT hMo hBd hn x1 x2 x3 x4
    · exact does_put hT hMo hBd hn x1 x2 x3 x4
    · exact does_kill hT hMo hBd hn x1 x2 x3 x4
    · exact does_at hT hMo hBd x1 x2 x3 x4
    · exact does_clear hT hMo hBd hn x1 x2 x3 x4
    · exact does_copy hT hMo hBd hn x1 x2 x3 x4
    · exact does_seek hT hMo hBd x1 x2 x3 x4
    · exact does_next hT hMo hMv hBd hn x1 x2 x3 x4
  · exact does_none hT hMo hBd x0 x1 x2 x3 x4 h
end Go.Proofs.YtdjabdmnknlaeaaGreat
namespace Go.Proofs.YtdjabdmnknlaeaaGreat
open Go.RowKit Go.WideShapes

/-- What Sight told of the table is what it told of the document's. -/
theorem sight_both {w : World} {t : Tb} {B hc : Nat} {ev1 : Value} {ca : Option Addr} {cc : Nat} {ea : Option Addr} {ec : Nat} (hlen : t.es.length ≤ 100000) (hsz : t.L ≤ 20) (hSg : SgV B w t hc ev1) (hN : SlN w ca (2 ^ t.L) cc t.c) (hE : SlE w ea t.es.length ec (shw t.es)) :
    Calls Tryz.prog 12 #[sgV t hc ev1, siV (t.L : Int) (wd t.L : Int) ca (2 ^ t.L) cc ea t.es.length ec (t.live : Int) (t.births : Int) (t.made : Int)] w fun e w' => e = .returned (.bool true) ∧ Below w.heap.size w w' := by
  obtain ⟨a1, cap1, hv, hE1⟩ := hSg.es.es.sl
  rw [shw_len] at hv hE1
  have hP : 2 ^ t.L ≤ 1048576 := Nat.le_trans (Nat.pow_le_pow_right (n := 2) (by decide) hsz) (by decide)
  have hN1 : SlN w (some ⟨hc, 0, none⟩) (2 ^ t.L) (2 ^ t.L) t.c := ⟨Nat.le_refl _, hc, fun _ => ⟨rfl, hSg.row.lt⟩, fun j hj => hSg.row.cell j hj⟩
  have := sight_any (t.L : Int) (wd t.L : Int) (t.live : Int) (t.births : Int) (t.made : Int) (some ⟨hc, 0, none⟩) ca a1 ea (2 ^ t.L) (2 ^ t.L) cc t.es.length cap1 ec t.c (shw t.es) w hN1 hN hE1 hE (by omega) (by omega)
  subst hv
  exact this
end Go.Proofs.YtdjabdmnknlaeaaGreat
