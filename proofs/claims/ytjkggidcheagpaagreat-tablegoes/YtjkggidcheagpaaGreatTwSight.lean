/-
  The law's sight over both.
-/
import Derived.Test.YtjkggidcheagpaaGreatTwMem
namespace Go.Proofs.YtjkggidcheagpaaGreat
open Go.RowKit Go.WideShapes

/-- What Sight told of the table is what it told of the document's. -/
theorem sight_both {w : World} {t : Tb} {B hc : Nat} {ev1 : Value} {ca : Option Addr} {cc : Nat} {ea : Option Addr} {ec : Nat} (hlen : t.es.length ≤ 100000) (hsz : t.L ≤ 20) (hSg : SgV B w t hc ev1) (hN : SlN w ca (2 ^ t.L) cc t.c) (hE : SlE w ea t.es.length ec (shw t.es)) :
    Calls Tryz.prog 16 #[sgV t hc ev1, siV (t.L : Int) (wd t.L : Int) ca (2 ^ t.L) cc ea t.es.length ec (t.live : Int) (t.births : Int) (t.made : Int)] w fun e w' => e = .returned (.bool true) ∧ Below w.heap.size w w' := by
  obtain ⟨a1, cap1, hv, hE1⟩ := hSg.es.es.sl
  rw [shw_len] at hv hE1
  have hP : 2 ^ t.L ≤ 1048576 := Nat.le_trans (Nat.pow_le_pow_right (n := 2) (by decide) hsz) (by decide)
  have hN1 : SlN w (some ⟨hc, 0, none⟩) (2 ^ t.L) (2 ^ t.L) t.c := ⟨Nat.le_refl _, hc, fun _ => ⟨rfl, hSg.row.lt⟩, fun j hj => hSg.row.cell j hj⟩
  have := sight_any (t.L : Int) (wd t.L : Int) (t.live : Int) (t.births : Int) (t.made : Int) (some ⟨hc, 0, none⟩) ca a1 ea (2 ^ t.L) (2 ^ t.L) cc t.es.length cap1 ec t.c (shw t.es) w hN1 hN hE1 hE (by omega) (by omega)
  subst hv
  exact this
end Go.Proofs.YtjkggidcheagpaaGreat
