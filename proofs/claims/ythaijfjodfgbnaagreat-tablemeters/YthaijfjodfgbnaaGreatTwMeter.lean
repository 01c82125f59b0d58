/-
  A meter that counts, as a table asks it.
-/
import Derived.Test.YthaijfjodfgbnaaGreatMeRead
import Derived.Test.YthaijfjodfgbnaaGreatDtb
namespace Go.Proofs.YthaijfjodfgbnaaGreat
open Go.RowKit Go.WideShapes

def meM (g : Nat) : Int → Int → World → Prop := fun a b w => Me.Mt w g a b 0 0
theorem more_one {x : Int} (h0 : 0 ≤ x) (h : x ≤ 1000000000000) : Me.more x 1 = x + 1 := by
  unfold Me.more
  rw [if_pos (by omega)]
  have := i64_small (x := x + 1) (by omega) (by omega)
  first | exact this | (unfold wrap64; omega) | (simp [wrap64]; omega)
theorem me_ex {g : Nat} {w w' : World} (h : Me.But g w w') : Ex (mB (.pointer (some ⟨g, 0, none⟩))) w w' := ⟨h.os, h.tape, h.output, h.size, fun k hk hx => h.block k hk (fun e => hx (by rw [e]; rfl))⟩
theorem meB {g k : Nat} (h : mB (.pointer (some ⟨g, 0, none⟩)) k) : k = g := by cases h; rfl
theorem mtOk_me (g : Nat) : MtOk (.pointer (some ⟨g, 0, none⟩)) (meM g) := by
  refine ⟨fun a b w h0 h1 hM => ?_, fun a b w w' hM e => Me.Mt.same hM (e g rfl), fun a b w k hM hk => ?_⟩
  · refine (Me.table_any g a b 0 0 w hM).mono ?_
    rintro e w' ⟨rfl, hb, hm⟩
    rw [more_one h0 (by omega)] at hm
    exact ⟨rfl, hm, me_ex hb⟩
  · rw [meB hk]
    exact Me.Mt.lt hM
theorem mvOk_me (g : Nat) : MvOk (.pointer (some ⟨g, 0, none⟩)) (meM g) := fun a b w h0 h1 hM => by
  refine (Me.visit_any g 1 a b 0 0 w hM).mono ?_
  rintro e w' ⟨rfl, hb, hm⟩
  rw [more_one h0 h1] at hm
  exact ⟨rfl, hm, me_ex hb⟩
end Go.Proofs.YthaijfjodfgbnaaGreat
