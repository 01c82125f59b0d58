/-
  The document's own lexer: a token.
-/
import Derived.Test.YtmckhkkbghihaaaDoorLxRfB
import Derived.Test.YtmckhkkbghihaaaDoorLxRfS
import Derived.Test.YtmckhkkbghihaaaDoorLxWords
import Derived.Test.YtmckhkkbghihaaaDoorLeRefU
import Derived.Test.YtmckhkkbghihaaaDoorLxQuo
import Derived.Deep.CutRange
import Derived.Deep.CutBlock
namespace Go.Proofs.YtmckhkkbghihaaaDoor
open Go.RowKit Go.WideShapes
namespace Lx

def TnR (B : Nat) (w : World) (g : Nat) (sv : Value) (s : St) (x : Except Nat (Nat × List UInt8 × Nat × Nat)) (e : Ending) (w' : World) : Prop :=
  match x with
  | .error c => (∃ v : Int, e = .returned (.int .i64 v)) ∧ (∃ s', RfX B w' g sv s' c s.at_) ∧ Below B w w'
  | .ok p => e = .returned (.int .i64 ((s.at_ + p.2.2.1 : Nat) : Int)) ∧ RfX B w' g sv ⟨s.at_ + p.2.2.1, p.2.2.2, s.bs, s.ts ++ [⟨p.1, p.2.1, s.at_⟩]⟩ 0 0 ∧ Below B w w'
def q4' (c : UInt8) : Prop := c = 39 ∨ c = 34
theorem q4_no {c : UInt8} (h : q4' c) : isL c = false ∧ isD c = false := by
  rcases h with rfl | rfl <;> exact ⟨by decide, by decide⟩
theorem tkL {r : List UInt8} {o : Nat} (h : isL (r.getD 0 0) = true) : tk r o = .ok (if wrd (r.take (prt r)) then 2 else 1, r.take (prt r), prt r, o) := by
  have hq : ¬ (r.getD 0 0 = 39 ∨ r.getD 0 0 = 34) := fun e => by rw [(q4_no e).1] at h; cases h
  have hd : ¬ isD (r.getD 0 0) = true := by
    intro e
    unfold isL isD at *
    simp at h e
    omega
  unfold tk
  rw [if_neg hq, if_neg hd, if_pos (by rw [isP_eq, h]; rfl)]
theorem tkD {r : List UInt8} {o : Nat} (h : isD (r.getD 0 0) = true) : tk r o = if isN (r.take (prt r)) then .ok (3, r.take (prt r), prt r, o) else .error 105 := by
  have hq : ¬ (r.getD 0 0 = 39 ∨ r.getD 0 0 = 34) := fun e => by rw [(q4_no e).2] at h; cases h
  unfold tk
  rw [if_neg hq, if_pos h]
theorem tkQ {r : List UInt8} {o : Nat} (h : r.getD 0 0 = 39 ∨ r.getD 0 0 = 34) : tk r o = qt r o := by unfold tk; rw [if_pos h]; rfl
theorem tkS {r : List UInt8} {o : Nat} (h1 : isL (r.getD 0 0) = false) (h2 : isD (r.getD 0 0) = false) (h3 : ¬ (r.getD 0 0 = 39 ∨ r.getD 0 0 = 34)) : tk r o = sg r o := by
  unfold tk sg
  rw [if_neg h3, if_neg (by rw [h2]; simp), if_neg (by rw [isP_eq, h1, h2]; simp)]
theorem all_take (x : List UInt8) (i : Nat) (hi : i < x.length) : (x.take (i + 1)).all isD = ((x.take i).all isD && isD (x.getD i 0)) := by
  rw [List.take_succ_eq_append_getElem hi, List.all_append]
  simp [List.getD, hi]
end Lx
end Go.Proofs.YtmckhkkbghihaaaDoor
