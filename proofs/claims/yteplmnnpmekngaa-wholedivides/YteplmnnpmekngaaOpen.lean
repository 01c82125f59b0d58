/-
  How an Int that came in as data is opened.
-/
import Derived.ProofKit
import Derived.OpenShut
import Derived.ShutString
import Derived.ChangeOld
import Derived.Below
import Derived.Lib.SmallJoins
import Derived.Test.YteplmnnpmekngaaAwake
namespace Go.Proofs.Yteplmnnpmekngaa
open Go.ChangeShapes Go.WideShapes Go.ChangeAt Go.RowKit Go.Joins

theorem Try.own : ownKnob Try.prog.godebug = none := by kernel_rfl
theorem Try.laidOut : laidOutB Try.prog = true := by kernel_rfl
theorem Try.cellsInt : Try.prog.cellsOf 24 = 2 := by kernel_rfl
theorem Try.cellsWord : Try.prog.cellsOf 55 = 1 := by kernel_rfl

theorem arg_open {H : Type} {enc : TypeId × Value → H} {W : World} {r : Reach} {base : Nat} {v : Value} {d : DataW H} {p : List MemPlace} (hv : Value.okWide Try.prog W r base 24 v) (h : DataW.Trod enc Try.prog W 0 (fun _ => true) true 24 v d p) :
    ∃ neg a l c xs, v = .agg #[.bool neg, .slice a l c] ∧ Sl .u32 W (.slice a l c) xs ∧ okw xs := by
  obtain ⟨v0, v1, y0, y1, n, rfl, _, _, h0, h1⟩ := open_agg2 Try.underlying24 (by kernel_rfl) Try.cellsInt hv h
  obtain ⟨neg, e0, _⟩ := DataW.trod_bool Try.underlying4 h0
  simp only [List.cons.injEq, and_true] at e0
  subst e0
  rcases open_ints Try.underlying22 Try.underlying55 Try.cellsWord h1 with ⟨hcs, _⟩ | ⟨a, len, cap, zs, hcs, _, hl, hm, hz, _, hcell, hwz⟩
  · simp only [List.cons.injEq, and_true] at hcs
    subst hcs
    exact ⟨neg, none, 0, 0, [], rfl, Sl_nil _ _ _ _, okw_nil⟩
  · simp only [List.cons.injEq, and_true] at hcs
    subst hcs
    simp only [if_true] at hz
    have hb : ∀ n ∈ zs, 0 ≤ n ∧ n < 4294967296 := fun n hn => by
      have := bounds_u32 (hwz n hn)
      omega
    have hlen : ((zs.take len).map Int.toNat).length = len := by simp; omega
    refine ⟨neg, some a, len, cap, (zs.take len).map Int.toNat, rfl, ⟨some a, cap, by rw [hlen], by rw [hlen]; exact hl, fun hn => ?_⟩, fun x hx => ?_⟩
    · obtain ⟨b, off, spot⟩ := a
      have hp : 0 < zs.length := by
        have : 0 < ((zs.take len).map Int.toNat).length := List.length_pos_iff.2 hn
        omega
      have hspot : spot = none := by simpa [Addr.add] using World.cell?_spot (hcell 0 hp)
      subst hspot
      refine ⟨b, off, rfl, fun j hj => ?_⟩
      rw [hlen] at hj
      have hj' : j < zs.length := by omega
      have hc := hcell j hj'
      rw [add_plain] at hc
      rw [hc]
      have hbj := hb zs[j] (List.getElem_mem hj')
      simp [hj, hj', List.getD]
      omega
    · simp only [List.mem_map] at hx
      obtain ⟨n, hn, rfl⟩ := hx
      have := hb n (List.mem_of_mem_take hn)
      omega
end Go.Proofs.Yteplmnnpmekngaa
