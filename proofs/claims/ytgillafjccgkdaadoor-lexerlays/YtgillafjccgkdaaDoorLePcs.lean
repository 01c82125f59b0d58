/-
  The pieces as texts, one behind the other.
-/
import Derived.Test.YtgillafjccgkdaaDoorLeRefAll
namespace Go.Proofs.YtgillafjccgkdaaDoor
open Go.RowKit Go.Lib

/-- The texts of the first k pieces, one behind the other. -/
theorem encs_take (rs : List Nat) (k : Nat) (h : k < rs.length) : encs (rs.take (k + 1)) = encs (rs.take k) ++ enc rs[k] := by
  rw [List.take_succ_eq_append_getElem h]
  show (rs.take k ++ [rs[k]]).flatMap enc = _
  rw [List.flatMap_append]
  simp only [List.flatMap_cons, List.flatMap_nil, List.append_nil]
  rfl
theorem encs_len : ∀ rs : List Nat, (encs rs).length ≤ 4 * rs.length
  | [] => by simp [encs]
  | r :: rs => by
    rw [encs_cons, List.length_append, List.length_cons]
    have := encs_len rs
    have := (enc_len r).2
    omega
theorem pcs_get (rs : List Nat) (k : Nat) (h : k < (pcs rs).length) : (pcs rs)[k] = ⟨(enc (rs[k]'(by rw [pcs_len] at h; exact h))).toArray⟩ := by simp [pcs]

theorem pcs_form {B : Nat} {w : World} {v : Value} {rs : List Nat} (h : OwnS B w v (pcs rs)) : ∃ a cap, v = .slice a rs.length cap ∧ ∀ j (hj : j < rs.length), ∃ g, B ≤ g ∧ g < w.heap.size ∧ a = some ⟨g, 0, none⟩ ∧ w.cell? ⟨g, j, none⟩ = some (.string ⟨(enc rs[j]).toArray⟩) := by
  obtain ⟨a, cap, rfl, hc⟩ := h.form
  refine ⟨a, cap, by rw [pcs_len], fun j hj => ?_⟩
  obtain ⟨g, h1, h2, h3, h4⟩ := hc j (by rw [pcs_len]; exact hj)
  rw [pcs_get] at h4
  exact ⟨g, h1, h2, h3, h4⟩
theorem cat_list (a : List UInt8) (b : List UInt8) : (ByteArray.mk a.toArray ++ ByteArray.mk b.toArray) = ⟨(a ++ b).toArray⟩ := ByteArray.mk_append_mk a b
end Go.Proofs.YtgillafjccgkdaaDoor
