/-
  Two entries, compared.
-/
import Derived.Test.YtpigbnlapcndgaaGreatPrr
namespace Go.Proofs.YtpigbnlapcndgaaGreat
open Go.RowKit Go.WideShapes

/-- Two entries that are the same. -/
def eqE (x y : En) : Bool := x.live == y.live && (x.hash == y.hash && (x.key == y.key && (x.value == y.value && x.birth == y.birth)))
theorem eqE_iff (x y : En) : eqE x y = true ↔ x = y := by
  cases x; cases y
  simp [eqE]
theorem en_eqV (x y : En) (w : World) : (binOp .eql 78 (eV x) (eV y)).run Tryz.prog w = .ok (.bool (eqE x y)) w := by
  unfold eV eqE
  have hu : Tryz.prog.underlying 78 = some (.struct (Tryz.prog.fieldsOf 78)) := by kernel_rfl
  have hp : Tryz.prog.stoodInHeld 78 = false := by kernel_rfl
  rw [run_eql_struct, run_equalIn_agg w 9999 _ _ _ hu hp]
  have hF : (Tryz.prog.fieldsOf 78).toList = [⟨"Live", 4, 0, false, "", "", 0⟩, ⟨"Hash", 3, 1, false, "", "", 8⟩, ⟨"Key", 3, 2, false, "", "", 16⟩, ⟨"Value", 3, 3, false, "", "", 24⟩, ⟨"Birth", 3, 4, false, "", "", 32⟩] := by kernel_rfl
  rw [hF]
  by_cases h0 : x.live = y.live
  · by_cases h1 : x.hash = y.hash
    · by_cases h2 : x.key = y.key
      · by_cases h3 : x.value = y.value
        · by_cases h4 : x.birth = y.birth
          · simp [Op.eqFields, go_sem, h0, h1, h2, h3, h4]
          · simp [Op.eqFields, go_sem, h0, h1, h2, h3, h4]
        · simp [Op.eqFields, go_sem, h0, h1, h2, h3]
      · simp [Op.eqFields, go_sem, h0, h1, h2]
    · simp [Op.eqFields, go_sem, h0, h1]
  · simp [Op.eqFields, go_sem, h0]
theorem en_neV (x y : En) (w : World) : (binOp .neq 78 (eV x) (eV y)).run Tryz.prog w = .ok (.bool (!eqE x y)) w := by
  have h := en_eqV x y w
  unfold eV at h ⊢
  rw [run_eql_struct] at h
  rw [run_neq_struct]
  cases hr : (Op.equalIn 10000 78 (.agg #[.bool x.live, .int .i64 x.hash, .int .i64 x.key, .int .i64 x.value, .int .i64 x.birth]) (.agg #[.bool y.live, .int .i64 y.hash, .int .i64 y.key, .int .i64 y.value, .int .i64 y.birth])).run Tryz.prog w with
  | ok b w' =>
    rw [hr] at h
    simp [Result.andThen] at h ⊢
    obtain ⟨rfl, rfl⟩ := h
    exact ⟨rfl, rfl⟩
  | halt a w' => rw [hr] at h; simp [Result.andThen] at h
end Go.Proofs.YtpigbnlapcndgaaGreat
