/-
  A source that is too long.
-/
import Derived.Test.YtgillafjccgkdaaDoorLxAwake
import Derived.BigGuard
namespace Go.Proofs.YtgillafjccgkdaaDoor
open Go.RowKit Go.WideShapes
namespace Lx

theorem tk_code {r : List UInt8} {o e : Nat} (h : tk r o = .error e) : e = 102 ∨ e = 104 ∨ e = 105 ∨ e = 107 := by
  unfold tk at h
  repeat' split at h
  all_goals first
    | (injection h with h; omega)
    | cases h
theorem stl_code {n e : Nat} {s : St} (h : stl n s = .error e) : e = 103 ∨ e = 107 := by
  unfold stl at h
  repeat' split at h
  all_goals first
    | (injection h with h; omega)
    | cases h
theorem tkn_code {l : List UInt8} {b k p : Nat} {s : St} (h : tkn l b s = .inl (.bad k p)) : (k = 102 ∨ k = 104 ∨ k = 105 ∨ k = 107) ∧ p = s.at_ := by
  unfold tkn at h
  cases ht : tk (l.drop s.at_) s.opn with
  | error e => rw [ht] at h; injection h with h; injection h with h1 h2; subst h1; exact ⟨tk_code ht, h2.symm⟩
  | ok q => rw [ht] at h; cases h
theorem tkn_not {l : List UInt8} {b : Nat} {s : St} {ts : List Tok} (h : tkn l b s = .inl (.ok ts)) : False := by
  unfold tkn at h
  cases ht : tk (l.drop s.at_) s.opn with
  | error e => rw [ht] at h; injection h with h; cases h
  | ok q => rw [ht] at h; cases h
theorem stp_code {l : List UInt8} {c : Cf} {k p : Nat} (h : stp l c = .inl (.bad k p)) : (102 ≤ k ∧ k ≤ 107) := by
  unfold stp at h
  split at h
  · cases h
  · split at h
    · cases h
    · split at h
      · cases h
      · split at h
        · split at h
          · cases h
          · cases h
        · split at h
          · cases hs : stl c.bl c.s with
            | error e =>
              rw [hs] at h
              injection h with h
              injection h with h1 h2
              have := stl_code hs
              omega
            | ok s' =>
              rw [hs] at h
              have := (tkn_code h).1
              omega
          · have := (tkn_code h).1
            omega
/-- No source that is read offends by its length. -/
theorem lex_code {l : List UInt8} {c : Cf} {o : Out} (h : Lex l c o) : ∀ k p, o = .bad k p → 102 ≤ k ∧ k ≤ 107 := by
  induction h with
  | done e => intro k p ho; subst ho; exact stp_code e
  | more _ _ ih => exact ih
/-- Bytes in a row of their own. -/
def Ob (B : Nat) (w : World) (v : Value) (l : List UInt8) : Prop := w.ownsRow B 5 1 v l.length (Lib.byteCells l)
theorem byte_get (l : List UInt8) (j : Nat) (hj : j < l.length) : (Lib.byteCells l)[j]? = some (.int .u8 ((l.getD j 0).toNat : Int)) := by
  simp [Lib.byteCells, List.getD, hj]
theorem Ob.bs {B : Nat} {w : World} {v : Value} {l : List UInt8} (h : Ob B w v l) : ∃ a c, v = .slice a l.length c ∧ Bs w a l.length l := by
  rcases Nat.eq_zero_or_pos l.length with z | z
  · obtain ⟨a, c, rfl⟩ := ownsS_shape h
    exact ⟨a, c, rfl, rfl, 0, 0, fun h0 => absurd h0 (by omega), fun j hj => absurd hj (by omega)⟩
  · obtain ⟨g, c, rfl, hg, _, _⟩ := ownsS_some h z
    exact ⟨_, c, rfl, rfl, g, 0, fun _ => ⟨rfl, hg⟩, fun j hj => by rw [Nat.zero_add]; exact ownsS_cell h j _ (byte_get l j hj)⟩
theorem Tryd.infoB : (Tryd.prog.info? 5).map (fun i => (i.zero, i.size, i.bytes)) = some (some (.int .u8 0), 1, 1) := by kernel_rfl
theorem byte_one (l : List UInt8) : ∀ u ∈ Lib.byteCells l, u.oneCell' = true := by
  intro u hu
  simp [Lib.byteCells] at hu
  obtain ⟨_, _, rfl⟩ := hu
  rfl
theorem byte_app (a b : List UInt8) : Lib.byteCells (a ++ b) = Lib.byteCells a ++ Lib.byteCells b := by simp [Lib.byteCells]
theorem byte_len (a : List UInt8) : (Lib.byteCells a).length = a.length := by simp [Lib.byteCells]
/-- Bytes that can be read, as what is appended. -/
theorem Bs.src {w : World} {b off : Nat} {n : Nat} {l : List UInt8} (hn : n = l.length) (h3 : ∀ j, j < n → w.cell? ⟨b, off + j, none⟩ = some (.int .u8 ((l.getD j 0).toNat : Int))) : ∀ j u, (Lib.byteCells l)[j]? = some u → w.cell? ((⟨b, off, none⟩ : Addr).add j) = some u := by
  intro j u hu
  have hj : j < l.length := by
    rcases Nat.lt_or_ge j l.length with z | z
    · exact z
    · rw [List.getElem?_eq_none (by rw [byte_len]; exact z)] at hu; cases hu
  rw [byte_get l j hj] at hu
  rw [pl_add, h3 j (by omega)]
  exact hu
theorem eq101 (w : World) : (binOp .eql 35 (.agg #[.int .i64 101, .int .i64 65536]) (.agg #[.int .i64 101, .int .i64 65536])).run Tryd.prog w = .ok (.bool true) w := by kernel_rfl
end Lx
end Go.Proofs.YtgillafjccgkdaaDoor
