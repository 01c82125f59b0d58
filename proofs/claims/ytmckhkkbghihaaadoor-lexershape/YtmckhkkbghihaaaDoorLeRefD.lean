/-
  What the reference's digits, escape and width do.
-/
import Derived.Test.YtmckhkkbghihaaaDoorLeAwake
import Derived.Test.YtmckhkkbghihaaaDoorLeBytes
namespace Go.Proofs.YtmckhkkbghihaaaDoor
open Go.RowKit Go.Lib

/-- An option's number; -1: none. -/
def optI : Option Nat → Int
  | some v => (v : Int)
  | none => -1

theorem hexd_dec {c : Nat} (h0 : 48 ≤ c) (h1 : c ≤ 57) : hexd c = some (c - 48) := by unfold hexd; rw [if_pos ⟨h0, h1⟩]
theorem hexd_low {c : Nat} (h0 : 97 ≤ c) (h1 : c ≤ 102) : hexd c = some (c - 87) := by unfold hexd; rw [if_neg (by omega), if_pos ⟨h0, h1⟩]
theorem hexd_up {c : Nat} (h0 : 65 ≤ c) (h1 : c ≤ 70) : hexd c = some (c - 55) := by unfold hexd; rw [if_neg (by omega), if_neg (by omega), if_pos ⟨h0, h1⟩]
theorem hexd_no {c : Nat} (h0 : ¬ (48 ≤ c ∧ c ≤ 57)) (h1 : ¬ (97 ≤ c ∧ c ≤ 102)) (h2 : ¬ (65 ≤ c ∧ c ≤ 70)) : hexd c = none := by unfold hexd; rw [if_neg h0, if_neg h1, if_neg h2]
theorem rh_eq (l : List UInt8) (n : Nat) (h : n ≤ l.length) : rh l n = hexs 0 (l.take n) := by unfold rh; rw [if_neg (by omega)]
theorem drop_take_step (l : List UInt8) (a j n : Nat) (hj : j < n) (hn : a + n ≤ l.length) : ((l.drop a).take n).drop j = (l.getD (a + j) 0) :: ((l.drop a).take n).drop (j + 1) := by
  have hl : ((l.drop a).take n).length = n := by rw [List.length_take, List.length_drop]; omega
  rw [List.drop_eq_getElem_cons (by omega)]
  congr 1
  simp [List.getD, List.getElem?_eq_getElem (show a + j < l.length by omega)]

theorem idx_run (s : ByteArray) (i : Int) (n : Nat) (h : n < s.size) (hi : i = (n : Int)) (wx : World) : (Instr.index 9 (.string s) (.int .i64 i)).run Tryd.prog wx = .ok (.int .u8 (((s[n]'h).toNat : Nat) : Int)) wx := by
  subst hi
  rw [run_index_string wx 9 s .i64 _ Tryd.underlying9, dif_pos ⟨by omega, by omega⟩]
  rfl
theorem sub_run (s : ByteArray) (i j : Int) (a b : Nat) (hi : i = (a : Int)) (hj : j = (b : Int)) (h1 : a ≤ b) (h2 : b ≤ s.size) (wx : World) : (Instr.slice 9 (.string s) (some (.int .i64 i)) (some (.int .i64 j)) none).run Tryd.prog wx = .ok (.string (s.extract a b)) wx := by
  subst hi hj
  rw [run_slice_string wx 9 s .i64 .i64 _ _ Tryd.underlying9 (by omega) (by omega) (by omega)]
  rfl

/-- What the reference's escape answers. -/
def escR (p : Nat × Nat) : Value := if p.2 = 0 then .tuple #[.string ⟨#[]⟩, .int .i64 0] else .tuple #[.string ⟨(enc p.1).toArray⟩, .int .i64 ((p.2 : Int) - 1)]
theorem escR_zero : escR (0, 0) = .tuple #[.string ⟨#[]⟩, .int .i64 0] := rfl
theorem extract_one (s : ByteArray) (a : Nat) (h : a < s.size) : s.extract a (a + 1) = ⟨#[s[a]'h]⟩ := by
  have e : (s.extract a (a + 1)).data.toList = [s[a]'h] := by
    have hl : a < s.data.toList.length := by rw [str_len]; exact h
    rw [extract_sub, List.drop_eq_getElem_cons hl, List.take_succ_cons, List.take_zero]
    rfl
  have e2 : (s.extract a (a + 1)).data = #[s[a]'h] := by
    rw [← Array.toList_inj]
    exact e
  cases hx : s.extract a (a + 1) with
  | mk d => rw [hx] at e2; subst e2; rfl
theorem enc_byte (x : UInt8) (h : x.toNat < 128) : enc x.toNat = [x] := by rw [enc_ascii _ h]; simp

end Go.Proofs.YtmckhkkbghihaaaDoor
