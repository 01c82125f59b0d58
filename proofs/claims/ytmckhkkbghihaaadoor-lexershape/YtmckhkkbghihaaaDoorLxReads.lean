/-
  Any bytes are read as the right tokens.
-/
import Derived.Test.YtmckhkkbghihaaaDoorLxEq
import Derived.Test.YtmckhkkbghihaaaDoorLxRfM
import Derived.Laws.StructEq
import Derived.Deep.CutRange
import Derived.Deep.CutBlock
namespace Go.Proofs.YtmckhkkbghihaaaDoor
open Go.RowKit Go.WideShapes
namespace Lx

theorem flt_eq (x y : Int) (w : World) : (binOp .eql 26 (.agg #[.int .i64 x, .int .i64 y]) (.agg #[.int .i64 x, .int .i64 y])).run Tryd.prog w = .ok (.bool true) w := by
  have hu : Tryd.prog.underlying 26 = some (.struct (Tryd.prog.fieldsOf 26)) := by kernel_rfl
  have hp : Tryd.prog.stoodInHeld 26 = false := by kernel_rfl
  rw [run_eql_struct, run_equalIn_agg w 9999 _ _ _ hu hp]
  have hF : (Tryd.prog.fieldsOf 26).toList = [⟨"Code", 3, 0, false, "", "", 0⟩, ⟨"At", 3, 1, false, "", "", 8⟩] := by kernel_rfl
  rw [hF]
  simp [Op.eqFields, go_sem]
theorem run_append_nothingB (w : World) (c : Nat) : (Builtin.append_ #[22, 22] 22 #[.slice none 0 0, .slice none 0 c]).run Tryd.prog w = .ok (.slice none 0 0) w := by
  obtain ⟨i0, hi, hz0, hz1, hz2⟩ := info_parts Tryd.infoB
  simp [Builtin.append_, run_underlying Tryd.underlying22, sizeOf, typeInfo, hi, Builtin.lenOf, Builtin.firstCells]
theorem own_max {ts : List Tok} {v : Value} {B : Nat} {w : World} (h : w.ownsRow B 30 3 v ts.length (tkl ts)) : ts.length ≤ maxLen := by
  rcases h.2 with ⟨_, h0⟩ | ⟨g, cap, cur, _, _, _, h1, h2, _⟩
  · rw [h0]; exact Nat.zero_le _
  · omega
/-- What a call of Tokens answers, whatever the length. -/
def TkA (N : Nat) (w : World) (e : Ending) (w' : World) (c p : Int) (ts : List Tok) : Prop := ∃ tv, e = .returned (.tuple #[tv, .agg #[.int .i64 c, .int .i64 p]]) ∧ w'.ownsRow N 30 3 tv ts.length (tkl ts) ∧ Below N w w'
theorem tka_of {N : Nat} {l : List UInt8} {w : World} {e : Ending} {w' : World} (h : AnsR N l w e w') : ∃ o, Lex l cf0 o ∧ ∃ c p ts, TkA N w e w' c p ts ∧ (match o with | .ok t => c = 0 ∧ p = 0 ∧ ts = t | .bad x y => c = (x : Int) ∧ p = (y : Int) ∧ ts = []) := by
  obtain ⟨o, h1, h2, h3⟩ := h
  cases o with
  | ok t =>
    obtain ⟨tv, e1, e2⟩ := h3
    exact ⟨.ok t, h1, 0, 0, t, ⟨tv, e1, e2, h2⟩, rfl, rfl, rfl⟩
  | bad x y => exact ⟨.bad x y, h1, x, y, [], ⟨_, h3, ⟨rfl, Or.inl ⟨rfl, rfl⟩⟩, h2⟩, rfl, rfl, rfl⟩
/-- What is answered of bytes, whatever their number. -/
def Dt (n : Nat) (l : List UInt8) (c p : Int) (ts : List Tok) : Prop := (n ≤ 65536 ∧ ∃ o, Lex l cf0 o ∧ (match o with | .ok t => c = 0 ∧ p = 0 ∧ ts = t | .bad x y => c = (x : Int) ∧ p = (y : Int) ∧ ts = [])) ∨ (65536 < n ∧ c = 101 ∧ p = 65536 ∧ ts = [])
theorem Dt.det {n : Nat} {l : List UInt8} {c p c' p' : Int} {ts ts' : List Tok} (h : Dt n l c p ts) (h' : Dt n l c' p' ts') : c = c' ∧ p = p' ∧ ts = ts' := by
  rcases h with ⟨h0, o, h1, h2⟩ | ⟨h0, h1, h2, h3⟩
  · rcases h' with ⟨k0, o', k1, k2⟩ | ⟨k0, _⟩
    · obtain rfl := h1.det k1
      cases o with
      | ok t => exact ⟨h2.1.trans k2.1.symm, h2.2.1.trans k2.2.1.symm, h2.2.2.trans k2.2.2.symm⟩
      | bad x y => exact ⟨h2.1.trans k2.1.symm, h2.2.1.trans k2.2.1.symm, h2.2.2.trans k2.2.2.symm⟩
    · omega
  · rcases h' with ⟨k0, _⟩ | ⟨k0, k1, k2, k3⟩
    · omega
    · exact ⟨h1.trans k1.symm, h2.trans k2.symm, h3.trans k3.symm⟩
theorem ptok_any {w : World} {a : Option Addr} {n : Nat} {l : List UInt8} (c : Nat) (hB : Bs w a n l) (hE : Env w) : Calls Tryd.prog 7 #[.slice a n c] w fun e w' => ∃ x p ts, TkA w.heap.size w e w' x p ts ∧ Dt n l x p ts := by
  rcases Nat.lt_or_ge 65536 n with h | h
  · refine (tokens_long w a n c h).mono ?_
    rintro e w' ⟨rfl, hb⟩
    exact ⟨101, 65536, [], ⟨_, rfl, ⟨rfl, Or.inl ⟨rfl, rfl⟩⟩, hb⟩, Or.inr ⟨h, rfl, rfl, rfl⟩⟩
  · refine (tokens_any hB c h hE).mono ?_
    intro e w' hA
    obtain ⟨o, h1, x, p, ts, h2, h3⟩ := tka_of hA
    exact ⟨x, p, ts, h2, Or.inl ⟨h, o, h1, h3⟩⟩
/-- All but one block. -/
structure But1 (g : Nat) (w w' : World) : Prop where
  os : w'.os = w.os
  tape : w'.tape = w.tape
  output : w'.output = w.output
  size : w'.heap.size = w.heap.size
  block : ∀ k, k ≠ g → w'.heap[k]? = w.heap[k]?
end Lx
end Go.Proofs.YtmckhkkbghihaaaDoor
