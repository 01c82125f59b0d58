/-
  What areDigits of package whole does.
-/
import Derived.Test.YtjgibhpmbiphdaaMulAdd
namespace Go.Proofs.Ytjgibhpmbiphdaa
open Go.RowKit

/-- A string's bytes, as numbers. -/
def nums (s : ByteArray) : List Nat := s.data.toList.map UInt8.toNat
theorem nums_length (s : ByteArray) : (nums s).length = s.size := by unfold nums; rw [List.length_map, Array.length_toList]; rfl
theorem nums_lt (s : ByteArray) (i : Nat) : (nums s)[i]?.getD 0 < 256 := by
  unfold nums
  rw [List.getElem?_map]
  cases s.data.toList[i]? with
  | none => simp
  | some u => simp; exact u.toNat_lt
theorem index_str (s : ByteArray) (i : Nat) (h : i < s.size) (w : World) : (Instr.index 9 (.string s) (.int .i64 (i : Int))).run Try.prog w = .ok (.int .u8 (((nums s)[i]?.getD 0 : Nat) : Int)) w := by
  rw [run_index_string w 9 s .i64 (i : Int) (by kernel_rfl), dif_pos ⟨by omega, by omega⟩]
  have e : (nums s)[i]?.getD 0 = (s[i]'h).toNat := by
    unfold nums
    rw [List.getElem?_map, List.getElem?_eq_getElem (by rw [Array.length_toList]; exact h)]
    rfl
  rw [e]
  rfl

/-- The digits of a number that is not below 0, without noughts ahead. -/
def isDig (bs : List Nat) : Prop := bs ≠ [] ∧ ¬ (bs[0]?.getD 0 = 48 ∧ 1 < bs.length) ∧ ∀ j, j < bs.length → 48 ≤ bs[j]?.getD 0 ∧ bs[j]?.getD 0 ≤ 57

theorem str_empty (s : ByteArray) : s.toList.isEmpty = decide (s.size = 0) := by
  have h : s.toList.length = s.size := by rw [ByteArray.toList_eq, Array.length_toList]; rfl
  cases hl : s.toList with
  | nil => rw [hl] at h; simp only [List.length_nil] at h; simp [← h]
  | cons u us => rw [hl] at h; simp only [List.length_cons] at h; simp only [List.isEmpty_cons]; symm; simp only [decide_eq_false_iff_not]; omega

set_option maxRecDepth 100000 in
set_option maxHeartbeats 2000000 in
theorem areDigits_any (s : ByteArray) (w : World) (hs : s.size ≤ 1000000) :
    Calls Try.prog 63 #[.string s] w fun e w' => (∃ b, e = .returned (.bool b) ∧ (b = true ↔ isDig (nums s))) ∧ w' = w := by
  have hl := nums_length s
  by_cases h0 : s.size = 0
  · have hE : s.toList.isEmpty = true := by rw [str_empty]; simpa using h0
    have HF : Hid (¬ isDig (nums s)) := fun h => h.1 (List.eq_nil_of_length_eq_zero (by omega))
    clear hl h0
    go_enter Try.func63, Try.ntmps63
    go_wp2
    go_ret
    exact ⟨⟨false, rfl, by simp [HF.out]⟩, rfl⟩
  · have hE : s.toList.isEmpty = false := by rw [str_empty]; simpa using h0
    have hi : ∀ w, (Instr.index 9 (.string s) (.int .i64 0)).run Try.prog w = .ok (.int .u8 (((nums s)[0]?.getD 0 : Nat) : Int)) w := index_str s 0 (by omega)
    have hx := index_str s
    obtain ⟨d0, hd0⟩ : ∃ d, (nums s)[0]?.getD 0 = d := ⟨_, rfl⟩
    rw [hd0] at hi
    go_enter Try.func63, Try.ntmps63
    by_cases hz : d0 = 48 ∧ 1 < s.size
    · have t1 : ((d0 : Int) == 48) = true := by rw [hz.1]; rfl
      have t2 : (1 : Int) < s.size := by omega
      have HF : Hid (¬ isDig (nums s)) := fun h => h.2.1 ⟨hd0.trans hz.1, by omega⟩
      clear hl hz hd0 hx
      go_wp2
      go_ret
      exact ⟨⟨false, rfl, by simp [HF.out]⟩, rfl⟩
    · have HZ : Hid (¬ ((nums s)[0]?.getD 0 = 48 ∧ 1 < (nums s).length)) := (by rw [hd0, hl]; exact hz)
      have HL : Hid ((nums s).length = s.size) := hl
      have hx' : ∀ i, i < s.size → ∀ w, (Instr.index 9 (.string s) (.int .i64 (i : Int))).run Try.prog w = .ok (.int .u8 (((nums s)[i]?.getD 0 : Nat) : Int)) w := fun i hi => hx i hi
      clear hl hd0 hx
      have loop : True := trivial
      clear loop
      by_cases hq : d0 = 48
      · have t1 : ((d0 : Int) == 48) = true := by rw [hq]; rfl
        have t2 : ¬ (1 : Int) < s.size := by omega
        go_wp2_with fail
        go_loop [18] (fun i => ∃ k : Nat, k ≤ s.size ∧ i = .int .i64 (k : Int) ∧ ∀ j, j < k → 48 ≤ (nums s)[j]?.getD 0 ∧ (nums s)[j]?.getD 0 ≤ 57) (fun i => s.size - (intOf i).toNat)
        case atStart => exact ⟨0, Nat.zero_le _, rfl, fun j h => by omega⟩
        case round =>
          obtain ⟨k, hk, rfl, hok⟩ := hrel
          have HO : Hid (∀ j, j < k → 48 ≤ (nums s)[j]?.getD 0 ∧ (nums s)[j]?.getD 0 ≤ 57) := hok
          clear hok
          by_cases hlt : k < s.size
          · have hik := hx' k hlt
            obtain ⟨d, hd⟩ : ∃ d, (nums s)[k]?.getD 0 = d := ⟨_, rfl⟩
            rw [hd] at hik
            have HD : Hid ((nums s)[k]?.getD 0 = d) := hd
            have t5 : (k : Int) < s.size := by omega
            clear hd hx'
            by_cases h1 : d < 48
            · have t6 : (d : Int) < 48 := by omega
              have HF : Hid (¬ isDig (nums s)) := fun h => by have := h.2.2 k (by rw [HL.out]; exact hlt); rw [HD.out] at this; omega
              go_wp2
              go_ret
              exact ⟨Or.inl ⟨rfl, HF.out⟩, rfl⟩
            · have t6 : ¬ (d : Int) < 48 := by omega
              by_cases h2 : 57 < d
              · have t7 : (57 : Int) < d := by omega
                have HF : Hid (¬ isDig (nums s)) := fun h => by have := h.2.2 k (by rw [HL.out]; exact hlt); rw [HD.out] at this; omega
                go_wp2
                go_ret
                exact ⟨Or.inl ⟨rfl, HF.out⟩, rfl⟩
              · have t7 : ¬ (57 : Int) < d := by omega
                go_wp2
                go_round
                case rel => exact ⟨k + 1, by omega, by go_num, fun j hj => (Nat.eq_or_lt_of_le (Nat.le_of_lt_succ hj)).elim (fun e => by subst e; rw [HD.out]; omega) (fun h => HO.out j h)⟩
                case measure => simp [intOf]; omega
          · obtain rfl : k = s.size := by omega
            have t5 : ¬ (s.size : Int) < s.size := by omega
            have HT : Hid (isDig (nums s)) := ⟨fun h => by have := HL.out; rw [h] at this; simp at this; omega, HZ.out, fun j hj => HO.out j (by rw [← HL.out]; exact hj)⟩
            clear hx'
            go_wp2
            go_ret
            exact ⟨Or.inr ⟨rfl, HT.out⟩, rfl⟩
      · have t1 : ((d0 : Int) == 48) = false := by simp; omega
        go_wp2_with fail
        go_loop [18] (fun i => ∃ k : Nat, k ≤ s.size ∧ i = .int .i64 (k : Int) ∧ ∀ j, j < k → 48 ≤ (nums s)[j]?.getD 0 ∧ (nums s)[j]?.getD 0 ≤ 57) (fun i => s.size - (intOf i).toNat)
        case atStart => exact ⟨0, Nat.zero_le _, rfl, fun j h => by omega⟩
        case round =>
          obtain ⟨k, hk, rfl, hok⟩ := hrel
          have HO : Hid (∀ j, j < k → 48 ≤ (nums s)[j]?.getD 0 ∧ (nums s)[j]?.getD 0 ≤ 57) := hok
          clear hok
          by_cases hlt : k < s.size
          · have hik := hx' k hlt
            obtain ⟨d, hd⟩ : ∃ d, (nums s)[k]?.getD 0 = d := ⟨_, rfl⟩
            rw [hd] at hik
            have HD : Hid ((nums s)[k]?.getD 0 = d) := hd
            have t5 : (k : Int) < s.size := by omega
            clear hd hx'
            by_cases h1 : d < 48
            · have t6 : (d : Int) < 48 := by omega
              have HF : Hid (¬ isDig (nums s)) := fun h => by have := h.2.2 k (by rw [HL.out]; exact hlt); rw [HD.out] at this; omega
              go_wp2
              go_ret
              exact ⟨Or.inl ⟨rfl, HF.out⟩, rfl⟩
            · have t6 : ¬ (d : Int) < 48 := by omega
              by_cases h2 : 57 < d
              · have t7 : (57 : Int) < d := by omega
                have HF : Hid (¬ isDig (nums s)) := fun h => by have := h.2.2 k (by rw [HL.out]; exact hlt); rw [HD.out] at this; omega
                go_wp2
                go_ret
                exact ⟨Or.inl ⟨rfl, HF.out⟩, rfl⟩
              · have t7 : ¬ (57 : Int) < d := by omega
                go_wp2
                go_round
                case rel => exact ⟨k + 1, by omega, by go_num, fun j hj => (Nat.eq_or_lt_of_le (Nat.le_of_lt_succ hj)).elim (fun e => by subst e; rw [HD.out]; omega) (fun h => HO.out j h)⟩
                case measure => simp [intOf]; omega
          · obtain rfl : k = s.size := by omega
            have t5 : ¬ (s.size : Int) < s.size := by omega
            have HT : Hid (isDig (nums s)) := ⟨fun h => by have := HL.out; rw [h] at this; simp at this; omega, HZ.out, fun j hj => HO.out j (by rw [← HL.out]; exact hj)⟩
            clear hx'
            go_wp2
            go_ret
            exact ⟨Or.inr ⟨rfl, HT.out⟩, rfl⟩
end Go.Proofs.Ytjgibhpmbiphdaa
