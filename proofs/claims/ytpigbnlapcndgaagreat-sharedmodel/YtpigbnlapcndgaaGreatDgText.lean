/-
  Text, of the code and of the reference.
-/
import Derived.Test.YtpigbnlapcndgaaGreatNbc
namespace Go.Proofs.YtpigbnlapcndgaaGreat
open Go.RowKit Go.Shelf

def nums (s : ByteArray) : List Nat := s.data.toList.map UInt8.toNat
theorem nums_length (s : ByteArray) : (nums s).length = s.size := by unfold nums; rw [List.length_map, Array.length_toList]; rfl
theorem nums_lt (s : ByteArray) (i : Nat) : (nums s)[i]?.getD 0 < 256 := by
  unfold nums
  rw [List.getElem?_map]
  cases s.data.toList[i]? with
  | none => simp
  | some u => simp; exact u.toNat_lt
theorem index_str (s : ByteArray) (i : Nat) (h : i < s.size) (w : World) : (Instr.index 9 (.string s) (.int .i64 (i : Int))).run Tryz.prog w = .ok (.int .u8 (((nums s)[i]?.getD 0 : Nat) : Int)) w := by
  rw [run_index_string w 9 s .i64 (i : Int) (by kernel_rfl), dif_pos ⟨by omega, by omega⟩]
  have e : (nums s)[i]?.getD 0 = (s[i]'h).toNat := by
    unfold nums
    rw [List.getElem?_map, List.getElem?_eq_getElem (by rw [Array.length_toList]; exact h)]
    rfl
  rw [e]
  rfl

/-- The word of a text's first bytes. -/
def tsum (s : ByteArray) : Nat → Int
  | 0 => 14695981039346656037
  | k + 1 => IntKind.u64.wrap (bits BinOp.xor IntKind.u64 (tsum s k) (((nums s)[k]?.getD 0 : Nat) : Int) * 1099511628211)

set_option maxRecDepth 100000 in
theorem text_any (s : ByteArray) (w : World) (hs : s.size ≤ 3000) :
    Calls Tryz.prog 28 #[.string s] w fun e w' => e = .returned (.int .i64 (hashed (tsum s s.size) (-2))) ∧ w' = w := by
  have hx : ∀ i, i < s.size → ∀ w, (Instr.index 9 (.string s) (.int .i64 (i : Int))).run Tryz.prog w = .ok (.int .u8 (((nums s)[i]?.getD 0 : Nat) : Int)) w := fun i hi => index_str s i hi
  go_enter Tryz.func28, Tryz.ntmps28
  go_wp2_with fail
  go_loop [3, 7] (fun h i => ∃ k : Nat, k ≤ s.size ∧ i = .int .i64 (k : Int) ∧ h = .int .u64 (tsum s k)) (fun _ i => s.size - (intOf i).toNat)
  case atStart => exact ⟨0, Nat.zero_le _, rfl, rfl⟩
  case round =>
    obtain ⟨k, hk, rfl, rfl⟩ := hrel
    by_cases hlt : k < s.size
    · have t2 : (k : Int) < s.size := by omega
      have hi := hx k hlt
      have hd := nums_lt s k
      obtain ⟨T, hT⟩ : ∃ T, tsum s k = T := ⟨_, rfl⟩
      have HT : Hid (tsum s k = T) := hT
      rw [hT]
      clear hT
      obtain ⟨d, hd'⟩ : ∃ d, (nums s)[k]?.getD 0 = d := ⟨_, rfl⟩
      have HD : Hid ((nums s)[k]?.getD 0 = d) := hd'
      rw [hd'] at hi hd
      clear hd' hx
      go_wp2_with fail
      refine ⟨⟨k + 1, by omega, by go_num, by rw [tsum, HT.out, HD.out]⟩, by simp [intOf]; omega⟩
    · obtain rfl : k = s.size := by omega
      have t2 : ¬ (s.size : Int) < s.size := by omega
      clear hx
      obtain ⟨T, hT⟩ : ∃ T, tsum s s.size = T := ⟨_, rfl⟩
      have HT : Hid (tsum s s.size = T) := hT
      clear hT
      rw [HT.out]
      go_wp2_with (go_at_call 36; refine (sealed_plain _ _).mono ?_; rintro e w' ⟨rfl, rfl⟩)
      go_ret
      exact ⟨by rw [HT.out]; rfl, rfl⟩

end Go.Proofs.YtpigbnlapcndgaaGreat
