/-
  Words, signs.
-/
import Derived.Test.YtfcgogpnbmikmaaGreatDoorLxTell
namespace Go.Proofs.YtfcgogpnbmikmaaGreatDoor
open Go.RowKit Go.WideShapes
namespace Lx

set_option maxRecDepth 100000 in
theorem word_no (s : ByteArray) (w : World) (h : ∀ u ∈ words, (s.toList == u) = false) : Calls Tryz.prog 99 #[.string s] w fun e w' => e = .returned (.bool false) ∧ w' = w := by
  have h0 := h [97, 110, 100] (by decide)
  have h1 := h [97, 115] (by decide)
  have h2 := h [98, 114, 101, 97, 107] (by decide)
  have h3 := h [99, 108, 97, 115, 115] (by decide)
  have h4 := h [99, 111, 110, 116, 105, 110, 117, 101] (by decide)
  have h5 := h [100, 101, 102] (by decide)
  have h6 := h [100, 101, 108] (by decide)
  have h7 := h [101, 108, 105, 102] (by decide)
  have h8 := h [101, 108, 115, 101] (by decide)
  have h9 := h [101, 120, 99, 101, 112, 116] (by decide)
  have h10 := h [70, 97, 108, 115, 101] (by decide)
  have h11 := h [102, 111, 114] (by decide)
  have h12 := h [103, 108, 111, 98, 97, 108] (by decide)
  have h13 := h [105, 102] (by decide)
  have h14 := h [105, 110] (by decide)
  have h15 := h [105, 115] (by decide)
  have h16 := h [78, 111, 110, 101] (by decide)
  have h17 := h [110, 111, 110, 108, 111, 99, 97, 108] (by decide)
  have h18 := h [110, 111, 116] (by decide)
  have h19 := h [111, 114] (by decide)
  have h20 := h [112, 97, 115, 115] (by decide)
  have h21 := h [114, 97, 105, 115, 101] (by decide)
  have h22 := h [114, 101, 116, 117, 114, 110] (by decide)
  have h23 := h [84, 114, 117, 101] (by decide)
  have h24 := h [116, 114, 121] (by decide)
  have h25 := h [119, 104, 105, 108, 101] (by decide)
  clear h
  go_enter Tryz.func99, Tryz.ntmps99
  go_wp2
  go_ret
  exact ⟨rfl, rfl⟩
set_option maxRecDepth 100000 in
theorem word_0 (w : World) : Calls Tryz.prog 99 #[.string ⟨#[97, 110, 100]⟩] w fun e w' => e = .returned (.bool true) ∧ w' = w := by
  go_enter Tryz.func99, Tryz.ntmps99
  go_wp2
  go_ret
  exact ⟨rfl, rfl⟩
set_option maxRecDepth 100000 in
theorem word_1 (w : World) : Calls Tryz.prog 99 #[.string ⟨#[97, 115]⟩] w fun e w' => e = .returned (.bool true) ∧ w' = w := by
  go_enter Tryz.func99, Tryz.ntmps99
  go_wp2
  go_ret
  exact ⟨rfl, rfl⟩
set_option maxRecDepth 100000 in
theorem word_2 (w : World) : Calls Tryz.prog 99 #[.string ⟨#[98, 114, 101, 97, 107]⟩] w fun e w' => e = .returned (.bool true) ∧ w' = w := by
  go_enter Tryz.func99, Tryz.ntmps99
  go_wp2
  go_ret
  exact ⟨rfl, rfl⟩
set_option maxRecDepth 100000 in
theorem word_3 (w : World) : Calls Tryz.prog 99 #[.string ⟨#[99, 108, 97, 115, 115]⟩] w fun e w' => e = .returned (.bool true) ∧ w' = w := by
  go_enter Tryz.func99, Tryz.ntmps99
  go_wp2
  go_ret
  exact ⟨rfl, rfl⟩
set_option maxRecDepth 100000 in
theorem word_4 (w : World) : Calls Tryz.prog 99 #[.string ⟨#[99, 111, 110, 116, 105, 110, 117, 101]⟩] w fun e w' => e = .returned (.bool true) ∧ w' = w := by
  go_enter Tryz.func99, Tryz.ntmps99
  go_wp2
  go_ret
  exact ⟨rfl, rfl⟩
set_option maxRecDepth 100000 in
theorem word_5 (w : World) : Calls Tryz.prog 99 #[.string ⟨#[100, 101, 102]⟩] w fun e w' => e = .returned (.bool true) ∧ w' = w := by
  go_enter Tryz.func99, Tryz.ntmps99
  go_wp2
  go_ret
  exact ⟨rfl, rfl⟩
set_option maxRecDepth 100000 in
theorem word_6 (w : World) : Calls Tryz.prog 99 #[.string ⟨#[100, 101, 108]⟩] w fun e w' => e = .returned (.bool true) ∧ w' = w := by
  go_enter Tryz.func99, Tryz.ntmps99
  go_wp2
  go_ret
  exact ⟨rfl, rfl⟩
set_option maxRecDepth 100000 in
theorem word_7 (w : World) : Calls Tryz.prog 99 #[.string ⟨#[101, 108, 105, 102]⟩] w fun e w' => e = .returned (.bool true) ∧ w' = w := by
  go_enter Tryz.func99, Tryz.ntmps99
  go_wp2
  go_ret
  exact ⟨rfl, rfl⟩
set_option maxRecDepth 100000 in
theorem word_8 (w : World) : Calls Tryz.prog 99 #[.string ⟨#[101, 108, 115, 101]⟩] w fun e w' => e = .returned (.bool true) ∧ w' = w := by
  go_enter Tryz.func99, Tryz.ntmps99
  go_wp2
  go_ret
  exact ⟨rfl, rfl⟩
set_option maxRecDepth 100000 in
theorem word_9 (w : World) : Calls Tryz.prog 99 #[.string ⟨#[101, 120, 99, 101, 112, 116]⟩] w fun e w' => e = .returned (.bool true) ∧ w' = w := by
  go_enter Tryz.func99, Tryz.ntmps99
  go_wp2
  go_ret
  exact ⟨rfl, rfl⟩
set_option maxRecDepth 100000 in
theorem word_10 (w : World) : Calls Tryz.prog 99 #[.string ⟨#[70, 97, 108, 115, 101]⟩] w fun e w' => e = .returned (.bool true) ∧ w' = w := by
  go_enter Tryz.func99, Tryz.ntmps99
  go_wp2
  go_ret
  exact ⟨rfl, rfl⟩
set_option maxRecDepth 100000 in
theorem word_11 (w : World) : Calls Tryz.prog 99 #[.string ⟨#[102, 111, 114]⟩] w fun e w' => e = .returned (.bool true) ∧ w' = w := by
  go_enter Tryz.func99, Tryz.ntmps99
  go_wp2
  go_ret
  exact ⟨rfl, rfl⟩
set_option maxRecDepth 100000 in
theorem word_12 (w : World) : Calls Tryz.prog 99 #[.string ⟨#[103, 108, 111, 98, 97, 108]⟩] w fun e w' => e = .returned (.bool true) ∧ w' = w := by
  go_enter Tryz.func99, Tryz.ntmps99
  go_wp2
  go_ret
  exact ⟨rfl, rfl⟩
set_option maxRecDepth 100000 in
theorem word_13 (w : World) : Calls Tryz.prog 99 #[.string ⟨#[105, 102]⟩] w fun e w' => e = .returned (.bool true) ∧ w' = w := by
  go_enter Tryz.func99, Tryz.ntmps99
  go_wp2
  go_ret
  exact ⟨rfl, rfl⟩
set_option maxRecDepth 100000 in
theorem word_14 (w : World) : Calls Tryz.prog 99 #[.string ⟨#[105, 110]⟩] w fun e w' => e = .returned (.bool true) ∧ w' = w := by
  go_enter Tryz.func99, Tryz.ntmps99
  go_wp2
  go_ret
  exact ⟨rfl, rfl⟩
set_option maxRecDepth 100000 in
theorem word_15 (w : World) : Calls Tryz.prog 99 #[.string ⟨#[105, 115]⟩] w fun e w' => e = .returned (.bool true) ∧ w' = w := by
  go_enter Tryz.func99, Tryz.ntmps99
  go_wp2
  go_ret
  exact ⟨rfl, rfl⟩
set_option maxRecDepth 100000 in
theorem word_16 (w : World) : Calls Tryz.prog 99 #[.string ⟨#[78, 111, 110, 101]⟩] w fun e w' => e = .returned (.bool true) ∧ w' = w := by
  go_enter Tryz.func99, Tryz.ntmps99
  go_wp2
  go_ret
  exact ⟨rfl, rfl⟩
set_option maxRecDepth 100000 in
theorem word_17 (w : World) : Calls Tryz.prog 99 #[.string ⟨#[110, 111, 110, 108, 111, 99, 97, 108]⟩] w fun e w' => e = .returned (.bool true) ∧ w' = w := by
  go_enter Tryz.func99, Tryz.ntmps99
  go_wp2
  go_ret
  exact ⟨rfl, rfl⟩
set_option maxRecDepth 100000 in
theorem word_18 (w : World) : Calls Tryz.prog 99 #[.string ⟨#[110, 111, 116]⟩] w fun e w' => e = .returned (.bool true) ∧ w' = w := by
  go_enter Tryz.func99, Tryz.ntmps99
  go_wp2
  go_ret
  exact ⟨rfl, rfl⟩
set_option maxRecDepth 100000 in
theorem word_19 (w : World) : Calls Tryz.prog 99 #[.string ⟨#[111, 114]⟩] w fun e w' => e = .returned (.bool true) ∧ w' = w := by
  go_enter Tryz.func99, Tryz.ntmps99
  go_wp2
  go_ret
  exact ⟨rfl, rfl⟩
set_option maxRecDepth 100000 in
theorem word_20 (w : World) : Calls Tryz.prog 99 #[.string ⟨#[112, 97, 115, 115]⟩] w fun e w' => e = .returned (.bool true) ∧ w' = w := by
  go_enter Tryz.func99, Tryz.ntmps99
  go_wp2
  go_ret
  exact ⟨rfl, rfl⟩
set_option maxRecDepth 100000 in
theorem word_21 (w : World) : Calls Tryz.prog 99 #[.string ⟨#[114, 97, 105, 115, 101]⟩] w fun e w' => e = .returned (.bool true) ∧ w' = w := by
  go_enter Tryz.func99, Tryz.ntmps99
  go_wp2
  go_ret
  exact ⟨rfl, rfl⟩
set_option maxRecDepth 100000 in
theorem word_22 (w : World) : Calls Tryz.prog 99 #[.string ⟨#[114, 101, 116, 117, 114, 110]⟩] w fun e w' => e = .returned (.bool true) ∧ w' = w := by
  go_enter Tryz.func99, Tryz.ntmps99
  go_wp2
  go_ret
  exact ⟨rfl, rfl⟩
set_option maxRecDepth 100000 in
theorem word_23 (w : World) : Calls Tryz.prog 99 #[.string ⟨#[84, 114, 117, 101]⟩] w fun e w' => e = .returned (.bool true) ∧ w' = w := by
  go_enter Tryz.func99, Tryz.ntmps99
  go_wp2
  go_ret
  exact ⟨rfl, rfl⟩
set_option maxRecDepth 100000 in
theorem word_24 (w : World) : Calls Tryz.prog 99 #[.string ⟨#[116, 114, 121]⟩] w fun e w' => e = .returned (.bool true) ∧ w' = w := by
  go_enter Tryz.func99, Tryz.ntmps99
  go_wp2
  go_ret
  exact ⟨rfl, rfl⟩
set_option maxRecDepth 100000 in
theorem word_25 (w : World) : Calls Tryz.prog 99 #[.string ⟨#[119, 104, 105, 108, 101]⟩] w fun e w' => e = .returned (.bool true) ∧ w' = w := by
  go_enter Tryz.func99, Tryz.ntmps99
  go_wp2
  go_ret
  exact ⟨rfl, rfl⟩
theorem word_any (s : ByteArray) (w : World) : Calls Tryz.prog 99 #[.string s] w fun e w' => e = .returned (.bool (wrd s.data.toList)) ∧ w' = w := by
  by_cases h : s.data.toList ∈ words
  · have e : wrd s.data.toList = true := by unfold wrd; exact decide_eq_true h
    rw [e]
    clear e
    obtain ⟨⟨l⟩⟩ := s
    simp only at h
    have h : l ∈ words := h
    simp only [words, List.mem_cons, List.not_mem_nil, or_false] at h
    rcases h with rfl | rfl | rfl | rfl | rfl | rfl | rfl | rfl | rfl | rfl | rfl | rfl | rfl | rfl | rfl | rfl | rfl | rfl | rfl | rfl | rfl | rfl | rfl | rfl | rfl | rfl
    · exact word_0 w
    · exact word_1 w
    · exact word_2 w
    · exact word_3 w
    · exact word_4 w
    · exact word_5 w
    · exact word_6 w
    · exact word_7 w
    · exact word_8 w
    · exact word_9 w
    · exact word_10 w
    · exact word_11 w
    · exact word_12 w
    · exact word_13 w
    · exact word_14 w
    · exact word_15 w
    · exact word_16 w
    · exact word_17 w
    · exact word_18 w
    · exact word_19 w
    · exact word_20 w
    · exact word_21 w
    · exact word_22 w
    · exact word_23 w
    · exact word_24 w
    · exact word_25 w
  · have e : wrd s.data.toList = false := by unfold wrd; exact decide_eq_false h
    rw [e]
    refine word_no s w (fun u hu => ?_)
    rw [toList_eq]
    exact beq_eq_false_iff_ne.2 (fun e => h (e ▸ hu))
end Lx
end Go.Proofs.YtfcgogpnbmikmaaGreatDoor
