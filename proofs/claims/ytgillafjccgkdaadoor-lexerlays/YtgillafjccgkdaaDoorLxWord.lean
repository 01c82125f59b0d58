/-
  Words, signs.
-/
import Derived.Test.YtgillafjccgkdaaDoorLxTell
namespace Go.Proofs.YtgillafjccgkdaaDoor
open Go.RowKit Go.WideShapes
namespace Lx

set_option maxRecDepth 100000 in
theorem word_no (s : ByteArray) (w : World) (h : ∀ u ∈ words, (s.toList == u) = false) : Calls Tryd.prog 8 #[.string s] w fun e w' => e = .returned (.bool false) ∧ w' = w := by
  have h0 := h [97, 110, 100] (by decide)
  have h1 := h [97, 115] (by decide)
  have h2 := h [98, 114, 101, 97, 107] (by decide)
  have h3 := h [99, 108, 97, 115, 115] (by decide)
  have h4 := h [99, 111, 110, 116, 105, 110, 117, 101] (by decide)
  have h5 := h [100, 101, 102] (by decide)
  have h6 := h [100, 101, 108] (by decide)
  have h7 := h [101, 108, 105, 102] (by decide)
  have h8 := h [101, 108, 115, 101] (by decide)
  have h9 := h [101, 120, 99, 101, 112, 116] (by decide)
  have h10 := h [70, 97, 108, 115, 101] (by decide)
  have h11 := h [102, 111, 114] (by decide)
  have h12 := h [103, 108, 111, 98, 97, 108] (by decide)
  have h13 := h [105, 102] (by decide)
  have h14 := h [105, 110] (by decide)
  have h15 := h [105, 115] (by decide)
  have h16 := h [78, 111, 110, 101] (by decide)
  have h17 := h [110, 111, 110, 108, 111, 99, 97, 108] (by decide)
  have h18 := h [110, 111, 116] (by decide)
  have h19 := h [111, 114] (by decide)
  have h20 := h [112, 97, 115, 115] (by decide)
  have h21 := h [114, 97, 105, 115, 101] (by decide)
  have h22 := h [114, 101, 116, 117, 114, 110] (by decide)
  have h23 := h [84, 114, 117, 101] (by decide)
  have h24 := h [116, 114, 121] (by decide)
  have h25 := h [119, 104, 105, 108, 101] (by decide)
  clear h
  go_enter Tryd.func8, Tryd.ntmps8
  go_wp2
  go_ret
  exact ⟨rfl, rfl⟩
set_option maxRecDepth 100000 in
theorem word_0 (w : World) : Calls Tryd.prog 8 #[.string ⟨#[97, 110, 100]⟩] w fun e w' => e = .returned (.bool true) ∧ w' = w := by
  go_enter Tryd.func8, Tryd.ntmps8
  go_wp2
  go_ret
  exact ⟨rfl, rfl⟩
set_option maxRecDepth 100000 in
theorem word_1 (w : World) : Calls Tryd.prog 8 #[.string ⟨#[97, 115]⟩] w fun e w' => e = .returned (.bool true) ∧ w' = w := by
  go_enter Tryd.func8, Tryd.ntmps8
  go_wp2
  go_ret
  exact ⟨rfl, rfl⟩
set_option maxRecDepth 100000 in
theorem word_2 (w : World) : Calls Tryd.prog 8 #[.string ⟨#[98, 114, 101, 97, 107]⟩] w fun e w' => e = .returned (.bool true) ∧ w' = w := by
  go_enter Tryd.func8, Tryd.ntmps8
  go_wp2
  go_ret
  exact ⟨rfl, rfl⟩
set_option maxRecDepth 100000 in
theorem word_3 (w : World) : Calls Tryd.prog 8 #[.string ⟨#[99, 108, 97, 115, 115]⟩] w fun e w' => e = .returned (.bool true) ∧ w' = w := by
  go_enter Tryd.func8, Tryd.ntmps8
  go_wp2
  go_ret
  exact ⟨rfl, rfl⟩
set_option maxRecDepth 100000 in
theorem word_4 (w : World) : Calls Tryd.prog 8 #[.string ⟨#[99, 111, 110, 116, 105, 110, 117, 101]⟩] w fun e w' => e = .returned (.bool true) ∧ w' = w := by
  go_enter Tryd.func8, Tryd.ntmps8
  go_wp2
  go_ret
  exact ⟨rfl, rfl⟩
set_option maxRecDepth 100000 in
theorem word_5 (w : World) : Calls Tryd.prog 8 #[.string ⟨#[100, 101, 102]⟩] w fun e w' => e = .returned (.bool true) ∧ w' = w := by
  go_enter Tryd.func8, Tryd.ntmps8
  go_wp2
  go_ret
  exact ⟨rfl, rfl⟩
set_option maxRecDepth 100000 in
theorem word_6 (w : World) : Calls Tryd.prog 8 #[.string ⟨#[100, 101, 108]⟩] w fun e w' => e = .returned (.bool true) ∧ w' = w := by
  go_enter Tryd.func8, Tryd.ntmps8
  go_wp2
  go_ret
  exact ⟨rfl, rfl⟩
set_option maxRecDepth 100000 in
theorem word_7 (w : World) : Calls Tryd.prog 8 #[.string ⟨#[101, 108, 105, 102]⟩] w fun e w' => e = .returned (.bool true) ∧ w' = w := by
  go_enter Tryd.func8, Tryd.ntmps8
  go_wp2
  go_ret
  exact ⟨rfl, rfl⟩
set_option maxRecDepth 100000 in
theorem word_8 (w : World) : Calls Tryd.prog 8 #[.string ⟨#[101, 108, 115, 101]⟩] w fun e w' => e = .returned (.bool true) ∧ w' = w := by
  go_enter Tryd.func8, Tryd.ntmps8
  go_wp2
  go_ret
  exact ⟨rfl, rfl⟩
set_option maxRecDepth 100000 in
theorem word_9 (w : World) : Calls Tryd.prog 8 #[.string ⟨#[101, 120, 99, 101, 112, 116]⟩] w fun e w' => e = .returned (.bool true) ∧ w' = w := by
  go_enter Tryd.func8, Tryd.ntmps8
  go_wp2
  go_ret
  exact ⟨rfl, rfl⟩
set_option maxRecDepth 100000 in
theorem word_10 (w : World) : Calls Tryd.prog 8 #[.string ⟨#[70, 97, 108, 115, 101]⟩] w fun e w' => e = .returned (.bool true) ∧ w' = w := by
  go_enter Tryd.func8, Tryd.ntmps8
  go_wp2
  go_ret
  exact ⟨rfl, rfl⟩
set_option maxRecDepth 100000 in
theorem word_11 (w : World) : Calls Tryd.prog 8 #[.string ⟨#[102, 111, 114]⟩] w fun e w' => e = .returned (.bool true) ∧ w' = w := by
  go_enter Tryd.func8, Tryd.ntmps8
  go_wp2
  go_ret
  exact ⟨rfl, rfl⟩
set_option maxRecDepth 100000 in
theorem word_12 (w : World) : Calls Tryd.prog 8 #[.string ⟨#[103, 108, 111, 98, 97, 108]⟩] w fun e w' => e = .returned (.bool true) ∧ w' = w := by
  go_enter Tryd.func8, Tryd.ntmps8
  go_wp2
  go_ret
  exact ⟨rfl, rfl⟩
set_option maxRecDepth 100000 in
theorem word_13 (w : World) : Calls Tryd.prog 8 #[.string ⟨#[105, 102]⟩] w fun e w' => e = .returned (.bool true) ∧ w' = w := by
  go_enter Tryd.func8, Tryd.ntmps8
  go_wp2
  go_ret
  exact ⟨rfl, rfl⟩
set_option maxRecDepth 100000 in
theorem word_14 (w : World) : Calls Tryd.prog 8 #[.string ⟨#[105, 110]⟩] w fun e w' => e = .returned (.bool true) ∧ w' = w := by
  go_enter Tryd.func8, Tryd.ntmps8
  go_wp2
  go_ret
  exact ⟨rfl, rfl⟩
set_option maxRecDepth 100000 in
theorem word_15 (w : World) : Calls Tryd.prog 8 #[.string ⟨#[105, 115]⟩] w fun e w' => e = .returned (.bool true) ∧ w' = w := by
  go_enter Tryd.func8, Tryd.ntmps8
  go_wp2
  go_ret
  exact ⟨rfl, rfl⟩
set_option maxRecDepth 100000 in
theorem word_16 (w : World) : Calls Tryd.prog 8 #[.string ⟨#[78, 111, 110, 101]⟩] w fun e w' => e = .returned (.bool true) ∧ w' = w := by
  go_enter Tryd.func8, Tryd.ntmps8
  go_wp2
  go_ret
  exact ⟨rfl, rfl⟩
set_option maxRecDepth 100000 in
theorem word_17 (w : World) : Calls Tryd.prog 8 #[.string ⟨#[110, 111, 110, 108, 111, 99, 97, 108]⟩] w fun e w' => e = .returned (.bool true) ∧ w' = w := by
  go_enter Tryd.func8, Tryd.ntmps8
  go_wp2
  go_ret
  exact ⟨rfl, rfl⟩
set_option maxRecDepth 100000 in
theorem word_18 (w : World) : Calls Tryd.prog 8 #[.string ⟨#[110, 111, 116]⟩] w fun e w' => e = .returned (.bool true) ∧ w' = w := by
  go_enter Tryd.func8, Tryd.ntmps8
  go_wp2
  go_ret
  exact ⟨rfl, rfl⟩
set_option maxRecDepth 100000 in
theorem word_19 (w : World) : Calls Tryd.prog 8 #[.string ⟨#[111, 114]⟩] w fun e w' => e = .returned (.bool true) ∧ w' = w := by
  go_enter Tryd.func8, Tryd.ntmps8
  go_wp2
  go_ret
  exact ⟨rfl, rfl⟩
set_option maxRecDepth 100000 in
theorem word_20 (w : World) : Calls Tryd.prog 8 #[.string ⟨#[112, 97, 115, 115]⟩] w fun e w' => e = .returned (.bool true) ∧ w' = w := by
  go_enter Tryd.func8, Tryd.ntmps8
  go_wp2
  go_ret
  exact ⟨rfl, rfl⟩
set_option maxRecDepth 100000 in
theorem word_21 (w : World) : Calls Tryd.prog 8 #[.string ⟨#[114, 97, 105, 115, 101]⟩] w fun e w' => e = .returned (.bool true) ∧ w' = w := by
  go_enter Tryd.func8, Tryd.ntmps8
  go_wp2
  go_ret
  exact ⟨rfl, rfl⟩
set_option maxRecDepth 100000 in
theorem word_22 (w : World) : Calls Tryd.prog 8 #[.string ⟨#[114, 101, 116, 117, 114, 110]⟩] w fun e w' => e = .returned (.bool true) ∧ w' = w := by
  go_enter Tryd.func8, Tryd.ntmps8
  go_wp2
  go_ret
  exact ⟨rfl, rfl⟩
set_option maxRecDepth 100000 in
theorem word_23 (w : World) : Calls Tryd.prog 8 #[.string ⟨#[84, 114, 117, 101]⟩] w fun e w' => e = .returned (.bool true) ∧ w' = w := by
  go_enter Tryd.func8, Tryd.ntmps8
  go_wp2
  go_ret
  exact ⟨rfl, rfl⟩
set_option maxRecDepth 100000 in
theorem word_24 (w : World) : Calls Tryd.prog 8 #[.string ⟨#[116, 114, 121]⟩] w fun e w' => e = .returned (.bool true) ∧ w' = w := by
  go_enter Tryd.func8, Tryd.ntmps8
  go_wp2
  go_ret
  exact ⟨rfl, rfl⟩
set_option maxRecDepth 100000 in
theorem word_25 (w : World) : Calls Tryd.prog 8 #[.string ⟨#[119, 104, 105, 108, 101]⟩] w fun e w' => e = .returned (.bool true) ∧ w' = w := by
  go_enter Tryd.func8, Tryd.ntmps8
  go_wp2
  go_ret
  exact ⟨rfl, rfl⟩
theorem word_any (s : ByteArray) (w : World) : Calls Tryd.prog 8 #[.string s] w fun e w' => e = .returned (.bool (wrd s.data.toList)) ∧ w' = w := by
  by_cases h : s.data.toList ∈ words
  · have e : wrd s.data.toList = true := by unfold wrd; exact decide_eq_true h
    rw [e]
    clear e
    obtain ⟨⟨l⟩⟩ := s
    simp only at h
    have h : l ∈ words := h
    simp only [words, List.mem_cons, List.not_mem_nil, or_false] at h
    rcases h with rfl | rfl | rfl | rfl | rfl | rfl | rfl | rfl | rfl | rfl | rfl | rfl | rfl | rfl | rfl | rfl | rfl | rfl | rfl | rfl | rfl | rfl | rfl | rfl | rfl | rfl
    · exact word_0 w
    · exact word_1 w
    · exact word_2 w
    · exact word_3 w
    · exact word_4 w
    · exact word_5 w
    · exact word_6 w
    · exact word_7 w
    · exact word_8 w
    · exact word_9 w
    · exact word_10 w
    · exact word_11 w
    · exact word_12 w
    · exact word_13 w
    · exact word_14 w
    · exact word_15 w
    · exact word_16 w
    · exact word_17 w
    · exact word_18 w
    · exact word_19 w
    · exact word_20 w
    · exact word_21 w
    · exact word_22 w
    · exact word_23 w
    · exact word_24 w
    · exact word_25 w
  · have e : wrd s.data.toList = false := by unfold wrd; exact decide_eq_false h
    rw [e]
    refine word_no s w (fun u hu => ?_)
    rw [toList_eq]
    exact beq_eq_false_iff_ne.2 (fun e => h (e ▸ hu))
set_option maxRecDepth 100000 in
theorem isSign_no (s : ByteArray) (w : World) (h : ∀ u ∈ signs, (s.toList == u) = false) : Calls Tryd.prog 39 #[.string s] w fun e w' => e = .returned (.bool false) ∧ w' = w := by
  have h0 := h [61, 61] (by decide)
  have h1 := h [33, 61] (by decide)
  have h2 := h [60, 61] (by decide)
  have h3 := h [62, 61] (by decide)
  have h4 := h [43, 61] (by decide)
  have h5 := h [45, 61] (by decide)
  have h6 := h [42, 61] (by decide)
  have h7 := h [42, 42] (by decide)
  have h8 := h [47, 47, 61] (by decide)
  have h9 := h [47, 47] (by decide)
  have h10 := h [37, 61] (by decide)
  have h11 := h [38, 61] (by decide)
  have h12 := h [124, 61] (by decide)
  have h13 := h [94, 61] (by decide)
  have h14 := h [40] (by decide)
  have h15 := h [41] (by decide)
  have h16 := h [91] (by decide)
  have h17 := h [93] (by decide)
  have h18 := h [123] (by decide)
  have h19 := h [125] (by decide)
  have h20 := h [44] (by decide)
  have h21 := h [58] (by decide)
  have h22 := h [46] (by decide)
  have h23 := h [61] (by decide)
  have h24 := h [60] (by decide)
  have h25 := h [62] (by decide)
  have h26 := h [43] (by decide)
  have h27 := h [45] (by decide)
  have h28 := h [42] (by decide)
  have h29 := h [37] (by decide)
  have h30 := h [38] (by decide)
  have h31 := h [124] (by decide)
  have h32 := h [94] (by decide)
  clear h
  go_enter Tryd.func39, Tryd.ntmps39
  go_wp2
  go_ret
  exact ⟨rfl, rfl⟩
set_option maxRecDepth 100000 in
theorem isSign_0 (w : World) : Calls Tryd.prog 39 #[.string ⟨#[61, 61]⟩] w fun e w' => e = .returned (.bool true) ∧ w' = w := by
  go_enter Tryd.func39, Tryd.ntmps39
  go_wp2
  go_ret
  exact ⟨rfl, rfl⟩
set_option maxRecDepth 100000 in
theorem isSign_1 (w : World) : Calls Tryd.prog 39 #[.string ⟨#[33, 61]⟩] w fun e w' => e = .returned (.bool true) ∧ w' = w := by
  go_enter Tryd.func39, Tryd.ntmps39
  go_wp2
  go_ret
  exact ⟨rfl, rfl⟩
set_option maxRecDepth 100000 in
theorem isSign_2 (w : World) : Calls Tryd.prog 39 #[.string ⟨#[60, 61]⟩] w fun e w' => e = .returned (.bool true) ∧ w' = w := by
  go_enter Tryd.func39, Tryd.ntmps39
  go_wp2
  go_ret
  exact ⟨rfl, rfl⟩
set_option maxRecDepth 100000 in
theorem isSign_3 (w : World) : Calls Tryd.prog 39 #[.string ⟨#[62, 61]⟩] w fun e w' => e = .returned (.bool true) ∧ w' = w := by
  go_enter Tryd.func39, Tryd.ntmps39
  go_wp2
  go_ret
  exact ⟨rfl, rfl⟩
set_option maxRecDepth 100000 in
theorem isSign_4 (w : World) : Calls Tryd.prog 39 #[.string ⟨#[43, 61]⟩] w fun e w' => e = .returned (.bool true) ∧ w' = w := by
  go_enter Tryd.func39, Tryd.ntmps39
  go_wp2
  go_ret
  exact ⟨rfl, rfl⟩
set_option maxRecDepth 100000 in
theorem isSign_5 (w : World) : Calls Tryd.prog 39 #[.string ⟨#[45, 61]⟩] w fun e w' => e = .returned (.bool true) ∧ w' = w := by
  go_enter Tryd.func39, Tryd.ntmps39
  go_wp2
  go_ret
  exact ⟨rfl, rfl⟩
set_option maxRecDepth 100000 in
theorem isSign_6 (w : World) : Calls Tryd.prog 39 #[.string ⟨#[42, 61]⟩] w fun e w' => e = .returned (.bool true) ∧ w' = w := by
  go_enter Tryd.func39, Tryd.ntmps39
  go_wp2
  go_ret
  exact ⟨rfl, rfl⟩
set_option maxRecDepth 100000 in
theorem isSign_7 (w : World) : Calls Tryd.prog 39 #[.string ⟨#[42, 42]⟩] w fun e w' => e = .returned (.bool true) ∧ w' = w := by
  go_enter Tryd.func39, Tryd.ntmps39
  go_wp2
  go_ret
  exact ⟨rfl, rfl⟩
set_option maxRecDepth 100000 in
theorem isSign_8 (w : World) : Calls Tryd.prog 39 #[.string ⟨#[47, 47, 61]⟩] w fun e w' => e = .returned (.bool true) ∧ w' = w := by
  go_enter Tryd.func39, Tryd.ntmps39
  go_wp2
  go_ret
  exact ⟨rfl, rfl⟩
set_option maxRecDepth 100000 in
theorem isSign_9 (w : World) : Calls Tryd.prog 39 #[.string ⟨#[47, 47]⟩] w fun e w' => e = .returned (.bool true) ∧ w' = w := by
  go_enter Tryd.func39, Tryd.ntmps39
  go_wp2
  go_ret
  exact ⟨rfl, rfl⟩
set_option maxRecDepth 100000 in
theorem isSign_10 (w : World) : Calls Tryd.prog 39 #[.string ⟨#[37, 61]⟩] w fun e w' => e = .returned (.bool true) ∧ w' = w := by
  go_enter Tryd.func39, Tryd.ntmps39
  go_wp2
  go_ret
  exact ⟨rfl, rfl⟩
set_option maxRecDepth 100000 in
theorem isSign_11 (w : World) : Calls Tryd.prog 39 #[.string ⟨#[38, 61]⟩] w fun e w' => e = .returned (.bool true) ∧ w' = w := by
  go_enter Tryd.func39, Tryd.ntmps39
  go_wp2
  go_ret
  exact ⟨rfl, rfl⟩
set_option maxRecDepth 100000 in
theorem isSign_12 (w : World) : Calls Tryd.prog 39 #[.string ⟨#[124, 61]⟩] w fun e w' => e = .returned (.bool true) ∧ w' = w := by
  go_enter Tryd.func39, Tryd.ntmps39
  go_wp2
  go_ret
  exact ⟨rfl, rfl⟩
set_option maxRecDepth 100000 in
theorem isSign_13 (w : World) : Calls Tryd.prog 39 #[.string ⟨#[94, 61]⟩] w fun e w' => e = .returned (.bool true) ∧ w' = w := by
  go_enter Tryd.func39, Tryd.ntmps39
  go_wp2
  go_ret
  exact ⟨rfl, rfl⟩
set_option maxRecDepth 100000 in
theorem isSign_14 (w : World) : Calls Tryd.prog 39 #[.string ⟨#[40]⟩] w fun e w' => e = .returned (.bool true) ∧ w' = w := by
  go_enter Tryd.func39, Tryd.ntmps39
  go_wp2
  go_ret
  exact ⟨rfl, rfl⟩
set_option maxRecDepth 100000 in
theorem isSign_15 (w : World) : Calls Tryd.prog 39 #[.string ⟨#[41]⟩] w fun e w' => e = .returned (.bool true) ∧ w' = w := by
  go_enter Tryd.func39, Tryd.ntmps39
  go_wp2
  go_ret
  exact ⟨rfl, rfl⟩
set_option maxRecDepth 100000 in
theorem isSign_16 (w : World) : Calls Tryd.prog 39 #[.string ⟨#[91]⟩] w fun e w' => e = .returned (.bool true) ∧ w' = w := by
  go_enter Tryd.func39, Tryd.ntmps39
  go_wp2
  go_ret
  exact ⟨rfl, rfl⟩
set_option maxRecDepth 100000 in
theorem isSign_17 (w : World) : Calls Tryd.prog 39 #[.string ⟨#[93]⟩] w fun e w' => e = .returned (.bool true) ∧ w' = w := by
  go_enter Tryd.func39, Tryd.ntmps39
  go_wp2
  go_ret
  exact ⟨rfl, rfl⟩
set_option maxRecDepth 100000 in
theorem isSign_18 (w : World) : Calls Tryd.prog 39 #[.string ⟨#[123]⟩] w fun e w' => e = .returned (.bool true) ∧ w' = w := by
  go_enter Tryd.func39, Tryd.ntmps39
  go_wp2
  go_ret
  exact ⟨rfl, rfl⟩
set_option maxRecDepth 100000 in
theorem isSign_19 (w : World) : Calls Tryd.prog 39 #[.string ⟨#[125]⟩] w fun e w' => e = .returned (.bool true) ∧ w' = w := by
  go_enter Tryd.func39, Tryd.ntmps39
  go_wp2
  go_ret
  exact ⟨rfl, rfl⟩
set_option maxRecDepth 100000 in
theorem isSign_20 (w : World) : Calls Tryd.prog 39 #[.string ⟨#[44]⟩] w fun e w' => e = .returned (.bool true) ∧ w' = w := by
  go_enter Tryd.func39, Tryd.ntmps39
  go_wp2
  go_ret
  exact ⟨rfl, rfl⟩
set_option maxRecDepth 100000 in
theorem isSign_21 (w : World) : Calls Tryd.prog 39 #[.string ⟨#[58]⟩] w fun e w' => e = .returned (.bool true) ∧ w' = w := by
  go_enter Tryd.func39, Tryd.ntmps39
  go_wp2
  go_ret
  exact ⟨rfl, rfl⟩
set_option maxRecDepth 100000 in
theorem isSign_22 (w : World) : Calls Tryd.prog 39 #[.string ⟨#[46]⟩] w fun e w' => e = .returned (.bool true) ∧ w' = w := by
  go_enter Tryd.func39, Tryd.ntmps39
  go_wp2
  go_ret
  exact ⟨rfl, rfl⟩
set_option maxRecDepth 100000 in
theorem isSign_23 (w : World) : Calls Tryd.prog 39 #[.string ⟨#[61]⟩] w fun e w' => e = .returned (.bool true) ∧ w' = w := by
  go_enter Tryd.func39, Tryd.ntmps39
  go_wp2
  go_ret
  exact ⟨rfl, rfl⟩
set_option maxRecDepth 100000 in
theorem isSign_24 (w : World) : Calls Tryd.prog 39 #[.string ⟨#[60]⟩] w fun e w' => e = .returned (.bool true) ∧ w' = w := by
  go_enter Tryd.func39, Tryd.ntmps39
  go_wp2
  go_ret
  exact ⟨rfl, rfl⟩
set_option maxRecDepth 100000 in
theorem isSign_25 (w : World) : Calls Tryd.prog 39 #[.string ⟨#[62]⟩] w fun e w' => e = .returned (.bool true) ∧ w' = w := by
  go_enter Tryd.func39, Tryd.ntmps39
  go_wp2
  go_ret
  exact ⟨rfl, rfl⟩
set_option maxRecDepth 100000 in
theorem isSign_26 (w : World) : Calls Tryd.prog 39 #[.string ⟨#[43]⟩] w fun e w' => e = .returned (.bool true) ∧ w' = w := by
  go_enter Tryd.func39, Tryd.ntmps39
  go_wp2
  go_ret
  exact ⟨rfl, rfl⟩
set_option maxRecDepth 100000 in
theorem isSign_27 (w : World) : Calls Tryd.prog 39 #[.string ⟨#[45]⟩] w fun e w' => e = .returned (.bool true) ∧ w' = w := by
  go_enter Tryd.func39, Tryd.ntmps39
  go_wp2
  go_ret
  exact ⟨rfl, rfl⟩
set_option maxRecDepth 100000 in
theorem isSign_28 (w : World) : Calls Tryd.prog 39 #[.string ⟨#[42]⟩] w fun e w' => e = .returned (.bool true) ∧ w' = w := by
  go_enter Tryd.func39, Tryd.ntmps39
  go_wp2
  go_ret
  exact ⟨rfl, rfl⟩
set_option maxRecDepth 100000 in
theorem isSign_29 (w : World) : Calls Tryd.prog 39 #[.string ⟨#[37]⟩] w fun e w' => e = .returned (.bool true) ∧ w' = w := by
  go_enter Tryd.func39, Tryd.ntmps39
  go_wp2
  go_ret
  exact ⟨rfl, rfl⟩
set_option maxRecDepth 100000 in
theorem isSign_30 (w : World) : Calls Tryd.prog 39 #[.string ⟨#[38]⟩] w fun e w' => e = .returned (.bool true) ∧ w' = w := by
  go_enter Tryd.func39, Tryd.ntmps39
  go_wp2
  go_ret
  exact ⟨rfl, rfl⟩
set_option maxRecDepth 100000 in
theorem isSign_31 (w : World) : Calls Tryd.prog 39 #[.string ⟨#[124]⟩] w fun e w' => e = .returned (.bool true) ∧ w' = w := by
  go_enter Tryd.func39, Tryd.ntmps39
  go_wp2
  go_ret
  exact ⟨rfl, rfl⟩
set_option maxRecDepth 100000 in
theorem isSign_32 (w : World) : Calls Tryd.prog 39 #[.string ⟨#[94]⟩] w fun e w' => e = .returned (.bool true) ∧ w' = w := by
  go_enter Tryd.func39, Tryd.ntmps39
  go_wp2
  go_ret
  exact ⟨rfl, rfl⟩
theorem isSign_any (s : ByteArray) (w : World) : Calls Tryd.prog 39 #[.string s] w fun e w' => e = .returned (.bool (isS s.data.toList)) ∧ w' = w := by
  by_cases h : s.data.toList ∈ signs
  · have e : isS s.data.toList = true := by unfold isS; exact decide_eq_true h
    rw [e]
    clear e
    obtain ⟨⟨l⟩⟩ := s
    simp only at h
    have h : l ∈ signs := h
    simp only [signs, List.mem_cons, List.not_mem_nil, or_false] at h
    rcases h with rfl | rfl | rfl | rfl | rfl | rfl | rfl | rfl | rfl | rfl | rfl | rfl | rfl | rfl | rfl | rfl | rfl | rfl | rfl | rfl | rfl | rfl | rfl | rfl | rfl | rfl | rfl | rfl | rfl | rfl | rfl | rfl | rfl
    · exact isSign_0 w
    · exact isSign_1 w
    · exact isSign_2 w
    · exact isSign_3 w
    · exact isSign_4 w
    · exact isSign_5 w
    · exact isSign_6 w
    · exact isSign_7 w
    · exact isSign_8 w
    · exact isSign_9 w
    · exact isSign_10 w
    · exact isSign_11 w
    · exact isSign_12 w
    · exact isSign_13 w
    · exact isSign_14 w
    · exact isSign_15 w
    · exact isSign_16 w
    · exact isSign_17 w
    · exact isSign_18 w
    · exact isSign_19 w
    · exact isSign_20 w
    · exact isSign_21 w
    · exact isSign_22 w
    · exact isSign_23 w
    · exact isSign_24 w
    · exact isSign_25 w
    · exact isSign_26 w
    · exact isSign_27 w
    · exact isSign_28 w
    · exact isSign_29 w
    · exact isSign_30 w
    · exact isSign_31 w
    · exact isSign_32 w
  · have e : isS s.data.toList = false := by unfold isS; exact decide_eq_false h
    rw [e]
    refine isSign_no s w (fun u hu => ?_)
    rw [toList_eq]
    exact beq_eq_false_iff_ne.2 (fun e => h (e ▸ hu))
end Lx
end Go.Proofs.YtgillafjccgkdaaDoor
