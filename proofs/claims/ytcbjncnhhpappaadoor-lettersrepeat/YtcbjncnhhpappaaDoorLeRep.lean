/-
  What letters.Repeat and the reference's Repeat do; the walk of LettersRepeat.
-/
import Derived.Test.YtcbjncnhhpappaaDoorLeAwake
import Derived.Test.YtcbjncnhhpappaaDoorLeBytes
namespace Go.Proofs.YtcbjncnhhpappaaDoor
open Go.RowKit Go.Lib

/-- A text so many times. -/
def rep (l : List UInt8) : Nat → List UInt8
  | 0 => []
  | n + 1 => rep l n ++ l
theorem rep_len (l : List UInt8) (n : Nat) : (rep l n).length = n * l.length := by
  induction n with
  | zero => simp [rep]
  | succ n ih => rw [rep, List.length_append, ih, Nat.succ_mul]
/-- The pieces of a good text ahead of another one. -/
theorem rl_encs_app : ∀ (rs : List Nat) (t : List UInt8), (∀ r ∈ rs, isRune r) → rl (encs rs ++ t) = rs ++ rl t
  | [], t, _ => rfl
  | r :: rs, t, h => by
    have hr : isRune r := h r (by simp)
    have hne : enc r ++ (encs rs ++ t) ≠ [] := by simp [enc_ne]
    rw [encs_cons, List.append_assoc, rl_step _ hne, decode_enc r hr]
    simp only [List.drop_left']
    rw [rl_encs_app rs t (fun x hx => h x (by simp [hx])), List.cons_append]
theorem encs_app (a b : List Nat) : encs (a ++ b) = encs a ++ encs b := by simp [encs]
theorem rl_rep (l : List UInt8) (hv : validD l = true) (n : Nat) : (rl (rep l n)).length = n * (rl l).length := by
  have hm := mend_of_valid l hv
  have key : ∀ n, ∃ rs, (∀ r ∈ rs, isRune r) ∧ rep l n = encs rs ∧ rs.length = n * (rl l).length := by
    intro n
    induction n with
    | zero => exact ⟨[], by simp, rfl, by simp⟩
    | succ n ih =>
      obtain ⟨rs, h1, h2, h3⟩ := ih
      refine ⟨rs ++ rl l, fun r hr => ?_, ?_, by rw [List.length_append, h3, Nat.succ_mul]⟩
      · rcases List.mem_append.1 hr with h | h
        · exact h1 r h
        · exact rl_isRune l r h
      · rw [rep, h2, encs_app]
        congr 1
        exact hm.symm
  obtain ⟨rs, h1, h2, h3⟩ := key n
  rw [h2, rl_encs rs h1, h3]

/-- What Repeat answers. -/
def repB (l : List UInt8) (n : Int) : List UInt8 := if n < 1 ∨ l = [] then [] else if (65536 : Int) / ((rl l).length : Int) < n then [] else rep l n.toNat
def repE (l : List UInt8) (n : Int) : Int := if n < 1 ∨ l = [] then 0 else if (65536 : Int) / ((rl l).length : Int) < n then 3 else 0

set_option maxHeartbeats 4000000 in
set_option maxRecDepth 100000 in
theorem repeat_any (s : ByteArray) (n : Int) (w : World) (hs : s.size ≤ 3000) :
    Calls Tryd.prog 21 #[.string s, .int .i64 n] w fun e w' => e = .returned (.tuple #[.string ⟨(repB s.data.toList n).toArray⟩, .int .i64 (repE s.data.toList n)]) ∧ Below w.heap.size w w' := by
  by_cases h1 : n < 1
  · unfold repB repE
    rw [if_pos (.inl h1), if_pos (.inl h1)]
    go_enter Tryd.func21, Tryd.ntmps21
    go_wp2
    go_ret2
    exact ⟨rfl, Below.refl _ _⟩
  · by_cases h0 : s.size = 0
    · have hl : s.data.toList = [] := List.eq_nil_of_length_eq_zero (by rw [str_len]; exact h0)
      have hemp : s.toList.isEmpty = true := by rw [ByteArray.toList_eq, hl]; rfl
      unfold repB repE
      rw [if_pos (.inr hl), if_pos (.inr hl)]
      go_enter Tryd.func21, Tryd.ntmps21
      go_wp2
      go_ret2
      exact ⟨rfl, Below.refl _ _⟩
    · have hl := list_ne s h0
      have hemp : s.toList.isEmpty = false := by
        rw [← decide_eq_emptyBytes]
        exact decide_eq_false (fun h => h0 (by rw [h]; rfl))
      have hp := rl_pos _ hl
      have hle := rl_le s.data.toList
      rw [str_len] at hle
      have hc : ¬ (n < 1 ∨ s.data.toList = []) := fun h => h.elim h1 hl
      have cL := len_any s w (by omega)
      unfold repB repE
      rw [if_neg hc, if_neg hc]
      generalize (rl s.data.toList).length = N at *
      have hN0 : ((N : Int) == 0) = false := beq_eq_false_iff_ne.2 (by omega)
      have hNi : (1 : Int) ≤ (N : Int) := by omega
      have hNj : (N : Int) ≤ 3000 := by omega
      clear hc hl
      by_cases hb : (65536 : Int) / (N : Int) < n
      · rw [if_pos hb, if_pos hb]
        go_enter Tryd.func21, Tryd.ntmps21
        go_wp2_with fail
        refine cL.mono ?_
        rintro e w1 ⟨rfl, b1⟩
        go_wp2
        go_ret2
        exact ⟨rfl, b1⟩
      · rw [if_neg hb, if_neg hb]
        obtain ⟨m, rfl⟩ : ∃ m : Nat, n = m := ⟨n.toNat, by omega⟩
        have hm : m ≤ 65536 := by
          have := Int.ediv_le_self (N : Int) (show (0 : Int) ≤ 65536 by omega)
          omega
        rw [Int.toNat_natCast]
        obtain ⟨K, hK⟩ : ∃ K, s.size * m = K := ⟨_, rfl⟩
        have hmul : (s.size : Int) * (m : Int) = (K : Int) := by rw [← hK]; simp
        have hKb : K ≤ 200000000 := by rw [← hK]; exact Nat.le_trans (Nat.mul_le_mul hs hm) (by decide)
        obtain ⟨R, hR⟩ : ∃ R, rep s.data.toList m = R := ⟨_, rfl⟩
        have HR : Hid (rep s.data.toList m = R) := hR
        rw [hR]
        clear hR hK
        go_enter Tryd.func21, Tryd.ntmps21
        go_wp2_with fail
        refine cL.mono ?_
        rintro e w1 ⟨rfl, b1⟩
        go_wp2_with fail
        have hbk : (w1.alloc (.cells #[.pointer none, .slice none 0 0] 51)).heap[w1.heap.size]? = some (.cells #[.pointer none, .slice none 0 0] 51 (0, 0)) := heap_alloc_new w1 _
        refine (Tryd.Builder_Grow_fresh w1.heap.size w1.heap.size K _ (Nat.le_refl _) hbk (by simp) (by omega)).mono ?_
        rintro e w2 ⟨rfl, hI, b2⟩
        have hI2 := Lib.IsBuilderF.of (Or.inr hI : Lib.IsBuilder 51 5 w1.heap.size w1.heap.size [] w2)
        have b3 : Below w1.heap.size w1 w2 := ((Below.refl _ w1).alloc (Nat.le_refl _) _).trans b2
        clear hI b2 hbk
        go_wp2
        go_loopw [24] (fun a wr => ∃ k : Nat, a = .int .i64 (k : Int) ∧ k ≤ m ∧ Lib.IsBuilderF 51 5 w1.heap.size w1.heap.size (Lib.byteCells (rep s.data.toList k)) wr ∧ Below w1.heap.size w1 wr) (fun a _ => m - (RowKit.intOf a).toNat)
        case atStart => exact ⟨0, rfl, Nat.zero_le _, hI2, b3⟩
        case round =>
          obtain ⟨k, rfl, hk, hI, hbw⟩ := hrel
          have hlen := rep_len s.data.toList k
          rw [str_len] at hlen
          have hkl : k * s.size ≤ 200000000 := Nat.le_trans (Nat.mul_le_mul (show k ≤ 65536 by omega) hs) (by decide)
          obtain ⟨acc, hacc⟩ : ∃ acc, rep s.data.toList k = acc := ⟨_, rfl⟩
          rw [hacc] at hI hlen
          have HA : Hid (rep s.data.toList k = acc) := hacc
          have hal : acc.length ≤ 200000000 := by omega
          clear hacc hlen hkl
          by_cases hlt : k < m
          · have ilt : (k : Int) < (m : Int) := by omega
            go_wp2_with fail
            refine (Tryd.Builder_WriteString_k w1.heap.size w1.heap.size (Lib.byteCells acc) s wr hI (by rw [Lib.byteCells_length]; omega) hbw.size).mono ?_
            rintro e w3 ⟨rfl, h3, hb3, _⟩
            have hI3 : Lib.IsBuilderF 51 5 w1.heap.size w1.heap.size (Lib.byteCells (rep s.data.toList (k + 1))) w3 := by
              rw [rep, HA.out, Lib.byteCells_append]
              exact .inr h3
            clear h3
            go_wp2
            go_roundw
            case rel => exact ⟨k + 1, by go_num, by omega, hI3, hbw.trans hb3⟩
            case measure => simp [RowKit.intOf]; omega
          · have ilt : ¬ (k : Int) < (m : Int) := by omega
            obtain rfl : k = m := by omega
            go_wp2_with fail
            refine (Tryd.Builder_String_any_k w1.heap.size w1.heap.size acc _ hI hbw.size).mono ?_
            rintro e w3 ⟨rfl, _, hb3, _⟩
            go_wp2
            go_ret2
            have hfin := hbw.trans hb3
            refine ⟨?_, b1.trans (hfin.mono b1.size)⟩
            rw [← HR.out, HA.out]
            rfl

set_option maxHeartbeats 4000000 in
set_option maxRecDepth 100000 in
theorem refRepeat_any (s : ByteArray) (n : Int) (w : World) (hs : s.size ≤ 3000) :
    Calls Tryd.prog 22 #[.string s, .int .i64 n] w fun e w' => e = .returned (.tuple #[.string ⟨(repB s.data.toList n).toArray⟩, .int .i64 (repE s.data.toList n)]) ∧ Below w.heap.size w w' := by
  by_cases h1 : n < 1
  · unfold repB repE
    rw [if_pos (.inl h1), if_pos (.inl h1)]
    go_enter Tryd.func22, Tryd.ntmps22
    go_wp2
    go_ret2
    exact ⟨rfl, Below.refl _ _⟩
  · by_cases h0 : s.size = 0
    · have hl : s.data.toList = [] := List.eq_nil_of_length_eq_zero (by rw [str_len]; exact h0)
      have hemp : s.toList.isEmpty = true := by rw [ByteArray.toList_eq, hl]; rfl
      unfold repB repE
      rw [if_pos (.inr hl), if_pos (.inr hl)]
      go_enter Tryd.func22, Tryd.ntmps22
      go_wp2
      go_ret2
      exact ⟨rfl, Below.refl _ _⟩
    · have hl := list_ne s h0
      have hemp : s.toList.isEmpty = false := by
        rw [← decide_eq_emptyBytes]
        exact decide_eq_false (fun h => h0 (by rw [h]; rfl))
      have hp := rl_pos _ hl
      have hle := rl_le s.data.toList
      rw [str_len] at hle
      have hc : ¬ (n < 1 ∨ s.data.toList = []) := fun h => h.elim h1 hl
      have cL := refLen_any s w (by omega)
      unfold repB repE
      rw [if_neg hc, if_neg hc]
      generalize (rl s.data.toList).length = N at *
      have hN0 : ((N : Int) == 0) = false := beq_eq_false_iff_ne.2 (by omega)
      have hNi : (1 : Int) ≤ (N : Int) := by omega
      have hNj : (N : Int) ≤ 3000 := by omega
      clear hc hl
      by_cases hb : (65536 : Int) / (N : Int) < n
      · rw [if_pos hb, if_pos hb]
        go_enter Tryd.func22, Tryd.ntmps22
        go_wp2_with fail
        refine cL.mono ?_
        rintro e w1 ⟨rfl, b1⟩
        go_wp2
        go_ret2
        exact ⟨rfl, b1⟩
      · rw [if_neg hb, if_neg hb]
        obtain ⟨m, rfl⟩ : ∃ m : Nat, n = m := ⟨n.toNat, by omega⟩
        have hm : m ≤ 65536 := by
          have := Int.ediv_le_self (N : Int) (show (0 : Int) ≤ 65536 by omega)
          omega
        rw [Int.toNat_natCast]
        obtain ⟨R, hR⟩ : ∃ R, rep s.data.toList m = R := ⟨_, rfl⟩
        have HR : Hid (rep s.data.toList m = R) := hR
        rw [hR]
        clear hR
        obtain ⟨i0, hi, hz0, hz1, hz2⟩ := info_parts Tryd.infoByte
        go_enter Tryd.func22, Tryd.ntmps22
        go_wp2_with fail
        refine cL.mono ?_
        rintro e w1 ⟨rfl, b1⟩
        go_wp2
        go_loopw [6, 7] (fun v a wr => ∃ k : Nat, a = .int .i64 (k : Int) ∧ k ≤ m ∧ OwnB w1.heap.size wr v (rep s.data.toList k) ∧ Below w1.heap.size w1 wr) (fun _ a _ => m - (RowKit.intOf a).toNat)
        case atStart => exact ⟨0, rfl, Nat.zero_le _, OwnB.nil _ _, Below.refl _ _⟩
        case round =>
          obtain ⟨k, rfl, hk, hI, hbw⟩ := hrel
          have hlen := rep_len s.data.toList k
          rw [str_len] at hlen
          have hkl : k * s.size ≤ 200000000 := Nat.le_trans (Nat.mul_le_mul (show k ≤ 65536 by omega) hs) (by decide)
          obtain ⟨acc, hacc⟩ : ∃ acc, rep s.data.toList k = acc := ⟨_, rfl⟩
          rw [hacc] at hI hlen
          have HA : Hid (rep s.data.toList k = acc) := hacc
          have hal : acc.length ≤ 200000000 := by omega
          clear hacc hlen hkl
          have hsz := hbw.size
          by_cases hlt : k < m
          · have ilt : (k : Int) < (m : Int) := by omega
            have hown : wr.ownsRow w1.heap.size 5 1 _ acc.length (Lib.byteCells acc) := hI
            go_wp2_with (at_builtin; refine Lib.wpList_append_own_string _ rfl _ _ 49 9 rfl w1.heap.size 5 i0 Tryd.underlying49 Tryd.underlying9 hi hz0 hz1 hz2 _ _ _ rfl hown s rfl (by unfold maxLen; omega) (by omega) (by omega) ?_; intro v' w3 hown2 hgrow _)
            have hgrow' : wr.grownBy w3 u6.ownBlock := hgrow
            have hlt2 := hown.lt
            have hI3 : OwnB w1.heap.size w3 v' (rep s.data.toList (k + 1)) := by
              unfold OwnB
              rw [rep, HA.out, Lib.byteCells_append, List.length_append, str_len]
              exact hown2
            have hbw3 := hbw.grown hgrow' hsz (fun k e => (hlt2 k e).1)
            go_roundw
            case rel => exact ⟨k + 1, by go_num, by omega, hI3, hbw3⟩
            case measure => simp [RowKit.intOf]; omega
          · have ilt : ¬ (k : Int) < (m : Int) := by omega
            obtain rfl : k = m := by omega
            have hcv := conv_bytes hI
            go_wp2
            go_ret2
            refine ⟨?_, b1.trans (hbw.mono b1.size)⟩
            rw [← HR.out, HA.out]
            rfl
end Go.Proofs.YtcbjncnhhpappaaDoor
