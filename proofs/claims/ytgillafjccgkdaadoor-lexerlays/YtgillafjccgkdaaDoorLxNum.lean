/-
  Numbers, names, signs: they are read.
-/
import Derived.Test.YtgillafjccgkdaaDoorLxRead
namespace Go.Proofs.YtgillafjccgkdaaDoor
open Go.RowKit Go.WideShapes
namespace Lx

theorem cut_list (src : ByteArray) (a k : Nat) : (cutB src a k).data.toList = (src.data.toList.drop a).take k := rfl
theorem cut_size (src : ByteArray) (a k : Nat) (h : k ≤ (src.data.toList.drop a).length) : (cutB src a k).size = k := by
  rw [← size_list, cut_list, List.length_take]
  omega
theorem getD_at (s : ByteArray) (a : Nat) (h : a < s.size) : s.data.toList.getD a 0 = s[a]'h := by
  rw [List.getD, List.getElem?_eq_getElem (by rw [size_list]; exact h)]
  rfl
theorem allD_iff (l : List UInt8) : allD l = true ↔ ∀ j, j < l.length → isD (l.getD j 0) = true := by
  unfold allD
  rw [List.all_eq_true]
  constructor
  · intro h j hj
    rw [List.getD, List.getElem?_eq_getElem hj]
    exact h _ (List.getElem_mem hj)
  · intro h x hx
    obtain ⟨j, hj, rfl⟩ := List.mem_iff_getElem.1 hx
    have := h j hj
    rw [List.getD, List.getElem?_eq_getElem hj] at this
    exact this
set_option maxRecDepth 100000 in
set_option maxHeartbeats 1000000 in
theorem isNumber_any (s : ByteArray) (w : World) (h0 : 0 < s.size) (hsz : s.size ≤ 65536) :
    Calls Tryd.prog 33 #[.string s] w fun e w' => e = .returned (.bool (isN s.data.toList)) ∧ w' = w := by
  go_enter Tryd.func33, Tryd.ntmps33
  go_wp2_with fail
  obtain ⟨R, hR⟩ : ∃ R, R = isN s.data.toList := ⟨_, rfl⟩
  have HR := Lib.hid hR
  go_loopg [3, 6] s.size (fun gk _ v6 wr => ∃ a, a + gk = s.size ∧ v6 = .int .i64 (a : Int) ∧ (∀ j, j < a → isD (s.data.toList.getD j 0) = true) ∧ wr = w)
  case atStart => exact ⟨0, by omega, rfl, fun j hj => absurd hj (by omega), rfl⟩
  case round =>
    obtain ⟨a, hg, rfl, hall, rfl⟩ := hrel
    have HA := Lib.hid hall
    clear hall hR
    have i3 : (0 : Int) ≤ (a : Int) := by omega
    by_cases hlt : a < s.size
    · have t1 : (a : Int) < (s.size : Int) := by omega
      have eb : wrap64 ((s[a]'hlt).toNat : Int) = ((s[a]'hlt).toNat : Int) := by have := (s[a]'hlt).toNat_lt; unfold wrap64; omega
      have C := isDigit_any (s[a]'hlt) wr
      by_cases hd : isD (s[a]'hlt) = true
      · rw [hd] at C
        have e1 : IntKind.i64.wrap ((a : Int) + 1) = ((a + 1 : Nat) : Int) := by rw [i64_small (by omega) (by omega)]; omega
        have HD := Lib.hid hd
        clear hd
        go_wp2_with (go_at_call 20; simp only [eb] at *; refine C.mono ?_; rintro e w' ⟨rfl, rfl⟩)
        go_roundg (gk - 1)
        case measure => omega
        case rel =>
          refine ⟨a + 1, by omega, rfl, fun j hj => ?_, rfl⟩
          by_cases e : j < a
          · exact HA.out j e
          · obtain rfl : j = a := by omega
            rw [getD_at s j hlt]
            exact HD.out
      · have hd' : isD (s[a]'hlt) = false := by simpa using hd
        rw [hd'] at C
        have HN : Hid (isN s.data.toList = false) := by
          have : allD s.data.toList = false := by
            rw [Bool.eq_false_iff]
            intro h
            have := (allD_iff _).1 h a (by rw [size_list]; exact hlt)
            rw [getD_at s a hlt] at this
            exact hd this
          show isN _ = false
          unfold isN
          rw [this]
          rfl
        clear hd hd'
        go_wp2_with (go_at_call 20; simp only [eb] at *; refine C.mono ?_; rintro e w' ⟨rfl, rfl⟩)
        go_ret
        rw [HN.out]
        exact ⟨rfl, rfl⟩
    · obtain rfl : a = s.size := by omega
      have HN : Hid (isN s.data.toList = (decide (s.size ≤ 1000) && (decide (s[0]'h0 ≠ 48) || decide (s.size = 1)))) := by
        have : allD s.data.toList = true := (allD_iff _).2 (fun j hj => HA.out j (by rw [size_list] at hj; exact hj))
        show isN _ = _
        unfold isN
        rw [this, size_list, getD_at s 0 h0]
        rfl
      have t1 : decide (((s.size : Nat) : Int) < (s.size : Int)) = false := by simp
      have j0 : (0 : Int) < (s.size : Int) := by omega
      by_cases h1 : s.size ≤ 1000
      · have k1 : (s.size : Int) ≤ 1000 := by omega
        by_cases h2 : s[0]'h0 = 48
        · have k2 : (((s[0]'h0).toNat : Int) != 48) = false := by rw [h2]; rfl
          by_cases h3 : s.size = 1
          · have k3 : ((s.size : Int) == 1) = true := by rw [h3]; rfl
            have HV : Hid (isN s.data.toList = true) := by show isN _ = _; rw [HN.out]; simp [h3]
            clear h1 h2 h3
            go_wp2_with fail
            go_ret
            rw [HV.out]
            exact ⟨rfl, rfl⟩
          · have k3 : ((s.size : Int) == 1) = false := beq_eq_false_iff_ne.2 (by omega)
            have HV : Hid (isN s.data.toList = false) := by show isN _ = _; rw [HN.out]; simp [h3, h2]
            clear h1 h2 h3
            go_wp2_with fail
            go_ret
            rw [HV.out]
            exact ⟨rfl, rfl⟩
        · have k2 : (((s[0]'h0).toNat : Int) != 48) = true := by
            simp only [bne_iff_ne, ne_eq]
            intro e
            exact h2 (UInt8.toNat_inj.1 (by show (s[0]'h0).toNat = 48; omega))
          have HV : Hid (isN s.data.toList = true) := by show isN _ = _; rw [HN.out]; simp [h1, h2]
          clear h1 h2
          go_wp2_with fail
          go_ret
          rw [HV.out]
          exact ⟨rfl, rfl⟩
      · have k1 : decide ((s.size : Int) ≤ 1000) = false := by simp; omega
        have HV : Hid (isN s.data.toList = false) := by show isN _ = _; rw [HN.out]; simp; omega
        clear h1
        go_wp2_with fail
        go_ret
        rw [HV.out]
        exact ⟨rfl, rfl⟩
/-- The longest sign of at most n bytes. -/
def sgnN (l : List UInt8) : Nat → List UInt8
  | 0 => []
  | n + 1 => if isS (l.take (n + 1)) then l.take (n + 1) else sgnN l n
theorem sgnN_three (l : List UInt8) : sgnN l 3 = sgn l := rfl
theorem sgnN_more (l : List UInt8) : ∀ k, sgnN l (l.length + k) = sgnN l l.length
  | 0 => rfl
  | k + 1 => by
    rw [← Nat.add_assoc, sgnN, List.take_of_length_le (by omega)]
    rw [sgnN_more l k]
    cases l with
    | nil => rfl
    | cons c t =>
      rw [show (c :: t).length = t.length + 1 from rfl, sgnN, List.take_of_length_le (by simp)]
      split <;> simp_all
set_option maxRecDepth 100000 in
set_option maxHeartbeats 1000000 in
theorem signAt_any (s : ByteArray) (w : World) (hsz : s.size ≤ 65536) :
    Calls Tryd.prog 35 #[.string s] w fun e w' => e = .returned (.string ⟨(sgn s.data.toList).toArray⟩) ∧ w' = w := by
  have hst : sgn s.data.toList = sgnN s.data.toList (min 3 s.size) := by
    rw [← sgnN_three]
    rcases Nat.le_total 3 s.size with h | h
    · rw [Nat.min_eq_left h]
    · rw [Nat.min_eq_right h, ← size_list]
      have := sgnN_more s.data.toList (3 - s.data.toList.length)
      rw [← this]
      congr 1
      rw [size_list]
      omega
  have HST := Lib.hid hst
  have hm : (if (s.size : Int) < 3 then (s.size : Int) else 3) = ((min 3 s.size : Nat) : Int) := by split <;> omega
  have hm2 : (if (3 : Int) ≤ (s.size : Int) then (3 : Int) else (s.size : Int)) = ((min 3 s.size : Nat) : Int) := by split <;> omega
  have hm3 : min (3 : Int) (s.size : Int) = ((min 3 s.size : Nat) : Int) := by omega
  have hle : min 3 s.size ≤ s.size := Nat.min_le_right _ _
  have hle3 : min 3 s.size ≤ 3 := Nat.min_le_left _ _
  clear hst
  go_enter Tryd.func35, Tryd.ntmps35
  go_wp2_with fail
  generalize min 3 s.size = m at *
  clear hm hm2 hm3
  go_loopg [2, 3] m (fun gk v2 v3 wr => v2 = .string ⟨#[]⟩ ∧ ∃ n, n = gk ∧ n ≤ s.size ∧ n ≤ 3 ∧ v3 = .int .i64 (n : Int) ∧ sgnN s.data.toList n = sgnN s.data.toList m ∧ wr = w)
  case atStart => exact ⟨rfl, m, rfl, hle, hle3, rfl, rfl, rfl⟩
  case round =>
    obtain ⟨rfl, n, hgk, hn, hn3, rfl, hs, rfl⟩ := hrel
    have HS := Lib.hid hs
    have HG := Lib.hid hgk
    clear hs hgk
    cases n with
    | zero =>
      have HV : Hid (sgnN s.data.toList m = []) := HS.out.symm
      go_wp2_with fail
      go_ret
      rw [HST.out, HV.out]
      exact ⟨rfl, rfl⟩
    | succ k =>
      have C := isSign_any (s.extract 0 (0 + (k + 1))) wr
      rw [extract_cut, cut_list, List.drop_zero] at C
      have hx : s.extract 0 (k + 1) = cutB s 0 (k + 1) := by have := extract_cut s 0 (k + 1); rw [Nat.zero_add] at this; exact this
      have t0 : (0 : Int) < ((k + 1 : Nat) : Int) := by omega
      have t1 : ((k + 1 : Nat) : Int) ≤ (s.size : Int) := by omega
      have t2 : (0 : Int) ≤ ((k + 1 : Nat) : Int) := by omega
      have tn : ((k + 1 : Nat) : Int).toNat = k + 1 := by omega
      have e1 : IntKind.i64.wrap (((k + 1 : Nat) : Int) - 1) = ((k : Nat) : Int) := by rw [i64_small (by omega) (by omega)]; omega
      by_cases hi : isS (s.data.toList.take (k + 1)) = true
      · rw [hi] at C
        have HV : Hid (sgnN s.data.toList m = s.data.toList.take (k + 1)) := by
          show sgnN _ _ = _
          rw [← HS.out, sgnN, if_pos hi]
        clear hi
        generalize hk : k + 1 = k1 at *
        clear hk e1
        go_wp2_with (go_at_call 39; refine C.mono ?_; rintro e w' ⟨rfl, rfl⟩)
        go_ret
        rw [HST.out, HV.out]
        exact ⟨rfl, rfl⟩
      · have hi' : isS (s.data.toList.take (k + 1)) = false := by simpa using hi
        rw [hi'] at C
        have HV : Hid (sgnN s.data.toList k = sgnN s.data.toList m) := by
          show sgnN _ _ = _
          rw [← HS.out, sgnN, if_neg hi]
        clear hi hi'
        generalize hk : k + 1 = k1 at *
        have HK := Lib.hid hk
        clear hk
        go_wp2_with (go_at_call 39; refine C.mono ?_; rintro e w' ⟨rfl, rfl⟩)
        go_roundg k
        case measure => have := HK.out; have := HG.out; omega
        case rel => exact ⟨rfl, k, rfl, by have := HK.out; omega, by have := HK.out; omega, rfl, HV.out, rfl⟩

set_option maxRecDepth 100000 in
set_option maxHeartbeats 1000000 in
theorem name_any {B : Nat} {w : World} {g : Nat} {src : ByteArray} {s : St} (hX : RdX B w g src s) (hsz : src.size ≤ 65536) (hle : s.at_ ≤ src.size) (hts : s.ts.length ≤ 9000000) :
    Calls Tryd.prog 22 #[.pointer (some ⟨g, 0, none⟩)] w fun e w' =>
      EnR B w g src s.at_ (.ok (s.add (if wrd ((src.data.toList.drop s.at_).take (prt (src.data.toList.drop s.at_))) then 2 else 1) ((src.data.toList.drop s.at_).take (prt (src.data.toList.drop s.at_))) (prt (src.data.toList.drop s.at_)))) e w' := by
  show Calls Tryd.prog _ _ w fun e w' => e = .returned (.tuple #[]) ∧ RdX B w' g src _ ∧ Below B w w'
  have HX := Lib.hid hX
  obtain ⟨bv, tv, h⟩ := hX
  have HBw : Hid (B ≤ w.heap.size) := by have := h.lo; have := h.lt; show B ≤ _; omega
  have C := parts_any h hsz hle
  have hp := prt_le (src.data.toList.drop s.at_)
  have hcs := cut_size src s.at_ _ hp
  rw [List.length_drop, size_list] at hp
  have C2 := word_any (cutB src s.at_ (prt (src.data.toList.drop s.at_)))
  rw [cut_list] at C2
  have HX2 : Hid (cutB src s.at_ (prt (src.data.toList.drop s.at_)) = ⟨((src.data.toList.drop s.at_).take (prt (src.data.toList.drop s.at_))).toArray⟩) := rfl
  generalize prt (src.data.toList.drop s.at_) = k at *
  generalize (src.data.toList.drop s.at_).take k = x at *
  have hcs2 : ((cutB src s.at_ k).size : Int) = (k : Int) := by rw [hcs]
  generalize cutB src s.at_ k = X at *
  have HCS := Lib.hid hcs
  clear h hcs
  cases hw : wrd x with
  | true =>
    rw [hw] at C2
    clear hw
    go_enter Tryd.func22, Tryd.ntmps22
    go_wp2_with fail
    refine C.mono ?_
    rintro e w1 ⟨rfl, hb1⟩
    clear C
    go_wp2_with (go_at_call 8; refine (C2 _).mono ?_; rintro e w' ⟨rfl, rfl⟩)
    refine (put_any (HX.out.below hb1) 2 x k X HX2.out (by omega) (by omega) (by omega)).mono ?_
    rintro e w2 ⟨rfl, h2, hb2⟩
    go_wp2_with fail
    go_end0
    exact ⟨rfl, h2, (hb1.mono HBw.out).trans hb2⟩
  | false =>
    rw [hw] at C2
    clear hw
    go_enter Tryd.func22, Tryd.ntmps22
    go_wp2_with fail
    refine C.mono ?_
    rintro e w1 ⟨rfl, hb1⟩
    clear C
    go_wp2_with (go_at_call 8; refine (C2 _).mono ?_; rintro e w' ⟨rfl, rfl⟩)
    refine (put_any (HX.out.below hb1) 1 x k X HX2.out (by omega) (by omega) (by omega)).mono ?_
    rintro e w2 ⟨rfl, h2, hb2⟩
    go_wp2_with fail
    go_end0
    exact ⟨rfl, h2, (hb1.mono HBw.out).trans hb2⟩
set_option maxRecDepth 100000 in
set_option maxHeartbeats 1000000 in
theorem number_any {B : Nat} {w : World} {g : Nat} {src : ByteArray} {s : St} (hX : RdX B w g src s) (hsz : src.size ≤ 65536) (hle : s.at_ ≤ src.size) (hts : s.ts.length ≤ 9000000) (hpos : 0 < prt (src.data.toList.drop s.at_)) :
    Calls Tryd.prog 23 #[.pointer (some ⟨g, 0, none⟩)] w fun e w' =>
      EnR B w g src s.at_ (if isN ((src.data.toList.drop s.at_).take (prt (src.data.toList.drop s.at_))) then .ok (s.add 3 ((src.data.toList.drop s.at_).take (prt (src.data.toList.drop s.at_))) (prt (src.data.toList.drop s.at_))) else .error 105) e w' := by
  have HX := Lib.hid hX
  obtain ⟨bv, tv, h⟩ := hX
  have HBw : Hid (B ≤ w.heap.size) := by have := h.lo; have := h.lt; show B ≤ _; omega
  have C := parts_any h hsz hle
  have hp := prt_le (src.data.toList.drop s.at_)
  have hcs := cut_size src s.at_ _ hp
  rw [List.length_drop, size_list] at hp
  have C2 := fun w => isNumber_any (cutB src s.at_ (prt (src.data.toList.drop s.at_))) w (by omega) (by omega)
  rw [cut_list] at C2
  have HX2 : Hid (cutB src s.at_ (prt (src.data.toList.drop s.at_)) = ⟨((src.data.toList.drop s.at_).take (prt (src.data.toList.drop s.at_))).toArray⟩) := rfl
  generalize prt (src.data.toList.drop s.at_) = k at *
  generalize (src.data.toList.drop s.at_).take k = x at *
  have hcs2 : ((cutB src s.at_ k).size : Int) = (k : Int) := by rw [hcs]
  generalize cutB src s.at_ k = X at *
  have HCS := Lib.hid hcs
  clear h hcs
  cases hw : isN x with
  | true =>
    show Calls Tryd.prog _ _ w fun e w' => e = .returned (.tuple #[]) ∧ RdX B w' g src _ ∧ Below B w w'
    rw [hw] at C2
    clear hw
    go_enter Tryd.func23, Tryd.ntmps23
    go_wp2_with fail
    refine C.mono ?_
    rintro e w1 ⟨rfl, hb1⟩
    clear C
    go_wp2_with (go_at_call 33; refine (C2 _).mono ?_; rintro e w' ⟨rfl, rfl⟩)
    refine (put_any (HX.out.below hb1) 3 x k X HX2.out (by omega) (by omega) (by omega)).mono ?_
    rintro e w2 ⟨rfl, h2, hb2⟩
    go_wp2_with fail
    go_end0
    exact ⟨rfl, h2, (hb1.mono HBw.out).trans hb2⟩
  | false =>
    show Calls Tryd.prog _ _ w fun e w' => e = offE 105 s.at_ ∧ Below B w w'
    rw [hw] at C2
    clear hw
    go_enter Tryd.func23, Tryd.ntmps23
    go_wp2_with fail
    refine C.mono ?_
    rintro e w1 ⟨rfl, hb1⟩
    clear C
    go_wp2_with (go_at_call 33; refine (C2 _).mono ?_; rintro e w' ⟨rfl, rfl⟩)
    refine (offend_any (HX.out.below hb1) 105).mono ?_
    rintro e w2 ⟨rfl, rfl⟩
    exact ⟨rfl, rfl, hb1.mono HBw.out⟩
end Lx
end Go.Proofs.YtgillafjccgkdaaDoor
