/-
  What strconv.ParseUint does to at most four hexadecimal digits, and letters.readHex.
-/
import Derived.Test.YtgillafjccgkdaaDoorRows
import Derived.Test.YtgillafjccgkdaaDoorLeShelf
import Derived.Test.YtgillafjccgkdaaDoorLeQ
import Derived.Lib.ConvBytes
import Derived.Lib.AtoiErrMem
import Derived.Lib.Strings
import Derived.Lib.Walk
import Derived.Lib.Hide
import Derived.Laws.Strings3
import Derived.Laws.Closers25
import Derived.Laws.Closers25b
import Derived.WalkKit
import Derived.BigCall
import Derived.BigGuard
namespace Go.Proofs.YtgillafjccgkdaaDoor
open Go.RowKit

/-- What internal/strconv.ParseUint answers. -/
def uTup : Option Nat → Value
  | some v => .tuple #[.int .u64 (v : Int), .nilIface]
  | none => .tuple #[.int .u64 0, .iface 87 (.int .i64 2)]
set_option maxRecDepth 100000 in
theorem low_table : ∀ c : Fin 256, bits .or .u8 ((c.val : Nat) : Int) 32 = ((c.val ||| 32 : Nat) : Int) := by decide +kernel
set_option maxRecDepth 100000 in
theorem or_table : ∀ c : Fin 256, ¬ (48 ≤ c.val ∧ c.val ≤ 57) → ((97 ≤ (c.val ||| 32) ∧ (c.val ||| 32) ≤ 102 ∧ hexd c.val = some ((c.val ||| 32) - 87)) ∨ (hexd c.val = none ∧ (102 < (c.val ||| 32) ∨ (c.val ||| 32) < 97))) ∧ (c.val ||| 32) < 256 := by decide +kernel
/-- What lower makes of a byte that is no decimal digit. -/
theorem low_facts (c : UInt8) (h : ¬ (48 ≤ c.toNat ∧ c.toNat ≤ 57)) : ∃ m : Nat, bits .or .u8 ((c.toNat : Nat) : Int) 32 = (m : Int) ∧ m < 256 ∧ ((97 ≤ m ∧ m ≤ 102 ∧ hexd c.toNat = some (m - 87)) ∨ (hexd c.toNat = none ∧ (102 < m ∨ m < 97))) :=
  have h2 := or_table ⟨c.toNat, c.toNat_lt⟩ h
  ⟨c.toNat ||| 32, low_table ⟨c.toNat, c.toNat_lt⟩, h2.2, h2.1⟩
theorem lower_any (c : UInt8) (m : Int) (hm : bits .or .u8 ((c.toNat : Nat) : Int) 32 = m) (w : World) :
    Calls Tryd.prog 53 #[.int .u8 (c.toNat : Int)] w fun e w' => e = .returned (.int .u8 m) ∧ w' = w := by
  rw [← hm]
  exact Tryd.internal_strconv_lower (c.toNat : Int) w
theorem pow_bd (k n : Nat) (h : k + 1 ≤ n) (hn : n ≤ 4) : 16 ^ (k + 1) ≤ 65536 := Nat.le_trans (Nat.pow_le_pow_right (by omega) (show k + 1 ≤ 4 by omega)) (by decide)

set_option maxHeartbeats 32000000 in
set_option maxRecDepth 100000 in
theorem parse16_any (t : ByteArray) (hne : t.size ≠ 0) (hmax : t.size ≤ 4) (w : World) :
    Calls Tryd.prog 51 #[.string t, .int .i64 16, .int .i64 16] w fun e w' => e = .returned (uTup (hexs 0 t.data.toList)) ∧ w' = Lib.bytesWorld w 5 t := by
  have hemp : t.toList.isEmpty = false := by
    rw [← decide_eq_emptyBytes]
    exact decide_eq_false (fun h => hne (by rw [h]; rfl))
  have hcv := Lib.run_convert_string_bytes (P := Tryd.prog) w 9 25 5 t (u := .string) Tryd.underlying9 Tryd.underlying25 Tryd.underlying5
  have hB : ∀ j, j < t.size → (Lib.bytesWorld w 5 t).cell? ⟨w.heap.size, j, none⟩ = some (.int .u8 (t.data.toList.getD j 0).toNat) := fun j hj => Lib.bytesWorld_cell w 5 t j hj
  obtain ⟨W1, hW1⟩ : ∃ W1, W1 = Lib.bytesWorld w 5 t := ⟨_, rfl⟩
  rw [← hW1] at hcv hB ⊢
  clear hW1
  obtain ⟨bs, hL⟩ : ∃ bs, bs = t.data.toList := ⟨_, rfl⟩
  have hLn : bs.length = t.size := by rw [hL, Lib.size_eq]
  rw [← hL] at hB ⊢
  clear hL
  obtain ⟨R, hR⟩ : ∃ R, uTup (hexs 0 bs) = R := ⟨_, rfl⟩
  have HR : Hid (uTup (hexs 0 bs) = R) := hR
  rw [hR]
  clear hR
  go_enter Tryd.func51, Tryd.ntmps51
  go_wp2
  go_loop [12, 13, 16, 101] (fun vu vn _ vi => ∃ (k acc : Nat) (a : Int), vu = .bool false ∧ vn = .int .u64 a ∧ vi = .int .i64 k ∧ k ≤ t.size ∧ Hid (a = (acc : Int) ∧ acc < 16 ^ k ∧ hexs 0 bs = hexs acc (bs.drop k)))
    (fun _ _ _ vi => t.size - (intOf vi).toNat)
  case atStart => exact ⟨0, 0, 0, rfl, rfl, rfl, by omega, rfl, by decide, rfl⟩
  case round =>
    obtain ⟨k, acc, a, rfl, rfl, rfl, hk, hh⟩ := hrel
    by_cases hkn : k < t.size
    · have hc := hB k hkn
      obtain ⟨ha, hacc, hdec⟩ := hh.out
      clear hh
      have hdrop : bs.drop k = bs[k]'(by omega) :: bs.drop (k + 1) := List.drop_eq_getElem_cons (by omega)
      have hget : bs.getD k 0 = bs[k]'(by omega) := by simp [List.getD, List.getElem?_eq_getElem (show k < bs.length by omega)]
      rw [hdrop] at hdec
      rw [hget] at hc
      generalize bs[k]'(by omega) = c at hc hdec
      have hpb := pow_bd k t.size hkn hmax
      have hps : 16 ^ (k + 1) = 16 ^ k * 16 := Nat.pow_succ ..
      have a0 : 0 ≤ a := by omega
      have a1 : a ≤ 4095 := by omega
      have hc256 : c.toNat < 256 := c.toNat_lt
      clear hB hdrop hget
      by_cases hdig : 48 ≤ c.toNat ∧ c.toNat ≤ 57
      · have hF := hexs_some acc (c.toNat - 48) c (bs.drop (k + 1)) (by unfold hexd; rw [if_pos hdig])
        have HN : Hid (a * 16 + ((c.toNat : Int) - 48) = ((16 * acc + (c.toNat - 48) : Nat) : Int) ∧ 16 * acc + (c.toNat - 48) < 16 ^ (k + 1) ∧ hexs 0 bs = hexs (16 * acc + (c.toNat - 48)) (bs.drop (k + 1))) := Lib.hid ⟨by omega, by omega, hdec.trans hF⟩
        obtain ⟨hd0, hd1⟩ := hdig
        have id0 : (48 : Int) ≤ (c.toNat : Int) := by omega
        have id1 : (c.toNat : Int) ≤ 57 := by omega
        have icut : a < 1152921504606846976 := by omega
        have iov : a * 16 + ((c.toNat : Int) - 48) ≤ 65535 := by omega
        clear hF hdec ha hacc hps hpb hd0 hd1
        go_wp2
        exact ⟨⟨k + 1, 16 * acc + (c.toNat - 48), a * 16 + ((c.toNat : Int) - 48), rfl, (by first | rfl | (congr 1; omega)), (by first | rfl | (congr 1; omega)), by omega, HN⟩, by simp [intOf]; omega⟩
      · obtain ⟨m, hm, hm256, hcase⟩ := low_facts c hdig
        have HM : Hid (bits .or .u8 ((c.toNat : Nat) : Int) 32 = (m : Int)) := hm
        clear hm
        have hdig' : ¬ ((48 : Int) ≤ (c.toNat : Int) ∧ (c.toNat : Int) ≤ 57) := by omega
        rcases hcase with ⟨h97, h102, hx⟩ | ⟨hx, hout⟩
        · have hF := hexs_some acc (m - 87) c (bs.drop (k + 1)) hx
          have HN : Hid (a * 16 + ((m : Int) - 87) = ((16 * acc + (m - 87) : Nat) : Int) ∧ 16 * acc + (m - 87) < 16 ^ (k + 1) ∧ hexs 0 bs = hexs (16 * acc + (m - 87)) (bs.drop (k + 1))) := Lib.hid ⟨by omega, by omega, hdec.trans hF⟩
          have icut : a < 1152921504606846976 := by omega
          have iov : a * 16 + ((m : Int) - 87) ≤ 65535 := by omega
          have im0 : (97 : Int) ≤ (m : Int) := by omega
          have im1 : (m : Int) ≤ 102 := by omega
          have h95 : (((c.toNat : Nat) : Int) == 95) = false := by
            refine beq_eq_false_iff_ne.2 (fun e => ?_)
            have e' : c.toNat = 95 := by omega
            rw [e'] at hx
            simp [hexd] at hx
          clear hF hdec ha hacc hps hpb hx h97 h102 hdig
          go_wp2_with (go_at_call 53; refine (lower_any c (m : Int) HM.out _).mono ?_; rintro e w' ⟨rfl, rfl⟩)
          all_goals exact ⟨⟨k + 1, 16 * acc + (m - 87), a * 16 + ((m : Int) - 87), rfl, (by first | rfl | (congr 1; omega)), (by first | rfl | (congr 1; omega)), by omega, HN⟩, by simp [intOf]; omega⟩
        · have hF := hexs_none acc c (bs.drop (k + 1)) hx
          have HN : Hid (hexs 0 bs = none) := Lib.hid (hdec.trans hF)
          clear hF hdec ha hacc hps hpb hx hdig
          have hout' : (102 : Int) < (m : Int) ∨ (m : Int) < 97 := by omega
          obtain ⟨b95, h95⟩ : ∃ b, (((c.toNat : Nat) : Int) == 95) = b := ⟨_, rfl⟩
          cases b95
          all_goals
            go_wp2_with (go_at_call 53; refine (lower_any c (m : Int) HM.out _).mono ?_; rintro e w' ⟨rfl, rfl⟩)
            all_goals go_ret2
            all_goals exact ⟨by rw [← HR.out, HN.out]; rfl, rfl⟩
    · have hkk : k = t.size := by omega
      subst hkk
      have HN : Hid (a = (acc : Int) ∧ hexs 0 bs = some acc) := by
        obtain ⟨ha, hacc, hdec⟩ := hh.out
        refine ⟨ha, ?_⟩
        rw [hdec, List.drop_eq_nil_of_le (by omega)]
        rfl
      clear hh
      go_wp2
      go_ret2
      refine ⟨?_, rfl⟩
      rw [← HR.out, HN.out.2, HN.out.1]
      rfl

/-- What the walks ask of the package-level variables. -/
structure Env (w : World) : Prop where
  tabs : Lib.Utf8Tabs 0 1 w
  err : ∃ ev, w.cell? ⟨2, 0, none⟩ = some ev ∧ (ev = .nilIface ∨ ∃ te pe, ev = .iface te pe)
theorem lt_of_cell {w : World} {b o : Nat} {v : Value} (h : w.cell? ⟨b, o, none⟩ = some v) : b < w.heap.size := by
  unfold World.cell? at h
  split at h
  · rename_i c e f hb
    exact (Array.getElem?_eq_some_iff.1 hb).1
  · simp at h
theorem Env.below {w w' : World} (h : Env w) (hb : Below w.heap.size w w') : Env w' := by
  refine ⟨Utf8Tabs_below h.tabs hb, ?_⟩
  · obtain ⟨ev, h1, h2⟩ := h.err
    exact ⟨ev, (hb.cell (p := ⟨_, 0, none⟩) (lt_of_cell h1)).trans h1, h2⟩

/-- What strconv.ParseUint answers: the number; or 0 and an error. -/
theorem pub16_any (t : ByteArray) (hne : t.size ≠ 0) (hmax : t.size ≤ 4) (w : World) (hE : Env w) :
    Calls Tryd.prog 50 #[.string t, .int .i64 16, .int .i64 16] w fun e w' => (∃ v N, e = .returned (.tuple #[.int .u64 (((hexs 0 t.data.toList).getD 0 : Nat) : Int), v]) ∧ ((hexs 0 t.data.toList).isSome = true ∧ v = .nilIface ∨ (hexs 0 t.data.toList).isSome = false ∧ v = .iface 89 (.pointer (some ⟨N, 0, none⟩)))) ∧ Below w.heap.size w w' := by
  obtain ⟨ev, hev, hev2⟩ := hE.err
  have hbw := Lib.bytesWorld_below w 5 t
  have hev' : (Lib.bytesWorld w 5 t).cell? ⟨2, 0, none⟩ = some ev := (hbw.cell (p := ⟨_, 0, none⟩) (lt_of_cell hev)).trans hev
  have c16 := parse16_any t hne hmax w
  generalize Lib.bytesWorld w 5 t = W1 at *
  cases hx : hexs 0 t.data.toList with
  | some v =>
    rw [hx] at c16
    go_enter Tryd.func50, Tryd.ntmps50
    go_wp2_with fail
    refine c16.mono ?_
    rintro e w1 ⟨rfl, rfl⟩
    unfold uTup
    go_wp2
    go_ret2
    exact ⟨⟨_, 0, rfl, .inl ⟨rfl, rfl⟩⟩, hbw⟩
  | none =>
    rw [hx] at c16
    go_enter Tryd.func50, Tryd.ntmps50
    go_wp2_with fail
    refine c16.mono ?_
    rintro e w1 ⟨rfl, rfl⟩
    unfold uTup
    go_wp2_with fail
    refine (Tryd.strconv_toError_syntax _ t 16 16 ev _ (by omega) hev' hev2).mono ?_
    rintro e w2 ⟨N, rfl, _, _, hb2⟩
    go_wp2
    go_ret2
    exact ⟨⟨_, N, rfl, .inr ⟨rfl, rfl⟩⟩, hbw.trans (hb2.mono hbw.size)⟩

end Go.Proofs.YtgillafjccgkdaaDoor
