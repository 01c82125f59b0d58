/-
  awake: a builder's values of its two terms.
-/
import Derived.Test.YtjkpailkamafcaaGreatDoorStoBu
import Derived.Test.YtjkpailkamafcaaGreatDoorStoAw2
namespace Go.Proofs.YtjkpailkamafcaaGreatDoor
open Go.RowKit Go.WideShapes

namespace Sto
/-- A builder's four cells. -/
def bF (g T Hm : Nat) (fv : Value) : Nat → Value := fun j => #[Value.pointer (some ⟨g, 0, none⟩), .slice (some ⟨T, 0, none⟩) 2 2, fv, .map (some Hm)].getD j .nilFunc
/-- What values leaves of two zeroes. -/
def VaP (w : World) (e : Ending) (w' : World) : Prop := ∃ a c', e = .returned (.slice (some ⟨a, 0, none⟩) 2 c') ∧ w'.cell? ⟨a, 0, none⟩ = some (.int .i64 0) ∧ w'.cell? ⟨a, 1, none⟩ = some (.int .i64 0) ∧ w.heap.size ≤ a ∧ Below w.heap.size w w'
set_option maxRecDepth 100000 in
/-- The values of two numbers that are 0. -/
theorem values_any {w : World} {b g T K Hm r : Nat} {c : Nat} (hb : Blk w b 4 (bF g T Hm (.slice (some ⟨r, 0, none⟩) 1 c))) (hk : Blk w K 2 (fun _ => .int .i64 0)) (hr : w.cell? ⟨r, 0, none⟩ = some (.int .i64 0)) :
    Calls Tryz.prog 69 #[.pointer (some ⟨b, 0, none⟩), .slice (some ⟨K, 0, none⟩) 2 2] w (VaP w) := by
  have lb := hb.lt (by omega)
  have lk := hk.lt (by omega)
  have lr := lt_of_cell hr
  have b2 : w.cell? ⟨b, 2, none⟩ = some (.slice (some ⟨r, 0, none⟩) 1 c) := hb.c 2 (by omega)
  have k0 : w.cell? ⟨K, 0, none⟩ = some (.int .i64 0) := hk.c 0 (by omega)
  have k1 : w.cell? ⟨K, 1, none⟩ = some (.int .i64 0) := hk.c 1 (by omega)
  clear hb hk
  obtain ⟨i0, hi, hz0, hz1, hz2⟩ := info_parts infoI
  go_enter Tryz.func69, Tryz.ntmps69
  go_wp2_with fail
  go_loopg [5, 10] 2 (fun gk v5 v10 wr => ∃ i : Nat, i + gk = 2 ∧ v10 = .int .i64 (i : Int) ∧ wr.ownsRow w.heap.size 3 1 v5 i (List.replicate i (.int .i64 0)) ∧ Below w.heap.size w wr)
  case atStart => exact ⟨0, rfl, rfl, ⟨rfl, .inl ⟨rfl, rfl⟩⟩, Below.refl _ _⟩
  case round =>
    obtain ⟨i, hi2, rfl, hown, hbw⟩ := hrel
    obtain ⟨a5, c5, rfl⟩ := ownsS_shape hown
    have HO := Lib.hid hown
    have HB := Lib.hid hbw
    by_cases hi3 : i < 2
    · have x2 : wr.cell? ⟨b, 2, none⟩ = some (.slice (some ⟨r, 0, none⟩) 1 c) := (hbw.cell (p := ⟨b, 2, none⟩) lb).trans b2
      have xr : wr.cell? ⟨r, 0, none⟩ = some (.int .i64 0) := (hbw.cell (p := ⟨r, 0, none⟩) lr).trans hr
      have xk : wr.cell? ⟨K, i, none⟩ = some (.int .i64 0) := by
        have : i = 0 ∨ i = 1 := by omega
        rcases this with rfl | rfl
        · exact (hbw.cell (p := ⟨K, 0, none⟩) lk).trans k0
        · exact (hbw.cell (p := ⟨K, 1, none⟩) lk).trans k1
      have t1 : (i : Int) < 2 := by omega
      have t0 : (0 : Int) ≤ (i : Int) := by omega
      have e1 : IntKind.i64.wrap ((i : Int) + 1) = ((i + 1 : Nat) : Int) := by rw [i64_small (by omega) (by omega)]; omega
      have hbs := hbw.size
      clear hown hbw b2 k0 k1
      go_wp2_with (at_builtin; refine wpListS_append_own rfl _ _ 23 rfl w.heap.size 3 i0 (.int .i64 0) 1 8 Tryz.underlying23 hi hz0 hz1 hz2 rfl (by decide) _ _ _ rfl (World.ownsRow.alloc HO.out _) ⟨wr.heap.size, 0, none⟩ 1 1 [.int .i64 0] rfl rfl (new_one _ _ _) (fun u hu => by simp at hu; rcases hu with rfl; rfl) (by unfold maxLen; omega) (by omega) (by simp; omega) ?_)
      intro v' w5 hown2 hgrow hat
      have hown3 : w5.ownsRow w.heap.size 3 1 v' (i + 1) (List.replicate (i + 1) (.int .i64 0)) := by
        rw [List.replicate_succ']
        exact hown2
      have hbl : Below w.heap.size w w5 := (HB.out.alloc (by omega) _).grown hgrow (by simp; omega) (fun q hq => (World.ownsRow.lt HO.out q hq).1)
      have HO3 := Lib.hid hown3
      have HBL := Lib.hid hbl
      clear hown2 hgrow hat hown3 hbl
      go_wp2_with fail
      go_roundg (1 - i)
      case measure => omega
      case rel => exact ⟨i + 1, by omega, by first | rfl | trivial, HO3.out, HBL.out⟩
    · obtain rfl : i = 2 := by omega
      have t1 : ((2 : Nat) : Int) = 2 := rfl
      obtain ⟨q, c6, e6, _⟩ := ownsS_some hown (by omega)
      injection e6 with e6 _ e7
      subst e6 e7
      have h0 : w.heap.size ≤ q := (World.ownsRow.lt hown q rfl).1
      have x0 := hown.cellAt 0 (by omega)
      have x1 := hown.cellAt 1 (by omega)
      have H0 := Lib.hid x0
      have H1 := Lib.hid x1
      clear hown hbw x0 x1 b2 k0 k1
      go_wp2_with fail
      go_ret
      exact ⟨_, _, rfl, H0.out, H1.out, h0, HB.out⟩
set_option maxRecDepth 100000 in
theorem valueS {w : World} {b g T Hm : Nat} {fv : Value} {ss : List So} {rv : Value} {mo : Option Nat} {n p h : Int} {pm : Option Addr} (hb : Blk w b 4 (bF g T Hm fv)) (H : St w g ss rv mo n p h pm) (hs : ss.length < 1000) :
    Calls Tryz.prog 36 #[.pointer (some ⟨b, 0, none⟩), tS] w fun e w' => e = .returned (.int .i64 (ss.length : Int)) ∧ (∃ rv' q, St w' g (ss ++ [⟨true, some (84, ⟨q, 0, none⟩)⟩]) rv' mo n p h pm ∧ (rv'.ownBlock = rv.ownBlock ∨ ∃ k, rv'.ownBlock = some k ∧ w.heap.size ≤ k) ∧ w'.cell? ⟨q, 0, none⟩ = some (.string ⟨#[97]⟩) ∧ w.heap.size ≤ q ∧ q < w'.heap.size ∧ ∀ k, rv'.ownBlock = some k → k ≠ q) ∧ Ex (Own g rv) w w' := by
  have b0 : w.cell? ⟨b, 0, none⟩ = some (.pointer (some ⟨g, 0, none⟩)) := hb.c 0 (by omega)
  have hba := fun o => (Below.refl w.heap.size w).alloc (Nat.le_refl _) o
  have C := fun o => newStr (H.of (hba o)) hs ⟨#[97]⟩
  have lb := hb.lt (by omega)
  have hrv : ∀ k, rv.ownBlock = some k → k < w.heap.size := fun k hk => (World.ownsRow.lt H.row k hk).2
  have HR := Lib.hid hrv
  have HBA := Lib.hid hba
  clear hb H hba hrv
  unfold tS
  go_enter Tryz.func36, Tryz.ntmps36
  go_wp2_with fail
  refine (C _).mono ?_
  rintro e w2 ⟨rfl, ⟨rv2, h2, ha2⟩, hx2, hc2, hq2⟩
  clear C
  have H2 := Lib.hid h2
  have HX := Lib.hid hx2
  have HA := Lib.hid ha2
  have HC := Lib.hid hc2
  have HQ := Lib.hid hq2
  clear h2 hx2 ha2 hc2 hq2
  go_wp2_with fail
  go_ret
  have hA := HA.out
  simp only [show ∀ o, (w.alloc o).heap.size = w.heap.size + 1 from fun o => by simp] at hA
  refine ⟨rfl, ⟨rv2, _, H2.out, ?_, HC.out, by simp, HQ.out, fun k hk => ?_⟩, (ex_of (HBA.out _)).next HX.out (fun k _ hk => hk)⟩
  · rcases hA with e | ⟨k, e, hk⟩
    · exact Or.inl e
    · exact Or.inr ⟨k, e, by omega⟩
  · rcases hA with e | ⟨k', e, hk'⟩
    · have := HR.out k (by rw [← e]; exact hk)
      simp
      omega
    · have : k' = k := by rw [e] at hk; exact Option.some.inj hk
      simp
      omega
set_option maxRecDepth 100000 in
theorem valueT {w : World} {b g T K Hm r : Nat} {c : Nat} {s0 : So} {rv : Value} {p h : Int} {pm : Option Addr} (hb : Blk w b 4 (bF g T Hm (.slice (some ⟨r, 0, none⟩) 1 c))) (hk : Blk w K 2 (fun _ => .int .i64 0)) (hr : w.cell? ⟨r, 0, none⟩ = some (.int .i64 0)) (H : St w g [s0] rv none 0 p h pm) :
    Calls Tryz.prog 36 #[.pointer (some ⟨b, 0, none⟩), tT K] w fun e w' => e = .returned (.int .i64 1) ∧ (∃ rv' m t, St w' g [s0, ⟨true, some (89, ⟨t, 0, none⟩)⟩] rv' (some m) 1 p h pm ∧ (rv'.ownBlock = rv.ownBlock ∨ ∃ k, rv'.ownBlock = some k ∧ w.heap.size ≤ k) ∧ w'.heap[m]? = some oneMap ∧ (∃ a' c', w'.cell? ⟨t, 0, none⟩ = some (.slice a' 2 c')) ∧ w.heap.size ≤ m ∧ w.heap.size ≤ t) ∧ Ex (Own g rv) w w' := by
  have b0 : w.cell? ⟨b, 0, none⟩ = some (.pointer (some ⟨g, 0, none⟩)) := hb.c 0 (by omega)
  have hba := fun o => (Below.refl w.heap.size w).alloc (Nat.le_refl _) o
  have C1 := fun o => values_any (hb.of (hba o) (by omega)) (hk.of (hba o) (by omega)) (((hba o).cell (p := ⟨r, 0, none⟩) (lt_of_cell hr)).trans hr)
  have lb := hb.lt (by omega)
  have HH := Lib.hid H
  have HBA := Lib.hid hba
  clear hb H hba hk hr
  unfold tT
  go_enter Tryz.func36, Tryz.ntmps36
  go_wp2_with fail
  refine (C1 _).mono ?_
  rintro e w2 ⟨a, c', rfl, a0, a1, ha, hb2⟩
  clear C1
  simp only [show ∀ o, (w.alloc o).heap.size = w.heap.size + 1 from fun o => by simp] at ha
  have hbw : Below w.heap.size w w2 := (HBA.out _).trans (hb2.mono (by simp))
  have C2 := newTuple (cap := c') (HH.out.of hbw) a0 a1
  have HB2 := Lib.hid hbw
  clear hb2 a0 a1 hbw
  go_wp2_with fail
  refine C2.mono ?_
  rintro e w3 ⟨rfl, ⟨rv3, m, t, h3, ha3, hm3, hc3, hlm, hlt⟩, hx3⟩
  clear C2
  have H3 := Lib.hid h3
  have HA := Lib.hid ha3
  have HM := Lib.hid hm3
  have HC := Lib.hid hc3
  have HX := Lib.hid hx3
  have HL := Lib.hid (And.intro hlm hlt)
  clear h3 ha3 hm3 hc3 hx3 hlm hlt
  go_wp2_with fail
  go_ret
  have hS := HB2.out.size
  refine ⟨rfl, ⟨rv3, m, t, H3.out, ?_, HM.out, HC.out, by have := HL.out; omega, by have := HL.out; omega⟩, (ex_of HB2.out).next HX.out (fun k _ hk => hk)⟩
  rcases HA.out with e | ⟨k, e, hk⟩
  · exact Or.inl e
  · exact Or.inr ⟨k, e, by omega⟩
end Sto
end Go.Proofs.YtjkpailkamafcaaGreatDoor
