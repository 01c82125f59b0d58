/-
  awake: a builder makes a str, and a tuple of it.
-/
import Derived.Test.YtjkpailkamafcaaGreatDoorStoAd
namespace Go.Proofs.YtjkpailkamafcaaGreatDoor
open Go.RowKit Go.WideShapes

namespace Sto
set_option maxRecDepth 100000 in
theorem newStr {w : World} {g : Nat} {ss : List So} {rv : Value} {mo : Option Nat} {n p h : Int} {pm : Option Addr} (H : St w g ss rv mo n p h pm) (hs : ss.length < 1000) (s : ByteArray) :
    Calls Tryz.prog 67 #[.pointer (some ⟨g, 0, none⟩), .string s] w fun e w' => e = .returned (.int .i64 (ss.length : Int)) ∧ (∃ rv', St w' g (ss ++ [⟨true, some (84, ⟨w.heap.size, 0, none⟩)⟩]) rv' mo n p h pm ∧ (rv'.ownBlock = rv.ownBlock ∨ ∃ k, rv'.ownBlock = some k ∧ w.heap.size < k)) ∧ Ex (Own g rv) w w' ∧ w'.cell? ⟨w.heap.size, 0, none⟩ = some (.string s) ∧ w.heap.size < w'.heap.size := by
  have hb1 : Below w.heap.size w (w.alloc (.cells #[.string s] 88)) := (Below.refl _ w).alloc (Nat.le_refl _) _
  have C := addStr (H.of hb1) hs ⟨w.heap.size, 0, none⟩
  have hlg := H.lt
  have hrv : ∀ k, rv.ownBlock = some k → k < w.heap.size := fun k hk => (World.ownsRow.lt H.row k hk).2
  have HB := Lib.hid hb1
  have HR := Lib.hid hrv
  clear H hb1 hrv
  go_enter Tryz.func67, Tryz.ntmps67
  go_wp2_with fail
  refine C.mono ?_
  rintro e w2 ⟨rfl, rv2, h2, hx2, ha2⟩
  clear C
  have H2 := Lib.hid h2
  have HX := Lib.hid hx2
  have HA := Lib.hid ha2
  clear h2 hx2 ha2
  go_wp2_with fail
  go_ret
  have hsz : (w.alloc (.cells #[.string s] 88)).heap.size = w.heap.size + 1 := by simp
  refine ⟨rfl, ⟨rv2, H2.out, ?_⟩, (ex_of HB.out).next HX.out (fun k _ hk => hk), ?_, by have := HX.out.size; omega⟩
  · rcases HA.out with e | ⟨k, e, hk⟩
    · exact Or.inl e
    · exact Or.inr ⟨k, e, by omega⟩
  · refine (World.cell?_of_block (a := ⟨w.heap.size, 0, none⟩) (HX.out.block w.heap.size (by omega) (fun hk => ?_))).trans (World.cell?_alloc_at _ _ _ _ rfl)
    rcases hk with e | e
    · omega
    · have := HR.out _ e
      omega
theorem cells_two {w : World} {a : Nat} {x y : Value} (h0 : w.cell? ⟨a, 0, none⟩ = some x) (h1 : w.cell? ⟨a, 1, none⟩ = some y) : ∀ j u, [x, y][j]? = some u → w.cell? (Addr.add ⟨a, 0, none⟩ j) = some u := by
  intro j u hj
  rw [WideShapes.add_plain]
  match j with
  | 0 => simp at hj; subst hj; exact h0
  | 1 => simp at hj; subst hj; exact h1
  | j + 2 => simp at hj
set_option maxRecDepth 100000 in
/-- A copy of a row of two ints. -/
theorem cloneTwo {w : World} {a : Nat} {cap : Nat} {x y : Int} (h0 : w.cell? ⟨a, 0, none⟩ = some (.int .i64 x)) (h1 : w.cell? ⟨a, 1, none⟩ = some (.int .i64 y)) : Calls Tryz.prog 134 #[.slice (some ⟨a, 0, none⟩) 2 cap] w fun e w' => (∃ a' c', e = .returned (.slice a' 2 c')) ∧ Below w.heap.size w w' := by
  obtain ⟨i0, hi, hz0, hz1, hz2⟩ := info_parts infoI
  have hn : ∀ w h cap, (binOp .eql 23 (.slice (some ⟨h, 0, none⟩) 2 cap) (.slice none 0 0)).run Tryz.prog w = .ok (.bool false) w := fun _ _ _ => by kernel_rfl
  have hb : Below w.heap.size w (w.alloc (.cells #[] 3)) := (Below.refl _ w).alloc (Nat.le_refl _) _
  have HN := Lib.hid (cells_two ((hb.cell (p := ⟨a, 0, none⟩) (lt_of_cell h0)).trans h0) ((hb.cell (p := ⟨a, 1, none⟩) (lt_of_cell h0)).trans h1))
  clear h0 h1 hb
  go_enter Tryz.func134, Tryz.ntmps134
  go_wp2_with (at_builtin; refine wpListS_append_own rfl _ _ 23 rfl w.heap.size 3 i0 (.int .i64 0) 1 8 Tryz.underlying23 hi hz0 hz1 hz2 rfl (by decide) _ 0 [] rfl (World.ownsRow_lit w #[] 0 (Nat.le_refl _) (by decide) rfl) ⟨a, 0, none⟩ 2 cap [.int .i64 x, .int .i64 y] rfl rfl HN.out (by intro u hu; simp at hu; rcases hu with rfl | rfl <;> rfl) (by unfold maxLen; omega) (by omega) (by simp) ?_)
  intro v' w2 hown2 hgrow hat
  obtain ⟨a5, cap5, hv⟩ := ownsS_shape hown2
  subst hv
  have hb2 : Below w.heap.size w w2 := ((Below.refl _ w).alloc (Nat.le_refl _) _).grown hgrow (by simp) (fun k e => by have e' : w.heap.size = k := Option.some.inj e; omega)
  have HB := Lib.hid hb2
  clear hown2 hgrow hat hb2
  go_wp2_with fail
  go_ret
  exact ⟨⟨_, _, rfl⟩, HB.out⟩
set_option maxRecDepth 100000 in
theorem rowTwo {w : World} {a : Nat} {cap : Nat} {x y : Int} (h0 : w.cell? ⟨a, 0, none⟩ = some (.int .i64 x)) (h1 : w.cell? ⟨a, 1, none⟩ = some (.int .i64 y)) : Calls Tryz.prog 105 #[.slice (some ⟨a, 0, none⟩) 2 cap] w fun e w' => (∃ a' c', e = .returned (.agg #[.slice a' 2 c'])) ∧ Below w.heap.size w w' := by
  have hb : Below w.heap.size w (w.alloc (.cells #[.slice none 0 0] 91)) := (Below.refl _ w).alloc (Nat.le_refl _) _
  have C := cloneTwo (cap := cap) ((hb.cell (p := ⟨a, 0, none⟩) (lt_of_cell h0)).trans h0) ((hb.cell (p := ⟨a, 1, none⟩) (lt_of_cell h0)).trans h1)
  have HB := Lib.hid hb
  clear h0 h1 hb
  go_enter Tryz.func105, Tryz.ntmps105
  go_wp2_with fail
  refine C.mono ?_
  rintro e w2 ⟨⟨a', c', rfl⟩, hb2⟩
  clear C
  have z2 : w2.cell? ⟨w.heap.size, 0, none⟩ = some (.slice none 0 0) := (hb2.cell (p := ⟨w.heap.size, 0, none⟩) (by simp)).trans (World.cell?_alloc_at _ _ _ _ rfl)
  have zz : w2.frozen? ⟨w.heap.size, 0, none⟩ = false := (hb2.frozen (p := ⟨w.heap.size, 0, none⟩) (by simp)).trans (World.frozen?_alloc_at _ _ _ _ rfl)
  have HB2 := Lib.hid (HB.out.trans (hb2.mono HB.out.size))
  clear hb2
  have y0 : (w2.setCell ⟨w.heap.size, 0, none⟩ (.slice a' 2 c')).cell? ⟨w.heap.size, 0, none⟩ = some (.slice a' 2 c') := World.cell?_setCell_same' _ _ _ (by rw [z2]; rfl)
  go_wp2_with fail
  refine bodyPost_ret (v := .agg #[.slice a' 2 c']) ?_ rfl ⟨⟨_, _, rfl⟩, HB2.out.setCell (p := ⟨w.heap.size, 0, none⟩) (Nat.le_refl _) _⟩
  simp [results, Tryz.results105, go_sem, y0]
set_option maxRecDepth 100000 in
/-- A tuple of two, the first object of a Store, in slot 1. -/
theorem newTuple {w : World} {g : Nat} {s0 : So} {rv : Value} {p h : Int} {pm : Option Addr} (H : St w g [s0] rv none 0 p h pm) {a : Nat} {cap : Nat} {x y : Int} (h0 : w.cell? ⟨a, 0, none⟩ = some (.int .i64 x)) (h1 : w.cell? ⟨a, 1, none⟩ = some (.int .i64 y)) :
    Calls Tryz.prog 68 #[.pointer (some ⟨g, 0, none⟩), .slice (some ⟨a, 0, none⟩) 2 cap] w fun e w' => e = .returned (.int .i64 1) ∧ (∃ rv' m t, St w' g [s0, ⟨true, some (89, ⟨t, 0, none⟩)⟩] rv' (some m) 1 p h pm ∧ (rv'.ownBlock = rv.ownBlock ∨ ∃ k, rv'.ownBlock = some k ∧ w.heap.size ≤ k) ∧ w'.heap[m]? = some oneMap ∧ (∃ a' c', w'.cell? ⟨t, 0, none⟩ = some (.slice a' 2 c')) ∧ w.heap.size ≤ m ∧ w.heap.size ≤ t) ∧ Ex (Own g rv) w w' := by
  have C1 := rowTwo (cap := cap) h0 h1
  have HH := Lib.hid H
  clear H h0 h1
  go_enter Tryz.func68, Tryz.ntmps68
  go_wp2_with fail
  refine C1.mono ?_
  rintro e w2 ⟨⟨a', c', rfl⟩, hb2⟩
  clear C1
  have hb3 : Below w.heap.size w (w2.alloc (.cells #[.slice a' 2 c'] 93)) := hb2.alloc hb2.size _
  have C2 := addTuple (HH.out.of hb3) ⟨w2.heap.size, 0, none⟩
  have HB3 := Lib.hid hb3
  have HS2 := Lib.hid (show w.heap.size ≤ w2.heap.size from hb2.size)
  clear hb2 hb3
  go_wp2_with fail
  refine C2.mono ?_
  rintro e w4 ⟨rfl, rv4, m, h4, hx4, ha4, hm4, hlm⟩
  clear C2
  have H4 := Lib.hid h4
  have HX := Lib.hid hx4
  have HA := Lib.hid ha4
  have HM := Lib.hid hm4
  have HL := Lib.hid hlm
  clear h4 hx4 ha4 hm4 hlm
  go_wp2_with fail
  go_ret
  have hsz : (w2.alloc (.cells #[.slice a' 2 c'] 93)).heap.size = w2.heap.size + 1 := by simp
  have hS := HS2.out
  have hL := HL.out
  rw [hsz] at hL
  refine ⟨rfl, ⟨rv4, m, w2.heap.size, H4.out, ?_, HM.out, ⟨a', c', ?_⟩, by omega, hS⟩, (ex_of HB3.out).next HX.out (fun k _ hk => hk)⟩
  · rcases HA.out with e | ⟨k, e, hk⟩
    · exact Or.inl e
    · exact Or.inr ⟨k, e, by omega⟩
  · refine (World.cell?_of_block (a := ⟨w2.heap.size, 0, none⟩) (HX.out.block w2.heap.size (by omega) (fun hk => ?_))).trans (World.cell?_alloc_at _ _ _ _ rfl)
    rcases hk with e | e
    · have := HH.out.lt
      omega
    · have := (World.ownsRow.lt HH.out.row _ e).2
      omega
end Sto
end Go.Proofs.YtjkpailkamafcaaGreatDoor
