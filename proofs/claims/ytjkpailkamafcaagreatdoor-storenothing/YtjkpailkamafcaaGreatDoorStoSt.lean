/-
  A Store in memory that has freed nothing: its slots, what is added to them, what they have.
-/
import Derived.Test.YtjkpailkamafcaaGreatDoorStoMem
namespace Go.Proofs.YtjkpailkamafcaaGreatDoor
open Go.RowKit Go.WideShapes

namespace Sto
/-- A Store's eight cells. -/
def sF (rv : Value) (mo : Option Nat) (n p h : Int) (pm : Option Addr) : Nat → Value := fun j => #[rv, .slice none 0 0, .map mo, .int .i64 n, .slice none 0 0, .int .i64 p, .int .i64 h, .pointer pm].getD j .nilFunc
/-- A Store in memory. -/
structure St (w : World) (g : Nat) (ss : List So) (rv : Value) (mo : Option Nat) (n p h : Int) (pm : Option Addr) : Prop where
  b : Blk w g 8 (sF rv mo n p h pm)
  row : Sr2 w rv ss
  nr : rv.ownBlock ≠ some g
  sm : ss.length ≤ 1000
theorem St.lt {w : World} {g : Nat} {ss : List So} {rv : Value} {mo : Option Nat} {n p h : Int} {pm : Option Addr} (H : St w g ss rv mo n p h pm) : g < w.heap.size := H.b.lt (by omega)
theorem St.same {w w' : World} {g : Nat} {ss : List So} {rv : Value} {mo : Option Nat} {n p h : Int} {pm : Option Addr} (H : St w g ss rv mo n p h pm) (e : ∀ k, k = g ∨ rv.ownBlock = some k → w'.heap[k]? = w.heap[k]?) : St w' g ss rv mo n p h pm :=
  ⟨H.b.same (e g (Or.inl rfl)), H.row.same (fun k hk => e k (Or.inr hk)), H.nr, H.sm⟩
theorem St.of {w w' : World} {g : Nat} {ss : List So} {rv : Value} {mo : Option Nat} {n p h : Int} {pm : Option Addr} (H : St w g ss rv mo n p h pm) (hb : Below w.heap.size w w') : St w' g ss rv mo n p h pm :=
  H.same (fun k hk => hb.block k (by
    rcases hk with rfl | hk
    · exact H.lt
    · exact (World.ownsRow.lt H.row k hk).2))
theorem St.new {w : World} {g : Nat} {p h : Int} {pm : Option Addr} (B : Blk w g 8 (sF (.slice none 0 0) none 0 p h pm)) : St w g [] (.slice none 0 0) none 0 p h pm :=
  ⟨B, ⟨rfl, .inl ⟨rfl, rfl⟩⟩, by simp [Value.ownBlock], by simp⟩
/-- What a call that adds leaves of all else. -/
def Own (g : Nat) (rv : Value) (k : Nat) : Prop := k = g ∨ rv.ownBlock = some k
theorem new_two (w : World) (t : TypeId) : ∀ j u, (enc2 ⟨false, none⟩)[j]? = some u → (w.alloc (.cells #[.bool false, .nilIface] t)).cell? (Addr.add ⟨w.heap.size, 0, none⟩ j) = some u := by
  intro j u hj
  rw [WideShapes.add_plain, World.cell?_alloc_at _ _ _ _ rfl]
  simpa [enc2, iv] using hj
/-- Behind unused's append and its store. -/
theorem grown_st {w w5 : World} {g : Nat} {ss : List So} {rv v' : Value} {mo : Option Nat} {n p h : Int} {pm : Option Addr} {o : Obj} (H : St w g ss rv mo n p h pm) (hs : ss.length < 1000) (hown : w5.ownsRow 0 190 2 v' (ss.length + 1) (sol ss ++ enc2 ⟨false, none⟩))
    (hg : (w.alloc o).grownBy w5 rv.ownBlock) (hat : v'.ownBlock = rv.ownBlock ∨ v'.ownBlock = some (w.alloc o).heap.size) :
    w5.heap[g]? = w.heap[g]? ∧ St (w5.setCell ⟨g, 0, none⟩ v') g (ss ++ [⟨false, none⟩]) v' mo n p h pm ∧ Ex (Own g rv) w (w5.setCell ⟨g, 0, none⟩ v') ∧ (v'.ownBlock = rv.ownBlock ∨ ∃ k, v'.ownBlock = some k ∧ w.heap.size ≤ k) := by
  have hlg := H.lt
  have hsz : (w.alloc o).heap.size = w.heap.size + 1 := by simp
  have hb : w5.heap[g]? = w.heap[g]? := (hg.block g (by omega) (fun e => H.nr e.symm)).trans (Below.heap_alloc _ _ _ hlg)
  have hs5 : w.heap.size ≤ w5.heap.size := by have := hg.size; omega
  have hnr : v'.ownBlock ≠ some g := by
    rcases hat with e | e
    · rw [e]; exact H.nr
    · rw [e, hsz]; intro e; injection e with e; omega
  have hr5 : Sr2 w5 v' (ss ++ [⟨false, none⟩]) := by
    unfold Sr2
    rw [sol_app, List.length_append]
    exact hown
  refine ⟨hb, ⟨((H.b.same hb).put 0 v').congr (fun j hj => ?_), hr5.same (fun k hk => Below.heap_setCell _ _ _ _ (fun e => hnr (by rw [hk, e]))), hnr, by simp; omega⟩, ?_, ?_⟩
  · by_cases e : j = 0
    · subst e
      rfl
    · rw [if_neg e]
      have : j = 1 ∨ j = 2 ∨ j = 3 ∨ j = 4 ∨ j = 5 ∨ j = 6 ∨ j = 7 := by omega
      rcases this with rfl | rfl | rfl | rfl | rfl | rfl | rfl <;> rfl
  · refine Ex.setCell (a := w) (w := w5) (p := ⟨g, 0, none⟩) (X := Own g rv) ⟨hg.os, hg.tape, hg.output, hs5, fun j hj hx => ?_⟩ (fun _ => Or.inl rfl) _
    exact (hg.block j (by omega) (fun e => hx (Or.inr e.symm))).trans (Below.heap_alloc _ _ _ hj)
  · rcases hat with e | e
    · exact Or.inl e
    · exact Or.inr ⟨_, e, by omega⟩
set_option maxRecDepth 100000 in
theorem unused_any {w : World} {g : Nat} {ss : List So} {rv : Value} {mo : Option Nat} {n p h : Int} {pm : Option Addr} (H : St w g ss rv mo n p h pm) (hs : ss.length < 1000) :
    Calls Tryz.prog 155 #[.pointer (some ⟨g, 0, none⟩)] w fun e w' => e = .returned (.int .i64 (ss.length : Int)) ∧ ∃ rv', St w' g (ss ++ [⟨false, none⟩]) rv' mo n p h pm ∧ Ex (Own g rv) w w' ∧ (rv'.ownBlock = rv.ownBlock ∨ ∃ k, rv'.ownBlock = some k ∧ w.heap.size ≤ k) := by
  obtain ⟨a, cap, rfl⟩ := ownsS_shape H.row
  have c0 : w.cell? ⟨g, 0, none⟩ = some (.slice a ss.length cap) := H.b.c 0 (by omega)
  have c1 : w.cell? ⟨g, 1, none⟩ = some (.slice none 0 0) := H.b.c 1 (by omega)
  have z0 := H.b.z 0
  obtain ⟨i0, hi, hz0, hz1, hz2⟩ := info_parts infoVs
  have hown : w.ownsRow 0 190 2 (.slice a ss.length cap) ss.length (sol ss) := H.row
  have e1 : IntKind.i64.wrap (((ss.length + 1 : Nat) : Int) - 1) = (ss.length : Int) := by rw [i64_small (by omega) (by omega)]; omega
  have HS := Lib.hid H
  clear H
  go_enter Tryz.func155, Tryz.ntmps155
  go_wp2_with (at_builtin; refine wpListS_append_own rfl _ _ 71 rfl 0 190 i0 (.agg #[.bool false, .nilIface]) 2 24 Tryz.underlying71 hi hz0 hz1 hz2 rfl (by decide) _ _ _ rfl (World.ownsRow.alloc hown _) ⟨w.heap.size, 0, none⟩ 1 1 (enc2 ⟨false, none⟩) rfl rfl (new_two _ _) (fun u hu => by simp [enc2, iv] at hu; rcases hu with rfl | rfl <;> rfl) (by unfold maxLen; omega) (by omega) (Nat.zero_le _) ?_)
  intro v' w5 hown2 hgrow hat
  obtain ⟨a5, cap5, hv⟩ := ownsS_shape hown2
  subst hv
  obtain ⟨hb, hU, hE, hA⟩ := grown_st HS.out hs hown2 hgrow (by simpa using hat)
  have x0 := (World.cell?_of_block (a := ⟨g, 0, none⟩) hb).trans c0
  have x1 := (World.frozen?_of_block (a := ⟨g, 0, none⟩) hb).trans z0
  have y0 := hU.b.c 0 (by omega)
  have HU := Lib.hid hU
  have HE := Lib.hid hE
  have HA := Lib.hid hA
  clear hown2 hgrow hat hb hU c0 c1 z0 hown hE hA
  generalize hn1 : ss.length + 1 = n1 at *
  have y0' : (w5.setCell ⟨g, 0, none⟩ (.slice a5 n1 cap5)).cell? ⟨g, 0, none⟩ = some (.slice a5 n1 cap5) := y0
  clear y0
  go_wp2
  go_ret
  exact ⟨rfl, _, HU.out, HE.out, HA.out⟩
set_option maxRecDepth 100000 in
/-- Add. -/
theorem add_any {w : World} {g : Nat} {ss : List So} {rv : Value} {mo : Option Nat} {n p h : Int} {pm : Option Addr} (H : St w g ss rv mo n p h pm) (hs : ss.length < 1000) (t : TypeId) (b : Addr) :
    Calls Tryz.prog 131 #[.pointer (some ⟨g, 0, none⟩), .iface t (.pointer (some b))] w fun e w' => e = .returned (.int .i64 (ss.length : Int)) ∧ ∃ rv', St w' g (ss ++ [⟨true, some (t, b)⟩]) rv' mo n p h pm ∧ Ex (Own g rv) w w' ∧ (rv'.ownBlock = rv.ownBlock ∨ ∃ k, rv'.ownBlock = some k ∧ w.heap.size ≤ k) := by
  have C := unused_any H hs
  have hl : ss.length < (ss ++ [(⟨false, none⟩ : So)]).length := by simp
  have el : (ss ++ [(⟨false, none⟩ : So)]).set ss.length ⟨true, some (t, b)⟩ = ss ++ [⟨true, some (t, b)⟩] := by
    rw [List.set_append_right _ _ (Nat.le_refl _)]
    simp
  generalize hL : ss.length = L at *
  generalize hs1 : ss ++ [(⟨false, none⟩ : So)] = s1 at *
  clear H
  go_enter Tryz.func131, Tryz.ntmps131
  go_wp2_with fail
  refine C.mono ?_
  rintro e w1 ⟨rfl, rv1, hU, hE, hA⟩
  clear C
  obtain ⟨r, cap, rfl, hrl⟩ := ownsS_some hU.row (by omega)
  have c0 : w1.cell? ⟨g, 0, none⟩ = some (.slice (some ⟨r, 0, none⟩) s1.length cap) := hU.b.c 0 (by omega)
  have r0 := hU.row.c0 L hl
  have r1 := hU.row.c1 L hl
  have r2 := ((hU.row.put0 L hl true).c1 L (by simpa using hl))
  have z0 := hU.row.frozen (L * 2)
  have z1 := hU.row.frozen (L * 2 + 1)
  have i1 : (L : Int) < (s1.length : Int) := by omega
  have i2 : (0 : Int) ≤ (L : Int) := by omega
  have HU := Lib.hid hU
  have HE := Lib.hid hE
  have HA := Lib.hid hA
  clear hU hE hA
  go_wp2
  go_ret
  have hU := HU.out
  have hrg : r ≠ g := fun e => hU.nr (by rw [e]; rfl)
  have hrow := hU.row.both L hl true (t, b)
  rw [el] at hrow
  refine ⟨rfl, .slice (some ⟨r, 0, none⟩) s1.length cap, ⟨hU.b.same ?_, hrow, hU.nr, by rw [← el, List.length_set]; exact hU.sm⟩, ?_, HA.out⟩
  · rw [Below.heap_setCell _ _ _ _ (fun e => hrg e.symm), Below.heap_setCell _ _ _ _ (fun e => hrg e.symm)]
  · refine ((HE.out).setCell (p := ⟨r, L * 2, none⟩) (fun hlt => ?_) _).setCell (p := ⟨r, L * 2 + 1, none⟩) (fun hlt => ?_) _
    all_goals
      rcases HA.out with e | ⟨k, e, hk⟩
      · exact Or.inr e.symm
      · injection e with e
        have : r = k := e
        have hlt' : r < w.heap.size := hlt
        omega
end Sto
end Go.Proofs.YtjkpailkamafcaaGreatDoor
