/-
  Rows of ints of one's own; same; DigestRows, walked.
-/
import Derived.Deep.CutRange
import Derived.Test.YtfcnljdededdjaaDgRow
namespace Go.Proofs.Ytfcnljdededdjaa
open Go.RowKit Go.Shelf Go.WideShapes

theorem Try.infoInt : (Try.prog.info? 3).map (fun i => (i.zero, i.size, i.bytes)) = some (some (.int .i64 0), 1, 8) := by kernel_rfl
theorem ints_one (l : List Int) : ∀ u ∈ (l.map fun x : Int => Value.int .i64 x), u.oneCell' = true := by
  intro u hu
  simp only [List.mem_map] at hu
  obtain ⟨x, _, rfl⟩ := hu
  rfl
theorem segI_cells {w : World} {b off : Nat} {l : List Int} (h : SegI w b off l) : ∀ j u, (l.map fun x : Int => Value.int .i64 x)[j]? = some u → w.cell? (Addr.add ⟨b, off, none⟩ j) = some u := by
  intro j u hu
  rw [List.getElem?_map] at hu
  cases hx : l[j]? with
  | none => rw [hx] at hu; simp at hu
  | some x =>
    rw [hx] at hu
    simp at hu
    have hj : j < l.length := (List.getElem?_eq_some_iff.1 hx).1
    rw [add_plain, h j hj, hx, ← hu]
    rfl
/-- Ints in a row of their own, from block B on. -/
def Ints (B : Nat) (w : World) (v : Value) (l : List Int) : Prop := w.ownsRow B 3 1 v l.length (l.map fun x : Int => Value.int .i64 x)
theorem Ints.nil (B : Nat) (w : World) : Ints B w (.slice none 0 0) [] := ⟨rfl, Or.inl ⟨rfl, rfl⟩⟩
theorem ints_snoc {B : Nat} {w1 : World} {v' : Value} {l : List Int} {d : Int} (h : w1.ownsRow B 3 1 v' (l.length + 1) ((l.map fun x : Int => Value.int .i64 x) ++ [Value.int .i64 d])) : Ints B w1 v' (l ++ [d]) := by
  unfold Ints
  simpa using h
theorem run_append_nothingI (w : World) (c : Nat) : (Builtin.append_ #[33, 33] 33 #[.slice none 0 0, .slice none 0 c]).run Try.prog w = .ok (.slice none 0 0) w := by
  obtain ⟨i0, hi, hz0, hz1, hz2⟩ := info_parts Try.infoInt
  simp [Builtin.append_, run_underlying Try.underlying33, sizeOf, typeInfo, hi, Builtin.lenOf, Builtin.firstCells]
theorem new_one (w : World) (x : Value) (t : TypeId) : ∀ j u, [x][j]? = some u → (w.alloc (.cells #[x] t)).cell? (Addr.add ⟨w.heap.size, 0, none⟩ j) = some u := by
  intro j u hj
  match j, hj with
  | 0, hj => rw [WideShapes.add_plain, World.cell?_alloc_at _ _ _ _ rfl]; simpa using hj
  | j + 1, hj => simp at hj
theorem below_grown {B n : Nat} {w wr w1 : World} {v : Value} {xs : List Value} {o : Obj} {t : TypeId} (hb : Below B w wr) (hB : B ≤ w.heap.size) (hown : wr.ownsRow B t 1 v n xs) (hg : (wr.alloc o).grownBy w1 v.ownBlock) : Below B w w1 := by
  refine (hb.alloc (Nat.le_trans hB hb.size) o).grown hg (by simp; have := hb.size; omega) (fun k e => ?_)
  rcases hown.2 with ⟨rfl, _⟩ | ⟨g, cap, cur, rfl, h1, _⟩
  · cases e
  · simp [Value.ownBlock] at e
    omega
/-- A row of one's own, laid open. -/
theorem Ints.open {B : Nat} {w : World} {v : Value} {l : List Int} (h : Ints B w v l) : ∃ a cap g, v = .slice a l.length cap ∧ l.length ≤ cap ∧ (0 < l.length → a = some ⟨g, 0, none⟩ ∧ g < w.heap.size ∧ B ≤ g) ∧ SegI w g 0 l ∧ ∀ j, 0 < l.length → w.frozen? ⟨g, j, none⟩ = false := by
  have h0 : w.ownsRow B 3 1 v l.length (l.map fun x : Int => Value.int .i64 x) := h
  rcases h0.2 with ⟨rfl, h1⟩ | ⟨g, cap, cur, rfl, hg, hh, hc, _⟩
  · obtain rfl : l = [] := List.eq_nil_of_length_eq_zero h1
    exact ⟨none, 0, 0, rfl, Nat.le_refl _, fun h => absurd h (by simp), fun j h => absurd h (by simp), fun j h => absurd h (by simp)⟩
  · refine ⟨_, cap, g, rfl, hc, fun _ => ⟨rfl, (Array.getElem?_eq_some_iff.1 hh).1, hg⟩, fun j hj => ?_, fun j _ => h0.frozenAt j⟩
    rw [Nat.zero_add, h0.cellAt j (by simpa using hj)]
    simp [hj]
/-- Ints with 77 behind them. -/
structure LentI (B : Nat) (w : World) (g cap : Nat) (l : List Int) : Prop where
  room : l.length + 1 ≤ cap
  ge : B ≤ g
  lt : g < w.heap.size
  seg : SegI w g 0 (l ++ [77])
theorem LentI.below {B : Nat} {w w' : World} {g cap : Nat} {l : List Int} (h : LentI B w g cap l) (hb : Below w.heap.size w w') : LentI B w' g cap l :=
  ⟨h.room, h.ge, Nat.lt_of_lt_of_le h.lt hb.size, fun j hj => (hb.cell (p := ⟨g, 0 + j, none⟩) h.lt).trans (h.seg j hj)⟩
theorem LentI.sl {B : Nat} {w : World} {g cap : Nat} {l : List Int} (h : LentI B w g cap l) : SlI w (some ⟨g, 0, none⟩) l.length cap l := by
  refine ⟨rfl, by have := h.room; omega, g, 0, fun _ => ⟨rfl, h.lt⟩, fun j hj => ?_⟩
  rw [h.seg j (by simp; omega), List.getElem?_append_left hj]
theorem LentI.last {B : Nat} {w : World} {g cap : Nat} {l : List Int} (h : LentI B w g cap l) : w.cell? ⟨g, l.length, none⟩ = some (.int .i64 77) := by
  have := h.seg l.length (by simp)
  rw [Nat.zero_add] at this
  rw [this, List.getElem?_concat_length]
  rfl
theorem LentI.of_row {B : Nat} {w : World} {v : Value} {l : List Int} (h : Ints B w v (l ++ [77])) : ∃ g cap, v = .slice (some ⟨g, 0, none⟩) (l.length + 1) cap ∧ l.length + 1 ≤ cap ∧ LentI B w g cap l := by
  obtain ⟨a, cap, g, e, hc, hp, sg, _⟩ := h.open
  have el : (l ++ [77]).length = l.length + 1 := by simp
  rw [el] at e hc hp
  obtain ⟨rfl, h1, h2⟩ := hp (by omega)
  exact ⟨g, cap, e, hc, hc, h2, h1, sg⟩

theorem extI {l m : List Int} (hl : l.length = m.length) (h : ∀ j, j < l.length → l[j]?.getD 0 = m[j]?.getD 0) : l = m := by
  refine List.ext_getElem hl fun j h1 h2 => ?_
  have := h j h1
  rw [List.getElem?_eq_getElem h1, List.getElem?_eq_getElem h2] at this
  exact this

set_option maxRecDepth 100000 in
set_option maxHeartbeats 2000000 in
/-- same: two lists that hold the same. -/
theorem same_any (a1 a2 : Option Addr) (n1 c1 n2 c2 : Nat) (l : List Int) (w : World) (h1 : SlI w a1 n1 c1 l) (h2 : SlI w a2 n2 c2 l) (hl : l.length ≤ 3000) :
    Calls Try.prog 20 #[.slice a1 n1 c1, .slice a2 n2 c2] w fun e w' => e = .returned (.bool true) ∧ Below w.heap.size w w' := by
  obtain ⟨rfl, k1, b1, o1, p1, s1⟩ := h1
  obtain ⟨rfl, k2, b2, o2, p2, s2⟩ := h2
  have HP1 : Hid (0 < l.length → a1 = some ⟨b1, o1, none⟩ ∧ b1 < w.heap.size) := p1
  have HP2 : Hid (0 < l.length → a2 = some ⟨b2, o2, none⟩ ∧ b2 < w.heap.size) := p2
  have hl0 : ((l.length : Int) != (l.length : Int)) = false := by simp
  clear p1 p2
  go_enter Try.func20, Try.ntmps20
  go_wp2
  go_loopw [5] (fun iv wr => ∃ k : Nat, k ≤ l.length ∧ iv = .int .i64 (k : Int) ∧ Below w.heap.size w wr) (fun iv _ => l.length - (intOf iv).toNat)
  case atStart => exact ⟨0, Nat.zero_le _, rfl, Below.refl _ _⟩
  case round =>
    obtain ⟨k, hk, rfl, hB0⟩ := hrel
    by_cases hlt : k < l.length
    · obtain ⟨e1, q1⟩ := HP1.out (by omega)
      obtain ⟨e2, q2⟩ := HP2.out (by omega)
      have hly : (k : Int) < (l.length : Int) := by omega
      have hcx : wr.cell? ⟨b1, o1 + k, none⟩ = some (.int .i64 (l[k]?.getD 0)) := (hB0.cell (p := ⟨b1, o1 + k, none⟩) q1).trans (s1 k hlt)
      have hcy : wr.cell? ⟨b2, o2 + k, none⟩ = some (.int .i64 (l[k]?.getD 0)) := (hB0.cell (p := ⟨b2, o2 + k, none⟩) q2).trans (s2 k hlt)
      subst e1
      subst e2
      obtain ⟨x, hx⟩ : ∃ x, l[k]?.getD 0 = x := ⟨_, rfl⟩
      rw [hx] at hcx hcy
      clear hx
      have hne : (x != x) = false := by simp
      go_wp2
      go_region
      all_goals go_wp2
      all_goals go_roundw
      case rel => exact ⟨k + 1, by omega, by go_num, hB0.drew⟩
      case measure => simp [intOf]; omega
    · have hly : ¬ (k : Int) < (l.length : Int) := by omega
      go_wp2
      go_ret
      exact ⟨rfl, hB0⟩

set_option maxRecDepth 100000 in
set_option maxHeartbeats 4000000 in
theorem rowsLaw_walk (a : Option Addr) (n cap : Nat) (l : List Int) (w : World) (h : SlI w a n cap l) :
    Calls Try.prog 5 #[.slice a n cap] w fun e w' => e = .returned (.bool true) ∧ Below w.heap.size w w' := by
  obtain ⟨i0, hi, hz0, hz1, hz2⟩ := info_parts Try.infoInt
  have hn := h.1
  subst hn
  go_enter Try.func5, Try.ntmps5
  by_cases hl : 3000 < l.length
  · have t1 : (3000 : Int) < l.length := by omega
    go_wp2_with fail
    refine (awake_any _).mono ?_
    rintro e w2 ⟨rfl, hb2⟩
    go_wp2
    go_ret
    exact ⟨rfl, hb2⟩
  · have t1 : ¬ (3000 : Int) < l.length := by omega
    have hl' : l.length ≤ 3000 := by omega
    clear hl
    go_upto_region 4 with fail
    go_cut [3] from 10 to 12 (fun v W => Ints w.heap.size W v l ∧ Below w.heap.size w W)
    case first =>
      have nn : Ints w.heap.size w (.slice none 0 0) [] := Ints.nil _ _
      have FIN : Hid (∀ (m : List Int) (v' : Value) (w1 : World), m = l → w1.ownsRow w.heap.size 3 1 v' (0 + m.length) ([] ++ m.map fun x : Int => Value.int .i64 x) → w.grownBy w1 (Value.slice none 0 0).ownBlock → Hid (Ints w.heap.size w1 v' l ∧ Below w.heap.size w w1)) := by
        intro m v' w1 e h1 h2
        subst e
        exact ⟨by unfold Ints; simpa using h1, (Below.refl _ w).grown h2 (Nat.le_refl _) (fun k e => by cases e)⟩
      obtain ⟨_, hcap, b, off, hp, sg⟩ := h
      by_cases h0 : 0 < l.length
      · obtain ⟨rfl, hb⟩ := hp h0
        have hs' := segI_cells sg
        clear hp
        go_wp2_with (at_builtin; refine wpList_append_own _ rfl _ _ 33 rfl w.heap.size 3 i0 (.int .i64 0) 1 8 Try.underlying33 hi hz0 hz1 hz2 rfl (by decide) _ _ _ rfl nn ⟨b, off, none⟩ l.length cap (l.map fun x : Int => Value.int .i64 x) rfl (by simp) hs' (ints_one _) (by unfold maxLen; simp; omega) (by simp; omega) (Nat.le_refl _) ?_; intro v' w1 hown hgrow hnil; have HF := FIN.out l v' w1 rfl hown hgrow; clear hown hgrow hnil)
        go_meet
        case rel => exact HF.out
      · obtain rfl : l = [] := List.eq_nil_of_length_eq_zero (by omega)
        clear hp h0
        cases a with
        | none =>
          have ha := run_append_nothingI
          go_wp2_with fail
          go_meet
          case rel => exact ⟨Ints.nil _ _, Below.refl _ _⟩
        | some ad =>
          go_wp2_with (at_builtin; refine wpList_append_own _ rfl _ _ 33 rfl w.heap.size 3 i0 (.int .i64 0) 1 8 Try.underlying33 hi hz0 hz1 hz2 rfl (by decide) _ _ _ rfl nn ad 0 cap [] rfl rfl (fun j u h => by simp at h) (fun u h => by simp at h) (by decide) (by decide) (Nat.le_refl _) ?_; intro v' w1 hown hgrow hnil; have HF := FIN.out [] v' w1 rfl hown hgrow; clear hown hgrow hnil)
          go_meet
          case rel => exact HF.out
    case rest =>
      obtain ⟨hw, hb1⟩ := hcut
      have hown : wc.ownsRow w.heap.size 3 1 u3 l.length (l.map fun x : Int => Value.int .i64 x) := hw
      have hsz := hb1.size
      clear hw
      go_wp2_with (at_builtin; refine wpList_append_own _ rfl _ _ 33 rfl w.heap.size 3 i0 (.int .i64 0) 1 8 Try.underlying33 hi hz0 hz1 hz2 rfl (by decide) _ _ _ rfl (World.ownsRow.alloc hown _) ⟨wc.heap.size, 0, none⟩ 1 1 [.int .i64 77] rfl rfl (new_one _ _ _) (by simp [Value.oneCell']) (by unfold maxLen; omega) (by omega) (by simp; omega) ?_; intro v' w2 hown2 hgrow _; obtain ⟨g, c, ev, hc, hL⟩ := LentI.of_row (ints_snoc (d := 77) hown2); subst ev; have hgrow' : (wc.alloc (.cells #[.int .i64 77] 3)).grownBy w2 u3.ownBlock := hgrow; have hb2 := below_grown hb1 (Nat.le_refl _) hown hgrow'; clear hgrow hgrow' hown2)
      have hX := h.below hb2
      have n1 : tupleZ l ≠ -1 := hashed_ne _ _ (by decide)
      have n2 : frozenZ l ≠ -1 := hashed_ne _ _ (by decide)
      have T1 := tuple_any _ _ _ l w2 hL.sl hl'
      have F1 := frozen_any _ _ _ l w2 hL.sl hl'
      have T2 := rtuple_any _ _ _ l w2 hX hl'
      have F2 := rfrozen_any _ _ _ l w2 hX hl'
      have Q := same_any _ _ _ _ _ _ l w2 hL.sl hX hl'
      obtain ⟨X, hX'⟩ : ∃ X, tupleZ l = X := ⟨_, rfl⟩
      obtain ⟨Y, hY'⟩ : ∃ Y, frozenZ l = Y := ⟨_, rfl⟩
      rw [hX'] at T1 T2 n1
      rw [hY'] at F1 F2 n2
      have m1 : (X != -1) = true := by simpa using n1
      have m2 : (Y != -1) = true := by simpa using n2
      clear hX' hY' hX h hown n1 n2
      refine T1.mono ?_
      rintro e w3 ⟨rfl, rfl⟩
      go_wp2_with fail
      refine F1.mono ?_
      rintro e w4 ⟨rfl, rfl⟩
      go_wp2_with fail
      refine T2.mono ?_
      rintro e w5 ⟨rfl, rfl⟩
      go_wp2_with fail
      refine F2.mono ?_
      rintro e w6 ⟨rfl, rfl⟩
      go_wp2_with fail
      refine Q.mono ?_
      rintro e w7 ⟨rfl, hb7⟩
      replace hL := hL.below hb7
      replace hb7 : Below w.heap.size w w7 := hb2.trans (hb7.mono hb2.size)
      have hlast := hL.last
      have hL77 : ((77 : Int) == 77) = true := rfl
      clear T1 T2 F1 F2 Q hb2
      go_wp2_with fail
      refine (awake_any _).mono ?_
      rintro e w8 ⟨rfl, hb8⟩
      go_wp2
      go_ret
      exact ⟨rfl, hb7.trans (hb8.mono hb7.size)⟩
end Go.Proofs.Ytfcnljdededdjaa
