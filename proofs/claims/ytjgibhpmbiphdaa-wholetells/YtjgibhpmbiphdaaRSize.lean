/-
  The reference: size.
-/
import Derived.Test.YtjgibhpmbiphdaaRMade
namespace Go.Proofs.Ytjgibhpmbiphdaa
open Go.RowKit

theorem rsize_other (ax ay : Option Addr) (nx cx ny cy : Nat) (w : World) (hne : nx ≠ ny) :
    Calls Try.prog 56 #[.slice ax nx cx, .slice ay ny cy] w fun e w' => e = .returned (.int .i64 (cmpN nx ny)) ∧ Below w.heap.size w w' := by
  have h0 : ((nx : Int) != (ny : Int)) = true := by rw [bne_iff_ne]; omega
  rcases Nat.lt_or_gt_of_ne hne with h | h
  · have e : cmpN nx ny = -1 := by simp [cmpN, h]
    have t : (nx : Int) < ny := by omega
    rw [e]
    clear hne
    go_enter Try.func56, Try.ntmps56
    go_wp2
    go_ret
    exact ⟨rfl, Below.refl _ _⟩
  · have e : cmpN nx ny = 1 := by simp [cmpN, h]; omega
    have t : ¬ (nx : Int) < ny := by omega
    rw [e]
    clear hne
    go_enter Try.func56, Try.ntmps56
    go_wp2
    go_ret
    exact ⟨rfl, Below.refl _ _⟩

set_option maxRecDepth 100000 in
set_option maxHeartbeats 2000000 in
theorem rsize_same (ax ay : Option Addr) (len cx cy b off b2 off2 : Nat) (xs ys : List Nat) (w : World) (hlen : len ≤ 1000000) (hx : xs.length = len) (hy : ys.length = len)
    (hax : 0 < len → ax = some ⟨b, off, none⟩ ∧ b < w.heap.size) (hay : 0 < len → ay = some ⟨b2, off2, none⟩ ∧ b2 < w.heap.size) (sx : Seg .u32 w b off xs) (sy : Seg .u32 w b2 off2 ys) (ox : okw xs) (oy : okw ys) :
    Calls Try.prog 56 #[.slice ax len cx, .slice ay len cy] w fun e w' => e = .returned (.int .i64 (cmpN (val xs) (val ys))) ∧ Below w.heap.size w w' := by
  have h0 : ((len : Int) != (len : Int)) = false := by simp
  go_enter Try.func56, Try.ntmps56
  go_wp2_with fail
  go_loopw [5] (fun i wr => ∃ k : Nat, k ≤ len ∧ i = .int .i64 ((k : Int) - 1) ∧ (∀ j, k ≤ j → j < len → xs[j]?.getD 0 = ys[j]?.getD 0) ∧ Below w.heap.size w wr) (fun i _ => (intOf i + 1).toNat)
  case atStart => exact ⟨len, Nat.le_refl _, rfl, fun j h1 h2 => by omega, Below.refl _ _⟩
  case round =>
    obtain ⟨k, hk, rfl, hs, hb⟩ := hrel
    cases k with
    | zero =>
      have hv : cmpN (val xs) (val ys) = 0 := by
        rw [ext_get (hx.trans hy.symm) (fun j hj => hs j (by omega) (by omega))]
        simp [cmpN]
      have HE : Hid (cmpN (val xs) (val ys) = 0) := hv
      rw [show ((0 : Nat) : Int) - 1 = -1 from rfl]
      clear hs hv sx sy
      go_wp2
      go_ret
      exact ⟨by rw [HE.out]; rfl, hb⟩
    | succ k =>
      obtain ⟨e2, hlt2⟩ := hay (by omega)
      obtain ⟨e1, hlt1⟩ := hax (by omega)
      have hcx : wr.cell? ⟨b, off + k, none⟩ = some (.int .u32 ((xs[k]?.getD 0 : Nat) : Int)) := (sx.below hb hlt1) k (by omega)
      have hcy : wr.cell? ⟨b2, off2 + k, none⟩ = some (.int .u32 ((ys[k]?.getD 0 : Nat) : Int)) := (sy.below hb hlt2) k (by omega)
      have vc := fun h => val_cmp ox (hx.trans hy.symm) k (by omega) (fun j h1 h2 => hs j h1 (by omega)) h
      have vd := fun h => val_cmp oy (hy.trans hx.symm) k (by omega) (fun j h1 h2 => (hs j h1 (by omega)).symm) h
      have hs' : xs[k]?.getD 0 = ys[k]?.getD 0 → ∀ j, k ≤ j → j < len → xs[j]?.getD 0 = ys[j]?.getD 0 := fun he j h1 h2 => (Nat.eq_or_lt_of_le h1).elim (fun e => by subst e; exact he) (fun h3 => hs j h3 h2)
      obtain ⟨x, hx'⟩ : ∃ x, xs[k]?.getD 0 = x := ⟨_, rfl⟩
      obtain ⟨y, hy'⟩ : ∃ y, ys[k]?.getD 0 = y := ⟨_, rfl⟩
      rw [hx'] at hcx vc vd hs'
      rw [hy'] at hcy vc vd hs'
      rw [show ((k + 1 : Nat) : Int) - 1 = (k : Int) by omega]
      subst e1 e2
      clear hx' hy' hs sx sy hax hay
      rcases Nat.lt_trichotomy x y with h | h | h
      · have e : cmpN (val xs) (val ys) = -1 := by simp [cmpN, vc h]
        have HE : Hid (cmpN (val xs) (val ys) = -1) := e
        have t : (x : Int) < y := by omega
        clear vc vd hs' e
        go_wp2_with fail
        go_region
        go_wp2
        go_ret
        exact ⟨by rw [HE.out]; rfl, hb.drew⟩
      · subst h
        have t : ¬ (x : Int) < x := by omega
        have HS : Hid (∀ j, k ≤ j → j < len → xs[j]?.getD 0 = ys[j]?.getD 0) := hs' rfl
        clear vc vd hs'
        go_wp2_with fail
        go_region
        go_wp2_with fail
        go_region
        go_wp2
        go_roundw
        case rel => exact ⟨k, by omega, rfl, HS.out, hb.drew.drew⟩
        case measure => simp [intOf]
      · have e : cmpN (val xs) (val ys) = 1 := by have := vd h; simp [cmpN]; omega
        have HE : Hid (cmpN (val xs) (val ys) = 1) := e
        have t : ¬ (x : Int) < y := by omega
        have t2 : (y : Int) < x := by omega
        clear vc vd hs' e
        go_wp2_with fail
        go_region
        go_wp2_with fail
        go_region
        go_wp2
        go_ret
        exact ⟨by rw [HE.out]; rfl, hb.drew.drew⟩

/-- size, of two trimmed rows: the order of their values. -/
theorem rsize_any (ax ay : Option Addr) (nx cx ny cy : Nat) (xs ys : List Nat) (w : World) (hx : Sl .u32 w (.slice ax nx cx) xs) (hy : Sl .u32 w (.slice ay ny cy) ys) (ox : okw xs) (oy : okw ys) (tx : Tr xs) (ty : Tr ys) (bx : xs.length ≤ 1000000) :
    Calls Try.prog 56 #[.slice ax nx cx, .slice ay ny cy] w fun e w' => e = .returned (.int .i64 (cmpN (val xs) (val ys))) ∧ Below w.heap.size w w' := by
  have e1 := hx.len
  have e2 := hy.len
  obtain ⟨b, off, px, sx⟩ := hx.place
  obtain ⟨b2, off2, py, sy⟩ := hy.place
  have ne : ∀ zs : List Nat, 0 < zs.length → zs ≠ [] := fun zs h h0 => by rw [h0] at h; simp at h
  by_cases hne : xs.length = ys.length
  · subst e1
    rw [← hne] at e2
    subst e2
    exact rsize_same ax ay xs.length cx cy b off b2 off2 xs ys w bx rfl hne.symm (fun h => px (ne _ h)) (fun h => py (ne _ (by omega))) sx sy ox oy
  · subst e1; subst e2
    refine (rsize_other ax ay xs.length cx ys.length cy w hne).mono ?_
    rintro e w' ⟨rfl, hb⟩
    refine ⟨?_, hb⟩
    rcases Nat.lt_or_gt_of_ne hne with h | h
    · have := Tr_len_lt ty ox h
      simp only [cmpN]
      rw [if_pos h, if_pos this]
    · have := Tr_len_lt tx oy h
      simp only [cmpN]
      rw [if_neg (by omega), if_pos (by omega), if_neg (by omega), if_pos this]
end Go.Proofs.Ytjgibhpmbiphdaa
