/-
  Rows of ints in memory; same; the reference's All.
-/
import Derived.Test.YtddgkdjpklegnaaTrCode
import Derived.LoopTactic
import Derived.OwnWalkIn
namespace Go.Proofs.Ytddgkdjpklegnaa.Tr
open Go.RowKit Go.WideShapes

theorem lt_of_cell {w : World} {b o : Nat} {v : Value} (h : w.cell? ⟨b, o, none⟩ = some v) : b < w.heap.size := by
  by_cases hb : b < w.heap.size
  · exact hb
  · rw [World.cell?, Array.getElem?_eq_none (Nat.le_of_not_lt hb)] at h
    exact absurd h (by simp)
theorem Lib.hid {p : Prop} (h : p) : Hid p := h
/-- Ints in a row, at block b from off on. -/
def SegI (w : World) (b off : Nat) (l : List Int) : Prop := ∀ j, j < l.length → w.cell? ⟨b, off + j, none⟩ = some (.int .i64 (l[j]?.getD 0))
def SlI (w : World) (a : Option Addr) (n cap : Nat) (l : List Int) : Prop := n = l.length ∧ l.length ≤ cap ∧ ∃ b off, (0 < l.length → a = some ⟨b, off, none⟩ ∧ b < w.heap.size) ∧ SegI w b off l
theorem SlI.below {w w' : World} {a : Option Addr} {n cap : Nat} {l : List Int} (h : SlI w a n cap l) (hb : Below w.heap.size w w') : SlI w' a n cap l := by
  obtain ⟨h1, h2, b, off, h3, h4⟩ := h
  refine ⟨h1, h2, b, off, fun h0 => ⟨(h3 h0).1, Nat.lt_of_lt_of_le (h3 h0).2 hb.size⟩, fun j hj => ?_⟩
  exact (hb.cell (p := ⟨b, off + j, none⟩) (h3 (by omega)).2).trans (h4 j hj)
theorem Try.infoInt : (Try.prog.info? 3).map (fun i => (i.zero, i.size, i.bytes)) = some (some (.int .i64 0), 1, 8) := by kernel_rfl
/-- Ints in a row of their own, from block B on. -/
def Ints (B : Nat) (w : World) (v : Value) (l : List Int) : Prop := w.ownsRow B 3 1 v l.length (l.map fun x : Int => Value.int .i64 x)
theorem Ints.nil (B : Nat) (w : World) : Ints B w (.slice none 0 0) [] := ⟨rfl, Or.inl ⟨rfl, rfl⟩⟩
theorem ints_snoc {B : Nat} {w1 : World} {v' : Value} {l : List Int} {d : Int} (h : w1.ownsRow B 3 1 v' (l.length + 1) ((l.map fun x : Int => Value.int .i64 x) ++ [Value.int .i64 d])) : Ints B w1 v' (l ++ [d]) := by
  unfold Ints
  simpa using h
theorem new_one (w : World) (x : Value) (t : TypeId) : ∀ j u, [x][j]? = some u → (w.alloc (.cells #[x] t)).cell? (Addr.add ⟨w.heap.size, 0, none⟩ j) = some u := by
  intro j u hj
  match j, hj with
  | 0, hj => rw [WideShapes.add_plain, World.cell?_alloc_at _ _ _ _ rfl]; simpa using hj
  | j + 1, hj => simp at hj
theorem below_grown {B n : Nat} {w wr w1 : World} {v : Value} {xs : List Value} {o : Obj} {t : TypeId} (hb : Below B w wr) (hB : B ≤ w.heap.size) (hown : wr.ownsRow B t 1 v n xs) (hg : (wr.alloc o).grownBy w1 v.ownBlock) : Below B w w1 := by
  refine (hb.alloc (Nat.le_trans hB hb.size) o).grown hg (by simp; have := hb.size; omega) (fun k e => ?_)
  rcases hown.2 with ⟨rfl, _⟩ | ⟨g, cap, cur, rfl, h1, _⟩
  · cases e
  · simp [Value.ownBlock] at e
    omega
/-- A row of one's own, laid open. -/
theorem Ints.open {B : Nat} {w : World} {v : Value} {l : List Int} (h : Ints B w v l) : ∃ a cap g, v = .slice a l.length cap ∧ l.length ≤ cap ∧ (0 < l.length → a = some ⟨g, 0, none⟩ ∧ g < w.heap.size ∧ B ≤ g) ∧ SegI w g 0 l := by
  have h0 : w.ownsRow B 3 1 v l.length (l.map fun x : Int => Value.int .i64 x) := h
  rcases h0.2 with ⟨rfl, h1⟩ | ⟨g, cap, cur, rfl, hg, hh, hc, _⟩
  · obtain rfl : l = [] := List.eq_nil_of_length_eq_zero h1
    exact ⟨none, 0, 0, rfl, Nat.le_refl _, fun h => absurd h (by simp), fun j h => absurd h (by simp)⟩
  · refine ⟨_, cap, g, rfl, hc, fun _ => ⟨rfl, (Array.getElem?_eq_some_iff.1 hh).1, hg⟩, fun j hj => ?_⟩
    rw [Nat.zero_add, h0.cellAt j (by simpa using hj)]
    simp [hj]
theorem Ints.sl {B : Nat} {w : World} {v : Value} {l : List Int} (h : Ints B w v l) : ∃ a cap, v = .slice a l.length cap ∧ SlI w a l.length cap l := by
  obtain ⟨a, cap, g, e, hc, hp, sg⟩ := h.open
  exact ⟨a, cap, e, rfl, hc, g, 0, fun h0 => ⟨(hp h0).1, (hp h0).2.1⟩, sg⟩

set_option maxRecDepth 100000 in
set_option maxHeartbeats 2000000 in
/-- same: two lists that hold the same. -/
theorem same_any (a1 a2 : Option Addr) (n1 c1 n2 c2 : Nat) (l : List Int) (w : World) (h1 : SlI w a1 n1 c1 l) (h2 : SlI w a2 n2 c2 l) (hl : l.length ≤ 3000) :
    Calls Try.prog 8 #[.slice a1 n1 c1, .slice a2 n2 c2] w fun e w' => e = .returned (.bool true) ∧ Below w.heap.size w w' := by
  obtain ⟨rfl, k1, b1, o1, p1, s1⟩ := h1
  obtain ⟨rfl, k2, b2, o2, p2, s2⟩ := h2
  have HP1 : Hid (0 < l.length → a1 = some ⟨b1, o1, none⟩ ∧ b1 < w.heap.size) := p1
  have HP2 : Hid (0 < l.length → a2 = some ⟨b2, o2, none⟩ ∧ b2 < w.heap.size) := p2
  have hl0 : ((l.length : Int) != (l.length : Int)) = false := by simp
  clear p1 p2
  go_enter Try.func8, Try.ntmps8
  go_wp2
  go_loopw [5] (fun iv wr => ∃ k : Nat, k ≤ l.length ∧ iv = .int .i64 (k : Int) ∧ Below w.heap.size w wr) (fun iv _ => l.length - (intOf iv).toNat)
  case atStart => exact ⟨0, Nat.zero_le _, rfl, Below.refl _ _⟩
  case round =>
    obtain ⟨k, hk, rfl, hB0⟩ := hrel
    by_cases hlt : k < l.length
    · obtain ⟨e1, q1⟩ := HP1.out (by omega)
      obtain ⟨e2, q2⟩ := HP2.out (by omega)
      have hly : (k : Int) < (l.length : Int) := by omega
      have hcx : wr.cell? ⟨b1, o1 + k, none⟩ = some (.int .i64 (l[k]?.getD 0)) := (hB0.cell (p := ⟨b1, o1 + k, none⟩) q1).trans (s1 k hlt)
      have hcy : wr.cell? ⟨b2, o2 + k, none⟩ = some (.int .i64 (l[k]?.getD 0)) := (hB0.cell (p := ⟨b2, o2 + k, none⟩) q2).trans (s2 k hlt)
      subst e1
      subst e2
      obtain ⟨x, hx⟩ : ∃ x, l[k]?.getD 0 = x := ⟨_, rfl⟩
      rw [hx] at hcx hcy
      clear hx
      have hne : (x != x) = false := by simp
      go_wp2
      go_region
      all_goals go_wp2
      all_goals go_roundw
      case rel => exact ⟨k + 1, by omega, by go_num, hB0.drew⟩
      case measure => simp [intOf]; omega
    · have hly : ¬ (k : Int) < (l.length : Int) := by omega
      go_wp2
      go_ret
      exact ⟨rfl, hB0⟩

/-- The first m cells of the trail of the word h. -/
def row (h L m : Nat) : List Int := (List.range m).map fun i => ((trl h L i : Nat) : Int)
theorem row_len (h L m : Nat) : (row h L m).length = m := by simp [row]
theorem row_get (h L m j : Nat) (hj : j < m) : (row h L m)[j]?.getD 0 = ((trl h L j : Nat) : Int) := by simp [row, hj]
theorem row_succ (h L m : Nat) : row h L (m + 1) = row h L m ++ [((trl h L m : Nat) : Int)] := by simp [row, List.range_succ]

set_option maxRecDepth 100000 in
set_option maxHeartbeats 4000000 in
/-- The reference's All, where the log may be. -/
theorem rall_any {L S : Nat} (hS : Sz L S) (h : Int) (M n : Nat) (hM : M ≤ 3000) (hn : n = min (S + 13) M) (w : World) :
    Calls Try.prog 9 #[.int .i64 h, .int .i64 (L : Int), .int .i64 (M : Int)] w fun e w' => ∃ v, e = .returned v ∧ Ints w.heap.size w' v (row (uw h) L n) ∧ Below w.heap.size w w' := by
  obtain ⟨i0, hi, hz0, hz1, hz2⟩ := info_parts Try.infoInt
  have h1 := uw_int h
  have h2 := uw_lt h
  have hp := hS.pos
  have hm := hS.most
  have hle := hS.le
  have hi64 := hS.i64
  have C1 := rfirst_any h (L : Int) w
  rw [firstZ_yes h hS] at C1
  have HS : Hid (Sz L S) := hS
  have HT0 : Hid (uw h % S = trl (uw h) L 0) := by show _ = _; rw [trl, hS.eq]
  have HT1 : Hid (∀ k, (trl (uw h) L k * 5 + uw h / 32 ^ k / 32 + 1) % S = trl (uw h) L (k + 1)) := fun k => by rw [trl, hS.eq, left_step]
  have HT2 : Hid (∀ k, trl (uw h) L k < S) := fun k => by rw [← hS.eq]; exact trl_lt _ _ _
  have HT3 : Hid (∀ k, uw h / 32 ^ k < 18446744073709551616) := fun k => Nat.lt_of_le_of_lt (Nat.div_le_self _ _) h2
  have HT4 : Hid (∀ k, uw h / 32 ^ k / 32 = uw h / 32 ^ (k + 1)) := fun k => left_step _ _
  rw [HT0.out] at C1
  clear hS
  generalize uw h = u at *
  have HN := Lib.hid hn
  have t3 : IntKind.i64.wrap ((S : Int) + 13) = (S : Int) + 13 := i64_small (by omega) (by omega)
  have hnM : n ≤ 3000 := by omega
  clear hn
  go_enter Try.func9, Try.ntmps9
  go_wp2_with fail
  refine C1.mono ?_
  rintro e w1 ⟨rfl, rfl⟩
  clear C1
  go_wp2
  go_loopw [7, 8, 9, 10] (fun v c p iv wr => ∃ k : Nat, k ≤ n ∧ iv = .int .i64 (k : Int) ∧ c = .int .i64 ((trl u L k : Nat) : Int) ∧ p = .int .u64 ((u / 32 ^ k : Nat) : Int) ∧ Ints w1.heap.size wr v (row u L k) ∧ Below w1.heap.size w1 wr) (fun _ _ _ iv _ => n - (intOf iv).toNat)
  case atStart => exact ⟨0, Nat.zero_le _, rfl, rfl, by simp, Ints.nil _ _, Below.refl _ _⟩
  case round =>
    obtain ⟨k, hk, rfl, rfl, rfl, hI, hB⟩ := hrel
    by_cases hlt : k < n
    · have t1 : (k : Int) < (S : Int) + 13 := by have := HN.out; omega
      have t2 : (k : Int) < (M : Int) := by have := HN.out; omega
      have hown : wr.ownsRow w1.heap.size 3 1 u7 (row u L k).length ((row u L k).map fun x : Int => Value.int .i64 x) := hI
      rw [row_len] at hown
      have N1 : Hid (∀ w, Calls Try.prog 19 #[.int .i64 ((trl u L k : Nat) : Int), .int .u64 ((u / 32 ^ k : Nat) : Int), .int .i64 (L : Int)] w fun e w' => e = .returned (.tuple #[.int .i64 ((trl u L (k + 1) : Nat) : Int), .int .u64 ((u / 32 ^ (k + 1) : Nat) : Int)]) ∧ w' = w) := fun w => by
        have := next_any HS.out _ _ (HT2.out k) (HT3.out k) w
        rwa [HT1.out k, HT4.out k] at this
      have FIN : Hid (∀ (v' : Value) (w2 : World), w2.ownsRow w1.heap.size 3 1 v' (k + 1) (((row u L k).map fun x : Int => Value.int .i64 x) ++ [.int .i64 ((trl u L k : Nat) : Int)]) → Ints w1.heap.size w2 v' (row u L (k + 1))) := by
        intro v' w2 h5
        rw [row_succ]
        exact ints_snoc (by rw [row_len]; exact h5)
      have hrl : ((row u L k).map fun x : Int => Value.int .i64 x).length = k := by simp [row_len]
      obtain ⟨R, hR⟩ : ∃ R, ((row u L k).map fun x : Int => Value.int .i64 x) = R := ⟨_, rfl⟩
      rw [hR] at hown FIN hrl
      have HRL := Lib.hid hrl
      clear hR hI hrl
      generalize trl u L k = c0 at N1 FIN ⊢
      generalize hc1 : trl u L (k + 1) = c1 at N1 ⊢
      generalize u / 32 ^ k = p0 at N1 ⊢
      generalize hp1 : u / 32 ^ (k + 1) = p1 at N1 ⊢
      have HC := Lib.hid hc1
      have HP := Lib.hid hp1
      clear hc1 hp1
      have hsz := hB.size
      go_wp2_with (at_builtin; refine wpList_append_own _ rfl _ _ 22 rfl w1.heap.size 3 i0 (.int .i64 0) 1 8 Try.underlying22 hi hz0 hz1 hz2 rfl (by decide) _ _ _ rfl (World.ownsRow.alloc hown _) ⟨wr.heap.size, 0, none⟩ 1 1 [.int .i64 (c0 : Int)] rfl rfl (new_one _ _ _) (by simp [Value.oneCell']) (by unfold maxLen; omega) (by omega) (by simp; omega) ?_; intro v' w2 hown2 hgrow _; have hI2 := Lib.hid (FIN.out v' w2 hown2); have hgrow' : (wr.alloc (.cells #[.int .i64 (c0 : Int)] 3)).grownBy w2 u7.ownBlock := hgrow; have hb2 := below_grown hB (Nat.le_refl _) hown hgrow'; clear hgrow hgrow' hown2)
      refine (N1.out _).mono ?_
      rintro e w3 ⟨rfl, rfl⟩
      go_wp2
      go_roundw
      case rel => exact ⟨k + 1, by omega, by go_num, by rw [HC.out], by rw [HP.out], hI2.out, hb2⟩
      case measure => simp [intOf]; omega
    · have HK : Hid (k = n) := by show _ = _; omega
      by_cases t1 : (k : Int) < (S : Int) + 13
      · have t2 : ¬ (k : Int) < (M : Int) := by have := HN.out; omega
        go_wp2
        go_ret
        exact ⟨_, rfl, by rw [← HK.out]; exact hI, hB⟩
      · go_wp2
        go_ret
        exact ⟨_, rfl, by rw [← HK.out]; exact hI, hB⟩
end Go.Proofs.Ytddgkdjpklegnaa.Tr
