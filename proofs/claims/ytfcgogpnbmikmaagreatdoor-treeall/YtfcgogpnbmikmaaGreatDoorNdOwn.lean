/-
  Trees of one's own: each part in blocks of its own.
-/
import Derived.Test.YtfcgogpnbmikmaaGreatDoorNdSame
import Derived.Laws.OwnMore
import Derived.Deep.Onto
namespace Go.Proofs.YtfcgogpnbmikmaaGreatDoor
open Go.RowKit Go.WideShapes
namespace Nd
open Lx

theorem owns_mono {w : World} {B B' : Nat} {e : TypeId} {s n : Nat} {v : Value} {xs : List Value} (h : w.ownsRow B e s v n xs) (hb : B' ≤ B) : w.ownsRow B' e s v n xs := by
  refine ⟨h.1, ?_⟩
  rcases h.2 with h0 | ⟨g, cap, cur, e1, h1, h2⟩
  · exact .inl h0
  · exact .inr ⟨g, cap, cur, e1, by omega, h2⟩
/-- A tree of one's own, in blocks from lo to hi. -/
def Ow (w : World) : Tr → Nat → Nat → Nv → Prop
  | .mk k a s neg mg n kid, lo, hi, x => x.k = k ∧ x.a = a ∧ x.s = s ∧ x.neg = neg ∧ w.ownsRow lo 57 1 x.mv mg.length (mgl mg) ∧ ∃ (ys : Nat → Nv) (h : Nat → Nat), w.ownsRow lo 27 6 x.kv n (rw6 n ys) ∧
      (∀ b, x.mv.ownBlock = some b → b < h 0) ∧ (∀ b, x.kv.ownBlock = some b → b < h 0) ∧ lo ≤ h 0 ∧ (∀ i, i < n → h i ≤ h (i + 1)) ∧ h n ≤ hi ∧ ∀ i, i < n → Ow w (kid i) (h i) (h (i + 1)) (ys i)
  | .no, _, _, _ => False
theorem h_mono {h : Nat → Nat} {n : Nat} (hm : ∀ i, i < n → h i ≤ h (i + 1)) : ∀ {i j : Nat}, i ≤ j → j ≤ n → h i ≤ h j
  | i, 0, h1, _ => by rw [show i = 0 by omega]; exact Nat.le_refl _
  | i, j + 1, h1, h2 => by
    rcases Nat.lt_or_ge j i with z | z
    · rw [show i = j + 1 by omega]; exact Nat.le_refl _
    · exact Nat.le_trans (h_mono hm z (by omega)) (hm j (by omega))
theorem Ow.mono {w : World} : ∀ {t : Tr} {lo hi lo' hi' : Nat} {x : Nv}, Ow w t lo hi x → lo' ≤ lo → hi ≤ hi' → Ow w t lo' hi' x := by
  intro t
  cases t with
  | no => exact fun h => h.elim
  | mk k a s neg mg n kid =>
    rintro lo hi lo' hi' x ⟨h1, h2, h3, h4, h5, ys, h, h6, h7, h8, h9, h10, h11, h12⟩ hl hh
    exact ⟨h1, h2, h3, h4, owns_mono h5 hl, ys, h, owns_mono h6 hl, h7, h8, by omega, h10, by omega, h12⟩
theorem Ow.same {w w' : World} : ∀ {t : Tr} {lo hi : Nat} {x : Nv}, Ow w t lo hi x → (∀ b, lo ≤ b → b < hi → w'.heap[b]? = w.heap[b]?) → Ow w' t lo hi x := by
  intro t
  induction t with
  | no => exact fun h => h.elim
  | mk k a s neg mg n kid ih =>
    rintro lo hi x ⟨h1, h2, h3, h4, h5, ys, h, h6, h7, h8, h9, h10, h11, h12⟩ e
    have hn : h 0 ≤ h n := h_mono h10 (Nat.zero_le _) (Nat.le_refl _)
    refine ⟨h1, h2, h3, h4, ownsS_same h5 (fun b hb => e b (ownsS_base h5 b hb).1 (by have := h7 b hb; omega)), ys, h, ownsS_same h6 (fun b hb => e b (ownsS_base h6 b hb).1 (by have := h8 b hb; omega)), h7, h8, h9, h10, h11, fun i hi => ?_⟩
    have h0 := h_mono h10 (Nat.zero_le i) (Nat.le_of_lt hi)
    have hm := h_mono h10 (show i + 1 ≤ n from hi) (Nat.le_refl _)
    exact ih i (h12 i hi) (fun b hb1 hb2 => e b (by omega) (by omega))
theorem Ow.rd {w : World} : ∀ {t : Tr} {lo hi : Nat} {x : Nv}, Ow w t lo hi x → Rd w (fun b => lo ≤ b ∧ b < hi) t x := by
  intro t
  induction t with
  | no => exact fun h => h.elim
  | mk k a s neg mg n kid ih =>
    rintro lo hi x ⟨h1, h2, h3, h4, h5, ys, h, h6, h7, h8, h9, h10, h11, h12⟩
    have hn : h 0 ≤ h n := h_mono h10 (Nat.zero_le _) (Nat.le_refl _)
    refine ⟨h1, h2, h3, h4, Mg.of_owns h5 (fun b hb => ⟨(ownsS_base h5 b hb).1, by have := h7 b hb; omega⟩), ?_⟩
    obtain ⟨ka, kc, e⟩ := ownsS_shape h6
    rcases Nat.eq_zero_or_pos n with z | z
    · refine ⟨ka, kc, e, by omega, 0, 0, fun h => absurd h (by omega), fun _ => default, fun i hi => absurd hi (by omega)⟩
    · obtain ⟨g, cap, e2, _, hc, hg⟩ := ownsS_some h6 z
      refine ⟨some ⟨g, 0, none⟩, cap, e2, hc, g, 0, fun _ => ⟨rfl, hg, by have := h8 g (by rw [e2]; rfl); omega⟩, ys, fun i hi => ⟨at_of_owns (B := lo) (by rw [← e2]; exact h6) i hi, ?_⟩⟩
      have h0 := h_mono h10 (Nat.zero_le i) (Nat.le_of_lt hi)
      have hm := h_mono h10 (show i + 1 ≤ n from hi) (Nat.le_refl _)
      exact (ih i (h12 i hi)).mono (fun b hb => ⟨by omega, by omega⟩)
def upd (ys : Nat → Nv) (i : Nat) (z : Nv) : Nat → Nv := fun j => if j = i then z else ys j
theorem rw6_upd (ys : Nat → Nv) (i : Nat) (z : Nv) (j : Nat) (u : Value) (hj : j < 6) (hz : z.c = (ys i).c.set j u) : ∀ n, i < n → (rw6 n ys).set (i * 6 + j) u = rw6 n (upd ys i z)
  | 0, h => by omega
  | n + 1, h => by
    simp only [rw6]
    rcases Nat.lt_or_ge i n with c | c
    · rw [List.set_append_left _ _ (by rw [rw6_len]; omega), rw6_upd ys i z j u hj hz n c]
      simp only [upd, if_neg (show ¬ n = i by omega)]
    · obtain rfl : i = n := by omega
      rw [List.set_append_right _ _ (by rw [rw6_len]; omega), rw6_len, show i * 6 + j - i * 6 = j by omega, ← hz]
      simp only [upd, if_true]
      rw [rw6_congr ys (upd ys i z) i (fun j hj => by simp only [upd]; exact (if_neg (by omega)).symm)]
theorem upd_upd (ys : Nat → Nv) (i : Nat) (x z : Nv) : upd (upd ys i x) i z = upd ys i z := by
  funext j
  simp only [upd]
  split <;> rfl
theorem upd_at (ys : Nat → Nv) (i : Nat) (x : Nv) : upd ys i x i = x := by simp [upd]
/-- One node of a row is laid anew. -/
theorem store6 {w : World} {B n cap g : Nat} {ys : Nat → Nv} (h : w.ownsRow B 27 6 (.slice (some ⟨g, 0, none⟩) n cap) n (rw6 n ys)) (i : Nat) (hi : i < n) (z : Nv) :
    (st6 w g (i * 6) z).ownsRow B 27 6 (.slice (some ⟨g, 0, none⟩) n cap) n (rw6 n (upd ys i z)) := by
  have h0 := (h.stored (i * 6) (.int .i64 z.k)).1
  rw [show i * 6 = i * 6 + 0 from rfl, rw6_upd ys i { ys i with k := z.k } 0 _ (by omega) rfl n hi] at h0
  have h1 := (h0.stored (i * 6 + 1) (.int .i64 z.a)).1
  rw [rw6_upd _ i { ys i with k := z.k, a := z.a } 1 _ (by omega) (by rw [upd_at]; rfl) n hi, upd_upd] at h1
  have h2 := (h1.stored (i * 6 + 2) (.string z.s)).1
  rw [rw6_upd _ i { ys i with k := z.k, a := z.a, s := z.s } 2 _ (by omega) (by rw [upd_at]; rfl) n hi, upd_upd] at h2
  have h3 := (h2.stored (i * 6 + 3) (.bool z.neg)).1
  rw [rw6_upd _ i { ys i with k := z.k, a := z.a, s := z.s, neg := z.neg } 3 _ (by omega) (by rw [upd_at]; rfl) n hi, upd_upd] at h3
  have h4 := (h3.stored (i * 6 + 4) z.mv).1
  rw [rw6_upd _ i { ys i with k := z.k, a := z.a, s := z.s, neg := z.neg, mv := z.mv } 4 _ (by omega) (by rw [upd_at]; rfl) n hi, upd_upd] at h4
  have h5 := (h4.stored (i * 6 + 5) z.kv).1
  rw [rw6_upd _ i z 5 _ (by omega) (by rw [upd_at]; rfl) n hi, upd_upd] at h5
  exact h5
/-- Its place alone. -/
theorem store1 {w : World} {B n cap g : Nat} {ys : Nat → Nv} (h : w.ownsRow B 27 6 (.slice (some ⟨g, 0, none⟩) n cap) n (rw6 n ys)) (i : Nat) (hi : i < n) (a : Int) :
    (w.setCell ⟨g, i * 6 + 1, none⟩ (.int .i64 a)).ownsRow B 27 6 (.slice (some ⟨g, 0, none⟩) n cap) n (rw6 n (upd ys i { ys i with a := a })) := by
  have h1 := (h.stored (i * 6 + 1) (.int .i64 a)).1
  rw [rw6_upd ys i { ys i with a := a } 1 _ (by omega) rfl n hi] at h1
  exact h1
def z0 : Nv := ⟨0, 0, ⟨#[]⟩, false, .slice none 0 0, .slice none 0 0⟩
theorem made6 (n : Nat) : (madeCells (Value.agg #[.int .i64 0, .int .i64 0, .string ⟨#[]⟩, .bool false, .slice none 0 0, .slice none 0 0]).cells (n * 6)).toList = rw6 n (fun _ => z0) := by
  apply List.ext_getElem?
  intro j
  by_cases hj : j < n * 6
  · have e : j = j / 6 * 6 + j % 6 := by omega
    have hl : j / 6 < n := by omega
    have hr : j % 6 < 6 := by omega
    rw [show (rw6 n (fun _ => z0))[j]? = (rw6 n (fun _ => z0))[j / 6 * 6 + j % 6]? by rw [← e], rw6_get _ n (j / 6) (j % 6) hl hr]
    have h6 : j % 6 = 0 ∨ j % 6 = 1 ∨ j % 6 = 2 ∨ j % 6 = 3 ∨ j % 6 = 4 ∨ j % 6 = 5 := by omega
    rcases h6 with h | h | h | h | h | h <;> simp [madeCells, Value.cells, hj, h, z0, Nv.c]
  · rw [List.getElem?_eq_none (by simp [madeCells]; omega), List.getElem?_eq_none (by rw [rw6_len]; omega)]
theorem run_makeN (n : Nat) (hn : n ≤ 3000) (V : World) : (Instr.makeSlice 25 (.int .i64 (n : Int)) (.int .i64 (n : Int))).run Tryz.prog V = .ok (.slice (some ⟨V.heap.size, 0, none⟩) n n) (V.alloc (.cells (madeCells (Value.agg #[.int .i64 0, .int .i64 0, .string ⟨#[]⟩, .bool false, .slice none 0 0, .slice none 0 0]).cells (n * 6)) 27)) := by
  obtain ⟨iN, hni, hnz0, hnz1, hnz2⟩ := info_parts Tryz.infoNd
  have hr := run_make (P := Tryz.prog) V 25 27 iN _ Tryz.underlying25 hni hnz0 .i64 .i64 n n (by omega) (Int.le_refl _) (by rw [hnz2]; omega) (by omega)
  simp only [Int.toNat_natCast, hnz1] at hr
  exact hr
theorem owns_made (n : Nat) (hn : n ≤ 3000) (V : World) (B : Nat) (hB : B ≤ V.heap.size) : (V.alloc (.cells (madeCells (Value.agg #[.int .i64 0, .int .i64 0, .string ⟨#[]⟩, .bool false, .slice none 0 0, .slice none 0 0]).cells (n * 6)) 27)).ownsRow B 27 6 (.slice (some ⟨V.heap.size, 0, none⟩) n n) n (rw6 n (fun _ => z0)) := by
  rw [← made6]
  exact World.ownsRow_lit V _ n hB (by unfold maxLen; omega) (size_madeCells _ _)
end Nd
end Go.Proofs.YtfcgogpnbmikmaaGreatDoor
