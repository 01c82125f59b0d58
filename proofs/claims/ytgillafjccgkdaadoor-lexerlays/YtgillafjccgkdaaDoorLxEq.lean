/-
  Rows of bytes and of tokens, compared.
-/
import Derived.Test.YtgillafjccgkdaaDoorLxLong
namespace Go.Proofs.YtgillafjccgkdaaDoor
open Go.RowKit Go.WideShapes
namespace Lx

/-- Tokens that can be read. -/
def Tr (w : World) (v : Value) (ts : List Tok) : Prop := ∃ a c, v = .slice a ts.length c ∧ ∃ g, (0 < ts.length → a = some ⟨g, 0, none⟩ ∧ g < w.heap.size) ∧ ∀ i t, ts[i]? = some t → w.cell? ⟨g, i * 3, none⟩ = some (.int .i64 (t.kind : Int)) ∧ w.cell? ⟨g, i * 3 + 1, none⟩ = some (.string ⟨t.text.toArray⟩) ∧ w.cell? ⟨g, i * 3 + 2, none⟩ = some (.int .i64 (t.at_ : Int))
theorem tr_of {w : World} {B : Nat} {v : Value} {ts : List Tok} (h : w.ownsRow B 29 3 v ts.length (tkl ts)) : Tr w v ts := by
  rcases Nat.eq_zero_or_pos ts.length with z | z
  · obtain ⟨a, c, rfl⟩ := ownsS_shape h
    refine ⟨a, c, rfl, 0, fun h0 => absurd h0 (by omega), fun i t ht => ?_⟩
    rw [List.eq_nil_of_length_eq_zero z] at ht
    cases ht
  · obtain ⟨g, c, rfl, hg, _, _⟩ := ownsS_some h z
    refine ⟨_, c, rfl, g, fun _ => ⟨rfl, hg⟩, fun i t ht => ⟨?_, ?_, ?_⟩⟩
    · exact ownsS_cell h (i * 3) _ (by have := tkl_get ts i 0 t ht (by omega); rw [Nat.add_zero] at this; rw [this]; rfl)
    · exact ownsS_cell h (i * 3 + 1) _ (by rw [tkl_get ts i 1 t ht (by omega)]; rfl)
    · exact ownsS_cell h (i * 3 + 2) _ (by rw [tkl_get ts i 2 t ht (by omega)]; rfl)
theorem Tr.below {w w' : World} {v : Value} {ts : List Tok} (h : Tr w v ts) (hb : Below w.heap.size w w') : Tr w' v ts := by
  obtain ⟨a, c, hv, g, h1, h2⟩ := h
  refine ⟨a, c, hv, g, fun h0 => ⟨(h1 h0).1, Nat.lt_of_lt_of_le (h1 h0).2 hb.size⟩, fun i t ht => ?_⟩
  have hg : g < w.heap.size := (h1 (by rcases Nat.eq_zero_or_pos ts.length with z | z; rw [List.eq_nil_of_length_eq_zero z] at ht; cases ht; exact z)).2
  obtain ⟨k1, k2, k3⟩ := h2 i t ht
  exact ⟨(hb.cell (p := ⟨g, _, none⟩) hg).trans k1, (hb.cell (p := ⟨g, _, none⟩) hg).trans k2, (hb.cell (p := ⟨g, _, none⟩) hg).trans k3⟩
/-- Alike: kinds and texts; places too, where they are asked. -/
def Al (at_ : Bool) (x y : List Tok) : Prop := x.length = y.length ∧ ∀ (i : Nat) (t u : Tok), x[i]? = some t → y[i]? = some u → t.kind = u.kind ∧ t.text = u.text ∧ (at_ = true → t.at_ = u.at_)
theorem Al.refl (at_ : Bool) (x : List Tok) : Al at_ x x := ⟨rfl, fun i t u h1 h2 => by rw [h1] at h2; injection h2 with h2; subst h2; exact ⟨rfl, rfl, fun _ => rfl⟩⟩
set_option maxRecDepth 100000 in
set_option maxHeartbeats 4000000 in
theorem tokens_eq {w : World} {v1 v2 : Value} {x y : List Tok} (at_ : Bool) (h1 : Tr w v1 x) (h2 : Tr w v2 y) (hA : Al at_ x y) (hn : x.length ≤ maxLen) :
    Calls Tryd.prog 7 #[v1, v2, .bool at_] w fun e w' => e = .returned (.bool true) ∧ Below w.heap.size w w' := by
  obtain ⟨a1, c1, rfl, g1, ha1, hc1⟩ := h1
  obtain ⟨a2, c2, rfl, g2, ha2, hc2⟩ := h2
  obtain ⟨hl, hA⟩ := hA
  rw [← hl] at ha2 ⊢
  have HL := Lib.hid hl
  have HC1 := Lib.hid hc1
  have HC2 := Lib.hid hc2
  have HA1 := Lib.hid ha1
  have HA2 := Lib.hid ha2
  have HA := Lib.hid hA
  clear hc1 hc2 ha1 ha2 hl hA
  obtain ⟨n, hxn⟩ : ∃ n, x.length = n := ⟨_, rfl⟩
  rw [hxn] at HA1 HA2 HL hn ⊢
  have HXN := Lib.hid hxn
  have HNN := Lib.hid hn
  clear hxn hn
  go_enter Tryd.func7, Tryd.ntmps7
  go_wp2_with fail
  go_loopg [7] n (fun gk v7 wr => ∃ j : Nat, j + gk = n ∧ v7 = .int .i64 (j : Int) ∧ Below w.heap.size w wr)
  case atStart => exact ⟨0, by omega, rfl, Below.refl _ _⟩
  case round =>
    obtain ⟨j, hj, rfl, hB⟩ := hrel
    have HB := Lib.hid hB
    by_cases hjl : j < n
    · have tj : (j : Int) < (n : Int) := by omega
      have tj0 : (0 : Int) ≤ (j : Int) := by omega
      have ej : IntKind.i64.wrap ((j : Int) + 1) = ((j + 1 : Nat) : Int) := by have := HNN.out; unfold maxLen at this; rw [i64_small (by omega) (by omega)]; omega
      obtain ⟨e1, l1⟩ := HA1.out (by omega)
      obtain ⟨e2, l2⟩ := HA2.out (by omega)
      subst e1
      subst e2
      have hx1 : x[j]? = some (x[j]'(by rw [HXN.out]; exact hjl)) := List.getElem?_eq_getElem _
      have hy1 : y[j]? = some (y[j]'(by rw [← HL.out]; exact hjl)) := List.getElem?_eq_getElem _
      obtain ⟨k1, k2, k3⟩ := HA.out j _ _ hx1 hy1
      obtain ⟨p0, p1, p2⟩ := HC1.out j _ hx1
      obtain ⟨r0, r1, r2⟩ := HC2.out j _ hy1
      rw [← k1] at r0
      rw [← k2] at r1
      generalize x[j]'(by rw [HXN.out]; exact hjl) = t at *
      generalize y[j]'(by rw [← HL.out]; exact hjl) = u at *
      have p0 := (hB.cell (p := ⟨g1, j * 3, none⟩) l1).trans p0
      have p1 := (hB.cell (p := ⟨g1, j * 3 + 1, none⟩) l1).trans p1
      have p2 := (hB.cell (p := ⟨g1, j * 3 + 2, none⟩) l1).trans p2
      have r0 := (hB.cell (p := ⟨g2, j * 3, none⟩) l2).trans r0
      have r1 := (hB.cell (p := ⟨g2, j * 3 + 1, none⟩) l2).trans r1
      have r2 := (hB.cell (p := ⟨g2, j * 3 + 2, none⟩) l2).trans r2
      clear hB hx1 hy1 k1 k2
      generalize ByteArray.mk t.text.toArray = X at *
      generalize t.kind = kd at *
      generalize t.at_ = ta at *
      generalize u.at_ = ua at *
      cases at_ with
      | true =>
        obtain rfl := k3 rfl
        go_wp2_with fail
        go_quiet (fail)
        go_wp2_with fail
        go_roundg (gk - 1)
        case measure => omega
        case rel => exact ⟨j + 1, by omega, rfl, below_drewN HB.out _⟩
      | false =>
        clear k3
        go_wp2_with fail
        go_quiet (fail)
        go_wp2_with fail
        go_roundg (gk - 1)
        case measure => omega
        case rel => exact ⟨j + 1, by omega, rfl, below_drewN HB.out _⟩
    · obtain rfl : j = n := by omega
      have tj : ¬ (j : Int) < (j : Int) := by omega
      clear hB
      go_wp2_with fail
      go_ret
      exact ⟨rfl, HB.out⟩
end Lx
end Go.Proofs.YtgillafjccgkdaaDoor
