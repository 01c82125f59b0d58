/-
  The reference's table in memory; lay.
-/
import Derived.Test.YtejfmajbggmghaaGreatEnMem
import Derived.Test.YtejfmajbggmghaaGreatTrCode
import Derived.Test.YtejfmajbggmghaaGreatCeRef
import Derived.Maps.AppendAt
import Derived.Deep.LoopGhost
namespace Go.Proofs.YtejfmajbggmghaaGreat
open Go.RowKit Go.WideShapes

/-- Its cells in memory. -/
def tF (ev : Value) (q : Nat) (t : Tb) (mv : Value) : Nat → Value
  | 0 => ev
  | 1 => .int .i64 (t.L : Int)
  | 2 => .slice (some ⟨q, 0, none⟩) (2 ^ t.L) (2 ^ t.L)
  | 3 => .int .i64 (t.live : Int)
  | 4 => .int .i64 (t.births : Int)
  | 5 => .int .i64 (t.made : Int)
  | 6 => .int .i64 (t.turn : Int)
  | _ => mv
structure Rt (w : World) (g : Nat) (ev : Value) (q : Nat) (t : Tb) (mv : Value) : Prop where
  hd : Blk w g 8 (tF ev q t mv)
  es : Es w ev t.es
  rf : Rf w q (2 ^ t.L) t.c
  ap : ∀ k, ev.ownBlock = some k → k ≠ g ∧ k ≠ q
  sz : 3 ≤ t.L ∧ t.L ≤ 20
  mp : ∀ k, mB mv k → k ≠ g ∧ k ≠ q ∧ ev.ownBlock ≠ some k
theorem Rt.gq {w : World} {g : Nat} {ev : Value} {q : Nat} {t : Tb} {mv : Value} (h : Rt w g ev q t mv) : g ≠ q := by
  intro e
  subst e
  have h1 := h.rf.hc 2 (Nat.lt_of_lt_of_le (by decide) (Nat.pow_le_pow_right (n := 2) (by decide) h.sz.1))
  have h2 : w.cell? ⟨g, 2, none⟩ = some (.slice (some ⟨g, 0, none⟩) (2 ^ t.L) (2 ^ t.L)) := h.hd.c 2 (by omega)
  rw [h2] at h1
  simp at h1
theorem Rt.same {w w' : World} {g : Nat} {ev : Value} {q : Nat} {t : Tb} {mv : Value} (h : Rt w g ev q t mv) (e : ∀ k, (k = g ∨ k = q ∨ ev.ownBlock = some k) → w'.heap[k]? = w.heap[k]?) : Rt w' g ev q t mv :=
  ⟨h.hd.same (e g (.inl rfl)), h.es.same fun k hk => e k (.inr (.inr hk)), h.rf.same (e q (.inr (.inl rfl))), h.ap, h.sz, h.mp⟩
theorem Rt.below {w w' : World} {g : Nat} {ev : Value} {q : Nat} {t : Tb} {mv : Value} (h : Rt w g ev q t mv) (hb : Below w.heap.size w w') : Rt w' g ev q t mv :=
  h.same fun k hk => hb.block k (by
    rcases hk with rfl | rfl | hk
    · exact h.hd.lt (by omega)
    · exact h.rf.lt (pow2_pos _)
    · exact h.es.lt k hk)
theorem Rt.trSz {w : World} {g : Nat} {ev : Value} {q : Nat} {t : Tb} {mv : Value} (h : Rt w g ev q t mv) : Tr.Sz t.L (2 ^ t.L) := ⟨rfl, h.sz.2⟩
set_option maxRecDepth 100000 in
set_option maxHeartbeats 4000000 in
/-- lay: the number goes into the first empty cell of the trail. -/
theorem rlay_any {w : World} {g q L : Nat} {c : Nat → Int} (hS : Tr.Sz L (2 ^ L)) (k1 : w.cell? ⟨g, 1, none⟩ = some (.int .i64 (L : Int))) (k2 : w.cell? ⟨g, 2, none⟩ = some (.slice (some ⟨q, 0, none⟩) (2 ^ L) (2 ^ L))) (hR : Rf w q (2 ^ L) c) (u : Int) (n : Int) {i : Nat} (hF : IsF c (uw u) L i) (hi : i < 2 ^ L + 13) :
    Calls Tryz.prog 103 #[.pointer (some ⟨g, 0, none⟩), .int .i64 u, .int .i64 n] w fun e w' => e = .returned (.tuple #[]) ∧ w' = w.setCell ⟨q, trl (uw u) L i, none⟩ (.int .i64 n) := by
  have C1 := Tr.rfirst_any u (L : Int) w
  rw [show Tr.firstZ u (L : Int) = ((trl (uw u) L 0 : Nat) : Int) by rw [Tr.firstZ_yes u hS, trl]] at C1
  have h1 := uw_int u
  have h2 := uw_lt u
  have HS := Lib.hid hS
  have HR := Lib.hid hR
  have HF := Lib.hid hF
  have hm := hS.most
  have HLT : Hid (∀ k, trl (uw u) L k < 2 ^ L) := fun k => trl_lt _ _ _
  have HT1 : Hid (∀ k, (trl (uw u) L k * 5 + uw u / 32 ^ k / 32 + 1) % 2 ^ L = trl (uw u) L (k + 1)) := fun k => by rw [trl, left_step]
  have HT4 : Hid (∀ k, uw u / 32 ^ k / 32 = uw u / 32 ^ (k + 1)) := fun k => left_step _ _
  have HT3 : Hid (∀ k, uw u / 32 ^ k < 18446744073709551616) := fun k => Nat.lt_of_le_of_lt (Nat.div_le_self _ _) h2
  clear hS hR hF
  generalize uw u = U at *
  generalize hSS : 2 ^ L = S at *
  clear hSS
  go_enter Tryz.func103, Tryz.ntmps103
  go_wp2_with fail
  refine C1.mono ?_
  rintro e w1 ⟨rfl, rfl⟩
  clear C1
  go_wp2_with fail
  go_loopg [6, 7] i (fun gk cv pv wr => ∃ k : Nat, k + gk = i ∧ cv = .int .i64 ((trl U L k : Nat) : Int) ∧ pv = .int .u64 ((U / 32 ^ k : Nat) : Int) ∧ wr = w1)
  case atStart => exact ⟨0, by omega, rfl, by simp, rfl⟩
  case round =>
    obtain ⟨k, hk, rfl, rfl, rfl⟩ := hrel
    have hlt := HLT.out k
    have d1 := HR.out.hc _ hlt
    have d2 := HR.out.hz (trl U L k)
    have HX1 := Lib.hid (HT1.out k)
    have HX4 := Lib.hid (HT4.out k)
    have hp64 := HT3.out k
    by_cases he : c (trl U L k) = -1
    · obtain rfl : k = i := (show IsF c U L k from ⟨he, fun j hj => HF.out.2 j (by omega)⟩).uniq HF.out
      rw [he] at d1
      generalize hx : trl U L k = x at *
      have HX := Lib.hid hx
      have t1 : (x : Int) < (S : Int) := by omega
      clear he hx
      go_wp2
      go_end0
      exact ⟨rfl, by rw [HX.out]⟩
    · have hki : k < i := by
        rcases Nat.lt_or_ge k i with z | z
        · exact z
        · exact absurd (by rw [show k = i by omega]; exact HF.out.1) he
      have N1 := Tr.next_any HS.out (trl U L k) (U / 32 ^ k) hlt hp64 wr
      rw [HX1.out, HX4.out] at N1
      have t2 : (c (trl U L k) != -1) = true := by simp [he]
      generalize c (trl U L k) = y at *
      generalize hx : trl U L k = x at *
      generalize hx1 : trl U L (k + 1) = x1 at *
      generalize hp0 : U / 32 ^ k = p0 at *
      generalize hp1 : U / 32 ^ (k + 1) = p1 at *
      have HE1 := Lib.hid hx1
      have HE2 := Lib.hid hp1
      have t1 : (x : Int) < (S : Int) := by omega
      clear hx hx1 hp0 hp1 he
      go_wp2_with fail
      refine N1.mono ?_
      rintro e w2 ⟨rfl, rfl⟩
      go_wp2_with fail
      go_roundg (i - (k + 1))
      case measure => omega
      case rel => exact ⟨k + 1, by omega, by rw [HE1.out], by rw [HE2.out], rfl⟩
end Go.Proofs.YtejfmajbggmghaaGreat
