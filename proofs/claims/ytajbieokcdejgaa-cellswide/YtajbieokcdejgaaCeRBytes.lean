/-
  The reference's Bytes; two rows of bytes that are the same.
-/
import Derived.Test.YtajbieokcdejgaaCeRef
import Derived.Test.YtajbieokcdejgaaCeByt
namespace Go.Proofs.Ytajbieokcdejgaa
open Go.RowKit Go.WideShapes

theorem Byt.mono {B B' : Nat} {w : World} {v : Value} {m : Nat} {g : Nat → Int} (h : Byt B w v m g) (hb : B' ≤ B) : Byt B' w v m g := by
  refine ⟨h.1, ?_⟩
  rcases h.2 with h0 | ⟨g, cap, cur, e, h1, h2⟩
  · exact .inl h0
  · exact .inr ⟨g, cap, cur, e, Nat.le_trans hb h1, h2⟩
theorem wd_cases (L : Nat) : wd L = 1 ∨ wd L = 2 ∨ wd L = 4 := by
  rcases L_cases L with h1 | ⟨h1, h2⟩ | ⟨h1, h2⟩
  · exact .inl (by simp [wd, h1])
  · exact .inr (.inl (by simp [wd, h1, h2]))
  · exact .inr (.inr (by simp [wd, h1, h2]))
set_option maxRecDepth 100000 in
set_option maxHeartbeats 4000000 in
theorem rbytes_any {w : World} {L q S : Nat} {f : Nat → Int} (hS : Sz L S) (h : Rf w q S f) (hf : ∀ i, i < S → -2147483648 ≤ f i ∧ f i < 2147483648) :
    Calls Try.prog 15 #[rv L q S] w fun e w' => ∃ v, e = .returned v ∧ Byt w.heap.size w' v (S * wd L) (bt (wd L) f) ∧ Below w.heap.size w w' := by
  obtain ⟨i0, hi, hz0, hz1, hz2⟩ := info_parts Try.infoByte
  have hm := hS.most
  have hp := hS.pos
  have hw4 : wd L ≤ 4 := by rcases wd_cases L with e | e | e <;> omega
  have hw1 : 1 ≤ wd L := by rcases wd_cases L with e | e | e <;> omega
  have HW := Lib.hid (fun w => rwidth_any hS w)
  have HF := Lib.hid hf
  have HH := Lib.hid h
  have lq := h.lt (by omega)
  clear hS h hf
  unfold rv
  obtain ⟨w1, hw1'⟩ : ∃ w1, w.alloc (.cells #[.int .i64 (L : Int), .slice (some ⟨q, 0, none⟩) S S] 30) = w1 := ⟨_, rfl⟩
  have HK0 : Hid (w1.cell? ⟨w.heap.size, 0, none⟩ = some (.int .i64 (L : Int))) := by show _ = _; rw [← hw1']; exact cell_new0 _ _ _ _
  have HK1 : Hid (w1.cell? ⟨w.heap.size, 1, none⟩ = some (.slice (some ⟨q, 0, none⟩) S S)) := by show _ = _; rw [← hw1']; exact cell_new1 _ _ _ _
  have hb1 : Below w.heap.size w w1 := by rw [← hw1']; exact (Below.refl _ w).alloc (Nat.le_refl _) _
  have hs1 : w1.heap.size = w.heap.size + 1 := by rw [← hw1']; simp
  generalize wd L = W at *
  go_enter Try.func15, Try.ntmps15
  go_upto_region 3 with fail
  clear hw1'
  go_loopw [3, 4] (fun v iv wr => ∃ k : Nat, k ≤ S ∧ iv = .int .i64 (k : Int) ∧ Byt (w.heap.size + 1) wr v (k * W) (bt W f) ∧ Below (w.heap.size + 1) w1 wr) (fun _ iv _ => S - (intOf iv).toNat)
  case atStart => exact ⟨0, Nat.zero_le _, rfl, by rw [Nat.zero_mul]; exact Byt.nil _ _ _, Below.refl _ _⟩
  case round =>
    obtain ⟨k, hk, rfl, hI, hB⟩ := hrel
    have k0 := (hB.cell (p := ⟨w.heap.size, 0, none⟩) (by show w.heap.size < w.heap.size + 1; omega)).trans HK0.out
    have k1 := (hB.cell (p := ⟨w.heap.size, 1, none⟩) (by show w.heap.size < w.heap.size + 1; omega)).trans HK1.out
    by_cases hlt : k < S
    · have t1 : (k : Int) < (S : Int) := by omega
      have d1 := (hB.cell (p := ⟨q, k, none⟩) (by show q < w.heap.size + 1; omega)).trans ((hb1.cell (p := ⟨q, k, none⟩) lq).trans (HH.out.hc k hlt))
      have hx := HF.out k hlt
      have e1 : IntKind.i32.wrap (f k) = f k := by rw [IntKind.wrap_i32]; omega
      have e2 : wrap32 (f k) = f k := by unfold wrap32; omega
      have hkm : k * W ≤ 4194304 := Nat.le_trans (Nat.mul_le_mul (Nat.le_trans hk hm) hw4) (by decide)
      have hks : (k + 1) * W = k * W + W := Nat.succ_mul k W
      have HBT : Hid (∀ p, p < W → bt W f (k * W + p) = f k / 256 ^ p % 256) := fun p hp => bt_at W k p f hp
      generalize f k = x at *
      generalize hg : bt W f = g at *
      clear hg
      generalize k * W = kw at *
      go_wp2_with fail
      go_loopw [3, 6] (fun v iv wq => ∃ p : Nat, p ≤ W ∧ iv = .int .i64 (p : Int) ∧ Byt (w.heap.size + 1) wq v (kw + p) g ∧ Below (w.heap.size + 1) w1 wq) (fun _ iv _ => W - (intOf iv).toNat)
      case atStart => exact ⟨0, Nat.zero_le _, rfl, hI, hB⟩
      case round =>
        clear hI hB d1 k0 k1
        obtain ⟨p, hpW, rfl, hI, hB⟩ := hrel
        have k0 := (hB.cell (p := ⟨w.heap.size, 0, none⟩) (by show w.heap.size < w.heap.size + 1; omega)).trans HK0.out
        by_cases hlp : p < W
        · have t2 : (p : Int) < (W : Int) := by omega
          have hown : wr.ownsRow (w.heap.size + 1) 5 1 u3 (kw + p) (bl (kw + p) g) := hI
          have hsz := hB.size
          have FIN : Hid (∀ (y : Int) (v' : Value) (w2 : World), w2.ownsRow (w.heap.size + 1) 5 1 v' (kw + p + 1) (bl (kw + p) g ++ [.int .u8 y]) → y = x / 256 ^ p % 256 → Byt (w.heap.size + 1) w2 v' (kw + (p + 1)) g) := fun y v' w2 h5 e => by
            rw [← Nat.add_assoc]
            exact Byt.snoc h5 (by rw [HBT.out p hlp]; exact e)
          have hmx : kw + p ≤ 4194308 := by omega
          clear hI
          generalize bl (kw + p) g = R at hown FIN
          generalize kw + p = m at hown FIN hmx
          rcases (by omega : p = 0 ∨ p = 1 ∨ p = 2 ∨ p = 3) with rfl | rfl | rfl | rfl
          all_goals
            go_wp2_with fail
            refine (HW.out _).mono ?_
            rintro e w5 ⟨rfl, rfl⟩
            go_wp2_with (at_builtin; refine wpList_append_own _ rfl _ _ 36 rfl (w.heap.size + 1) 5 i0 (.int .u8 0) 1 1 Try.underlying36 hi hz0 hz1 hz2 rfl (by decide) _ _ _ rfl (World.ownsRow.alloc hown _) ⟨w5.heap.size, 0, none⟩ 1 1 [.int .u8 _] rfl rfl (new_one _ _ _) (by simp [Value.oneCell']) (by unfold maxLen; omega) (by omega) (by simp; omega) ?_; intro v' w2 hown2 hgrow _; have hI2 := Lib.hid (FIN.out _ v' w2 hown2 (by first | omega | (simp; omega) | simp)); have hgrow' : (w5.alloc (.cells #[.int .u8 _] 5)).grownBy w2 u3.ownBlock := hgrow; have hb2 := below_grown hB (by omega) hown hgrow'; clear hgrow hgrow' hown2)
            go_roundw
            case rel => exact ⟨_, by omega, by go_num, hI2.out, hb2⟩
            case measure => simp [intOf]; omega
        · have t2 : ¬ (p : Int) < (W : Int) := by omega
          obtain rfl : p = W := by omega
          go_wp2_with fail
          refine (HW.out _).mono ?_
          rintro e w5 ⟨rfl, rfl⟩
          go_wp2_with fail
          go_roundw
          case rel => exact ⟨k + 1, by omega, by go_num, by rw [hks]; exact hI, hB⟩
          case measure => simp [intOf]; omega
    · have t1 : ¬ (k : Int) < (S : Int) := by omega
      obtain rfl : k = S := by omega
      go_wp2
      go_ret
      exact ⟨_, rfl, hI.mono (by omega), hb1.trans (hB.mono (by omega))⟩
end Go.Proofs.Ytajbieokcdejgaa
