/-
  The document's own Tokens.
-/
import Derived.Test.YtkppnncpejohgaaDoorLxRfT
import Derived.Test.YtkppnncpejohgaaDoorLxFin
import Derived.Test.YtkppnncpejohgaaDoorLxLong
namespace Go.Proofs.YtkppnncpejohgaaDoor
open Go.RowKit Go.WideShapes
namespace Lx

set_option maxRecDepth 100000 in
set_option maxHeartbeats 1000000 in
theorem rtokens_long (w : World) (a : Option Addr) (n c : Nat) (h : 65536 < n) :
    Calls Tryd.prog 11 #[.slice a n c] w fun e w' => e = .returned (.tuple #[.slice none 0 0, .agg #[.int .i64 101, .int .i64 65536]]) ∧ Below w.heap.size w w' := by
  have t1 : (65536 : Int) < (n : Int) := by omega
  go_enter Tryd.func11, Tryd.ntmps11
  go_wp2
  refine bodyPost_ret (v := .tuple #[.slice none 0 0, .agg #[.int .i64 101, .int .i64 65536]]) (by simp [results, Tryd.results11, go_sem]) rfl ?_
  exact ⟨rfl, (Below.refl _ w).alloc (Nat.le_refl _) _⟩
theorem rf_new (w : World) (sv : Value) : RfX (w.heap.size + 1) ((((w.alloc (.cells #[.int .i64 0, .int .i64 0] 26)).alloc (.cells #[.int .i64 0] 3)).alloc (.cells #[sv, .slice none 0 0, .slice (some ⟨w.heap.size + 1, 0, none⟩) 1 1, .int .i64 0, .int .i64 0, .int .i64 0] 48))) (w.heap.size + 1 + 1) sv cf0.s 0 0 := by
  obtain ⟨W, hW⟩ : ∃ W, (w.alloc (.cells #[.int .i64 0, .int .i64 0] 26)) = W := ⟨_, rfl⟩
  have hs : W.heap.size = w.heap.size + 1 := by rw [← hW]; simp
  rw [hW, ← hs]
  have hs1 : (W.alloc (.cells #[.int .i64 0] 3)).heap.size = W.heap.size + 1 := by simp
  refine ⟨.slice (some ⟨W.heap.size, 0, none⟩) 1 1, .slice none 0 0, by omega, ?_, ?_, ⟨rfl, Or.inl ⟨rfl, rfl⟩⟩, ?_, (fun e => by cases e), (fun k _ e => by cases e)⟩
  · have h := Blk.new (W.alloc (.cells #[.int .i64 0] 3)) #[sv, .slice none 0 0, .slice (some ⟨W.heap.size, 0, none⟩) 1 1, .int .i64 0, .int .i64 0, .int .i64 0] 48
    rw [hs1] at h
    exact h.congr (fun j hj => by have hj : j < 6 := hj; rcases (by omega : j = 0 ∨ j = 1 ∨ j = 2 ∨ j = 3 ∨ j = 4 ∨ j = 5) with rfl | rfl | rfl | rfl | rfl | rfl <;> rfl)
  · refine World.ownsRow.alloc ?_ _
    exact World.ownsRow_lit W #[.int .i64 0] 1 (Nat.le_refl _) (by decide) rfl
  · intro e
    injection e with e
    have e : W.heap.size = W.heap.size + 1 := e
    omega
/-- The state ahead of a round. -/
structure Rs (N : Nat) (w0 : World) (g : Nat) (sv : Value) (n : Nat) (l : List UInt8) (gk : Nat) (hd : Bool) (b : Nat) (s : St) (wr : World) : Prop where
  e : s.at_ + gk = n
  x : RfX (N + 1) wr g sv s 0 0
  k : s.Ok n
  v : Via l cf0 ⟨hd, b, s⟩
  bl : b ≤ s.at_
  b : Below (N + 1) w0 wr
set_option maxRecDepth 100000 in
set_option maxHeartbeats 8000000 in
theorem rtokens_any {w : World} {a : Option Addr} {n c : Nat} {l : List UInt8} (hB : Bs w a n l) (hc : n ≤ c) (hn : n ≤ 65536) :
    Calls Tryd.prog 11 #[.slice a n c] w fun e w' => AnsR w.heap.size l w e w' := by
  have t1 : ¬ (65536 : Int) < (n : Int) := by omega
  obtain ⟨W, hW⟩ : ∃ W, (((w.alloc (.cells #[.int .i64 0, .int .i64 0] 26)).alloc (.cells #[.int .i64 0] 3)).alloc (.cells #[.slice a n c, .slice none 0 0, .slice (some ⟨w.heap.size + 1, 0, none⟩) 1 1, .int .i64 0, .int .i64 0, .int .i64 0] 48)) = W := ⟨_, rfl⟩
  have hX : RfX (w.heap.size + 1) W (w.heap.size + 1 + 1) (.slice a n c) cf0.s 0 0 := by rw [← hW]; exact rf_new w _
  have hbW : Below w.heap.size w W := by
    rw [← hW]
    exact (((Below.refl _ w).alloc (Nat.le_refl _) _).alloc (by simp) _).alloc (by simp; omega) _
  have hs : W.heap.size = w.heap.size + 3 := by rw [← hW]; simp
  have b0 : Blk W w.heap.size 2 (fun _ => .int .i64 0) := by
    have h := (Blk.new w #[.int .i64 0, .int .i64 0] 26).congr (F' := fun _ => .int .i64 0) (fun j hj => by have hj : j < 2 := hj; rcases (by omega : j = 0 ∨ j = 1) with rfl | rfl <;> rfl)
    refine Blk.same h ?_
    rw [← hW, Below.heap_alloc _ _ _ (by simp; omega), Below.heap_alloc _ _ _ (by simp)]
  have HB := Lib.hid hB
  have HX := Lib.hid hX
  have HBW := Lib.hid hbW
  have HS := Lib.hid hs
  have HB0 := Lib.hid b0
  have hnl := hB.1
  have HNL := Lib.hid hnl
  have HPT : Hid (∀ wr, Below (w.heap.size + 1) W wr → ∀ j, j < n → ∃ b off, a = some ⟨b, off, none⟩ ∧ b < w.heap.size ∧ ∀ i, i < n → wr.cell? ⟨b, off + i, none⟩ = some (.int .u8 ((l.getD i 0).toNat : Int))) := by
    intro wr h j hj
    obtain ⟨-, b, off, h2, h3⟩ := hB
    obtain ⟨ha, hb⟩ := h2 (by omega)
    refine ⟨b, off, ha, hb, fun i hi => ?_⟩
    exact ((h.cell (p := ⟨b, off + i, none⟩) (by show b < _; omega)).trans (hbW.cell (p := ⟨b, off + i, none⟩) hb)).trans (h3 i hi)
  have RET : Hid (∀ (wr : World) (x y : Nat), Below (w.heap.size + 1) W wr → ((wr.setCell ⟨w.heap.size, 0, none⟩ (.int .i64 (x : Int))).cell? ⟨w.heap.size, 0, none⟩ = some (.int .i64 (x : Int)) ∧ ((wr.setCell ⟨w.heap.size, 0, none⟩ (.int .i64 (x : Int))).setCell ⟨w.heap.size, 1, none⟩ (.int .i64 (y : Int))).cell? ⟨w.heap.size, 1, none⟩ = some (.int .i64 (y : Int)) ∧ Below w.heap.size w ((wr.setCell ⟨w.heap.size, 0, none⟩ (.int .i64 (x : Int))).setCell ⟨w.heap.size, 1, none⟩ (.int .i64 (y : Int))).drew)) := by
    intro wr x y h
    have h1 := b0.same (h.block _ (Nat.lt_succ_self _))
    have h3 := h1.put 0 (.int .i64 (x : Int))
    have h2 := h3.put 1 (.int .i64 (y : Int))
    refine ⟨h3.c 0 (by omega), h2.c 1 (by omega), ?_⟩
    exact ((((hbW.trans (h.mono (Nat.le_succ _)))).setCell (p := ⟨w.heap.size, 0, none⟩) (Nat.le_refl _) _).setCell (p := ⟨w.heap.size, 1, none⟩) (Nat.le_refl _) _).drew
  have PC : Hid (∀ wr, Below (w.heap.size + 1) W wr → (wr.cell? ⟨w.heap.size, 0, none⟩ = some (.int .i64 0) ∧ wr.cell? ⟨w.heap.size, 1, none⟩ = some (.int .i64 0) ∧ wr.frozen? ⟨w.heap.size, 0, none⟩ = false ∧ wr.frozen? ⟨w.heap.size, 1, none⟩ = false)) := by
    intro wr h
    have h1 := b0.same (h.block _ (Nat.lt_succ_self _))
    exact ⟨h1.c 0 (by omega), h1.c 1 (by omega), h1.z 0, h1.z 1⟩
  clear hX hbW hs b0 hB hnl
  go_enter Tryd.func11, Tryd.ntmps11
  go_wp2_with fail
  go_loopg [5, 6, 7] n (fun gk v5 v6 v7 wr => ∃ (hd : Bool) (b : Nat) (s : St), v5 = .int .i64 (s.at_ : Int) ∧ v6 = .int .i64 (b : Int) ∧ v7 = .bool hd ∧ Rs w.heap.size W (w.heap.size + 1 + 1) (.slice a n c) n l gk hd b s wr)
  case atStart => exact ⟨true, 0, cf0.s, rfl, rfl, rfl, ⟨by show 0 + n = n; omega, HX.out, ok0 _, Via.refl _ _, Nat.le_refl _, Below.refl _ _⟩⟩
  case round =>
    obtain ⟨hd, b, s, rfl, rfl, rfl, hR⟩ := hrel
    have HR := Lib.hid hR
    have hle := hR.k.le
    have hbl := hR.bl
    have hgk := hR.e
    clear hR
    by_cases hlt : s.at_ < n
    · obtain ⟨bb, off, ha, hbb, hcell⟩ := HPT.out wr HR.out.b s.at_ hlt
      subst ha
      have HC := Lib.hid hcell
      have ca := hcell s.at_ hlt
      have u1 : (s.at_ : Int) < (n : Int) := by omega
      have u0 : (0 : Int) ≤ (s.at_ : Int) := by omega
      have e1 : IntKind.i64.wrap ((s.at_ : Int) + 1) = ((s.at_ + 1 : Nat) : Int) := by rw [i64_small (by omega) (by omega)]; omega
      have hll : s.at_ < l.length := by rw [← HNL.out]; exact hlt
      have HLL := Lib.hid hll
      obtain ⟨cc, hcc⟩ : ∃ cc, l.getD s.at_ 0 = cc := ⟨_, rfl⟩
      rw [hcc] at ca
      have HCC := Lib.hid hcc
      clear hcell hcc hll
      have hcs : ∀ (k : UInt8), ((cc.toNat : Int) == (k.toNat : Int)) = decide (cc = k) := fun k => by
        by_cases e : cc = k
        · rw [e]; simp
        · rw [decide_eq_false e]
          exact beq_eq_false_iff_ne.2 (fun e' => e (UInt8.toNat_inj.1 (by omega)))
      have s35 : ((cc.toNat : Int) == 35) = decide (cc = 35) := hcs 35
      have s32 : ((cc.toNat : Int) == 32) = decide (cc = 32) := hcs 32
      have s10 : ((cc.toNat : Int) == 10) = decide (cc = 10) := hcs 10
      clear hcs
      by_cases h35 : cc = 35
      · rw [decide_eq_true h35] at s35
        have hst : stp l ⟨hd, b, s⟩ = .inr ⟨hd, b, { s with at_ := s.at_ + rem (l.drop s.at_) }⟩ := by
          unfold stp
          simp only
          rw [if_neg (by have := HLL.out; omega), if_pos (by rw [HCC.out]; exact h35)]
        have HST := Lib.hid hst
        have hpos : s.at_ < s.at_ + rem (l.drop s.at_) := by
          rw [rem_step HLL.out (by rw [HCC.out, h35]; decide)]
          omega
        have hrl : s.at_ + rem (l.drop s.at_) ≤ n := by have := rem_le (l.drop s.at_); rw [List.length_drop, ← HNL.out] at this; omega
        have HPOS := Lib.hid hpos
        have HRL := Lib.hid hrl
        clear hst hpos hrl h35 s32 s10 e1
        go_wp2_with fail
        go_loopg [5] (n - s.at_) (fun gj v5 wi => ∃ p, p + gj = n ∧ s.at_ ≤ p ∧ v5 = .int .i64 (p : Int) ∧ p + rem (l.drop p) = s.at_ + rem (l.drop s.at_) ∧ wi = wr)
        case atStart => exact ⟨s.at_, by omega, Nat.le_refl _, rfl, rfl, rfl⟩
        case round =>
          obtain ⟨p, hgj, hp, rfl, hrem, hwi⟩ := hrel
          rw [hwi]
          clear hwi
          have HRM := Lib.hid hrem
          clear hrem
          have j0 : (0 : Int) ≤ (p : Int) := by omega
          by_cases hpn : p < n
          · have v1 : (p : Int) < (n : Int) := by omega
            have cp := HC.out p hpn
            by_cases hpc : l.getD p 0 = 10
            · rw [hpc] at cp
              have h9 : p = s.at_ + rem (l.drop s.at_) := by have := HRM.out; rw [rem_none (Or.inr hpc)] at this; simpa using this
              have H9 := Lib.hid h9
              clear h9 hpc
              go_wp2_with fail
              go_roundg (n - p)
              case measure => have := H9.out; have := HPOS.out; omega
              case rel =>
                have h9 := H9.out
                refine ⟨hd, b, { s with at_ := p }, rfl, rfl, rfl, ⟨by show p + (n - p) = n; omega, HR.out.x.at_ p, ?_, by rw [h9]; exact HR.out.v.step HST.out, by show b ≤ p; omega, HR.out.b⟩⟩
                have k := HR.out.k
                exact ⟨by show p ≤ n; omega, k.o, k.ne, k.last, k.few, k.down, by show s.ts.length ≤ 41 * p; have := k.many; omega, k.kind⟩
            · have v2 : (((l.getD p 0).toNat : Int) != 10) = true := by
                simp only [bne_iff_ne, ne_eq]
                intro e
                exact hpc (UInt8.toNat_inj.1 (by show (l.getD p 0).toNat = 10; omega))
              have h8 := rem_step (l := l) (a := p) (by rw [← HNL.out]; exact hpn) hpc
              have H8 := Lib.hid h8
              have e2 : IntKind.i64.wrap ((p : Int) + 1) = ((p + 1 : Nat) : Int) := by rw [i64_small (by omega) (by omega)]; omega
              clear h8 hpc
              generalize l.getD p 0 = cp0 at *
              go_wp2_with fail
              go_roundg (gk - 1)
              case measure => omega
              case rel => exact ⟨p + 1, by omega, by omega, rfl, by rw [← HRM.out, H8.out], rfl⟩
          · have v1 : decide ((p : Int) < (n : Int)) = false := by simp; omega
            have h9 : p = s.at_ + rem (l.drop s.at_) := by
              have := HRM.out
              rw [rem_none (Or.inl (by rw [← HNL.out]; omega))] at this
              simpa using this
            have H9 := Lib.hid h9
            clear h9
            go_wp2_with fail
            go_roundg (n - p)
            case measure => have := H9.out; have := HPOS.out; omega
            case rel =>
              have h9 := H9.out
              refine ⟨hd, b, { s with at_ := p }, rfl, rfl, rfl, ⟨by show p + (n - p) = n; omega, HR.out.x.at_ p, ?_, by rw [h9]; exact HR.out.v.step HST.out, by show b ≤ p; omega, HR.out.b⟩⟩
              have k := HR.out.k
              exact ⟨by show p ≤ n; omega, k.o, k.ne, k.last, k.few, k.down, by show s.ts.length ≤ 41 * p; have := k.many; omega, k.kind⟩
      · rw [decide_eq_false h35] at s35
        by_cases h32 : cc = 32
        · rw [decide_eq_true h32] at s32
          have hst : stp l ⟨hd, b, s⟩ = .inr ⟨hd, b + 1, { s with at_ := s.at_ + 1 }⟩ := by
            unfold stp
            simp only
            rw [if_neg (by have := HLL.out; omega), if_neg (by rw [HCC.out]; exact h35), if_pos (by rw [HCC.out]; exact h32)]
          have HST := Lib.hid hst
          have e2 : IntKind.i64.wrap ((b : Int) + 1) = ((b + 1 : Nat) : Int) := by rw [i64_small (by omega) (by omega)]; omega
          clear hst h35 h32
          go_wp2_with fail
          go_roundg (gk - 1)
          case measure => omega
          case rel =>
            refine ⟨hd, b + 1, { s with at_ := s.at_ + 1 }, rfl, rfl, rfl, ⟨by show s.at_ + 1 + (gk - 1) = n; omega, HR.out.x.at_ _, ?_, HR.out.v.step HST.out, by show b + 1 ≤ s.at_ + 1; omega, HR.out.b⟩⟩
            have k := HR.out.k
            exact ⟨by show s.at_ + 1 ≤ n; omega, k.o, k.ne, k.last, k.few, k.down, by show s.ts.length ≤ 41 * (s.at_ + 1); have := k.many; omega, k.kind⟩
        · rw [decide_eq_false h32] at s32
          by_cases h10 : cc = 10
          · rw [decide_eq_true h10] at s10
            obtain ⟨dv, tv, h⟩ := HR.out.x
            have c3 : wr.cell? ⟨w.heap.size + 1 + 1, 3, none⟩ = some (.int .i64 (s.opn : Int)) := h.b.c 3 (by omega)
            clear h
            have hb1 : (if s.opn = 0 then stp l ⟨hd, b, s⟩ = .inr ⟨true, 0, { s with at_ := s.at_ + 1, ts := if hd then s.ts else s.ts ++ [⟨6, [], s.at_⟩] }⟩ else stp l ⟨hd, b, s⟩ = .inr ⟨hd, 0, { s with at_ := s.at_ + 1 }⟩) := by
              split
              · rename_i ho
                unfold stp
                simp only
                rw [if_neg (by have := HLL.out; omega), if_neg (by rw [HCC.out]; exact h35), if_neg (by rw [HCC.out]; exact h32), if_pos (by rw [HCC.out]; exact h10), if_pos ho]
              · rename_i ho
                unfold stp
                simp only
                rw [if_neg (by have := HLL.out; omega), if_neg (by rw [HCC.out]; exact h35), if_neg (by rw [HCC.out]; exact h32), if_pos (by rw [HCC.out]; exact h10), if_neg ho]
            have HST := Lib.hid hb1
            have hkm := HR.out.k.many
            clear hb1 h35 h32 h10
            by_cases ho : s.opn = 0
            · have hst := HST.out
              rw [if_pos ho] at hst
              have HS2 := Lib.hid hst
              rw [ho] at c3
              have HO := Lib.hid ho
              clear hst ho
              cases hd with
              | true =>
                go_wp2_with fail
                go_roundg (gk - 1)
                case measure => omega
                case rel =>
                  refine ⟨true, 0, { s with at_ := s.at_ + 1 }, rfl, rfl, rfl, ⟨by show s.at_ + 1 + (gk - 1) = n; omega, HR.out.x.at_ _, ?_, HR.out.v.step HS2.out, Nat.zero_le _, HR.out.b⟩⟩
                  have k := HR.out.k
                  exact ⟨by show s.at_ + 1 ≤ n; omega, k.o, k.ne, k.last, k.few, k.down, by show s.ts.length ≤ 41 * (s.at_ + 1); omega, k.kind⟩
              | false =>
                go_wp2_with fail
                refine (add_any HR.out.x 6 [] s.at_ ⟨#[]⟩ _ rfl rfl (by omega)).mono ?_
                rintro e w2 ⟨rfl, h2, hb2⟩
                have H2 := Lib.hid h2
                obtain ⟨dv2, tv2, h2⟩ := h2
                have c32 : w2.cell? ⟨w.heap.size + 1 + 1, 3, none⟩ = some (.int .i64 0) := by
                  have := h2.b.c 3 (by omega)
                  rw [this]
                  show some (Value.int .i64 ((s.opn : Nat) : Int)) = _
                  rw [HO.out]
                  rfl
                clear h2 c3
                go_wp2_with fail
                go_roundg (gk - 1)
                case measure => omega
                case rel =>
                  refine ⟨true, 0, { s with at_ := s.at_ + 1, ts := s.ts ++ [⟨6, [], s.at_⟩] }, rfl, rfl, rfl, ⟨by show s.at_ + 1 + (gk - 1) = n; omega, H2.out.at_ _, ?_, HR.out.v.step HS2.out, Nat.zero_le _, HR.out.b.trans hb2⟩⟩
                  have k := HR.out.k
                  refine ⟨by show s.at_ + 1 ≤ n; omega, k.o, k.ne, k.last, k.few, k.down, by show (s.ts ++ [_]).length ≤ 41 * (s.at_ + 1); rw [List.length_append]; simp; omega, ?_⟩
                  intro t ht
                  simp at ht
                  subst ht
                  exact ⟨by show (6 : Nat) ≠ 7; omega, by show (6 : Nat) ≠ 8; omega⟩
            · have hst := HST.out
              rw [if_neg ho] at hst
              have HS2 := Lib.hid hst
              have o0 : ((s.opn : Int) == 0) = false := beq_eq_false_iff_ne.2 (by omega)
              clear hst ho
              go_wp2_with fail
              go_roundg (gk - 1)
              case measure => omega
              case rel =>
                refine ⟨hd, 0, { s with at_ := s.at_ + 1 }, rfl, rfl, rfl, ⟨by show s.at_ + 1 + (gk - 1) = n; omega, HR.out.x.at_ _, ?_, HR.out.v.step HS2.out, Nat.zero_le _, HR.out.b⟩⟩
                have k := HR.out.k
                exact ⟨by show s.at_ + 1 ≤ n; omega, k.o, k.ne, k.last, k.few, k.down, by show s.ts.length ≤ 41 * (s.at_ + 1); omega, k.kind⟩
          · rw [decide_eq_false h10] at s10
            have hT : Tl l s.at_ := ⟨HLL.out, by rw [HCC.out]; exact h35, by rw [HCC.out]; exact h32, by rw [HCC.out]; exact h10⟩
            have HT := Lib.hid hT
            have hkm := HR.out.k.many
            clear hT h35 h32 h10
            cases hd with
            | true =>
              have k := HR.out.k
              have C0 := begin_any (n := b) HR.out.x k.ne k.last k.few (by omega)
              clear k
              go_wp2_with fail
              refine C0.mono ?_
              rintro e w2 ⟨rfl, hF⟩
              clear C0
              cases hx : stl b s with
              | error e9 =>
                rw [hx] at hF
                obtain ⟨⟨s9, h9⟩, hb9⟩ := hF
                have hLx : Lex l cf0 (.bad e9 s.at_) := HR.out.v _ (.done (stp_head_bad HT.out hx))
                have hBN := HR.out.b.trans hb9
                have hcd := stl_code hx
                have e9n : ((e9 : Int) != 0) = true := by simp; omega
                have e9m : ((e9 : Int) == 0) = false := beq_eq_false_iff_ne.2 (by omega)
                clear hx hcd hb9
                obtain ⟨w9, hw9⟩ : ∃ w9, w2 = w9 := ⟨_, rfl⟩
                rw [hw9] at h9 hBN ⊢
                clear hw9
                obtain ⟨dv9, tv9, h9⟩ := h9
                have c49 : w9.cell? ⟨w.heap.size + 1 + 1, 4, none⟩ = some (.int .i64 (e9 : Int)) := h9.b.c 4 (by omega)
                have c59 : w9.cell? ⟨w.heap.size + 1 + 1, 5, none⟩ = some (.int .i64 (s.at_ : Int)) := h9.b.c 5 (by omega)
                obtain ⟨p0, p1, z0, z1⟩ := PC.out _ hBN
                have HBN := Lib.hid hBN
                have HLX := Lib.hid hLx
                have n1 : ¬ w.heap.size = w.heap.size + 1 + 1 := by omega
                have n2 : ¬ w.heap.size + 1 + 1 = w.heap.size := by omega
                clear h9 hBN hLx
                go_wp2_with fail
                go_region
                all_goals
                  go_wp2_with fail
                  obtain ⟨r0, r1, r2⟩ := RET.out w9 e9 s.at_ HBN.out
                  refine bodyPost_ret (v := .tuple #[.slice none 0 0, .agg #[.int .i64 (e9 : Int), .int .i64 (s.at_ : Int)]]) (by simp [results, Tryd.results11, go_sem, r0, r1]) rfl ?_
                  exact ⟨.bad e9 s.at_, HLX.out, r2, rfl⟩
              | ok s1 =>
                rw [hx] at hF
                obtain ⟨h2, hb2⟩ := hF
                obtain ⟨q1, q2, q3⟩ := stl_ok HR.out.k hlt hx
                have HX1 := Lib.hid h2
                have HT1 := Lib.hid q1
                have HA1 := Lib.hid q2
                have HV1 := Lib.hid HR.out.v
                have HC1 : Hid (stp l ⟨true, b, s⟩ = tkn l b s1) := stp_head HT.out hx
                have HB1 := Lib.hid (HR.out.b.trans hb2)
                have HC2 : Hid (∀ j, j < n → w2.cell? ⟨bb, off + j, none⟩ = some (.int .u8 ((l.getD j 0).toNat : Int))) := fun j hj => (hb2.cell (p := ⟨bb, off + j, none⟩) (by show bb < _; omega)).trans (HC.out j hj)
                clear h2 hb2 q1 q2 q3 hx
                have hT1 := HT1.out
                have hm1 := hT1.many
                have ha1 := HA1.out
                have C := token_any (c := c) HX1.out HNL.out (fun j hj => (HC2.out j hj)) (by omega) hc hT1.le hn hT1.o (by omega)
                rw [ha1] at C hm1
                clear hT1 ha1
                obtain ⟨dv1, tv1, h1⟩ := HX1.out
                have c41 : w2.cell? ⟨w.heap.size + 1 + 1, 4, none⟩ = some (.int .i64 0) := h1.b.c 4 (by omega)
                clear h1
                go_wp2_with fail
                refine C.mono ?_
                rintro e w9 hC
                clear C
                cases ht : tk (l.drop s.at_) s1.opn with
                | error e9 =>
                  rw [ht] at hC
                  obtain ⟨⟨v9, rfl⟩, ⟨s9, h9⟩, hb9⟩ := hC
                  rw [HA1.out] at h9
                  have hLx : Lex l cf0 (.bad e9 s.at_) := by
                    refine HV1.out _ (.done (HC1.out.trans ?_))
                    rw [← HA1.out] at ht ⊢
                    unfold tkn
                    rw [ht]
                  have hBN := HB1.out.trans hb9
                  have hcd := tk_code ht
                  have e9n : ((e9 : Int) != 0) = true := by simp; omega
                  clear ht hcd hb9
                  obtain ⟨dv9, tv9, h9⟩ := h9
                  have c49 : w9.cell? ⟨w.heap.size + 1 + 1, 4, none⟩ = some (.int .i64 (e9 : Int)) := h9.b.c 4 (by omega)
                  have c59 : w9.cell? ⟨w.heap.size + 1 + 1, 5, none⟩ = some (.int .i64 (s.at_ : Int)) := h9.b.c 5 (by omega)
                  obtain ⟨p0, p1, z0, z1⟩ := PC.out _ hBN
                  have HBN := Lib.hid hBN
                  have HLX := Lib.hid hLx
                  have n1 : ¬ w.heap.size = w.heap.size + 1 + 1 := by omega
                  have n2 : ¬ w.heap.size + 1 + 1 = w.heap.size := by omega
                  clear h9 hBN hLx
                  go_wp2_with fail
                  go_region
                  all_goals
                    go_wp2_with fail
                    obtain ⟨r0, r1, r2⟩ := RET.out w9 e9 s.at_ HBN.out
                    refine bodyPost_ret (v := .tuple #[.slice none 0 0, .agg #[.int .i64 (e9 : Int), .int .i64 (s.at_ : Int)]]) (by simp [results, Tryd.results11, go_sem, r0, r1]) rfl ?_
                    exact ⟨.bad e9 s.at_, HLX.out, r2, rfl⟩
                | ok p =>
                  rw [ht] at hC
                  obtain ⟨rfl, h9, hb9⟩ := hC
                  have hok : St.Ok n ⟨s1.at_ + p.2.2.1, p.2.2.2, s1.bs, s1.ts ++ [⟨p.1, p.2.1, s1.at_⟩]⟩ ∧ s1.at_ < s1.at_ + p.2.2.1 ∧ tkn l b s1 = .inr ⟨false, b, ⟨s1.at_ + p.2.2.1, p.2.2.2, s1.bs, s1.ts ++ [⟨p.1, p.2.1, s1.at_⟩]⟩⟩ := by
                    have ht2 : aft s1 (tk (l.drop s1.at_) s1.opn) = .ok ⟨s1.at_ + p.2.2.1, p.2.2.2, s1.bs, s1.ts ++ [⟨p.1, p.2.1, s1.at_⟩]⟩ := by rw [HA1.out, ht]; unfold aft; rw [HA1.out]
                    obtain ⟨h1, h2⟩ := aft_ok (l := l) (by rw [← HNL.out]; exact HT1.out) ht2
                    rw [← HNL.out] at h1
                    exact ⟨h1, h2, tkn_ok ht2⟩
                  have HOK := Lib.hid hok
                  have H9 := Lib.hid h9
                  have HB9 := Lib.hid hb9
                  obtain ⟨dv9, tv9, h9⟩ := h9
                  have c49 : w9.cell? ⟨w.heap.size + 1 + 1, 4, none⟩ = some (.int .i64 0) := h9.b.c 4 (by omega)
                  have hl9 := hok.1.le
                  have hg9 := hok.2.1
                  simp only at hl9
                  rw [HA1.out] at hl9 hg9
                  rw [HA1.out]
                  clear h9 ht hok hb9 c41
                  go_wp2_with fail
                  go_roundg (n - (s.at_ + p.2.2.1))
                  case measure => omega
                  case rel => exact ⟨false, b, ⟨s1.at_ + p.2.2.1, p.2.2.2, s1.bs, s1.ts ++ [⟨p.1, p.2.1, s1.at_⟩]⟩, by show Value.int .i64 _ = Value.int .i64 ((s1.at_ + p.2.2.1 : Nat) : Int); rw [HA1.out]; simp, rfl, rfl, ⟨by show s1.at_ + p.2.2.1 + _ = n; rw [HA1.out]; omega, H9.out, HOK.out.1, HV1.out.step (HC1.out.trans HOK.out.2.2), by show b ≤ s1.at_ + p.2.2.1; rw [HA1.out]; omega, HB1.out.trans HB9.out⟩⟩
            | false =>
              obtain ⟨s1, hs1⟩ : ∃ s1, s1 = s := ⟨_, rfl⟩
              obtain ⟨w2, hw2⟩ : ∃ w2, wr = w2 := ⟨_, rfl⟩
              have HX1 : Hid (RfX (w.heap.size + 1) w2 (w.heap.size + 1 + 1) (.slice (some ⟨bb, off, none⟩) n c) s1 0 0) := by rw [hs1, ← hw2]; exact HR.out.x
              have HT1 : Hid (TOk n s1) := by rw [hs1]; exact tok_of HR.out.k hlt
              have HA1 : Hid (s1.at_ = s.at_) := by rw [hs1]; rfl
              have HV1 := Lib.hid HR.out.v
              have HC1 : Hid (stp l ⟨false, b, s⟩ = tkn l b s1) := by rw [hs1]; exact stp_tok HT.out
              have HB1 : Hid (Below (w.heap.size + 1) W w2) := by rw [← hw2]; exact HR.out.b
              have HC2 : Hid (∀ j, j < n → w2.cell? ⟨bb, off + j, none⟩ = some (.int .u8 ((l.getD j 0).toNat : Int))) := by rw [← hw2]; exact HC.out
              rw [hw2]
              rw [hw2] at ca
              clear hw2 hs1
              have hT1 := HT1.out
              have hm1 := hT1.many
              have ha1 := HA1.out
              have C := token_any (c := c) HX1.out HNL.out (fun j hj => (HC2.out j hj)) (by omega) hc hT1.le hn hT1.o (by omega)
              rw [ha1] at C hm1
              clear hT1 ha1
              obtain ⟨dv1, tv1, h1⟩ := HX1.out
              have c41 : w2.cell? ⟨w.heap.size + 1 + 1, 4, none⟩ = some (.int .i64 0) := h1.b.c 4 (by omega)
              clear h1
              go_wp2_with fail
              refine C.mono ?_
              rintro e w9 hC
              clear C
              cases ht : tk (l.drop s.at_) s1.opn with
              | error e9 =>
                rw [ht] at hC
                obtain ⟨⟨v9, rfl⟩, ⟨s9, h9⟩, hb9⟩ := hC
                rw [HA1.out] at h9
                have hLx : Lex l cf0 (.bad e9 s.at_) := by
                  refine HV1.out _ (.done (HC1.out.trans ?_))
                  rw [← HA1.out] at ht ⊢
                  unfold tkn
                  rw [ht]
                have hBN := HB1.out.trans hb9
                have hcd := tk_code ht
                have e9n : ((e9 : Int) != 0) = true := by simp; omega
                clear ht hcd hb9
                obtain ⟨dv9, tv9, h9⟩ := h9
                have c49 : w9.cell? ⟨w.heap.size + 1 + 1, 4, none⟩ = some (.int .i64 (e9 : Int)) := h9.b.c 4 (by omega)
                have c59 : w9.cell? ⟨w.heap.size + 1 + 1, 5, none⟩ = some (.int .i64 (s.at_ : Int)) := h9.b.c 5 (by omega)
                obtain ⟨p0, p1, z0, z1⟩ := PC.out _ hBN
                have HBN := Lib.hid hBN
                have HLX := Lib.hid hLx
                have n1 : ¬ w.heap.size = w.heap.size + 1 + 1 := by omega
                have n2 : ¬ w.heap.size + 1 + 1 = w.heap.size := by omega
                clear h9 hBN hLx
                go_wp2_with fail
                go_region
                all_goals
                  go_wp2_with fail
                  obtain ⟨r0, r1, r2⟩ := RET.out w9 e9 s.at_ HBN.out
                  refine bodyPost_ret (v := .tuple #[.slice none 0 0, .agg #[.int .i64 (e9 : Int), .int .i64 (s.at_ : Int)]]) (by simp [results, Tryd.results11, go_sem, r0, r1]) rfl ?_
                  exact ⟨.bad e9 s.at_, HLX.out, r2, rfl⟩
              | ok p =>
                rw [ht] at hC
                obtain ⟨rfl, h9, hb9⟩ := hC
                have hok : St.Ok n ⟨s1.at_ + p.2.2.1, p.2.2.2, s1.bs, s1.ts ++ [⟨p.1, p.2.1, s1.at_⟩]⟩ ∧ s1.at_ < s1.at_ + p.2.2.1 ∧ tkn l b s1 = .inr ⟨false, b, ⟨s1.at_ + p.2.2.1, p.2.2.2, s1.bs, s1.ts ++ [⟨p.1, p.2.1, s1.at_⟩]⟩⟩ := by
                  have ht2 : aft s1 (tk (l.drop s1.at_) s1.opn) = .ok ⟨s1.at_ + p.2.2.1, p.2.2.2, s1.bs, s1.ts ++ [⟨p.1, p.2.1, s1.at_⟩]⟩ := by rw [HA1.out, ht]; unfold aft; rw [HA1.out]
                  obtain ⟨h1, h2⟩ := aft_ok (l := l) (by rw [← HNL.out]; exact HT1.out) ht2
                  rw [← HNL.out] at h1
                  exact ⟨h1, h2, tkn_ok ht2⟩
                have HOK := Lib.hid hok
                have H9 := Lib.hid h9
                have HB9 := Lib.hid hb9
                obtain ⟨dv9, tv9, h9⟩ := h9
                have c49 : w9.cell? ⟨w.heap.size + 1 + 1, 4, none⟩ = some (.int .i64 0) := h9.b.c 4 (by omega)
                have hl9 := hok.1.le
                have hg9 := hok.2.1
                simp only at hl9
                rw [HA1.out] at hl9 hg9
                rw [HA1.out]
                clear h9 ht hok hb9 c41
                go_wp2_with fail
                go_roundg (n - (s.at_ + p.2.2.1))
                case measure => omega
                case rel => exact ⟨false, b, ⟨s1.at_ + p.2.2.1, p.2.2.2, s1.bs, s1.ts ++ [⟨p.1, p.2.1, s1.at_⟩]⟩, by show Value.int .i64 _ = Value.int .i64 ((s1.at_ + p.2.2.1 : Nat) : Int); rw [HA1.out]; simp, rfl, rfl, ⟨by show s1.at_ + p.2.2.1 + _ = n; rw [HA1.out]; omega, H9.out, HOK.out.1, HV1.out.step (HC1.out.trans HOK.out.2.2), by show b ≤ s1.at_ + p.2.2.1; rw [HA1.out]; omega, HB1.out.trans HB9.out⟩⟩
    · obtain hae : s.at_ = n := by omega
      have HAE := Lib.hid hae
      have u1 : ¬ (s.at_ : Int) < (n : Int) := by omega
      have hLx : Lex l cf0 (.ok (fin s)) := by
        refine HR.out.v _ (.done ?_)
        unfold stp
        simp only
        rw [if_pos (by rw [← HNL.out]; omega)]
      have HLX := Lib.hid hLx
      have HF : Hid (fin s = nl2 s.at_ s.ts ++ List.replicate (s.bs.length - 1) ⟨8, [], s.at_⟩ ++ [⟨9, [], s.at_⟩]) := by
        show fin s = _
        unfold fin
        rw [nl_eq _ _ HR.out.k.kind]
      have hts : s.ts.length ≤ 3000000 := by have := HR.out.k.many; omega
      obtain ⟨dv, tv, h⟩ := HR.out.x
      obtain ⟨ta, tc, rfl⟩ := ownsS_shape h.to
      have c1 : wr.cell? ⟨w.heap.size + 1 + 1, 1, none⟩ = some (.slice ta s.ts.length tc) := h.b.c 1 (by omega)
      have HH := Lib.hid h
      have e1 : IntKind.i64.wrap ((s.ts.length : Int) - 1) = (s.ts.length : Int) - 1 := i64_small (by omega) (by omega)
      clear hLx h hae
      have H3 : s.ts.getLast? = none ∨ (∃ t, s.ts.getLast? = some t ∧ t.kind = 6) ∨ (∃ t, s.ts.getLast? = some t ∧ t.kind ≠ 6) := by
        cases hg : s.ts.getLast? with
        | none => exact Or.inl rfl
        | some t => by_cases h6 : t.kind = 6; exact Or.inr (Or.inl ⟨t, rfl, h6⟩); exact Or.inr (Or.inr ⟨t, rfl, h6⟩)
      have ht2 : (nl2 s.at_ s.ts).length ≤ 3000001 := by have := nl2_len s.at_ s.ts; omega
      have hnl : (n : Int) = (s.at_ : Int) := by omega
      have HNE := Lib.hid hnl
      clear hnl
      rcases H3 with hg | ⟨t, hg, h6⟩ | ⟨t, hg, h6⟩
      case' inl =>
        have HSS : Hid (RfX (w.heap.size + 1) wr (w.heap.size + 1 + 1) (.slice a n c) ⟨s.at_, s.opn, s.bs, nl2 s.at_ s.ts⟩ 0 0 ∧ Below (w.heap.size + 1) W wr) := by
          have e : nl2 s.at_ s.ts = s.ts := by unfold nl2; rw [hg]
          rw [e]
          exact ⟨HR.out.x, HR.out.b⟩
        have h0 : s.ts.length = 0 := by rw [List.getLast?_eq_none_iff] at hg; rw [hg]; rfl
        rw [h0] at c1
        clear hg h0 e1
        go_wp2_with fail
      case' inr.inl =>
        have HSS : Hid (∀ q, RfX (w.heap.size + 1) (wr.drewN q) (w.heap.size + 1 + 1) (.slice a n c) ⟨s.at_, s.opn, s.bs, nl2 s.at_ s.ts⟩ 0 0 ∧ Below (w.heap.size + 1) W (wr.drewN q)) := fun q => by
          have e : nl2 s.at_ s.ts = s.ts := by unfold nl2; rw [hg]; simp only; rw [if_pos h6]
          rw [e]
          exact ⟨HR.out.x.below (below_drewN (Below.refl _ _) q), below_drewN HR.out.b q⟩
        obtain ⟨hp, hlast⟩ := last_get _ _ hg
        have hto := HH.out.to
        obtain ⟨gt, cap, hv, _, hcap, _⟩ := ownsS_some hto hp
        rw [hv] at hto c1
        have ck := ownsS_cell hto ((s.ts.length - 1) * 3 + 0) _ ((tkl_get s.ts (s.ts.length - 1) 0 t hlast (by omega)).trans rfl)
        rw [h6, Nat.add_zero] at ck
        have HCK := Lib.hid ck
        have ea : ((s.ts.length : Int) - 1) = ((s.ts.length - 1 : Nat) : Int) := by omega
        rw [ea] at e1
        have i1 : ((s.ts.length - 1 : Nat) : Int) < (s.ts.length : Int) := by omega
        have i2 : (0 : Int) ≤ ((s.ts.length - 1 : Nat) : Int) := by omega
        have i3 : (0 : Int) < (s.ts.length : Int) := by omega
        clear hg hto hv hlast hcap ck hp
        generalize s.ts.length - 1 = m at *
        generalize s.ts.length = nn at *
        have ck := HCK.out
        go_wp2_with fail
        go_quiet (fail)
        go_wp2_with fail
      case' inr.inr =>
        obtain ⟨hp, hlast⟩ := last_get _ _ hg
        have hto := HH.out.to
        obtain ⟨gt, cap, hv, _, hcap, _⟩ := ownsS_some hto hp
        rw [hv] at hto c1
        have ck := ownsS_cell hto ((s.ts.length - 1) * 3 + 0) _ ((tkl_get s.ts (s.ts.length - 1) 0 t hlast (by omega)).trans rfl)
        rw [Nat.add_zero] at ck
        have HCK := Lib.hid ck
        have ea : ((s.ts.length : Int) - 1) = ((s.ts.length - 1 : Nat) : Int) := by omega
        rw [ea] at e1
        have i1 : ((s.ts.length - 1 : Nat) : Int) < (s.ts.length : Int) := by omega
        have i2 : (0 : Int) ≤ ((s.ts.length - 1 : Nat) : Int) := by omega
        have i3 : (0 : Int) < (s.ts.length : Int) := by omega
        have hk7 := HR.out.k.kind t hg
        have h6' : (((t.kind : Nat) : Int) != 6) = true := by simp; omega
        have h7' : (((t.kind : Nat) : Int) != 7) = true := by simp; omega
        have h8' : (((t.kind : Nat) : Int) != 8) = true := by simp; omega
        have HE : Hid (nl2 s.at_ s.ts = s.ts ++ [⟨6, [], s.at_⟩]) := by show nl2 _ _ = _; unfold nl2; rw [hg]; simp only; rw [if_neg h6]
        have CP := fun q => add_any (HR.out.x.below (below_drewN (Below.refl _ _) q)) 6 [] s.at_ ⟨#[]⟩ (n : Int) rfl HNE.out (by omega)
        clear hg hto hv hlast hcap ck hp h6 hk7
        generalize s.ts.length - 1 = m at *
        generalize s.ts.length = nn at *
        have ck := HCK.out
        generalize t.kind = tkd at *
        go_wp2_with fail
        go_quiet (fail)
        go_wp2_with fail
        refine (CP _).mono ?_
        rintro e w2 ⟨rfl, h2, hb2⟩
        clear CP
        have HSS : Hid (RfX (w.heap.size + 1) w2 (w.heap.size + 1 + 1) (.slice a n c) ⟨s.at_, s.opn, s.bs, nl2 s.at_ s.ts⟩ 0 0 ∧ Below (w.heap.size + 1) W w2) := by
          rw [HE.out]
          exact ⟨h2, (below_drewN HR.out.b _).trans hb2⟩
        clear h2 hb2
        go_wp2_with fail
      all_goals
        go_loopg [10] s.bs.length (fun gj v10 wi => ∃ i, 1 ≤ i ∧ i + gj = s.bs.length + 1 ∧ i ≤ s.bs.length ∧ v10 = .int .i64 (i : Int) ∧ RfX (w.heap.size + 1) wi (w.heap.size + 1 + 1) (.slice a n c) ⟨s.at_, s.opn, s.bs, nl2 s.at_ s.ts ++ List.replicate (i - 1) ⟨8, [], s.at_⟩⟩ 0 0 ∧ Below (w.heap.size + 1) W wi)
        case atStart =>
          have hlen : 0 < s.bs.length := List.length_pos_iff.2 HR.out.k.ne
          refine ⟨1, Nat.le_refl _, by omega, by omega, rfl, ?_, ?_⟩
          · first
              | (simp only [Nat.sub_self, List.replicate_zero, List.append_nil]; exact HSS.out.1)
              | (simp only [Nat.sub_self, List.replicate_zero, List.append_nil]; exact (HSS.out _).1)
          · first
              | exact HSS.out.2
              | exact (HSS.out _).2
        case round =>
          obtain ⟨i, hi1, hig, hil, rfl, hX9, hB9⟩ := hrel
          have HX9 := Lib.hid hX9
          have HB9 := Lib.hid hB9
          have hfew := HR.out.k.few
          obtain ⟨dv9, tv9, h9⟩ := hX9
          obtain ⟨da, dc, hdv⟩ := ownsS_shape h9.bo
          have c2 : wr.cell? ⟨w.heap.size + 1 + 1, 2, none⟩ = some dv9 := h9.b.c 2 (by omega)
          rw [hdv] at c2
          simp only at c2
          clear h9 hdv hB9
          by_cases hil2 : i < s.bs.length
          · have v1 : (i : Int) < (s.bs.length : Int) := by omega
            have e2 : IntKind.i64.wrap ((i : Int) + 1) = ((i + 1 : Nat) : Int) := by rw [i64_small (by omega) (by omega)]; omega
            have CP := add_any HX9.out 8 [] s.at_ ⟨#[]⟩ (n : Int) rfl HNE.out (by show (nl2 s.at_ s.ts ++ List.replicate (i - 1) _).length ≤ _; rw [List.length_append, List.length_replicate]; omega)
            simp only at CP
            have HIL := Lib.hid hil2
            have HIG := Lib.hid hig
            clear hil2 hig hil
            generalize hbl2 : s.bs.length = bl at *
            have HBL2 := Lib.hid hbl2
            clear hbl2
            go_wp2_with fail
            refine CP.mono ?_
            rintro e w5 ⟨rfl, h5, hb5⟩
            clear CP
            go_wp2_with fail
            go_roundg (gk - 1)
            case measure => have := HIG.out; have := HIL.out; omega
            case rel =>
              have h6 := HIG.out
              have h7 := HIL.out
              refine ⟨i + 1, by omega, by omega, by omega, rfl, ?_, HB9.out.trans hb5⟩
              have e : List.replicate (i + 1 - 1) (⟨8, [], s.at_⟩ : Tok) = List.replicate (i - 1) ⟨8, [], s.at_⟩ ++ [⟨8, [], s.at_⟩] := by
                rw [show i + 1 - 1 = (i - 1) + 1 by omega, List.replicate_succ']
              rw [e, ← List.append_assoc]
              exact h5
          · obtain hie : i = s.bs.length := by omega
            have v1 : ¬ (i : Int) < (s.bs.length : Int) := by omega
            have hff : fin s = (nl2 s.at_ s.ts ++ List.replicate (i - 1) ⟨8, [], s.at_⟩) ++ [⟨9, [], s.at_⟩] := by rw [HF.out, hie]
            have HFF := Lib.hid hff
            have CP := add_any HX9.out 9 [] s.at_ ⟨#[]⟩ (n : Int) rfl HNE.out (by show (nl2 s.at_ s.ts ++ List.replicate (i - 1) _).length ≤ _; rw [List.length_append, List.length_replicate]; omega)
            simp only at CP
            rw [← hff] at CP
            clear hff hie hil2 hig hil
            go_wp2_with fail
            refine CP.mono ?_
            rintro e w5 ⟨rfl, h5, hb5⟩
            clear CP
            have hBN := HB9.out.trans hb5
            obtain ⟨dv5, tv5, h5⟩ := h5
            obtain ⟨ta5, tc5, rfl⟩ := ownsS_shape h5.to
            have c15 : w5.cell? ⟨w.heap.size + 1 + 1, 1, none⟩ = some (.slice ta5 (fin s).length tc5) := h5.b.c 1 (by omega)
            obtain ⟨p0, p1, z0, z1⟩ := PC.out _ hBN
            have H5 := Lib.hid h5.to
            have HBN := Lib.hid hBN
            clear h5 hBN hb5 c2
            go_wp2_with fail
            have b5 : Blk w5 w.heap.size 2 (fun _ => .int .i64 0) := HB0.out.same (HBN.out.block _ (Nat.lt_succ_self _))
            have b6 := (b5.put 0 (.int .i64 0)).put 1 (.int .i64 0)
            have r0 := b6.c 0 (by omega)
            have r1 := b6.c 1 (by omega)
            simp at r0 r1
            refine bodyPost_ret (v := .tuple #[.slice ta5 (fin s).length tc5, .agg #[.int .i64 0, .int .i64 0]]) (by simp [results, Tryd.results11, go_sem, r0, r1]) rfl ?_
            refine ⟨.ok (fin s), HLX.out, ?_, _, rfl, ?_⟩
            · exact ((HBW.out.trans (HBN.out.mono (Nat.le_succ _))).setCell (p := ⟨w.heap.size, 0, none⟩) (Nat.le_refl _) _).setCell (p := ⟨w.heap.size, 1, none⟩) (Nat.le_refl _) _
            · have hto : w5.ownsRow w.heap.size 35 3 (.slice ta5 (fin s).length tc5) (fin s).length (tkl (fin s)) := by
                have h := H5.out
                refine ⟨h.1, ?_⟩
                rcases h.2 with h0 | ⟨g, c, cur, e, h1, h2⟩
                · exact Or.inl h0
                · exact Or.inr ⟨g, c, cur, e, by omega, h2⟩
              refine ownsS_same hto (fun k hk => ?_)
              have hk2 := (ownsS_base H5.out k hk).1
              rw [setCell_blk (by omega), setCell_blk (by omega)]
end Lx
end Go.Proofs.YtkppnncpejohgaaDoor
