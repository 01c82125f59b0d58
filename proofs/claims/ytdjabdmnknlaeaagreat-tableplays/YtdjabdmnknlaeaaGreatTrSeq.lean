/-
  The iterator of trail.All, where a range over a function goes through it.
-/
import Derived.Test.YtdjabdmnknlaeaaGreatTrWalk
import Derived.Test.YtdjabdmnknlaeaaGreatRgLaw
import Derived.OwnWalkIn
import Derived.TacticsInMore
import Derived.LoopNIn
import Derived.LoopIn
namespace Go.Proofs.YtdjabdmnknlaeaaGreat.Tr
open Go.RowKit Go.WideShapes
attribute [local go_sem] Oper.semAt_some

/-- The two blocks that All lays: the log, the hash. -/
theorem all_new (h l : Int) (w : World) :
    Calls Tryz.prog 68 #[.int .i64 h, .int .i64 l] w fun e w' => e = .returned (.func (.func 77) #[] #[.pointer (some ⟨w.heap.size + 1, 0, none⟩), .pointer (some ⟨w.heap.size, 0, none⟩)]) ∧ w' = (w.alloc (.cells #[.int .i64 h] 3)).alloc (.cells #[.int .i64 l] 3) := by
  have hmf : ∀ (fn : Fn) (first cap : Array Value) (w : World), (Instr.makeFunc fn first cap).run Tryz.prog w = .ok (.func fn first cap) w := fun _ _ _ _ => rfl
  go_enter Tryz.func68, Tryz.ntmps68
  go_wp2
  go_ret
  exact ⟨by simp, rfl⟩
/-- A walk in memory. -/
structure Wk (w : World) (b o c p S : Nat) : Prop where
  c0 : w.cell? ⟨b, o, none⟩ = some (.int .u64 (c : Int))
  c1 : w.cell? ⟨b, o + 1, none⟩ = some (.int .u64 (p : Int))
  c2 : w.cell? ⟨b, o + 2, none⟩ = some (.int .u64 ((S : Int) - 1))
  fr : ∀ j, w.frozen? ⟨b, j, none⟩ = false
theorem Wk.same {w w' : World} {b o c p S : Nat} (h : Wk w b o c p S) (e : w'.heap[b]? = w.heap[b]?) : Wk w' b o c p S :=
  ⟨(World.cell?_of_block (a := ⟨b, o, none⟩) e).trans h.c0, (World.cell?_of_block (a := ⟨b, o + 1, none⟩) e).trans h.c1, (World.cell?_of_block (a := ⟨b, o + 2, none⟩) e).trans h.c2, fun j => (World.frozen?_of_block (a := ⟨b, j, none⟩) e).trans (h.fr j)⟩
theorem Wk.new (w : World) (c p S : Nat) (t : TypeId) : Wk (w.alloc (.cells #[.int .u64 (c : Int), .int .u64 (p : Int), .int .u64 ((S : Int) - 1)] t)) w.heap.size 0 c p S := by
  constructor <;> first | exact fun j => World.frozen?_alloc_at _ _ _ _ rfl | (rw [World.cell?_alloc_at _ _ _ _ rfl]; rfl)
theorem Wk.lt {w : World} {b o c p S : Nat} (h : Wk w b o c p S) : b < w.heap.size := by
  by_cases hb : b < w.heap.size
  · exact hb
  · have := h.c0
    rw [World.cell?, Array.getElem?_eq_none (Nat.le_of_not_lt hb)] at this
    exact absurd this (by simp)
theorem Wk.step {w : World} {b o c p S : Nat} (h : Wk w b o c p S) (c' p' : Nat) : Wk (stepW w b o c' p') b o c' p' S := by
  unfold stepW
  refine ⟨?_, ?_, ?_, fun j => ?_⟩
  · show World.cell? (World.setCell _ _ _) _ = _
    exact World.cell?_setCell_same' _ _ _ (by rw [World.cell?_setCell_other _ _ _ _ (by intro he; injection he with h1 h2; omega), h.c0]; rfl)
  · show World.cell? (World.setCell _ _ _) _ = _
    rw [World.cell?_setCell_other _ _ _ _ (by intro he; injection he with h1 h2; omega)]
    exact World.cell?_setCell_same' _ _ _ (by rw [h.c1]; rfl)
  · show World.cell? (World.setCell _ _ _) _ = _
    rw [World.cell?_setCell_other _ _ _ _ (by intro he; injection he with h1 h2; omega), World.cell?_setCell_other _ _ _ _ (by intro he; injection he with h1 h2; omega)]
    exact h.c2
  · show World.frozen? (World.setCell _ _ _) _ = _
    rw [World.frozen?_setCell, World.frozen?_setCell]
    exact h.fr j
theorem stepW_below {B : Nat} (w : World) (b o c p : Nat) (hb : B ≤ b) : Below B w (stepW w b o c p) := by
  unfold stepW
  exact (((Below.refl _ w).setCell (p := ⟨b, o + 1, none⟩) hb _).setCell (p := ⟨b, o, none⟩) hb _).drew
set_option maxRecDepth 100000 in
set_option maxHeartbeats 4000000 in
theorem seqix_any {L S : Nat} (hS : Sz L S) (h : Int) (bl bh : Nat) (w : World) (hbl : bl < w.heap.size) (hbh : bh < w.heap.size) (hl : w.cell? ⟨bl, 0, none⟩ = some (.int .i64 (L : Int))) (hh : w.cell? ⟨bh, 0, none⟩ = some (.int .i64 h)) :
    SeqIx Tryz.prog 77 #[.pointer (some ⟨bl, 0, none⟩), .pointer (some ⟨bh, 0, none⟩)] (fun i => #[.int .i64 ((trl (uw h) L i : Nat) : Int)]) (S + 13) w := by
  intro l J Jx W hB HJ0 HJX0 _ hY0 J0
  have HJ := (show Hid _ from HJ0)
  have HY := (show Hid _ from hY0)
  have hl' := (hB.cell (p := ⟨bl, 0, none⟩) hbl).trans hl
  have hh' := (hB.cell (p := ⟨bh, 0, none⟩) hbh).trans hh
  have h2 := uw_lt h
  have hp := hS.pos
  have hm := hS.most
  have hle := hS.le
  have hi64 := hS.i64
  have t3 : IntKind.i64.wrap ((S : Int) + 13) = (S : Int) + 13 := i64_small (by omega) (by omega)
  have HL := isLog_yes L hS.le W
  have HBG := begin_any hS h W
  have HS : Hid (Sz L S) := hS
  have HT0 : Hid (uw h % S = trl (uw h) L 0) := by show _ = _; rw [trl, hS.eq]
  rw [HT0.out] at HBG
  have hUW : ∀ k, trl (uw h) L k < S := fun k => by rw [← hS.eq]; exact trl_lt _ _ _
  have HLT := (show Hid _ from hUW)
  clear hS HJ0 HJX0 hY0 hl hh hUW
  refine callsIn_of_wp Tryz.func77 rfl trivial ?_ rfl
  simp only [Tryz.ntmps77, List.size_toArray, List.length_cons, List.length_nil, Nat.reduceAdd, Nat.reduceSub, Array.replicate_succ, Array.replicate_zero, List.push_toArray, List.append_toArray, List.nil_append, List.cons_append]
  gi_wp2_with fail
  refine ⟨trivial, rfl, (callsIn_wide.2 HL).mono ?_⟩
  rintro e w1 ⟨rfl, rfl⟩
  clear HL
  gi_wp2_with fail
  refine ⟨trivial, rfl, (callsIn_wide.2 HBG).mono ?_⟩
  rintro e w2 ⟨rfl, hB2⟩
  clear HBG
  gi_wp2_with fail
  obtain ⟨w3, hw3⟩ : ∃ x, w2.alloc (.cells #[.int .u64 ((trl (uw h) L 0 : Nat) : Int), .int .u64 ((uw h : Nat) : Int), .int .u64 ((S : Int) - 1)] 101) = x := ⟨_, rfl⟩
  have hW3 : Wk w3 w2.heap.size 0 (trl (uw h) L 0) (uw h) S := by rw [← hw3]; exact Wk.new _ _ _ _ _
  have hB3 : Below w1.heap.size w1 w3 := by rw [← hw3]; exact hB2.alloc hB2.size _
  have hb := hB2.size
  rw [hw3]
  clear hw3
  generalize w2.heap.size = b at *
  have HJ3 := HJ.out 0 _ _ J0 hB3
  gi_loopw [16] (fun iv wr => ∃ k : Nat, k ≤ S + 13 ∧ iv = .int .i64 (k : Int) ∧ J k wr ∧ Wk wr b 0 (trl (uw h) L k) (uw h / 32 ^ k) S) (fun iv _ => S + 13 - (intOf iv).toNat)
  case atStart => exact ⟨0, Nat.zero_le _, rfl, HJ3, by simpa using hW3⟩
  case round =>
    obtain ⟨k, hk, rfl, hJ, hWk⟩ := hrel
    by_cases hlt : k < S + 13
    · have t1 : (k : Int) < (S : Int) + 13 := by omega
      have hc := HLT.out k
      have hp64 : uw h / 32 ^ k < 18446744073709551616 := Nat.lt_of_le_of_lt (Nat.div_le_self _ _) h2
      have CC := cell_any b 0 (trl (uw h) L k) (by omega) wr hWk.c0
      obtain ⟨fn, tmps, assign, body, hy, hR⟩ := HY.out k wr hlt hJ
      have HX1 : Hid ((trl (uw h) L k * 5 + uw h / 32 ^ k / 32 + 1) % S = trl (uw h) L (k + 1)) := by show _ = _; rw [trl, HS.out.eq, left_step]
      have HX2 : Hid (uw h / 32 ^ k / 32 = uw h / 32 ^ (k + 1)) := left_step _ _
      gi_wp2_with fail
      refine ⟨trivial, rfl, (callsIn_wide.2 CC).mono ?_⟩
      rintro e w4 ⟨rfl, rfl⟩
      clear CC
      gi_wp2_with fail
      refine ⟨rfl, hR.mono ?_⟩
      clear hR hy
      rintro e w5 (⟨rfl, hJ5, hK5⟩ | ⟨rfl, hX5⟩)
      · have hWk5 := hWk.same (hK5.same b hb hWk.lt)
        have CS := step_any HS.out b 0 _ _ hc hp64 w5 hWk5.c0 hWk5.c1 hWk5.c2 (hWk5.fr 0) (hWk5.fr (0 + 1))
        rw [HX1.out, HX2.out] at CS
        have HW6 := (show Hid _ from hWk5.step (trl (uw h) L (k + 1)) (uw h / 32 ^ (k + 1)))
        have HJ6 := (show Hid _ from HJ.out (k + 1) _ _ hJ5 (stepW_below w5 b 0 (trl (uw h) L (k + 1)) (uw h / 32 ^ (k + 1)) hb))
        clear hWk5 hJ5 hK5 hWk
        generalize stepW w5 b 0 (trl (uw h) L (k + 1)) (uw h / 32 ^ (k + 1)) = w6 at *
        gi_wp2_with fail
        refine ⟨trivial, rfl, (callsIn_wide.2 CS).mono ?_⟩
        rintro e w7 ⟨rfl, rfl⟩
        clear CS
        gi_wp2_with fail
        go_roundw
        case rel => exact ⟨k + 1, by omega, by go_num, HJ6.out, HW6.out⟩
        case measure => simp [intOf]; omega
      · gi_wp2
        refine bodyPost_ret (v := .tuple #[]) (by simp [results, Tryz.results77, go_sem]) rfl ?_
        exact ⟨⟨_, rfl⟩, .inr ⟨k, hlt, hX5⟩⟩
    · obtain rfl : k = S + 13 := by omega
      have t1 : ¬ (((S + 13 : Nat) : Int)) < (S : Int) + 13 := by omega
      gi_wp2
      go_end0
      exact ⟨⟨_, rfl⟩, .inl hJ⟩
end Go.Proofs.YtdjabdmnknlaeaaGreat.Tr
