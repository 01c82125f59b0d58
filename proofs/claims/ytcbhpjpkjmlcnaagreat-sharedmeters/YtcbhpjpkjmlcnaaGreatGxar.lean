/-
  The program's Sight of a namespace.
  What Sight told of a namespace is what it told of the document's.
  The document's Pairs of a namespace with its own table.
  The Sights of a namespace on both sides, and of the families.
-/
import Derived.Test.YtcbhpjpkjmlcnaaGreatGxap
import Derived.Test.YtcbhpjpkjmlcnaaGreatGxai
import Derived.Test.YtcbhpjpkjmlcnaaGreatGxan
import Derived.Test.YtcbhpjpkjmlcnaaGreatGxaq
namespace Go.Proofs.YtcbhpjpkjmlcnaaGreat
open Go.RowKit Go.WideShapes

theorem mR_sight (a : Option Addr) (w : World) : (method 342 117 (.pointer a) "lexicon/shared.sight").run Tryz.prog w = .ok (172, .pointer a) w := by kernel_rfl
theorem mO_sight (a : Option Addr) (w : World) : (method 342 229 (.pointer a) "lexicon/shared.sight").run Tryz.prog w = .ok (213, .pointer a) w := by kernel_rfl
set_option maxRecDepth 100000 in
set_option maxHeartbeats 4000000 in
theorem ownSight_any {w : World} {d g gi r h : Nat} {ev : Value} {t : Tb} {mv : Value} (hk : w.cell? ⟨d, 1, none⟩ = some (.pointer (some ⟨g, 0, none⟩))) (hD : Dt w g gi r h ev t mv) (hlen : t.es.length ≤ 100000) :
    Calls Tryz.prog 213 #[.pointer (some ⟨d, 0, none⟩)] w fun e w' => ∃ hc ev', e = .returned (sgV t hc ev') ∧ SgV w.heap.size w' t hc ev' ∧ Below w.heap.size w w' := by
  obtain ⟨w1, hw1⟩ : ∃ x, w.alloc (.cells #[.int .i64 0, .int .i64 0, .slice none 0 0, .slice none 0 0, .int .i64 0, .int .i64 0, .int .i64 0] 73) = x := ⟨_, rfl⟩
  have hB1 : Below w.heap.size w w1 := by rw [← hw1]; exact (Below.refl _ w).alloc (Nat.le_refl _) _
  have hR1 : Blk w1 w.heap.size 7 zS := by
    rw [← hw1]
    refine (Blk.new w _ _).congr fun j hj => ?_
    have : j = 0 ∨ j = 1 ∨ j = 2 ∨ j = 3 ∨ j = 4 ∨ j = 5 ∨ j = 6 := by simp at hj; omega
    rcases this with rfl | rfl | rfl | rfl | rfl | rfl | rfl <;> rfl
  have k1 := (hB1.cell (p := ⟨d, 1, none⟩) (lt_of_cell hk)).trans hk
  have C2 := dsight_any (hD.below hB1) hlen
  have hl1 := hR1.lt (by omega)
  have HB1 := Lib.hid hB1
  have HR1 := Lib.hid hR1
  have HW1 := Lib.hid hw1
  clear hk hD hB1 hR1 hw1
  unfold sgV at C2 ⊢
  generalize 2 ^ t.L = S at C2 ⊢
  go_enter Tryz.func213, Tryz.ntmps213
  go_upto_region 1 with fail
  rw [HW1.out]
  go_wp2_with fail
  refine C2.mono ?_
  rintro e w3 ⟨hc, ev', rfl, hSg, hB3⟩
  clear C2
  have hR3 := HR1.out.of hB3 (by omega)
  have q0 : w3.cell? ⟨w.heap.size, 0, none⟩ = some (.int .i64 0) := hR3.c 0 (by omega)
  have q1 : w3.cell? ⟨w.heap.size, 1, none⟩ = some (.int .i64 0) := hR3.c 1 (by omega)
  have q2 : w3.cell? ⟨w.heap.size, 2, none⟩ = some (.slice none 0 0) := hR3.c 2 (by omega)
  have q3 : w3.cell? ⟨w.heap.size, 3, none⟩ = some (.slice none 0 0) := hR3.c 3 (by omega)
  have q4 : w3.cell? ⟨w.heap.size, 4, none⟩ = some (.int .i64 0) := hR3.c 4 (by omega)
  have q5 : w3.cell? ⟨w.heap.size, 5, none⟩ = some (.int .i64 0) := hR3.c 5 (by omega)
  have q6 : w3.cell? ⟨w.heap.size, 6, none⟩ = some (.int .i64 0) := hR3.c 6 (by omega)
  have z0 := hR3.z 0
  have z1 := hR3.z 1
  have z2 := hR3.z 2
  have z3 := hR3.z 3
  have z4 := hR3.z 4
  have z5 := hR3.z 5
  have z6 := hR3.z 6
  have HA9 := Lib.hid (put7_blk hR3 (.int .i64 (t.L : Int)) (.int .i64 (wd t.L : Int)) (.slice (some ⟨hc, 0, none⟩) S S) ev' (.int .i64 (t.live : Int)) (.int .i64 (t.births : Int)) (.int .i64 (t.made : Int)))
  have HB9 := Lib.hid (put7_below (HB1.out.trans (hB3.mono HB1.out.size)) w.heap.size (Nat.le_refl _) (.int .i64 (t.L : Int)) (.int .i64 (wd t.L : Int)) (.slice (some ⟨hc, 0, none⟩) S S) ev' (.int .i64 (t.live : Int)) (.int .i64 (t.births : Int)) (.int .i64 (t.made : Int)))
  have HS9 := Lib.hid (hSg.keep (B' := w.heap.size) HB1.out.size (fun k hk => put7_other w3 w.heap.size (.int .i64 (t.L : Int)) (.int .i64 (wd t.L : Int)) (.slice (some ⟨hc, 0, none⟩) S S) ev' (.int .i64 (t.live : Int)) (.int .i64 (t.births : Int)) (.int .i64 (t.made : Int)) k (by omega)))
  clear hR3 hSg hB3
  unfold put7 at HA9 HB9 HS9
  obtain ⟨ca, cn, cc, rfl⟩ : ∃ ca cn cc, ev' = .slice ca cn cc := by
    obtain ⟨a, cap, ge, hh, _⟩ := HS9.out.es.es.open
    exact ⟨a, _, cap, hh⟩
  go_wp2_with fail
  generalize World.setCell (World.setCell (World.setCell (World.setCell (World.setCell (World.setCell (World.setCell w3 _ _) _ _) _ _) _ _) _ _) _ _) _ _ = w9 at *
  have p0 := HA9.out.c 0 (by omega)
  have p1 := HA9.out.c 1 (by omega)
  have p2 := HA9.out.c 2 (by omega)
  have p3 := HA9.out.c 3 (by omega)
  have p4 := HA9.out.c 4 (by omega)
  have p5 := HA9.out.c 5 (by omega)
  have p6 := HA9.out.c 6 (by omega)
  simp at p0 p1 p2 p3 p4 p5 p6
  refine bodyPost_ret (v := .agg #[.int .i64 (t.L : Int), .int .i64 (wd t.L : Int), .slice (some ⟨hc, 0, none⟩) S S, .slice ca cn cc, .int .i64 (t.live : Int), .int .i64 (t.births : Int), .int .i64 (t.made : Int)]) ?_ rfl ⟨hc, _, rfl, HS9.out, HB9.out⟩
  simp [results, Tryz.results213, go_sem, p0, p1, p2, p3, p4, p5, p6]
set_option maxRecDepth 100000 in
set_option maxHeartbeats 4000000 in
theorem ssight_own {w : World} {d q g gi r h : Nat} {ev : Value} {t : Tb} {mv : Value} (hk : w.cell? ⟨d, 1, none⟩ = some (.iface 229 (.pointer (some ⟨q, 0, none⟩)))) (hq : w.cell? ⟨q, 1, none⟩ = some (.pointer (some ⟨g, 0, none⟩))) (hD : Dt w g gi r h ev t mv) (hlen : t.es.length ≤ 100000) :
    Calls Tryz.prog 40 #[.pointer (some ⟨d, 0, none⟩)] w fun e w' => ∃ hc ev', e = .returned (sgV t hc ev') ∧ SgV w.heap.size w' t hc ev' ∧ Below w.heap.size w w' := by
  obtain ⟨w1, hw1⟩ : ∃ x, w.alloc (.cells #[.int .i64 0, .int .i64 0, .slice none 0 0, .slice none 0 0, .int .i64 0, .int .i64 0, .int .i64 0] 73) = x := ⟨_, rfl⟩
  have hB1 : Below w.heap.size w w1 := by rw [← hw1]; exact (Below.refl _ w).alloc (Nat.le_refl _) _
  have hR1 : Blk w1 w.heap.size 7 zS := by
    rw [← hw1]
    refine (Blk.new w _ _).congr fun j hj => ?_
    have : j = 0 ∨ j = 1 ∨ j = 2 ∨ j = 3 ∨ j = 4 ∨ j = 5 ∨ j = 6 := by simp at hj; omega
    rcases this with rfl | rfl | rfl | rfl | rfl | rfl | rfl <;> rfl
  have k1 := (hB1.cell (p := ⟨d, 1, none⟩) (lt_of_cell hk)).trans hk
  have C1 := isNothing_no k1
  have mm := mO_sight (some ⟨q, 0, none⟩)
  have C2 := ownSight_any ((hB1.cell (p := ⟨q, 1, none⟩) (lt_of_cell hq)).trans hq) (hD.below hB1) hlen
  have hl1 := hR1.lt (by omega)
  have HB1 := Lib.hid hB1
  have HR1 := Lib.hid hR1
  have HW1 := Lib.hid hw1
  clear hk hq hD hB1 hR1 hw1
  unfold sgV at C2 ⊢
  generalize 2 ^ t.L = S at C2 ⊢
  go_enter Tryz.func40, Tryz.ntmps40
  go_upto_region 1 with fail
  rw [HW1.out]
  go_wp2_with fail
  refine C1.mono ?_
  rintro e w2 ⟨rfl, hw2⟩
  rw [hw2]
  clear hw2 C1
  go_wp2_with fail
  refine C2.mono ?_
  rintro e w3 ⟨hc, ev', rfl, hSg, hB3⟩
  clear C2
  have hR3 := HR1.out.of hB3 (by omega)
  have q0 : w3.cell? ⟨w.heap.size, 0, none⟩ = some (.int .i64 0) := hR3.c 0 (by omega)
  have q1 : w3.cell? ⟨w.heap.size, 1, none⟩ = some (.int .i64 0) := hR3.c 1 (by omega)
  have q2 : w3.cell? ⟨w.heap.size, 2, none⟩ = some (.slice none 0 0) := hR3.c 2 (by omega)
  have q3 : w3.cell? ⟨w.heap.size, 3, none⟩ = some (.slice none 0 0) := hR3.c 3 (by omega)
  have q4 : w3.cell? ⟨w.heap.size, 4, none⟩ = some (.int .i64 0) := hR3.c 4 (by omega)
  have q5 : w3.cell? ⟨w.heap.size, 5, none⟩ = some (.int .i64 0) := hR3.c 5 (by omega)
  have q6 : w3.cell? ⟨w.heap.size, 6, none⟩ = some (.int .i64 0) := hR3.c 6 (by omega)
  have z0 := hR3.z 0
  have z1 := hR3.z 1
  have z2 := hR3.z 2
  have z3 := hR3.z 3
  have z4 := hR3.z 4
  have z5 := hR3.z 5
  have z6 := hR3.z 6
  have HA9 := Lib.hid (put7_blk hR3 (.int .i64 (t.L : Int)) (.int .i64 (wd t.L : Int)) (.slice (some ⟨hc, 0, none⟩) S S) ev' (.int .i64 (t.live : Int)) (.int .i64 (t.births : Int)) (.int .i64 (t.made : Int)))
  have HB9 := Lib.hid (put7_below (HB1.out.trans (hB3.mono HB1.out.size)) w.heap.size (Nat.le_refl _) (.int .i64 (t.L : Int)) (.int .i64 (wd t.L : Int)) (.slice (some ⟨hc, 0, none⟩) S S) ev' (.int .i64 (t.live : Int)) (.int .i64 (t.births : Int)) (.int .i64 (t.made : Int)))
  have HS9 := Lib.hid (hSg.keep (B' := w.heap.size) HB1.out.size (fun k hk => put7_other w3 w.heap.size (.int .i64 (t.L : Int)) (.int .i64 (wd t.L : Int)) (.slice (some ⟨hc, 0, none⟩) S S) ev' (.int .i64 (t.live : Int)) (.int .i64 (t.births : Int)) (.int .i64 (t.made : Int)) k (by omega)))
  clear hR3 hSg hB3
  unfold put7 at HA9 HB9 HS9
  obtain ⟨ca, cn, cc, rfl⟩ : ∃ ca cn cc, ev' = .slice ca cn cc := by
    obtain ⟨a, cap, ge, hh, _⟩ := HS9.out.es.es.open
    exact ⟨a, _, cap, hh⟩
  go_wp2_with fail
  generalize World.setCell (World.setCell (World.setCell (World.setCell (World.setCell (World.setCell (World.setCell w3 _ _) _ _) _ _) _ _) _ _) _ _) _ _ = w9 at *
  have p0 := HA9.out.c 0 (by omega)
  have p1 := HA9.out.c 1 (by omega)
  have p2 := HA9.out.c 2 (by omega)
  have p3 := HA9.out.c 3 (by omega)
  have p4 := HA9.out.c 4 (by omega)
  have p5 := HA9.out.c 5 (by omega)
  have p6 := HA9.out.c 6 (by omega)
  simp at p0 p1 p2 p3 p4 p5 p6
  refine bodyPost_ret (v := .agg #[.int .i64 (t.L : Int), .int .i64 (wd t.L : Int), .slice (some ⟨hc, 0, none⟩) S S, .slice ca cn cc, .int .i64 (t.live : Int), .int .i64 (t.births : Int), .int .i64 (t.made : Int)]) ?_ rfl ⟨hc, _, rfl, HS9.out, HB9.out⟩
  simp [results, Tryz.results40, go_sem, p0, p1, p2, p3, p4, p5, p6]
theorem rowSight_any (a : Option Addr) (w : World) : Calls Tryz.prog 172 #[.pointer a] w fun e w' => e = .returned (.agg #[.int .i64 0, .int .i64 0, .slice none 0 0, .slice none 0 0, .int .i64 0, .int .i64 0, .int .i64 0]) ∧ Below w.heap.size w w' := by
  go_enter Tryz.func172, Tryz.ntmps172
  go_wp2_with fail
  refine bodyPost_ret (v := .agg #[.int .i64 0, .int .i64 0, .slice none 0 0, .slice none 0 0, .int .i64 0, .int .i64 0, .int .i64 0]) (by simp [results, Tryz.results172, go_sem]) rfl ?_
  exact ⟨rfl, by first | exact (Below.refl _ w).alloc (Nat.le_refl _) _ | exact ⟨rfl, rfl, rfl, (by simp), fun k hk => (by simp [World.setCell, World.alloc]; first | rfl | omega)⟩⟩
set_option maxRecDepth 100000 in
set_option maxHeartbeats 4000000 in
theorem ssight_row {w : World} {d q : Nat} (hk : w.cell? ⟨d, 1, none⟩ = some (.iface 117 (.pointer (some ⟨q, 0, none⟩)))) :
    Calls Tryz.prog 40 #[.pointer (some ⟨d, 0, none⟩)] w fun e w' => e = .returned (siV 0 0 none 0 0 none 0 0 0 0 0) ∧ Below w.heap.size w w' := by
  obtain ⟨w1, hw1⟩ : ∃ x, w.alloc (.cells #[.int .i64 0, .int .i64 0, .slice none 0 0, .slice none 0 0, .int .i64 0, .int .i64 0, .int .i64 0] 73) = x := ⟨_, rfl⟩
  have hB1 : Below w.heap.size w w1 := by rw [← hw1]; exact (Below.refl _ w).alloc (Nat.le_refl _) _
  have hR1 : Blk w1 w.heap.size 7 zS := by
    rw [← hw1]
    refine (Blk.new w _ _).congr fun j hj => ?_
    have : j = 0 ∨ j = 1 ∨ j = 2 ∨ j = 3 ∨ j = 4 ∨ j = 5 ∨ j = 6 := by simp at hj; omega
    rcases this with rfl | rfl | rfl | rfl | rfl | rfl | rfl <;> rfl
  have k1 := (hB1.cell (p := ⟨d, 1, none⟩) (lt_of_cell hk)).trans hk
  have C1 := isNothing_no k1
  have mm := mR_sight (some ⟨q, 0, none⟩)
  have C2 := rowSight_any (some ⟨q, 0, none⟩) w1
  have HB1 := Lib.hid hB1
  have HR1 := Lib.hid hR1
  have HW1 := Lib.hid hw1
  have hl1 := hR1.lt (by omega)
  clear hk hB1 hR1 hw1
  go_enter Tryz.func40, Tryz.ntmps40
  go_upto_region 1 with fail
  rw [HW1.out]
  go_wp2_with fail
  refine C1.mono ?_
  rintro e w2 ⟨rfl, hw2⟩
  rw [hw2]
  clear hw2 C1
  go_wp2_with fail
  refine C2.mono ?_
  rintro e w3 ⟨rfl, hB3⟩
  clear C2
  have hR3 := HR1.out.of hB3 (by omega)
  have q0 : w3.cell? ⟨w.heap.size, 0, none⟩ = some (.int .i64 0) := hR3.c 0 (by omega)
  have q1 : w3.cell? ⟨w.heap.size, 1, none⟩ = some (.int .i64 0) := hR3.c 1 (by omega)
  have q2 : w3.cell? ⟨w.heap.size, 2, none⟩ = some (.slice none 0 0) := hR3.c 2 (by omega)
  have q3 : w3.cell? ⟨w.heap.size, 3, none⟩ = some (.slice none 0 0) := hR3.c 3 (by omega)
  have q4 : w3.cell? ⟨w.heap.size, 4, none⟩ = some (.int .i64 0) := hR3.c 4 (by omega)
  have q5 : w3.cell? ⟨w.heap.size, 5, none⟩ = some (.int .i64 0) := hR3.c 5 (by omega)
  have q6 : w3.cell? ⟨w.heap.size, 6, none⟩ = some (.int .i64 0) := hR3.c 6 (by omega)
  have z0 := hR3.z 0
  have z1 := hR3.z 1
  have z2 := hR3.z 2
  have z3 := hR3.z 3
  have z4 := hR3.z 4
  have z5 := hR3.z 5
  have z6 := hR3.z 6
  have HA9 := Lib.hid (put7_blk hR3 (.int .i64 0) (.int .i64 0) (.slice none 0 0) (.slice none 0 0) (.int .i64 0) (.int .i64 0) (.int .i64 0))
  have HB9 := Lib.hid (put7_below (HB1.out.trans (hB3.mono HB1.out.size)) w.heap.size (Nat.le_refl _) (.int .i64 0) (.int .i64 0) (.slice none 0 0) (.slice none 0 0) (.int .i64 0) (.int .i64 0) (.int .i64 0))
  clear hR3 hB3
  unfold put7 at HA9 HB9
  go_wp2_with fail
  generalize World.setCell (World.setCell (World.setCell (World.setCell (World.setCell (World.setCell (World.setCell w3 _ _) _ _) _ _) _ _) _ _) _ _) _ _ = w9 at *
  have p0 := HA9.out.c 0 (by omega)
  have p1 := HA9.out.c 1 (by omega)
  have p2 := HA9.out.c 2 (by omega)
  have p3 := HA9.out.c 3 (by omega)
  have p4 := HA9.out.c 4 (by omega)
  have p5 := HA9.out.c 5 (by omega)
  have p6 := HA9.out.c 6 (by omega)
  simp at p0 p1 p2 p3 p4 p5 p6
  refine bodyPost_ret (v := siV 0 0 none 0 0 none 0 0 0 0 0) ?_ rfl ⟨rfl, HB9.out⟩
  simp [results, Tryz.results40, go_sem, siV, p0, p1, p2, p3, p4, p5, p6]
end Go.Proofs.YtcbhpjpkjmlcnaaGreat
namespace Go.Proofs.YtcbhpjpkjmlcnaaGreat
open Go.RowKit Go.WideShapes

theorem sight10_both {w : World} {t : Tb} {B hc : Nat} {ev1 : Value} {ca : Option Addr} {cc : Nat} {ea : Option Addr} {ec : Nat} (hlen : t.es.length ≤ 100000) (hsz : t.L ≤ 20) (hSg : SgV B w t hc ev1) (hN : SlN w ca (2 ^ t.L) cc t.c) (hE : SlE w ea t.es.length ec (shw t.es)) :
    Calls Tryz.prog 16 #[sgV t hc ev1, siV (t.L : Int) (wd t.L : Int) ca (2 ^ t.L) cc ea t.es.length ec (t.live : Int) (t.births : Int) (t.made : Int)] w fun e w' => e = .returned (.bool true) ∧ Below w.heap.size w w' := by
  obtain ⟨a1, cap1, hv, hE1⟩ := hSg.es.es.sl
  rw [shw_len] at hv hE1
  have hP : 2 ^ t.L ≤ 1048576 := Nat.le_trans (Nat.pow_le_pow_right (n := 2) (by decide) hsz) (by decide)
  have hN1 : SlN w (some ⟨hc, 0, none⟩) (2 ^ t.L) (2 ^ t.L) t.c := ⟨Nat.le_refl _, hc, fun _ => ⟨rfl, hSg.row.lt⟩, fun j hj => hSg.row.cell j hj⟩
  have := sight10_any (t.L : Int) (wd t.L : Int) (t.live : Int) (t.births : Int) (t.made : Int) (some ⟨hc, 0, none⟩) ca a1 ea (2 ^ t.L) (2 ^ t.L) cc t.es.length cap1 ec t.c (shw t.es) w hN1 hN hE1 hE (by omega) (by omega)
  subst hv
  exact this
end Go.Proofs.YtcbhpjpkjmlcnaaGreat
namespace Go.Proofs.YtcbhpjpkjmlcnaaGreat
open Go.RowKit Go.WideShapes

theorem prsO_len (all : List ByteArray) (es : List En) : (prsO all es).length = es.length := by unfold prsO; rw [List.length_map]
/-- Behind k rounds. -/
def PoR (w2 : World) (all : List ByteArray) (es : List En) (k : Nat) (wr : World) (v : Value) : Prop := PsB w2.heap.size wr v (prsO all (es.take k)) ∧ Below w2.heap.size w2 wr
set_option maxRecDepth 100000 in
set_option maxHeartbeats 8000000 in
theorem rpairs_own {w : World} {f s : Nat} {F : Fa} {mr : Value} {XF XS : Nat → Prop} {t : Tb} {v : Nat} {c0 : Nat} (h : Qp w f F mr XF s (.own t) v XS) (hO : F.Ok hsT c0) (hst : (Stn.own t).Ok hsT F c0) (hc0 : c0 ≤ 49000) :
    Calls Tryz.prog 39 #[.pointer (some ⟨s, 0, none⟩)] w fun e w' => ∃ v, e = .returned v ∧ PsB w.heap.size w' v (prsS F (.own t)) ∧ Below w.heap.size w w' := by
  obtain ⟨i0, hi0, hz0, hz1, hz2⟩ := info_parts Tryz.infoPair
  obtain ⟨gk, evk, qk, nv, hQ, _⟩ := h.fm
  obtain ⟨g, ev, q, h1, h2, _, _⟩ := h.sm
  obtain ⟨o1, o2, _, _, _⟩ := hst
  have hlen : t.es.length ≤ 100000 := Nat.le_trans o1.few o1.all
  have s0 : w.cell? ⟨s, 0, none⟩ = some (.pointer (some ⟨f, 0, none⟩)) := h1.c 0 (by omega)
  have s2 : w.cell? ⟨s, 2, none⟩ = some (.pointer (some ⟨g, 0, none⟩)) := h1.c 2 (by omega)
  have f3 : w.cell? ⟨f, 3, none⟩ = some nv := hQ.hd.c 3 (by omega)
  obtain ⟨an, capn, gn, rfl, hcapn, hgn, hcn⟩ := hQ.ns.opn
  have hnames : F.all.length ≤ 100000 := hO.ktf (by omega)
  have C1 := rlive_any h2 (by rw [Tb.sh_len]; omega)
  have hll : (liveL t.es).length ≤ t.es.length := by have := liveL_len t.es; omega
  rw [show liveL t.sh.es = liveL t.es from liveL_sh t.es] at C1
  have HNL := Lib.hid o2
  have HCN : Hid (∀ i, i < F.all.length → an = some ⟨gn, 0, none⟩) := fun i hi => (hgn (by omega)).1
  have HCA := Lib.hid hcn
  have HS : Hid (prsS F (.own t) = prsO F.all (liveL t.es)) := rfl
  have e1 := eqQ7 g
  rw [HS.out]
  clear h hQ hO hcn hgn h1 h2 o1 o2 HS
  obtain ⟨LL, hLL⟩ : ∃ LL, liveL t.es = LL := ⟨_, rfl⟩
  rw [hLL] at C1 HNL hll ⊢
  clear hLL
  go_enter Tryz.func39, Tryz.ntmps39
  go_wp2_with fail
  refine C1.mono ?_
  rintro e w2 ⟨lv, rfl, hE, hB2⟩
  clear C1
  obtain ⟨ae, cape, ge, rfl, hpe, hro⟩ := hE.es.open
  have HPE : Hid (0 < LL.length → ae = some ⟨ge, 0, none⟩) := fun h0 => (hpe h0).1
  have HRO := Lib.hid hro
  have HB2 := Lib.hid hB2
  have hsz2 := hB2.size
  clear hE hpe hro hB2 s2
  go_wp2_with fail
  go_loopw [3, 6] (fun lv iv wr => ∃ k : Nat, k ≤ LL.length ∧ iv = .int .i64 (k : Int) ∧ PoR w2 F.all LL k wr lv) (fun _ iv _ => LL.length - (intOf iv).toNat)
  case atStart => exact ⟨0, Nat.zero_le _, rfl, ⟨rfl, Or.inl ⟨rfl, rfl⟩⟩, Below.refl _ _⟩
  case round =>
    obtain ⟨k, hk, rfl, hN, hB⟩ := hrel
    by_cases hlt : k < LL.length
    · have t1 : (k : Int) < (LL.length : Int) := by omega
      obtain ⟨kk, nmk, hnk, hkey, _⟩ := HNL.out.nm _ (nth_mem hlt)
      have hkk := (List.getElem?_eq_some_iff.1 hnk).1
      obtain rfl := HCN.out kk hkk
      obtain rfl := HPE.out (by omega)
      have xk0 := HRO.out.c2 k hlt
      have xv0 := HRO.out.c3 k hlt
      rw [hkey] at xk0
      have xn0 := HCA.out kk nmk hnk
      have t2 : (kk : Int) < (F.all.length : Int) := by omega
      have hln : (prsO F.all (LL.take k)).length = k := by rw [prsO_len, List.length_take]; omega
      have hown : wr.drew.ownsRow w2.heap.size 146 2 u3 k (pcl (prsO F.all (LL.take k))) := psB_at hln hN
      have FIN : Hid (∀ (v' : Value) (w5 : World), w5.ownsRow w2.heap.size 146 2 v' (k + 1) (pcl (prsO F.all (LL.take k)) ++ [.string nmk, .int .i64 (nth LL k).value]) → (wr.drew.alloc (.cells #[.string nmk, .int .i64 (nth LL k).value] 146)).grownBy w5 (u3).ownBlock → PoR w2 F.all LL (k + 1) w5 v') := fun v' w5 g1 g2 => by
        refine ⟨?_, below_grownN (hB.drew) (Nat.le_refl _) hown g2⟩
        have e1 : prsO F.all (LL.take (k + 1)) = prsO F.all (LL.take k) ++ [(nmk, (nth LL k).value)] := by
          rw [take_succ_nth hlt]
          unfold prsO
          rw [List.map_append]
          show _ ++ [(nmOf F.all (nth LL k).key, (nth LL k).value)] = _
          rw [hkey, nmOf_at hnk]
        rw [e1]
        exact psB_snoc hln g1
      have SK : Hid (∀ V, Below w2.heap.size w2 V → V.cell? ⟨s, 0, none⟩ = some (.pointer (some ⟨f, 0, none⟩)) ∧ V.cell? ⟨f, 3, none⟩ = some (.slice (some ⟨gn, 0, none⟩) F.all.length capn) ∧ V.cell? ⟨gn, kk, none⟩ = some (.string nmk) ∧ V.cell? ⟨ge, k * 5 + 2, none⟩ = some (.int .i64 (kk : Int)) ∧ V.cell? ⟨ge, k * 5 + 3, none⟩ = some (.int .i64 (nth LL k).value)) := fun V e => by
        have e0 := HB2.out.trans (e.mono hsz2)
        exact ⟨(e0.cell (p := ⟨s, 0, none⟩) (lt_of_cell s0)).trans s0, (e0.cell (p := ⟨f, 3, none⟩) (lt_of_cell f3)).trans f3, (e0.cell (p := ⟨gn, kk, none⟩) (lt_of_cell xn0)).trans xn0, (e.cell (p := ⟨ge, k * 5 + 2, none⟩) (lt_of_cell xk0)).trans xk0, (e.cell (p := ⟨ge, k * 5 + 3, none⟩) (lt_of_cell xv0)).trans xv0⟩
      have s9 := SK.out wr.drew hB.drew
      have sA := SK.out (wr.drew.alloc (.cells #[.string nmk, .int .i64 (nth LL k).value] 146)) ((hB.drew).alloc (by show w2.heap.size ≤ wr.heap.size; exact hB.size) _)
      obtain ⟨a0, cap0, hv0⟩ := ownsRow_shape hown
      subst hv0
      have hszr := hB.size
      have e5 : IntKind.i64.wrap ((k : Int) + 1) = ((k + 1 : Nat) : Int) := by rw [i64_small (by omega) (by omega)]; omega
      clear hN hB hnk hkey xn0 xk0 xv0 hln
      generalize pcl (prsO F.all (LL.take k)) = R at *
      generalize (nth LL k).value = xx at *
      generalize F.all.length = L at *
      go_upto_region 12 with fail
      refine wp_region_noPanic ?_
      refine wp_region_held_drew (S := fun V => V.cell? ⟨s, 0, none⟩ = some (.pointer (some ⟨f, 0, none⟩)) ∧ V.cell? ⟨f, 3, none⟩ = some (.slice (some ⟨gn, 0, none⟩) L capn) ∧ V.cell? ⟨gn, kk, none⟩ = some (.string nmk) ∧ V.cell? ⟨ge, k * 5 + 2, none⟩ = some (.int .i64 (kk : Int)) ∧ V.cell? ⟨ge, k * 5 + 3, none⟩ = some (.int .i64 xx)) (by kernel_rfl) s9 (fun hSc => ?_)
      refine takeQ_at (i := 0) (d := some 67) (v := ?_) rfl rfl (by kernel_rfl) (by kernel_rfl) (by kernel_rfl) (fun _ _ _ h => h) (Or.inl ⟨by rfl, ?hy⟩) hSc ?_
      case hy => (intro w hSw; (try dsimp only at hSw); go_simp; try with_reducible rfl)
      simp only [Act.put, List.setIfInBounds_toArray, List.set_cons_zero, List.set_cons_succ]
      refine takeQ_at (i := 1) (d := some 68) (v := ?_) rfl rfl (by kernel_rfl) (by kernel_rfl) (by kernel_rfl) (fun _ _ _ h => h) (Or.inl ⟨by rfl, ?hy⟩) hSc ?_
      case hy => (intro w hSw; (try dsimp only at hSw); go_simp; try with_reducible rfl)
      simp only [Act.put, List.setIfInBounds_toArray, List.set_cons_zero, List.set_cons_succ]
      refine takeQ_at (i := 2) (d := some 69) (v := ?_) rfl rfl (by kernel_rfl) (by kernel_rfl) (by kernel_rfl) (fun _ _ _ h => h) (Or.inl ⟨by rfl, ?hy⟩) hSc ?_
      case hy => (intro w hSw; (try dsimp only at hSw); go_simp; try with_reducible rfl)
      simp only [Act.put, List.setIfInBounds_toArray, List.set_cons_zero, List.set_cons_succ]
      refine takeQ_at (i := 3) (d := some 70) (v := ?_) rfl rfl (by kernel_rfl) (by kernel_rfl) (by kernel_rfl) (fun _ _ _ h => h) (Or.inl ⟨by rfl, ?hy⟩) hSc ?_
      case hy => (intro w hSw; (try dsimp only at hSw); go_simp; try with_reducible rfl)
      simp only [Act.put, List.setIfInBounds_toArray, List.set_cons_zero, List.set_cons_succ]
      refine takeQ_at (i := 4) (d := some 71) (v := ?_) rfl rfl (by kernel_rfl) (by kernel_rfl) (by kernel_rfl) (fun _ _ _ h => h) (Or.inl ⟨by rfl, ?hy⟩) hSc ?_
      case hy => (intro w hSw; (try dsimp only at hSw); go_simp; try with_reducible rfl)
      simp only [Act.put, List.setIfInBounds_toArray, List.set_cons_zero, List.set_cons_succ]
      refine takeQ_at (i := 5) (d := some 72) (v := ?_) rfl rfl (by kernel_rfl) (by kernel_rfl) (by kernel_rfl) (fun _ _ _ h => h) (Or.inl ⟨by rfl, ?hy⟩) hSc ?_
      case hy => (intro w hSw; (try dsimp only at hSw); go_simp; try with_reducible rfl)
      simp only [Act.put, List.setIfInBounds_toArray, List.set_cons_zero, List.set_cons_succ]
      refine takeQ_at (i := 6) (d := some 73) (v := ?_) rfl rfl (by kernel_rfl) (by kernel_rfl) (by kernel_rfl) (fun _ _ _ h => h) (Or.inl ⟨by rfl, ?hy⟩) hSc ?_
      case hy => (intro w hSw; (try dsimp only at hSw); go_simp; try with_reducible rfl)
      simp only [Act.put, List.setIfInBounds_toArray, List.set_cons_zero, List.set_cons_succ]
      refine takeQ_at (i := 7) (d := some 74) (v := ?_) rfl rfl (by kernel_rfl) (by kernel_rfl) (by kernel_rfl) (fun _ _ _ h => h) (Or.inl ⟨by rfl, ?hy⟩) hSc ?_
      case hy => (intro w hSw; (try dsimp only at hSw); go_simp; try with_reducible rfl)
      simp only [Act.put, List.setIfInBounds_toArray, List.set_cons_zero, List.set_cons_succ]
      refine takeQ_at (i := 8) (d := some 75) (v := ?_) rfl rfl (by kernel_rfl) (by kernel_rfl) (by kernel_rfl) (fun _ _ _ h => h) (Or.inl ⟨by rfl, ?hy⟩) hSc ?_
      case hy => (intro w hSw; (try dsimp only at hSw); go_simp; try with_reducible rfl)
      simp only [Act.put, List.setIfInBounds_toArray, List.set_cons_zero, List.set_cons_succ]
      refine takeQ_at (i := 9) (d := some 76) (v := ?_) rfl rfl (by kernel_rfl) (by kernel_rfl) (by kernel_rfl) (fun _ _ _ h => h) (Or.inl ⟨by rfl, ?hy⟩) hSc ?_
      case hy => (intro w hSw; (try dsimp only at hSw); go_simp; try with_reducible rfl)
      simp only [Act.put, List.setIfInBounds_toArray, List.set_cons_zero, List.set_cons_succ]
      refine takeQ_at (i := 10) (d := some 77) (v := ?_) rfl rfl (by kernel_rfl) (by kernel_rfl) (by kernel_rfl) (fun _ _ _ h => h) (Or.inl ⟨by rfl, ?hy⟩) hSc ?_
      case hy => (intro w hSw; (try dsimp only at hSw); go_simp; try with_reducible rfl)
      simp only [Act.put, List.setIfInBounds_toArray, List.set_cons_zero, List.set_cons_succ]
      refine takeQ_at (i := 11) (d := some 78) (v := ?_) rfl rfl (by kernel_rfl) (by kernel_rfl) (by kernel_rfl) (fun _ _ _ h => h) (Or.inl ⟨by rfl, ?hy⟩) hSc ?_
      case hy => (intro w hSw; (try dsimp only at hSw); go_simp; try with_reducible rfl)
      simp only [Act.put, List.setIfInBounds_toArray, List.set_cons_zero, List.set_cons_succ]
      refine takeQ_at (i := 12) (d := some 79) (v := ?_) rfl rfl (by kernel_rfl) (by kernel_rfl) (by kernel_rfl) (fun _ _ _ h => h) (Or.inl ⟨by rfl, ?hy⟩) hSc ?_
      case hy => (intro w hSw; (try dsimp only at hSw); go_simp; try with_reducible rfl)
      simp only [Act.put, List.setIfInBounds_toArray, List.set_cons_zero, List.set_cons_succ]
      refine takeQ_at (i := 13) (d := some 80) (v := ?_) rfl rfl (by kernel_rfl) (by kernel_rfl) (by kernel_rfl) (fun _ _ _ h => h) (Or.inl ⟨by rfl, ?hy⟩) hSc ?_
      case hy => (intro w hSw; (try dsimp only at hSw); go_simp; try with_reducible rfl)
      simp only [Act.put, List.setIfInBounds_toArray, List.set_cons_zero, List.set_cons_succ]
      refine takeQ_at (i := 14) (d := some 81) (v := ?_) rfl rfl (by kernel_rfl) (by kernel_rfl) (by kernel_rfl) (fun _ _ _ h => h) (Or.inl ⟨by rfl, ?hy⟩) hSc ?_
      case hy => (intro w hSw; (try dsimp only at hSw); go_simp; try with_reducible rfl)
      simp only [Act.put, List.setIfInBounds_toArray, List.set_cons_zero, List.set_cons_succ]
      refine takeQ_at (i := 15) (d := some 82) (v := ?_) rfl rfl (by kernel_rfl) (by kernel_rfl) (by kernel_rfl) (fun _ _ _ h => h) (Or.inl ⟨by rfl, ?hy⟩) hSc ?_
      case hy => (intro w hSw; (try dsimp only at hSw); go_simp; try with_reducible rfl)
      simp only [Act.put, List.setIfInBounds_toArray, List.set_cons_zero, List.set_cons_succ]
      refine takeQ_at (i := 16) (d := some 83) (v := ?_) rfl rfl (by kernel_rfl) (by kernel_rfl) (by kernel_rfl) (fun _ _ _ h => h) (Or.inl ⟨by rfl, ?hy⟩) hSc ?_
      case hy => (intro w hSw; (try dsimp only at hSw); go_simp; try with_reducible rfl)
      simp only [Act.put, List.setIfInBounds_toArray, List.set_cons_zero, List.set_cons_succ]
      refine takeQ_at (i := 17) (d := some 84) (v := ?_) rfl rfl (by kernel_rfl) (by kernel_rfl) (by kernel_rfl) (fun _ _ _ h => h) (Or.inl ⟨by rfl, ?hy⟩) hSc ?_
      case hy => (intro w hSw; (try dsimp only at hSw); go_simp; try with_reducible rfl)
      simp only [Act.put, List.setIfInBounds_toArray, List.set_cons_zero, List.set_cons_succ]
      refine takeQ_at (i := 18) (d := some 85) (v := ?_) rfl rfl (by kernel_rfl) (by kernel_rfl) (by kernel_rfl) (fun _ _ _ h => h) (Or.inl ⟨by rfl, ?hy⟩) hSc ?_
      case hy => (intro w hSw; (try dsimp only at hSw); go_simp; try with_reducible rfl)
      simp only [Act.put, List.setIfInBounds_toArray, List.set_cons_zero, List.set_cons_succ]
      refine takeQ_at (i := 19) (d := some 86) (v := ?_) rfl rfl (by kernel_rfl) (by kernel_rfl) (by kernel_rfl) (fun _ _ _ h => h) (Or.inl ⟨by rfl, ?hy⟩) hSc ?_
      case hy => (intro w hSw; (try dsimp only at hSw); go_simp; try with_reducible rfl)
      simp only [Act.put, List.setIfInBounds_toArray, List.set_cons_zero, List.set_cons_succ]
      refine takeQ_at (i := 20) (d := some 87) (v := ?_) rfl rfl (by kernel_rfl) (by kernel_rfl) (by kernel_rfl) (fun _ _ _ h => h) (Or.inl ⟨by rfl, ?hy⟩) hSc ?_
      case hy => (intro w hSw; (try dsimp only at hSw); go_simp; try with_reducible rfl)
      simp only [Act.put, List.setIfInBounds_toArray, List.set_cons_zero, List.set_cons_succ]
      refine wpAnyH_ready (rs := [21]) (by kernel_rfl) (by simp) ?_
      refine AllReadyH.cons rfl (fun K hK => ?_) AllReadyH.nil
      go_simp
      refine hK.out _ _ sA (fun hSn => ?_)
      clear hK K
      refine wpAnyH_ready (rs := [22]) (by kernel_rfl) (by simp) ?_
      refine AllReadyH.cons rfl (fun K hK => ?_) AllReadyH.nil
      refine step_append_own rfl _ _ 99 rfl w2.heap.size 146 i0 (.agg #[.string ByteArray.empty, .int .i64 0]) 2 24 Tryz.underlying99 hi0 hz0 hz1 hz2 rfl (by decide) (.slice a0 k cap0) k R (by simp [Act.eval]) (World.ownsRow.alloc hown _) ⟨wr.drew.heap.size, 0, none⟩ 1 1 [.string nmk, .int .i64 xx] (by simp [Act.eval]) rfl (new_pair _ _ _ _) (by simp [Value.oneCell']) (by unfold maxLen; omega) (by omega) (by simp; omega) ?_
      intro v' w5 hown2 hgrow hat
      have HN := Lib.hid (FIN.out v' w5 hown2 hgrow)
      have s3 := SK.out w5 HN.out.2
      clear hown2 hgrow hat
      refine hK.out _ _ s3 (fun hSn => ?_)
      clear hK K
      refine wpAnyH_ready (rs := [23]) (by kernel_rfl) (by simp) ?_
      refine AllReadyH.cons rfl (fun K hK => ?_) AllReadyH.nil
      go_simp
      refine hK.out _ _ s3 (fun hSn => ?_)
      clear hK K
      refine wpAnyH_done (by kernel_rfl) ?_ _
      refine NoPanic.normal ?_
      go_wp2_with fail
      go_roundw
      case rel => exact ⟨k + 1, by omega, by go_num, HN.out⟩
      case measure => simp [intOf]; omega
    · have t1 : ¬ (k : Int) < (LL.length : Int) := by omega
      obtain rfl : k = LL.length := by omega
      rw [List.take_length] at hN
      have HQ : Hid (PsB w.heap.size wr u3 (prsO F.all LL) ∧ Below w.heap.size w wr) := by
        refine ⟨?_, HB2.out.trans (hB.mono hsz2)⟩
        unfold PsB at hN ⊢
        exact hN.mono hsz2
      clear hN hB
      go_wp2
      go_ret
      exact ⟨_, rfl, HQ.out.1, HQ.out.2⟩
theorem rpairs_any {w : World} {f s : Nat} {F : Fa} {mr : Value} {XF XS : Nat → Prop} {st : Stn} {v : Nat} {c0 : Nat} (h : Qp w f F mr XF s st v XS) (hO : F.Ok hsT c0) (hst : st.Ok hsT F c0) (hc0 : c0 ≤ 49000) :
    Calls Tryz.prog 39 #[.pointer (some ⟨s, 0, none⟩)] w fun e w' => ∃ v, e = .returned v ∧ PsB w.heap.size w' v (prsS F st) ∧ Below w.heap.size w w' := by
  cases st with
  | row vs => exact rpairs_row h hO hst
  | own t => exact rpairs_own h hO hst hc0
end Go.Proofs.YtcbhpjpkjmlcnaaGreat
namespace Go.Proofs.YtcbhpjpkjmlcnaaGreat
open Go.RowKit Go.WideShapes

theorem SgV.up {B : Nat} {w w' : World} {t : Tb} {hc : Nat} {ev : Value} (h : SgV B w t hc ev) (hb : Below w.heap.size w w') : SgV B w' t hc ev := by
  refine ⟨h.row.same (hb.block hc h.row.lt), ?_, h.hB, h.ne⟩
  have h1 := h.es.es.same (w' := w') (fun k hk => hb.block k (h.es.es.lt k hk))
  have h2 := h.es.ge
  refine ⟨h1.1, ?_⟩
  rcases h1.2 with h0 | ⟨g, cap, cur, e', q1, q2⟩
  · exact .inl h0
  · exact .inr ⟨g, cap, cur, e', h2 g (by rw [e']; rfl), q2⟩
theorem own_few {F : Fa} {t : Tb} {c : Nat} (hst : (Stn.own t).Ok hsT F c) : t.es.length ≤ 100000 ∧ t.L ≤ 20 := by
  obtain ⟨h1, _⟩ := hst
  exact ⟨Nat.le_trans h1.few h1.all, h1.sz.2⟩
theorem prsS_few {F : Fa} {c : Nat} {st : Stn} (hO : F.Ok hsT c) (hs : Stn.Ok hsT F c st) : (prsS F st).length ≤ 100000 := by
  cases st with
  | row vs =>
    show (prsN _ _ _ _).length ≤ _
    rw [prsN_len]
    have h1 : vs.length ≤ F.kt.es.length := hs
    have := hO.len
    have := hO.room
    omega
  | own t =>
    show (prsO _ _).length ≤ _
    unfold prsO
    rw [List.length_map]
    have := liveL_len t.es
    have := hs.1.few
    have := hs.1.all
    omega
/-- The Sights of a namespace, on both sides. -/
theorem sights10 {w : World} {X : Nat} {S : S10} {mv mr : Value} {N : Int → Int → Int → Int → World → Prop} {a b c d : Int} {c0 : Nat} (hP : P10 w X S mv mr N a b c d c0) {k : Nat} (hk : k < S.n) :
    ∃ Ps : Value → World → Prop,
      (∀ V, Below w.heap.size w V → Calls Tryz.prog 40 #[.pointer (some ⟨(S.sp k).s, 0, none⟩)] V fun e w' => ∃ v, e = .returned v ∧ Ps v w' ∧ Below V.heap.size V w') ∧
      (∀ V, Below w.heap.size w V → Calls Tryz.prog 41 #[.pointer (some ⟨(S.sp k).s2, 0, none⟩)] V fun e w' => ∃ u, e = .returned u ∧ Below V.heap.size V w' ∧ ∀ v, Ps v V → Calls Tryz.prog 16 #[v, u] w' fun e w'' => e = .returned (.bool true) ∧ Below w'.heap.size w' w'') := by
  obtain ⟨hsm, hqs, hok, hver⟩ := hP.sp k hk
  revert hsm hqs hok
  cases (S.sp k).st with
  | row vs =>
    intro hsm hqs hok
    refine ⟨fun v _ => v = siV 0 0 none 0 0 none 0 0 0 0 0, fun V hb => ?_, fun V hb => ?_⟩
    · have h := hsm.same (w' := V) fun i hi => hb.block i (hsm.lt i hi)
      obtain ⟨q, XQ, h1, _, _, _⟩ := h
      exact (ssight_row (h1.c 1 (by omega))).mono fun e w' ⟨g1, g2⟩ => ⟨_, g1, rfl, g2⟩
    · have h := hqs.same (w' := V) fun i hi => hb.block i (hqs.lt i hi)
      refine (rssight_any h (fun t e => by cases e)).mono ?_
      rintro e w' ⟨rfl, hb'⟩
      refine ⟨_, rfl, hb', ?_⟩
      rintro v rfl
      exact sight10_none w'
  | own t =>
    intro hsm hqs hok
    obtain ⟨hlen, hL⟩ := own_few hok
    refine ⟨fun v V => ∃ hc ev B, v = sgV t hc ev ∧ SgV B V t hc ev, fun V hb => ?_, fun V hb => ?_⟩
    · have h := hsm.same (w' := V) fun i hi => hb.block i (hsm.lt i hi)
      obtain ⟨q, XQ, h1, ⟨g, gi, r, h', ev, h2, h3, _, _⟩, _, _⟩ := h
      exact (ssight_own (h1.c 1 (by omega)) (h2.c 1 (by omega)) h3 hlen).mono fun e w' ⟨hc, ev', g1, g2, g3⟩ => ⟨_, g1, ⟨hc, ev', _, rfl, g2⟩, g3⟩
    · have h := hqs.same (w' := V) fun i hi => hb.block i (hqs.lt i hi)
      refine (rssight_any h (fun t' e => by cases e; exact hlen)).mono ?_
      rintro e w' ⟨⟨ca, cc, ea, ec, rfl, h1, h2, _⟩, hb'⟩
      refine ⟨_, rfl, hb', ?_⟩
      rintro v ⟨hc, ev, B, rfl, hg⟩
      exact sight10_both hlen hL (hg.up hb') h1 h2
/-- The pairs of a namespace, on both sides. -/
theorem pairs10 {w : World} {X : Nat} {S : S10} {mv mr : Value} {N : Int → Int → Int → Int → World → Prop} {a b c d : Int} {c0 : Nat} (hP : P10 w X S mv mr N a b c d c0) (hc0 : c0 ≤ 400) {k : Nat} (hk : k < S.n) :
    ∃ Ps : Value → World → Prop,
      (∀ V, Below w.heap.size w V → Calls Tryz.prog 38 #[.pointer (some ⟨(S.sp k).s, 0, none⟩)] V fun e w' => ∃ v, e = .returned v ∧ Ps v w' ∧ Below V.heap.size V w') ∧
      (∀ V, Below w.heap.size w V → Calls Tryz.prog 39 #[.pointer (some ⟨(S.sp k).s2, 0, none⟩)] V fun e w' => ∃ u, e = .returned u ∧ Below V.heap.size V w' ∧ ∀ v, Ps v V → Calls Tryz.prog 37 #[v, u] w' fun e w'' => e = .returned (.bool true) ∧ Below w'.heap.size w' w'') := by
  have h1 := hP.fs hk
  have h2 := hP.qp hk
  have hok := (hP.sp k hk).ok
  have hr : S.F.kt.es.length ≤ 256 := Nat.le_trans hP.fok.len hP.fok.room
  have hl : (prsS S.F (S.sp k).st).length ≤ 100000 := prsS_few hP.fok hok
  refine ⟨fun v V => ∃ a cap, v = .slice a (prsS S.F (S.sp k).st).length cap ∧ RdP V a (prsS S.F (S.sp k).st), fun V hb => ?_, fun V hb => ?_⟩
  · refine (spairs_any (h1.below hb) hP.fok hok hr).mono ?_
    rintro e w' ⟨v, rfl, hp, hb'⟩
    obtain ⟨a1, cap, rfl, hrd⟩ := hp.rd
    exact ⟨_, rfl, ⟨a1, cap, rfl, hrd⟩, hb'⟩
  · have h3 : Qp V S.f2 S.F mr S.XG (S.sp k).s2 (S.sp k).st (S.sp k).v (S.sp k).XR := ⟨h2.fm.same fun i hi => hb.block i (h2.fm.lt i hi), h2.sm.same fun i hi => hb.block i (h2.sm.lt i hi), h2.ap, h2.mq⟩
    refine (rpairs_any h3 hP.fok hok (by omega)).mono ?_
    rintro e w' ⟨u, rfl, hp, hb'⟩
    obtain ⟨a2, cap2, rfl, hrd2⟩ := hp.rd
    refine ⟨_, rfl, hb', ?_⟩
    rintro v ⟨a1, cap, rfl, hrd⟩
    exact pairs10_eq (hrd.below hb') hrd2 hl
/-- The shared names, on both sides. -/
theorem names10 {w : World} {X : Nat} {S : S10} {mv mr : Value} {N : Int → Int → Int → Int → World → Prop} {a b c d : Int} {c0 : Nat} (hP : P10 w X S mv mr N a b c d c0) (hc0 : c0 ≤ 400) :
    ∃ Ps : Value → World → Prop,
      (∀ V, Below w.heap.size w V → Calls Tryz.prog 14 #[.pointer (some ⟨S.f, 0, none⟩)] V fun e w' => ∃ v, e = .returned v ∧ Ps v w' ∧ Below V.heap.size V w') ∧
      (∀ V, Below w.heap.size w V → Calls Tryz.prog 15 #[.pointer (some ⟨S.f2, 0, none⟩)] V fun e w' => ∃ u, e = .returned u ∧ Below V.heap.size V w' ∧ ∀ v, Ps v V → Calls Tryz.prog 13 #[v, u] w' fun e w'' => e = .returned (.bool true) ∧ Below w'.heap.size w' w'') := by
  have hr : S.F.kt.es.length ≤ 256 := Nat.le_trans hP.fok.len hP.fok.room
  have hl : (nmsOf S.F.all S.F.kt.es).length ≤ 100000 := by
    have : (nmsOf S.F.all S.F.kt.es).length = S.F.kt.es.length := by first | exact nmsOf_len _ _ | simp [nmsOf]
    omega
  refine ⟨fun v V => ∃ a cap, v = .slice a (nmsOf S.F.all S.F.kt.es).length cap ∧ RdS V a (nmsOf S.F.all S.F.kt.es), fun V hb => ?_, fun V hb => ?_⟩
  · obtain ⟨g, gi, r, h, ev, mb, nv, h1, _⟩ := hP.fm
    refine (names_any (h1.below hb) hP.fok.nl hP.fok.dead hr).mono ?_
    rintro e w' ⟨v, rfl, hp, hb'⟩
    obtain ⟨a1, cap, rfl, hrd⟩ := hp.rd
    exact ⟨_, rfl, ⟨a1, cap, rfl, hrd⟩, hb'⟩
  · have h3 := hP.qf.same (w' := V) fun i hi => hb.block i (hP.qf.lt i hi)
    refine (rnames_any h3 hP.fok (by omega)).mono ?_
    rintro e w' ⟨u, rfl, hp, hb'⟩
    obtain ⟨a2, cap2, rfl, hrd2⟩ := hp.rd
    refine ⟨_, rfl, hb', ?_⟩
    rintro v ⟨a1, cap, rfl, hrd⟩
    exact names_eq (hrd.below hb') hrd2 hl
/-- The Sights of the key tables. -/
theorem fsights10 {w : World} {X : Nat} {S : S10} {mv mr : Value} {N : Int → Int → Int → Int → World → Prop} {a b c d : Int} {c0 : Nat} (hP : P10 w X S mv mr N a b c d c0) :
    ∃ (Ps : Value → World → Prop) (g2 : Nat),
      (∀ V, Below w.heap.size w V → Calls Tryz.prog 17 #[.pointer (some ⟨S.f, 0, none⟩)] V fun e w' => ∃ v, e = .returned v ∧ Ps v w' ∧ Below V.heap.size V w') ∧
      (∀ V, Below w.heap.size w V → V.cell? ⟨S.f2, 2, none⟩ = some (.pointer (some ⟨g2, 0, none⟩)) ∧ Calls Tryz.prog 18 #[.pointer (some ⟨g2, 0, none⟩)] V fun e w' => ∃ u, e = .returned u ∧ Below V.heap.size V w' ∧ ∀ v, Ps v V → Calls Tryz.prog 16 #[v, u] w' fun e w'' => e = .returned (.bool true) ∧ Below w'.heap.size w' w'') := by
  have hr : S.F.kt.es.length ≤ 100000 := Nat.le_trans hP.fok.len (Nat.le_trans hP.fok.room (by decide))
  have hL : S.F.kt.L ≤ 20 := hP.fok.ok.sz.2
  obtain ⟨g2, ev2, q2, nv2, hQ, _⟩ := hP.qf
  refine ⟨fun v V => ∃ hc ev B, v = sgV S.F.kt hc ev ∧ SgV B V S.F.kt hc ev, g2, fun V hb => ?_, fun V hb => ?_⟩
  · obtain ⟨g, gi, r, h, ev, mb, nv, h1, _⟩ := hP.fm
    have h2 := h1.below hb
    exact (fsight_any (h2.nh.hd.c 1 (by omega)) h2.dt hr).mono fun e w' ⟨hc, ev', g1, g2, g3⟩ => ⟨_, g1, ⟨hc, ev', _, rfl, g2⟩, g3⟩
  · have h2 := hQ.same (w' := V) fun i hi => hb.block i (hQ.lt i hi)
    refine ⟨h2.hd.c 2 (by omega), (rsight_s h2.kt hr).mono ?_⟩
    rintro e w' ⟨ca, cc, ea, ec, rfl, h3, h4, hb'⟩
    refine ⟨_, rfl, hb', ?_⟩
    rintro v ⟨hc, ev, B, rfl, hg⟩
    exact sight10_both hr hL (hg.up hb') h3 h4
end Go.Proofs.YtcbhpjpkjmlcnaaGreat
