/-
  plays and awake.
-/
import Derived.Test.YtajbieokcdejgaaCeLaw
namespace Go.Proofs.Ytajbieokcdejgaa
open Go.RowKit Go.WideShapes

/-- All blocks but h and q are as they were. -/
structure But2 (h q : Nat) (w w' : World) : Prop where
  os : w'.os = w.os
  tape : w'.tape = w.tape
  output : w'.output = w.output
  size : w.heap.size ≤ w'.heap.size
  block : ∀ k, k < w.heap.size → k ≠ h → k ≠ q → w'.heap[k]? = w.heap[k]?
theorem But2.refl (h q : Nat) (w : World) : But2 h q w w := ⟨rfl, rfl, rfl, Nat.le_refl _, fun _ _ _ _ => rfl⟩
theorem But2.trans {h q : Nat} {a b c : World} (x : But2 h q a b) (y : But2 h q b c) : But2 h q a c :=
  ⟨y.os.trans x.os, y.tape.trans x.tape, y.output.trans x.output, Nat.le_trans x.size y.size, fun i hi h1 h2 => (y.block i (Nat.lt_of_lt_of_le hi x.size) h1 h2).trans (x.block i hi h1 h2)⟩
theorem But.left {h : Nat} {w w' : World} (x : But h w w') (q : Nat) : But2 h q w w' := ⟨x.os, x.tape, x.output, x.size, fun k hk h1 _ => x.block k hk h1⟩
theorem But.right {q : Nat} {w w' : World} (x : But q w w') (h : Nat) : But2 h q w w' := ⟨x.os, x.tape, x.output, x.size, fun k hk _ h2 => x.block k hk h2⟩
theorem but2_of {w w' : World} (x : Below w.heap.size w w') (h q : Nat) : But2 h q w w' := ⟨x.os, x.tape, x.output, x.size, fun k hk _ _ => x.block k hk⟩
theorem But2.cell {h q : Nat} {w w' : World} (x : But2 h q w w') {p : Addr} (hp : p.block < w.heap.size) (h1 : p.block ≠ h) (h2 : p.block ≠ q) : w'.cell? p = w.cell? p := World.cell?_of_block (w := w) (x.block p.block hp h1 h2)
theorem But2.below {h q B : Nat} {w w' : World} (x : But2 h q w w') (hh : B ≤ h) (hq : B ≤ q) (hB : B ≤ w.heap.size) : Below B w w' :=
  ⟨x.os, x.tape, x.output, x.size, fun k hk => x.block k (by omega) (by omega) (by omega)⟩
theorem But2.drew {h q : Nat} {a w : World} (x : But2 h q a w) : But2 h q a w.drew := ⟨x.os, x.tape, x.output, x.size, x.block⟩

/-- What Set and Get answer, and what Set leaves. -/
def inR (S : Nat) (i : Int) : Prop := 0 ≤ i ∧ i < (S : Int)
instance (S : Nat) (i : Int) : Decidable (inR S i) := inferInstanceAs (Decidable (_ ∧ _))
def sE (S : Nat) (i v : Int) : Int := if inR S i then (if may S v = true then 0 else 1) else 5
def sF (S : Nat) (f : Nat → Int) (i v : Int) : Nat → Int := if inR S i ∧ may S v = true then upd f i.toNat v else f
def gV (S : Nat) (f : Nat → Int) (i : Int) : Int := if inR S i then f i.toNat else 0
def gE (S : Nat) (i : Int) : Int := if inR S i then 0 else 5
theorem setM_any {w : World} {g r h L S : Nat} {f : Nat → Int} (hC : Cl w g r h L S f) (i v : Int) :
    Calls Try.prog 21 #[.pointer (some ⟨g, 0, none⟩), .int .i64 i, .int .i64 v] w fun e w' => e = .returned (.int .i64 (sE S i v)) ∧ Cl w' g r h L S (sF S f i v) ∧ But h w w' := by
  by_cases hi : inR S i
  · obtain ⟨n, rfl⟩ : ∃ n : Nat, i = (n : Int) := ⟨i.toNat, by have := hi.1; omega⟩
    have hn : n < S := by have := hi.2; omega
    by_cases hv : may S v = true
    · rw [show sE S n v = 0 by unfold sE; rw [if_pos hi, if_pos hv], show sF S f n v = upd f n v by unfold sF; rw [if_pos ⟨hi, hv⟩]; simp]
      refine (setM_yes hC n v hn hv).mono ?_
      rintro e w' ⟨rfl, rfl⟩
      exact ⟨rfl, hC.put n hn v (of_decide_eq_true hv), (But.refl h w).setCell n _⟩
    · rw [show sE S n v = 1 by unfold sE; rw [if_pos hi, if_neg hv], show sF S f n v = f by unfold sF; rw [if_neg (fun x => hv x.2)]]
      refine (setM_bad hC n v hn (by simpa using hv)).mono ?_
      rintro e w' ⟨rfl, rfl⟩
      exact ⟨rfl, hC, But.refl h _⟩
  · rw [show sE S i v = 5 by unfold sE; rw [if_neg hi], show sF S f i v = f by unfold sF; rw [if_neg (fun x => hi x.1)]]
    refine (setM_not hC i v hi).mono ?_
    rintro e w' ⟨rfl, rfl⟩
    exact ⟨rfl, hC, But.refl h _⟩
theorem rset_any {w : World} {L q S : Nat} {f : Nat → Int} (hS : Sz L S) (h : Rf w q S f) (i v : Int) :
    Calls Try.prog 30 #[rv L q S, .int .i64 i, .int .i64 v] w fun e w' => e = .returned (.int .i64 (sE S i v)) ∧ Rf w' q S (sF S f i v) ∧ But q w w' := by
  have hp := hS.pos
  have hge := hS.ge
  by_cases hi : inR S i
  · obtain ⟨n, rfl⟩ : ∃ n : Nat, i = (n : Int) := ⟨i.toNat, by have := hi.1; omega⟩
    have hn : n < S := by have := hi.2; omega
    by_cases hv : may S v = true
    · rw [show sE S n v = 0 by unfold sE; rw [if_pos hi, if_pos hv], show sF S f n v = upd f n v by unfold sF; rw [if_pos ⟨hi, hv⟩]; simp]
      exact rset_yes hS h n v hn hv
    · rw [show sE S n v = 1 by unfold sE; rw [if_pos hi, if_neg hv], show sF S f n v = f by unfold sF; rw [if_neg (fun x => hv x.2)]]
      refine (rset_bad hS h n v hn (by simpa using hv)).mono ?_
      rintro e w' ⟨rfl, hb⟩
      exact ⟨rfl, h.below (by omega) hb, but_of hb q⟩
  · rw [show sE S i v = 5 by unfold sE; rw [if_neg hi], show sF S f i v = f by unfold sF; rw [if_neg (fun x => hi x.1)]]
    refine (rset_not (by omega) i v hi).mono ?_
    rintro e w' ⟨rfl, hb⟩
    exact ⟨rfl, h.below (by omega) hb, but_of hb q⟩
theorem getM_any {w : World} {g r h L S : Nat} {f : Nat → Int} (hC : Cl w g r h L S f) (i : Int) :
    Calls Try.prog 20 #[.pointer (some ⟨g, 0, none⟩), .int .i64 i] w fun e w' => e = .returned (.tuple #[.int .i64 (gV S f i), .int .i64 (gE S i)]) ∧ w' = w := by
  by_cases hi : inR S i
  · obtain ⟨n, rfl⟩ : ∃ n : Nat, i = (n : Int) := ⟨i.toNat, by have := hi.1; omega⟩
    have hn : n < S := by have := hi.2; omega
    rw [show gV S f n = f n by unfold gV; rw [if_pos hi]; simp, show gE S n = 0 by unfold gE; rw [if_pos hi]]
    exact getM_yes hC n hn
  · rw [show gV S f i = 0 by unfold gV; rw [if_neg hi], show gE S i = 5 by unfold gE; rw [if_neg hi]]
    exact getM_not hC i hi
theorem rget_any {w : World} {L q S : Nat} {f : Nat → Int} (hS : Sz L S) (h : Rf w q S f) (i : Int) :
    Calls Try.prog 31 #[rv L q S, .int .i64 i] w fun e w' => e = .returned (.tuple #[.int .i64 (gV S f i), .int .i64 (gE S i)]) ∧ Below w.heap.size w w' := by
  have hge := hS.ge
  by_cases hi : inR S i
  · obtain ⟨n, rfl⟩ : ∃ n : Nat, i = (n : Int) := ⟨i.toNat, by have := hi.1; omega⟩
    have hn : n < S := by have := hi.2; omega
    rw [show gV S f n = f n by unfold gV; rw [if_pos hi]; simp, show gE S n = 0 by unfold gE; rw [if_pos hi]]
    exact rget_yes (by omega) h n hn
  · rw [show gV S f i = 0 by unfold gV; rw [if_neg hi], show gE S i = 5 by unfold gE; rw [if_neg hi]]
    exact rget_not (by omega) i hi

/-- A row of steps that was handed in. -/
structure Ss (w : World) (a : Option Addr) (n cap b off : Nat) (K M : Nat → Int) : Prop where
  le : n ≤ cap
  pl : 0 < n → a = some ⟨b, off, none⟩ ∧ b < w.heap.size
  c0 : ∀ i, i < n → w.cell? ⟨b, off + i * 2, none⟩ = some (.int .i64 (K i))
  c1 : ∀ i, i < n → w.cell? ⟨b, off + i * 2 + 1, none⟩ = some (.int .i64 (M i))
theorem Ss.below {w w' : World} {a : Option Addr} {n cap b off : Nat} {K M : Nat → Int} (h : Ss w a n cap b off K M) (hb : Below w.heap.size w w') : Ss w' a n cap b off K M :=
  ⟨h.le, fun h0 => ⟨(h.pl h0).1, Nat.lt_of_lt_of_le (h.pl h0).2 hb.size⟩, fun i hi => (hb.cell (p := ⟨b, off + i * 2, none⟩) (h.pl (by omega)).2).trans (h.c0 i hi), fun i hi => (hb.cell (p := ⟨b, off + i * 2 + 1, none⟩) (h.pl (by omega)).2).trans (h.c1 i hi)⟩
theorem cell2_0 (w : World) (a b : Value) (t : TypeId) : (w.alloc (.cells #[a, b] t)).cell? ⟨w.heap.size, 0, none⟩ = some a := by rw [World.cell?_alloc_at _ _ _ _ rfl]; rfl
theorem Cl.but {w w' : World} {g r h L S q : Nat} {f : Nat → Int} (hC : Cl w g r h L S f) (hb : But q w w') (h1 : g ≠ q) (h2 : r ≠ q) (h3 : h ≠ q) : Cl w' g r h L S f :=
  hC.same (hb.block _ hC.lt.1 h1) (hb.block _ hC.lt.2.1 h2) (hb.block _ hC.lt.2.2 h3)
theorem Rf.but {w w' : World} {q S h : Nat} {f : Nat → Int} (x : Rf w q S f) (hS : 0 < S) (hb : But h w w') (h1 : q ≠ h) : Rf w' q S f := x.same (hb.block _ (x.lt hS) h1)
/-- The blocks of cells and of the reference's are not the same. -/
theorem apart {w : World} {g r h L S q : Nat} {f f' : Nat → Int} (hC : Cl w g r h L S f) (hR : Rf w q S f') : g ≠ q ∧ r ≠ q ∧ h ≠ q := by
  have h0 := hR.hc 0 (by have := hC.sz.pos; omega)
  have h1 := hR.hc 1 (by have := hC.sz.pos; omega)
  refine ⟨fun e => ?_, fun e => ?_, fun e => ?_⟩
  · subst e
    rw [hC.c1] at h1
    simp at h1
  · subst e
    rw [hC.rw.r1] at h1
    simp at h1
  · subst e
    rw [hC.rw.hc 0 (by have := hC.sz.pos; omega)] at h0
    exact kd_ne L _ _ (Option.some.inj h0)
set_option maxRecDepth 100000 in
set_option maxHeartbeats 8000000 in
theorem plays_any {w : World} {g r h L S q : Nat} {f : Nat → Int} (hC : Cl w g r h L S f) (hR : Rf w q S f) (a : Option Addr) (n cap b off : Nat) (K M : Nat → Int) (hs : Ss w a n cap b off K M) (hn : n ≤ 300) (hbh : b ≠ h) (hbq : b ≠ q) :
    Calls Try.prog 12 #[.pointer (some ⟨g, 0, none⟩), rv L q S, .slice a n cap] w fun e w' => e = .returned (.bool true) ∧ ∃ f', Cl w' g r h L S f' ∧ Rf w' q S f' ∧ But2 h q w w' := by
  have hp := hC.sz.pos
  obtain ⟨a1, a2, a3⟩ := apart hC hR
  obtain ⟨lg, lr, lh⟩ := hC.lt
  have lq := hR.lt (by omega)
  have HSZ := Lib.hid hC.sz
  have HPL := Lib.hid hs.pl
  have hle := hs.le
  have HC1 : Hid (∀ v, ∃ w1, w.alloc v = w1) := fun v => ⟨_, rfl⟩
  obtain ⟨w1, hw1⟩ : ∃ w1, w.alloc (.cells #[.int .i64 (L : Int), .slice (some ⟨q, 0, none⟩) S S] 30) = w1 := ⟨_, rfl⟩
  have HK0 : Hid (w1.cell? ⟨w.heap.size, 0, none⟩ = some (.int .i64 (L : Int))) := by show _ = _; rw [← hw1]; exact cell_new0 _ _ _ _
  have HK1 : Hid (w1.cell? ⟨w.heap.size, 1, none⟩ = some (.slice (some ⟨q, 0, none⟩) S S)) := by show _ = _; rw [← hw1]; exact cell_new1 _ _ _ _
  have hb1 : Below w.heap.size w w1 := by rw [← hw1]; exact (Below.refl _ w).alloc (Nat.le_refl _) _
  have hs1 : w1.heap.size = w.heap.size + 1 := by rw [← hw1]; simp
  have HCL := Lib.hid (hC.below hb1)
  have HRF := Lib.hid (hR.below (by omega) hb1)
  have HSS := Lib.hid (hs.below hb1)
  have HB1 := Lib.hid hb1
  clear HC1 hC hR hs hb1
  have hrv : rv L q S = .agg #[.int .i64 (L : Int), .slice (some ⟨q, 0, none⟩) S S] := rfl
  rw [hrv]
  have HRV := Lib.hid hrv
  clear hrv
  go_enter Try.func12, Try.ntmps12
  go_upto_region 1 with fail
  clear hw1
  go_wp2_with fail
  go_loopw [7] (fun iv wr => ∃ (k : Nat) (f : Nat → Int), k ≤ n ∧ iv = .int .i64 (k : Int) ∧ Cl wr g r h L S f ∧ Rf wr q S f ∧ But2 h q w1 wr) (fun iv _ => n - (intOf iv).toNat)
  case atStart => exact ⟨0, f, Nat.zero_le _, rfl, HCL.out, HRF.out, But2.refl _ _ _⟩
  case round =>
    clear HCL HRF
    obtain ⟨k, f, hk, rfl, hC, hR, hB⟩ := hrel
    have k0 := (hB.cell (p := ⟨w.heap.size, 0, none⟩) (by show w.heap.size < _; omega) (by show w.heap.size ≠ _; omega) (by show w.heap.size ≠ _; omega)).trans HK0.out
    have k1 := (hB.cell (p := ⟨w.heap.size, 1, none⟩) (by show w.heap.size < _; omega) (by show w.heap.size ≠ _; omega) (by show w.heap.size ≠ _; omega)).trans HK1.out
    by_cases hlt : k < n
    · have t1 : (k : Int) < (n : Int) := by omega
      obtain ⟨ea, lb⟩ := HPL.out (by omega)
      have d0 := (hB.cell (p := ⟨b, off + k * 2, none⟩) (by show b < _; omega) (by show b ≠ _; omega) (by show b ≠ _; omega)).trans (HSS.out.c0 k hlt)
      have d1 := (hB.cell (p := ⟨b, off + k * 2 + 1, none⟩) (by show b < _; omega) (by show b ≠ _; omega) (by show b ≠ _; omega)).trans (HSS.out.c1 k hlt)
      subst ea
      generalize K k = i at d0
      generalize M k = v at d1
      obtain ⟨w2, hw2⟩ : ∃ w2, wr.alloc (.cells #[.int .i64 i, .int .i64 v] 59) = w2 := ⟨_, rfl⟩
      have x0 : w2.cell? ⟨wr.heap.size, 0, none⟩ = some (.int .i64 i) := by rw [← hw2]; exact cell_new0 _ _ _ _
      have x1 : w2.cell? ⟨wr.heap.size, 1, none⟩ = some (.int .i64 v) := by rw [← hw2]; exact cell_new1 _ _ _ _
      have hb2 : Below wr.heap.size wr w2 := by rw [← hw2]; exact (Below.refl _ wr).alloc (Nat.le_refl _) _
      have hs2 : w2.heap.size = wr.heap.size + 1 := by rw [← hw2]; simp
      have lK : w.heap.size < wr.heap.size := by have := hB.size; omega
      have y0 := (hb2.cell (p := ⟨w.heap.size, 0, none⟩) lK).trans k0
      have y1 := (hb2.cell (p := ⟨w.heap.size, 1, none⟩) lK).trans k1
      have hC2 := (hC.below hb2).drew
      have hR2 := (hR.below (by omega) hb2).drew
      have HB2 := Lib.hid (hB.trans (but2_of hb2 h q)).drew
      have lx : wr.heap.size ≠ h ∧ wr.heap.size ≠ q := by have := hC.lt; have := hR.lt (by omega); omega
      have C1 := setM_any hC2 i v
      have e0 : ((sE S i v) != (sE S i v)) = false := by simp
      go_upto_region 5 with fail
      clear hw2 hC hR hB hb2 d0 d1 k0 k1
      go_region_held3 (fun V => (V.cell? ⟨wr.heap.size, 0, none⟩ = some (.int .i64 i) ∧ V.cell? ⟨wr.heap.size, 1, none⟩ = some (.int .i64 v)) ∧ V.cell? ⟨w.heap.size, 0, none⟩ = some (.int .i64 (L : Int)) ∧ V.cell? ⟨w.heap.size, 1, none⟩ = some (.slice (some ⟨q, 0, none⟩) S S))
        (first | exact ⟨⟨x0, x1⟩, y0, y1⟩ | exact ⟨⟨x2, x3⟩, y2, y3⟩ | exact ⟨⟨x4, x5⟩, y4, y5⟩ | fail)
        (first | (go_at_call 21; refine C1.mono ?_; rintro e w3 ⟨rfl, hC3, hb3⟩; have hR3 := hR2.but (by omega) hb3 (by omega); have x2 := (hb3.cell (p := ⟨wr.heap.size, 0, none⟩) (by show wr.heap.size < w2.heap.size; omega) lx.1).trans x0; have x3 := (hb3.cell (p := ⟨wr.heap.size, 1, none⟩) (by show wr.heap.size < w2.heap.size; omega) lx.1).trans x1; have y2 := (hb3.cell (p := ⟨w.heap.size, 0, none⟩) (by show w.heap.size < w2.heap.size; omega) (by show w.heap.size ≠ h; omega)).trans y0; have y3 := (hb3.cell (p := ⟨w.heap.size, 1, none⟩) (by show w.heap.size < w2.heap.size; omega) (by show w.heap.size ≠ h; omega)).trans y1)
               | (go_at_call 30; refine (rset_any HSZ.out hR3 i v).mono ?_; rintro e w4 ⟨rfl, hR4, hb4⟩; have hC4 := hC3.but hb4 (by omega) (by omega) (by omega); have hl3 : w2.heap.size ≤ w3.heap.size := hb3.size; have x4 := (hb4.cell (p := ⟨wr.heap.size, 0, none⟩) (by show wr.heap.size < w3.heap.size; omega) lx.2).trans x2; have x5 := (hb4.cell (p := ⟨wr.heap.size, 1, none⟩) (by show wr.heap.size < w3.heap.size; omega) lx.2).trans x3; have y4 := (hb4.cell (p := ⟨w.heap.size, 0, none⟩) (by show w.heap.size < w3.heap.size; omega) (by show w.heap.size ≠ q; omega)).trans y2; have y5 := (hb4.cell (p := ⟨w.heap.size, 1, none⟩) (by show w.heap.size < w3.heap.size; omega) (by show w.heap.size ≠ q; omega)).trans y3)
               | fail)
      have HB4 := Lib.hid ((HB2.out.trans (hb3.left q)).trans (hb4.right h))
      clear x0 x1 x2 x3 y0 y1 y2 y3 hR2 hC2 hC3 hR3 C1 HB2
      have C2 := getM_any hC4 i
      have C3 := rget_any HSZ.out hR4 i
      generalize sF S f i v = f2 at *
      have e1 : ((gV S f2 i) != (gV S f2 i)) = false := by simp
      have e2 : ((gE S i) != (gE S i)) = false := by simp
      have hl4 : wr.heap.size < w4.heap.size := lt_of_cell x4
      rw [HRV.out] at C3
      generalize gV S f2 i = g1 at *
      generalize gE S i = g2 at *
      go_wp2_with fail
      refine C2.mono ?_
      rintro e w5 ⟨rfl, rfl⟩
      clear C2
      go_wp2_with fail
      refine C3.mono ?_
      rintro e w6 ⟨rfl, hb6⟩
      have HC6 := Lib.hid (hC4.below hb6)
      have HR6 := Lib.hid (hR4.below (by omega) hb6)
      have HB6 := Lib.hid (HB4.out.trans (but2_of hb6 h q))
      clear C3 hC4 hR4 HB4 hb6 x4 x5 y4 y5
      go_wp2_with fail
      go_roundw
      case rel => exact ⟨k + 1, f2, by omega, by go_num, HC6.out, HR6.out, HB6.out⟩
      case measure => simp [intOf]; omega
    · have t1 : ¬ (k : Int) < (n : Int) := by omega
      have C1 := alike_any hC q
      rw [HRV.out] at C1
      go_wp2_with fail
      refine C1.mono ?_
      rintro e w6 ⟨rfl, hb6⟩
      clear C1
      go_wp2
      go_ret
      exact ⟨rfl, f, hC.below hb6, hR.below (by omega) hb6, ((but2_of HB1.out h q).trans hB).trans (but2_of hb6 h q)⟩
end Go.Proofs.Ytajbieokcdejgaa
