/-
  Small tests of nodes, as the document's own example asks them.
-/
import Derived.Test.YtfcgogpnbmikmaaGreatDoorNdSame
import Derived.Test.YtfcgogpnbmikmaaGreatDoorLxWord
import Derived.Laws.EntriesVeiled
namespace Go.Proofs.YtfcgogpnbmikmaaGreatDoor
open Go.RowKit Go.WideShapes
namespace Nd
open Lx

set_option maxRecDepth 100000 in
theorem noText_e (w : World) : Calls Tryz.prog 47 #[.string ⟨#[]⟩] w fun e w' => e = .returned (.bool true) ∧ w' = w := by
  go_enter Tryz.func47, Tryz.ntmps47
  go_wp2_with fail
  go_ret
  exact ⟨rfl, rfl⟩
set_option maxRecDepth 100000 in
theorem noNum_e (k a : Int) (s : ByteArray) (kv : Value) (w : World) : Calls Tryz.prog 92 #[.agg #[.int .i64 k, .int .i64 a, .string s, .bool false, .slice none 0 0, kv]] w fun e w' => e = .returned (.bool true) ∧ Below w.heap.size w w' := by
  go_enter Tryz.func92, Tryz.ntmps92
  go_wp2_with fail
  go_ret
  exact ⟨rfl, (Below.refl _ w).alloc (Nat.le_refl _) _⟩
set_option maxRecDepth 100000 in
theorem isBlock_e (a : Int) (s : ByteArray) (neg : Bool) (mv kv : Value) (w : World) : Calls Tryz.prog 48 #[.agg #[.int .i64 2, .int .i64 a, .string s, .bool neg, mv, kv]] w fun e w' => e = .returned (.bool true) ∧ Below w.heap.size w w' := by
  go_enter Tryz.func48, Tryz.ntmps48
  go_wp2_with fail
  go_ret
  exact ⟨rfl, (Below.refl _ w).alloc (Nat.le_refl _) _⟩
set_option maxRecDepth 100000 in
theorem isStatement_e (a : Int) (s : ByteArray) (neg : Bool) (mv kv : Value) (w : World) : Calls Tryz.prog 50 #[.agg #[.int .i64 3, .int .i64 a, .string s, .bool neg, mv, kv]] w fun e w' => e = .returned (.bool true) ∧ Below w.heap.size w w' := by
  go_enter Tryz.func50, Tryz.ntmps50
  go_wp2_with fail
  go_ret
  exact ⟨rfl, (Below.refl _ w).alloc (Nat.le_refl _) _⟩
set_option maxRecDepth 100000 in
theorem isExpression_e (a : Int) (s : ByteArray) (neg : Bool) (mv kv : Value) (w : World) : Calls Tryz.prog 51 #[.agg #[.int .i64 31, .int .i64 a, .string s, .bool neg, mv, kv]] w fun e w' => e = .returned (.bool true) ∧ Below w.heap.size w w' := by
  go_enter Tryz.func51, Tryz.ntmps51
  go_wp2_with fail
  go_ret
  exact ⟨rfl, (Below.refl _ w).alloc (Nat.le_refl _) _⟩
set_option maxRecDepth 100000 in
theorem isLetter_a (w : World) : Calls Tryz.prog 97 #[.int .u8 97] w fun e w' => e = .returned (.bool true) ∧ w' = w := by
  go_enter Tryz.func97, Tryz.ntmps97
  go_wp2_with fail
  go_ret
  exact ⟨rfl, rfl⟩
set_option maxRecDepth 100000 in
theorem isName_a (w : World) : Calls Tryz.prog 61 #[.string ⟨#[97]⟩] w fun e w' => e = .returned (.bool true) ∧ w' = w := by
  have C1 := isLetter_a
  have C2 := word_any ⟨#[97]⟩
  have hw : wrd (⟨#[97]⟩ : ByteArray).data.toList = false := by decide
  rw [hw] at C2
  clear hw
  go_enter Tryz.func61, Tryz.ntmps61
  go_wp2_with fail
  go_loopg [7] 1 (fun gk v7 wr => (v7 = .int .i64 0 ∧ gk = 1 ∨ v7 = .int .i64 1 ∧ gk = 0) ∧ wr = w)
  case atStart => exact ⟨Or.inl ⟨rfl, rfl⟩, rfl⟩
  case round =>
    obtain ⟨h, rfl⟩ := hrel
    rcases h with ⟨rfl, hg⟩ | ⟨rfl, hg⟩
    · go_wp2_with fail
      refine (C1 _).mono ?_
      rintro e w2 ⟨rfl, rfl⟩
      go_wp2_with fail
      go_roundg 0
      case measure => omega
      case rel => exact ⟨Or.inr ⟨rfl, rfl⟩, rfl⟩
    · go_wp2_with fail
      refine (C2 _).mono ?_
      rintro e w2 ⟨rfl, rfl⟩
      go_wp2_with fail
      go_ret
      exact ⟨rfl, rfl⟩
set_option maxRecDepth 100000 in
theorem passOver_0 (a : Option Addr) (c : Nat) (f : Value) (w : World) : Calls Tryz.prog 93 #[.slice a 0 c, f] w fun e w' => e = .returned (.slice a 0 c) ∧ w' = w := by
  go_enter Tryz.func93, Tryz.ntmps93
  go_wp2_with fail
  go_loopg [0] 0 (fun gk v0 wr => v0 = .slice a 0 c ∧ wr = w)
  case atStart => exact ⟨rfl, rfl⟩
  case round =>
    obtain ⟨rfl, rfl⟩ := hrel
    go_wp2_with fail
    go_ret
    exact ⟨rfl, rfl⟩
set_option maxRecDepth 100000 in
theorem passOver_1 (b o : Nat) (y : Nv) (f : Nat) (w : World) (hA : At w b o y) (eg : ∀ args w, (callFunc f args).run Tryz.prog w = .ok (.enter f args) w) (hf : ∀ V, Calls Tryz.prog f #[y.v] V fun e w' => e = .returned (.bool true) ∧ Below V.heap.size V w') :
    Calls Tryz.prog 93 #[.slice (some ⟨b, o, none⟩) 1 1, .func (.func f) #[] #[]] w fun e w' => (∃ a c, e = .returned (.slice a 0 c)) ∧ Below w.heap.size w w' := by
  obtain ⟨p0, p1, p2, p3, p4, p5⟩ := hA
  simp only [Nv.v] at hf
  go_enter Tryz.func93, Tryz.ntmps93
  go_wp2_with fail
  go_loopg [0] 1 (fun gk v0 wr => (v0 = .slice (some ⟨b, o, none⟩) 1 1 ∧ gk = 1 ∧ wr = w) ∨ (∃ a c, v0 = .slice a 0 c ∧ gk = 0 ∧ Below w.heap.size w wr))
  case atStart => exact Or.inl ⟨rfl, rfl, rfl⟩
  case round =>
    rcases hrel with ⟨rfl, hg, rfl⟩ | ⟨a, c, rfl, hg, hB⟩
    · go_wp2_with fail
      refine (hf _).mono ?_
      rintro e w2 ⟨rfl, hb2⟩
      go_wp2_with fail
      go_roundg 0
      case measure => omega
      case rel => exact Or.inr ⟨_, _, rfl, rfl, hb2⟩
    · go_wp2_with fail
      go_ret
      exact ⟨⟨_, _, rfl⟩, hB⟩
set_option maxRecDepth 100000 in
theorem longRow_any (t m k : Value) (ht : ∃ f, t = .func (.func f) #[] #[]) (hm : m = .nilFunc ∨ ∃ f, m = .func (.func f) #[] #[]) (hk : ∃ a n c, k = .slice a n c) (w : World) :
    Calls Tryz.prog 49 #[t, m, k] w fun e w' => e = .returned (.func (.func 91) #[] #[.pointer (some ⟨w.heap.size, 0, none⟩), .pointer (some ⟨w.heap.size + 1 + 1, 0, none⟩), .pointer (some ⟨w.heap.size + 1, 0, none⟩)]) ∧ w' = ((w.alloc (.cells #[t] 64)).alloc (.cells #[m] 46)).alloc (.cells #[k] 73) := by
  obtain ⟨f, rfl⟩ := ht
  obtain ⟨a, n, c, rfl⟩ := hk
  rcases hm with rfl | ⟨g, rfl⟩
  · go_enter Tryz.func49, Tryz.ntmps49
    go_wp2_with fail
    go_ret
    exact ⟨rfl, rfl⟩
  · go_enter Tryz.func49, Tryz.ntmps49
    go_wp2_with fail
    go_ret
    exact ⟨rfl, rfl⟩
/-- A long row's test in memory: text, kids, more. -/
structure Lr (w : World) (p1 p2 p3 : Nat) (t k m : Value) : Prop where
  t : w.cell? ⟨p1, 0, none⟩ = some t
  k : w.cell? ⟨p2, 0, none⟩ = some k
  m : w.cell? ⟨p3, 0, none⟩ = some m
theorem Lr.below {w w' : World} {p1 p2 p3 : Nat} {t k m : Value} (h : Lr w p1 p2 p3 t k m) (hb : Below w.heap.size w w') : Lr w' p1 p2 p3 t k m := ⟨cell_keep h.t hb, cell_keep h.k hb, cell_keep h.m hb⟩
set_option maxRecDepth 100000 in
theorem longRow_lr (t m k : Value) (ht : ∃ f, t = .func (.func f) #[] #[]) (hm : m = .nilFunc ∨ ∃ f, m = .func (.func f) #[] #[]) (hk : ∃ a n c, k = .slice a n c) (w : World) :
    Calls Tryz.prog 49 #[t, m, k] w fun e w' => ∃ p1 p2 p3, e = .returned (.func (.func 91) #[] #[.pointer (some ⟨p1, 0, none⟩), .pointer (some ⟨p2, 0, none⟩), .pointer (some ⟨p3, 0, none⟩)]) ∧ Lr w' p1 p2 p3 t k m ∧ Below w.heap.size w w' := by
  refine (longRow_any t m k ht hm hk w).mono ?_
  rintro e w' ⟨rfl, rfl⟩
  refine ⟨_, _, _, rfl, ⟨?_, ?_, ?_⟩, (((Below.refl _ w).alloc (Nat.le_refl _) _).alloc (by simp) _).alloc (by simp; omega) _⟩
  · rw [World.cell?_of_block (a := ⟨w.heap.size, 0, none⟩) (Below.heap_alloc _ _ _ (by simp; omega)), World.cell?_of_block (a := ⟨w.heap.size, 0, none⟩) (Below.heap_alloc _ _ _ (by simp))]
    exact World.cell?_alloc_at _ _ _ _ rfl
  · rw [World.cell?_alloc_at _ _ _ _ (by simp)]; rfl
  · rw [World.cell?_of_block (a := ⟨w.heap.size + 1, 0, none⟩) (Below.heap_alloc _ _ _ (by simp))]
    rw [World.cell?_alloc_at _ _ _ _ (by simp)]; rfl
set_option maxRecDepth 100000 in
/-- row: a test in memory. -/
theorem row_any (t k : Value) (ht : ∃ f, t = .func (.func f) #[] #[]) (hk : ∃ a n c, k = .slice a n c) (w : World) :
    Calls Tryz.prog 46 #[t, k] w fun e w' => ∃ q1 q2 p1 p2 p3, e = .returned (.func (.func 90) #[] #[.pointer (some ⟨q1, 0, none⟩), .pointer (some ⟨q2, 0, none⟩)]) ∧ w'.cell? ⟨q1, 0, none⟩ = some k ∧ w'.cell? ⟨q2, 0, none⟩ = some (.func (.func 91) #[] #[.pointer (some ⟨p1, 0, none⟩), .pointer (some ⟨p2, 0, none⟩), .pointer (some ⟨p3, 0, none⟩)]) ∧ Lr w' p1 p2 p3 t k .nilFunc ∧ Below w.heap.size w w' := by
  have C := fun V => longRow_lr t .nilFunc k ht (Or.inl rfl) hk V
  obtain ⟨f, rfl⟩ := ht
  obtain ⟨a, n, c, rfl⟩ := hk
  go_enter Tryz.func46, Tryz.ntmps46
  go_wp2_with fail
  refine (C _).mono ?_
  rintro e w2 ⟨p1, p2, p3, rfl, hL, hb⟩
  have hq : w2.cell? ⟨w.heap.size, 0, none⟩ = some (.slice a n c) := cell_keep (World.cell?_alloc_at _ _ _ _ rfl) hb
  have HB := Lib.hid (((Below.refl _ w).alloc (Nat.le_refl _) _).trans (hb.mono (by simp)))
  have HL := Lib.hid hL
  have HQ := Lib.hid hq
  clear hL hb C hq
  go_wp2_with fail
  go_ret
  have hal := (Below.refl _ w2).alloc (Nat.le_refl _) (.cells #[.func (.func 91) #[] #[.pointer (some ⟨p1, 0, none⟩), .pointer (some ⟨p2, 0, none⟩), .pointer (some ⟨p3, 0, none⟩)]] 46)
  exact ⟨_, _, p1, p2, p3, rfl, cell_keep HQ.out hal, World.cell?_alloc_at _ _ _ _ rfl, HL.out.below hal, HB.out.trans (hal.mono HB.out.size)⟩
/-- What the region of a long row's test reads. -/
abbrev L14 (g : Nat) (kv : Value) (p2 p3 : Nat) (k m : Value) (V : World) : Prop := V.cell? ⟨g, 5, none⟩ = some kv ∧ V.cell? ⟨p2, 0, none⟩ = some k ∧ V.cell? ⟨p3, 0, none⟩ = some m
theorem L14.keep {V V' : World} {g p2 p3 : Nat} {kv k m : Value} (h : L14 g kv p2 p3 k m V) (hb : Below V.heap.size V V') : L14 g kv p2 p3 k m V' := ⟨cell_keep h.1 hb, cell_keep h.2.1 hb, cell_keep h.2.2 hb⟩
set_option maxRecDepth 100000 in
set_option maxHeartbeats 2000000 in
/-- A row of one kid: its test. -/
theorem lr_one (xk xa : Int) (b o pk : Nat) (y : Nv) (p1 p2 p3 f : Nat) (w : World) (hA : At w b o y) (hL : Lr w p1 p2 p3 (.func (.func 47) #[] #[]) (.slice (some ⟨pk, 0, none⟩) 1 1) .nilFunc) (hf0 : w.cell? ⟨pk, 0, none⟩ = some (.func (.func f) #[] #[]))
    (eg : ∀ args w, (callFunc f args).run Tryz.prog w = .ok (.enter f args) w) (hf : ∀ V, Calls Tryz.prog f #[y.v] V fun e w' => e = .returned (.bool true) ∧ Below V.heap.size V w') :
    Calls Tryz.prog 91 #[.agg #[.int .i64 xk, .int .i64 xa, .string ⟨#[]⟩, .bool false, .slice none 0 0, .slice (some ⟨b, o, none⟩) 1 1], .pointer (some ⟨p1, 0, none⟩), .pointer (some ⟨p2, 0, none⟩), .pointer (some ⟨p3, 0, none⟩)] w fun e w' => e = .returned (.bool true) ∧ Below w.heap.size w w' := by
  obtain ⟨W, hW⟩ : ∃ W, w.alloc (.cells #[.int .i64 xk, .int .i64 xa, .string ⟨#[]⟩, .bool false, .slice none 0 0, .slice (some ⟨b, o, none⟩) 1 1] 27) = W := ⟨_, rfl⟩
  have hbW : Below w.heap.size w W := by rw [← hW]; exact (Below.refl _ w).alloc (Nat.le_refl _) _
  have hx : At W w.heap.size 0 ⟨xk, xa, ⟨#[]⟩, false, .slice none 0 0, .slice (some ⟨b, o, none⟩) 1 1⟩ := by rw [← hW]; exact ⟨World.cell?_alloc_at _ _ _ _ rfl, World.cell?_alloc_at _ _ _ _ rfl, World.cell?_alloc_at _ _ _ _ rfl, World.cell?_alloc_at _ _ _ _ rfl, World.cell?_alloc_at _ _ _ _ rfl, World.cell?_alloc_at _ _ _ _ rfl⟩
  have hL1 := hL.below hbW
  obtain ⟨t1, t2, t3⟩ := hL1
  have C1 := noText_e W
  have C2 := noNum_e xk xa ⟨#[]⟩ (.slice (some ⟨b, o, none⟩) 1 1) W
  obtain ⟨x0, x1, x2, x3, x4, x5⟩ := hx
  simp only [Nat.zero_add] at x1 x2 x3 x4 x5
  have HBW := Lib.hid hbW
  have HL := Lib.hid hL
  have HA := Lib.hid hA
  have HF0 := Lib.hid hf0
  have HX5 := Lib.hid x5
  simp only [Nv.v] at hf
  clear hbW hL hA hf0
  go_enter Tryz.func91, Tryz.ntmps91
  go_wp2_with (first | (go_at_call 47; refine C1.mono ?_; rintro e w1 ⟨rfl, hw1⟩; rw [hw1]))
  refine C2.mono ?_
  rintro e w2 ⟨rfl, hb2⟩
  have t1 := cell_keep t1 hb2
  have t2 := cell_keep t2 hb2
  have t3 := cell_keep t3 hb2
  have x5 := cell_keep x5 hb2
  have hbw : Below w.heap.size w w2 := HBW.out.trans (hb2.mono HBW.out.size)
  have hA2 := HA.out.same (hbw.block b HA.out.lt)
  have hf2 := cell_keep HF0.out hbw
  obtain ⟨y0, y1, y2, y3, y4, y5⟩ := hA2
  have HB2 := Lib.hid hbw
  clear C1 C2 hb2 hbw x0 x1 x2 x3 x4
  go_wp2_with fail
  go_loopg [28] 1 (fun gk v28 wr => (v28 = .int .i64 0 ∧ gk = 1 ∧ wr = w2) ∨ (v28 = .int .i64 1 ∧ gk = 0 ∧ Below w2.heap.size w2 wr))
  case atStart => exact Or.inl ⟨rfl, rfl, rfl⟩
  case round =>
    rcases hrel with ⟨rfl, hg, rfl⟩ | ⟨rfl, hg, hB⟩
    · go_wp2_with fail
      refine (hf _).mono ?_
      rintro e w3 ⟨rfl, hb3⟩
      go_wp2_with fail
      go_roundg 0
      case measure => omega
      case rel => exact Or.inr ⟨rfl, rfl, hb3⟩
    · have HB := Lib.hid hB
      have hS : L14 w.heap.size (.slice (some ⟨b, o, none⟩) 1 1) p2 p3 (.slice (some ⟨pk, 0, none⟩) 1 1) .nilFunc wr := ⟨cell_keep x5 hB, cell_keep t2 hB, cell_keep t3 hB⟩
      have C3 := fun a c V => passOver_0 a c .nilFunc V
      clear hB x5 t1 t2 t3 hf2 y0 y1 y2 y3 y4 y5 hf
      go_wp2_with fail
      go_region_held3 (fun V => V.cell? ⟨w.heap.size, 5, none⟩ = some (.slice (some ⟨b, o, none⟩) 1 1) ∧ V.cell? ⟨p2, 0, none⟩ = some (.slice (some ⟨pk, 0, none⟩) 1 1) ∧ V.cell? ⟨p3, 0, none⟩ = some .nilFunc)
        (first | with_reducible exact hS | with_reducible exact L14.keep hS (Below.refl _ _).drew | assumption | fail)
        (first | (go_at_call 93; refine (C3 _ _ _).mono ?_; rintro e w4 ⟨rfl, hw4⟩; rw [hw4]) | fail)
      go_wp2_with fail
      go_ret
      exact ⟨rfl, HB2.out.trans ((HB.out.mono HB2.out.size).drew)⟩
set_option maxRecDepth 100000 in
set_option maxHeartbeats 2000000 in
/-- A long row of one kid: its test. -/
theorem lr_more (xk xa : Int) (b o : Nat) (y : Nv) (p1 p2 p3 f : Nat) (w : World) (hA : At w b o y) (hL : Lr w p1 p2 p3 (.func (.func 47) #[] #[]) (.slice none 0 0) (.func (.func f) #[] #[]))
    (eg : ∀ args w, (callFunc f args).run Tryz.prog w = .ok (.enter f args) w) (hf : ∀ V, Calls Tryz.prog f #[y.v] V fun e w' => e = .returned (.bool true) ∧ Below V.heap.size V w') :
    Calls Tryz.prog 91 #[.agg #[.int .i64 xk, .int .i64 xa, .string ⟨#[]⟩, .bool false, .slice none 0 0, .slice (some ⟨b, o, none⟩) 1 1], .pointer (some ⟨p1, 0, none⟩), .pointer (some ⟨p2, 0, none⟩), .pointer (some ⟨p3, 0, none⟩)] w fun e w' => e = .returned (.bool true) ∧ Below w.heap.size w w' := by
  obtain ⟨W, hW⟩ : ∃ W, w.alloc (.cells #[.int .i64 xk, .int .i64 xa, .string ⟨#[]⟩, .bool false, .slice none 0 0, .slice (some ⟨b, o, none⟩) 1 1] 27) = W := ⟨_, rfl⟩
  have hbW : Below w.heap.size w W := by rw [← hW]; exact (Below.refl _ w).alloc (Nat.le_refl _) _
  have hx : At W w.heap.size 0 ⟨xk, xa, ⟨#[]⟩, false, .slice none 0 0, .slice (some ⟨b, o, none⟩) 1 1⟩ := by rw [← hW]; exact ⟨World.cell?_alloc_at _ _ _ _ rfl, World.cell?_alloc_at _ _ _ _ rfl, World.cell?_alloc_at _ _ _ _ rfl, World.cell?_alloc_at _ _ _ _ rfl, World.cell?_alloc_at _ _ _ _ rfl, World.cell?_alloc_at _ _ _ _ rfl⟩
  have hL1 := hL.below hbW
  obtain ⟨t1, t2, t3⟩ := hL1
  have C1 := noText_e W
  have C2 := noNum_e xk xa ⟨#[]⟩ (.slice (some ⟨b, o, none⟩) 1 1) W
  obtain ⟨x0, x1, x2, x3, x4, x5⟩ := hx
  simp only [Nat.zero_add] at x1 x2 x3 x4 x5
  have HBW := Lib.hid hbW
  have HL := Lib.hid hL
  have HA := Lib.hid hA
  have HX5 := Lib.hid x5
  simp only [Nv.v] at hf
  clear hbW hL hA
  go_enter Tryz.func91, Tryz.ntmps91
  go_wp2_with (first | (go_at_call 47; refine C1.mono ?_; rintro e w1 ⟨rfl, hw1⟩; rw [hw1]))
  refine C2.mono ?_
  rintro e w2 ⟨rfl, hb2⟩
  have t1 := cell_keep t1 hb2
  have t2 := cell_keep t2 hb2
  have t3 := cell_keep t3 hb2
  have x5 := cell_keep x5 hb2
  have hbw : Below w.heap.size w w2 := HBW.out.trans (hb2.mono HBW.out.size)
  have hA2 := HA.out.same (hbw.block b HA.out.lt)
  obtain ⟨y0, y1, y2, y3, y4, y5⟩ := hA2
  have HB2 := Lib.hid hbw
  clear C1 C2 hb2 hbw x0 x1 x2 x3 x4
  go_wp2_with fail
  go_loopg [28] 0 (fun gk v28 wr => v28 = .int .i64 0 ∧ wr = w2)
  case atStart => exact ⟨rfl, rfl⟩
  case round =>
    obtain ⟨rfl, rfl⟩ := hrel
    have hS : L14 w.heap.size (.slice (some ⟨b, o, none⟩) 1 1) p2 p3 (.slice none 0 0) (.func (.func f) #[] #[]) wr := ⟨x5, t2, t3⟩
    have hA3 : Hid (At wr b o y) := ⟨y0, y1, y2, y3, y4, y5⟩
    have C3 := fun V (h : Below wr.heap.size wr V) => passOver_1 b o y f V (hA3.out.same (h.block b hA3.out.lt)) eg (by simp only [Nv.v]; exact hf)
    clear x5 t1 t2 t3 y0 y1 y2 y3 y4 y5 hf
    go_wp2_with fail
    go_region_held3 (fun V => V.cell? ⟨w.heap.size, 5, none⟩ = some (.slice (some ⟨b, o, none⟩) 1 1) ∧ V.cell? ⟨p2, 0, none⟩ = some (.slice none 0 0) ∧ V.cell? ⟨p3, 0, none⟩ = some (.func (.func f) #[] #[]))
      (first | with_reducible exact hS | with_reducible exact hS4 | with_reducible exact L14.keep hS (Below.refl _ _).drew | fail)
      (first | (go_at_call 93; refine (C3 _ (by first | exact (Below.refl _ _).drew | exact Below.refl _ _)).mono ?_; rintro e w4 ⟨⟨a4, c4, rfl⟩, hb4⟩; have hw4 : Below wr.heap.size wr w4 := (by first | exact hb4 | exact ((Below.refl _ wr).drew).trans hb4); have hS4 := L14.keep hS hw4) | fail)
    have HB4 := Lib.hid hw4
    clear hS hS4 hw4 hb4 C3
    go_wp2_with fail
    go_ret
    exact ⟨rfl, HB2.out.trans (HB4.out.mono HB2.out.size)⟩
set_option maxRecDepth 100000 in
set_option maxHeartbeats 2000000 in
/-- A row of none: a name's test. -/
theorem lr_name (xk xa : Int) (p1 p2 p3 : Nat) (w : World) (hL : Lr w p1 p2 p3 (.func (.func 61) #[] #[]) (.slice none 0 0) .nilFunc) :
    Calls Tryz.prog 91 #[.agg #[.int .i64 xk, .int .i64 xa, .string ⟨#[97]⟩, .bool false, .slice none 0 0, .slice none 0 0], .pointer (some ⟨p1, 0, none⟩), .pointer (some ⟨p2, 0, none⟩), .pointer (some ⟨p3, 0, none⟩)] w fun e w' => e = .returned (.bool true) ∧ Below w.heap.size w w' := by
  obtain ⟨W, hW⟩ : ∃ W, w.alloc (.cells #[.int .i64 xk, .int .i64 xa, .string ⟨#[97]⟩, .bool false, .slice none 0 0, .slice none 0 0] 27) = W := ⟨_, rfl⟩
  have hbW : Below w.heap.size w W := by rw [← hW]; exact (Below.refl _ w).alloc (Nat.le_refl _) _
  have hx : At W w.heap.size 0 ⟨xk, xa, ⟨#[97]⟩, false, .slice none 0 0, .slice none 0 0⟩ := by rw [← hW]; exact ⟨World.cell?_alloc_at _ _ _ _ rfl, World.cell?_alloc_at _ _ _ _ rfl, World.cell?_alloc_at _ _ _ _ rfl, World.cell?_alloc_at _ _ _ _ rfl, World.cell?_alloc_at _ _ _ _ rfl, World.cell?_alloc_at _ _ _ _ rfl⟩
  have hL1 := hL.below hbW
  obtain ⟨t1, t2, t3⟩ := hL1
  have C1 := isName_a W
  have C2 := noNum_e xk xa ⟨#[97]⟩ (.slice none 0 0) W
  obtain ⟨x0, x1, x2, x3, x4, x5⟩ := hx
  simp only [Nat.zero_add] at x1 x2 x3 x4 x5
  have HBW := Lib.hid hbW
  have HL := Lib.hid hL
  have HX5 := Lib.hid x5
  clear hbW hL
  go_enter Tryz.func91, Tryz.ntmps91
  go_wp2_with (first | (go_at_call 61; refine C1.mono ?_; rintro e w1 ⟨rfl, hw1⟩; rw [hw1]))
  refine C2.mono ?_
  rintro e w2 ⟨rfl, hb2⟩
  have t1 := cell_keep t1 hb2
  have t2 := cell_keep t2 hb2
  have t3 := cell_keep t3 hb2
  have x5 := cell_keep x5 hb2
  have hbw : Below w.heap.size w w2 := HBW.out.trans (hb2.mono HBW.out.size)
  have HB2 := Lib.hid hbw
  clear C1 C2 hb2 hbw x0 x1 x2 x3 x4
  go_wp2_with fail
  go_loopg [28] 0 (fun gk v28 wr => v28 = .int .i64 0 ∧ wr = w2)
  case atStart => exact ⟨rfl, rfl⟩
  case round =>
    obtain ⟨rfl, rfl⟩ := hrel
    have hS : L14 w.heap.size (.slice none 0 0) p2 p3 (.slice none 0 0) .nilFunc wr := ⟨x5, t2, t3⟩
    have C3 := fun a c V => passOver_0 a c .nilFunc V
    clear x5 t1 t2 t3
    go_wp2_with fail
    go_region_held3 (fun V => V.cell? ⟨w.heap.size, 5, none⟩ = some (.slice none 0 0) ∧ V.cell? ⟨p2, 0, none⟩ = some (.slice none 0 0) ∧ V.cell? ⟨p3, 0, none⟩ = some .nilFunc)
      (first | with_reducible exact hS | with_reducible exact L14.keep hS (Below.refl _ _).drew | assumption | fail)
      (first | (go_at_call 93; refine (C3 _ _ _).mono ?_; rintro e w4 ⟨rfl, hw4⟩; rw [hw4]) | fail)
    clear hS C3
    go_wp2_with fail
    go_ret
    exact ⟨rfl, HB2.out.drew⟩
end Nd
end Go.Proofs.YtfcgogpnbmikmaaGreatDoor
