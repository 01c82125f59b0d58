/-
  The law's alike.
  The law's begun; what its plays leave.
-/
import Derived.Test.YtcbhpjpkjmlcnaaGreatGxar
import Derived.Test.YtcbhpjpkjmlcnaaGreatGxap
import Derived.Test.YtcbhpjpkjmlcnaaGreatGxan
import Derived.Test.YtcbhpjpkjmlcnaaGreatGxaq
import Derived.Test.YtcbhpjpkjmlcnaaGreatGxai
namespace Go.Proofs.YtcbhpjpkjmlcnaaGreat
open Go.RowKit Go.WideShapes

theorem own_cell {w : World} {s f : Nat} {mr : Value} {v : Nat} {X : Nat → Prop} {st : Stn} (h : Qs w s f mr v X st) :
    ∃ ov, (∀ V, Below w.heap.size w V → V.cell? ⟨s, 2, none⟩ = some ov ∧ V.cell? ⟨s, 3, none⟩ = some (.int .i64 (v : Int))) ∧ ((ov = .pointer none ∧ isRow st = true) ∨ ∃ g, ov = .pointer (some ⟨g, 0, none⟩) ∧ isRow st = false) := by
  cases st with
  | row vs =>
    obtain ⟨vv, h1, h2, h3, rfl⟩ := h
    exact ⟨_, fun V hb => ⟨(h1.of hb (by omega)).c 2 (by omega), (h1.of hb (by omega)).c 3 (by omega)⟩, .inl ⟨rfl, rfl⟩⟩
  | own t =>
    obtain ⟨g, ev, q, h1, h2, h3, rfl⟩ := h
    exact ⟨_, fun V hb => ⟨(h1.of hb (by omega)).c 2 (by omega), (h1.of hb (by omega)).c 3 (by omega)⟩, .inr ⟨g, rfl, rfl⟩⟩
set_option maxRecDepth 100000 in
set_option maxHeartbeats 8000000 in
theorem alike10_any {w : World} {X : Nat} {S : S10} {mv mr : Value} {N : Int → Int → Int → Int → World → Prop} {a b c d : Int} {c0 : Nat} (hP : P10 w X S mv mr N a b c d c0) (hc0 : c0 ≤ 400) {k : Nat} (hk : k < S.n) :
    Calls Tryz.prog 11 #[.pointer (some ⟨X, 0, none⟩), .int .i64 (k : Int)] w fun e w' => e = .returned (.bool true) ∧ Below w.heap.size w w' := by
  obtain ⟨gs, cs, es, hgs⟩ := row_has hP.rs (by omega)
  obtain ⟨gk, ck, ek, hgk⟩ := row_has hP.rk (by omega)
  obtain ⟨⟨x2, x3⟩, y2, y3⟩ := hP.rw.at es ek hk
  have t1 : (k : Int) < (S.n : Int) := by omega
  obtain ⟨hsm, hqs, hok, hver⟩ := hP.sp k hk
  obtain ⟨Pp, P1, P2⟩ := pairs10 hP hc0 hk
  obtain ⟨Ps, G1, G2⟩ := sights10 hP hk
  obtain ⟨ov, HOV, hoe⟩ := own_cell hqs
  have hb0 : Below w.heap.size w w.drew := (Below.refl _ w).drew
  have hsm0 : Sm w.drew (S.sp k).s S.f mv (S.sp k).v (S.sp k).XS (S.sp k).st := hsm.same fun _ _ => rfl
  have hqs0 : Qs w.drew (S.sp k).s2 S.f2 mr (S.sp k).v (S.sp k).XR (S.sp k).st := hqs.same fun _ _ => rfl
  have C1 := slen_any hsm0
  have C2 := rslen_any hqs0
  have C3 := version10_any hsm0 (by omega)
  have C4 := shared_any hsm0
  have C5 := P1 w.drew hb0
  have s0 := HOV w.drew hb0
  have HB0 := Lib.hid hb0
  have HP2 := Lib.hid P2
  have HG1 := Lib.hid G1
  have HG2 := Lib.hid G2
  have HS := Lib.hid HOV
  have e1 : ((lenS (S.sp k).st : Int) == (lenS (S.sp k).st : Int)) = true := by simp
  have e2 : (((S.sp k).v : Int) == ((S.sp k).v : Int)) = true := by simp
  have e3 : (isRow (S.sp k).st == isRow (S.sp k).st) = true := by simp
  clear hP hsm hqs hok P1 P2 G1 G2 HOV hb0 hsm0 hqs0 es ek hgs hgk
  generalize (S.sp k).s = s at *
  generalize (S.sp k).s2 = s2 at *
  generalize lenS (S.sp k).st = ln at *
  generalize (S.sp k).v = vv at *
  generalize isRow (S.sp k).st = ir at *
  clear e3
  rcases hoe with ⟨rfl, rfl⟩ | ⟨g, rfl, rfl⟩
  case inl =>
    have q1 := eqQ7n
    go_enter Tryz.func11, Tryz.ntmps11
    go_upto_region 3 with fail
    clear x2 x3 y2 y3
    go_region_held3 (fun V => V.cell? ⟨s2, 2, none⟩ = some (.pointer none) ∧ V.cell? ⟨s2, 3, none⟩ = some (.int .i64 (vv : Int))) (first | with_reducible exact s0 | with_reducible exact s2' | with_reducible exact s3 | with_reducible exact s4 | with_reducible exact s5 | with_reducible exact s6 | with_reducible exact s7 | fail)
      (first
        | (go_at_call 34; refine C1.mono ?_; rintro e v1 ⟨rfl, rfl⟩)
        | (go_at_call 35; refine C2.mono ?_; rintro e v1 ⟨rfl, rfl⟩)
        | (go_at_call 36; refine C3.mono ?_; rintro e v1 ⟨rfl, rfl⟩)
        | (go_at_call 23; refine C4.mono ?_; rintro e v1 ⟨rfl, rfl⟩)
        | (go_at_call 38; refine C5.mono ?_; rintro e w2 ⟨v2, rfl, hp2, hb2⟩; have hB2 := HB0.out.trans (hb2.mono HB0.out.size); have s2' := HS.out w2 hB2; have C6 := HP2.out w2 hB2; have HB2 := Lib.hid hB2; have HPP := Lib.hid hp2; clear hb2 hB2 hp2)
        | (go_at_call 39; refine C6.mono ?_; rintro e w3 ⟨v3, rfl, hb3, hcmp⟩; have C7 := hcmp v2 HPP.out; have hB3 := HB2.out.trans (hb3.mono HB2.out.size); have s3 := HS.out w3 hB3; have HB3 := Lib.hid hB3; clear hb3 hB3 hcmp)
        | (go_at_call 37; refine C7.mono ?_; rintro e w4 ⟨rfl, hb4⟩; have hB4 := HB3.out.trans (hb4.mono HB3.out.size); have s4 := HS.out w4 hB4; have C8 := HG1.out w4 hB4; have HB4 := Lib.hid hB4; clear hb4 hB4)
        | (go_at_call 40; refine C8.mono ?_; rintro e w5 ⟨v5, rfl, hg5, hb5⟩; have hB5 := HB4.out.trans (hb5.mono HB4.out.size); have s5 := HS.out w5 hB5; have C9 := HG2.out w5 hB5; have HG5 := Lib.hid hg5; have HB5 := Lib.hid hB5; clear hb5 hB5 hg5)
        | (go_at_call 41; refine C9.mono ?_; rintro e w6 ⟨v6, rfl, hb6, hcmp⟩; have C10 := hcmp v5 HG5.out; have hB6 := HB5.out.trans (hb6.mono HB5.out.size); have s6 := HS.out w6 hB6; have HB6 := Lib.hid hB6; clear hb6 hB6 hcmp)
        | (go_at_call 16; refine C10.mono ?_; rintro e w7 ⟨rfl, hb7⟩; have hB7 := HB6.out.trans (hb7.mono HB6.out.size); have s7 := HS.out w7 hB7; have HB7 := Lib.hid hB7; clear hb7 hB7)
        | fail)
    go_wp2_with fail
    go_ret
    exact ⟨rfl, HB7.out⟩
  case inr =>
    have q1 := eqQ7 g
    go_enter Tryz.func11, Tryz.ntmps11
    go_upto_region 3 with fail
    clear x2 x3 y2 y3
    go_region_held3 (fun V => V.cell? ⟨s2, 2, none⟩ = some (.pointer (some ⟨g, 0, none⟩)) ∧ V.cell? ⟨s2, 3, none⟩ = some (.int .i64 (vv : Int))) (first | with_reducible exact s0 | with_reducible exact s2' | with_reducible exact s3 | with_reducible exact s4 | with_reducible exact s5 | with_reducible exact s6 | with_reducible exact s7 | fail)
      (first
        | (go_at_call 34; refine C1.mono ?_; rintro e v1 ⟨rfl, rfl⟩)
        | (go_at_call 35; refine C2.mono ?_; rintro e v1 ⟨rfl, rfl⟩)
        | (go_at_call 36; refine C3.mono ?_; rintro e v1 ⟨rfl, rfl⟩)
        | (go_at_call 23; refine C4.mono ?_; rintro e v1 ⟨rfl, rfl⟩)
        | (go_at_call 38; refine C5.mono ?_; rintro e w2 ⟨v2, rfl, hp2, hb2⟩; have hB2 := HB0.out.trans (hb2.mono HB0.out.size); have s2' := HS.out w2 hB2; have C6 := HP2.out w2 hB2; have HB2 := Lib.hid hB2; have HPP := Lib.hid hp2; clear hb2 hB2 hp2)
        | (go_at_call 39; refine C6.mono ?_; rintro e w3 ⟨v3, rfl, hb3, hcmp⟩; have C7 := hcmp v2 HPP.out; have hB3 := HB2.out.trans (hb3.mono HB2.out.size); have s3 := HS.out w3 hB3; have HB3 := Lib.hid hB3; clear hb3 hB3 hcmp)
        | (go_at_call 37; refine C7.mono ?_; rintro e w4 ⟨rfl, hb4⟩; have hB4 := HB3.out.trans (hb4.mono HB3.out.size); have s4 := HS.out w4 hB4; have C8 := HG1.out w4 hB4; have HB4 := Lib.hid hB4; clear hb4 hB4)
        | (go_at_call 40; refine C8.mono ?_; rintro e w5 ⟨v5, rfl, hg5, hb5⟩; have hB5 := HB4.out.trans (hb5.mono HB4.out.size); have s5 := HS.out w5 hB5; have C9 := HG2.out w5 hB5; have HG5 := Lib.hid hg5; have HB5 := Lib.hid hB5; clear hb5 hB5 hg5)
        | (go_at_call 41; refine C9.mono ?_; rintro e w6 ⟨v6, rfl, hb6, hcmp⟩; have C10 := hcmp v5 HG5.out; have hB6 := HB5.out.trans (hb6.mono HB5.out.size); have s6 := HS.out w6 hB6; have HB6 := Lib.hid hB6; clear hb6 hB6 hcmp)
        | (go_at_call 16; refine C10.mono ?_; rintro e w7 ⟨rfl, hb7⟩; have hB7 := HB6.out.trans (hb7.mono HB6.out.size); have s7 := HS.out w7 hB7; have HB7 := Lib.hid hB7; clear hb7 hB7)
        | fail)
    go_wp2_with fail
    go_ret
    exact ⟨rfl, HB7.out⟩
end Go.Proofs.YtcbhpjpkjmlcnaaGreat
namespace Go.Proofs.YtcbhpjpkjmlcnaaGreat
open Go.RowKit Go.WideShapes

theorem does10_any {w : World} {X : Nat} {S : S10} {pm pr : Option Addr} {N : Int → Int → Int → Int → World → Prop} {a b c d : Int} {c0 : Nat} (hP : P10 w X S (.pointer pm) (.pointer pr) N a b c d c0) (hM4 : M4 (.pointer pm) N) (hn : 0 < S.n) (hc0 : c0 ≤ 400) (kk s : Int) {nm : ByteArray} (hs : nm.size ≤ 3000) (x : Int) :
    Calls Tryz.prog 10 #[.pointer (some ⟨X, 0, none⟩), .agg #[.int .i64 kk, .int .i64 s, .string nm, .int .i64 x]] w fun e w' => e = .returned (.bool true) ∧ ∃ S' a' b' c' d', D10 w X S (.pointer pm) (.pointer pr) N (c0 + 1) S' a' b' c' d' w' := by
  by_cases h : 1 ≤ kk ∧ kk ≤ 4
  · rcases (by omega : kk = 1 ∨ kk = 2 ∨ kk = 3 ∨ kk = 4) with rfl | rfl | rfl | rfl
    · exact does10_set hP hM4 hn hc0 s hs x
    · exact does10_get hP hM4 hn hc0 s hs x
    · exact does10_del hP hM4 hn hc0 s hs x
    · exact does10_more hP hM4 hn s x
  · exact does10_none hP hM4 hn kk s x h
/-- What plays leaves. -/
structure Py10 (w : World) (X : Nat) (S : S10) (mv mr : Value) (N : Int → Int → Int → Int → World → Prop) (a b c d : Int) (c0 : Nat) (w' : World) : Prop where
  p : P10 w' X S mv mr N a b c d c0
  n : 0 < S.n
  fx : ∀ k, S.all X k → w.heap.size ≤ k
  ex : Ex (fun k => mB mv k ∨ mB mr k) w w'
theorem Py10.step {w w1 w2 : World} {X : Nat} {S S' : S10} {mv mr : Value} {N : Int → Int → Int → Int → World → Prop} {a b c d a' b' c' d' : Int} {c0 c1 : Nat} (h : Py10 w X S mv mr N a b c d c0 w1) (D : D10 w1 X S mv mr N c1 S' a' b' c' d' w2) : Py10 w X S' mv mr N a' b' c' d' c1 w2 :=
  ⟨D.p, Nat.lt_of_lt_of_le h.n D.nn, fun k hk => (D.fx k hk).elim (h.fx k) (fun x => Nat.le_trans h.ex.size x), h.ex.next D.ex (fun k hl hk => by
    rcases hk with y | y
    · have := h.fx k y; omega
    · exact y)⟩
theorem Py10.below {w w1 w2 : World} {X : Nat} {S : S10} {mv mr : Value} {N : Int → Int → Int → Int → World → Prop} {a b c d : Int} {c0 : Nat} (h : Py10 w X S mv mr N a b c d c0 w1) (hM4 : M4 mv N) (hb : Below w1.heap.size w1 w2) : Py10 w X S mv mr N a b c d c0 w2 :=
  ⟨h.p.below hM4 hb, h.n, h.fx, h.ex.next (ex_of (X := fun _ => False) hb) (fun _ _ x => x.elim)⟩
def ini10 (f f2 : Nat) (F : Fa) (XF XG : Nat → Prop) : S10 := ⟨f, f2, F, XF, XG, 0, fun _ => ⟨0, 0, 0, .row [], fun _ => False, fun _ => False⟩, .slice none 0 0, .slice none 0 0⟩
theorem p10_new {w w1 w2 w3 : World} {pm pr : Option Addr} {N : Int → Int → Int → Int → World → Prop} {room most : Nat} (hr : room ≤ 256) (hm : most ≤ 65536) (hM4 : M4 (.pointer pm) N) (hlr : ∀ k, mB (.pointer pr) k → k < w.heap.size) (hlm : ∀ k, mB (.pointer pm) k → k < w.heap.size) (hpp : ∀ k, mB (.pointer pm) k → mB (.pointer pr) k → False) {f f2 : Nat} {XF XG : Nat → Prop}
    (hF : FamX w1 f ⟨[], Tb.new, room, most⟩ (.pointer pm) XF) (hXF : ∀ k, XF k → w.heap.size ≤ k) (hM : N 1 0 0 0 w1) (x1 : Ex (mB (.pointer pm)) w w1)
    (hG : QfX w2 f2 ⟨[], Tb.new, room, most⟩ (.pointer pr) XG) (hXG : ∀ k, XG k → w1.heap.size ≤ k) (hms : Ms w2 (.pointer pr) 1 0 0 0) (x2 : Ex (mB (.pointer pr)) w1 w2) (hb : Below w2.heap.size w2 w3) (hX : Blk w3 w2.heap.size 4 (x10F (ini10 f f2 ⟨[], Tb.new, room, most⟩ XF XG))) :
    P10 w3 w2.heap.size (ini10 f f2 ⟨[], Tb.new, room, most⟩ XF XG) (.pointer pm) (.pointer pr) N 1 0 0 0 0 ∧ (∀ k, (ini10 f f2 ⟨[], Tb.new, room, most⟩ XF XG).all w2.heap.size k → w.heap.size ≤ k) ∧ Ex (fun k => mB (.pointer pm) k ∨ mB (.pointer pr) k) w w3 := by
  have s1 := x1.size
  have s2 := x2.size
  have s3 := hb.size
  have lX := hX.lt (by omega)
  have hlF := hF.lt
  have hlG := hG.lt
  have hF2 : FamX w2 f ⟨[], Tb.new, room, most⟩ (.pointer pm) XF := hF.same fun k hk => x2.block k (hlF k hk) (fun e => by have := hlr k e; have := hXF k hk; omega)
  have hM2 : N 1 0 0 0 w2 := (hM4.mt 0 0).same _ _ _ _ hM fun k hk => x2.block k (by have := hlm k hk; omega) (fun e => hpp k hk e)
  refine ⟨⟨hX, ⟨rfl, .inl ⟨rfl, rfl⟩⟩, ⟨rfl, .inl ⟨rfl, rfl⟩⟩, Nat.zero_le _, hF2.same fun k hk => hb.block k (by have := hlF k hk; omega), hG.same fun k hk => hb.block k (hlG k hk), fun i hi => absurd hi (Nat.not_lt_zero _), fa_new hsT hr hm, (hM4.mt 0 0).same _ _ _ _ hM2 fun k hk => hb.block k (by have := hlm k hk; omega), hms.same fun k hk => hb.block k (by have := hlr k hk; omega), ⟨by omega, by omega, by omega, by omega⟩, ?_⟩, ?_, ?_⟩
  · refine ⟨fun k => if k = w2.heap.size then 0 else if w1.heap.size ≤ k then 6 else if w.heap.size ≤ k then 5 else @ite Nat (mB (.pointer pm) k) (Classical.propDecidable _) 1 2, ⟨if_pos rfl, lX⟩, fun k y => ?_, fun k y => ?_, fun k y => ?_, fun k y => ?_, fun k y => ?_, fun k y => ?_, fun i hi => absurd hi (Nat.not_lt_zero _), fun i hi => absurd hi (Nat.not_lt_zero _)⟩
    · have := hlm k y
      show (if k = w2.heap.size then 0 else _) = 1 ∧ _
      rw [if_neg (by omega), if_neg (by omega), if_neg (by omega)]
      exact ⟨if_pos y, by omega⟩
    · have := hlr k y
      show (if k = w2.heap.size then 0 else _) = 2 ∧ _
      rw [if_neg (by omega), if_neg (by omega), if_neg (by omega)]
      exact ⟨if_neg (fun z => hpp k z y), by omega⟩
    · cases y
    · cases y
    · have g1 := hXF k y
      have g2 := hlF k y
      show (if k = w2.heap.size then 0 else _) = 5 ∧ _
      rw [if_neg (by omega), if_neg (by omega), if_pos (by omega)]
      exact ⟨rfl, by omega⟩
    · have g1 := hXG k y
      have g2 := hlG k y
      show (if k = w2.heap.size then 0 else _) = 6 ∧ _
      rw [if_neg (by omega), if_pos (by omega)]
      exact ⟨rfl, by omega⟩
  · rintro k (rfl | y | y | y | y | ⟨i, hi, _⟩)
    · omega
    · cases y
    · cases y
    · exact hXF k y
    · have := hXG k y; omega
    · exact absurd hi (Nat.not_lt_zero _)
  · exact ((x1.mono (fun _ _ h => .inl h)).next x2 (fun _ _ h => .inr h)).next (ex_of (X := fun _ => False) hb) (fun _ _ x => x.elim)
set_option maxRecDepth 100000 in
set_option maxHeartbeats 8000000 in
theorem begun10_any {w : World} {pm pr : Option Addr} {N : Int → Int → Int → Int → World → Prop} (hM4 : M4 (.pointer pm) N) (hM : N 0 0 0 0 w) (hms : Ms w (.pointer pr) 0 0 0 0) (hpp : ∀ k, mB (.pointer pm) k → mB (.pointer pr) k → False) (room most : Nat) (hr : room ≤ 256) (hm : most ≤ 65536) :
    Calls Tryz.prog 9 #[.int .i64 (room : Int), .int .i64 (most : Int), .pointer pm, .pointer pr] w fun e w' => ∃ X S, e = .returned (.tuple #[.pointer (some ⟨X, 0, none⟩), .bool true]) ∧ Py10 w X S (.pointer pm) (.pointer pr) N 1 0 0 0 0 w' := by
  have C1 := shnew_any hM4 hM (by omega : (0 : Int) ≤ 0 ∧ (0 : Int) ≤ 100000000) room most hr hm
  have hlm : ∀ k, mB (.pointer pm) k → k < w.heap.size := fun k hk => (hM4.mt 0 0).lt 0 0 w k hM hk
  have hlr := hms.lt
  have HM4 := Lib.hid hM4
  have HMS := Lib.hid hms
  have HPP := Lib.hid hpp
  have HLM := Lib.hid hlm
  have HLR := Lib.hid hlr
  clear hM4 hM hms hpp hlm hlr
  go_enter Tryz.func9, Tryz.ntmps9
  go_wp2_with fail
  refine C1.mono ?_
  rintro e w1 ⟨f, XF, rfl, hF, hXF, hM1, x1⟩
  clear C1
  have C2 := rsh_any (HMS.out.same (w' := w1) fun k hk => x1.block k (HLR.out k hk) (fun x => HPP.out k x hk)) (by omega : (0 : Int) ≤ 0 ∧ (0 : Int) ≤ 100000000) room most hr hm
  have HF := Lib.hid hF
  have HXF := Lib.hid hXF
  have HM1 := Lib.hid hM1
  have HX1 := Lib.hid x1
  clear hF hXF hM1 x1
  go_wp2_with fail
  refine C2.mono ?_
  rintro e w2 ⟨f2, XG, rfl, hG, hXG, hMs2, x2⟩
  clear C2
  obtain ⟨w3, hw3⟩ : ∃ y, w2.alloc (.cells #[.pointer (some ⟨f, 0, none⟩), .pointer (some ⟨f2, 0, none⟩), .slice none 0 0, .slice none 0 0] 67) = y := ⟨_, rfl⟩
  have hB3 : Below w2.heap.size w2 w3 := by rw [← hw3]; exact (Below.refl _ w2).alloc (Nat.le_refl _) _
  have hx3 : Blk w3 w2.heap.size 4 (x10F (ini10 f f2 ⟨[], Tb.new, room, most⟩ XF XG)) := by
    rw [← hw3]
    refine (Blk.new w2 _ _).congr fun j hj => ?_
    have : j = 0 ∨ j = 1 ∨ j = 2 ∨ j = 3 := by simp at hj; omega
    rcases this with rfl | rfl | rfl | rfl <;> rfl
  obtain ⟨p1, p2, p3⟩ := p10_new hr hm HM4.out HLR.out HLM.out HPP.out HF.out HXF.out HM1.out HX1.out hG hXG hMs2 x2 hB3 hx3
  have CM := more10_any p1 HM4.out (by show 0 < 12; omega)
  have HP2 := Lib.hid p2
  have HP3 := Lib.hid p3
  have hnq := eqFa f
  have HW3 := Lib.hid hw3
  clear hB3 hx3 hG hXG hMs2 x2 hw3 HF HXF HM1 HX1 p1 p2 p3
  go_upto_region 8 with fail
  rw [HW3.out]
  go_wp2_with fail
  refine CM.mono ?_
  rintro e w4 ⟨rfl, S', hD, hn⟩
  have HPY : Hid (Py10 w w2.heap.size S' (.pointer pm) (.pointer pr) N 1 0 0 0 0 w4) := ⟨hD.p, hn, fun k hk => (hD.fx k hk).elim (HP2.out k) (fun x => Nat.le_trans HP3.out.size x), HP3.out.next hD.ex (fun k hl hk => by
    rcases hk with y | y
    · have := HP2.out k y; omega
    · exact y)⟩
  clear CM hD
  go_wp2_with fail
  go_ret2
  exact ⟨_, S', rfl, HPY.out⟩
theorem begun10_no (w : World) (pm pr : Option Addr) (room most : Int) (h : ¬ (0 ≤ room ∧ room ≤ 256 ∧ 0 ≤ most ∧ most ≤ 65536)) :
    Calls Tryz.prog 9 #[.int .i64 room, .int .i64 most, .pointer pm, .pointer pr] w fun e w' => e = .returned (.tuple #[.pointer none, .bool true]) ∧ w' = w := by
  have C1 := shnew_no (w := w) (pm := pm) room most h
  have C2 := rsh_no (w := w) (pm := pr) room most h
  have hq := eqFa0
  clear h
  go_enter Tryz.func9, Tryz.ntmps9
  go_wp2_with fail
  refine C1.mono ?_
  rintro e w1 ⟨rfl, rfl⟩
  go_wp2_with fail
  refine C2.mono ?_
  rintro e w2 ⟨rfl, rfl⟩
  clear C1 C2
  go_wp2_with fail
  go_ret2
  exact ⟨rfl, rfl⟩
end Go.Proofs.YtcbhpjpkjmlcnaaGreat
