/-
  The law's plays.
  SharedPlays, walked.
-/
import Derived.Test.YtcbhpjpkjmlcnaaGreatGxas
import Derived.Test.YtcbhpjpkjmlcnaaGreatGxai
namespace Go.Proofs.YtcbhpjpkjmlcnaaGreat
open Go.RowKit Go.WideShapes

theorem eqTw (X : Nat) (w : World) : (binOp .eql 54 (.pointer (some ⟨X, 0, none⟩)) (.pointer none)).run Tryz.prog w = .ok (.bool false) w := by kernel_rfl
theorem eqTw0 (w : World) : (binOp .eql 54 (.pointer none) (.pointer none)).run Tryz.prog w = .ok (.bool true) w := by kernel_rfl
set_option maxRecDepth 100000 in
set_option maxHeartbeats 16000000 in
theorem plays10_any {w : World} {pm pr : Option Addr} {N : Int → Int → Int → Int → World → Prop} (hM4 : M4 (.pointer pm) N) (hM : N 0 0 0 0 w) (hms : Ms w (.pointer pr) 0 0 0 0) (hpp : ∀ k, mB (.pointer pm) k → mB (.pointer pr) k → False) {a0 : Option Addr} {n c0 : Nat} {G : Nat → Stp} (hrow : ∀ V, Ex (fun k => mB (.pointer pm) k ∨ mB (.pointer pr) k) w V → S4 V a0 n c0 G) (hn : n ≤ 300) (hnm : ∀ i, i < n → (G i).name.size ≤ 200) (room most : Nat) (hr : room ≤ 256) (hm : most ≤ 65536) :
    Calls Tryz.prog 6 #[.int .i64 (room : Int), .int .i64 (most : Int), .slice a0 n c0, .pointer pm, .pointer pr] w fun e w' => e = .returned (.bool true) ∧ ∃ X S a b c d, Py10 w X S (.pointer pm) (.pointer pr) N a b c d n w' := by
  have C1 := begun10_any hM4 hM hms hpp room most hr hm
  have HM4 := Lib.hid hM4
  have HROW := Lib.hid hrow
  have HNM := Lib.hid hnm
  have hcap : n ≤ c0 := (hrow w (Ex.refl _ _)).1
  clear hM4 hM hms hpp hrow hnm
  go_enter Tryz.func6, Tryz.ntmps6
  go_wp2_with fail
  refine C1.mono ?_
  rintro e w1 ⟨X, S0, rfl, hPY⟩
  have HPY := Lib.hid hPY
  have hnq := eqTw X
  clear C1 hPY
  go_wp2_with fail
  clear hnq
  go_loopw [13] (fun iv wr => ∃ k S a b c d, k ≤ n ∧ iv = .int .i64 (k : Int) ∧ Py10 w X S (.pointer pm) (.pointer pr) N a b c d k wr) (fun iv _ => n - (intOf iv).toNat)
  case atStart => exact ⟨0, S0, 1, 0, 0, 0, Nat.zero_le _, rfl, HPY.out⟩
  case round =>
    clear HPY
    obtain ⟨k, S, a, b, c, d, hk, rfl, hPY⟩ := hrel
    by_cases hlt : k < n
    · have t1 : (k : Int) < (n : Int) := by omega
      obtain ⟨_, bR, offR, hab, hG⟩ := HROW.out wr hPY.ex
      obtain ⟨rfl, hbl⟩ := hab (by omega)
      have hPD : Py10 w X S (.pointer pm) (.pointer pr) N a b c d k wr.drew := ⟨hPY.p.keep HM4.out (Nat.le_refl _) fun _ _ => rfl, hPY.n, hPY.fx, hPY.ex.drew⟩
      have HG : Hid (∀ V, Ex (fun k => mB (.pointer pm) k ∨ mB (.pointer pr) k) w V → V.cell? ⟨bR, offR + k * 4, none⟩ = some (.int .i64 (G k).kind) ∧ V.cell? ⟨bR, offR + k * 4 + 1, none⟩ = some (.int .i64 (G k).s) ∧ V.cell? ⟨bR, offR + k * 4 + 2, none⟩ = some (.string (G k).name) ∧ V.cell? ⟨bR, offR + k * 4 + 3, none⟩ = some (.int .i64 (G k).value)) := fun V hV => by
        obtain ⟨_, bV, offV, habV, hGV⟩ := HROW.out V hV
        obtain ⟨e1, _⟩ := habV (by omega)
        cases e1
        have := hGV k hlt
        exact ⟨this.1, by rw [Nat.add_assoc]; exact this.2.1, by rw [Nat.add_assoc]; exact this.2.2.1, by rw [Nat.add_assoc]; exact this.2.2.2⟩
      have hs := HNM.out k hlt
      have CD := does10_any hPD.p HM4.out hPD.n (by omega) (G k).kind (G k).s (nm := (G k).name) (by omega) (G k).value
      have s0 : (wr.drew.cell? ⟨X, 0, none⟩ = some (.pointer (some ⟨S.f, 0, none⟩)) ∧ wr.drew.cell? ⟨X, 1, none⟩ = some (.pointer (some ⟨S.f2, 0, none⟩))) ∧ wr.drew.cell? ⟨bR, offR + k * 4, none⟩ = some (.int .i64 (G k).kind) ∧ wr.drew.cell? ⟨bR, offR + k * 4 + 1, none⟩ = some (.int .i64 (G k).s) ∧ wr.drew.cell? ⟨bR, offR + k * 4 + 2, none⟩ = some (.string (G k).name) ∧ wr.drew.cell? ⟨bR, offR + k * 4 + 3, none⟩ = some (.int .i64 (G k).value) := ⟨⟨hPD.p.hx.c 0 (by omega), hPD.p.hx.c 1 (by omega)⟩, HG.out _ hPD.ex⟩
      have HPD := Lib.hid hPD
      have HSF : Hid (S.f = S.f ∧ S.f2 = S.f2) := ⟨rfl, rfl⟩
      clear hab hG hPY hPD
      generalize (G k).kind = x0 at *
      generalize (G k).s = x1 at *
      generalize (G k).name = x2 at *
      generalize (G k).value = x3 at *
      obtain ⟨ff, hff⟩ : ∃ f, S.f = f := ⟨_, rfl⟩
      obtain ⟨f2, hf2⟩ : ∃ f, S.f2 = f := ⟨_, rfl⟩
      rw [hff, hf2] at s0
      have HS : Hid (∀ (S' : S10) (a b c d : Int) (j : Nat) (V : World), S'.f = S.f ∧ S'.f2 = S.f2 → Py10 w X S' (.pointer pm) (.pointer pr) N a b c d j V → (V.cell? ⟨X, 0, none⟩ = some (.pointer (some ⟨ff, 0, none⟩)) ∧ V.cell? ⟨X, 1, none⟩ = some (.pointer (some ⟨f2, 0, none⟩))) ∧ V.cell? ⟨bR, offR + k * 4, none⟩ = some (.int .i64 x0) ∧ V.cell? ⟨bR, offR + k * 4 + 1, none⟩ = some (.int .i64 x1) ∧ V.cell? ⟨bR, offR + k * 4 + 2, none⟩ = some (.string x2) ∧ V.cell? ⟨bR, offR + k * 4 + 3, none⟩ = some (.int .i64 x3)) := fun S' a b c d j V e h => ⟨⟨by rw [← hff, ← e.1]; exact h.p.hx.c 0 (by omega), by rw [← hf2, ← e.2]; exact h.p.hx.c 1 (by omega)⟩, HG.out V h.ex⟩
      have HFF := Lib.hid hff
      have HF2 := Lib.hid hf2
      clear hff hf2 HSF
      go_upto_region 7 with fail
      go_region_held3 (fun V => (V.cell? ⟨X, 0, none⟩ = some (.pointer (some ⟨ff, 0, none⟩)) ∧ V.cell? ⟨X, 1, none⟩ = some (.pointer (some ⟨f2, 0, none⟩))) ∧ V.cell? ⟨bR, offR + k * 4, none⟩ = some (.int .i64 x0) ∧ V.cell? ⟨bR, offR + k * 4 + 1, none⟩ = some (.int .i64 x1) ∧ V.cell? ⟨bR, offR + k * 4 + 2, none⟩ = some (.string x2) ∧ V.cell? ⟨bR, offR + k * 4 + 3, none⟩ = some (.int .i64 x3))
        (first | with_reducible exact s0 | with_reducible exact s1 | with_reducible exact s2 | with_reducible exact s3 | with_reducible exact s4 | with_reducible exact s5 | fail)
        (first
          | (go_at_call 10; refine CD.mono ?_; rintro e v1 ⟨rfl, S', a', b', c', d', hD⟩; have hPY1 := HPD.out.step hD; have s1 := HS.out S' _ _ _ _ _ v1 hD.ff hPY1; have hn1 := hPY1.n; have C2 := at10_any hPY1.p.rw hPY1.n hPY1.p.nn x1; obtain ⟨hp1, _⟩ := pix_lt x1 hPY1.n; have C3 := alike10_any hPY1.p (by omega) hp1; have HPY1 := Lib.hid hPY1; have HFE : Hid (S'.f = S.f ∧ S'.f2 = S.f2) := hD.ff; generalize pix x1 S'.n = kx at *; clear hD hPY1 hp1)
          | (go_at_call 12; refine C2.mono ?_; rintro e v2 ⟨rfl, rfl⟩)
          | (go_at_call 11; refine C3.mono ?_; rintro e v3 ⟨rfl, hb3⟩; have hPY3 := HPY1.out.below HM4.out hb3; have s2 := HS.out S' _ _ _ _ _ v3 HFE.out hPY3; obtain ⟨Ps, Q1, Q2⟩ := names10 hPY3.p (by omega); have C4 := Q1 v3 (Below.refl _ _); have hef : S'.f = ff := HFE.out.1.trans HFF.out; have hef2 : S'.f2 = f2 := HFE.out.2.trans HF2.out; rw [hef] at C4; rw [hef2] at Q2; have HQ2 := Lib.hid Q2; have HPY3 := Lib.hid hPY3; clear hPY3 hb3 Q1 Q2 hef hef2)
          | (go_at_call 14; refine C4.mono ?_; rintro e v4 ⟨u4, rfl, hp4, hb4⟩; have hPY4 := HPY3.out.below HM4.out hb4; have s3 := HS.out S' _ _ _ _ _ v4 HFE.out hPY4; have C5 := HQ2.out v4 hb4; have HPY4 := Lib.hid hPY4; have HP4 := Lib.hid hp4; clear hPY4 hb4 hp4)
          | (go_at_call 15; refine C5.mono ?_; rintro e v5 ⟨u5, rfl, hb5, hcmp⟩; have hPY5 := HPY4.out.below HM4.out hb5; have s4 := HS.out S' _ _ _ _ _ v5 HFE.out hPY5; have C6 := hcmp u4 HP4.out; have HPY5 := Lib.hid hPY5; clear hPY5 hb5 hcmp)
          | (go_at_call 13; refine C6.mono ?_; rintro e v6 ⟨rfl, hb6⟩; have hPY6 := HPY5.out.below HM4.out hb6; have s5 := HS.out S' _ _ _ _ _ v6 HFE.out hPY6; have HPY6 := Lib.hid hPY6; clear hPY6 hb6)
          | fail)
      go_wp2_with fail
      go_roundw
      case rel => exact ⟨k + 1, S', a', b', c', d', by omega, by go_num, HPY6.out⟩
      case measure => simp [intOf]; omega
    · obtain rfl : k = n := by omega
      have t1 : ¬ (k : Int) < (k : Int) := by omega
      have HPY := Lib.hid hPY
      obtain ⟨am, capm, em, hcapm⟩ := row_len hPY.p.rs
      have hnn := hPY.p.nn
      clear hPY
      generalize wr = wO at *
      go_wp2_with fail
      go_loopw [14] (fun iv W => ∃ j, j ≤ S.n ∧ iv = .int .i64 (j : Int) ∧ Below wO.heap.size wO W) (fun iv _ => S.n - (intOf iv).toNat)
      case atStart => exact ⟨0, Nat.zero_le _, rfl, Below.refl _ _⟩
      case round =>
        obtain ⟨j, hj, rfl, hb⟩ := hrel
        have hPW := HPY.out.below HM4.out hb
        have x2 : wr.cell? ⟨X, 2, none⟩ = some (.slice am S.n capm) := by rw [← em]; exact hPW.p.hx.c 2 (by omega)
        by_cases hjl : j < S.n
        · have t2 : (j : Int) < (S.n : Int) := by omega
          have CA := alike10_any hPW.p (by omega) hjl
          have HB := Lib.hid hb
          clear hPW hb
          go_wp2_with fail
          refine CA.mono ?_
          rintro e W2 ⟨rfl, hb2⟩
          have HB2 := Lib.hid (HB.out.trans (hb2.mono HB.out.size))
          clear CA hb2
          go_wp2_with fail
          go_roundw
          case rel => exact ⟨j + 1, by omega, by go_num, HB2.out⟩
          case measure => simp [intOf]; omega
        · have t2 : ¬ (j : Int) < (S.n : Int) := by omega
          have hPD : Py10 w X S (.pointer pm) (.pointer pr) N a b c d k wr.drew := hPW.below HM4.out (Below.refl _ wr).drew
          obtain ⟨Ps, g2, Q1, Q2⟩ := fsights10 hPD.p
          have HX : Hid (∀ V, Below wr.drew.heap.size wr.drew V → (V.cell? ⟨X, 0, none⟩ = some (.pointer (some ⟨S.f, 0, none⟩)) ∧ V.cell? ⟨X, 1, none⟩ = some (.pointer (some ⟨S.f2, 0, none⟩))) ∧ V.cell? ⟨S.f2, 2, none⟩ = some (.pointer (some ⟨g2, 0, none⟩))) := fun V hV => ⟨⟨(hPD.p.hx.of hV (by omega)).c 0 (by omega), (hPD.p.hx.of hV (by omega)).c 1 (by omega)⟩, (Q2 V hV).1⟩
          have C1 := Q1 wr.drew (Below.refl _ _)
          have s0 := HX.out wr.drew (Below.refl _ _)
          have HQ2 := Lib.hid Q2
          have HPD := Lib.hid hPD
          clear hPD hPW hb Q1 Q2
          generalize S.f = ff at *
          generalize S.f2 = f2 at *
          go_upto_region 14 with fail
          clear x2
          go_region_held3 (fun V => (V.cell? ⟨X, 0, none⟩ = some (.pointer (some ⟨ff, 0, none⟩)) ∧ V.cell? ⟨X, 1, none⟩ = some (.pointer (some ⟨f2, 0, none⟩))) ∧ V.cell? ⟨f2, 2, none⟩ = some (.pointer (some ⟨g2, 0, none⟩)))
            (first | with_reducible exact s0 | with_reducible exact s1 | with_reducible exact s2 | with_reducible exact s3 | fail)
            (first
              | (go_at_call 17; refine C1.mono ?_; rintro e v1 ⟨u1, rfl, hp1, hb1⟩; have s1 := HX.out v1 hb1; have C2 := (HQ2.out v1 hb1).2; have HB1 := Lib.hid hb1; have HP1 := Lib.hid hp1; clear hb1 hp1)
              | (go_at_call 18; refine C2.mono ?_; rintro e v2 ⟨u2, rfl, hb2, hcmp⟩; have C3 := hcmp u1 HP1.out; have hB2 := HB1.out.trans (hb2.mono HB1.out.size); have s2 := HX.out v2 hB2; have HB2 := Lib.hid hB2; clear hb2 hB2 hcmp)
              | (go_at_call 16; refine C3.mono ?_; rintro e v3 ⟨rfl, hb3⟩; have hB3 := HB2.out.trans (hb3.mono HB2.out.size); have s3 := HX.out v3 hB3; have HB3 := Lib.hid hB3; clear hb3 hB3)
              | fail)
          go_wp2_with fail
          go_ret
          exact ⟨rfl, X, S, a, b, c, d, HPD.out.below HM4.out HB3.out⟩
theorem plays10_no (w : World) (pm pr : Option Addr) (v : Value) (room most : Int) (h : ¬ (0 ≤ room ∧ room ≤ 256 ∧ 0 ≤ most ∧ most ≤ 65536)) :
    Calls Tryz.prog 6 #[.int .i64 room, .int .i64 most, v, .pointer pm, .pointer pr] w fun e w' => e = .returned (.bool true) ∧ w' = w := by
  have C1 := begun10_no w pm pr room most h
  have hq := eqTw0
  clear h
  go_enter Tryz.func6, Tryz.ntmps6
  go_wp2_with fail
  refine C1.mono ?_
  rintro e w1 ⟨rfl, rfl⟩
  clear C1
  go_wp2_with fail
  go_ret
  exact ⟨rfl, rfl⟩
end Go.Proofs.YtcbhpjpkjmlcnaaGreat
namespace Go.Proofs.YtcbhpjpkjmlcnaaGreat
open Go.RowKit Go.WideShapes

theorem S4.ex {w V : World} {a : Option Addr} {n c : Nat} {G : Nat → Stp} {Y : Nat → Prop} (h : S4 w a n c G) (e : Ex Y w V) (hY : ∀ k, Y k → ¬ k < w.heap.size) : S4 V a n c G := by
  obtain ⟨h1, b, off, h2, h3⟩ := h
  refine ⟨h1, b, off, fun h => ⟨(h2 h).1, Nat.lt_of_lt_of_le (h2 h).2 e.size⟩, fun i hi => ?_⟩
  have hl := (h2 (by omega)).2
  have hb : V.heap[b]? = w.heap[b]? := e.block b hl (fun y => hY b y hl)
  obtain ⟨g0, g1, g2, g3⟩ := h3 i hi
  exact ⟨(World.cell?_of_block (a := ⟨b, off + (i * 4 + 0), none⟩) hb).trans g0, (World.cell?_of_block (a := ⟨b, off + (i * 4 + 1), none⟩) hb).trans g1, (World.cell?_of_block (a := ⟨b, off + (i * 4 + 2), none⟩) hb).trans g2, (World.cell?_of_block (a := ⟨b, off + (i * 4 + 3), none⟩) hb).trans g3⟩
theorem noB10 {k : Nat} (h : mB (.pointer none) k) : False := by cases h
/-- plays without meters. -/
theorem plays10_none {w : World} {a0 : Option Addr} {n c0 : Nat} {G : Nat → Stp} (hrow : S4 w a0 n c0 G) (hn : n ≤ 300) (hnm : ∀ i, i < n → (G i).name.size ≤ 200) (room most : Int) :
    Calls Tryz.prog 6 #[.int .i64 room, .int .i64 most, .slice a0 n c0, .pointer none, .pointer none] w fun e w' => e = .returned (.bool true) ∧ Below w.heap.size w w' := by
  by_cases h : 0 ≤ room ∧ room ≤ 256 ∧ 0 ≤ most ∧ most ≤ 65536
  · obtain ⟨r, rfl⟩ := Int.eq_ofNat_of_zero_le h.1
    obtain ⟨m, rfl⟩ := Int.eq_ofNat_of_zero_le h.2.2.1
    refine (plays10_any (N := no4) m4_nil trivial (.inl rfl) (fun _ h _ => (noB10 h).elim) (fun V hV => hrow.ex hV (fun _ y => (y.elim (fun y => (noB10 y).elim) (fun y => (noB10 y).elim)))) hn hnm r m (by omega) (by omega)).mono ?_
    rintro e w' ⟨rfl, X, S, a, b, c, d, hP⟩
    exact ⟨rfl, ⟨hP.ex.os, hP.ex.tape, hP.ex.output, hP.ex.size, fun k hk => hP.ex.block k hk (fun x => x.elim noB10 noB10)⟩⟩
  · refine (plays10_no w none none _ room most h).mono ?_
    rintro e w' ⟨rfl, rfl⟩
    exact ⟨rfl, Below.refl _ _⟩
set_option maxRecDepth 100000 in
set_option maxHeartbeats 4000000 in
theorem splays_walk (room most : Int) (a0 : Option Addr) (n c0 : Nat) (G : Nat → Stp) (w : World) (hS : S4 w a0 n c0 G) :
    Calls Tryz.prog 3 #[.int .i64 room, .int .i64 most, .slice a0 n c0] w fun e w' => e = .returned (.bool true) ∧ Below w.heap.size w w' := by
  have CM := much_any hS
  have hcap := hS.1
  have HS := Lib.hid hS
  clear hS
  go_enter Tryz.func3, Tryz.ntmps3
  go_wp2_with fail
  refine CM.mono ?_
  rintro e w1 ⟨b, rfl, rfl, hb⟩
  clear CM
  cases b with
  | true =>
    clear hb
    go_wp2_with fail
    go_ret
    exact ⟨rfl, Below.refl _ _⟩
  | false =>
    obtain ⟨hn, hnm⟩ := hb rfl
    have C1 := plays10_none HS.out hn hnm room most
    clear hb hnm
    go_wp2_with fail
    refine C1.mono ?_
    rintro e w2 ⟨rfl, hb⟩
    have CA := awake10_any w2
    have HB := Lib.hid hb
    clear C1 hb
    go_wp2_with fail
    refine CA.mono ?_
    rintro e w3 ⟨rfl, hb3⟩
    have HB3 := Lib.hid (HB.out.trans (hb3.mono HB.out.size))
    clear CA hb3
    go_wp2_with fail
    go_ret
    exact ⟨rfl, HB3.out⟩
end Go.Proofs.YtcbhpjpkjmlcnaaGreat
