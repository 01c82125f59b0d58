/-
  TableSeeks.
-/
import Derived.Test.YthaijfjodfgbnabLwOnce
namespace Go.Proofs.Ythaijfjodfgbnab
open Go.RowKit Go.WideShapes

/-- How many live entries stand ahead of entry n. -/
def lpos (es : List En) (n : Nat) : Nat := (liveL (es.take n)).length
theorem lpos_succ {es : List En} {n : Nat} (h : n < es.length) : lpos es (n + 1) = lpos es n + if (nth es n).live = true then 1 else 0 := by
  unfold lpos
  rw [liveL_take h]
  split
  · simp
  · simp
theorem lpos_mono {es : List En} {n : Nat} : ∀ m, n ≤ m → m ≤ es.length → lpos es n ≤ lpos es m := by
  intro m
  induction m with
  | zero => intro h _; rw [show n = 0 by omega]; exact Nat.le_refl _
  | succ m ih =>
    intro h1 h2
    rcases Nat.lt_or_ge n (m + 1) with z | z
    · have := ih (by omega) (by omega)
      rw [lpos_succ (by omega)]
      omega
    · rw [show n = m + 1 by omega]; exact Nat.le_refl _
theorem lpos_lt {es : List En} {n m : Nat} (h : n < m) (hm : m ≤ es.length) (hl : (nth es n).live = true) : lpos es n < lpos es m := by
  have := lpos_mono (es := es) (n := n + 1) m (by omega) hm
  rw [lpos_succ (by omega), if_pos hl] at this
  omega
theorem lpos_nth {es : List En} {n : Nat} (hn : n < es.length) (hl : (nth es n).live = true) : nth (liveL es) (lpos es n) = nth es n ∧ lpos es n < (liveL es).length := by
  have h := liveL_cut hn hl
  refine ⟨?_, ?_⟩
  · unfold lpos
    rw [h]
    exact nth_mid _ _ _
  · unfold lpos
    rw [h]
    simp
theorem lpos_some (es : List En) : ∀ i, i < (liveL es).length → ∃ n, n < es.length ∧ (nth es n).live = true ∧ lpos es n = i := by
  induction es with
  | nil => intro i h; simp [liveL] at h
  | cons e r ih =>
    intro i h
    rw [liveL] at h
    by_cases hl : e.live = true
    · rw [if_pos hl, List.length_cons] at h
      match i with
      | 0 => exact ⟨0, by simp, by simpa [nth] using hl, by simp [lpos, liveL]⟩
      | i + 1 =>
        obtain ⟨n, h1, h2, h3⟩ := ih i (by omega)
        exact ⟨n + 1, by simpa using h1, by simpa [nth] using h2, by unfold lpos at h3 ⊢; rw [List.take_succ_cons, liveL, if_pos hl, List.length_cons, h3]⟩
    · rw [if_neg hl] at h
      obtain ⟨n, h1, h2, h3⟩ := ih i h
      exact ⟨n + 1, by simpa using h1, by simpa [nth] using h2, by unfold lpos at h3 ⊢; rw [List.take_succ_cons, liveL, if_neg hl, h3]⟩
/-- The entries of u up to told are those among the first i that are wanted. -/
def Upto (es : List En) (u : Int) (told : Int) (i : Nat) : Prop := ∀ n, Of es u n → ((n : Int) ≤ told ↔ lpos es n < i)
theorem upto_zero (es : List En) (u : Int) : Upto es u (-1) 0 := fun n _ => by omega
theorem upto_skip {es : List En} {u told : Int} {i : Nat} (h : Upto es u told i) (hi : (nth (liveL es) i).hash ≠ u) : Upto es u told (i + 1) := fun n hn => by
  rw [h n hn]
  have : lpos es n ≠ i := fun e => hi (by rw [← e, (lpos_nth hn.1 hn.2.1).1]; exact hn.2.2)
  omega
theorem upto_hit {es : List En} {u told : Int} {i n : Nat} (h : Upto es u told i) (hi : i < (liveL es).length) (hu : (nth (liveL es) i).hash = u) (hO : Of es u n) (ht : told < (n : Int)) (hmin : ∀ m, Of es u m → told < (m : Int) → n ≤ m) : nth es n = nth (liveL es) i ∧ Upto es u (n : Int) (i + 1) := by
  obtain ⟨k, h1, h2, h3⟩ := lpos_some es i hi
  have hk : nth es k = nth (liveL es) i := by rw [← h3]; exact (lpos_nth h1 h2).1.symm
  have hkO : Of es u k := ⟨h1, h2, by rw [hk]; exact hu⟩
  have hkt : told < (k : Int) := by have := h k hkO; omega
  have hnk := hmin k hkO hkt
  have hpn : ¬ lpos es n < i := by have := h n hO; omega
  have hnk' : n = k := by
    rcases Nat.lt_or_ge n k with z | z
    · have := lpos_lt z (Nat.le_of_lt h1) hO.2.1
      omega
    · omega
  subst hnk'
  refine ⟨hk, fun m hm => ?_⟩
  rcases Nat.lt_trichotomy m n with z | z | z
  · have := lpos_lt z (Nat.le_of_lt h1) hm.2.1
    omega
  · subst z
    omega
  · have := lpos_lt z (Nat.le_of_lt hm.1) hO.2.1
    omega
theorem upto_some {es : List En} {u told : Int} {i : Nat} (h : Upto es u told i) (hi : i < (liveL es).length) (hu : (nth (liveL es) i).hash = u) (hall : ∀ n, Of es u n → (n : Int) ≤ told) : False := by
  obtain ⟨k, h1, h2, h3⟩ := lpos_some es i hi
  have hk : nth es k = nth (liveL es) i := by rw [← h3]; exact (lpos_nth h1 h2).1.symm
  have hkO : Of es u k := ⟨h1, h2, by rw [hk]; exact hu⟩
  have h4 := hall k hkO
  have h5 := h k hkO
  omega
theorem upto_end {es : List En} {u told : Int} {n : Nat} (h : Upto es u told (liveL es).length) (hO : Of es u n) (ht : told < (n : Int)) : False := by
  have h1 := h n hO
  have h2 := (lpos_nth hO.1 hO.2.1).2
  omega
theorem sg_field2 (v0 v1 v3 v4 v5 v6 : Value) (a : Option Addr) (n c : Nat) (w : World) : (Instr.field 29 (.agg #[v0, v1, .slice a n c, v3, v4, v5, v6]) 2).run Try.prog w = .ok (.slice a n c) w := by kernel_rfl
set_option maxRecDepth 100000 in
set_option maxHeartbeats 8000000 in
theorem seeks_walk (a0 : Option Addr) (n0 c0 : Nat) (l : List Int) (a1 : Option Addr) (n1 c1 : Nat) (ks : List Int) (hsh : Int) (w : World) (h0 : SlI w a0 n0 c0 l) (h1 : SlI w a1 n1 c1 ks) :
    Calls Try.prog 4 #[.slice a0 n0 c0, .slice a1 n1 c1, .int .i64 hsh] w fun e w' => e = .returned (.bool true) ∧ Below w.heap.size w w' := by
  have m0 := h0.2.1
  have m1 := h1.2.1
  rw [← h0.1] at m0
  rw [← h1.1] at m1
  by_cases hb : n0 ≤ 300 ∧ n1 ≤ 300
  case neg =>
    have CW := awake7_any w
    by_cases hb0 : n0 ≤ 300
    · have t0 : ¬ (300 : Int) < (n0 : Int) := by omega
      have t1 : (300 : Int) < (n1 : Int) := by omega
      clear h0 h1 hb
      go_enter Try.func4, Try.ntmps4
      go_wp2_with fail
      refine CW.mono ?_
      rintro e w' ⟨rfl, hB⟩
      clear CW
      go_wp2
      go_ret
      exact ⟨rfl, hB⟩
    · have t0 : (300 : Int) < (n0 : Int) := by omega
      clear h0 h1 hb
      go_enter Try.func4, Try.ntmps4
      go_wp2_with fail
      refine CW.mono ?_
      rintro e w' ⟨rfl, hB⟩
      clear CW
      go_wp2
      go_ret
      exact ⟨rfl, hB⟩
  case pos =>
    obtain ⟨hb0, hb1⟩ := hb
    have t0 : ¬ (300 : Int) < (n0 : Int) := by omega
    have t1 : ¬ (300 : Int) < (n1 : Int) := by omega
    have CL := laid_any h0 h1 hb0
    clear h0 h1
    go_enter Try.func4, Try.ntmps4
    go_wp2_with fail
    refine CL.mono ?_
    rintro e w1 ⟨g, gi, r, h, ev, wv, t, ws, rfl, hL⟩
    clear CL
    have hel : t.es.length ≤ 300 := by have := hL.ld.ok.few; have := hL.ld.bi; omega
    have hwl : ws.length ≤ 300 := by have := hL.ld.len; omega
    have hsz := hL.ld.ok.sz
    have hSm : 2 ^ t.L ≤ 1048576 := Nat.le_trans (Nat.pow_le_pow_right (n := 2) (by decide) hsz.2) (by decide)
    have HEQ := Lib.hid hL.ld.eq
    have HI := Lib.hid hL.ld.ok.inv
    have HD := Lib.hid hL.dt
    have HB1 := Lib.hid hL.bl
    obtain ⟨aw, capw, gw, hwv, haw, hrw⟩ := hL.wt.es.open
    have hltW := hL.wt.es.lt
    subst hwv
    have hcapw := hrw.le
    have HRW := Lib.hid hrw
    have HAW : Hid (0 < ws.length → aw = some ⟨gw, 0, none⟩ ∧ gw < w1.heap.size) := fun h => ⟨(haw h).1, hltW gw (haw h).2.1⟩
    clear hL hrw haw hltW
    go_wp2_with fail
    go_loopw [10, 11, 12, 13, 14, 15, 16, 17, 18, 19] (fun iv _ _ _ _ _ _ _ _ _ wr => ∃ i : Nat, i ≤ ws.length + 1 ∧ iv = .int .i64 (i : Int) ∧ Below w1.heap.size w1 wr) (fun iv _ _ _ _ _ _ _ _ _ _ => ws.length + 1 - (intOf iv).toNat)
    case atStart => exact ⟨0, Nat.zero_le _, rfl, Below.refl _ _⟩
    case round =>
      obtain ⟨i, hi, rfl, hBi⟩ := hrel
      have hsr := hBi.size
      by_cases hil : i ≤ ws.length
      case neg =>
        have ti : ¬ (i : Int) ≤ (ws.length : Int) := by omega
        have CW := awake7_any wr
        go_wp2_with fail
        refine CW.mono ?_
        rintro e w6 ⟨rfl, hb6⟩
        clear CW
        go_wp2
        go_ret
        exact ⟨rfl, (HB1.out.trans (hBi.mono HB1.out.size)).trans (hb6.mono (Nat.le_trans HB1.out.size hsr))⟩
      case pos =>
        have ti : (i : Int) ≤ (ws.length : Int) := by omega
        obtain ⟨u, hu⟩ : ∃ u : Int, u = if i < ws.length then (nth ws i).hash else hsh := ⟨_, rfl⟩
        have CK := seek_any (HD.out.below hBi) u
        by_cases hilt : i < ws.length
        case' pos =>
          have ti2 : (i : Int) < (ws.length : Int) := by omega
          obtain ⟨haw, hgw⟩ := HAW.out (by omega)
          have c1' := (hBi.cell (p := ⟨gw, i * 5 + 1, none⟩) hgw).trans (HRW.out.c1 i hilt)
          rw [if_pos hilt] at hu
          rw [← hu] at c1'
          subst haw
          clear hu
          go_upto_region 12 with fail
          clear c1' hgw
        case' neg =>
          have ti2 : ¬ (i : Int) < (ws.length : Int) := by omega
          rw [if_neg hilt] at hu
          subst hu
          go_upto_region 12 with fail
        all_goals
          go_wp2_with fail
          refine CK.mono ?_
          rintro e w3 ⟨s, rfl, hss, hSk, hB3⟩
          clear CK
          have hB13 : Below w1.heap.size w1 w3 := hBi.trans (hB3.mono hsr)
          have hs1 : w1.heap.size ≤ s := by omega
          have hnd : ¬ dX g gi r h ev s := fun hx => by have := HD.out.lt s hx; omega
          obtain ⟨f, hf1, hf2⟩ := HI.out.first u
          have HF := Lib.hid hf2
          have HSK := Lib.hid hSk
          have HB13 := Lib.hid hB13
          clear hf2 hSk hB13 hB3 hBi hss
          go_wp2_with fail
          go_loopw [13, 14, 15, 16, 17] (fun iv _ _ _ _ wr => ∃ (k p : Nat) (told : Int), k ≤ ws.length ∧ iv = .int .i64 (k : Int) ∧ p ≤ f ∧ -1 ≤ told ∧ Hid (Told t.es t.L t.c u p told) ∧ Hid (Upto t.es u told k) ∧ Hid (Sk wr s (.pointer (some ⟨g, 0, none⟩)) t.turn u t.L p told p) ∧ Below w1.heap.size w1 wr) (fun iv _ _ _ _ _ => ws.length - (intOf iv).toNat)
          case atStart => exact ⟨0, 0, -1, Nat.zero_le _, rfl, Nat.zero_le _, Int.le_refl _, told_zero _ _ _ _, upto_zero _ _, HSK.out, HB13.out⟩
          case round =>
            clear HSK HB13
            obtain ⟨k, p, told, hk, rfl, hpf, htd, HT, HU, HK, hBk⟩ := hrel
            have hsk := hBk.size
            have hDk := HD.out.below hBk
            have CN := next7_any hDk HI.out mtOk_nil mvOk_nil (a := 0) (b := 0) trivial (by decide) HK.out hnd (fun hm => by cases hm) (by omega) HT.out HF.out hf1 hpf htd (by omega)
            clear hDk
            by_cases hkl : k < ws.length
            · have tk : (k : Int) < (ws.length : Int) := by omega
              obtain ⟨haw2, hgw2⟩ := HAW.out (by omega)
              try subst haw2
              have c1k := (hBk.cell (p := ⟨gw, k * 5 + 1, none⟩) hgw2).trans (HRW.out.c1 k hkl)
              by_cases hku : (nth ws k).hash = u
              · rw [hku] at c1k
                have tne : (u != u) = false := by simp
                go_wp2_with fail
                refine CN.mono ?_
                rintro e w4 ⟨j, hpj, hjf, (⟨n, rfl, hOf, htn, hcj, hTj, hTn, hmin, hN⟩ | ⟨_, _, hall, _⟩)⟩
                · have hHit := upto_hit HU.out (by rw [HEQ.out]; exact hkl) (by rw [HEQ.out]; exact hku) hOf htn hmin
                  rw [HEQ.out] at hHit
                  have hjlt : j < f := by
                    rcases Nat.lt_or_ge j f with z | z
                    · exact z
                    · have := HF.out.1
                      rw [show f = j by omega, hcj] at this
                      omega
                  have hb34 : Below w1.heap.size wr w4 := hN.ex.below (fun q hq => hq.elim (fun e => by omega) (fun e => by cases e)) hsk
                  have hB14 : Below w1.heap.size w1 w4 := hBk.trans hb34
                  have hs14 := hB14.size
                  have CA := at7_yes (HD.out.below hB14) n hOf.1 hOf.2.1
                  rw [hHit.1] at CA
                  have hSk4 := hN.sk
                  rw [show p + (j + 1 - p) = j + 1 by omega] at hSk4
                  have hls := hSk4.lt (by omega)
                  have HSK4 := Lib.hid hSk4
                  have HU4 := Lib.hid hHit.2
                  have HT4 := Lib.hid hTn
                  have HRn : Hid (∀ V, Below w1.heap.size w1 V → V.cell? ⟨gw, k * 5, none⟩ = some (.bool (nth ws k).live) ∧ V.cell? ⟨gw, k * 5 + 1, none⟩ = some (.int .i64 (nth ws k).hash) ∧ V.cell? ⟨gw, k * 5 + 2, none⟩ = some (.int .i64 (nth ws k).key) ∧ V.cell? ⟨gw, k * 5 + 3, none⟩ = some (.int .i64 (nth ws k).value) ∧ V.cell? ⟨gw, k * 5 + 4, none⟩ = some (.int .i64 (nth ws k).birth)) := fun V hV => by
                    have key : ∀ o, V.cell? ⟨gw, o, none⟩ = w1.cell? ⟨gw, o, none⟩ := fun o => hV.cell (p := ⟨gw, o, none⟩) hgw2
                    exact ⟨(key _).trans (HRW.out.c0 k hkl), (key _).trans (HRW.out.c1 k hkl), (key _).trans (HRW.out.c2 k hkl), (key _).trans (HRW.out.c3 k hkl), (key _).trans (HRW.out.c4 k hkl)⟩
                  clear CN hN hOf hTj hTn hmin hHit hSk4 hb34 c1k hcj HT HU HK hku
                  generalize (nth ws k).live = y0 at *
                  generalize (nth ws k).hash = y1 at *
                  generalize (nth ws k).key = y2 at *
                  generalize (nth ws k).value = y3 at *
                  generalize (nth ws k).birth = y4 at *
                  go_wp2_with fail
                  refine CA.mono ?_
                  rintro e w5 ⟨rfl, hB5⟩
                  clear CA
                  obtain ⟨w6, hw6⟩ : ∃ y, w5.alloc (.cells #[.bool y0, .int .i64 y1, .int .i64 y2, .int .i64 y3, .int .i64 y4] 32) = y := ⟨_, rfl⟩
                  have hB56 : Below w5.heap.size w5 w6 := by rw [← hw6]; exact (Below.refl _ w5).alloc (Nat.le_refl _) _
                  have hX6 : Blk w6 w5.heap.size 5 (fun j => #[Value.bool y0, .int .i64 y1, .int .i64 y2, .int .i64 y3, .int .i64 y4].getD j .nilFunc) := by rw [← hw6]; exact Blk.new w5 _ _
                  have hs5 := hB5.size
                  have hs56 := hB56.size
                  have hB16 : Below w1.heap.size w1 w6 := (hB14.trans (hB5.mono hs14)).trans (hB56.mono (by omega))
                  obtain ⟨r0, r1, r2, r3, r4⟩ := HRn.out w6 hB16
                  have b0 : w6.cell? ⟨w5.heap.size, 0, none⟩ = some (.bool y0) := hX6.c 0 (by omega)
                  have b1 : w6.cell? ⟨w5.heap.size, 1, none⟩ = some (.int .i64 y1) := hX6.c 1 (by omega)
                  have b2 : w6.cell? ⟨w5.heap.size, 2, none⟩ = some (.int .i64 y2) := hX6.c 2 (by omega)
                  have b3 : w6.cell? ⟨w5.heap.size, 3, none⟩ = some (.int .i64 y3) := hX6.c 3 (by omega)
                  have b4 : w6.cell? ⟨w5.heap.size, 4, none⟩ = some (.int .i64 y4) := hX6.c 4 (by omega)
                  have HSK6 : Hid (Sk w6.drew s (.pointer (some ⟨g, 0, none⟩)) t.turn u t.L (j + 1) (n : Int) (j + 1)) := (HSK4.out.same (hB5.block s hls)).same (w' := w6.drew) (hB56.block s (by omega))
                  have HB16 := Lib.hid hB16.drew
                  have HW6 := Lib.hid hw6
                  clear hw6 hX6 hB16 hB56 hB5 HRn HSK4
                  go_upto_region 21 with fail
                  rw [HW6.out]
                  go_region_held3 (fun V => ((V.cell? ⟨gw, k * 5, none⟩ = some (.bool y0) ∧ V.cell? ⟨gw, k * 5 + 1, none⟩ = some (.int .i64 y1)) ∧ (V.cell? ⟨gw, k * 5 + 2, none⟩ = some (.int .i64 y2) ∧ V.cell? ⟨gw, k * 5 + 3, none⟩ = some (.int .i64 y3) ∧ V.cell? ⟨gw, k * 5 + 4, none⟩ = some (.int .i64 y4))) ∧ ((V.cell? ⟨w5.heap.size, 0, none⟩ = some (.bool y0) ∧ V.cell? ⟨w5.heap.size, 1, none⟩ = some (.int .i64 y1)) ∧ (V.cell? ⟨w5.heap.size, 2, none⟩ = some (.int .i64 y2) ∧ V.cell? ⟨w5.heap.size, 3, none⟩ = some (.int .i64 y3) ∧ V.cell? ⟨w5.heap.size, 4, none⟩ = some (.int .i64 y4))))
                    (first | exact ⟨⟨⟨r0, r1⟩, r2, r3, r4⟩, ⟨b0, b1⟩, b2, b3, b4⟩ | fail) (fail)
                  go_wp2_with fail
                  go_roundw
                  case rel => exact ⟨k + 1, j + 1, (n : Int), by omega, by go_num, by omega, by omega, HT4, HU4, HSK6, HB16.out⟩
                  case measure => simp [intOf]; omega
                · exact absurd (upto_some HU.out (by rw [HEQ.out]; exact hkl) (by rw [HEQ.out]; exact hku) hall) id
              · have HU2 : Hid (Upto t.es u told (k + 1)) := upto_skip HU.out (by rw [HEQ.out]; exact hku)
                have tne : ((nth ws k).hash != u) = true := by simp [hku]
                clear CN
                generalize (nth ws k).hash = zk at *
                go_wp2_with fail
                go_roundw
                case rel => exact ⟨k + 1, p, told, by omega, by go_num, hpf, htd, HT, HU2, HK, hBk⟩
                case measure => simp [intOf]; omega
            · obtain rfl : k = ws.length := by omega
              have tk : ¬ (ws.length : Int) < (ws.length : Int) := by omega
              go_wp2_with fail
              refine CN.mono ?_
              rintro e w4 ⟨j, hpj, hjf, (⟨n, rfl, hOf, htn, hcj, hTj, hTn, hmin, hN⟩ | ⟨rfl, rfl, _, hN⟩)⟩
              · exact absurd (upto_end (by rw [HEQ.out]; exact HU.out) hOf htn) id
              · have hb34 : Below w1.heap.size wr w4 := hN.ex.below (fun q hq => hq.elim (fun e => by omega) (fun e => by cases e)) hsk
                have hB14 : Below w1.heap.size w1 w4 := hBk.trans hb34
                have hs14 := hB14.size
                have x7 : w4.cell? ⟨s, 7, none⟩ = some (.int .i64 ((p + (j + 1 - p) : Nat) : Int)) := hN.sk.c 7 (by omega)
                rw [show p + (j + 1 - p) = j + 1 by omega] at x7
                have hls := hN.sk.lt (by omega)
                have CV1 := visited_any x7
                have CS := dsight_any (HD.out.below hB14) (by omega)
                clear CN hN HT HU HK
                go_wp2_with fail
                refine CV1.mono ?_
                rintro e w5 ⟨rfl, rfl⟩
                clear CV1
                go_wp2_with fail
                refine CS.mono ?_
                rintro e w6 ⟨hc, ev1, rfl, hSg, hB6⟩
                clear CS
                unfold sgV
                have hfd := sg_field2 (.int .i64 (t.L : Int)) (.int .i64 (wd t.L : Int)) ev1 (.int .i64 (t.live : Int)) (.int .i64 (t.births : Int)) (.int .i64 (t.made : Int)) (some ⟨hc, 0, none⟩) (2 ^ t.L) (2 ^ t.L)
                have CV2 := visited_any ((hB6.cell (p := ⟨s, 7, none⟩) hls).trans x7)
                have HB6 : Hid (Below w1.heap.size w1 w6) := hB14.trans (hB6.mono hs14)
                clear hSg hB6 x7
                generalize (2 ^ t.L : Nat) = S0 at *
                have e114 : IntKind.i64.wrap ((S0 : Int) + 13) = (S0 : Int) + 13 := i64_small (by omega) (by omega)
                have tg : ¬ (S0 : Int) + 13 < (j : Int) + 1 := by omega
                have tg' : ¬ (S0 : Int) + 13 < ((j + 1 : Nat) : Int) := by omega
                have tl : ¬ (j : Int) + 1 < 1 := by omega
                have tl' : ¬ ((j + 1 : Nat) : Int) < 1 := by omega
                go_wp2_with fail
                refine CV2.mono ?_
                rintro e w7 ⟨rfl, rfl⟩
                clear CV2 hfd
                go_wp2_with fail
                go_roundw
                case rel => exact ⟨i + 1, by omega, by go_num, HB6.out⟩
                case measure => simp [intOf]; omega
end Go.Proofs.Ythaijfjodfgbnab
