/-
  TableRoom.
-/
import Derived.Test.YthaijfjodfgbnabLdLaid
namespace Go.Proofs.Ythaijfjodfgbnab
open Go.RowKit Go.WideShapes

/-- How often v stands in the first k cells. -/
def seenF (c : Nat → Int) (k : Nat) : Nat → Int := fun v => ((cnt (fun x => c x == (v : Int)) k : Nat) : Int)
theorem seenF_zero (c : Nat → Int) : seenF c 0 = fun _ => 0 := rfl
theorem seenF_hit {c : Nat → Int} {k n : Nat} (h : c k = (n : Int)) : upd (seenF c k) n (seenF c k n + 1) = seenF c (k + 1) := by
  funext v
  unfold upd seenF
  by_cases e : v = n
  · subst e
    rw [if_pos rfl, cnt, if_pos (by simp [h]), Int.natCast_add]
    rfl
  · rw [if_neg e, cnt, if_neg (by simp [h]; omega), Nat.add_zero]
theorem seenF_miss {c : Nat → Int} {k : Nat} (h : c k < 0) : seenF c k = seenF c (k + 1) := by
  funext v
  unfold seenF
  rw [cnt, if_neg (by simp; omega), Nat.add_zero]
theorem cnt_one {p : Nat → Bool} {n x : Nat} (hx : x < n) (hp : p x = true) (h : ∀ y, y < n → p y = true → y = x) : cnt p n = 1 := by
  have := cnt_add (p := fun _ => false) (q := p) hx rfl hp (fun y hy hne => by
    cases hpy : p y with
    | false => rfl
    | true => exact absurd (h y hy hpy) hne)
  rw [cnt_none (p := fun _ => false) (fun _ _ => rfl)] at this
  exact this
theorem seen_live {es : List En} {L : Nat} {c : Nat → Int} (h : Inv es L c) {n : Nat} (hn : n < es.length) : seenF c (2 ^ L) n = if (nth es n).live = true then 1 else 0 := by
  unfold seenF
  by_cases hl : (nth es n).live = true
  · rw [if_pos hl]
    obtain ⟨i, hi⟩ := h.pos n hn hl
    rw [cnt_one (x := trl (uw (nth es n).hash) L i) (trl_lt _ _ _) (by simp [hi.1]) (fun y hy hp => by
      have hy' : c y = (n : Int) := by simpa using hp
      exact h.inj _ _ hy (trl_lt _ _ _) (by omega) (by rw [hy', hi.1]))]
    rfl
  · rw [if_neg hl, cnt_none (fun x hx => ?_)]
    · rfl
    · simp
      intro e
      rcases h.val x hx with y | y | ⟨m, _, y, hm⟩
      · omega
      · omega
      · have : m = n := by omega
        subst this
        exact hl hm
theorem deadN_take {es : List En} {k : Nat} (h : k < es.length) : deadN (es.take (k + 1)) = deadN (es.take k) + if (nth es k).live = true then 0 else 1 := by
  rw [take_succ_nth h, deadN_app]
  by_cases e : (nth es k).live = true
  · simp [deadN, e]
  · simp [deadN, e]
/-- Where the first loop stands. -/
structure Rm1 (w3 : World) (hs n : Nat) (c : Nat → Int) (k : Nat) (wr : World) : Prop where
  row : Row1 wr hs n (seenF c k)
  bt : But hs w3 wr
set_option maxRecDepth 100000 in
set_option maxHeartbeats 8000000 in
theorem room_walk (a0 : Option Addr) (n0 c0 : Nat) (l : List Int) (a1 : Option Addr) (n1 c1 : Nat) (ks : List Int) (w : World) (h0 : SlI w a0 n0 c0 l) (h1 : SlI w a1 n1 c1 ks) :
    Calls Try.prog 3 #[.slice a0 n0 c0, .slice a1 n1 c1] w fun e w' => e = .returned (.bool true) ∧ Below w.heap.size w w' := by
  have m0 := h0.2.1
  have m1 := h1.2.1
  rw [← h0.1] at m0
  rw [← h1.1] at m1
  by_cases hb : n0 ≤ 300 ∧ n1 ≤ 300
  case neg =>
    have CW := awake7_any w
    by_cases hb0 : n0 ≤ 300
    · have t0 : ¬ (300 : Int) < (n0 : Int) := by omega
      have t1 : (300 : Int) < (n1 : Int) := by omega
      clear h0 h1 hb
      go_enter Try.func3, Try.ntmps3
      go_wp2_with fail
      refine CW.mono ?_
      rintro e w' ⟨rfl, hB⟩
      clear CW
      go_wp2
      go_ret
      exact ⟨rfl, hB⟩
    · have t0 : (300 : Int) < (n0 : Int) := by omega
      clear h0 h1 hb
      go_enter Try.func3, Try.ntmps3
      go_wp2_with fail
      refine CW.mono ?_
      rintro e w' ⟨rfl, hB⟩
      clear CW
      go_wp2
      go_ret
      exact ⟨rfl, hB⟩
  case pos =>
    obtain ⟨hb0, hb1⟩ := hb
    have t0 : ¬ (300 : Int) < (n0 : Int) := by omega
    have t1 : ¬ (300 : Int) < (n1 : Int) := by omega
    have CL := laid_any h0 h1 hb0
    obtain ⟨i0, hi, hz0, hz1, hz2⟩ := info_parts Try.infoI
    clear h0 h1
    go_enter Try.func3, Try.ntmps3
    go_wp2_with fail
    refine CL.mono ?_
    rintro e w1 ⟨g, gi, r, h, ev, wv, t, ws, rfl, hL⟩
    clear CL
    have hfew := hL.ld.ok.few
    have hbi := hL.ld.bi
    have CS := dsight_any hL.dt (by omega)
    have hB1 := hL.bl
    have HI := Lib.hid hL.ld.ok.inv
    have hsz := hL.ld.ok.sz
    have hel : t.es.length ≤ 300 := by omega
    clear hL hbi hfew
    go_wp2_with fail
    refine CS.mono ?_
    rintro e w2 ⟨hc, ev', rfl, hSg, hB2⟩
    clear CS
    unfold sgV
    have hs1 := hB1.size
    have hs2 := hB2.size
    have hBW : Below w.heap.size w w2 := hB1.trans (hB2.mono hs1)
    obtain ⟨ae, cape, ge, hev, hae, hro⟩ := hSg.es.es.open
    rw [shw_len] at hev hae hro
    have hcap := hro.le
    have hlc := hSg.row.lt
    have hlt := hSg.es.es.lt
    have HROW := Lib.hid hSg.row
    have HRO := Lib.hid hro
    have HAE := Lib.hid hae
    have HLT := Lib.hid hlt
    have HEV := Lib.hid hev
    subst hev
    clear hSg hro hae hlt
    have hS8 : 8 ≤ 2 ^ t.L := Nat.le_trans (by decide) (Nat.pow_le_pow_right (n := 2) (by decide) hsz.1)
    have hSm : 2 ^ t.L ≤ 1048576 := Nat.le_trans (Nat.pow_le_pow_right (n := 2) (by decide) hsz.2) (by decide)
    have e121 : IntKind.i64.wrap ((2 : Int) ^ t.L) = ((2 ^ t.L : Nat) : Int) := by
      rw [show ((2 : Int) ^ t.L) = ((2 ^ t.L : Nat) : Int) by push_cast; rfl]
      generalize 2 ^ t.L = P at hSm
      exact i64_small (by omega) (by omega)
    generalize hSS : 2 ^ t.L = S at *
    have HSS := Lib.hid hSS
    clear hSS
    obtain ⟨w3, hw3⟩ : ∃ y, w2.alloc (.cells #[.int .i64 (t.L : Int), .int .i64 (wd t.L : Int), .slice (some ⟨hc, 0, none⟩) S S, .slice ae t.es.length cape, .int .i64 (t.live : Int), .int .i64 (t.births : Int), .int .i64 (t.made : Int)] 29) = y := ⟨_, rfl⟩
    have hX3 : Blk w3 w2.heap.size 7 (fun j => #[Value.int .i64 (t.L : Int), .int .i64 (wd t.L : Int), .slice (some ⟨hc, 0, none⟩) S S, .slice ae t.es.length cape, .int .i64 (t.live : Int), .int .i64 (t.births : Int), .int .i64 (t.made : Int)].getD j .nilFunc) := by rw [← hw3]; exact Blk.new w2 _ _
    have hB3 : Below w2.heap.size w2 w3 := by rw [← hw3]; exact (Below.refl _ w2).alloc (Nat.le_refl _) _
    have hs3 : w3.heap.size = w2.heap.size + 1 := by rw [← hw3]; simp
    obtain ⟨w4, hmk, hown4, hgrow4⟩ := run_makeSlice_full (P := Try.prog) w3 w.heap.size 22 3 i0 (.int .i64 0) 1 Try.underlying22 hi hz0 hz1 .i64 .i64 t.es.length (by omega) (by rw [hz2]; omega) (by unfold maxLen; omega) (by omega)
    have hB4 : Below w3.heap.size w3 w4 := (Below.refl _ w3).grown hgrow4 (Nat.le_refl _) (fun k e => by cases e)
    have hRow4 : Row1 w4 w3.heap.size t.es.length (fun _ => 0) := row1_made hown4
    rw [hs3] at hmk hRow4
    have HW3 := Lib.hid hw3
    have HX4 := Lib.hid (hX3.same (hB4.block _ (by omega)))
    have hs4 := hB4.size
    have hl4 := hRow4.lt
    have HB4 : Hid (Below w.heap.size w w4) := hBW.trans ((hB3.trans (hB4.mono (by omega))).mono (by omega))
    have HROW4 : Hid (Row1 w4 hc S t.c) := HROW.out.same ((hB4.block _ (by omega)).trans (hB3.block _ hlc))
    have HR0 : Hid (Rm1 w4 (w2.heap.size + 1) t.es.length t.c 0 w4) := ⟨hRow4, But.refl _ _⟩
    have HRO4 : Hid (Ro w4 ge t.es.length cape (shw t.es) ∧ (0 < t.es.length → ge < w2.heap.size ∧ ae = some ⟨ge, 0, none⟩)) := by
      refine ⟨?_, fun h => ⟨HLT.out ge (HAE.out h).2.1, (HAE.out h).1⟩⟩
      have key : ∀ n o, n < t.es.length → w4.cell? ⟨ge, o, none⟩ = w2.cell? ⟨ge, o, none⟩ := fun n o hn => by
        have hg := HLT.out ge (HAE.out (by omega)).2.1
        exact (hB4.cell (p := ⟨ge, o, none⟩) (by show ge < _; omega)).trans (hB3.cell (p := ⟨ge, o, none⟩) hg)
      exact ⟨HRO.out.le, fun n hn => (key n _ hn).trans (HRO.out.c0 n hn), fun n hn => (key n _ hn).trans (HRO.out.c1 n hn), fun n hn => (key n _ hn).trans (HRO.out.c2 n hn), fun n hn => (key n _ hn).trans (HRO.out.c3 n hn), fun n hn => (key n _ hn).trans (HRO.out.c4 n hn)⟩
    have x3r : (w2.alloc (.cells #[.int .i64 (t.L : Int), .int .i64 (wd t.L : Int), .slice (some ⟨hc, 0, none⟩) S S, .slice ae t.es.length cape, .int .i64 (t.live : Int), .int .i64 (t.births : Int), .int .i64 (t.made : Int)] 29)).cell? ⟨w2.heap.size, 3, none⟩ = some (.slice ae t.es.length cape) := by rw [hw3]; exact hX3.c 3 (by omega)
    rw [← hw3] at hmk
    clear hw3 hX3 hown4 hgrow4 hRow4 HROW HRO HAE HLT HEV
    go_wp2_with fail
    go_loopw [9, 10, 12, 13] (fun ev dv iv _ wr => ∃ k : Nat, k ≤ S ∧ iv = .int .i64 (k : Int) ∧ ev = .int .i64 ((cnt (fun x => t.c x == -1) k : Nat) : Int) ∧ dv = .int .i64 ((cnt (fun x => t.c x == -2) k : Nat) : Int) ∧ Rm1 w4 (w2.heap.size + 1) t.es.length t.c k wr) (fun _ _ iv _ _ => S - (intOf iv).toNat)
    case atStart => exact ⟨0, Nat.zero_le _, rfl, rfl, rfl, HR0.out⟩
    case round =>
      clear hmk x3r
      obtain ⟨k, hk, rfl, rfl, rfl, hR⟩ := hrel
      have HR := Lib.hid hR
      have keyB : ∀ o, wr.cell? ⟨w2.heap.size, o, none⟩ = w4.cell? ⟨w2.heap.size, o, none⟩ := fun o => hR.bt.cell (p := ⟨w2.heap.size, o, none⟩) (by show w2.heap.size < _; omega) (by show w2.heap.size ≠ _; omega)
      have y2 : wr.cell? ⟨w2.heap.size, 2, none⟩ = some (.slice (some ⟨hc, 0, none⟩) S S) := (keyB 2).trans (HX4.out.c 2 (by omega))
      have y3 : wr.cell? ⟨w2.heap.size, 3, none⟩ = some (.slice ae t.es.length cape) := (keyB 3).trans (HX4.out.c 3 (by omega))
      have y0 : wr.cell? ⟨w2.heap.size, 0, none⟩ = some (.int .i64 (t.L : Int)) := (keyB 0).trans (HX4.out.c 0 (by omega))
      have hc1 := cnt_le (fun x => t.c x == -1) k
      have hc2 := cnt_le (fun x => t.c x == -2) k
      clear hR keyB
      by_cases hlt : k < S
      · have tk : (k : Int) < (S : Int) := by omega
        have yc : wr.cell? ⟨hc, k, none⟩ = some (.int .i64 (t.c k)) := (HR.out.bt.cell (p := ⟨hc, k, none⟩) (by show hc < _; omega) (by show hc ≠ _; omega)).trans (HROW4.out.cell k hlt)
        have w1' : IntKind.i64.wrap (((cnt (fun x => t.c x == -1) k : Nat) : Int) + 1) = ((cnt (fun x => t.c x == -1) k : Nat) : Int) + 1 := i64_small (by omega) (by omega)
        have w2' : IntKind.i64.wrap (((cnt (fun x => t.c x == -2) k : Nat) : Int) + 1) = ((cnt (fun x => t.c x == -2) k : Nat) : Int) + 1 := i64_small (by omega) (by omega)
        rcases HI.out.val k (by rw [HSS.out]; exact hlt) with hv | hv | ⟨n, hn, hv, hlv⟩
        · have HN : Hid (((cnt (fun x => t.c x == -1) (k + 1) : Nat) : Int) = ((cnt (fun x => t.c x == -1) k : Nat) : Int) + 1 ∧ cnt (fun x => t.c x == -2) (k + 1) = cnt (fun x => t.c x == -2) k ∧ Rm1 w4 (w2.heap.size + 1) t.es.length t.c (k + 1) wr) := by
            refine ⟨by rw [cnt, if_pos (by simp [hv]), Int.natCast_add]; rfl, by rw [cnt, if_neg (by simp [hv]), Nat.add_zero], ?_, HR.out.bt⟩
            rw [← seenF_miss (by omega)]
            exact HR.out.row
          rw [hv] at yc
          clear hv
          generalize cnt (fun x => t.c x == -1) k = A at *
          generalize cnt (fun x => t.c x == -2) k = D at *
          go_wp2_with fail
          go_roundw
          case rel => exact ⟨k + 1, by omega, by go_num, by rw [HN.out.1], by rw [HN.out.2.1], HN.out.2.2⟩
          case measure => simp [intOf]; omega
        · have HN : Hid (((cnt (fun x => t.c x == -2) (k + 1) : Nat) : Int) = ((cnt (fun x => t.c x == -2) k : Nat) : Int) + 1 ∧ cnt (fun x => t.c x == -1) (k + 1) = cnt (fun x => t.c x == -1) k ∧ Rm1 w4 (w2.heap.size + 1) t.es.length t.c (k + 1) wr) := by
            refine ⟨by rw [cnt, if_pos (by simp [hv]), Int.natCast_add]; rfl, by rw [cnt, if_neg (by simp [hv]), Nat.add_zero], ?_, HR.out.bt⟩
            rw [← seenF_miss (by omega)]
            exact HR.out.row
          rw [hv] at yc
          clear hv
          generalize cnt (fun x => t.c x == -1) k = A at *
          generalize cnt (fun x => t.c x == -2) k = D at *
          go_wp2_with fail
          go_roundw
          case rel => exact ⟨k + 1, by omega, by go_num, by rw [HN.out.2.1], by rw [HN.out.1], HN.out.2.2⟩
          case measure => simp [intOf]; omega
        · have yn := HR.out.row.cell n hn
          have zn := HR.out.row.free n
          have hsn : 0 ≤ seenF t.c k n ∧ seenF t.c k n ≤ (k : Int) := by unfold seenF; have := cnt_le (fun x => t.c x == (n : Int)) k; omega
          have w3' : IntKind.i64.wrap (seenF t.c k n + 1) = seenF t.c k n + 1 := i64_small (by omega) (by omega)
          have HN : Hid (cnt (fun x => t.c x == -1) (k + 1) = cnt (fun x => t.c x == -1) k ∧ cnt (fun x => t.c x == -2) (k + 1) = cnt (fun x => t.c x == -2) k ∧ Rm1 w4 (w2.heap.size + 1) t.es.length t.c (k + 1) (wr.setCell ⟨w2.heap.size + 1, n, none⟩ (.int .i64 (seenF t.c k n + 1)))) := by
            refine ⟨by rw [cnt, if_neg (by rw [hv, beq_iff_eq]; omega), Nat.add_zero], by rw [cnt, if_neg (by rw [hv, beq_iff_eq]; omega), Nat.add_zero], ?_, HR.out.bt.setCell _ _⟩
            rw [← seenF_hit hv]
            exact HR.out.row.put n _
          rw [hv] at yc
          have tn : (n : Int) < (t.es.length : Int) := by omega
          have tn1 : ¬ (t.es.length : Int) ≤ (n : Int) := by omega
          have tn2 : ¬ (n : Int) < 0 := by omega
          have tn3 : ((n : Int) == -1) = false := by rw [beq_eq_false_iff_ne]; omega
          have tn4 : ((n : Int) == -2) = false := by rw [beq_eq_false_iff_ne]; omega
          clear hv hlv hsn
          generalize seenF t.c k n = sv at *
          generalize cnt (fun x => t.c x == -1) k = A at *
          generalize cnt (fun x => t.c x == -2) k = D at *
          go_wp2_with fail
          go_roundw
          case rel => exact ⟨k + 1, by omega, by go_num, by rw [HN.out.1], by rw [HN.out.2.1], HN.out.2.2⟩
          case measure => simp [intOf]; omega
      · obtain rfl : k = S := by omega
        have tk : ¬ (k : Int) < (k : Int) := by omega
        have hth : k ≤ 3 * cnt (fun x => t.c x == -1) k := by have := HI.out.third; rwa [HSS.out] at this
        have hdd : cnt (fun x => t.c x == -2) k = deadN t.es := by have := HI.out.dead; rwa [HSS.out] at this
        have HSN : Hid (∀ n, n < t.es.length → seenF t.c k n = if (nth t.es n).live = true then 1 else 0) := fun n hn => by have := seen_live HI.out hn; rwa [HSS.out] at this
        have HB5 : Hid (Below w.heap.size w wr) := HB4.out.trans (HR.out.bt.below (by omega) HB4.out.size)
        rw [hdd]
        clear hdd hc2
        generalize cnt (fun x => t.c x == -1) k = A at *
        go_wp2_with fail
        generalize wr = wA at *
        go_loopw [14, 15] (fun gv iv wr => ∃ j : Nat, j ≤ t.es.length ∧ iv = .int .i64 (j : Int) ∧ gv = .int .i64 ((deadN (t.es.take j) : Nat) : Int) ∧ Below wA.heap.size wA wr) (fun _ iv _ => t.es.length - (intOf iv).toNat)
        case atStart => exact ⟨0, Nat.zero_le _, rfl, rfl, Below.refl _ _⟩
        case round =>
          obtain ⟨j, hj, rfl, rfl, hBj⟩ := hrel
          have hszr : w2.heap.size + 1 < wA.heap.size := HR.out.row.lt
          have keyW : ∀ b o, b < wA.heap.size → wr.cell? ⟨b, o, none⟩ = wA.cell? ⟨b, o, none⟩ := fun b o hb => hBj.cell (p := ⟨b, o, none⟩) hb
          have v3 := (keyW w2.heap.size 3 (by omega)).trans y3
          have v0 := (keyW w2.heap.size 0 (by omega)).trans y0
          have v2 := (keyW w2.heap.size 2 (by omega)).trans y2
          have hdj := deadN_le (t.es.take j)
          rw [List.length_take] at hdj
          by_cases hjl : j < t.es.length
          · have tj : (j : Int) < (t.es.length : Int) := by omega
            obtain ⟨hge, hae⟩ := HRO4.out.2 (by omega)
            have vs := (keyW (w2.heap.size + 1) j hszr).trans (HR.out.row.cell j hjl)
            rw [HSN.out j hjl] at vs
            have vl : wr.cell? ⟨ge, j * 5, none⟩ = some (.bool (nth t.es j).live) := by
              rw [show (nth t.es j).live = (nth (shw t.es) j).live by rw [nth_shw, En.shown_is]]
              exact ((keyW ge _ (by omega)).trans (HR.out.bt.cell (p := ⟨ge, j * 5, none⟩) (by show ge < _; omega) (by show ge ≠ _; omega))).trans (HRO4.out.1.c0 j hjl)
            have hdn := deadN_take hjl
            have HBJ := Lib.hid hBj.drew
            have wd1 : IntKind.i64.wrap (((deadN (t.es.take j) : Nat) : Int) + 1) = ((deadN (t.es.take j) : Nat) : Int) + 1 := i64_small (by omega) (by omega)
            subst hae
            clear keyW hBj
            by_cases hlv : (nth t.es j).live = true
            · rw [hlv] at vl
              rw [if_pos hlv] at vs hdn
              have HDN := Lib.hid hdn
              clear hdn hlv
              generalize deadN (t.es.take j) = Dj at *
              go_wp2_with fail
              go_region_held3 (fun V => V.cell? ⟨w2.heap.size, 3, none⟩ = some (.slice (some ⟨ge, 0, none⟩) t.es.length cape) ∧ V.cell? ⟨ge, j * 5, none⟩ = some (.bool true) ∧ V.cell? ⟨w2.heap.size + 1, j, none⟩ = some (.int .i64 1))
                (first | exact ⟨v3, vl, vs⟩ | fail) (fail)
              go_wp2_with fail
              go_roundw
              case rel => exact ⟨j + 1, by omega, by go_num, by rw [HDN.out]; rfl, HBJ.out⟩
              case measure => simp [intOf]; omega
            · have hlf : (nth t.es j).live = false := by simpa using hlv
              rw [hlf] at vl
              rw [if_neg hlv] at vs hdn
              have HDN := Lib.hid hdn
              clear hdn hlv hlf
              generalize deadN (t.es.take j) = Dj at *
              go_wp2_with fail
              go_region_held3 (fun V => V.cell? ⟨w2.heap.size, 3, none⟩ = some (.slice (some ⟨ge, 0, none⟩) t.es.length cape) ∧ V.cell? ⟨ge, j * 5, none⟩ = some (.bool false) ∧ V.cell? ⟨w2.heap.size + 1, j, none⟩ = some (.int .i64 0))
                (first | exact ⟨v3, vl, vs⟩ | fail) (fail)
              go_wp2_with fail
              go_roundw
              case rel => exact ⟨j + 1, by omega, by go_num, by rw [HDN.out, Int.natCast_add]; rfl, HBJ.out⟩
              case measure => simp [intOf]; omega
          · obtain rfl : j = t.es.length := by omega
            have tj : ¬ (t.es.length : Int) < (t.es.length : Int) := by omega
            rw [List.take_length]
            have hdN := deadN_le t.es
            have eA : IntKind.i64.wrap (3 * (A : Int)) = 3 * (A : Int) := i64_small (by omega) (by omega)
            have tA : (k : Int) ≤ 3 * (A : Int) := by omega
            have tL : (3 : Int) ≤ (t.L : Int) := by omega
            have CW := awake7_any wr.drew
            have HBJ : Hid (Below w.heap.size w wr.drew) := (HB5.out.trans (hBj.mono HB5.out.size)).drew
            have d0 : wr.drew.cell? ⟨w2.heap.size, 0, none⟩ = some (.int .i64 (t.L : Int)) := v0
            have d2 : wr.drew.cell? ⟨w2.heap.size, 2, none⟩ = some (.slice (some ⟨hc, 0, none⟩) k k) := v2
            have hszd : w2.heap.size < wr.drew.heap.size := by have := hBj.size; show w2.heap.size < wr.heap.size; omega
            clear keyW hBj hdj
            generalize deadN t.es = Dn at *
            go_wp2_with fail
            go_region_held3 (fun V => V.cell? ⟨w2.heap.size, 0, none⟩ = some (.int .i64 (t.L : Int)) ∧ V.cell? ⟨w2.heap.size, 2, none⟩ = some (.slice (some ⟨hc, 0, none⟩) k k))
              (first | with_reducible exact ⟨d0, d2⟩ | with_reducible exact ⟨v0, v2⟩ | with_reducible exact ⟨q0, q2⟩ | fail)
              (first | (go_at_call 7; refine CW.mono ?_; rintro e w6 ⟨rfl, hb6⟩; have q0 := (hb6.cell (p := ⟨w2.heap.size, 0, none⟩) hszd).trans d0; have q2 := (hb6.cell (p := ⟨w2.heap.size, 2, none⟩) hszd).trans d2) | fail)
            go_wp2
            go_ret
            exact ⟨rfl, HBJ.out.trans (hb6.mono HBJ.out.size)⟩
end Go.Proofs.Ythaijfjodfgbnab
