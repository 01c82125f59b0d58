/-
  TableOnce.
-/
import Derived.Test.YthaijfjodfgbnabLdLaid
import Derived.Test.YthaijfjodfgbnabDtNext2
import Derived.Test.YthaijfjodfgbnabLwOnceV
namespace Go.Proofs.Ythaijfjodfgbnab
open Go.RowKit Go.WideShapes

theorem liveL_all {es : List En} (h : deadN es = 0) : liveL es = es := by
  induction es with
  | nil => rfl
  | cons e r ih =>
    rw [deadN] at h
    by_cases x : e.live = true
    · rw [if_pos x] at h
      rw [liveL, if_pos x, ih (by omega)]
    · rw [if_neg x] at h
      omega
theorem en_ne (x y : En) (w : World) : (binOp .neq 32 (lnV x) (lnV y)).run Try.prog w = .ok (.bool (!enE x y)) w := by
  have h := en_eq x y w
  unfold lnV at h ⊢
  rw [run_eql_struct] at h
  rw [run_neq_struct]
  cases hr : (Op.equalIn 10000 32 (.agg #[.bool x.live, .int .i64 x.hash, .int .i64 x.key, .int .i64 x.value, .int .i64 x.birth]) (.agg #[.bool y.live, .int .i64 y.hash, .int .i64 y.key, .int .i64 y.value, .int .i64 y.birth])).run Try.prog w with
  | ok b w' =>
    rw [hr] at h
    simp [Result.andThen] at h ⊢
    obtain ⟨rfl, rfl⟩ := h
    exact ⟨rfl, rfl⟩
  | halt a w' => rw [hr] at h; simp [Result.andThen] at h
theorem sg_field0 (l : Int) (v1 v2 v3 v4 v5 v6 : Value) (w : World) : (Instr.field 29 (.agg #[.int .i64 l, v1, v2, v3, v4, v5, v6]) 0).run Try.prog w = .ok (.int .i64 l) w := by kernel_rfl
/-- The first search of a hash that hits in the first cell. -/
theorem once_hit {es : List En} {L : Nat} {c : Nat → Int} (hI : Inv es L c) (hl : ∀ n, n < es.length → (nth es n).live = true) (hf : ∀ m n, m < n → n < es.length → trl (uw (nth es m).hash) L 0 ≠ trl (uw (nth es n).hash) L 0) (hd : deadN es = 0) {i : Nat} (hi : i < es.length) {j n : Nat} (hO : Of es (nth es i).hash n) (hT : Told es L c (nth es i).hash j (-1)) : n = i ∧ j = 0 := by
  have h0 := hI.once hd hl hf i hi
  refine ⟨?_, ?_⟩
  · rcases Nat.lt_trichotomy n i with z | z | z
    · exact absurd (by rw [hO.2.2]) (hf n i z hi)
    · exact z
    · exact absurd (by rw [hO.2.2]) (hf i n z hO.1)
  · have hp : Pos es L c i 0 := ⟨h0, fun q hq => absurd hq (Nat.not_lt_zero _)⟩
    have := hT i ⟨hi, hl i hi, rfl⟩ 0 hp
    rcases Nat.eq_zero_or_pos j with z | z
    · exact z
    · have := this.1 z
      omega
set_option maxRecDepth 100000 in
set_option maxHeartbeats 8000000 in
theorem once_walk (a0 : Option Addr) (n0 c0 : Nat) (l : List Int) (w : World) (h0 : SlI w a0 n0 c0 l) :
    Calls Try.prog 5 #[.slice a0 n0 c0] w fun e w' => e = .returned (.bool true) ∧ Below w.heap.size w w' := by
  have m0 := h0.2.1
  rw [← h0.1] at m0
  by_cases hb0 : n0 ≤ 300
  case neg =>
    have CW := awake7_any w
    have t0 : (300 : Int) < (n0 : Int) := by omega
    clear h0
    go_enter Try.func5, Try.ntmps5
    go_wp2_with fail
    refine CW.mono ?_
    rintro e w' ⟨rfl, hB⟩
    clear CW
    go_wp2
    go_ret
    exact ⟨rfl, hB⟩
  case pos =>
    have t0 : ¬ (300 : Int) < (n0 : Int) := by omega
    have CL := laid_any2 h0 (show SlI w none 0 0 [] from ⟨rfl, Nat.le_refl _, 0, 0, fun h => absurd h (by simp), fun j h => absurd h (by simp)⟩) hb0
    clear h0
    go_enter Try.func5, Try.ntmps5
    go_wp2_with fail
    refine CL.mono ?_
    rintro e w1 ⟨g, gi, r, h, ev, wv, t, ws, rfl, hNK, hL⟩
    clear CL
    have hws := hNK (by first | rfl | trivial)
    have hll := liveL_len t.es
    have hfew := hL.ld.ok.few
    have hbi := hL.ld.bi
    have heq := hL.ld.eq
    rw [heq, hws] at hll
    have hdn : deadN t.es = 0 := by omega
    have hwe : ws = t.es := by rw [← heq]; exact liveL_all hdn
    subst hwe
    have hel : t.es.length ≤ 300 := by omega
    have HLv : Hid (∀ n, n < t.es.length → (nth t.es n).live = true) := fun n hn => hL.ld.live n hn
    have HI := Lib.hid hL.ld.ok.inv
    have HDN := Lib.hid hdn
    have CS := dsight_any hL.dt (by omega)
    have HD := Lib.hid hL.dt
    have HWT := Lib.hid hL.wt
    have HB1 := Lib.hid hL.bl
    have hFR := hL.fr
    obtain ⟨aw, capw, gw, hwv, haw, hrw⟩ := hL.wt.es.open
    have hltW := hL.wt.es.lt
    subst hwv
    have hcapw := hrw.le
    have HRW := Lib.hid hrw
    have HAW : Hid (0 < t.es.length → aw = some ⟨gw, 0, none⟩ ∧ gw < w1.heap.size) := fun h => ⟨(haw h).1, hltW gw (haw h).2.1⟩
    have hSz : Tr.Sz t.L (2 ^ t.L) := ⟨rfl, hL.ld.ok.sz.2⟩
    clear hL hNK heq hll hfew hbi hdn hws hrw haw hltW
    go_wp2_with fail
    refine CS.mono ?_
    rintro e w2 ⟨hc, ev1, rfl, hSg, hB2⟩
    clear CS
    unfold sgV
    have hfd := sg_field0 (t.L : Int) (.int .i64 (wd t.L : Int)) (.slice (some ⟨hc, 0, none⟩) (2 ^ t.L) (2 ^ t.L)) ev1 (.int .i64 (t.live : Int)) (.int .i64 (t.births : Int)) (.int .i64 (t.made : Int))
    have hs2 := hB2.size
    have CF : Hid (∀ V u, Calls Try.prog 14 #[.int .i64 u, .int .i64 (t.L : Int)] V fun e w' => e = .returned (.int .i64 ((trl (uw u) t.L 0 : Nat) : Int)) ∧ w' = V) := fun V u => by
      have := Tr.rfirst_any u (t.L : Int) V
      rwa [Tr.firstZ_yes u hSz, show uw u % 2 ^ t.L = trl (uw u) t.L 0 by rw [trl]] at this
    clear hSg hSz
    generalize (2 ^ t.L : Nat) = S0 at *
    go_wp2_with fail
    clear hfd
    go_loopw [7, 8] (fun iv _ wr => ∃ i : Nat, i ≤ t.es.length ∧ iv = .int .i64 (i : Int) ∧ Hid (∀ m n, m < n → n < i → trl (uw (nth t.es m).hash) t.L 0 ≠ trl (uw (nth t.es n).hash) t.L 0) ∧ Below w1.heap.size w1 wr) (fun iv _ _ => t.es.length - (intOf iv).toNat)
    case atStart => exact ⟨0, Nat.zero_le _, rfl, fun m n _ h => absurd h (Nat.not_lt_zero _), hB2⟩
    case round =>
      obtain ⟨i, hi, rfl, HF, hBi⟩ := hrel
      clear hB2
      by_cases hil : i < t.es.length
      · have ti : (i : Int) < (t.es.length : Int) := by omega
        generalize wr = wA at *
        go_wp2_with fail
        go_loopw [8] (fun kv wr => ∃ k : Nat, k ≤ i ∧ kv = .int .i64 (k : Int) ∧ Hid (∀ m, m < k → trl (uw (nth t.es m).hash) t.L 0 ≠ trl (uw (nth t.es i).hash) t.L 0) ∧ Below w1.heap.size w1 wr) (fun kv _ => i - (intOf kv).toNat)
        case atStart => exact ⟨0, Nat.zero_le _, rfl, fun m h => absurd h (Nat.not_lt_zero _), hBi⟩
        case round =>
          obtain ⟨k, hk, rfl, HG, hBk⟩ := hrel
          clear hBi
          by_cases hkl : k < i
          · have tk : (k : Int) < (i : Int) := by omega
            have tkl : (k : Int) < (t.es.length : Int) := by omega
            obtain ⟨haw, hgw⟩ := HAW.out (by omega)
            have ci := (hBk.cell (p := ⟨gw, i * 5 + 1, none⟩) hgw).trans (HRW.out.c1 i hil)
            have ck := (hBk.cell (p := ⟨gw, k * 5 + 1, none⟩) hgw).trans (HRW.out.c1 k (by omega))
            subst haw
            have HBd := Lib.hid hBk.drew
            have CFi := CF.out wr.drew (nth t.es i).hash
            have CFk := CF.out wr.drew (nth t.es k).hash
            clear hBk
            by_cases hxe : trl (uw (nth t.es i).hash) t.L 0 = trl (uw (nth t.es k).hash) t.L 0
            · rw [hxe] at CFi
              have CW := awake7_any wr.drew
              generalize trl (uw (nth t.es k).hash) t.L 0 = xk at *
              generalize (nth t.es i).hash = zi at *
              generalize (nth t.es k).hash = zk at *
              clear hxe
              go_wp2_with fail
              go_region_held3 (fun V => V.cell? ⟨gw, i * 5 + 1, none⟩ = some (.int .i64 zi) ∧ V.cell? ⟨gw, k * 5 + 1, none⟩ = some (.int .i64 zk))
                (first | exact ⟨ci, ck⟩ | fail)
                (first | (go_at_call_of 14 (Value.int .i64 zi); refine CFi.mono ?_; rintro e v2 ⟨rfl, rfl⟩) | (go_at_call_of 14 (Value.int .i64 zk); refine CFk.mono ?_; rintro e v2 ⟨rfl, rfl⟩) | fail)
              go_wp2_with fail
              refine CW.mono ?_
              rintro e w6 ⟨rfl, hb6⟩
              clear CW
              go_wp2
              go_ret
              exact ⟨rfl, (HB1.out.trans (HBd.out.mono HB1.out.size)).trans (hb6.mono (Nat.le_trans HB1.out.size HBd.out.size))⟩
            · have HG2 : Hid (∀ m, m < k + 1 → trl (uw (nth t.es m).hash) t.L 0 ≠ trl (uw (nth t.es i).hash) t.L 0) := fun m h1 => by
                rcases Nat.lt_or_ge m k with z | z
                · exact HG.out m z
                · rw [show m = k by omega]
                  exact fun e => hxe e.symm
              have tne : (((trl (uw (nth t.es i).hash) t.L 0 : Nat) : Int) == ((trl (uw (nth t.es k).hash) t.L 0 : Nat) : Int)) = false := by rw [beq_eq_false_iff_ne]; omega
              generalize trl (uw (nth t.es k).hash) t.L 0 = xk at *
              generalize trl (uw (nth t.es i).hash) t.L 0 = xi at *
              generalize (nth t.es i).hash = zi at *
              generalize (nth t.es k).hash = zk at *
              clear hxe
              go_wp2_with fail
              go_region_held3 (fun V => V.cell? ⟨gw, i * 5 + 1, none⟩ = some (.int .i64 zi) ∧ V.cell? ⟨gw, k * 5 + 1, none⟩ = some (.int .i64 zk))
                (first | exact ⟨ci, ck⟩ | fail)
                (first | (go_at_call_of 14 (Value.int .i64 zi); refine CFi.mono ?_; rintro e v2 ⟨rfl, rfl⟩) | (go_at_call_of 14 (Value.int .i64 zk); refine CFk.mono ?_; rintro e v2 ⟨rfl, rfl⟩) | fail)
              go_wp2_with fail
              go_roundw
              case rel => exact ⟨k + 1, by omega, by go_num, HG2, HBd.out⟩
              case measure => simp [intOf]; omega
          · obtain rfl : k = i := by omega
            have tk : ¬ (k : Int) < (k : Int) := by omega
            have HF2 : Hid (∀ m n, m < n → n < k + 1 → trl (uw (nth t.es m).hash) t.L 0 ≠ trl (uw (nth t.es n).hash) t.L 0) := fun m n h1 h2 => by
              rcases Nat.lt_or_ge n k with z | z
              · exact HF.out m n h1 z
              · rw [show n = k by omega] at h1 ⊢
                exact HG.out m h1
            go_wp2_with fail
            go_roundw
            case rel => exact ⟨k + 1, by omega, by go_num, HF2, hBk⟩
            case measure => simp [intOf]; omega
      · obtain rfl : i = t.es.length := by omega
        have ti : ¬ (t.es.length : Int) < (t.es.length : Int) := by omega
        generalize wr = wA at *
        go_wp2_with fail
        go_loopw [9, 10, 11, 12, 13, 14] (fun iv _ _ _ _ _ wr => ∃ i : Nat, i ≤ t.es.length ∧ iv = .int .i64 (i : Int) ∧ Below w1.heap.size w1 wr) (fun iv _ _ _ _ _ _ => t.es.length - (intOf iv).toNat)
        case atStart => exact ⟨0, Nat.zero_le _, rfl, hBi⟩
        case round =>
          clear hBi
          obtain ⟨i, hi, rfl, hBi⟩ := hrel
          have hsr := hBi.size
          by_cases hil : i < t.es.length
          · have ti : (i : Int) < (t.es.length : Int) := by omega
            obtain ⟨haw, hgw⟩ := HAW.out (by omega)
            subst haw
            have c1' := (hBi.cell (p := ⟨gw, i * 5 + 1, none⟩) hgw).trans (HRW.out.c1 i hil)
            have CK := seek_any (HD.out.below hBi) (nth t.es i).hash
            go_wp2_with fail
            refine CK.mono ?_
            rintro e w3 ⟨s, rfl, hss, hSk, hB3⟩
            clear CK
            have hB13 : Below w1.heap.size w1 w3 := hBi.trans (hB3.mono hsr)
            have hnd : ¬ dX g gi r h ev s := fun hx => by have := HD.out.lt s hx; omega
            have hD3 := HD.out.below hB13
            obtain ⟨f, hf1, hf2⟩ := HI.out.first (nth t.es i).hash
            have CN := next7_any hD3 HI.out mtOk_nil mvOk_nil (a := 0) (b := 0) trivial (by decide) hSk hnd (fun hm => by cases hm) (by decide) (told_zero _ _ _ _) hf2 hf1 (Nat.zero_le _) (Int.le_refl _) (by omega)
            clear hSk hD3 hf1 hf2
            go_wp2_with fail
            refine CN.mono ?_
            rintro e w4 ⟨j, _, _, (⟨n, rfl, hOf, _, _, hTj, _, _, hN⟩ | ⟨_, _, hall, _⟩)⟩
            · obtain ⟨rfl, rfl⟩ := once_hit HI.out HLv.out (fun m n h1 h2 => HF.out m n h1 h2) HDN.out hil hOf hTj
              have hb34 : Below w1.heap.size w3 w4 := hN.ex.below (fun k hk => hk.elim (fun e => by omega) (fun e => by cases e)) hB13.size
              have hB14 : Below w1.heap.size w1 w4 := hB13.trans hb34
              have CA := at7_yes (HD.out.below hB14) n hil (HLv.out n hil)
              have x7 : w4.cell? ⟨s, 7, none⟩ = some (.int .i64 1) := hN.sk.c 7 (by omega)
              have hls := hN.sk.lt (by omega)
              have hs14 := hB14.size
              have HRn : Hid (∀ V, Below w1.heap.size w1 V → V.cell? ⟨gw, n * 5, none⟩ = some (.bool (nth t.es n).live) ∧ V.cell? ⟨gw, n * 5 + 1, none⟩ = some (.int .i64 (nth t.es n).hash) ∧ V.cell? ⟨gw, n * 5 + 2, none⟩ = some (.int .i64 (nth t.es n).key) ∧ V.cell? ⟨gw, n * 5 + 3, none⟩ = some (.int .i64 (nth t.es n).value) ∧ V.cell? ⟨gw, n * 5 + 4, none⟩ = some (.int .i64 (nth t.es n).birth)) := fun V hV => by
                have key : ∀ o, V.cell? ⟨gw, o, none⟩ = w1.cell? ⟨gw, o, none⟩ := fun o => hV.cell (p := ⟨gw, o, none⟩) hgw
                exact ⟨(key _).trans (HRW.out.c0 n hil), (key _).trans (HRW.out.c1 n hil), (key _).trans (HRW.out.c2 n hil), (key _).trans (HRW.out.c3 n hil), (key _).trans (HRW.out.c4 n hil)⟩
              clear CN hN hOf hTj hb34 c1'
              generalize (nth t.es n).live = y0 at *
              generalize (nth t.es n).hash = y1 at *
              generalize (nth t.es n).key = y2 at *
              generalize (nth t.es n).value = y3 at *
              generalize (nth t.es n).birth = y4 at *
              go_wp2_with fail
              refine CA.mono ?_
              rintro e w5 ⟨rfl, hB5⟩
              clear CA
              obtain ⟨w6, hw6⟩ : ∃ y, w5.alloc (.cells #[.bool y0, .int .i64 y1, .int .i64 y2, .int .i64 y3, .int .i64 y4] 32) = y := ⟨_, rfl⟩
              have hB56 : Below w5.heap.size w5 w6 := by rw [← hw6]; exact (Below.refl _ w5).alloc (Nat.le_refl _) _
              have hX6 : Blk w6 w5.heap.size 5 (fun j => #[Value.bool y0, .int .i64 y1, .int .i64 y2, .int .i64 y3, .int .i64 y4].getD j .nilFunc) := by rw [← hw6]; exact Blk.new w5 _ _
              have hs5 := hB5.size
              have hs56 := hB56.size
              have hB16 : Below w1.heap.size w1 w6 := (hB14.trans (hB5.mono hs14)).trans (hB56.mono (by omega))
              obtain ⟨r0, r1, r2, r3, r4⟩ := HRn.out w6 hB16
              have b0 : w6.cell? ⟨w5.heap.size, 0, none⟩ = some (.bool y0) := hX6.c 0 (by omega)
              have b1 : w6.cell? ⟨w5.heap.size, 1, none⟩ = some (.int .i64 y1) := hX6.c 1 (by omega)
              have b2 : w6.cell? ⟨w5.heap.size, 2, none⟩ = some (.int .i64 y2) := hX6.c 2 (by omega)
              have b3 : w6.cell? ⟨w5.heap.size, 3, none⟩ = some (.int .i64 y3) := hX6.c 3 (by omega)
              have b4 : w6.cell? ⟨w5.heap.size, 4, none⟩ = some (.int .i64 y4) := hX6.c 4 (by omega)
              have x76 : w6.drew.cell? ⟨s, 7, none⟩ = some (.int .i64 1) := ((hB56.cell (p := ⟨s, 7, none⟩) (by show s < _; omega)).trans (hB5.cell (p := ⟨s, 7, none⟩) hls)).trans x7
              have CV := visited_any x76
              have HB16 := Lib.hid hB16.drew
              have HW6 := Lib.hid hw6
              clear hw6 hX6 hB16 hB56 hB5 HRn x7 x76
              go_upto_region 23 with fail
              rw [HW6.out]
              go_region_held3 (fun V => ((V.cell? ⟨gw, n * 5, none⟩ = some (.bool y0) ∧ V.cell? ⟨gw, n * 5 + 1, none⟩ = some (.int .i64 y1)) ∧ (V.cell? ⟨gw, n * 5 + 2, none⟩ = some (.int .i64 y2) ∧ V.cell? ⟨gw, n * 5 + 3, none⟩ = some (.int .i64 y3) ∧ V.cell? ⟨gw, n * 5 + 4, none⟩ = some (.int .i64 y4))) ∧ ((V.cell? ⟨w5.heap.size, 0, none⟩ = some (.bool y0) ∧ V.cell? ⟨w5.heap.size, 1, none⟩ = some (.int .i64 y1)) ∧ (V.cell? ⟨w5.heap.size, 2, none⟩ = some (.int .i64 y2) ∧ V.cell? ⟨w5.heap.size, 3, none⟩ = some (.int .i64 y3) ∧ V.cell? ⟨w5.heap.size, 4, none⟩ = some (.int .i64 y4))))
                (first | exact ⟨⟨⟨r0, r1⟩, r2, r3, r4⟩, ⟨b0, b1⟩, b2, b3, b4⟩ | fail)
                (first | (go_at_call 13; refine CV.mono ?_; rintro e v2 ⟨rfl, rfl⟩) | fail)
              go_wp2_with fail
              go_roundw
              case rel => exact ⟨n + 1, by omega, by go_num, HB16.out⟩
              case measure => simp [intOf]; omega
            · exact absurd (hall i ⟨hil, HLv.out i hil, rfl⟩) (by omega)
          · have ti : ¬ (i : Int) < (t.es.length : Int) := by omega
            have CW := awake7_any wr
            go_wp2_with fail
            refine CW.mono ?_
            rintro e w6 ⟨rfl, hb6⟩
            clear CW
            go_wp2
            go_ret
            exact ⟨rfl, (HB1.out.trans (hBi.mono HB1.out.size)).trans (hb6.mono (Nat.le_trans HB1.out.size hsr))⟩
end Go.Proofs.Ythaijfjodfgbnab
