/-
  live; TableKeeps.
-/
import Derived.Test.YthaijfjodfgbnaaLdLaid
import Derived.Test.YthaijfjodfgbnaaDtCp
namespace Go.Proofs.Ythaijfjodfgbnaa
open Go.RowKit Go.WideShapes

theorem liveL_shw (es : List En) : liveL (shw es) = liveL es := by
  induction es with
  | nil => rfl
  | cons e r ih =>
    show liveL (e.shown :: shw r) = _
    rw [liveL, liveL, e.shown_is, ih]
    by_cases h : e.live = true
    · rw [if_pos h, if_pos h, En.shown_live h]
    · rw [if_neg h, if_neg h]
theorem Tb.cp_all (t : Tb) : ∀ e ∈ t.cp.es, e.live = true := fun e he0 => by
  have he : e ∈ reb (liveL t.es) (liveL t.es).length := he0
  obtain ⟨n, hn, hx⟩ : ∃ n, n < (reb (liveL t.es) (liveL t.es).length).length ∧ nth (reb (liveL t.es) (liveL t.es).length) n = e := by
    obtain ⟨n, hn, he⟩ := List.getElem_of_mem he
    exact ⟨n, hn, by unfold nth; rw [List.getD_eq_getElem?_getD, List.getElem?_eq_getElem hn, Option.getD_some]; exact he⟩
  rw [← hx]
  exact reb_live (fun n hn => liveL_nth _ n hn) _ n (by rwa [reb_len] at hn)

set_option maxRecDepth 100000 in
set_option maxHeartbeats 4000000 in
theorem live_any {w : World} {a : Option Addr} {n cap : Nat} {es : List En} (h : SlE w a n cap es) (hn : n ≤ 100000) :
    Calls Try.prog 8 #[.slice a n cap] w fun e w' => ∃ v, e = .returned v ∧ EsB w.heap.size w' v (liveL es) ∧ Below w.heap.size w w' := by
  obtain ⟨hl, hcap, ge, hp, hro⟩ := h
  have HP := Lib.hid hp
  have HRO := Lib.hid hro
  clear hp hro
  subst hl
  go_enter Try.func8, Try.ntmps8
  go_wp2_with fail
  go_loopw [3, 4] (fun ov iv wr => ∃ k : Nat, k ≤ es.length ∧ iv = .int .i64 (k : Int) ∧ Hid (EsB w.heap.size wr ov (liveL (es.take k))) ∧ Below w.heap.size w wr) (fun _ iv _ => es.length - (intOf iv).toNat)
  case atStart => exact ⟨0, Nat.zero_le _, rfl, ⟨rfl, .inl ⟨rfl, rfl⟩⟩, Below.refl _ _⟩
  case round =>
    obtain ⟨k, hk, rfl, HE, hB⟩ := hrel
    by_cases hlt : k < es.length
    · have tk : (k : Int) < (es.length : Int) := by omega
      obtain ⟨e1, hlg⟩ := HP.out (by omega)
      subst e1
      have key : ∀ o, wr.cell? ⟨ge, o, none⟩ = w.cell? ⟨ge, o, none⟩ := fun o => hB.cell (p := ⟨ge, o, none⟩) hlg
      have x0 := (key _).trans (HRO.out.c0 k hlt)
      have x1 := (key _).trans (HRO.out.c1 k hlt)
      have x2 := (key _).trans (HRO.out.c2 k hlt)
      have x3 := (key _).trans (HRO.out.c3 k hlt)
      have x4 := (key _).trans (HRO.out.c4 k hlt)
      have hlv := liveL_take hlt
      have hll := liveL_len (es.take k)
      rw [List.length_take] at hll
      clear key
      by_cases hl : (nth es k).live = true
      · rw [if_pos hl] at hlv
        obtain ⟨w3, hw3⟩ : ∃ y, wr.alloc (.cells #[.bool (nth es k).live, .int .i64 (nth es k).hash, .int .i64 (nth es k).key, .int .i64 (nth es k).value, .int .i64 (nth es k).birth] 36) = y := ⟨_, rfl⟩
        have hb3 : Below wr.heap.size wr w3 := by rw [← hw3]; exact (Below.refl _ wr).alloc (Nat.le_refl _) _
        obtain ⟨v4, w4, r4, e4, g4, at4⟩ := append_en (HE.out.same (w' := w3) fun q hq => hb3.block q (World.ownsRow.lt HE.out q hq).2) (Nat.le_trans hB.size hb3.size) ⟨wr.heap.size, 0, none⟩ 1 1 [nth es k] rfl (by rw [← hw3]; intro j u' hj; exact new_five wr (nth es k) 36 j u' (by simpa [enl] using hj)) (by omega) 25
        rw [← hlv] at e4
        rw [← hw3] at r4
        have HN : Hid (EsB w.heap.size w4 v4 (liveL (es.take (k + 1))) ∧ Below w.heap.size w w4) := ⟨e4, (hB.trans (hb3.mono hB.size)).grown g4 (Nat.le_trans hB.size hb3.size) (fun q hq => HE.out.ge q hq)⟩
        have HR := Lib.hid r4
        clear e4 g4 at4 r4 hw3 hb3 hlv HE hB hll
        generalize hl1 : (nth es k).live = y0 at *
        subst hl
        clear hl1
        generalize (nth es k).hash = y1 at *
        generalize (nth es k).key = y2 at *
        generalize (nth es k).value = y3 at *
        generalize (nth es k).birth = y4 at *
        go_wp2_with (at_builtin; refine wpList_append_run rfl _ _ 25 25 rfl _ _ _ rfl rfl HR.out ?_)
        go_roundw
        case rel => exact ⟨k + 1, by omega, by go_num, HN.out.1, HN.out.2⟩
        case measure => simp [intOf]; omega
      · rw [if_neg hl] at hlv
        have hlf : (nth es k).live = false := by simpa using hl
        rw [hlf] at x0
        have HN : Hid (EsB w.heap.size wr u3 (liveL (es.take (k + 1)))) := by show EsB _ _ _ _; rw [hlv]; exact HE.out
        clear hlv hl hlf x1 x2 x3 x4
        go_wp2_with fail
        go_roundw
        case rel => exact ⟨k + 1, by omega, by go_num, HN, hB⟩
        case measure => simp [intOf]; omega
    · obtain rfl : k = es.length := by omega
      have tk : ¬ (es.length : Int) < (es.length : Int) := by omega
      have HN : Hid (EsB w.heap.size wr u3 (liveL es)) := by have := HE.out; rwa [List.take_length] at this
      go_wp2
      go_ret
      exact ⟨_, rfl, HN.out, hB⟩
set_option maxRecDepth 100000 in
set_option maxHeartbeats 8000000 in
theorem keeps_walk (a0 : Option Addr) (n0 c0 : Nat) (l : List Int) (a1 : Option Addr) (n1 c1 : Nat) (ks : List Int) (w : World) (h0 : SlI w a0 n0 c0 l) (h1 : SlI w a1 n1 c1 ks) :
    Calls Try.prog 3 #[.slice a0 n0 c0, .slice a1 n1 c1] w fun e w' => e = .returned (.bool true) ∧ Below w.heap.size w w' := by
  have m0 := h0.2.1
  have m1 := h1.2.1
  rw [← h0.1] at m0
  rw [← h1.1] at m1
  by_cases hb : n0 ≤ 300 ∧ n1 ≤ 300
  case neg =>
    have CW := awake7_any w
    by_cases hb0 : n0 ≤ 300
    · have t0 : ¬ (300 : Int) < (n0 : Int) := by omega
      have t1 : (300 : Int) < (n1 : Int) := by omega
      clear h0 h1 hb
      go_enter Try.func3, Try.ntmps3
      go_wp2_with fail
      refine CW.mono ?_
      rintro e w' ⟨rfl, hB⟩
      clear CW
      go_wp2
      go_ret
      exact ⟨rfl, hB⟩
    · have t0 : (300 : Int) < (n0 : Int) := by omega
      clear h0 h1 hb
      go_enter Try.func3, Try.ntmps3
      go_wp2_with fail
      refine CW.mono ?_
      rintro e w' ⟨rfl, hB⟩
      clear CW
      go_wp2
      go_ret
      exact ⟨rfl, hB⟩
  case pos =>
    obtain ⟨hb0, hb1⟩ := hb
    have t0 : ¬ (300 : Int) < (n0 : Int) := by omega
    have t1 : ¬ (300 : Int) < (n1 : Int) := by omega
    have CL := laid_any h0 h1 hb0
    clear h0 h1
    go_enter Try.func3, Try.ntmps3
    go_wp2_with fail
    refine CL.mono ?_
    rintro e w1 ⟨g, gi, r, h, ev, wv, t, ws, rfl, hL⟩
    clear CL
    have hel : t.es.length ≤ 300 := by have := hL.ld.ok.few; have := hL.ld.bi; omega
    have hwl : ws.length ≤ 300 := by have := hL.ld.len; omega
    have HEQ := Lib.hid hL.ld.eq
    have HOk := Lib.hid hL.ld.ok
    have HD := Lib.hid hL.dt
    have HB1 := Lib.hid hL.bl
    have hlv : t.live = ws.length := by rw [t.live_eq, hL.ld.eq]
    have k3 : w1.cell? ⟨g, 3, none⟩ = some (.int .i64 (ws.length : Int)) := by rw [← hlv]; exact hL.dt.hd.c 3 (by omega)
    have CLn := len_any k3
    have CS := dsight_any hL.dt (by omega)
    obtain ⟨aw, capw, hwv, hslW⟩ := hL.wt.es.sl
    obtain ⟨-, -, gw, hpW, hroW⟩ := id hslW
    subst hwv
    have HSLW := Lib.hid hslW
    have hcapw := hroW.le
    have HROW := Lib.hid hroW
    have HPW := Lib.hid hpW
    clear hL hslW hpW hroW hlv k3
    go_wp2_with fail
    refine CLn.mono ?_
    rintro e w2 ⟨rfl, rfl⟩
    clear CLn
    go_wp2_with fail
    refine CS.mono ?_
    rintro e w3 ⟨hc, ev1, rfl, hSg, hB3⟩
    clear CS
    unfold sgV
    have hs3 := hB3.size
    obtain ⟨a3, c3, hv3, hsl3⟩ := hSg.es.es.sl
    rw [shw_len] at hv3 hsl3
    subst hv3
    have hfd := sg_field (.int .i64 (t.L : Int)) (.int .i64 (wd t.L : Int)) (.slice (some ⟨hc, 0, none⟩) (2 ^ t.L) (2 ^ t.L)) (.int .i64 (t.live : Int)) (.int .i64 (t.births : Int)) (.int .i64 (t.made : Int)) a3 t.es.length c3
    have CV := live_any hsl3 (by omega)
    rw [liveL_shw, HEQ.out] at CV
    clear hSg hsl3
    generalize (2 ^ t.L : Nat) = S0 at *
    go_wp2_with fail
    refine CV.mono ?_
    rintro e w4 ⟨v4, rfl, hE4, hB4⟩
    clear CV hfd
    have hs4 := hB4.size
    obtain ⟨a4, c4, hv4, hsl4⟩ := hE4.es.sl
    subst hv4
    have hB14 : Below w2.heap.size w2 w4 := hB3.trans (hB4.mono hs3)
    have CE := entries_any a4 aw ws.length c4 capw ws w4 hsl4 (HSLW.out.below hB14) (by omega)
    clear hE4 hsl4
    go_wp2_with fail
    refine CE.mono ?_
    rintro e w5 ⟨rfl, hB5⟩
    clear CE
    have hs5 := hB5.size
    have hB15 : Below w2.heap.size w2 w5 := hB14.trans (hB5.mono (by omega))
    have CC := copy7_any (HD.out.below hB15) HOk.out mtOk_nil (a := 0) (b := 0) trivial (by decide)
    go_wp2_with fail
    refine CC.mono ?_
    rintro e w6 ⟨g', gi', r', h', ev', rfl, hfx, hD6, _, hX6⟩
    clear CC
    have hB56 : Below w5.heap.size w5 w6 := hX6.below (fun k hk => by cases hk) (Nat.le_refl _)
    have hB16 : Below w2.heap.size w2 w6 := hB15.trans (hB56.mono (by omega))
    have hcl : t.cp.live = ws.length := by rw [Tb.cp_live, HEQ.out]
    have k3' : w6.cell? ⟨g', 3, none⟩ = some (.int .i64 (ws.length : Int)) := by rw [← hcl]; exact hD6.hd.c 3 (by omega)
    have CL2 := len_any k3'
    have hce : t.cp.es = reb ws ws.length := by show reb (liveL t.es) (liveL t.es).length = _; rw [HEQ.out]
    have hcel : t.cp.es.length = ws.length := by rw [hce, reb_len]
    have CS2 := dsight_any hD6 (by omega)
    clear hcl k3' hD6 hX6
    go_wp2_with fail
    refine CL2.mono ?_
    rintro e w7 ⟨rfl, rfl⟩
    clear CL2
    go_wp2_with fail
    refine CS2.mono ?_
    rintro e w8 ⟨hc2, ev2, rfl, hSg2, hB8⟩
    clear CS2
    unfold sgV
    obtain ⟨a8, c8, hv8, hsl8⟩ := hSg2.es.es.sl
    rw [shw_all t.cp_all] at hv8 hsl8
    subst hv8
    rw [hce, reb_len] at hsl8
    rw [hcel]
    obtain ⟨-, hcap8, g8, hp8, hro8⟩ := hsl8
    have HP8 := Lib.hid hp8
    have HRO8 := Lib.hid hro8
    have hfd := sg_field (.int .i64 (t.cp.L : Int)) (.int .i64 (wd t.cp.L : Int)) (.slice (some ⟨hc2, 0, none⟩) (2 ^ t.cp.L) (2 ^ t.cp.L)) (.int .i64 (t.cp.live : Int)) (.int .i64 (t.cp.births : Int)) (.int .i64 (t.cp.made : Int)) a8 ws.length c8
    have hs8 := hB8.size
    have hs16 := hB16.size
    have hB18 : Below w2.heap.size w2 w8 := hB16.trans (hB8.mono hs16)
    clear hSg2 hp8 hro8 hce hcel
    generalize (2 ^ t.cp.L : Nat) = S1 at *
    generalize t.cp.L = L1 at *
    generalize t.cp.live = V1 at *
    generalize t.cp.births = B1 at *
    generalize t.cp.made = M1 at *
    go_wp2_with fail
    clear hfd
    go_loopw [10, 11] (fun iv _ wr => ∃ k : Nat, k ≤ ws.length ∧ iv = .int .i64 (k : Int) ∧ Below w8.heap.size w8 wr) (fun iv _ _ => ws.length - (intOf iv).toNat)
    case atStart => exact ⟨0, Nat.zero_le _, rfl, Below.refl _ _⟩
    case round =>
      obtain ⟨k, hk, rfl, hBk⟩ := hrel
      have hsk := hBk.size
      by_cases hkl : k < ws.length
      · have tk : (k : Int) < (ws.length : Int) := by omega
        have tk' : ¬ (ws.length : Int) ≤ (k : Int) := by omega
        obtain ⟨e8, hl8⟩ := HP8.out (by omega)
        obtain ⟨ew, hlw⟩ := HPW.out (by omega)
        subst e8
        subst ew
        have key8 : ∀ o, wr.cell? ⟨g8, o, none⟩ = w8.cell? ⟨g8, o, none⟩ := fun o => hBk.cell (p := ⟨g8, o, none⟩) hl8
        have hnr := reb_nth ws ws.length k hkl
        rw [if_pos hkl] at hnr
        have x0 := (key8 _).trans (HRO8.out.c0 k hkl)
        have x1 := (key8 _).trans (HRO8.out.c1 k hkl)
        have x2 := (key8 _).trans (HRO8.out.c2 k hkl)
        have x3 := (key8 _).trans (HRO8.out.c3 k hkl)
        have x4 := (key8 _).trans (HRO8.out.c4 k hkl)
        rw [hnr] at x0 x1 x2 x3 x4
        obtain ⟨w9, hw9⟩ : ∃ y, wr.alloc (.cells #[.bool (nth ws k).live, .int .i64 (nth ws k).hash, .int .i64 (nth ws k).key, .int .i64 (nth ws k).value, .int .i64 (nth ws k).birth] 36) = y := ⟨_, rfl⟩
        have hb9 : Below wr.heap.size wr w9 := by rw [← hw9]; exact (Below.refl _ wr).alloc (Nat.le_refl _) _
        have hX9 : Blk w9 wr.heap.size 5 (fun j => #[Value.bool (nth ws k).live, .int .i64 (nth ws k).hash, .int .i64 (nth ws k).key, .int .i64 (nth ws k).value, .int .i64 (nth ws k).birth].getD j .nilFunc) := by rw [← hw9]; exact Blk.new wr _ _
        have hB29 : Below w2.heap.size w2 w9 := hB18.trans ((hBk.trans (hb9.mono hsk)).mono (by omega))
        have keyw : ∀ o, w9.cell? ⟨gw, o, none⟩ = w2.cell? ⟨gw, o, none⟩ := fun o => hB29.cell (p := ⟨gw, o, none⟩) hlw
        have r0 := (keyw _).trans (HROW.out.c0 k hkl)
        have r1 := (keyw _).trans (HROW.out.c1 k hkl)
        have r2 := (keyw _).trans (HROW.out.c2 k hkl)
        have r3 := (keyw _).trans (HROW.out.c3 k hkl)
        have r4 := (keyw _).trans (HROW.out.c4 k hkl)
        have ba : (wr.alloc (.cells #[.bool (nth ws k).live, .int .i64 (nth ws k).hash, .int .i64 (nth ws k).key, .int .i64 (nth ws k).value, .int .i64 (k : Int)] 36)).cell? ⟨gw, k * 5 + 4, none⟩ = some (.int .i64 (nth ws k).birth) := (cell_alloc_old _ _ _ _ (by omega)).trans (((hBk.cell (p := ⟨gw, k * 5 + 4, none⟩) (by show gw < _; omega)).trans (hB18.cell (p := ⟨gw, k * 5 + 4, none⟩) hlw)).trans (HROW.out.c4 k hkl))
        have b0 : w9.cell? ⟨wr.heap.size, 0, none⟩ = some (.bool (nth ws k).live) := hX9.c 0 (by omega)
        have b1 : w9.cell? ⟨wr.heap.size, 1, none⟩ = some (.int .i64 (nth ws k).hash) := hX9.c 1 (by omega)
        have b2 : w9.cell? ⟨wr.heap.size, 2, none⟩ = some (.int .i64 (nth ws k).key) := hX9.c 2 (by omega)
        have b3 : w9.cell? ⟨wr.heap.size, 3, none⟩ = some (.int .i64 (nth ws k).value) := hX9.c 3 (by omega)
        have b4 : w9.cell? ⟨wr.heap.size, 4, none⟩ = some (.int .i64 (nth ws k).birth) := hX9.c 4 (by omega)
        have HB9 : Hid (Below w8.heap.size w8 w9.drew) := (hBk.trans (hb9.mono hsk)).drew
        have HW9 := Lib.hid hw9
        clear hw9 hX9 hb9 hB29 keyw key8 hnr hBk
        generalize (nth ws k).live = y0 at *
        generalize (nth ws k).hash = y1 at *
        generalize (nth ws k).key = y2 at *
        generalize (nth ws k).value = y3 at *
        generalize (nth ws k).birth = y4 at *
        go_upto_region 17 with fail
        rw [HW9.out]
        go_region_held3 (fun V => ((V.cell? ⟨gw, k * 5, none⟩ = some (.bool y0) ∧ V.cell? ⟨gw, k * 5 + 1, none⟩ = some (.int .i64 y1)) ∧ (V.cell? ⟨gw, k * 5 + 2, none⟩ = some (.int .i64 y2) ∧ V.cell? ⟨gw, k * 5 + 3, none⟩ = some (.int .i64 y3) ∧ V.cell? ⟨gw, k * 5 + 4, none⟩ = some (.int .i64 y4))) ∧ ((V.cell? ⟨wr.heap.size, 0, none⟩ = some (.bool y0) ∧ V.cell? ⟨wr.heap.size, 1, none⟩ = some (.int .i64 y1)) ∧ (V.cell? ⟨wr.heap.size, 2, none⟩ = some (.int .i64 y2) ∧ V.cell? ⟨wr.heap.size, 3, none⟩ = some (.int .i64 y3) ∧ V.cell? ⟨wr.heap.size, 4, none⟩ = some (.int .i64 y4))))
          (first | exact ⟨⟨⟨r0, r1⟩, r2, r3, r4⟩, ⟨b0, b1⟩, b2, b3, b4⟩ | fail) (fail)
        go_wp2_with fail
        go_roundw
        case rel => exact ⟨k + 1, by omega, by go_num, HB9.out⟩
        case measure => simp [intOf]; omega
      · obtain rfl : k = ws.length := by omega
        have tk : ¬ (ws.length : Int) < (ws.length : Int) := by omega
        have CW := awake7_any wr
        go_wp2_with fail
        refine CW.mono ?_
        rintro e w9 ⟨rfl, hb9⟩
        clear CW
        go_wp2
        go_ret
        exact ⟨rfl, (HB1.out.trans (hB18.mono HB1.out.size)).trans ((hBk.mono (by have := HB1.out.size; omega)).trans (hb9.mono (by have := HB1.out.size; omega)))⟩
end Go.Proofs.Ythaijfjodfgbnaa
