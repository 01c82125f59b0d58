/-
  One of the places that the walk of ZtPl leaves.
  One of the places that the walk of ZtPl leaves.
  TablePlays, walked.
-/
import Derived.Test.YtdjabdmnknlaeaaGreatZp0
import Derived.Test.YtdjabdmnknlaeaaGreatZtPlR
import Derived.Test.YtdjabdmnknlaeaaGreatZpz
import Derived.Test.YtdjabdmnknlaeaaGreatOpn
namespace Go.Proofs.YtdjabdmnknlaeaaGreat
open Go.RowKit Go.WideShapes

set_option maxRecDepth 100000 in
set_option maxHeartbeats 20000000 in
theorem zplays_fin : zplays_cut.2.2.1 := by
  intro a0 c0 G w HMo HMv zplays_1 w1 g gi r h w2 g2 q2 w5 zplays_2 zplays_3 p0 X wr u8 u9 u30 u31 u32 u33 u34 u35 u36 u37 u38 u39 u40 u41 u42 u43 u44 u45 u46 u47 u48 u49 u50 u51 u52 u53 u54 u55 u56 u57 u58 u59 u60 u61 u62 u63 u64 u65 u66 u67 u68 u69 u70 u71 u72 u73 u74 u75 u76 u77 u78 u79 u80 u81 u82 u83 k hn hcap HROW hk hlt t1 p t a b hPY
  have hlen' : t.es.length ≤ 100000 := Nat.le_trans hPY.tw.ok.few hPY.tw.ok.all
  have HP := Lib.hid (hPY.below HMo.out (Below.refl _ wr).drew)
  have s0 : wr.drew.cell? ⟨X, 0, none⟩ = some (.pointer (some ⟨p.g, 0, none⟩)) ∧ wr.drew.cell? ⟨X, 1, none⟩ = some (.pointer (some ⟨p.g2, 0, none⟩)) := ⟨hPY.tw.hx.c 0 (by omega), hPY.tw.hx.c 1 (by omega)⟩
  have CS := dsight_any HP.out.tw.dt hlen'
  have HS : Hid (∀ V, Below wr.drew.heap.size wr.drew V → (V.cell? ⟨X, 0, none⟩ = some (.pointer (some ⟨p.g, 0, none⟩)) ∧ V.cell? ⟨X, 1, none⟩ = some (.pointer (some ⟨p.g2, 0, none⟩))) ∧ Py w (.pointer none) (.pointer none) noM X p t a b k V) := fun V hV => by
    have h1 := HP.out.below HMo.out hV
    exact ⟨⟨h1.tw.hx.c 0 (by omega), h1.tw.hx.c 1 (by omega)⟩, h1⟩
  have HCT : Hid (∀ V, Below wr.drew.heap.size wr.drew V → Calls Tryz.prog 13 #[.pointer (some ⟨p.g2, 0, none⟩)] V fun e w' => ∃ ca cc ea ec, e = .returned (siV (t.L : Int) (wd t.L : Int) ca (2 ^ t.L) cc ea t.es.length ec (t.live : Int) (t.births : Int) (t.made : Int)) ∧ SlN w' ca (2 ^ t.L) cc t.c ∧ SlE w' ea t.es.length ec (shw t.es) ∧ Below V.heap.size V w') := fun V hV => rsight_s (HS.out V hV).2.tw.rt hlen'
  have hsz := hPY.tw.ok.sz.2
  clear hPY
  go_upto_region 11 with fail
  go_region_held3 (fun V => V.cell? ⟨X, 0, none⟩ = some (.pointer (some ⟨p.g, 0, none⟩)) ∧ V.cell? ⟨X, 1, none⟩ = some (.pointer (some ⟨p.g2, 0, none⟩)))
    (first | with_reducible exact s0 | with_reducible exact s5 | with_reducible exact s6 | with_reducible exact s7 | fail)
    (first | (go_at_call 8; refine CS.mono ?_; rintro e w5 ⟨hc, ev1, rfl, hSg, hB5⟩; have s5 := (HS.out w5 hB5).1) | (go_at_call 13; refine (HCT.out w5 hB5).mono ?_; rintro e w6 ⟨ca, cc, ea, ec, rfl, hN6, hE6, hB6⟩; have hB56 := hB5.trans (hB6.mono hB5.size); have s6 := (HS.out w6 hB56).1; have CG := sight_both hlen' hsz (hSg.below hB6) hN6 hE6) | (go_at_call 12; refine CG.mono ?_; rintro e w7 ⟨rfl, hB7⟩; have hB57 := hB56.trans (hB7.mono hB56.size); have s7 := (HS.out w7 hB57).1) | fail)
  have HF := Lib.hid (HS.out w7 hB57).2
  clear CG CS HCT s0 s5 s6 s7 hSg hN6 hE6 hB5 hB6 hB7 hB56 hB57 HS HP
  go_wp2_with fail
  go_ret2
  exact ⟨X, rfl, HF.out.ex.nix2⟩
end Go.Proofs.YtdjabdmnknlaeaaGreat
namespace Go.Proofs.YtdjabdmnknlaeaaGreat
open Go.RowKit Go.WideShapes

set_option maxRecDepth 100000 in
set_option maxHeartbeats 20000000 in
theorem zplays_zfin : zplays_cut.2.2.2.1 := by
  intro a0 c0 G w HMo HMv zplays_1 w1 g gi r h w2 g2 q2 w5 zplays_2 zplays_3 p0 X wr u8 u9 u30 u31 u32 u33 u34 u35 u36 u37 u38 u39 u40 u41 u42 u43 u44 u45 u46 u47 u48 u49 u50 u51 u52 u53 u54 u55 u56 u57 u58 u59 u60 u61 u62 u63 u64 u65 u66 u67 u68 u69 u70 u71 u72 u73 u74 u75 u76 u77 u78 u79 u80 u81 u82 u83 k hn hcap HROW hk hlt t1 hk0 p hZY
  have hQ := (hZY.below (Below.refl _ wr).drew).qx 0
  have hlen' : Tb.new.es.length ≤ 100000 := by decide
  have s0 : wr.drew.cell? ⟨X, 0, none⟩ = some (.pointer (some ⟨p.g, 0, none⟩)) ∧ wr.drew.cell? ⟨X, 1, none⟩ = some (.pointer (some ⟨p.g2, 0, none⟩)) := ⟨hQ.hx.c 0 (by omega), hQ.hx.c 1 (by omega)⟩
  have CS := hQ.sight
  have hsz := hQ.ok.sz.2
  generalize Tb.new = t at *
  clear hZY hQ
  go_upto_region 11 with fail
  go_region_held3 (fun V => V.cell? ⟨X, 0, none⟩ = some (.pointer (some ⟨p.g, 0, none⟩)) ∧ V.cell? ⟨X, 1, none⟩ = some (.pointer (some ⟨p.g2, 0, none⟩)))
    (first | with_reducible exact s0 | with_reducible exact s5 | with_reducible exact s6 | with_reducible exact s7 | fail)
    (first | (go_at_call 8; refine CS.mono ?_; rintro e w5 ⟨hc, ev1, rfl, hSg, gi5, r5, h5, ev5, a5, b5, hP5⟩; have s5 : w5.cell? ⟨X, 0, none⟩ = some (.pointer (some ⟨p.g, 0, none⟩)) ∧ w5.cell? ⟨X, 1, none⟩ = some (.pointer (some ⟨p.g2, 0, none⟩)) := ⟨hP5.tw.hx.c 0 (by omega), hP5.tw.hx.c 1 (by omega)⟩; have CT := rsight_s hP5.tw.rt hlen'; dsimp only at CT) | (go_at_call 13; refine CT.mono ?_; rintro e w6 ⟨ca, cc, ea, ec, rfl, hN6, hE6, hB6⟩; have hP6 := hP5.below mtOk_nil hB6; have s6 : w6.cell? ⟨X, 0, none⟩ = some (.pointer (some ⟨p.g, 0, none⟩)) ∧ w6.cell? ⟨X, 1, none⟩ = some (.pointer (some ⟨p.g2, 0, none⟩)) := ⟨hP6.tw.hx.c 0 (by omega), hP6.tw.hx.c 1 (by omega)⟩; have CG := sight_both hlen' hsz (hSg.below hB6) hN6 hE6) | (go_at_call 12; refine CG.mono ?_; rintro e w7 ⟨rfl, hB7⟩; have hP7 := hP6.below mtOk_nil hB7; have s7 : w7.cell? ⟨X, 0, none⟩ = some (.pointer (some ⟨p.g, 0, none⟩)) ∧ w7.cell? ⟨X, 1, none⟩ = some (.pointer (some ⟨p.g2, 0, none⟩)) := ⟨hP7.tw.hx.c 0 (by omega), hP7.tw.hx.c 1 (by omega)⟩) | fail)
  have HF := Lib.hid hP7.ex.nix2
  clear CG CS CT s0 s5 s6 s7 hSg hN6 hE6 hB6 hB7 hP5 hP6 hP7
  go_wp2_with fail
  go_ret2
  exact ⟨X, rfl, HF.out⟩
end Go.Proofs.YtdjabdmnknlaeaaGreat
namespace Go.Proofs.YtdjabdmnknlaeaaGreat
open Go.RowKit Go.WideShapes

theorem plays_both (zero : Bool) {w : World} {a0 : Option Addr} {n c0 : Nat} {G : Nat → Nat → Int} (hS : S5 w a0 n c0 G) (hn : n ≤ 400) :
    Calls Tryz.prog 5 #[.bool zero, .slice a0 n c0, .pointer none, .pointer none] w fun e w' => ∃ X, e = .returned (.tuple #[.pointer (some ⟨X, 0, none⟩), .bool true]) ∧ Below w.heap.size w w' := by
  cases zero with
  | true => exact zplays_cut.2.2.2.2 ⟨zplays_rnd⟩ ⟨zplays_zrnd⟩ ⟨zplays_fin⟩ ⟨zplays_zfin⟩ a0 n c0 G w hS hn
  | false => exact (plays_none hS hn).mono fun _ _ ⟨X, _, _, _, _, h1, _, h2⟩ => ⟨X, h1, h2⟩
set_option maxRecDepth 100000 in
theorem tplays_walk (zero : Bool) (a0 : Option Addr) (n c0 : Nat) (G : Nat → Nat → Int) (w : World) (hS : S5 w a0 n c0 G) :
    Calls Tryz.prog 3 #[.bool zero, .slice a0 n c0] w fun e w' => e = .returned (.bool true) ∧ Below w.heap.size w w' := by
  by_cases h1 : n ≤ 400
  case neg =>
    have t1 : (400 : Int) < (n : Int) := by omega
    have CA := awake7_any w
    clear hS
    go_enter Tryz.func3, Tryz.ntmps3
    go_wp2_with fail
    refine CA.mono ?_
    rintro e wz ⟨rfl, hBz⟩
    clear CA
    go_wp2
    go_ret
    exact ⟨rfl, hBz⟩
  case pos =>
    have t1 : ¬ (400 : Int) < (n : Int) := by omega
    have C1 := plays_both zero hS h1
    clear hS
    go_enter Tryz.func3, Tryz.ntmps3
    go_wp2_with fail
    refine C1.mono ?_
    rintro e w1 ⟨X, rfl, hb1⟩
    clear C1
    have CA := awake7_any w1
    have HB := Lib.hid hb1
    clear hb1
    go_wp2_with fail
    refine CA.mono ?_
    rintro e wz ⟨rfl, hBz⟩
    clear CA
    go_wp2
    go_ret
    exact ⟨rfl, HB.out.trans (hBz.mono HB.out.size)⟩
end Go.Proofs.YtdjabdmnknlaeaaGreat
