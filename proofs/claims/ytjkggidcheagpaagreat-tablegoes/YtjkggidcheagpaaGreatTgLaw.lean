/-
  TableGoes, walked but for some places.
-/
import Derived.Test.YtjkggidcheagpaaGreatTgl
import Derived.Test.YtjkggidcheagpaaGreatOpn
import Derived.Deep.CutRange
namespace Go.Proofs.YtjkggidcheagpaaGreat
open Go.RowKit Go.WideShapes

/-- What is left to be shown. -/
structure Bx (P : Prop) : Prop where
  out : P
set_option maxRecDepth 100000 in
set_option maxHeartbeats 20000000 in
def tgoes_cut : (P_app : Prop) ×' (Bx P_app → (∀ (a1 : Option Addr) (n1 c1 : Nat) (G1 : Nat → Nat → Int) (a2 : Option Addr) (n2 c2 : Nat) (G2 : Nat → Nat → Int) (stop : Int) (w : World), S5 w a1 n1 c1 G1 → S5 w a2 n2 c2 G2 → Calls Tryz.prog 3 #[.slice a1 n1 c1, .slice a2 n2 c2, .int .i64 stop] w fun e w' => e = .returned (.bool true) ∧ Below w.heap.size w w')) := by
  apply PSigma.mk
  focus
    intro hp_app a1 n1 c1 G1 a2 n2 c2 G2 stop w hS1 hS2
    have hcap2 := hS2.1
    have HS2 := Lib.hid hS2
    clear hS2
    by_cases h1 : n1 ≤ 400
    case neg =>
      have t1 : (400 : Int) < (n1 : Int) := by omega
      have CA := awake7_any w
      go_enter Tryz.func3, Tryz.ntmps3
      go_wp2_with fail
      refine CA.mono ?_
      rintro e wz ⟨rfl, hBz⟩
      clear CA
      go_wp2
      go_ret
      exact ⟨rfl, hBz⟩
    case pos =>
    have t1 : ¬ (400 : Int) < (n1 : Int) := by omega
    by_cases h2 : n2 ≤ 400
    case neg =>
      have t2 : (400 : Int) < (n2 : Int) := by omega
      have CA := awake7_any w
      go_enter Tryz.func3, Tryz.ntmps3
      go_wp2_with fail
      refine CA.mono ?_
      rintro e wz ⟨rfl, hBz⟩
      clear CA
      go_wp2
      go_ret
      exact ⟨rfl, hBz⟩
    case pos =>
    have t2 : ¬ (400 : Int) < (n2 : Int) := by omega
    have C1 := plays_none hS1 h1
    clear hS1
    go_enter Tryz.func3, Tryz.ntmps3
    go_wp2_with fail
    refine C1.mono ?_
    rintro e w1 ⟨X, p, t, a, b, rfl, hP, hb1⟩
    clear C1
    have hlen : t.es.length ≤ 100000 := Nat.le_trans hP.tw.ok.few hP.tw.ok.all
    have x0 : w1.cell? ⟨X, 0, none⟩ = some (.pointer (some ⟨p.g, 0, none⟩)) := hP.tw.hx.c 0 (by omega)
    have C2 := all7_it (hP.tw.dt.hd.c 2 (by omega)) hP.tw.dt.es hlen
    have HP := Lib.hid hP
    have HB1 := Lib.hid hb1
    clear hP hb1
    go_wp2_with fail
    refine C2.mono ?_
    rintro e w2 ⟨ba, va, rfl, ga, ca, ea, hB2⟩
    clear C2 x0
    have hP2 := HP.out.below mtOk_nil hB2
    have x0 : w2.cell? ⟨X, 0, none⟩ = some (.pointer (some ⟨p.g, 0, none⟩)) := hP2.tw.hx.c 0 (by omega)
    have C3 := back7_it (hP2.tw.dt.hd.c 2 (by omega)) hP2.tw.dt.es hlen
    have HP2 := Lib.hid hP2
    have HA := Lib.hid (And.intro ca ea)
    have HB2 := Lib.hid hB2
    clear hP2 ca ea hB2
    go_wp2_with fail
    refine C3.mono ?_
    rintro e w3 ⟨bb, vb, rfl, gb, cb, eb, hB3⟩
    clear C3 x0
    have hP3 := HP2.out.below mtOk_nil hB3
    have x1 : w3.cell? ⟨X, 1, none⟩ = some (.pointer (some ⟨p.g2, 0, none⟩)) := hP3.tw.hx.c 1 (by omega)
    have C4 := rcopy_s hP3.tw.rt hP3.tw.ok hP3.tw.ms (by have := hP3.bd; unfold Bd at this; omega)
    have HP3 := Lib.hid hP3
    have HBB := Lib.hid (And.intro cb eb)
    have HB3 := Lib.hid hB3
    clear hP3 cb eb hB3
    go_wp2_with fail
    refine C4.mono ?_
    rintro e w4 ⟨gw, qw, vw, rfl, gg, gq, gv, hR4, -, hX4⟩
    clear C4 x1
    have hB4 := hX4.nix
    have hP4 := HP3.out.below mtOk_nil hB4
    have x1 : w4.cell? ⟨X, 1, none⟩ = some (.pointer (some ⟨p.g2, 0, none⟩)) := hP4.tw.hx.c 1 (by omega)
    have y0 : w4.cell? ⟨p.g2, 0, none⟩ = some p.ev2 := hP4.tw.rt.hd.c 0 (by omega)
    obtain ⟨ea2, ec2, eg2, hev2, -, -⟩ := hP4.tw.rt.es.open
    have z0 := hR4.hd.z 0
    have k0 := hR4.hd.c 0 (by omega)
    have HP4 := Lib.hid hP4
    have HR4 := Lib.hid hR4
    have HB4 := Lib.hid hB4
    have hll : (shw t.es).length ≤ 100000 := by rw [shw_len]; exact hlen
    clear hP4 hR4 hB4 hX4
    rename_i tgoes_1 tgoes_2 tgoes_3 tgoes_4 tgoes_5
    revert a1 n1 c1 G1 a2 n2 c2 G2 stop w hcap2 HS2 h1 h2 tgoes_1 t1 t2 w1 X p t a b hlen HP HB1 w2 ba va ga HP2 HA HB2 w3 bb vb gb HP3 HBB HB3 tgoes_2 tgoes_3 tgoes_4 tgoes_5 w4 gw qw vw gg gq gv x1 y0 ea2 ec2 eg2 hev2 z0 k0 HP4 HR4 HB4 hll
    exact hp_app.out
end Go.Proofs.YtjkggidcheagpaaGreat
