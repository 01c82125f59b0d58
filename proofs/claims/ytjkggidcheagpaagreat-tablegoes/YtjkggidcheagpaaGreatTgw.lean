/-
  TableGoes, walked but for some places.
  One of the places that the walk of TgLawA leaves.
  TableGoes, walked.
-/
import Derived.Test.YtjkggidcheagpaaGreatTgLaw
import Derived.Test.YtjkggidcheagpaaGreatOpn
import Derived.Deep.CutRange
namespace Go.Proofs.YtjkggidcheagpaaGreat
open Go.RowKit Go.WideShapes

set_option maxRecDepth 100000 in
set_option maxHeartbeats 20000000 in
def tgoesa_cut : (P_end : Prop) ×' (Bx P_end → (tgoes_cut.1)) := by
  apply PSigma.mk
  focus
    intro hp_end a1 n1 c1 G1 a2 n2 c2 G2 stop w hcap2 HS2 h1 h2 tgoes_1 t1 t2 w1 X p t a b hlen HP HB1 w2 ba va ga HP2 HA HB2 w3 bb vb gb HP3 HBB HB3 tgoes_2 tgoes_3 tgoes_4 tgoes_5 w4 gw qw vw gg gq gv x1 y0 ea2 ec2 eg2 hev2 z0 k0 HP4 HR4 HB4 hll
    have hE4 : Es (w4.alloc (.cells #[] 66)) p.ev2 (shw t.es) := HP4.out.tw.rt.es.same fun k hk => ((Below.refl _ w4).alloc (Nat.le_refl _) _).block k (HP4.out.tw.rt.es.lt k hk)
    rw [hev2] at y0 hE4
    have hlX := lt_of_cell x1
    have hlG := lt_of_cell y0
    go_wp2_with (at_builtin; refine wp_app_es rfl _ _ rfl rfl rfl rfl hE4 hll ?_)
    intro v6 w6 hE6 hB6
    clear hE4
    have k06 := cell_keep7 k0 hB6
    have z06 := (World.frozen?_of_block (a := ⟨gw, 0, none⟩) (hB6.block gw (lt_of_cell k0))).trans z0
    obtain ⟨a6, c6, g6, hv6, -, -⟩ := hE6.es.open
    have hLg := lg_new HP.out HB1.out ga HA.out.1 HA.out.2 HB2.out gb HBB.out.1 HBB.out.2 HB3.out gg k0 HB4.out hE6 hB6
    have HLg := Lib.hid hLg
    subst hv6
    clear hLg hE6 hB6 HP HB1 HA HB2 HBB HB3 HB4 HP2 HP3 HP4 HR4 x1 y0 k0 z0 hev2 hlX hlG
    obtain ⟨r, hr⟩ : ∃ r : Kr, r = ⟨ba, va, bb, vb, gw, .slice a6 (shw t.es).length c6⟩ := ⟨_, rfl⟩
    rw [← hr] at HLg
    have q1 : ba = r.b1 := by rw [hr]
    have q2 : bb = r.b2 := by rw [hr]
    have q3 : gw = r.b3 := by rw [hr]
    clear hr
    subst q1 q2 q3
    go_upto_region 10 with fail
    obtain ⟨V, hV⟩ : ∃ y, w6.setCell ⟨r.b3, 0, none⟩ (.slice a6 (shw t.es).length c6) = y := ⟨_, rfl⟩
    rw [hV] at HLg ⊢
    clear hV k06 z06
    have hfn : ∀ wx fn f1 c, (binOp .eql 28 (.func fn f1 c) .nilFunc).run Tryz.prog wx = .ok (.bool false) wx := fun _ _ _ _ => by kernel_rfl
    have CG1 := HLg.out.goes1 hlen stop
    go_wp2_with fail
    refine CG1.mono ?_
    rintro e w7 ⟨rfl, hB7⟩
    clear CG1
    have CG2 := (HLg.out.below hB7).goes2 hlen stop
    have HL7 := Lib.hid (HLg.out.below hB7)
    clear hB7 HLg
    go_wp2_with fail
    refine CG2.mono ?_
    rintro e w8 ⟨rfl, hB8⟩
    clear CG2
    have HL8 := Lib.hid (HL7.out.below hB8)
    clear hB8 HL7 hfn
    go_wp2_with fail
    go_loopw [12] (fun iv wr => ∃ (i : Nat) (p' : Pl) (t' : Tb) (a' b' : Int), i ≤ n2 ∧ iv = .int .i64 (i : Int) ∧ Lg w wr X p' t' a' b' (n1 + i) r t.es) (fun iv _ => n2 - (intOf iv).toNat)
    case atStart => exact ⟨0, p, t, a, b, Nat.zero_le _, rfl, HL8.out⟩
    case round =>
      clear HL8
      obtain ⟨i, p', t', a', b', hi, rfl, hL⟩ := hrel
      have HL := Lib.hid hL
      by_cases hin : i < n2
      · have ti : (i : Int) < (n2 : Int) := by omega
        have ti0 : (0 : Int) ≤ (i : Int) := by omega
        have e5 : IntKind.i64.wrap ((i : Int) + 1) = ((i + 1 : Nat) : Int) := by rw [i64_small (by omega) (by omega)]; omega
        obtain ⟨-, sb, so, hab, hcl⟩ := HS2.out
        obtain ⟨rfl, hsb⟩ := hab (by omega)
        have key : ∀ k, k < 5 → wr.cell? ⟨sb, so + (i * 5 + k), none⟩ = some (.int .i64 (G2 i k)) := fun k hk => (hL.bl.cell (p := ⟨sb, so + (i * 5 + k), none⟩) hsb).trans (hcl i hin k hk)
        have c0 : wr.cell? ⟨sb, so + i * 5, none⟩ = some (.int .i64 (G2 i 0)) := key 0 (by omega)
        have c1 : wr.cell? ⟨sb, so + i * 5 + 1, none⟩ = some (.int .i64 (G2 i 1)) := by rw [Nat.add_assoc]; exact key 1 (by omega)
        have c2 : wr.cell? ⟨sb, so + i * 5 + 2, none⟩ = some (.int .i64 (G2 i 2)) := by rw [Nat.add_assoc]; exact key 2 (by omega)
        have c3 : wr.cell? ⟨sb, so + i * 5 + 3, none⟩ = some (.int .i64 (G2 i 3)) := by rw [Nat.add_assoc]; exact key 3 (by omega)
        have c4 : wr.cell? ⟨sb, so + i * 5 + 4, none⟩ = some (.int .i64 (G2 i 4)) := by rw [Nat.add_assoc]; exact key 4 (by omega)
        have CD := does_any hL.tw mtOk_nil mvOk_nil hL.bd (by omega) (G2 i 0) (G2 i 1) (G2 i 2) (G2 i 3) (G2 i 4)
        generalize G2 i 0 = y0 at *
        generalize G2 i 1 = y1 at *
        generalize G2 i 2 = y2 at *
        generalize G2 i 3 = y3 at *
        generalize G2 i 4 = y4 at *
        clear hL hab hcl key
        go_wp2_with fail
        refine CD.mono ?_
        rintro e w9 ⟨rfl, p9, a9, b9, hD⟩
        clear CD c0 c1 c2 c3 c4
        have HL9 := Lib.hid (HL.out.step hD)
        clear hD HL
        go_wp2_with fail
        go_roundw
        case rel => exact ⟨i + 1, p9, _, a9, b9, by omega, rfl, HL9.out⟩
        case measure => simp [intOf]; omega
      · have ti : ¬ (i : Int) < (n2 : Int) := by omega
        clear hL
        rename_i tgoesa_1 tgoesa_2
        revert a1 n1 c1 G1 a2 n2 c2 G2 stop w hcap2 HS2 h1 h2 tgoes_1 t1 t2 w1 X p t a b hlen w2 va w3 vb w4 qw vw gq gv ea2 ec2 eg2 hll w6 a6 c6 g6 r ga gb gg V w7 w8 tgoesa_1 tgoesa_2 wr u6 u76 u77 u78 u79 u80 u81 u82 u83 u84 u85 u86 u87 u88 i p' t' a' b' hi HL hin ti
        exact hp_end.out
end Go.Proofs.YtjkggidcheagpaaGreat
namespace Go.Proofs.YtjkggidcheagpaaGreat
open Go.RowKit Go.WideShapes

set_option maxRecDepth 100000 in
set_option maxHeartbeats 20000000 in
theorem tgoesa_end : tgoesa_cut.1 := by
  intro a1 n1 c1 G1 a2 n2 c2 G2 stop w hcap2 HS2 h1 h2 tgoes_1 t1 t2 w1 X p t a b hlen w2 va w3 vb w4 qw vw gq gv ea2 ec2 eg2 hll w6 a6 c6 g6 r ga gb gg V w7 w8 tgoesa_1 tgoesa_2 wr u6 u76 u77 u78 u79 u80 u81 u82 u83 u84 u85 u86 u87 u88 i p' t' a' b' hi HL hin ti
  have hL := HL.out
  have x0 : wr.cell? ⟨X, 0, none⟩ = some (.pointer (some ⟨p'.g, 0, none⟩)) := hL.tw.hx.c 0 (by omega)
  have x1 : wr.cell? ⟨X, 1, none⟩ = some (.pointer (some ⟨p'.g2, 0, none⟩)) := hL.tw.hx.c 1 (by omega)
  have HG1 : Hid (∀ V, Below wr.heap.size wr V → _) := fun V hV => (hL.below hV).goes1 hlen 0
  have HG2 : Hid (∀ V, Below wr.heap.size wr V → _) := fun V hV => (hL.below hV).goes2 hlen 0
  have HAL : Hid (∀ V, Below wr.heap.size wr V → _) := fun V hV => (hL.below hV).all
  have HG3 : Hid (∀ V bn v, Below wr.heap.size wr V → V.cell? ⟨bn, 0, none⟩ = some v → Es V v t'.es → _) := fun V bn v hV hc hv => (hL.below hV).goes3 hc hv
  have HAW : Hid (∀ V, _) := fun V => awake7_any V
  have hS : Sw wr X p'.g p'.g2 wr := ⟨⟨x0, x1⟩, Below.refl _ _⟩
  have HBL : Hid (Below w.heap.size w wr) := hL.bl
  clear HL hL x0 x1
  generalize p'.g = pg at *
  generalize p'.g2 = pg2 at *
  go_upto_region 17 with fail
  go_region_held3 (fun V => (V.cell? ⟨X, 0, none⟩ = some (.pointer (some ⟨pg, 0, none⟩)) ∧ V.cell? ⟨X, 1, none⟩ = some (.pointer (some ⟨pg2, 0, none⟩))) ∧ Below wr.heap.size wr V)
    (first | exact hS | exact Sw.keep hS (Below.refl _ _).drew | exact Sw.keep (by assumption) (by assumption) | fail)
    (first
      | (go_at_call 9; with_reducible refine (HG1.out _ (by first | exact (Below.refl _ _).drew | exact hS.2 | exact (Sw.keep hS (Below.refl _ _).drew).2 | exact (by assumption : Sw wr X pg pg2 _).2)).mono ?_; rintro e w11 ⟨rfl, hb11⟩)
      | (go_at_call 9; with_reducible refine (HG2.out _ (by first | exact (Below.refl _ _).drew | exact hS.2 | exact (Sw.keep hS (Below.refl _ _).drew).2 | exact (by assumption : Sw wr X pg pg2 _).2)).mono ?_; rintro e w12 ⟨rfl, hb12⟩)
      | (go_at_call 6; refine (HAL.out _ (by first | exact (Below.refl _ _).drew | exact hS.2 | exact (Sw.keep hS (Below.refl _ _).drew).2 | exact (by assumption : Sw wr X pg pg2 _).2)).mono ?_; rintro e w13 ⟨bn, vn, rfl, gn, cn, en, hb13⟩; have en2 := en.es; clear en gn)
      | (go_at_call 9; with_reducible refine (HG3.out _ _ _ (by first | exact (Below.refl _ _).drew | exact hS.2 | exact (Sw.keep hS (Below.refl _ _).drew).2 | exact (by assumption : Sw wr X pg pg2 _).2) cn en2).mono ?_; rintro e w14 ⟨rfl, hb14⟩)
      | (go_at_call 4; refine (HAW.out _).mono ?_; rintro e w15 ⟨rfl, hb15⟩)
      | fail)
  have hS15 : Sw wr X pg pg2 w15 := by assumption
  go_wp2_with fail
  go_ret
  exact ⟨rfl, HBL.out.trans (hS15.2.mono HBL.out.size)⟩
end Go.Proofs.YtjkggidcheagpaaGreat
namespace Go.Proofs.YtjkggidcheagpaaGreat
open Go.RowKit Go.WideShapes

theorem tgoes_walk (a1 : Option Addr) (n1 c1 : Nat) (G1 : Nat → Nat → Int) (a2 : Option Addr) (n2 c2 : Nat) (G2 : Nat → Nat → Int) (stop : Int) (w : World) (h1 : S5 w a1 n1 c1 G1) (h2 : S5 w a2 n2 c2 G2) :
    Calls Tryz.prog 3 #[.slice a1 n1 c1, .slice a2 n2 c2, .int .i64 stop] w fun e w' => e = .returned (.bool true) ∧ Below w.heap.size w w' :=
  tgoes_cut.2 ⟨tgoesa_cut.2 ⟨tgoesa_end⟩⟩ a1 n1 c1 G1 a2 n2 c2 G2 stop w h1 h2
end Go.Proofs.YtjkggidcheagpaaGreat
