/-
  ProbeOwn.
-/
import Derived.Test.YtcehndeopcoakabGreatPoEnt
import Derived.Test.YtcehndeopcoakabGreatPrAny
import Derived.Test.YtcehndeopcoakabGreatOpn
namespace Go.Proofs.YtcehndeopcoakabGreat
open Go.RowKit Go.WideShapes

/-- A dictionary behind i calls. -/
structure Ca (K : Nat → Prop) (w wr : World) (d : Nat) (i : Nat) (t : Tb) (g gi r h : Nat) (ev : Value) (most : Int) (v : Nat) : Prop where
  pd : Pd K w.heap.size w wr d g gi r h ev t most v
  births : t.births ≤ i
  made : t.made ≤ i + 1
  turn : t.turn ≤ i
  ver : v ≤ i
theorem Ca.fit {K : Nat → Prop} {w wr : World} {d i : Nat} {t : Tb} {g gi r h : Nat} {ev : Value} {most : Int} {v : Nat} (c : Ca K w wr d i t g gi r h ev most v) (hi : i ≤ 50000) : Fit t v := ⟨by have := c.made; omega, by have := c.turn; omega, by have := c.births; omega, by have := c.ver; omega⟩
def CaI (w wr : World) (d i : Nat) : Prop := ∃ t g gi r h ev v, Ca (fun _ => False) w wr d i t g gi r h ev 1000 v
/-- One step of a put. -/
theorem ca_step {K : Nat → Prop} {w wr : World} {d x i : Nat} {t : Tb} {most : Int} {v : Nat} {uh key value told : Int} {u : Tu} (hb : t.births ≤ i) (hm : t.made ≤ i + 1) (ht : t.turn ≤ i) (hv : v ≤ i) (q : LwQ K w.heap.size w d x t most v 2 uh key value told u wr) : ∃ t' g gi r h ev v', Ca K w wr d (i + 1) t' g gi r h ev most v' := by
  rcases q with ⟨n, _, _, _, (⟨_, _, g, gi, r, h, ev, p⟩ | ⟨_, _, g, gi, r, h, ev, s, j, f, p⟩)⟩ | ⟨_, hM⟩
  · exact ⟨t.putv n value, g, gi, r, h, ev, v + 1, ⟨p, by show t.births ≤ i + 1; omega, by show t.made ≤ i + 1 + 1; omega, by show t.turn ≤ i + 1; omega, by omega⟩⟩
  · exact ⟨t, g, gi, r, h, ev, v, ⟨p.pd, by omega, by omega, by omega, by omega⟩⟩
  · rcases hM with ⟨_, _, _, g, gi, r, h, ev, p⟩ | ⟨_, _, _, g, gi, r, h, ev, p⟩ | ⟨_, _, g, gi, r, h, ev, p⟩
    · have a := t.add_rest uh key value
      exact ⟨t.add uh key value, g, gi, r, h, ev, v + 1, ⟨p, by rw [a.1]; omega, by have := a.2.1; omega, by rw [a.2.2.2]; omega, by omega⟩⟩
    · exact ⟨t, g, gi, r, h, ev, v, ⟨p, by omega, by omega, by omega, by omega⟩⟩
    · exact ⟨t, g, gi, r, h, ev, v, ⟨p, by omega, by omega, by omega, by omega⟩⟩
/-- A row of n entries that is written into. -/
def OwI (w3 wr : World) (va : Value) (n : Nat) : Prop := ∃ es, es.length = n ∧ Es wr va es ∧ Ex (fun k => va.ownBlock = some k) w3 wr
theorem new_two (w : World) (a b : Int) (t : TypeId) : ∀ j u, (enl [⟨false, 0, a, 0, 0⟩, ⟨false, 0, b, 0, 0⟩])[j]? = some u → (w.alloc (.cells #[.bool false, .int .i64 0, .int .i64 a, .int .i64 0, .int .i64 0, .bool false, .int .i64 0, .int .i64 b, .int .i64 0, .int .i64 0] t)).cell? (Addr.add ⟨w.heap.size, 0, none⟩ j) = some u := by
  intro j u hj
  rw [WideShapes.add_plain, World.cell?_alloc_at _ _ _ _ rfl]
  simpa [enl, enc5] using hj
set_option maxRecDepth 100000 in
set_option maxHeartbeats 8000000 in
theorem pown_walk (a0 : Option Addr) (n0 c0 : Nat) (l : List Int) (w : World) (h0 : SlI w a0 n0 c0 l) :
    Calls Tryz.prog 4 #[.slice a0 n0 c0] w fun e w' => e = .returned (.bool true) ∧ Below w.heap.size w w' := by
  obtain ⟨b, off, hb, hn, hcap, hcell⟩ := h0.open
  clear h0
  obtain ⟨i0, hi0, hz0, hz1, hz2⟩ := info_parts Tryz.infoEn
  by_cases hb0 : n0 ≤ 200
  case neg =>
    have CW := awake8_any w
    have t0 : (200 : Int) < (n0 : Int) := by omega
    clear hcell
    go_enter Tryz.func4, Tryz.ntmps4
    go_wp2_with fail
    refine CW.mono ?_
    rintro e w' ⟨rfl, hB⟩
    clear CW
    go_wp2
    go_ret
    exact ⟨rfl, hB⟩
  case pos =>
    have t0 : ¬ (200 : Int) < (n0 : Int) := by omega
    have CN := lw_new w 1000 (by decide) (by decide)
    have HC : Hid (∀ W j, Below w.heap.size w W → j < n0 → a0 = some ⟨b, off, none⟩ ∧ W.cell? ⟨b, off + j, none⟩ = some (.int .i64 (l[j]?.getD 0))) := fun W j hW hj => ⟨(hb (by omega)).1, (hW.cell (p := ⟨b, off + j, none⟩) (hb (by omega)).2).trans (hcell j hj)⟩
    clear hb hcell hn
    go_enter Tryz.func4, Tryz.ntmps4
    go_wp2_with fail
    refine CN.mono ?_
    rintro e w1 ⟨d, g, gi, r, h, rfl, hP⟩
    clear CN
    have h1 := eqD d
    have HP : Hid (CaI w w1 d 0) := ⟨Tb.new, g, gi, r, h, _, 0, ⟨hP, Nat.le_refl _, Nat.le_refl _, Nat.le_refl _, Nat.le_refl _⟩⟩
    clear hP
    go_wp2_with fail
    go_loopw [5] (fun iv wr => ∃ i : Nat, i ≤ n0 ∧ iv = .int .i64 (i : Int) ∧ CaI w wr d i) (fun iv _ => n0 - (intOf iv).toNat)
    case atStart => exact ⟨0, Nat.zero_le _, rfl, HP.out⟩
    case round =>
      clear HP
      obtain ⟨i, hi, rfl, hI⟩ := hrel
      by_cases hil : i < n0
      · have ti : (i : Int) < (n0 : Int) := by omega
        obtain ⟨t, g2, gi2, r2, h2, ev2, v, hA⟩ := hI
        obtain ⟨ha0, hc⟩ := HC.out wr i hA.pd.bl hil
        subst ha0
        have CB := rd_begin hA.pd 2 (by decide) (by decide) (l[i]?.getD 0) (i : Int) (i : Int)
        have HA := Lib.hid hA
        have e1 : IntKind.i64.wrap ((i : Int) + 1) = ((i + 1 : Nat) : Int) := by rw [i64_small (by omega) (by omega)]; omega
        clear hA
        go_wp2_with fail
        refine CB.mono ?_
        rintro e w2 ⟨x, rfl, hR, _⟩
        clear CB
        have CS := rd_step hR (HA.out.fit (by omega))
        clear hR
        go_wp2_with fail
        refine CS.mono ?_
        rintro e w3 ⟨u, rfl, hQ, _⟩
        clear CS
        have HN : Hid (CaI w w3 d (i + 1)) := ca_step HA.out.births HA.out.made HA.out.turn HA.out.ver hQ
        clear hQ HA
        go_wp2_with fail
        go_roundw
        case rel => exact ⟨i + 1, by omega, rfl, HN.out⟩
        case measure => simp [intOf]; omega
      · obtain rfl : i = n0 := by omega
        have ti : ¬ (i : Int) < (i : Int) := by omega
        obtain ⟨t, g2, gi2, r2, h2, ev2, v, hA⟩ := hI
        have hlv : (liveL t.es).length ≤ 200 := by
          have q1 := liveL_len t.es
          have q2 := hA.pd.dc.ok.few
          have q3 := hA.births
          omega
        have hPw := hA.pd
        have CA := pairs_any hPw.dc
        have HP := Lib.hid hPw
        clear hA hPw
        go_wp2_with fail
        refine CA.mono ?_
        rintro e w2 ⟨va, rfl, hEa, hB2⟩
        clear CA
        have CB := pairs_any (HP.out.below hB2).dc
        go_wp2_with fail
        refine CB.mono ?_
        rintro e w3 ⟨vb, rfl, hEb, hB3⟩
        clear CB
        obtain ⟨aa, capa, hva, _⟩ := hEa.es.sl
        obtain ⟨ab, capb, hvb, _⟩ := hEb.es.sl
        have hga := hEa.ge
        have hla := hEa.es.lt
        have hgb := hEb.ge
        have hlb := hEb.es.lt
        have hEa3 : Es w3 va (liveL t.es) := hEa.es.same fun k hk => hB3.block k (hla k hk)
        have hKa : ∀ k, va.ownBlock = some k → k < w3.heap.size ∧ ¬ cX d g2 gi2 r2 h2 ev2 k := fun k hk => ⟨by have := hla k hk; have := hB3.size; omega, fun hc => by have := HP.out.dc.lt k hc; have := hga k hk; omega⟩
        have hKb : ∀ k, va.ownBlock = some k → w.heap.size ≤ k := fun k hk => by have := hga k hk; have := HP.out.bl.size; omega
        have hP3 := ((HP.out.below hB2).below hB3).withK (K' := fun k => va.ownBlock = some k) hKa
        generalize hN : (liveL t.es).length = N at *
        subst hva
        subst hvb
        have hI3 : OwI w3 w3 (.slice aa N capa) N := ⟨liveL t.es, hN, hEa3, Ex.refl _ _⟩
        have HI3 := Lib.hid hI3
        have HP3 := Lib.hid hP3
        have HEB := Lib.hid hEb.es
        have HN := Lib.hid hN
        have HKB := Lib.hid hKb
        have HLA := Lib.hid hla
        have HGB := Lib.hid hgb
        have HLB := Lib.hid hlb
        have hs2 := hB2.size
        have hs3 := hB3.size
        clear hI3 hP3 hEa hEb hEa3 HP hN hga hla hgb hlb hB2 hB3 hKa hKb
        go_wp2_with fail
        go_loopw [8] (fun iv wr => ∃ k : Nat, k ≤ N ∧ iv = .int .i64 (k : Int) ∧ OwI w3 wr (.slice aa N capa) N) (fun iv _ => N - (intOf iv).toNat)
        case atStart => exact ⟨0, Nat.zero_le _, rfl, HI3.out⟩
        case round =>
          clear HI3
          obtain ⟨k, hk, rfl, hI⟩ := hrel
          obtain ⟨es, hlE, hE, hX⟩ := hI
          by_cases hkl : k < N
          · have tk : (k : Int) < (N : Int) := by omega
            subst hlE
            have HE := Lib.hid hE
            obtain ⟨ae, cape, ge, hv, hae, hro⟩ := hE.open
            cases hv
            obtain ⟨rfl, _, hfz⟩ := hae (by omega)
            have e0 := hro.c0 k hkl
            have e1 := hro.c1 k hkl
            have e2 := hro.c2 k hkl
            have e3 := hro.c3 k hkl
            have e4 := hro.c4 k hkl
            have z0 := hfz (k * 5)
            have z1 := hfz (k * 5 + 1)
            have z2 := hfz (k * 5 + 2)
            have z3 := hfz (k * 5 + 3)
            have z4 := hfz (k * 5 + 4)
            have f1 : IntKind.i64.wrap (900 + (k : Int)) = 900 + (k : Int) := i64_small (by omega) (by omega)
            have f2 : IntKind.i64.wrap ((k : Int) + 1) = ((k + 1 : Nat) : Int) := by rw [i64_small (by omega) (by omega)]; omega
            have HF : Hid (OwI w3 (keyW wr ge k (900 + (k : Int))) (.slice (some ⟨ge, 0, none⟩) es.length capa) es.length) := ⟨_, List.length_set .., HE.out.keyed k hkl _, hX.next (keyW_but wr ge k _).ex (fun j _ hj => by rw [hj]; rfl)⟩
            clear hE hro hae hfz HE hX
            generalize (nth es k).live = y0 at *
            generalize (nth es k).hash = y1 at *
            generalize (nth es k).key = y2 at *
            generalize (nth es k).value = y3 at *
            generalize (nth es k).birth = y4 at *
            unfold keyW at HF
            go_wp2_with fail
            go_roundw
            case rel => exact ⟨k + 1, by omega, rfl, HF.out⟩
            case measure => simp [intOf]; omega
          · obtain rfl : k = N := by omega
            have tk : ¬ (k : Int) < (k : Int) := by omega
            have hown : wr.ownsRow 0 42 5 (.slice aa k capa) k (enl es) := by
              have : wr.ownsRow 0 42 5 (.slice aa k capa) es.length (enl es) := hE
              rwa [hlE] at this
            have HX := Lib.hid hX
            have f2 : IntKind.i64.wrap ((k : Int) + 2) = ((k + 2 : Nat) : Int) := by rw [i64_small (by omega) (by omega)]; omega
            clear hE hX hlE
            generalize enl es = R at *
            go_upto_region 17 with (at_builtin; refine wpList_append_own _ rfl _ _ 35 rfl 0 42 i0 (.agg #[.bool false, .int .i64 0, .int .i64 0, .int .i64 0, .int .i64 0]) 5 40 Tryz.underlying35 hi0 hz0 hz1 hz2 rfl (by decide) _ _ _ rfl (World.ownsRow.alloc hown _) ⟨wr.heap.size, 0, none⟩ 2 2 (enl [⟨false, 0, 1, 0, 0⟩, ⟨false, 0, 2, 0, 0⟩]) rfl rfl (new_two _ 1 2 _) (enl_one _) (by unfold maxLen; omega) (by omega) (Nat.zero_le _) ?_; intro v' w5 hown5 hgrow5 _; obtain ⟨ca, cc, hcv⟩ := ownsRow_shape hown5; subst hcv)
            have hX5 : Ex (fun j => (Value.slice aa k capa).ownBlock = some j) w3 w5 := (HX.out.alloc _).next (Y := fun j => (Value.slice aa k capa).ownBlock = some j) ⟨hgrow5.os, hgrow5.tape, hgrow5.output, hgrow5.size, fun j hj hx => hgrow5.block j hj (fun e => hx e.symm)⟩ (fun j _ hj => hj)
            have hP5 := HP3.out.touch hX5 HKB.out
            have CP := pairs_any hP5.dc
            have hEb5 : Es w5 (.slice ab k capb) (liveL t.es) := HEB.out.same fun j hj => hX5.block j (HLB.out j hj) (fun e => by have := HGB.out j hj; have := HLA.out j e; omega)
            have HEB5 := Lib.hid hEb5
            have HP5 := Lib.hid hP5
            clear hX5 hP5 hEb5 hown5 hgrow5 HX
            go_wp2_with fail
            refine CP.mono ?_
            rintro e w6 ⟨vc, rfl, hEc, hB6⟩
            clear CP
            obtain ⟨ac, capc, hvc, hSc⟩ := hEc.es.sl
            obtain ⟨_, _, hvb, hSb⟩ := (HEB5.out.same (w' := w6) fun j hj => hB6.block j (HEB5.out.lt j hj)).sl
            rw [HN.out] at hvc hSc hvb hSb
            cases hvb
            subst hvc
            have CE := entries8_any ab ac k capb capc (liveL t.es) w6 hSb hSc (by omega)
            have hP6 := HP5.out.below hB6
            have HBL := Lib.hid hP6.bl
            clear hEc hSc hSb hP6 HEB5 HP5
            go_wp2_with fail
            refine CE.mono ?_
            rintro e w7 ⟨rfl, hB7⟩
            clear CE
            have CW := awake8_any w7
            go_wp2_with fail
            refine CW.mono ?_
            rintro e w8 ⟨rfl, hB8⟩
            clear CW
            go_wp2
            go_ret
            exact ⟨rfl, HBL.out.trans ((hB7.trans (hB8.mono hB7.size)).mono HBL.out.size)⟩
end Go.Proofs.YtcehndeopcoakabGreat
