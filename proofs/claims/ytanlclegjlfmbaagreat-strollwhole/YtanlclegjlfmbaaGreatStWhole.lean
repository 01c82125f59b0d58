/-
  StrollWhole.
-/
import Derived.Test.YtanlclegjlfmbaaGreatStFill
import Derived.Test.YtanlclegjlfmbaaGreatStRow
namespace Go.Proofs.YtanlclegjlfmbaaGreat
open Go.RowKit Go.WideShapes

/-- The birth told last ahead of the n-th Next. -/
def toldAt (back : Bool) (N n : Nat) : Int := if back = true then (if n = 0 then 9223372036854775807 else (N : Int) - (n : Int)) else (n : Int) - 1
/-- The number of the pair that the n-th Next tells. -/
def ixAt (back : Bool) (N n : Nat) : Nat := if back = true then N - 1 - n else n
theorem ixAt_lt {back : Bool} {N n : Nat} (h : n < N) : ixAt back N n < N := by unfold ixAt; split <;> omega
theorem toldAt_succ (back : Bool) {N n : Nat} (h : n < N) : toldAt back N (n + 1) = (ixAt back N n : Int) := by
  unfold toldAt ixAt
  cases back with
  | true => simp only [if_true]; rw [if_neg (by omega)]; omega
  | false => simp only [Bool.false_eq_true, if_false]; omega
theorem toldAt_ge (back : Bool) {N n : Nat} (h : n ≤ N) : -1 ≤ toldAt back N n := by
  unfold toldAt
  split
  · split <;> omega
  · omega
theorem toldAt_lt {back : Bool} {N n : Nat} (h : n ≤ N) (hN : N ≤ 1000) : back = false → toldAt back N n < 9223372036854775807 := by
  intro hb
  subst hb
  unfold toldAt
  simp only [Bool.false_eq_true, if_false]
  omega
theorem Fl.nx1 {l : List Int} {vs : Nat → Int} {N : Nat} {t : Tb} (h : Fl l vs N t) (back : Bool) {n : Nat} (hn : n < N) (hN : N ≤ 1000) : Nx1 back t.es (toldAt back N n) (ixAt back N n) := by
  unfold Nx1 toldAt ixAt
  cases back with
  | true =>
    show Nb t.es (if n = 0 then 9223372036854775807 else (N : Int) - (n : Int)) (N - 1 - n)
    refine ⟨by rw [h.len]; omega, by rw [h.at' _ (by omega)], by rw [h.at' _ (by omega)]; show ((N - 1 - n : Nat) : Int) < _; split <;> omega, fun k hk hkl _ => ?_⟩
    rw [h.len] at hkl
    rw [h.at' k hkl]
    show _ ≤ (k : Int)
    split
    · omega
    · omega
  | false =>
    show Nf t.es ((n : Int) - 1) n
    refine ⟨by rw [h.len]; omega, by rw [h.at' _ hn], by rw [h.at' _ hn]; show (n : Int) - 1 < (n : Int); omega, fun k hk _ => ?_⟩
    rw [h.at' k (by omega)]
    show (k : Int) ≤ _
    omega
theorem Fl.nx0 {l : List Int} {vs : Nat → Int} {N : Nat} {t : Tb} (h : Fl l vs N t) (back : Bool) : Nx0 back t.es (toldAt back N N) := by
  unfold Nx0 toldAt
  cases back with
  | true =>
    show Fb t.es (if N = 0 then 9223372036854775807 else (N : Int) - (N : Int))
    intro k hk _
    rw [h.len] at hk
    rw [h.at' k hk]
    show _ ≤ (k : Int)
    rw [if_neg (by omega)]
    omega
  | false =>
    show Ff t.es ((N : Int) - 1)
    intro k hk _
    rw [h.len] at hk
    rw [h.at' k hk]
    show (k : Int) ≤ _
    omega
/-- How the law stands ahead of the n-th Next. -/
structure WhS (w wr : World) (d s b gv : Nat) (l : List Int) (N : Nat) (back : Bool) (n : Nat) (vs : Nat → Int) (t : Tb) (g gi r h : Nat) (ev : Value) (ver m : Nat) : Prop where
  pd : Pd (fun k => k = gv ∨ k = s ∨ k = b) w.heap.size w wr d g gi r h ev t 1000 ver
  fl : Fl l vs N t
  sr : Sr wr s d back (N : Int) (toldAt back N n) b
  bk : 0 < N → Blk wr gv N (fun j => .int .i64 (vs j))
  le : ver ≤ m
  ge : w.heap.size ≤ gv ∧ w.heap.size ≤ s ∧ w.heap.size ≤ b
  ne : 0 < N → gv ≠ s ∧ gv ≠ b
def WhI (w wr : World) (d s b gv : Nat) (l : List Int) (N : Nat) (back : Bool) (n : Nat) : Prop := ∃ vs t g gi r h ev ver, WhS w wr d s b gv l N back n vs t g gi r h ev ver (N + n)
def vl (n : Nat) : List Int := (List.range n).map fun i : Nat => 5 * (i : Int)
theorem vl_len (n : Nat) : (vl n).length = n := by simp [vl]
theorem vl_succ (n : Nat) : vl (n + 1) = vl n ++ [5 * (n : Int)] := by simp [vl, List.range_succ]
theorem vl_at {n j : Nat} (h : j < n) : (vl n)[j]?.getD 0 = 5 * (j : Int) := by simp [vl, h]
set_option maxRecDepth 100000 in
set_option maxHeartbeats 8000000 in
theorem swhole_walk (a0 : Option Addr) (n0 c0 : Nat) (l : List Int) (back : Bool) (a1 : Option Addr) (n1 c1 : Nat) (ks : List Int) (w : World) (h0 : SlI w a0 n0 c0 l) (h1 : SlI w a1 n1 c1 ks) :
    Calls Tryz.prog 5 #[.slice a0 n0 c0, .bool back, .slice a1 n1 c1] w fun e w' => e = .returned (.bool true) ∧ Below w.heap.size w w' := by
  have CFl := filled_any a0 n0 c0 l w h0
  obtain ⟨bb, off, hb, hn, hcap, hcell⟩ := h0.open
  obtain ⟨bk, offk, hbk, hnk, hcapk, hcellk⟩ := h1.open
  clear h0 h1
  obtain ⟨i0, hi0, hz0, hz1, hz2⟩ := info_parts Tryz.infoN
  by_cases hb0 : ¬ (n0 ≤ 150 ∧ n1 ≤ 150)
  case pos =>
    have CW := awake9_any w
    clear hcell hcellk CFl
    by_cases h2 : n0 ≤ 150
    · have t0 : ¬ (150 : Int) < (n0 : Int) := by omega
      have t1 : (150 : Int) < (n1 : Int) := by omega
      go_enter Tryz.func5, Tryz.ntmps5
      go_wp2_with fail
      refine CW.mono ?_
      rintro e w' ⟨rfl, hB⟩
      clear CW
      go_wp2
      go_ret
      exact ⟨rfl, hB⟩
    · have t0 : (150 : Int) < (n0 : Int) := by omega
      go_enter Tryz.func5, Tryz.ntmps5
      go_wp2_with fail
      refine CW.mono ?_
      rintro e w' ⟨rfl, hB⟩
      clear CW
      go_wp2
      go_ret
      exact ⟨rfl, hB⟩
  case neg =>
    have hb00 : n0 ≤ 150 := by omega
    have hb01 : n1 ≤ 150 := by omega
    have t0 : ¬ (150 : Int) < (n0 : Int) := by omega
    have t1 : ¬ (150 : Int) < (n1 : Int) := by omega
    have CF := CFl (by omega)
    have HC : Hid (∀ W j, Below w.heap.size w W → j < n0 → a0 = some ⟨bb, off, none⟩ ∧ W.cell? ⟨bb, off + j, none⟩ = some (.int .i64 (l[j]?.getD 0))) := fun W j hW hj => ⟨(hb (by omega)).1, (hW.cell (p := ⟨bb, off + j, none⟩) (hb (by omega)).2).trans (hcell j hj)⟩
    have HCK : Hid (∀ W j, Below w.heap.size w W → j < n1 → a1 = some ⟨bk, offk, none⟩ ∧ W.cell? ⟨bk, offk + j, none⟩ = some (.int .i64 (ks[j]?.getD 0))) := fun W j hW hj => ⟨(hbk (by omega)).1, (hW.cell (p := ⟨bk, offk + j, none⟩) (hbk (by omega)).2).trans (hcellk j hj)⟩
    clear hb hcell hn hbk hcellk hnk CFl hb0
    go_enter Tryz.func5, Tryz.ntmps5
    go_wp2_with fail
    refine CF.mono ?_
    rintro e w1 ⟨d, rfl, hFil⟩
    clear CF
    have HFil := Lib.hid hFil
    have hsz1 : w.heap.size ≤ w1.heap.size := by obtain ⟨_, _, _, _, _, _, p, _⟩ := hFil; exact p.bl.size
    clear hFil
    go_wp2_with fail
    go_loopw [9, 10] (fun vv iv wr => ∃ i : Nat, i ≤ n0 ∧ iv = .int .i64 (i : Int) ∧ IntsR w1.heap.size wr vv (vl i) ∧ Below w1.heap.size w1 wr) (fun _ iv _ => n0 - (intOf iv).toNat)
    case atStart => exact ⟨0, Nat.zero_le _, rfl, IntsR.nil _ _, Below.refl _ _⟩
    case round =>
      obtain ⟨i, hi, rfl, hIn, hB⟩ := hrel
      by_cases hil : i < n0
      · have ti : (i : Int) < (n0 : Int) := by omega
        have hown : wr.ownsRow w1.heap.size 3 1 u9 (vl i).length ((vl i).map fun x : Int => Value.int .i64 x) := hIn
        rw [vl_len] at hown
        have FIN : Hid (∀ (v' : Value) (w2 : World), w2.ownsRow w1.heap.size 3 1 v' (i + 1) (((vl i).map fun x : Int => Value.int .i64 x) ++ [.int .i64 (5 * (i : Int))]) → IntsR w1.heap.size w2 v' (vl (i + 1))) := by
          intro v' w2 h5
          rw [vl_succ]
          exact intsR_snoc (by rw [vl_len]; exact h5)
        obtain ⟨R, hR⟩ : ∃ R, ((vl i).map fun x : Int => Value.int .i64 x) = R := ⟨_, rfl⟩
        rw [hR] at hown FIN
        have e5 : IntKind.i64.wrap (5 * (i : Int)) = 5 * (i : Int) := i64_small (by omega) (by omega)
        have e1 : IntKind.i64.wrap ((i : Int) + 1) = ((i + 1 : Nat) : Int) := by rw [i64_small (by omega) (by omega)]; omega
        have hsz := hB.size
        clear hR hIn
        go_wp2_with (at_builtin; refine wpList_append_own _ rfl _ _ 50 rfl w1.heap.size 3 i0 (.int .i64 0) 1 8 Tryz.underlying50 hi0 hz0 hz1 hz2 rfl (by decide) _ _ _ rfl (World.ownsRow.alloc hown _) ⟨wr.heap.size, 0, none⟩ 1 1 [.int .i64 (5 * (i : Int))] rfl rfl (newR_one _ _ _) (by simp [Value.oneCell']) (by unfold maxLen; omega) (by omega) (by simp; omega) ?_; intro v' w2 hown2 hgrow _; have hI2 := Lib.hid (FIN.out v' w2 hown2); have hgrow' : (wr.alloc (.cells #[.int .i64 (5 * (i : Int))] 3)).grownBy w2 u9.ownBlock := hgrow; have hb2 := belowR_grown hB (Nat.le_refl _) hown hgrow'; clear hgrow hgrow' hown2)
        go_roundw
        case rel => exact ⟨i + 1, by omega, rfl, hI2.out, hb2⟩
        case measure => simp [intOf]; omega
      · obtain rfl : i = n0 := by omega
        have ti : ¬ (i : Int) < (i : Int) := by omega
        obtain ⟨t, g, gi, r, h, ev, hP, hFl⟩ := HFil.out
        obtain ⟨av, capv, gv0, hvv, hcv, hbv⟩ := hIn.open
        subst hvv
        rw [vl_len] at hcv hbv
        have CN := ln_new (hP.below hB) back
        have HBV : Hid (0 < i → av = some ⟨gv0, 0, none⟩ ∧ gv0 < wr.heap.size ∧ w1.heap.size ≤ gv0 ∧ Blk wr gv0 i (fun j => .int .i64 (5 * (j : Int)))) := fun hp => ⟨(hbv hp).1, (hbv hp).2.1, (hbv hp).2.2.1, (hbv hp).2.2.2.congr fun j hj => by rw [vl_at hj]⟩
        have HFl := Lib.hid hFl
        have HLT := Lib.hid hP.dc.lt
        have hsr := hB.size
        rename_i n0'
        rw [vl_len]
        clear hP hIn hFl hbv HFil hB
        go_wp2_with fail
        refine CN.mono ?_
        rintro e w3 ⟨s, rfl, hs, b, hbl, hS, hP, hB3⟩
        clear CN
        have hsrb := hS.lt
        obtain ⟨gv, hgv, hgp, hgw⟩ : ∃ gv, (0 < i → av = some ⟨gv, 0, none⟩ ∧ Blk w3 gv i (fun j => .int .i64 (5 * (j : Int))) ∧ gv ≠ s ∧ gv ≠ b) ∧ w.heap.size ≤ gv ∧ (gv < w3.heap.size ∧ ¬ cX d g gi r h ev gv) := by
          by_cases h0 : 0 < i
          · obtain ⟨q1, q2, q3, q4⟩ := HBV.out h0
            exact ⟨gv0, fun _ => ⟨q1, q4.of hB3 h0, by omega, by omega⟩, by omega, by have := hB3.size; omega, fun hc => by have := HLT.out _ hc; omega⟩
          · exact ⟨s, fun h => absurd h h0, by omega, hsrb.1, fun hc => by have := HLT.out _ hc; omega⟩
        have hI0 : WhI w w3 d s b gv l i back 0 := ⟨_, t, g, gi, r, h, ev, i, ⟨hP.withK (by
          rintro k (rfl | rfl | rfl)
          · exact hgw
          · exact hP.kp _ (.inr (.inl rfl))
          · exact hP.kp _ (.inr (.inr rfl))), HFl.out, by
            have := hS
            rw [HFl.out.live] at this
            exact this, fun h0 => (hgv h0).2.1, by omega, ⟨hgp, by omega, by omega⟩, fun h0 => (hgv h0).2.2⟩⟩
        have HI0 := Lib.hid hI0
        have HAV : Hid (0 < i → av = some ⟨gv, 0, none⟩) := fun h0 => (hgv h0).1
        have h2 := eqSr s
        clear hI0 hP hS HFl HLT HBV hgv hgw
        go_wp2_with fail
        clear h2
        generalize hNN : i = N at *
        clear hNN
        go_loopw [12, 13, 14, 15, 16] (fun nv _ _ _ _ wr => ∃ n : Nat, n ≤ N ∧ nv = .int .i64 (n : Int) ∧ WhI w wr d s b gv l N back n) (fun nv _ _ _ _ _ => N - (intOf nv).toNat)
        case atStart => exact ⟨0, Nat.zero_le _, rfl, HI0.out⟩
        case round =>
          clear HI0
          obtain ⟨n, hn, rfl, hWI⟩ := hrel
          obtain ⟨vs, t, g, gi, r, h, ev, ver, hI⟩ := hWI
          by_cases hlt : n < N
          · have tn : (n : Int) < (N : Int) := by omega
            have hav := HAV.out (by omega)
            have ha0 := (HC.out wr 0 hI.pd.bl (by omega)).1
            by_cases hki : n < n1 ∧ 0 ≤ ks[n]?.getD 0
            · obtain ⟨hk1, hk0⟩ := hki
              have t2 : (n : Int) < (n1 : Int) := by omega
              obtain ⟨ha1, hck⟩ := HCK.out wr n hI.pd.bl hk1
              obtain ⟨kv, hkv⟩ : ∃ kv : Nat, ks[n]?.getD 0 = (kv : Int) := ⟨(ks[n]?.getD 0).toNat, by omega⟩
              rw [hkv] at hck
              have t3 : (0 : Int) ≤ (kv : Int) := by omega
              obtain ⟨kk, hkk⟩ : ∃ kk, kk = kv % N := ⟨_, rfl⟩
              have hkl : kk < N := by rw [hkk]; exact Nat.mod_lt _ (by omega)
              have e12 : Int.tmod (kv : Int) (N : Int) = (kk : Int) := by rw [hkk]; exact (Int.ofNat_tmod kv N).symm
              clear hkk hk0 hkv
              have e12' : IntKind.i64.wrap (kk : Int) = (kk : Int) := i64_small (by omega) (by omega)
              have e12n : ¬ ((N : Int) = 0) := by omega
              have tkk : (kk : Int) < (N : Int) := by omega
              have e13 : IntKind.i64.wrap (1000 + (n : Int)) = 1000 + (n : Int) := i64_small (by omega) (by omega)
              have hbk := hI.bk (by omega)
              have hne := hI.ne (by omega)
              have c1 := hbk.c kk hkl
              have z1 := hbk.z kk
              obtain ⟨w2, hw2⟩ : ∃ y, wr.setCell ⟨gv, kk, none⟩ (.int .i64 (1000 + (n : Int))) = y := ⟨_, rfl⟩
              have oth : ∀ k, k ≠ gv → w2.heap[k]? = wr.heap[k]? := fun k hk => by rw [← hw2]; exact Below.heap_setCell _ _ _ _ hk
              have hx2 : Ex (fun k => k = gv ∨ k = s ∨ k = b) wr w2 := by rw [← hw2]; exact (Ex.refl _ wr).setCell (p := ⟨gv, kk, none⟩) (fun _ => .inl rfl) _
              have hKB : ∀ k, (k = gv ∨ k = s ∨ k = b) → w.heap.size ≤ k := by
                rintro k (h | h | h)
                · rw [h]; exact hI.ge.1
                · rw [h]; exact hI.ge.2.1
                · rw [h]; exact hI.ge.2.2
              have hP2 := hI.pd.touch hx2 hKB
              clear hKB
              have hS2 := hI.sr.same (oth s (fun e => hne.1 e.symm)) (oth b (fun e => hne.2 e.symm))
              have hb2 : Blk w2 gv N (fun j => .int .i64 (upd vs kk (1000 + (n : Int)) j)) := by
                rw [← hw2]
                refine (hbk.put kk _).congr fun j _ => ?_
                unfold upd
                split <;> rfl
              have hle := hI.le
              have CP := put9_any (hP2.below ((Below.refl _ w2).drew)) (hI.fl.fit (by omega) (by omega)) (by rw [hI.fl.live]; omega) (by rw [hI.fl.len]; omega) (l[kk]?.getD 0) (kk : Int) (1000 + (n : Int))
              have cc : w2.cell? ⟨bb, off + kk, none⟩ = some (.int .i64 (l[kk]?.getD 0)) := (HC.out w2 kk hP2.bl hkl).2
              have cv : w2.cell? ⟨gv, kk, none⟩ = some (.int .i64 (1000 + (n : Int))) := by
                have := hb2.c kk hkl
                unfold upd at this
                rw [if_pos rfl] at this
                exact this
              have dcc : w2.drew.cell? ⟨bb, off + kk, none⟩ = some (.int .i64 (l[kk]?.getD 0)) := cc
              have dcv : w2.drew.cell? ⟨gv, kk, none⟩ = some (.int .i64 (1000 + (n : Int))) := cv
              have HAFT : Hid (∀ w3, PutR (fun k => k = gv ∨ k = s ∨ k = b) w.heap.size w d t 1000 ver (l[kk]?.getD 0) (kk : Int) (1000 + (n : Int)) w3 → Kp (fun k => k = gv ∨ k = s ∨ k = b) w2.drew w3 → (∃ vs t g gi r h ev ver, WhS w w3 d s b gv l N back n vs t g gi r h ev ver (N + n + 1)) ∧ w3.cell? ⟨bb, off + kk, none⟩ = some (.int .i64 (l[kk]?.getD 0)) ∧ w3.cell? ⟨gv, kk, none⟩ = some (.int .i64 (1000 + (n : Int)))) := fun w3 hPR hK3 => by
                obtain ⟨g', gi', r', h', ev', hP3⟩ := hI.fl.put_old hkl hPR
                have hb3 := hb2.same (w' := w3) (hK3 gv (.inl rfl))
                exact ⟨⟨_, _, g', gi', r', h', ev', ver + 1, ⟨hP3, hI.fl.putv hkl _, hS2.same (hK3 s (.inr (.inl rfl))) (hK3 b (.inr (.inr rfl))), fun _ => hb3, by omega, hI.ge, hI.ne⟩⟩, (HC.out w3 kk hP3.bl hkl).2, (World.cell?_of_block (a := ⟨gv, kk, none⟩) (hK3 gv (.inl rfl))).trans cv⟩
              have HW2 := Lib.hid hw2
              subst ha1
              subst hav
              subst ha0
              clear hI hbk hne hw2 oth hx2 hP2 hS2 hb2
              generalize l[kk]?.getD 0 = lk at *
              go_upto_region 20 with fail
              rw [HW2.out]
              go_region_held3 (fun V => V.cell? ⟨bb, off + kk, none⟩ = some (.int .i64 lk) ∧ V.cell? ⟨gv, kk, none⟩ = some (.int .i64 (1000 + (n : Int))))
                (first | with_reducible exact ⟨dcc, dcv⟩ | with_reducible exact ⟨cc, cv⟩ | with_reducible exact HX3.out.2 | fail)
                (first | (go_at_call 14; refine CP.mono ?_; rintro e w3 ⟨rfl, hPR, hK3⟩; have HX3 := Lib.hid (HAFT.out w3 hPR hK3); clear hPR hK3) | fail)
              obtain ⟨vs, t, g, gi, r, h, ev, ver, hI⟩ := HX3.out.1
              clear HAFT HX3 CP cc cv dcc dcv c1 z1 e12 e12' e12n hck HW2
              cases back with
              | true =>
                have hx := hI.fl.nx1 true hlt (by omega)
                have CX := ln_yes hI.pd hI.fl.born (by rw [hI.fl.live]; exact hI.sr) (.inr (.inl rfl)) hI.ge.2.1 (toldAt_ge true (by omega)) (toldAt_lt (by omega) (by omega)) hx
                obtain ⟨ix, hix⟩ : ∃ ix, ixAt true N n = ix := ⟨_, rfl⟩
                have hixl : ix < N := by rw [← hix]; exact ixAt_lt hlt
                have hts := toldAt_succ true hlt
                rw [hix] at CX hts
                have hen := hI.fl.at' ix hixl
                have hlv := hI.fl.live
                rw [hen, hlv] at CX
                have HI5 := Lib.hid hI
                have HTS := Lib.hid hts
                have hixe : ix = N - 1 - n := by rw [← hix]; rfl
                have e14a : IntKind.i64.wrap ((N : Int) - 1) = (N : Int) - 1 := i64_small (by omega) (by omega)
                have e14b : IntKind.i64.wrap ((N : Int) - 1 - (n : Int)) = (ix : Int) := by rw [i64_small (by omega) (by omega)]; omega
                have e14c : (N : Int) - 1 - (n : Int) = (ix : Int) := by omega
                clear hixe
                clear hI hx hen hlv hts hix
                unfold eV at CX
                simp only at CX
                go_wp2_with fail
                refine CX.mono ?_
                rintro e w5 ⟨rfl, hS5, hP5, hX5⟩
                clear CX
                obtain ⟨w6, hw6⟩ : ∃ y, w5.alloc (.cells #[.bool true, .int .i64 (l[ix]?.getD 0), .int .i64 (ix : Int), .int .i64 (vs ix), .int .i64 (ix : Int)] 46) = y := ⟨_, rfl⟩
                have hB6 : Below w5.heap.size w5 w6 := by rw [← hw6]; exact (Below.refl _ w5).alloc (Nat.le_refl _) _
                have hX6 : Blk w6 w5.heap.size 5 (fun j => #[Value.bool true, .int .i64 (l[ix]?.getD 0), .int .i64 (ix : Int), .int .i64 (vs ix), .int .i64 (ix : Int)].getD j .nilFunc) := by rw [← hw6]; exact Blk.new w5 _ _
                have hbk := HI5.out.bk (by omega)
                have hne := HI5.out.ne (by omega)
                have hbk5 := hbk.same (hX5.block gv (hbk.lt (by omega)) (fun e => hne.1 e))
                have hbk6 := hbk5.of hB6 (by omega)
                have hP6 := hP5.below hB6
                have hS6 := hS5.below hB6
                have hc := (HC.out w6 ix hP6.bl hixl).2
                have HFI : Hid (∀ V, Below w6.heap.size w6 V → WhI w V d s b gv l N true (n + 1)) := fun V hV => ⟨vs, t, g, gi, r, h, ev, ver, ⟨hP6.below hV, HI5.out.fl, by rw [HTS.out]; exact hS6.below hV, fun _ => hbk6.of hV (by omega), by have := HI5.out.le; omega, HI5.out.ge, HI5.out.ne⟩⟩
                have p0 : w6.cell? ⟨w5.heap.size, 0, none⟩ = some (.bool true) := hX6.c 0 (by omega)
                have p1 : w6.cell? ⟨w5.heap.size, 1, none⟩ = some (.int .i64 (l[ix]?.getD 0)) := hX6.c 1 (by omega)
                have p2 : w6.cell? ⟨w5.heap.size, 2, none⟩ = some (.int .i64 (ix : Int)) := hX6.c 2 (by omega)
                have p3 : w6.cell? ⟨w5.heap.size, 3, none⟩ = some (.int .i64 (vs ix)) := hX6.c 3 (by omega)
                have p4 : w6.cell? ⟨w5.heap.size, 4, none⟩ = some (.int .i64 (ix : Int)) := hX6.c 4 (by omega)
                have pv : w6.cell? ⟨gv, ix, none⟩ = some (.int .i64 (vs ix)) := hbk6.c ix hixl
                have d0 : w6.drew.cell? ⟨w5.heap.size, 0, none⟩ = some (.bool true) := p0
                have d1 : w6.drew.cell? ⟨w5.heap.size, 1, none⟩ = some (.int .i64 (l[ix]?.getD 0)) := p1
                have d2 : w6.drew.cell? ⟨w5.heap.size, 2, none⟩ = some (.int .i64 (ix : Int)) := p2
                have d3 : w6.drew.cell? ⟨w5.heap.size, 3, none⟩ = some (.int .i64 (vs ix)) := p3
                have d4 : w6.drew.cell? ⟨w5.heap.size, 4, none⟩ = some (.int .i64 (ix : Int)) := p4
                have dv : w6.drew.cell? ⟨gv, ix, none⟩ = some (.int .i64 (vs ix)) := pv
                have dc : w6.drew.cell? ⟨bb, off + ix, none⟩ = some (.int .i64 (l[ix]?.getD 0)) := hc
                have hq := en_neV ⟨true, l[ix]?.getD 0, (ix : Int), vs ix, (ix : Int)⟩ ⟨true, l[ix]?.getD 0, (ix : Int), vs ix, (ix : Int)⟩
                have hq' : (!eqE ⟨true, l[ix]?.getD 0, (ix : Int), vs ix, (ix : Int)⟩ ⟨true, l[ix]?.getD 0, (ix : Int), vs ix, (ix : Int)⟩) = false := by rw [(eqE_iff _ _).2 rfl]; rfl
                rw [hq'] at hq
                unfold eV at hq
                have HW6 := Lib.hid hw6
                have tix : (ix : Int) < (N : Int) := by omega
                have e1 : IntKind.i64.wrap ((n : Int) + 1) = ((n + 1 : Nat) : Int) := by rw [i64_small (by omega) (by omega)]; omega
                clear hw6 hX6 hbk hbk5 hbk6 hP5 hP6 hS5 hS6 hq' hX5
                generalize l[ix]?.getD 0 = lx at *
                generalize vs ix = vx at *
                go_upto_region 26 with fail
                rw [HW6.out]
                go_region_held3 (fun V => ((V.cell? ⟨w5.heap.size, 0, none⟩ = some (.bool true) ∧ V.cell? ⟨w5.heap.size, 1, none⟩ = some (.int .i64 lx)) ∧ (V.cell? ⟨w5.heap.size, 2, none⟩ = some (.int .i64 (ix : Int)) ∧ V.cell? ⟨w5.heap.size, 3, none⟩ = some (.int .i64 vx) ∧ V.cell? ⟨w5.heap.size, 4, none⟩ = some (.int .i64 (ix : Int)))) ∧ (V.cell? ⟨gv, ix, none⟩ = some (.int .i64 vx) ∧ V.cell? ⟨bb, off + ix, none⟩ = some (.int .i64 lx)))
                  (first | with_reducible exact ⟨⟨⟨d0, d1⟩, d2, d3, d4⟩, dv, dc⟩ | with_reducible exact ⟨⟨⟨p0, p1⟩, p2, p3, p4⟩, pv, hc⟩ | fail) (fail)
                go_wp2_with fail
                go_roundw
                case rel => exact ⟨n + 1, by omega, rfl, HFI.out _ ((Below.refl _ w6).drew)⟩
                case measure => simp [intOf]; omega
              | false =>
                have hx := hI.fl.nx1 false hlt (by omega)
                have CX := ln_yes hI.pd hI.fl.born (by rw [hI.fl.live]; exact hI.sr) (.inr (.inl rfl)) hI.ge.2.1 (toldAt_ge false (by omega)) (toldAt_lt (by omega) (by omega)) hx
                have hix : ixAt false N n = n := rfl
                have hixl : n < N := by rw [← hix]; exact ixAt_lt hlt
                have hts := toldAt_succ false hlt
                rw [hix] at CX hts
                have hen := hI.fl.at' n hixl
                have hlv := hI.fl.live
                rw [hen, hlv] at CX
                have HI5 := Lib.hid hI
                have HTS := Lib.hid hts
                skip
                clear hI hx hen hlv hts hix
                unfold eV at CX
                simp only at CX
                go_wp2_with fail
                refine CX.mono ?_
                rintro e w5 ⟨rfl, hS5, hP5, hX5⟩
                clear CX
                obtain ⟨w6, hw6⟩ : ∃ y, w5.alloc (.cells #[.bool true, .int .i64 (l[n]?.getD 0), .int .i64 (n : Int), .int .i64 (vs n), .int .i64 (n : Int)] 46) = y := ⟨_, rfl⟩
                have hB6 : Below w5.heap.size w5 w6 := by rw [← hw6]; exact (Below.refl _ w5).alloc (Nat.le_refl _) _
                have hX6 : Blk w6 w5.heap.size 5 (fun j => #[Value.bool true, .int .i64 (l[n]?.getD 0), .int .i64 (n : Int), .int .i64 (vs n), .int .i64 (n : Int)].getD j .nilFunc) := by rw [← hw6]; exact Blk.new w5 _ _
                have hbk := HI5.out.bk (by omega)
                have hne := HI5.out.ne (by omega)
                have hbk5 := hbk.same (hX5.block gv (hbk.lt (by omega)) (fun e => hne.1 e))
                have hbk6 := hbk5.of hB6 (by omega)
                have hP6 := hP5.below hB6
                have hS6 := hS5.below hB6
                have hc := (HC.out w6 n hP6.bl hixl).2
                have HFI : Hid (∀ V, Below w6.heap.size w6 V → WhI w V d s b gv l N false (n + 1)) := fun V hV => ⟨vs, t, g, gi, r, h, ev, ver, ⟨hP6.below hV, HI5.out.fl, by rw [HTS.out]; exact hS6.below hV, fun _ => hbk6.of hV (by omega), by have := HI5.out.le; omega, HI5.out.ge, HI5.out.ne⟩⟩
                have p0 : w6.cell? ⟨w5.heap.size, 0, none⟩ = some (.bool true) := hX6.c 0 (by omega)
                have p1 : w6.cell? ⟨w5.heap.size, 1, none⟩ = some (.int .i64 (l[n]?.getD 0)) := hX6.c 1 (by omega)
                have p2 : w6.cell? ⟨w5.heap.size, 2, none⟩ = some (.int .i64 (n : Int)) := hX6.c 2 (by omega)
                have p3 : w6.cell? ⟨w5.heap.size, 3, none⟩ = some (.int .i64 (vs n)) := hX6.c 3 (by omega)
                have p4 : w6.cell? ⟨w5.heap.size, 4, none⟩ = some (.int .i64 (n : Int)) := hX6.c 4 (by omega)
                have pv : w6.cell? ⟨gv, n, none⟩ = some (.int .i64 (vs n)) := hbk6.c n hixl
                have d0 : w6.drew.cell? ⟨w5.heap.size, 0, none⟩ = some (.bool true) := p0
                have d1 : w6.drew.cell? ⟨w5.heap.size, 1, none⟩ = some (.int .i64 (l[n]?.getD 0)) := p1
                have d2 : w6.drew.cell? ⟨w5.heap.size, 2, none⟩ = some (.int .i64 (n : Int)) := p2
                have d3 : w6.drew.cell? ⟨w5.heap.size, 3, none⟩ = some (.int .i64 (vs n)) := p3
                have d4 : w6.drew.cell? ⟨w5.heap.size, 4, none⟩ = some (.int .i64 (n : Int)) := p4
                have dv : w6.drew.cell? ⟨gv, n, none⟩ = some (.int .i64 (vs n)) := pv
                have dc : w6.drew.cell? ⟨bb, off + n, none⟩ = some (.int .i64 (l[n]?.getD 0)) := hc
                have hq := en_neV ⟨true, l[n]?.getD 0, (n : Int), vs n, (n : Int)⟩ ⟨true, l[n]?.getD 0, (n : Int), vs n, (n : Int)⟩
                have hq' : (!eqE ⟨true, l[n]?.getD 0, (n : Int), vs n, (n : Int)⟩ ⟨true, l[n]?.getD 0, (n : Int), vs n, (n : Int)⟩) = false := by rw [(eqE_iff _ _).2 rfl]; rfl
                rw [hq'] at hq
                unfold eV at hq
                have HW6 := Lib.hid hw6
                have tix : (n : Int) < (N : Int) := by omega
                have e1 : IntKind.i64.wrap ((n : Int) + 1) = ((n + 1 : Nat) : Int) := by rw [i64_small (by omega) (by omega)]; omega
                clear hw6 hX6 hbk hbk5 hbk6 hP5 hP6 hS5 hS6 hq' hX5
                generalize l[n]?.getD 0 = lx at *
                generalize vs n = vx at *
                go_upto_region 26 with fail
                rw [HW6.out]
                go_region_held3 (fun V => ((V.cell? ⟨w5.heap.size, 0, none⟩ = some (.bool true) ∧ V.cell? ⟨w5.heap.size, 1, none⟩ = some (.int .i64 lx)) ∧ (V.cell? ⟨w5.heap.size, 2, none⟩ = some (.int .i64 (n : Int)) ∧ V.cell? ⟨w5.heap.size, 3, none⟩ = some (.int .i64 vx) ∧ V.cell? ⟨w5.heap.size, 4, none⟩ = some (.int .i64 (n : Int)))) ∧ (V.cell? ⟨gv, n, none⟩ = some (.int .i64 vx) ∧ V.cell? ⟨bb, off + n, none⟩ = some (.int .i64 lx)))
                  (first | with_reducible exact ⟨⟨⟨d0, d1⟩, d2, d3, d4⟩, dv, dc⟩ | with_reducible exact ⟨⟨⟨p0, p1⟩, p2, p3, p4⟩, pv, hc⟩ | fail) (fail)
                go_wp2_with fail
                go_roundw
                case rel => exact ⟨n + 1, by omega, rfl, HFI.out _ ((Below.refl _ w6).drew)⟩
                case measure => simp [intOf]; omega
            · have hav' := hav
              have hSkip : Hid (¬ (n < n1 ∧ 0 ≤ ks[n]?.getD 0)) := hki
              by_cases hk1 : n < n1
              · have hk0 : ¬ (0 ≤ ks[n]?.getD 0) := fun h => hki ⟨hk1, h⟩
                have t2 : (n : Int) < (n1 : Int) := by omega
                obtain ⟨ha1, hck⟩ := HCK.out wr n hI.pd.bl hk1
                subst ha1
                subst hav
                subst ha0
                clear hav' hSkip hki
                generalize ks[n]?.getD 0 = kv at *
                cases back with
                | true =>
                  have hx := hI.fl.nx1 true hlt (by omega)
                  have CX := ln_yes hI.pd hI.fl.born (by rw [hI.fl.live]; exact hI.sr) (.inr (.inl rfl)) hI.ge.2.1 (toldAt_ge true (by omega)) (toldAt_lt (by omega) (by omega)) hx
                  obtain ⟨ix, hix⟩ : ∃ ix, ixAt true N n = ix := ⟨_, rfl⟩
                  have hixl : ix < N := by rw [← hix]; exact ixAt_lt hlt
                  have hts := toldAt_succ true hlt
                  rw [hix] at CX hts
                  have hen := hI.fl.at' ix hixl
                  have hlv := hI.fl.live
                  rw [hen, hlv] at CX
                  have HI5 := Lib.hid hI
                  have HTS := Lib.hid hts
                  have hixe : ix = N - 1 - n := by rw [← hix]; rfl
                  have e14a : IntKind.i64.wrap ((N : Int) - 1) = (N : Int) - 1 := i64_small (by omega) (by omega)
                  have e14b : IntKind.i64.wrap ((N : Int) - 1 - (n : Int)) = (ix : Int) := by rw [i64_small (by omega) (by omega)]; omega
                  have e14c : (N : Int) - 1 - (n : Int) = (ix : Int) := by omega
                  clear hixe
                  clear hI hx hen hlv hts hix
                  unfold eV at CX
                  simp only at CX
                  go_wp2_with fail
                  refine CX.mono ?_
                  rintro e w5 ⟨rfl, hS5, hP5, hX5⟩
                  clear CX
                  obtain ⟨w6, hw6⟩ : ∃ y, w5.alloc (.cells #[.bool true, .int .i64 (l[ix]?.getD 0), .int .i64 (ix : Int), .int .i64 (vs ix), .int .i64 (ix : Int)] 46) = y := ⟨_, rfl⟩
                  have hB6 : Below w5.heap.size w5 w6 := by rw [← hw6]; exact (Below.refl _ w5).alloc (Nat.le_refl _) _
                  have hX6 : Blk w6 w5.heap.size 5 (fun j => #[Value.bool true, .int .i64 (l[ix]?.getD 0), .int .i64 (ix : Int), .int .i64 (vs ix), .int .i64 (ix : Int)].getD j .nilFunc) := by rw [← hw6]; exact Blk.new w5 _ _
                  have hbk := HI5.out.bk (by omega)
                  have hne := HI5.out.ne (by omega)
                  have hbk5 := hbk.same (hX5.block gv (hbk.lt (by omega)) (fun e => hne.1 e))
                  have hbk6 := hbk5.of hB6 (by omega)
                  have hP6 := hP5.below hB6
                  have hS6 := hS5.below hB6
                  have hc := (HC.out w6 ix hP6.bl hixl).2
                  have HFI : Hid (∀ V, Below w6.heap.size w6 V → WhI w V d s b gv l N true (n + 1)) := fun V hV => ⟨vs, t, g, gi, r, h, ev, ver, ⟨hP6.below hV, HI5.out.fl, by rw [HTS.out]; exact hS6.below hV, fun _ => hbk6.of hV (by omega), by have := HI5.out.le; omega, HI5.out.ge, HI5.out.ne⟩⟩
                  have p0 : w6.cell? ⟨w5.heap.size, 0, none⟩ = some (.bool true) := hX6.c 0 (by omega)
                  have p1 : w6.cell? ⟨w5.heap.size, 1, none⟩ = some (.int .i64 (l[ix]?.getD 0)) := hX6.c 1 (by omega)
                  have p2 : w6.cell? ⟨w5.heap.size, 2, none⟩ = some (.int .i64 (ix : Int)) := hX6.c 2 (by omega)
                  have p3 : w6.cell? ⟨w5.heap.size, 3, none⟩ = some (.int .i64 (vs ix)) := hX6.c 3 (by omega)
                  have p4 : w6.cell? ⟨w5.heap.size, 4, none⟩ = some (.int .i64 (ix : Int)) := hX6.c 4 (by omega)
                  have pv : w6.cell? ⟨gv, ix, none⟩ = some (.int .i64 (vs ix)) := hbk6.c ix hixl
                  have d0 : w6.drew.cell? ⟨w5.heap.size, 0, none⟩ = some (.bool true) := p0
                  have d1 : w6.drew.cell? ⟨w5.heap.size, 1, none⟩ = some (.int .i64 (l[ix]?.getD 0)) := p1
                  have d2 : w6.drew.cell? ⟨w5.heap.size, 2, none⟩ = some (.int .i64 (ix : Int)) := p2
                  have d3 : w6.drew.cell? ⟨w5.heap.size, 3, none⟩ = some (.int .i64 (vs ix)) := p3
                  have d4 : w6.drew.cell? ⟨w5.heap.size, 4, none⟩ = some (.int .i64 (ix : Int)) := p4
                  have dv : w6.drew.cell? ⟨gv, ix, none⟩ = some (.int .i64 (vs ix)) := pv
                  have dc : w6.drew.cell? ⟨bb, off + ix, none⟩ = some (.int .i64 (l[ix]?.getD 0)) := hc
                  have hq := en_neV ⟨true, l[ix]?.getD 0, (ix : Int), vs ix, (ix : Int)⟩ ⟨true, l[ix]?.getD 0, (ix : Int), vs ix, (ix : Int)⟩
                  have hq' : (!eqE ⟨true, l[ix]?.getD 0, (ix : Int), vs ix, (ix : Int)⟩ ⟨true, l[ix]?.getD 0, (ix : Int), vs ix, (ix : Int)⟩) = false := by rw [(eqE_iff _ _).2 rfl]; rfl
                  rw [hq'] at hq
                  unfold eV at hq
                  have HW6 := Lib.hid hw6
                  have tix : (ix : Int) < (N : Int) := by omega
                  have e1 : IntKind.i64.wrap ((n : Int) + 1) = ((n + 1 : Nat) : Int) := by rw [i64_small (by omega) (by omega)]; omega
                  clear hw6 hX6 hbk hbk5 hbk6 hP5 hP6 hS5 hS6 hq' hX5
                  generalize l[ix]?.getD 0 = lx at *
                  generalize vs ix = vx at *
                  go_upto_region 26 with fail
                  rw [HW6.out]
                  go_region_held3 (fun V => ((V.cell? ⟨w5.heap.size, 0, none⟩ = some (.bool true) ∧ V.cell? ⟨w5.heap.size, 1, none⟩ = some (.int .i64 lx)) ∧ (V.cell? ⟨w5.heap.size, 2, none⟩ = some (.int .i64 (ix : Int)) ∧ V.cell? ⟨w5.heap.size, 3, none⟩ = some (.int .i64 vx) ∧ V.cell? ⟨w5.heap.size, 4, none⟩ = some (.int .i64 (ix : Int)))) ∧ (V.cell? ⟨gv, ix, none⟩ = some (.int .i64 vx) ∧ V.cell? ⟨bb, off + ix, none⟩ = some (.int .i64 lx)))
                    (first | with_reducible exact ⟨⟨⟨d0, d1⟩, d2, d3, d4⟩, dv, dc⟩ | with_reducible exact ⟨⟨⟨p0, p1⟩, p2, p3, p4⟩, pv, hc⟩ | fail) (fail)
                  go_wp2_with fail
                  go_roundw
                  case rel => exact ⟨n + 1, by omega, rfl, HFI.out _ ((Below.refl _ w6).drew)⟩
                  case measure => simp [intOf]; omega
                | false =>
                  have hx := hI.fl.nx1 false hlt (by omega)
                  have CX := ln_yes hI.pd hI.fl.born (by rw [hI.fl.live]; exact hI.sr) (.inr (.inl rfl)) hI.ge.2.1 (toldAt_ge false (by omega)) (toldAt_lt (by omega) (by omega)) hx
                  have hix : ixAt false N n = n := rfl
                  have hixl : n < N := by rw [← hix]; exact ixAt_lt hlt
                  have hts := toldAt_succ false hlt
                  rw [hix] at CX hts
                  have hen := hI.fl.at' n hixl
                  have hlv := hI.fl.live
                  rw [hen, hlv] at CX
                  have HI5 := Lib.hid hI
                  have HTS := Lib.hid hts
                  skip
                  clear hI hx hen hlv hts hix
                  unfold eV at CX
                  simp only at CX
                  go_wp2_with fail
                  refine CX.mono ?_
                  rintro e w5 ⟨rfl, hS5, hP5, hX5⟩
                  clear CX
                  obtain ⟨w6, hw6⟩ : ∃ y, w5.alloc (.cells #[.bool true, .int .i64 (l[n]?.getD 0), .int .i64 (n : Int), .int .i64 (vs n), .int .i64 (n : Int)] 46) = y := ⟨_, rfl⟩
                  have hB6 : Below w5.heap.size w5 w6 := by rw [← hw6]; exact (Below.refl _ w5).alloc (Nat.le_refl _) _
                  have hX6 : Blk w6 w5.heap.size 5 (fun j => #[Value.bool true, .int .i64 (l[n]?.getD 0), .int .i64 (n : Int), .int .i64 (vs n), .int .i64 (n : Int)].getD j .nilFunc) := by rw [← hw6]; exact Blk.new w5 _ _
                  have hbk := HI5.out.bk (by omega)
                  have hne := HI5.out.ne (by omega)
                  have hbk5 := hbk.same (hX5.block gv (hbk.lt (by omega)) (fun e => hne.1 e))
                  have hbk6 := hbk5.of hB6 (by omega)
                  have hP6 := hP5.below hB6
                  have hS6 := hS5.below hB6
                  have hc := (HC.out w6 n hP6.bl hixl).2
                  have HFI : Hid (∀ V, Below w6.heap.size w6 V → WhI w V d s b gv l N false (n + 1)) := fun V hV => ⟨vs, t, g, gi, r, h, ev, ver, ⟨hP6.below hV, HI5.out.fl, by rw [HTS.out]; exact hS6.below hV, fun _ => hbk6.of hV (by omega), by have := HI5.out.le; omega, HI5.out.ge, HI5.out.ne⟩⟩
                  have p0 : w6.cell? ⟨w5.heap.size, 0, none⟩ = some (.bool true) := hX6.c 0 (by omega)
                  have p1 : w6.cell? ⟨w5.heap.size, 1, none⟩ = some (.int .i64 (l[n]?.getD 0)) := hX6.c 1 (by omega)
                  have p2 : w6.cell? ⟨w5.heap.size, 2, none⟩ = some (.int .i64 (n : Int)) := hX6.c 2 (by omega)
                  have p3 : w6.cell? ⟨w5.heap.size, 3, none⟩ = some (.int .i64 (vs n)) := hX6.c 3 (by omega)
                  have p4 : w6.cell? ⟨w5.heap.size, 4, none⟩ = some (.int .i64 (n : Int)) := hX6.c 4 (by omega)
                  have pv : w6.cell? ⟨gv, n, none⟩ = some (.int .i64 (vs n)) := hbk6.c n hixl
                  have d0 : w6.drew.cell? ⟨w5.heap.size, 0, none⟩ = some (.bool true) := p0
                  have d1 : w6.drew.cell? ⟨w5.heap.size, 1, none⟩ = some (.int .i64 (l[n]?.getD 0)) := p1
                  have d2 : w6.drew.cell? ⟨w5.heap.size, 2, none⟩ = some (.int .i64 (n : Int)) := p2
                  have d3 : w6.drew.cell? ⟨w5.heap.size, 3, none⟩ = some (.int .i64 (vs n)) := p3
                  have d4 : w6.drew.cell? ⟨w5.heap.size, 4, none⟩ = some (.int .i64 (n : Int)) := p4
                  have dv : w6.drew.cell? ⟨gv, n, none⟩ = some (.int .i64 (vs n)) := pv
                  have dc : w6.drew.cell? ⟨bb, off + n, none⟩ = some (.int .i64 (l[n]?.getD 0)) := hc
                  have hq := en_neV ⟨true, l[n]?.getD 0, (n : Int), vs n, (n : Int)⟩ ⟨true, l[n]?.getD 0, (n : Int), vs n, (n : Int)⟩
                  have hq' : (!eqE ⟨true, l[n]?.getD 0, (n : Int), vs n, (n : Int)⟩ ⟨true, l[n]?.getD 0, (n : Int), vs n, (n : Int)⟩) = false := by rw [(eqE_iff _ _).2 rfl]; rfl
                  rw [hq'] at hq
                  unfold eV at hq
                  have HW6 := Lib.hid hw6
                  have tix : (n : Int) < (N : Int) := by omega
                  have e1 : IntKind.i64.wrap ((n : Int) + 1) = ((n + 1 : Nat) : Int) := by rw [i64_small (by omega) (by omega)]; omega
                  clear hw6 hX6 hbk hbk5 hbk6 hP5 hP6 hS5 hS6 hq' hX5
                  generalize l[n]?.getD 0 = lx at *
                  generalize vs n = vx at *
                  go_upto_region 26 with fail
                  rw [HW6.out]
                  go_region_held3 (fun V => ((V.cell? ⟨w5.heap.size, 0, none⟩ = some (.bool true) ∧ V.cell? ⟨w5.heap.size, 1, none⟩ = some (.int .i64 lx)) ∧ (V.cell? ⟨w5.heap.size, 2, none⟩ = some (.int .i64 (n : Int)) ∧ V.cell? ⟨w5.heap.size, 3, none⟩ = some (.int .i64 vx) ∧ V.cell? ⟨w5.heap.size, 4, none⟩ = some (.int .i64 (n : Int)))) ∧ (V.cell? ⟨gv, n, none⟩ = some (.int .i64 vx) ∧ V.cell? ⟨bb, off + n, none⟩ = some (.int .i64 lx)))
                    (first | with_reducible exact ⟨⟨⟨d0, d1⟩, d2, d3, d4⟩, dv, dc⟩ | with_reducible exact ⟨⟨⟨p0, p1⟩, p2, p3, p4⟩, pv, hc⟩ | fail) (fail)
                  go_wp2_with fail
                  go_roundw
                  case rel => exact ⟨n + 1, by omega, rfl, HFI.out _ ((Below.refl _ w6).drew)⟩
                  case measure => simp [intOf]; omega
              · have t2 : ¬ (n : Int) < (n1 : Int) := by omega
                subst hav
                subst ha0
                clear hav' hSkip hki
                cases back with
                | true =>
                  have hx := hI.fl.nx1 true hlt (by omega)
                  have CX := ln_yes hI.pd hI.fl.born (by rw [hI.fl.live]; exact hI.sr) (.inr (.inl rfl)) hI.ge.2.1 (toldAt_ge true (by omega)) (toldAt_lt (by omega) (by omega)) hx
                  obtain ⟨ix, hix⟩ : ∃ ix, ixAt true N n = ix := ⟨_, rfl⟩
                  have hixl : ix < N := by rw [← hix]; exact ixAt_lt hlt
                  have hts := toldAt_succ true hlt
                  rw [hix] at CX hts
                  have hen := hI.fl.at' ix hixl
                  have hlv := hI.fl.live
                  rw [hen, hlv] at CX
                  have HI5 := Lib.hid hI
                  have HTS := Lib.hid hts
                  have hixe : ix = N - 1 - n := by rw [← hix]; rfl
                  have e14a : IntKind.i64.wrap ((N : Int) - 1) = (N : Int) - 1 := i64_small (by omega) (by omega)
                  have e14b : IntKind.i64.wrap ((N : Int) - 1 - (n : Int)) = (ix : Int) := by rw [i64_small (by omega) (by omega)]; omega
                  have e14c : (N : Int) - 1 - (n : Int) = (ix : Int) := by omega
                  clear hixe
                  clear hI hx hen hlv hts hix
                  unfold eV at CX
                  simp only at CX
                  go_wp2_with fail
                  refine CX.mono ?_
                  rintro e w5 ⟨rfl, hS5, hP5, hX5⟩
                  clear CX
                  obtain ⟨w6, hw6⟩ : ∃ y, w5.alloc (.cells #[.bool true, .int .i64 (l[ix]?.getD 0), .int .i64 (ix : Int), .int .i64 (vs ix), .int .i64 (ix : Int)] 46) = y := ⟨_, rfl⟩
                  have hB6 : Below w5.heap.size w5 w6 := by rw [← hw6]; exact (Below.refl _ w5).alloc (Nat.le_refl _) _
                  have hX6 : Blk w6 w5.heap.size 5 (fun j => #[Value.bool true, .int .i64 (l[ix]?.getD 0), .int .i64 (ix : Int), .int .i64 (vs ix), .int .i64 (ix : Int)].getD j .nilFunc) := by rw [← hw6]; exact Blk.new w5 _ _
                  have hbk := HI5.out.bk (by omega)
                  have hne := HI5.out.ne (by omega)
                  have hbk5 := hbk.same (hX5.block gv (hbk.lt (by omega)) (fun e => hne.1 e))
                  have hbk6 := hbk5.of hB6 (by omega)
                  have hP6 := hP5.below hB6
                  have hS6 := hS5.below hB6
                  have hc := (HC.out w6 ix hP6.bl hixl).2
                  have HFI : Hid (∀ V, Below w6.heap.size w6 V → WhI w V d s b gv l N true (n + 1)) := fun V hV => ⟨vs, t, g, gi, r, h, ev, ver, ⟨hP6.below hV, HI5.out.fl, by rw [HTS.out]; exact hS6.below hV, fun _ => hbk6.of hV (by omega), by have := HI5.out.le; omega, HI5.out.ge, HI5.out.ne⟩⟩
                  have p0 : w6.cell? ⟨w5.heap.size, 0, none⟩ = some (.bool true) := hX6.c 0 (by omega)
                  have p1 : w6.cell? ⟨w5.heap.size, 1, none⟩ = some (.int .i64 (l[ix]?.getD 0)) := hX6.c 1 (by omega)
                  have p2 : w6.cell? ⟨w5.heap.size, 2, none⟩ = some (.int .i64 (ix : Int)) := hX6.c 2 (by omega)
                  have p3 : w6.cell? ⟨w5.heap.size, 3, none⟩ = some (.int .i64 (vs ix)) := hX6.c 3 (by omega)
                  have p4 : w6.cell? ⟨w5.heap.size, 4, none⟩ = some (.int .i64 (ix : Int)) := hX6.c 4 (by omega)
                  have pv : w6.cell? ⟨gv, ix, none⟩ = some (.int .i64 (vs ix)) := hbk6.c ix hixl
                  have d0 : w6.drew.cell? ⟨w5.heap.size, 0, none⟩ = some (.bool true) := p0
                  have d1 : w6.drew.cell? ⟨w5.heap.size, 1, none⟩ = some (.int .i64 (l[ix]?.getD 0)) := p1
                  have d2 : w6.drew.cell? ⟨w5.heap.size, 2, none⟩ = some (.int .i64 (ix : Int)) := p2
                  have d3 : w6.drew.cell? ⟨w5.heap.size, 3, none⟩ = some (.int .i64 (vs ix)) := p3
                  have d4 : w6.drew.cell? ⟨w5.heap.size, 4, none⟩ = some (.int .i64 (ix : Int)) := p4
                  have dv : w6.drew.cell? ⟨gv, ix, none⟩ = some (.int .i64 (vs ix)) := pv
                  have dc : w6.drew.cell? ⟨bb, off + ix, none⟩ = some (.int .i64 (l[ix]?.getD 0)) := hc
                  have hq := en_neV ⟨true, l[ix]?.getD 0, (ix : Int), vs ix, (ix : Int)⟩ ⟨true, l[ix]?.getD 0, (ix : Int), vs ix, (ix : Int)⟩
                  have hq' : (!eqE ⟨true, l[ix]?.getD 0, (ix : Int), vs ix, (ix : Int)⟩ ⟨true, l[ix]?.getD 0, (ix : Int), vs ix, (ix : Int)⟩) = false := by rw [(eqE_iff _ _).2 rfl]; rfl
                  rw [hq'] at hq
                  unfold eV at hq
                  have HW6 := Lib.hid hw6
                  have tix : (ix : Int) < (N : Int) := by omega
                  have e1 : IntKind.i64.wrap ((n : Int) + 1) = ((n + 1 : Nat) : Int) := by rw [i64_small (by omega) (by omega)]; omega
                  clear hw6 hX6 hbk hbk5 hbk6 hP5 hP6 hS5 hS6 hq' hX5
                  generalize l[ix]?.getD 0 = lx at *
                  generalize vs ix = vx at *
                  go_upto_region 26 with fail
                  rw [HW6.out]
                  go_region_held3 (fun V => ((V.cell? ⟨w5.heap.size, 0, none⟩ = some (.bool true) ∧ V.cell? ⟨w5.heap.size, 1, none⟩ = some (.int .i64 lx)) ∧ (V.cell? ⟨w5.heap.size, 2, none⟩ = some (.int .i64 (ix : Int)) ∧ V.cell? ⟨w5.heap.size, 3, none⟩ = some (.int .i64 vx) ∧ V.cell? ⟨w5.heap.size, 4, none⟩ = some (.int .i64 (ix : Int)))) ∧ (V.cell? ⟨gv, ix, none⟩ = some (.int .i64 vx) ∧ V.cell? ⟨bb, off + ix, none⟩ = some (.int .i64 lx)))
                    (first | with_reducible exact ⟨⟨⟨d0, d1⟩, d2, d3, d4⟩, dv, dc⟩ | with_reducible exact ⟨⟨⟨p0, p1⟩, p2, p3, p4⟩, pv, hc⟩ | fail) (fail)
                  go_wp2_with fail
                  go_roundw
                  case rel => exact ⟨n + 1, by omega, rfl, HFI.out _ ((Below.refl _ w6).drew)⟩
                  case measure => simp [intOf]; omega
                | false =>
                  have hx := hI.fl.nx1 false hlt (by omega)
                  have CX := ln_yes hI.pd hI.fl.born (by rw [hI.fl.live]; exact hI.sr) (.inr (.inl rfl)) hI.ge.2.1 (toldAt_ge false (by omega)) (toldAt_lt (by omega) (by omega)) hx
                  have hix : ixAt false N n = n := rfl
                  have hixl : n < N := by rw [← hix]; exact ixAt_lt hlt
                  have hts := toldAt_succ false hlt
                  rw [hix] at CX hts
                  have hen := hI.fl.at' n hixl
                  have hlv := hI.fl.live
                  rw [hen, hlv] at CX
                  have HI5 := Lib.hid hI
                  have HTS := Lib.hid hts
                  skip
                  clear hI hx hen hlv hts hix
                  unfold eV at CX
                  simp only at CX
                  go_wp2_with fail
                  refine CX.mono ?_
                  rintro e w5 ⟨rfl, hS5, hP5, hX5⟩
                  clear CX
                  obtain ⟨w6, hw6⟩ : ∃ y, w5.alloc (.cells #[.bool true, .int .i64 (l[n]?.getD 0), .int .i64 (n : Int), .int .i64 (vs n), .int .i64 (n : Int)] 46) = y := ⟨_, rfl⟩
                  have hB6 : Below w5.heap.size w5 w6 := by rw [← hw6]; exact (Below.refl _ w5).alloc (Nat.le_refl _) _
                  have hX6 : Blk w6 w5.heap.size 5 (fun j => #[Value.bool true, .int .i64 (l[n]?.getD 0), .int .i64 (n : Int), .int .i64 (vs n), .int .i64 (n : Int)].getD j .nilFunc) := by rw [← hw6]; exact Blk.new w5 _ _
                  have hbk := HI5.out.bk (by omega)
                  have hne := HI5.out.ne (by omega)
                  have hbk5 := hbk.same (hX5.block gv (hbk.lt (by omega)) (fun e => hne.1 e))
                  have hbk6 := hbk5.of hB6 (by omega)
                  have hP6 := hP5.below hB6
                  have hS6 := hS5.below hB6
                  have hc := (HC.out w6 n hP6.bl hixl).2
                  have HFI : Hid (∀ V, Below w6.heap.size w6 V → WhI w V d s b gv l N false (n + 1)) := fun V hV => ⟨vs, t, g, gi, r, h, ev, ver, ⟨hP6.below hV, HI5.out.fl, by rw [HTS.out]; exact hS6.below hV, fun _ => hbk6.of hV (by omega), by have := HI5.out.le; omega, HI5.out.ge, HI5.out.ne⟩⟩
                  have p0 : w6.cell? ⟨w5.heap.size, 0, none⟩ = some (.bool true) := hX6.c 0 (by omega)
                  have p1 : w6.cell? ⟨w5.heap.size, 1, none⟩ = some (.int .i64 (l[n]?.getD 0)) := hX6.c 1 (by omega)
                  have p2 : w6.cell? ⟨w5.heap.size, 2, none⟩ = some (.int .i64 (n : Int)) := hX6.c 2 (by omega)
                  have p3 : w6.cell? ⟨w5.heap.size, 3, none⟩ = some (.int .i64 (vs n)) := hX6.c 3 (by omega)
                  have p4 : w6.cell? ⟨w5.heap.size, 4, none⟩ = some (.int .i64 (n : Int)) := hX6.c 4 (by omega)
                  have pv : w6.cell? ⟨gv, n, none⟩ = some (.int .i64 (vs n)) := hbk6.c n hixl
                  have d0 : w6.drew.cell? ⟨w5.heap.size, 0, none⟩ = some (.bool true) := p0
                  have d1 : w6.drew.cell? ⟨w5.heap.size, 1, none⟩ = some (.int .i64 (l[n]?.getD 0)) := p1
                  have d2 : w6.drew.cell? ⟨w5.heap.size, 2, none⟩ = some (.int .i64 (n : Int)) := p2
                  have d3 : w6.drew.cell? ⟨w5.heap.size, 3, none⟩ = some (.int .i64 (vs n)) := p3
                  have d4 : w6.drew.cell? ⟨w5.heap.size, 4, none⟩ = some (.int .i64 (n : Int)) := p4
                  have dv : w6.drew.cell? ⟨gv, n, none⟩ = some (.int .i64 (vs n)) := pv
                  have dc : w6.drew.cell? ⟨bb, off + n, none⟩ = some (.int .i64 (l[n]?.getD 0)) := hc
                  have hq := en_neV ⟨true, l[n]?.getD 0, (n : Int), vs n, (n : Int)⟩ ⟨true, l[n]?.getD 0, (n : Int), vs n, (n : Int)⟩
                  have hq' : (!eqE ⟨true, l[n]?.getD 0, (n : Int), vs n, (n : Int)⟩ ⟨true, l[n]?.getD 0, (n : Int), vs n, (n : Int)⟩) = false := by rw [(eqE_iff _ _).2 rfl]; rfl
                  rw [hq'] at hq
                  unfold eV at hq
                  have HW6 := Lib.hid hw6
                  have tix : (n : Int) < (N : Int) := by omega
                  have e1 : IntKind.i64.wrap ((n : Int) + 1) = ((n + 1 : Nat) : Int) := by rw [i64_small (by omega) (by omega)]; omega
                  clear hw6 hX6 hbk hbk5 hbk6 hP5 hP6 hS5 hS6 hq' hX5
                  generalize l[n]?.getD 0 = lx at *
                  generalize vs n = vx at *
                  go_upto_region 26 with fail
                  rw [HW6.out]
                  go_region_held3 (fun V => ((V.cell? ⟨w5.heap.size, 0, none⟩ = some (.bool true) ∧ V.cell? ⟨w5.heap.size, 1, none⟩ = some (.int .i64 lx)) ∧ (V.cell? ⟨w5.heap.size, 2, none⟩ = some (.int .i64 (n : Int)) ∧ V.cell? ⟨w5.heap.size, 3, none⟩ = some (.int .i64 vx) ∧ V.cell? ⟨w5.heap.size, 4, none⟩ = some (.int .i64 (n : Int)))) ∧ (V.cell? ⟨gv, n, none⟩ = some (.int .i64 vx) ∧ V.cell? ⟨bb, off + n, none⟩ = some (.int .i64 lx)))
                    (first | with_reducible exact ⟨⟨⟨d0, d1⟩, d2, d3, d4⟩, dv, dc⟩ | with_reducible exact ⟨⟨⟨p0, p1⟩, p2, p3, p4⟩, pv, hc⟩ | fail) (fail)
                  go_wp2_with fail
                  go_roundw
                  case rel => exact ⟨n + 1, by omega, rfl, HFI.out _ ((Below.refl _ w6).drew)⟩
                  case measure => simp [intOf]; omega
          · obtain rfl : n = N := by omega
            have tn : ¬ (n : Int) < (n : Int) := by omega
            have hx := hI.fl.nx0 back
            have CX := ln_no hI.pd hI.fl.born (by rw [hI.fl.live]; exact hI.sr) (.inr (.inl rfl)) hI.ge.2.1 (toldAt_ge back (Nat.le_refl _)) (toldAt_lt (Nat.le_refl _) (by omega)) hx
            have HI5 := Lib.hid hI
            clear hI hx
            unfold eV at CX
            go_wp2_with fail
            refine CX.mono ?_
            rintro e w5 ⟨rfl, hS5, hP5, _⟩
            clear CX
            obtain ⟨w6, hw6⟩ : ∃ y, w5.alloc (.cells #[.bool En.zero.live, .int .i64 En.zero.hash, .int .i64 En.zero.key, .int .i64 En.zero.value, .int .i64 En.zero.birth] 46) = y := ⟨_, rfl⟩
            have hB6 : Below w5.heap.size w5 w6 := by rw [← hw6]; exact (Below.refl _ w5).alloc (Nat.le_refl _) _
            have hle := HI5.out.le
            have CP := put9_any (hP5.below hB6) (HI5.out.fl.fit (by omega) (by omega)) (by rw [HI5.out.fl.live]; omega) (by rw [HI5.out.fl.len]; omega) 3 5000 1
            have HS6 := Lib.hid (hS5.of hB6 (by omega))
            have HW6 := Lib.hid hw6
            clear hw6 hB6 hS5 hP5 HI5
            unfold En.zero at HW6 ⊢
            go_upto_region 29 with fail
            rw [HW6.out]
            go_wp2_with fail
            refine CP.mono ?_
            rintro e w7 ⟨rfl, hPR, hK7⟩
            clear CP
            have hbl : Below w.heap.size w w7 := by rcases hPR with ⟨_, _, _, _, _, _, _, _, _, p⟩ | ⟨_, _, _, _, _, _, p⟩ <;> exact p.bl
            have CY := next_over (HS6.out.same (hK7 s (.inr (.inl rfl))))
            clear hPR hK7
            unfold eV at CY
            go_wp2_with fail
            refine CY.mono ?_
            rintro e w8 ⟨rfl, hB8⟩
            clear CY
            have CW := awake9_any w8
            go_wp2_with fail
            refine CW.mono ?_
            rintro e w9 ⟨rfl, hB9⟩
            clear CW
            go_wp2
            go_ret
            exact ⟨rfl, hbl.trans ((hB8.trans (hB9.mono hB8.size)).mono hbl.size)⟩
end Go.Proofs.YtanlclegjlfmbaaGreat
