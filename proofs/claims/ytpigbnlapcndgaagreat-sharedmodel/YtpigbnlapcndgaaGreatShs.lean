/-
  What the stands of a namespace tell: a row's size, has, value; an own table's.
  A row that is turned: a table of its own.
-/
import Derived.Test.YtpigbnlapcndgaaGreatShx
import Derived.Test.YtpigbnlapcndgaaGreatDta
namespace Go.Proofs.YtpigbnlapcndgaaGreat
open Go.RowKit Go.WideShapes

theorem rowSize_any {w : World} {q n cap : Nat} {av : Option Addr} (k1 : w.cell? ⟨q, 1, none⟩ = some (.slice av n cap)) :
    Calls Tryz.prog 104 #[.pointer (some ⟨q, 0, none⟩)] w fun e w' => e = .returned (.int .i64 (n : Int)) ∧ w' = w := by
  go_enter Tryz.func104, Tryz.ntmps104
  go_wp2
  go_ret
  exact ⟨rfl, rfl⟩
theorem rowTable_any {w : World} {q f g : Nat} (k0 : w.cell? ⟨q, 0, none⟩ = some (.pointer (some ⟨f, 0, none⟩))) (k1 : w.cell? ⟨f, 1, none⟩ = some (.pointer (some ⟨g, 0, none⟩))) :
    Calls Tryz.prog 105 #[.pointer (some ⟨q, 0, none⟩)] w fun e w' => e = .returned (.pointer (some ⟨g, 0, none⟩)) ∧ w' = w := by
  have C1 := keys_yes k1
  clear k1
  go_enter Tryz.func105, Tryz.ntmps105
  go_wp2_with fail
  refine C1.mono ?_
  rintro e w1 ⟨rfl, rfl⟩
  go_wp2
  go_ret
  exact ⟨rfl, rfl⟩
theorem rowHas_none {w : World} {q : Nat} : Calls Tryz.prog 100 #[.pointer (some ⟨q, 0, none⟩), .int .i64 (-1)] w fun e w' => e = .returned (.bool false) ∧ w' = w := by
  go_enter Tryz.func100, Tryz.ntmps100
  go_wp2
  go_ret
  exact ⟨rfl, rfl⟩
theorem rowHas_any {w : World} {q n cap : Nat} {av : Option Addr} (k1 : w.cell? ⟨q, 1, none⟩ = some (.slice av n cap)) (m : Nat) :
    Calls Tryz.prog 100 #[.pointer (some ⟨q, 0, none⟩), .int .i64 (m : Int)] w fun e w' => e = .returned (.bool (decide (m < n))) ∧ w' = w := by
  have h1 : ((m : Int) != -1) = true := by rw [bne_iff_ne]; omega
  have h2 : ((m : Int) = -1) = False := by first | (simp; done) | (simp; omega)
  go_enter Tryz.func100, Tryz.ntmps100
  go_wp2
  go_ret
  exact ⟨rfl, rfl⟩
theorem ownHas_none {w : World} {q : Nat} : Calls Tryz.prog 140 #[.pointer (some ⟨q, 0, none⟩), .int .i64 (-1)] w fun e w' => e = .returned (.bool false) ∧ w' = w := by
  go_enter Tryz.func140, Tryz.ntmps140
  go_wp2
  go_ret
  exact ⟨rfl, rfl⟩
theorem ownHas_any {w : World} {q : Nat} (m : Nat) : Calls Tryz.prog 140 #[.pointer (some ⟨q, 0, none⟩), .int .i64 (m : Int)] w fun e w' => e = .returned (.bool true) ∧ w' = w := by
  have h1 : ((m : Int) != -1) = true := by rw [bne_iff_ne]; omega
  have h2 : ((m : Int) = -1) = False := by first | (simp; done) | (simp; omega)
  go_enter Tryz.func140, Tryz.ntmps140
  go_wp2
  go_ret
  exact ⟨rfl, rfl⟩
theorem rowValue_any {w : World} {q n cap gv m : Nat} {x : Int} (k1 : w.cell? ⟨q, 1, none⟩ = some (.slice (some ⟨gv, 0, none⟩) n cap)) (hm : m < n) (k2 : w.cell? ⟨gv, m, none⟩ = some (.int .i64 x)) :
    Calls Tryz.prog 107 #[.pointer (some ⟨q, 0, none⟩), .int .i64 (m : Int)] w fun e w' => e = .returned (.int .i64 x) ∧ w' = w := by
  have h1 : (m : Int) < (n : Int) := by omega
  go_enter Tryz.func107, Tryz.ntmps107
  go_wp2
  go_ret
  exact ⟨rfl, rfl⟩
theorem rowPut_any {w : World} {q n cap gv m : Nat} {x : Int} {y : Value} (k1 : w.cell? ⟨q, 1, none⟩ = some (.slice (some ⟨gv, 0, none⟩) n cap)) (hm : m < n) (k2 : w.cell? ⟨gv, m, none⟩ = some y) (z2 : w.frozen? ⟨gv, m, none⟩ = false) :
    Calls Tryz.prog 103 #[.pointer (some ⟨q, 0, none⟩), .int .i64 (m : Int), .int .i64 x] w fun e w' => e = .returned (.tuple #[]) ∧ w' = w.setCell ⟨gv, m, none⟩ (.int .i64 x) := by
  have h1 : (m : Int) < (n : Int) := by omega
  go_enter Tryz.func103, Tryz.ntmps103
  go_wp2
  go_end0
  exact ⟨rfl, rfl⟩
theorem ownSize_any {w : World} {q g : Nat} {n : Int} (k1 : w.cell? ⟨q, 1, none⟩ = some (.pointer (some ⟨g, 0, none⟩))) (k3 : w.cell? ⟨g, 3, none⟩ = some (.int .i64 n)) :
    Calls Tryz.prog 145 #[.pointer (some ⟨q, 0, none⟩)] w fun e w' => e = .returned (.int .i64 n) ∧ w' = w := by
  have C1 := len_any k3
  clear k3
  go_enter Tryz.func145, Tryz.ntmps145
  go_wp2_with fail
  refine C1.mono ?_
  rintro e w1 ⟨rfl, rfl⟩
  go_wp2
  go_ret
  exact ⟨rfl, rfl⟩
theorem ownTable_any {w : World} {q g : Nat} (k1 : w.cell? ⟨q, 1, none⟩ = some (.pointer (some ⟨g, 0, none⟩))) :
    Calls Tryz.prog 146 #[.pointer (some ⟨q, 0, none⟩)] w fun e w' => e = .returned (.pointer (some ⟨g, 0, none⟩)) ∧ w' = w := by
  go_enter Tryz.func146, Tryz.ntmps146
  go_wp2
  go_ret
  exact ⟨rfl, rfl⟩
theorem ownValue_any {w : World} {q g gi r h : Nat} {ev : Value} {t : Tb} {mv : Value} (k1 : w.cell? ⟨q, 1, none⟩ = some (.pointer (some ⟨g, 0, none⟩))) (hD : Dt w g gi r h ev t mv) {n : Nat} (hn : n < t.es.length) (hl : (nth t.es n).live = true) :
    Calls Tryz.prog 147 #[.pointer (some ⟨q, 0, none⟩), .int .i64 (n : Int)] w fun e w' => e = .returned (.int .i64 (nth t.es n).value) ∧ Below w.heap.size w w' := by
  have CA := at7_yes hD n hn hl
  clear hl
  generalize nth t.es n = E at *
  clear hD
  go_enter Tryz.func147, Tryz.ntmps147
  go_wp2_with fail
  refine CA.mono ?_
  rintro e w6 ⟨rfl, hB6⟩
  clear CA
  obtain ⟨w7, hw7⟩ : ∃ y, w6.alloc (.cells #[.bool E.live, .int .i64 E.hash, .int .i64 E.key, .int .i64 E.value, .int .i64 E.birth] 78) = y := ⟨_, rfl⟩
  have hB7 : Below w.heap.size w w7 := by rw [← hw7]; exact hB6.alloc hB6.size _
  have hX7 : Blk w7 w6.heap.size 5 (fun j => #[Value.bool E.live, .int .i64 E.hash, .int .i64 E.key, .int .i64 E.value, .int .i64 E.birth].getD j .nilFunc) := by rw [← hw7]; exact Blk.new w6 _ _
  have p3 : w7.cell? ⟨w6.heap.size, 3, none⟩ = some (.int .i64 E.value) := hX7.c 3 (by omega)
  have HW7 := Lib.hid hw7
  clear hw7 hX7 hB6
  go_upto_region 2 with fail
  rw [HW7.out]
  go_wp2
  go_ret
  exact ⟨rfl, hB7⟩
theorem ownPut_any {w : World} {q g gi r h : Nat} {ev : Value} {t : Tb} {mv : Value} (k1 : w.cell? ⟨q, 1, none⟩ = some (.pointer (some ⟨g, 0, none⟩))) (hD : Dt w g gi r h ev t mv) {n : Nat} (hn : n < t.es.length) (hl : (nth t.es n).live = true) (x : Int) :
    Calls Tryz.prog 143 #[.pointer (some ⟨q, 0, none⟩), .int .i64 (n : Int), .int .i64 x] w fun e w' => e = .returned (.tuple #[]) ∧ Dt w' g gi r h ev (t.putv n x) mv ∧ Ex (fun k => ev.ownBlock = some k) w w' := by
  have CA := put7_yes hD n x hn hl
  clear hD
  go_enter Tryz.func143, Tryz.ntmps143
  go_wp2_with fail
  refine CA.mono ?_
  rintro e w6 ⟨rfl, hD6, hx6⟩
  clear CA
  have HD6 := Lib.hid hD6
  clear hD6
  go_wp2
  go_end0
  exact ⟨rfl, HD6.out, hx6⟩
theorem ownTake_any {w : World} {q g gi r h : Nat} {ev : Value} {t : Tb} {mv : Value} (k1 : w.cell? ⟨q, 1, none⟩ = some (.pointer (some ⟨g, 0, none⟩))) (hD : Dt w g gi r h ev t mv) (hO : t.Ok) {n : Nat} (hn : n < t.es.length) (hl : (nth t.es n).live = true) (ht : t.turn ≤ 1000000) :
    Calls Tryz.prog 112 #[.pointer (some ⟨q, 0, none⟩), .int .i64 (n : Int)] w fun e w' => e = .returned (.iface 177 (.pointer (some ⟨q, 0, none⟩))) ∧ Dt w' g gi r h ev (t.kill n) mv ∧ Ex (dX g gi r h ev) w w' := by
  have CA := kill_yes hD hO n hn hl ht
  clear hD hO
  go_enter Tryz.func112, Tryz.ntmps112
  go_wp2_with fail
  refine CA.mono ?_
  rintro e w6 ⟨rfl, hD6, hx6⟩
  clear CA
  have HD6 := Lib.hid hD6
  clear hD6
  go_wp2
  go_ret
  exact ⟨rfl, HD6.out, hx6⟩
/-- Does a new name come next, or may it be the one that does from now on? -/
theorem fits_any {w : World} {q f g n cap : Nat} {av : Option Addr} {lv room : Int} (k0 : w.cell? ⟨q, 0, none⟩ = some (.pointer (some ⟨f, 0, none⟩))) (k1 : w.cell? ⟨q, 1, none⟩ = some (.slice av n cap)) (k2 : w.cell? ⟨f, 1, none⟩ = some (.pointer (some ⟨g, 0, none⟩))) (k3 : w.cell? ⟨f, 2, none⟩ = some (.int .i64 room)) (k4 : w.cell? ⟨g, 3, none⟩ = some (.int .i64 lv)) (x : Int) :
    Calls Tryz.prog 108 #[.pointer (some ⟨q, 0, none⟩), .int .i64 x] w fun e w' => e = .returned (.bool (if (n : Int) < lv then decide (x = (n : Int)) else decide ((n : Int) < room))) ∧ Below w.heap.size w w' := by
  have C1 : Calls Tryz.prog 105 #[.pointer (some ⟨q, 0, none⟩)] w.drew fun e w' => e = .returned (.pointer (some ⟨g, 0, none⟩)) ∧ w' = w.drew := rowTable_any k0 k2
  have C2 : Calls Tryz.prog 113 #[.pointer (some ⟨g, 0, none⟩)] w.drew fun e w' => e = .returned (.int .i64 lv) ∧ w' = w.drew := len_any k4
  have d1 : w.drew.cell? ⟨q, 1, none⟩ = some (.slice av n cap) := k1
  have d0 : w.drew.drew.cell? ⟨q, 0, none⟩ = some (.pointer (some ⟨f, 0, none⟩)) := k0
  have d2 : w.drew.drew.cell? ⟨q, 1, none⟩ = some (.slice av n cap) := k1
  have d3 : w.drew.drew.cell? ⟨f, 2, none⟩ = some (.int .i64 room) := k3
  clear k2 k4
  by_cases hc : (n : Int) < lv
  · rw [if_pos hc]
    go_enter Tryz.func108, Tryz.ntmps108
    go_wp2_with fail
    go_region_held3 (fun V => V.cell? ⟨q, 1, none⟩ = some (.slice av n cap)) (first | with_reducible exact d1 | fail)
      (first | (go_at_call 105; refine C1.mono ?_; rintro e w2 ⟨rfl, rfl⟩) | (go_at_call 113; refine C2.mono ?_; rintro e w2 ⟨rfl, rfl⟩) | fail)
    clear C1 C2
    go_wp2
    go_ret
    exact ⟨by first | rfl | (simp; rfl) | (simp [beq_eq_decide]), (Below.refl _ w).drew⟩
  · rw [if_neg hc]
    go_enter Tryz.func108, Tryz.ntmps108
    go_wp2_with fail
    go_region_held3 (fun V => V.cell? ⟨q, 1, none⟩ = some (.slice av n cap)) (first | with_reducible exact d1 | fail)
      (first | (go_at_call 105; refine C1.mono ?_; rintro e w2 ⟨rfl, rfl⟩) | (go_at_call 113; refine C2.mono ?_; rintro e w2 ⟨rfl, rfl⟩) | fail)
    clear C1 C2
    go_wp2_with fail
    go_region_held3 (fun V => V.cell? ⟨q, 0, none⟩ = some (.pointer (some ⟨f, 0, none⟩)) ∧ V.cell? ⟨q, 1, none⟩ = some (.slice av n cap) ∧ V.cell? ⟨f, 2, none⟩ = some (.int .i64 room)) (first | with_reducible exact ⟨d0, d2, d3⟩ | fail) (fail)
    go_wp2
    go_ret
    exact ⟨by first | rfl | simp, (Below.refl _ w).drew.drew⟩
end Go.Proofs.YtpigbnlapcndgaaGreat
namespace Go.Proofs.YtpigbnlapcndgaaGreat
open Go.RowKit Go.WideShapes

/-- What a family asks of its meter: N a b c d w: it has counted a tables, b cells, c values, d turns. -/
structure M4 (mv : Value) (N : Int → Int → Int → Int → World → Prop) : Prop where
  mt : ∀ c d, MtOk mv (fun a b w => N a b c d w)
  vi : ∀ c d, MvOk mv (fun a b w => N a b c d w)
  ch : ∀ a b c d w, 0 ≤ c → c ≤ 1000000000 → N a b c d w → Calls Tryz.prog 111 #[mv, .int .i64 1] w fun e w' => e = .returned (.tuple #[]) ∧ N a b (c + 1) d w' ∧ Ex (mB mv) w w'
  tu : ∀ a b c d w, 0 ≤ d → d ≤ 1000000000 → N a b c d w → Calls Tryz.prog 114 #[mv] w fun e w' => e = .returned (.tuple #[]) ∧ N a b c (d + 1) w' ∧ Ex (mB mv) w w'
theorem Ex.met {mv : Value} {w w' : World} (e : Ex (mB mv) w w') {k : Nat} (hk : k < w.heap.size) (hn : ¬ mB mv k) : w'.heap[k]? = w.heap[k]? := e.block k hk hn
/-- The table under way. -/
def TurnS (w wr : World) (g : Nat) (mv : Value) (N : Int → Int → Int → Int → World → Prop) (a b c d : Int) (t : Tb) : Prop :=
  ∃ gi r h ev, Dt wr g gi r h ev t mv ∧ (∀ k, dX g gi r h ev k → w.heap.size ≤ k) ∧ N (a + (t.made : Int)) b c d wr ∧ Ex (mB mv) w wr
/-- A table of a namespace's own, new. -/
def OwnN (w w' : World) (f q : Nat) (mv : Value) (N : Int → Int → Int → Int → World → Prop) (a b c d : Int) (t : Tb) : Prop :=
  ∃ g gi r h ev, Blk w' q 2 (sdF f (.pointer (some ⟨g, 0, none⟩))) ∧ Dt w' g gi r h ev t mv ∧ (∀ k, dX g gi r h ev k → w.heap.size ≤ k ∧ k ≠ q) ∧ N a b c d w' ∧ Ex (mB mv) w w'
set_option maxRecDepth 100000 in
set_option maxHeartbeats 4000000 in
theorem turned_any {w : World} {q f g gi r h : Nat} {ev : Value} {mb : Nat} {nv : Value} {F : Fa} {pm : Option Addr} {vv : Value} {vs : List Int} {N : Int → Int → Int → Int → World → Prop} {a b c d : Int} (hF : Fam w f g gi r h ev mb nv F (.pointer pm)) (hM4 : M4 (.pointer pm) N) (hM : N a b c d w) (ha : 0 ≤ a ∧ a ≤ 100000000) (hd : 0 ≤ d ∧ d ≤ 100000000)
    (hq : Blk w q 2 (sdF f vv)) (hv : IntsR 0 w vv vs) (nq : ¬ mB (.pointer pm) q) (nv' : ∀ k, vv.ownBlock = some k → ¬ mB (.pointer pm) k) (hl : vs.length ≤ F.kt.es.length) (hr : vs.length ≤ 256) (hlv : deadN F.kt.es = 0) :
    Calls Tryz.prog 109 #[.pointer (some ⟨q, 0, none⟩)] w fun e w' => ∃ q', e = .returned (.pointer (some ⟨q', 0, none⟩)) ∧ w.heap.size ≤ q' ∧ OwnN w w' f q' (.pointer pm) N (a + ((turnN F.kt.es vs vs.length).made : Int)) b c (d + 1) (turnN F.kt.es vs vs.length) := by
  obtain ⟨av, cap, gv, rfl, hcap, hvo⟩ := hv.open
  have k0 : w.cell? ⟨q, 0, none⟩ = some (.pointer (some ⟨f, 0, none⟩)) := hq.c 0 (by omega)
  have k1 : w.cell? ⟨q, 1, none⟩ = some (.slice av vs.length cap) := hq.c 1 (by omega)
  have m0 : w.cell? ⟨f, 0, none⟩ = some (.pointer pm) := hF.nh.hd.c 0 (by omega)
  have t1 : w.cell? ⟨f, 1, none⟩ = some (.pointer (some ⟨g, 0, none⟩)) := hF.nh.hd.c 1 (by omega)
  have lq := hq.lt (by omega)
  have lf := hF.lt f (.inl (.inl rfl))
  have nf : ¬ mB (.pointer pm) f := fun y => hF.nm f y (.inl (.inl rfl))
  have CN := new7_any (hM4.mt c d) hM ⟨ha.1, by omega⟩
  have HCELL : Hid (∀ W, Ex (mB (.pointer pm)) w W → W.cell? ⟨q, 0, none⟩ = some (.pointer (some ⟨f, 0, none⟩)) ∧ W.cell? ⟨q, 1, none⟩ = some (.slice av vs.length cap) ∧ W.cell? ⟨f, 0, none⟩ = some (.pointer pm) ∧ W.cell? ⟨f, 1, none⟩ = some (.pointer (some ⟨g, 0, none⟩)) ∧ ∀ i, i < vs.length → av = some ⟨gv, 0, none⟩ ∧ W.cell? ⟨gv, i, none⟩ = some (.int .i64 (vs[i]?.getD 0))) := by
    intro W hW
    refine ⟨(World.cell?_of_block (a := ⟨q, 0, none⟩) (hW.met lq nq)).trans k0, (World.cell?_of_block (a := ⟨q, 1, none⟩) (hW.met lq nq)).trans k1, (World.cell?_of_block (a := ⟨f, 0, none⟩) (hW.met lf nf)).trans m0, (World.cell?_of_block (a := ⟨f, 1, none⟩) (hW.met lf nf)).trans t1, fun i hi => ?_⟩
    obtain ⟨h1, h2, _, h4⟩ := hvo (by omega)
    refine ⟨h1, (World.cell?_of_block (a := ⟨gv, i, none⟩) (hW.met h2 (nv' gv (by rw [h1]; rfl)))).trans ?_⟩
    exact h4.c i hi
  have HF := Lib.hid hF
  have HM4 := Lib.hid hM4
  have HLV := Lib.hid hlv
  obtain ⟨n, hn⟩ : ∃ n, vs.length = n := ⟨_, rfl⟩
  rw [hn] at k1 hl hr HCELL ⊢
  clear hF hM4 hM hq hv hvo nv' hlv nf nq t1 hn hcap
  go_enter Tryz.func109, Tryz.ntmps109
  go_wp2_with fail
  refine CN.mono ?_
  rintro e w1 ⟨g2, gi2, r2, h2, rfl, hg2, hgi2, hr2, hh2, hD2, hM2, hx2⟩
  clear CN k0 k1 m0
  have HS : Hid (TurnS w w1 g2 (.pointer pm) N a b c d (turnN F.kt.es vs 0)) := ⟨gi2, r2, h2, _, hD2, (by
    rintro k (h | h | h | h | h)
    · omega
    · omega
    · omega
    · omega
    · cases h), hM2, hx2⟩
  obtain ⟨c0, c1, c2, c3, c4⟩ := HCELL.out w1 hx2
  clear hD2 hM2 hx2 c0 c2 c3 c4
  go_wp2_with fail
  clear c1
  go_loopw [4, 5, 6, 7, 21] (fun _ _ _ _ iv wr => ∃ i : Nat, i ≤ n ∧ iv = .int .i64 (i : Int) ∧ TurnS w wr g2 (.pointer pm) N a b c d (turnN F.kt.es vs i)) (fun _ _ _ _ iv _ => n - (intOf iv).toNat)
  case atStart => exact ⟨0, Nat.zero_le _, rfl, HS.out⟩
  case round =>
    clear HS
    obtain ⟨i, hi, rfl, gi3, r3, h3, ev3, hD3, hX3, hM3, hx3⟩ := hrel
    obtain ⟨k0, k1, m0, t1, hcl⟩ := HCELL.out wr hx3
    obtain ⟨hO3, hb3, hmd3, htn3, _⟩ := turnN_is F.kt.es vs i (by omega)
    by_cases hin : i < n
    · have ti : (i : Int) < (n : Int) := by omega
      obtain ⟨ha0, hvi⟩ := hcl i hin
      subst ha0
      have hDr := HF.out.dt.met hx3
      have CT := rowTable_any k0 t1
      have CA := at7_yes hDr i (by omega) (dead_live HLV.out (by omega))
      have hsz := hx3.size
      have C2 := fun (W : World) (hB : Below wr.heap.size wr W) => (add_any (hD3.below hB) hO3 (HM4.out.mt c d) ((HM4.out.mt c d).below hM3 hB) (by omega) ⟨by omega, by omega⟩ (by omega) (by omega) (nth F.kt.es i).hash (nth F.kt.es i).key (vs[i]?.getD 0)).mono (R' := fun e w' => (∃ x y, e = .returned (.tuple #[x, y])) ∧ TurnS w w' g2 (.pointer pm) N a b c d (turnN F.kt.es vs (i + 1))) (fun e w' ⟨h1, gi', r', h', ev', A⟩ => ⟨⟨_, _, h1⟩, gi', r', h', ev', A.dt, (fun k hk => (A.fx k hk).elim (hX3 k) (fun y => by have := hB.size; omega)), (by
        have hm := A.m
        have hq := ((turnN F.kt.es vs i).add_rest (nth F.kt.es i).hash (nth F.kt.es i).key (vs[i]?.getD 0)).2.2.1
        rw [show a + ((turnN F.kt.es vs i).made : Int) + ((((turnN F.kt.es vs i).add (nth F.kt.es i).hash (nth F.kt.es i).key (vs[i]?.getD 0)).made - (turnN F.kt.es vs i).made : Nat) : Int) = a + (((turnN F.kt.es vs (i + 1)).made : Nat) : Int) by show _ = a + ((((turnN F.kt.es vs i).add (nth F.kt.es i).hash (nth F.kt.es i).key (vs[i]?.getD 0)).made : Nat) : Int); omega] at hm
        exact hm), ((hx3.trans (ex_of hB)).next A.ex (fun k hk y => y.elim (fun z => by have := hX3 k z; omega) id))⟩)
      have HC2 := Lib.hid C2
      have e21 : IntKind.i64.wrap ((i : Int) + 1) = ((i + 1 : Nat) : Int) := by rw [i64_small (by omega) (by omega)]; omega
      clear C2 hDr hD3 hX3 hM3 hx3 hcl hO3 hb3 hmd3 htn3
      generalize nth F.kt.es i = E at *
      generalize vs[i]?.getD 0 = vi at *
      go_wp2_with fail
      refine CT.mono ?_
      rintro e w2 ⟨rfl, rfl⟩
      clear CT
      go_wp2_with fail
      refine CA.mono ?_
      rintro e w6 ⟨rfl, hB6⟩
      clear CA
      obtain ⟨w7, hw7⟩ : ∃ y, w6.alloc (.cells #[.bool E.live, .int .i64 E.hash, .int .i64 E.key, .int .i64 E.value, .int .i64 E.birth] 78) = y := ⟨_, rfl⟩
      have hB7 : Below w2.heap.size w2 w7 := by rw [← hw7]; exact hB6.alloc hB6.size _
      have hX7 : Blk w7 w6.heap.size 5 (fun j => #[Value.bool E.live, .int .i64 E.hash, .int .i64 E.key, .int .i64 E.value, .int .i64 E.birth].getD j .nilFunc) := by rw [← hw7]; exact Blk.new w6 _ _
      have p1 : w7.cell? ⟨w6.heap.size, 1, none⟩ = some (.int .i64 E.hash) := hX7.c 1 (by omega)
      have p2 : w7.cell? ⟨w6.heap.size, 2, none⟩ = some (.int .i64 E.key) := hX7.c 2 (by omega)
      have C3 := HC2.out w7 hB7
      have HW7 := Lib.hid hw7
      clear hw7 hX7 hB6 hB7 HC2
      go_upto_region 6 with fail
      rw [HW7.out]
      go_wp2_with fail
      refine C3.mono ?_
      rintro e w8 ⟨⟨x, y, rfl⟩, hS8⟩
      clear C3
      have HS8 := Lib.hid hS8
      clear hS8
      go_wp2_with fail
      go_roundw
      case rel => exact ⟨i + 1, by omega, rfl, HS8.out⟩
      case measure => simp [intOf]; omega
    · have hie : i = n := by omega
      have ti : ¬ (i : Int) < (n : Int) := by omega
      rw [hie] at hD3 hM3
      have CT := HM4.out.tu _ _ _ _ _ hd.1 (by omega) hM3
      have HD3 := Lib.hid hD3
      have HX3 := Lib.hid hX3
      have HX := Lib.hid hx3
      have HM3 := Lib.hid hM3
      clear hD3 hX3 hM3 hx3 hcl k1 t1 hie hO3 hb3 hmd3 htn3
      go_wp2_with fail
      refine CT.mono ?_
      rintro e w5 ⟨rfl, hM5, hx5⟩
      clear CT
      have hxw : Ex (mB (.pointer pm)) w w5 := HX.out.trans hx5
      obtain ⟨c0, _, _, _, _⟩ := HCELL.out w5 hxw
      have hs5 := hxw.size
      obtain ⟨w6, hw6⟩ : ∃ y, w5.alloc (.cells #[.pointer (some ⟨f, 0, none⟩), .pointer (some ⟨g2, 0, none⟩)] 180) = y := ⟨_, rfl⟩
      have hB6 : Below w5.heap.size w5 w6 := by rw [← hw6]; exact (Below.refl _ w5).alloc (Nat.le_refl _) _
      have hX6 : Blk w6 w5.heap.size 2 (sdF f (.pointer (some ⟨g2, 0, none⟩))) := by
        rw [← hw6]
        refine (Blk.new w5 _ _).congr fun j hj => ?_
        have : j = 0 ∨ j = 1 := by simp at hj; omega
        rcases this with rfl | rfl <;> rfl
      have hD5 := HD3.out.met hx5
      have HO : Hid (OwnN w w6 f w5.heap.size (.pointer pm) N (a + ((turnN F.kt.es vs n).made : Int)) b c (d + 1) (turnN F.kt.es vs n)) := ⟨g2, gi3, r3, h3, ev3, hX6, hD5.below hB6, (fun k hk => ⟨HX3.out k hk, by have := hD5.lt k hk; omega⟩), (HM4.out.mt c (d + 1)).below hM5 hB6, hxw.trans (ex_of hB6)⟩
      have HW6 := Lib.hid hw6
      clear hw6 hB6 hX6 hD5 hM5 hx5 hxw
      go_wp2
      rw [HW6.out]
      go_ret
      exact ⟨w5.heap.size, rfl, hs5, HO.out⟩
end Go.Proofs.YtpigbnlapcndgaaGreat
