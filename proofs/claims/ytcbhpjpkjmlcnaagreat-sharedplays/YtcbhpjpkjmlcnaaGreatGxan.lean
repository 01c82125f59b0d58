/-
  Del of a namespace that stands on a row; Del of any namespace.
  What a nil table and a nil Seeker answer.
  Namespaces and families that are none.
  A nil family, a zero family.
  A zero family's namespace; names of none; the law's sight of none.
  Del of any namespace, and what it keeps; Len and Version.
  The document's find of a namespace, Len, Get, Make, New.
  The document's behind: a value behind a row.
-/
import Derived.Test.YtcbhpjpkjmlcnaaGreatGxam
import Derived.Test.YtcbhpjpkjmlcnaaGreatGxah
import Derived.Test.YtcbhpjpkjmlcnaaGreatGxad
import Derived.BigQuiet
import Derived.Test.YtcbhpjpkjmlcnaaGreatGxai
namespace Go.Proofs.YtcbhpjpkjmlcnaaGreat
open Go.RowKit Go.WideShapes

theorem turnN_all (es : List En) (vs : List Int) : ∀ i, (turnN es vs i).es.length = i ∧ deadN (turnN es vs i).es = 0 := by
  intro i
  induction i with
  | zero => exact ⟨rfl, rfl⟩
  | succ i ih =>
    obtain ⟨h1, h2⟩ := ih
    have e : (turnN es vs (i + 1)).es = _ := add_live h2 (nth es i).hash (nth es i).key (vs[i]?.getD 0)
    rw [e]
    refine ⟨?_, dead_app h2 _ rfl⟩
    rw [List.length_append, h1]
    rfl
theorem turnN_at (es : List En) (vs : List Int) {i n : Nat} (h : n < i) : n < (turnN es vs i).es.length ∧ (nth (turnN es vs i).es n).live = true := by
  obtain ⟨h1, h2⟩ := turnN_all es vs i
  have h3 : n < (turnN es vs i).es.length := by omega
  exact ⟨h3, dead_live h2 h3⟩
set_option maxRecDepth 100000 in
set_option maxHeartbeats 4000000 in
theorem del_row {w : World} {f : Nat} {F : Fa} {pm : Option Addr} {XF : Nat → Prop} {s : Nat} {vs : List Int} {v : Nat} {XS : Nat → Prop} {N : Int → Int → Int → Int → World → Prop} {a b c d : Int} {c0 : Nat} (h : Fs w f F (.pointer pm) XF s (.row vs) v XS) (hM4 : M4 (.pointer pm) N) (hM : N a b c d w) (ha : 0 ≤ a ∧ a ≤ 10000000) (hb : 0 ≤ b ∧ b ≤ 10000000000) (hd : 0 ≤ d ∧ d ≤ 100000000) (hO : F.Ok hsT c0) (hst : Stn.Ok hsT F c0 (.row vs)) (hv : v ≤ 1000000000) {nm : ByteArray} (hs : nm.size ≤ 3000) :
    Calls Tryz.prog 32 #[.pointer (some ⟨s, 0, none⟩), .string nm] w fun e w' => ∃ er : Int, e = .returned (.int .i64 er) ∧ DelQ w f F (.pointer pm) N a b c d XF s (.row vs) v XS nm er w' := by
  obtain ⟨k, hk⟩ := num_ex F.all nm
  have CS := sseek_any h hM4 hM hb hO hst hs hk
  have hF0 := h
  obtain ⟨q, XQ, h1, h2, h3, h4⟩ := h.sm
  subst h4
  have CN := isNothing_no (h1.c 1 (by omega))
  have ls := h1.lt (by omega)
  have HF0 := Lib.hid hF0
  have HM4 := Lib.hid hM4
  have HO := Lib.hid hO
  have HST := Lib.hid hst
  have HK := Lib.hid hk
  have HQ := Lib.hid h2
  have HB := Lib.hid h1
  have HNQ := Lib.hid h3
  have e1 : IntKind.u64.wrap ((v : Int) + 1) = (v : Int) + 1 := by rw [IntKind.wrap_u64]; omega
  clear h hM4 hM hO hst hk h1 h2 h3 hF0
  go_enter Tryz.func32, Tryz.ntmps32
  go_wp2_with fail
  refine CN.mono ?_
  rintro e w0 ⟨rfl, rfl⟩
  clear CN
  go_wp2_with fail
  refine CS.mono ?_
  rintro e w1 ⟨res, jj, rfl, hR, hM1, hx1⟩
  clear CS
  have hF1 := HF0.out.met hx1
  have hb1 := HB.out.same (w' := w1) (hx1.met ls (fun y => HF0.out.mq s y (.inl rfl)))
  have hq1 := HQ.out.same (w' := w1) fun j hj => hx1.met (HQ.out.lt j hj) (fun y => HF0.out.mq j y (.inr hj))
  have hq1' := hq1
  have x1 : w1.cell? ⟨s, 1, none⟩ = some (.iface 117 (.pointer (some ⟨q, 0, none⟩))) := hb1.c 1 (by omega)
  have mh := mR_has (some ⟨q, 0, none⟩)
  obtain ⟨vv, hqb, hqv, hqn, rfl⟩ := hq1
  obtain ⟨av, cap, gv, rfl, hcap, hvo⟩ := hqv.open
  have hvl : vs.length ≤ F.kt.es.length := HST.out
  have hCH : (∃ n : Nat, res = (n : Int) ∧ Fnd F.kt.es k n ∧ n < vs.length ∧ Calls Tryz.prog 168 #[.pointer (some ⟨q, 0, none⟩), .int .i64 res] w1 fun e w' => e = .returned (.bool true) ∧ w' = w1) ∨ ((∀ n, Fnd F.kt.es k n → vs.length ≤ n) ∧ Calls Tryz.prog 168 #[.pointer (some ⟨q, 0, none⟩), .int .i64 res] w1 fun e w' => e = .returned (.bool false) ∧ w' = w1) := by
    rcases hR with ⟨n, rfl, hn, _⟩ | ⟨rfl, hn, _⟩
    · rcases Nat.lt_or_ge n vs.length with c1 | c1
      · refine .inl ⟨n, rfl, hn, c1, ?_⟩
        have := rowHas_any (hqb.c 1 (by omega)) n
        rw [decide_eq_true c1] at this
        exact this
      · refine .inr ⟨fun n' hn' => ?_, ?_⟩
        · rw [Nl.one (hs := hsT) (all := F.all) (by rw [live_all HO.out.dead]; exact HO.out.nl) hn' hn]
          exact c1
        · have := rowHas_any (hqb.c 1 (by omega)) n
          rw [decide_eq_false (by omega)] at this
          exact this
    · exact .inr ⟨fun n hn' => absurd hn' (hn n), rowHas_none⟩
  have HR := Lib.hid hR
  clear hR
  rcases hCH with ⟨n, rfl, hn, hnl, CH⟩ | ⟨hres, CH⟩
  · have mt := mR_take (some ⟨q, 0, none⟩)
    obtain ⟨hl1, hl2⟩ := turnN_at F.kt.es vs hnl
    have CT := (rowTake_any hF1.fm hq1' (fun k hk y => hF1.mq k hk (.inr y)) HM4.out hM1 ha hd HO.out hvl hl1 hl2).mono (R' := fun e w3 => ∃ q', e = .returned (.iface 229 (.pointer (some ⟨q', 0, none⟩))) ∧ (w3.cell? ⟨s, 1, none⟩ = some (.iface 117 (.pointer (some ⟨q, 0, none⟩))) ∧ w3.frozen? ⟨s, 1, none⟩ = false) ∧ ∀ w4, w3.setCell ⟨s, 1, none⟩ (.iface 229 (.pointer (some ⟨q', 0, none⟩))) = w4 → (w4.cell? ⟨s, 2, none⟩ = some (.int .u64 (v : Int)) ∧ w4.frozen? ⟨s, 2, none⟩ = false) ∧ Hid (∃ XF' XS', SsR w0 f (.pointer pm) N XF (fun k => k = s ∨ k = q ∨ (Value.slice av vs.length cap).ownBlock = some k) s F (.own ((turnN F.kt.es vs vs.length).kill n)) (v + 1) (a + ((turnN F.kt.es vs vs.length).made : Int)) (b + (jj : Int)) c (d + 1) (w4.setCell ⟨s, 2, none⟩ (.int .u64 ((v : Int) + 1))) XF' XS')) (fun e w3 ⟨q', h1, XF', XQ', R⟩ => by
      obtain ⟨y1, y2⟩ := ss_store HM4.out R hx1 hb1 ls (fun y => hF1.ap s y (.inl rfl)) HNQ.out (fun y => hF1.mq s y (.inl rfl))
      refine ⟨q', h1, y1, fun w4 hw4 => ?_⟩
      obtain ⟨y3, y4⟩ := y2 w4 hw4
      exact ⟨y3, _, _, y4⟩)
    clear hF1 hb1 hqb hqv hqn hM1 hq1' hvo hcap hx1 hl1 hl2
    go_wp2_with fail
    refine CH.mono ?_
    rintro e w3 ⟨rfl, rfl⟩
    clear CH
    go_wp2_with fail
    refine CT.mono ?_
    rintro e w4 ⟨q', rfl, ⟨k1, z1⟩, hw5⟩
    clear CT
    obtain ⟨w5, hw5e⟩ : ∃ y, w4.setCell ⟨s, 1, none⟩ (.iface 229 (.pointer (some ⟨q', 0, none⟩))) = y := ⟨_, rfl⟩
    obtain ⟨⟨k2, z2⟩, HS⟩ := hw5 w5 hw5e
    have HW5 := Lib.hid hw5e
    clear hw5 hw5e
    go_upto_region 7 with fail
    rw [HW5.out]
    go_wp2
    go_ret
    obtain ⟨XF', XS', hS⟩ := HS.out
    refine ⟨0, rfl, .own ((turnN F.kt.es vs vs.length).kill n), 1, .turn HK.out hn hnl, k, (n : Int), jj, HK.out, HR.out, XF', XS', ?_⟩
    rw [if_pos rfl, show a + (mdS (.own ((turnN F.kt.es vs vs.length).kill n)) : Int) - (mdS (.row vs) : Int) = a + ((turnN F.kt.es vs vs.length).made : Int) by show a + ((turnN F.kt.es vs vs.length).made : Int) - ((0 : Nat) : Int) = _; omega, show d + ((1 : Nat) : Int) = d + 1 by omega]
    exact hS
  · have HF1 := Lib.hid hF1
    have HM1 := Lib.hid hM1
    clear hF1 hb1 hqb hqv hqn hM1 hq1' hvo hcap
    go_wp2_with fail
    refine CH.mono ?_
    rintro e w3 ⟨rfl, rfl⟩
    clear CH
    go_wp2
    go_ret
    refine ⟨7, rfl, .row vs, 0, .noneR HK.out hres, k, res, jj, HK.out, HR.out, XF, fun k => k = s ∨ k = q ∨ (Value.slice av vs.length cap).ownBlock = some k, ?_⟩
    rw [if_neg (by decide), show a + (mdS (.row vs) : Int) - (mdS (.row vs) : Int) = a by omega, show d + ((0 : Nat) : Int) = d by omega]
    exact ss_same HF1.out HM1.out hx1
end Go.Proofs.YtcbhpjpkjmlcnaaGreat
namespace Go.Proofs.YtcbhpjpkjmlcnaaGreat
open Go.RowKit Go.WideShapes

theorem add_nil (h k v : Int) (w : World) : Calls Tryz.prog 161 #[.pointer none, .int .i64 h, .int .i64 k, .int .i64 v] w fun e w' => e = .returned (.tuple #[.int .i64 0, .int .i64 1]) ∧ Below w.heap.size w w' := by
  go_enter Tryz.func161, Tryz.ntmps161
  go_wp2
  refine bodyPost_ret (v := .tuple #[.int .i64 0, .int .i64 1]) (by simp [results, Tryz.results161, go_sem]) rfl ?_
  exact ⟨rfl, by first | exact Below.refl _ _ | exact (Below.refl _ w).alloc (Nat.le_refl _) _ | exact ⟨rfl, rfl, rfl, Nat.le_refl _, fun _ _ => rfl⟩⟩
theorem refuse_nil (n : Int) (w : World) : Calls Tryz.prog 107 #[.pointer none, .int .i64 n] w fun e w' => e = .returned (.int .i64 1) ∧ Below w.heap.size w w' := by
  go_enter Tryz.func107, Tryz.ntmps107
  go_wp2
  refine bodyPost_ret (v := .int .i64 1) (by simp [results, Tryz.results107, go_sem]) rfl ?_
  exact ⟨rfl, by first | exact Below.refl _ _ | exact (Below.refl _ w).alloc (Nat.le_refl _) _ | exact ⟨rfl, rfl, rfl, Nat.le_refl _, fun _ _ => rfl⟩⟩
theorem len_nil (w : World) : Calls Tryz.prog 182 #[.pointer none] w fun e w' => e = .returned (.int .i64 0) ∧ Below w.heap.size w w' := by
  go_enter Tryz.func182, Tryz.ntmps182
  go_wp2
  refine bodyPost_ret (v := .int .i64 0) (by simp [results, Tryz.results182, go_sem]) rfl ?_
  exact ⟨rfl, by first | exact Below.refl _ _ | exact (Below.refl _ w).alloc (Nat.le_refl _) _ | exact ⟨rfl, rfl, rfl, Nat.le_refl _, fun _ _ => rfl⟩⟩
theorem seek_nil (h : Int) (w : World) : Calls Tryz.prog 82 #[.pointer none, .int .i64 h] w fun e w' => e = .returned (.pointer none) ∧ Below w.heap.size w w' := by
  go_enter Tryz.func82, Tryz.ntmps82
  go_wp2
  refine bodyPost_ret (v := .pointer none) (by simp [results, Tryz.results82, go_sem]) rfl ?_
  exact ⟨rfl, by first | exact Below.refl _ _ | exact (Below.refl _ w).alloc (Nat.le_refl _) _ | exact ⟨rfl, rfl, rfl, Nat.le_refl _, fun _ _ => rfl⟩⟩
theorem copied_nil (w : World) : Calls Tryz.prog 73 #[.pointer none] w fun e w' => e = .returned (.slice none 0 0) ∧ Below w.heap.size w w' := by
  go_enter Tryz.func73, Tryz.ntmps73
  go_wp2
  refine bodyPost_ret (v := .slice none 0 0) (by simp [results, Tryz.results73, go_sem]) rfl ?_
  exact ⟨rfl, by first | exact Below.refl _ _ | exact (Below.refl _ w).alloc (Nat.le_refl _) _ | exact ⟨rfl, rfl, rfl, Nat.le_refl _, fun _ _ => rfl⟩⟩
theorem sight_nil (w : World) : Calls Tryz.prog 45 #[.pointer none] w fun e w' => e = .returned (siV 0 0 none 0 0 none 0 0 0 0 0) ∧ Below w.heap.size w w' := by
  go_enter Tryz.func45, Tryz.ntmps45
  go_wp2
  refine bodyPost_ret (v := siV 0 0 none 0 0 none 0 0 0 0 0) (by simp [results, Tryz.results45, go_sem, siV]) rfl ?_
  exact ⟨rfl, by first | exact Below.refl _ _ | exact (Below.refl _ w).alloc (Nat.le_refl _) _ | exact ⟨rfl, rfl, rfl, Nat.le_refl _, fun _ _ => rfl⟩⟩
theorem hasEnded_nil (w : World) : Calls Tryz.prog 105 #[.pointer none] w fun e w' => e = .returned (.bool true) ∧ Below w.heap.size w w' := by
  go_enter Tryz.func105, Tryz.ntmps105
  go_wp2_with fail
  go_quiet (fail)
  go_wp2
  refine bodyPost_ret (v := .bool true) (by simp [results, Tryz.results105, go_sem]) rfl ?_
  exact ⟨rfl, by first | exact Below.refl _ _ | exact (Below.refl _ w).alloc (Nat.le_refl _) _ | exact ⟨rfl, rfl, rfl, Nat.le_refl _, fun _ _ => rfl⟩⟩
theorem put_nil (n v : Int) (w : World) : Calls Tryz.prog 217 #[.pointer none, .int .i64 n, .int .i64 v] w fun e w' => e = .returned (.int .i64 1) ∧ Below w.heap.size w w' := by
  have C := Lib.hid (fun w => refuse_nil n w)
  have hb0 : ∀ o, Below w.heap.size w (w.alloc o) := fun o => (Below.refl _ w).alloc (Nat.le_refl _) o
  have HB0 := Lib.hid hb0
  clear hb0
  go_enter Tryz.func217, Tryz.ntmps217
  go_wp2_with fail
  refine (C.out _).mono ?_
  rintro e w1 ⟨rfl, hb⟩
  replace hb : Below w.heap.size w w1 := by first | exact hb | exact (HB0.out _).trans (hb.mono (HB0.out _).size)
  go_wp2
  refine bodyPost_ret (v := .int .i64 1) (by simp [results, Tryz.results217, go_sem]) rfl ?_
  exact ⟨rfl, by first | exact hb | exact hb.alloc hb.size _⟩
theorem kill_nil (n : Int) (w : World) : Calls Tryz.prog 184 #[.pointer none, .int .i64 n] w fun e w' => e = .returned (.int .i64 1) ∧ Below w.heap.size w w' := by
  have C := Lib.hid (fun w => refuse_nil n w)
  have hb0 : ∀ o, Below w.heap.size w (w.alloc o) := fun o => (Below.refl _ w).alloc (Nat.le_refl _) o
  have HB0 := Lib.hid hb0
  clear hb0
  go_enter Tryz.func184, Tryz.ntmps184
  go_wp2_with fail
  refine (C.out _).mono ?_
  rintro e w1 ⟨rfl, hb⟩
  replace hb : Below w.heap.size w w1 := by first | exact hb | exact (HB0.out _).trans (hb.mono (HB0.out _).size)
  go_wp2
  refine bodyPost_ret (v := .int .i64 1) (by simp [results, Tryz.results184, go_sem]) rfl ?_
  exact ⟨rfl, by first | exact hb | exact hb.alloc hb.size _⟩
theorem next_nil (w : World) : Calls Tryz.prog 84 #[.pointer none] w fun e w' => e = .returned (.tuple #[.int .i64 (-1), .bool false]) ∧ Below w.heap.size w w' := by
  have C := Lib.hid (fun w => hasEnded_nil w)
  have hb0 : ∀ o, Below w.heap.size w (w.alloc o) := fun o => (Below.refl _ w).alloc (Nat.le_refl _) o
  have HB0 := Lib.hid hb0
  clear hb0
  go_enter Tryz.func84, Tryz.ntmps84
  go_wp2_with fail
  refine (C.out _).mono ?_
  rintro e w1 ⟨rfl, hb⟩
  replace hb : Below w.heap.size w w1 := by first | exact hb | exact (HB0.out _).trans (hb.mono (HB0.out _).size)
  go_wp2
  refine bodyPost_ret (v := .tuple #[.int .i64 (-1), .bool false]) (by simp [results, Tryz.results84, go_sem]) rfl ?_
  exact ⟨rfl, by first | exact hb | exact hb.alloc hb.size _⟩
theorem all_nil (w : World) : Calls Tryz.prog 43 #[.pointer none] w fun e w' => ∃ b, e = .returned (.func (.func 74) #[] #[.pointer (some ⟨b, 0, none⟩)]) ∧ b < w'.heap.size ∧ w'.cell? ⟨b, 0, none⟩ = some (.slice none 0 0) ∧ Below w.heap.size w w' := by
  have hmf : ∀ (fn : Fn) (first cap : Array Value) (w : World), (Instr.makeFunc fn first cap).run Tryz.prog w = .ok (.func fn first cap) w := fun _ _ _ _ => rfl
  have C := Lib.hid (fun w => copied_nil w)
  go_enter Tryz.func43, Tryz.ntmps43
  go_wp2_with fail
  refine (C.out _).mono ?_
  rintro e w1 ⟨rfl, hb⟩
  go_wp2
  go_ret
  exact ⟨_, rfl, by simp, by rw [World.cell?_alloc_at _ _ _ _ rfl]; rfl, hb.alloc hb.size _⟩
theorem refuse_nil' (n : Int) (w : World) : Calls Tryz.prog 107 #[.pointer none, .int .i64 n] w fun e w' => e = .returned (.int .i64 1) ∧ w' = w := by
  go_enter Tryz.func107, Tryz.ntmps107
  go_wp2
  go_ret
  exact ⟨rfl, rfl⟩
theorem at_nil (n : Int) (w : World) : Calls Tryz.prog 85 #[.pointer none, .int .i64 n] w fun e w' => e = .returned (.tuple #[.agg #[.bool false, .int .i64 0, .int .i64 0, .int .i64 0, .int .i64 0], .int .i64 1]) ∧ Below w.heap.size w w' := by
  obtain ⟨w1, hw1⟩ : ∃ y, w.alloc (.cells #[.bool false, .int .i64 0, .int .i64 0, .int .i64 0, .int .i64 0] 107) = y := ⟨_, rfl⟩
  have hB1 : Below w.heap.size w w1 := by rw [← hw1]; exact (Below.refl _ w).alloc (Nat.le_refl _) _
  have hX1 : Blk w1 w.heap.size 5 (fun j => #[Value.bool false, .int .i64 0, .int .i64 0, .int .i64 0, .int .i64 0].getD j .nilFunc) := by rw [← hw1]; exact Blk.new w _ _
  have C1 := refuse_nil' n w1
  have a0 := hX1.c 0 (by omega)
  have a1 := hX1.c 1 (by omega)
  have a2 := hX1.c 2 (by omega)
  have a3 := hX1.c 3 (by omega)
  have a4 := hX1.c 4 (by omega)
  have z0 := hX1.z 0
  have z1 := hX1.z 1
  have z2 := hX1.z 2
  have z3 := hX1.z 3
  have z4 := hX1.z 4
  have HW := Lib.hid hw1
  have HX1 := Lib.hid hX1
  have HB1 := Lib.hid hB1
  clear hw1 hX1 hB1
  go_enter Tryz.func85, Tryz.ntmps85
  go_wp2_with fail
  rw [HW.out]
  refine C1.mono ?_
  rintro e w2 ⟨rfl, rfl⟩
  clear C1
  have HR := Lib.hid (((((HX1.out.put 0 (.bool false)).put 1 (.int .i64 0)).put 2 (.int .i64 0)).put 3 (.int .i64 0)).put 4 (.int .i64 0))
  have HBB : Hid (Below w.heap.size w (((((w2.setCell ⟨w.heap.size, 0, none⟩ (.bool false)).setCell ⟨w.heap.size, 1, none⟩ (.int .i64 0)).setCell ⟨w.heap.size, 2, none⟩ (.int .i64 0)).setCell ⟨w.heap.size, 3, none⟩ (.int .i64 0)).setCell ⟨w.heap.size, 4, none⟩ (.int .i64 0))) := ((((HB1.out.setCell (p := ⟨w.heap.size, 0, none⟩) (Nat.le_refl _) _).setCell (p := ⟨w.heap.size, 1, none⟩) (Nat.le_refl _) _).setCell (p := ⟨w.heap.size, 2, none⟩) (Nat.le_refl _) _).setCell (p := ⟨w.heap.size, 3, none⟩) (Nat.le_refl _) _).setCell (p := ⟨w.heap.size, 4, none⟩) (Nat.le_refl _) _
  go_wp2_with fail
  generalize World.setCell (World.setCell (World.setCell (World.setCell (World.setCell w2 _ _) _ _) _ _) _ _) _ _ = w3 at *
  have p0 : w3.cell? ⟨w.heap.size, 0, none⟩ = some (.bool false) := HR.out.c 0 (by omega)
  have p1 : w3.cell? ⟨w.heap.size, 1, none⟩ = some (.int .i64 0) := HR.out.c 1 (by omega)
  have p2 : w3.cell? ⟨w.heap.size, 2, none⟩ = some (.int .i64 0) := HR.out.c 2 (by omega)
  have p3 : w3.cell? ⟨w.heap.size, 3, none⟩ = some (.int .i64 0) := HR.out.c 3 (by omega)
  have p4 : w3.cell? ⟨w.heap.size, 4, none⟩ = some (.int .i64 0) := HR.out.c 4 (by omega)
  refine bodyPost_ret (v := .tuple #[.agg #[.bool false, .int .i64 0, .int .i64 0, .int .i64 0, .int .i64 0], .int .i64 1]) ?_ rfl ⟨rfl, HBB.out⟩
  simp [results, Tryz.results85, go_sem, p0, p1, p2, p3, p4]
end Go.Proofs.YtcbhpjpkjmlcnaaGreat
namespace Go.Proofs.YtcbhpjpkjmlcnaaGreat
open Go.RowKit Go.WideShapes

/-- It is none. -/
abbrev NoS (w : World) (pv : Option Addr) : Prop := Calls Tryz.prog 48 #[.pointer pv] w fun e w' => e = .returned (.bool true) ∧ w' = w
theorem get_not {w : World} {pv : Option Addr} (C : NoS w pv) (nm : ByteArray) : Calls Tryz.prog 22 #[.pointer pv, .string nm] w fun e w' => e = .returned (.tuple #[.int .i64 0, .bool false]) ∧ w' = w := by
  go_enter Tryz.func22, Tryz.ntmps22
  go_wp2_with fail
  refine C.mono ?_
  rintro e w1 ⟨rfl, rfl⟩
  go_wp2
  exact bodyPost_ret (v := .tuple #[.int .i64 0, .bool false]) (by simp [results, Tryz.results22, go_sem]) rfl ⟨rfl, rfl⟩
theorem set_not {w : World} {pv : Option Addr} (C : NoS w pv) (nm : ByteArray) (v : Int) : Calls Tryz.prog 21 #[.pointer pv, .string nm, .int .i64 v] w fun e w' => e = .returned (.int .i64 1) ∧ w' = w := by
  go_enter Tryz.func21, Tryz.ntmps21
  go_wp2_with fail
  refine C.mono ?_
  rintro e w1 ⟨rfl, rfl⟩
  go_wp2
  go_ret
  exact ⟨rfl, rfl⟩
theorem del_not {w : World} {pv : Option Addr} (C : NoS w pv) (nm : ByteArray) : Calls Tryz.prog 32 #[.pointer pv, .string nm] w fun e w' => e = .returned (.int .i64 1) ∧ w' = w := by
  go_enter Tryz.func32, Tryz.ntmps32
  go_wp2_with fail
  refine C.mono ?_
  rintro e w1 ⟨rfl, rfl⟩
  go_wp2
  go_ret
  exact ⟨rfl, rfl⟩
theorem len_not {w : World} {pv : Option Addr} (C : NoS w pv) : Calls Tryz.prog 34 #[.pointer pv] w fun e w' => e = .returned (.int .i64 0) ∧ w' = w := by
  go_enter Tryz.func34, Tryz.ntmps34
  go_wp2_with fail
  refine C.mono ?_
  rintro e w1 ⟨rfl, rfl⟩
  go_wp2
  go_ret
  exact ⟨rfl, rfl⟩
theorem pairs_not {w : World} {pv : Option Addr} (C : NoS w pv) : Calls Tryz.prog 38 #[.pointer pv] w fun e w' => e = .returned (.slice none 0 0) ∧ w' = w := by
  go_enter Tryz.func38, Tryz.ntmps38
  go_wp2_with fail
  refine C.mono ?_
  rintro e w1 ⟨rfl, rfl⟩
  go_wp2
  go_ret
  exact ⟨rfl, rfl⟩
theorem shared_not {w : World} {pv : Option Addr} (C : NoS w pv) : Calls Tryz.prog 23 #[.pointer pv] w fun e w' => e = .returned (.bool false) ∧ w' = w := by
  go_enter Tryz.func23, Tryz.ntmps23
  go_wp2_with fail
  refine C.mono ?_
  rintro e w1 ⟨rfl, rfl⟩
  go_wp2
  go_ret
  exact ⟨rfl, rfl⟩
theorem version_nil (w : World) : Calls Tryz.prog 36 #[.pointer none] w fun e w' => e = .returned (.int .i64 0) ∧ w' = w := by
  have h1 : ∀ w, (binOp .eql 81 (.pointer none) (.pointer none)).run Tryz.prog w = .ok (.bool true) w := fun w => by kernel_rfl
  go_enter Tryz.func36, Tryz.ntmps36
  go_wp2
  go_ret
  exact ⟨rfl, rfl⟩
theorem version_zero {w : World} {s : Nat} (x2 : w.cell? ⟨s, 2, none⟩ = some (.int .u64 0)) : Calls Tryz.prog 36 #[.pointer (some ⟨s, 0, none⟩)] w fun e w' => e = .returned (.int .i64 0) ∧ w' = w := by
  have h1 := eqSp s
  go_enter Tryz.func36, Tryz.ntmps36
  go_wp2
  go_ret
  exact ⟨rfl, rfl⟩
theorem ssight_not {w : World} {pv : Option Addr} (C : ∀ W, Below w.heap.size w W → NoS W pv) : Calls Tryz.prog 40 #[.pointer pv] w fun e w' => e = .returned (siV 0 0 none 0 0 none 0 0 0 0 0) ∧ Below w.heap.size w w' := by
  have HC : Hid (∀ o, NoS (w.alloc o) pv) := fun o => C _ ((Below.refl _ w).alloc (Nat.le_refl _) _)
  clear C
  go_enter Tryz.func40, Tryz.ntmps40
  go_wp2_with fail
  refine (HC.out _).mono ?_
  rintro e w2 ⟨rfl, rfl⟩
  clear HC
  go_wp2
  refine bodyPost_ret (v := siV 0 0 none 0 0 none 0 0 0 0 0) (by simp [results, Tryz.results40, go_sem, siV]) rfl ?_
  exact ⟨rfl, by first | exact (Below.refl _ w).alloc (Nat.le_refl _) _ | exact ⟨rfl, rfl, rfl, Nat.le_refl _, fun _ _ => rfl⟩⟩
end Go.Proofs.YtcbhpjpkjmlcnaaGreat
namespace Go.Proofs.YtcbhpjpkjmlcnaaGreat
open Go.RowKit Go.WideShapes
attribute [local go_sem] Oper.semAt_some

theorem eqFa0 (w : World) : (binOp .eql 62 (.pointer none) (.pointer none)).run Tryz.prog w = .ok (.bool true) w := by kernel_rfl
theorem eqT70 (w : World) : (binOp .eql 103 (.pointer none) (.pointer none)).run Tryz.prog w = .ok (.bool true) w := by kernel_rfl
theorem keys_nil (w : World) : Calls Tryz.prog 42 #[.pointer none] w fun e w' => e = .returned (.pointer none) ∧ w' = w := by
  have h1 := eqFa0
  go_enter Tryz.func42, Tryz.ntmps42
  go_wp2
  go_ret
  exact ⟨rfl, rfl⟩
theorem make_nil (w : World) : Calls Tryz.prog 20 #[.pointer none] w fun e w' => e = .returned (.pointer none) ∧ w' = w := by
  have h1 := eqFa0
  go_enter Tryz.func20, Tryz.ntmps20
  go_wp2
  go_ret
  exact ⟨rfl, rfl⟩
theorem fsight_nil (w : World) : Calls Tryz.prog 17 #[.pointer none] w fun e w' => e = .returned (siV 0 0 none 0 0 none 0 0 0 0 0) ∧ Below w.heap.size w w' := by
  obtain ⟨w1, hw1⟩ : ∃ y, w.alloc (.cells #[.int .i64 0, .int .i64 0, .slice none 0 0, .slice none 0 0, .int .i64 0, .int .i64 0, .int .i64 0] 73) = y := ⟨_, rfl⟩
  have hB1 : Below w.heap.size w w1 := by rw [← hw1]; exact (Below.refl _ w).alloc (Nat.le_refl _) _
  have hR1 : Blk w1 w.heap.size 7 (fun j => #[Value.int .i64 0, .int .i64 0, .slice none 0 0, .slice none 0 0, .int .i64 0, .int .i64 0, .int .i64 0].getD j .nilFunc) := by rw [← hw1]; exact Blk.new w _ _
  have CK := keys_nil w1
  have CS := sight_nil w1
  have HW := Lib.hid hw1
  clear hw1
  go_enter Tryz.func17, Tryz.ntmps17
  go_upto_region 1 with fail
  rw [HW.out]
  go_wp2_with fail
  refine CK.mono ?_
  rintro e w2 ⟨rfl, rfl⟩
  go_wp2_with fail
  refine CS.mono ?_
  rintro e w3 ⟨rfl, hB3⟩
  clear CK CS
  have hR3 := hR1.of hB3 (by omega)
  have a0 : w3.cell? ⟨w.heap.size, 0, none⟩ = some (.int .i64 0) := hR3.c 0 (by omega)
  have a1 : w3.cell? ⟨w.heap.size, 1, none⟩ = some (.int .i64 0) := hR3.c 1 (by omega)
  have a2 : w3.cell? ⟨w.heap.size, 2, none⟩ = some (.slice none 0 0) := hR3.c 2 (by omega)
  have a3 : w3.cell? ⟨w.heap.size, 3, none⟩ = some (.slice none 0 0) := hR3.c 3 (by omega)
  have a4 : w3.cell? ⟨w.heap.size, 4, none⟩ = some (.int .i64 0) := hR3.c 4 (by omega)
  have a5 : w3.cell? ⟨w.heap.size, 5, none⟩ = some (.int .i64 0) := hR3.c 5 (by omega)
  have a6 : w3.cell? ⟨w.heap.size, 6, none⟩ = some (.int .i64 0) := hR3.c 6 (by omega)
  have z0 : ∀ j, w3.frozen? ⟨w.heap.size, j, none⟩ = false := fun j => hR3.z j
  obtain ⟨w4, hw4⟩ : ∃ y, ((((((w3.setCell ⟨w.heap.size, 0, none⟩ (.int .i64 0)).setCell ⟨w.heap.size, 1, none⟩ (.int .i64 0)).setCell ⟨w.heap.size, 2, none⟩ (.slice none 0 0)).setCell ⟨w.heap.size, 3, none⟩ (.slice none 0 0)).setCell ⟨w.heap.size, 4, none⟩ (.int .i64 0)).setCell ⟨w.heap.size, 5, none⟩ (.int .i64 0)).setCell ⟨w.heap.size, 6, none⟩ (.int .i64 0) = y := ⟨_, rfl⟩
  have hR4 := (((((((hR3.put 0 (.int .i64 0)).put 1 (.int .i64 0)).put 2 (.slice none 0 0)).put 3 (.slice none 0 0)).put 4 (.int .i64 0)).put 5 (.int .i64 0)).put 6 (.int .i64 0))
  rw [hw4] at hR4
  have b0 : w4.cell? ⟨w.heap.size, 0, none⟩ = some (.int .i64 0) := hR4.c 0 (by omega)
  have b1 : w4.cell? ⟨w.heap.size, 1, none⟩ = some (.int .i64 0) := hR4.c 1 (by omega)
  have b2 : w4.cell? ⟨w.heap.size, 2, none⟩ = some (.slice none 0 0) := hR4.c 2 (by omega)
  have b3 : w4.cell? ⟨w.heap.size, 3, none⟩ = some (.slice none 0 0) := hR4.c 3 (by omega)
  have b4 : w4.cell? ⟨w.heap.size, 4, none⟩ = some (.int .i64 0) := hR4.c 4 (by omega)
  have b5 : w4.cell? ⟨w.heap.size, 5, none⟩ = some (.int .i64 0) := hR4.c 5 (by omega)
  have b6 : w4.cell? ⟨w.heap.size, 6, none⟩ = some (.int .i64 0) := hR4.c 6 (by omega)
  have HB : Hid (Below w.heap.size w w4) := by
    have h3 := hB1.trans (hB3.mono hB1.size)
    have hx : Ex (fun k => k = w.heap.size) w3 w4 := by
      rw [← hw4]
      exact (((((((Ex.refl (fun k => k = w.heap.size) w3).setCell (p := ⟨w.heap.size, 0, none⟩) (fun _ => rfl) _).setCell (p := ⟨w.heap.size, 1, none⟩) (fun _ => rfl) _).setCell (p := ⟨w.heap.size, 2, none⟩) (fun _ => rfl) _).setCell (p := ⟨w.heap.size, 3, none⟩) (fun _ => rfl) _).setCell (p := ⟨w.heap.size, 4, none⟩) (fun _ => rfl) _).setCell (p := ⟨w.heap.size, 5, none⟩) (fun _ => rfl) _).setCell (p := ⟨w.heap.size, 6, none⟩) (fun _ => rfl) _
    exact h3.trans (hx.below (fun k hk => by omega) h3.size)
  have HW4 := Lib.hid hw4
  clear hR3 hR1 hB3 hB1 hR4 hw4
  unfold siV
  go_wp2_with fail
  rw [HW4.out]
  refine bodyPost_ret (v := siV 0 0 none 0 0 none 0 0 0 0 0) (by simp [results, Tryz.results17, go_sem, siV, b0, b1, b2, b3, b4, b5, b6]) rfl ?_
  exact ⟨rfl, HB.out⟩
/-- A zero family's cells, with its key table or none yet. -/
def zF0 (g : Option Addr) : Nat → Value
  | 0 => .pointer none
  | 1 => .pointer g
  | 2 => .int .i64 0
  | 3 => .int .i64 0
  | 4 => .map none
  | _ => .slice none 0 0
set_option maxRecDepth 100000 in
theorem keys_zero {w : World} {f : Nat} (hf : Blk w f 6 (zF0 none)) :
    Calls Tryz.prog 42 #[.pointer (some ⟨f, 0, none⟩)] w fun e w' => ∃ g gi r h, e = .returned (.pointer (some ⟨g, 0, none⟩)) ∧ Blk w' f 6 (zF0 (some ⟨g, 0, none⟩)) ∧ Dt w' g gi r h (.slice none 0 0) Tb.new (.pointer none) ∧ (∀ k, dX g gi r h (.slice none 0 0) k → w.heap.size ≤ k) ∧ Ex (fun k => k = f) w w' := by
  have h1 := eqFa f
  have h2 := eqT70
  have k1 : w.cell? ⟨f, 1, none⟩ = some (.pointer none) := hf.c 1 (by omega)
  have lf := hf.lt (by omega)
  have CN := new7_any (w := w) (pm := none) (M := fun a b w => no4 a b 0 0 w) (a := 0) (b := 0) (m4_nil.mt 0 0) trivial (by omega)
  have HF := Lib.hid hf
  clear hf
  go_enter Tryz.func42, Tryz.ntmps42
  go_wp2_with fail
  refine CN.mono ?_
  rintro e w1 ⟨g, gi, r, h, rfl, hg, hgi, hr, hh, hD, _, hx1⟩
  clear CN
  have hB1 : Below w.heap.size w w1 := hx1.below (fun k hk => (noMet hk).elim) (Nat.le_refl _)
  have hf1 := HF.out.of hB1 (by omega)
  have y1 : w1.cell? ⟨f, 1, none⟩ = some (.pointer none) := hf1.c 1 (by omega)
  have z1 : w1.frozen? ⟨f, 1, none⟩ = false := hf1.z 1
  obtain ⟨w2, hw2⟩ : ∃ y, w1.setCell ⟨f, 1, none⟩ (.pointer (some ⟨g, 0, none⟩)) = y := ⟨_, rfl⟩
  have hf2 : Blk w2 f 6 (zF0 (some ⟨g, 0, none⟩)) := by
    rw [← hw2]
    refine (hf1.put 1 _).congr fun j hj => ?_
    have : j = 0 ∨ j = 1 ∨ j = 2 ∨ j = 3 ∨ j = 4 ∨ j = 5 := by omega
    rcases this with rfl | rfl | rfl | rfl | rfl | rfl <;> rfl
  have x2 : w2.cell? ⟨f, 1, none⟩ = some (.pointer (some ⟨g, 0, none⟩)) := hf2.c 1 (by omega)
  have o2 : ∀ k, k ≠ f → w2.heap[k]? = w1.heap[k]? := fun k hk => by rw [← hw2]; exact Below.heap_setCell _ _ _ _ hk
  have hge : ∀ k, dX g gi r h (.slice none 0 0) k → w.heap.size ≤ k := by
    rintro k (y | y | y | y | y)
    · omega
    · omega
    · omega
    · omega
    · cases y
  have HD : Hid (Dt w2 g gi r h (.slice none 0 0) Tb.new (.pointer none)) := hD.same fun k hk => o2 k (by have := hge k hk; omega)
  have HX : Hid (Ex (fun k => k = f) w w2) := by
    rw [← hw2]
    exact (ex_of hB1).trans ((Ex.refl (fun k => k = f) w1).setCell (p := ⟨f, 1, none⟩) (fun _ => rfl) _)
  have HW2 := Lib.hid hw2
  have HF2 := Lib.hid hf2
  clear hD hx1 hB1 hf1 hw2 hf2 o2 k1
  go_upto_region 5 with fail
  rw [HW2.out]
  go_wp2
  go_ret
  exact ⟨g, gi, r, h, rfl, HF2.out, HD.out, hge, HX.out⟩
theorem numberOf_nil {w : World} {f : Nat} (k4 : w.cell? ⟨f, 4, none⟩ = some (.map none)) {s : ByteArray} (hs : s.size ≤ 3000) :
    Calls Tryz.prog 81 #[.pointer (some ⟨f, 0, none⟩), .string s] w fun e w' => e = .returned (.int .i64 (-1)) ∧ w' = w := by
  have hL : (Instr.lookup 108 (.map none) (.string s) true).run Tryz.prog w = .ok (.tuple #[.int .i64 0, .bool false]) w := Maps.look_nil (w := w) true Tryz.keyS Tryz.underlying108 (Tryz.zeroI w) (keyS_mk hs)
  go_enter Tryz.func81, Tryz.ntmps81
  go_wp2
  go_ret
  exact ⟨rfl, rfl⟩
end Go.Proofs.YtcbhpjpkjmlcnaaGreat
namespace Go.Proofs.YtcbhpjpkjmlcnaaGreat
open Go.RowKit Go.WideShapes
attribute [local go_sem] Oper.semAt_some

set_option maxRecDepth 100000 in
theorem make_at (w : World) (f : Nat) :
    Calls Tryz.prog 20 #[.pointer (some ⟨f, 0, none⟩)] w fun e w' => ∃ s q, e = .returned (.pointer (some ⟨s, 0, none⟩)) ∧ Blk w' s 3 (spF f 117 q 0) ∧ Blk w' q 2 (sdF f (.slice none 0 0)) ∧ w.heap.size ≤ s ∧ w.heap.size ≤ q ∧ Below w.heap.size w w' := by
  have h1 := eqFa f
  obtain ⟨w1, hw1⟩ : ∃ y, w.alloc (.cells #[.pointer (some ⟨f, 0, none⟩), .slice none 0 0] 119) = y := ⟨_, rfl⟩
  obtain ⟨w2, hw2⟩ : ∃ y, w1.alloc (.cells #[.pointer (some ⟨f, 0, none⟩), .iface 117 (.pointer (some ⟨w.heap.size, 0, none⟩)), .int .u64 0] 124) = y := ⟨_, rfl⟩
  have hB1 : Below w.heap.size w w1 := by rw [← hw1]; exact (Below.refl _ w).alloc (Nat.le_refl _) _
  have hs1 : w1.heap.size = w.heap.size + 1 := by rw [← hw1]; simp
  have hB2 : Below w1.heap.size w1 w2 := by rw [← hw2]; exact (Below.refl _ w1).alloc (Nat.le_refl _) _
  have hq : Blk w2 w.heap.size 2 (sdF f (.slice none 0 0)) := by
    have : Blk w1 w.heap.size 2 (sdF f (.slice none 0 0)) := by
      rw [← hw1]
      refine (Blk.new w _ _).congr fun j hj => ?_
      have : j = 0 ∨ j = 1 := by simp at hj; omega
      rcases this with rfl | rfl <;> rfl
    exact this.of hB2 (by omega)
  have hb : Blk w2 w1.heap.size 3 (spF f 117 w.heap.size 0) := by
    rw [← hw2]
    refine (Blk.new w1 _ _).congr fun j hj => ?_
    have : j = 0 ∨ j = 1 ∨ j = 2 := by simp at hj; omega
    rcases this with rfl | rfl | rfl <;> rfl
  have HBw : Hid (Below w.heap.size w w2) := hB1.trans (hB2.mono (by omega))
  have HQ := Lib.hid hq
  have HB := Lib.hid hb
  have HS := Lib.hid hs1
  have HW1 := Lib.hid hw1
  have HW2 := Lib.hid hw2
  clear hw1 hw2 hB1 hB2 hq hb hs1
  go_enter Tryz.func20, Tryz.ntmps20
  go_wp2
  rw [HW1.out, HW2.out]
  go_ret
  exact ⟨_, _, by first | rfl | (simp [← HW1.out]), HB.out, HQ.out, by have := HS.out; omega, Nat.le_refl _, HBw.out⟩
set_option maxRecDepth 100000 in
theorem slen_row {w : World} {f s q n cap : Nat} {av : Option Addr} {v : Nat} (hs : Blk w s 3 (spF f 117 q v)) (k1 : w.cell? ⟨q, 1, none⟩ = some (.slice av n cap)) :
    Calls Tryz.prog 34 #[.pointer (some ⟨s, 0, none⟩)] w fun e w' => e = .returned (.int .i64 (n : Int)) ∧ w' = w := by
  have x1 : w.cell? ⟨s, 1, none⟩ = some (.iface 117 (.pointer (some ⟨q, 0, none⟩))) := hs.c 1 (by omega)
  have CN := isNothing_no x1
  have mz := mR_size (some ⟨q, 0, none⟩)
  have CZ := rowSize_any k1
  clear hs k1
  go_enter Tryz.func34, Tryz.ntmps34
  go_wp2_with fail
  refine CN.mono ?_
  rintro e w1 ⟨rfl, rfl⟩
  clear CN
  go_wp2_with fail
  refine CZ.mono ?_
  rintro e w2 ⟨rfl, rfl⟩
  clear CZ
  go_wp2
  go_ret
  exact ⟨rfl, rfl⟩
set_option maxRecDepth 100000 in
set_option maxHeartbeats 1600000 in
/-- A zero family has room for no name. -/
theorem set_zero {w : World} {f s q g gi r h : Nat} (hf : Blk w f 6 (zF0 (some ⟨g, 0, none⟩))) (hD : Dt w g gi r h (.slice none 0 0) Tb.new (.pointer none)) (hs : Blk w s 3 (spF f 117 q 0)) (hq : Blk w q 2 (sdF f (.slice none 0 0))) {nm : ByteArray} (hnm : nm.size ≤ 3000) (v : Int) :
    Calls Tryz.prog 21 #[.pointer (some ⟨s, 0, none⟩), .string nm, .int .i64 v] w fun e w' => e = .returned (.int .i64 6) ∧ Below w.heap.size w w' := by
  have lf := hf.lt (by omega)
  have ls := hs.lt (by omega)
  have lq := hq.lt (by omega)
  have x1 : w.cell? ⟨s, 1, none⟩ = some (.iface 117 (.pointer (some ⟨q, 0, none⟩))) := hs.c 1 (by omega)
  have CS := (seek_gen (q := q) (t := Tb.new) (T := 117) (Fn := 174) (M := fun a b w => no4 a b 0 0 w) (a := 0) (b := 0) hnm (hs.c 0 (by omega)) (hs.c 1 (by omega)) (fun w => mR_table _ w) (fun args w => Tryz.call174 args w) (numberOf_nil (hf.c 4 (by omega)) hnm) (rowTable_any (hq.c 0 (by omega)) (hf.c 1 (by omega))) hD Tb.new_ok (m4_nil.mt 0 0) (m4_nil.vi 0 0) trivial (by omega) (by simp [Tb.new]) (fun n hn => absurd hn.1 (by simp [Tb.new]))).mono (R' := fun e w' => e = .returned (.int .i64 (-1)) ∧ Below w.heap.size w w') (fun e w' ⟨res, jj, he, hR, _, hx⟩ => by
    rcases hR with ⟨n, _, hn, _⟩ | ⟨rfl, _⟩
    · exact absurd hn.1 (by simp [Tb.new])
    · exact ⟨he, hx.below (fun k hk => (noMet hk).elim) (Nat.le_refl _)⟩)
  have CN := isNothing_no x1
  have mh := mR_has (some ⟨q, 0, none⟩)
  have mz := mR_size (some ⟨q, 0, none⟩)
  have HF := Lib.hid hf
  have HS := Lib.hid hs
  have HQ := Lib.hid hq
  clear hf hD hs hq
  go_enter Tryz.func21, Tryz.ntmps21
  go_wp2_with fail
  refine CN.mono ?_
  rintro e w0 ⟨rfl, rfl⟩
  clear CN
  go_wp2_with fail
  refine CS.mono ?_
  rintro e w1 ⟨rfl, hB1⟩
  clear CS x1
  have CH := rowHas_none (w := w1) (q := q)
  have hf1 := HF.out.of hB1 (by omega)
  have hs1 := HS.out.of hB1 (by omega)
  have hq1 := HQ.out.of hB1 (by omega)
  have y1 : w1.cell? ⟨s, 1, none⟩ = some (.iface 117 (.pointer (some ⟨q, 0, none⟩))) := hs1.c 1 (by omega)
  have x0 : w1.drew.cell? ⟨s, 0, none⟩ = some (.pointer (some ⟨f, 0, none⟩)) := hs1.c 0 (by omega)
  have d1 : w1.drew.cell? ⟨s, 1, none⟩ = some (.iface 117 (.pointer (some ⟨q, 0, none⟩))) := y1
  have d3 : w1.drew.cell? ⟨f, 3, none⟩ = some (.int .i64 0) := hf1.c 3 (by omega)
  have CSZ := rowSize_any (w := w1.drew) (q := q) (n := 0) (cap := 0) (av := none) (hq1.c 1 (by omega))
  have HB1 := Lib.hid hB1
  clear hf1 hs1 hq1 hB1
  go_wp2_with fail
  refine CH.mono ?_
  rintro e w3 ⟨rfl, rfl⟩
  clear CH
  go_wp2_with fail
  go_region_held3 (fun V => V.cell? ⟨s, 0, none⟩ = some (.pointer (some ⟨f, 0, none⟩)) ∧ V.cell? ⟨s, 1, none⟩ = some (.iface 117 (.pointer (some ⟨q, 0, none⟩))) ∧ V.cell? ⟨f, 3, none⟩ = some (.int .i64 0))
    (first | with_reducible exact ⟨x0, d1, d3⟩ | fail)
    (first | (go_at_call 173; refine CSZ.mono ?_; rintro e w4 ⟨rfl, rfl⟩) | fail)
  go_wp2
  go_ret
  exact ⟨rfl, HB1.out.drew⟩
set_option maxRecDepth 100000 in
set_option maxHeartbeats 4000000 in
/-- Names of no entries. -/
theorem names_none {w : World} {pv : Option Addr} {X : Nat → Prop} {R : Option Addr → World → Prop} (hX : ∀ k, X k → k < w.heap.size)
    (HK : ∀ W, Below w.heap.size w W → Calls Tryz.prog 42 #[.pointer pv] W fun e W' => ∃ gp, e = .returned (.pointer gp) ∧ R gp W' ∧ Ex X W W')
    (HA : ∀ W gp, R gp W → Calls Tryz.prog 43 #[.pointer gp] W fun e W' => ∃ b v, e = .returned (.func (.func 74) #[] #[.pointer (some ⟨b, 0, none⟩)]) ∧ b < W'.heap.size ∧ W'.cell? ⟨b, 0, none⟩ = some v ∧ Es W' v [] ∧ Below W.heap.size W W')
    (HR : ∀ gp W W', R gp W → Below W.heap.size W W' → R gp W') :
    Calls Tryz.prog 14 #[.pointer pv] w fun e w' => e = .returned (.slice none 0 0) ∧ (∃ gp, R gp w') ∧ Ex X w w' := by
  obtain ⟨w1, hw1⟩ : ∃ y, w.alloc (.cells #[.pointer pv] 62) = y := ⟨_, rfl⟩
  obtain ⟨w2, hw2⟩ : ∃ y, w1.alloc (.cells #[.slice none 0 0] 61) = y := ⟨_, rfl⟩
  have hb1 : Below w.heap.size w w1 := by rw [← hw1]; exact (Below.refl _ w).alloc (Nat.le_refl _) _
  have hX1 : Blk w1 w.heap.size 1 (fun j => #[Value.pointer pv].getD j .nilFunc) := by rw [← hw1]; exact Blk.new w _ _
  have hs1 : w1.heap.size = w.heap.size + 1 := by rw [← hw1]; simp
  have hb2' : Below w1.heap.size w1 w2 := by rw [← hw2]; exact (Below.refl _ w1).alloc (Nat.le_refl _) _
  have hX2 : Blk w2 w1.heap.size 1 (fun j => #[Value.slice none 0 0].getD j .nilFunc) := by rw [← hw2]; exact Blk.new w1 _ _
  have hs2 : w2.heap.size = w.heap.size + 2 := by rw [← hw2]; simp; omega
  have hX12 := hX1.of hb2' (by omega)
  have hb2 : Below w.heap.size w w2 := hb1.trans (hb2'.mono (by omega))
  have CK := HK w2 hb2
  have c1 : w2.cell? ⟨w.heap.size, 0, none⟩ = some (.pointer pv) := hX12.c 0 (by omega)
  have c3 : w2.cell? ⟨w.heap.size + 1, 0, none⟩ = some (.slice none 0 0) := by rw [← hs1]; exact hX2.c 0 (by omega)
  have HW1 := Lib.hid hw1
  have HW2 := Lib.hid hw2
  refine callsIn_wide.1 (callsIn_of_wp_marks (n := 0) Tryz.func14 rfl trivial ?_ rfl)
  simp only [Tryz.ntmps14, List.size_toArray, List.length_cons, List.length_nil, Nat.reduceAdd, Nat.reduceSub, Array.replicate_succ, Array.replicate_zero, List.push_toArray, List.append_toArray, List.nil_append, List.cons_append]
  clear hw1 hw2 hX1 hX2 hX12 hb1 hb2' HK
  gi_wp2_with fail
  rw [HW1.out, HW2.out]
  refine ⟨trivial, rfl, (callsIn_wide.2 CK).mono ?_⟩
  rintro e w3 ⟨gp, rfl, hR3, hx3⟩
  clear CK
  have CA := HA w3 gp hR3
  have hs3 := hx3.size
  have HR3 := Lib.hid hR3
  clear hR3
  gi_wp2_with fail
  refine ⟨trivial, rfl, (callsIn_wide.2 CA).mono ?_⟩
  rintro e w4 ⟨b, v0, rfl, hbl, hbc, hE4, hB4⟩
  clear CA
  have hx24 : Ex X w2 w4 := hx3.trans (ex_of hB4)
  have d3 : w4.cell? ⟨w.heap.size + 1, 0, none⟩ = some (.slice none 0 0) := (World.cell?_of_block (a := ⟨w.heap.size + 1, 0, none⟩) (hx24.block (w.heap.size + 1) (by omega) (fun y => by have := hX _ y; omega))).trans c3
  have HX4 : Hid (Ex X w w4) := (ex_of hb2).trans hx24
  have HR4 : Hid (R gp w4) := HR gp w3 w4 HR3.out hB4
  have hs4 := hB4.size
  have HSQ := Lib.hid (all1_fr (es := []) (v := v0) b w4 (by simp) (fun i => i) (fun i hi => absurd hi (by simp)))
  have HE := Lib.hid hE4
  have HBC := Lib.hid hbc
  have HRR := Lib.hid HR
  clear hE4 hB4 c1 c3 hb2 hx24 hx3 HR3 hbc HA HR
  gi_wp2_with fail
  refine wpIn_range_fr (fun l => { target := .fn (.func 74) #[.pointer (some ⟨b, 0, none⟩)], args := #[.func (.yield l) #[] #[]] }) (fun l W => by simp [resolve, Deferred.ofValue, go_sem, Act.eval]) (fun l W => by simp [invoke, go_sem, Tryz.call74])
    HSQ.out (fun _ => rfl) (fun k W => Below w4.heap.size w4 W) ?hI ?hIp ?hIk (Below.refl _ _) (fun _ _ _ => False) (fun _ _ _ _ h => h) (fun _ i _ _ _ hi => absurd hi (Nat.not_lt_zero _)) (fun _ i _ _ hi => absurd hi (Nat.not_lt_zero _)) ?done
  case hI =>
    intro k A A' x1 hb
    exact x1.trans (hb.mono x1.size)
  case hIp =>
    intro k A o x1
    exact x1.trans (below_put (by omega))
  case hIk =>
    intro k A x1
    exact ⟨HE.out.same fun j hj => x1.block j (HE.out.lt j hj), (x1.cell (p := ⟨b, 0, none⟩) hbl).trans HBC.out⟩
  case done =>
    intro W x1 hK
    have cb : W.cell? ⟨w.heap.size + 1, 0, none⟩ = some (.slice none 0 0) := (x1.cell (p := ⟨w.heap.size + 1, 0, none⟩) (by show w.heap.size + 1 < _; omega)).trans d3
    have HX1 := Lib.hid x1
    clear x1
    gi_wp2_with fail
    gi_wp2
    refine ⟨by simp, .inl ⟨_, _, rfl, run_takeDeferred hK, ?_⟩⟩
    exact ⟨_, results_tmp rfl _ _ _, rfl, ⟨gp, HRR.out gp w4 _ HR4.out (HX1.out.trans (below_put (by omega)))⟩, HX4.out.trans (ex_of (HX1.out.trans (below_put (by omega))))⟩
theorem es_nil (w : World) : Es w (.slice none 0 0) [] := World.ownsRow_nil _ _ _ _
theorem names_nil (w : World) : Calls Tryz.prog 14 #[.pointer none] w fun e w' => e = .returned (.slice none 0 0) ∧ Below w.heap.size w w' :=
  (names_none (w := w) (pv := none) (X := fun _ => False) (R := fun gp _ => gp = none) (fun _ h => h.elim) (fun W _ => (keys_nil W).mono fun e W' ⟨he, hw⟩ => ⟨none, he, rfl, by rw [hw]; exact Ex.refl _ _⟩)
    (fun W gp hg => by
      subst hg
      exact (all_nil W).mono fun e W' ⟨b, he, hb, hc, hB⟩ => ⟨b, _, he, hb, hc, es_nil _, hB⟩) (fun _ _ _ h _ => h)).mono fun e w' ⟨he, _, hx⟩ => ⟨he, hx.below (fun _ h => h.elim) (Nat.le_refl _)⟩
/-- A zero family with its key table. -/
def Zf (w : World) (f g gi r h : Nat) : Prop := Blk w f 6 (zF0 (some ⟨g, 0, none⟩)) ∧ Dt w g gi r h (.slice none 0 0) Tb.new (.pointer none)
theorem Zf.below {w w' : World} {f g gi r h : Nat} (x : Zf w f g gi r h) (hb : Below w.heap.size w w') : Zf w' f g gi r h := ⟨x.1.of hb (by omega), x.2.below hb⟩
theorem names_zero {w : World} {f : Nat} (hf : Blk w f 6 (zF0 none)) : Calls Tryz.prog 14 #[.pointer (some ⟨f, 0, none⟩)] w fun e w' => e = .returned (.slice none 0 0) ∧ (∃ g gi r h, Zf w' f g gi r h) ∧ Ex (fun k => k = f) w w' :=
  (names_none (w := w) (pv := some ⟨f, 0, none⟩) (X := fun k => k = f) (R := fun gp W => ∃ g gi r h, gp = some ⟨g, 0, none⟩ ∧ Zf W f g gi r h) (fun k hk => by rw [hk]; exact hf.lt (by omega))
    (fun W hW => (keys_zero (hf.of hW (by omega))).mono fun e W' ⟨g, gi, r, h, he, h1, h2, _, h4⟩ => ⟨_, he, ⟨g, gi, r, h, rfl, h1, h2⟩, h4⟩)
    (fun W gp ⟨g, gi, r, h, hg, hz⟩ => by
      subst hg
      exact (all7_new (hz.2.hd.c 2 (by omega)) hz.2.es (by simp [Tb.new])).mono fun e W' ⟨b, v, he, _, hb, hc, hE, _, hB⟩ => ⟨b, v, he, hb, hc, hE.es, hB⟩)
    (fun gp W W' ⟨g, gi, r, h, hg, hz⟩ hB => ⟨g, gi, r, h, hg, hz.below hB⟩)).mono fun e w' ⟨he, ⟨gp, g, gi, r, h, _, hz⟩, hx⟩ => ⟨he, ⟨g, gi, r, h, hz⟩, hx⟩
set_option maxRecDepth 100000 in
set_option maxHeartbeats 4000000 in
theorem sight10_none (w : World) : Calls Tryz.prog 16 #[siV 0 0 none 0 0 none 0 0 0 0 0, siV 0 0 none 0 0 none 0 0 0 0 0] w fun e w' => e = .returned (.bool true) ∧ Below w.heap.size w w' := by
  obtain ⟨w1, hw1⟩ : ∃ w1, w.alloc (.cells #[.int .i64 0, .int .i64 0, .slice none 0 0, .slice none 0 0, .int .i64 0, .int .i64 0, .int .i64 0] 73) = w1 := ⟨_, rfl⟩
  have hB1 : Blk w1 w.heap.size 7 (fun j => #[Value.int .i64 0, .int .i64 0, .slice none 0 0, .slice none 0 0, .int .i64 0, .int .i64 0, .int .i64 0].getD j .nilFunc) := by rw [← hw1]; exact Blk.new w _ _
  have hb1 : Below w.heap.size w w1 := by rw [← hw1]; exact (Below.refl _ w).alloc (Nat.le_refl _) _
  have hs1 : w1.heap.size = w.heap.size + 1 := by rw [← hw1]; simp
  obtain ⟨w2, hw2⟩ : ∃ w2, w1.alloc (.cells #[.int .i64 0, .int .i64 0, .slice none 0 0, .slice none 0 0, .int .i64 0, .int .i64 0, .int .i64 0] 73) = w2 := ⟨_, rfl⟩
  have hB2 : Blk w2 w1.heap.size 7 (fun j => #[Value.int .i64 0, .int .i64 0, .slice none 0 0, .slice none 0 0, .int .i64 0, .int .i64 0, .int .i64 0].getD j .nilFunc) := by rw [← hw2]; exact Blk.new w1 _ _
  have hb2 : Below w1.heap.size w1 w2 := by rw [← hw2]; exact (Below.refl _ w1).alloc (Nat.le_refl _) _
  have hB1' := hB1.of hb2 (by omega)
  rw [hs1] at hB2
  have HBW := Lib.hid (hb1.trans (hb2.mono hb1.size))
  have b0 : w2.cell? ⟨w.heap.size, 0, none⟩ = some (.int .i64 0) := hB1'.c 0 (by omega)
  have b1 : w2.cell? ⟨w.heap.size, 1, none⟩ = some (.int .i64 0) := hB1'.c 1 (by omega)
  have b2 : w2.cell? ⟨w.heap.size, 2, none⟩ = some (.slice none 0 0) := hB1'.c 2 (by omega)
  have b3 : w2.cell? ⟨w.heap.size, 3, none⟩ = some (.slice none 0 0) := hB1'.c 3 (by omega)
  have b4 : w2.cell? ⟨w.heap.size, 4, none⟩ = some (.int .i64 0) := hB1'.c 4 (by omega)
  have b5 : w2.cell? ⟨w.heap.size, 5, none⟩ = some (.int .i64 0) := hB1'.c 5 (by omega)
  have b6 : w2.cell? ⟨w.heap.size, 6, none⟩ = some (.int .i64 0) := hB1'.c 6 (by omega)
  have d0 : w2.cell? ⟨w.heap.size + 1, 0, none⟩ = some (.int .i64 0) := hB2.c 0 (by omega)
  have d1 : w2.cell? ⟨w.heap.size + 1, 1, none⟩ = some (.int .i64 0) := hB2.c 1 (by omega)
  have d2 : w2.cell? ⟨w.heap.size + 1, 2, none⟩ = some (.slice none 0 0) := hB2.c 2 (by omega)
  have d3 : w2.cell? ⟨w.heap.size + 1, 3, none⟩ = some (.slice none 0 0) := hB2.c 3 (by omega)
  have d4 : w2.cell? ⟨w.heap.size + 1, 4, none⟩ = some (.int .i64 0) := hB2.c 4 (by omega)
  have d5 : w2.cell? ⟨w.heap.size + 1, 5, none⟩ = some (.int .i64 0) := hB2.c 5 (by omega)
  have d6 : w2.cell? ⟨w.heap.size + 1, 6, none⟩ = some (.int .i64 0) := hB2.c 6 (by omega)
  have HW1 := Lib.hid hw1
  have HW2 := Lib.hid hw2
  clear hw1 hw2 hB1 hb1 hB2 hb2 hB1'
  unfold siV
  go_enter Tryz.func16, Tryz.ntmps16
  go_upto_region 1 with fail
  rw [HW1.out, HW2.out]
  try rw [hs1]
  clear HW1 HW2
  go_wp2_with fail
  go_loopw [5] (fun iv wr => iv = .int .i64 0 ∧ wr = w2) (fun _ _ => 0)
  case atStart => exact ⟨rfl, rfl⟩
  case round =>
    obtain ⟨rfl, rfl⟩ := hrel
    go_wp2_with fail
    go_loopw [6] (fun iv wr' => iv = .int .i64 0 ∧ wr' = wr) (fun _ _ => 0)
    case atStart => exact ⟨rfl, rfl⟩
    case round =>
      obtain ⟨rfl, rfl⟩ := hrel
      go_wp2
      go_ret
      exact ⟨rfl, HBW.out⟩
end Go.Proofs.YtcbhpjpkjmlcnaaGreat
namespace Go.Proofs.YtcbhpjpkjmlcnaaGreat
open Go.RowKit Go.WideShapes

theorem kill_nl {hs : ByteArray → Int} {all : List ByteArray} {t : Tb} (h : Nl hs all (liveL t.es)) {n : Nat} (hn : n < t.es.length) (hl : (nth t.es n).live = true) : Nl hs all (liveL (t.kill n).es) := by
  refine h.sub ?_
  have e : liveL (t.kill n).es = liveL (t.es.take n) ++ liveL (t.es.drop (n + 1)) := by
    exact liveL_set hn (En.gone (nth t.es n).birth) rfl
  rw [e, liveL_cut hn hl]
  exact List.Sublist.append (List.Sublist.refl _) (List.sublist_cons_self ..)
theorem delR_ok {hs : ByteArray → Int} {F : Fa} {s : ByteArray} {st st' : Stn} {er : Int} {dd c : Nat} (h : DelR F s st st' er dd) (hF : F.Ok hs c) (hst : st.Ok hs F c) : st'.Ok hs F (c + 1) := by
  cases h with
  | noneR hk hn => exact hst
  | noneO hk hn => exact hst.le (Fle.refl _) (by omega)
  | @turn vs k n hk hn hl =>
    have hvl : vs.length ≤ F.kt.es.length := hst
    have h256 : vs.length ≤ 256 := by have := hF.len; have := hF.room; omega
    obtain ⟨t1, t2, t3, t4, t5⟩ := turnN_is F.kt.es vs vs.length (by omega)
    have hnl := turnN_nl hF.nl vs hvl (by omega)
    have hbl : vs.length ≤ c := by have := hF.ok.few; have := hF.births; omega
    obtain ⟨a1, a2⟩ := turnN_at F.kt.es vs hl
    exact ⟨t1.kill n a1 a2, kill_nl hnl a1 a2, by show (turnN F.kt.es vs vs.length).births ≤ _; omega, by show (turnN F.kt.es vs vs.length).made ≤ _; omega, by show (turnN F.kt.es vs vs.length).turn + 1 ≤ _; omega⟩
  | @kill t k n hk hn =>
    obtain ⟨h1, h2, h3, h4, h5⟩ := hst
    exact ⟨h1.kill n hn.1 hn.2.1, kill_nl h2 hn.1 hn.2.1, by show t.births ≤ _; omega, by show t.made ≤ _; omega, by show t.turn + 1 ≤ _; omega⟩
theorem del_any {w : World} {f : Nat} {F : Fa} {pm : Option Addr} {XF : Nat → Prop} {s : Nat} {st : Stn} {v : Nat} {XS : Nat → Prop} {N : Int → Int → Int → Int → World → Prop} {a b c d : Int} {c0 : Nat} (h : Fs w f F (.pointer pm) XF s st v XS) (hM4 : M4 (.pointer pm) N) (hM : N a b c d w) (ha : 0 ≤ a ∧ a ≤ 10000000) (hb : 0 ≤ b ∧ b ≤ 10000000000) (hd : 0 ≤ d ∧ d ≤ 100000000) (hO : F.Ok hsT c0) (hst : Stn.Ok hsT F c0 st) (hc0 : c0 ≤ 49000) (hv : v ≤ 1000000000) {nm : ByteArray} (hs : nm.size ≤ 3000) :
    Calls Tryz.prog 32 #[.pointer (some ⟨s, 0, none⟩), .string nm] w fun e w' => ∃ er : Int, e = .returned (.int .i64 er) ∧ DelQ w f F (.pointer pm) N a b c d XF s st v XS nm er w' := by
  cases st with
  | row vs => exact del_row h hM4 hM ha hb hd hO hst hv hs
  | own t =>
    have hst' := hst
    obtain ⟨h1, h2, h3, h4, h5⟩ := hst'
    exact del_own h hM4 hM hb hO hst hv (by omega) h1 hs
/-- How many names a namespace has. -/
def lenS : Stn → Nat
  | .row vs => vs.length
  | .own t => t.live
set_option maxRecDepth 100000 in
theorem slen_any {w : World} {s f : Nat} {mv : Value} {v : Nat} {X : Nat → Prop} {st : Stn} (h : Sm w s f mv v X st) :
    Calls Tryz.prog 34 #[.pointer (some ⟨s, 0, none⟩)] w fun e w' => e = .returned (.int .i64 (lenS st : Int)) ∧ w' = w := by
  obtain ⟨q, XQ, h1, h2, h3, rfl⟩ := h
  cases st with
  | row vs =>
    obtain ⟨vv, hqb, hqv, hqn, rfl⟩ := h2
    obtain ⟨av, cap, gv, rfl, hcap, hvo⟩ := hqv.open
    exact slen_row h1 (hqb.c 1 (by omega))
  | own t =>
    obtain ⟨g, gi, r, h', ev, hqb, hqd, hqn, rfl⟩ := h2
    have x1 : w.cell? ⟨s, 1, none⟩ = some (.iface 229 (.pointer (some ⟨q, 0, none⟩))) := h1.c 1 (by omega)
    have CN := isNothing_no x1
    have mz := mO_size (some ⟨q, 0, none⟩)
    have CZ := ownSize_any (n := (t.live : Int)) (hqb.c 1 (by omega)) (hqd.hd.c 3 (by omega))
    clear h1 hqb hqd hqn h3
    show Calls _ _ _ _ fun e w' => e = .returned (.int .i64 (t.live : Int)) ∧ w' = w
    go_enter Tryz.func34, Tryz.ntmps34
    go_wp2_with fail
    refine CN.mono ?_
    rintro e w1 ⟨rfl, rfl⟩
    clear CN
    go_wp2_with fail
    refine CZ.mono ?_
    rintro e w2 ⟨rfl, rfl⟩
    clear CZ
    go_wp2
    go_ret
    exact ⟨rfl, rfl⟩
set_option maxRecDepth 100000 in
theorem version10_any {w : World} {s f : Nat} {mv : Value} {v : Nat} {X : Nat → Prop} {st : Stn} (h : Sm w s f mv v X st) (hv : v ≤ 1000000000) :
    Calls Tryz.prog 36 #[.pointer (some ⟨s, 0, none⟩)] w fun e w' => e = .returned (.int .i64 (v : Int)) ∧ w' = w := by
  obtain ⟨q, XQ, h1, h2, h3, rfl⟩ := h
  have k2 : w.cell? ⟨s, 2, none⟩ = some (.int .u64 (v : Int)) := h1.c 2 (by omega)
  have e1 : IntKind.i64.wrap (v : Int) = (v : Int) := i64_small (by omega) (by omega)
  clear h1 h2 h3
  go_enter Tryz.func36, Tryz.ntmps36
  go_wp2
  go_ret
  exact ⟨rfl, rfl⟩
end Go.Proofs.YtcbhpjpkjmlcnaaGreat
namespace Go.Proofs.YtcbhpjpkjmlcnaaGreat
open Go.RowKit Go.WideShapes

theorem neQ7 (g : Nat) (w : World) : (binOp .neq 75 (.pointer (some ⟨g, 0, none⟩)) (.pointer none)).run Tryz.prog w = .ok (.bool true) w := by kernel_rfl
theorem neQ7n (w : World) : (binOp .neq 75 (.pointer none) (.pointer none)).run Tryz.prog w = .ok (.bool false) w := by kernel_rfl
theorem Fa.Ok.ktf {hs : ByteArray → Int} {F : Fa} {c : Nat} (h : F.Ok hs c) (hc : c ≤ 100000) : F.all.length ≤ 100000 := Nat.le_trans h.names hc
theorem Qp.met {w w' : World} {f s : Nat} {F : Fa} {mr : Value} {XF XS : Nat → Prop} {st : Stn} {v : Nat} (h : Qp w f F mr XF s st v XS) (e : Ex (mB mr) w w') : Qp w' f F mr XF s st v XS :=
  ⟨h.fm.same fun k hk => e.block k (h.fm.lt k hk) (fun y => h.fm.nm k y hk), h.sm.same fun k hk => e.block k (h.sm.lt k hk) (fun y => h.mq k y hk), h.ap, h.mq⟩
theorem rfind_any {w : World} {f s : Nat} {F : Fa} {pr : Option Addr} {XF XS : Nat → Prop} {st : Stn} {v : Nat} {a b c d : Int} {c0 : Nat} (h : Qp w f F (.pointer pr) XF s st v XS) (hM : Ms w (.pointer pr) a b c d) (hb : 0 ≤ b ∧ b ≤ 10000000000) (hO : F.Ok hsT c0) (hst : st.Ok hsT F c0) (hc0 : c0 ≤ 90000) {nm : ByteArray} (hs3 : nm.size ≤ 3000) {k : Int} (hk : Num F.all nm k) :
    Calls Tryz.prog 65 #[.pointer (some ⟨s, 0, none⟩), .string nm] w fun e w' => ∃ (res : Int) (jj : Nat), e = .returned (.int .i64 (fdR st res)) ∧ SkR (tbS F st) (hsT nm) k res jj ∧ Ms w' (.pointer pr) a (b + (jj : Int)) c d ∧ Ex (mB (.pointer pr)) w w' := by
  obtain ⟨gk, evk, qk, nv, hQf, hX⟩ := h.fm
  have hsm := h.sm
  cases st with
  | row vs =>
    obtain ⟨vv, h1, h2, h3, hXS⟩ := hsm
    obtain ⟨av, cap, gv, rfl, hcap, hvo⟩ := h2.open
    exact rfind_row hQf (h1.c 0 (by omega)) (h1.c 1 (by omega)) (h1.c 2 (by omega)) (fun k' hk' e => h.mq k' hk' (by rw [hXS]; exact .inl e)) hM hb hO.ok hO.nle hO.nd (hO.ktf (by omega)) hs3 hk
  | own t =>
    obtain ⟨g, ev, q, h1, h2, h3, hXS⟩ := hsm
    exact rfind_own hQf h2 (h1.c 0 (by omega)) (h1.c 2 (by omega)) (fun k' hk' e => h.mq k' hk' (by rw [hXS]; exact .inl e)) hM hb hst.1 hst.2.1 hO.nd (hO.ktf (by omega)) hs3 hk
set_option maxRecDepth 100000 in
theorem rslen_any {w : World} {f s : Nat} {mr : Value} {X : Nat → Prop} {st : Stn} {v : Nat} (h : Qs w s f mr v X st) :
    Calls Tryz.prog 35 #[.pointer (some ⟨s, 0, none⟩)] w fun e w' => e = .returned (.int .i64 (lenS st : Int)) ∧ w' = w := by
  cases st with
  | row vs =>
    obtain ⟨vv, h1, h2, h3, rfl⟩ := h
    obtain ⟨av, cap, gv, rfl, hcap, hvo⟩ := h2.open
    have k1 : w.cell? ⟨s, 1, none⟩ = some (.slice av vs.length cap) := h1.c 1 (by omega)
    have k2 : w.cell? ⟨s, 2, none⟩ = some (.pointer none) := h1.c 2 (by omega)
    have e1 := neQ7n
    clear h1 h2 h3 hvo
    show Calls _ _ _ _ fun e w' => e = .returned (.int .i64 (vs.length : Int)) ∧ w' = w
    go_enter Tryz.func35, Tryz.ntmps35
    go_wp2
    go_ret
    exact ⟨rfl, rfl⟩
  | own t =>
    obtain ⟨g, ev, q, h1, h2, h3, rfl⟩ := h
    have k2 : w.cell? ⟨s, 2, none⟩ = some (.pointer (some ⟨g, 0, none⟩)) := h1.c 2 (by omega)
    have k3 : w.cell? ⟨g, 3, none⟩ = some (.int .i64 (t.live : Int)) := by
      have h := h2.hd.c 3 (by omega)
      rw [show tF ev q t.sh mr 3 = Value.int .i64 (t.live : Int) from by show Value.int .i64 (t.sh.live : Int) = _; rw [Tb.sh_live]] at h
      exact h
    have e1 := neQ7 g
    clear h1 h2 h3
    show Calls _ _ _ _ fun e w' => e = .returned (.int .i64 (t.live : Int)) ∧ w' = w
    go_enter Tryz.func35, Tryz.ntmps35
    go_wp2
    go_ret
    exact ⟨rfl, rfl⟩
set_option maxRecDepth 100000 in
set_option maxHeartbeats 4000000 in
theorem rget_any {w : World} {f s : Nat} {F : Fa} {pr : Option Addr} {XF XS : Nat → Prop} {st : Stn} {v : Nat} {a b c d : Int} {c0 : Nat} (h : Qp w f F (.pointer pr) XF s st v XS) (hM : Ms w (.pointer pr) a b c d) (hb : 0 ≤ b ∧ b ≤ 10000000000) (hO : F.Ok hsT c0) (hst : st.Ok hsT F c0) (hc0 : c0 ≤ 90000) {nm : ByteArray} (hs3 : nm.size ≤ 3000) :
    Calls Tryz.prog 31 #[.pointer (some ⟨s, 0, none⟩), .string nm] w fun e w' => ∃ (x : Int) (ok : Bool) (k res : Int) (jj : Nat), e = .returned (.tuple #[.int .i64 x, .bool ok]) ∧ GetR F nm st x ok ∧ Num F.all nm k ∧ SkR (tbS F st) (hsT nm) k res jj ∧ Ms w' (.pointer pr) a (b + (jj : Int)) c d ∧ Ex (mB (.pointer pr)) w w' := by
  obtain ⟨k, hk⟩ := num_ex F.all nm
  have C1 := rfind_any h hM hb hO hst hc0 hs3 hk
  have HQ : Hid (∀ V, Ex (mB (.pointer pr)) w V → Qp V f F (.pointer pr) XF s st v XS) := fun V e => h.met e
  have HO := Lib.hid hO
  have HK := Lib.hid hk
  clear h hM hO hk
  cases st with
  | row vs =>
    go_enter Tryz.func31, Tryz.ntmps31
    go_wp2_with fail
    refine C1.mono ?_
    rintro e w1 ⟨res, jj, rfl, hSK, hm, hx⟩
    clear C1
    obtain ⟨vv, h1, h2, h3, _⟩ := (HQ.out w1 hx).sm
    obtain ⟨av, cap, gv, rfl, hcap, hvo⟩ := h2.open
    have k1 : w1.cell? ⟨s, 1, none⟩ = some (.slice av vs.length cap) := h1.c 1 (by omega)
    have k2 : w1.cell? ⟨s, 2, none⟩ = some (.pointer none) := h1.c 2 (by omega)
    have e1 := neQ7n
    have HM := Lib.hid hm
    have HX := Lib.hid hx
    have HSK := Lib.hid hSK
    by_cases hr : 0 ≤ res ∧ res < (vs.length : Int)
    · obtain ⟨n, rfl⟩ := Int.eq_ofNat_of_zero_le hr.1
      have hn : n < vs.length := by have := hr.2; omega
      obtain ⟨rfl, _, _, hB⟩ := hvo (by omega)
      have p1 := hB.c n hn
      have hfd : fdR (.row vs) (n : Int) = (n : Int) := by show (if (n : Int) < (vs.length : Int) then (n : Int) else -1) = _; rw [if_pos hr.2]
      have HG : Hid (GetR F nm (.row vs) (vs[n]?.getD 0) true) := by
        rcases HSK.out with ⟨m, hm1, hm2, _⟩ | ⟨h9, _⟩
        · obtain rfl : m = n := by omega
          exact ⟨k, HK.out, .inl ⟨m, hm2, hn, rfl, rfl⟩⟩
        · omega
      have t1 : ¬ (n : Int) < 0 := by omega
      have t2 : (n : Int) < (vs.length : Int) := hr.2
      rw [hfd]
      clear h1 h2 h3 hvo hB hm hx hSK hfd
      generalize vs[n]?.getD 0 = xn at *
      generalize hL : vs.length = L at *
      go_wp2_with fail
      go_ret2
      exact ⟨xn, true, k, (n : Int), jj, rfl, HG.out, HK.out, HSK.out, HM.out, HX.out⟩
    · have hfd : fdR (.row vs) res = -1 := by
        rcases HSK.out with ⟨m, rfl, _⟩ | ⟨rfl, _⟩
        · show (if (m : Int) < (vs.length : Int) then (m : Int) else -1) = -1
          rw [if_neg (by omega)]
        · show (if (-1 : Int) < (vs.length : Int) then (-1 : Int) else -1) = -1
          split <;> rfl
      have HG : Hid (GetR F nm (.row vs) 0 false) := by
        refine ⟨k, HK.out, .inr ⟨fun n hn => ?_, rfl, rfl⟩⟩
        rcases HSK.out with ⟨m, rfl, hm2, _⟩ | ⟨rfl, h8, _⟩
        · have := HO.out.nle.one hm2 hn
          omega
        · exact absurd hn (h8 n)
      rw [hfd]
      clear h1 h2 h3 hvo hm hx hSK hfd
      go_wp2_with fail
      go_ret2
      exact ⟨0, false, k, res, jj, rfl, HG.out, HK.out, HSK.out, HM.out, HX.out⟩
  | own t =>
    have hst1 := hst.1
    have HNL := Lib.hid hst.2.1
    have hlen : t.es.length ≤ 100000 := Nat.le_trans hst1.few hst1.all
    go_enter Tryz.func31, Tryz.ntmps31
    go_wp2_with fail
    refine C1.mono ?_
    rintro e w1 ⟨res, jj, rfl, hSK, hm, hx⟩
    clear C1
    obtain ⟨g, ev, q, h1, h2, h3, _⟩ := (HQ.out w1 hx).sm
    have k2 : w1.cell? ⟨s, 2, none⟩ = some (.pointer (some ⟨g, 0, none⟩)) := h1.c 2 (by omega)
    obtain ⟨ae, cape, ge, hev, hge0, hro⟩ := h2.es.open
    have g0 : w1.cell? ⟨g, 0, none⟩ = some (.slice ae t.sh.es.length cape) := by rw [← hev]; exact h2.hd.c 0 (by omega)
    rw [Tb.sh_len] at g0
    have e1 := neQ7 g
    have HM := Lib.hid hm
    have HX := Lib.hid hx
    have HSK := Lib.hid hSK
    have hfd : fdR (.own t) res = res := rfl
    rw [hfd]
    rcases hSK with ⟨n, rfl, hn, _⟩ | ⟨rfl, hno, _⟩
    · have p1 : w1.cell? ⟨ge, n * 5 + 3, none⟩ = some (.int .i64 (nth t.es n).value) := by
        have := hro.c3 n (by rw [Tb.sh_len]; exact hn.1)
        rw [show nth t.sh.es n = nth t.es n from shown_hash hn.2.1] at this
        exact this
      have hnl : n < t.es.length := hn.1
      obtain rfl : ae = some ⟨ge, 0, none⟩ := (hge0 (by rw [Tb.sh_len]; omega)).1
      have HG : Hid (GetR F nm (.own t) (nth t.es n).value true) := ⟨k, HK.out, .inl ⟨n, hn, rfl, rfl⟩⟩
      have t1 : ¬ (n : Int) < 0 := by omega
      have t2 : (n : Int) < (t.es.length : Int) := by omega
      clear h1 h2 h3 hev hge0 hro hm hx hn hfd
      generalize (nth t.es n).value = xn at *
      generalize t.es.length = L at *
      go_wp2_with fail
      go_ret2
      exact ⟨xn, true, k, (n : Int), jj, rfl, HG.out, HK.out, HSK.out, HM.out, HX.out⟩
    · have HG : Hid (GetR F nm (.own t) 0 false) := ⟨k, HK.out, .inr ⟨hno, rfl, rfl⟩⟩
      clear h1 h2 h3 hev hge0 hro hm hx hno hfd g0
      go_wp2_with fail
      go_ret2
      exact ⟨0, false, k, -1, jj, rfl, HG.out, HK.out, HSK.out, HM.out, HX.out⟩
end Go.Proofs.YtcbhpjpkjmlcnaaGreat
namespace Go.Proofs.YtcbhpjpkjmlcnaaGreat
open Go.RowKit Go.WideShapes

theorem owns_same {w w' : World} {B st n : Nat} {T : TypeId} {v : Value} {xs : List Value} (h : w.ownsRow B T st v n xs) (e : ∀ k, v.ownBlock = some k → w'.heap[k]? = w.heap[k]?) : w'.ownsRow B T st v n xs := by
  refine ⟨h.1, ?_⟩
  rcases h.2 with h0 | ⟨g, cap, cur, rfl, h1, h2, h3⟩
  · exact .inl h0
  · exact .inr ⟨g, cap, cur, rfl, h1, (e g rfl).trans h2, h3⟩
theorem push_row {W w3 : World} {X fi n B : Nat} {F : Nat → Value} {T : TypeId} {o : Obj} {v v' : Value} {xs : List Value} (hX : Blk W X 4 F) (hne : ∀ i, v.ownBlock = some i → i ≠ X) (h1 : w3.ownsRow B T 1 v' n xs) (h2 : (W.alloc o).grownBy w3 v.ownBlock) (h3 : v'.ownBlock = v.ownBlock ∨ v'.ownBlock = some (W.alloc o).heap.size) :
    Blk w3 X 4 F ∧ ∀ w4, w3.setCell ⟨X, fi, none⟩ v' = w4 → Blk w4 X 4 (fun x => if x = fi then v' else F x) ∧ w4.ownsRow B T 1 v' n xs ∧ Ex (fun i => i = X ∨ v.ownBlock = some i) W w4 ∧ ∀ i, v'.ownBlock = some i → v.ownBlock = some i ∨ (W.heap.size ≤ i ∧ i < w4.heap.size) := by
  have lX := hX.lt (by omega)
  have h0 : Ex (fun i => i = X ∨ v.ownBlock = some i) W (W.alloc o) := (Ex.refl _ W).alloc o
  have e1 : Ex (fun i => i = X ∨ v.ownBlock = some i) W w3 := ⟨h2.os.trans h0.os, h2.tape.trans h0.tape, h2.output.trans h0.output, Nat.le_trans h0.size h2.size, fun k hk hx => (h2.block k (Nat.lt_of_lt_of_le hk h0.size) (fun e => hx (.inr e.symm))).trans (h0.block k hk hx)⟩
  have bX : w3.heap[X]? = W.heap[X]? := (h2.block X (Nat.lt_of_lt_of_le lX h0.size) (fun e => hne X e.symm rfl)).trans (Below.heap_alloc _ _ _ lX)
  have hX3 : Blk w3 X 4 F := hX.same bX
  refine ⟨hX3, fun w4 hw4 => ?_⟩
  have hx4 : Ex (fun i => i = X) w3 w4 := by rw [← hw4]; exact (Ex.refl (fun i => i = X) w3).setCell (p := ⟨X, fi, none⟩) (fun _ => rfl) _
  have hp := hX3.put fi v'
  rw [hw4] at hp
  have g : ∀ i, v'.ownBlock = some i → (v.ownBlock = some i ∨ W.heap.size ≤ i) ∧ i < w3.heap.size := fun i hi => ⟨by
    rcases h3 with e | e
    · exact .inl (e ▸ hi)
    · rw [e] at hi
      injection hi with hi
      simp at hi
      exact .inr (by omega), (h1.lt i hi).2⟩
  have nX : ∀ i, v'.ownBlock = some i → i ≠ X := fun i hi => by
    rcases (g i hi).1 with y | y
    · exact hne i y
    · omega
  exact ⟨hp, owns_same h1 (fun k hk => hx4.block k (g k hk).2 (nX k hk)), e1.next hx4 (fun _ _ e => .inl e), fun i hi => ((g i hi).1).elim .inl (fun y => .inr ⟨y, Nat.lt_of_lt_of_le (g i hi).2 hx4.size⟩)⟩
theorem neC7 (m : Nat) (w : World) : (binOp .neq 46 (.pointer (some ⟨m, 0, none⟩)) (.pointer none)).run Tryz.prog w = .ok (.bool true) w := by kernel_rfl
theorem neC7n (w : World) : (binOp .neq 46 (.pointer none) (.pointer none)).run Tryz.prog w = .ok (.bool false) w := by kernel_rfl
theorem ms_none {w : World} {a b c d a' b' c' d' : Int} (_ : Ms w (.pointer none) a b c d) : Ms w (.pointer none) a' b' c' d' := .inl rfl
theorem ms_some {w : World} {m : Nat} {a b c d : Int} (h : Ms w (.pointer (some ⟨m, 0, none⟩)) a b c d) : Blk w m 4 (four4 a b c d) := by
  rcases h with h | ⟨m', h1, h2⟩
  · cases h
  · cases h1; exact h2
theorem ms_ptr {w : World} {pr : Option Addr} {a b c d : Int} (h : Ms w (.pointer pr) a b c d) : pr = none ∨ ∃ m, pr = some ⟨m, 0, none⟩ := by
  rcases h with h | ⟨m, h1, _⟩
  · injection h with h; exact .inl h
  · injection h1 with h1; exact .inr ⟨m, h1⟩
/-- What behind leaves. -/
def Beh (w : World) (f s : Nat) (F : Fa) (mr : Value) (XF XS : Nat → Prop) (vs : List Int) (x : Int) (v : Nat) (a b c d : Int) (w' : World) : Prop :=
  ∃ XS', Qp w' f F mr XF s (.row (vs ++ [x])) v XS' ∧ Ms w' mr a b (c + 1) d ∧ (∀ k, XS' k → XS k ∨ w.heap.size ≤ k) ∧ Ex (fun k => XS k ∨ mB mr k) w w'
theorem beh_of {w w3 w4 : World} {f s : Nat} {F : Fa} {mr : Value} {XF XS : Nat → Prop} {vs : List Int} {x : Int} {v : Nat} {a b c d : Int} {vv v' : Value} (h : Qp w f F mr XF s (.row vs) v XS) (hM : Ms w mr a b c d) (hXS : XS = fun k => k = s ∨ vv.ownBlock = some k)
    (m1 : Blk w3 s 4 (fun y => if y = 1 then v' else qsF f vv (.pointer none) v y)) (m2 : w3.ownsRow 0 3 1 v' (vs.length + 1) ((vs.map fun x : Int => Value.int .i64 x) ++ [.int .i64 x])) (m3 : Ex (fun i => i = s ∨ vv.ownBlock = some i) w w3) (m4 : ∀ i, v'.ownBlock = some i → vv.ownBlock = some i ∨ (w.heap.size ≤ i ∧ i < w3.heap.size)) (hv : vv.ownBlock ≠ some s)
    (hx : Ex (mB mr) w3 w4) (hM4 : Ms w4 mr a b (c + 1) d) : Beh w f s F mr XF XS vs x v a b c d w4 := by
  subst hXS
  have ls : s < w.heap.size := h.sm.lt s (.inl rfl)
  have n0 : ∀ i, v'.ownBlock = some i → i ≠ s := fun i hi e => by
    rcases m4 i hi with y | y
    · exact hv (e ▸ y)
    · omega
  have nm : ∀ k, mB mr k → ¬ (k = s ∨ v'.ownBlock = some k) := fun k hk y => by
    rcases y with y | y
    · exact h.mq k hk (.inl y)
    · rcases m4 k y with z | z
      · exact h.mq k hk (.inr z)
      · have := hM.lt k hk; omega
  have kp : ∀ k, k < w.heap.size → ¬ (k = s ∨ vv.ownBlock = some k) → ¬ mB mr k → w4.heap[k]? = w.heap[k]? := fun k hk h1 h2 => (hx.block k (Nat.lt_of_lt_of_le hk m3.size) h2).trans (m3.block k hk h1)
  refine ⟨fun k => k = s ∨ v'.ownBlock = some k, ⟨h.fm.same fun k hk => kp k (h.fm.lt k hk) (h.ap k hk) (fun y => h.fm.nm k y hk), ⟨v', (m1.same (hx.block s (Nat.lt_of_lt_of_le ls m3.size) (fun y => h.mq s y (.inl rfl)))).congr fun j hj => ?_, ?_, fun e => n0 s e rfl, rfl⟩, fun k hk y => ?_, nm⟩, hM4, fun k y => ?_, m3.mono (fun _ _ y => .inl y) |>.next hx (fun _ _ y => .inr y)⟩
  · rcases (by omega : j = 0 ∨ j = 1 ∨ j = 2 ∨ j = 3) with rfl | rfl | rfl | rfl <;> rfl
  · have h2 : IntsR 0 w3 v' (vs ++ [x]) := by
      unfold IntsR
      rw [List.length_append, List.map_append]
      exact m2
    exact h2.same0 fun k hk => hx.block k (World.ownsRow.lt m2 k hk).2 (fun y => nm k y (.inr hk))
  · have hl := h.fm.lt k hk
    rcases y with y | y
    · exact h.ap k hk (.inl y)
    · rcases m4 k y with z | z
      · exact h.ap k hk (.inr z)
      · omega
  · rcases y with y | y
    · exact .inl (.inl y)
    · exact (m4 k y).elim (fun z => .inl (.inr z)) (fun z => .inr z.1)
set_option maxRecDepth 100000 in
set_option maxHeartbeats 4000000 in
theorem rbehind_any {w : World} {f s : Nat} {F : Fa} {pr : Option Addr} {XF XS : Nat → Prop} {vs : List Int} {v : Nat} {a b c d : Int} (h : Qp w f F (.pointer pr) XF s (.row vs) v XS) (hM : Ms w (.pointer pr) a b c d) (hc : 0 ≤ c ∧ c ≤ 1000000000) (hl : vs.length ≤ 1000) (x : Int) :
    Calls Tryz.prog 68 #[.pointer (some ⟨s, 0, none⟩), .int .i64 x] w fun e w' => e = .returned (.tuple #[]) ∧ Beh w f s F (.pointer pr) XF XS vs x v a b c d w' := by
  obtain ⟨g, ev, q, nv, hQf, hXF⟩ := h.fm
  obtain ⟨vv, h1, h2, h3, hXS⟩ := h.sm
  obtain ⟨i0, hi0, hz0, hz1, hz2⟩ := info_parts Tryz.infoN
  obtain ⟨av, cap, gv, hvv, hcap, _⟩ := h2.open
  have k1 : w.cell? ⟨s, 1, none⟩ = some (.slice av vs.length cap) := by rw [← hvv]; exact h1.c 1 (by omega)
  have ls := h1.lt (by omega)
  have lf := hQf.hd.lt (by omega)
  have hfs : f ≠ s := fun e => h.ap f (by rw [hXF]; exact .inl rfl) (by rw [hXS]; exact .inl e)
  have hfv : vv.ownBlock ≠ some f := fun e => h.ap f (by rw [hXF]; exact .inl rfl) (by rw [hXS]; exact .inr e)
  have hown : w.ownsRow 0 3 1 (.slice av vs.length cap) vs.length (vs.map fun x : Int => Value.int .i64 x) := by rw [← hvv]; exact h2
  have HAFT : Hid (∀ v' w2, w2.ownsRow 0 3 1 v' (vs.length + 1) ((vs.map fun x : Int => Value.int .i64 x) ++ [.int .i64 x]) → (w.alloc (.cells #[.int .i64 x] 3)).grownBy w2 (Value.slice av vs.length cap).ownBlock → (v'.ownBlock = (Value.slice av vs.length cap).ownBlock ∨ v'.ownBlock = some (w.alloc (.cells #[.int .i64 x] 3)).heap.size) →
      (w2.cell? ⟨s, 1, none⟩ = some (.slice av vs.length cap) ∧ w2.frozen? ⟨s, 1, none⟩ = false) ∧ ∀ w3, w2.setCell ⟨s, 1, none⟩ v' = w3 → w3.cell? ⟨s, 0, none⟩ = some (.pointer (some ⟨f, 0, none⟩)) ∧ w3.cell? ⟨f, 4, none⟩ = some (.pointer pr) ∧ Ms w3 (.pointer pr) a b c d ∧ ∀ w4, Ex (mB (.pointer pr)) w3 w4 → Ms w4 (.pointer pr) a b (c + 1) d → Beh w f s F (.pointer pr) XF XS vs x v a b c d w4) := fun v' w2 g1 g2 g3 => by
    rw [← hvv] at g2 g3
    obtain ⟨p1, p2⟩ := push_row h1 (fi := 1) (fun i hi e => h3 (e ▸ hi)) g1 g2 g3
    refine ⟨⟨by rw [← hvv]; exact p1.c 1 (by omega), p1.z 1⟩, fun w3 hw3 => ?_⟩
    obtain ⟨m1, m2, m3, m4⟩ := p2 w3 hw3
    have hf4 : w3.heap[f]? = w.heap[f]? := m3.block f lf (fun e => e.elim hfs hfv)
    exact ⟨m1.c 0 (by omega), (World.cell?_of_block (a := ⟨f, 4, none⟩) hf4).trans (hQf.hd.c 4 (by omega)), hM.same fun k hk => m3.block k (hM.lt k hk) (fun e => h.mq k hk (by rw [hXS]; exact e)), fun w4 hx hm => beh_of h hM hXS m1 m2 m3 m4 h3 hx hm⟩
  have hpr := ms_ptr hM
  clear h hM hQf h1 h2 h3 hXS hXF hvv hfs hfv
  obtain ⟨n, hn⟩ : ∃ n, vs.length = n := ⟨_, rfl⟩
  obtain ⟨R, hR⟩ : ∃ R, (vs.map fun x : Int => Value.int .i64 x) = R := ⟨_, rfl⟩
  rw [hn] at hown HAFT k1 hl hcap
  rw [hR] at hown HAFT
  go_enter Tryz.func68, Tryz.ntmps68
  go_upto_region 1 with (at_builtin; refine wpList_append_own_at _ rfl _ _ 70 rfl 0 3 i0 (.int .i64 0) 1 8 Tryz.underlying70 hi0 hz0 hz1 hz2 rfl (by decide) _ _ _ rfl (World.ownsRow.alloc hown _) ⟨w.heap.size, 0, none⟩ 1 1 [.int .i64 x] rfl rfl (newR_one _ _ _) (by simp [Value.oneCell']) (by unfold maxLen; omega) (by omega) (by simp) ?_; intro v' w2 hown2 hgrow _ hob; obtain ⟨⟨k5, z5⟩, HN3⟩ := HAFT.out v' w2 hown2 hgrow hob; have HN4 := Lib.hid HN3; obtain ⟨a', cap', hv2⟩ := ownsRow_shape hown2; subst hv2; clear hown2 hgrow hob HN3)
  obtain ⟨w3, hw3⟩ : ∃ y, w2.setCell ⟨s, 1, none⟩ (.slice a' (n + 1) cap') = y := ⟨_, rfl⟩
  obtain ⟨d0, d4, hM3, HF⟩ := HN4.out w3 hw3
  have HW3 := Lib.hid hw3
  have HF' := Lib.hid HF
  clear hw3 HN4 HAFT HF
  rw [HW3.out]
  rcases hpr with rfl | ⟨m, rfl⟩
  · have e1 := neC7n
    have HB := Lib.hid (HF'.out w3 (Ex.refl _ _) (ms_none hM3))
    clear hM3 HF'
    go_wp2_with fail
    go_end0
    exact ⟨rfl, HB.out⟩
  · have e1 := neC7 m
    have hb := ms_some hM3
    have c2 : w3.cell? ⟨m, 2, none⟩ = some (.int .i64 c) := hb.c 2 (by omega)
    have z2 := hb.z 2
    have ew : IntKind.i64.wrap (c + 1) = c + 1 := i64_small (by omega) (by omega)
    have HB := Lib.hid (HF'.out (w3.setCell ⟨m, 2, none⟩ (.int .i64 (c + 1))) ((Ex.refl (mB (.pointer (some ⟨m, 0, none⟩))) w3).setCell (p := ⟨m, 2, none⟩) (fun _ => rfl) _) (.inr ⟨m, rfl, (hb.put 2 _).congr fun j hj => by rcases (by omega : j = 0 ∨ j = 1 ∨ j = 2 ∨ j = 3) with rfl | rfl | rfl | rfl <;> rfl⟩))
    clear hM3 HF' hb
    go_wp2_with fail
    go_end0
    exact ⟨rfl, HB.out⟩
end Go.Proofs.YtcbhpjpkjmlcnaaGreat
