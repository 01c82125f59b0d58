/-
  ready, New, makeRoom.
-/
import Derived.Test.YtdjabdmnknlaeaaGreatDtDrop
import Derived.BigQuiet
namespace Go.Proofs.YtdjabdmnknlaeaaGreat
open Go.RowKit Go.WideShapes

set_option maxRecDepth 100000 in
theorem ready_yes {w : World} {g gi : Nat} (k1 : w.cell? ⟨g, 1, none⟩ = some (.pointer (some ⟨gi, 0, none⟩))) :
    Calls Tryz.prog 14 #[.pointer (some ⟨g, 0, none⟩)] w fun e w' => e = .returned (.tuple #[]) ∧ w' = w := by
  go_enter Tryz.func14, Tryz.ntmps14
  go_wp2
  go_end0
  exact ⟨rfl, rfl⟩
/-- A table that was never used. -/
def zF (mv : Value) : Nat → Value
  | 0 => mv
  | 1 => .pointer none
  | 2 => .slice none 0 0
  | _ => .int .i64 0
set_option maxRecDepth 100000 in
theorem ready_no {w : World} {g : Nat} {mv : Value} {M : Int → Int → World → Prop} {a b : Int} (hB : Blk w g 7 (zF mv)) (hMo : MtOk mv M) (hM : M a b w) (hgm : ∀ k, mB mv k → k ≠ g) (ha : 0 ≤ a ∧ a ≤ 1000000000) :
    Calls Tryz.prog 14 #[.pointer (some ⟨g, 0, none⟩)] w fun e w' => e = .returned (.tuple #[]) ∧ ∃ gi r h, w.heap.size ≤ gi ∧ w.heap.size ≤ r ∧ w.heap.size ≤ h ∧ Dt w' g gi r h (.slice none 0 0) Tb.new mv ∧ M (a + 1) b w' ∧ Ex (fun k => k = g ∨ mB mv k) w w' := by
  have C1 := makeIndex_any (L := 3) (made := 0) (es := []) ⟨rfl, by decide, by decide⟩ hB rfl rfl rfl (Es.nil w) hMo hM (fun k hk => by cases hk) hgm (fun n hn => by simp at hn) (by simp) (by decide) ha (by simp)
  have k1 : w.cell? ⟨g, 1, none⟩ = some (.pointer none) := hB.c 1 (by omega)
  have hlg := hB.lt (by omega)
  have hlm := hMo.lt a b w
  have HM := Lib.hid hM
  clear hB hMo hM
  go_enter Tryz.func14, Tryz.ntmps14
  go_wp2_with fail
  refine C1.mono ?_
  rintro e w1 ⟨rfl, gi, r, h, hgi, hr, hh, hI⟩
  have HD : Hid (Dt w1 g gi r h (.slice none 0 0) Tb.new mv ∧ M (a + 1) b w1 ∧ Ex (fun k => k = g ∨ mB mv k) w w1) := by
    refine ⟨⟨hI.hd.congr (fun j hj => ?_), hI.row, hI.cl, (fun k hk => by cases hk), ⟨by omega, by omega, by omega⟩, fun k hk => ?_⟩, hI.m, hI.ex⟩
    · have : j = 0 ∨ j = 1 ∨ j = 2 ∨ j = 3 ∨ j = 4 ∨ j = 5 ∨ j = 6 := by omega
      rcases this with rfl | rfl | rfl | rfl | rfl | rfl | rfl <;> rfl
    · have := hlm k HM.out hk
      exact ⟨hgm k hk, by omega, by omega, by omega, by simp [Value.ownBlock]⟩
  clear C1 hI
  go_wp2
  go_end0
  exact ⟨rfl, gi, r, h, hgi, hr, hh, HD.out⟩
set_option maxRecDepth 100000 in
theorem new7_any {w : World} {pm : Option Addr} {M : Int → Int → World → Prop} {a b : Int} (hMo : MtOk (.pointer pm) M) (hM : M a b w) (ha : 0 ≤ a ∧ a ≤ 1000000000) :
    Calls Tryz.prog 6 #[.pointer pm] w fun e w' => ∃ g gi r h, e = .returned (.pointer (some ⟨g, 0, none⟩)) ∧ w.heap.size ≤ g ∧ w.heap.size ≤ gi ∧ w.heap.size ≤ r ∧ w.heap.size ≤ h ∧ Dt w' g gi r h (.slice none 0 0) Tb.new (.pointer pm) ∧ M (a + 1) b w' ∧ Ex (mB (.pointer pm)) w w' := by
  obtain ⟨w1, hw1⟩ : ∃ w1, w.alloc (.cells #[.pointer pm, .pointer none, .slice none 0 0, .int .i64 0, .int .i64 0, .int .i64 0, .int .i64 0] 48) = w1 := ⟨_, rfl⟩
  have hB1 : Blk w1 w.heap.size 7 (zF (.pointer pm)) := by
    rw [← hw1]
    refine (Blk.new w _ _).congr fun j hj => ?_
    have : j = 0 ∨ j = 1 ∨ j = 2 ∨ j = 3 ∨ j = 4 ∨ j = 5 ∨ j = 6 := by simp at hj; omega
    rcases this with rfl | rfl | rfl | rfl | rfl | rfl | rfl <;> rfl
  have hb1 : Below w.heap.size w w1 := by rw [← hw1]; exact (Below.refl _ w).alloc (Nat.le_refl _) _
  have hs1 : w1.heap.size = w.heap.size + 1 := by rw [← hw1]; simp
  have hlm := hMo.lt a b w
  have C1 := ready_no hB1 hMo (hMo.below hM hb1) (fun k hk => by have := hlm k hM hk; omega) ha
  have HX : Hid (Ex (mB (.pointer pm)) w w1) := ex_of hb1
  have HW := Lib.hid hw1
  clear hB1 hb1 hw1 hMo hM
  go_enter Tryz.func6, Tryz.ntmps6
  go_wp2_with fail
  rw [HW.out]
  refine C1.mono ?_
  rintro e w2 ⟨rfl, gi, r, h, hgi, hr, hh, hD, hM2, hX⟩
  have HD := Lib.hid hD
  have HM2 := Lib.hid hM2
  have HXX := Lib.hid (HX.out.next hX (fun k hk h => h.elim (fun e => by omega) id))
  clear C1 hD hM2 hX
  go_wp2
  go_ret
  exact ⟨_, gi, r, h, rfl, Nat.le_refl _, by omega, by omega, by omega, HD.out, HM2.out, HXX.out⟩
/-- A table that has room: what makeRoom leaves. -/
structure Rd (w : World) (g gi r h : Nat) (ev : Value) (t : Tb) (mv : Value) (M : Int → Int → World → Prop) (a b : Int) (u k v : Int) (w1 : World) (gi1 r1 h1 : Nat) (ev1 : Value) (t1 : Tb) : Prop where
  dt : Dt w1 g gi1 r1 h1 ev1 t1 mv
  ok : t1.Ok
  room : t1.es.length < rm (2 ^ t1.L)
  eq : ∀ u k v, t.add u k v = t1.push u k v
  m : M (a + (t1.made - t.made : Nat)) b w1
  bi : t1.births = t.births
  tu : t1.turn = t.turn
  fx : ∀ j, dX g gi1 r1 h1 ev1 j → dX g gi r h ev j ∨ w.heap.size ≤ j
  ex : Ex (fun j => dX g gi r h ev j ∨ mB mv j) w w1
set_option maxRecDepth 100000 in
set_option maxHeartbeats 4000000 in
theorem makeRoom_any {w : World} {g gi r h : Nat} {ev : Value} {t : Tb} {mv : Value} {M : Int → Int → World → Prop} {a b : Int} (hD : Dt w g gi r h ev t mv) (hO : t.Ok) (hMo : MtOk mv M) (hM : M a b w) (hm : t.made ≤ 1000000) (ha : 0 ≤ a ∧ a ≤ 1000000000) (u k v : Int) :
    Calls Tryz.prog 15 #[.pointer (some ⟨g, 0, none⟩)] w fun e w' => e = .returned (.int .i64 0) ∧ ∃ gi1 r1 h1 ev1 t1, Rd w g gi r h ev t mv M a b u k v w' gi1 r1 h1 ev1 t1 := by
  have f1 : w.cell? ⟨g, 1, none⟩ = some (.pointer (some ⟨gi, 0, none⟩)) := hD.hd.c 1 (by omega)
  have f3 : w.cell? ⟨g, 3, none⟩ = some (.int .i64 (t.live : Int)) := hD.hd.c 3 (by omega)
  have f2 : w.cell? ⟨g, 2, none⟩ = some ev := hD.hd.c 2 (by omega)
  obtain ⟨ae, cape, ge, hev, _, hro⟩ := hD.es.open
  have hcap := hro.le
  rw [hev] at f2
  have hlen : t.es.length ≤ 100000 := Nat.le_trans hO.few hO.all
  have CR : Hid (∀ V : World, V.heap = w.heap → Calls Tryz.prog 42 #[.pointer (some ⟨gi, 0, none⟩)] V fun e w' => e = .returned (.int .i64 (rm (2 ^ t.L) : Int)) ∧ w' = V) := fun V hV => room_any (hD.cl.same (by rw [hV]) (by rw [hV]) (by rw [hV]))
  have hlv : t.live ≤ 100000 := Nat.le_trans t.live_le hlen
  have HD := Lib.hid hD
  have HO := Lib.hid hO
  have HMO := Lib.hid hMo
  have HM := Lib.hid hM
  have HEV := Lib.hid hev
  clear hD hO hMo hM hro hev
  go_enter Tryz.func15, Tryz.ntmps15
  go_wp2_with fail
  go_region_held3 (fun V => V.cell? ⟨g, 1, none⟩ = some (.pointer (some ⟨gi, 0, none⟩)) ∧ V.cell? ⟨g, 2, none⟩ = some (.slice ae t.es.length cape))
    (first | exact ⟨f1, f2⟩ | fail)
    (first | (go_at_call 42; refine (CR.out w.drew rfl).mono ?_; rintro e w2 ⟨rfl, rfl⟩) | fail)
  have HX0 : Hid (Ex (fun j => dX g gi r h ev j ∨ mB mv j) w w.drew) := (Ex.refl _ w).drew
  by_cases hf : t.es.length < rm (2 ^ t.L)
  · have t0 : ((t.es.length : Nat) : Int) < ((rm (2 ^ t.L) : Nat) : Int) := by omega
    have HT : Hid (Rd w g gi r h ev t mv M a b u k v w.drew gi r h ev t) := ⟨HD.out.same (fun _ _ => rfl), HO.out, hf, fun u k v => by unfold Tb.add; rw [if_pos hf], by rw [Nat.sub_self, Int.natCast_zero, Int.add_zero]; exact HMO.out.same a b w _ HM.out (fun _ _ => rfl), rfl, rfl, fun j hj => .inl hj, HX0.out⟩
    go_wp2
    go_ret
    exact ⟨rfl, gi, r, h, ev, t, HT.out⟩
  · have t0 : ¬ ((t.es.length : Nat) : Int) < ((rm (2 ^ t.L) : Nat) : Int) := by omega
    have e3 : IntKind.i64.wrap (3 * (t.live : Int)) = ((3 * t.live : Nat) : Int) := by rw [i64_small (by omega) (by omega)]; omega
    have CL := logOf_any (3 * t.live) (by omega) w.drew
    rw [logF_glog] at CL
    have hgl : glogF t.live 20 3 = glog t.live := rfl
    rw [hgl] at CL
    obtain ⟨hg1, hg2, hg3⟩ := glog_ok (n := t.live) (by omega)
    have hgr := grow_room (n := t.live) (by omega)
    have CD := dropDead_any (w := w.drew) (F := dF mv gi ev t) (ev := ev) (HD.out.hd.same rfl) rfl (HD.out.es.same fun _ _ => rfl) (fun k hk => (HD.out.ap k hk).1) hlen
    have i20 : ¬ 20 < ((glog t.live : Nat) : Int) := by omega
    have HF := Lib.hid hf
    clear hf
    go_wp2_with fail
    refine CL.mono ?_
    rintro e w2 ⟨rfl, rfl⟩
    clear CL
    go_wp2_with fail
    refine CD.mono ?_
    rintro e w3 ⟨rfl, ev', hev', hB3, hE3, hX3⟩
    clear CD
    have hsz : w.heap.size ≤ w3.heap.size := hX3.size
    have hM3 : M a b w3 := HMO.out.same a b w w3 HM.out fun k hk => hX3.block k (HMO.out.lt a b w k HM.out hk) (fun hx => hx.elim (fun e => (HD.out.mp k hk).1 e) (fun e => (HD.out.mp k hk).2.2.2.2 e))
    have C1 := makeIndex_any (L := glog t.live) (made := t.made) (es := liveL t.es) (mv := mv) (ev := ev') ⟨rfl, hg1, hg2⟩ hB3 rfl rfl rfl hE3 HMO.out hM3 (fun k hk => by
        rw [hev'] at hk
        exact ⟨(HD.out.ap k hk).1, fun hm => (HD.out.mp k hm).2.2.2.2 hk⟩) (fun k hk => (HD.out.mp k hk).1) (fun n hn => liveL_nth _ n hn) (by rw [← t.live_eq]; omega) hm ha (by rw [← t.live_eq]; omega)
    go_wp2_with fail
    refine C1.mono ?_
    rintro e w4 ⟨rfl, gi1, r1, h1, hgi1, hr1, hh1, hI⟩
    clear C1
    have HT : Hid (Rd w g gi r h ev t mv M a b u k v w4 gi1 r1 h1 ev' (t.re (glog t.live))) := by
      refine ⟨⟨hI.hd.congr (fun j hj => ?_), hI.row, hI.cl, fun k hk => ?_, ⟨?_, ?_, ?_⟩, fun k hk => ?_⟩, HO.out.re hg1 hg2 (by omega), by show (liveL t.es).length < _; rw [← t.live_eq]; exact hgr, fun u k v => by unfold Tb.add; rw [if_neg HF.out], by rw [show (t.re (glog t.live)).made - t.made = 1 by show t.made + 1 - t.made = 1; omega]; exact hI.m, rfl, rfl, ?_, ?_⟩
      · have : j = 0 ∨ j = 1 ∨ j = 2 ∨ j = 3 ∨ j = 4 ∨ j = 5 ∨ j = 6 := by omega
        rcases this with rfl | rfl | rfl | rfl | rfl | rfl | rfl
        · rfl
        · rfl
        · rfl
        · show Value.int .i64 (((t.re (glog t.live)).live : Nat) : Int) = Value.int .i64 (t.live : Int)
          rw [Tb.live_eq, Tb.live_eq]
          show Value.int .i64 (((liveL (liveL t.es)).length : Nat) : Int) = _
          have h1 := liveL_len (liveL t.es)
          rw [deadN_live _ (liveL_live t.es)] at h1
          rw [show (liveL (liveL t.es)).length = (liveL t.es).length by omega]
        · rfl
        · show Value.int .i64 ((t.made + 1 : Nat) : Int) = Value.int .i64 ((t.made : Int) + 1)
          rw [Int.natCast_add]
          rfl
        · rfl
      · rw [hev'] at hk
        have := HD.out.ap k hk
        have hl := HD.out.es.lt k hk
        exact ⟨this.1, by omega, by omega, by omega⟩
      · have := HD.out.hd.lt (by omega); omega
      · have := HD.out.hd.lt (by omega); omega
      · have := HD.out.hd.lt (by omega); omega
      · have := HD.out.mp k hk
        have hl := HMO.out.lt a b w k HM.out hk
        exact ⟨this.1, by omega, by omega, by omega, by rw [hev']; exact this.2.2.2.2⟩
      · rintro j (rfl | rfl | rfl | rfl | hj)
        · exact .inl (.inl rfl)
        · exact .inr (by omega)
        · exact .inr (by omega)
        · exact .inr (by omega)
        · exact .inl (.inr (.inr (.inr (.inr (by rw [← hev']; exact hj)))))
      · refine ((Ex.refl _ w).drew.next hX3 ?_).next hI.ex ?_
        · exact fun k _ hk => hk.elim (fun e => .inl (.inl e)) (fun e => .inl (.inr (.inr (.inr (.inr e)))))
        · exact fun k _ hk => hk.elim (fun e => .inl (.inl e)) (fun e => .inr e)
    clear hI hM3 hX3 hE3 hB3
    go_wp2
    go_ret
    exact ⟨rfl, gi1, r1, h1, ev', _, HT.out⟩
end Go.Proofs.YtdjabdmnknlaeaaGreat
