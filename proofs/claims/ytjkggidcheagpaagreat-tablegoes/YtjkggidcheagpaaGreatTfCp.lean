/-
  The reference's Copy.
-/
import Derived.Test.YtjkggidcheagpaaGreatTfSeek
import Derived.Test.YtjkggidcheagpaaGreatDtCp
namespace Go.Proofs.YtjkggidcheagpaaGreat
open Go.RowKit Go.WideShapes

theorem cplog_eq {n l : Nat} (hn : n ≤ 100000) (h3 : 3 ≤ l) (h1 : ¬ rm (2 ^ l) < n) (h2 : ∀ j, 3 ≤ j → j < l → rm (2 ^ j) < n) : cplog n = l := by
  refine logF_eq (by omega) h3 ?_ fun j hj hl => ?_
  · unfold rm at h1
    omega
  · have := h2 j hj hl
    unfold rm at this
    omega
theorem EsB.same' {B : Nat} {w w' : World} {v : Value} {es : List En} (h : EsB B w v es) (e : ∀ k, v.ownBlock = some k → w'.heap[k]? = w.heap[k]?) : EsB B w' v es := by
  refine ⟨h.1, ?_⟩
  rcases h.2 with h0 | ⟨g, cap, cur, rfl, h1, h2, h3⟩
  · exact .inl h0
  · exact .inr ⟨g, cap, cur, rfl, h1, (e g rfl).trans h2, h3⟩
/-- The head of the copy. -/
def ccF (ev : Value) (L q n m : Nat) (mv : Value) : Nat → Value
  | 0 => ev
  | 1 => .int .i64 (L : Int)
  | 2 => .slice (some ⟨q, 0, none⟩) (2 ^ L) (2 ^ L)
  | 3 => .int .i64 (m : Int)
  | 4 => .int .i64 (n : Int)
  | 5 => .int .i64 1
  | 6 => .int .i64 0
  | _ => mv
theorem Rt.exM {w w' : World} {g : Nat} {ev : Value} {q : Nat} {t : Tb} {mv : Value} (hR : Rt w g ev q t mv) (hX : Ex (mB mv) w w') : Rt w' g ev q t mv :=
  hR.same fun k hk => by
    have hlt : k < w.heap.size := by
      rcases hk with rfl | rfl | hk
      · exact hR.hd.lt (by omega)
      · exact hR.rf.lt (pow2_pos _)
      · exact hR.es.lt k hk
    refine hX.block k hlt fun h => ?_
    obtain ⟨x1, x2, x3⟩ := hR.mp k h
    rcases hk with e | e | e
    · exact x1 e
    · exact x2 e
    · exact x3 e
set_option maxRecDepth 100000 in
set_option maxHeartbeats 8000000 in
theorem rcopy_any {w : World} {g : Nat} {ev : Value} {q : Nat} {t : Tb} {pm : Option Addr} {a b c d : Int} (hR : Rt w g ev q t (.pointer pm)) (hO : t.Ok) (hM : Ms w (.pointer pm) a b c d) (ha : 0 ≤ a ∧ a ≤ 1000000000) :
    Calls Tryz.prog 8 #[.pointer (some ⟨g, 0, none⟩)] w fun e w' => ∃ g' q' ev', e = .returned (.pointer (some ⟨g', 0, none⟩)) ∧ w.heap.size ≤ g' ∧ w.heap.size ≤ q' ∧ (∀ k, ev'.ownBlock = some k → w.heap.size ≤ k) ∧ Rt w' g' ev' q' t.cp (.pointer pm) ∧ Ms w' (.pointer pm) (a + 1) b c d ∧ Ex (mB (.pointer pm)) w w' := by
  obtain ⟨i0, hi, hz0, hz1, hz2⟩ := info_parts Tryz.infoEn
  have hlen : t.es.length ≤ 100000 := Nat.le_trans hO.few hO.all
  have HLV := Lib.hid t.live_eq
  have hlle := t.live_le
  have k3 : w.cell? ⟨g, 3, none⟩ = some (.int .i64 (t.live : Int)) := hR.hd.c 3 (by omega)
  have k7 : w.cell? ⟨g, 7, none⟩ = some (.pointer pm) := hR.hd.c 7 (by omega)
  have lg := hR.hd.lt (by omega)
  have hlm := hM.lt
  have HR := Lib.hid hR
  have HM := Lib.hid hM
  have HO := Lib.hid hO
  obtain ⟨hc3, hc20, hcr⟩ := cplog_ok (n := t.live) (by omega)
  clear hR hM hO
  go_enter Tryz.func8, Tryz.ntmps8
  go_wp2_with fail
  go_loopw [3] (fun lv wr => ∃ l : Nat, 3 ≤ l ∧ l ≤ cplog t.live ∧ lv = .int .i64 (l : Int) ∧ (∀ j, 3 ≤ j → j < l → rm (2 ^ j) < t.live) ∧ Below w.heap.size w wr) (fun lv _ => 21 - (intOf lv).toNat)
  case atStart => exact ⟨3, by omega, by omega, rfl, fun j h1 h2 => absurd h2 (by omega), Below.refl _ _⟩
  case round =>
    obtain ⟨l, hl3, hlc, rfl, hlj, hBl⟩ := hrel
    have f3 := (hBl.cell (p := ⟨g, 3, none⟩) lg).trans k3
    have hPl : 2 ^ l ≤ 1048576 := Nat.le_trans (Nat.pow_le_pow_right (n := 2) (by decide) (by omega : l ≤ 20)) (by decide)
    have CR := rroom_any (L := l) (S := 2 ^ l) ⟨rfl, hl3, by omega⟩ wr.drew
    have HLJ := Lib.hid hlj
    have HBd := Lib.hid hBl.drew
    have hrl : rm (2 ^ l) ≤ 2 ^ l := Nat.le_of_lt (rm_lt l)
    clear hlj hBl
    by_cases hc : rm (2 ^ l) < t.live
    · have hl19 : l < cplog t.live := by
        rcases Nat.lt_or_ge l (cplog t.live) with z | z
        · exact z
        · have : l = cplog t.live := by omega
          subst this
          omega
      have HL2 : Hid (∀ j, 3 ≤ j → j < l + 1 → rm (2 ^ j) < t.live) := fun j h1 h2 => by
        rcases Nat.lt_or_ge j l with z | z
        · exact HLJ.out j h1 z
        · rw [show j = l by omega]; exact hc
      have hc' : (rm (2 ^ l) : Int) < (t.live : Int) := by omega
      generalize rm (2 ^ l) = P at *
      go_wp2_with fail
      go_region_held3 (fun V => V.cell? ⟨g, 3, none⟩ = some (.int .i64 (t.live : Int)))
        (first | exact f3 | fail)
        (first | (go_at_call 22; refine CR.mono ?_; rintro e w2 ⟨rfl, rfl⟩) | fail)
      go_wp2_with fail
      go_roundw
      case rel => exact ⟨l + 1, by omega, by omega, by go_num, HL2.out, HBd.out⟩
      case measure => simp [intOf]; omega
    · have hcl : cplog t.live = l := cplog_eq (by omega) hl3 hc HLJ.out
      have hc' : ¬ (rm (2 ^ l) : Int) < (t.live : Int) := by omega
      have HRM : Hid (t.live ≤ rm (2 ^ l)) := Nat.le_of_not_lt hc
      have HCL := Lib.hid hcl
      clear hc hcl
      generalize rm (2 ^ l) = P at CR hc'
      go_wp2_with fail
      go_region_held3 (fun V => V.cell? ⟨g, 3, none⟩ = some (.int .i64 (t.live : Int)))
        (first | exact f3 | fail)
        (first | (go_at_call 22; refine CR.mono ?_; rintro e w2 ⟨rfl, rfl⟩) | fail)
      clear CR
      have f7 : wr.drew.cell? ⟨g, 7, none⟩ = some (.pointer pm) := (HBd.out.cell (p := ⟨g, 7, none⟩) lg).trans k7
      obtain ⟨w1, hw1⟩ : ∃ w1, (wr.alloc (.cells #[.slice none 0 0, .int .i64 0, .slice none 0 0, .int .i64 0, .int .i64 0, .int .i64 0, .int .i64 0, .pointer pm] 43)).drew = w1 := ⟨_, rfl⟩
      have hB1 : Blk w1 wr.heap.size 8 (fun j => #[Value.slice none 0 0, .int .i64 0, .slice none 0 0, .int .i64 0, .int .i64 0, .int .i64 0, .int .i64 0, .pointer pm].getD j .nilFunc) := by rw [← hw1]; exact (Blk.new wr #[Value.slice none 0 0, .int .i64 0, .slice none 0 0, .int .i64 0, .int .i64 0, .int .i64 0, .int .i64 0, .pointer pm] 43).same rfl
      have hb1 : Below w.heap.size w w1 := by rw [← hw1]; exact (HBd.out.alloc HBd.out.size _)
      have hs1 : w1.heap.size = wr.heap.size + 1 := by rw [← hw1]; simp
      have hsr : w.heap.size ≤ wr.heap.size := HBd.out.size
      have C1 := rindex_any (L := l) (made := 0) ⟨rfl, hl3, by omega⟩ hB1 rfl rfl (HM.out.below hb1) (fun k hk => by have := hlm k hk; omega) (by decide) ha
      have HX : Hid (Ex (mB (.pointer pm)) w w1) := ex_of hb1
      have HW1 := Lib.hid hw1
      clear hB1 hb1 hw1
      go_upto_region 5 with fail
      try rw [HW1.out]
      go_wp2_with fail
      refine C1.mono ?_
      rintro e w2 ⟨rfl, q', hq', hB2, hR2, hM2, hX2⟩
      clear C1
      have hXw : Ex (mB (.pointer pm)) w w2 := HX.out.next hX2 (fun k hk h => h.elim (fun e => by omega) id)
      have C2 := rlive_any (HR.out.exM hXw) hlen
      have hs2 : w1.heap.size ≤ w2.heap.size := hX2.size
      have HB2 : Hid (Blk w2 wr.heap.size 8 (ccF (.slice none 0 0) l q' 0 0 (.pointer pm))) := hB2.congr (fun j hj => by
        have : j = 0 ∨ j = 1 ∨ j = 2 ∨ j = 3 ∨ j = 4 ∨ j = 5 ∨ j = 6 ∨ j = 7 := by omega
        rcases this with rfl | rfl | rfl | rfl | rfl | rfl | rfl | rfl <;> rfl)
      have HR2 := Lib.hid hR2
      have HM2 := Lib.hid hM2
      have HXW := Lib.hid hXw
      have lgc := hB2.lt (by omega)
      have lq' := hR2.lt (pow2_pos l)
      clear hB2 hR2 hM2 hX2 hXw HX HW1 f7 f3
      go_wp2_with fail
      refine C2.mono ?_
      rintro e w3 ⟨lv, rfl, hE3, hB3⟩
      clear C2
      have hgeE := hE3.ge
      have hltE := hE3.es.lt
      obtain ⟨al, capl, gl, hlvv, hpl, hrol⟩ := hE3.es.open
      subst hlvv
      have hcl := hrol.le
      have HPL : Hid (0 < (liveL t.es).length → al = some ⟨gl, 0, none⟩ ∧ w2.heap.size ≤ gl ∧ gl < w3.heap.size) := fun h0 => ⟨(hpl h0).1, hgeE gl (hpl h0).2.1, hltE gl (hpl h0).2.1⟩
      have HROL := Lib.hid hrol
      have hs3 := hB3.size
      have HB3 : Hid (Blk w3 wr.heap.size 8 (ccF (.slice none 0 0) l q' 0 0 (.pointer pm))) := HB2.out.of hB3 (by omega)
      have HR3 : Hid (Rf w3 q' (2 ^ l) (layN (reb (liveL t.es) (liveL t.es).length) l 0)) := HR2.out.below (pow2_pos l) hB3
      have HM3 : Hid (Ms w3 (.pointer pm) (a + 1) b c d) := HM2.out.below hB3
      have HX3 : Hid (Ex (mB (.pointer pm)) w w3) := HXW.out.next (ex_of (X := fun _ => False) hB3) (fun _ _ h => h.elim)
      have HLE : Hid ((liveL t.es).length ≤ rm (2 ^ l)) := by
        show _ ≤ _
        rw [← HLV.out]
        exact HRM.out
      have hll : (liveL t.es).length ≤ 100000 := by have := liveL_len t.es; omega
      have HLL : Hid (∀ n, n < (liveL t.es).length → (nth (liveL t.es) n).live = true) := fun n hn => liveL_nth _ n hn
      clear hE3 hB3 hpl hrol hgeE hltE HB2 HR2 HM2 HXW
      generalize hll0 : liveL t.es = ll at *
      have HLLE := Lib.hid hll0
      clear hll0
      have hgq : w.heap.size ≤ wr.heap.size ∧ wr.heap.size < q' ∧ q' < w3.heap.size := ⟨hsr, by omega, by omega⟩
      clear hs1 hsr
      generalize wr.heap.size = gc at *
      obtain ⟨R, hR0⟩ : ∃ x, reb ll ll.length = x := ⟨_, rfl⟩
      have HRL : Hid (R.length = ll.length) := by
        show _ = _
        rw [← hR0, reb_len]
      have HRN : Hid (∀ k, k < ll.length → nth R k = ⟨(nth ll k).live, (nth ll k).hash, (nth ll k).key, (nth ll k).value, (k : Int)⟩) := fun k hk => by rw [← hR0, reb_nth _ _ _ hk, if_pos hk]
      have HRV : Hid (∀ k, k < R.length → (nth R k).live = true) := fun k hk => by
        rw [HRL.out] at hk
        rw [HRN.out k hk]
        exact HLL.out k hk
      rw [hR0] at HR3
      have HR0 := Lib.hid hR0
      clear hR0
      go_wp2_with fail
      go_loopw [6, 7] (fun iv _ wr => ∃ k : Nat, k ≤ ll.length ∧ iv = .int .i64 (k : Int) ∧ ∃ evk, Blk wr gc 8 (ccF evk l q' 0 0 (.pointer pm)) ∧ EsB w3.heap.size wr evk (R.take k) ∧ Rf wr q' (2 ^ l) (layN R l k) ∧ Ex (fun k => k = gc ∨ k = q') w3 wr) (fun iv _ _ => ll.length - (intOf iv).toNat)
      case atStart => exact ⟨0, Nat.zero_le _, rfl, _, HB3.out, ⟨rfl, Or.inl ⟨rfl, rfl⟩⟩, HR3.out, Ex.refl _ _⟩
      case round =>
        obtain ⟨k, hk, rfl, evk, hBk, hEk, hRk, hXk⟩ := hrel
        clear HB3 HR3
        by_cases hlt : k < ll.length
        · have t1 : (k : Int) < (ll.length : Int) := by omega
          obtain ⟨ea, hgl, lgl⟩ := HPL.out (by omega)
          subst ea
          have key : ∀ o, wr.cell? ⟨gl, o, none⟩ = w3.cell? ⟨gl, o, none⟩ := fun o => World.cell?_of_block (a := ⟨gl, o, none⟩) (hXk.block gl lgl (fun h => by omega))
          have d0 := (key _).trans (HROL.out.c0 k hlt)
          have d1 := (key _).trans (HROL.out.c1 k hlt)
          have d2 := (key _).trans (HROL.out.c2 k hlt)
          have d3 := (key _).trans (HROL.out.c3 k hlt)
          have d4 := (key _).trans (HROL.out.c4 k hlt)
          have HRk := Lib.hid (HRN.out k hlt)
          have hlv1 := HLL.out k hlt
          rw [hlv1] at d0
          rw [hlv1] at HRk
          clear key hlv1
          generalize (nth ll k).hash = x1 at *
          generalize (nth ll k).key = x2 at *
          generalize (nth ll k).value = x3 at *
          generalize (nth ll k).birth = x4 at *
          go_upto_region 12 with fail
          have htk : R.take (k + 1) = R.take k ++ [⟨true, x1, x2, x3, (k : Int)⟩] := by rw [take_succ_nth (by rw [HRL.out]; exact hlt), HRk.out]
          have hlk : (R.take k).length = k := by rw [List.length_take, HRL.out]; omega
          have hown0 : wr.ownsRow w3.heap.size 66 5 evk (R.take k).length (enl (R.take k)) := hEk
          obtain ⟨ak, capk, gk, hev, _, hrok⟩ := hEk.es.open
          rw [hlk] at hev hown0
          have hcapk := hrok.le
          rw [hlk] at hcapk
          subst hev
          have hltk := hEk.es.lt
          have hgek := hEk.ge
          have hsr3 := hXk.size
          obtain ⟨wx, hwx⟩ : ∃ y, wr.alloc (.cells #[.bool true, .int .i64 x1, .int .i64 x2, .int .i64 x3, .int .i64 (k : Int)] 66) = y := ⟨_, rfl⟩
          have hX : Blk wx wr.heap.size 5 (fun j => #[Value.bool true, .int .i64 x1, .int .i64 x2, .int .i64 x3, .int .i64 (k : Int)].getD j .nilFunc) := by rw [← hwx]; exact Blk.new wr _ _
          have hsx : wx.heap.size = wr.heap.size + 1 := by rw [← hwx]; simp
          have hbx : ∀ j, j < wr.heap.size → wx.heap[j]? = wr.heap[j]? := fun j hj => by rw [← hwx]; exact Below.heap_alloc _ _ _ hj
          have hown : wx.drew.ownsRow w3.heap.size 66 5 (.slice ak k capk) k (enl (R.take k)) := by rw [← hwx]; exact World.ownsRow.alloc hown0 _
          have p0 : wx.cell? ⟨wr.heap.size, 0, none⟩ = some (.bool true) := hX.c 0 (by omega)
          have p1 : wx.cell? ⟨wr.heap.size, 1, none⟩ = some (.int .i64 x1) := hX.c 1 (by omega)
          have p2 : wx.cell? ⟨wr.heap.size, 2, none⟩ = some (.int .i64 x2) := hX.c 2 (by omega)
          have p3 : wx.cell? ⟨wr.heap.size, 3, none⟩ = some (.int .i64 x3) := hX.c 3 (by omega)
          have p4 : wx.cell? ⟨wr.heap.size, 4, none⟩ = some (.int .i64 (k : Int)) := hX.c 4 (by omega)
          have lgcr : gc < wr.heap.size := hBk.lt (by omega)
          have lqr : q' < wr.heap.size := hRk.lt (pow2_pos l)
          have hBx := hBk.same (hbx gc lgcr)
          have f0 : wx.cell? ⟨gc, 0, none⟩ = some (.slice ak k capk) := hBx.c 0 (by omega)
          have z0 := hBx.z 0
          have NF : Hid (∀ j u', (enc5 ⟨true, x1, x2, x3, (k : Int)⟩)[j]? = some u' → (wx.drew.alloc (.cells #[.bool true, .int .i64 x1, .int .i64 x2, .int .i64 x3, .int .i64 (k : Int)] 66)).cell? (Addr.add ⟨wx.drew.heap.size, 0, none⟩ j) = some u') := new_five wx.drew ⟨true, x1, x2, x3, (k : Int)⟩ 66
          have HE5 : Hid ((enc5 ⟨true, x1, x2, x3, (k : Int)⟩).length = 5 ∧ ∀ u' ∈ enc5 ⟨true, x1, x2, x3, (k : Int)⟩, u'.oneCell' = true) := ⟨rfl, fun u' hu => enl_one [⟨true, x1, x2, x3, (k : Int)⟩] u' (by simpa [enl] using hu)⟩
          have HGB : Hid (∀ w5 : World, (wx.drew.alloc (.cells #[.bool true, .int .i64 x1, .int .i64 x2, .int .i64 x3, .int .i64 (k : Int)] 66)).grownBy w5 (Value.slice ak k capk).ownBlock → ∀ j, j < wx.heap.size → (Value.slice ak k capk).ownBlock ≠ some j → w5.heap[j]? = wx.heap[j]?) := fun w5 hgw j hj hne => (hgw.block j (by simp; exact Nat.lt_succ_of_lt hj) (fun e => hne e.symm)).trans (Below.heap_alloc _ _ _ hj)
          have HNG : Hid ((Value.slice ak k capk).ownBlock ≠ some gc) := fun e => by have := hgek gc e; omega
          have HNX : Hid ((Value.slice ak k capk).ownBlock ≠ some wr.heap.size) := fun e => by have := hltk _ e; omega
          have HNL : Hid (∀ j, (Value.slice ak k capk).ownBlock = some j → w3.heap.size ≤ j) := hgek
          have HNQ : Hid ((Value.slice ak k capk).ownBlock ≠ some q') := fun e => by have := hgek q' e; omega
          have lgx : gc < wx.heap.size := by omega
          have lxx : wr.heap.size < wx.heap.size := by omega
          have HWX := Lib.hid hwx
          have HXk := Lib.hid hXk
          have HBx := Lib.hid hBx
          have HRx : Hid (Rf wx q' (2 ^ l) (layN R l k)) := hRk.same (hbx q' lqr)
          have HTK := Lib.hid htk
          have HINV : Hid (Inv (R.take k) l (layN R l k)) := layN_inv R l HRV.out (by rw [HRL.out]; exact HLE.out) k (by rw [HRL.out]; omega)
          have HBW : Hid (∀ j, j < w3.heap.size → j ≠ gc → j ≠ q' → wx.heap[j]? = w3.heap[j]?) := fun j h1 h2 h3 => (hbx j (by omega)).trans (hXk.block j h1 (fun h => h.elim h2 h3))
          have HOS : Hid (wx.os = w3.os ∧ wx.tape = w3.tape ∧ wx.output = w3.output) := by rw [← hwx]; exact ⟨hXk.os, hXk.tape, hXk.output⟩
          clear hEk hrok hBk hRk hXk hX hown0 hbx hwx htk hBx hltk hgek d0 d1 d2 d3 d4 HPL HROL
          rw [HWX.out]
          generalize wr.heap.size = xb at *
          go_region_law (refine step_append_own rfl _ _ 37 rfl w3.heap.size 66 i0 (.agg #[.bool false, .int .i64 0, .int .i64 0, .int .i64 0, .int .i64 0]) 5 40 Tryz.underlying37 hi hz0 hz1 hz2 rfl (by decide) (.slice ak k capk) k (enl (R.take k)) (by simp [Act.eval]) (World.ownsRow.alloc hown _) ⟨wx.drew.heap.size, 0, none⟩ 1 1 (enc5 ⟨true, x1, x2, x3, (k : Int)⟩) (by simp [Act.eval]) HE5.out.1 NF.out HE5.out.2 (by unfold maxLen; omega) (by omega) (by simp; omega) ?_; intro v' w5 hown2 hgrow hat; obtain ⟨a2, cap2, hv2⟩ := ownsRow_shape hown2; subst hv2; have hb5 := HGB.out w5 hgrow gc lgx HNG.out; have g0 := (World.cell?_of_block (a := ⟨gc, 0, none⟩) hb5).trans f0; have gz0 := (World.frozen?_of_block (a := ⟨gc, 0, none⟩) hb5).trans z0; have hb6 := HGB.out w5 hgrow xb lxx HNX.out; have gx1 := (World.cell?_of_block (a := ⟨xb, 1, none⟩) hb6).trans p1)
          all_goals
            have hB5 := HBx.out.same hb5
            have hR5 : Rf w5 q' (2 ^ l) (layN R l k) := HRx.out.same (HGB.out w5 hgrow q' (by omega) HNQ.out)
            have hsz5 : wx.heap.size ≤ w5.heap.size := by have := hgrow.size; simp at this; exact Nat.le_of_succ_le this
            have hE5 : EsB w3.heap.size w5 (.slice a2 (k + 1) cap2) (R.take (k + 1)) := by
              have := EsB.snoc (es := R.take k) (e := ⟨true, x1, x2, x3, (k : Int)⟩) (B := w3.heap.size) (w := w5) (v := .slice a2 (k + 1) cap2) (by rw [hlk]; exact hown2)
              rwa [HTK.out]
            have hgeE := hE5.ge
            have o6 : ∀ j, j ≠ gc → (w5.setCell ⟨gc, 0, none⟩ (.slice a2 (k + 1) cap2)).heap[j]? = w5.heap[j]? := fun j hj => Below.heap_setCell _ _ _ _ hj
            have hB6 : Blk (w5.setCell ⟨gc, 0, none⟩ (.slice a2 (k + 1) cap2)) gc 8 (ccF (.slice a2 (k + 1) cap2) l q' 0 0 (.pointer pm)) := (hB5.put 0 _).congr (fun j hj => by
              have : j = 0 ∨ j = 1 ∨ j = 2 ∨ j = 3 ∨ j = 4 ∨ j = 5 ∨ j = 6 ∨ j = 7 := by omega
              rcases this with rfl | rfl | rfl | rfl | rfl | rfl | rfl | rfl <;> rfl)
            have hR6 := hR5.same (o6 q' (by omega))
            obtain ⟨i, hil, hif⟩ := HINV.out.first x1
            have c1 : (w5.setCell ⟨gc, 0, none⟩ (.slice a2 (k + 1) cap2)).cell? ⟨gc, 1, none⟩ = some (.int .i64 (l : Int)) := hB6.c 1 (by omega)
            have c2 : (w5.setCell ⟨gc, 0, none⟩ (.slice a2 (k + 1) cap2)).cell? ⟨gc, 2, none⟩ = some (.slice (some ⟨q', 0, none⟩) (2 ^ l) (2 ^ l)) := hB6.c 2 (by omega)
            have cx : (w5.setCell ⟨gc, 0, none⟩ (.slice a2 (k + 1) cap2)).cell? ⟨xb, 1, none⟩ = some (.int .i64 x1) := (World.cell?_of_block (a := ⟨xb, 1, none⟩) (o6 xb (by omega))).trans gx1
            have CL := rlay_any (n := (k : Int)) ⟨rfl, by omega⟩ c1 c2 hR6 x1 hif hil
            have hlay : upd (layN R l k) (trl (uw x1) l i) (k : Int) = layN R l (k + 1) := by
              have hh : (nth R k).hash = x1 := by rw [HRk.out]
              rw [layN, layc, hh, fidx_eq hif]
            have HP := Lib.hid (hR6.put _ (trl_lt (uw x1) l i) (k : Int))
            rw [hlay] at HP
            have o7 : ∀ j, j ≠ q' → ((w5.setCell ⟨gc, 0, none⟩ (.slice a2 (k + 1) cap2)).setCell ⟨q', trl (uw x1) l i, none⟩ (.int .i64 (k : Int))).heap[j]? = (w5.setCell ⟨gc, 0, none⟩ (.slice a2 (k + 1) cap2)).heap[j]? := fun j hj => Below.heap_setCell _ _ _ _ hj
            have HB7 := Lib.hid (hB6.same (o7 gc (by omega)))
            have HE7 : Hid (EsB w3.heap.size ((w5.setCell ⟨gc, 0, none⟩ (.slice a2 (k + 1) cap2)).setCell ⟨q', trl (uw x1) l i, none⟩ (.int .i64 (k : Int))) (.slice a2 (k + 1) cap2) (R.take (k + 1))) := hE5.same' (fun j hj => by
              have := hgeE j hj
              rw [o7 j (by omega), o6 j (by omega)])
            have HX7 : Hid (Ex (fun k => k = gc ∨ k = q') w3 ((w5.setCell ⟨gc, 0, none⟩ (.slice a2 (k + 1) cap2)).setCell ⟨q', trl (uw x1) l i, none⟩ (.int .i64 (k : Int)))) := by
              obtain ⟨y1, y2, y3⟩ := HOS.out
              refine ⟨hgrow.os.trans y1, hgrow.tape.trans y2, hgrow.output.trans y3, by simp [World.setCell]; omega, fun j hj hx => ?_⟩
              have h1 : j ≠ gc := fun e => hx (.inl e)
              have h2 : j ≠ q' := fun e => hx (.inr e)
              rw [o7 j h2, o6 j h1, HGB.out w5 hgrow j (by omega) (fun e => by have := HNL.out j e; omega)]
              exact HBW.out j hj h1 h2
            clear hB5 hR5 hE5 hgeE o6 hB6 hR6 c1 c2 o7 hlay hif hil hown2 hgrow hat hb5 hb6 g0 gz0 gx1 p0 p1 p2 p3 p4 f0 z0
            generalize World.setCell _ ⟨gc, 0, none⟩ _ = w6 at *
            generalize World.setCell _ ⟨q', _, none⟩ _ = w7 at *
            go_wp2_with fail
            refine CL.mono ?_
            rintro e w8 ⟨rfl, rfl⟩
            clear CL
            go_wp2_with fail
            go_roundw
            case rel => exact ⟨k + 1, by omega, by go_num, _, HB7.out, HE7.out, HP.out, HX7.out⟩
            case measure => simp [intOf]; omega
        · have t1 : ¬ (k : Int) < (ll.length : Int) := by omega
          obtain rfl : k = ll.length := by omega
          have x3 : wr.cell? ⟨gc, 3, none⟩ = some (.int .i64 0) := hBk.c 3 (by omega)
          have x4 : wr.cell? ⟨gc, 4, none⟩ = some (.int .i64 0) := hBk.c 4 (by omega)
          have z3 := hBk.z 3
          have z4 := hBk.z 4
          have hgeE := hEk.ge
          have hRl := HRL.out
          rw [List.take_of_length_le (by omega : R.length ≤ ll.length)] at hEk
          obtain ⟨w4, hw4⟩ : ∃ y, (wr.setCell ⟨gc, 4, none⟩ (.int .i64 (ll.length : Int))).setCell ⟨gc, 3, none⟩ (.int .i64 (ll.length : Int)) = y := ⟨_, rfl⟩
          have o4 : ∀ j, j ≠ gc → w4.heap[j]? = wr.heap[j]? := fun j hj => by rw [← hw4, Below.heap_setCell _ _ _ _ hj, Below.heap_setCell _ _ _ _ hj]
          have hB4 : Blk w4 gc 8 (ccF evk l q' ll.length ll.length (.pointer pm)) := by
            rw [← hw4]
            exact ((hBk.put 4 _).put 3 _).congr (fun j hj => by
              have : j = 0 ∨ j = 1 ∨ j = 2 ∨ j = 3 ∨ j = 4 ∨ j = 5 ∨ j = 6 ∨ j = 7 := by omega
              rcases this with rfl | rfl | rfl | rfl | rfl | rfl | rfl | rfl <;> rfl)
          have hcpl : t.cp.live = ll.length := by rw [Tb.cp_live, HLLE.out]
          have hsz3 := hXk.size
          have HRT : Hid (Rt w4 gc evk q' t.cp (.pointer pm)) := by
            have e1 : t.cp = ⟨R, l, layN R l ll.length, ll.length, 1, 0⟩ := by
              have e2 : t.live = ll.length := by rw [HLV.out]
              unfold Tb.cp
              rw [HLLE.out, HR0.out, ← e2, HCL.out]
            refine ⟨hB4.congr (fun j hj => ?_), ?_, ?_, fun j hj => ?_, ?_, fun j hj => ?_⟩
            · have : j = 0 ∨ j = 1 ∨ j = 2 ∨ j = 3 ∨ j = 4 ∨ j = 5 ∨ j = 6 ∨ j = 7 := by omega
              rcases this with rfl | rfl | rfl | rfl | rfl | rfl | rfl | rfl
              · rfl
              · show Value.int .i64 (t.cp.L : Int) = _
                rw [e1]; rfl
              · show Value.slice (some ⟨q', 0, none⟩) (2 ^ t.cp.L) (2 ^ t.cp.L) = _
                rw [e1]; rfl
              · show Value.int .i64 (t.cp.live : Int) = _
                rw [hcpl]; rfl
              · show Value.int .i64 (t.cp.births : Int) = _
                rw [e1]; rfl
              · rfl
              · rfl
              · rfl
            · rw [e1]
              exact hEk.es.same fun j hj => o4 j (by have := hgeE j hj; omega)
            · rw [e1]
              exact hRk.same (o4 q' (by omega))
            · have := hgeE j hj
              exact ⟨by omega, by omega⟩
            · rw [e1]
              exact ⟨hl3, by show l ≤ 20; omega⟩
            · have h1 := hlm j hj
              exact ⟨by omega, by omega, fun e => by have := hgeE j e; omega⟩
          have HMS : Hid (Ms w4 (.pointer pm) (a + 1) b c d) := HM3.out.same fun j hj => by
            have h1 := hlm j hj
            rw [o4 j (by omega)]
            exact hXk.block j (by omega) (fun h => by omega)
          have HEX : Hid (Ex (mB (.pointer pm)) w w4) := by
            have h1 : Ex (mB (.pointer pm)) w wr := HX3.out.next hXk (fun j hj h => by omega)
            rw [← hw4]
            exact (h1.setCell (p := ⟨gc, 4, none⟩) (fun (h : gc < w.heap.size) => by omega) _).setCell (p := ⟨gc, 3, none⟩) (fun (h : gc < w.heap.size) => by omega) _
          have HGE : Hid (∀ j, evk.ownBlock = some j → w.heap.size ≤ j) := fun j hj => by have := hgeE j hj; omega
          have HW4 := Lib.hid hw4
          clear hBk hEk hRk hXk hB4 o4 hgeE hw4 hRl hcpl
          go_wp2
          rw [HW4.out]
          go_ret
          exact ⟨gc, rfl, hgq.1, q', by omega, evk, HGE.out, HRT.out, HMS.out, HEX.out⟩
end Go.Proofs.YtjkggidcheagpaaGreat
