/-
  The reference's New and all.
-/
import Derived.Test.YtejfmajbggmghaaGreatTfIndex
import Derived.Deep.CutRange
namespace Go.Proofs.YtejfmajbggmghaaGreat
open Go.RowKit Go.WideShapes

set_option maxRecDepth 100000 in
theorem rtnew_any {w : World} {mv : Value} {a b c d : Int} (hM : Ms w mv a b c d) (ha : 0 ≤ a ∧ a ≤ 1000000000) :
    Calls Tryz.prog 13 #[mv] w fun e w' => ∃ g q, e = .returned (.pointer (some ⟨g, 0, none⟩)) ∧ w.heap.size ≤ g ∧ w.heap.size ≤ q ∧ Rt w' g (.slice none 0 0) q Tb.new mv ∧ Ms w' mv (a + 1) b c d ∧ Ex (mB mv) w w' := by
  obtain ⟨pm, rfl⟩ : ∃ pm, mv = .pointer pm := by
    rcases hM with h | ⟨m, h, _⟩
    · exact ⟨_, h⟩
    · exact ⟨_, h⟩
  obtain ⟨w1, hw1⟩ : ∃ w1, w.alloc (.cells #[.slice none 0 0, .int .i64 0, .slice none 0 0, .int .i64 0, .int .i64 0, .int .i64 0, .int .i64 0, .pointer pm] 91) = w1 := ⟨_, rfl⟩
  have hB1 : Blk w1 w.heap.size 8 (fun j => #[Value.slice none 0 0, .int .i64 0, .slice none 0 0, .int .i64 0, .int .i64 0, .int .i64 0, .int .i64 0, .pointer pm].getD j .nilFunc) := by rw [← hw1]; exact Blk.new w _ _
  have hb1 : Below w.heap.size w w1 := by rw [← hw1]; exact (Below.refl _ w).alloc (Nat.le_refl _) _
  have hs1 : w1.heap.size = w.heap.size + 1 := by rw [← hw1]; simp
  have hlm := hM.lt
  have C1 := rindex_any (L := 3) (made := 0) ⟨rfl, by decide, by decide⟩ hB1 rfl rfl (hM.below hb1) (fun k hk => by have := hlm k hk; omega) (by decide) ha
  have C1' : Calls Tryz.prog 31 #[.pointer (some ⟨w.heap.size, 0, none⟩), .int .i64 3] w1 _ := C1
  have HX : Hid (Ex (mB (.pointer pm)) w w1) := ex_of hb1
  clear C1 hB1 hb1
  go_enter Tryz.func13, Tryz.ntmps13
  go_wp2_with fail
  refine C1'.mono ?_
  rintro e w2 ⟨rfl, q, hq, hB, hR, hM2, hX⟩
  clear C1'
  have HR : Hid (Rt w2 w.heap.size (.slice none 0 0) q Tb.new (.pointer pm)) := ⟨hB.congr (fun j hj => by
      have : j = 0 ∨ j = 1 ∨ j = 2 ∨ j = 3 ∨ j = 4 ∨ j = 5 ∨ j = 6 ∨ j = 7 := by omega
      rcases this with rfl | rfl | rfl | rfl | rfl | rfl | rfl | rfl <;> rfl), Es.nil _, hR, (fun k hk => by cases hk), (by show 3 ≤ 3 ∧ 3 ≤ 20; omega), fun k hk => ⟨by have := hlm k hk; omega, by have := hlm k hk; omega, by simp [Value.ownBlock]⟩⟩
  have HXX := Lib.hid (HX.out.next hX (fun k hk h => h.elim (fun e => by omega) id))
  have HM := Lib.hid hM2
  clear hB hR hM2 hX
  go_wp2
  go_ret
  exact ⟨_, q, rfl, Nat.le_refl _, by omega, HR.out, HM.out, HXX.out⟩
set_option maxRecDepth 100000 in
set_option maxHeartbeats 8000000 in
/-- all: a new index table, the dead entries dropped, the live ones laid anew. -/
theorem rall7_any {w : World} {g : Nat} {ev : Value} {q : Nat} {t : Tb} {mv : Value} {a b c d : Int} {log : Nat} (hR : Rt w g ev q t mv) (hM : Ms w mv a b c d) (hm : t.made ≤ 1000000) (ha : 0 ≤ a ∧ a ≤ 1000000000) (hn : t.es.length ≤ 100000) (h3 : 3 ≤ log) (h20 : log ≤ 20) (hr : t.live ≤ rm (2 ^ log)) :
    Calls Tryz.prog 102 #[.pointer (some ⟨g, 0, none⟩), .int .i64 (log : Int)] w fun e w' => e = .returned (.tuple #[]) ∧ ∃ ev' q', w.heap.size ≤ q' ∧ (∀ k, ev'.ownBlock = some k → w.heap.size ≤ k) ∧ Rt w' g ev' q' (t.re log) mv ∧ Ms w' mv (a + 1) b c d ∧ Ex (fun k => k = g ∨ mB mv k) w w' := by
  obtain ⟨i0, hi, hz0, hz1, hz2⟩ := info_parts Tryz.infoEn
  have C1 := rindex_any (L := log) ⟨rfl, h3, h20⟩ hR.hd (made := t.made) rfl rfl hM (fun k hk => (hR.mp k hk).1) hm ha
  have lg := hR.hd.lt (by omega)
  have hlm := hM.lt
  obtain ⟨ae, cape, ge, ev1, hpe, hro⟩ := hR.es.open
  have hlv := t.live_eq
  have hll : (liveL t.es).length ≤ t.es.length := by have := liveL_len t.es; omega
  have hcape := hro.le
  have HPE : Hid (0 < t.es.length → ae = some ⟨ge, 0, none⟩ ∧ ge < w.heap.size ∧ ge ≠ g ∧ ¬ mB mv ge) := by
    intro h0
    obtain ⟨h1, h2, _⟩ := hpe h0
    exact ⟨h1, hR.es.lt ge h2, (hR.ap ge h2).1, fun hb => (hR.mp ge hb).2.2 h2⟩
  have HRO := Lib.hid hro
  have HRT := Lib.hid hR
  clear hR hro hpe hM
  subst ev1
  go_enter Tryz.func102, Tryz.ntmps102
  go_wp2_with fail
  refine C1.mono ?_
  rintro e w1 ⟨rfl, q', hq', hB1, hR1, hM1, hX1⟩
  clear C1
  have hsz1 := hX1.size
  have HRO1 : Hid (0 < t.es.length → ae = some ⟨ge, 0, none⟩ ∧ ge < w1.heap.size ∧ Ro w1 ge t.es.length cape t.es) := by
    intro h0
    obtain ⟨h1, h2, h3, h4⟩ := HPE.out h0
    have e := hX1.block ge h2 (fun x => x.elim h3 h4)
    have key : ∀ o, w1.cell? ⟨ge, o, none⟩ = w.cell? ⟨ge, o, none⟩ := fun o => World.cell?_of_block (a := ⟨ge, o, none⟩) e
    exact ⟨h1, by omega, HRO.out.le, fun n hn => (key _).trans (HRO.out.c0 n hn), fun n hn => (key _).trans (HRO.out.c1 n hn), fun n hn => (key _).trans (HRO.out.c2 n hn), fun n hn => (key _).trans (HRO.out.c3 n hn), fun n hn => (key _).trans (HRO.out.c4 n hn)⟩
  have HB1 := Lib.hid hB1
  have HR1 := Lib.hid hR1
  have HM1 := Lib.hid hM1
  have HX1 := Lib.hid hX1
  have lg1 := hB1.lt (by omega)
  clear hB1 hR1 hM1 hX1 HRO HPE
  go_wp2_with fail
  go_loopw [4, 5] (fun lv iv wr => ∃ k : Nat, k ≤ t.es.length ∧ iv = .int .i64 (k : Int) ∧ EsB w1.heap.size wr lv (liveL (t.es.take k)) ∧ Below w1.heap.size w1 wr) (fun _ iv _ => t.es.length - (intOf iv).toNat)
  case atStart => exact ⟨0, Nat.zero_le _, rfl, ⟨rfl, Or.inl ⟨rfl, rfl⟩⟩, Below.refl _ _⟩
  case round =>
    obtain ⟨k, hk, rfl, hE, hB⟩ := hrel
    have hBr := HB1.out.of hB (by omega)
    have f0 : wr.cell? ⟨g, 0, none⟩ = some (.slice ae t.es.length cape) := hBr.c 0 (by omega)
    by_cases hlt : k < t.es.length
    · have t1 : (k : Int) < (t.es.length : Int) := by omega
      obtain ⟨ea, lge, hro⟩ := HRO1.out (by omega)
      subst ea
      have key : ∀ o, wr.cell? ⟨ge, o, none⟩ = w1.cell? ⟨ge, o, none⟩ := fun o => hB.cell (p := ⟨ge, o, none⟩) lge
      have d0 := (key _).trans (hro.c0 k hlt)
      have d1 := (key _).trans (hro.c1 k hlt)
      have d2 := (key _).trans (hro.c2 k hlt)
      have d3 := (key _).trans (hro.c3 k hlt)
      have d4 := (key _).trans (hro.c4 k hlt)
      have HTK := Lib.hid (liveL_take hlt)
      clear hro key
      cases hlive : (nth t.es k).live with
      | true =>
        have hown : wr.ownsRow w1.heap.size 48 5 u4 (liveL (t.es.take k)).length (enl (liveL (t.es.take k))) := hE
        have hlk : (liveL (t.es.take k)).length ≤ k := by have := liveL_len (t.es.take k); rw [List.length_take] at this; omega
        have FIN : Hid (∀ (v' : Value) (w5 : World), w5.ownsRow w1.heap.size 48 5 v' ((liveL (t.es.take k)).length + 1) (enl (liveL (t.es.take k)) ++ enc5 (nth t.es k)) → EsB w1.heap.size w5 v' (liveL (t.es.take (k + 1)))) := fun v' w5 h5 => by
          rw [HTK.out, if_pos hlive]
          exact EsB.snoc h5
        have NF : Hid (∀ j u, (enc5 (nth t.es k))[j]? = some u → (wr.alloc (.cells #[.bool (nth t.es k).live, .int .i64 (nth t.es k).hash, .int .i64 (nth t.es k).key, .int .i64 (nth t.es k).value, .int .i64 (nth t.es k).birth] 48)).cell? (Addr.add ⟨wr.heap.size, 0, none⟩ j) = some u) := new_five _ _ _
        have HE5 : Hid ((enc5 (nth t.es k)).length = 5 ∧ ∀ u ∈ enc5 (nth t.es k), u.oneCell' = true) := ⟨rfl, fun u hu => enl_one [nth t.es k] u (by simpa [enl] using hu)⟩
        have HRL : Hid ((enl (liveL (t.es.take k))).length = (liveL (t.es.take k)).length * 5) := enl_len _
        rw [hlive] at d0 NF
        have hsz := hB.size
        clear hE
        generalize enc5 (nth t.es k) = E5 at FIN NF HE5
        generalize enl (liveL (t.es.take k)) = R at hown FIN HRL
        generalize (liveL (t.es.take k)).length = m at hown FIN hlk HRL
        generalize (nth t.es k).hash = x1 at *
        generalize (nth t.es k).key = x2 at *
        generalize (nth t.es k).value = x3 at *
        generalize (nth t.es k).birth = x4 at *
        clear hlive HTK
        go_wp2_with (at_builtin; refine wpList_append_own _ rfl _ _ 84 rfl w1.heap.size 48 i0 (.agg #[.bool false, .int .i64 0, .int .i64 0, .int .i64 0, .int .i64 0]) 5 40 Tryz.underlying84 hi hz0 hz1 hz2 rfl (by decide) _ _ _ rfl (World.ownsRow.alloc hown _) ⟨wr.heap.size, 0, none⟩ 1 1 E5 rfl HE5.out.1 NF.out HE5.out.2 (by unfold maxLen; omega) (by omega) (by simp; omega) ?_; intro v' w5 hown2 hgrow _; have hI2 := Lib.hid (FIN.out v' w5 hown2); have hb5 := below_grown5 hB (Nat.le_refl _) hown hgrow; clear hgrow hown2)
        go_roundw
        case rel => exact ⟨k + 1, by omega, by go_num, hI2.out, hb5⟩
        case measure => simp [intOf]; omega
      | false =>
        rw [hlive] at d0
        have HE : Hid (EsB w1.heap.size wr u4 (liveL (t.es.take (k + 1)))) := by
          show EsB _ _ _ _
          rw [HTK.out, if_neg (by rw [hlive]; simp)]
          exact hE
        clear hE hlive HTK
        go_wp2_with fail
        go_roundw
        case rel => exact ⟨k + 1, by omega, by go_num, HE.out, hB⟩
        case measure => simp [intOf]; omega
    · have t1 : ¬ (k : Int) < (t.es.length : Int) := by omega
      obtain rfl : k = t.es.length := by omega
      rw [List.take_length] at hE
      have z0 := hBr.z 0
      have hEs := hE.es
      have hgeE := hE.ge
      obtain ⟨al, capl, gl, evl, hpl, hrol⟩ := hEs.open
      have lq1 := HR1.out.lt (pow2_pos log)
      have hBp := (hBr.put 0 u4).congr (F' := tF u4 q' (t.re log) mv) (fun j hj => by
        have : j = 0 ∨ j = 1 ∨ j = 2 ∨ j = 3 ∨ j = 4 ∨ j = 5 ∨ j = 6 ∨ j = 7 := by omega
        rcases this with rfl | rfl | rfl | rfl | rfl | rfl | rfl | rfl
        · rfl
        · rfl
        · rfl
        · show Value.int .i64 (((t.re log).live : Nat) : Int) = Value.int .i64 ((t.live : Nat) : Int)
          have h1 : (t.re log).live = (liveL t.es).length - deadN (liveL t.es) := rfl
          rw [h1, deadN_live _ (liveL_live _), hlv, Nat.sub_zero]
        · rfl
        · rfl
        · rfl
        · rfl)
      have hother : ∀ k, k ≠ g → (wr.setCell ⟨g, 0, none⟩ u4).heap[k]? = wr.heap[k]? := fun k hk => Below.heap_setCell _ _ _ _ hk
      have hRp := (HR1.out.below (pow2_pos log) hB).same (hother q' (by omega))
      have hEp : Es (wr.setCell ⟨g, 0, none⟩ u4) u4 (liveL t.es) := hEs.same fun k hk => hother k (by have := hgeE k hk; omega)
      have hMp := (HM1.out.below hB).same fun k hk => hother k (HRT.out.mp k hk).1
      have hXp : Ex (fun k => k = g ∨ mB mv k) w (wr.setCell ⟨g, 0, none⟩ u4) := (HX1.out.next (ex_of (X := fun _ => False) hB) (fun _ _ h => h.elim)).setCell (p := ⟨g, 0, none⟩) (fun _ => .inl rfl) _
      have HBP := Lib.hid hBp
      have HRP := Lib.hid hRp
      have HEP := Lib.hid hEp
      have HMP := Lib.hid hMp
      have HXP := Lib.hid hXp
      have HGE := Lib.hid hgeE
      have hszr := hB.size
      clear hBp hRp hEp hMp hXp hgeE hother hEs hE hpl hrol hBr hB HB1 HR1 HM1 HX1 HRO1
      subst evl
      go_upto_region 9 with fail
      generalize World.setCell _ _ _ = w2 at *
      clear f0 z0
      obtain ⟨al', capl', gl', evl', hpl, hrol⟩ := HEP.out.open
      cases evl'
      have HROL := Lib.hid hrol
      have HPL := Lib.hid hpl
      have hcl := hrol.le
      have HLI : Hid (∀ n, n < (liveL t.es).length → Inv ((liveL t.es).take n) log (layN (liveL t.es) log n)) := fun n hn => layN_inv (liveL t.es) log (fun n hn => liveL_nth _ n hn) (by omega) n (by omega)
      have HLS : Hid (∀ n i, IsF (layN (liveL t.es) log n) (uw (nth (liveL t.es) n).hash) log i → upd (layN (liveL t.es) log n) (trl (uw (nth (liveL t.es) n).hash) log i) (n : Int) = layN (liveL t.es) log (n + 1)) := fun n i hf => by rw [layN, layc, fidx_eq hf]
      have HR0 : Hid (Rf w2 q' (2 ^ log) (layN (liveL t.es) log 0)) := HRP.out
      have HRE : Hid (∀ wz, Blk wz g 8 (tF (.slice al (liveL t.es).length capl) q' (t.re log) mv) → Es wz (.slice al (liveL t.es).length capl) (liveL t.es) → Rf wz q' (2 ^ log) (layN (liveL t.es) log (liveL t.es).length) → Rt wz g (.slice al (liveL t.es).length capl) q' (t.re log) mv) := fun wz h1 h2 h3' => ⟨h1, h2, h3', fun k hk => ⟨by have := HGE.out k hk; omega, by have := HGE.out k hk; omega⟩, ⟨h3, h20⟩, fun k hk => ⟨(HRT.out.mp k hk).1, by have := hlm k hk; omega, fun h => by have := HGE.out k h; have := hlm k hk; omega⟩⟩
      clear hpl hrol
      generalize hLL : liveL t.es = ll at *
      go_loopw [6] (fun iv wr => ∃ k : Nat, k ≤ ll.length ∧ iv = .int .i64 (k : Int) ∧ Rf wr q' (2 ^ log) (layN ll log k) ∧ But q' w2 wr) (fun iv _ => ll.length - (intOf iv).toNat)
      case atStart => exact ⟨0, Nat.zero_le _, rfl, HR0.out, But.refl _ _⟩
      case round =>
        obtain ⟨k, hk, rfl, hRk, hBk⟩ := hrel
        by_cases hlt : k < ll.length
        · have t2 : (k : Int) < (ll.length : Int) := by omega
          obtain ⟨ea, hob, _⟩ := HPL.out (by omega)
          have hgl := HGE.out _ hob
          have lgl := HEP.out.lt _ hob
          cases ea
          have d1 := (hBk.cell (p := ⟨gl', k * 5 + 1, none⟩) lgl (by show gl' ≠ q'; omega)).trans (HROL.out.c1 k hlt)
          have hBz := HBP.out.same (hBk.block g (HBP.out.lt (by omega)) (by omega))
          have k1 : wr.cell? ⟨g, 1, none⟩ = some (.int .i64 (log : Int)) := hBz.c 1 (by omega)
          have k2 : wr.cell? ⟨g, 2, none⟩ = some (.slice (some ⟨q', 0, none⟩) (2 ^ log) (2 ^ log)) := hBz.c 2 (by omega)
          obtain ⟨i, hil, hif⟩ := (HLI.out k hlt).first (nth ll k).hash
          have CL := rlay_any (n := (k : Int)) ⟨rfl, h20⟩ k1 k2 hRk (nth ll k).hash hif hil
          have HP := Lib.hid (hRk.put _ (trl_lt (uw (nth ll k).hash) log i) (k : Int))
          rw [HLS.out k i hif] at HP
          have HPB := Lib.hid (hBk.setCell (trl (uw (nth ll k).hash) log i) (.int .i64 (k : Int)))
          clear hRk hBk hBz k1 k2 hif
          generalize World.setCell _ _ _ = wz at CL HP HPB
          generalize (nth ll k).hash = u at *
          go_wp2_with fail
          refine CL.mono ?_
          rintro e w6 ⟨rfl, rfl⟩
          clear CL
          go_wp2_with fail
          go_roundw
          case rel => exact ⟨k + 1, by omega, by go_num, HP.out, HPB.out⟩
          case measure => simp [intOf]; omega
        · have t2 : ¬ (k : Int) < (ll.length : Int) := by omega
          obtain rfl : k = ll.length := by omega
          have hbl : ∀ j, j < w2.heap.size → j ≠ q' → wr.heap[j]? = w2.heap[j]? := fun j h1 h2 => hBk.block j h1 h2
          have HF := Lib.hid (HRE.out wr (HBP.out.same (hbl g (HBP.out.lt (by omega)) (by omega))) (HEP.out.same fun k hk => hbl k (HEP.out.lt k hk) (by have := HGE.out k hk; omega)) hRk)
          have HMF := Lib.hid (HMP.out.same fun k hk => hbl k (HMP.out.lt k hk) (by have := hlm k hk; omega))
          have HXF := Lib.hid (HXP.out.next hBk.ex (fun k hk h => by omega))
          clear hRk hBk hbl
          go_wp2
          go_end0
          exact ⟨rfl, _, q', hq', fun k hk => by have := HGE.out k hk; omega, HF.out, HMF.out, HXF.out⟩
end Go.Proofs.YtejfmajbggmghaaGreat
