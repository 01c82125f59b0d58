/-
  The reference's All and Numbers; two lists of entries that are the same.
-/
import Derived.Test.YtejfmajbggmghaaGreatTfPut
namespace Go.Proofs.YtejfmajbggmghaaGreat
open Go.RowKit Go.WideShapes

set_option maxRecDepth 100000 in
set_option maxHeartbeats 4000000 in
theorem rlive_any {w : World} {g : Nat} {ev : Value} {q : Nat} {t : Tb} {mv : Value} (hR : Rt w g ev q t mv) (hn : t.es.length ≤ 100000) :
    Calls Tryz.prog 41 #[.pointer (some ⟨g, 0, none⟩)] w fun e w' => ∃ v, e = .returned v ∧ EsB w.heap.size w' v (liveL t.es) ∧ Below w.heap.size w w' := by
  obtain ⟨i0, hi, hz0, hz1, hz2⟩ := info_parts Tryz.infoEn
  obtain ⟨ae, cape, ge, ev1, hpe, hro⟩ := hR.es.open
  have hcape := hro.le
  have HRO : Hid (0 < t.es.length → ae = some ⟨ge, 0, none⟩ ∧ ge < w.heap.size ∧ Ro w ge t.es.length cape t.es) := fun h0 => ⟨(hpe h0).1, hR.es.lt ge (hpe h0).2.1, hro⟩
  have HRT := Lib.hid hR
  have lg := hR.hd.lt (by omega)
  subst ev1
  clear hR hro hpe
  go_enter Tryz.func41, Tryz.ntmps41
  go_wp2_with fail
  go_loopw [3, 4] (fun lv iv wr => ∃ k : Nat, k ≤ t.es.length ∧ iv = .int .i64 (k : Int) ∧ EsB w.heap.size wr lv (liveL (t.es.take k)) ∧ Below w.heap.size w wr) (fun _ iv _ => t.es.length - (intOf iv).toNat)
  case atStart => exact ⟨0, Nat.zero_le _, rfl, ⟨rfl, Or.inl ⟨rfl, rfl⟩⟩, Below.refl _ _⟩
  case round =>
    obtain ⟨k, hk, rfl, hE, hB⟩ := hrel
    have f0 : wr.cell? ⟨g, 0, none⟩ = some (.slice ae t.es.length cape) := (HRT.out.hd.of hB (by omega)).c 0 (by omega)
    by_cases hlt : k < t.es.length
    · have t1 : (k : Int) < (t.es.length : Int) := by omega
      obtain ⟨ea, lge, hro⟩ := HRO.out (by omega)
      subst ea
      have key : ∀ o, wr.cell? ⟨ge, o, none⟩ = w.cell? ⟨ge, o, none⟩ := fun o => hB.cell (p := ⟨ge, o, none⟩) lge
      have d0 := (key _).trans (hro.c0 k hlt)
      have d1 := (key _).trans (hro.c1 k hlt)
      have d2 := (key _).trans (hro.c2 k hlt)
      have d3 := (key _).trans (hro.c3 k hlt)
      have d4 := (key _).trans (hro.c4 k hlt)
      have HTK := Lib.hid (liveL_take hlt)
      clear hro key
      cases hlive : (nth t.es k).live with
      | true =>
        have hown : wr.ownsRow w.heap.size 48 5 u3 (liveL (t.es.take k)).length (enl (liveL (t.es.take k))) := hE
        have hlk : (liveL (t.es.take k)).length ≤ k := by have := liveL_len (t.es.take k); rw [List.length_take] at this; omega
        have FIN : Hid (∀ (v' : Value) (w5 : World), w5.ownsRow w.heap.size 48 5 v' ((liveL (t.es.take k)).length + 1) (enl (liveL (t.es.take k)) ++ enc5 (nth t.es k)) → EsB w.heap.size w5 v' (liveL (t.es.take (k + 1)))) := fun v' w5 h5 => by
          rw [HTK.out, if_pos hlive]
          exact EsB.snoc h5
        have NF : Hid (∀ j u, (enc5 (nth t.es k))[j]? = some u → (wr.alloc (.cells #[.bool (nth t.es k).live, .int .i64 (nth t.es k).hash, .int .i64 (nth t.es k).key, .int .i64 (nth t.es k).value, .int .i64 (nth t.es k).birth] 48)).cell? (Addr.add ⟨wr.heap.size, 0, none⟩ j) = some u) := new_five _ _ _
        have HE5 : Hid ((enc5 (nth t.es k)).length = 5 ∧ ∀ u ∈ enc5 (nth t.es k), u.oneCell' = true) := ⟨rfl, fun u hu => enl_one [nth t.es k] u (by simpa [enl] using hu)⟩
        have HRL : Hid ((enl (liveL (t.es.take k))).length = (liveL (t.es.take k)).length * 5) := enl_len _
        rw [hlive] at d0 NF
        have hsz := hB.size
        clear hE
        generalize enc5 (nth t.es k) = E5 at FIN NF HE5
        generalize enl (liveL (t.es.take k)) = R at hown FIN HRL
        generalize (liveL (t.es.take k)).length = m at hown FIN hlk HRL
        generalize (nth t.es k).hash = x1 at *
        generalize (nth t.es k).key = x2 at *
        generalize (nth t.es k).value = x3 at *
        generalize (nth t.es k).birth = x4 at *
        clear hlive HTK
        go_wp2_with (at_builtin; refine wpList_append_own _ rfl _ _ 84 rfl w.heap.size 48 i0 (.agg #[.bool false, .int .i64 0, .int .i64 0, .int .i64 0, .int .i64 0]) 5 40 Tryz.underlying84 hi hz0 hz1 hz2 rfl (by decide) _ _ _ rfl (World.ownsRow.alloc hown _) ⟨wr.heap.size, 0, none⟩ 1 1 E5 rfl HE5.out.1 NF.out HE5.out.2 (by unfold maxLen; omega) (by omega) (by simp; omega) ?_; intro v' w5 hown2 hgrow _; have hI2 := Lib.hid (FIN.out v' w5 hown2); have hb5 := below_grown5 hB (Nat.le_refl _) hown hgrow; clear hgrow hown2)
        go_roundw
        case rel => exact ⟨k + 1, by omega, by go_num, hI2.out, hb5⟩
        case measure => simp [intOf]; omega
      | false =>
        rw [hlive] at d0
        have HE : Hid (EsB w.heap.size wr u3 (liveL (t.es.take (k + 1)))) := by
          show EsB _ _ _ _
          rw [HTK.out, if_neg (by rw [hlive]; simp)]
          exact hE
        clear hE hlive HTK
        go_wp2_with fail
        go_roundw
        case rel => exact ⟨k + 1, by omega, by go_num, HE.out, hB⟩
        case measure => simp [intOf]; omega
    · have t1 : ¬ (k : Int) < (t.es.length : Int) := by omega
      obtain rfl : k = t.es.length := by omega
      rw [List.take_length] at hE
      go_wp2
      go_ret
      exact ⟨_, rfl, hE, hB⟩
end Go.Proofs.YtejfmajbggmghaaGreat
