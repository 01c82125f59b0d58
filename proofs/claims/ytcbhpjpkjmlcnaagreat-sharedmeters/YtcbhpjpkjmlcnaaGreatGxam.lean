/-
  The reference's Copy.
  The document's table beside one whose dead entries keep their births: it is that one as it is told.
  The reference's All and Numbers, of any row of entries; the live entries' numbers.
  The document's family and namespaces in memory; what a Set, a Del and a search tell, is one.
  The document's number and find.
  The document's find.
  Del of a namespace that stands on a table of its own; Version, Len.
-/
import Derived.Test.YtcbhpjpkjmlcnaaGreatGxal
import Derived.Test.YtcbhpjpkjmlcnaaGreatGxad
import Derived.Test.YtcbhpjpkjmlcnaaGreatGxaj
import Derived.Test.YtcbhpjpkjmlcnaaGreatTfNext
import Derived.Test.YtcbhpjpkjmlcnaaGreatGxak
import Derived.Test.YtcbhpjpkjmlcnaaGreatGxaa
import Derived.Test.YtcbhpjpkjmlcnaaGreatGxae
import Derived.Test.YtcbhpjpkjmlcnaaGreatGxah
import Derived.Test.YtcbhpjpkjmlcnaaGreatGxag
import Derived.Test.YtcbhpjpkjmlcnaaGreatGxai
import Derived.Test.YtcbhpjpkjmlcnaaGreatGxav
namespace Go.Proofs.YtcbhpjpkjmlcnaaGreat
open Go.RowKit Go.WideShapes

theorem cplog_eq {n l : Nat} (hn : n ≤ 100000) (h3 : 3 ≤ l) (h1 : ¬ rm (2 ^ l) < n) (h2 : ∀ j, 3 ≤ j → j < l → rm (2 ^ j) < n) : cplog n = l := by
  refine logF_eq (by omega) h3 ?_ fun j hj hl => ?_
  · unfold rm at h1
    omega
  · have := h2 j hj hl
    unfold rm at this
    omega
theorem EsB.same' {B : Nat} {w w' : World} {v : Value} {es : List En} (h : EsB B w v es) (e : ∀ k, v.ownBlock = some k → w'.heap[k]? = w.heap[k]?) : EsB B w' v es := by
  refine ⟨h.1, ?_⟩
  rcases h.2 with h0 | ⟨g, cap, cur, rfl, h1, h2, h3⟩
  · exact .inl h0
  · exact .inr ⟨g, cap, cur, rfl, h1, (e g rfl).trans h2, h3⟩
/-- The head of the copy. -/
def ccF (ev : Value) (L q n m : Nat) (mv : Value) : Nat → Value
  | 0 => ev
  | 1 => .int .i64 (L : Int)
  | 2 => .slice (some ⟨q, 0, none⟩) (2 ^ L) (2 ^ L)
  | 3 => .int .i64 (m : Int)
  | 4 => .int .i64 (n : Int)
  | 5 => .int .i64 1
  | 6 => .int .i64 0
  | _ => mv
theorem Rt.exM {w w' : World} {g : Nat} {ev : Value} {q : Nat} {t : Tb} {mv : Value} (hR : Rt w g ev q t mv) (hX : Ex (mB mv) w w') : Rt w' g ev q t mv :=
  hR.same fun k hk => by
    have hlt : k < w.heap.size := by
      rcases hk with rfl | rfl | hk
      · exact hR.hd.lt (by omega)
      · exact hR.rf.lt (pow2_pos _)
      · exact hR.es.lt k hk
    refine hX.block k hlt fun h => ?_
    obtain ⟨x1, x2, x3⟩ := hR.mp k h
    rcases hk with e | e | e
    · exact x1 e
    · exact x2 e
    · exact x3 e
end Go.Proofs.YtcbhpjpkjmlcnaaGreat
namespace Go.Proofs.YtcbhpjpkjmlcnaaGreat
open Go.RowKit Go.WideShapes

/-- The document's table of t. -/
abbrev RtS (w : World) (g : Nat) (ev : Value) (q : Nat) (t : Tb) (mv : Value) : Prop := Rt w g ev q t.sh mv
theorem Tb.cp_live_all (t : Tb) : ∀ e ∈ t.cp.es, e.live = true := fun e he0 => by
  have he : e ∈ reb (liveL t.es) (liveL t.es).length := he0
  obtain ⟨n, hn, hx⟩ : ∃ n, n < (reb (liveL t.es) (liveL t.es).length).length ∧ nth (reb (liveL t.es) (liveL t.es).length) n = e := by
    obtain ⟨n, hn, he⟩ := List.getElem_of_mem he
    exact ⟨n, hn, by unfold nth; rw [List.getD_eq_getElem?_getD, List.getElem?_eq_getElem hn, Option.getD_some]; exact he⟩
  rw [← hx]
  exact reb_live (fun n hn => liveL_nth _ n hn) _ n (by rwa [reb_len] at hn)
theorem Tb.sh_cp (t : Tb) : t.cp.sh = t.sh.cp := by
  have h1 : t.sh.cp = t.cp := by
    unfold Tb.cp
    show (⟨reb (liveL (shw t.es)) (liveL (shw t.es)).length, cplog (liveL (shw t.es)).length, layN (reb (liveL (shw t.es)) (liveL (shw t.es)).length) (cplog (liveL (shw t.es)).length) (liveL (shw t.es)).length, (liveL (shw t.es)).length, 1, 0⟩ : Tb) = _
    rw [liveL_sh]
  rw [h1]
  have h2 := shw_all t.cp_live_all
  unfold Tb.sh
  rw [h2]
theorem radd_s {w : World} {g : Nat} {ev : Value} {q : Nat} {t : Tb} {mv : Value} {a b c d : Int} (hR : RtS w g ev q t mv) (hO : t.Ok) (hM : Ms w mv a b c d) (hm : t.made ≤ 1000000) (ha : 0 ≤ a ∧ a ≤ 1000000000) (ht : t.turn ≤ 1000000) (hb : t.births < 100000) (u k v : Int) :
    Calls Tryz.prog 69 #[.pointer (some ⟨g, 0, none⟩), .int .i64 u, .int .i64 k, .int .i64 v] w fun e w' => e = .returned (.tuple #[.int .i64 (((t.add u k v).es.length - 1 : Nat) : Int), .int .i64 0]) ∧ ∃ ev' q', (q' = q ∨ w.heap.size ≤ q') ∧ (∀ j, ev'.ownBlock = some j → ev.ownBlock = some j ∨ w.heap.size ≤ j) ∧ RtS w' g ev' q' (t.add u k v) mv ∧ Ms w' mv (a + ((t.add u k v).made - t.made : Nat)) b c d ∧ Ex (tX g ev q mv) w w' := by
  have h := radd_any hR hO.sh hM hm ha ht hb u k v
  rw [← Tb.sh_add, Tb.sh_len] at h
  exact h
theorem rput_no_s {w : World} {g : Nat} {ev : Value} {q : Nat} {t : Tb} {mv : Value} (hR : RtS w g ev q t mv) (n v : Int) (hn : ¬ t.has n) :
    Calls Tryz.prog 66 #[.pointer (some ⟨g, 0, none⟩), .int .i64 n, .int .i64 v] w fun e w' => e = .returned (.int .i64 7) ∧ w' = w := rput_no hR n v (fun h => hn ((t.sh_has n).1 h))
theorem rput_yes_s {w : World} {g : Nat} {ev : Value} {q : Nat} {t : Tb} {mv : Value} (hR : RtS w g ev q t mv) (n : Nat) (v : Int) (hn : n < t.es.length) (hl : (nth t.es n).live = true) :
    Calls Tryz.prog 66 #[.pointer (some ⟨g, 0, none⟩), .int .i64 (n : Int), .int .i64 v] w fun e w' => e = .returned (.int .i64 0) ∧ RtS w' g ev q (t.putv n v) mv ∧ Ex (fun k => ev.ownBlock = some k) w w' := by
  have h := rput_yes hR n v (by rw [Tb.sh_len]; exact hn) (by show (nth (shw t.es) n).live = true; rw [sh_is]; exact hl)
  rw [← Tb.sh_putv t n hl v] at h
  exact h
theorem rkill_no_s {w : World} {g : Nat} {ev : Value} {q : Nat} {t : Tb} {mv : Value} (hR : RtS w g ev q t mv) (n : Int) (hn : ¬ t.has n) :
    Calls Tryz.prog 72 #[.pointer (some ⟨g, 0, none⟩), .int .i64 n] w fun e w' => e = .returned (.int .i64 7) ∧ w' = w := rkill_no hR n (fun h => hn ((t.sh_has n).1 h))
theorem rkill_yes_s {w : World} {g : Nat} {ev : Value} {q : Nat} {t : Tb} {mv : Value} (hR : RtS w g ev q t mv) (n : Nat) (hn : n < t.es.length) (hl : (nth t.es n).live = true) (hlen : t.es.length ≤ 100000) (ht : t.turn ≤ 1000000) :
    Calls Tryz.prog 72 #[.pointer (some ⟨g, 0, none⟩), .int .i64 (n : Int)] w fun e w' => e = .returned (.int .i64 0) ∧ RtS w' g ev q (t.kill n) mv ∧ Ex (fun k => k = g ∨ k = q ∨ ev.ownBlock = some k) w w' := by
  have h := rkill_yes hR n (by rw [Tb.sh_len]; exact hn) (by show (nth (shw t.es) n).live = true; rw [sh_is]; exact hl) (by rw [Tb.sh_len]; exact hlen) ht
  rw [← Tb.sh_kill] at h
  exact h
theorem rsight_s {w : World} {g : Nat} {ev : Value} {q : Nat} {t : Tb} {mv : Value} (hR : RtS w g ev q t mv) (hn : t.es.length ≤ 100000) :
    Calls Tryz.prog 18 #[.pointer (some ⟨g, 0, none⟩)] w fun e w' => ∃ ca cc ea ec, e = .returned (siV (t.L : Int) (wd t.L : Int) ca (2 ^ t.L) cc ea t.es.length ec (t.live : Int) (t.births : Int) (t.made : Int)) ∧ SlN w' ca (2 ^ t.L) cc t.c ∧ SlE w' ea t.es.length ec (shw t.es) ∧ Below w.heap.size w w' := by
  have h := rsight_any hR (by rw [Tb.sh_len]; exact hn)
  rw [Tb.sh_len, Tb.sh_live] at h
  exact h
theorem rseek_s {w : World} {g : Nat} {ev : Value} {q : Nat} {t : Tb} {mv : Value} (hR : RtS w g ev q t mv) (u : Int) :
    Calls Tryz.prog 90 #[.pointer (some ⟨g, 0, none⟩), .int .i64 u] w fun e w' => ∃ s, e = .returned (.pointer (some ⟨s, 0, none⟩)) ∧ w.heap.size ≤ s ∧ Blk w' s 8 (sF g u t.turn (trl (uw u) t.L 0) (uw u) false 0 (-1)) ∧ Below w.heap.size w w' := rseek_any hR u
theorem rnext_s {w : World} {g : Nat} {ev : Value} {q : Nat} {t : Tb} {pm : Option Addr} {a b c d : Int} {s i vis f : Nat} {u last : Int} (hR : RtS w g ev q t (.pointer pm)) (hI : Inv t.es t.L t.c) (hM : Ms w (.pointer pm) a b c d) (hs : s ≠ g ∧ s ≠ q ∧ ev.ownBlock ≠ some s) (hsm : ¬ mB (.pointer pm) s)
    (hB : Blk w s 8 (sF g u t.turn (trl (uw u) t.L i) (uw u / 32 ^ i) false vis last)) (hT : Told t.es t.L t.c u i last) (hF : IsF t.c (uw u) t.L f) (hif : i ≤ f) (hf : f < 2 ^ t.L + 13) (hv : vis ≤ 1000000000) (hb : 0 ≤ b ∧ b ≤ 100000000000) (hla : -1 ≤ last) (hlen : t.es.length ≤ 100000) :
    Calls Tryz.prog 91 #[.pointer (some ⟨s, 0, none⟩)] w fun e w' => ∃ j, i ≤ j ∧ j ≤ f ∧
      ((∃ n : Nat, e = .returned (.tuple #[.int .i64 (n : Int), .bool true]) ∧ Of t.es u n ∧ last < (n : Int) ∧ t.c (trl (uw u) t.L j) = (n : Int) ∧ Told t.es t.L t.c u j last ∧ Told t.es t.L t.c u (j + 1) (n : Int) ∧ (∀ m, Of t.es u m → last < (m : Int) → n ≤ m) ∧ Rk w' s g u t (.pointer pm) a b c d w i vis (n : Int) (j + 1) false) ∨
       (e = .returned (.tuple #[.int .i64 (-1), .bool false]) ∧ j = f ∧ (∀ n, Of t.es u n → (n : Int) ≤ last) ∧ Rk w' s g u t (.pointer pm) a b c d w i vis last (j + 1) true)) := by
  refine (rnext_any hR hI.sh hM hs hsm hB (told_sh.2 hT) hF hif hf hv hb hla (by rw [Tb.sh_len]; exact hlen)).mono ?_
  rintro e w' ⟨j, h1, h2, (⟨n, h3, h4, h5, h6, h7, h8, h9, h10⟩ | ⟨h3, h4, h5, h6⟩)⟩
  · exact ⟨j, h1, h2, .inl ⟨n, h3, of_sh.1 h4, h5, h6, told_sh.1 h7, told_sh.1 h8, fun m hm hl => h9 m (of_sh.2 hm) hl, ⟨h10.bk, h10.ms, h10.ex⟩⟩⟩
  · exact ⟨j, h1, h2, .inr ⟨h3, h4, fun n hn => h5 n (of_sh.2 hn), ⟨h6.bk, h6.ms, h6.ex⟩⟩⟩
theorem rtnew_s {w : World} {mv : Value} {a b c d : Int} (hM : Ms w mv a b c d) (ha : 0 ≤ a ∧ a ≤ 1000000000) :
    Calls Tryz.prog 63 #[mv] w fun e w' => ∃ g q, e = .returned (.pointer (some ⟨g, 0, none⟩)) ∧ w.heap.size ≤ g ∧ w.heap.size ≤ q ∧ RtS w' g (.slice none 0 0) q Tb.new mv ∧ Ms w' mv (a + 1) b c d ∧ Ex (mB mv) w w' := rtnew_any hM ha
end Go.Proofs.YtcbhpjpkjmlcnaaGreat
namespace Go.Proofs.YtcbhpjpkjmlcnaaGreat
open Go.RowKit Go.WideShapes

/-- The numbers of the live ones of the first i entries. -/
def lvn (es : List En) : Nat → List Int
  | 0 => []
  | i + 1 => lvn es i ++ if (nth es i).live = true then [(i : Int)] else []
theorem lvn_len (es : List En) : ∀ i, i ≤ es.length → (lvn es i).length = (liveL (es.take i)).length
  | 0, _ => by simp [lvn, liveL]
  | i + 1, h => by
    rw [lvn, List.length_append, lvn_len es i (by omega), liveL_take h]
    by_cases hl : (nth es i).live = true
    · simp [hl]
    · simp [hl]
theorem lvn_all (es : List En) : (lvn es es.length).length = (liveL es).length := by
  rw [lvn_len es _ (Nat.le_refl _), List.take_length]
theorem lvn_le (es : List En) : ∀ {i j : Nat}, i ≤ j → ∃ r, lvn es j = lvn es i ++ r := by
  intro i j h
  induction j with
  | zero => exact ⟨[], by rw [show i = 0 by omega]; simp⟩
  | succ j ih =>
    rcases Nat.lt_or_ge i (j + 1) with y | y
    · obtain ⟨r, hr⟩ := ih (by omega)
      exact ⟨r ++ _, by rw [lvn, hr, List.append_assoc]⟩
    · exact ⟨[], by rw [show i = j + 1 by omega]; simp⟩
theorem lvn_at (es : List En) {i j : Nat} (hij : i < j) (hl : (nth es i).live = true) : (lvn es j)[(lvn es i).length]? = some (i : Int) ∧ (lvn es i).length < (lvn es j).length ∧ (lvn es (i + 1)).length = (lvn es i).length + 1 := by
  obtain ⟨r, hr⟩ := lvn_le es (i := i + 1) (j := j) hij
  have h1 : lvn es (i + 1) = lvn es i ++ [(i : Int)] := by rw [lvn, if_pos hl]
  rw [h1, List.append_assoc] at hr
  rw [hr, h1]
  simp
theorem lvn_dead (es : List En) {i : Nat} (hl : (nth es i).live = false) : lvn es (i + 1) = lvn es i := by
  rw [lvn, hl]
  simp
theorem live_at {es : List En} {i : Nat} (hi : i < es.length) (hl : (nth es i).live = true) : nth (liveL es) (lvn es i).length = nth es i := by
  rw [lvn_len es i (by omega), liveL_cut hi hl]
  exact nth_mid _ _ _
set_option maxRecDepth 100000 in
set_option maxHeartbeats 4000000 in
theorem rlive0 {w : World} {g : Nat} {ev : Value} {es : List En} (h0 : w.cell? ⟨g, 0, none⟩ = some ev) (hE0 : Es w ev es) (hn : es.length ≤ 100000) :
    Calls Tryz.prog 44 #[.pointer (some ⟨g, 0, none⟩)] w fun e w' => ∃ v, e = .returned v ∧ EsB w.heap.size w' v (liveL es) ∧ Below w.heap.size w w' := by
  obtain ⟨i0, hi, hz0, hz1, hz2⟩ := info_parts Tryz.infoEn
  obtain ⟨ae, cape, ge, ev1, hpe, hro⟩ := hE0.open
  have hcape := hro.le
  have HRO : Hid (0 < es.length → ae = some ⟨ge, 0, none⟩ ∧ ge < w.heap.size ∧ Ro w ge es.length cape es) := fun h0 => ⟨(hpe h0).1, hE0.lt ge (hpe h0).2.1, hro⟩
  have lg := lt_of_cell h0
  subst ev1
  have H0 := Lib.hid h0
  clear h0 hE0 hro hpe
  go_enter Tryz.func44, Tryz.ntmps44
  go_wp2_with fail
  go_loopw [3, 4] (fun lv iv wr => ∃ k : Nat, k ≤ es.length ∧ iv = .int .i64 (k : Int) ∧ EsB w.heap.size wr lv (liveL (es.take k)) ∧ Below w.heap.size w wr) (fun _ iv _ => es.length - (intOf iv).toNat)
  case atStart => exact ⟨0, Nat.zero_le _, rfl, ⟨rfl, Or.inl ⟨rfl, rfl⟩⟩, Below.refl _ _⟩
  case round =>
    obtain ⟨k, hk, rfl, hE, hB⟩ := hrel
    have f0 : wr.cell? ⟨g, 0, none⟩ = some (.slice ae es.length cape) := (hB.cell (p := ⟨g, 0, none⟩) lg).trans H0.out
    by_cases hlt : k < es.length
    · have t1 : (k : Int) < (es.length : Int) := by omega
      obtain ⟨ea, lge, hro⟩ := HRO.out (by omega)
      subst ea
      have key : ∀ o, wr.cell? ⟨ge, o, none⟩ = w.cell? ⟨ge, o, none⟩ := fun o => hB.cell (p := ⟨ge, o, none⟩) lge
      have d0 := (key _).trans (hro.c0 k hlt)
      have d1 := (key _).trans (hro.c1 k hlt)
      have d2 := (key _).trans (hro.c2 k hlt)
      have d3 := (key _).trans (hro.c3 k hlt)
      have d4 := (key _).trans (hro.c4 k hlt)
      have HTK := Lib.hid (liveL_take hlt)
      clear hro key
      cases hlive : (nth es k).live with
      | true =>
        have hown : wr.ownsRow w.heap.size 107 5 u3 (liveL (es.take k)).length (enl (liveL (es.take k))) := hE
        have hlk : (liveL (es.take k)).length ≤ k := by have := liveL_len (es.take k); rw [List.length_take] at this; omega
        have FIN : Hid (∀ (v' : Value) (w5 : World), w5.ownsRow w.heap.size 107 5 v' ((liveL (es.take k)).length + 1) (enl (liveL (es.take k)) ++ enc5 (nth es k)) → EsB w.heap.size w5 v' (liveL (es.take (k + 1)))) := fun v' w5 h5 => by
          rw [HTK.out, if_pos hlive]
          exact EsB.snoc h5
        have NF : Hid (∀ j u, (enc5 (nth es k))[j]? = some u → (wr.alloc (.cells #[.bool (nth es k).live, .int .i64 (nth es k).hash, .int .i64 (nth es k).key, .int .i64 (nth es k).value, .int .i64 (nth es k).birth] 107)).cell? (Addr.add ⟨wr.heap.size, 0, none⟩ j) = some u) := new_five _ _ _
        have HE5 : Hid ((enc5 (nth es k)).length = 5 ∧ ∀ u ∈ enc5 (nth es k), u.oneCell' = true) := ⟨rfl, fun u hu => enl_one [nth es k] u (by simpa [enl] using hu)⟩
        have HRL : Hid ((enl (liveL (es.take k))).length = (liveL (es.take k)).length * 5) := enl_len _
        rw [hlive] at d0 NF
        have hsz := hB.size
        clear hE
        generalize enc5 (nth es k) = E5 at FIN NF HE5
        generalize enl (liveL (es.take k)) = R at hown FIN HRL
        generalize (liveL (es.take k)).length = m at hown FIN hlk HRL
        generalize (nth es k).hash = x1 at *
        generalize (nth es k).key = x2 at *
        generalize (nth es k).value = x3 at *
        generalize (nth es k).birth = x4 at *
        clear hlive HTK
        go_wp2_with (at_builtin; refine wpList_append_own _ rfl _ _ 71 rfl w.heap.size 107 i0 (.agg #[.bool false, .int .i64 0, .int .i64 0, .int .i64 0, .int .i64 0]) 5 40 Tryz.underlying71 hi hz0 hz1 hz2 rfl (by decide) _ _ _ rfl (World.ownsRow.alloc hown _) ⟨wr.heap.size, 0, none⟩ 1 1 E5 rfl HE5.out.1 NF.out HE5.out.2 (by unfold maxLen; omega) (by omega) (by simp; omega) ?_; intro v' w5 hown2 hgrow _; have hI2 := Lib.hid (FIN.out v' w5 hown2); have hb5 := below_grown5 hB (Nat.le_refl _) hown hgrow; clear hgrow hown2)
        go_roundw
        case rel => exact ⟨k + 1, by omega, by go_num, hI2.out, hb5⟩
        case measure => simp [intOf]; omega
      | false =>
        rw [hlive] at d0
        have HE : Hid (EsB w.heap.size wr u3 (liveL (es.take (k + 1)))) := by
          show EsB _ _ _ _
          rw [HTK.out, if_neg (by rw [hlive]; simp)]
          exact hE
        clear hE hlive HTK
        go_wp2_with fail
        go_roundw
        case rel => exact ⟨k + 1, by omega, by go_num, HE.out, hB⟩
        case measure => simp [intOf]; omega
    · have t1 : ¬ (k : Int) < (es.length : Int) := by omega
      obtain rfl : k = es.length := by omega
      rw [List.take_length] at hE
      go_wp2
      go_ret
      exact ⟨_, rfl, hE, hB⟩
end Go.Proofs.YtcbhpjpkjmlcnaaGreat
namespace Go.Proofs.YtcbhpjpkjmlcnaaGreat
open Go.RowKit Go.WideShapes

theorem Rt.lt' {w : World} {g : Nat} {ev : Value} {q : Nat} {t : Tb} {mv : Value} (h : Rt w g ev q t mv) : ∀ k, (k = g ∨ k = q ∨ ev.ownBlock = some k) → k < w.heap.size := by
  rintro k (rfl | rfl | hk)
  · exact h.hd.lt (by omega)
  · exact h.rf.lt (pow2_pos _)
  · exact h.es.lt k hk
/-- The document's family. -/
def qfF (room most g : Nat) (nv mr : Value) : Nat → Value
  | 0 => .int .i64 (room : Int)
  | 1 => .int .i64 (most : Int)
  | 2 => .pointer (some ⟨g, 0, none⟩)
  | 3 => nv
  | _ => mr
def qfX (f g : Nat) (ev : Value) (q : Nat) (nv : Value) (k : Nat) : Prop := k = f ∨ k = g ∨ k = q ∨ ev.ownBlock = some k ∨ nv.ownBlock = some k
structure Qf (w : World) (f g : Nat) (ev : Value) (q : Nat) (nv : Value) (F : Fa) (mr : Value) : Prop where
  hd : Blk w f 5 (qfF F.room F.most g nv mr)
  kt : RtS w g ev q F.kt mr
  ns : Ns w nv F.all
  n1 : ¬ (f = g ∨ f = q ∨ ev.ownBlock = some f)
  n2 : ∀ k, nv.ownBlock = some k → k ≠ f ∧ ¬ (k = g ∨ k = q ∨ ev.ownBlock = some k)
  mp : ∀ k, mB mr k → k ≠ f ∧ nv.ownBlock ≠ some k
theorem Qf.same {w w' : World} {f g : Nat} {ev : Value} {q : Nat} {nv : Value} {F : Fa} {mr : Value} (x : Qf w f g ev q nv F mr) (e : ∀ k, qfX f g ev q nv k → w'.heap[k]? = w.heap[k]?) : Qf w' f g ev q nv F mr :=
  ⟨x.hd.same (e f (.inl rfl)), x.kt.same fun k hk => e k (by
    rcases hk with y | y | y
    · exact .inr (.inl y)
    · exact .inr (.inr (.inl y))
    · exact .inr (.inr (.inr (.inl y)))), x.ns.same fun k hk => e k (.inr (.inr (.inr (.inr hk)))), x.n1, x.n2, x.mp⟩
theorem Qf.lt {w : World} {f g : Nat} {ev : Value} {q : Nat} {nv : Value} {F : Fa} {mr : Value} (x : Qf w f g ev q nv F mr) : ∀ k, qfX f g ev q nv k → k < w.heap.size := by
  rintro k (rfl | rfl | rfl | y | y)
  · exact x.hd.lt (by omega)
  · exact x.kt.lt' _ (.inl rfl)
  · exact x.kt.lt' _ (.inr (.inl rfl))
  · exact x.kt.lt' _ (.inr (.inr y))
  · exact x.ns.lt k y
theorem Qf.nm {w : World} {f g : Nat} {ev : Value} {q : Nat} {nv : Value} {F : Fa} {mr : Value} (x : Qf w f g ev q nv F mr) : ∀ k, mB mr k → ¬ qfX f g ev q nv k := by
  rintro k hk (y | y | y | y | y)
  · exact (x.mp k hk).1 y
  · exact (x.kt.mp k hk).1 y
  · exact (x.kt.mp k hk).2.1 y
  · exact (x.kt.mp k hk).2.2 y
  · exact (x.mp k hk).2 y
def QfX (w : World) (f : Nat) (F : Fa) (mr : Value) (X : Nat → Prop) : Prop := ∃ g ev q nv, Qf w f g ev q nv F mr ∧ X = qfX f g ev q nv
theorem QfX.same {w w' : World} {f : Nat} {F : Fa} {mr : Value} {X : Nat → Prop} (x : QfX w f F mr X) (e : ∀ k, X k → w'.heap[k]? = w.heap[k]?) : QfX w' f F mr X := by
  obtain ⟨g, ev, q, nv, h1, rfl⟩ := x
  exact ⟨g, ev, q, nv, h1.same e, rfl⟩
theorem QfX.lt {w : World} {f : Nat} {F : Fa} {mr : Value} {X : Nat → Prop} (x : QfX w f F mr X) : ∀ k, X k → k < w.heap.size := by
  obtain ⟨g, ev, q, nv, h1, rfl⟩ := x
  exact h1.lt
theorem QfX.nm {w : World} {f : Nat} {F : Fa} {mr : Value} {X : Nat → Prop} (x : QfX w f F mr X) : ∀ k, mB mr k → ¬ X k := by
  obtain ⟨g, ev, q, nv, h1, rfl⟩ := x
  exact h1.nm
/-- The document's namespace. -/
def qsF (f : Nat) (rv ov : Value) (v : Nat) : Nat → Value
  | 0 => .pointer (some ⟨f, 0, none⟩)
  | 1 => rv
  | 2 => ov
  | _ => .int .i64 (v : Int)
def Qs (w : World) (s f : Nat) (mr : Value) (v : Nat) (X : Nat → Prop) : Stn → Prop
  | .row vs => ∃ vv, Blk w s 4 (qsF f vv (.pointer none) v) ∧ IntsR 0 w vv vs ∧ vv.ownBlock ≠ some s ∧ X = fun k => k = s ∨ vv.ownBlock = some k
  | .own t => ∃ g ev q, Blk w s 4 (qsF f (.slice none 0 0) (.pointer (some ⟨g, 0, none⟩)) v) ∧ RtS w g ev q t mr ∧ ¬ (s = g ∨ s = q ∨ ev.ownBlock = some s) ∧ X = fun k => k = s ∨ k = g ∨ k = q ∨ ev.ownBlock = some k
theorem Qs.same {w w' : World} {s f : Nat} {mr : Value} {v : Nat} {X : Nat → Prop} {st : Stn} (x : Qs w s f mr v X st) (e : ∀ k, X k → w'.heap[k]? = w.heap[k]?) : Qs w' s f mr v X st := by
  cases st with
  | row vs =>
    obtain ⟨vv, h1, h2, h3, rfl⟩ := x
    exact ⟨vv, h1.same (e s (.inl rfl)), h2.same0 fun k hk => e k (.inr hk), h3, rfl⟩
  | own t =>
    obtain ⟨g, ev, q, h1, h2, h3, rfl⟩ := x
    exact ⟨g, ev, q, h1.same (e s (.inl rfl)), h2.same fun k hk => e k (.inr hk), h3, rfl⟩
theorem Qs.lt {w : World} {s f : Nat} {mr : Value} {v : Nat} {X : Nat → Prop} {st : Stn} (x : Qs w s f mr v X st) : ∀ k, X k → k < w.heap.size := by
  cases st with
  | row vs =>
    obtain ⟨vv, h1, h2, h3, rfl⟩ := x
    rintro k (rfl | hk)
    · exact h1.lt (by omega)
    · exact h2.lt0 k hk
  | own t =>
    obtain ⟨g, ev, q, h1, h2, h3, rfl⟩ := x
    rintro k (rfl | hk)
    · exact h1.lt (by omega)
    · exact h2.lt' k hk
/-- The document's family, and one of its namespaces. -/
structure Qp (w : World) (f : Nat) (F : Fa) (mr : Value) (XF : Nat → Prop) (s : Nat) (st : Stn) (v : Nat) (XS : Nat → Prop) : Prop where
  fm : QfX w f F mr XF
  sm : Qs w s f mr v XS st
  ap : ∀ k, XF k → ¬ XS k
  mq : ∀ k, mB mr k → ¬ XS k
/-- What a call of the document's namespace leaves. -/
structure QsR (w : World) (f : Nat) (mr : Value) (XF XS : Nat → Prop) (s : Nat) (F' : Fa) (st' : Stn) (v' : Nat) (a' b' c' d' : Int) (w' : World) (XF' XS' : Nat → Prop) : Prop where
  qp : Qp w' f F' mr XF' s st' v' XS'
  n : Ms w' mr a' b' c' d'
  hf : ∀ k, XF' k → XF k ∨ w.heap.size ≤ k
  hs : ∀ k, XS' k → XS k ∨ w.heap.size ≤ k
  ex : Ex (fun k => XF k ∨ XS k ∨ mB mr k) w w'
theorem Fnd.lt {es : List En} {k : Int} {n : Nat} (h : Fnd es k n) : n < es.length := h.1
theorem Fa.Ok.nle {hs : ByteArray → Int} {F : Fa} {c : Nat} (h : F.Ok hs c) : Nl hs F.all (liveL F.kt.es) := by rw [live_all h.dead]; exact h.nl
/-- What a Set does is one. -/
theorem SetR.uniq {hs : ByteArray → Int} {F : Fa} {s : ByteArray} {x : Int} {c : Nat} {st st1 st2 : Stn} {F1 F2 : Fa} {e1 e2 : Int} {c1 c2 d1 d2 : Nat} (hF : F.Ok hs c) (hst : st.Ok hs F c) (a : SetR hs F s x st F1 st1 e1 c1 d1) (b : SetR hs F s x st F2 st2 e2 c2 d2) : F1 = F2 ∧ st1 = st2 ∧ e1 = e2 ∧ c1 = c2 ∧ d1 = d2 := by
  cases st with
  | row vs =>
    have one := fun {n m : Nat} {k : Int} (p : Fnd F.kt.es k n) (q : Fnd F.kt.es k m) => hF.nle.one p q
    rcases a with ⟨hk, hn, hl⟩ | _ | ⟨hk, hn, hm⟩ | _ | ⟨hk, hn, hm⟩ | ⟨hk, hn, hm, hl, hr⟩ | ⟨hk, hn, hm, hl⟩ | _ <;> rcases b with ⟨gk, gn, gl⟩ | _ | ⟨gk, gn, gm⟩ | _ | ⟨gk, gn, gm⟩ | ⟨gk, gn, gm, gl, gr⟩ | ⟨gk, gn, gm, gl⟩ | _ <;> have ek := hk.uniq hF.nd gk <;> subst ek
    · obtain rfl := one hn gn; exact ⟨rfl, rfl, rfl, rfl, rfl⟩
    · have := gn _ hn; omega
    · have := one hn gn; omega
    · exact absurd hn (gn _)
    · have := gn _ hn; omega
    · have := hn _ gn; omega
    · exact ⟨rfl, rfl, rfl, rfl, rfl⟩
    · omega
    · omega
    · omega
    · have := one hn gn; omega
    · omega
    · exact ⟨rfl, rfl, rfl, rfl, rfl⟩
    · exact absurd hn (gn _)
    · have := gn _ hn; omega
    · exact absurd gn (hn _)
    · omega
    · exact absurd gn (hn _)
    · exact ⟨rfl, rfl, rfl, rfl, rfl⟩
    · exact absurd ⟨hl, hr⟩ gl
    · have := hn _ gn; omega
    · omega
    · have := hn _ gn; omega
    · exact absurd ⟨gl, gr⟩ hl
    · exact ⟨rfl, rfl, rfl, rfl, rfl⟩
  | own t =>
    have one := fun {n m : Nat} {k : Int} (p : Fnd t.es k n) (q : Fnd t.es k m) => hst.2.1.one p q
    rcases a with _ | ⟨hk, hn⟩ | _ | ⟨hk, hn, hm⟩ | _ | _ | _ | ⟨hk, hn, hm⟩ <;> rcases b with _ | ⟨gk, gn⟩ | _ | ⟨gk, gn, gm⟩ | _ | _ | _ | ⟨gk, gn, gm⟩ <;> have ek := hk.uniq hF.nd gk <;> subst ek
    · obtain rfl := one hn gn; exact ⟨rfl, rfl, rfl, rfl, rfl⟩
    · exact absurd hn (gn _)
    · exact absurd hn (gn _)
    · exact absurd gn (hn _)
    · exact ⟨rfl, rfl, rfl, rfl, rfl⟩
    · omega
    · exact absurd gn (hn _)
    · omega
    · exact ⟨rfl, rfl, rfl, rfl, rfl⟩
theorem DelR.uniq {hs : ByteArray → Int} {F : Fa} {s : ByteArray} {c : Nat} {st st1 st2 : Stn} {e1 e2 : Int} {d1 d2 : Nat} (hF : F.Ok hs c) (hst : st.Ok hs F c) (a : DelR F s st st1 e1 d1) (b : DelR F s st st2 e2 d2) : st1 = st2 ∧ e1 = e2 ∧ d1 = d2 := by
  cases st with
  | row vs =>
    have one := fun {n m : Nat} {k : Int} (p : Fnd F.kt.es k n) (q : Fnd F.kt.es k m) => hF.nle.one p q
    rcases a with ⟨hk, hn⟩ | _ | ⟨hk, hn, hl⟩ | _ <;> rcases b with ⟨gk, gn⟩ | _ | ⟨gk, gn, gl⟩ | _ <;> have ek := hk.uniq hF.nd gk <;> subst ek
    · exact ⟨rfl, rfl, rfl⟩
    · have := hn _ gn; omega
    · have := gn _ hn; omega
    · obtain rfl := one hn gn; exact ⟨rfl, rfl, rfl⟩
  | own t =>
    have one := fun {n m : Nat} {k : Int} (p : Fnd t.es k n) (q : Fnd t.es k m) => hst.2.1.one p q
    rcases a with _ | ⟨hk, hn⟩ | _ | ⟨hk, hn⟩ <;> rcases b with _ | ⟨gk, gn⟩ | _ | ⟨gk, gn⟩ <;> have ek := hk.uniq hF.nd gk <;> subst ek
    · exact ⟨rfl, rfl, rfl⟩
    · exact absurd gn (hn _)
    · exact absurd hn (gn _)
    · obtain rfl := one hn gn; exact ⟨rfl, rfl, rfl⟩
theorem Tb.Ok.pos {t : Tb} (h : t.Ok) {n : Nat} (hn : n < t.es.length) (hl : (nth t.es n).live = true) : ∃ p, Pos t.es t.L t.c n p := h.inv.pos n hn hl
theorem SkR.uniq {hs : ByteArray → Int} {all : List ByteArray} {t : Tb} {u k r1 r2 : Int} {j1 j2 : Nat} (hO : t.Ok) (hN : Nl hs all (liveL t.es)) (hE : ∃ f, IsF t.c (uw u) t.L f) (a : SkR t u k r1 j1) (b : SkR t u k r2 j2) : r1 = r2 ∧ j1 = j2 := by
  rcases a with ⟨n, rfl, h1, h2⟩ | ⟨rfl, h1, h2⟩ <;> rcases b with ⟨m, rfl, g1, g2⟩ | ⟨rfl, g1, g2⟩
  · obtain rfl := hN.one h1 g1
    obtain ⟨p, hp⟩ := hO.pos h1.1 h1.2.1
    exact ⟨rfl, (h2 p hp).trans (g2 p hp).symm⟩
  · exact absurd h1 (g1 _)
  · exact absurd g1 (h1 _)
  · obtain ⟨p, hp⟩ := hE
    exact ⟨rfl, (h2 p hp).trans (g2 p hp).symm⟩
theorem GetR.uniq {hs : ByteArray → Int} {F : Fa} {c : Nat} {nm : ByteArray} {st : Stn} {x y : Int} {o p : Bool} (hF : F.Ok hs c) (hst : st.Ok hs F c) (a : GetR F nm st x o) (b : GetR F nm st y p) : x = y ∧ o = p := by
  cases st with
  | row vs =>
    obtain ⟨k, hk, h⟩ := a
    obtain ⟨k', gk, g⟩ := b
    obtain rfl := hk.uniq hF.nd gk
    rcases h with ⟨n, h1, h2, rfl, rfl⟩ | ⟨h1, rfl, rfl⟩ <;> rcases g with ⟨m, g1, g2, rfl, rfl⟩ | ⟨g1, rfl, rfl⟩
    · obtain rfl := hF.nle.one h1 g1; exact ⟨rfl, rfl⟩
    · have := g1 _ h1; omega
    · have := h1 _ g1; omega
    · exact ⟨rfl, rfl⟩
  | own t =>
    obtain ⟨k, hk, h⟩ := a
    obtain ⟨k', gk, g⟩ := b
    obtain rfl := hk.uniq hF.nd gk
    rcases h with ⟨n, h1, rfl, rfl⟩ | ⟨h1, rfl, rfl⟩ <;> rcases g with ⟨m, g1, rfl, rfl⟩ | ⟨g1, rfl, rfl⟩
    · obtain rfl := hst.2.1.one h1 g1; exact ⟨rfl, rfl⟩
    · exact absurd h1 (g1 _)
    · exact absurd g1 (h1 _)
    · exact ⟨rfl, rfl⟩
end Go.Proofs.YtcbhpjpkjmlcnaaGreat
namespace Go.Proofs.YtcbhpjpkjmlcnaaGreat
open Go.RowKit Go.WideShapes

theorem txq_ne {s t : ByteArray} (h : s ≠ t) : (s.toList == t.toList) = false := by
  rw [beq_eq_false_iff_ne]
  intro e
  rw [ByteArray.toList_eq, ByteArray.toList_eq] at e
  exact h (ByteArray.ext (Array.ext' e))
theorem Ns.opn {w : World} {v : Value} {l : List ByteArray} (h : Ns w v l) : ∃ a cap g, v = .slice a l.length cap ∧ l.length ≤ cap ∧ (0 < l.length → a = some ⟨g, 0, none⟩ ∧ v.ownBlock = some g) ∧ ∀ (j : Nat) s, l[j]? = some s → w.cell? ⟨g, j, none⟩ = some (.string s) := by
  have h0 : w.ownsRow 0 9 1 v l.length (l.map Value.string) := h
  rcases h0.2 with ⟨rfl, h1⟩ | ⟨g, cap, cur, rfl, hg, hh, hc, _⟩
  · exact ⟨none, 0, 0, by rw [h1], by omega, fun h => by omega, fun j s hj => by have := (List.getElem?_eq_some_iff.1 hj).1; omega⟩
  · refine ⟨_, cap, g, rfl, hc, fun _ => ⟨rfl, rfl⟩, fun j s hj => ?_⟩
    have hl := (List.getElem?_eq_some_iff.1 hj).1
    rw [h0.cellAt _ (by omega), List.getElem?_map, hj]
    rfl
set_option maxRecDepth 100000 in
set_option maxHeartbeats 4000000 in
theorem rnumber_any {w : World} {f : Nat} {nv : Value} {all : List ByteArray} (k3 : w.cell? ⟨f, 3, none⟩ = some nv) (hN : Ns w nv all) (hl : all.length ≤ 100000) (nd : all.Nodup) {nm : ByteArray} {k : Int} (hk : Num all nm k) :
    Calls Tryz.prog 67 #[.pointer (some ⟨f, 0, none⟩), .string nm] w fun e w' => e = .returned (.int .i64 k) ∧ w' = w := by
  obtain ⟨a, cap, g, rfl, hcap, hg, hc⟩ := hN.opn
  have HC := Lib.hid hc
  have HG := Lib.hid hg
  clear hN hc hg
  generalize hn : all.length = n at *
  go_enter Tryz.func67, Tryz.ntmps67
  go_wp2_with fail
  go_loopw [5] (fun iv wr => wr = w ∧ ∃ i : Nat, i ≤ n ∧ iv = .int .i64 (i : Int) ∧ ∀ j, j < i → all[j]? ≠ some nm) (fun iv _ => n - (intOf iv).toNat)
  case atStart => exact ⟨rfl, 0, Nat.zero_le _, rfl, fun j h => absurd h (Nat.not_lt_zero _)⟩
  case round =>
    obtain ⟨rfl, i, hi, rfl, hno⟩ := hrel
    have HNO := Lib.hid hno
    clear hno
    by_cases hin : i < n
    · have ti : (i : Int) < (n : Int) := by omega
      obtain ⟨rfl, _⟩ := HG.out (by omega)
      have hil : i < all.length := by rw [hn]; exact hin
      obtain ⟨sx, hsx⟩ : ∃ y, all[i] = y := ⟨_, rfl⟩
      have hx : all[i]? = some sx := by rw [List.getElem?_eq_getElem hil, hsx]
      have p1 := HC.out i sx hx
      have e5 : IntKind.i64.wrap ((i : Int) + 1) = ((i + 1 : Nat) : Int) := by rw [i64_small (by omega) (by omega)]; omega
      have HX := Lib.hid hx
      clear hx hsx hil
      by_cases hs : sx = nm
      · subst hs
        have hki : k = (i : Int) := hk.uniq nd (.inl ⟨i, rfl, HX.out⟩)
        subst hki
        go_wp2_with fail
        go_ret
        exact ⟨rfl, rfl⟩
      · have heq := txq_ne hs
        have HNE : Hid (∀ j, j < i + 1 → all[j]? ≠ some nm) := fun j hj => by
          rcases Nat.lt_or_ge j i with y | y
          · exact HNO.out j y
          · rw [show j = i by omega, HX.out]
            intro e
            injection e with e
            exact hs e
        go_wp2_with fail
        go_roundw
        case rel => exact ⟨by first | rfl | trivial, i + 1, by omega, by go_num, HNE.out⟩
        case measure => simp [intOf]; omega
    · have ti : ¬ (i : Int) < (n : Int) := by omega
      have hki : k = -1 := by
        rcases hk with ⟨m, rfl, hm⟩ | ⟨h, _⟩
        · have := (List.getElem?_eq_some_iff.1 hm).1
          exact absurd hm (HNO.out m (by omega))
        · exact h
      subst hki
      go_wp2_with fail
      go_ret
      exact ⟨rfl, rfl⟩
/-- What find tells of what the search told. -/
def fdR (st : Stn) (res : Int) : Int := match st with
  | .row vs => if res < (vs.length : Int) then res else -1
  | .own _ => res
theorem pin_at {es : List En} {L : Nat} {c : Nat → Int} {u : Int} {told : Int} {n j : Nat} (ho : Of es u n) (hl : told < (n : Int)) (hc : c (trl (uw u) L j) = (n : Int)) (hT : Told es L c u j told) : ∀ p, Pos es L c n p → p = j := by
  intro p hp
  rcases Nat.lt_trichotomy p j with e | e | e
  · have := (hT n ho p hp).1 e; omega
  · exact e
  · have := (hp.2 j e).2; rw [ho.2.2, hc] at this; omega
/-- How far a search has come. -/
def seekM (f s : Nat) (wr : World) : Nat := match wr.cell? ⟨s, 6, none⟩ with
  | some (.int .i64 n) => f + 1 - n.toNat
  | _ => 0
/-- The search under way, behind its i-th cell. -/
structure Sek (w wr : World) (s g : Nat) (t : Tb) (mr : Value) (u k : Int) (a b c d : Int) (f i : Nat) (told : Int) : Prop where
  bk : Blk wr s 8 (sF g u t.turn (trl (uw u) t.L i) (uw u / 32 ^ i) false i told)
  td : Told t.es t.L t.c u i told
  no : ∀ m, Of t.es u m → (m : Int) ≤ told → (nth t.es m).key ≠ k
  le : i ≤ f
  ge : -1 ≤ told
  ms : Ms wr mr a (b + (i : Int)) c d
  ex : Ex (mB mr) w wr
theorem Sek.upto {w wr w2 : World} {s g : Nat} {t : Tb} {mr : Value} {u k : Int} {a b c d : Int} {f i j : Nat} {told last : Int} {over : Bool} (h : Sek w wr s g t mr u k a b c d f i told) (hs : w.heap.size ≤ s) (hR : Rk w2 s g u t mr a (b + (i : Int)) c d wr i i last (j + 1) over) (hij : i ≤ j) : Ms w2 mr a (b + ((j + 1 : Nat) : Int)) c d ∧ Ex (mB mr) w w2 := by
  refine ⟨?_, h.ex.next hR.ex (fun x hl y => y.elim (fun e => by omega) id)⟩
  have := hR.ms
  rw [show b + (i : Int) + ((j + 1 - i : Nat) : Int) = b + ((j + 1 : Nat) : Int) by omega] at this
  exact this
theorem Sek.step {w wr w2 : World} {s g : Nat} {t : Tb} {mr : Value} {u k : Int} {a b c d : Int} {f i j n : Nat} {told : Int} (h : Sek w wr s g t mr u k a b c d f i told) (hs : w.heap.size ≤ s) (hR : Rk w2 s g u t mr a (b + (i : Int)) c d wr i i (n : Int) (j + 1) false) (hij : i ≤ j) (hjf : j ≤ f) (hF : IsF t.c (uw u) t.L f) (hc : t.c (trl (uw u) t.L j) = (n : Int)) (hT : Told t.es t.L t.c u (j + 1) (n : Int)) (hmin : ∀ m, Of t.es u m → told < (m : Int) → n ≤ m) (hn : (nth t.es n).key ≠ k) : Sek w w2 s g t mr u k a b c d f (j + 1) (n : Int) := by
  obtain ⟨h1, h2⟩ := h.upto hs hR hij
  have hne : j ≠ f := fun e => by have := hF.1; rw [← e, hc] at this; omega
  have hb := hR.bk
  rw [show i + (j + 1 - i) = j + 1 by omega] at hb
  refine ⟨hb, hT, fun m hm hle => ?_, by omega, by omega, h1, h2⟩
  rcases (by omega : (m : Int) ≤ told ∨ told < (m : Int)) with z | z
  · exact h.no m hm z
  · have := hmin m hm z
    rw [show m = n by omega]
    exact hn
theorem Sek.miss {w wr : World} {s g : Nat} {t : Tb} {mr : Value} {u k : Int} {a b c d : Int} {f i : Nat} {told : Int} {hs : ByteArray → Int} {all : List ByteArray} {nm : ByteArray} (h : Sek w wr s g t mr u k a b c d f i told) (hN : Nl hs all (liveL t.es)) (hk : Num all nm k) (hu : hs nm = u) (hF : IsF t.c (uw u) t.L f) (hend : ∀ n, Of t.es u n → (n : Int) ≤ told) : SkR t u k (-1) (f + 1) := by
  refine .inr ⟨rfl, fun n hn => ?_, fun p hp => by rw [hp.uniq hF]⟩
  have ho := hN.of hk hn
  rw [hu] at ho
  exact h.no n ho (hend n ho) hn.2.2
theorem Sek.found {w wr : World} {s g : Nat} {t : Tb} {mr : Value} {u k : Int} {a b c d : Int} {f i j n : Nat} {told : Int} (_ : Sek w wr s g t mr u k a b c d f i told) (ho : Of t.es u n) (hl : told < (n : Int)) (hc : t.c (trl (uw u) t.L j) = (n : Int)) (hT : Told t.es t.L t.c u j told) (hk : (nth t.es n).key = k) : SkR t u k (n : Int) (j + 1) :=
  .inl ⟨n, rfl, ⟨ho.1, ho.2.1, hk⟩, fun p hp => by rw [pin_at ho hl hc hT p hp]⟩
theorem Sek.meas {w wr : World} {s g : Nat} {t : Tb} {mr : Value} {u k : Int} {a b c d : Int} {f i : Nat} {told : Int} (h : Sek w wr s g t mr u k a b c d f i told) : seekM f s wr = f + 1 - i := by
  have k6 : wr.cell? ⟨s, 6, none⟩ = some (.int .i64 (i : Int)) := h.bk.c 6 (by omega)
  unfold seekM
  rw [k6]
  simp
theorem Sek.drew {w wr : World} {s g : Nat} {t : Tb} {mr : Value} {u k : Int} {a b c d : Int} {f i : Nat} {told : Int} (h : Sek w wr s g t mr u k a b c d f i told) : Sek w wr.drew s g t mr u k a b c d f i told := ⟨h.bk.same rfl, h.td, h.no, h.le, h.ge, h.ms.same fun _ _ => rfl, h.ex.drew⟩
theorem Of.fnd {es : List En} {u k : Int} {n : Nat} (h : Of es u n) (hk : (nth es n).key = k) : Fnd es k n := ⟨h.1, h.2.1, hk⟩
theorem Nl.txt {hs : ByteArray → Int} {all : List ByteArray} {es : List En} (h : Nl hs all (liveL es)) {n : Nat} (hn : n < es.length) (hl : (nth es n).live = true) : ∃ (k : Nat) (s : ByteArray), all[k]? = some s ∧ (nth es n).key = (k : Int) := by
  obtain ⟨k, s, h1, h2, _⟩ := h.nm _ (live_mem hn hl)
  exact ⟨k, s, h1, h2⟩
end Go.Proofs.YtcbhpjpkjmlcnaaGreat
namespace Go.Proofs.YtcbhpjpkjmlcnaaGreat
open Go.RowKit Go.WideShapes

theorem eqQ7 (g : Nat) (w : World) : (binOp .eql 75 (.pointer (some ⟨g, 0, none⟩)) (.pointer none)).run Tryz.prog w = .ok (.bool false) w := by kernel_rfl
theorem eqQ7n (w : World) : (binOp .eql 75 (.pointer none) (.pointer none)).run Tryz.prog w = .ok (.bool true) w := by kernel_rfl
theorem Qf.met {w w' : World} {f g : Nat} {ev : Value} {q : Nat} {nv : Value} {F : Fa} {mr : Value} (x : Qf w f g ev q nv F mr) (e : Ex (mB mr) w w') : Qf w' f g ev q nv F mr := x.same fun k hk => e.block k (x.lt k hk) (fun y => x.nm k y hk)
theorem Rt.metS {w w' : World} {g : Nat} {ev : Value} {q : Nat} {t : Tb} {mr : Value} (x : Rt w g ev q t mr) (e : Ex (mB mr) w w') : Rt w' g ev q t mr := x.same fun k hk => e.block k (x.lt' k hk) (fun y => by
  obtain ⟨m1, m2, m3⟩ := x.mp k y
  rcases hk with z | z | z
  · exact m1 z
  · exact m2 z
  · exact m3 z)
/-- What a search tells. -/
def FdQ (w : World) (mr : Value) (t : Tb) (u k : Int) (g : Int → Int) (a b c d : Int) (e : Ending) (w' : World) : Prop := ∃ (res : Int) (jj : Nat), e = .returned (.int .i64 (g res)) ∧ SkR t u k res jj ∧ Ms w' mr a (b + (jj : Int)) c d ∧ Ex (mB mr) w w'
theorem r7text (s : ByteArray) (w : World) (hs : s.size ≤ 3000) : Calls Tryz.prog 70 #[.string s] w fun e w' => e = .returned (.int .i64 (hsT s)) ∧ w' = w := rtext_any s w hs
set_option maxRecDepth 100000 in
set_option maxHeartbeats 8000000 in
theorem rfind_row {w : World} {s f gk qk : Nat} {evk nv : Value} {F : Fa} {pr : Option Addr} {av : Option Addr} {nn capv : Nat} {a b c d : Int} (hQf : Qf w f gk evk qk nv F (.pointer pr)) (k0 : w.cell? ⟨s, 0, none⟩ = some (.pointer (some ⟨f, 0, none⟩))) (k1 : w.cell? ⟨s, 1, none⟩ = some (.slice av nn capv)) (k2 : w.cell? ⟨s, 2, none⟩ = some (.pointer none)) (hns : ∀ k, mB (.pointer pr) k → k ≠ s) (hM : Ms w (.pointer pr) a b c d) (hb : 0 ≤ b ∧ b ≤ 10000000000) (hO : F.kt.Ok) (hN : Nl hsT F.all (liveL F.kt.es)) (nd : F.all.Nodup) (hl : F.all.length ≤ 100000) {nm : ByteArray} (hs3 : nm.size ≤ 3000) {k : Int} (hk : Num F.all nm k) :
    Calls Tryz.prog 65 #[.pointer (some ⟨s, 0, none⟩), .string nm] w fun e w' => FdQ w (.pointer pr) F.kt (hsT nm) k (fun res => if res < (nn : Int) then res else -1) a b c d e w' := by
  have hlen : F.kt.es.length ≤ 100000 := Nat.le_trans hO.few hO.all
  have hT := hQf.kt
  obtain ⟨fi, hfi, hF⟩ := hO.inv.first (hsT nm)
  have hP2 : 2 ^ F.kt.L ≤ 1048576 := Nat.le_trans (Nat.pow_le_pow_right (n := 2) (by decide) hO.sz.2) (by decide)
  have C1 := r7text nm w hs3
  have C2 := rseek_s hT (hsT nm)
  have f2 : w.cell? ⟨f, 2, none⟩ = some (.pointer (some ⟨gk, 0, none⟩)) := hQf.hd.c 2 (by omega)
  have e1 := eqQ7 gk
  have e2 := eqQ7n
  -- what stays
  obtain ⟨an, capn, gn, env, _, hgn, hcn⟩ := hQf.ns.opn
  have hKEEP : Hid (∀ V, Ex (mB (.pointer pr)) w V → RtS V gk evk qk F.kt (.pointer pr) ∧ V.cell? ⟨s, 0, none⟩ = some (.pointer (some ⟨f, 0, none⟩)) ∧ V.cell? ⟨s, 2, none⟩ = some (.pointer none) ∧ V.cell? ⟨s, 1, none⟩ = some (.slice av nn capv) ∧ V.cell? ⟨f, 3, none⟩ = some (.slice an F.all.length capn) ∧ ∀ (j : Nat) x, F.all[j]? = some x → V.cell? ⟨gn, j, none⟩ = some (.string x)) := fun V e => by
    have h2 := hQf.met e
    have es : V.heap[s]? = w.heap[s]? := e.block s (lt_of_cell k0) (fun y => hns s y rfl)
    refine ⟨h2.kt, (World.cell?_of_block (a := ⟨s, 0, none⟩) es).trans k0, (World.cell?_of_block (a := ⟨s, 2, none⟩) es).trans k2, (World.cell?_of_block (a := ⟨s, 1, none⟩) es).trans k1, by rw [← env]; exact h2.hd.c 3 (by omega), fun j x hx => ?_⟩
    obtain ⟨_, hob⟩ := hgn (by have := (List.getElem?_eq_some_iff.1 hx).1; omega)
    have := hcn j x hx
    exact (World.cell?_of_block (a := ⟨gn, j, none⟩) (e.block gn (lt_of_cell this) (fun y => (hQf.mp gn y).2 hob))).trans this
  have HG : Hid (0 < F.all.length → an = some ⟨gn, 0, none⟩) := fun h => (hgn h).1
  have HI := Lib.hid hO.inv
  have HN := Lib.hid hN
  have HT := Lib.hid hT
  have HF := Lib.hid hF
  have HND := Lib.hid nd
  have HM := Lib.hid hM
  have HNM : Hid (∀ x, w.heap.size ≤ x → x ≠ gk ∧ x ≠ qk ∧ evk.ownBlock ≠ some x) := fun x hx => ⟨fun e => by have := hT.lt' _ (.inl rfl); omega, fun e => by have := hT.lt' _ (.inr (.inl rfl)); omega, fun e => by have := hT.lt' _ (.inr (.inr e)); omega⟩
  have HMB : Hid (∀ x, mB (.pointer pr) x → x < w.heap.size) := fun x hx => hM.lt x hx
  have hna : F.all.length ≤ 100000 := hl
  clear hQf hT hM hO hN hcn hgn env nd hns hl
  generalize hU : hsT nm = U at *
  generalize hNA : F.all.length = na at *
  generalize hNE : F.kt.es.length = ne at *
  go_enter Tryz.func65, Tryz.ntmps65
  go_wp2_with fail
  refine C1.mono ?_
  rintro e w0 ⟨rfl, rfl⟩
  clear C1
  go_wp2_with fail
  refine C2.mono ?_
  rintro e w1 ⟨sk, rfl, hsk, hB, hb1⟩
  clear C2 k0 k2 f2 e1 k1
  have hms1 := HM.out.below hb1
  have hSek : Sek w0 w1 sk gk F.kt (.pointer pr) U k a b c d fi 0 (-1) := ⟨by simpa using hB, told_zero _ _ _ _, fun m hm hle => by omega, Nat.zero_le _, Int.le_refl _, by simpa using hms1, ex_of hb1⟩
  have HS0 := Lib.hid hSek
  clear hSek hB hb1 hms1
  go_wp2_with fail
  go_loopw [7, 8] (fun _ _ wr => ∃ i told, Sek w0 wr sk gk F.kt (.pointer pr) U k a b c d fi i told) (fun _ _ wr => seekM fi sk wr)
  case atStart => exact ⟨0, -1, HS0.out⟩
  case round =>
    clear HS0
    obtain ⟨i, told, hS⟩ := hrel
    obtain ⟨hT, _⟩ := hKEEP.out wr hS.ex
    have hle := hS.le
    have hge := hS.ge
    have CX := rnext_s (s := sk) (i := i) (vis := i) (f := fi) (u := U) (last := told) hT HI.out hS.ms (HNM.out sk hsk) (fun y => by have := HMB.out sk y; omega) hS.bk hS.td HF.out hS.le hfi (by omega) (by omega) hge (by rw [hNE]; exact hlen)
    have HS := Lib.hid hS
    clear hS hT
    go_wp2_with fail
    refine CX.mono ?_
    rintro e w2 ⟨j, hj1, hj2, (⟨n, rfl, ho, hl, hc, hT1, hT2, hmin, hR⟩ | ⟨rfl, rfl, hend, hR⟩)⟩
    case inr =>
      have hSK := HS.out.miss HN.out hk hU HF.out hend
      have hup := HS.out.upto hsk hR hj1
      have HSK := Lib.hid hSK
      have HUP := Lib.hid hup
      clear CX hend hR hSK hup
      go_wp2_with fail
      go_ret
      exact ⟨-1, j + 1, by show _ = Ending.returned (.int .i64 (if (-1 : Int) < (nn : Int) then (-1 : Int) else -1)); split <;> rfl, HSK.out, HUP.out.1, HUP.out.2⟩
    case inl =>
      have hup := HS.out.upto hsk hR hj1
      obtain ⟨hTw, kp0, kp2, kp1, kp3, kpn⟩ := hKEEP.out w2 hup.2
      obtain ⟨ae, cape, ge, hev, hge0, hro⟩ := hTw.es.open
      have g0 : w2.cell? ⟨gk, 0, none⟩ = some (.slice ae F.kt.sh.es.length cape) := by rw [← hev]; exact hTw.hd.c 0 (by omega)
      rw [Tb.sh_len, hNE] at g0
      obtain ⟨kk, sx, hkx, hkey⟩ := HN.out.txt ho.1 ho.2.1
      have hnl : n < ne := by rw [← hNE]; exact ho.1
      have hkl : kk < na := by rw [← hNA]; exact (List.getElem?_eq_some_iff.1 hkx).1
      have gky : w2.cell? ⟨ge, n * 5 + 2, none⟩ = some (.int .i64 (kk : Int)) := by
        have := hro.c2 n (by rw [Tb.sh_len]; exact ho.1)
        rw [show nth F.kt.sh.es n = nth F.kt.es n from shown_hash ho.2.1, hkey] at this
        exact this
      have gs := kpn kk sx hkx
      obtain rfl := HG.out (by omega)
      have hae : ae = some ⟨ge, 0, none⟩ := (hge0 (by rw [Tb.sh_len]; have := ho.1; omega)).1
      subst hae
      have s0 : w2.drew.cell? ⟨s, 0, none⟩ = some (.pointer (some ⟨f, 0, none⟩)) ∧ w2.drew.cell? ⟨f, 3, none⟩ = some (.slice (some ⟨gn, 0, none⟩) na capn) ∧ w2.drew.cell? ⟨gk, 0, none⟩ = some (.slice (some ⟨ge, 0, none⟩) ne cape) ∧ w2.drew.cell? ⟨ge, n * 5 + 2, none⟩ = some (.int .i64 (kk : Int)) ∧ w2.drew.cell? ⟨gn, kk, none⟩ = some (.string sx) := ⟨kp0, kp3, g0, gky, gs⟩
      have t1 : (n : Int) < (ne : Int) := by omega
      have t2 : (kk : Int) < (na : Int) := by omega
      have d2 : w2.drew.cell? ⟨s, 2, none⟩ = some (.pointer none) := kp2
      have d1 : w2.drew.cell? ⟨s, 1, none⟩ = some (.slice av nn capv) := kp1
      have HUP := Lib.hid hup
      have hk0 : sx = nm → k = (kk : Int) := fun e => hk.uniq HND.out (.inl ⟨kk, rfl, by rw [← e]; exact hkx⟩)
      have hk1 : sx ≠ nm → (nth F.kt.es n).key ≠ k := fun e h9 => by
        rw [hkey] at h9
        rcases hk with ⟨m, h8, hm⟩ | ⟨h8, _⟩
        · rw [h8] at h9
          have : kk = m := by omega
          rw [← this, hkx] at hm
          injection hm with hm
          exact e hm
        · omega
      by_cases hs : sx = nm
      case pos =>
        have hSK := HS.out.found ho hl hc hT1 (by rw [hkey]; exact (hk0 hs).symm)
        have HSK := Lib.hid hSK
        subst hs
        clear CX ho hl hc hT1 hT2 hmin hR hSK hup hTw hro hev hge0 kp0 kp2 kp3 kpn g0 gky gs hkx hk0 hk1 hkey kp1
        go_upto_region 8 with fail
        go_region_held3 (fun V => V.cell? ⟨s, 0, none⟩ = some (.pointer (some ⟨f, 0, none⟩)) ∧ V.cell? ⟨f, 3, none⟩ = some (.slice (some ⟨gn, 0, none⟩) na capn) ∧ V.cell? ⟨gk, 0, none⟩ = some (.slice (some ⟨ge, 0, none⟩) ne cape) ∧ V.cell? ⟨ge, n * 5 + 2, none⟩ = some (.int .i64 (kk : Int)) ∧ V.cell? ⟨gn, kk, none⟩ = some (.string sx)) (first | with_reducible exact s0 | fail) (fail)
        clear s0
        by_cases hnn : (n : Int) < (nn : Int)
        case pos =>
          have t3 : ¬ (nn : Int) ≤ (n : Int) := by omega
          go_wp2_with fail
          go_ret
          have hMd : Ms w2.drew (.pointer pr) a (b + ((j + 1 : Nat) : Int)) c d := HUP.out.1.same fun _ _ => rfl
          have hfe : (if (n : Int) < (nn : Int) then (n : Int) else -1) = (n : Int) := if_pos (by omega)
          exact ⟨(n : Int), j + 1, congrArg (fun z => Ending.returned (.int .i64 z)) hfe.symm, HSK.out, hMd, HUP.out.2.drew⟩
        case neg =>
          have t3 : (nn : Int) ≤ (n : Int) := by omega
          go_wp2_with fail
          go_ret
          have hMd : Ms w2.drew (.pointer pr) a (b + ((j + 1 : Nat) : Int)) c d := HUP.out.1.same fun _ _ => rfl
          have hfe : (if (n : Int) < (nn : Int) then (n : Int) else -1) = -1 := if_neg (by omega)
          exact ⟨(n : Int), j + 1, congrArg (fun z => Ending.returned (.int .i64 z)) hfe.symm, HSK.out, hMd, HUP.out.2.drew⟩
      case neg =>
        have heq := txq_ne hs
        have hst := (HS.out.step hsk hR hj1 hj2 HF.out hc hT2 hmin (hk1 hs)).drew
        have HST := Lib.hid hst
        clear CX ho hl hc hT1 hT2 hmin hR hup hTw hro hev hge0 kp0 kp2 kp3 kpn g0 gky gs hkx hk0 hk1 hkey hst d2 kp1 d1
        go_upto_region 8 with fail
        go_region_held3 (fun V => V.cell? ⟨s, 0, none⟩ = some (.pointer (some ⟨f, 0, none⟩)) ∧ V.cell? ⟨f, 3, none⟩ = some (.slice (some ⟨gn, 0, none⟩) na capn) ∧ V.cell? ⟨gk, 0, none⟩ = some (.slice (some ⟨ge, 0, none⟩) ne cape) ∧ V.cell? ⟨ge, n * 5 + 2, none⟩ = some (.int .i64 (kk : Int)) ∧ V.cell? ⟨gn, kk, none⟩ = some (.string sx)) (first | with_reducible exact s0 | fail) (fail)
        clear s0
        go_wp2_with fail
        go_roundw
        case rel => exact ⟨j + 1, (n : Int), HST.out⟩
        case measure =>
          rw [HST.out.meas, HS.out.meas]
          have := HST.out.le
          omega
set_option maxRecDepth 100000 in
set_option maxHeartbeats 8000000 in
theorem rfind_own {w : World} {s f gk qk : Nat} {evk nv : Value} {F : Fa} {pr : Option Addr} {g q : Nat} {ev : Value} {t : Tb} {a b c d : Int} (hQf : Qf w f gk evk qk nv F (.pointer pr)) (hT : RtS w g ev q t (.pointer pr)) (k0 : w.cell? ⟨s, 0, none⟩ = some (.pointer (some ⟨f, 0, none⟩))) (k2 : w.cell? ⟨s, 2, none⟩ = some (.pointer (some ⟨g, 0, none⟩))) (hns : ∀ k, mB (.pointer pr) k → k ≠ s) (hM : Ms w (.pointer pr) a b c d) (hb : 0 ≤ b ∧ b ≤ 10000000000) (hO : t.Ok) (hN : Nl hsT F.all (liveL t.es)) (nd : F.all.Nodup) (hl : F.all.length ≤ 100000) {nm : ByteArray} (hs3 : nm.size ≤ 3000) {k : Int} (hk : Num F.all nm k) :
    Calls Tryz.prog 65 #[.pointer (some ⟨s, 0, none⟩), .string nm] w fun e w' => FdQ w (.pointer pr) t (hsT nm) k id a b c d e w' := by
  have hlen : t.es.length ≤ 100000 := Nat.le_trans hO.few hO.all
  obtain ⟨fi, hfi, hF⟩ := hO.inv.first (hsT nm)
  have hP2 : 2 ^ t.L ≤ 1048576 := Nat.le_trans (Nat.pow_le_pow_right (n := 2) (by decide) hO.sz.2) (by decide)
  have C1 := r7text nm w hs3
  have C2 := rseek_s hT (hsT nm)
  have f2 : w.cell? ⟨f, 2, none⟩ = some (.pointer (some ⟨gk, 0, none⟩)) := hQf.hd.c 2 (by omega)
  have e1 := eqQ7 g
  have e2 := eqQ7n
  -- what stays
  obtain ⟨an, capn, gn, env, _, hgn, hcn⟩ := hQf.ns.opn
  have hKEEP : Hid (∀ V, Ex (mB (.pointer pr)) w V → RtS V g ev q t (.pointer pr) ∧ V.cell? ⟨s, 0, none⟩ = some (.pointer (some ⟨f, 0, none⟩)) ∧ V.cell? ⟨s, 2, none⟩ = some (.pointer (some ⟨g, 0, none⟩)) ∧ V.cell? ⟨f, 3, none⟩ = some (.slice an F.all.length capn) ∧ ∀ (j : Nat) x, F.all[j]? = some x → V.cell? ⟨gn, j, none⟩ = some (.string x)) := fun V e => by
    have h2 := hQf.met e
    have es : V.heap[s]? = w.heap[s]? := e.block s (lt_of_cell k0) (fun y => hns s y rfl)
    refine ⟨hT.metS e, (World.cell?_of_block (a := ⟨s, 0, none⟩) es).trans k0, (World.cell?_of_block (a := ⟨s, 2, none⟩) es).trans k2, by rw [← env]; exact h2.hd.c 3 (by omega), fun j x hx => ?_⟩
    obtain ⟨_, hob⟩ := hgn (by have := (List.getElem?_eq_some_iff.1 hx).1; omega)
    have := hcn j x hx
    exact (World.cell?_of_block (a := ⟨gn, j, none⟩) (e.block gn (lt_of_cell this) (fun y => (hQf.mp gn y).2 hob))).trans this
  have HG : Hid (0 < F.all.length → an = some ⟨gn, 0, none⟩) := fun h => (hgn h).1
  have HI := Lib.hid hO.inv
  have HN := Lib.hid hN
  have HT := Lib.hid hT
  have HF := Lib.hid hF
  have HND := Lib.hid nd
  have HM := Lib.hid hM
  have HNM : Hid (∀ x, w.heap.size ≤ x → x ≠ g ∧ x ≠ q ∧ ev.ownBlock ≠ some x) := fun x hx => ⟨fun e => by have := hT.lt' _ (.inl rfl); omega, fun e => by have := hT.lt' _ (.inr (.inl rfl)); omega, fun e => by have := hT.lt' _ (.inr (.inr e)); omega⟩
  have HMB : Hid (∀ x, mB (.pointer pr) x → x < w.heap.size) := fun x hx => hM.lt x hx
  have hna : F.all.length ≤ 100000 := hl
  clear hQf hT hM hO hN hcn hgn env nd hns hl
  generalize hU : hsT nm = U at *
  generalize hNA : F.all.length = na at *
  generalize hNE : t.es.length = ne at *
  go_enter Tryz.func65, Tryz.ntmps65
  go_wp2_with fail
  refine C1.mono ?_
  rintro e w0 ⟨rfl, rfl⟩
  clear C1
  go_wp2_with fail
  refine C2.mono ?_
  rintro e w1 ⟨sk, rfl, hsk, hB, hb1⟩
  clear C2 k0 k2 f2 e1
  have hms1 := HM.out.below hb1
  have hSek : Sek w0 w1 sk g t (.pointer pr) U k a b c d fi 0 (-1) := ⟨by simpa using hB, told_zero _ _ _ _, fun m hm hle => by omega, Nat.zero_le _, Int.le_refl _, by simpa using hms1, ex_of hb1⟩
  have HS0 := Lib.hid hSek
  clear hSek hB hb1 hms1
  go_wp2_with fail
  go_loopw [7, 8] (fun _ _ wr => ∃ i told, Sek w0 wr sk g t (.pointer pr) U k a b c d fi i told) (fun _ _ wr => seekM fi sk wr)
  case atStart => exact ⟨0, -1, HS0.out⟩
  case round =>
    clear HS0
    obtain ⟨i, told, hS⟩ := hrel
    obtain ⟨hT, _⟩ := hKEEP.out wr hS.ex
    have hle := hS.le
    have hge := hS.ge
    have CX := rnext_s (s := sk) (i := i) (vis := i) (f := fi) (u := U) (last := told) hT HI.out hS.ms (HNM.out sk hsk) (fun y => by have := HMB.out sk y; omega) hS.bk hS.td HF.out hS.le hfi (by omega) (by omega) hge (by rw [hNE]; exact hlen)
    have HS := Lib.hid hS
    clear hS hT
    go_wp2_with fail
    refine CX.mono ?_
    rintro e w2 ⟨j, hj1, hj2, (⟨n, rfl, ho, hl, hc, hT1, hT2, hmin, hR⟩ | ⟨rfl, rfl, hend, hR⟩)⟩
    case inr =>
      have hSK := HS.out.miss HN.out hk hU HF.out hend
      have hup := HS.out.upto hsk hR hj1
      have HSK := Lib.hid hSK
      have HUP := Lib.hid hup
      clear CX hend hR hSK hup
      go_wp2_with fail
      go_ret
      exact ⟨-1, j + 1, rfl, HSK.out, HUP.out.1, HUP.out.2⟩
    case inl =>
      have hup := HS.out.upto hsk hR hj1
      obtain ⟨hTw, kp0, kp2, kp3, kpn⟩ := hKEEP.out w2 hup.2
      obtain ⟨ae, cape, ge, hev, hge0, hro⟩ := hTw.es.open
      have g0 : w2.cell? ⟨g, 0, none⟩ = some (.slice ae t.sh.es.length cape) := by rw [← hev]; exact hTw.hd.c 0 (by omega)
      rw [Tb.sh_len, hNE] at g0
      obtain ⟨kk, sx, hkx, hkey⟩ := HN.out.txt ho.1 ho.2.1
      have hnl : n < ne := by rw [← hNE]; exact ho.1
      have hkl : kk < na := by rw [← hNA]; exact (List.getElem?_eq_some_iff.1 hkx).1
      have gky : w2.cell? ⟨ge, n * 5 + 2, none⟩ = some (.int .i64 (kk : Int)) := by
        have := hro.c2 n (by rw [Tb.sh_len]; exact ho.1)
        rw [show nth t.sh.es n = nth t.es n from shown_hash ho.2.1, hkey] at this
        exact this
      have gs := kpn kk sx hkx
      obtain rfl := HG.out (by omega)
      have hae : ae = some ⟨ge, 0, none⟩ := (hge0 (by rw [Tb.sh_len]; have := ho.1; omega)).1
      subst hae
      have s0 : w2.drew.cell? ⟨s, 0, none⟩ = some (.pointer (some ⟨f, 0, none⟩)) ∧ w2.drew.cell? ⟨f, 3, none⟩ = some (.slice (some ⟨gn, 0, none⟩) na capn) ∧ w2.drew.cell? ⟨g, 0, none⟩ = some (.slice (some ⟨ge, 0, none⟩) ne cape) ∧ w2.drew.cell? ⟨ge, n * 5 + 2, none⟩ = some (.int .i64 (kk : Int)) ∧ w2.drew.cell? ⟨gn, kk, none⟩ = some (.string sx) := ⟨kp0, kp3, g0, gky, gs⟩
      have t1 : (n : Int) < (ne : Int) := by omega
      have t2 : (kk : Int) < (na : Int) := by omega
      have d2 : w2.drew.cell? ⟨s, 2, none⟩ = some (.pointer (some ⟨g, 0, none⟩)) := kp2
      have HUP := Lib.hid hup
      have hk0 : sx = nm → k = (kk : Int) := fun e => hk.uniq HND.out (.inl ⟨kk, rfl, by rw [← e]; exact hkx⟩)
      have hk1 : sx ≠ nm → (nth t.es n).key ≠ k := fun e h9 => by
        rw [hkey] at h9
        rcases hk with ⟨m, h8, hm⟩ | ⟨h8, _⟩
        · rw [h8] at h9
          have : kk = m := by omega
          rw [← this, hkx] at hm
          injection hm with hm
          exact e hm
        · omega
      by_cases hs : sx = nm
      case pos =>
        have hSK := HS.out.found ho hl hc hT1 (by rw [hkey]; exact (hk0 hs).symm)
        have HSK := Lib.hid hSK
        subst hs
        clear CX ho hl hc hT1 hT2 hmin hR hSK hup hTw hro hev hge0 kp0 kp2 kp3 kpn g0 gky gs hkx hk0 hk1 hkey
        go_upto_region 8 with fail
        go_region_held3 (fun V => V.cell? ⟨s, 0, none⟩ = some (.pointer (some ⟨f, 0, none⟩)) ∧ V.cell? ⟨f, 3, none⟩ = some (.slice (some ⟨gn, 0, none⟩) na capn) ∧ V.cell? ⟨g, 0, none⟩ = some (.slice (some ⟨ge, 0, none⟩) ne cape) ∧ V.cell? ⟨ge, n * 5 + 2, none⟩ = some (.int .i64 (kk : Int)) ∧ V.cell? ⟨gn, kk, none⟩ = some (.string sx)) (first | with_reducible exact s0 | fail) (fail)
        clear s0
        go_wp2_with fail
        go_ret
        have hMd : Ms w2.drew (.pointer pr) a (b + ((j + 1 : Nat) : Int)) c d := HUP.out.1.same fun _ _ => rfl
        exact ⟨(n : Int), j + 1, rfl, HSK.out, hMd, HUP.out.2.drew⟩
      case neg =>
        have heq := txq_ne hs
        have hst := (HS.out.step hsk hR hj1 hj2 HF.out hc hT2 hmin (hk1 hs)).drew
        have HST := Lib.hid hst
        clear CX ho hl hc hT1 hT2 hmin hR hup hTw hro hev hge0 kp0 kp2 kp3 kpn g0 gky gs hkx hk0 hk1 hkey hst d2
        go_upto_region 8 with fail
        go_region_held3 (fun V => V.cell? ⟨s, 0, none⟩ = some (.pointer (some ⟨f, 0, none⟩)) ∧ V.cell? ⟨f, 3, none⟩ = some (.slice (some ⟨gn, 0, none⟩) na capn) ∧ V.cell? ⟨g, 0, none⟩ = some (.slice (some ⟨ge, 0, none⟩) ne cape) ∧ V.cell? ⟨ge, n * 5 + 2, none⟩ = some (.int .i64 (kk : Int)) ∧ V.cell? ⟨gn, kk, none⟩ = some (.string sx)) (first | with_reducible exact s0 | fail) (fail)
        clear s0
        go_wp2_with fail
        go_roundw
        case rel => exact ⟨j + 1, (n : Int), HST.out⟩
        case measure =>
          rw [HST.out.meas, HS.out.meas]
          have := HST.out.le
          omega
end Go.Proofs.YtcbhpjpkjmlcnaaGreat
namespace Go.Proofs.YtcbhpjpkjmlcnaaGreat
open Go.RowKit Go.WideShapes

theorem mR_take (a : Option Addr) (w : World) : (method 342 117 (.pointer a) "lexicon/shared.take").run Tryz.prog w = .ok (175, .pointer a) w := by kernel_rfl
theorem mO_take (a : Option Addr) (w : World) : (method 342 229 (.pointer a) "lexicon/shared.take").run Tryz.prog w = .ok (181, .pointer a) w := by kernel_rfl
/-- What a Del tells and leaves. -/
def DelQ (w : World) (f : Nat) (F : Fa) (mv : Value) (N : Int → Int → Int → Int → World → Prop) (a b c d : Int) (XF : Nat → Prop) (s : Nat) (st : Stn) (v : Nat) (XS : Nat → Prop) (nm : ByteArray) (er : Int) (w' : World) : Prop :=
  ∃ st' dd, DelR F nm st st' er dd ∧ ∃ k res jj, Num F.all nm k ∧ SkR (tbS F st) (hsT nm) k res jj ∧ ∃ XF' XS', SsR w f mv N XF XS s F st' (if er = 0 then v + 1 else v) (a + (mdS st' : Int) - (mdS st : Int)) (b + (jj : Int)) c (d + (dd : Int)) w' XF' XS'
set_option maxRecDepth 100000 in
set_option maxHeartbeats 4000000 in
theorem del_own {w : World} {f : Nat} {F : Fa} {pm : Option Addr} {XF : Nat → Prop} {s : Nat} {t : Tb} {v : Nat} {XS : Nat → Prop} {N : Int → Int → Int → Int → World → Prop} {a b c d : Int} {c0 : Nat} (h : Fs w f F (.pointer pm) XF s (.own t) v XS) (hM4 : M4 (.pointer pm) N) (hM : N a b c d w) (hb : 0 ≤ b ∧ b ≤ 10000000000) (hO : F.Ok hsT c0) (hst : Stn.Ok hsT F c0 (.own t)) (hv : v ≤ 1000000000) (htu : t.turn ≤ 1000000) (hto : t.Ok) {nm : ByteArray} (hs : nm.size ≤ 3000) :
    Calls Tryz.prog 32 #[.pointer (some ⟨s, 0, none⟩), .string nm] w fun e w' => ∃ er : Int, e = .returned (.int .i64 er) ∧ DelQ w f F (.pointer pm) N a b c d XF s (.own t) v XS nm er w' := by
  obtain ⟨k, hk⟩ := num_ex F.all nm
  have CS := sseek_any h hM4 hM hb hO hst hs hk
  have hF0 := h
  obtain ⟨q, XQ, h1, h2, h3, h4⟩ := h.sm
  subst h4
  have CN := isNothing_no (h1.c 1 (by omega))
  have ls := h1.lt (by omega)
  have HF0 := Lib.hid hF0
  have HM4 := Lib.hid hM4
  have HK := Lib.hid hk
  have HQ := Lib.hid h2
  have HB := Lib.hid h1
  have HNQ := Lib.hid h3
  have e1 : IntKind.u64.wrap ((v : Int) + 1) = (v : Int) + 1 := by rw [IntKind.wrap_u64]; omega
  clear h hM4 hM hO hst hk h1 h2 h3 hF0
  go_enter Tryz.func32, Tryz.ntmps32
  go_wp2_with fail
  refine CN.mono ?_
  rintro e w0 ⟨rfl, rfl⟩
  clear CN
  go_wp2_with fail
  refine CS.mono ?_
  rintro e w1 ⟨res, jj, rfl, hR, hM1, hx1⟩
  clear CS
  have hF1 := HF0.out.met hx1
  have hb1 := HB.out.same (w' := w1) (hx1.met ls (fun y => HF0.out.mq s y (.inl rfl)))
  have hq1 := HQ.out.same (w' := w1) fun j hj => hx1.met (HQ.out.lt j hj) (fun y => HF0.out.mq j y (.inr hj))
  have x1 : w1.cell? ⟨s, 1, none⟩ = some (.iface 229 (.pointer (some ⟨q, 0, none⟩))) := hb1.c 1 (by omega)
  have mh := mO_has (some ⟨q, 0, none⟩)
  obtain ⟨g, gi, r, h', ev, hqb, hqd, hqn, rfl⟩ := hq1
  have HR := Lib.hid hR
  have hCH : (∃ n : Nat, res = (n : Int) ∧ Fnd t.es k n) ∨ (res = -1 ∧ ∀ n, ¬ Fnd t.es k n) := by
    rcases hR with ⟨n, rfl, hn, _⟩ | ⟨rfl, hn, _⟩
    · exact .inl ⟨n, rfl, hn⟩
    · exact .inr ⟨rfl, hn⟩
  clear hR
  rcases hCH with ⟨n, rfl, hn⟩ | ⟨rfl, hres⟩
  · have CH := ownHas_any (w := w1) (q := q) n
    have mt := mO_take (some ⟨q, 0, none⟩)
    have CT := (ownTake_any (hqb.c 1 (by omega)) hqd hto hn.1 hn.2.1 htu).mono (R' := fun e w3 => e = .returned (.iface 229 (.pointer (some ⟨q, 0, none⟩))) ∧ (w3.cell? ⟨s, 1, none⟩ = some (.iface 229 (.pointer (some ⟨q, 0, none⟩))) ∧ w3.frozen? ⟨s, 1, none⟩ = false) ∧ ∀ w4, w3.setCell ⟨s, 1, none⟩ (.iface 229 (.pointer (some ⟨q, 0, none⟩))) = w4 → (w4.cell? ⟨s, 2, none⟩ = some (.int .u64 (v : Int)) ∧ w4.frozen? ⟨s, 2, none⟩ = false) ∧ Hid (SsR w0 f (.pointer pm) N XF (fun k => k = s ∨ k = q ∨ dX g gi r h' ev k) s F (.own (t.kill n)) (v + 1) a (b + (jj : Int)) c d (w4.setCell ⟨s, 2, none⟩ (.int .u64 ((v : Int) + 1))) XF (fun k => k = s ∨ k = q ∨ dX g gi r h' ev k))) (fun e w3 ⟨h1, h2, h3⟩ => by
      have nf : ∀ k, XF k → ¬ (k = q ∨ dX g gi r h' ev k) := fun k hk y => hF1.ap k hk (.inr y)
      have nm' : ∀ k, mB (.pointer pm) k → ¬ (k = q ∨ dX g gi r h' ev k) := fun k hk y => hF1.mq k hk (.inr y)
      have R : SdR w1 f (.pointer pm) N XF (fun k => k = q ∨ dX g gi r h' ev k) F (.own (t.kill n)) q a (b + (jj : Int)) c d w3 XF (fun k => k = q ∨ dX g gi r h' ev k) :=
        ⟨hF1.fm.same fun k hk => h3.block k (hF1.fm.lt k hk) (fun y => nf k hk (.inr y)), ⟨g, gi, r, h', ev, hqb.same (h3.block q (hqb.lt (by omega)) hqn), h2, hqn, rfl⟩, nf, nm', (HM4.out.mt c d).same a _ w1 w3 hM1 fun k hk => h3.block k ((HM4.out.mt c d).lt a _ w1 k hM1 hk) (fun y => nm' k hk (.inr y)), fun k hk => .inl hk, fun k hk => .inl hk, h3.mono fun k _ hk => .inr (.inl (.inr hk))⟩
      obtain ⟨y1, y2⟩ := ss_store HM4.out R hx1 hb1 ls (fun y => hF1.ap s y (.inl rfl)) HNQ.out (fun y => hF1.mq s y (.inl rfl))
      refine ⟨h1, y1, fun w4 hw4 => ?_⟩
      obtain ⟨y3, y4⟩ := y2 w4 hw4
      exact ⟨y3, y4⟩)
    clear hF1 hb1 hqb hqd hqn hM1
    go_wp2_with fail
    refine CH.mono ?_
    rintro e w3 ⟨rfl, rfl⟩
    clear CH
    go_wp2_with fail
    refine CT.mono ?_
    rintro e w4 ⟨rfl, ⟨k1, z1⟩, hw5⟩
    clear CT
    obtain ⟨w5, hw5e⟩ : ∃ y, w4.setCell ⟨s, 1, none⟩ (.iface 229 (.pointer (some ⟨q, 0, none⟩))) = y := ⟨_, rfl⟩
    obtain ⟨⟨k2, z2⟩, HS⟩ := hw5 w5 hw5e
    have HW5 := Lib.hid hw5e
    clear hw5 hw5e
    go_upto_region 7 with fail
    rw [HW5.out]
    go_wp2
    go_ret
    refine ⟨0, rfl, .own (t.kill n), 0, .kill HK.out hn, k, (n : Int), jj, HK.out, HR.out, XF, fun k => k = s ∨ k = q ∨ dX g gi r h' ev k, ?_⟩
    have hS := HS.out
    rw [if_pos rfl, show a + (mdS (.own (t.kill n)) : Int) - (mdS (.own t) : Int) = a by show a + ((t.kill n).made : Int) - (t.made : Int) = a; show a + (t.made : Int) - (t.made : Int) = a; omega, show d + ((0 : Nat) : Int) = d by omega]
    exact hS
  · have CH := ownHas_none (w := w1) (q := q)
    have HF1 := Lib.hid hF1
    have HM1 := Lib.hid hM1
    clear hF1 hb1 hqb hqd hqn hM1
    go_wp2_with fail
    refine CH.mono ?_
    rintro e w3 ⟨rfl, rfl⟩
    clear CH
    go_wp2
    go_ret
    refine ⟨7, rfl, .own t, 0, .noneO HK.out hres, k, -1, jj, HK.out, HR.out, XF, fun k => k = s ∨ k = q ∨ dX g gi r h' ev k, ?_⟩
    rw [if_neg (by decide), show a + (mdS (.own t) : Int) - (mdS (.own t) : Int) = a by omega, show d + ((0 : Nat) : Int) = d by omega]
    exact ss_same HF1.out HM1.out hx1
set_option maxRecDepth 100000 in
/-- A row gives way to a table of one's own, and a name is taken out. -/
theorem rowTake_any {w : World} {q f : Nat} {F : Fa} {pm : Option Addr} {XF XQ : Nat → Prop} {vs : List Int} {N : Int → Int → Int → Int → World → Prop} {a b c d : Int} {c0 : Nat} (hF : FamX w f F (.pointer pm) XF) (hS : Sq w q f (.pointer pm) XQ (.row vs)) (mq : ∀ k, mB (.pointer pm) k → ¬ XQ k) (hM4 : M4 (.pointer pm) N) (hM : N a b c d w) (ha : 0 ≤ a ∧ a ≤ 10000000) (hd : 0 ≤ d ∧ d ≤ 100000000) (hO : F.Ok hsT c0) (hl : vs.length ≤ F.kt.es.length) {n : Nat} (hn : n < (turnN F.kt.es vs vs.length).es.length) (hlv : (nth (turnN F.kt.es vs vs.length).es n).live = true) :
    Calls Tryz.prog 175 #[.pointer (some ⟨q, 0, none⟩), .int .i64 (n : Int)] w fun e w' => ∃ q', e = .returned (.iface 229 (.pointer (some ⟨q', 0, none⟩))) ∧ ∃ XF' XQ', SdR w f (.pointer pm) N XF XQ F (.own ((turnN F.kt.es vs vs.length).kill n)) q' (a + ((turnN F.kt.es vs vs.length).made : Int)) b c (d + 1) w' XF' XQ' := by
  have hFX := hF
  obtain ⟨g, gi, r, h, ev, mb, nv, hFa, rfl⟩ := hF
  obtain ⟨vv, hq, hv, hnq, rfl⟩ := hS
  have hle : vs.length ≤ 256 := by have := hO.len; have := hO.room; omega
  obtain ⟨t1, t2, t3, t4, _⟩ := turnN_is F.kt.es vs vs.length (by omega)
  have CT := turned_any hFa hM4 hM ⟨ha.1, by omega⟩ hd hq hv (fun y => mq q y (.inl rfl)) (fun k' hk' y => mq k' y (.inr hk')) hl hle hO.dead
  have HTK : Hid (∀ W1 q', w.heap.size ≤ q' → OwnN w W1 f q' (.pointer pm) N (a + ((turnN F.kt.es vs vs.length).made : Int)) b c (d + 1) (turnN F.kt.es vs vs.length) → Calls Tryz.prog 181 #[.pointer (some ⟨q', 0, none⟩), .int .i64 (n : Int)] W1 fun e w' => e = .returned (.iface 229 (.pointer (some ⟨q', 0, none⟩))) ∧ ∃ XF' XQ', SdR w f (.pointer pm) N (fX f g gi r h ev mb nv) (fun k => k = q ∨ vv.ownBlock = some k) F (.own ((turnN F.kt.es vs vs.length).kill n)) q' (a + ((turnN F.kt.es vs vs.length).made : Int)) b c (d + 1) w' XF' XQ') := by
    intro W1 q' h2 h3
    obtain ⟨XQ1, hS1, hX1, hN1, hxw⟩ := h3.sq h2
    have hF1 := hFX.same (w' := W1) fun k' hk' => hxw.met (hFX.lt k' hk') (fun y => hFX.nm k' y hk')
    obtain ⟨g2, gi2, r2, hh2, ev2, hqb, hqd, hqn, rfl⟩ := hS1
    refine (ownTake_any (hqb.c 1 (by omega)) hqd t1 hn hlv (by omega)).mono ?_
    rintro e w' ⟨h4, h5, h6⟩
    have nf : ∀ k, fX f g gi r h ev mb nv k → ¬ (k = q' ∨ dX g2 gi2 r2 hh2 ev2 k) := fun k hk y => by have := hX1 k y; have := hFX.lt k hk; omega
    have nm' : ∀ k, mB (.pointer pm) k → ¬ (k = q' ∨ dX g2 gi2 r2 hh2 ev2 k) := fun k hk y => by have := hX1 k y; have := (hM4.mt c d).lt a b w k hM hk; omega
    have R : SdR W1 f (.pointer pm) N (fX f g gi r h ev mb nv) (fun k => k = q' ∨ dX g2 gi2 r2 hh2 ev2 k) F (.own ((turnN F.kt.es vs vs.length).kill n)) q' (a + ((turnN F.kt.es vs vs.length).made : Int)) b c (d + 1) w' (fX f g gi r h ev mb nv) (fun k => k = q' ∨ dX g2 gi2 r2 hh2 ev2 k) :=
      ⟨hF1.same fun k hk => h6.block k (hF1.lt k hk) (fun y => nf k hk (.inr y)), ⟨g2, gi2, r2, hh2, ev2, hqb.same (h6.block q' (hqb.lt (by omega)) hqn), h5, hqn, rfl⟩, nf, nm', (hM4.mt c (d + 1)).same _ _ W1 w' hN1 fun k hk => h6.block k ((hM4.mt c (d + 1)).lt _ _ W1 k hN1 hk) (fun y => nm' k hk (.inr y)), fun k hk => .inl hk, fun k hk => .inl hk, h6.mono fun k _ hk => .inr (.inl (.inr hk))⟩
    exact ⟨h4, _, _, R.ahead hxw (fun k' hk' => hX1 k' hk')⟩
  clear hFX hFa hq hv hnq mq hM4 hM hO t1 t2 t3 t4
  go_enter Tryz.func175, Tryz.ntmps175
  go_wp2_with fail
  refine CT.mono ?_
  rintro e w1 ⟨q', rfl, h2, h3⟩
  clear CT
  have CK := HTK.out w1 q' h2 h3
  clear HTK h3
  go_wp2_with fail
  refine CK.mono ?_
  rintro e w2 ⟨rfl, XF', XQ', R⟩
  clear CK
  go_wp2
  go_ret
  exact ⟨q', rfl, XF', XQ', R⟩
end Go.Proofs.YtcbhpjpkjmlcnaaGreat
