/-
  DigestTurns, walked.
-/
import Derived.Test.YtfcnljdededdjaaDgOpen
namespace Go.Proofs.Ytfcnljdededdjaa
open Go.RowKit Go.Shelf

theorem SegI.set {w : World} {g off : Nat} {l : List Int} (h : SegI w g off l) (i : Nat) (hi : i < l.length) (v : Int) : SegI (w.setCell ⟨g, off + i, none⟩ (.int .i64 v)) g off (l.set i v) := by
  intro j hj
  rw [List.length_set] at hj
  by_cases e : j = i
  · subst e
    rw [World.cell?_setCell_same' _ _ _ (by rw [h j hj]; rfl), List.getElem?_set_self hi]
    rfl
  · rw [World.cell?_setCell_other _ _ _ _ (fun e2 => e (by injection e2 with _ e3; omega)), h j hj, List.getElem?_set_ne (by omega)]
/-- What a row of one's own is while its ints are turned. -/
structure Turn (w W : World) (g : Nat) (l m : List Int) : Prop where
  perm : m.Perm l
  seg : SegI W g 0 m
  fr : ∀ j, W.frozen? ⟨g, j, none⟩ = false
  ge : w.heap.size ≤ g
  lt : g < W.heap.size
  be : Below w.heap.size w W
theorem Turn.len {w W : World} {g : Nat} {l m : List Int} (h : Turn w W g l m) : m.length = l.length := h.perm.length_eq
theorem Turn.swap {w W : World} {g : Nat} {l m : List Int} (h : Turn w W g l m) (i j : Nat) (hi : i < l.length) (hj : j < l.length) :
    ∃ m', Turn w ((W.setCell ⟨g, i, none⟩ (.int .i64 (m[j]?.getD 0))).setCell ⟨g, j, none⟩ (.int .i64 (m[i]?.getD 0))) g l m' := by
  have hl := h.len
  have e1 : m[j]?.getD 0 = m[j]'(by omega) := by rw [List.getElem?_eq_getElem (by omega)]; rfl
  have e2 : m[i]?.getD 0 = m[i]'(by omega) := by rw [List.getElem?_eq_getElem (by omega)]; rfl
  refine ⟨(m.set i (m[j]?.getD 0)).set j (m[i]?.getD 0), ?_, ?_, fun k => ?_, h.ge, by simpa using h.lt, ?_⟩
  · rw [e1, e2]
    exact (List.set_set_perm (by omega) (by omega)).trans h.perm
  · have s1 := h.seg.set i (by omega) (m[j]?.getD 0)
    have s2 := s1.set j (by rw [List.length_set]; omega) (m[i]?.getD 0)
    rwa [Nat.zero_add, Nat.zero_add] at s2
  · rw [World.frozen?_setCell, World.frozen?_setCell]; exact h.fr k
  · exact (h.be.setCell (p := ⟨g, i, none⟩) h.ge _).setCell (p := ⟨g, j, none⟩) h.ge _

set_option maxRecDepth 100000 in
set_option maxHeartbeats 4000000 in
theorem turnsLaw_walk (a : Option Addr) (n cap : Nat) (l : List Int) (a2 : Option Addr) (n2 cap2 : Nat) (ts : List Int) (w : World) (h : SlI w a n cap l) (h2 : SlI w a2 n2 cap2 ts) :
    Calls Try.prog 6 #[.slice a n cap, .slice a2 n2 cap2] w fun e w' => e = .returned (.bool true) ∧ Below w.heap.size w w' := by
  obtain ⟨i0, hi, hz0, hz1, hz2⟩ := info_parts Try.infoInt
  have hn := h.1
  subst hn
  have hn2 := h2.1
  subst hn2
  go_enter Try.func6, Try.ntmps6
  by_cases hl : 3000 < l.length
  · have t1 : (3000 : Int) < l.length := by omega
    go_wp2_with fail
    refine (awake_any _).mono ?_
    rintro e w2 ⟨rfl, hb2⟩
    go_wp2
    go_ret
    exact ⟨rfl, hb2⟩
  by_cases hl2 : 3000 < ts.length
  · have t1 : ¬ (3000 : Int) < l.length := by omega
    have t2 : (3000 : Int) < ts.length := by omega
    go_wp2_with fail
    refine (awake_any _).mono ?_
    rintro e w2 ⟨rfl, hb2⟩
    go_wp2
    go_ret
    exact ⟨rfl, hb2⟩
  · have t1 : ¬ (3000 : Int) < l.length := by omega
    have t2 : ¬ (3000 : Int) < ts.length := by omega
    have hl' : l.length ≤ 3000 := by omega
    have hl2' : ts.length ≤ 3000 := by omega
    clear hl hl2
    go_upto_region 4 with fail
    go_cut [5] from 19 to 21 (fun v W => Ints w.heap.size W v l ∧ Below w.heap.size w W)
    case first =>
      have nn : Ints w.heap.size w (.slice none 0 0) [] := Ints.nil _ _
      have FIN : Hid (∀ (m : List Int) (v' : Value) (w1 : World), m = l → w1.ownsRow w.heap.size 3 1 v' (0 + m.length) ([] ++ m.map fun x : Int => Value.int .i64 x) → w.grownBy w1 (Value.slice none 0 0).ownBlock → Hid (Ints w.heap.size w1 v' l ∧ Below w.heap.size w w1)) := by
        intro m v' w1 e h1 h2
        subst e
        exact ⟨by unfold Ints; simpa using h1, (Below.refl _ w).grown h2 (Nat.le_refl _) (fun k e => by cases e)⟩
      obtain ⟨_, hcap, b, off, hp, sg⟩ := h
      by_cases h0 : 0 < l.length
      · obtain ⟨rfl, hb⟩ := hp h0
        have hs' := segI_cells sg
        clear hp
        go_wp2_with (at_builtin; refine wpList_append_own _ rfl _ _ 33 rfl w.heap.size 3 i0 (.int .i64 0) 1 8 Try.underlying33 hi hz0 hz1 hz2 rfl (by decide) _ _ _ rfl nn ⟨b, off, none⟩ l.length cap (l.map fun x : Int => Value.int .i64 x) rfl (by simp) hs' (ints_one _) (by unfold maxLen; simp; omega) (by simp; omega) (Nat.le_refl _) ?_; intro v' w1 hown hgrow hnil; have HF := FIN.out l v' w1 rfl hown hgrow; clear hown hgrow hnil)
        go_meet
        case rel => exact HF.out
      · obtain rfl : l = [] := List.eq_nil_of_length_eq_zero (by omega)
        clear hp h0
        cases a with
        | none =>
          have ha := run_append_nothingI
          go_wp2_with fail
          go_meet
          case rel => exact ⟨Ints.nil _ _, Below.refl _ _⟩
        | some ad =>
          go_wp2_with (at_builtin; refine wpList_append_own _ rfl _ _ 33 rfl w.heap.size 3 i0 (.int .i64 0) 1 8 Try.underlying33 hi hz0 hz1 hz2 rfl (by decide) _ _ _ rfl nn ad 0 cap [] rfl rfl (fun j u h => by simp at h) (fun u h => by simp at h) (by decide) (by decide) (Nat.le_refl _) ?_; intro v' w1 hown hgrow hnil; have HF := FIN.out [] v' w1 rfl hown hgrow; clear hown hgrow hnil)
          go_meet
          case rel => exact HF.out
    case rest =>
      obtain ⟨hw, hb1⟩ := hcut
      obtain ⟨ax, cx, g, rfl, hcap, hp, sg, fz⟩ := hw.open
      clear hw
      by_cases h0 : 0 < l.length
      · obtain ⟨rfl, hg, hge⟩ := hp h0
        have T0 : Turn w wc g l l := ⟨List.Perm.refl _, sg, fun j => fz j h0, hge, hg, hb1⟩
        clear hp sg fz hb1 hg hge
        have t3 : (0 : Int) < l.length := by omega
        obtain ⟨_, _, b2, o2, p2, s2⟩ := h2
        go_wp2_with fail
        go_loopw [6] (fun iv wr => ∃ (k : Nat) (m : List Int), k ≤ ts.length ∧ iv = .int .i64 (k : Int) ∧ Turn w wr g l m) (fun iv _ => ts.length - (intOf iv).toNat)
        case atStart => exact ⟨0, l, Nat.zero_le _, rfl, T0⟩
        case round =>
          clear T0
          obtain ⟨k, m, hk, rfl, T⟩ := hrel
          by_cases hlt : k < ts.length
          · have t4 : (k : Int) < ts.length := by omega
            obtain ⟨ea, hb⟩ := p2 (by omega)
            have hc : wr.cell? ⟨b2, o2 + k, none⟩ = some (.int .i64 (ts[k]?.getD 0)) := (T.be.cell (p := ⟨b2, o2 + k, none⟩) hb).trans (s2 k hlt)
            obtain ⟨t, ht⟩ : ∃ t, ts[k]?.getD 0 = t := ⟨_, rfl⟩
            rw [ht] at hc
            clear ht
            subst ea
            obtain ⟨q, hq⟩ : ∃ q, t.tmod l.length = q := ⟨_, rfl⟩
            have q1 : q < l.length := by rw [← hq]; exact Int.tmod_lt_of_pos _ t3
            have q2 : -(l.length : Int) < q := by rw [← hq]; have := Int.tmod_lt_of_pos (-t) t3; rw [Int.neg_tmod] at this; omega
            obtain ⟨P, hP⟩ : ∃ P, k % l.length = P := ⟨_, rfl⟩
            have hP1 : P < l.length := by rw [← hP]; exact Nat.mod_lt _ h0
            have hP2 : (k : Int).tmod l.length = (P : Int) := by rw [← hP]; exact (Int.ofNat_tmod _ _).symm
            have hP3 : (k : Int) % l.length = (P : Int) := by rw [← hP]; exact (Int.natCast_emod _ _).symm
            clear hP
            by_cases hq0 : q < 0
            · obtain ⟨K, hK⟩ : ∃ K : Nat, q + l.length = (K : Int) := ⟨(q + l.length).toNat, by omega⟩
              have hK1 : K < l.length := by omega
              go_upto_region 12 with fail
              have HW := T.swap P K (by omega) (by omega)
              have HT : Hid (∃ m', Turn w ((wr.setCell ⟨g, P, none⟩ (.int .i64 (m[K]?.getD 0))).setCell ⟨g, K, none⟩ (.int .i64 (m[P]?.getD 0))) g l m') := HW
              clear HW
              have c1 : wr.cell? ⟨g, P, none⟩ = some (.int .i64 (m[P]?.getD 0)) := by have := T.seg P (by have := T.len; omega); rwa [Nat.zero_add] at this
              have c2 : wr.cell? ⟨g, K, none⟩ = some (.int .i64 (m[K]?.getD 0)) := by have := T.seg K (by have := T.len; omega); rwa [Nat.zero_add] at this
              have f1 := T.fr P
              have f2 := T.fr K
              obtain ⟨X, hX⟩ : ∃ X, m[P]?.getD 0 = X := ⟨_, rfl⟩
              obtain ⟨Y, hY⟩ : ∃ Y, m[K]?.getD 0 = Y := ⟨_, rfl⟩
              rw [hX] at HT c1
              rw [hY] at HT c2
              clear hX hY T
              by_cases hPK : P = K
              · subst hPK
                obtain rfl : X = Y := by
                  rw [c1] at c2
                  injection c2 with c2
                  injection c2
                clear c2 f2
                go_wp2_with fail
                go_roundw
                case rel => exact HT.out.elim fun m' T' => ⟨k + 1, m', by omega, by go_num, T'⟩
                case measure => simp [intOf]; omega
              · have c3 : (wr.setCell ⟨g, P, none⟩ (.int .i64 Y)).cell? ⟨g, K, none⟩ = some (.int .i64 Y) := by rw [World.cell?_setCell_other _ _ _ _ (fun e => hPK (by injection e with _ e))]; exact c2
                go_wp2_with fail
                go_roundw
                case rel => exact HT.out.elim fun m' T' => ⟨k + 1, m', by omega, by go_num, T'⟩
                case measure => simp [intOf]; omega
            · obtain ⟨K, rfl⟩ : ∃ K : Nat, q = (K : Int) := ⟨q.toNat, by omega⟩
              have hK1 : K < l.length := by omega
              go_upto_region 12 with fail
              have HW := T.swap P K (by omega) (by omega)
              have HT : Hid (∃ m', Turn w ((wr.setCell ⟨g, P, none⟩ (.int .i64 (m[K]?.getD 0))).setCell ⟨g, K, none⟩ (.int .i64 (m[P]?.getD 0))) g l m') := HW
              clear HW
              have c1 : wr.cell? ⟨g, P, none⟩ = some (.int .i64 (m[P]?.getD 0)) := by have := T.seg P (by have := T.len; omega); rwa [Nat.zero_add] at this
              have c2 : wr.cell? ⟨g, K, none⟩ = some (.int .i64 (m[K]?.getD 0)) := by have := T.seg K (by have := T.len; omega); rwa [Nat.zero_add] at this
              have f1 := T.fr P
              have f2 := T.fr K
              obtain ⟨X, hX⟩ : ∃ X, m[P]?.getD 0 = X := ⟨_, rfl⟩
              obtain ⟨Y, hY⟩ : ∃ Y, m[K]?.getD 0 = Y := ⟨_, rfl⟩
              rw [hX] at HT c1
              rw [hY] at HT c2
              clear hX hY T
              by_cases hPK : P = K
              · subst hPK
                obtain rfl : X = Y := by
                  rw [c1] at c2
                  injection c2 with c2
                  injection c2
                clear c2 f2
                go_wp2_with fail
                go_roundw
                case rel => exact HT.out.elim fun m' T' => ⟨k + 1, m', by omega, by go_num, T'⟩
                case measure => simp [intOf]; omega
              · have c3 : (wr.setCell ⟨g, P, none⟩ (.int .i64 Y)).cell? ⟨g, K, none⟩ = some (.int .i64 Y) := by rw [World.cell?_setCell_other _ _ _ _ (fun e => hPK (by injection e with _ e))]; exact c2
                go_wp2_with fail
                go_roundw
                case rel => exact HT.out.elim fun m' T' => ⟨k + 1, m', by omega, by go_num, T'⟩
                case measure => simp [intOf]; omega
          · have t4 : ¬ (k : Int) < ts.length := by omega
            have S1 : SlI wr (some ⟨g, 0, none⟩) l.length cx m := ⟨T.len.symm, by have := T.len; omega, g, 0, fun _ => ⟨rfl, T.lt⟩, T.seg⟩
            have C1 := frozen_any _ _ _ m wr S1 (by have := T.len; omega)
            have C2 := frozen_any _ _ _ l wr (h.below T.be) hl'
            rw [frozenZ_perm T.perm] at C1
            have hbe := T.be
            clear S1 T p2 s2 h
            go_wp2_with fail
            refine C1.mono ?_
            rintro e w3 ⟨rfl, rfl⟩
            go_wp2_with fail
            refine C2.mono ?_
            rintro e w3 ⟨rfl, rfl⟩
            go_wp2_with fail
            refine (awake_any _).mono ?_
            rintro e w8 ⟨rfl, hb8⟩
            go_wp2
            go_ret
            exact ⟨rfl, hbe.trans (hb8.mono hbe.size)⟩
      · obtain rfl : l = [] := List.eq_nil_of_length_eq_zero (by omega)
        have C1 := frozen_any ax 0 cx [] wc ⟨rfl, Nat.zero_le _, 0, 0, fun h => absurd h (by simp), fun j h => absurd h (by simp)⟩ (by simp)
        have C2 := frozen_any a 0 cap [] wc (h.below hb1) (by simp)
        clear hp sg fz h2 h
        go_wp2_with fail
        refine wp_loop_rounds 1 ?_
        rw [rounds_succ]
        by_cases h3 : 0 < ts.length
        · have t4 : (0 : Int) < ts.length := by omega
          go_wp2_with fail
          refine C1.mono ?_
          rintro e w3 ⟨rfl, rfl⟩
          go_wp2_with fail
          refine C2.mono ?_
          rintro e w3 ⟨rfl, rfl⟩
          go_wp2_with fail
          refine (awake_any _).mono ?_
          rintro e w8 ⟨rfl, hb8⟩
          go_wp2
          go_ret
          exact ⟨rfl, hb1.trans (hb8.mono hb1.size)⟩
        · have t4 : ¬ (0 : Int) < ts.length := by omega
          go_wp2_with fail
          refine C1.mono ?_
          rintro e w3 ⟨rfl, rfl⟩
          go_wp2_with fail
          refine C2.mono ?_
          rintro e w3 ⟨rfl, rfl⟩
          go_wp2_with fail
          refine (awake_any _).mono ?_
          rintro e w8 ⟨rfl, hb8⟩
          go_wp2
          go_ret
          exact ⟨rfl, hb1.trans (hb8.mono hb1.size)⟩
end Go.Proofs.Ytfcnljdededdjaa
