/-
  TableOwn.
-/
import Derived.Test.YthaijfjodfgbnabLdLaid
namespace Go.Proofs.Ythaijfjodfgbnab
open Go.RowKit Go.WideShapes

/-- An entry's five cells, set. -/
def setW (w : World) (ge n : Nat) (e : En) : World := ((((w.setCell ⟨ge, n * 5, none⟩ (.bool e.live)).setCell ⟨ge, n * 5 + 1, none⟩ (.int .i64 e.hash)).setCell ⟨ge, n * 5 + 2, none⟩ (.int .i64 e.key)).setCell ⟨ge, n * 5 + 3, none⟩ (.int .i64 e.value)).setCell ⟨ge, n * 5 + 4, none⟩ (.int .i64 e.birth)
theorem setW_but (w : World) (ge n : Nat) (e : En) : But ge w (setW w ge n e) := by
  unfold setW
  exact (((((But.refl ge w).setCell _ _).setCell _ _).setCell _ _).setCell _ _).setCell _ _
theorem Es.setW {w : World} {ge cap : Nat} {es : List En} (h : Es w (.slice (some ⟨ge, 0, none⟩) es.length cap) es) (n : Nat) (hn : n < es.length) (e : En) : Es (setW w ge n e) (.slice (some ⟨ge, 0, none⟩) es.length cap) (es.set n e) := by
  have e0 : Es (w.setCell ⟨ge, n * 5 + 0, none⟩ (.bool e.live)) (.slice (some ⟨ge, 0, none⟩) es.length cap) (es.set n ⟨e.live, (nth es n).hash, (nth es n).key, (nth es n).value, (nth es n).birth⟩) := Es.put rfl h n 0 hn (by decide) (.bool e.live) _ rfl rfl
  have sh : ∀ (es : List En) (e : En), n < es.length → nth (es.set n e) n = e := fun es e h => by rw [nth_set h, if_pos rfl]
  have e1 := Es.put (by simp) e0 n 1 (by simpa using hn) (by decide) (.int .i64 e.hash) ⟨e.live, e.hash, (nth es n).key, (nth es n).value, (nth es n).birth⟩ (by rw [sh _ _ hn]; rfl) rfl
  rw [List.set_set] at e1
  have e2 := Es.put (by simp) e1 n 2 (by simpa using hn) (by decide) (.int .i64 e.key) ⟨e.live, e.hash, e.key, (nth es n).value, (nth es n).birth⟩ (by rw [sh _ _ hn]; rfl) rfl
  rw [List.set_set] at e2
  have e3 := Es.put (by simp) e2 n 3 (by simpa using hn) (by decide) (.int .i64 e.value) ⟨e.live, e.hash, e.key, e.value, (nth es n).birth⟩ (by rw [sh _ _ hn]; rfl) rfl
  rw [List.set_set] at e3
  have e4 := Es.put (by simp) e3 n 4 (by simpa using hn) (by decide) (.int .i64 e.birth) e (by rw [sh _ _ hn]; rfl) rfl
  rw [List.set_set, Nat.add_zero] at e4
  exact e4
/-- append of two ints. -/
theorem append_ints {w : World} {h S B : Nat} {f : Nat → Int} (x : Row1 w h S f) (hB : B ≤ h) (hb : B ≤ w.heap.size) (hS : S ≤ 2000000) (p q : Int) (ty : TypeId) (ad : Addr) (c : Nat) (ha : ∀ j u, [Value.int .i64 p, .int .i64 q][j]? = some u → w.cell? (ad.add j) = some u) :
    ∃ a' c' w', (Builtin.append_ #[22, 22] ty #[.slice (some ⟨h, 0, none⟩) S S, .slice (some ad) 2 c]).run Try.prog w = .ok (.slice a' (S + 2) c') w' ∧ w.grownBy w' (some h) := by
  obtain ⟨i0, hi, hz0, hz1, hz2⟩ := info_parts Try.infoI
  obtain ⟨v', w', h1, h2, h3, _, _⟩ := run_append_own_at (P := Try.prog) w B 22 ty 3 i0 (.int .i64 0) 1 8 Try.underlying22 hi hz0 hz1 hz2 rfl (by decide) _ S (il S f) (x.own hB (by unfold maxLen; omega)) ad 2 c [.int .i64 p, .int .i64 q] rfl ha (by intro u hu; simp at hu; rcases hu with rfl | rfl <;> rfl) (by unfold maxLen; omega) (by omega) hb
  obtain ⟨a', c', rfl⟩ := ownsRow_shape h2
  exact ⟨a', c', w', h1, h3⟩
theorem EsB.of {B : Nat} {w : World} {v : Value} {es : List En} (h : Es w v es) (hge : ∀ k, v.ownBlock = some k → B ≤ k) : EsB B w v es := by
  refine ⟨h.1, ?_⟩
  rcases h.2 with h0 | ⟨g, cap, cur, e, h1, h2⟩
  · exact .inl h0
  · exact .inr ⟨g, cap, cur, e, hge g (by rw [e]; rfl), h2⟩
theorem Es.of_len {w : World} {ge n cap : Nat} {xs : List En} (hl : xs.length = n) (h : Es w (.slice (some ⟨ge, 0, none⟩) n cap) xs) : Es w (.slice (some ⟨ge, 0, none⟩) xs.length cap) xs := by rw [hl]; exact h
/-- Where the two loops stand: what was told first may be anything by now, all else is as it was. -/
structure Oo (w5 : World) (B hc S : Nat) (ev : Value) (n : Nat) (wr : World) : Prop where
  row : ∃ f, Row1 wr hc S f
  es : ∃ xs, xs.length = n ∧ EsB B wr ev xs
  ex : Ex (fun k => k = hc ∨ ev.ownBlock = some k) w5 wr
set_option maxRecDepth 100000 in
set_option maxHeartbeats 8000000 in
theorem own_walk (a0 : Option Addr) (n0 c0 : Nat) (l : List Int) (a1 : Option Addr) (n1 c1 : Nat) (ks : List Int) (w : World) (h0 : SlI w a0 n0 c0 l) (h1 : SlI w a1 n1 c1 ks) :
    Calls Try.prog 6 #[.slice a0 n0 c0, .slice a1 n1 c1] w fun e w' => e = .returned (.bool true) ∧ Below w.heap.size w w' := by
  have m0 := h0.2.1
  have m1 := h1.2.1
  rw [← h0.1] at m0
  rw [← h1.1] at m1
  by_cases hb : n0 ≤ 300 ∧ n1 ≤ 300
  case neg =>
    have CW := awake7_any w
    by_cases hb0 : n0 ≤ 300
    · have t0 : ¬ (300 : Int) < (n0 : Int) := by omega
      have t1 : (300 : Int) < (n1 : Int) := by omega
      clear h0 h1 hb
      go_enter Try.func6, Try.ntmps6
      go_wp2_with fail
      refine CW.mono ?_
      rintro e w' ⟨rfl, hB⟩
      clear CW
      go_wp2
      go_ret
      exact ⟨rfl, hB⟩
    · have t0 : (300 : Int) < (n0 : Int) := by omega
      clear h0 h1 hb
      go_enter Try.func6, Try.ntmps6
      go_wp2_with fail
      refine CW.mono ?_
      rintro e w' ⟨rfl, hB⟩
      clear CW
      go_wp2
      go_ret
      exact ⟨rfl, hB⟩
  case pos =>
    obtain ⟨hb0, hb1⟩ := hb
    have t0 : ¬ (300 : Int) < (n0 : Int) := by omega
    have t1 : ¬ (300 : Int) < (n1 : Int) := by omega
    have CL := laid_any h0 h1 hb0
    clear h0 h1
    go_enter Try.func6, Try.ntmps6
    go_wp2_with fail
    refine CL.mono ?_
    rintro e w1 ⟨g, gi, r, h, ev, wv, t, ws, rfl, hL⟩
    clear CL
    have hel : t.es.length ≤ 300 := by have := hL.ld.ok.few; have := hL.ld.bi; omega
    have hsz := hL.ld.ok.sz
    have hD := hL.dt
    have hB1 := hL.bl
    clear hL
    have CS := dsight_any hD (by omega)
    go_wp2_with fail
    refine CS.mono ?_
    rintro e w2 ⟨hc, ev1, rfl, hSg, hB2⟩
    clear CS
    unfold sgV
    obtain ⟨ae, cape, ge, hev, hae, hro⟩ := hSg.es.es.open
    rw [shw_len] at hev hae hro
    have hcap := hro.le
    have HAE := Lib.hid hae
    subst hev
    clear hro hae
    have hSm : 2 ^ t.L ≤ 1048576 := Nat.le_trans (Nat.pow_le_pow_right (n := 2) (by decide) hsz.2) (by decide)
    have HSg := Lib.hid hSg
    have hlc := hSg.row.lt
    have hgc := hSg.hB
    have hgee := hSg.es.ge
    have hnec := hSg.ne
    have hltE := hSg.es.es.lt
    have hs1 := hB1.size
    have hs2 := hB2.size
    clear hSg
    obtain ⟨w3, hw3⟩ : ∃ y, w2.alloc (.cells #[.int .i64 (t.L : Int), .int .i64 (wd t.L : Int), .slice (some ⟨hc, 0, none⟩) (2 ^ t.L) (2 ^ t.L), .slice ae t.es.length cape, .int .i64 (t.live : Int), .int .i64 (t.births : Int), .int .i64 (t.made : Int)] 29) = y := ⟨_, rfl⟩
    have hB3 : Below w2.heap.size w2 w3 := by rw [← hw3]; exact (Below.refl _ w2).alloc (Nat.le_refl _) _
    have hX3 : Blk w3 w2.heap.size 7 (fun j => #[Value.int .i64 (t.L : Int), .int .i64 (wd t.L : Int), .slice (some ⟨hc, 0, none⟩) (2 ^ t.L) (2 ^ t.L), .slice ae t.es.length cape, .int .i64 (t.live : Int), .int .i64 (t.births : Int), .int .i64 (t.made : Int)].getD j .nilFunc) := by rw [← hw3]; exact Blk.new w2 _ _
    have hs3 : w3.heap.size = w2.heap.size + 1 := by rw [← hw3]; simp
    have hB13 : Below w1.heap.size w1 w3 := hB2.trans (hB3.mono hs2)
    have CS := dsight_any (hD.below hB13) (by omega)
    have HW3 := Lib.hid hw3
    clear hw3
    go_wp2_with fail
    rw [HW3.out]
    refine CS.mono ?_
    rintro e w4 ⟨hc2, ev2, rfl, hSg2, hB4⟩
    clear CS
    unfold sgV
    obtain ⟨ae2, cape2, ge2, hev2, _, hro2⟩ := hSg2.es.es.open
    rw [shw_len] at hev2
    subst hev2
    clear hro2
    have hs4 := hB4.size
    obtain ⟨w5, hw5⟩ : ∃ y, w4.alloc (.cells #[.int .i64 (t.L : Int), .int .i64 (wd t.L : Int), .slice (some ⟨hc2, 0, none⟩) (2 ^ t.L) (2 ^ t.L), .slice ae2 t.es.length cape2, .int .i64 (t.live : Int), .int .i64 (t.births : Int), .int .i64 (t.made : Int)] 29) = y := ⟨_, rfl⟩
    have hB5 : Below w4.heap.size w4 w5 := by rw [← hw5]; exact (Below.refl _ w4).alloc (Nat.le_refl _) _
    have hX5 : Blk w5 w4.heap.size 7 (fun j => #[Value.int .i64 (t.L : Int), .int .i64 (wd t.L : Int), .slice (some ⟨hc2, 0, none⟩) (2 ^ t.L) (2 ^ t.L), .slice ae2 t.es.length cape2, .int .i64 (t.live : Int), .int .i64 (t.births : Int), .int .i64 (t.made : Int)].getD j .nilFunc) := by rw [← hw5]; exact Blk.new w4 _ _
    have hs5 : w5.heap.size = w4.heap.size + 1 := by rw [← hw5]; simp
    have HW5 := Lib.hid hw5
    clear hw5
    have hB35 : Below w3.heap.size w3 w5 := hB4.trans (hB5.mono hs4)
    have HA5 := Lib.hid (hX3.same (hB35.block _ (by omega)))
    have HB5 := Lib.hid hX5
    have HO5 : Hid (Oo w5 w1.heap.size hc (2 ^ t.L) (.slice ae t.es.length cape) t.es.length w5) := ⟨⟨_, HSg.out.row.same ((hB35.block _ (by omega)).trans (hB3.block _ hlc))⟩, ⟨_, shw_len t.es, HSg.out.es.same fun k hk => (hB35.block k (by have := hltE k hk; omega)).trans (hB3.block k (hltE k hk))⟩, Ex.refl _ _⟩
    have HS2 := Lib.hid hSg2
    have HD := Lib.hid hD
    have hB15 : Below w1.heap.size w1 w5 := hB13.trans (hB35.mono (by omega))
    have HBW : Hid (Below w.heap.size w w5) := hB1.trans (hB15.mono hs1)
    have hc2lt := hSg2.row.lt
    have hc2ge := hSg2.hB
    have hge2 := hSg2.es.ge
    have hlt2 := hSg2.es.es.lt
    clear hX3 hX5 hSg2 hD HSg
    go_wp2_with fail
    rw [HW5.out]
    generalize hSS : 2 ^ t.L = S at *
    have HSS := Lib.hid hSS
    clear hSS
    go_loopw [10] (fun iv wr => ∃ k : Nat, k ≤ S ∧ iv = .int .i64 (k : Int) ∧ Oo w5 w1.heap.size hc S (.slice ae t.es.length cape) t.es.length wr) (fun iv _ => S - (intOf iv).toNat)
    case atStart => exact ⟨0, Nat.zero_le _, rfl, HO5.out⟩
    case round =>
      clear HO5
      obtain ⟨k, hk, rfl, hO⟩ := hrel
      have HO := Lib.hid hO
      have hA : wr.heap[w2.heap.size]? = w5.heap[w2.heap.size]? := hO.ex.block _ (by omega) (fun hx => hx.elim (fun e => by omega) (fun e => by have := hltE _ e; omega))
      have y2 : wr.cell? ⟨w2.heap.size, 2, none⟩ = some (.slice (some ⟨hc, 0, none⟩) S S) := (World.cell?_of_block (a := ⟨w2.heap.size, 2, none⟩) hA).trans (HA5.out.c 2 (by omega))
      by_cases hlt : k < S
      · have tk : (k : Int) < (S : Int) := by omega
        obtain ⟨f, hf⟩ := hO.row
        have yc := hf.cell k hlt
        have zc := hf.free k
        have e5 : IntKind.i64.wrap (500 + (k : Int)) = 500 + (k : Int) := i64_small (by omega) (by omega)
        have HN : Hid (Oo w5 w1.heap.size hc S (.slice ae t.es.length cape) t.es.length (wr.setCell ⟨hc, k, none⟩ (.int .i64 (500 + (k : Int))))) := by
          obtain ⟨xs, hx1, hx2⟩ := hO.es
          exact ⟨⟨_, hf.put k _⟩, ⟨xs, hx1, hx2.same fun j hj => Below.heap_setCell _ _ _ _ (fun e => hnec (by rw [hj, e]))⟩, hO.ex.setCell (p := ⟨hc, k, none⟩) (fun _ => .inl rfl) _⟩
        clear hO hf hA
        generalize f k = fv at *
        go_wp2_with fail
        go_roundw
        case rel => exact ⟨k + 1, by omega, by go_num, HN.out⟩
        case measure => simp [intOf]; omega
      · obtain rfl : k = S := by omega
        have tk : ¬ (k : Int) < (k : Int) := by omega
        clear hO hA
        generalize wr = wA at *
        go_wp2_with fail
        go_loopw [11] (fun iv wr => ∃ j : Nat, j ≤ t.es.length ∧ iv = .int .i64 (j : Int) ∧ Oo w5 w1.heap.size hc k (.slice ae t.es.length cape) t.es.length wr) (fun iv _ => t.es.length - (intOf iv).toNat)
        case atStart => exact ⟨0, Nat.zero_le _, rfl, HO.out⟩
        case round =>
          clear HO y2
          obtain ⟨j, hj, rfl, hO⟩ := hrel
          have HO := Lib.hid hO
          have hA : wr.heap[w2.heap.size]? = w5.heap[w2.heap.size]? := hO.ex.block _ (by omega) (fun hx => hx.elim (fun e => by omega) (fun e => by have := hltE _ e; omega))
          have y2 : wr.cell? ⟨w2.heap.size, 2, none⟩ = some (.slice (some ⟨hc, 0, none⟩) k k) := (World.cell?_of_block (a := ⟨w2.heap.size, 2, none⟩) hA).trans (HA5.out.c 2 (by omega))
          have y3 : wr.cell? ⟨w2.heap.size, 3, none⟩ = some (.slice ae t.es.length cape) := (World.cell?_of_block (a := ⟨w2.heap.size, 3, none⟩) hA).trans (HA5.out.c 3 (by omega))
          obtain ⟨xs, hx1, hx2⟩ := hO.es
          by_cases hjl : j < t.es.length
          · have tj : (j : Int) < (t.es.length : Int) := by omega
            obtain ⟨hae, _⟩ := HAE.out (by omega)
            subst hae
            have hE := Es.of_len hx1 hx2.es
            obtain ⟨_, _, _, hv', hae', hro'⟩ := hE.open
            cases hv'
            obtain ⟨hge', _, hfz'⟩ := hae' (by omega)
            cases hge'
            have e0 := hro'.c0 j (by omega)
            have e1 := hro'.c1 j (by omega)
            have e2 := hro'.c2 j (by omega)
            have e3 := hro'.c3 j (by omega)
            have e4 := hro'.c4 j (by omega)
            have z0 := hfz' (j * 5)
            have z1 := hfz' (j * 5 + 1)
            have z2 := hfz' (j * 5 + 2)
            have z3 := hfz' (j * 5 + 3)
            have z4 := hfz' (j * 5 + 4)
            have e5 : IntKind.i64.wrap (500 + (j : Int)) = 500 + (j : Int) := i64_small (by omega) (by omega)
            have HN : Hid (Oo w5 w1.heap.size hc k (.slice (some ⟨ge, 0, none⟩) t.es.length cape) t.es.length (setW wr ge j ⟨false, 0, 500 + (j : Int), 0, 0⟩)) := by
              have hb := setW_but wr ge j ⟨false, 0, 500 + (j : Int), 0, 0⟩
              obtain ⟨f, hf⟩ := hO.row
              have hne : hc ≠ ge := fun e => hnec (by rw [e]; rfl)
              refine ⟨⟨f, hf.same (hb.block hc hf.lt hne)⟩, ⟨xs.set j ⟨false, 0, 500 + (j : Int), 0, 0⟩, by rw [List.length_set]; exact hx1, EsB.of ?_ hgee⟩, hO.ex.next hb.ex (fun k _ hk => .inr (by rw [hk]; rfl))⟩
              have := hE.setW j (by omega) ⟨false, 0, 500 + (j : Int), 0, 0⟩
              rwa [hx1] at this
            clear hO hA hE hro' hae' hfz' hx2 y2
            unfold setW at HN
            generalize (nth xs j).live = q0 at *
            generalize (nth xs j).hash = q1 at *
            generalize (nth xs j).key = q2 at *
            generalize (nth xs j).value = q3 at *
            generalize (nth xs j).birth = q4 at *
            go_wp2_with fail
            go_roundw
            case rel => exact ⟨j + 1, by omega, by go_num, HN.out⟩
            case measure => simp [intOf]; omega
          · have tj : ¬ (j : Int) < (t.es.length : Int) := by omega
            obtain ⟨f, hf⟩ := hO.row
            obtain ⟨w6, hw6⟩ : ∃ y, wr.alloc (.cells #[.int .i64 7, .int .i64 7] 3) = y := ⟨_, rfl⟩
            have hb6 : Below wr.heap.size wr w6 := by rw [← hw6]; exact (Below.refl _ wr).alloc (Nat.le_refl _) _
            have hsr := hO.ex.size
            have hs6 : w6.heap.size = wr.heap.size + 1 := by rw [← hw6]; simp
            obtain ⟨a7, c7, w7, r7, g7⟩ := append_ints (hf.same (hb6.block hc hf.lt)) hgc (by omega) (by omega) 7 7 22 ⟨wr.heap.size, 0, none⟩ 2 (by
              intro j u hu
              rw [← hw6, WideShapes.add_plain, World.cell?_alloc_at _ _ _ _ rfl]
              simpa using hu)
            rw [← hw6] at r7
            have hsz7 := g7.size
            have ex7 : Ex (fun k => k = hc ∨ (Value.slice ae t.es.length cape).ownBlock = some k) w5 w7 := (hO.ex.next (ex_of (X := fun _ => False) hb6) (fun _ _ h => h.elim)).trans ⟨g7.os, g7.tape, g7.output, g7.size, fun k hk hx => g7.block k hk (fun e => hx (.inl (by cases e; rfl)))⟩
            obtain ⟨w8, hw8⟩ : ∃ y, w7.alloc (.cells #[.bool false, .int .i64 0, .int .i64 7, .int .i64 0, .int .i64 0, .bool false, .int .i64 0, .int .i64 7, .int .i64 0, .int .i64 0] 32) = y := ⟨_, rfl⟩
            have hb8 : Below w7.heap.size w7 w8 := by rw [← hw8]; exact (Below.refl _ w7).alloc (Nat.le_refl _) _
            have hx7 : EsB w1.heap.size w8 (.slice ae t.es.length cape) xs := hx2.same fun q hq => by
              have hql := (World.ownsRow.lt hx2 q hq).2
              have hqc : q ≠ hc := fun e => hnec (by rw [hq, e])
              exact ((hb8.block q (by omega)).trans (g7.block q (by omega) (fun e => hqc (by cases e; rfl)))).trans (hb6.block q hql)
            have hs8 : w8.heap.size = w7.heap.size + 1 := by rw [← hw8]; simp
            obtain ⟨v9, w9, r9, e9, g9, at9⟩ := append_en hx7 (by omega) ⟨w7.heap.size, 0, none⟩ 2 2 [⟨false, 0, 7, 0, 0⟩, ⟨false, 0, 7, 0, 0⟩] rfl (by
              intro j u hu
              rw [← hw8, WideShapes.add_plain, World.cell?_alloc_at _ _ _ _ rfl]
              simpa [enl, enc5] using hu) (by omega) 25
            rw [← hw8] at r9
            obtain ⟨a9, c9, hv9⟩ := ownsRow_shape e9
            rw [List.length_append, hx1] at hv9
            subst hv9
            have ex9 : Ex (fun k => k = hc ∨ (Value.slice ae t.es.length cape).ownBlock = some k) w5 w9 := (ex7.next (ex_of (X := fun _ => False) hb8) (fun _ _ h => h.elim)).trans ⟨g9.os, g9.tape, g9.output, g9.size, fun k hk hx => g9.block k hk (fun e => hx (.inr e.symm))⟩
            have key9 : ∀ q, q < w5.heap.size → q ≠ hc → (∀ p, (Value.slice ae t.es.length cape).ownBlock = some p → q ≠ p) → w9.heap[q]? = w5.heap[q]? := fun q h1 h2 h3 => ex9.block q h1 (fun hx => hx.elim h2 (fun e => h3 q e rfl))
            have key7 : w7.heap[w2.heap.size]? = w5.heap[w2.heap.size]? := ex7.block _ (by omega) (fun hx => hx.elim (fun e => by omega) (fun e => by have := hltE _ e; omega))
            have y37 : w7.cell? ⟨w2.heap.size, 3, none⟩ = some (.slice ae t.es.length cape) := (World.cell?_of_block (a := ⟨w2.heap.size, 3, none⟩) key7).trans (HA5.out.c 3 (by omega))
            have kA : w9.heap[w2.heap.size]? = w5.heap[w2.heap.size]? := key9 _ (by omega) (by omega) (fun p hp => by have := hltE p hp; omega)
            have kB : w9.heap[w4.heap.size]? = w5.heap[w4.heap.size]? := key9 _ (by omega) (by omega) (fun p hp => by have := hltE p hp; omega)
            have hD9 : Dt w9 g gi r h ev t (.pointer none) := HD.out.same fun q hq => by
              have := HD.out.lt q hq
              exact (key9 q (by omega) (by omega) (fun p hp => by have := hgee p hp; omega)).trans (hB15.block q this)
            have hR9 : Row1 w9 hc2 k t.c := by
              have h1 := HS2.out.row
              rw [HSS.out] at h1
              exact h1.same ((key9 hc2 (by omega) (by omega) (fun p hp => by have := hltE p hp; omega)).trans (hB5.block _ hc2lt))
            have hE9 : Es w9 (.slice ae2 t.es.length cape2) (shw t.es) := HS2.out.es.es.same fun q hq => by
              have h1 := hge2 q hq
              have h2 := hlt2 q hq
              exact (key9 q (by omega) (by omega) (fun p hp => by have := hltE p hp; omega)).trans (hB5.block q h2)
            have x2 : w9.cell? ⟨w2.heap.size, 2, none⟩ = some (.slice (some ⟨hc, 0, none⟩) k k) := (World.cell?_of_block (a := ⟨w2.heap.size, 2, none⟩) kA).trans (HA5.out.c 2 (by omega))
            have x3 : w9.cell? ⟨w2.heap.size, 3, none⟩ = some (.slice ae t.es.length cape) := (World.cell?_of_block (a := ⟨w2.heap.size, 3, none⟩) kA).trans (HA5.out.c 3 (by omega))
            have xb : ∀ o, w9.cell? ⟨w4.heap.size, o, none⟩ = w5.cell? ⟨w4.heap.size, o, none⟩ := fun o => World.cell?_of_block (a := ⟨w4.heap.size, o, none⟩) kB
            have HX : Hid (∀ V, Below w9.heap.size w9 V → (V.cell? ⟨w2.heap.size, 2, none⟩ = some (.slice (some ⟨hc, 0, none⟩) k k) ∧ V.cell? ⟨w2.heap.size, 3, none⟩ = some (.slice ae t.es.length cape)) ∧ (V.cell? ⟨w4.heap.size, 0, none⟩ = some (.int .i64 (t.L : Int)) ∧ V.cell? ⟨w4.heap.size, 1, none⟩ = some (.int .i64 (wd t.L : Int)) ∧ V.cell? ⟨w4.heap.size, 2, none⟩ = some (.slice (some ⟨hc2, 0, none⟩) k k) ∧ V.cell? ⟨w4.heap.size, 3, none⟩ = some (.slice ae2 t.es.length cape2)) ∧ (V.cell? ⟨w4.heap.size, 4, none⟩ = some (.int .i64 (t.live : Int)) ∧ V.cell? ⟨w4.heap.size, 5, none⟩ = some (.int .i64 (t.births : Int)) ∧ V.cell? ⟨w4.heap.size, 6, none⟩ = some (.int .i64 (t.made : Int)))) := fun V hV => by
              have hs9 := ex9.size
              have kk : ∀ b o, b < w9.heap.size → V.cell? ⟨b, o, none⟩ = w9.cell? ⟨b, o, none⟩ := fun b o hb => hV.cell (p := ⟨b, o, none⟩) hb
              have k2 := fun o => kk w2.heap.size o (by omega)
              have k4 := fun o => (kk w4.heap.size o (by omega)).trans (xb o)
              exact ⟨⟨(k2 2).trans x2, (k2 3).trans x3⟩, ⟨(k4 0).trans (HB5.out.c 0 (by omega)), (k4 1).trans (HB5.out.c 1 (by omega)), (k4 2).trans (HB5.out.c 2 (by omega)), (k4 3).trans (HB5.out.c 3 (by omega))⟩, (k4 4).trans (HB5.out.c 4 (by omega)), (k4 5).trans (HB5.out.c 5 (by omega)), (k4 6).trans (HB5.out.c 6 (by omega))⟩
            have hE9' := hE9.sl
            obtain ⟨aa, cc, hvv, hSl9⟩ := hE9'
            rw [shw_len] at hvv hSl9
            cases hvv
            have hBd : Below w9.heap.size w9 w9.drew := (Below.refl _ w9).drew
            have CSt : Calls Try.prog 9 #[.pointer (some ⟨g, 0, none⟩)] w9.drew fun e w' => ∃ hc3 a3 c3, e = .returned (siV (t.L : Int) (wd t.L : Int) (some ⟨hc3, 0, none⟩) k k a3 t.es.length c3 (t.live : Int) (t.births : Int) (t.made : Int)) ∧ SlN w' (some ⟨hc3, 0, none⟩) k k t.c ∧ SlE w' a3 t.es.length c3 (shw t.es) ∧ Below w9.heap.size w9 w' := (dsight_any (hD9.below hBd) (by omega)).mono fun e w' ⟨hc3, ev3, h1, h2, h3⟩ => by
              obtain ⟨a3, c3, hv3, hsl3⟩ := h2.es.es.sl
              rw [shw_len] at hv3 hsl3
              subst hv3
              have hr := h2.row
              rw [HSS.out] at hr
              refine ⟨hc3, a3, c3, ?_, ⟨Nat.le_refl _, hc3, fun _ => ⟨rfl, hr.lt⟩, fun j hj => hr.cell j hj⟩, hsl3, hBd.trans h3⟩
              rw [h1]
              unfold sgV siV
              rw [HSS.out]
            have CSi : Hid (∀ V hc3 a3 c3, SlN V (some ⟨hc3, 0, none⟩) k k t.c → SlE V a3 t.es.length c3 (shw t.es) → Below w9.heap.size w9 V → Calls Try.prog 15 #[siV (t.L : Int) (wd t.L : Int) (some ⟨hc2, 0, none⟩) k k ae2 t.es.length cape2 (t.live : Int) (t.births : Int) (t.made : Int), siV (t.L : Int) (wd t.L : Int) (some ⟨hc3, 0, none⟩) k k a3 t.es.length c3 (t.live : Int) (t.births : Int) (t.made : Int)] V fun e w' => e = .returned (.bool true) ∧ Below w9.heap.size w9 w') := fun V hc3 a3 c3 h1 h2 h3 =>
              (sight_any _ _ _ _ _ _ _ _ _ _ _ _ _ _ _ t.c (shw t.es) V (SlN.below ⟨Nat.le_refl _, hc2, fun _ => ⟨rfl, hR9.lt⟩, fun j hj => hR9.cell j hj⟩ h3) h1 (hSl9.below h3) h2 (by omega) (by omega)).mono fun e w' ⟨x1, x2⟩ => ⟨x1, h3.trans (x2.mono h3.size)⟩
            unfold siV at CSt CSi
            have CAw : Hid (∀ V, Below w9.heap.size w9 V → Calls Try.prog 7 #[] V fun e w' => e = .returned (.bool true) ∧ Below w9.heap.size w9 w') := fun V hV => (awake7_any V).mono fun e w' ⟨x1, x2⟩ => ⟨x1, hV.trans (x2.mono hV.size)⟩
            have HBW9 : Hid (Below w.heap.size w w9) := HBW.out.trans (ex9.below (fun q hq => hq.elim (fun e => by omega) (fun e => by have := hgee q e; omega)) HBW.out.size)
            have HR9 := Lib.hid hR9
            have HSL9 := Lib.hid hSl9
            have HRa := Lib.hid r7
            have HRb := Lib.hid r9
            have hlen9 := HBW9.out.size
            have ec : IntKind.i64.wrap ((k : Int) + 2) = (k : Int) + 2 := i64_small (by omega) (by omega)
            have ed : IntKind.i64.wrap ((t.es.length : Int) + 2) = (t.es.length : Int) + 2 := i64_small (by omega) (by omega)
            have s0 := HX.out _ hBd
            have s00 := HX.out _ (Below.refl _ w9)
            clear r7 r9 hR9 hSl9 hE9 hD9 xb x2 x3 kA kB key7 key9 ex9 ex7 e9 g9 at9 hx7 hw8 hb8 hw6 hb6 g7 hO hA hf hx2
            go_upto_region 17 with (at_builtin; refine wpList_append_run rfl _ _ 22 22 rfl _ _ _ rfl rfl HRa.out ?_)
            go_upto_region 18 with (at_builtin; refine wpList_append_run rfl _ _ 25 25 rfl _ _ _ rfl rfl HRb.out ?_)
            clear HRa HRb y2 y3 y37
            generalize wd t.L = Wd at *
            go_region_held3 (fun V => (V.cell? ⟨w2.heap.size, 2, none⟩ = some (.slice (some ⟨hc, 0, none⟩) k k) ∧ V.cell? ⟨w2.heap.size, 3, none⟩ = some (.slice ae t.es.length cape)) ∧ (V.cell? ⟨w4.heap.size, 0, none⟩ = some (.int .i64 (t.L : Int)) ∧ V.cell? ⟨w4.heap.size, 1, none⟩ = some (.int .i64 (Wd : Int)) ∧ V.cell? ⟨w4.heap.size, 2, none⟩ = some (.slice (some ⟨hc2, 0, none⟩) k k) ∧ V.cell? ⟨w4.heap.size, 3, none⟩ = some (.slice ae2 t.es.length cape2)) ∧ (V.cell? ⟨w4.heap.size, 4, none⟩ = some (.int .i64 (t.live : Int)) ∧ V.cell? ⟨w4.heap.size, 5, none⟩ = some (.int .i64 (t.births : Int)) ∧ V.cell? ⟨w4.heap.size, 6, none⟩ = some (.int .i64 (t.made : Int))))
              (first | with_reducible exact s0 | with_reducible exact s00 | with_reducible exact s1 | with_reducible exact s2 | with_reducible exact s3 | fail)
              (first | (go_at_call 9; refine CSt.mono ?_; rintro e V1 ⟨hc3, a3, c3, rfl, hn3, he3, hV1⟩; have s1 := HX.out _ hV1) | (go_at_call 15; refine (CSi.out _ _ _ _ hn3 he3 hV1).mono ?_; rintro e V2 ⟨rfl, hV2⟩; have s2 := HX.out _ hV2) | (go_at_call 7; refine (CAw.out _ hV2).mono ?_; rintro e V3 ⟨rfl, hV3⟩; have s3 := HX.out _ hV3) | fail)
            go_wp2
            go_ret
            exact ⟨rfl, HBW9.out.trans (hV3.mono hlen9)⟩
end Go.Proofs.Ythaijfjodfgbnab
