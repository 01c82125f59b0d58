/-
  A zero table: what ready makes of it.
  Calls on a zero table that find no entry; Copy.
  Add on a zero table.
  Clear on a zero table.
  Seek on a zero table.
-/
import Derived.Test.YtdjabdmnknlaeaaGreatDtAdd
import Derived.Test.YtdjabdmnknlaeaaGreatLdn
import Derived.Test.YtdjabdmnknlaeaaGreatDtb
import Derived.Test.YtdjabdmnknlaeaaGreatTfs
import Derived.Deep.RegionLaw
import Derived.Deep.RegionHeld3
namespace Go.Proofs.YtdjabdmnknlaeaaGreat
open Go.RowKit Go.WideShapes

/-- A zero table in memory. -/
abbrev Zt (w : World) (g : Nat) : Prop := Blk w g 7 (zF (.pointer none))
/-- What a call leaves that was made on a zero table. -/
structure Az (w : World) (g : Nat) (t : Tb) (w' : World) (gi r h : Nat) (ev : Value) : Prop where
  dt : Dt w' g gi r h ev t (.pointer none)
  fx : ∀ j, dX g gi r h ev j → j = g ∨ w.heap.size ≤ j
  ex : Ex (fun j => j = g) w w'
theorem noB {k : Nat} (h : mB (.pointer none) k) : False := by cases h
theorem ready_z {w : World} {g : Nat} (hZ : Zt w g) : Calls Tryz.prog 14 #[.pointer (some ⟨g, 0, none⟩)] w fun e w' => e = .returned (.tuple #[]) ∧ ∃ gi r h, Az w g Tb.new w' gi r h (.slice none 0 0) :=
  (ready_no (a := 0) (b := 0) hZ mtOk_nil (M := noM) trivial (fun _ h => (noB h).elim) (by omega)).mono fun _ _ ⟨h1, gi, r, h, h2, h3, h4, h5, _, h6⟩ => ⟨h1, gi, r, h, h5, (fun j hj => by
    rcases hj with e | e | e | e | e
    · exact .inl e
    · exact .inr (by omega)
    · exact .inr (by omega)
    · exact .inr (by omega)
    · cases e), h6.mono (fun k _ hk => hk.elim id (fun x => (noB x).elim))⟩
theorem Az.then {w w1 w' : World} {g gi r h gi' r' h' : Nat} {t t' : Tb} {ev ev' : Value} {a b : Int} (x : Az w g t w1 gi r h ev) (d : Ad w1 g gi r h ev (.pointer none) noM a b t' w' gi' r' h' ev') : Az w g t' w' gi' r' h' ev' :=
  ⟨d.dt, fun j hj => (d.fx j hj).elim (x.fx j) (fun y => .inr (Nat.le_trans x.ex.size y)), x.ex.next d.ex (fun k hk hx => by
    rcases hx with y | y
    · exact (x.fx k y).elim id (fun z => by omega)
    · exact (noB y).elim)⟩
theorem Az.below {w w1 w' : World} {g gi r h : Nat} {t : Tb} {ev : Value} (x : Az w g t w1 gi r h ev) (hb : Below w1.heap.size w1 w') : Az w g t w' gi r h ev :=
  ⟨x.dt.below hb, x.fx, x.ex.next (ex_of (X := fun _ => False) hb) (fun _ _ h => h.elim)⟩
end Go.Proofs.YtdjabdmnknlaeaaGreat
namespace Go.Proofs.YtdjabdmnknlaeaaGreat
open Go.RowKit Go.WideShapes

theorem put_z {w : World} {g : Nat} {t : Tb} (hZ : Zt w g) (htn : t = Tb.new) (n v : Int) (hn : ¬ t.has n) :
    Calls Tryz.prog 24 #[.pointer (some ⟨g, 0, none⟩), .int .i64 n, .int .i64 v] w fun e w' => e = .returned (.int .i64 7) ∧ w' = w := by
  have C1 := trefuse_any (t := t) (ev := .slice none 0 0) (hZ.c 2 (by omega)) (by rw [htn]; exact Es.nil _) n
  rw [show noE t n = 7 from if_neg hn] at C1
  clear hZ hn htn
  go_enter Tryz.func24, Tryz.ntmps24
  go_wp2_with fail
  refine C1.mono ?_
  rintro e w1 ⟨rfl, rfl⟩
  clear C1
  go_wp2
  go_ret
  exact ⟨rfl, rfl⟩
theorem kill_z {w : World} {g : Nat} {t : Tb} (hZ : Zt w g) (htn : t = Tb.new) (n : Int) (hn : ¬ t.has n) :
    Calls Tryz.prog 26 #[.pointer (some ⟨g, 0, none⟩), .int .i64 n] w fun e w' => e = .returned (.int .i64 7) ∧ w' = w := by
  have C1 := trefuse_any (t := t) (ev := .slice none 0 0) (hZ.c 2 (by omega)) (by rw [htn]; exact Es.nil _) n
  rw [show noE t n = 7 from if_neg hn] at C1
  clear hZ hn htn
  go_enter Tryz.func26, Tryz.ntmps26
  go_wp2_with fail
  refine C1.mono ?_
  rintro e w1 ⟨rfl, rfl⟩
  clear C1
  go_wp2
  go_ret
  exact ⟨rfl, rfl⟩
set_option maxRecDepth 100000 in
theorem at_z {w : World} {g : Nat} {t : Tb} (hZ : Zt w g) (htn : t = Tb.new) (n : Int) (hn : ¬ t.has n) :
    Calls Tryz.prog 28 #[.pointer (some ⟨g, 0, none⟩), .int .i64 n] w fun e w' => e = .returned (.tuple #[.agg #[.bool false, .int .i64 0, .int .i64 0, .int .i64 0, .int .i64 0], .int .i64 7]) ∧ Below w.heap.size w w' := by
  obtain ⟨w1, hw1⟩ : ∃ y, w.alloc (.cells #[.bool false, .int .i64 0, .int .i64 0, .int .i64 0, .int .i64 0] 60) = y := ⟨_, rfl⟩
  have hB1 : Below w.heap.size w w1 := by rw [← hw1]; exact (Below.refl _ w).alloc (Nat.le_refl _) _
  have hX1 : Blk w1 w.heap.size 5 (fun j => #[Value.bool false, .int .i64 0, .int .i64 0, .int .i64 0, .int .i64 0].getD j .nilFunc) := by rw [← hw1]; exact Blk.new w _ _
  have hZ1 : Zt w1 g := hZ.same (hB1.block g (hZ.lt (by omega)))
  have C1 := trefuse_any (t := t) (ev := .slice none 0 0) (hZ1.c 2 (by omega)) (by rw [htn]; exact Es.nil _) n
  rw [show noE t n = 7 from if_neg hn] at C1
  have a0 : w1.cell? ⟨w.heap.size, 0, none⟩ = some (.bool false) := hX1.c 0 (by omega)
  have a1 : w1.cell? ⟨w.heap.size, 1, none⟩ = some (.int .i64 0) := hX1.c 1 (by omega)
  have a2 : w1.cell? ⟨w.heap.size, 2, none⟩ = some (.int .i64 0) := hX1.c 2 (by omega)
  have a3 : w1.cell? ⟨w.heap.size, 3, none⟩ = some (.int .i64 0) := hX1.c 3 (by omega)
  have a4 : w1.cell? ⟨w.heap.size, 4, none⟩ = some (.int .i64 0) := hX1.c 4 (by omega)
  have z0 := hX1.z 0
  have z1 := hX1.z 1
  have z2 := hX1.z 2
  have z3 := hX1.z 3
  have z4 := hX1.z 4
  have HW := Lib.hid hw1
  have HX1 := Lib.hid hX1
  have HB1 := Lib.hid hB1
  clear hw1 hX1 hB1 hZ hZ1 hn htn
  go_enter Tryz.func28, Tryz.ntmps28
  go_wp2_with fail
  rw [HW.out]
  refine C1.mono ?_
  rintro e w2 ⟨rfl, rfl⟩
  clear C1
  have HR := Lib.hid (((((HX1.out.put 0 (.bool false)).put 1 (.int .i64 0)).put 2 (.int .i64 0)).put 3 (.int .i64 0)).put 4 (.int .i64 0))
  have HBB : Hid (Below w.heap.size w (((((w2.setCell ⟨w.heap.size, 0, none⟩ (.bool false)).setCell ⟨w.heap.size, 1, none⟩ (.int .i64 0)).setCell ⟨w.heap.size, 2, none⟩ (.int .i64 0)).setCell ⟨w.heap.size, 3, none⟩ (.int .i64 0)).setCell ⟨w.heap.size, 4, none⟩ (.int .i64 0))) := ((((HB1.out.setCell (p := ⟨w.heap.size, 0, none⟩) (Nat.le_refl _) _).setCell (p := ⟨w.heap.size, 1, none⟩) (Nat.le_refl _) _).setCell (p := ⟨w.heap.size, 2, none⟩) (Nat.le_refl _) _).setCell (p := ⟨w.heap.size, 3, none⟩) (Nat.le_refl _) _).setCell (p := ⟨w.heap.size, 4, none⟩) (Nat.le_refl _) _
  go_wp2_with fail
  first
    | (generalize World.setCell (World.setCell (World.setCell (World.setCell (World.setCell w2 _ _) _ _) _ _) _ _) _ _ = w3 at *
       have p0 : w3.cell? ⟨w.heap.size, 0, none⟩ = some (.bool false) := HR.out.c 0 (by omega)
       have p1 : w3.cell? ⟨w.heap.size, 1, none⟩ = some (.int .i64 0) := HR.out.c 1 (by omega)
       have p2 : w3.cell? ⟨w.heap.size, 2, none⟩ = some (.int .i64 0) := HR.out.c 2 (by omega)
       have p3 : w3.cell? ⟨w.heap.size, 3, none⟩ = some (.int .i64 0) := HR.out.c 3 (by omega)
       have p4 : w3.cell? ⟨w.heap.size, 4, none⟩ = some (.int .i64 0) := HR.out.c 4 (by omega)
       refine bodyPost_ret (v := .tuple #[.agg #[.bool false, .int .i64 0, .int .i64 0, .int .i64 0, .int .i64 0], .int .i64 7]) ?_ rfl ⟨rfl, HBB.out⟩
       simp [results, Tryz.results28, go_sem, p0, p1, p2, p3, p4]
       done)
    | (refine bodyPost_ret (v := .tuple #[.agg #[.bool false, .int .i64 0, .int .i64 0, .int .i64 0, .int .i64 0], .int .i64 7]) ?_ rfl ⟨rfl, HB1.out⟩
       simp [results, Tryz.results28, go_sem, a0, a1, a2, a3, a4]
       done)
set_option maxRecDepth 100000 in
set_option maxHeartbeats 8000000 in
theorem copy_z {w : World} {g : Nat} {t : Tb} {M : Int → Int → World → Prop} {a b : Int} (hZ : Zt w g) (htn : t = Tb.new) (hO : t.Ok) (hMo : MtOk (.pointer none) M) (hM : M a b w) (ha : 0 ≤ a ∧ a ≤ 1000000000) :
    Calls Tryz.prog 32 #[.pointer (some ⟨g, 0, none⟩)] w fun e w' => ∃ g' gi' r' h' ev', e = .returned (.pointer (some ⟨g', 0, none⟩)) ∧ (∀ k, dX g' gi' r' h' ev' k → w.heap.size ≤ k) ∧ Dt w' g' gi' r' h' ev' t.cp (.pointer none) ∧ M (a + 1) b w' ∧ Ex (mB (.pointer none)) w w' := by
  have hlen : t.es.length ≤ 100000 := Nat.le_trans hO.few hO.all
  have k0 : w.cell? ⟨g, 0, none⟩ = some (.pointer none) := hZ.c 0 (by omega)
  have d0 : w.drew.cell? ⟨g, 0, none⟩ = some (.pointer none) := k0
  have hlg := lt_of_cell k0
  have CC := copied_any (w := w.drew) (g := g) (ev := .slice none 0 0) (es := t.es) (hZ.c 2 (by omega)) (by rw [htn]; exact Es.nil _) hlen
  have hB0 : Below w.heap.size w w.drew := (Below.refl _ w).drew
  have HMO := Lib.hid hMo
  have HM := Lib.hid hM
  have HO := Lib.hid hO
  clear hZ hO hMo hM htn
  go_enter Tryz.func32, Tryz.ntmps32
  go_wp2_with fail
  go_region_held3 (fun V => V.cell? ⟨g, 0, none⟩ = some (.pointer none))
    (first | with_reducible exact d0 | with_reducible exact k0 | with_reducible exact q0 | with_reducible exact p0 | fail)
    (first | (go_at_call 51; refine CC.mono ?_; rintro e w2 ⟨cv, rfl, hEs, hb2⟩; obtain ⟨ca, cc, hcv⟩ := ownsRow_shape hEs; subst hcv; have hB2 := hB0.trans hb2; have q0 := (hB2.cell (p := ⟨g, 0, none⟩) hlg).trans k0; have p0 := (cell_alloc_old w2 (.cells #[.pointer none, .pointer none, .slice ca t.es.length cc, .int .i64 0, .int .i64 0, .int .i64 0, .int .i64 0] 48) g 0 (Nat.lt_of_lt_of_le hlg hB2.size)).trans q0) | fail)
  obtain ⟨w3, hw3⟩ : ∃ y, w2.alloc (.cells #[.pointer none, .pointer none, .slice ca t.es.length cc, .int .i64 0, .int .i64 0, .int .i64 0, .int .i64 0] 48) = y := ⟨_, rfl⟩
  have hs2 := hB2.size
  have hB23 : Below w2.heap.size w2 w3 := by rw [← hw3]; exact (Below.refl _ w2).alloc (Nat.le_refl _) _
  have hB3 : Below w.heap.size w w3 := hB2.trans (hB23.mono hs2)
  have hX3 : Blk w3 w2.heap.size 7 (cF (.pointer none) (.slice ca t.es.length cc) 0 0) := by
    rw [← hw3]
    refine (Blk.new w2 _ _).congr fun j hj => ?_
    have : j = 0 ∨ j = 1 ∨ j = 2 ∨ j = 3 ∨ j = 4 ∨ j = 5 ∨ j = 6 := by simp at hj; omega
    rcases this with rfl | rfl | rfl | rfl | rfl | rfl | rfl <;> rfl
  have hs3 : w3.heap.size = w2.heap.size + 1 := by rw [← hw3]; simp
  have hltE := hEs.es.lt
  have hgeE := hEs.ge
  have hE3 : Es w3 (.slice ca t.es.length cc) t.es := hEs.es.same fun k hk => hB23.block k (hltE k hk)
  have CD := dropDead_any hX3 rfl hE3 (fun k hk => by have := hltE k hk; omega) hlen
  have HW3 := Lib.hid hw3
  have HB3 := Lib.hid hB3
  have hll := liveL_len t.es
  clear hw3 hX3 hE3 hEs q0 p0 d0 k0 CC hb2 hB2 hB23 hB3
  go_wp2_with fail
  rw [HW3.out]
  refine CD.mono ?_
  rintro e w4 ⟨rfl, ev', hob, hX4, hE4, hEx4⟩
  clear CD
  have hob' : ∀ k, ev'.ownBlock = some k → w.heap.size ≤ k ∧ k < w2.heap.size := fun k hk => by
    rw [hob] at hk
    exact ⟨hgeE k hk, hltE k hk⟩
  have hB4 : Below w.heap.size w w4 := HB3.out.trans (hEx4.below (fun k hk => hk.elim (fun e => by omega) (fun e => hgeE k e)) HB3.out.size)
  have hs34 := hEx4.size
  obtain ⟨ae, cape, ge, hev, hae, hro⟩ := hE4.open
  have hcap := hro.le
  have HAE := Lib.hid hae
  subst hev
  clear hro hae hEx4
  have k2 : w4.cell? ⟨w2.heap.size, 2, none⟩ = some (.slice ae (liveL t.es).length cape) := hX4.c 2 (by omega)
  generalize hLs : liveL t.es = ls at *
  have HLS := Lib.hid hLs
  clear hLs
  have HX4 := Lib.hid hX4
  have HE4 : Hid (Es w4 (.slice ae ls.length cape) (reb ls 0)) := by show Es _ _ _; rw [reb_zero]; exact hE4
  have HB4 := Lib.hid hB4
  have HLl : Hid (∀ n, n < ls.length → (nth ls n).live = true) := fun n hn => by rw [← HLS.out] at hn ⊢; exact liveL_nth _ n hn
  clear hX4 hE4 hB4
  go_wp2_with fail
  go_loopw [22, 4] (fun iv _ wr => ∃ k : Nat, k ≤ ls.length ∧ iv = .int .i64 (k : Int) ∧ Hid (Es wr (.slice ae ls.length cape) (reb ls k)) ∧ Hid (Blk wr w2.heap.size 7 (setE (cF (.pointer none) (.slice ca t.es.length cc) 0 0) (.slice ae ls.length cape))) ∧ Below w.heap.size w wr ∧ w4.heap.size ≤ wr.heap.size) (fun iv _ _ => ls.length - (intOf iv).toNat)
  case atStart => exact ⟨0, Nat.zero_le _, rfl, HE4, HX4, HB4.out, Nat.le_refl _⟩
  case round =>
    clear HE4 HX4 HB4 k2
    obtain ⟨k, hk, rfl, HE, HX, hB, hsz⟩ := hrel
    have y2 : wr.cell? ⟨w2.heap.size, 2, none⟩ = some (.slice ae ls.length cape) := HX.out.c 2 (by omega)
    by_cases hlt : k < ls.length
    · have tk : (k : Int) < (ls.length : Int) := by omega
      obtain ⟨hae, hobk, _⟩ := HAE.out (by omega)
      subst hae
      obtain ⟨hg1, hg2⟩ := hob' ge rfl
      have hE := HE.out
      rw [← reb_len ls k] at hE
      obtain ⟨_, _, _, hv', hae', hro'⟩ := hE.open
      cases hv'
      obtain ⟨hge', _, hfz'⟩ := hae' (by rw [reb_len]; omega)
      cases hge'
      have e4 := hro'.c4 k (by rw [reb_len]; exact hlt)
      have z4 := hfz' (k * 5 + 4)
      have HN : Hid (Es (wr.setCell ⟨ge, k * 5 + 4, none⟩ (.int .i64 (k : Int))) (.slice (some ⟨ge, 0, none⟩) ls.length cape) (reb ls (k + 1)) ∧ Blk (wr.setCell ⟨ge, k * 5 + 4, none⟩ (.int .i64 (k : Int))) w2.heap.size 7 (setE (cF (.pointer none) (.slice ca t.es.length cc) 0 0) (.slice (some ⟨ge, 0, none⟩) ls.length cape)) ∧ Below w.heap.size w (wr.setCell ⟨ge, k * 5 + 4, none⟩ (.int .i64 (k : Int))) ∧ w4.heap.size ≤ (wr.setCell ⟨ge, k * 5 + 4, none⟩ (.int .i64 (k : Int))).heap.size) := by
        refine ⟨?_, HX.out.same (Below.heap_setCell _ _ _ _ (by show w2.heap.size ≠ ge; omega)), hB.setCell (p := ⟨ge, k * 5 + 4, none⟩) hg1 _, by simpa [World.setCell] using hsz⟩
        have hnk : nth (reb ls k) k = nth ls k := by rw [reb_nth _ _ _ hlt, if_neg (Nat.lt_irrefl _)]
        have := Es.put (reb_len ls k).symm (by rw [reb_len] at hE; exact HE.out) k 4 (by rw [reb_len]; exact hlt) (by decide) (.int .i64 (k : Int)) ⟨(nth ls k).live, (nth ls k).hash, (nth ls k).key, (nth ls k).value, (k : Int)⟩ (by rw [hnk]; rfl) rfl
        rw [reb_set ls k hlt] at this
        exact this
      clear hE hro' hae' hfz'
      generalize (nth (reb ls k) k).birth = bv at *
      go_wp2_with fail
      go_roundw
      case rel => exact ⟨k + 1, by omega, by go_num, HN.out.1, HN.out.2.1, HN.out.2.2.1, HN.out.2.2.2⟩
      case measure => simp [intOf]; omega
    · obtain rfl : k = ls.length := by omega
      have tk : ¬ (ls.length : Int) < (ls.length : Int) := by omega
      have z3 := HX.out.z 3
      have z4 := HX.out.z 4
      have y3 : wr.cell? ⟨w2.heap.size, 3, none⟩ = some (.int .i64 0) := HX.out.c 3 (by omega)
      have y4 : wr.cell? ⟨w2.heap.size, 4, none⟩ = some (.int .i64 0) := HX.out.c 4 (by omega)
      have hX6 : Blk ((wr.setCell ⟨w2.heap.size, 3, none⟩ (.int .i64 (ls.length : Int))).setCell ⟨w2.heap.size, 4, none⟩ (.int .i64 (ls.length : Int))) w2.heap.size 7 (cF (.pointer none) (.slice ae ls.length cape) ls.length ls.length) := ((HX.out.put 3 _).put 4 _).congr fun j hj => by
        have : j = 0 ∨ j = 1 ∨ j = 2 ∨ j = 3 ∨ j = 4 ∨ j = 5 ∨ j = 6 := by omega
        rcases this with rfl | rfl | rfl | rfl | rfl | rfl | rfl <;> rfl
      have hB6 : Below w.heap.size w ((wr.setCell ⟨w2.heap.size, 3, none⟩ (.int .i64 (ls.length : Int))).setCell ⟨w2.heap.size, 4, none⟩ (.int .i64 (ls.length : Int))) := (hB.setCell (p := ⟨w2.heap.size, 3, none⟩) hs2 _).setCell (p := ⟨w2.heap.size, 4, none⟩) hs2 _
      have hE6 : Es ((wr.setCell ⟨w2.heap.size, 3, none⟩ (.int .i64 (ls.length : Int))).setCell ⟨w2.heap.size, 4, none⟩ (.int .i64 (ls.length : Int))) (.slice ae ls.length cape) (reb ls ls.length) := HE.out.same fun q hq => by
        have := (hob' q hq).2
        rw [Below.heap_setCell _ _ _ _ (by show q ≠ w2.heap.size; omega), Below.heap_setCell _ _ _ _ (by show q ≠ w2.heap.size; omega)]
      have hs6 : ((wr.setCell ⟨w2.heap.size, 3, none⟩ (.int .i64 (ls.length : Int))).setCell ⟨w2.heap.size, 4, none⟩ (.int .i64 (ls.length : Int))).heap.size = wr.heap.size := by simp
      have x2 : (wr.setCell ⟨w2.heap.size, 3, none⟩ (.int .i64 (ls.length : Int))).cell? ⟨w2.heap.size, 2, none⟩ = some (.slice ae ls.length cape) := (World.cell?_setCell_other _ _ _ _ (by intro he; injection he with h1 h2; omega)).trans y2
      have hn : ls.length ≤ 100000 := by omega
      obtain ⟨hc1, hc2, hc3⟩ := cplog_ok hn
      have hmlt := HMO.out.lt a b w
      have CI := makeIndex_any (L := cplog ls.length) (made := 0) (es := reb ls ls.length) (ev := .slice ae ls.length cape) (mv := .pointer none) (a := a) (b := b) ⟨rfl, hc1, hc2⟩ hX6 rfl rfl rfl hE6 HMO.out (HMO.out.same a b w _ HM.out fun q hq => hB6.block q (hmlt q HM.out hq)) (fun q hq => ⟨by have := (hob' q hq).2; omega, fun hm => by have := hmlt q HM.out hm; have := (hob' q hq).1; omega⟩) (fun q hq => by have := hmlt q HM.out hq; omega) (fun n hn => reb_live HLl.out _ n (by rwa [reb_len] at hn)) (by rw [reb_len]; exact hc3) (by decide) ha (by rw [reb_len]; exact hn)
      rw [reb_len] at CI
      have CO : Hid (∀ V, Calls Tryz.prog 43 #[.int .i64 (((3 * ls.length + 1) / 2 : Nat) : Int)] V fun e w' => e = .returned (.int .i64 ((cplog ls.length : Nat) : Int)) ∧ w' = V) := fun V => logOf_any ((3 * ls.length + 1) / 2) (by omega) V
      have f1 : IntKind.i64.wrap (3 * (ls.length : Int)) = 3 * (ls.length : Int) := i64_small (by omega) (by omega)
      have f2 : IntKind.i64.wrap (3 * (ls.length : Int) + 1) = 3 * (ls.length : Int) + 1 := i64_small (by omega) (by omega)
      have f3 : Int.tdiv (3 * (ls.length : Int) + 1) 2 = (((3 * ls.length + 1) / 2 : Nat) : Int) := by
        rw [Int.tdiv_eq_ediv_of_nonneg (by omega)]
        omega
      have f4 : IntKind.i64.wrap (((3 * ls.length + 1) / 2 : Nat) : Int) = (((3 * ls.length + 1) / 2 : Nat) : Int) := i64_small (by omega) (by omega)
      have HB6 := Lib.hid hB6
      have x3 : ((wr.setCell ⟨w2.heap.size, 3, none⟩ (.int .i64 (ls.length : Int))).setCell ⟨w2.heap.size, 4, none⟩ (.int .i64 (ls.length : Int))).cell? ⟨w2.heap.size, 3, none⟩ = some (.int .i64 (ls.length : Int)) := hX6.c 3 (by omega)
      clear HE HX hB hX6 hB6 hE6
      generalize (3 * ls.length + 1) / 2 = q at *
      go_wp2_with fail
      refine (CO.out _).mono ?_
      rintro e w7 ⟨rfl, rfl⟩
      go_wp2_with fail
      refine CI.mono ?_
      rintro e w8 ⟨rfl, gi', r', h', hgi', hr', hh', hI⟩
      clear CI
      have hs6' := HB6.out.size
      have HR : Hid ((∀ q, dX w2.heap.size gi' r' h' (.slice ae ls.length cape) q → w.heap.size ≤ q) ∧ Dt w8 w2.heap.size gi' r' h' (.slice ae ls.length cape) t.cp (.pointer none) ∧ M (a + 1) b w8 ∧ Ex (mB (.pointer none)) w w8) := by
        have hcp : t.cp = ⟨reb ls ls.length, cplog ls.length, layN (reb ls ls.length) (cplog ls.length) ls.length, ls.length, 1, 0⟩ := by unfold Tb.cp; rw [HLS.out]
        refine ⟨?_, ⟨?_, ?_, ?_, ?_, ⟨by omega, by omega, by omega⟩, ?_⟩, hI.m, ?_⟩
        · rintro q (rfl | rfl | rfl | rfl | hq)
          · exact hs2
          · omega
          · omega
          · omega
          · exact (hob' q hq).1
        · refine hI.hd.congr fun j hj => ?_
          have : j = 0 ∨ j = 1 ∨ j = 2 ∨ j = 3 ∨ j = 4 ∨ j = 5 ∨ j = 6 := by omega
          rcases this with rfl | rfl | rfl | rfl | rfl | rfl | rfl
          · rfl
          · rfl
          · rfl
          · show Value.int .i64 ((t.cp.live : Nat) : Int) = Value.int .i64 (ls.length : Int)
            rw [Tb.cp_live, HLS.out]
          · show Value.int .i64 ((t.cp.births : Nat) : Int) = Value.int .i64 (ls.length : Int)
            rw [hcp]
          · show Value.int .i64 ((t.cp.made : Nat) : Int) = Value.int .i64 ((0 : Nat) + 1 : Int)
            rw [hcp]
            rfl
          · show Value.int .i64 ((t.cp.turn : Nat) : Int) = Value.int .i64 0
            rw [hcp]
            rfl
        · show Es w8 _ t.cp.es
          rw [hcp]
          exact hI.row
        · show Cl w8 gi' r' h' t.cp.L (2 ^ t.cp.L) t.cp.c
          rw [hcp]
          exact hI.cl
        · intro q hq
          have := hob' q hq
          exact ⟨by omega, by omega, by omega, by omega⟩
        · intro q hq
          have h1 := hmlt q HM.out hq
          exact ⟨by omega, by omega, by omega, by omega, fun e => by have := (hob' q e).1; omega⟩
        · exact (ex_of (X := mB (.pointer none)) (w := w) (HB6.out)).next hI.ex (fun q hq hx => hx.elim (fun e => by omega) id)
      clear hI
      go_wp2
      go_ret
      exact ⟨_, gi', r', h', _, rfl, HR.out⟩
end Go.Proofs.YtdjabdmnknlaeaaGreat
namespace Go.Proofs.YtdjabdmnknlaeaaGreat
open Go.RowKit Go.WideShapes

set_option maxRecDepth 100000 in
set_option maxHeartbeats 8000000 in
theorem add_z {w : World} {g : Nat} (hZ : Zt w g) (u k v : Int) :
    Calls Tryz.prog 7 #[.pointer (some ⟨g, 0, none⟩), .int .i64 u, .int .i64 k, .int .i64 v] w fun e w' => e = .returned (.tuple #[.int .i64 (((Tb.new.add u k v).es.length - 1 : Nat) : Int), .int .i64 0]) ∧ ∃ gi' r' h' ev', Az w g (Tb.new.add u k v) w' gi' r' h' ev' := by
  obtain ⟨i0, hi, hz0, hz1, hz2⟩ := info_parts Tryz.infoEn
  obtain ⟨t, htn⟩ : ∃ t : Tb, t = Tb.new := ⟨_, rfl⟩
  obtain ⟨ev, hev0⟩ : ∃ ev : Value, ev = .slice none 0 0 := ⟨_, rfl⟩
  obtain ⟨mv, hmv⟩ : ∃ mv : Value, mv = .pointer none := ⟨_, rfl⟩
  obtain ⟨M, hMM⟩ : ∃ M : Int → Int → World → Prop, M = noM := ⟨_, rfl⟩
  obtain ⟨a, ha0⟩ : ∃ a : Int, a = 0 := ⟨_, rfl⟩
  obtain ⟨b, hb0⟩ : ∃ b : Int, b = 0 := ⟨_, rfl⟩
  have CR := ready_z hZ
  rw [← htn, ← hev0] at CR
  rw [← htn]
  have hMo : MtOk mv M := by rw [hmv, hMM]; exact mtOk_nil
  have ha : 0 ≤ a ∧ a ≤ 1000000000 := by omega
  have hm : t.made ≤ 1000000 := by rw [htn]; decide
  have ht : t.turn ≤ 1000000 := by rw [htn]; decide
  have hb : t.births < 100000 := by rw [htn]; decide
  have hO : t.Ok := by rw [htn]; exact Tb.new_ok
  have HMO := Lib.hid hMo
  have HTM := Lib.hid (And.intro hmv hMM)
  clear hZ htn hev0
  go_enter Tryz.func7, Tryz.ntmps7
  go_wp2_with fail
  refine CR.mono ?_
  rintro e w0 ⟨rfl, gi, r, h, hAz⟩
  have CM := makeRoom_any (M := M) (a := a) (b := b) (show Dt w0 g gi r h ev t mv by rw [hmv]; exact hAz.dt) hO hMo (by rw [hMM]; trivial) hm ha u k v
  have HAZ := Lib.hid hAz
  clear hAz hMo hO hmv hMM
  clear CR
  go_wp2_with fail
  refine CM.mono ?_
  rintro e w1 ⟨rfl, gi1, r1, h1, ev1, t1, hT⟩
  clear CM
  have HT := Lib.hid hT
  have hB := hT.dt.hd
  obtain ⟨a1, cap1, ge1, hev, _, hro1⟩ := hT.dt.es.open
  have hcap1 := hro1.le
  have f2 : w1.cell? ⟨g, 2, none⟩ = some (.slice a1 t1.es.length cap1) := by rw [← hev]; exact hB.c 2 (by omega)
  have f4 : w1.cell? ⟨g, 4, none⟩ = some (.int .i64 (t1.births : Int)) := hB.c 4 (by omega)
  have z2 := hB.z 2
  have hlg := hB.lt (by omega)
  have hl1 : t1.es.length ≤ 100000 := Nat.le_trans hT.ok.few hT.ok.all
  have hown : w1.drew.ownsRow 0 60 5 (.slice a1 t1.es.length cap1) t1.es.length (enl t1.es) := by rw [← hev]; exact hT.dt.es
  have NF : Hid (∀ j u', (enc5 ⟨true, u, k, v, (t1.births : Int)⟩)[j]? = some u' → (w1.drew.alloc (.cells #[.bool true, .int .i64 u, .int .i64 k, .int .i64 v, .int .i64 (t1.births : Int)] 60)).cell? (Addr.add ⟨w1.drew.heap.size, 0, none⟩ j) = some u') := new_five w1.drew ⟨true, u, k, v, (t1.births : Int)⟩ 60
  have HE5 : Hid ((enc5 ⟨true, u, k, v, (t1.births : Int)⟩).length = 5 ∧ ∀ u' ∈ enc5 ⟨true, u, k, v, (t1.births : Int)⟩, u'.oneCell' = true) := ⟨rfl, fun u' hu => enl_one [⟨true, u, k, v, (t1.births : Int)⟩] u' (by simpa [enl] using hu)⟩
  have HGB : Hid (∀ w5 : World, (w1.drew.alloc (.cells #[.bool true, .int .i64 u, .int .i64 k, .int .i64 v, .int .i64 (t1.births : Int)] 60)).grownBy w5 (Value.slice a1 t1.es.length cap1).ownBlock → ∀ j, j < w1.heap.size → (Value.slice a1 t1.es.length cap1).ownBlock ≠ some j → w5.heap[j]? = w1.heap[j]?) := fun w5 hgw j hj hne => (hgw.block j (by simp; exact Nat.lt_succ_of_lt hj) (fun e => hne e.symm)).trans (Below.heap_alloc _ _ _ hj)
  have HNG : Hid ((Value.slice a1 t1.es.length cap1).ownBlock ≠ some g) := fun e => (hT.dt.ap g (by rw [hev]; exact e)).1 rfl
  have HEV := Lib.hid hev
  clear hT hro1 hB hev
  go_upto_region 8 with fail
  go_region_law (refine step_append_own rfl _ _ 34 rfl 0 60 i0 (.agg #[.bool false, .int .i64 0, .int .i64 0, .int .i64 0, .int .i64 0]) 5 40 Tryz.underlying34 hi hz0 hz1 hz2 rfl (by decide) (.slice a1 t1.es.length cap1) t1.es.length (enl t1.es) (by simp [Act.eval]) (World.ownsRow.alloc hown _) ⟨w1.drew.heap.size, 0, none⟩ 1 1 (enc5 ⟨true, u, k, v, (t1.births : Int)⟩) (by simp [Act.eval]) HE5.out.1 NF.out HE5.out.2 (by unfold maxLen; omega) (by omega) (Nat.zero_le _) ?_; intro v' w5 hown2 hgrow hat; obtain ⟨a2, cap2, hv2⟩ := ownsRow_shape hown2; subst hv2; have hb5 := HGB.out w5 hgrow g hlg HNG.out; have g2 := (World.cell?_of_block (a := ⟨g, 2, none⟩) hb5).trans f2; have gz2 := (World.frozen?_of_block (a := ⟨g, 2, none⟩) hb5).trans z2)
  all_goals
    rw [← HEV.out] at hgrow hat
    obtain ⟨ge2, i, rfl, hA⟩ := dadd_mid HMO.out HT.out hown2 hgrow hat
    have CL := lay_any hA.k1 hA.k2 hA.ke hA.cl hA.gh hA.eh (by omega) HT.out.room hA.isF hA.lt
    have HA := Lib.hid hA
    clear hown2 hgrow hat hA f2 f4 z2
    go_wp2_with fail
    generalize World.setCell w5 _ _ = w6 at *
    clear g2 gz2 hb5
    refine CL.mono ?_
    rintro e w7 ⟨rfl, hC7, hb7⟩
    clear CL
    obtain ⟨hB7, hDt, hM7, hFx, hEx⟩ := HA.out.fin w7 hC7 hb7
    have x4 : w7.cell? ⟨g, 4, none⟩ = some (.int .i64 (t1.births : Int)) := hB7.c 4 (by omega)
    have x3 : w7.cell? ⟨g, 3, none⟩ = some (.int .i64 (t1.live : Int)) := hB7.c 3 (by omega)
    have x6 : w7.cell? ⟨g, 6, none⟩ = some (.int .i64 (t1.turn : Int)) := hB7.c 6 (by omega)
    have y4 := hB7.z 4
    have y3 := hB7.z 3
    have y6 := hB7.z 6
    have hbi := HT.out.bi
    have htu := HT.out.tu
    have hlv1 := t1.live_le
    have e4 : IntKind.i64.wrap ((t1.births : Int) + 1) = (t1.births : Int) + 1 := i64_small (by omega) (by omega)
    have e3 : IntKind.i64.wrap ((t1.live : Int) + 1) = (t1.live : Int) + 1 := i64_small (by omega) (by omega)
    have e6 : IntKind.i64.wrap ((t1.turn : Int) + 1) = (t1.turn : Int) + 1 := i64_small (by omega) (by omega)
    have HN : Hid ((t.add u k v).es.length - 1 = t1.es.length) := by
      show _ = _
      rw [HT.out.eq]
      show (t1.es ++ [_]).length - 1 = _
      simp
    have HR : Hid (Ad w0 g gi r h ev mv M (a + ((t.add u k v).made - t.made : Nat)) b (t.add u k v) (dAddW w7 g t1) gi1 r1 h1 (.slice (some ⟨ge2, 0, none⟩) (t1.es.length + 1) cap2)) := by
      show Ad _ _ _ _ _ _ _ _ _ _ _ _ _ _ _ _
      rw [HT.out.eq]
      exact ⟨hDt, hM7, hFx, hEx⟩
    clear hC7 hb7 hB7 hDt hM7 hFx hEx hbi htu
    unfold dAddW at HR
    go_wp2
    go_ret2
    have hR := HR.out
    rw [HTM.out.1, HTM.out.2] at hR
    exact ⟨by rw [HN.out]; rfl, gi1, r1, h1, _, HAZ.out.then hR⟩
end Go.Proofs.YtdjabdmnknlaeaaGreat
namespace Go.Proofs.YtdjabdmnknlaeaaGreat
open Go.RowKit Go.WideShapes

set_option maxRecDepth 100000 in
set_option maxHeartbeats 8000000 in
theorem clear_z {w : World} {g : Nat} (hZ : Zt w g) :
    Calls Tryz.prog 30 #[.pointer (some ⟨g, 0, none⟩)] w fun e w' => e = .returned (.tuple #[]) ∧ ∃ gi' r' h' ev', Az w g Tb.new.clear w' gi' r' h' ev' := by
  obtain ⟨t, htn⟩ : ∃ t : Tb, t = Tb.new := ⟨_, rfl⟩
  obtain ⟨ev, hev0⟩ : ∃ ev : Value, ev = .slice none 0 0 := ⟨_, rfl⟩
  obtain ⟨mv, hmv⟩ : ∃ mv : Value, mv = .pointer none := ⟨_, rfl⟩
  obtain ⟨M, hMM⟩ : ∃ M : Int → Int → World → Prop, M = noM := ⟨_, rfl⟩
  obtain ⟨a, ha0⟩ : ∃ a : Int, a = 0 := ⟨_, rfl⟩
  obtain ⟨b, hb0⟩ : ∃ b : Int, b = 0 := ⟨_, rfl⟩
  have CR := ready_z hZ
  rw [← htn, ← hev0] at CR
  rw [← htn]
  have hMo : MtOk mv M := by rw [hmv, hMM]; exact mtOk_nil
  have ha : 0 ≤ a ∧ a ≤ 1000000000 := by omega
  have hm : t.made ≤ 1000000 := by rw [htn]; decide
  have ht : t.turn ≤ 1000000 := by rw [htn]; decide
  have HTM := Lib.hid (And.intro hmv hMM)
  clear hZ htn hev0
  go_enter Tryz.func30, Tryz.ntmps30
  go_wp2_with fail
  refine CR.mono ?_
  rintro e w1 ⟨rfl, gi, r, h, hAz⟩
  clear CR
  have hD : Dt w1 g gi r h ev t mv := by rw [hmv]; exact hAz.dt
  have hM : M a b w1 := by rw [hMM]; trivial
  have HAZ := Lib.hid hAz
  clear hAz hmv hMM
  have k1 : w1.cell? ⟨g, 1, none⟩ = some (.pointer (some ⟨gi, 0, none⟩)) := hD.hd.c 1 (by omega)
  have k2 : w1.cell? ⟨g, 2, none⟩ = some ev := hD.hd.c 2 (by omega)
  have k3 : w1.cell? ⟨g, 3, none⟩ = some (.int .i64 (t.live : Int)) := hD.hd.c 3 (by omega)
  have k6 : w1.cell? ⟨g, 6, none⟩ = some (.int .i64 (t.turn : Int)) := hD.hd.c 6 (by omega)
  have z2 := hD.hd.z 2
  have z3 := hD.hd.z 3
  have z6 := hD.hd.z 6
  have e6 : IntKind.i64.wrap ((t.turn : Int) + 1) = (t.turn : Int) + 1 := i64_small (by omega) (by omega)
  have lg := hD.hd.lt (by omega)
  obtain ⟨w2, hw2⟩ : ∃ y, ((w1.setCell ⟨g, 2, none⟩ (.slice none 0 0)).setCell ⟨g, 3, none⟩ (.int .i64 0)).setCell ⟨g, 6, none⟩ (.int .i64 ((t.turn : Int) + 1)) = y := ⟨_, rfl⟩
  have hB2 : Blk w2 g 7 (fun x => if x = 6 then .int .i64 ((t.turn : Int) + 1) else if x = 3 then .int .i64 0 else if x = 2 then .slice none 0 0 else dF mv gi ev t x) := by rw [← hw2]; exact ((hD.hd.put 2 _).put 3 _).put 6 _
  have hX2 : Ex (fun j => dX g gi r h ev j ∨ mB mv j) w1 w2 := by rw [← hw2]; exact (((Ex.refl _ w1).setCell (p := ⟨g, 2, none⟩) (fun _ => .inl (.inl rfl)) _).setCell (p := ⟨g, 3, none⟩) (fun _ => .inl (.inl rfl)) _).setCell (p := ⟨g, 6, none⟩) (fun _ => .inl (.inl rfl)) _
  have hM2 : M a b w2 := hMo.same a b w1 _ hM fun k hk => by
    have := (hD.mp k hk).1
    rw [← hw2, Below.heap_setCell _ _ _ _ this, Below.heap_setCell _ _ _ _ this, Below.heap_setCell _ _ _ _ this]
  have C1 := makeIndex_any (L := 3) (made := t.made) (es := []) ⟨rfl, by decide, by decide⟩ hB2 rfl rfl rfl (Es.nil w2) hMo hM2 (fun k hk => by cases hk) (fun k hk => (hD.mp k hk).1) (fun n hn => by simp at hn) (by simp) hm ha (by simp)
  have hlm := hMo.lt a b w1
  have HM := Lib.hid hM
  have HMP := Lib.hid hD.mp
  have HX2 := Lib.hid hX2
  have HW2 := Lib.hid hw2
  clear hD hMo hM hB2 hM2 hX2 hw2
  go_wp2_with fail
  rw [HW2.out]
  refine C1.mono ?_
  rintro e w3 ⟨rfl, gi', r', h', hgi, hr, hh, hI⟩
  have hs2 : w1.heap.size ≤ w2.heap.size := HX2.out.size
  have HD : Hid (Ad w1 g gi r h ev mv M (a + 1) b t.clear w3 gi' r' h' (.slice none 0 0)) := by
    refine ⟨⟨hI.hd.congr (fun j hj => ?_), hI.row, hI.cl, (fun k hk => by cases hk), ⟨by omega, by omega, by omega⟩, fun k hk => ?_⟩, hI.m, fun j hj => ?_, HX2.out.next hI.ex (fun k hk h => h.elim (fun e => .inl (.inl e)) .inr)⟩
    · have : j = 0 ∨ j = 1 ∨ j = 2 ∨ j = 3 ∨ j = 4 ∨ j = 5 ∨ j = 6 := by omega
      rcases this with rfl | rfl | rfl | rfl | rfl | rfl | rfl
      · rfl
      · rfl
      · rfl
      · rfl
      · rfl
      · show Value.int .i64 (((t.made + 1 : Nat)) : Int) = Value.int .i64 ((t.made : Int) + 1)
        rw [Int.natCast_add]
        rfl
      · show Value.int .i64 (((t.turn + 1 : Nat)) : Int) = Value.int .i64 ((t.turn : Int) + 1)
        rw [Int.natCast_add]
        rfl
    · have := hlm k HM.out hk
      exact ⟨(HMP.out k hk).1, by omega, by omega, by omega, by simp [Value.ownBlock]⟩
    · rcases hj with rfl | rfl | rfl | rfl | hj
      · exact .inl (.inl rfl)
      · exact .inr (by omega)
      · exact .inr (by omega)
      · exact .inr (by omega)
      · cases hj
  clear C1 hI
  go_wp2
  go_end0
  have hR := HD.out
  rw [HTM.out.1, HTM.out.2] at hR
  exact ⟨rfl, gi', r', h', _, HAZ.out.then hR⟩
end Go.Proofs.YtdjabdmnknlaeaaGreat
namespace Go.Proofs.YtdjabdmnknlaeaaGreat
open Go.RowKit Go.WideShapes

set_option maxRecDepth 100000 in
set_option maxHeartbeats 8000000 in
theorem seek_z {w : World} {g : Nat} (hZ : Zt w g) (u : Int) :
    Calls Tryz.prog 34 #[.pointer (some ⟨g, 0, none⟩), .int .i64 u] w fun e w' => ∃ s gi r h wz, e = .returned (.pointer (some ⟨s, 0, none⟩)) ∧ Az w g Tb.new wz gi r h (.slice none 0 0) ∧ wz.heap.size ≤ s ∧ Sk w' s (.pointer (some ⟨g, 0, none⟩)) Tb.new.turn u Tb.new.L 0 (-1) 0 ∧ Below wz.heap.size wz w' := by
  obtain ⟨t, htn⟩ : ∃ t : Tb, t = Tb.new := ⟨_, rfl⟩
  obtain ⟨ev, hev0⟩ : ∃ ev : Value, ev = .slice none 0 0 := ⟨_, rfl⟩
  obtain ⟨mv, hmv⟩ : ∃ mv : Value, mv = .pointer none := ⟨_, rfl⟩
  obtain ⟨M, hMM⟩ : ∃ M : Int → Int → World → Prop, M = noM := ⟨_, rfl⟩
  obtain ⟨a, ha0⟩ : ∃ a : Int, a = 0 := ⟨_, rfl⟩
  obtain ⟨b, hb0⟩ : ∃ b : Int, b = 0 := ⟨_, rfl⟩
  have CR := ready_z hZ
  rw [← htn, ← hev0] at CR
  rw [← htn, ← hev0]
  have hMo : MtOk mv M := by rw [hmv, hMM]; exact mtOk_nil
  have ha : 0 ≤ a ∧ a ≤ 1000000000 := by omega
  have hm : t.made ≤ 1000000 := by rw [htn]; decide
  have ht : t.turn ≤ 1000000 := by rw [htn]; decide
  have HTM := Lib.hid (And.intro hmv hMM)
  clear hZ htn hev0
  go_enter Tryz.func34, Tryz.ntmps34
  go_wp2_with fail
  refine CR.mono ?_
  rintro e w1 ⟨rfl, gi, r, h, hAz⟩
  clear CR
  have hD : Dt w1 g gi r h ev t mv := by rw [hmv]; exact hAz.dt
  have HAZ := Lib.hid hAz
  clear hAz hmv hMM hMo HTM ha hm ht ha0 hb0
  have k1 : w1.cell? ⟨g, 1, none⟩ = some (.pointer (some ⟨gi, 0, none⟩)) := hD.hd.c 1 (by omega)
  have k6 : w1.cell? ⟨g, 6, none⟩ = some (.int .i64 (t.turn : Int)) := hD.hd.c 6 (by omega)
  have hS : Tr.Sz t.L (2 ^ t.L) := ⟨rfl, hD.cl.sz.le⟩
  have CL : Calls Tryz.prog 19 #[.pointer (some ⟨gi, 0, none⟩)] w1.drew fun e w1' => e = .returned (.int .i64 (t.L : Int)) ∧ w1' = w1.drew := log_any (hD.cl.same rfl rfl rfl)
  have CB := Tr.begin_any hS u w1.drew
  have hlg := lt_of_cell k1
  have hB0 : Below w1.heap.size w1 w1.drew := (Below.refl _ w1).drew
  have HT0 : Hid (uw u % 2 ^ t.L = trl (uw u) t.L 0) := by show _ = _; rw [trl]
  rw [HT0.out] at CB
  have d1 : w1.drew.cell? ⟨g, 1, none⟩ = some (.pointer (some ⟨gi, 0, none⟩)) := k1
  have d6 : w1.drew.cell? ⟨g, 6, none⟩ = some (.int .i64 (t.turn : Int)) := k6
  clear hD hS
  generalize hSS : 2 ^ t.L = S at *
  have HSS := Lib.hid hSS
  clear hSS
  generalize hx0 : trl (uw u) t.L 0 = x0 at *
  generalize hU : uw u = U at *
  have HX0 := Lib.hid hx0
  have HU := Lib.hid hU
  clear hx0 hU HT0
  go_wp2_with fail
  go_region_held3 (fun V => V.cell? ⟨g, 1, none⟩ = some (.pointer (some ⟨gi, 0, none⟩)) ∧ V.cell? ⟨g, 6, none⟩ = some (.int .i64 (t.turn : Int)))
    (first | with_reducible exact ⟨d1, d6⟩ | with_reducible exact ⟨k1, k6⟩ | with_reducible exact ⟨q1, q6⟩ | with_reducible exact ⟨r1, r6⟩ | fail)
    (first | (go_at_call 19; refine CL.mono ?_; rintro e v2 ⟨rfl, rfl⟩) | (go_at_call 59; refine CB.mono ?_; rintro e w2 ⟨rfl, hb2⟩; have hB2 := hB0.trans hb2; have q1 := (hB2.cell (p := ⟨g, 1, none⟩) hlg).trans k1; have q6 := (hB2.cell (p := ⟨g, 6, none⟩) hlg).trans k6; have r1 := (cell_alloc_old w2 (.cells #[.pointer (some ⟨g, 0, none⟩), .int .i64 (t.turn : Int), .int .i64 u, .int .u64 (x0 : Int), .int .u64 (U : Int), .int .u64 ((S : Int) - 1), .int .i64 (-1), .int .i64 0] 104) g 1 (Nat.lt_of_lt_of_le hlg hB2.size)).trans q1; have r6 := (cell_alloc_old w2 (.cells #[.pointer (some ⟨g, 0, none⟩), .int .i64 (t.turn : Int), .int .i64 u, .int .u64 (x0 : Int), .int .u64 (U : Int), .int .u64 ((S : Int) - 1), .int .i64 (-1), .int .i64 0] 104) g 6 (Nat.lt_of_lt_of_le hlg hB2.size)).trans q6) | fail)
  have HB : Hid (Blk (w2.alloc (.cells #[.pointer (some ⟨g, 0, none⟩), .int .i64 (t.turn : Int), .int .i64 u, .int .u64 (x0 : Int), .int .u64 (U : Int), .int .u64 ((S : Int) - 1), .int .i64 (-1), .int .i64 0] 104)) w2.heap.size 8 (skF (.pointer (some ⟨g, 0, none⟩)) t.turn u x0 U S (-1) 0)) := (Blk.new w2 _ _).congr fun j hj => by
    have : j = 0 ∨ j = 1 ∨ j = 2 ∨ j = 3 ∨ j = 4 ∨ j = 5 ∨ j = 6 ∨ j = 7 := by simp at hj; omega
    rcases this with rfl | rfl | rfl | rfl | rfl | rfl | rfl | rfl <;> rfl
  have HBW : Hid (∀ o, Below w1.heap.size w1 (w2.alloc o)) := fun o => hB2.alloc hB2.size o
  have hs2 := hB2.size
  clear q1 q6 r1 r6 d1 d6 k1 k6 hB2 hb2
  go_wp2
  go_ret
  refine ⟨w2.heap.size, gi, r, h, w1, rfl, HAZ.out, hs2, ?_, HBW.out _⟩
  unfold Sk
  rw [HSS.out, HU.out, HX0.out]
  simpa using HB.out
end Go.Proofs.YtdjabdmnknlaeaaGreat
