/-
  The reference's Sight.
  The reference's Seek and Next.
-/
import Derived.Test.YtcbhpjpkjmlcnaaGreatGxak
import Derived.Test.YtcbhpjpkjmlcnaaGreatGxad
namespace Go.Proofs.YtcbhpjpkjmlcnaaGreat
open Go.RowKit Go.WideShapes

/-- append(nil, x...), as one step of a region that draws. -/
theorem step_append_nil {P : Program} {ops : Array Oper} {o : Oper} {a : Act} {w : World} {K : Act → World → Prop} {Q : Exit → Act → World → Prop} {E : Prop} (hgd : o.guard = none) (s x : Operand) (t : TypeId)
    (ho : o.op = .call { callee := .builtin .append, args := #[s, x], argTypes := #[t, t] })
    (e : TypeId) (i : TypeInfo) (z : Value) (size bytes : Nat) (ht : P.underlying t = some (.slice e)) (hi : P.info? e = some i) (hz : i.zero = some z)
    (hsize : i.size = size) (hby : i.bytes = bytes) (hzs : z.cells.size = size) (hsz : 0 < size)
    (hs : a.eval s = .slice none 0 0) (ax : Option Addr) (m c : Nat) (hx : a.eval x = .slice ax m c) (hax : ax = none → m = 0 ∧ c = 0) (news : List Value) (hl : news.length = m * size) (hnews : ∀ ad, ax = some ad → ∀ j u, news[j]? = some u → w.cell? (ad.add j) = some u) (h1 : ∀ u ∈ news, u.oneCell' = true)
    (h63 : m ≤ maxLen) (hbytes : m * bytes ≤ 140737488355328)
    (h : ∀ v' w', w'.ownsRow w.heap.size e size v' m news → Below w.heap.size w w' → K (a.put o.dst v') w') :
    if Region.wanted o (yielded ops a.tmps) = true then Oper.wp P o a w K Q else E := by
  have hw : Region.wanted o (yielded ops a.tmps) = true := by simp [Region.wanted, hgd]
  rw [if_pos hw]
  cases hxx : ax with
  | none =>
    obtain ⟨rfl, rfl⟩ := hax hxx
    subst hxx
    obtain rfl : news = [] := List.eq_nil_of_length_eq_zero (by omega)
    have hr := run_append_owned_none (P := P) (w := w) w.heap.size t o.type e i size ht hi (.slice none 0 0) 0 [] (World.ownsRow_nil _ _ _ _)
    unfold Oper.wp
    simp [execOp, ho, resolve, invoke, builtin, hs, hx, hr, Result.andThen]
    exact h _ _ (World.ownsRow_nil _ _ _ _) (Below.refl _ _)
  | some ad =>
    subst hxx
    obtain ⟨v', w', hr, h2, h3, _, h5⟩ := run_append_own_at (P := P) w w.heap.size t o.type e i z size bytes ht hi hz hsize hby hzs hsz (.slice none 0 0) 0 [] (World.ownsRow_nil _ _ _ _) ad m c news hl (hnews ad rfl) h1 (by omega) (by rw [Nat.zero_add]; exact hbytes) (Nat.le_refl _)
    unfold Oper.wp execOp
    simp only [ho, resolve, invoke, builtin, Sem.run_bind, Sem.run_pure, Result.andThen_ok, List.map_toArray, List.map_cons, List.map_nil, hs, hx, hr]
    rw [Nat.zero_add, List.nil_append] at h2
    exact h v' w' h2 ((Below.refl _ w).grown h3 (Nat.le_refl _) (fun k e => by cases e))
theorem Es.none {w : World} {n c : Nat} {es : List En} (h : Es w (.slice none n c) es) : es.length = 0 ∧ n = 0 ∧ c = 0 := by
  rcases h.2 with ⟨h1, h2⟩ | ⟨g, cap, cur, h1, _⟩
  · cases h1; exact ⟨h2, rfl, rfl⟩
  · cases h1
set_option maxRecDepth 100000 in
set_option maxHeartbeats 8000000 in
theorem rsight_any {w : World} {g : Nat} {ev : Value} {q : Nat} {t : Tb} {mv : Value} (hR : Rt w g ev q t mv) (hn : t.es.length ≤ 100000) :
    Calls Tryz.prog 18 #[.pointer (some ⟨g, 0, none⟩)] w fun e w' => ∃ ca cc ea ec, e = .returned (siV (t.L : Int) (wd t.L : Int) ca (2 ^ t.L) cc ea t.es.length ec (t.live : Int) (t.births : Int) (t.made : Int)) ∧ SlN w' ca (2 ^ t.L) cc t.c ∧ SlE w' ea t.es.length ec t.es ∧ Below w.heap.size w w' := by
  obtain ⟨i0, hi, hz0, hz1, hz2⟩ := info_parts Tryz.infoEn
  obtain ⟨j0, hj, jz0, jz1, jz2⟩ := info_parts Tryz.infoInt
  obtain ⟨w1, hw1⟩ : ∃ w1, w.alloc (.cells #[.int .i64 0, .int .i64 0, .slice none 0 0, .slice none 0 0, .int .i64 0, .int .i64 0, .int .i64 0] 73) = w1 := ⟨_, rfl⟩
  have hb1 : Below w.heap.size w w1 := by rw [← hw1]; exact (Below.refl _ w).alloc (Nat.le_refl _) _
  have hA1 : Blk w1 w.heap.size 7 (fun j => #[Value.int .i64 0, .int .i64 0, .slice none 0 0, .slice none 0 0, .int .i64 0, .int .i64 0, .int .i64 0].getD j .nilFunc) := by rw [← hw1]; exact Blk.new w _ _
  have hR1 := hR.below hb1
  have f1 : w1.cell? ⟨g, 1, none⟩ = some (.int .i64 (t.L : Int)) := hR1.hd.c 1 (by omega)
  have f3 : w1.cell? ⟨g, 3, none⟩ = some (.int .i64 (t.live : Int)) := hR1.hd.c 3 (by omega)
  have f4 : w1.cell? ⟨g, 4, none⟩ = some (.int .i64 (t.births : Int)) := hR1.hd.c 4 (by omega)
  have f5 : w1.cell? ⟨g, 5, none⟩ = some (.int .i64 (t.made : Int)) := hR1.hd.c 5 (by omega)
  have HSZ : Hid (Sz t.L (2 ^ t.L)) := ⟨rfl, hR.sz.1, hR.sz.2⟩
  have CW := Lib.hid (fun w => rwidth_any HSZ.out w)
  have lg1 := hR1.hd.lt (by omega)
  have HKA : Hid (∀ o, ((w1.alloc o).cell? ⟨g, 1, none⟩ = some (.int .i64 (t.L : Int)) ∧ (w1.alloc o).cell? ⟨g, 3, none⟩ = some (.int .i64 (t.live : Int))) ∧ (w1.alloc o).cell? ⟨g, 4, none⟩ = some (.int .i64 (t.births : Int)) ∧ (w1.alloc o).cell? ⟨g, 5, none⟩ = some (.int .i64 (t.made : Int))) := fun o => by
    have e : (w1.alloc o).heap[g]? = w1.heap[g]? := Below.heap_alloc _ _ _ lg1
    have key : ∀ j, (w1.alloc o).cell? ⟨g, j, none⟩ = w1.cell? ⟨g, j, none⟩ := fun j => World.cell?_of_block (a := ⟨g, j, none⟩) e
    exact ⟨⟨(key 1).trans f1, (key 3).trans f3⟩, (key 4).trans f4, (key 5).trans f5⟩
  have HR1 := Lib.hid hR1
  have HA1 := Lib.hid hA1
  have HB1 := Lib.hid hb1
  clear hR hR1 hA1 hb1
  unfold siV
  generalize wd t.L = Wd at *
  go_enter Tryz.func18, Tryz.ntmps18
  go_upto_region 1 with fail
  clear hw1
  go_region_held3 (fun V => (V.cell? ⟨g, 1, none⟩ = some (.int .i64 (t.L : Int)) ∧ V.cell? ⟨g, 3, none⟩ = some (.int .i64 (t.live : Int))) ∧ V.cell? ⟨g, 4, none⟩ = some (.int .i64 (t.births : Int)) ∧ V.cell? ⟨g, 5, none⟩ = some (.int .i64 (t.made : Int)))
    (first | exact ⟨⟨f1, f3⟩, f4, f5⟩ | exact HKA.out _ | fail)
    (first | (go_at_call 46; refine (CW.out _).mono ?_; rintro e w2 ⟨rfl, rfl⟩) | fail)
  all_goals
    clear f1 f3 f4 f5 HKA
    obtain ⟨w3, hw3⟩ : ∃ w3, (w1.alloc (.cells #[.int .i64 (t.L : Int), .int .i64 (Wd : Int), .slice none 0 0, .slice none 0 0, .int .i64 (t.live : Int), .int .i64 (t.births : Int), .int .i64 (t.made : Int)] 73)).drew = w3 := ⟨_, rfl⟩
    have hb3 : Below w1.heap.size w1 w3 := by rw [← hw3]; exact ((Below.refl _ w1).alloc (Nat.le_refl _) _).drew
    have hB3 : Blk w3 w1.heap.size 7 (fun j => #[Value.int .i64 (t.L : Int), .int .i64 (Wd : Int), .slice none 0 0, .slice none 0 0, .int .i64 (t.live : Int), .int .i64 (t.births : Int), .int .i64 (t.made : Int)].getD j .nilFunc) := by rw [← hw3]; exact (Blk.new w1 #[Value.int .i64 (t.L : Int), .int .i64 (Wd : Int), .slice none 0 0, .slice none 0 0, .int .i64 (t.live : Int), .int .i64 (t.births : Int), .int .i64 (t.made : Int)] 73).same rfl
    rw [hw3]
    have hR3 := HR1.out.below hb3
    have hA3 := HA1.out.of hb3 (by omega)
    have hBW3 := HB1.out.trans (hb3.mono HB1.out.size)
    have lA := hA3.lt (by omega)
    have lB3 := hB3.lt (by omega)
    have s2 : w3.cell? ⟨w1.heap.size, 2, none⟩ = some (.slice none 0 0) := hB3.c 2 (by omega)
    have y2 := hB3.z 2
    have g2 : w3.cell? ⟨g, 2, none⟩ = some (.slice (some ⟨q, 0, none⟩) (2 ^ t.L) (2 ^ t.L)) := hR3.hd.c 2 (by omega)
    have hP : 2 ^ t.L ≤ 1048576 := HSZ.out.most
    have HNW : Hid ((il (2 ^ t.L) t.c).length = 2 ^ t.L * 1 ∧ (∀ ad, some (⟨q, 0, none⟩ : Addr) = some ad → ∀ j u, (il (2 ^ t.L) t.c)[j]? = some u → w3.drew.cell? (ad.add j) = some u) ∧ ∀ u ∈ il (2 ^ t.L) t.c, u.oneCell' = true) := ⟨by rw [il_len, Nat.mul_one], fun ad had j u hu => by
        cases had
        by_cases hlt : j < 2 ^ t.L
        · rw [il_get _ _ _ hlt] at hu
          rw [WideShapes.add_plain, Nat.zero_add]
          exact (hR3.rf.hc j hlt).trans hu
        · rw [List.getElem?_eq_none (by rw [il_len]; omega)] at hu
          simp at hu, il_one _ _⟩
    have HR3 := Lib.hid hR3
    have HA3 := Lib.hid hA3
    have HB3 := Lib.hid hB3
    have HBW3 := Lib.hid hBW3
    have HLT : Hid (g < w1.heap.size ∧ q < w1.heap.size ∧ (∀ k, ev.ownBlock = some k → k < w1.heap.size) ∧ w.heap.size < w1.heap.size) := ⟨HR1.out.hd.lt (by omega), HR1.out.rf.lt (pow2_pos _), HR1.out.es.lt, HA1.out.lt (by omega)⟩
    clear hw3 hb3 hB3 hR3 hA3 hBW3 HR1 HA1 HB1 lg1
    generalize w1.heap.size = B3 at *
    go_upto_region 2 with fail
    go_region_law (refine step_append_nil rfl _ _ 70 rfl 3 j0 (.int .i64 0) 1 8 Tryz.underlying70 hj jz0 jz1 jz2 rfl (by decide) (by simp [Act.eval]) (some ⟨q, 0, none⟩) (2 ^ t.L) (2 ^ t.L) (by simp [Act.eval]) (fun h => by cases h) (il (2 ^ t.L) t.c) HNW.out.1 HNW.out.2.1 HNW.out.2.2 (by unfold maxLen; omega) (by omega) ?_; intro v5 w5 hown5 hb5; obtain ⟨ca, cc, hv5, hSN5⟩ := own_sln hown5; subst hv5; have s25 := (hb5.cell (p := ⟨B3, 2, none⟩) lB3).trans s2; have y25 := (World.frozen?_of_block (a := ⟨B3, 2, none⟩) (hb5.block B3 lB3)).trans y2)
    all_goals
      have hsz5 := hb5.size
      have hR5 : Rt w5 g ev q t mv := (HR3.out.below (Below.refl _ w3).drew).below hb5
      have hA5 := (HA3.out.same (w' := w3.drew) rfl).of hb5 (by omega)
      have hB5 := (HB3.out.same (w' := w3.drew) rfl).of hb5 (by omega)
      have hBW5 : Below w.heap.size w w5 := HBW3.out.drew.trans (hb5.mono HBW3.out.drew.size)
      obtain ⟨lg, lq, lo, lA'⟩ := HLT.out
      have hoth : ∀ k, k ≠ B3 → (w5.setCell ⟨B3, 2, none⟩ (.slice ca (2 ^ t.L) cc)).heap[k]? = w5.heap[k]? := fun k hk => Below.heap_setCell _ _ _ _ hk
      have hR6 : Rt (w5.setCell ⟨B3, 2, none⟩ (.slice ca (2 ^ t.L) cc)) g ev q t mv := hR5.same fun k hk => hoth k (by
        rcases hk with rfl | rfl | hk
        · omega
        · omega
        · have := lo k hk; omega)
      have hA6 := hA5.same (hoth w.heap.size (by omega))
      have hB6 := hB5.put 2 (.slice ca (2 ^ t.L) cc)
      have hBW6 := hBW5.setCell (p := ⟨B3, 2, none⟩) (by show w.heap.size ≤ B3; omega) (.slice ca (2 ^ t.L) cc)
      have hsz6 : (w5.setCell ⟨B3, 2, none⟩ (.slice ca (2 ^ t.L) cc)).heap.size = w5.heap.size := by simp
      have hs36 : w3.heap.size ≤ w5.heap.size := hsz5
      have HOW5 := Lib.hid hown5
      have HOT : Hid (∀ k, k ≠ B3 → (w5.setCell ⟨B3, 2, none⟩ (.slice ca (2 ^ t.L) cc)).heap[k]? = w5.heap[k]?) := hoth
      clear hown5 hb5 hoth hR5 hA5 hB5 hBW5 s25 y25 hSN5 s2 y2 g2
      go_upto_region 3 with fail
      generalize hw6 : w5.setCell ⟨B3, 2, none⟩ (.slice ca (2 ^ t.L) cc) = w6 at *
      clear hw6
      obtain ⟨ae, cape, ge, hev, hpe, hroe⟩ := hR6.es.open
      have hce := hroe.le
      have HNE : Hid ((enl t.es).length = t.es.length * 5 ∧ (∀ ad, ae = some ad → ∀ j u, (enl t.es)[j]? = some u → w6.drew.cell? (ad.add j) = some u) ∧ (∀ u ∈ enl t.es, u.oneCell' = true) ∧ (ae = none → t.es.length = 0 ∧ cape = 0)) := by
        have hE : Es w6 (.slice ae t.es.length cape) t.es := hev ▸ hR6.es
        refine ⟨enl_len _, fun ad had j u hu => ?_, enl_one _, fun h => ?_⟩
        · by_cases h0 : 0 < t.es.length
          · obtain ⟨e1, e2, _⟩ := hpe h0
            rw [had] at e1
            cases e1
            exact World.ownsRow.cells hR6.es e2 j u hu
          · rw [List.getElem?_eq_none (by rw [enl_len]; omega)] at hu
            simp at hu
        · subst h
          exact ⟨(Es.none hE).1, (Es.none hE).2.2⟩
      have f0 : w6.cell? ⟨g, 0, none⟩ = some (.slice ae t.es.length cape) := by rw [← hev]; exact hR6.hd.c 0 (by omega)
      have s3 : w6.cell? ⟨B3, 3, none⟩ = some (.slice none 0 0) := hB6.c 3 (by omega)
      have y3 := hB6.z 3
      have lB6 := hB6.lt (by omega)
      have HA6 := Lib.hid hA6
      have HB6 := Lib.hid hB6
      have HBW6 := Lib.hid hBW6
      clear hR6 hA6 hB6 hBW6 hpe hroe hev
      go_region_law (refine step_append_nil rfl _ _ 71 rfl 107 i0 (.agg #[.bool false, .int .i64 0, .int .i64 0, .int .i64 0, .int .i64 0]) 5 40 Tryz.underlying71 hi hz0 hz1 hz2 rfl (by decide) (by simp [Act.eval]) ae t.es.length cape (by simp [Act.eval]) HNE.out.2.2.2 (enl t.es) HNE.out.1 HNE.out.2.1 HNE.out.2.2.1 (by unfold maxLen; omega) (by omega) ?_; intro v7 w7 hown7 hb7; obtain ⟨ea, ec, hv7⟩ := ownsRow_shape hown7; subst hv7; have s37 := (hb7.cell (p := ⟨B3, 3, none⟩) lB6).trans s3; have y37 := (World.frozen?_of_block (a := ⟨B3, 3, none⟩) (hb7.block B3 lB6)).trans y3)
      all_goals
        have hsz7 : w6.heap.size ≤ w7.heap.size := hb7.size
        have hA7 := (HA6.out.same (w' := w6.drew) rfl).of hb7 (by omega)
        have hB7 := (HB6.out.same (w' := w6.drew) rfl).of hb7 (by omega)
        have hBW7 : Below w.heap.size w w7 := HBW6.out.drew.trans (hb7.mono HBW6.out.drew.size)
        have hE7 : EsB w6.heap.size w7 (.slice ea t.es.length ec) t.es := hown7
        have hoth8 : ∀ k, k ≠ B3 → (w7.setCell ⟨B3, 3, none⟩ (.slice ea t.es.length ec)).heap[k]? = w7.heap[k]? := fun k hk => Below.heap_setCell _ _ _ _ hk
        have hA8 := hA7.same (hoth8 w.heap.size (by omega))
        have hB8 := hB7.put 3 (.slice ea t.es.length ec)
        have hBW8 := hBW7.setCell (p := ⟨B3, 3, none⟩) (by show w.heap.size ≤ B3; omega) (.slice ea t.es.length ec)
        have hs8 : (w7.setCell ⟨B3, 3, none⟩ (.slice ea t.es.length ec)).heap.size = w7.heap.size := by simp
        have hE8 : Es (w7.setCell ⟨B3, 3, none⟩ (.slice ea t.es.length ec)) (.slice ea t.es.length ec) t.es := hE7.es.same fun k hk => hoth8 k (by have := hE7.ge k hk; omega)
        have hN8 : ∀ k, w3.heap.size ≤ k → k < w5.heap.size → (w7.setCell ⟨B3, 3, none⟩ (.slice ea t.es.length ec)).heap[k]? = w5.heap[k]? := fun k h1 h2 => (hoth8 k (by omega)).trans ((hb7.block k (by show k < w6.heap.size; omega)).trans (HOT.out k (by omega)))
        have hgE := hE7.ge
        clear hoth8 hA7 hB7 hBW7 hE7 hown7 hb7 s3 y3 f0
        go_upto_region 4 with fail
        generalize w7.setCell ⟨B3, 3, none⟩ (.slice ea t.es.length ec) = w8 at *
        clear s37 y37
        have b0 : w8.cell? ⟨B3, 0, none⟩ = some (.int .i64 (t.L : Int)) := hB8.c 0 (by omega)
        have b1 : w8.cell? ⟨B3, 1, none⟩ = some (.int .i64 (Wd : Int)) := hB8.c 1 (by omega)
        have b2 : w8.cell? ⟨B3, 2, none⟩ = some (.slice ca (2 ^ t.L) cc) := hB8.c 2 (by omega)
        have b3 : w8.cell? ⟨B3, 3, none⟩ = some (.slice ea t.es.length ec) := hB8.c 3 (by omega)
        have b4 : w8.cell? ⟨B3, 4, none⟩ = some (.int .i64 (t.live : Int)) := hB8.c 4 (by omega)
        have b5 : w8.cell? ⟨B3, 5, none⟩ = some (.int .i64 (t.births : Int)) := hB8.c 5 (by omega)
        have b6 : w8.cell? ⟨B3, 6, none⟩ = some (.int .i64 (t.made : Int)) := hB8.c 6 (by omega)
        have a0 := hA8.c 0 (by omega)
        have z0 := hA8.z 0
        have a1 := hA8.c 1 (by omega)
        have z1 := hA8.z 1
        have a2 := hA8.c 2 (by omega)
        have z2 := hA8.z 2
        have a3 := hA8.c 3 (by omega)
        have z3 := hA8.z 3
        have a4 := hA8.c 4 (by omega)
        have z4 := hA8.z 4
        have a5 := hA8.c 5 (by omega)
        have z5 := hA8.z 5
        have a6 := hA8.c 6 (by omega)
        have z6 := hA8.z 6
        have hA9 := (((((((hA8).put 0 (.int .i64 (t.L : Int))).put 1 (.int .i64 (Wd : Int))).put 2 (.slice ca (2 ^ t.L) cc)).put 3 (.slice ea t.es.length ec)).put 4 (.int .i64 (t.live : Int))).put 5 (.int .i64 (t.births : Int))).put 6 (.int .i64 (t.made : Int))
        have hB9 := (((((((hBW8).setCell (p := ⟨w.heap.size, 0, none⟩) (Nat.le_refl _) (.int .i64 (t.L : Int))).setCell (p := ⟨w.heap.size, 1, none⟩) (Nat.le_refl _) (.int .i64 (Wd : Int))).setCell (p := ⟨w.heap.size, 2, none⟩) (Nat.le_refl _) (.slice ca (2 ^ t.L) cc)).setCell (p := ⟨w.heap.size, 3, none⟩) (Nat.le_refl _) (.slice ea t.es.length ec)).setCell (p := ⟨w.heap.size, 4, none⟩) (Nat.le_refl _) (.int .i64 (t.live : Int))).setCell (p := ⟨w.heap.size, 5, none⟩) (Nat.le_refl _) (.int .i64 (t.births : Int))).setCell (p := ⟨w.heap.size, 6, none⟩) (Nat.le_refl _) (.int .i64 (t.made : Int))
        have ho9 : ∀ k, k ≠ w.heap.size → ((((((((w8).setCell ⟨w.heap.size, 0, none⟩ (.int .i64 (t.L : Int))).setCell ⟨w.heap.size, 1, none⟩ (.int .i64 (Wd : Int))).setCell ⟨w.heap.size, 2, none⟩ (.slice ca (2 ^ t.L) cc)).setCell ⟨w.heap.size, 3, none⟩ (.slice ea t.es.length ec)).setCell ⟨w.heap.size, 4, none⟩ (.int .i64 (t.live : Int))).setCell ⟨w.heap.size, 5, none⟩ (.int .i64 (t.births : Int))).setCell ⟨w.heap.size, 6, none⟩ (.int .i64 (t.made : Int))).heap[k]? = w8.heap[k]? := fun k hk => by
          rw [Below.heap_setCell _ _ _ _ hk, Below.heap_setCell _ _ _ _ hk, Below.heap_setCell _ _ _ _ hk, Below.heap_setCell _ _ _ _ hk, Below.heap_setCell _ _ _ _ hk, Below.heap_setCell _ _ _ _ hk, Below.heap_setCell _ _ _ _ hk]
        have hs9 : ((((((((w8).setCell ⟨w.heap.size, 0, none⟩ (.int .i64 (t.L : Int))).setCell ⟨w.heap.size, 1, none⟩ (.int .i64 (Wd : Int))).setCell ⟨w.heap.size, 2, none⟩ (.slice ca (2 ^ t.L) cc)).setCell ⟨w.heap.size, 3, none⟩ (.slice ea t.es.length ec)).setCell ⟨w.heap.size, 4, none⟩ (.int .i64 (t.live : Int))).setCell ⟨w.heap.size, 5, none⟩ (.int .i64 (t.births : Int))).setCell ⟨w.heap.size, 6, none⟩ (.int .i64 (t.made : Int))).heap.size = w8.heap.size := by simp
        have HA9 := Lib.hid hA9
        have HB9 := Lib.hid hB9
        have HN9 := Lib.hid (SlN.same HOW5.out (fun k h1 h2 => (ho9 k (by have : w3.heap.size ≤ k := h1; omega)).trans (hN8 k h1 h2)) (by rw [hs9]; omega))
        have HE9 : Hid (SlE ((((((((w8).setCell ⟨w.heap.size, 0, none⟩ (.int .i64 (t.L : Int))).setCell ⟨w.heap.size, 1, none⟩ (.int .i64 (Wd : Int))).setCell ⟨w.heap.size, 2, none⟩ (.slice ca (2 ^ t.L) cc)).setCell ⟨w.heap.size, 3, none⟩ (.slice ea t.es.length ec)).setCell ⟨w.heap.size, 4, none⟩ (.int .i64 (t.live : Int))).setCell ⟨w.heap.size, 5, none⟩ (.int .i64 (t.births : Int))).setCell ⟨w.heap.size, 6, none⟩ (.int .i64 (t.made : Int))) ea t.es.length ec t.es) := by
          obtain ⟨x1, x2, x3, x4⟩ := (hE8.same fun k hk => ho9 k (by have := hgE k hk; omega)).sl
          cases x3
          exact x4
        clear hA9 hB9 ho9 hs9 hA8 hB8 hBW8 hE8 hN8 hgE
        go_wp2_with fail
        clear a0 a1 a2 a3 a4 a5 a6 z0 z1 z2 z3 z4 z5 z6 b0 b1 b2 b3 b4 b5 b6
        generalize World.setCell (World.setCell (World.setCell (World.setCell (World.setCell (World.setCell (World.setCell w8 _ _) _ _) _ _) _ _) _ _) _ _) _ _ = w9 at *
        have p0 : w9.cell? ⟨w.heap.size, 0, none⟩ = some (.int .i64 (t.L : Int)) := HA9.out.c 0 (by omega)
        have p1 : w9.cell? ⟨w.heap.size, 1, none⟩ = some (.int .i64 (Wd : Int)) := HA9.out.c 1 (by omega)
        have p2 : w9.cell? ⟨w.heap.size, 2, none⟩ = some (.slice ca (2 ^ t.L) cc) := HA9.out.c 2 (by omega)
        have p3 : w9.cell? ⟨w.heap.size, 3, none⟩ = some (.slice ea t.es.length ec) := HA9.out.c 3 (by omega)
        have p4 : w9.cell? ⟨w.heap.size, 4, none⟩ = some (.int .i64 (t.live : Int)) := HA9.out.c 4 (by omega)
        have p5 : w9.cell? ⟨w.heap.size, 5, none⟩ = some (.int .i64 (t.births : Int)) := HA9.out.c 5 (by omega)
        have p6 : w9.cell? ⟨w.heap.size, 6, none⟩ = some (.int .i64 (t.made : Int)) := HA9.out.c 6 (by omega)
        refine bodyPost_ret (v := .agg #[.int .i64 (t.L : Int), .int .i64 (Wd : Int), .slice ca (2 ^ t.L) cc, .slice ea t.es.length ec, .int .i64 (t.live : Int), .int .i64 (t.births : Int), .int .i64 (t.made : Int)])  ?_ rfl ⟨ca, cc, ea, ec, rfl, HN9.out, HE9.out, HB9.out⟩
        simp [results, Tryz.results18, go_sem, p0, p1, p2, p3, p4, p5, p6]
end Go.Proofs.YtcbhpjpkjmlcnaaGreat
namespace Go.Proofs.YtcbhpjpkjmlcnaaGreat
open Go.RowKit Go.WideShapes

/-- A Seeker's cells: its table, its hash, the turn, the next cell, what is left of the hash, whether it has ended, how many it visited, what it told last. -/
def sF (g : Nat) (u : Int) (tn : Nat) (cell p : Nat) (over : Bool) (vis : Nat) (last : Int) : Nat → Value
  | 0 => .pointer (some ⟨g, 0, none⟩)
  | 1 => .int .i64 u
  | 2 => .int .i64 (tn : Int)
  | 3 => .int .i64 (cell : Int)
  | 4 => .int .u64 (p : Int)
  | 5 => .bool over
  | 6 => .int .i64 (vis : Int)
  | _ => .int .i64 last
set_option maxRecDepth 100000 in
theorem rseek_any {w : World} {g : Nat} {ev : Value} {q : Nat} {t : Tb} {mv : Value} (hR : Rt w g ev q t mv) (u : Int) :
    Calls Tryz.prog 90 #[.pointer (some ⟨g, 0, none⟩), .int .i64 u] w fun e w' => ∃ s, e = .returned (.pointer (some ⟨s, 0, none⟩)) ∧ w.heap.size ≤ s ∧ Blk w' s 8 (sF g u t.turn (trl (uw u) t.L 0) (uw u) false 0 (-1)) ∧ Below w.heap.size w w' := by
  have f1 : w.cell? ⟨g, 1, none⟩ = some (.int .i64 (t.L : Int)) := hR.hd.c 1 (by omega)
  have f6 : w.cell? ⟨g, 6, none⟩ = some (.int .i64 (t.turn : Int)) := hR.hd.c 6 (by omega)
  have C1 := Lib.hid (fun w => Tr.rfirst_any u (t.L : Int) w)
  rw [show Tr.firstZ u (t.L : Int) = ((trl (uw u) t.L 0 : Nat) : Int) by rw [Tr.firstZ_yes u hR.trSz, trl]] at C1
  have h1 := uw_int u
  have lg := hR.hd.lt (by omega)
  have HKA : Hid (∀ o, (w.alloc o).cell? ⟨g, 1, none⟩ = some (.int .i64 (t.L : Int)) ∧ (w.alloc o).cell? ⟨g, 6, none⟩ = some (.int .i64 (t.turn : Int))) := fun o => by
    have e : (w.alloc o).heap[g]? = w.heap[g]? := Below.heap_alloc _ _ _ lg
    exact ⟨(World.cell?_of_block (a := ⟨g, 1, none⟩) e).trans f1, (World.cell?_of_block (a := ⟨g, 6, none⟩) e).trans f6⟩
  clear hR
  generalize trl (uw u) t.L 0 = x at *
  generalize uw u = U at *
  have hb : Below w.heap.size w (w.alloc (.cells #[.pointer (some ⟨g, 0, none⟩), .int .i64 u, .int .i64 (t.turn : Int), .int .i64 (x : Int), .int .u64 (U : Int), .bool false, .int .i64 0, .int .i64 (-1)] 185)).drew := ((Below.refl _ w).alloc (Nat.le_refl _) _).drew
  have hB : Blk (w.alloc (.cells #[.pointer (some ⟨g, 0, none⟩), .int .i64 u, .int .i64 (t.turn : Int), .int .i64 (x : Int), .int .u64 (U : Int), .bool false, .int .i64 0, .int .i64 (-1)] 185)).drew w.heap.size 8 (sF g u t.turn x U false 0 (-1)) := ((Blk.new w #[.pointer (some ⟨g, 0, none⟩), .int .i64 u, .int .i64 (t.turn : Int), .int .i64 (x : Int), .int .u64 (U : Int), .bool false, .int .i64 0, .int .i64 (-1)] 185).same (w' := (w.alloc (.cells #[.pointer (some ⟨g, 0, none⟩), .int .i64 u, .int .i64 (t.turn : Int), .int .i64 (x : Int), .int .u64 (U : Int), .bool false, .int .i64 0, .int .i64 (-1)] 185)).drew) rfl).congr (fun j hj => by
    have : j = 0 ∨ j = 1 ∨ j = 2 ∨ j = 3 ∨ j = 4 ∨ j = 5 ∨ j = 6 ∨ j = 7 := by have : j < 8 := hj; omega
    rcases this with rfl | rfl | rfl | rfl | rfl | rfl | rfl | rfl <;> rfl)
  have HB := Lib.hid hB
  have HBW := Lib.hid hb
  clear hb hB
  go_enter Tryz.func90, Tryz.ntmps90
  go_upto_region 1 with fail
  go_region_held3 (fun V => V.cell? ⟨g, 1, none⟩ = some (.int .i64 (t.L : Int)) ∧ V.cell? ⟨g, 6, none⟩ = some (.int .i64 (t.turn : Int)))
    (first | exact ⟨f1, f6⟩ | exact HKA.out _ | fail)
    (first | (go_at_call 112; refine (C1.out _).mono ?_; rintro e w2 ⟨rfl, rfl⟩) | fail)
  all_goals
    go_wp2
    go_ret
    exact ⟨_, rfl, Nat.le_refl _, HB.out, HBW.out⟩
end Go.Proofs.YtcbhpjpkjmlcnaaGreat
