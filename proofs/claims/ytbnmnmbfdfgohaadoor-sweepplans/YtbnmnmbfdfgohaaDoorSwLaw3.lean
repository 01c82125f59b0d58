/-
  The law's laid.
-/
import Derived.Test.YtbnmnmbfdfgohaaDoorSwLaw2
namespace Go.Proofs.YtbnmnmbfdfgohaaDoor
open Go.RowKit Go.WideShapes

theorem wpListS_append_run {P : Program} {ops : Array Oper} {rest : List Oper} {o : Oper} {a : Act} {w w2 : World} {Q : Exit → Act → World → Prop} (hgd : o.guard = none) (d s : Operand) (dT sT : TypeId)
    (ho : o.op = .call { callee := .builtin .append, args := #[d, s], argTypes := #[dT, sT] }) (v1 v2 v : Value) (h1 : a.eval d = v1) (h2 : a.eval s = v2) (hrun : (Builtin.append_ #[dT, sT] o.type #[v1, v2]).run P w = .ok v w2)
    (h : wpList P ops Q rest (a.put o.dst v) w2) : wpList P ops Q (o :: rest) a w := by
  refine wpList_plain hgd fun K hK => ?_
  unfold Oper.wp
  simp [execOp, ho, resolve, invoke, builtin, h1, h2, hrun, Result.andThen]
  exact hK _ _ h
theorem run_append_zero (w : World) : (Builtin.append_ #[23, 23] 23 #[.slice none 0 0, .slice none 0 0]).run Tryd.prog w = .ok (.slice none 0 0) w := by
  obtain ⟨i0, hi, hz0, hz1, hz2⟩ := info_parts Tryd.infoN
  simp [Builtin.append_, run_underlying Tryd.underlying23, sizeOf, typeInfo, hi, Builtin.lenOf, Builtin.firstCells]
theorem lz_cells {w : World} {b off n : Nat} {l : List Int} (hl : n = l.length) (h : ∀ j, j < n → w.cell? ⟨b, off + j, none⟩ = some (.int .i64 (l[j]?.getD 0))) : ∀ j u, (l.map fun x : Int => Value.int .i64 x)[j]? = some u → w.cell? (Addr.add ⟨b, off, none⟩ j) = some u := by
  intro j u hj
  have hjl : j < l.length := by
    have := (List.getElem?_eq_some_iff.1 hj).1
    simpa using this
  rw [WideShapes.add_plain, h j (by omega)]
  rw [List.getElem?_map, List.getElem?_eq_getElem hjl] at hj
  rw [List.getElem?_eq_getElem hjl]
  exact hj
theorem copy_some {w : World} {ad : Addr} {n c : Nat} {l : List Int} (h1 : n = l.length) (h : ∀ j u, (l.map fun x : Int => Value.int .i64 x)[j]? = some u → w.cell? (ad.add j) = some u) (hn : n ≤ 100000) : ∃ v w', (Builtin.append_ #[23, 23] 23 #[.slice none 0 0, .slice (some ad) n c]).run Tryd.prog w = .ok v w' ∧ Cp w w' v l := by
  obtain ⟨i0, hi, hz0, hz1, hz2⟩ := info_parts Tryd.infoN
  have hown : w.ownsRow w.heap.size 3 1 (.slice none 0 0) 0 [] := ⟨rfl, Or.inl ⟨rfl, rfl⟩⟩
  obtain ⟨v, w', hr, hw, hg, _, hat⟩ := run_append_own_at (P := Tryd.prog) w w.heap.size 23 23 3 i0 (.int .i64 0) 1 8 Tryd.underlying23 hi hz0 hz1 hz2 rfl (by decide) _ _ _ hown ad n c (l.map fun x : Int => Value.int .i64 x) (by simp; omega) h (fun u hu => by obtain ⟨x, _, rfl⟩ := List.mem_map.1 hu; rfl) (by unfold maxLen; omega) (by omega) (Nat.le_refl _)
  refine ⟨v, w', hr, ?_, (Below.refl _ w).grown hg (Nat.le_refl _) (fun k e => by cases e)⟩
  unfold IntsR
  rw [← h1]
  simpa using hw
/-- A list copied by append. -/
theorem copy_run {w : World} {B : Nat} {a : Option Addr} {n c : Nat} {l : List Int} (h : Lz w B a n c l) (ha : a = none → c = 0) (hn : n ≤ 100000) : ∃ v w', (Builtin.append_ #[23, 23] 23 #[.slice none 0 0, .slice a n c]).run Tryd.prog w = .ok v w' ∧ Cp w w' v l := by
  obtain ⟨h1, h2, h3, b, off, h4, h5⟩ := h
  cases a with
  | none =>
    obtain rfl := ha rfl
    obtain rfl : n = 0 := by omega
    obtain rfl : l = [] := List.eq_nil_of_length_eq_zero h1.symm
    exact ⟨_, w, run_append_zero w, IntsR.nil _ _, Below.refl _ _⟩
  | some ad =>
    by_cases h0 : n = 0
    · subst h0
      obtain rfl : l = [] := List.eq_nil_of_length_eq_zero h1.symm
      exact copy_some rfl (fun j u hj => by simp at hj) (by omega)
    · obtain ⟨e, _⟩ := h4 (by omega)
      injection e with e
      subst e
      exact copy_some h1 (lz_cells h1 h5) hn
theorem low_all {ss : List So} (h : ∀ k, k < ss.length → (nts ss k).taken = true) : low ss = ss.length := low_is (Nat.le_refl _) h (fun h => absurd h (Nat.lt_irrefl _))
theorem addS_all {ss : List So} (h : ∀ k, k < ss.length → (nts ss k).taken = true) (x : Sh) : addS ss x = ss ++ [⟨true, x⟩] := by
  unfold addS
  rw [low_all h, if_neg (Nat.lt_irrefl _)]
/-- What is laid so far. -/
structure Lj (w wr : World) (B g q j : Nat) (G : Nat → Sh) (ss : List So) : Prop where
  ld : LdV wr B g q ss ss
  len : ss.length = j
  all : ∀ k, k < j → (nts ss k).taken = true ∧ (nts ss k).has.l = (G k).l
  be : Below B w wr
theorem ldadd_any {w w1 wr : World} {B g q j : Nat} {G : Nat → Sh} {ss : List So} {v : Value} (h : Lj w wr B g q j G ss) (hc : Cp wr w1 v (G j).l) (hb : ∀ x ∈ (G j).l, -9223372036854775808 ≤ x ∧ x ≤ 9223372036854775807) (hl : (G j).l.length ≤ 60) (hj : j ≤ 1000) :
    ∃ x : Sh, v = .slice x.a x.n x.c ∧ x.l = (G j).l ∧ Calls Tryd.prog 24 #[.pointer (some ⟨g, 0, none⟩), .slice x.a x.n x.c] w1 fun e w' => e = .returned (.int .i64 (j : Int)) ∧ LdV w' B g q (ss ++ [⟨true, x⟩]) ss ∧ Below B w w' := by
  obtain ⟨x, hv, hxl, hxn, hlp⟩ := hc.lp hb
  refine ⟨x, hv, hxl, ?_⟩
  obtain ⟨X, Y, Z, hld⟩ := h.ld
  have hall : ∀ k, k < ss.length → (nts ss k).taken = true := fun k hk => (h.all k (by rw [← h.len]; exact hk)).1
  have hB1 : Below B w w1 := h.be.trans (hc.be.mono hld.rq.top.2)
  refine (add_sl (hld.below hc.be).sl (by rw [h.len]; omega) x).mono ?_
  rintro e w' ⟨rfl, h1, h2⟩
  rw [addS_all hall] at h1
  rw [← hxl] at hlp
  obtain ⟨Z', hz⟩ := hld.more hc.be hlp (by rw [hxl]; exact hl) h1 h2
  refine ⟨by rw [low_all hall, h.len], ⟨_, Y, Z', hz⟩, hB1.trans (h2.below hld.xb (hld.below hc.be).rq.top.2)⟩
theorem ldradd_any {w w1 wr : World} {B g q j : Nat} {G : Nat → Sh} {ss : List So} {x : Sh} (h : Lj w wr B g q j G ss) (h1 : LdV w1 B g q (ss ++ [⟨true, x⟩]) ss) (hB : Below B w w1) (hx : x.l = (G j).l) (hl : (G j).l.length ≤ 60) (hj : j ≤ 1000) (hG : Lz w1 B (G j).a (G j).n (G j).c (G j).l) :
    Calls Tryd.prog 25 #[.pointer (some ⟨q, 0, none⟩), .slice (G j).a (G j).n (G j).c] w1 fun e w' => (∃ v, e = .returned v) ∧ Lj w w' B g q (j + 1) G (ss ++ [⟨true, x⟩]) := by
  obtain ⟨X, Y, Z, hld⟩ := h1
  have hall : ∀ k, k < ss.length → (nts ss k).taken = true := fun k hk => (h.all k (by rw [← h.len]; exact hk)).1
  refine (radd_sl (x := x) hld.rq (by rw [h.len]; omega) (by rw [hx]; exact hG)).mono ?_
  rintro e w' ⟨rfl, h2, h3⟩
  rw [addS_all hall] at h2
  have hat : ∀ k, k < j + 1 → (nts (ss ++ [⟨true, x⟩]) k).taken = true ∧ (nts (ss ++ [⟨true, x⟩]) k).has.l = (G k).l := fun k hk => by
    by_cases e : k < j
    · rw [nts_app ss _ k (by rw [h.len]; exact e)]
      exact h.all k e
    · obtain rfl : k = j := by omega
      rw [← h.len, nts_new]
      exact ⟨rfl, by rw [h.len]; exact hx⟩
  refine ⟨⟨_, rfl⟩, ⟨X, _, Z, hld.refs h2 (fun k hk => ?_) h3 (fun k hk => ?_)⟩, by simp [h.len], hat, hB.trans (h3.below (fun k hk => (hld.rq.top.1 k hk).1) hld.rq.top.2)⟩
  · rcases hk with hk | hk
    · exact Or.inl hk
    · exact Or.inr hk.1
  · by_cases e : k < j
    · rw [nts_app ss _ k (by rw [h.len]; exact e)] at hk ⊢
      exact hld.lr k hk
    · by_cases e2 : k = j
      · rw [e2, (hat j (by omega)).2]
        exact hl
      · have : nts (ss ++ [⟨true, x⟩]) k = ⟨false, Sh.nil⟩ := by
          unfold nts
          rw [List.getD_eq_getElem?_getD, List.getElem?_eq_none (by simp [h.len]; omega)]
          rfl
        rw [this] at hk
        cases hk
/-- What laid leaves. -/
structure La (w w' : World) (B g q n : Nat) (G : Nat → Sh) (F : List Int) (ss : List So) : Prop where
  ld : LdV w' B g q ss ss
  len : ss.length = n
  ls : ∀ k, (nts ss k).taken = true → (nts ss k).has.l = (G k).l
  none : F = [] → ∀ k, k < n → (nts ss k).taken = true
  be : Below B w w'
set_option maxRecDepth 100000 in
set_option maxHeartbeats 1000000 in
theorem laid_any {w : World} {a : Option Addr} {n c : Nat} {G : Nat → Sh} (h : LLs w a n c G) (hn : n ≤ 200) (hG : ∀ i, i < n → (G i).n ≤ 60) {fa : Option Addr} {fn fc : Nat} {F : List Int} (hF : Lz w w.heap.size fa fn fc F) :
    Calls Tryd.prog 10 #[.slice a n c, .slice fa fn fc] w fun e w' => ∃ g q ss, e = .returned (.tuple #[.pointer (some ⟨g, 0, none⟩), .pointer (some ⟨q, 0, none⟩), .bool true]) ∧ La w w' w.heap.size g q n G F ss := by
  have CN := slnew_any w
  have HLL := Lib.hid h
  have HG := Lib.hid hG
  have HF := Lib.hid hF
  clear h hG hF
  go_enter Tryd.func10, Tryd.ntmps10
  go_wp2_with fail
  refine CN.mono ?_
  rintro e w1 ⟨rfl, hS1, hB1, hs1⟩
  clear CN
  obtain ⟨w2, hw2⟩ : ∃ y, w1.alloc (.cells #[.slice none 0 0, .slice none 0 0] 46) = y := ⟨_, rfl⟩
  have hb2 : Below w1.heap.size w1 w2 := by rw [← hw2]; exact (Below.refl _ w1).alloc (Nat.le_refl _) _
  have hs2 : w1.heap.size < w2.heap.size := by rw [← hw2]; simp
  have hX2 : Blk w2 w1.heap.size 2 (fun j => #[Value.slice none 0 0, .slice none 0 0].getD j .nilFunc) := by rw [← hw2]; exact Blk.new w1 _ _
  have hL2 : Lj w w2 w.heap.size w.heap.size w1.heap.size 0 G [] := by
    refine ⟨⟨fun k => k = w.heap.size, fun k => k = w1.heap.size, fun _ => False, hS1.keep (Y := fun _ => False) (ex_of hb2) (fun _ _ h => h), ?_, fun k hk => by simp [nts] at hk, fun k hk => by simp [nts] at hk, fun k hk => hk.elim, fun k hk hy => by omega, fun k hk => by omega⟩, rfl, fun k hk => absurd hk (by omega), hB1.trans (hb2.mono hB1.size)⟩
    refine ⟨.slice none 0 0, .slice none 0 0, [], ⟨hX2.c 0 (by omega), hX2.c 1 (by omega), hX2.z, ⟨rfl, Or.inl ⟨rfl, rfl⟩⟩, ⟨rfl, Or.inl ⟨rfl, rfl⟩⟩, fun i hi => by simp at hi, by simp [Value.ownBlock], by simp [Value.ownBlock], by simp [Value.ownBlock], by simp, by simp⟩, fun k hk => ?_, fun k hk => by omega, by have := hB1.size; omega⟩
    rcases hk with e | e | e
    · exact e
    · cases e
    · cases e
  have HL2 := Lib.hid hL2
  have HW2 := Lib.hid hw2
  clear hw2 hb2 hs2 hX2 hL2 hS1 hB1 hs1
  go_wp2_with fail
  rw [HW2.out]
  obtain ⟨g0, hg0⟩ : ∃ g0, w.heap.size = g0 := ⟨_, rfl⟩
  rw [hg0] at HL2 ⊢
  have HG0 := Lib.hid hg0
  clear hg0 HW2
  go_loopw [9] (fun v9 wr => ∃ (j : Nat) (ss : List So), j ≤ n ∧ v9 = .int .i64 (j : Int) ∧ Lj w wr g0 g0 w1.heap.size j G ss) (fun v9 _ => n - (intOf v9).toNat)
  case atStart => exact ⟨0, [], Nat.zero_le _, rfl, HL2.out⟩
  case round =>
    clear HL2
    obtain ⟨j, ss, hj, rfl, hL⟩ := hrel
    have hBw : Below w.heap.size w wr := by have := hL.be; rw [← HG0.out] at this; exact this
    obtain ⟨hnc, lb, lo, hla, hlc⟩ := HLL.out.below hBw
    by_cases hjl : j < n
    · have tj : (j : Int) < (n : Int) := by omega
      have tj0 : (0 : Int) ≤ (j : Int) := by omega
      have ej : IntKind.i64.wrap ((j : Int) + 1) = ((j + 1 : Nat) : Int) := by rw [i64_small (by omega) (by omega)]; omega
      obtain ⟨rfl, hlb⟩ := hla (by omega)
      obtain ⟨cj, hlz, hnone⟩ := hlc j hjl
      have h60 := HG.out j hjl
      obtain ⟨v, w3, hrun, hcp⟩ := copy_run hlz hnone (by omega)
      have hl60 : (G j).l.length ≤ 60 := by have := hlz.1; omega
      obtain ⟨x, rfl, hxl, CA⟩ := ldadd_any hL hcp hlz.2.2.1 hl60 (by omega)
      have hb03 : Below w.heap.size w w3 := hBw.trans (hcp.be.mono hBw.size)
      have HGL : Hid (Lz w w.heap.size (G j).a (G j).n (G j).c (G j).l ∧ lb < w3.heap.size ∧ w.heap.size ≤ w3.heap.size) := by
        obtain ⟨_, lb', lo', _, hlc'⟩ := HLL.out
        exact ⟨(hlc' j hjl).2.1, Nat.lt_of_lt_of_le hlb hcp.be.size, hb03.size⟩
      have cj3 := (hcp.be.cell (p := ⟨lb, lo + j, none⟩) hlb).trans cj
      have HL := Lib.hid hL
      have HRUN := Lib.hid hrun
      clear hL hla hlc hlz hnone hcp hb03 h60 hBw hrun
      generalize hA : G j = y at *
      go_wp2_with (at_builtin; refine wpListS_append_run rfl _ _ 23 23 rfl _ _ _ rfl rfl HRUN.out ?_)
      refine CA.mono ?_
      rintro e w4 ⟨rfl, hL4, hB4⟩
      clear CA
      have hlb4 : lb < w.heap.size := by
        obtain ⟨_, lb', lo', ha', hlc'⟩ := HLL.out
        obtain ⟨e, h⟩ := ha' (by omega)
        injection e with e
        injection e with e
        rw [e]; exact h
      have hB4' : Below w.heap.size w w4 := by rw [HG0.out]; exact hB4
      have cj4 : w4.cell? ⟨lb, lo + j, none⟩ = some (.slice y.a y.n y.c) := by
        obtain ⟨_, lb', lo', ha', hlc'⟩ := HLL.out.below hB4'
        obtain ⟨e, h⟩ := ha' (by omega)
        injection e with e
        injection e with e1 e2
        subst e1 e2
        rw [(hlc' j hjl).1, hA]
      have CR := ldradd_any HL.out hL4 hB4 (by rw [hA]; exact hxl) (by rw [hA]; exact hl60) (by omega) (by rw [hA, ← HG0.out]; exact HGL.out.1.below hB4')
      rw [hA] at CR
      clear hL4 hB4 hB4' hA
      go_wp2_with fail
      refine CR.mono ?_
      rintro e w5 ⟨⟨v5, rfl⟩, hL5⟩
      clear CR
      have HL5 := Lib.hid hL5
      clear hL5
      go_wp2_with fail
      go_roundw
      case rel => exact ⟨j + 1, _, by omega, rfl, HL5.out⟩
      case measure => simp [intOf]; omega
    · obtain rfl : j = n := by omega
      have tj : ((j : Int) < (j : Int)) = False := by simp
      have hF := HF.out.below hBw
      obtain ⟨hfn, hfc, hfb, fb, fo, hfa, hfcell⟩ := HF.out
      have HFA := Lib.hid hfa
      have HFC := Lib.hid hfcell
      have HFN := Lib.hid hfn
      have HL := Lib.hid hL
      clear hL hla hlc hBw hF hfa hfcell hfn hfb
      go_wp2_with fail
      go_loopw [11] (fun v11 wr => ∃ (i : Nat) (ss : List So), i ≤ fn ∧ i ≤ 200 ∧ v11 = .int .i64 (i : Int) ∧ La w wr g0 g0 w1.heap.size j G (F.take i) ss) (fun v11 _ => fn - (intOf v11).toNat)
      case atStart => exact ⟨0, ss, Nat.zero_le _, Nat.zero_le _, rfl, HL.out.ld, HL.out.len, (fun k hk => by
        by_cases e : k < j
        · exact (HL.out.all k e).2
        · have := HL.out.len
          have h0 := tk_lt (ss := ss) (k := k) hk
          omega), fun _ k hk => (HL.out.all k hk).1, HL.out.be⟩
      case round =>
        clear HL
        obtain ⟨i, ss2, hi, hi2, rfl, hL⟩ := hrel
        by_cases hil : i < fn ∧ i < 200
        · have ti : (i : Int) < (fn : Int) := by omega
          have ti2 : (i : Int) < 200 := by omega
          have ti0 : (0 : Int) ≤ (i : Int) := by omega
          have ei : IntKind.i64.wrap ((i : Int) + 1) = ((i + 1 : Nat) : Int) := by rw [i64_small (by omega) (by omega)]; omega
          obtain ⟨rfl, hfb⟩ := HFA.out (by omega)
          have hBw : Below w.heap.size w wr := by have := hL.be; rw [← HG0.out] at this; exact this
          have ci := (hBw.cell (p := ⟨fb, fo + i, none⟩) hfb).trans (HFC.out i (by omega))
          have htk : F.take (i + 1) = F.take i ++ [F[i]?.getD 0] := by
            rw [List.take_add_one, List.getElem?_eq_getElem (by have := HFN.out; omega)]
            simp
          have HTK := Lib.hid htk
          have HFI := Lib.hid (HFC.out i (by omega))
          clear htk
          generalize F[i]?.getD 0 = x at *
          have CF := ldfree_any hL.ld x
          have HL := Lib.hid hL
          clear hL
          go_wp2_with fail
          refine CF.mono ?_
          rintro e w3 ⟨rfl, hL3, hB3⟩
          clear CF
          have hB3' : Below w.heap.size w w3 := hBw.trans (by rw [HG0.out]; exact hB3)
          have ci3 := (hB3'.cell (p := ⟨fb, fo + i, none⟩) hfb).trans HFI.out
          have CF2 := ldrfree_any hL3 x
          have HB3 := Lib.hid hB3'
          clear hL3 hB3 hB3' hBw ci
          go_wp2_with fail
          refine CF2.mono ?_
          rintro e w4 ⟨rfl, hL4, hB4⟩
          clear CF2
          have HL4 := Lib.hid hL4
          have HB4 := Lib.hid hB4
          clear hL4 hB4
          go_wp2_with fail
          go_roundw
          case rel =>
            refine ⟨i + 1, freeS ss2 x, by omega, by omega, rfl, HL4.out, by rw [freeS_len]; exact HL.out.len, fun k hk => ?_, fun e => ?_, ?_⟩
            · have e := freeS_kept ss2 x k hk
              rw [e] at hk ⊢
              exact HL.out.ls k hk
            · rw [HTK.out] at e
              simp at e
            · have := HB3.out
              rw [HG0.out] at this
              exact this.trans HB4.out
          case measure => simp [intOf]; omega
        · have HL := Lib.hid hL
          clear hL
          have hfin : ∃ g q ss, (Ending.returned (.tuple #[.pointer (some ⟨g0, 0, none⟩), .pointer (some ⟨w1.heap.size, 0, none⟩), .bool true])) = .returned (.tuple #[.pointer (some ⟨g, 0, none⟩), .pointer (some ⟨q, 0, none⟩), .bool true]) ∧ La w wr w.heap.size g q j G F ss := by
            refine ⟨g0, w1.heap.size, ss2, rfl, ?_⟩
            rw [HG0.out]
            exact ⟨HL.out.ld, HL.out.len, HL.out.ls, fun e => HL.out.none (by rw [e]; simp), HL.out.be⟩
          have HFIN := Lib.hid hfin
          clear hfin
          by_cases h1 : i < fn
          · have ti : (i : Int) < (fn : Int) := by omega
            have ti2 : ((i : Int) < 200) = False := by simp; omega
            go_wp2
            go_ret3
            exact HFIN.out
          · have ti : ((i : Int) < (fn : Int)) = False := by simp; omega
            go_wp2
            go_ret3
            exact HFIN.out
end Go.Proofs.YtbnmnmbfdfgohaaDoor
