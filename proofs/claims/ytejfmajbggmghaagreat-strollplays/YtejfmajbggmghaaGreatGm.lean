/-
  The program's dictionary: First, Last, Clear, Copy, New refused.
  First and Last of the program's dictionary.
  The document's dictionary: take, First, Last.
-/
import Derived.Test.YtejfmajbggmghaaGreatGl
namespace Go.Proofs.YtejfmajbggmghaaGreat
open Go.RowKit Go.WideShapes

/-- The first live entry, or -1; the last one. -/
def FstR (es : List En) (o : Int) : Prop := (o = -1 ∧ ∀ i, i < es.length → (nth es i).live = false) ∨ ∃ n : Nat, o = (n : Int) ∧ n < es.length ∧ (nth es n).live = true ∧ ∀ i, i < n → (nth es i).live = false
def LstR (es : List En) (o : Int) : Prop := (o = -1 ∧ ∀ i, i < es.length → (nth es i).live = false) ∨ ∃ n : Nat, o = (n : Int) ∧ n < es.length ∧ (nth es n).live = true ∧ ∀ i, n < i → i < es.length → (nth es i).live = false
theorem eqTb' (g : Nat) (w : World) : (binOp .eql 52 (.pointer (some ⟨g, 0, none⟩)) (.pointer none)).run Tryz.prog w = .ok (.bool false) w := eqTb g w
set_option maxRecDepth 100000 in
theorem last7_any {w : World} {g : Nat} {ev : Value} {es : List En} (k2 : w.cell? ⟨g, 2, none⟩ = some ev) (hE : Es w ev es) (hlen : es.length ≤ 100000) :
    Calls Tryz.prog 44 #[.pointer (some ⟨g, 0, none⟩)] w fun e w' => ∃ o, e = .returned (.int .i64 o) ∧ LstR es o ∧ w' = w := by
  have h1 := eqTb g
  obtain ⟨ae, cape, ge, ev1, hpe, hro⟩ := hE.open
  have hcape := hro.le
  have HRO : Hid (0 < es.length → ae = some ⟨ge, 0, none⟩ ∧ Ro w ge es.length cape es) := fun h0 => ⟨(hpe h0).1, hro⟩
  subst ev1
  have e0 : IntKind.i64.wrap ((es.length : Int) - 1) = (es.length : Int) - 1 := i64_small (by omega) (by omega)
  clear hE hro hpe
  go_enter Tryz.func44, Tryz.ntmps44
  go_wp2_with fail
  go_loopw [3] (fun iv wr => ∃ k : Nat, k ≤ es.length ∧ iv = .int .i64 ((k : Int) - 1) ∧ wr = w ∧ ∀ i, k ≤ i → i < es.length → (nth es i).live = false) (fun iv _ => (intOf iv + 1).toNat)
  case atStart => exact ⟨es.length, Nat.le_refl _, rfl, rfl, fun i hi hi2 => by omega⟩
  case round =>
    obtain ⟨k, hk, rfl, hwr, hno⟩ := hrel
    subst hwr
    have HNO := Lib.hid hno
    clear hno e0
    match k, hk with
    | 0, hk =>
      have HF : Hid (LstR es (-1)) := .inl ⟨rfl, fun i hi => HNO.out i (Nat.zero_le _) hi⟩
      have t1 : ¬ (0 : Int) ≤ ((0 : Nat) : Int) - 1 := by omega
      go_wp2
      go_ret
      exact ⟨_, rfl, HF.out, rfl⟩
    | k + 1, hk =>
      have ek : (((k + 1 : Nat) : Int) - 1) = (k : Int) := by omega
      rw [ek]
      clear ek
      have t1 : (k : Int) < (es.length : Int) := by omega
      have e1 : IntKind.i64.wrap ((k : Int) - 1) = (k : Int) - 1 := i64_small (by omega) (by omega)
      obtain ⟨ea, hro⟩ := HRO.out (by omega)
      subst ea
      have d0 := hro.c0 k (by omega)
      clear hro
      cases hlive : (nth es k).live with
      | true =>
        rw [hlive] at d0
        have HF : Hid (LstR es (k : Int)) := .inr ⟨k, rfl, by omega, hlive, fun i hi => HNO.out i hi⟩
        clear hlive
        go_wp2_with fail
        go_ret
        exact ⟨_, rfl, HF.out, rfl⟩
      | false =>
        rw [hlive] at d0
        have HNX : Hid (∀ i, k ≤ i → i < es.length → (nth es i).live = false) := fun i hi hi2 => by
          by_cases e : i = k
          · rw [e]; exact hlive
          · exact HNO.out i (by omega) hi2
        clear hlive
        go_wp2_with fail
        go_roundw
        case rel => exact ⟨k, by omega, by trivial, by trivial, HNX.out⟩
        case measure => simp [intOf] <;> omega
set_option maxRecDepth 100000 in
theorem ptake_no {w : World} {d g gi r h : Nat} {ev : Value} {t : Tb} {mv : Value} {most : Int} {v : Nat} (hC : Dc w d g gi r h ev t mv most v) :
    Calls Tryz.prog 43 #[.pointer (some ⟨d, 0, none⟩), .int .i64 (-1)] w fun e w' => e = .returned (.tuple #[.agg #[.bool false, .int .i64 0, .int .i64 0, .int .i64 0, .int .i64 0], .int .i64 7]) ∧ Below w.heap.size w w' := by
  obtain ⟨w1, hw1⟩ : ∃ y, w.alloc (.cells #[.bool false, .int .i64 0, .int .i64 0, .int .i64 0, .int .i64 0] 48) = y := ⟨_, rfl⟩
  have hB1 : Below w.heap.size w w1 := by rw [← hw1]; exact (Below.refl _ w).alloc (Nat.le_refl _) _
  have hX1 : Blk w1 w.heap.size 5 (fun j => #[Value.bool false, .int .i64 0, .int .i64 0, .int .i64 0, .int .i64 0].getD j .nilFunc) := by rw [← hw1]; exact Blk.new w _ _
  have hC1 := hC.below hB1
  have C1 := kept_yes (hC1.hd.c 0 (by omega))
  have C2 := at7_no hC1.dt (-1) (fun h => by have := h.1; omega)
  have HB1 := Lib.hid hB1
  have HX1 := Lib.hid hX1
  have HW1 := Lib.hid hw1
  clear hC hC1 hB1 hX1 hw1
  go_enter Tryz.func43, Tryz.ntmps43
  go_upto_region 1 with fail
  rw [HW1.out]
  go_wp2_with fail
  refine C1.mono ?_
  rintro e w1' ⟨rfl, hw1'⟩
  rw [hw1']
  clear hw1' C1
  go_wp2_with fail
  refine C2.mono ?_
  rintro e w2 ⟨rfl, hB2⟩
  clear C2
  obtain ⟨w3, hw3⟩ : ∃ y, w2.alloc (.cells #[.bool false, .int .i64 0, .int .i64 0, .int .i64 0, .int .i64 0] 48) = y := ⟨_, rfl⟩
  have hB3 : Below w2.heap.size w2 w3 := by rw [← hw3]; exact (Below.refl _ w2).alloc (Nat.le_refl _) _
  have hB13 := hB2.trans (hB3.mono hB2.size)
  have hR3 : Blk w3 w.heap.size 5 _ := HX1.out.of hB13 (by omega)
  have q0 : w3.cell? ⟨w.heap.size, 0, none⟩ = some (.bool false) := hR3.c 0 (by omega)
  have q1 : w3.cell? ⟨w.heap.size, 1, none⟩ = some (.int .i64 0) := hR3.c 1 (by omega)
  have q2 : w3.cell? ⟨w.heap.size, 2, none⟩ = some (.int .i64 0) := hR3.c 2 (by omega)
  have q3 : w3.cell? ⟨w.heap.size, 3, none⟩ = some (.int .i64 0) := hR3.c 3 (by omega)
  have q4 : w3.cell? ⟨w.heap.size, 4, none⟩ = some (.int .i64 0) := hR3.c 4 (by omega)
  have z0 := hR3.z 0
  have z1 := hR3.z 1
  have z2 := hR3.z 2
  have z3 := hR3.z 3
  have z4 := hR3.z 4
  obtain ⟨wZ, hwZ⟩ : ∃ V, put5 w3 w.heap.size (.bool false) (.int .i64 0) (.int .i64 0) (.int .i64 0) (.int .i64 0) = V := ⟨_, rfl⟩
  have hRz : Blk wZ w.heap.size 5 (fun j => [Value.bool false, .int .i64 0, .int .i64 0, .int .i64 0, .int .i64 0].getD j .nilFunc) := by rw [← hwZ]; exact put5_blk hR3 _ _ _ _ _
  have HBZ : Hid (Below w.heap.size w wZ) := by
    rw [← hwZ]
    exact (HB1.out.trans (hB13.mono HB1.out.size)).trans (put5_below _ (Nat.le_refl _) _ _ _ _ _)
  have HR9 := Lib.hid hRz
  have HWZ := Lib.hid hwZ
  have HW3 := Lib.hid hw3
  unfold put5 at HWZ
  clear hw3 hB3 hB13 hR3 hwZ hRz hB2
  go_upto_region 2 with fail
  rw [HW3.out]
  go_wp2_with fail
  have HWE := HWZ.out
  rw [HWE]
  clear HWE
  have o0 : wZ.cell? ⟨w.heap.size, 0, none⟩ = some (.bool false) := HR9.out.c 0 (by omega)
  have o1 : wZ.cell? ⟨w.heap.size, 1, none⟩ = some (.int .i64 0) := HR9.out.c 1 (by omega)
  have o2 : wZ.cell? ⟨w.heap.size, 2, none⟩ = some (.int .i64 0) := HR9.out.c 2 (by omega)
  have o3 : wZ.cell? ⟨w.heap.size, 3, none⟩ = some (.int .i64 0) := HR9.out.c 3 (by omega)
  have o4 : wZ.cell? ⟨w.heap.size, 4, none⟩ = some (.int .i64 0) := HR9.out.c 4 (by omega)
  refine bodyPost_ret (v := .tuple #[.agg #[.bool false, .int .i64 0, .int .i64 0, .int .i64 0, .int .i64 0], .int .i64 7]) ?_ rfl ⟨rfl, HBZ.out⟩
  simp [results, Tryz.results43, go_sem, o0, o1, o2, o3, o4]
theorem pclear_any {w : World} {d g gi r h : Nat} {ev : Value} {t : Tb} {mv : Value} {M : Int → Int → World → Prop} {a b : Int} {most : Int} {v : Nat} (hC : Dc w d g gi r h ev t mv most v) (hMo : MtOk mv M) (hM : M a b w) (hm : t.made ≤ 1000000) (ha : 0 ≤ a ∧ a ≤ 1000000000) (ht : t.turn ≤ 1000000) (hv : v ≤ 1000000000) :
    Calls Tryz.prog 15 #[.pointer (some ⟨d, 0, none⟩)] w fun e w' => e = .returned (.tuple #[]) ∧ ∃ gi' r' h' ev', Cd w d g gi r h ev mv M (a + 1) b most (v + 1) t.clear w' gi' r' h' ev' := by
  have h1 := eqD d
  have C1 := kept_yes (hC.hd.c 0 (by omega))
  have C2 := clear7_any hC.dt hMo hM hm ha ht
  have HC := Lib.hid hC
  have HMo := Lib.hid hMo
  clear hC hMo hM
  go_enter Tryz.func15, Tryz.ntmps15
  go_wp2_with fail
  refine C1.mono ?_
  rintro e w1 ⟨rfl, rfl⟩
  go_wp2_with fail
  refine C2.mono ?_
  rintro e w2 ⟨rfl, gi', r', h', ev', hA⟩
  clear C1 C2
  obtain ⟨hB2, hF⟩ := cd_of HC.out HMo.out (HC.out.ok.clear) hA.dt hA.m hA.fx hA.ex
  have C3 := change_any hv (hB2.c 2 (by omega)) (hB2.z 2)
  have HF := Lib.hid hF
  clear hA hB2 hF
  go_wp2_with fail
  refine C3.mono ?_
  rintro e w3 ⟨rfl, rfl⟩
  clear C3
  go_wp2
  go_end0
  exact ⟨rfl, gi', r', h', ev', HF.out⟩
end Go.Proofs.YtejfmajbggmghaaGreat
namespace Go.Proofs.YtejfmajbggmghaaGreat
open Go.RowKit Go.WideShapes

theorem fst_one {es : List En} {a b : Int} (x : FstR es a) (y : FstR es b) : a = b := by
  rcases x with ⟨rfl, x⟩ | ⟨n, rfl, x1, x2, x3⟩ <;> rcases y with ⟨rfl, y⟩ | ⟨k, rfl, y1, y2, y3⟩
  · rfl
  · rw [x k y1] at y2; cases y2
  · rw [y n x1] at x2; cases x2
  · rcases Nat.lt_trichotomy n k with h | h | h
    · rw [y3 n h] at x2; cases x2
    · rw [h]
    · rw [x3 k h] at y2; cases y2
theorem lst_one {es : List En} {a b : Int} (x : LstR es a) (y : LstR es b) : a = b := by
  rcases x with ⟨rfl, x⟩ | ⟨n, rfl, x1, x2, x3⟩ <;> rcases y with ⟨rfl, y⟩ | ⟨k, rfl, y1, y2, y3⟩
  · rfl
  · rw [x k y1] at y2; cases y2
  · rw [y n x1] at x2; cases x2
  · rcases Nat.lt_trichotomy n k with h | h | h
    · rw [x3 k h y1] at y2; cases y2
    · rw [h]
    · rw [y3 n h x1] at x2; cases x2
/-- A live entry's number, or -1. -/
def LvR (es : List En) (o : Int) : Prop := o = -1 ∨ ∃ n : Nat, o = (n : Int) ∧ n < es.length ∧ (nth es n).live = true
theorem FstR.lv {es : List En} {o : Int} (h : FstR es o) : LvR es o := h.elim (fun y => .inl y.1) (fun ⟨n, a, b, c, _⟩ => .inr ⟨n, a, b, c⟩)
theorem LstR.lv {es : List En} {o : Int} (h : LstR es o) : LvR es o := h.elim (fun y => .inl y.1) (fun ⟨n, a, b, c, _⟩ => .inr ⟨n, a, b, c⟩)
/-- What is told of entry o, taken out, and what that makes of the table and its version. -/
def TkR (t : Tb) (o : Int) (x : En) (c : Int) (P : Nat → Tb → Prop) : Prop := (o = -1 ∧ x = En.zero ∧ c = 7 ∧ P 0 t) ∨ ∃ n : Nat, o = (n : Int) ∧ n < t.es.length ∧ (nth t.es n).live = true ∧ x = nth t.es n ∧ c = 0 ∧ P 1 (t.kill n)
theorem TkR.mono {t : Tb} {o : Int} {x : En} {c : Int} {P Q : Nat → Tb → Prop} (h : TkR t o x c P) (f : ∀ v t', P v t' → Q v t') : TkR t o x c Q := by
  rcases h with ⟨a, b, c, d⟩ | ⟨n, a, b, c, d, e, g⟩
  · exact .inl ⟨a, b, c, f _ _ d⟩
  · exact .inr ⟨n, a, b, c, d, e, f _ _ g⟩
theorem TkR.any {t : Tb} {o : Int} {x : En} {c : Int} {P : Nat → Tb → Prop} (h : TkR t o x c P) : ∃ v t', P v t' := by
  rcases h with ⟨_, _, _, d⟩ | ⟨_, _, _, _, _, _, g⟩
  · exact ⟨_, _, d⟩
  · exact ⟨_, _, g⟩
theorem ptake_any {w : World} {d g gi r h : Nat} {ev : Value} {t : Tb} {mv : Value} {M : Int → Int → World → Prop} {a b : Int} {most : Int} {v : Nat} (hC : Dc w d g gi r h ev t mv most v) (hMo : MtOk mv M) (hM : M a b w) (ht : t.turn ≤ 1000000) (hv : v ≤ 1000000000) (o : Int) (ho : LvR t.es o) :
    Calls Tryz.prog 43 #[.pointer (some ⟨d, 0, none⟩), .int .i64 o] w fun e w' => ∃ x c, e = .returned (.tuple #[eV x, .int .i64 c]) ∧ TkR t o x c (fun dv t' => Cd w d g gi r h ev mv M a b most (v + dv) t' w' gi r h ev) := by
  rcases ho with rfl | ⟨n, rfl, h1, h2⟩
  · refine (ptake_no hC).mono ?_
    rintro e w' ⟨rfl, hb⟩
    exact ⟨En.zero, 7, rfl, .inl ⟨rfl, rfl, rfl, hC.cd hMo hM hb⟩⟩
  · refine (ptake_yes hC hMo hM ht hv n h1 h2).mono ?_
    rintro e w' ⟨rfl, hc⟩
    exact ⟨_, 0, rfl, .inr ⟨n, rfl, h1, h2, rfl, rfl, hc⟩⟩
set_option maxRecDepth 100000 in
set_option maxHeartbeats 4000000 in
theorem plast_any {w : World} {d g gi r h : Nat} {ev : Value} {t : Tb} {mv : Value} {M : Int → Int → World → Prop} {a b : Int} {most : Int} {v : Nat} (hC : Dc w d g gi r h ev t mv most v) (hMo : MtOk mv M) (hM : M a b w) (ht : t.turn ≤ 1000000) (hv : v ≤ 1000000000) :
    Calls Tryz.prog 19 #[.pointer (some ⟨d, 0, none⟩)] w fun e w' => ∃ o x c, e = .returned (.tuple #[eV x, .int .i64 c]) ∧ LstR t.es o ∧ TkR t o x c (fun dv t' => Cd w d g gi r h ev mv M a b most (v + dv) t' w' gi r h ev) := by
  obtain ⟨w1, hw1⟩ : ∃ y, w.alloc (.cells #[.bool false, .int .i64 0, .int .i64 0, .int .i64 0, .int .i64 0] 48) = y := ⟨_, rfl⟩
  have hB1 : Below w.heap.size w w1 := by rw [← hw1]; exact (Below.refl _ w).alloc (Nat.le_refl _) _
  have hX1 : Blk w1 w.heap.size 5 (fun j => #[Value.bool false, .int .i64 0, .int .i64 0, .int .i64 0, .int .i64 0].getD j .nilFunc) := by rw [← hw1]; exact Blk.new w _ _
  have hlen : t.es.length ≤ 100000 := Nat.le_trans hC.ok.few hC.ok.all
  have hC1 := hC.below hB1
  have C1 := kept_yes (hC1.hd.c 0 (by omega))
  have C2 := last7_any (hC1.dt.hd.c 2 (by omega)) hC1.dt.es hlen
  have lR := hX1.lt (by omega)
  have HT : Hid (∀ o, LstR t.es o → Calls Tryz.prog 43 #[.pointer (some ⟨d, 0, none⟩), .int .i64 o] w1 fun e w' => ∃ x c, e = .returned (.tuple #[eV x, .int .i64 c]) ∧ TkR t o x c (fun dv t' => Cd w1 d g gi r h ev mv M a b most (v + dv) t' w' gi r h ev)) := fun o ho => ptake_any hC1 hMo (hMo.below hM hB1) ht hv o ho.lv
  have HFIN : Hid (∀ w5 dv t', Cd w1 d g gi r h ev mv M a b most (v + dv) t' w5 gi r h ev → w5.heap[w.heap.size]? = w1.heap[w.heap.size]? ∧ ∀ v0 v1 v2 v3 v4, Cd w d g gi r h ev mv M a b most (v + dv) t' (put5 w5 w.heap.size v0 v1 v2 v3 v4) gi r h ev) := fun w5 dv t' hc => ⟨hc.block lR (fun y => by have := hC.lt _ y; omega) (fun y => by have := hMo.lt _ _ _ _ hM y; omega), fun v0 v1 v2 v3 v4 => (hc.from hB1).over hC hMo (fun k hk => hMo.lt _ _ _ k hM hk) (put5_below (B := w.heap.size) (w := w5) w.heap.size (Nat.le_refl _) v0 v1 v2 v3 v4)⟩
  have HX1 := Lib.hid hX1
  have HW1 := Lib.hid hw1
  clear hC hC1 hMo hM hB1 hX1 hw1
  unfold eV at HT ⊢
  go_enter Tryz.func19, Tryz.ntmps19
  go_upto_region 1 with fail
  rw [HW1.out]
  go_wp2_with fail
  refine C1.mono ?_
  rintro e w1' ⟨rfl, hw1'⟩
  rw [hw1']
  clear hw1' C1
  go_wp2_with fail
  refine C2.mono ?_
  rintro e w2 ⟨o, rfl, hO, hw2⟩
  rw [hw2]
  clear hw2 C2
  have C3 := HT.out o hO
  have HO := Lib.hid hO
  clear hO HT
  go_wp2_with fail
  refine C3.mono ?_
  rintro e w5 ⟨x, c, rfl, hT⟩
  clear C3
  obtain ⟨_, _, hc⟩ := hT.any
  have hR5 := HX1.out.same (HFIN.out w5 _ _ hc).1
  have q0 : w5.cell? ⟨w.heap.size, 0, none⟩ = some (.bool false) := hR5.c 0 (by omega)
  have q1 : w5.cell? ⟨w.heap.size, 1, none⟩ = some (.int .i64 0) := hR5.c 1 (by omega)
  have q2 : w5.cell? ⟨w.heap.size, 2, none⟩ = some (.int .i64 0) := hR5.c 2 (by omega)
  have q3 : w5.cell? ⟨w.heap.size, 3, none⟩ = some (.int .i64 0) := hR5.c 3 (by omega)
  have q4 : w5.cell? ⟨w.heap.size, 4, none⟩ = some (.int .i64 0) := hR5.c 4 (by omega)
  have z0 := hR5.z 0
  have z1 := hR5.z 1
  have z2 := hR5.z 2
  have z3 := hR5.z 3
  have z4 := hR5.z 4
  obtain ⟨wZ, hwZ⟩ : ∃ V, put5 w5 w.heap.size (.bool x.live) (.int .i64 x.hash) (.int .i64 x.key) (.int .i64 x.value) (.int .i64 x.birth) = V := ⟨_, rfl⟩
  have hRz : Blk wZ w.heap.size 5 (fun j => [Value.bool x.live, .int .i64 x.hash, .int .i64 x.key, .int .i64 x.value, .int .i64 x.birth].getD j .nilFunc) := by rw [← hwZ]; exact put5_blk hR5 _ _ _ _ _
  have HTT : Hid (TkR t o x c (fun dv t' => Cd w d g gi r h ev mv M a b most (v + dv) t' wZ gi r h ev)) := hT.mono fun dv t' h => by rw [← hwZ]; exact (HFIN.out w5 dv t' h).2 _ _ _ _ _
  have HR9 := Lib.hid hRz
  have HWZ := Lib.hid hwZ
  unfold put5 at HWZ
  clear hT hc hR5 hwZ hRz HFIN
  go_wp2_with fail
  have HWE := HWZ.out
  rw [HWE]
  clear HWE
  have o0 : wZ.cell? ⟨w.heap.size, 0, none⟩ = some (.bool x.live) := HR9.out.c 0 (by omega)
  have o1 : wZ.cell? ⟨w.heap.size, 1, none⟩ = some (.int .i64 x.hash) := HR9.out.c 1 (by omega)
  have o2 : wZ.cell? ⟨w.heap.size, 2, none⟩ = some (.int .i64 x.key) := HR9.out.c 2 (by omega)
  have o3 : wZ.cell? ⟨w.heap.size, 3, none⟩ = some (.int .i64 x.value) := HR9.out.c 3 (by omega)
  have o4 : wZ.cell? ⟨w.heap.size, 4, none⟩ = some (.int .i64 x.birth) := HR9.out.c 4 (by omega)
  refine bodyPost_ret (v := .tuple #[.agg #[.bool x.live, .int .i64 x.hash, .int .i64 x.key, .int .i64 x.value, .int .i64 x.birth], .int .i64 c]) ?_ rfl ⟨o, x, c, rfl, HO.out, HTT.out⟩
  simp [results, Tryz.results19, go_sem, o0, o1, o2, o3, o4]
end Go.Proofs.YtejfmajbggmghaaGreat
namespace Go.Proofs.YtejfmajbggmghaaGreat
open Go.RowKit Go.WideShapes

theorem lvn_none {es : List En} : ∀ n, (∀ i, i < n → (nth es i).live = false) → lvn es n = []
  | 0, _ => rfl
  | n + 1, h => by rw [lvn_dead es (h n (by omega)), lvn_none n (fun i hi => h i (by omega))]
theorem lvn_stop {es : List En} {n : Nat} : ∀ k, (∀ i, n ≤ i → i < n + k → (nth es i).live = false) → lvn es (n + k) = lvn es n
  | 0, _ => rfl
  | k + 1, h => by rw [show n + (k + 1) = (n + k) + 1 by omega, lvn_dead es (h (n + k) (by omega) (by omega)), lvn_stop k (fun i hi h2 => h i hi (by omega))]
theorem fst_lvn {es : List En} {n : Nat} (hn : n < es.length) (hl : (nth es n).live = true) (hb : ∀ i, i < n → (nth es i).live = false) : (lvn es es.length)[0]? = some (n : Int) ∧ 0 < (lvn es es.length).length := by
  obtain ⟨h1, h2, _⟩ := lvn_at es hn hl
  rw [lvn_none n hb] at h1 h2
  exact ⟨h1, h2⟩
theorem lst_lvn {es : List En} {n : Nat} (hn : n < es.length) (hl : (nth es n).live = true) (hb : ∀ i, n < i → i < es.length → (nth es i).live = false) : (lvn es es.length)[(lvn es es.length).length - 1]? = some (n : Int) ∧ 0 < (lvn es es.length).length := by
  obtain ⟨h1, h2, h3⟩ := lvn_at es hn hl
  have h4 : lvn es es.length = lvn es (n + 1) := by
    have := lvn_stop (es := es) (n := n + 1) (es.length - (n + 1)) (fun i hi h => hb i (by omega) (by omega))
    rw [show n + 1 + (es.length - (n + 1)) = es.length by omega] at this
    exact this
  have h5 : (lvn es es.length).length - 1 = (lvn es n).length := by rw [h4, h3]; omega
  rw [h5]
  exact ⟨h1, by omega⟩
theorem fst_or (es : List En) : ∃ o, FstR es o := by
  have key : ∀ k, k ≤ es.length → (∀ i, i < k → (nth es i).live = false) ∨ ∃ n, n < k ∧ (nth es n).live = true ∧ ∀ i, i < n → (nth es i).live = false := by
    intro k
    induction k with
    | zero => exact fun _ => .inl fun i hi => by omega
    | succ k ih =>
      intro hk
      rcases ih (by omega) with h | ⟨n, a, b, c⟩
      · cases e : (nth es k).live with
        | true => exact .inr ⟨k, by omega, e, h⟩
        | false =>
          refine .inl fun i hi => ?_
          by_cases e2 : i = k
          · rw [e2]; exact e
          · exact h i (by omega)
      · exact .inr ⟨n, by omega, b, c⟩
  rcases key es.length (Nat.le_refl _) with h | ⟨n, a, b, c⟩
  · exact ⟨_, .inl ⟨rfl, h⟩⟩
  · exact ⟨_, .inr ⟨n, rfl, a, b, c⟩⟩
theorem lst_or (es : List En) : ∃ o, LstR es o := by
  have key : ∀ k, k ≤ es.length → (∀ i, i < k → (nth es i).live = false) ∨ ∃ n, n < k ∧ (nth es n).live = true ∧ ∀ i, n < i → i < k → (nth es i).live = false := by
    intro k
    induction k with
    | zero => exact fun _ => .inl fun i hi => by omega
    | succ k ih =>
      intro hk
      cases e : (nth es k).live with
      | true => exact .inr ⟨k, by omega, e, fun i h1 h2 => by omega⟩
      | false =>
        rcases ih (by omega) with h | ⟨n, a, b, c⟩
        · refine .inl fun i hi => ?_
          by_cases e2 : i = k
          · rw [e2]; exact e
          · exact h i (by omega)
        · refine .inr ⟨n, by omega, b, fun i h1 h2 => ?_⟩
          by_cases e2 : i = k
          · rw [e2]; exact e
          · exact c i h1 (by omega)
  rcases key es.length (Nat.le_refl _) with h | ⟨n, a, b, c⟩
  · exact ⟨_, .inl ⟨rfl, h⟩⟩
  · exact ⟨_, .inr ⟨n, rfl, a, b, c⟩⟩
set_option maxRecDepth 100000 in
set_option maxHeartbeats 8000000 in
theorem rtake8_any {w : World} {d g q : Nat} {ev : Value} {t : Tb} {mr : Value} {most : Int} {v : Nat} {a b : Int} (hR : Rdc w d g q ev t mr most v) (hM : Ms w mr a b 0 0) (hv : v ≤ 1000000000) (ht : t.turn ≤ 1000000) (hlen : t.es.length ≤ 100000) (n : Nat) (hn : n < t.es.length) (hl0 : (nth t.es n).live = true) :
    Calls Tryz.prog 46 #[.pointer (some ⟨d, 0, none⟩), .int .i64 (n : Int)] w fun e w' => e = .returned (.tuple #[eV (nth t.es n), .int .i64 0]) ∧ Rcd w d g q ev mr (fun _ => False) a b most (v + 1) (t.kill n) w' q ev := by
  obtain ⟨w1, hw1⟩ : ∃ V, w.alloc (.cells #[.bool false, .int .i64 0, .int .i64 0, .int .i64 0, .int .i64 0] 48) = V := ⟨_, rfl⟩
  have hB1 : Below w.heap.size w w1 := by rw [← hw1]; exact (Below.refl _ w).alloc (Nat.le_refl _) _
  have hX1 : Blk w1 w.heap.size 5 (fun j => #[Value.bool false, .int .i64 0, .int .i64 0, .int .i64 0, .int .i64 0].getD j .nilFunc) := by rw [← hw1]; exact Blk.new w _ _
  have hs1 : w1.heap.size = w.heap.size + 1 := by rw [← hw1]; simp
  have hR1 := hR.below hB1
  obtain ⟨ae, cape, ge, ev1, hp, hro⟩ := hR1.rt.es.open
  have hnS : n < t.sh.es.length := by rw [Tb.sh_len]; exact hn
  obtain ⟨rfl, hob, hfz⟩ := hp (by omega)
  have hsh : nth t.sh.es n = nth t.es n := shown_hash hl0
  have d0 := hro.c0 n hnS
  have d1 := hro.c1 n hnS
  have d2 := hro.c2 n hnS
  have d3 := hro.c3 n hnS
  have d4 := hro.c4 n hnS
  rw [hsh] at d0 d1 d2 d3 d4
  have hle := hro.le
  rw [Tb.sh_len] at ev1 hle
  have x2 : w1.cell? ⟨d, 2, none⟩ = some (.pointer (some ⟨g, 0, none⟩)) := hR1.hd.c 2 (by omega)
  have f0 : w1.cell? ⟨g, 0, none⟩ = some (.slice (some ⟨ge, 0, none⟩) t.es.length cape) := by rw [← ev1]; exact hR1.rt.hd.c 0 (by omega)
  have t1 : (n : Int) < (t.es.length : Int) := by omega
  have HL0 := Lib.hid hl0
  unfold eV
  clear hl0
  generalize (nth t.es n).live = y0 at d0 ⊢
  generalize (nth t.es n).hash = y1 at *
  generalize (nth t.es n).key = y2 at *
  generalize (nth t.es n).value = y3 at *
  generalize (nth t.es n).birth = y4 at *
  obtain ⟨w2, hw2⟩ : ∃ V, w1.alloc (.cells #[.bool y0, .int .i64 y1, .int .i64 y2, .int .i64 y3, .int .i64 y4] 48) = V := ⟨_, rfl⟩
  have hB2 : Below w1.heap.size w1 w2 := by rw [← hw2]; exact (Below.refl _ w1).alloc (Nat.le_refl _) _
  have hX2 : Blk w2 w1.heap.size 5 (fun j => #[Value.bool y0, .int .i64 y1, .int .i64 y2, .int .i64 y3, .int .i64 y4].getD j .nilFunc) := by rw [← hw2]; exact Blk.new w1 _ _
  have hs2 : w2.heap.size = w1.heap.size + 1 := by rw [← hw2]; simp
  have hR2 := hR1.below hB2
  have C1 := rkill_yes_s hR2.rt n hn HL0.out hlen ht
  have m2 : w2.cell? ⟨d, 2, none⟩ = some (.pointer (some ⟨g, 0, none⟩)) := hR2.hd.c 2 (by omega)
  have HR := Lib.hid hR
  have HR2 := Lib.hid hR2
  have HM := Lib.hid hM
  have HB1 := Lib.hid hB1
  have HB2 := Lib.hid hB2
  have HX1 := Lib.hid hX1
  have HX2 := Lib.hid hX2
  have HW1 := Lib.hid hw1
  have HW2 := Lib.hid hw2
  have HS : Hid (w1.heap.size = w.heap.size + 1 ∧ w2.heap.size = w1.heap.size + 1) := ⟨hs1, hs2⟩
  clear hR hM hro hob hfz hp ev1 hsh hnS hB1 hB2 hX1 hX2 hw1 hw2 hs1 hs2 hR1 hR2 hn hlen ht
  go_enter Tryz.func46, Tryz.ntmps46
  go_upto_region 1 with fail
  rw [HW1.out]
  go_upto_region 2 with fail
  rw [HW2.out]
  clear d0 d1 d2 d3 d4 x2 f0
  go_wp2_with fail
  refine C1.mono ?_
  rintro e w3 ⟨rfl, hR3, hx3⟩
  clear C1 m2
  have hx3' : Ex (fun k => rX d g q ev k) w2 w3 := hx3.mono (fun k _ y => .inr y)
  have hd3 : Blk w3 d 3 (rdF most v g) := HR2.out.hd.same (hx3.block d (HR2.out.lt d (.inl rfl)) (fun y => HR.out.ne y))
  have hR3' : Rdc w3 d g q ev (t.kill n) mr most v := ⟨hd3, hR3, HR.out.ne, HR.out.nm⟩
  have bd : w3.cell? ⟨d, 1, none⟩ = some (.int .i64 (v : Int)) := hd3.c 1 (by omega)
  have bz := hd3.z 1
  have e1 : IntKind.i64.wrap ((v : Int) + 1) = (v : Int) + 1 := i64_small (by omega) (by omega)
  obtain ⟨w4, hw4⟩ : ∃ V, w3.setCell ⟨d, 1, none⟩ (.int .i64 ((v : Int) + 1)) = V := ⟨_, rfl⟩
  have hR4 : Rdc w4 d g q ev (t.kill n) mr most (v + 1) := by rw [← hw4]; exact hR3'.bump
  have hX4 : Ex (fun k => rX d g q ev k) w2 w4 := by rw [← hw4]; exact hx3'.setCell (p := ⟨d, 1, none⟩) (fun _ => .inl rfl) _
  have hEx : Ex (fun k => rX d g q ev k) w w4 := (show Ex (fun k => rX d g q ev k) w w2 from ex_of (HB1.out.trans (HB2.out.mono HB1.out.size))).trans hX4
  have hZ4 : Blk w4 w.heap.size 5 _ := (HX1.out.of HB2.out (by have := HS.out; omega)).same (hX4.block _ (by have := HS.out; omega) (fun h => by have := HR.out.lt _ h; omega))
  have hE4 : Blk w4 w1.heap.size 5 _ := HX2.out.same (hX4.block _ (by have := HS.out; omega) (fun h => by have := HR.out.lt _ h; have := HS.out; omega))
  have HW4 := Lib.hid hw4
  clear hd3 hR3' hR3 hx3 hx3' hX4 hw4
  go_upto_region 4 with fail
  rw [HW4.out]
  clear bd bz
  have p0 : w4.cell? ⟨w1.heap.size, 0, none⟩ = some (.bool y0) := hE4.c 0 (by omega)
  have p1 : w4.cell? ⟨w1.heap.size, 1, none⟩ = some (.int .i64 y1) := hE4.c 1 (by omega)
  have p2 : w4.cell? ⟨w1.heap.size, 2, none⟩ = some (.int .i64 y2) := hE4.c 2 (by omega)
  have p3 : w4.cell? ⟨w1.heap.size, 3, none⟩ = some (.int .i64 y3) := hE4.c 3 (by omega)
  have p4 : w4.cell? ⟨w1.heap.size, 4, none⟩ = some (.int .i64 y4) := hE4.c 4 (by omega)
  have q0 : w4.cell? ⟨w.heap.size, 0, none⟩ = some (.bool false) := hZ4.c 0 (by omega)
  have q1 : w4.cell? ⟨w.heap.size, 1, none⟩ = some (.int .i64 0) := hZ4.c 1 (by omega)
  have q2 : w4.cell? ⟨w.heap.size, 2, none⟩ = some (.int .i64 0) := hZ4.c 2 (by omega)
  have q3 : w4.cell? ⟨w.heap.size, 3, none⟩ = some (.int .i64 0) := hZ4.c 3 (by omega)
  have q4 : w4.cell? ⟨w.heap.size, 4, none⟩ = some (.int .i64 0) := hZ4.c 4 (by omega)
  have z0 := hZ4.z 0
  have z1 := hZ4.z 1
  have z2 := hZ4.z 2
  have z3 := hZ4.z 3
  have z4 := hZ4.z 4
  obtain ⟨wZ, hwZ⟩ : ∃ V, put5 w4 w.heap.size (.bool y0) (.int .i64 y1) (.int .i64 y2) (.int .i64 y3) (.int .i64 y4) = V := ⟨_, rfl⟩
  have hRz : Blk wZ w.heap.size 5 (fun j => [Value.bool y0, .int .i64 y1, .int .i64 y2, .int .i64 y3, .int .i64 y4].getD j .nilFunc) := by rw [← hwZ]; exact put5_blk hZ4 _ _ _ _ _
  have hbz : Below w.heap.size w4 wZ := by rw [← hwZ]; exact put5_below _ (Nat.le_refl _) _ _ _ _ _
  have HFIN : Hid (Rcd w d g q ev mr (fun _ => False) a b most (v + 1) (t.kill n) wZ q ev) := ⟨hR4.same fun k hk => hbz.block k (HR.out.lt k hk), HM.out.same fun k hk => (hbz.block k (HM.out.lt k hk)).trans (hEx.block k (HM.out.lt k hk) (HR.out.mp k hk)), fun k hk => .inl hk, (hEx.mono (fun _ _ h => .inl h)).next (Y := fun k => w.heap.size ≤ k) ⟨hbz.os, hbz.tape, hbz.output, hbz.size, fun k _ hn => hbz.block k (by omega)⟩ (fun k hk hy => by omega)⟩
  have HR9 := Lib.hid hRz
  have HWZ := Lib.hid hwZ
  unfold put5 at HWZ
  clear hR4 hEx hZ4 hE4 hwZ hRz hbz
  go_wp2_with fail
  have HWE := HWZ.out
  rw [HWE]
  clear HWE
  have o0 : wZ.cell? ⟨w.heap.size, 0, none⟩ = some (.bool y0) := HR9.out.c 0 (by omega)
  have o1 : wZ.cell? ⟨w.heap.size, 1, none⟩ = some (.int .i64 y1) := HR9.out.c 1 (by omega)
  have o2 : wZ.cell? ⟨w.heap.size, 2, none⟩ = some (.int .i64 y2) := HR9.out.c 2 (by omega)
  have o3 : wZ.cell? ⟨w.heap.size, 3, none⟩ = some (.int .i64 y3) := HR9.out.c 3 (by omega)
  have o4 : wZ.cell? ⟨w.heap.size, 4, none⟩ = some (.int .i64 y4) := HR9.out.c 4 (by omega)
  refine bodyPost_ret (v := .tuple #[.agg #[.bool y0, .int .i64 y1, .int .i64 y2, .int .i64 y3, .int .i64 y4], .int .i64 0]) ?_ rfl ⟨rfl, HFIN.out⟩
  simp [results, Tryz.results46, go_sem, o0, o1, o2, o3, o4]
set_option maxRecDepth 100000 in
set_option maxHeartbeats 8000000 in
theorem rlast8_any {w : World} {d g q : Nat} {ev : Value} {t : Tb} {mr : Value} {most : Int} {v : Nat} {a b : Int} (hR : Rdc w d g q ev t mr most v) (hM : Ms w mr a b 0 0) (hv : v ≤ 1000000000) (ht : t.turn ≤ 1000000) (hlen : t.es.length ≤ 100000) :
    Calls Tryz.prog 20 #[.pointer (some ⟨d, 0, none⟩)] w fun e w' => ∃ o x c, e = .returned (.tuple #[eV x, .int .i64 c]) ∧ LstR t.es o ∧ TkR t o x c (fun dv t' => Rcd w d g q ev mr (fun _ => False) a b most (v + dv) t' w' q ev) := by
  obtain ⟨w1, hw1⟩ : ∃ V, w.alloc (.cells #[.bool false, .int .i64 0, .int .i64 0, .int .i64 0, .int .i64 0] 48) = V := ⟨_, rfl⟩
  have hB1 : Below w.heap.size w w1 := by rw [← hw1]; exact (Below.refl _ w).alloc (Nat.le_refl _) _
  have hX1 : Blk w1 w.heap.size 5 (fun j => #[Value.bool false, .int .i64 0, .int .i64 0, .int .i64 0, .int .i64 0].getD j .nilFunc) := by rw [← hw1]; exact Blk.new w _ _
  have hR1 := hR.below hB1
  have lR := hX1.lt (by omega)
  have x2 : w1.cell? ⟨d, 2, none⟩ = some (.pointer (some ⟨g, 0, none⟩)) := hR1.hd.c 2 (by omega)
  have C1 := rnumbers0 (hR1.rt.hd.c 0 (by omega)) hR1.rt.es (by rw [Tb.sh_len]; exact hlen)
  have hll : (lvn t.sh.es t.sh.es.length).length ≤ 100000 := by
    rw [lvn_all]
    have h1 := liveL_len t.sh.es
    have h2 := t.sh_len
    omega
  obtain ⟨o, hO⟩ := lst_or t.es
  have hOS : LstR t.sh.es o := by
    rcases hO with ⟨rfl, h⟩ | ⟨n, rfl, h1, h2, h3⟩
    · exact .inl ⟨rfl, fun i hi => (sh_is t.es i).trans (h i (by rw [Tb.sh_len] at hi; exact hi))⟩
    · exact .inr ⟨n, rfl, by rw [Tb.sh_len]; exact h1, (sh_is t.es n).trans h2, fun i hi h9 => (sh_is t.es i).trans (h3 i hi (by rw [Tb.sh_len] at h9; exact h9))⟩
  have HR := Lib.hid hR
  have HM := Lib.hid hM
  have HB1 := Lib.hid hB1
  have HX1 := Lib.hid hX1
  have HW1 := Lib.hid hw1
  have HR1 := Lib.hid hR1
  have HB : Hid (t.turn ≤ 1000000 ∧ t.es.length ≤ 100000) := ⟨ht, hlen⟩
  clear hR hM hB1 hX1 hw1 hR1 ht hlen
  unfold eV
  go_enter Tryz.func20, Tryz.ntmps20
  go_upto_region 1 with fail
  rw [HW1.out]
  go_wp2_with fail
  refine C1.mono ?_
  rintro e w2 ⟨lv, rfl, hI, hB2⟩
  clear C1 x2
  obtain ⟨la, lc, lg, rfl, hlc, hlo⟩ := hI.open
  have hB02 := HB1.out.trans (hB2.mono HB1.out.size)
  have hR2 := HR.out.below hB02
  have hM2 := HM.out.below hB02
  have hZ2 : Blk w2 w.heap.size 5 _ := HX1.out.of hB2 (by omega)
  have lR2 := hZ2.lt (by omega)
  clear hI
  rcases hO with ⟨ho, hno⟩ | ⟨n, ho, hn, hl, hbb⟩
  · subst ho
    have hnil : lvn t.sh.es t.sh.es.length = [] := lvn_none _ (fun i hi => by
      rcases hOS with ⟨_, h⟩ | ⟨k, h, _⟩
      · exact h i hi
      · exact absurd h (by omega))
    rw [hnil] at hlo hlc ⊢
    have q0 : w2.cell? ⟨w.heap.size, 0, none⟩ = some (.bool false) := hZ2.c 0 (by omega)
    have q1 : w2.cell? ⟨w.heap.size, 1, none⟩ = some (.int .i64 0) := hZ2.c 1 (by omega)
    have q2 : w2.cell? ⟨w.heap.size, 2, none⟩ = some (.int .i64 0) := hZ2.c 2 (by omega)
    have q3 : w2.cell? ⟨w.heap.size, 3, none⟩ = some (.int .i64 0) := hZ2.c 3 (by omega)
    have q4 : w2.cell? ⟨w.heap.size, 4, none⟩ = some (.int .i64 0) := hZ2.c 4 (by omega)
    have z0 := hZ2.z 0
    have z1 := hZ2.z 1
    have z2 := hZ2.z 2
    have z3 := hZ2.z 3
    have z4 := hZ2.z 4
    obtain ⟨wZ, hwZ⟩ : ∃ V, put5 w2 w.heap.size (.bool false) (.int .i64 0) (.int .i64 0) (.int .i64 0) (.int .i64 0) = V := ⟨_, rfl⟩
    have hRz : Blk wZ w.heap.size 5 (fun j => [Value.bool false, .int .i64 0, .int .i64 0, .int .i64 0, .int .i64 0].getD j .nilFunc) := by rw [← hwZ]; exact put5_blk hZ2 _ _ _ _ _
    have hbz : Below w.heap.size w wZ := by rw [← hwZ]; exact hB02.trans (put5_below _ (Nat.le_refl _) _ _ _ _ _)
    have HFIN : Hid (TkR t (-1) En.zero 7 (fun dv t' => Rcd w d g q ev mr (fun _ => False) a b most (v + dv) t' wZ q ev)) := .inl ⟨rfl, rfl, rfl, HR.out.below hbz, HM.out.below hbz, fun k hk => .inl hk, ex_of hbz⟩
    have HFF : Hid (LstR t.es (-1)) := .inl ⟨rfl, hno⟩
    have HR9 := Lib.hid hRz
    have HWZ := Lib.hid hwZ
    unfold put5 at HWZ
    clear hwZ hRz hbz hR2 hM2 hZ2 hB2 hB02 hno hOS hlo hnil
    go_wp2_with fail
    have HWE := HWZ.out
    rw [HWE]
    clear HWE
    have o0 : wZ.cell? ⟨w.heap.size, 0, none⟩ = some (.bool false) := HR9.out.c 0 (by omega)
    have o1 : wZ.cell? ⟨w.heap.size, 1, none⟩ = some (.int .i64 0) := HR9.out.c 1 (by omega)
    have o2 : wZ.cell? ⟨w.heap.size, 2, none⟩ = some (.int .i64 0) := HR9.out.c 2 (by omega)
    have o3 : wZ.cell? ⟨w.heap.size, 3, none⟩ = some (.int .i64 0) := HR9.out.c 3 (by omega)
    have o4 : wZ.cell? ⟨w.heap.size, 4, none⟩ = some (.int .i64 0) := HR9.out.c 4 (by omega)
    refine bodyPost_ret (v := .tuple #[.agg #[.bool false, .int .i64 0, .int .i64 0, .int .i64 0, .int .i64 0], .int .i64 7]) ?_ rfl ⟨-1, En.zero, 7, rfl, HFF.out, HFIN.out⟩
    simp [results, Tryz.results20, go_sem, o0, o1, o2, o3, o4]
  · have hz : (lvn t.sh.es t.sh.es.length)[(lvn t.sh.es t.sh.es.length).length - 1]? = some (n : Int) ∧ 0 < (lvn t.sh.es t.sh.es.length).length := by
      rcases hOS with ⟨h, _⟩ | ⟨k, h, k1, k2, k3⟩
      · exact absurd (ho.symm.trans h) (by omega)
      · have : k = n := by omega
        subst this
        exact lst_lvn k1 k2 k3
    obtain ⟨hz1, hz2⟩ := hz
    obtain ⟨la', llg, _, hbl⟩ := hlo hz2
    subst la'
    have c0 : w2.cell? ⟨lg, (lvn t.sh.es t.sh.es.length).length - 1, none⟩ = some (.int .i64 (n : Int)) := by
      have h := hbl.c ((lvn t.sh.es t.sh.es.length).length - 1) (by omega)
      rw [hz1] at h
      exact h
    have C2 := rtake8_any hR2 hM2 hv HB.out.1 HB.out.2 n hn hl
    have HB02 := Lib.hid hB02
    have HZ2 := Lib.hid hZ2
    have HN : Hid (n < t.es.length ∧ (nth t.es n).live = true) := ⟨hn, hl⟩
    have HFF : Hid (LstR t.es (n : Int)) := .inr ⟨n, rfl, hn, hl, hbb⟩
    obtain ⟨LL, hLL⟩ : ∃ LL, (lvn t.sh.es t.sh.es.length).length = LL := ⟨_, rfl⟩
    rw [hLL] at hz2 hlc hll c0 ⊢
    have t0 : ((LL : Int) == 0) = false := by rw [beq_eq_false_iff_ne]; omega
    have t1 : (0 : Int) < (LL : Int) := by omega
    have e1 : IntKind.i64.wrap ((LL : Int) - 1) = ((LL - 1 : Nat) : Int) := by rw [i64_small (by omega) (by omega)]; omega
    have t2 : ((LL - 1 : Nat) : Int) < (LL : Int) := by omega
    obtain ⟨x, hx⟩ : ∃ x, nth t.es n = x := ⟨_, rfl⟩
    rw [hx] at C2
    have HX := Lib.hid hx
    have HE02 : Hid (Ex (fun k => rX d g q ev k ∨ mB mr k ∨ False) w w2) := ex_of hB02
    unfold eV at C2
    clear hx hR2 hM2 hZ2 hB2 hB02 hbl hlo hOS hbb hl hz1 hz2 hLL hn ho
    go_wp2_with fail
    refine C2.mono ?_
    rintro e w5 ⟨rfl, hc⟩
    clear C2 c0
    have hZ5 : Blk w5 w.heap.size 5 _ := HZ2.out.same (hc.ex.block _ lR2 (fun h => by
      rcases h with h | h | h
      · have := HR.out.lt _ h; omega
      · have := HM.out.lt _ h; omega
      · exact h))
    have q0 : w5.cell? ⟨w.heap.size, 0, none⟩ = some (.bool false) := hZ5.c 0 (by omega)
    have q1 : w5.cell? ⟨w.heap.size, 1, none⟩ = some (.int .i64 0) := hZ5.c 1 (by omega)
    have q2 : w5.cell? ⟨w.heap.size, 2, none⟩ = some (.int .i64 0) := hZ5.c 2 (by omega)
    have q3 : w5.cell? ⟨w.heap.size, 3, none⟩ = some (.int .i64 0) := hZ5.c 3 (by omega)
    have q4 : w5.cell? ⟨w.heap.size, 4, none⟩ = some (.int .i64 0) := hZ5.c 4 (by omega)
    have z0 := hZ5.z 0
    have z1 := hZ5.z 1
    have z2 := hZ5.z 2
    have z3 := hZ5.z 3
    have z4 := hZ5.z 4
    obtain ⟨wZ, hwZ⟩ : ∃ V, put5 w5 w.heap.size (.bool x.live) (.int .i64 x.hash) (.int .i64 x.key) (.int .i64 x.value) (.int .i64 x.birth) = V := ⟨_, rfl⟩
    have hRz : Blk wZ w.heap.size 5 (fun j => [Value.bool x.live, .int .i64 x.hash, .int .i64 x.key, .int .i64 x.value, .int .i64 x.birth].getD j .nilFunc) := by rw [← hwZ]; exact put5_blk hZ5 _ _ _ _ _
    have hbz : Below w.heap.size w5 wZ := by rw [← hwZ]; exact put5_below _ (Nat.le_refl _) _ _ _ _ _
    have hsz := HB02.out.size
    have HFIN : Hid (TkR t (n : Int) x 0 (fun dv t' => Rcd w d g q ev mr (fun _ => False) a b most (v + dv) t' wZ q ev)) := .inr ⟨n, rfl, HN.out.1, HN.out.2, HX.out.symm, rfl, hc.dc.same fun k hk => hbz.block k (HR.out.lt k hk), hc.ms.same fun k hk => hbz.block k (HM.out.lt k hk), fun k hk => .inl hk, (HE02.out.next hc.ex (fun _ _ h => h)).next (Y := fun k => w.heap.size ≤ k) ⟨hbz.os, hbz.tape, hbz.output, hbz.size, fun k _ hn => hbz.block k (by omega)⟩ (fun k hk hy => by omega)⟩
    have HR9 := Lib.hid hRz
    have HWZ := Lib.hid hwZ
    unfold put5 at HWZ
    clear hc hZ5 hwZ hRz hbz hsz
    go_wp2_with fail
    have HWE := HWZ.out
    rw [HWE]
    clear HWE
    have o0 : wZ.cell? ⟨w.heap.size, 0, none⟩ = some (.bool x.live) := HR9.out.c 0 (by omega)
    have o1 : wZ.cell? ⟨w.heap.size, 1, none⟩ = some (.int .i64 x.hash) := HR9.out.c 1 (by omega)
    have o2 : wZ.cell? ⟨w.heap.size, 2, none⟩ = some (.int .i64 x.key) := HR9.out.c 2 (by omega)
    have o3 : wZ.cell? ⟨w.heap.size, 3, none⟩ = some (.int .i64 x.value) := HR9.out.c 3 (by omega)
    have o4 : wZ.cell? ⟨w.heap.size, 4, none⟩ = some (.int .i64 x.birth) := HR9.out.c 4 (by omega)
    refine bodyPost_ret (v := .tuple #[.agg #[.bool x.live, .int .i64 x.hash, .int .i64 x.key, .int .i64 x.value, .int .i64 x.birth], .int .i64 0]) ?_ rfl ⟨(n : Int), x, 0, rfl, HFF.out, HFIN.out⟩
    simp [results, Tryz.results20, go_sem, o0, o1, o2, o3, o4]
end Go.Proofs.YtejfmajbggmghaaGreat
