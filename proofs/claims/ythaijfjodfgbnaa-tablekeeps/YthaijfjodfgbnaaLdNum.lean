/-
  A meter that is none; number; awake.
-/
import Derived.Test.YthaijfjodfgbnaaDtSight
import Derived.Test.YthaijfjodfgbnaaDtKill
import Derived.Test.YthaijfjodfgbnaaLdMath
import Derived.Defers
namespace Go.Proofs.Ythaijfjodfgbnaa
open Go.RowKit Go.WideShapes

set_option maxRecDepth 100000 in
set_option maxHeartbeats 1600000 in
theorem ncount_nil (k n : Int) (w : World) :
    Calls Try.prog 43 #[.pointer none, .int .i64 k, .int .i64 n] w fun e w' => e = .returned (.tuple #[]) ∧ w' = w := by
  go_enter_defers Try.func43, Try.ntmps43
  go_wp2_with fail
  exact ⟨_, results_none rfl _ _ _, rfl, rfl⟩
theorem ntable_nil (w : World) : Calls Try.prog 35 #[.pointer none] w fun e w' => e = .returned (.tuple #[]) ∧ w' = w := by
  go_enter Try.func35, Try.ntmps35
  go_wp2_with fail
  refine (ncount_nil 0 1 w).mono ?_
  rintro e w' ⟨rfl, rfl⟩
  go_wp2
  go_end0
  exact ⟨rfl, rfl⟩
/-- A meter that is none. -/
def noM : Int → Int → World → Prop := fun _ _ _ => True
theorem mtOk_nil : MtOk (.pointer none) noM :=
  ⟨fun a b w _ _ _ => (ntable_nil w).mono fun e w' ⟨h1, h2⟩ => ⟨h1, trivial, by rw [h2]; exact Ex.refl _ _⟩, fun _ _ _ _ _ _ => trivial, fun a b w k _ h => by cases h⟩
/-- An entry as a value. -/
def lnV (e : En) : Value := .agg #[.bool e.live, .int .i64 e.hash, .int .i64 e.key, .int .i64 e.value, .int .i64 e.birth]
/-- Two entries that are the same. -/
def enE (x y : En) : Bool := x.live == y.live && (x.hash == y.hash && (x.key == y.key && (x.value == y.value && x.birth == y.birth)))
theorem enE_iff (x y : En) : enE x y = true ↔ x = y := by
  cases x; cases y
  simp [enE]
theorem en_eq (x y : En) (w : World) : (binOp .eql 36 (lnV x) (lnV y)).run Try.prog w = .ok (.bool (enE x y)) w := by
  unfold lnV enE
  have hu : Try.prog.underlying 36 = some (.struct (Try.prog.fieldsOf 36)) := by kernel_rfl
  have hp : Try.prog.stoodInHeld 36 = false := by kernel_rfl
  rw [run_eql_struct, run_equalIn_agg w 9999 _ _ _ hu hp]
  have hF : (Try.prog.fieldsOf 36).toList = [⟨"Live", 4, 0, false, "", "", 0⟩, ⟨"Hash", 3, 1, false, "", "", 8⟩, ⟨"Key", 3, 2, false, "", "", 16⟩, ⟨"Value", 3, 3, false, "", "", 24⟩, ⟨"Birth", 3, 4, false, "", "", 32⟩] := by kernel_rfl
  rw [hF]
  by_cases h0 : x.live = y.live
  · by_cases h1 : x.hash = y.hash
    · by_cases h2 : x.key = y.key
      · by_cases h3 : x.value = y.value
        · by_cases h4 : x.birth = y.birth
          · simp [Op.eqFields, go_sem, h0, h1, h2, h3, h4]
          · simp [Op.eqFields, go_sem, h0, h1, h2, h3, h4]
        · simp [Op.eqFields, go_sem, h0, h1, h2, h3]
      · simp [Op.eqFields, go_sem, h0, h1, h2]
    · simp [Op.eqFields, go_sem, h0, h1]
  · simp [Op.eqFields, go_sem, h0]
theorem sg_field (v0 v1 v2 v4 v5 v6 : Value) (a : Option Addr) (n c : Nat) (w : World) : (Instr.field 32 (.agg #[v0, v1, v2, .slice a n c, v4, v5, v6]) 3).run Try.prog w = .ok (.slice a n c) w := by kernel_rfl
set_option maxRecDepth 100000 in
set_option maxHeartbeats 4000000 in
theorem number_any {w : World} {g gi r h : Nat} {ev : Value} {t : Tb} {mv : Value} (hD : Dt w g gi r h ev t mv) (hlen : t.es.length ≤ 100000) (x : En) (n : Nat) (hn0 : n < t.es.length) (hx0 : nth t.es n = x) (hmin0 : ∀ m, m < n → nth t.es m ≠ x) (hxl : x.live = true) :
    Calls Try.prog 13 #[.pointer (some ⟨g, 0, none⟩), lnV x] w fun e w' => e = .returned (.tuple #[.int .i64 (n : Int), .bool true]) ∧ Below w.heap.size w w' := by
  obtain ⟨w1, hw1⟩ : ∃ y, w.alloc (.cells #[.bool x.live, .int .i64 x.hash, .int .i64 x.key, .int .i64 x.value, .int .i64 x.birth] 36) = y := ⟨_, rfl⟩
  have hB1 : Below w.heap.size w w1 := by rw [← hw1]; exact (Below.refl _ w).alloc (Nat.le_refl _) _
  have hX1 : Blk w1 w.heap.size 5 (fun j => #[Value.bool x.live, .int .i64 x.hash, .int .i64 x.key, .int .i64 x.value, .int .i64 x.birth].getD j .nilFunc) := by rw [← hw1]; exact Blk.new w _ _
  have hs1 : w1.heap.size = w.heap.size + 1 := by rw [← hw1]; simp
  have CS := dsight_any (hD.below hB1) hlen
  have HW := Lib.hid hw1
  have HX1 := Lib.hid hX1
  have hx : nth (shw t.es) n = x := by rw [nth_shw, hx0, En.shown_live hxl]
  have hmin : ∀ m, m < n → nth (shw t.es) m ≠ x := fun m hm h => by
    rw [nth_shw] at h
    by_cases hl : (nth t.es m).live = true
    · rw [En.shown_live hl] at h
      exact hmin0 m hm h
    · rw [En.shown_dead (by simpa using hl)] at h
      rw [← h] at hxl
      cases hxl
  have hn : n < (shw t.es).length := by rw [shw_len]; exact hn0
  have hlen' : (shw t.es).length ≤ 100000 := by rw [shw_len]; exact hlen
  have HMIN := Lib.hid hmin
  have HX := Lib.hid hx
  clear hw1 hX1 hmin hx hD hx0 hmin0 hn0 hlen hxl
  unfold lnV
  go_enter Try.func13, Try.ntmps13
  go_wp2_with fail
  rw [HW.out]
  refine CS.mono ?_
  rintro e w2 ⟨hc, ev', rfl, hSg, hB2⟩
  clear CS
  unfold sgV
  have hES := hSg.es
  clear hSg
  generalize shw t.es = E at *
  obtain ⟨ae, cape, ge, hev, hae, hro⟩ := hES.es.open
  have hcap := hro.le
  obtain ⟨rfl, hob, _⟩ := hae (by omega)
  have lge := hES.es.lt ge (by rw [hev]; rfl)
  subst hev
  have hX2 := HX1.out.same (hB2.block _ (by omega))
  have HRO := Lib.hid hro
  have HX2 := Lib.hid hX2
  have HBW : Hid (Below w.heap.size w w2) := hB1.trans (hB2.mono hB1.size)
  clear hES hro hae hX2 HX1
  have hfd := sg_field (.int .i64 (t.L : Int)) (.int .i64 (wd t.L : Int)) (.slice (some ⟨hc, 0, none⟩) (2 ^ t.L) (2 ^ t.L)) (.int .i64 (t.live : Int)) (.int .i64 (t.births : Int)) (.int .i64 (t.made : Int)) (some ⟨ge, 0, none⟩) E.length cape
  generalize (2 ^ t.L : Nat) = S0 at *
  go_wp2_with fail
  go_loopw [7] (fun iv wr => ∃ k : Nat, k ≤ n ∧ iv = .int .i64 (k : Int) ∧ Below w2.heap.size w2 wr) (fun iv _ => n - (intOf iv).toNat)
  case atStart => exact ⟨0, Nat.zero_le _, rfl, Below.refl _ _⟩
  case round =>
    obtain ⟨k, hk, rfl, hB0⟩ := hrel
    have hs2 := hB2.size
    have t1 : (k : Int) < (E.length : Int) := by omega
    have key1 : ∀ o, wr.cell? ⟨ge, o, none⟩ = w2.cell? ⟨ge, o, none⟩ := fun o => hB0.cell (p := ⟨ge, o, none⟩) lge
    have key2 : ∀ o, wr.cell? ⟨w.heap.size, o, none⟩ = w2.cell? ⟨w.heap.size, o, none⟩ := fun o => hB0.cell (p := ⟨w.heap.size, o, none⟩) (by show w.heap.size < _; omega)
    have x0 := (key1 _).trans (HRO.out.c0 k (by omega))
    have x1 := (key1 _).trans (HRO.out.c1 k (by omega))
    have x2 := (key1 _).trans (HRO.out.c2 k (by omega))
    have x3 := (key1 _).trans (HRO.out.c3 k (by omega))
    have x4 := (key1 _).trans (HRO.out.c4 k (by omega))
    have y0 : wr.cell? ⟨w.heap.size, 0, none⟩ = some (.bool x.live) := (key2 _).trans (HX2.out.c 0 (by omega))
    have y1 : wr.cell? ⟨w.heap.size, 1, none⟩ = some (.int .i64 x.hash) := (key2 _).trans (HX2.out.c 1 (by omega))
    have y2 : wr.cell? ⟨w.heap.size, 2, none⟩ = some (.int .i64 x.key) := (key2 _).trans (HX2.out.c 2 (by omega))
    have y3 : wr.cell? ⟨w.heap.size, 3, none⟩ = some (.int .i64 x.value) := (key2 _).trans (HX2.out.c 3 (by omega))
    have y4 : wr.cell? ⟨w.heap.size, 4, none⟩ = some (.int .i64 x.birth) := (key2 _).trans (HX2.out.c 4 (by omega))
    have heq := en_eq (nth E k) x
    unfold lnV at heq
    clear key1 key2
    by_cases hkn : k = n
    · have hE : enE (nth E k) x = true := (enE_iff _ _).2 (by rw [hkn]; exact HX.out)
      rw [hE] at heq
      have HKN := Lib.hid hkn
      clear hE hkn
      generalize (nth E k).live = b0 at *
      generalize (nth E k).hash = z1 at *
      generalize (nth E k).key = z2 at *
      generalize (nth E k).value = z3 at *
      generalize (nth E k).birth = z4 at *
      go_wp2_with fail
      go_region_held3 (fun V => ((V.cell? ⟨ge, k * 5, none⟩ = some (.bool b0) ∧ V.cell? ⟨ge, k * 5 + 1, none⟩ = some (.int .i64 z1)) ∧ (V.cell? ⟨ge, k * 5 + 2, none⟩ = some (.int .i64 z2) ∧ V.cell? ⟨ge, k * 5 + 3, none⟩ = some (.int .i64 z3) ∧ V.cell? ⟨ge, k * 5 + 4, none⟩ = some (.int .i64 z4))) ∧ ((V.cell? ⟨w.heap.size, 0, none⟩ = some (.bool x.live) ∧ V.cell? ⟨w.heap.size, 1, none⟩ = some (.int .i64 x.hash)) ∧ (V.cell? ⟨w.heap.size, 2, none⟩ = some (.int .i64 x.key) ∧ V.cell? ⟨w.heap.size, 3, none⟩ = some (.int .i64 x.value) ∧ V.cell? ⟨w.heap.size, 4, none⟩ = some (.int .i64 x.birth))))
        (first | exact ⟨⟨⟨x0, x1⟩, x2, x3, x4⟩, ⟨y0, y1⟩, y2, y3, y4⟩ | fail) (fail)
      go_wp2
      go_ret2
      exact ⟨by rw [HKN.out]; rfl, HBW.out.trans ((hB0.mono HBW.out.size).drew)⟩
    · have hE : enE (nth E k) x = false := by
        cases h : enE (nth E k) x with
        | false => rfl
        | true => exact absurd ((enE_iff _ _).1 h) (HMIN.out k (by omega))
      rw [hE] at heq
      clear hE
      generalize (nth E k).live = b0 at *
      generalize (nth E k).hash = z1 at *
      generalize (nth E k).key = z2 at *
      generalize (nth E k).value = z3 at *
      generalize (nth E k).birth = z4 at *
      go_wp2_with fail
      go_region_held3 (fun V => ((V.cell? ⟨ge, k * 5, none⟩ = some (.bool b0) ∧ V.cell? ⟨ge, k * 5 + 1, none⟩ = some (.int .i64 z1)) ∧ (V.cell? ⟨ge, k * 5 + 2, none⟩ = some (.int .i64 z2) ∧ V.cell? ⟨ge, k * 5 + 3, none⟩ = some (.int .i64 z3) ∧ V.cell? ⟨ge, k * 5 + 4, none⟩ = some (.int .i64 z4))) ∧ ((V.cell? ⟨w.heap.size, 0, none⟩ = some (.bool x.live) ∧ V.cell? ⟨w.heap.size, 1, none⟩ = some (.int .i64 x.hash)) ∧ (V.cell? ⟨w.heap.size, 2, none⟩ = some (.int .i64 x.key) ∧ V.cell? ⟨w.heap.size, 3, none⟩ = some (.int .i64 x.value) ∧ V.cell? ⟨w.heap.size, 4, none⟩ = some (.int .i64 x.birth))))
        (first | exact ⟨⟨⟨x0, x1⟩, x2, x3, x4⟩, ⟨y0, y1⟩, y2, y3, y4⟩ | fail) (fail)
      go_wp2_with fail
      go_roundw
      case rel => exact ⟨k + 1, by omega, by go_num, hB0.drew⟩
      case measure => simp [intOf]; omega
end Go.Proofs.Ythaijfjodfgbnaa
