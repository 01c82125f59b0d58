/-
  Two entries, compared.
  What the law's does stands on.
  The law's does: nothing.
-/
import Derived.Test.YtfhpkoakalihkaaGreatGg
import Derived.Test.YtfhpkoakalihkaaGreatPp8w
namespace Go.Proofs.YtfhpkoakalihkaaGreat
open Go.RowKit Go.WideShapes

/-- Two entries that are the same. -/
def eqE (x y : En) : Bool := x.live == y.live && (x.hash == y.hash && (x.key == y.key && (x.value == y.value && x.birth == y.birth)))
theorem eqE_iff (x y : En) : eqE x y = true ↔ x = y := by
  cases x; cases y
  simp [eqE]
theorem en_eqV (x y : En) (w : World) : (binOp .eql 109 (eV x) (eV y)).run Tryz.prog w = .ok (.bool (eqE x y)) w := by
  unfold eV eqE
  have hu : Tryz.prog.underlying 109 = some (.struct (Tryz.prog.fieldsOf 109)) := by kernel_rfl
  have hp : Tryz.prog.stoodInHeld 109 = false := by kernel_rfl
  rw [run_eql_struct, run_equalIn_agg w 9999 _ _ _ hu hp]
  have hF : (Tryz.prog.fieldsOf 109).toList = [⟨"Live", 4, 0, false, "", "", 0⟩, ⟨"Hash", 3, 1, false, "", "", 8⟩, ⟨"Key", 3, 2, false, "", "", 16⟩, ⟨"Value", 3, 3, false, "", "", 24⟩, ⟨"Birth", 3, 4, false, "", "", 32⟩] := by kernel_rfl
  rw [hF]
  by_cases h0 : x.live = y.live
  · by_cases h1 : x.hash = y.hash
    · by_cases h2 : x.key = y.key
      · by_cases h3 : x.value = y.value
        · by_cases h4 : x.birth = y.birth
          · simp [Op.eqFields, go_sem, h0, h1, h2, h3, h4]
          · simp [Op.eqFields, go_sem, h0, h1, h2, h3, h4]
        · simp [Op.eqFields, go_sem, h0, h1, h2, h3]
      · simp [Op.eqFields, go_sem, h0, h1, h2]
    · simp [Op.eqFields, go_sem, h0, h1]
  · simp [Op.eqFields, go_sem, h0]
theorem en_neV (x y : En) (w : World) : (binOp .neq 109 (eV x) (eV y)).run Tryz.prog w = .ok (.bool (!eqE x y)) w := by
  have h := en_eqV x y w
  unfold eV at h ⊢
  rw [run_eql_struct] at h
  rw [run_neq_struct]
  cases hr : (Op.equalIn 10000 109 (.agg #[.bool x.live, .int .i64 x.hash, .int .i64 x.key, .int .i64 x.value, .int .i64 x.birth]) (.agg #[.bool y.live, .int .i64 y.hash, .int .i64 y.key, .int .i64 y.value, .int .i64 y.birth])).run Tryz.prog w with
  | ok b w' =>
    rw [hr] at h
    simp [Result.andThen] at h ⊢
    obtain ⟨rfl, rfl⟩ := h
    exact ⟨rfl, rfl⟩
  | halt a w' => rw [hr] at h; simp [Result.andThen] at h
end Go.Proofs.YtfhpkoakalihkaaGreat
namespace Go.Proofs.YtfhpkoakalihkaaGreat
open Go.RowKit Go.WideShapes

theorem rem8 (x : Int) (n : Nat) (hn : 0 < n) (w : World) : (binOp .rem 3 (.int .i64 x) (.int .i64 (n : Int))).run Tryz.prog w = .ok (.int .i64 (Int.tmod x (n : Int))) w := by
  simp [binOp, go_sem]
  omega
def pix (x : Int) (n : Nat) : Nat := (if Int.tmod x (n : Int) < 0 then Int.tmod x (n : Int) + (n : Int) else Int.tmod x (n : Int)).toNat
theorem pix_lt (x : Int) {n : Nat} (hn : 0 < n) : pix x n < n ∧ (if Int.tmod x (n : Int) < 0 then Int.tmod x (n : Int) + (n : Int) else Int.tmod x (n : Int)) = (pix x n : Int) := by
  have h1 : Int.tmod x (n : Int) < (n : Int) := Int.tmod_lt_of_pos _ (by omega)
  have h2 : -(n : Int) < Int.tmod x (n : Int) := Int.lt_tmod_of_pos _ (by omega)
  unfold pix
  split <;> omega
theorem D8.up {w w0 w' : World} {X : Nat} {S S' : St8} {mv mr : Value} {M : Int → Int → World → Prop} {a' b' most : Int} {c c' : Nat} (h : D8 w0 X S mv mr M most c S' a' b' w') (hb : Below w.heap.size w w0) (hc : c ≤ c') : D8 w X S mv mr M most c' S' a' b' w' :=
  ⟨h.p.le hc, fun k hk => (h.fx k hk).elim .inl (fun y => .inr (Nat.le_trans hb.size y)), (ex_of hb).next h.ex (fun _ _ y => y)⟩
theorem D8s.fin {w w0 w' : World} {X : Nat} {S : St8} {mv mr : Value} {M : Int → Int → World → Prop} {most : Int} {c c' : Nat} (h : D8s w0 X S mv mr M most c w') (hb : Below w.heap.size w w0) (hc : c ≤ c') : ∃ S' a' b', D8 w X S mv mr M most c' S' a' b' w' := by
  obtain ⟨S', a', b', h, _⟩ := h
  exact ⟨S', a', b', h.up hb hc⟩
theorem D8.after {w w' w'' : World} {X : Nat} {S S' : St8} {mv mr : Value} {M : Int → Int → World → Prop} {a' b' most : Int} {c : Nat} (h : D8 w X S mv mr M most c S' a' b' w') (hMo : MtOk mv M) (hb : Below w'.heap.size w' w'') : D8 w X S mv mr M most c S' a' b' w'' :=
  ⟨h.p.below hMo hb, h.fx, h.ex.next (ex_of hb (X := fun _ => False)) (fun _ _ y => y.elim)⟩
/-- Nothing was turned. -/
theorem D8.none {w w' : World} {X : Nat} {S : St8} {mv mr : Value} {M : Int → Int → World → Prop} {a b most : Int} {c c' : Nat} (hP : P8 w X S mv mr M a b most c) (hMo : MtOk mv M) (hb : Below w.heap.size w w') (hc : c ≤ c') : ∃ S' a' b', D8 w X S mv mr M most c' S' a' b' w' := ⟨S, a, b, (hP.below hMo hb).le hc, fun _ hk => .inl hk, ex_of hb⟩
end Go.Proofs.YtfhpkoakalihkaaGreat
namespace Go.Proofs.YtfhpkoakalihkaaGreat
open Go.RowKit Go.WideShapes

set_option maxRecDepth 100000 in
set_option maxHeartbeats 8000000 in
theorem does8_none {w : World} {X : Nat} {S : St8} {pm pr : Option Addr} {M : Int → Int → World → Prop} {a b most : Int} {c : Nat} (hP : P8 w X S (.pointer pm) (.pointer pr) M a b most c) (hMo : MtOk (.pointer pm) M) (x1 x2 x3 x4 x5 x6 : Int) (sb : Bool) (x0 : Int) (hx0 : ¬ (1 ≤ x0 ∧ x0 ≤ 8)) :
    Calls Tryz.prog 12 #[.pointer (some ⟨X, 0, none⟩), .agg #[.int .i64 x0, .int .i64 x1, .int .i64 x2, .int .i64 x3, .int .i64 x4, .int .i64 x5, .int .i64 x6, .bool sb]] w fun e w' => e = .returned (.bool true) ∧ ∃ S' a' b', D8 w X S (.pointer pm) (.pointer pr) M most (c + 33) S' a' b' w' := by
  obtain ⟨w0, hw0⟩ : ∃ V, w.alloc (.cells #[.int .i64 x0, .int .i64 x1, .int .i64 x2, .int .i64 x3, .int .i64 x4, .int .i64 x5, .int .i64 x6, .bool sb] 63) = V := ⟨_, rfl⟩
  have hb0 : Below w.heap.size w w0 := by rw [← hw0]; exact (Below.refl _ w).alloc (Nat.le_refl _) _
  have hB0 : Blk w0 w.heap.size 8 (fun j => #[Value.int .i64 x0, .int .i64 x1, .int .i64 x2, .int .i64 x3, .int .i64 x4, .int .i64 x5, .int .i64 x6, .bool sb].getD j .nilFunc) := by rw [← hw0]; exact Blk.new w _ _
  have hP0 := hP.below hMo hb0
  have hlS := hB0.lt (by omega)
  have hnm := hP.nm
  obtain ⟨am, capm, em, hcapm⟩ := row_len hP0.rm
  have y2 : w0.cell? ⟨X, 2, none⟩ = some (.slice am S.nm capm) := by rw [← em]; exact hP0.hx.c 2 (by omega)
  have b0 : w0.cell? ⟨w.heap.size, 0, none⟩ = some (.int .i64 x0) := hB0.c 0 (by omega)
  have b5 : w0.cell? ⟨w.heap.size, 5, none⟩ = some (.int .i64 x5) := hB0.c 5 (by omega)
  have HL : Hid (∀ k, S.all X k ∨ mB (.pointer pm) k ∨ mB (.pointer pr) k → k < w.heap.size) := hP.lt
  have HP := Lib.hid hP
  have HP0 := Lib.hid hP0
  have HB0 := Lib.hid hB0
  have HBW := Lib.hid hb0
  have HMo := Lib.hid hMo
  have HW0 := Lib.hid hw0
  clear hP hP0 hB0 hb0 hMo hw0 em
  go_enter Tryz.func12, Tryz.ntmps12
  go_upto_region 2 with fail
  rw [HW0.out]
  rcases (by omega : S.nm = 0 ∨ 0 < S.nm) with hz | hz
  case inl =>
    have t0 : ¬ (0 : Int) < (S.nm : Int) := by omega
    go_upto_region 6 with fail
    have HBB : Hid (Below w.heap.size w w0) := HBW.out
    have HPB : Hid (P8 w0 X S (.pointer pm) (.pointer pr) M a b most c) := HP0.out
    have HCB : Hid (Blk w0 w.heap.size 8 _) := HB0.out
    have hsB : w.heap.size < w0.heap.size := hlS
    clear HP0 HB0 HBW hlS b0 b5 y2 HW0
    generalize w0 = wB at *
    have v8 : wB.cell? ⟨w.heap.size, 0, none⟩ = some (.int .i64 x0) := HCB.out.c 0 (by omega)
    have q1 : (x0 == 1) = false := by rw [beq_eq_false_iff_ne]; omega
    have q2 : (x0 == 2) = false := by rw [beq_eq_false_iff_ne]; omega
    have q3 : (x0 == 3) = false := by rw [beq_eq_false_iff_ne]; omega
    have q4 : (x0 == 4) = false := by rw [beq_eq_false_iff_ne]; omega
    have q5 : (x0 == 5) = false := by rw [beq_eq_false_iff_ne]; omega
    have q6 : (x0 == 6) = false := by rw [beq_eq_false_iff_ne]; omega
    have q7 : (x0 == 7) = false := by rw [beq_eq_false_iff_ne]; omega
    have q8 : (x0 == 8) = false := by rw [beq_eq_false_iff_ne]; omega
    clear hx0
    go_wp2_with fail
    go_ret
    exact ⟨rfl, D8.none HP.out HMo.out HBB.out (by omega)⟩
  case inr =>
    have t0 : (0 : Int) < (S.nm : Int) := by omega
    have hr := rem8 x5 S.nm hz
    have hn0 : ¬ (S.nm : Int) = 0 := by omega
    have hn1 : ¬ S.nm = 0 := by omega
    have hn2 : ((S.nm : Int) == 0) = false := by rw [beq_eq_false_iff_ne]; omega
    obtain ⟨hp1, hp2⟩ := pix_lt x5 hz
    generalize pix x5 S.nm = kk at *
    have d5 : w0.drew.cell? ⟨w.heap.size, 5, none⟩ = some (.int .i64 x5) := b5
    have d2 : w0.drew.cell? ⟨X, 2, none⟩ = some (.slice am S.nm capm) := y2
    go_upto_region 3 with fail
    go_region_held3 (fun V => V.cell? ⟨w.heap.size, 5, none⟩ = some (.int .i64 x5) ∧ V.cell? ⟨X, 2, none⟩ = some (.slice am S.nm capm)) (first | with_reducible exact ⟨d5, d2⟩ | fail) (fail)
    clear d5 d2 hr hn0 hn1 hn2
    by_cases hneg : Int.tmod x5 (S.nm : Int) < 0
    case' pos =>
      rw [if_pos hneg] at hp2
      have e5 : IntKind.i64.wrap (Int.tmod x5 (S.nm : Int) + (S.nm : Int)) = (kk : Int) := by rw [hp2]; exact i64_small (by omega) (by omega)
      go_upto_region 6 with fail
      clear e5
    case' neg =>
      rw [if_neg hneg] at hp2
      go_upto_region 6 with fail
      try rw [hp2]
    all_goals
      clear hp2 hneg
      have HBB : Hid (Below w.heap.size w w0.drew) := HBW.out.drew
      have HPB : Hid (P8 w0.drew X S (.pointer pm) (.pointer pr) M a b most c) := HP.out.below HMo.out HBB.out
      have HCB : Hid (Blk w0.drew w.heap.size 8 _) := HB0.out.same rfl
      have hsB : w.heap.size < w0.drew.heap.size := hlS
      clear HP0 HB0 HBW hlS b0 b5 y2 HW0
      generalize w0.drew = wB at *
      have v8 : wB.cell? ⟨w.heap.size, 0, none⟩ = some (.int .i64 x0) := HCB.out.c 0 (by omega)
      have q1 : (x0 == 1) = false := by rw [beq_eq_false_iff_ne]; omega
      have q2 : (x0 == 2) = false := by rw [beq_eq_false_iff_ne]; omega
      have q3 : (x0 == 3) = false := by rw [beq_eq_false_iff_ne]; omega
      have q4 : (x0 == 4) = false := by rw [beq_eq_false_iff_ne]; omega
      have q5 : (x0 == 5) = false := by rw [beq_eq_false_iff_ne]; omega
      have q6 : (x0 == 6) = false := by rw [beq_eq_false_iff_ne]; omega
      have q7 : (x0 == 7) = false := by rw [beq_eq_false_iff_ne]; omega
      have q8 : (x0 == 8) = false := by rw [beq_eq_false_iff_ne]; omega
      clear hx0
      go_wp2_with fail
      go_ret
      exact ⟨rfl, D8.none HP.out HMo.out HBB.out (by omega)⟩
end Go.Proofs.YtfhpkoakalihkaaGreat
