/-
  The law's does: Begin.
-/
import Derived.Test.YtfhpkoakalihkaaGreatGq
import Derived.Test.YtfhpkoakalihkaaGreatGr
namespace Go.Proofs.YtfhpkoakalihkaaGreat
open Go.RowKit Go.WideShapes

theorem neqM8 (d : Nat) (w : World) : (binOp .neq 86 (.pointer (some ⟨d, 0, none⟩)) (.pointer none)).run Tryz.prog w = .ok (.bool true) w := by kernel_rfl
theorem eqM8 (d : Nat) (w : World) : (binOp .eql 86 (.pointer (some ⟨d, 0, none⟩)) (.pointer none)).run Tryz.prog w = .ok (.bool false) w := by kernel_rfl
theorem eqN8 (d : Nat) (w : World) : (binOp .eql 104 (.pointer (some ⟨d, 0, none⟩)) (.pointer none)).run Tryz.prog w = .ok (.bool false) w := by kernel_rfl
theorem neqM80 (w : World) : (binOp .neq 86 (.pointer none) (.pointer none)).run Tryz.prog w = .ok (.bool false) w := by kernel_rfl
theorem eqM80 (w : World) : (binOp .eql 86 (.pointer none) (.pointer none)).run Tryz.prog w = .ok (.bool true) w := by kernel_rfl
theorem eqN80 (w : World) : (binOp .eql 104 (.pointer none) (.pointer none)).run Tryz.prog w = .ok (.bool true) w := by kernel_rfl
theorem Tryz.infoPm : (Tryz.prog.info? 86).map (fun i => (i.zero, i.size, i.bytes)) = some (some (.pointer none), 1, 8) := by kernel_rfl
theorem Tryz.infoPn : (Tryz.prog.info? 104).map (fun i => (i.zero, i.size, i.bytes)) = some (some (.pointer none), 1, 8) := by kernel_rfl
theorem info8 {t : TypeId} {z : Value} {s b : Nat} (h : (Tryz.prog.info? t).map (fun i => (i.zero, i.size, i.bytes)) = some (some z, s, b)) : ∃ i, Tryz.prog.info? t = some i ∧ i.zero = some z ∧ i.size = s ∧ i.bytes = b := by
  cases e : Tryz.prog.info? t with
  | none => rw [e] at h; cases h
  | some i =>
    rw [e] at h
    simp only [Option.map_some, Option.some.injEq, Prod.mk.injEq] at h
    exact ⟨i, rfl, h.1, h.2.1, h.2.2⟩
theorem push_row {W w3 : World} {X fi n B : Nat} {F : Nat → Value} {T : TypeId} {o : Obj} {v v' : Value} {xs : List Value} (hX : Blk W X 4 F) (hne : ∀ i, v.ownBlock = some i → i ≠ X) (h1 : w3.ownsRow B T 1 v' n xs) (h2 : (W.alloc o).grownBy w3 v.ownBlock) (h3 : v'.ownBlock = v.ownBlock ∨ v'.ownBlock = some (W.alloc o).heap.size) :
    Blk w3 X 4 F ∧ ∀ w4, w3.setCell ⟨X, fi, none⟩ v' = w4 → Blk w4 X 4 (fun x => if x = fi then v' else F x) ∧ w4.ownsRow B T 1 v' n xs ∧ Ex (fun i => i = X ∨ v.ownBlock = some i) W w4 ∧ ∀ i, v'.ownBlock = some i → v.ownBlock = some i ∨ (W.heap.size ≤ i ∧ i < w4.heap.size) := by
  have lX := hX.lt (by omega)
  have h0 : Ex (fun i => i = X ∨ v.ownBlock = some i) W (W.alloc o) := (Ex.refl _ W).alloc o
  have e1 : Ex (fun i => i = X ∨ v.ownBlock = some i) W w3 := ⟨h2.os.trans h0.os, h2.tape.trans h0.tape, h2.output.trans h0.output, Nat.le_trans h0.size h2.size, fun k hk hx => (h2.block k (Nat.lt_of_lt_of_le hk h0.size) (fun e => hx (.inr e.symm))).trans (h0.block k hk hx)⟩
  have bX : w3.heap[X]? = W.heap[X]? := (h2.block X (Nat.lt_of_lt_of_le lX h0.size) (fun e => hne X e.symm rfl)).trans (Below.heap_alloc _ _ _ lX)
  have hX3 : Blk w3 X 4 F := hX.same bX
  refine ⟨hX3, fun w4 hw4 => ?_⟩
  have hx4 : Ex (fun i => i = X) w3 w4 := by rw [← hw4]; exact (Ex.refl (fun i => i = X) w3).setCell (p := ⟨X, fi, none⟩) (fun _ => rfl) _
  have hp := hX3.put fi v'
  rw [hw4] at hp
  have g : ∀ i, v'.ownBlock = some i → (v.ownBlock = some i ∨ W.heap.size ≤ i) ∧ i < w3.heap.size := fun i hi => ⟨by
    rcases h3 with e | e
    · exact .inl (e ▸ hi)
    · rw [e] at hi
      injection hi with hi
      simp at hi
      exact .inr (by omega), (h1.lt i hi).2⟩
  have nX : ∀ i, v'.ownBlock = some i → i ≠ X := fun i hi => by
    rcases (g i hi).1 with y | y
    · exact hne i y
    · omega
  exact ⟨hp, owns_same h1 (fun k hk => hx4.block k (g k hk).2 (nX k hk)), e1.next hx4 (fun _ _ e => .inl e), fun i hi => ((g i hi).1).elim .inl (fun y => .inr ⟨y, Nat.lt_of_lt_of_le (g i hi).2 hx4.size⟩)⟩
theorem push8 {wB W : World} {X : Nat} {S : St8} {mv mr : Value} {M : Int → Int → World → Prop} {a b most : Int} {c : Nat} (hP : P8 wB X S mv mr M a b most c) (hMo : MtOk mv M) (hb : Below wB.heap.size wB W) (hnm : S.nm < 40) {vm0 vn0 : Value} (em : S.rm = vm0) (en : S.rn = vn0) {x y n1 goal : Nat} (hg : 1 ≤ goal ∧ goal ≤ 4) {u k v : Int} (hn : wB.heap.size ≤ x ∧ x < n1 ∧ n1 ≤ y ∧ y < W.heap.size)
    (hmc : Mc W x (.pointer none) S.cur.d ⟨goal, u, k, v, 0, 0, Tu.zero, 0, false⟩) (hrm : Rm W y (.pointer none) S.cur.d2 ⟨goal, u, k, v, 0, 0, Tu.zero, 0, false⟩ ⟨0, false, false, false, Tu.zero⟩) :
    W.ownsRow 0 86 1 vm0 S.nm (ptrs (fun j => (S.ms j).x) S.nm) ∧ ∀ (o : Obj) vm w3, w3.ownsRow 0 86 1 vm (S.nm + 1) (ptrs (fun j => (S.ms j).x) S.nm ++ [.pointer (some ⟨x, 0, none⟩)]) → (W.alloc o).grownBy w3 vm0.ownBlock → (vm.ownBlock = vm0.ownBlock ∨ vm.ownBlock = some (W.alloc o).heap.size) →
      ((w3.cell? ⟨X, 2, none⟩ = some vm0 ∧ w3.frozen? ⟨X, 2, none⟩ = false) ∧ w3.cell? ⟨X, 3, none⟩ = some vn0) ∧ ∀ w4, w3.setCell ⟨X, 2, none⟩ vm = w4 → w4.cell? ⟨X, 3, none⟩ = some vn0 ∧ w4.ownsRow 0 104 1 vn0 S.nm (ptrs (fun j => (S.ms j).y) S.nm) ∧ ∀ (o : Obj) vn w5, w5.ownsRow 0 104 1 vn (S.nm + 1) (ptrs (fun j => (S.ms j).y) S.nm ++ [.pointer (some ⟨y, 0, none⟩)]) → (w4.alloc o).grownBy w5 vn0.ownBlock → (vn.ownBlock = vn0.ownBlock ∨ vn.ownBlock = some (w4.alloc o).heap.size) →
        (w5.cell? ⟨X, 3, none⟩ = some vn0 ∧ w5.frozen? ⟨X, 3, none⟩ = false) ∧ ∀ w6, w5.setCell ⟨X, 3, none⟩ vn = w6 → ∃ S' a' b', D8 wB X S mv mr M most (c + 1) S' a' b' w6 := by
  subst em
  subst en
  obtain ⟨lab, sp⟩ := hP.sep
  have hPW := hP.below hMo hb
  have hsz := hb.size
  refine ⟨hPW.rm, fun o vm w3 h1 h2 h3 => ?_⟩
  obtain ⟨q1, q2⟩ := push_row hPW.hx (fi := 2) (fun i hi e => by have h1 := sp.rm i hi; have h2 := sp.x; rw [e] at h1; omega) h1 h2 h3
  refine ⟨⟨⟨q1.c 2 (by omega), q1.z 2⟩, q1.c 3 (by omega)⟩, fun w4 hw4 => ?_⟩
  obtain ⟨m1, r1, e1, b1⟩ := q2 w4 hw4
  have hs1 := e1.size
  refine ⟨m1.c 3 (by omega), owns_same hPW.rn fun i hi => ?_, fun o vn w5 h1 h2 h3 => ?_⟩
  · have g := sp.rn i hi
    exact e1.block i (by omega) (fun h => by
      rcases h with h | h
      · have := sp.x; rw [h] at g; omega
      · have := sp.rm i h; omega)
  obtain ⟨q3, q4⟩ := push_row m1 (fi := 3) (v := S.rn) (fun i hi e => by have h1 := sp.rn i hi; have h2 := sp.x; rw [e] at h1; omega) h1 h2 h3
  refine ⟨⟨q3.c 3 (by omega), q3.z 3⟩, fun w6 hw6 => ?_⟩
  obtain ⟨m2, r2, e2, b2⟩ := q4 w6 hw6
  have hs2 := e2.size
  have nw : ∀ i, wB.heap.size ≤ i → i < W.heap.size → w6.heap[i]? = W.heap[i]? := fun i h1 h2 => (e2.block i (by omega) (fun h => by
    rcases h with h | h
    · have := sp.x; omega
    · have := sp.rn i h; omega)).trans (e1.block i h2 (fun h => by
    rcases h with h | h
    · have := sp.x; omega
    · have := sp.rm i h; omega))
  refine push_fin hP hMo hnm (x := x) (y := y) (n1 := n1) (n2 := W.heap.size) (n3 := w4.heap.size) hg (u := u) (k := k) (v := v) (vm := vm) (vn := vn) (((ex_of hb).next e1 (fun _ _ h => h.elim .inl (fun y => .inr (.inl y)))).next e2 (fun _ _ h => h.elim .inl (fun y => .inr (.inr y)))) ⟨hn.1, hn.2.1, hn.2.2.1, hn.2.2.2, hs1, hs2⟩ (Blk.same hmc (nw x (by omega) (by omega))) (Blk.same hrm (nw y (by omega) (by omega))) (owns_same r1 fun i hi => ?_) r2 b1 b2 (m2.congr fun j hj => ?_)
  · refine e2.block i (r1.lt i hi).2 (fun h => ?_)
    rcases b1 i hi with z | z
    · have g := sp.rm i z
      rcases h with h | h
      · have := sp.x; rw [h] at g; omega
      · have := sp.rn i h; omega
    · rcases h with h | h
      · have := sp.x; omega
      · have := sp.rn i h; omega
  · rcases (by omega : j = 0 ∨ j = 1 ∨ j = 2 ∨ j = 3) with rfl | rfl | rfl | rfl
    · rfl
    · rfl
    · rfl
    · rfl
set_option maxRecDepth 100000 in
set_option maxHeartbeats 8000000 in
theorem does8_begin {w : World} {X : Nat} {S : St8} {pm pr : Option Addr} {M : Int → Int → World → Prop} {a b most : Int} {c : Nat} (hP : P8 w X S (.pointer pm) (.pointer pr) M a b most c) (hMo : MtOk (.pointer pm) M) (x1 x2 x3 x4 x5 x6 : Int) (sb : Bool) :
    Calls Tryz.prog 12 #[.pointer (some ⟨X, 0, none⟩), .agg #[.int .i64 1, .int .i64 x1, .int .i64 x2, .int .i64 x3, .int .i64 x4, .int .i64 x5, .int .i64 x6, .bool sb]] w fun e w' => e = .returned (.bool true) ∧ ∃ S' a' b', D8 w X S (.pointer pm) (.pointer pr) M most (c + 33) S' a' b' w' := by
  obtain ⟨w0, hw0⟩ : ∃ V, w.alloc (.cells #[.int .i64 1, .int .i64 x1, .int .i64 x2, .int .i64 x3, .int .i64 x4, .int .i64 x5, .int .i64 x6, .bool sb] 63) = V := ⟨_, rfl⟩
  have hb0 : Below w.heap.size w w0 := by rw [← hw0]; exact (Below.refl _ w).alloc (Nat.le_refl _) _
  have hB0 : Blk w0 w.heap.size 8 (fun j => #[Value.int .i64 1, .int .i64 x1, .int .i64 x2, .int .i64 x3, .int .i64 x4, .int .i64 x5, .int .i64 x6, .bool sb].getD j .nilFunc) := by rw [← hw0]; exact Blk.new w _ _
  have hP0 := hP.below hMo hb0
  have hlS := hB0.lt (by omega)
  have hnm := hP.nm
  obtain ⟨am, capm, em, hcapm⟩ := row_len hP0.rm
  have y2 : w0.cell? ⟨X, 2, none⟩ = some (.slice am S.nm capm) := by rw [← em]; exact hP0.hx.c 2 (by omega)
  have b0 : w0.cell? ⟨w.heap.size, 0, none⟩ = some (.int .i64 1) := hB0.c 0 (by omega)
  have b5 : w0.cell? ⟨w.heap.size, 5, none⟩ = some (.int .i64 x5) := hB0.c 5 (by omega)
  have HL : Hid (∀ k, S.all X k ∨ mB (.pointer pm) k ∨ mB (.pointer pr) k → k < w.heap.size) := hP.lt
  have HP := Lib.hid hP
  have HP0 := Lib.hid hP0
  have HB0 := Lib.hid hB0
  have HBW := Lib.hid hb0
  have HMo := Lib.hid hMo
  have HW0 := Lib.hid hw0
  clear hP hP0 hB0 hb0 hMo hw0 em
  go_enter Tryz.func12, Tryz.ntmps12
  go_upto_region 2 with fail
  rw [HW0.out]
  rcases (by omega : S.nm = 0 ∨ 0 < S.nm) with hz | hz
  case inl =>
    have t0 : ¬ (0 : Int) < (S.nm : Int) := by omega
    go_upto_region 6 with fail
    have HBB : Hid (Below w.heap.size w w0) := HBW.out
    have HPB : Hid (P8 w0 X S (.pointer pm) (.pointer pr) M a b most c) := HP0.out
    have HCB : Hid (Blk w0 w.heap.size 8 _) := HB0.out
    have hsB : w.heap.size < w0.heap.size := hlS
    clear HP0 HB0 HBW hlS b0 b5 y2 HW0
    generalize w0 = wB at *
    clear hz t0
    have v8 : wB.cell? ⟨w.heap.size, 0, none⟩ = some (.int .i64 1) := HCB.out.c 0 (by omega)
    obtain ⟨d, hd⟩ : ∃ y, S.cur.d = y := ⟨_, rfl⟩
    obtain ⟨d2, hd2⟩ : ∃ y, S.cur.d2 = y := ⟨_, rfl⟩
    have HX0 : Hid (Blk wB.drew X 4 (x8F S)) := HPB.out.hx.same rfl
    have HC0 : Hid (Blk wB.drew w.heap.size 8 _) := HCB.out.same rfl
    have lX : X < wB.drew.heap.size := HPB.out.lt X (.inl (.inl rfl))
    have hsw : w.heap.size ≤ wB.drew.heap.size := Nat.le_of_lt hsB
    by_cases hg : 1 ≤ x1 ∧ x1 ≤ 4
    case neg =>
      have HS1 : Hid (∀ V, Below wB.drew.heap.size wB.drew V → V.cell? ⟨X, 0, none⟩ = some (.pointer (some ⟨d, 0, none⟩)) ∧ V.cell? ⟨w.heap.size, 1, none⟩ = some (.int .i64 x1) ∧ V.cell? ⟨w.heap.size, 2, none⟩ = some (.int .i64 x2) ∧ V.cell? ⟨w.heap.size, 3, none⟩ = some (.int .i64 x3) ∧ V.cell? ⟨w.heap.size, 4, none⟩ = some (.int .i64 x4)) := fun V hb => by
        have h1 := HX0.out.of hb (by omega)
        have h2 := HC0.out.of hb (by omega)
        exact ⟨by rw [← hd]; exact h1.c 0 (by omega), h2.c 1 (by omega), h2.c 2 (by omega), h2.c 3 (by omega), h2.c 4 (by omega)⟩
      have HS2 : Hid (∀ V, Below wB.drew.heap.size wB.drew V → V.cell? ⟨X, 1, none⟩ = some (.pointer (some ⟨d2, 0, none⟩)) ∧ V.cell? ⟨w.heap.size, 1, none⟩ = some (.int .i64 x1) ∧ V.cell? ⟨w.heap.size, 2, none⟩ = some (.int .i64 x2) ∧ V.cell? ⟨w.heap.size, 3, none⟩ = some (.int .i64 x3) ∧ V.cell? ⟨w.heap.size, 4, none⟩ = some (.int .i64 x4)) := fun V hb => by
        have h1 := HX0.out.of hb (by omega)
        have h2 := HC0.out.of hb (by omega)
        exact ⟨by rw [← hd2]; exact h1.c 1 (by omega), h2.c 1 (by omega), h2.c 2 (by omega), h2.c 3 (by omega), h2.c 4 (by omega)⟩
      have s0 := HS1.out wB.drew (Below.refl _ _)
      have C1 := begin_bad d x1 x2 x3 x4 hg wB.drew
      have q1 := eqM80
      have q2 := eqN80
      have q3 := neqM80
      go_upto_region 8 with fail
      go_region_held3 (fun V => V.cell? ⟨X, 0, none⟩ = some (.pointer (some ⟨d, 0, none⟩)) ∧ V.cell? ⟨w.heap.size, 1, none⟩ = some (.int .i64 x1) ∧ V.cell? ⟨w.heap.size, 2, none⟩ = some (.int .i64 x2) ∧ V.cell? ⟨w.heap.size, 3, none⟩ = some (.int .i64 x3) ∧ V.cell? ⟨w.heap.size, 4, none⟩ = some (.int .i64 x4)) (first | with_reducible exact s0 | with_reducible exact s1 | fail)
        (first | (go_at_call 18; refine C1.mono ?_; rintro e w1 ⟨rfl, hb1⟩; have s1 := HS1.out w1 hb1; have s2 := HS2.out w1.drew hb1.drew; have HB1 := Lib.hid hb1; clear hb1) | fail)
      clear C1 s0 s1
      have C2 := rbegin_no d2 x1 (by omega) x2 x3 x4 w1.drew
      go_upto_region 9 with fail
      go_region_held3 (fun V => V.cell? ⟨X, 1, none⟩ = some (.pointer (some ⟨d2, 0, none⟩)) ∧ V.cell? ⟨w.heap.size, 1, none⟩ = some (.int .i64 x1) ∧ V.cell? ⟨w.heap.size, 2, none⟩ = some (.int .i64 x2) ∧ V.cell? ⟨w.heap.size, 3, none⟩ = some (.int .i64 x3) ∧ V.cell? ⟨w.heap.size, 4, none⟩ = some (.int .i64 x4)) (first | with_reducible exact s2 | fail)
        (first | (go_at_call 29; refine C2.mono ?_; rintro e w2 ⟨rfl, rfl⟩) | fail)
      clear C2 s2
      go_wp2_with fail
      go_ret
      exact ⟨rfl, D8.none HP.out HMo.out ((HBB.out.drew.trans (HB1.out.mono hsw)).drew) (by omega)⟩
    obtain ⟨g, hgx⟩ := Int.eq_ofNat_of_zero_le (by omega : 0 ≤ x1)
    subst hgx
    have HS1 : Hid (∀ V, Below wB.drew.heap.size wB.drew V → V.cell? ⟨X, 0, none⟩ = some (.pointer (some ⟨d, 0, none⟩)) ∧ V.cell? ⟨w.heap.size, 1, none⟩ = some (.int .i64 (g : Int)) ∧ V.cell? ⟨w.heap.size, 2, none⟩ = some (.int .i64 x2) ∧ V.cell? ⟨w.heap.size, 3, none⟩ = some (.int .i64 x3) ∧ V.cell? ⟨w.heap.size, 4, none⟩ = some (.int .i64 x4)) := fun V hb => by
      have h1 := HX0.out.of hb (by omega)
      have h2 := HC0.out.of hb (by omega)
      exact ⟨by rw [← hd]; exact h1.c 0 (by omega), h2.c 1 (by omega), h2.c 2 (by omega), h2.c 3 (by omega), h2.c 4 (by omega)⟩
    have HS2 : Hid (∀ V, Below wB.drew.heap.size wB.drew V → V.cell? ⟨X, 1, none⟩ = some (.pointer (some ⟨d2, 0, none⟩)) ∧ V.cell? ⟨w.heap.size, 1, none⟩ = some (.int .i64 (g : Int)) ∧ V.cell? ⟨w.heap.size, 2, none⟩ = some (.int .i64 x2) ∧ V.cell? ⟨w.heap.size, 3, none⟩ = some (.int .i64 x3) ∧ V.cell? ⟨w.heap.size, 4, none⟩ = some (.int .i64 x4)) := fun V hb => by
      have h1 := HX0.out.of hb (by omega)
      have h2 := HC0.out.of hb (by omega)
      exact ⟨by rw [← hd2]; exact h1.c 1 (by omega), h2.c 1 (by omega), h2.c 2 (by omega), h2.c 3 (by omega), h2.c 4 (by omega)⟩
    have s0 := HS1.out wB.drew (Below.refl _ _)
    have C1 := begin_yes d g (by omega) (by omega) x2 x3 x4 wB.drew
    go_upto_region 8 with fail
    go_region_held3 (fun V => V.cell? ⟨X, 0, none⟩ = some (.pointer (some ⟨d, 0, none⟩)) ∧ V.cell? ⟨w.heap.size, 1, none⟩ = some (.int .i64 (g : Int)) ∧ V.cell? ⟨w.heap.size, 2, none⟩ = some (.int .i64 x2) ∧ V.cell? ⟨w.heap.size, 3, none⟩ = some (.int .i64 x3) ∧ V.cell? ⟨w.heap.size, 4, none⟩ = some (.int .i64 x4)) (first | with_reducible exact s0 | with_reducible exact s1 | fail)
      (first | (go_at_call 18; refine C1.mono ?_; rintro e w1 ⟨x, rfl, hx, hmc, hb1⟩; have s1 := HS1.out w1 hb1; have s2 := HS2.out w1.drew hb1.drew; have HB1 := Lib.hid hb1; have HMC := Lib.hid hmc; clear hb1 hmc) | fail)
    clear C1 s0 s1
    have C2 := rbegin_yes d2 g (by omega) (by omega) x2 x3 x4 w1.drew
    go_upto_region 9 with fail
    go_region_held3 (fun V => V.cell? ⟨X, 1, none⟩ = some (.pointer (some ⟨d2, 0, none⟩)) ∧ V.cell? ⟨w.heap.size, 1, none⟩ = some (.int .i64 (g : Int)) ∧ V.cell? ⟨w.heap.size, 2, none⟩ = some (.int .i64 x2) ∧ V.cell? ⟨w.heap.size, 3, none⟩ = some (.int .i64 x3) ∧ V.cell? ⟨w.heap.size, 4, none⟩ = some (.int .i64 x4)) (first | with_reducible exact s2 | with_reducible exact s3 | fail)
      (first | (go_at_call 29; refine C2.mono ?_; rintro e w2 ⟨y, rfl, hy, hrm, hb2⟩; have s3 := HS2.out w2 (HB1.out.drew.trans (hb2.mono HB1.out.size)); have HB2 := Lib.hid hb2; have HRM := Lib.hid hrm; clear hb2 hrm) | fail)
    clear C2 s2 s3
    have q1 := eqM8 x
    have q2 := eqN8 y
    have q3 := neqM8 x
    have HBW2 : Hid (Below wB.heap.size wB w2) := (Below.refl _ wB).drew.trans (HB1.out.drew.trans (HB2.out.mono HB1.out.size))
    obtain ⟨am2, cap2, em2, _⟩ := row_len HPB.out.rm
    obtain ⟨an2, can2, en2, _⟩ := row_len HPB.out.rn
    have y2 : w2.cell? ⟨X, 2, none⟩ = some (.slice am2 S.nm cap2) := by rw [← em2]; exact (HPB.out.hx.of HBW2.out (by omega)).c 2 (by omega)
    have lx1 : x < w1.heap.size := HMC.out.lt (by omega)
    have ly1 : y < w2.heap.size := HRM.out.lt (by omega)
    have hxy : wB.heap.size ≤ x ∧ w1.heap.size ≤ y := ⟨hx, hy⟩
    by_cases h40 : (S.nm : Int) < 40
    case neg =>
      go_wp2_with fail
      go_ret
      exact ⟨rfl, D8.none HP.out HMo.out (HBB.out.trans (HBW2.out.mono (Nat.le_of_lt hsB))) (by omega)⟩
    obtain ⟨hr1, H1⟩ := push8 HPB.out HMo.out HBW2.out (by omega) em2 en2 (n1 := w1.heap.size) (goal := g) (by omega) ⟨hxy.1, lx1, hxy.2, ly1⟩ (by rw [hd]; exact Blk.of (w := w1.drew) (Blk.same HMC.out rfl) HB2.out (by omega)) (by rw [hd2]; exact HRM.out)
    have H1' := Lib.hid H1
    have HR1 := Lib.hid hr1
    obtain ⟨i0, hi0, hz0, hz1, hz2⟩ := info8 Tryz.infoPm
    clear H1 em2 en2 hx hy
    go_upto_region 14 with (at_builtin; refine wpList_append_own_at _ rfl _ _ 55 rfl 0 86 i0 (.pointer none) 1 8 Tryz.underlying55 hi0 hz0 hz1 hz2 rfl (by decide) _ _ _ rfl (World.ownsRow.alloc HR1.out _) ⟨w2.heap.size, 0, none⟩ 1 1 [.pointer (some ⟨x, 0, none⟩)] rfl rfl (newR_one _ _ _) (by simp [Value.oneCell']) (by unfold maxLen; omega) (by omega) (by simp) ?_; intro vm w3 hown3 hgrow _ hob; obtain ⟨⟨⟨k2, z2⟩, k30⟩, HN3⟩ := H1'.out _ vm w3 hown3 hgrow hob; have HN4 := Lib.hid HN3; obtain ⟨a3, cap3, hv3⟩ := ownsRow_shape hown3; subst hv3; clear hown3 hgrow hob HN3)
    obtain ⟨w4, hw4⟩ : ∃ V, w3.setCell ⟨X, 2, none⟩ (.slice a3 (S.nm + 1) cap3) = V := ⟨_, rfl⟩
    obtain ⟨k3, hr3, H5⟩ := HN4.out w4 hw4
    have H5' := Lib.hid H5
    have HR3 := Lib.hid hr3
    have HW4 := Lib.hid hw4
    clear hw4 HN4 H5 hr3 hi0 hz0 hz1 hz2
    obtain ⟨i1, hi0, hz0, hz1, hz2⟩ := info8 Tryz.infoPn
    rw [HW4.out]
    clear k2 z2 y2 k30
    go_wp2_with (at_builtin; refine wpList_append_own_at _ rfl _ _ 56 rfl 0 104 i1 (.pointer none) 1 8 Tryz.underlying56 hi0 hz0 hz1 hz2 rfl (by decide) _ _ _ rfl (World.ownsRow.alloc HR3.out _) ⟨w4.heap.size, 0, none⟩ 1 1 [.pointer (some ⟨y, 0, none⟩)] rfl rfl (newR_one _ _ _) (by simp [Value.oneCell']) (by unfold maxLen; omega) (by omega) (by simp) ?_; intro vn w5 hown5 hgrow _ hob; obtain ⟨⟨k5, z5⟩, HN5⟩ := H5'.out _ vn w5 hown5 hgrow hob; obtain ⟨S', a', b', hD⟩ := HN5 _ rfl; have HD := Lib.hid (hD.up HBB.out (by omega : c + 1 ≤ c + 33)); obtain ⟨a5, cap5, hv5⟩ := ownsRow_shape hown5; subst hv5; clear hown5 hgrow hob HN5 hD)
    go_wp2_with fail
    go_ret
    exact ⟨rfl, S', a', b', HD.out⟩
  case inr =>
    have t0 : (0 : Int) < (S.nm : Int) := by omega
    have hr := rem8 x5 S.nm hz
    have hn0 : ¬ (S.nm : Int) = 0 := by omega
    have hn1 : ¬ S.nm = 0 := by omega
    have hn2 : ((S.nm : Int) == 0) = false := by rw [beq_eq_false_iff_ne]; omega
    obtain ⟨hp1, hp2⟩ := pix_lt x5 hz
    generalize pix x5 S.nm = kk at *
    have d5 : w0.drew.cell? ⟨w.heap.size, 5, none⟩ = some (.int .i64 x5) := b5
    have d2 : w0.drew.cell? ⟨X, 2, none⟩ = some (.slice am S.nm capm) := y2
    go_upto_region 3 with fail
    go_region_held3 (fun V => V.cell? ⟨w.heap.size, 5, none⟩ = some (.int .i64 x5) ∧ V.cell? ⟨X, 2, none⟩ = some (.slice am S.nm capm)) (first | with_reducible exact ⟨d5, d2⟩ | fail) (fail)
    clear d5 d2 hr hn0 hn1 hn2
    by_cases hneg : Int.tmod x5 (S.nm : Int) < 0
    case' pos =>
      rw [if_pos hneg] at hp2
      have e5 : IntKind.i64.wrap (Int.tmod x5 (S.nm : Int) + (S.nm : Int)) = (kk : Int) := by rw [hp2]; exact i64_small (by omega) (by omega)
      go_upto_region 6 with fail
      clear e5
    case' neg =>
      rw [if_neg hneg] at hp2
      go_upto_region 6 with fail
      try rw [hp2]
    all_goals
      clear hp2 hneg
      have HBB : Hid (Below w.heap.size w w0.drew) := HBW.out.drew
      have HPB : Hid (P8 w0.drew X S (.pointer pm) (.pointer pr) M a b most c) := HP.out.below HMo.out HBB.out
      have HCB : Hid (Blk w0.drew w.heap.size 8 _) := HB0.out.same rfl
      have hsB : w.heap.size < w0.drew.heap.size := hlS
      clear HP0 HB0 HBW hlS b0 b5 y2 HW0
      generalize w0.drew = wB at *
      have v8 : wB.cell? ⟨w.heap.size, 0, none⟩ = some (.int .i64 1) := HCB.out.c 0 (by omega)
      obtain ⟨d, hd⟩ : ∃ y, S.cur.d = y := ⟨_, rfl⟩
      obtain ⟨d2, hd2⟩ : ∃ y, S.cur.d2 = y := ⟨_, rfl⟩
      have HX0 : Hid (Blk wB.drew X 4 (x8F S)) := HPB.out.hx.same rfl
      have HC0 : Hid (Blk wB.drew w.heap.size 8 _) := HCB.out.same rfl
      have lX : X < wB.drew.heap.size := HPB.out.lt X (.inl (.inl rfl))
      have hsw : w.heap.size ≤ wB.drew.heap.size := Nat.le_of_lt hsB
      by_cases hg : 1 ≤ x1 ∧ x1 ≤ 4
      case neg =>
        have HS1 : Hid (∀ V, Below wB.drew.heap.size wB.drew V → V.cell? ⟨X, 0, none⟩ = some (.pointer (some ⟨d, 0, none⟩)) ∧ V.cell? ⟨w.heap.size, 1, none⟩ = some (.int .i64 x1) ∧ V.cell? ⟨w.heap.size, 2, none⟩ = some (.int .i64 x2) ∧ V.cell? ⟨w.heap.size, 3, none⟩ = some (.int .i64 x3) ∧ V.cell? ⟨w.heap.size, 4, none⟩ = some (.int .i64 x4)) := fun V hb => by
          have h1 := HX0.out.of hb (by omega)
          have h2 := HC0.out.of hb (by omega)
          exact ⟨by rw [← hd]; exact h1.c 0 (by omega), h2.c 1 (by omega), h2.c 2 (by omega), h2.c 3 (by omega), h2.c 4 (by omega)⟩
        have HS2 : Hid (∀ V, Below wB.drew.heap.size wB.drew V → V.cell? ⟨X, 1, none⟩ = some (.pointer (some ⟨d2, 0, none⟩)) ∧ V.cell? ⟨w.heap.size, 1, none⟩ = some (.int .i64 x1) ∧ V.cell? ⟨w.heap.size, 2, none⟩ = some (.int .i64 x2) ∧ V.cell? ⟨w.heap.size, 3, none⟩ = some (.int .i64 x3) ∧ V.cell? ⟨w.heap.size, 4, none⟩ = some (.int .i64 x4)) := fun V hb => by
          have h1 := HX0.out.of hb (by omega)
          have h2 := HC0.out.of hb (by omega)
          exact ⟨by rw [← hd2]; exact h1.c 1 (by omega), h2.c 1 (by omega), h2.c 2 (by omega), h2.c 3 (by omega), h2.c 4 (by omega)⟩
        have s0 := HS1.out wB.drew (Below.refl _ _)
        have C1 := begin_bad d x1 x2 x3 x4 hg wB.drew
        have q1 := eqM80
        have q2 := eqN80
        have q3 := neqM80
        go_upto_region 8 with fail
        go_region_held3 (fun V => V.cell? ⟨X, 0, none⟩ = some (.pointer (some ⟨d, 0, none⟩)) ∧ V.cell? ⟨w.heap.size, 1, none⟩ = some (.int .i64 x1) ∧ V.cell? ⟨w.heap.size, 2, none⟩ = some (.int .i64 x2) ∧ V.cell? ⟨w.heap.size, 3, none⟩ = some (.int .i64 x3) ∧ V.cell? ⟨w.heap.size, 4, none⟩ = some (.int .i64 x4)) (first | with_reducible exact s0 | with_reducible exact s1 | fail)
          (first | (go_at_call 18; refine C1.mono ?_; rintro e w1 ⟨rfl, hb1⟩; have s1 := HS1.out w1 hb1; have s2 := HS2.out w1.drew hb1.drew; have HB1 := Lib.hid hb1; clear hb1) | fail)
        clear C1 s0 s1
        have C2 := rbegin_no d2 x1 (by omega) x2 x3 x4 w1.drew
        go_upto_region 9 with fail
        go_region_held3 (fun V => V.cell? ⟨X, 1, none⟩ = some (.pointer (some ⟨d2, 0, none⟩)) ∧ V.cell? ⟨w.heap.size, 1, none⟩ = some (.int .i64 x1) ∧ V.cell? ⟨w.heap.size, 2, none⟩ = some (.int .i64 x2) ∧ V.cell? ⟨w.heap.size, 3, none⟩ = some (.int .i64 x3) ∧ V.cell? ⟨w.heap.size, 4, none⟩ = some (.int .i64 x4)) (first | with_reducible exact s2 | fail)
          (first | (go_at_call 29; refine C2.mono ?_; rintro e w2 ⟨rfl, rfl⟩) | fail)
        clear C2 s2
        go_wp2_with fail
        go_ret
        exact ⟨rfl, D8.none HP.out HMo.out ((HBB.out.drew.trans (HB1.out.mono hsw)).drew) (by omega)⟩
      obtain ⟨g, hgx⟩ := Int.eq_ofNat_of_zero_le (by omega : 0 ≤ x1)
      subst hgx
      have HS1 : Hid (∀ V, Below wB.drew.heap.size wB.drew V → V.cell? ⟨X, 0, none⟩ = some (.pointer (some ⟨d, 0, none⟩)) ∧ V.cell? ⟨w.heap.size, 1, none⟩ = some (.int .i64 (g : Int)) ∧ V.cell? ⟨w.heap.size, 2, none⟩ = some (.int .i64 x2) ∧ V.cell? ⟨w.heap.size, 3, none⟩ = some (.int .i64 x3) ∧ V.cell? ⟨w.heap.size, 4, none⟩ = some (.int .i64 x4)) := fun V hb => by
        have h1 := HX0.out.of hb (by omega)
        have h2 := HC0.out.of hb (by omega)
        exact ⟨by rw [← hd]; exact h1.c 0 (by omega), h2.c 1 (by omega), h2.c 2 (by omega), h2.c 3 (by omega), h2.c 4 (by omega)⟩
      have HS2 : Hid (∀ V, Below wB.drew.heap.size wB.drew V → V.cell? ⟨X, 1, none⟩ = some (.pointer (some ⟨d2, 0, none⟩)) ∧ V.cell? ⟨w.heap.size, 1, none⟩ = some (.int .i64 (g : Int)) ∧ V.cell? ⟨w.heap.size, 2, none⟩ = some (.int .i64 x2) ∧ V.cell? ⟨w.heap.size, 3, none⟩ = some (.int .i64 x3) ∧ V.cell? ⟨w.heap.size, 4, none⟩ = some (.int .i64 x4)) := fun V hb => by
        have h1 := HX0.out.of hb (by omega)
        have h2 := HC0.out.of hb (by omega)
        exact ⟨by rw [← hd2]; exact h1.c 1 (by omega), h2.c 1 (by omega), h2.c 2 (by omega), h2.c 3 (by omega), h2.c 4 (by omega)⟩
      have s0 := HS1.out wB.drew (Below.refl _ _)
      have C1 := begin_yes d g (by omega) (by omega) x2 x3 x4 wB.drew
      go_upto_region 8 with fail
      go_region_held3 (fun V => V.cell? ⟨X, 0, none⟩ = some (.pointer (some ⟨d, 0, none⟩)) ∧ V.cell? ⟨w.heap.size, 1, none⟩ = some (.int .i64 (g : Int)) ∧ V.cell? ⟨w.heap.size, 2, none⟩ = some (.int .i64 x2) ∧ V.cell? ⟨w.heap.size, 3, none⟩ = some (.int .i64 x3) ∧ V.cell? ⟨w.heap.size, 4, none⟩ = some (.int .i64 x4)) (first | with_reducible exact s0 | with_reducible exact s1 | fail)
        (first | (go_at_call 18; refine C1.mono ?_; rintro e w1 ⟨x, rfl, hx, hmc, hb1⟩; have s1 := HS1.out w1 hb1; have s2 := HS2.out w1.drew hb1.drew; have HB1 := Lib.hid hb1; have HMC := Lib.hid hmc; clear hb1 hmc) | fail)
      clear C1 s0 s1
      have C2 := rbegin_yes d2 g (by omega) (by omega) x2 x3 x4 w1.drew
      go_upto_region 9 with fail
      go_region_held3 (fun V => V.cell? ⟨X, 1, none⟩ = some (.pointer (some ⟨d2, 0, none⟩)) ∧ V.cell? ⟨w.heap.size, 1, none⟩ = some (.int .i64 (g : Int)) ∧ V.cell? ⟨w.heap.size, 2, none⟩ = some (.int .i64 x2) ∧ V.cell? ⟨w.heap.size, 3, none⟩ = some (.int .i64 x3) ∧ V.cell? ⟨w.heap.size, 4, none⟩ = some (.int .i64 x4)) (first | with_reducible exact s2 | with_reducible exact s3 | fail)
        (first | (go_at_call 29; refine C2.mono ?_; rintro e w2 ⟨y, rfl, hy, hrm, hb2⟩; have s3 := HS2.out w2 (HB1.out.drew.trans (hb2.mono HB1.out.size)); have HB2 := Lib.hid hb2; have HRM := Lib.hid hrm; clear hb2 hrm) | fail)
      clear C2 s2 s3
      have q1 := eqM8 x
      have q2 := eqN8 y
      have q3 := neqM8 x
      have HBW2 : Hid (Below wB.heap.size wB w2) := (Below.refl _ wB).drew.trans (HB1.out.drew.trans (HB2.out.mono HB1.out.size))
      obtain ⟨am2, cap2, em2, _⟩ := row_len HPB.out.rm
      obtain ⟨an2, can2, en2, _⟩ := row_len HPB.out.rn
      have y2 : w2.cell? ⟨X, 2, none⟩ = some (.slice am2 S.nm cap2) := by rw [← em2]; exact (HPB.out.hx.of HBW2.out (by omega)).c 2 (by omega)
      have lx1 : x < w1.heap.size := HMC.out.lt (by omega)
      have ly1 : y < w2.heap.size := HRM.out.lt (by omega)
      have hxy : wB.heap.size ≤ x ∧ w1.heap.size ≤ y := ⟨hx, hy⟩
      by_cases h40 : (S.nm : Int) < 40
      case neg =>
        go_wp2_with fail
        go_ret
        exact ⟨rfl, D8.none HP.out HMo.out (HBB.out.trans (HBW2.out.mono (Nat.le_of_lt hsB))) (by omega)⟩
      obtain ⟨hr1, H1⟩ := push8 HPB.out HMo.out HBW2.out (by omega) em2 en2 (n1 := w1.heap.size) (goal := g) (by omega) ⟨hxy.1, lx1, hxy.2, ly1⟩ (by rw [hd]; exact Blk.of (w := w1.drew) (Blk.same HMC.out rfl) HB2.out (by omega)) (by rw [hd2]; exact HRM.out)
      have H1' := Lib.hid H1
      have HR1 := Lib.hid hr1
      obtain ⟨i0, hi0, hz0, hz1, hz2⟩ := info8 Tryz.infoPm
      clear H1 em2 en2 hx hy
      go_upto_region 14 with (at_builtin; refine wpList_append_own_at _ rfl _ _ 55 rfl 0 86 i0 (.pointer none) 1 8 Tryz.underlying55 hi0 hz0 hz1 hz2 rfl (by decide) _ _ _ rfl (World.ownsRow.alloc HR1.out _) ⟨w2.heap.size, 0, none⟩ 1 1 [.pointer (some ⟨x, 0, none⟩)] rfl rfl (newR_one _ _ _) (by simp [Value.oneCell']) (by unfold maxLen; omega) (by omega) (by simp) ?_; intro vm w3 hown3 hgrow _ hob; obtain ⟨⟨⟨k2, z2⟩, k30⟩, HN3⟩ := H1'.out _ vm w3 hown3 hgrow hob; have HN4 := Lib.hid HN3; obtain ⟨a3, cap3, hv3⟩ := ownsRow_shape hown3; subst hv3; clear hown3 hgrow hob HN3)
      obtain ⟨w4, hw4⟩ : ∃ V, w3.setCell ⟨X, 2, none⟩ (.slice a3 (S.nm + 1) cap3) = V := ⟨_, rfl⟩
      obtain ⟨k3, hr3, H5⟩ := HN4.out w4 hw4
      have H5' := Lib.hid H5
      have HR3 := Lib.hid hr3
      have HW4 := Lib.hid hw4
      clear hw4 HN4 H5 hr3 hi0 hz0 hz1 hz2
      obtain ⟨i1, hi0, hz0, hz1, hz2⟩ := info8 Tryz.infoPn
      rw [HW4.out]
      clear k2 z2 y2 k30
      go_wp2_with (at_builtin; refine wpList_append_own_at _ rfl _ _ 56 rfl 0 104 i1 (.pointer none) 1 8 Tryz.underlying56 hi0 hz0 hz1 hz2 rfl (by decide) _ _ _ rfl (World.ownsRow.alloc HR3.out _) ⟨w4.heap.size, 0, none⟩ 1 1 [.pointer (some ⟨y, 0, none⟩)] rfl rfl (newR_one _ _ _) (by simp [Value.oneCell']) (by unfold maxLen; omega) (by omega) (by simp) ?_; intro vn w5 hown5 hgrow _ hob; obtain ⟨⟨k5, z5⟩, HN5⟩ := H5'.out _ vn w5 hown5 hgrow hob; obtain ⟨S', a', b', hD⟩ := HN5 _ rfl; have HD := Lib.hid (hD.up HBB.out (by omega : c + 1 ≤ c + 33)); obtain ⟨a5, cap5, hv5⟩ := ownsRow_shape hown5; subst hv5; clear hown5 hgrow hob HN5 hD)
      go_wp2_with fail
      go_ret
      exact ⟨rfl, S', a', b', HD.out⟩
end Go.Proofs.YtfhpkoakalihkaaGreat
