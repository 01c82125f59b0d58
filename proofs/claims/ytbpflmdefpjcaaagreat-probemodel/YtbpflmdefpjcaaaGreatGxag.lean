/-
  The model's find, where nobody is asked.
  The model's call, behind its find.
  The model's act.
  The dictionary that is asked for the same, in memory.
  What a scan comes to next; what an ask does.
  A step of a machine, beside the model's scan.
  The program's call: where it stands between its machine's steps.
-/
import Derived.Test.YtbpflmdefpjcaaaGreatGxaf
namespace Go.Proofs.YtbpflmdefpjcaaaGreat
open Go.RowKit Go.WideShapes

theorem findQ_at {same : Int} {c : Cq} : ∀ {L : List Pq} {i : Nat}, i < L.length → hitQ same c (L.getD i default) = true → (∀ j, j < i → hitQ same c (L.getD j default) = false) → findQ same c L = i := by
  intro L
  induction L with
  | nil => intro i h; simp at h
  | cons p r ih =>
    intro i hi h hn
    unfold findQ
    rw [List.findIdx_cons]
    match i with
    | 0 =>
      have : hitQ same c p = true := h
      rw [this]
      rfl
    | i + 1 =>
      have h0 : hitQ same c p = false := hn 0 (by omega)
      rw [h0]
      have := ih (i := i) (by simpa using hi) h (fun j hj => hn (j + 1) (by omega))
      unfold findQ at this
      rw [this]
      rfl
theorem findQ_no {same : Int} {c : Cq} : ∀ {L : List Pq}, (∀ j, j < L.length → hitQ same c (L.getD j default) = false) → findQ same c L = L.length := by
  intro L
  induction L with
  | nil => intro _; rfl
  | cons p r ih =>
    intro hn
    unfold findQ
    rw [List.findIdx_cons]
    have h0 : hitQ same c p = false := hn 0 (by simp)
    rw [h0]
    have := ih (fun j hj => hn (j + 1) (by simpa using hj))
    unfold findQ at this
    rw [this]
    rfl
def clF (c : Cq) : Nat → Value
  | 0 => .int .i64 (c.goal : Int)
  | 1 => .int .i64 c.hash
  | 2 => .int .i64 c.key
  | _ => .int .i64 c.value
theorem cl_new (w : World) (c : Cq) : Blk (w.alloc (.cells #[.int .i64 (c.goal : Int), .int .i64 c.hash, .int .i64 c.key, .int .i64 c.value] 38)) w.heap.size 4 (clF c) := by
  refine (Blk.new w _ _).congr fun i hi => ?_
  have : i = 0 ∨ i = 1 ∨ i = 2 ∨ i = 3 := by simp at hi; omega
  rcases this with rfl | rfl | rfl | rfl <;> rfl
def atQ (L : List Pq) (a : Nat) : Int := if a < L.length then (a : Int) else -1
set_option maxRecDepth 100000 in
set_option maxHeartbeats 8000000 in
theorem mfindI_any {w : World} {m : Nat} {lv av tv : Value} {L : List Pq} {most v : Nat} {q : List Int} {same : Int} (h : Mq w m lv av tv L most v q same true) (hl : L.length ≤ 100000) (c : Cq) :
    Calls Tryz.prog 13 #[.pointer (some ⟨m, 0, none⟩), .agg #[.int .i64 (c.goal : Int), .int .i64 c.hash, .int .i64 c.key, .int .i64 c.value]] w fun e w' => e = .returned (.tuple #[.int .i64 (atQ L (findQ same c L)), .bool true]) ∧ Below w.heap.size w w' := by
  obtain ⟨a, cap, hlv, hcap, _⟩ := h.row.open
  subst hlv
  obtain ⟨w0, hw0⟩ : ∃ V, w.alloc (.cells #[.int .i64 (c.goal : Int), .int .i64 c.hash, .int .i64 c.key, .int .i64 c.value] 38) = V := ⟨_, rfl⟩
  have hb0 : Below w.heap.size w w0 := by rw [← hw0]; exact (Below.refl _ w).alloc (Nat.le_refl _) _
  have hB0 : Blk w0 w.heap.size 4 (clF c) := by rw [← hw0]; exact cl_new w c
  have HM : Hid (∀ V, Below w0.heap.size w0 V → Mq V m (.slice a L.length cap) av tv L most v q same true) := fun V hb => (h.below hb0).below hb
  have HC : Hid (∀ V, Below w0.heap.size w0 V → Blk V w.heap.size 4 (clF c)) := fun V hb => hB0.of hb (by omega)
  have HBW := Lib.hid hb0
  have HW0 := Lib.hid hw0
  have x2 : w0.cell? ⟨m, 2, none⟩ = some (.int .i64 (v : Int)) := (h.below hb0).hd.c 2 (by omega)
  obtain ⟨n, hn⟩ : ∃ n, L.length = n := ⟨_, rfl⟩
  have HN := Lib.hid hn
  rw [hn] at HM hcap hl
  obtain ⟨at0, hat⟩ : ∃ x, atQ L (findQ same c L) = x := ⟨_, rfl⟩
  rw [hat]
  have HAT := Lib.hid hat
  clear h hb0 hB0 hw0 hn hat
  go_enter Tryz.func13, Tryz.ntmps13
  go_upto_region 1 with fail
  rw [HW0.out]
  go_wp2_with fail
  go_loopw [6] (fun iv wr => iv = .int .i64 0 ∧ wr = w0) (fun iv _ => 0)
  case atStart => exact ⟨rfl, rfl⟩
  case round =>
    obtain ⟨rfl, rfl⟩ := hrel
    go_wp2_with fail
    clear x2
    generalize wr = wA at *
    have FIN : Hid (∀ j : Nat, j < n → hitQ same c (L.getD j default) = true → (∀ j', j' < j → hitQ same c (L.getD j' default) = false) → at0 = (j : Int)) := fun j h1 h2 h3 => by
      rw [← HAT.out, findQ_at (by rw [HN.out]; exact h1) h2 h3]
      unfold atQ
      rw [if_pos (by rw [HN.out]; exact h1)]
    go_loopw [8, 9, 10] (fun atv an iv V => ∃ k : Nat, k ≤ n ∧ iv = .int .i64 (k : Int) ∧ an = .bool false ∧ Below wA.heap.size wA V ∧ ((atv = .int .i64 (-1) ∧ ∀ j, j < k → hitQ same c (L.getD j default) = false) ∨ ∃ j : Nat, j < n ∧ atv = .int .i64 (j : Int) ∧ hitQ same c (L.getD j default) = true ∧ ∀ j', j' < j → hitQ same c (L.getD j' default) = false)) (fun atv an iv _ => n - (intOf iv).toNat)
    case atStart => exact ⟨0, Nat.zero_le _, rfl, rfl, Below.refl _ _, .inl ⟨rfl, fun j hj => absurd hj (Nat.not_lt_zero _)⟩⟩
    case round =>
      obtain ⟨k, hk, rfl, rfl, hB, hat⟩ := hrel
      have hM := HM.out wr hB
      have x0 : wr.cell? ⟨m, 0, none⟩ = some (.slice a n cap) := hM.hd.c 0 (by omega)
      rcases hat with ⟨rfl, hnone⟩ | ⟨j, hj, rfl, hyes, hno⟩
      · by_cases hlt : k < n
        · have t1 : (k : Int) < (n : Int) := by omega
          have e5 : IntKind.i64.wrap ((k : Int) + 1) = ((k + 1 : Nat) : Int) := by rw [i64_small (by omega) (by omega)]; omega
          obtain ⟨a', cap', hsl, _, g, ha, hcl⟩ := hM.row.open
          have ha' := ha (by rw [HN.out]; omega)
          injection hsl with e1 _ _
          rw [ha'] at e1
          subst e1
          obtain ⟨y0, y1, _⟩ := hcl k (by rw [HN.out]; exact hlt)
          have hC := HC.out wr hB
          have q1 : wr.cell? ⟨w.heap.size, 1, none⟩ = some (.int .i64 c.hash) := hC.c 1 (by omega)
          have q2 : wr.cell? ⟨w.heap.size, 2, none⟩ = some (.int .i64 c.key) := hC.c 2 (by omega)
          have s0 : (wr.drew.cell? ⟨m, 0, none⟩ = some (.slice (some ⟨g, 0, none⟩) n cap) ∧ wr.drew.cell? ⟨g, k * 3, none⟩ = some (.int .i64 (L.getD k default).hash) ∧ wr.drew.cell? ⟨g, k * 3 + 1, none⟩ = some (.int .i64 (L.getD k default).key)) ∧ wr.drew.cell? ⟨w.heap.size, 1, none⟩ = some (.int .i64 c.hash) ∧ wr.drew.cell? ⟨w.heap.size, 2, none⟩ = some (.int .i64 c.key) := ⟨⟨x0, y0, y1⟩, q1, q2⟩
          have s1 : (wr.drew.drew.cell? ⟨m, 0, none⟩ = some (.slice (some ⟨g, 0, none⟩) n cap) ∧ wr.drew.drew.cell? ⟨g, k * 3, none⟩ = some (.int .i64 (L.getD k default).hash) ∧ wr.drew.drew.cell? ⟨g, k * 3 + 1, none⟩ = some (.int .i64 (L.getD k default).key)) ∧ wr.drew.drew.cell? ⟨w.heap.size, 1, none⟩ = some (.int .i64 c.hash) ∧ wr.drew.drew.cell? ⟨w.heap.size, 2, none⟩ = some (.int .i64 c.key) := s0
          have x2 : wr.drew.drew.cell? ⟨m, 2, none⟩ = some (.int .i64 (v : Int)) := hM.hd.c 2 (by omega)
          have x5 : wr.drew.drew.cell? ⟨m, 5, none⟩ = some (.int .i64 same) := hM.hd.c 5 (by omega)
          have x6 : wr.drew.drew.cell? ⟨m, 6, none⟩ = some (.bool true) := hM.hd.c 6 (by omega)
          have HIT : Hid (hitQ same c (L.getD k default) = ((L.getD k default).hash == c.hash && oneQ same (L.getD k default).key c.key)) := rfl
          have HB := Lib.hid hB
          have HNO := Lib.hid hnone
          clear hM hC y0 y1 q1 q2 hcl ha ha' hB hnone
          generalize (L.getD k default).hash = lh at *
          generalize (L.getD k default).key = lk at *
          go_upto_region 10 with fail
          go_region_held3 (fun V => (V.cell? ⟨m, 0, none⟩ = some (.slice (some ⟨g, 0, none⟩) n cap) ∧ V.cell? ⟨g, k * 3, none⟩ = some (.int .i64 lh) ∧ V.cell? ⟨g, k * 3 + 1, none⟩ = some (.int .i64 lk)) ∧ V.cell? ⟨w.heap.size, 1, none⟩ = some (.int .i64 c.hash) ∧ V.cell? ⟨w.heap.size, 2, none⟩ = some (.int .i64 c.key)) (first | with_reducible exact s0 | fail) (fail)
          by_cases hh : lh = c.hash
          · have hne : (lh != c.hash) = false := by simp [hh]
            go_upto_region 11 with fail
            go_region_held3 (fun V => (V.cell? ⟨m, 0, none⟩ = some (.slice (some ⟨g, 0, none⟩) n cap) ∧ V.cell? ⟨g, k * 3, none⟩ = some (.int .i64 lh) ∧ V.cell? ⟨g, k * 3 + 1, none⟩ = some (.int .i64 lk)) ∧ V.cell? ⟨w.heap.size, 1, none⟩ = some (.int .i64 c.hash) ∧ V.cell? ⟨w.heap.size, 2, none⟩ = some (.int .i64 c.key)) (first | with_reducible exact s1 | fail) (fail)
            by_cases hkk : lk = c.key
            · have heq : (lk == c.key) = true := by simp [hkk]
              have hhit : hitQ same c (L.getD k default) = true := by rw [HIT.out, hh, hkk, oneQ_refl]; simp
              have hat0 := FIN.out k hlt hhit HNO.out
              subst hat0
              go_wp2_with fail
              go_ret2
              exact ⟨rfl, HBW.out.trans ((HB.out.drew.drew).mono HBW.out.size)⟩
            · have heq : (lk == c.key) = false := by rw [beq_eq_false_iff_ne]; exact hkk
              obtain ⟨⟨z0, z1, z2⟩, z3, z4⟩ := s1
              have C1 := mone_any x5 lk c.key
              have hhq : hitQ same c (L.getD k default) = oneQ same lk c.key := by rw [HIT.out, hh]; simp
              go_wp2_with fail
              refine C1.mono ?_
              rintro e v1 ⟨rfl, rfl⟩
              clear C1
              cases hone : oneQ same lk c.key with
              | true =>
                go_wp2_with fail
                go_roundw
                case rel => exact ⟨k + 1, by omega, by first | rfl | go_num, rfl, HB.out.drew.drew, .inr ⟨k, hlt, rfl, by rw [hhq, hone], HNO.out⟩⟩
                case measure => simp [intOf]; omega
              | false =>
                go_wp2_with fail
                go_roundw
                case rel => exact ⟨k + 1, by omega, by first | rfl | go_num, rfl, HB.out.drew.drew, .inl ⟨rfl, fun j hj => by
                  rcases Nat.lt_or_ge j k with y | y
                  · exact HNO.out j y
                  · obtain rfl : j = k := by omega
                    rw [hhq, hone]⟩⟩
                case measure => simp [intOf]; omega
          · have hne : (lh != c.hash) = true := by simp [hh]
            have hhq : hitQ same c (L.getD k default) = false := by rw [HIT.out]; simp [hh]
            go_wp2_with fail
            go_roundw
            case rel => exact ⟨k + 1, by omega, by first | rfl | go_num, rfl, HB.out.drew, .inl ⟨rfl, fun j hj => by
              rcases Nat.lt_or_ge j k with y | y
              · exact HNO.out j y
              · obtain rfl : j = k := by omega
                exact hhq⟩⟩
            case measure => simp [intOf]; omega
        · have t1 : ¬ (k : Int) < (n : Int) := by omega
          have hat0 : at0 = -1 := by
            rw [← HAT.out, findQ_no (fun j hj => hnone j (by rw [HN.out] at hj; omega))]
            unfold atQ
            rw [if_neg (Nat.lt_irrefl _)]
          subst hat0
          have HB := Lib.hid hB
          clear hM hB hnone
          go_wp2_with fail
          go_ret2
          exact ⟨rfl, HBW.out.trans (HB.out.mono HBW.out.size)⟩
      · have hat0 := FIN.out j hj hyes hno
        subst hat0
        have t3 : ¬ (j : Int) < 0 := by omega
        have HB := Lib.hid hB
        clear hM hB hno hyes
        by_cases hlt : k < n
        · have t1 : (k : Int) < (n : Int) := by omega
          go_wp2_with fail
          go_ret2
          exact ⟨rfl, HBW.out.trans (HB.out.mono HBW.out.size)⟩
        · have t1 : ¬ (k : Int) < (n : Int) := by omega
          go_wp2_with fail
          go_ret2
          exact ⟨rfl, HBW.out.trans (HB.out.mono HBW.out.size)⟩
end Go.Proofs.YtbpflmdefpjcaaaGreat
namespace Go.Proofs.YtbpflmdefpjcaaaGreat
open Go.RowKit Go.WideShapes

theorem put5_ex (w : World) (R : Nat) (v0 v1 v2 v3 v4 : Value) : Ex (fun k => k = R) w (put5 w R v0 v1 v2 v3 v4) :=
  (((((Ex.refl (fun k => k = R) w).setCell (p := ⟨R, 0, none⟩) (fun _ => rfl) v0).setCell (p := ⟨R, 1, none⟩) (fun _ => rfl) v1).setCell (p := ⟨R, 2, none⟩) (fun _ => rfl) v2).setCell (p := ⟨R, 3, none⟩) (fun _ => rfl) v3).setCell (p := ⟨R, 4, none⟩) (fun _ => rfl) v4
theorem MqR.mk' {w w3 w4 : World} {m : Nat} {lv av lv' av' tv : Value} {L : List Pq} {most v : Nat} {q : List Int} {same : Int} {inner : Bool} {Y : Nat → Prop} (hM : Mq w3 m lv' av' tv L most v q same inner) (fx : ∀ k, mqX m lv' av' k → mqX m lv av k ∨ w.heap.size ≤ k) (x : Ex (mqX m lv av) w w3) (y : Ex Y w3 w4) (hY : ∀ k, Y k → w.heap.size ≤ k ∧ ¬ mqX m lv' av' k) : MqR w m lv av tv L most v q same inner w4 :=
  ⟨lv', av', hM.same fun k hk => y.block k (hM.lt k hk) (fun e => (hY k e).2 hk), fx, x.next y (fun k hl hk => by have := (hY k hk).1; omega)⟩
def zT : Nat → Value := fun j => #[Value.int .i64 0, .int .i64 0, .bool false, .int .i64 0, .int .i64 0].getD j .nilFunc
/-- What the call's own blocks hold. -/
structure Cb (w : World) (B : Nat) (c : Cq) (F : Nat → Value) : Prop where
  box : Blk w B 4 (clF c)
  res : Blk w (B + 1) 5 F
set_option maxRecDepth 100000 in
set_option maxHeartbeats 8000000 in
theorem mcall_of {w : World} {m : Nat} {lv av tv : Value} {most : Nat} {same : Int} {inner : Bool} (hX : ∀ k, mqX m lv av k → k < w.heap.size) (c : Cq) {L' : List Pq} {v' : Nat} {q' : List Int} {a : Nat} (hv : v' ≤ 900000) (hl : L'.length ≤ 90000)
    (CF : ∀ V, Below w.heap.size w V → Calls Tryz.prog 13 #[.pointer (some ⟨m, 0, none⟩), .agg #[.int .i64 (c.goal : Int), .int .i64 c.hash, .int .i64 c.key, .int .i64 c.value]] V fun e w' => e = .returned (.tuple #[.int .i64 (atQ L' a), .bool true]) ∧ MqR V m lv av tv L' most v' q' same inner w') :
    Calls Tryz.prog 6 #[.pointer (some ⟨m, 0, none⟩), .agg #[.int .i64 (c.goal : Int), .int .i64 c.hash, .int .i64 c.key, .int .i64 c.value]] w fun e w' => e = .returned (.tuple #[tuV (endQ most c (L', v') a).1, .bool true]) ∧ MqR w m lv av tv (endQ most c (L', v') a).2.1 most (endQ most c (L', v') a).2.2 q' same inner w' := by
  obtain ⟨w1, hw1⟩ : ∃ V, w.alloc (.cells #[.int .i64 (c.goal : Int), .int .i64 c.hash, .int .i64 c.key, .int .i64 c.value] 38) = V := ⟨_, rfl⟩
  obtain ⟨w2, hw2⟩ : ∃ V, w1.alloc (.cells #[.int .i64 0, .int .i64 0, .bool false, .int .i64 0, .int .i64 0] 40) = V := ⟨_, rfl⟩
  have hb1 : Below w.heap.size w w1 := by rw [← hw1]; exact (Below.refl _ w).alloc (Nat.le_refl _) _
  have hb2 : Below w1.heap.size w1 w2 := by rw [← hw2]; exact (Below.refl _ w1).alloc (Nat.le_refl _) _
  have hs1 : w1.heap.size = w.heap.size + 1 := by rw [← hw1]; simp
  have hs2 : w2.heap.size = w1.heap.size + 1 := by rw [← hw2]; simp
  have hb12 : Below w.heap.size w w2 := hb1.trans (hb2.mono hb1.size)
  have hC2 : Cb w2 w.heap.size c zT := ⟨Blk.of (by rw [← hw1]; exact cl_new w c) hb2 (by omega), by rw [← hw2, ← hs1]; exact Blk.new w1 _ _⟩
  have C1 := CF w2 hb12
  have k0 : w2.cell? ⟨w.heap.size, 0, none⟩ = some (.int .i64 (c.goal : Int)) := hC2.box.c 0 (by omega)
  have k1 : w2.cell? ⟨w.heap.size, 1, none⟩ = some (.int .i64 c.hash) := hC2.box.c 1 (by omega)
  have k2 : w2.cell? ⟨w.heap.size, 2, none⟩ = some (.int .i64 c.key) := hC2.box.c 2 (by omega)
  have k3 : w2.cell? ⟨w.heap.size, 3, none⟩ = some (.int .i64 c.value) := hC2.box.c 3 (by omega)
  have HX := Lib.hid hX
  have HW1 := Lib.hid hw1
  have HW2 := Lib.hid hw2
  have HB12 := Lib.hid hb12
  have HC2 := Lib.hid hC2
  clear CF hX hw1 hw2 hb1 hb2 hb12 hC2
  go_enter Tryz.func6, Tryz.ntmps6
  go_upto_region 1 with fail
  rw [HW1.out, HW2.out]
  go_wp2_with fail
  refine C1.mono ?_
  rintro e w3 ⟨rfl, lv', av', hM, hfx, hx⟩
  clear C1 k0 k1 k2 k3
  have hs3 := hx.size
  have nB : ∀ k, mqX m lv' av' k → k ≠ w.heap.size ∧ k ≠ w.heap.size + 1 ∧ (mqX m lv av k ∨ w.heap.size ≤ k) := fun k hk => by
    rcases hfx k hk with y | y
    · have := HX.out k y; exact ⟨by omega, by omega, .inl y⟩
    · exact ⟨by omega, by omega, .inr (by omega)⟩
  have hC3 : Cb w3 w.heap.size c zT := ⟨HC2.out.box.same (hx.block _ (by omega) (fun e => by have := HX.out _ e; omega)), HC2.out.res.same (hx.block _ (by omega) (fun e => by have := HX.out _ e; omega))⟩
  have hxw : Ex (mqX m lv av) w w3 := (ex_of HB12.out).next hx (fun _ _ y => y)
  have g0 : w3.cell? ⟨w.heap.size, 0, none⟩ = some (.int .i64 (c.goal : Int)) := hC3.box.c 0 (by omega)
  have g1 : w3.cell? ⟨w.heap.size, 1, none⟩ = some (.int .i64 c.hash) := hC3.box.c 1 (by omega)
  have g2 : w3.cell? ⟨w.heap.size, 2, none⟩ = some (.int .i64 c.key) := hC3.box.c 2 (by omega)
  have g3 : w3.cell? ⟨w.heap.size, 3, none⟩ = some (.int .i64 c.value) := hC3.box.c 3 (by omega)
  have HM := Lib.hid hM
  have HNB := Lib.hid nB
  have HC3 := Lib.hid hC3
  have HXW := Lib.hid hxw
  have HMK : Hid (∀ (w4 : World) (L2 : List Pq) (v2 : Nat), MqR w3 m lv' av' tv L2 most v2 q' same inner w4 → Cb w4 w.heap.size c zT ∧ ∀ (Y : Nat → Prop) (w5 : World), Ex Y w4 w5 → (∀ k, Y k → k = w.heap.size + 1) → MqR w m lv av tv L2 most v2 q' same inner w5) := fun w4 L2 v2 hR => by
    obtain ⟨lv2, av2, r1, r2, r3⟩ := hR
    refine ⟨⟨HC3.out.box.same (r3.block _ (HC3.out.box.lt (by omega)) (fun e => (HNB.out _ e).1 rfl)), HC3.out.res.same (r3.block _ (HC3.out.res.lt (by omega)) (fun e => (HNB.out _ e).2.1 rfl))⟩, fun Y w5 hY hYr => ?_⟩
    refine MqR.mk' r1 (fun k hk => (r2 k hk).elim (fun y => (HNB.out k y).2.2) (fun y => .inr (by omega))) (HXW.out.next r3 (fun k hl hk => (HNB.out k hk).2.2.elim id (fun y => by omega))) hY (fun k hk => ?_)
    have e := hYr k hk
    subst e
    refine ⟨by omega, fun y => ?_⟩
    rcases r2 _ y with z | z
    · exact (HNB.out _ z).2.1 rfl
    · have := HC3.out.res.lt (by omega); omega
  clear hM nB hC3 hxw hfx hx
  by_cases ha : a < L'.length
  · have e0 : atQ L' a = (a : Int) := if_pos ha
    rw [e0]
    obtain ⟨al, capl, hlv, hcapl, g, hal, hcl⟩ := HM.out.row.open
    have hal' := hal (by omega)
    subst hal'
    have x0 : w3.cell? ⟨m, 0, none⟩ = some (.slice (some ⟨g, 0, none⟩) L'.length capl) := by rw [← hlv]; exact HM.out.hd.c 0 (by omega)
    obtain ⟨_, _, y2⟩ := hcl a ha
    have ta : (a : Int) < (L'.length : Int) := by omega
    have tb : (0 : Int) ≤ (a : Int) := by omega
    have hE : endQ most c (L', v') a = (⟨2, 0, true, (L'.getD a default).value, 0⟩, if c.goal = 2 then L'.set a ⟨(L'.getD a default).hash, (L'.getD a default).key, c.value⟩ else if c.goal = 3 then L'.eraseIdx a else L', hitN c.goal v') := by unfold endQ; rw [if_pos ha]
    obtain ⟨w4, hw4⟩ : ∃ V, w3.alloc (.cells #[.int .i64 2, .int .i64 0, .bool true, .int .i64 (L'.getD a default).value, .int .i64 0] 40) = V := ⟨_, rfl⟩
    have hb4 : Below w3.heap.size w3 w4 := by rw [← hw4]; exact (Below.refl _ w3).alloc (Nat.le_refl _) _
    have hT4 : Blk w4 w3.heap.size 5 (fun j => #[Value.int .i64 2, .int .i64 0, .bool true, .int .i64 (L'.getD a default).value, .int .i64 0].getD j .nilFunc) := by rw [← hw4]; exact Blk.new w3 _ _
    have hM4 := HM.out.below hb4
    have h40 : w4.cell? ⟨w.heap.size, 0, none⟩ = some (.int .i64 (c.goal : Int)) := (HC3.out.box.of hb4 (by omega)).c 0 (by omega)
    have h43 : w4.cell? ⟨w.heap.size, 3, none⟩ = some (.int .i64 c.value) := (HC3.out.box.of hb4 (by omega)).c 3 (by omega)
    have HB4 := Lib.hid hb4
    have HT4 := Lib.hid hT4
    have HM4 := Lib.hid hM4
    have HW4 := Lib.hid hw4
    have HTK : Hid (∀ (w5 : World) (L2 : List Pq) (v2 : Nat), MqR w4 m lv' av' tv L2 most v2 q' same inner w5 → MqR w3 m lv' av' tv L2 most v2 q' same inner w5 ∧ Blk w5 w3.heap.size 5 (fun j => #[Value.int .i64 2, .int .i64 0, .bool true, .int .i64 (L'.getD a default).value, .int .i64 0].getD j .nilFunc)) := fun w5 L2 v2 hR => by
      refine ⟨hR.old HB4.out, ?_⟩
      obtain ⟨_, _, _, _, r3⟩ := hR
      exact HT4.out.same (r3.block _ (HT4.out.lt (by omega)) (fun e => by have := HM.out.lt _ e; omega))
    have HE0 := Lib.hid hE
    clear hcl hal hlv hb4 hT4 hM4 hw4 hE
    generalize (L'.getD a default).value = vl at *
    generalize hLL : L'.length = nL at *
    by_cases hg : c.goal = 2
    · skip
      have hg2 : (c.goal : Int) = 2 := by omega
      rw [hg2] at h40
      have hN : hitN c.goal v' = v' + 1 := by unfold hitN; rw [if_pos (.inl hg)]
      have hE := HE0.out
      rw [if_pos hg, hN] at hE
      have HE := Lib.hid hE
      clear hE
      have CP := mput_hit HM4.out (by omega) (by rw [hLL]; exact ha) 0 0 c.value
      go_upto_region 6 with fail
      rw [HW4.out]
      go_wp2_with fail
      refine CP.mono ?_
      rintro e w5 ⟨rfl, hR5⟩
      clear CP
      obtain ⟨hR3, hT5⟩ := HTK.out w5 _ _ hR5
      obtain ⟨hC5, hK⟩ := HMK.out w5 _ _ hR3
      have t0 : w5.cell? ⟨w3.heap.size, 0, none⟩ = some (.int .i64 2) := hT5.c 0 (by omega)
      have t1 : w5.cell? ⟨w3.heap.size, 1, none⟩ = some (.int .i64 0) := hT5.c 1 (by omega)
      have t2 : w5.cell? ⟨w3.heap.size, 2, none⟩ = some (.bool true) := hT5.c 2 (by omega)
      have t3 : w5.cell? ⟨w3.heap.size, 3, none⟩ = some (.int .i64 vl) := hT5.c 3 (by omega)
      have t4 : w5.cell? ⟨w3.heap.size, 4, none⟩ = some (.int .i64 0) := hT5.c 4 (by omega)
      have b0 : w5.cell? ⟨w.heap.size, 0, none⟩ = some (.int .i64 (c.goal : Int)) := hC5.box.c 0 (by omega)
      rw [hg2] at b0
      obtain ⟨w9, hw9⟩ : ∃ V, put5 w5 (w.heap.size + 1) (.int .i64 2) (.int .i64 0) (.bool true) (.int .i64 vl) (.int .i64 0) = V := ⟨_, rfl⟩
      have hR9 : Blk w9 (w.heap.size + 1) 5 (fun j => [Value.int .i64 2, .int .i64 0, .bool true, .int .i64 vl, .int .i64 0].getD j .nilFunc) := by rw [← hw9]; exact put5_blk hC5.res (.int .i64 2) (.int .i64 0) (.bool true) (.int .i64 vl) (.int .i64 0)
      have HF9 := Lib.hid (hK _ w9 (by rw [← hw9]; exact put5_ex _ _ (.int .i64 2) (.int .i64 0) (.bool true) (.int .i64 vl) (.int .i64 0)) (fun _ h => h))
      have z0 : (w5).frozen? ⟨w.heap.size + 1, 0, none⟩ = false := hC5.res.z 0
      have z1 : (w5).frozen? ⟨w.heap.size + 1, 1, none⟩ = false := hC5.res.z 1
      have z2 : (w5).frozen? ⟨w.heap.size + 1, 2, none⟩ = false := hC5.res.z 2
      have z3 : (w5).frozen? ⟨w.heap.size + 1, 3, none⟩ = false := hC5.res.z 3
      have z4 : (w5).frozen? ⟨w.heap.size + 1, 4, none⟩ = false := hC5.res.z 4
      have zc0 : (w5).cell? ⟨w.heap.size + 1, 0, none⟩ = some (.int .i64 0) := hC5.res.c 0 (by omega)
      have zc1 : (w5).cell? ⟨w.heap.size + 1, 1, none⟩ = some (.int .i64 0) := hC5.res.c 1 (by omega)
      have zc2 : (w5).cell? ⟨w.heap.size + 1, 2, none⟩ = some (.bool false) := hC5.res.c 2 (by omega)
      have zc3 : (w5).cell? ⟨w.heap.size + 1, 3, none⟩ = some (.int .i64 0) := hC5.res.c 3 (by omega)
      have zc4 : (w5).cell? ⟨w.heap.size + 1, 4, none⟩ = some (.int .i64 0) := hC5.res.c 4 (by omega)
      have o0 : w9.cell? ⟨w.heap.size + 1, 0, none⟩ = some (.int .i64 2) := hR9.c 0 (by omega)
      have o1 : w9.cell? ⟨w.heap.size + 1, 1, none⟩ = some (.int .i64 0) := hR9.c 1 (by omega)
      have o2 : w9.cell? ⟨w.heap.size + 1, 2, none⟩ = some (.bool true) := hR9.c 2 (by omega)
      have o3 : w9.cell? ⟨w.heap.size + 1, 3, none⟩ = some (.int .i64 vl) := hR9.c 3 (by omega)
      have o4 : w9.cell? ⟨w.heap.size + 1, 4, none⟩ = some (.int .i64 0) := hR9.c 4 (by omega)
      have HW9 := Lib.hid hw9
      unfold put5 at HW9
      clear hw9 hR9
      clear hC5 hK hR3 hT5
      go_wp2_with fail
      rw [HW9.out]
      refine bodyPost_ret (v := .tuple #[.agg #[.int .i64 2, .int .i64 0, .bool true, .int .i64 vl, .int .i64 0], .bool true]) ?_ rfl ⟨by rw [HE.out]; rfl, by rw [HE.out]; exact HF9.out⟩
      simp [results, Tryz.results6, go_sem, o0, o1, o2, o3, o4]
    · by_cases hg3 : c.goal = 3
      · have hg0 := hg
        clear hg
        have hg := hg3
        have hg2 : (c.goal : Int) = 3 := by omega
        rw [hg2] at h40
        have hN : hitN c.goal v' = v' + 1 := by unfold hitN; rw [if_pos (.inr hg)]
        have hE := HE0.out
        rw [if_neg hg0, if_pos hg, hN] at hE
        have HE := Lib.hid hE
        clear hE
        have CP := mout_any HM4.out (by omega) (by rw [hLL]; exact ha) (by omega)
        go_upto_region 6 with fail
        rw [HW4.out]
        go_wp2_with fail
        refine CP.mono ?_
        rintro e w5 ⟨rfl, hR5⟩
        clear CP
        obtain ⟨hR3, hT5⟩ := HTK.out w5 _ _ hR5
        obtain ⟨hC5, hK⟩ := HMK.out w5 _ _ hR3
        have t0 : w5.cell? ⟨w3.heap.size, 0, none⟩ = some (.int .i64 2) := hT5.c 0 (by omega)
        have t1 : w5.cell? ⟨w3.heap.size, 1, none⟩ = some (.int .i64 0) := hT5.c 1 (by omega)
        have t2 : w5.cell? ⟨w3.heap.size, 2, none⟩ = some (.bool true) := hT5.c 2 (by omega)
        have t3 : w5.cell? ⟨w3.heap.size, 3, none⟩ = some (.int .i64 vl) := hT5.c 3 (by omega)
        have t4 : w5.cell? ⟨w3.heap.size, 4, none⟩ = some (.int .i64 0) := hT5.c 4 (by omega)
        have b0 : w5.cell? ⟨w.heap.size, 0, none⟩ = some (.int .i64 (c.goal : Int)) := hC5.box.c 0 (by omega)
        rw [hg2] at b0
        obtain ⟨w9, hw9⟩ : ∃ V, put5 w5 (w.heap.size + 1) (.int .i64 2) (.int .i64 0) (.bool true) (.int .i64 vl) (.int .i64 0) = V := ⟨_, rfl⟩
        have hR9 : Blk w9 (w.heap.size + 1) 5 (fun j => [Value.int .i64 2, .int .i64 0, .bool true, .int .i64 vl, .int .i64 0].getD j .nilFunc) := by rw [← hw9]; exact put5_blk hC5.res (.int .i64 2) (.int .i64 0) (.bool true) (.int .i64 vl) (.int .i64 0)
        have HF9 := Lib.hid (hK _ w9 (by rw [← hw9]; exact put5_ex _ _ (.int .i64 2) (.int .i64 0) (.bool true) (.int .i64 vl) (.int .i64 0)) (fun _ h => h))
        have z0 : (w5).frozen? ⟨w.heap.size + 1, 0, none⟩ = false := hC5.res.z 0
        have z1 : (w5).frozen? ⟨w.heap.size + 1, 1, none⟩ = false := hC5.res.z 1
        have z2 : (w5).frozen? ⟨w.heap.size + 1, 2, none⟩ = false := hC5.res.z 2
        have z3 : (w5).frozen? ⟨w.heap.size + 1, 3, none⟩ = false := hC5.res.z 3
        have z4 : (w5).frozen? ⟨w.heap.size + 1, 4, none⟩ = false := hC5.res.z 4
        have zc0 : (w5).cell? ⟨w.heap.size + 1, 0, none⟩ = some (.int .i64 0) := hC5.res.c 0 (by omega)
        have zc1 : (w5).cell? ⟨w.heap.size + 1, 1, none⟩ = some (.int .i64 0) := hC5.res.c 1 (by omega)
        have zc2 : (w5).cell? ⟨w.heap.size + 1, 2, none⟩ = some (.bool false) := hC5.res.c 2 (by omega)
        have zc3 : (w5).cell? ⟨w.heap.size + 1, 3, none⟩ = some (.int .i64 0) := hC5.res.c 3 (by omega)
        have zc4 : (w5).cell? ⟨w.heap.size + 1, 4, none⟩ = some (.int .i64 0) := hC5.res.c 4 (by omega)
        have o0 : w9.cell? ⟨w.heap.size + 1, 0, none⟩ = some (.int .i64 2) := hR9.c 0 (by omega)
        have o1 : w9.cell? ⟨w.heap.size + 1, 1, none⟩ = some (.int .i64 0) := hR9.c 1 (by omega)
        have o2 : w9.cell? ⟨w.heap.size + 1, 2, none⟩ = some (.bool true) := hR9.c 2 (by omega)
        have o3 : w9.cell? ⟨w.heap.size + 1, 3, none⟩ = some (.int .i64 vl) := hR9.c 3 (by omega)
        have o4 : w9.cell? ⟨w.heap.size + 1, 4, none⟩ = some (.int .i64 0) := hR9.c 4 (by omega)
        have HW9 := Lib.hid hw9
        unfold put5 at HW9
        clear hw9 hR9
        clear hC5 hK hR3 hT5
        go_wp2_with fail
        rw [HW9.out]
        refine bodyPost_ret (v := .tuple #[.agg #[.int .i64 2, .int .i64 0, .bool true, .int .i64 vl, .int .i64 0], .bool true]) ?_ rfl ⟨by rw [HE.out]; rfl, by rw [HE.out]; exact HF9.out⟩
        simp [results, Tryz.results6, go_sem, o0, o1, o2, o3, o4]
      · skip
        have hn2 : ((c.goal : Int) == 2) = false := by rw [beq_eq_false_iff_ne]; omega
        have hn3 : ((c.goal : Int) == 3) = false := by rw [beq_eq_false_iff_ne]; omega
        have hN : hitN c.goal v' = v' := by unfold hitN; rw [if_neg (by omega)]
        have hE := HE0.out
        rw [if_neg hg, if_neg hg3, hN] at hE
        have HE := Lib.hid hE
        clear hE
        go_upto_region 6 with fail
        rw [HW4.out]
        obtain ⟨hR3, hT5⟩ := HTK.out w4 _ _ (MqR.refl HM4.out)
        obtain ⟨hC5, hK⟩ := HMK.out w4 _ _ hR3
        have t0 : w4.cell? ⟨w3.heap.size, 0, none⟩ = some (.int .i64 2) := hT5.c 0 (by omega)
        have t1 : w4.cell? ⟨w3.heap.size, 1, none⟩ = some (.int .i64 0) := hT5.c 1 (by omega)
        have t2 : w4.cell? ⟨w3.heap.size, 2, none⟩ = some (.bool true) := hT5.c 2 (by omega)
        have t3 : w4.cell? ⟨w3.heap.size, 3, none⟩ = some (.int .i64 vl) := hT5.c 3 (by omega)
        have t4 : w4.cell? ⟨w3.heap.size, 4, none⟩ = some (.int .i64 0) := hT5.c 4 (by omega)
        have b0 : w4.cell? ⟨w.heap.size, 0, none⟩ = some (.int .i64 (c.goal : Int)) := hC5.box.c 0 (by omega)
        obtain ⟨w9, hw9⟩ : ∃ V, put5 w4 (w.heap.size + 1) (.int .i64 2) (.int .i64 0) (.bool true) (.int .i64 vl) (.int .i64 0) = V := ⟨_, rfl⟩
        have hR9 : Blk w9 (w.heap.size + 1) 5 (fun j => [Value.int .i64 2, .int .i64 0, .bool true, .int .i64 vl, .int .i64 0].getD j .nilFunc) := by rw [← hw9]; exact put5_blk hC5.res (.int .i64 2) (.int .i64 0) (.bool true) (.int .i64 vl) (.int .i64 0)
        have HF9 := Lib.hid (hK _ w9 (by rw [← hw9]; exact put5_ex _ _ (.int .i64 2) (.int .i64 0) (.bool true) (.int .i64 vl) (.int .i64 0)) (fun _ h => h))
        have z0 : (w4).frozen? ⟨w.heap.size + 1, 0, none⟩ = false := hC5.res.z 0
        have z1 : (w4).frozen? ⟨w.heap.size + 1, 1, none⟩ = false := hC5.res.z 1
        have z2 : (w4).frozen? ⟨w.heap.size + 1, 2, none⟩ = false := hC5.res.z 2
        have z3 : (w4).frozen? ⟨w.heap.size + 1, 3, none⟩ = false := hC5.res.z 3
        have z4 : (w4).frozen? ⟨w.heap.size + 1, 4, none⟩ = false := hC5.res.z 4
        have zc0 : (w4).cell? ⟨w.heap.size + 1, 0, none⟩ = some (.int .i64 0) := hC5.res.c 0 (by omega)
        have zc1 : (w4).cell? ⟨w.heap.size + 1, 1, none⟩ = some (.int .i64 0) := hC5.res.c 1 (by omega)
        have zc2 : (w4).cell? ⟨w.heap.size + 1, 2, none⟩ = some (.bool false) := hC5.res.c 2 (by omega)
        have zc3 : (w4).cell? ⟨w.heap.size + 1, 3, none⟩ = some (.int .i64 0) := hC5.res.c 3 (by omega)
        have zc4 : (w4).cell? ⟨w.heap.size + 1, 4, none⟩ = some (.int .i64 0) := hC5.res.c 4 (by omega)
        have o0 : w9.cell? ⟨w.heap.size + 1, 0, none⟩ = some (.int .i64 2) := hR9.c 0 (by omega)
        have o1 : w9.cell? ⟨w.heap.size + 1, 1, none⟩ = some (.int .i64 0) := hR9.c 1 (by omega)
        have o2 : w9.cell? ⟨w.heap.size + 1, 2, none⟩ = some (.bool true) := hR9.c 2 (by omega)
        have o3 : w9.cell? ⟨w.heap.size + 1, 3, none⟩ = some (.int .i64 vl) := hR9.c 3 (by omega)
        have o4 : w9.cell? ⟨w.heap.size + 1, 4, none⟩ = some (.int .i64 0) := hR9.c 4 (by omega)
        have HW9 := Lib.hid hw9
        unfold put5 at HW9
        clear hw9 hR9
        clear hC5 hK hR3 hT5
        go_wp2_with fail
        rw [HW9.out]
        refine bodyPost_ret (v := .tuple #[.agg #[.int .i64 2, .int .i64 0, .bool true, .int .i64 vl, .int .i64 0], .bool true]) ?_ rfl ⟨by rw [HE.out]; rfl, by rw [HE.out]; exact HF9.out⟩
        simp [results, Tryz.results6, go_sem, o0, o1, o2, o3, o4]
  · have e0 : atQ L' a = -1 := if_neg ha
    rw [e0]
    by_cases hg : c.goal = 1 ∨ c.goal = 3
    · have hE : endQ most c (L', v') a = (⟨2, 0, false, 0, 0⟩, L', v') := by unfold endQ; rw [if_neg ha, if_pos hg]
      have HE := Lib.hid hE
      obtain ⟨hC4, hK⟩ := HMK.out w3 L' v' (MqR.refl HM.out)
      obtain ⟨w9, hw9⟩ : ∃ V, put5 w3 (w.heap.size + 1) (.int .i64 2) (.int .i64 0) (.bool false) (.int .i64 0) (.int .i64 0) = V := ⟨_, rfl⟩
      have hR9 : Blk w9 (w.heap.size + 1) 5 (fun j => [Value.int .i64 2, .int .i64 0, .bool false, .int .i64 0, .int .i64 0].getD j .nilFunc) := by rw [← hw9]; exact put5_blk hC4.res (.int .i64 2) (.int .i64 0) (.bool false) (.int .i64 0) (.int .i64 0)
      have HF9 := Lib.hid (hK _ w9 (by rw [← hw9]; exact put5_ex _ _ (.int .i64 2) (.int .i64 0) (.bool false) (.int .i64 0) (.int .i64 0)) (fun _ h => h))
      have z0 : (w3).frozen? ⟨w.heap.size + 1, 0, none⟩ = false := hC4.res.z 0
      have z1 : (w3).frozen? ⟨w.heap.size + 1, 1, none⟩ = false := hC4.res.z 1
      have z2 : (w3).frozen? ⟨w.heap.size + 1, 2, none⟩ = false := hC4.res.z 2
      have z3 : (w3).frozen? ⟨w.heap.size + 1, 3, none⟩ = false := hC4.res.z 3
      have z4 : (w3).frozen? ⟨w.heap.size + 1, 4, none⟩ = false := hC4.res.z 4
      have zc0 : (w3).cell? ⟨w.heap.size + 1, 0, none⟩ = some (.int .i64 0) := hC4.res.c 0 (by omega)
      have zc1 : (w3).cell? ⟨w.heap.size + 1, 1, none⟩ = some (.int .i64 0) := hC4.res.c 1 (by omega)
      have zc2 : (w3).cell? ⟨w.heap.size + 1, 2, none⟩ = some (.bool false) := hC4.res.c 2 (by omega)
      have zc3 : (w3).cell? ⟨w.heap.size + 1, 3, none⟩ = some (.int .i64 0) := hC4.res.c 3 (by omega)
      have zc4 : (w3).cell? ⟨w.heap.size + 1, 4, none⟩ = some (.int .i64 0) := hC4.res.c 4 (by omega)
      have o0 : w9.cell? ⟨w.heap.size + 1, 0, none⟩ = some (.int .i64 2) := hR9.c 0 (by omega)
      have o1 : w9.cell? ⟨w.heap.size + 1, 1, none⟩ = some (.int .i64 0) := hR9.c 1 (by omega)
      have o2 : w9.cell? ⟨w.heap.size + 1, 2, none⟩ = some (.bool false) := hR9.c 2 (by omega)
      have o3 : w9.cell? ⟨w.heap.size + 1, 3, none⟩ = some (.int .i64 0) := hR9.c 3 (by omega)
      have o4 : w9.cell? ⟨w.heap.size + 1, 4, none⟩ = some (.int .i64 0) := hR9.c 4 (by omega)
      have HW9 := Lib.hid hw9
      unfold put5 at HW9
      clear hw9 hR9
      clear hC4 hK hE
      rcases hg with hg | hg
      · have hg2 : (c.goal : Int) = 1 := by omega
        rw [hg2] at g0
        go_wp2_with fail
        rw [HW9.out]
        refine bodyPost_ret (v := .tuple #[.agg #[.int .i64 2, .int .i64 0, .bool false, .int .i64 0, .int .i64 0], .bool true]) ?_ rfl ⟨by rw [HE.out]; rfl, by rw [HE.out]; exact HF9.out⟩
        simp [results, Tryz.results6, go_sem, o0, o1, o2, o3, o4]
      · have hg2 : (c.goal : Int) = 3 := by omega
        rw [hg2] at g0
        go_wp2_with fail
        rw [HW9.out]
        refine bodyPost_ret (v := .tuple #[.agg #[.int .i64 2, .int .i64 0, .bool false, .int .i64 0, .int .i64 0], .bool true]) ?_ rfl ⟨by rw [HE.out]; rfl, by rw [HE.out]; exact HF9.out⟩
        simp [results, Tryz.results6, go_sem, o0, o1, o2, o3, o4]
    · have hn1 : ((c.goal : Int) == 1) = false := by rw [beq_eq_false_iff_ne]; omega
      have hn3 : ((c.goal : Int) == 3) = false := by rw [beq_eq_false_iff_ne]; omega
      have x1 : w3.drew.cell? ⟨m, 1, none⟩ = some (.int .i64 (most : Int)) := HM.out.hd.c 1 (by omega)
      obtain ⟨al, capl, hlv, hcapl, _⟩ := HM.out.row.open
      have x0 : w3.drew.cell? ⟨m, 0, none⟩ = some (.slice al L'.length capl) := by rw [← hlv]; exact HM.out.hd.c 0 (by omega)
      have s0 : w3.drew.cell? ⟨m, 0, none⟩ = some (.slice al L'.length capl) ∧ w3.drew.cell? ⟨m, 1, none⟩ = some (.int .i64 (most : Int)) := ⟨x0, x1⟩
      have hMd : Mq w3.drew m lv' av' tv L' most v' q' same inner := HM.out.same fun _ _ => rfl
      have hbd : Below w3.heap.size w3 w3.drew := (Below.refl _ w3).drew
      clear hlv x0 x1
      by_cases hf : most ≤ L'.length
      · have hE : endQ most c (L', v') a = (⟨3, 0, false, 0, 0⟩, L', v') := by unfold endQ; rw [if_neg ha, if_neg hg, if_pos hf]
        have HE := Lib.hid hE
        obtain ⟨hC4, hK⟩ := HMK.out w3.drew L' v' ((MqR.refl hMd).old hbd)
        obtain ⟨w9, hw9⟩ : ∃ V, put5 w3.drew (w.heap.size + 1) (.int .i64 3) (.int .i64 0) (.bool false) (.int .i64 0) (.int .i64 0) = V := ⟨_, rfl⟩
        have hR9 : Blk w9 (w.heap.size + 1) 5 (fun j => [Value.int .i64 3, .int .i64 0, .bool false, .int .i64 0, .int .i64 0].getD j .nilFunc) := by rw [← hw9]; exact put5_blk hC4.res (.int .i64 3) (.int .i64 0) (.bool false) (.int .i64 0) (.int .i64 0)
        have HF9 := Lib.hid (hK _ w9 (by rw [← hw9]; exact put5_ex _ _ (.int .i64 3) (.int .i64 0) (.bool false) (.int .i64 0) (.int .i64 0)) (fun _ h => h))
        have z0 : (w3.drew).frozen? ⟨w.heap.size + 1, 0, none⟩ = false := hC4.res.z 0
        have z1 : (w3.drew).frozen? ⟨w.heap.size + 1, 1, none⟩ = false := hC4.res.z 1
        have z2 : (w3.drew).frozen? ⟨w.heap.size + 1, 2, none⟩ = false := hC4.res.z 2
        have z3 : (w3.drew).frozen? ⟨w.heap.size + 1, 3, none⟩ = false := hC4.res.z 3
        have z4 : (w3.drew).frozen? ⟨w.heap.size + 1, 4, none⟩ = false := hC4.res.z 4
        have zc0 : (w3.drew).cell? ⟨w.heap.size + 1, 0, none⟩ = some (.int .i64 0) := hC4.res.c 0 (by omega)
        have zc1 : (w3.drew).cell? ⟨w.heap.size + 1, 1, none⟩ = some (.int .i64 0) := hC4.res.c 1 (by omega)
        have zc2 : (w3.drew).cell? ⟨w.heap.size + 1, 2, none⟩ = some (.bool false) := hC4.res.c 2 (by omega)
        have zc3 : (w3.drew).cell? ⟨w.heap.size + 1, 3, none⟩ = some (.int .i64 0) := hC4.res.c 3 (by omega)
        have zc4 : (w3.drew).cell? ⟨w.heap.size + 1, 4, none⟩ = some (.int .i64 0) := hC4.res.c 4 (by omega)
        have o0 : w9.cell? ⟨w.heap.size + 1, 0, none⟩ = some (.int .i64 3) := hR9.c 0 (by omega)
        have o1 : w9.cell? ⟨w.heap.size + 1, 1, none⟩ = some (.int .i64 0) := hR9.c 1 (by omega)
        have o2 : w9.cell? ⟨w.heap.size + 1, 2, none⟩ = some (.bool false) := hR9.c 2 (by omega)
        have o3 : w9.cell? ⟨w.heap.size + 1, 3, none⟩ = some (.int .i64 0) := hR9.c 3 (by omega)
        have o4 : w9.cell? ⟨w.heap.size + 1, 4, none⟩ = some (.int .i64 0) := hR9.c 4 (by omega)
        have HW9 := Lib.hid hw9
        unfold put5 at HW9
        clear hw9 hR9
        clear hC4 hK hE hMd hbd
        have tf : (most : Int) ≤ (L'.length : Int) := by omega
        go_upto_region 13 with fail
        go_region_held3 (fun V => V.cell? ⟨m, 0, none⟩ = some (.slice al L'.length capl) ∧ V.cell? ⟨m, 1, none⟩ = some (.int .i64 (most : Int))) (first | with_reducible exact s0 | fail) (fail)
        clear s0
        generalize w3.drew = wd at *
        go_wp2_with fail
        rw [HW9.out]
        refine bodyPost_ret (v := .tuple #[.agg #[.int .i64 3, .int .i64 0, .bool false, .int .i64 0, .int .i64 0], .bool true]) ?_ rfl ⟨by rw [HE.out]; rfl, by rw [HE.out]; exact HF9.out⟩
        simp [results, Tryz.results6, go_sem, o0, o1, o2, o3, o4]
      · have hE : endQ most c (L', v') a = (⟨2, 0, false, c.value, 0⟩, L' ++ [⟨c.hash, c.key, c.value⟩], v' + 1) := by unfold endQ; rw [if_neg ha, if_neg hg, if_neg hf]
        have HE := Lib.hid hE
        have tf : ¬ (most : Int) ≤ (L'.length : Int) := by omega
        have CP := mput_app hMd (by omega) (by omega) c.hash c.key c.value
        have r1 : w3.drew.cell? ⟨w.heap.size, 1, none⟩ = some (.int .i64 c.hash) := g1
        have r2 : w3.drew.cell? ⟨w.heap.size, 2, none⟩ = some (.int .i64 c.key) := g2
        have r3 : w3.drew.cell? ⟨w.heap.size, 3, none⟩ = some (.int .i64 c.value) := g3
        have HBD := Lib.hid hbd
        clear hMd hbd hE
        go_upto_region 13 with fail
        go_region_held3 (fun V => V.cell? ⟨m, 0, none⟩ = some (.slice al L'.length capl) ∧ V.cell? ⟨m, 1, none⟩ = some (.int .i64 (most : Int))) (first | with_reducible exact s0 | fail) (fail)
        go_wp2_with fail
        refine CP.mono ?_
        rintro e w5 ⟨rfl, hR5⟩
        clear CP
        obtain ⟨hC5, hK⟩ := HMK.out w5 _ _ (hR5.old HBD.out)
        have b3 : w5.cell? ⟨w.heap.size, 3, none⟩ = some (.int .i64 c.value) := hC5.box.c 3 (by omega)
        obtain ⟨w9, hw9⟩ : ∃ V, put5 w5 (w.heap.size + 1) (.int .i64 2) (.int .i64 0) (.bool false) (.int .i64 c.value) (.int .i64 0) = V := ⟨_, rfl⟩
        have hR9 : Blk w9 (w.heap.size + 1) 5 (fun j => [Value.int .i64 2, .int .i64 0, .bool false, .int .i64 c.value, .int .i64 0].getD j .nilFunc) := by rw [← hw9]; exact put5_blk hC5.res (.int .i64 2) (.int .i64 0) (.bool false) (.int .i64 c.value) (.int .i64 0)
        have HF9 := Lib.hid (hK _ w9 (by rw [← hw9]; exact put5_ex _ _ (.int .i64 2) (.int .i64 0) (.bool false) (.int .i64 c.value) (.int .i64 0)) (fun _ h => h))
        have z0 : (w5).frozen? ⟨w.heap.size + 1, 0, none⟩ = false := hC5.res.z 0
        have z1 : (w5).frozen? ⟨w.heap.size + 1, 1, none⟩ = false := hC5.res.z 1
        have z2 : (w5).frozen? ⟨w.heap.size + 1, 2, none⟩ = false := hC5.res.z 2
        have z3 : (w5).frozen? ⟨w.heap.size + 1, 3, none⟩ = false := hC5.res.z 3
        have z4 : (w5).frozen? ⟨w.heap.size + 1, 4, none⟩ = false := hC5.res.z 4
        have zc0 : (w5).cell? ⟨w.heap.size + 1, 0, none⟩ = some (.int .i64 0) := hC5.res.c 0 (by omega)
        have zc1 : (w5).cell? ⟨w.heap.size + 1, 1, none⟩ = some (.int .i64 0) := hC5.res.c 1 (by omega)
        have zc2 : (w5).cell? ⟨w.heap.size + 1, 2, none⟩ = some (.bool false) := hC5.res.c 2 (by omega)
        have zc3 : (w5).cell? ⟨w.heap.size + 1, 3, none⟩ = some (.int .i64 0) := hC5.res.c 3 (by omega)
        have zc4 : (w5).cell? ⟨w.heap.size + 1, 4, none⟩ = some (.int .i64 0) := hC5.res.c 4 (by omega)
        have o0 : w9.cell? ⟨w.heap.size + 1, 0, none⟩ = some (.int .i64 2) := hR9.c 0 (by omega)
        have o1 : w9.cell? ⟨w.heap.size + 1, 1, none⟩ = some (.int .i64 0) := hR9.c 1 (by omega)
        have o2 : w9.cell? ⟨w.heap.size + 1, 2, none⟩ = some (.bool false) := hR9.c 2 (by omega)
        have o3 : w9.cell? ⟨w.heap.size + 1, 3, none⟩ = some (.int .i64 c.value) := hR9.c 3 (by omega)
        have o4 : w9.cell? ⟨w.heap.size + 1, 4, none⟩ = some (.int .i64 0) := hR9.c 4 (by omega)
        have HW9 := Lib.hid hw9
        unfold put5 at HW9
        clear hw9 hR9
        clear hC5 hK hR5
        go_wp2_with fail
        rw [HW9.out]
        refine bodyPost_ret (v := .tuple #[.agg #[.int .i64 2, .int .i64 0, .bool false, .int .i64 c.value, .int .i64 0], .bool true]) ?_ rfl ⟨by rw [HE.out]; rfl, by rw [HE.out]; exact HF9.out⟩
        simp [results, Tryz.results6, go_sem, o0, o1, o2, o3, o4]
theorem mcallI_any {w : World} {m : Nat} {lv av tv : Value} {L : List Pq} {most v : Nat} {q : List Int} {same : Int} (h : Mq w m lv av tv L most v q same true) (hv : v ≤ 900000) (hl : L.length ≤ 90000) (c : Cq) :
    Calls Tryz.prog 6 #[.pointer (some ⟨m, 0, none⟩), .agg #[.int .i64 (c.goal : Int), .int .i64 c.hash, .int .i64 c.key, .int .i64 c.value]] w fun e w' => e = .returned (.tuple #[tuV (callQ most same c (L, v)).1, .bool true]) ∧ MqR w m lv av tv (callQ most same c (L, v)).2.1 most (callQ most same c (L, v)).2.2 q same true w' :=
  mcall_of h.lt c hv hl fun V hb => (mfindI_any (h.below hb) (by omega) c).mono fun _ _ ⟨h1, h2⟩ => ⟨h1, (MqR.refl (h.below hb)).below h2⟩
end Go.Proofs.YtbpflmdefpjcaaaGreat
namespace Go.Proofs.YtbpflmdefpjcaaaGreat
open Go.RowKit Go.WideShapes

/-- The acts, in blocks below B. -/
def ArB (B : Nat) (w : World) (tv : Value) (A : List Ac) : Prop :=
  ∃ a cap, tv = .slice a A.length cap ∧ A.length ≤ cap ∧ ∃ b off, (0 < A.length → a = some ⟨b, off, none⟩ ∧ b < B) ∧ ∀ i, i < A.length → w.cell? ⟨b, off + i * 5, none⟩ = some (.int .i64 (A.getD i default).ask) ∧ w.cell? ⟨b, off + i * 5 + 1, none⟩ = some (.int .i64 (A.getD i default).kind) ∧ w.cell? ⟨b, off + i * 5 + 2, none⟩ = some (.int .i64 (A.getD i default).hash) ∧ w.cell? ⟨b, off + i * 5 + 3, none⟩ = some (.int .i64 (A.getD i default).key) ∧ w.cell? ⟨b, off + i * 5 + 4, none⟩ = some (.int .i64 (A.getD i default).value)
theorem ArB.keep {B : Nat} {w w' : World} {tv : Value} {A : List Ac} (h : ArB B w tv A) (e : ∀ k, k < B → w'.heap[k]? = w.heap[k]?) : ArB B w' tv A := by
  obtain ⟨a, cap, h1, h2, b, off, h3, h4⟩ := h
  refine ⟨a, cap, h1, h2, b, off, h3, fun i hi => ?_⟩
  have hb := e b (h3 (by omega)).2
  obtain ⟨g0, g1, g2, g3, g4⟩ := h4 i hi
  exact ⟨(World.cell?_of_block (a := ⟨b, off + i * 5, none⟩) hb).trans g0, (World.cell?_of_block (a := ⟨b, off + i * 5 + 1, none⟩) hb).trans g1, (World.cell?_of_block (a := ⟨b, off + i * 5 + 2, none⟩) hb).trans g2, (World.cell?_of_block (a := ⟨b, off + i * 5 + 3, none⟩) hb).trans g3, (World.cell?_of_block (a := ⟨b, off + i * 5 + 4, none⟩) hb).trans g4⟩
theorem ac_take {A : List Ac} {k : Nat} (h : k < A.length) : A.take (k + 1) = A.take k ++ [A.getD k default] := by
  rw [List.take_add_one, List.getD_eq_getElem?_getD, List.getElem?_eq_getElem h]
  rfl
theorem actsQ_take {most : Nat} {same n : Int} {A : List Ac} {k : Nat} (h : k < A.length) (s : List Pq × Nat) : actsQ most same n (A.take (k + 1)) s = if (A.getD k default).ask = n then actQ most same (A.getD k default) (actsQ most same n (A.take k) s) else actsQ most same n (A.take k) s := by
  rw [ac_take h, actsQ_app]
  rfl
theorem actsQ_few (most : Nat) (same n : Int) (A : List Ac) (s : List Pq × Nat) : (actsQ most same n A s).2 ≤ s.2 + A.length ∧ (actsQ most same n A s).1.length ≤ s.1.length + A.length := by
  obtain ⟨_, h2, h3, _⟩ := actsQ_step most same n A s
  have := potQ_le n A
  omega
theorem Mq.setInner {w : World} {m : Nat} {lv av tv : Value} {L : List Pq} {most v : Nat} {q : List Int} {same : Int} {inner : Bool} (h : Mq w m lv av tv L most v q same inner) (b : Bool) : Mq (w.setCell ⟨m, 6, none⟩ (.bool b)) m lv av tv L most v q same b := by
  have o : ∀ k, k ≠ m → (w.setCell ⟨m, 6, none⟩ (.bool b)).heap[k]? = w.heap[k]? := fun k hk => Below.heap_setCell w ⟨m, 6, none⟩ _ k hk
  refine ⟨(h.hd.put 6 _).congr fun j hj => ?_, h.row.same fun k hk => o k (h.nl k hk).1, h.ask.same8 fun k hk => o k (h.na k hk), h.nl, h.na⟩
  have : j = 0 ∨ j = 1 ∨ j = 2 ∨ j = 3 ∨ j = 4 ∨ j = 5 ∨ j = 6 := by omega
  rcases this with rfl | rfl | rfl | rfl | rfl | rfl | rfl <;> rfl
theorem Mq.setNil {w : World} {m : Nat} {lv av tv : Value} {L : List Pq} {most v : Nat} {q : List Int} {same : Int} {inner : Bool} (h : Mq w m lv av tv L most v q same inner) : Mq (w.setCell ⟨m, 0, none⟩ (.slice none 0 0)) m (.slice none 0 0) av tv [] most v q same inner := by
  have o : ∀ k, k ≠ m → (w.setCell ⟨m, 0, none⟩ (.slice none 0 0)).heap[k]? = w.heap[k]? := fun k hk => Below.heap_setCell w ⟨m, 0, none⟩ _ k hk
  refine ⟨(h.hd.put 0 _).congr fun j hj => ?_, ⟨rfl, .inl ⟨rfl, rfl⟩⟩, h.ask.same8 fun k hk => o k (h.na k hk), fun k hk => by (cases hk), h.na⟩
  have : j = 0 ∨ j = 1 ∨ j = 2 ∨ j = 3 ∨ j = 4 ∨ j = 5 ∨ j = 6 := by omega
  rcases this with rfl | rfl | rfl | rfl | rfl | rfl | rfl <;> rfl
theorem MqR.of {w w' : World} {m : Nat} {lv av lv' tv : Value} {L : List Pq} {most v : Nat} {q : List Int} {same : Int} {inner : Bool} (h : Mq w' m lv' av tv L most v q same inner) (hl : ∀ k, lv'.ownBlock = some k → lv.ownBlock = some k) (hx : Ex (fun k => k = m) w w') : MqR w m lv av tv L most v q same inner w' :=
  ⟨lv', av, h, fun k hk => .inl (hk.elim .inl (fun y => y.elim (fun y => .inr (.inl (hl k y))) (fun y => .inr (.inr y)))), hx.mono fun _ _ e => .inl e⟩
theorem MqR.setI {w w1 : World} {m : Nat} {lv av tv : Value} {L : List Pq} {most v : Nat} {q : List Int} {same : Int} {inner : Bool} (h : MqR w m lv av tv L most v q same inner w1) (b : Bool) : MqR w m lv av tv L most v q same b (w1.setCell ⟨m, 6, none⟩ (.bool b)) := by
  obtain ⟨lv1, av1, h1, h2, h3⟩ := h
  exact MqR.trans h2 h3 (MqR.of (h1.setInner b) (fun _ h => h) ((Ex.refl (fun k => k = m) w1).setCell (p := ⟨m, 6, none⟩) (fun _ => rfl) _))
theorem MqR.setN {w w1 : World} {m : Nat} {lv av tv : Value} {L : List Pq} {most v : Nat} {q : List Int} {same : Int} {inner : Bool} (h : MqR w m lv av tv L most v q same inner w1) : MqR w m lv av tv [] most (v + 1) q same inner ((w1.setCell ⟨m, 0, none⟩ (.slice none 0 0)).setCell ⟨m, 2, none⟩ (.int .i64 ((v : Int) + 1))) := by
  obtain ⟨lv1, av1, h1, h2, h3⟩ := h
  exact MqR.trans h2 h3 (MqR.of h1.setNil.ver (fun _ h => by cases h) (((Ex.refl (fun k => k = m) w1).setCell (p := ⟨m, 0, none⟩) (fun _ => rfl) _).setCell (p := ⟨m, 2, none⟩) (fun _ => rfl) _))
theorem MqR.cells {w w1 : World} {m : Nat} {lv av tv : Value} {L : List Pq} {most v : Nat} {q : List Int} {same : Int} {inner : Bool} (h : MqR w m lv av tv L most v q same inner w1) : w1.cell? ⟨m, 4, none⟩ = some tv ∧ w1.cell? ⟨m, 6, none⟩ = some (.bool inner) ∧ w1.frozen? ⟨m, 6, none⟩ = false ∧ w1.cell? ⟨m, 2, none⟩ = some (.int .i64 (v : Int)) ∧ w1.frozen? ⟨m, 2, none⟩ = false ∧ w1.frozen? ⟨m, 0, none⟩ = false ∧ ∃ a n cap, w1.cell? ⟨m, 0, none⟩ = some (.slice a n cap) := by
  obtain ⟨lv1, av1, h1, h2, h3⟩ := h
  obtain ⟨a, cap, hlv, _⟩ := h1.row.open
  exact ⟨h1.hd.c 4 (by omega), h1.hd.c 6 (by omega), h1.hd.z 6, h1.hd.c 2 (by omega), h1.hd.z 2, h1.hd.z 0, a, _, cap, by rw [← hlv]; exact h1.hd.c 0 (by omega)⟩
/-- A call at W of what stands there behind w. -/
theorem MqR.callI {w W : World} {m : Nat} {lv av tv : Value} {L : List Pq} {most v : Nat} {q : List Int} {same : Int} (h : MqR w m lv av tv L most v q same true W) (hv : v ≤ 900000) (hl : L.length ≤ 90000) (c : Cq) :
    Calls Tryz.prog 6 #[.pointer (some ⟨m, 0, none⟩), .agg #[.int .i64 (c.goal : Int), .int .i64 c.hash, .int .i64 c.key, .int .i64 c.value]] W fun e w' => ∃ u, e = .returned (.tuple #[tuV u, .bool true]) ∧ MqR w m lv av tv (callQ most same c (L, v)).2.1 most (callQ most same c (L, v)).2.2 q same true w' := by
  obtain ⟨lv1, av1, h1, h2, h3⟩ := h
  exact (mcallI_any h1 hv hl c).mono fun _ _ ⟨g1, g2⟩ => ⟨_, g1, MqR.trans h2 h3 g2⟩
set_option maxRecDepth 100000 in
set_option maxHeartbeats 8000000 in
theorem mact_any {B : Nat} {w : World} {m : Nat} {lv av tv : Value} {L : List Pq} {most v : Nat} {q : List Int} {same : Int} {A : List Ac} (h : Mq w m lv av tv L most v q same false) (hA : ArB B w tv A) (hB : ∀ k, mqX m lv av k → B ≤ k) (hBw : B ≤ w.heap.size) (hv : v ≤ 800000) (hl : L.length ≤ 80000) (hq : q.length ≤ 100000) (hAl : A.length ≤ 1000) :
    Calls Tryz.prog 27 #[.pointer (some ⟨m, 0, none⟩)] w fun e w' => e = .returned (.tuple #[]) ∧ MqR w m lv av tv (actsQ most same ((q.length : Int) - 1) A (L, v)).1 most (actsQ most same ((q.length : Int) - 1) A (L, v)).2 q same false w' := by
  obtain ⟨aa, capa, ga, hav, hcapa, _⟩ := h.ask.open
  subst hav
  have x3 : w.cell? ⟨m, 3, none⟩ = some (.slice aa q.length capa) := h.hd.c 3 (by omega)
  have HM := Lib.hid h
  have e1 : IntKind.i64.wrap ((q.length : Int) - 1) = (q.length : Int) - 1 := i64_small (by omega) (by omega)
  obtain ⟨at0, capt, htv, hcapt, bA, offA, hab, hcl⟩ := hA
  subst htv
  have HA : Hid (∀ V L' v' i', MqR w m lv (.slice aa q.length capa) (.slice at0 A.length capt) L' most v' q same i' V → ∀ k, k < A.length → at0 = some ⟨bA, offA, none⟩ ∧ V.cell? ⟨bA, offA + k * 5, none⟩ = some (.int .i64 (A.getD k default).ask) ∧ V.cell? ⟨bA, offA + k * 5 + 1, none⟩ = some (.int .i64 (A.getD k default).kind) ∧ V.cell? ⟨bA, offA + k * 5 + 2, none⟩ = some (.int .i64 (A.getD k default).hash) ∧ V.cell? ⟨bA, offA + k * 5 + 3, none⟩ = some (.int .i64 (A.getD k default).key) ∧ V.cell? ⟨bA, offA + k * 5 + 4, none⟩ = some (.int .i64 (A.getD k default).value)) := fun V L' v' i' hR k hk => by
    obtain ⟨_, _, _, _, r3⟩ := hR
    have hbA := (hab (by omega)).2
    have hb := r3.block bA (by omega) (fun y => by have := hB bA y; omega)
    obtain ⟨g0, g1, g2, g3, g4⟩ := hcl k hk
    exact ⟨(hab (by omega)).1, (World.cell?_of_block (a := ⟨bA, offA + k * 5, none⟩) hb).trans g0, (World.cell?_of_block (a := ⟨bA, offA + k * 5 + 1, none⟩) hb).trans g1, (World.cell?_of_block (a := ⟨bA, offA + k * 5 + 2, none⟩) hb).trans g2, (World.cell?_of_block (a := ⟨bA, offA + k * 5 + 3, none⟩) hb).trans g3, (World.cell?_of_block (a := ⟨bA, offA + k * 5 + 4, none⟩) hb).trans g4⟩
  clear h hB hcl hab
  generalize hnn : ((q.length : Int) - 1) = nn at *
  go_enter Tryz.func27, Tryz.ntmps27
  go_wp2_with fail
  go_loopw [3] (fun iv wr => ∃ k : Nat, k ≤ A.length ∧ iv = .int .i64 (k : Int) ∧ MqR w m lv (.slice aa q.length capa) (.slice at0 A.length capt) (actsQ most same nn (A.take k) (L, v)).1 most (actsQ most same nn (A.take k) (L, v)).2 q same false wr) (fun iv _ => A.length - (intOf iv).toNat)
  case atStart => exact ⟨0, Nat.zero_le _, rfl, MqR.refl HM.out⟩
  case round =>
    obtain ⟨k, hk, rfl, hR⟩ := hrel
    obtain ⟨x4, x6, _⟩ := hR.cells
    by_cases hlt : k < A.length
    · have t1 : (k : Int) < (A.length : Int) := by omega
      have e5 : IntKind.i64.wrap ((k : Int) + 1) = ((k + 1 : Nat) : Int) := by rw [i64_small (by omega) (by omega)]; omega
      obtain ⟨hat, c0, c1, c2, c3, c4⟩ := HA.out wr _ _ _ hR k hlt
      have hat' := hat
      subst hat'
      have hF := actsQ_few most same nn (A.take k) (L, v)
      have hTK := actsQ_take (most := most) (same := same) (n := nn) hlt (L, v)
      have hAk : (A.take k).length ≤ 1000 := by rw [List.length_take]; omega
      generalize actsQ most same nn (A.take k) (L, v) = st at *
      obtain ⟨L1, v1⟩ := st
      generalize hac : A.getD k default = ac at *
      obtain ⟨ask, kind, hash, key, value⟩ := ac
      simp only at c0 c1 c2 c3 c4 hF hTK hR
      obtain ⟨W0, hW0⟩ : ∃ V, wr.alloc (.cells #[.int .i64 ask, .int .i64 kind, .int .i64 hash, .int .i64 key, .int .i64 value] 84) = V := ⟨_, rfl⟩
      have hb0 : Below wr.heap.size wr W0 := by rw [← hW0]; exact (Below.refl _ wr).alloc (Nat.le_refl _) _
      have hT0 : Blk W0 wr.heap.size 5 (fun j => #[Value.int .i64 ask, .int .i64 kind, .int .i64 hash, .int .i64 key, .int .i64 value].getD j .nilFunc) := by rw [← hW0]; exact Blk.new wr _ _
      have hR0 := hR.below hb0
      have HR0 := Lib.hid hR0
      have HTK := Lib.hid hTK
      have HW0 := Lib.hid hW0
      have y0 : W0.cell? ⟨wr.heap.size, 0, none⟩ = some (.int .i64 ask) := hT0.c 0 (by omega)
      have lmw : m < wr.heap.size := by
        obtain ⟨_, _, r1, _, _⟩ := hR
        exact r1.hd.lt (by omega)
      have nmT : wr.heap.size ≠ m := by omega
      obtain ⟨u4, u6, u6z, u2, u2z, u0z, al, nl, capl, u0⟩ := hR0.cells
      have HT0 := Lib.hid hT0
      clear hR hR0 hTK hat hW0 hb0 hT0
      by_cases hask : ask = nn
      · have hne : (ask != nn) = false := by simp [hask]
        rw [if_pos hask] at HTK
        clear hask
        obtain ⟨W1, hW1⟩ : ∃ V, W0.setCell ⟨m, 6, none⟩ (.bool true) = V := ⟨_, rfl⟩
        have hR1 : MqR w m lv (.slice aa q.length capa) (.slice (some ⟨bA, offA, none⟩) A.length capt) L1 most v1 q same true W1 := by rw [← hW1]; exact HR0.out.setI true
        have hT1 : Blk W1 wr.heap.size 5 (fun j => #[Value.int .i64 ask, .int .i64 kind, .int .i64 hash, .int .i64 key, .int .i64 value].getD j .nilFunc) := by rw [← hW1]; exact HT0.out.same (Below.heap_setCell W0 ⟨m, 6, none⟩ _ _ nmT)
        have p1 : W1.cell? ⟨wr.heap.size, 1, none⟩ = some (.int .i64 kind) := hT1.c 1 (by omega)
        have p2 : W1.cell? ⟨wr.heap.size, 2, none⟩ = some (.int .i64 hash) := hT1.c 2 (by omega)
        have p3 : W1.cell? ⟨wr.heap.size, 3, none⟩ = some (.int .i64 key) := hT1.c 3 (by omega)
        have p4 : W1.cell? ⟨wr.heap.size, 4, none⟩ = some (.int .i64 value) := hT1.c 4 (by omega)
        obtain ⟨_, n6, n6z, n2, n2z, n0z, al1, nl1, capl1, n0⟩ := hR1.cells
        have HR1 := Lib.hid hR1
        have HW1 := Lib.hid hW1
        clear hR1 hT1 hW1
        go_upto_region 5 with fail
        rw [HW0.out]
        go_upto_region 7 with fail
        rw [HW1.out]
        by_cases hk1 : kind = 1
        · subst hk1
          have CP : Calls Tryz.prog 6 #[.pointer (some ⟨m, 0, none⟩), .agg #[.int .i64 2, .int .i64 hash, .int .i64 key, .int .i64 value]] W1 fun e w' => ∃ u, e = .returned (.tuple #[tuV u, .bool true]) ∧ MqR w m lv (.slice aa q.length capa) (.slice (some ⟨bA, offA, none⟩) A.length capt) (callQ most same ⟨2, hash, key, value⟩ (L1, v1)).2.1 most (callQ most same ⟨2, hash, key, value⟩ (L1, v1)).2.2 q same true w' := HR1.out.callI (by omega) (by omega) ⟨2, hash, key, value⟩
          go_wp2_with fail
          refine CP.mono ?_
          rintro e W2 ⟨u, rfl, hR2⟩
          obtain ⟨_, m6, m6z, _⟩ := hR2.cells
          have HR3 := Lib.hid (hR2.setI false)
          clear CP hR2
          go_wp2_with fail
          go_roundw
          case rel => exact ⟨k + 1, by omega, by first | rfl | go_num, by rw [HTK.out]; exact HR3.out⟩
          case measure => simp [intOf]; omega
        · have hf1 : (kind == 1) = false := by rw [beq_eq_false_iff_ne]; exact hk1
          by_cases hk2 : kind = 2
          · subst hk2
            have CP : Calls Tryz.prog 6 #[.pointer (some ⟨m, 0, none⟩), .agg #[.int .i64 3, .int .i64 hash, .int .i64 key, .int .i64 0]] W1 fun e w' => ∃ u, e = .returned (.tuple #[tuV u, .bool true]) ∧ MqR w m lv (.slice aa q.length capa) (.slice (some ⟨bA, offA, none⟩) A.length capt) (callQ most same ⟨3, hash, key, 0⟩ (L1, v1)).2.1 most (callQ most same ⟨3, hash, key, 0⟩ (L1, v1)).2.2 q same true w' := HR1.out.callI (by omega) (by omega) ⟨3, hash, key, 0⟩
            go_wp2_with fail
            refine CP.mono ?_
            rintro e W2 ⟨u, rfl, hR2⟩
            obtain ⟨_, m6, m6z, _⟩ := hR2.cells
            have HR3 := Lib.hid (hR2.setI false)
            clear CP hR2
            go_wp2_with fail
            go_roundw
            case rel => exact ⟨k + 1, by omega, by first | rfl | go_num, by rw [HTK.out]; exact HR3.out⟩
            case measure => simp [intOf]; omega
          · have hf2 : (kind == 2) = false := by rw [beq_eq_false_iff_ne]; exact hk2
            by_cases hk3 : kind = 3
            · subst hk3
              have ev := vwrap (v := v1) (by omega)
              have HR3 := Lib.hid ((HR1.out.setN).setI false)
              go_wp2_with fail
              go_roundw
              case rel => exact ⟨k + 1, by omega, by first | rfl | go_num, by rw [HTK.out]; exact HR3.out⟩
              case measure => simp [intOf]; omega
            · have hf3 : (kind == 3) = false := by rw [beq_eq_false_iff_ne]; exact hk3
              have HR3 := Lib.hid (HR1.out.setI false)
              have hAQ : actQ most same ⟨ask, kind, hash, key, value⟩ (L1, v1) = (L1, v1) := by
                unfold actQ
                simp only
                rw [if_neg hk1, if_neg hk2, if_neg hk3]
              have HAQ := Lib.hid hAQ
              clear hAQ
              go_wp2_with fail
              go_roundw
              case rel => exact ⟨k + 1, by omega, by first | rfl | go_num, by rw [HTK.out, HAQ.out]; exact HR3.out⟩
              case measure => simp [intOf]; omega
      · have hne : (ask != nn) = true := by simp [hask]
        rw [if_neg hask] at HTK
        go_upto_region 5 with fail
        rw [HW0.out]
        go_wp2_with fail
        go_roundw
        case rel => exact ⟨k + 1, by omega, by first | rfl | go_num, by rw [HTK.out]; exact HR0.out⟩
        case measure => simp [intOf]; omega
    · have t1 : ¬ (k : Int) < (A.length : Int) := by omega
      obtain rfl : k = A.length := by omega
      rw [List.take_length] at hR
      have HR := Lib.hid hR
      clear hR
      go_wp2_with fail
      go_end0
      exact ⟨rfl, HR.out⟩
end Go.Proofs.YtbpflmdefpjcaaaGreat
namespace Go.Proofs.YtbpflmdefpjcaaaGreat
open Go.RowKit Go.WideShapes

def rqF (d : Nat) (av tv : Value) (same : Int) (inner : Bool) : Nat → Value
  | 0 => .pointer (some ⟨d, 0, none⟩)
  | 1 => av
  | 2 => tv
  | 3 => .int .i64 same
  | 4 => .bool inner
  | _ => .bool false
def rqX (r d g gi rr h : Nat) (ev av : Value) (k : Nat) : Prop := k = r ∨ av.ownBlock = some k ∨ cX d g gi rr h ev k
structure Rq (w : World) (r d g gi rr h : Nat) (ev av tv : Value) (t : Tb) (most v : Nat) (q : List Int) (same : Int) (inner : Bool) : Prop where
  hd : Blk w r 6 (rqF d av tv same inner)
  ask : IntsR 0 w av q
  dc : Dc w d g gi rr h ev t (.pointer none) (most : Int) v
  na : ∀ k, av.ownBlock = some k → k ≠ r ∧ ¬ cX d g gi rr h ev k
  nr : ¬ cX d g gi rr h ev r
  bd : t.births ≤ v ∧ t.turn ≤ v ∧ t.made ≤ v + 1
theorem Rq.same {w w' : World} {r d g gi rr h : Nat} {ev av tv : Value} {t : Tb} {most v : Nat} {q : List Int} {same : Int} {inner : Bool} (x : Rq w r d g gi rr h ev av tv t most v q same inner) (e : ∀ k, rqX r d g gi rr h ev av k → w'.heap[k]? = w.heap[k]?) : Rq w' r d g gi rr h ev av tv t most v q same inner :=
  ⟨x.hd.same (e _ (.inl rfl)), x.ask.same8 fun k hk => e k (.inr (.inl hk)), x.dc.same fun k hk => e k (.inr (.inr hk)), x.na, x.nr, x.bd⟩
theorem Rq.lt {w : World} {r d g gi rr h : Nat} {ev av tv : Value} {t : Tb} {most v : Nat} {q : List Int} {same : Int} {inner : Bool} (x : Rq w r d g gi rr h ev av tv t most v q same inner) : ∀ k, rqX r d g gi rr h ev av k → k < w.heap.size := by
  rintro k (rfl | y | y)
  · exact x.hd.lt (by omega)
  · exact x.ask.lt8 k y
  · exact x.dc.lt k y
theorem Rq.below {w w' : World} {r d g gi rr h : Nat} {ev av tv : Value} {t : Tb} {most v : Nat} {q : List Int} {same : Int} {inner : Bool} (x : Rq w r d g gi rr h ev av tv t most v q same inner) (hb : Below w.heap.size w w') : Rq w' r d g gi rr h ev av tv t most v q same inner := x.same fun k hk => hb.block k (x.lt k hk)
/-- What a call leaves of it. -/
structure RqR (w : World) (r d g gi rr h : Nat) (ev av tv : Value) (t : Tb) (most v : Nat) (same : Int) (L' : List Pq) (v' : Nat) (q' : List Int) (inner' : Bool) (w' : World) (gi' rr' h' : Nat) (ev' av' : Value) (t' : Tb) : Prop where
  rq : Rq w' r d g gi' rr' h' ev' av' tv t' most v' q' same inner'
  pq : pqs t'.es = L'
  sm : v' = v → t' = t
  vl : v ≤ v'
  fx : ∀ k, rqX r d g gi' rr' h' ev' av' k → rqX r d g gi rr h ev av k ∨ w.heap.size ≤ k
  ex : Ex (rqX r d g gi rr h ev av) w w'
theorem RqR.refl {w : World} {r d g gi rr h : Nat} {ev av tv : Value} {t : Tb} {most v : Nat} {q : List Int} {same : Int} {inner : Bool} (x : Rq w r d g gi rr h ev av tv t most v q same inner) : RqR w r d g gi rr h ev av tv t most v same (pqs t.es) v q inner w gi rr h ev av t := ⟨x, rfl, fun _ => rfl, Nat.le_refl _, fun _ hk => .inl hk, Ex.refl _ _⟩
theorem RqR.trans {w w1 w2 : World} {r d g gi rr h gi1 rr1 h1 gi2 rr2 h2 : Nat} {ev av ev1 av1 ev2 av2 tv : Value} {t t1 t2 : Tb} {most v v1 v2 : Nat} {q1 q2 : List Int} {same : Int} {i1 i2 : Bool} {L1 L2 : List Pq} (a : RqR w r d g gi rr h ev av tv t most v same L1 v1 q1 i1 w1 gi1 rr1 h1 ev1 av1 t1) (b : RqR w1 r d g gi1 rr1 h1 ev1 av1 tv t1 most v1 same L2 v2 q2 i2 w2 gi2 rr2 h2 ev2 av2 t2) : RqR w r d g gi rr h ev av tv t most v same L2 v2 q2 i2 w2 gi2 rr2 h2 ev2 av2 t2 :=
  ⟨b.rq, b.pq, fun e => by
    have e1 : v2 = v1 := by have := a.vl; have := b.vl; omega
    have e2 : v1 = v := by omega
    exact (b.sm e1).trans (a.sm e2), Nat.le_trans a.vl b.vl, fun k hk => (b.fx k hk).elim (a.fx k) (fun y => .inr (Nat.le_trans a.ex.size y)), a.ex.next b.ex (fun k hl hk => (a.fx k hk).elim id (fun y => by omega))⟩
theorem RqR.below {w w1 w2 : World} {r d g gi rr h gi1 rr1 h1 : Nat} {ev av ev1 av1 tv : Value} {t t1 : Tb} {most v v1 : Nat} {q1 : List Int} {same : Int} {i1 : Bool} {L1 : List Pq} (a : RqR w r d g gi rr h ev av tv t most v same L1 v1 q1 i1 w1 gi1 rr1 h1 ev1 av1 t1) (hb : Below w1.heap.size w1 w2) : RqR w r d g gi rr h ev av tv t most v same L1 v1 q1 i1 w2 gi1 rr1 h1 ev1 av1 t1 := ⟨a.rq.below hb, a.pq, a.sm, a.vl, a.fx, a.ex.next (ex_of (X := fun _ => False) hb) (fun _ _ y => y.elim)⟩
theorem RqR.old {w w0 w1 : World} {r d g gi rr h gi1 rr1 h1 : Nat} {ev av ev1 av1 tv : Value} {t t1 : Tb} {most v v1 : Nat} {q1 : List Int} {same : Int} {i1 : Bool} {L1 : List Pq} (a : RqR w0 r d g gi rr h ev av tv t most v same L1 v1 q1 i1 w1 gi1 rr1 h1 ev1 av1 t1) (hb : Below w.heap.size w w0) : RqR w r d g gi rr h ev av tv t most v same L1 v1 q1 i1 w1 gi1 rr1 h1 ev1 av1 t1 := ⟨a.rq, a.pq, a.sm, a.vl, fun k hk => (a.fx k hk).elim .inl (fun y => .inr (Nat.le_trans hb.size y)), (ex_of hb).next a.ex (fun _ _ y => y)⟩
/-- Blocks that are none of its were written. -/
theorem RqR.mod {w w1 w2 : World} {r d g gi rr h gi1 rr1 h1 : Nat} {ev av ev1 av1 tv : Value} {t t1 : Tb} {most v v1 : Nat} {q1 : List Int} {same : Int} {i1 : Bool} {L1 : List Pq} {Y : Nat → Prop} (a : RqR w r d g gi rr h ev av tv t most v same L1 v1 q1 i1 w1 gi1 rr1 h1 ev1 av1 t1) (y : Ex Y w1 w2) (hY : ∀ k, Y k → w.heap.size ≤ k ∧ ¬ rqX r d g gi1 rr1 h1 ev1 av1 k) : RqR w r d g gi rr h ev av tv t most v same L1 v1 q1 i1 w2 gi1 rr1 h1 ev1 av1 t1 :=
  ⟨a.rq.same fun k hk => y.block k (a.rq.lt k hk) (fun e => (hY k e).2 hk), a.pq, a.sm, a.vl, a.fx, a.ex.next y (fun k hl hk => by have := (hY k hk).1; omega)⟩
/-- The dictionary changed by a machine's step. -/
theorem RqR.cm {w w' : World} {r d g gi rr h gi' rr' h' : Nat} {ev av ev' tv : Value} {t t' : Tb} {most v v' : Nat} {q : List Int} {same : Int} {inner : Bool} {x : Nat} {sv : Value} {a b : Int} (p : Rq w r d g gi rr h ev av tv t most v q same inner) (c : Cm w d g gi rr h ev (.pointer none) noM x sv a b (most : Int) v' t' w' gi' rr' h' ev') (hx : ¬ rqX r d g gi rr h ev av x) (hs : ∀ k, mB sv k → ¬ rqX r d g gi rr h ev av k) (hbd : t'.births ≤ v' ∧ t'.turn ≤ v' ∧ t'.made ≤ v' + 1) :
    Rq w' r d g gi' rr' h' ev' av tv t' most v' q same inner ∧ (∀ k, rqX r d g gi' rr' h' ev' av k → rqX r d g gi rr h ev av k ∨ w.heap.size ≤ k) ∧ Ex (fun k => rqX r d g gi rr h ev av k ∨ k = x ∨ mB sv k) w w' := by
  have hX : ∀ k, k < w.heap.size → ¬ cX d g gi rr h ev k → ¬ cX d g gi' rr' h' ev' k := fun k hl hn hc => by
    rcases hc with y | y
    · exact hn (.inl y)
    · rcases c.fx k y with z | z
      · exact hn (.inr z)
      · omega
  have nb : ∀ k, k < w.heap.size → rqX r d g gi rr h ev av k → ¬ cX d g gi rr h ev k → w'.heap[k]? = w.heap[k]? := fun k hl hk hn => c.ex.block k hl (fun y => by
    rcases y with y | y | y | y
    · exact hn y
    · exact noneB y
    · exact hx (y ▸ hk)
    · exact hs k y hk)
  have lr := p.hd.lt (by omega)
  refine ⟨⟨p.hd.same (nb r lr (.inl rfl) p.nr), p.ask.same8 fun k hk => nb k (p.ask.lt8 k hk) (.inr (.inl hk)) (p.na k hk).2, c.dc, fun k hk => ⟨(p.na k hk).1, hX k (p.ask.lt8 k hk) (p.na k hk).2⟩, hX r lr p.nr, hbd⟩, fun k hk => ?_, ?_⟩
  · rcases hk with y | y | y | y
    · exact .inl (.inl y)
    · exact .inl (.inr (.inl y))
    · exact .inl (.inr (.inr (.inl y)))
    · rcases c.fx k y with z | z
      · exact .inl (.inr (.inr (.inr z)))
      · exact .inr z
  · exact c.ex.mono fun k _ y => by
      rcases y with y | y | y | y
      · exact .inl (.inr (.inr y))
      · exact (noneB y).elim
      · exact .inr (.inl y)
      · exact .inr (.inr y)
set_option maxRecDepth 100000 in
set_option maxHeartbeats 4000000 in
theorem rone_any {w : World} {r : Nat} {same : Int} (x3 : w.cell? ⟨r, 3, none⟩ = some (.int .i64 same)) (a b : Int) :
    Calls Tryz.prog 19 #[.pointer (some ⟨r, 0, none⟩), .int .i64 a, .int .i64 b] w fun e w' => e = .returned (.bool (oneQ same a b)) ∧ Below w.heap.size w w' := by
  obtain ⟨w1, hw1⟩ : ∃ V, w.alloc (.cells #[.slice none 0 0, .int .i64 0, .int .i64 0, .slice none 0 0, .slice none 0 0, .int .i64 same, .bool false] 36) = V := ⟨_, rfl⟩
  have hb1 : Below w.heap.size w w1 := by rw [← hw1]; exact (Below.refl _ w).alloc (Nat.le_refl _) _
  have hB1 : Blk w1 w.heap.size 7 (fun j => #[Value.slice none 0 0, .int .i64 0, .int .i64 0, .slice none 0 0, .slice none 0 0, .int .i64 same, .bool false].getD j .nilFunc) := by rw [← hw1]; exact Blk.new w _ _
  have C1 := mone_any (w := w1) (m := w.heap.size) (same := same) (hB1.c 5 (by omega)) a b
  have HB := Lib.hid hb1
  have HW1 := Lib.hid hw1
  clear hb1 hB1 hw1
  go_enter Tryz.func19, Tryz.ntmps19
  go_upto_region 2 with fail
  rw [HW1.out]
  go_wp2_with fail
  refine C1.mono ?_
  rintro e w2 ⟨rfl, rfl⟩
  clear C1
  go_wp2_with fail
  go_ret
  exact ⟨rfl, HB.out⟩
end Go.Proofs.YtbpflmdefpjcaaaGreat
namespace Go.Proofs.YtbpflmdefpjcaaaGreat
open Go.RowKit Go.WideShapes

theorem pqs_getD {es : List En} {i : Nat} (h : i < (liveL es).length) : (pqs es).getD i default = pqE (nth (liveL es) i) := by
  rw [List.getD_eq_getElem?_getD, pqs_at h]
  rfl
/-- The next pair of the hash, or none. -/
theorem FdQ.next {most : Nat} {same : Int} {A : List Ac} {c : Cq} {es : List En} {v : Nat} {q : List Int} {i sc a : Nat} {L L' : List Pq} {v' : Nat} {q' : List Int} {k : Nat} (h : FdQ most same A c L v q i sc a L' v' q' k) (hL : L = pqs es) {told : Int} (hU : Upto es c.hash told i) :
    ((∀ n, Of es c.hash n → (n : Int) ≤ told) ∧ a = L.length ∧ L' = L ∧ v' = v ∧ q' = q ∧ k = 0) ∨
    ∃ i', i' < L.length ∧ (L.getD i' default).hash = c.hash ∧ Upto es c.hash told i' ∧ FdQ most same A c L v q i' sc a L' v' q' k := by
  induction h with
  | @over L v q i sc hi =>
    refine .inl ⟨fun n hn => ?_, rfl, rfl, rfl, rfl, rfl⟩
    have h1 := hU n hn
    have h2 := (lpos_nth hn.1 hn.2.1).2
    rw [hL, pqs_len] at hi
    omega
  | @skip L v q i sc a L' v' q' k hi hh hF ih =>
    refine ih hL (upto_skip hU fun e => hh ?_)
    rw [hL, pqs_getD (by rw [hL, pqs_len] at hi; exact hi)]
    exact e
  | @here L v q i sc hi hh hk => exact .inr ⟨i, hi, hh, hU, .here hi hh hk⟩
  | @yes L v q i sc hi hh hk ha ho => exact .inr ⟨i, hi, hh, hU, .yes hi hh hk ha ho⟩
  | @no L v q i sc a L' v' q' k hi hh hk ha ho hF ih => exact .inr ⟨i, hi, hh, hU, .no hi hh hk ha ho hF⟩
  | @anew L v q i sc L1 v1 a L' v' q' k hi hh hk ha hv hs hF ih => exact .inr ⟨i, hi, hh, hU, .anew hi hh hk ha hv hs hF⟩
theorem FdQ.key {most : Nat} {same : Int} {A : List Ac} {c : Cq} {v : Nat} {q : List Int} {i sc a : Nat} {L L' : List Pq} {v' : Nat} {q' : List Int} {k : Nat} (h : FdQ most same A c L v q i sc a L' v' q' k) (hi : i < L.length) (hh : (L.getD i default).hash = c.hash) (hk : (L.getD i default).key = c.key) : a = i ∧ L' = L ∧ v' = v ∧ q' = q ∧ k = 0 := by
  cases h with
  | over h => omega
  | skip _ h => exact absurd hh h
  | here => exact ⟨rfl, rfl, rfl, rfl, rfl⟩
  | yes _ _ h => exact absurd hk h
  | no _ _ h => exact absurd hk h
  | anew _ _ h => exact absurd hk h
theorem FdQ.ask {most : Nat} {same : Int} {A : List Ac} {c : Cq} {v : Nat} {q : List Int} {i sc a : Nat} {L L' : List Pq} {v' : Nat} {q' : List Int} {k : Nat} (h : FdQ most same A c L v q i sc a L' v' q' k) (hi : i < L.length) (hh : (L.getD i default).hash = c.hash) (hk : (L.getD i default).key ≠ c.key) :
    ∃ L1 v1 k1, actsQ most same (q.length : Int) A (L, v) = (L1, v1) ∧ k = k1 + 1 ∧
      ((v1 = v ∧ L1 = L ∧ oneQ same (L.getD i default).key c.key = true ∧ k1 = 0 ∧ a = i ∧ L' = L ∧ v' = v ∧ q' = q ++ [(L.getD i default).key]) ∨
       (v1 = v ∧ L1 = L ∧ oneQ same (L.getD i default).key c.key = false ∧ FdQ most same A c L v (q ++ [(L.getD i default).key]) (i + 1) sc a L' v' q' k1) ∨
       (v1 ≠ v ∧ sc + 1 < 20 ∧ FdQ most same A c L1 v1 (q ++ [(L.getD i default).key]) 0 (sc + 1) a L' v' q' k1)) := by
  cases h with
  | over h => omega
  | skip _ h => exact absurd hh h
  | here _ _ h => exact absurd h hk
  | yes _ _ _ ha ho => exact ⟨L, v, 0, ha, rfl, .inl ⟨rfl, rfl, ho, rfl, rfl, rfl, rfl, rfl⟩⟩
  | no _ _ _ ha ho hF => exact ⟨L, v, _, ha, rfl, .inr (.inl ⟨rfl, rfl, ho, hF⟩)⟩
  | anew _ _ _ ha hv hs hF => exact ⟨_, _, _, ha, rfl, .inr (.inr ⟨hv, hs, hF⟩)⟩
theorem actsQ_nil (most : Nat) (same n : Int) (s : List Pq × Nat) : actsQ most same n [] s = s := rfl
/-- Where nobody acts. -/
theorem FdQ.calm {most : Nat} {same : Int} {c : Cq} {L : List Pq} {v : Nat} : ∀ {m i : Nat} {q : List Int}, L.length - i = m → i ≤ L.length → (∀ j, j < i → hitQ same c (L.getD j default) = false) → ∃ q' k, FdQ most same [] c L v q i 0 (findQ same c L) L v q' k ∧ k ≤ m := by
  have at_ : ∀ {i : Nat}, i < L.length → hitQ same c (L.getD i default) = true → (∀ j, j < i → hitQ same c (L.getD j default) = false) → findQ same c L = i := fun hi h hn => by
    unfold findQ
    rw [List.findIdx_eq hi]
    have e : ∀ (j : Nat) (hj : j < L.length), L.getD j default = L[j] := fun j hj => by
      rw [List.getD_eq_getElem?_getD, List.getElem?_eq_getElem hj]
      rfl
    refine ⟨by rw [← e _ hi]; exact h, fun j hji => ?_⟩
    have := hn j hji
    rw [e j (by omega)] at this
    simpa using this
  intro m
  induction m with
  | zero =>
    intro i q hm hi hn
    have hil : i = L.length := by omega
    have hf : findQ same c L = L.length := by
      unfold findQ
      rw [List.findIdx_eq_length]
      intro x hx
      obtain ⟨j, hj, rfl⟩ := List.getElem_of_mem hx
      have := hn j (by omega)
      rw [List.getD_eq_getElem?_getD, List.getElem?_eq_getElem hj] at this
      exact this
    rw [hf]
    exact ⟨q, 0, .over (by omega), Nat.le_refl _⟩
  | succ m ih =>
    intro i q hm hi hn
    have hlt : i < L.length := by omega
    have step : hitQ same c (L.getD i default) = false → ∀ j, j < i + 1 → hitQ same c (L.getD j default) = false := fun h j hj => by
      rcases Nat.lt_or_ge j i with y | y
      · exact hn j y
      · obtain rfl : j = i := by omega
        exact h
    by_cases hh : (L.getD i default).hash = c.hash
    · by_cases hk : (L.getD i default).key = c.key
      · have h1 : hitQ same c (L.getD i default) = true := by unfold hitQ; rw [hh, hk, oneQ_refl]; simp
        rw [at_ hlt h1 hn]
        exact ⟨q, 0, .here hlt hh hk, Nat.zero_le _⟩
      · by_cases ho : oneQ same (L.getD i default).key c.key = true
        · have h1 : hitQ same c (L.getD i default) = true := by unfold hitQ; rw [hh, ho]; simp
          rw [at_ hlt h1 hn]
          exact ⟨_, 1, .yes hlt hh hk (actsQ_nil _ _ _ _) ho, by omega⟩
        · have ho' : oneQ same (L.getD i default).key c.key = false := by simpa using ho
          have h1 : hitQ same c (L.getD i default) = false := by unfold hitQ; rw [ho']; simp
          obtain ⟨q', k, h, hle⟩ := ih (i := i + 1) (q := q ++ [(L.getD i default).key]) (by omega) (by omega) (step h1)
          exact ⟨q', k + 1, .no hlt hh hk (actsQ_nil _ _ _ _) ho' h, by omega⟩
    · have h1 : hitQ same c (L.getD i default) = false := by
        unfold hitQ
        rw [beq_eq_false_iff_ne.2 hh]
        rfl
      obtain ⟨q', k, h, hle⟩ := ih (i := i + 1) (q := q) (by omega) (by omega) (step h1)
      exact ⟨q', k, .skip hlt hh h, by omega⟩
end Go.Proofs.YtbpflmdefpjcaaaGreat
namespace Go.Proofs.YtbpflmdefpjcaaaGreat
open Go.RowKit Go.WideShapes

theorem hit_end {most v : Nat} {c : Cq} {m : Ma} {t : Tb} {n : Nat} (hn : n < t.es.length) (hl : (nth t.es n).live = true) (hg : m.goal = c.goal) (hv : m.value = c.value) (hb : t.births ≤ v ∧ t.turn ≤ v ∧ t.made ≤ v + 1) :
    endQ most c (pqs t.es, v) (lpos t.es n) = (⟨2, 0, true, (nth t.es n).value, 0⟩, pqs (hitT m t n).es, hitN c.goal v) ∧ (hitT m t n).births ≤ hitN c.goal v ∧ (hitT m t n).turn ≤ hitN c.goal v ∧ (hitT m t n).made ≤ hitN c.goal v + 1 ∧ (hitN c.goal v = v → hitT m t n = t) ∧ v ≤ hitN c.goal v := by
  obtain ⟨e1, e2⟩ := lpos_nth hn hl
  have hg0 : (pqs t.es).getD (lpos t.es n) default = pqE (nth t.es n) := by rw [pqs_getD e2, e1]
  have hlt : lpos t.es n < (pqs t.es).length := by rw [pqs_len]; exact e2
  unfold endQ hitT hitN
  simp only [hlt, if_true, hg0, hg, hv]
  by_cases h2 : c.goal = 2
  · rw [if_pos h2, if_pos h2, if_pos (.inl h2)]
    refine ⟨?_, ?_⟩
    · rw [pqs_putv hn hl]
      rfl
    · show t.births ≤ _ ∧ t.turn ≤ _ ∧ t.made ≤ _ ∧ _
      exact ⟨by omega, by omega, by omega, fun h => by omega, by omega⟩
  · rw [if_neg h2, if_neg h2]
    by_cases h3 : c.goal = 3
    · rw [if_pos h3, if_pos h3, if_pos (.inr h3)]
      refine ⟨?_, ?_⟩
      · rw [pqs_kill hn hl]
        rfl
      · show t.births ≤ _ ∧ t.turn + 1 ≤ _ ∧ t.made ≤ _ ∧ _
        exact ⟨by omega, by omega, by omega, fun h => by omega, by omega⟩
    · rw [if_neg h3, if_neg h3, if_neg (by omega)]
      exact ⟨rfl, hb.1, hb.2.1, hb.2.2, fun _ => rfl, Nat.le_refl _⟩
theorem two_one : (2 : Int) ≠ 1 := by decide
theorem three_one : (3 : Int) ≠ 1 := by decide
/-- What is left of the model's scan when a machine is stepped. -/
def Rdy (most : Nat) (same : Int) (A : List Ac) (c : Cq) (a : Nat) (L' : List Pq) (v' : Nat) (q' : List Int) (k : Nat) (w : World) (d g gi rr h : Nat) (ev : Value) (t : Tb) (v : Nat) (q : List Int) (x : Nat) (sv : Value) (m : Ma) : Prop :=
  (∃ i sc told, FdQ most same A c (pqs t.es) v q i sc a L' v' q' k ∧ Upto t.es c.hash told i ∧ (((m.scans = 0 ∨ m.ver ≠ v) ∧ told = -1) ∨ (m.scans ≠ 0 ∧ m.ver = v ∧ m.same = false ∧ ∃ s j f, sv = .pointer (some ⟨s, 0, none⟩) ∧ Sw w d g gi rr h ev t (.pointer none) x s m.hash j told f))) ∨
  (k = 0 ∧ L' = pqs t.es ∧ v' = v ∧ q' = q ∧ m.scans ≠ 0 ∧ m.ver = v ∧ m.same = true ∧ ∃ (n s j : Nat), m.asked = (n : Int) ∧ n < t.es.length ∧ (nth t.es n).live = true ∧ lpos t.es n = a ∧ sv = .pointer (some ⟨s, 0, none⟩) ∧ Vi w s j ∧ ¬ cX d g gi rr h ev s ∧ s ≠ x)
/-- The machine itself. -/
structure Mr (w : World) (r d g gi rr h : Nat) (ev av : Value) (c : Cq) (x : Nat) (sv : Value) (m : Ma) : Prop where
  mc : Mc w x sv d m
  goal : m.goal = c.goal
  hash : m.hash = c.hash
  key : m.key = c.key
  value : m.value = c.value
  nx : ¬ rqX r d g gi rr h ev av x
  ns : ∀ k, mB sv k → ¬ rqX r d g gi rr h ev av k ∧ k < w.heap.size
  sc : m.scans ≤ 100000
  ver : m.ver ≤ 100000
/-- A step that ends. -/
def Dn8 (most : Nat) (same : Int) (c : Cq) (a : Nat) (L' : List Pq) (v' : Nat) (q' : List Int) (w : World) (r d g gi rr h : Nat) (ev av tv : Value) (t : Tb) (v : Nat) (q q0 : List Int) (inner : Bool) (x : Nat) (sv : Value) (u : Tu) (w' : World) : Prop :=
  u.kind ≠ 1 ∧ (⟨u.kind, u.key, u.found, u.value, 0⟩ : Tu) = (endQ most c (L', v') a).1 ∧ q' = q ∧ ∃ gi' rr' h' ev' t', Rq w' r d g gi' rr' h' ev' av tv t' most (endQ most c (L', v') a).2.2 q0 same inner ∧ pqs t'.es = (endQ most c (L', v') a).2.1 ∧ ((endQ most c (L', v') a).2.2 = v → t' = t) ∧ v ≤ (endQ most c (L', v') a).2.2 ∧ (∀ k, rqX r d g gi' rr' h' ev' av k → rqX r d g gi rr h ev av k ∨ w.heap.size ≤ k) ∧ Ex (fun k => rqX r d g gi rr h ev av k ∨ k = x ∨ mB sv k) w w' ∧ ∃ s j m', Mc w' x (.pointer (some ⟨s, 0, none⟩)) d m' ∧ Vi w' s j
/-- A step that asks. -/
def As8 (most : Nat) (same : Int) (A : List Ac) (c : Cq) (a : Nat) (L' : List Pq) (v' : Nat) (q' : List Int) (k : Nat) (w : World) (r d g gi rr h : Nat) (ev av tv : Value) (t : Tb) (v : Nat) (q q0 : List Int) (inner : Bool) (x : Nat) (sv : Value) (m : Ma) (u : Tu) (w' : World) : Prop :=
  ∃ (n i sc s j f : Nat) (m1 : Ma), u = ⟨1, ((pqs t.es).getD i default).key, false, 0, 0⟩ ∧ i < (pqs t.es).length ∧ ((pqs t.es).getD i default).hash = c.hash ∧ ((pqs t.es).getD i default).key ≠ c.key ∧ FdQ most same A c (pqs t.es) v q i sc a L' v' q' k ∧
    Rq w' r d g gi rr h ev av tv t most v q0 same inner ∧ Ex (fun k => rqX r d g gi rr h ev av k ∨ k = x ∨ mB sv k) w w' ∧ Mr w' r d g gi rr h ev av c x (.pointer (some ⟨s, 0, none⟩)) m1 ∧ m1.u = u ∧ m1.ver = v ∧ m1.scans ≠ 0 ∧ m1.scans ≤ m.scans + 1 ∧ m1.asked = (n : Int) ∧
    Sw w' d g gi rr h ev t (.pointer none) x s c.hash j (n : Int) f ∧ n < t.es.length ∧ (nth t.es n).live = true ∧ lpos t.es n = i ∧ Upto t.es c.hash (n : Int) (i + 1) ∧ (mB sv s ∨ w.heap.size ≤ s)
theorem real_step {most : Nat} {same : Int} {A : List Ac} {c : Cq} {a : Nat} {L' : List Pq} {v' : Nat} {q' : List Int} {k : Nat} {w : World} {r d g gi rr h : Nat} {ev av tv : Value} {t : Tb} {v : Nat} {q q0 : List Int} {inner : Bool} {x : Nat} {sv : Value} {m : Ma} (p : Rq w r d g gi rr h ev av tv t most v q0 same inner) (mm : Mr w r d g gi rr h ev av c x sv m) (hu : m.u.kind = 0) (hR : Rdy most same A c a L' v' q' k w d g gi rr h ev t v q x sv m) (hv : v ≤ 50000) (hsc : m.scans ≤ 50000) (hg : 1 ≤ c.goal ∧ c.goal ≤ 4) :
    Calls Tryz.prog 10 #[.pointer (some ⟨x, 0, none⟩)] w fun e w' => ∃ u, e = .returned (tuV u) ∧ (Dn8 most same c a L' v' q' w r d g gi rr h ev av tv t v q q0 inner x sv u w' ∨ As8 most same A c a L' v' q' k w r d g gi rr h ev av tv t v q q0 inner x sv m u w') := by
  obtain ⟨mmc, me1, me2, me3, me4, mnx, mns, msc, mver⟩ := mm
  obtain ⟨mg, mh, mk, mval, mv0, ms0, mu0, mas, msame⟩ := m
  simp only at me1 me2 me3 me4
  subst me1 me2 me3 me4
  have mm : Mr w r d g gi rr h ev av c x sv ⟨c.goal, c.hash, c.key, c.value, mv0, ms0, mu0, mas, msame⟩ := ⟨mmc, rfl, rfl, rfl, rfl, mnx, mns, msc, mver⟩
  obtain ⟨b1, b2, b3⟩ := p.bd
  have nX : ¬ cX d g gi rr h ev x := fun y => mm.nx (.inr (.inr y))
  have nS : ∀ k, mB sv k → ¬ rqX r d g gi rr h ev av k := fun k hk => (mm.ns k hk).1
  have hMx : Mx w d g gi rr h ev (.pointer none) x sv ⟨c.goal, c.hash, c.key, c.value, mv0, ms0, mu0, mas, msame⟩ := ⟨mm.mc, nX, fun y => noneB y⟩
  rcases hR with ⟨i, sc, told, hF, hU, hW⟩ | ⟨rfl, rfl, rfl, rfl, y1, y2, y3, n, s, j, y4, y5, y6, y7, y8, y9, y10, y11⟩
  case inr =>
    subst y8
    refine (step_told p.dc mtOk_nil (a := 0) (b := 0) trivial (by omega) (by omega) hMx hu (fun k hk => (mm.ns k hk).2) y1 y2 y3 n y4 y5 y6).mono ?_
    rintro e w' ⟨rfl, hC, hmc, hkeep⟩
    obtain ⟨e1, e2, e3, e4, e5, e6⟩ := hit_end (most := most) (c := c) (m := ⟨c.goal, c.hash, c.key, c.value, mv0, ms0, mu0, mas, msame⟩) y5 y6 rfl rfl p.bd
    obtain ⟨p', fx, ex⟩ := RqR.cm p hC mm.nx nS ⟨e2, e3, e4⟩
    refine ⟨_, rfl, .inl ⟨two_one, ?_, rfl, gi, rr, h, ev, hitT ⟨c.goal, c.hash, c.key, c.value, mv0, ms0, mu0, mas, msame⟩ t n, ?_, ?_, ?_, ?_, fx, ex, s, j, _, hmc, ?_⟩⟩
    · rw [← y7, e1]
    · rw [← y7, e1]; exact p'
    · rw [← y7, e1]
    · rw [← y7, e1]; exact e5
    · rw [← y7, e1]; exact e6
    · exact y9.same (hkeep s (mm.ns s rfl).2 y10 (fun y => noneB y) y11)
  case inl =>
    have hWay : Way w d g gi rr h ev t (.pointer none) v x sv ⟨c.goal, c.hash, c.key, c.value, mv0, ms0, mu0, mas, msame⟩ := by
      rcases hW with ⟨z, _⟩ | ⟨z1, z2, z3, s, j, f, z4, z5⟩
      · exact .inl z
      · exact .inr ⟨z1, z2, z3, s, j, told, f, z4, z5⟩
    refine (step_next p.dc mtOk_nil mvOk_nil (a := 0) (b := 0) trivial (by omega) (by decide) (by decide) (by omega) (by omega) (by omega) hMx hu (fun k hk => (mm.ns k hk).2) (by show ms0 ≤ 1000000; simp only at hsc; omega) (by show mv0 ≤ 1000000000; simp only at mver; omega) hWay).mono ?_
    rintro e w' ⟨u, s', i', told', f', sc', rfl, hS, q1⟩
    unfold St0 at hS
    simp only at hS hW
    -- the scan's own place
    have hst : told' = told ∧ sc' ≠ 0 ∧ sc' ≤ ms0 + 1 ∧ (mB sv s' ∨ w.heap.size ≤ s') ∧ f' < 2 ^ t.L + 13 := by
      rcases hS with ⟨z, _, z2, z3, z4, z5, _⟩ | ⟨⟨z0, z1⟩, z2, z3, z4⟩
      · rcases hW with ⟨_, y⟩ | ⟨y1, y2, _⟩
        · exact ⟨by rw [z2, y], by omega, by omega, .inr z4, z5⟩
        · rcases z with z | z
          · exact absurd z y1
          · exact absurd y2 z
      · rcases hW with ⟨y, _⟩ | ⟨y1, y2, _, s, j, f, y4, y5⟩
        · rcases y with y | y
          · exact absurd y z0
          · exact absurd z1 y
        · have es : s' = s := by rw [y4] at z2; cases z2; rfl
          subst es
          have h1 := y5.sk.c 6 (by omega)
          have h2 := z4.sk.c 6 (by omega)
          rw [h1] at h2
          injection h2 with h2
          injection h2 with _ h2
          exact ⟨h2.symm, by omega, by omega, .inl (by rw [y4]; rfl), z4.lt⟩
    obtain ⟨rfl, hsc0, hsc1, hsn, hfl⟩ := hst
    obtain ⟨j, hj1, hj2, hq⟩ := q1
    simp only at hq
    rcases hF.next rfl hU with ⟨o1, o2, o3, o4, o5, o6⟩ | ⟨ii, hii, hhi, hUi, hFi⟩
    · -- none is left
      rcases hq with ⟨n, h3, h4, _⟩ | ⟨h3, h4, h5, h6, h7⟩
      · have := o1 n h3; omega
      · have o4' := o4.symm
        have o5' := o5.symm
        subst o2 o3 o4' o5' o6
        have hlen : (pqs t.es).length = t.live := (live_pqs t).symm
        have hEnd : ¬ (pqs t.es).length < (pqs t.es).length := Nat.lt_irrefl _
        rcases h5 with ⟨g1, g2, g3, gi', rr', h', ev', g4, _⟩ | ⟨g1, g2, g3, gi', rr', h', ev', g4, _⟩ | ⟨g1, g3, gi', rr', h', ev', g4, _⟩
        · have hgg : ¬ (c.goal = 1 ∨ c.goal = 3) := by simp only at g1; omega
          have hfl2 : ¬ most ≤ (pqs t.es).length := by rw [hlen]; omega
          have hE : endQ most c (pqs t.es, v) (pqs t.es).length = (⟨2, 0, false, c.value, 0⟩, pqs t.es ++ [⟨c.hash, c.key, c.value⟩], v + 1) := by unfold endQ; rw [if_neg hEnd, if_neg hgg, if_neg hfl2]
          have ra := t.add_rest c.hash c.key c.value
          have r1 := ra.1
          have r2 := ra.2.2.1
          have r3 := ra.2.2.2
          obtain ⟨p', fx, ex⟩ := RqR.cm p g4 mm.nx nS ⟨by simp only; omega, by simp only; omega, by simp only; omega⟩
          refine ⟨_, rfl, .inl ⟨by rw [g3]; first | exact two_one | exact three_one, ?_, rfl, gi', rr', h', ev', t.add c.hash c.key c.value, ?_, ?_, ?_, ?_, fx, ex, s', _, _, h6, h7⟩⟩
          · rw [hE, g3]; first | rfl | skip
          · rw [hE]; exact p'
          · rw [hE]; exact pqs_add t c.hash c.key c.value
          · rw [hE]; intro e; simp only at e; omega
          · rw [hE]; exact Nat.le_succ _
        · have hgg : ¬ (c.goal = 1 ∨ c.goal = 3) := by simp only at g1; omega
          have hfl2 : most ≤ (pqs t.es).length := by rw [hlen]; omega
          have hE : endQ most c (pqs t.es, v) (pqs t.es).length = (⟨3, 0, false, 0, 0⟩, pqs t.es, v) := by unfold endQ; rw [if_neg hEnd, if_neg hgg, if_pos hfl2]
          obtain ⟨p', fx, ex⟩ := RqR.cm p g4 mm.nx nS p.bd
          refine ⟨_, rfl, .inl ⟨by rw [g3]; first | exact two_one | exact three_one, ?_, rfl, gi', rr', h', ev', t, ?_, ?_, ?_, ?_, fx, ex, s', _, _, h6, h7⟩⟩
          · rw [hE, g3]
          · rw [hE]; exact p'
          · rw [hE]
          · rw [hE]; exact fun _ => rfl
          · rw [hE]; exact Nat.le_refl _
        · have hgg : c.goal = 1 ∨ c.goal = 3 := by simp only at g1; omega
          have hE : endQ most c (pqs t.es, v) (pqs t.es).length = (⟨2, 0, false, 0, 0⟩, pqs t.es, v) := by unfold endQ; rw [if_neg hEnd, if_pos hgg]
          obtain ⟨p', fx, ex⟩ := RqR.cm p g4 mm.nx nS p.bd
          refine ⟨_, rfl, .inl ⟨by rw [g3]; first | exact two_one | exact three_one, ?_, rfl, gi', rr', h', ev', t, ?_, ?_, ?_, ?_, fx, ex, s', _, _, h6, h7⟩⟩
          · rw [hE, g3]
          · rw [hE]; exact p'
          · rw [hE]
          · rw [hE]; exact fun _ => rfl
          · rw [hE]; exact Nat.le_refl _
    · -- a pair of the hash
      have hiL : ii < (liveL t.es).length := by rw [pqs_len] at hii; exact hii
      have hgD := pqs_getD hiL
      have hhu : (nth (liveL t.es) ii).hash = c.hash := by rw [hgD] at hhi; exact hhi
      rcases hq with ⟨n, h3, h4, ⟨h5, _, _⟩, h6⟩ | ⟨_, h4, _⟩
      · obtain ⟨e1, e2, e3⟩ := upto_hit hUi hiL hhu h3 h4 h5
        rcases h6 with ⟨k1, k2, k3, k4, k5⟩ | ⟨k1, k2, k3, k4, k5⟩
        · have hkey : ((pqs t.es).getD ii default).key = c.key := by
            rw [hgD, ← e1]
            show (nth t.es n).key = _
            exact k1
          obtain ⟨rfl, rfl, rfl, rfl, rfl⟩ := hFi.key hii hhi hkey
          obtain ⟨x1, x2, x3, x4, x5, x6⟩ := hit_end (most := most) (c := c) (m := ⟨c.goal, c.hash, c.key, c.value, v', sc', mu0, mas, msame⟩) h3.1 h3.2.1 rfl rfl p.bd
          obtain ⟨p', fx, ex⟩ := RqR.cm p k3 mm.nx nS ⟨x2, x3, x4⟩
          refine ⟨_, rfl, .inl ⟨by rw [k2]; exact two_one, ?_, rfl, gi, rr, h, ev, hitT ⟨c.goal, c.hash, c.key, c.value, v', sc', mu0, mas, msame⟩ t n, ?_, ?_, ?_, ?_, fx, ex, s', _, _, k4, k5⟩⟩
          · rw [← e2, x1, k2]
          · rw [← e2, x1]; exact p'
          · rw [← e2, x1]
          · rw [← e2, x1]; exact x5
          · rw [← e2, x1]; exact x6
        · have hkey : ((pqs t.es).getD ii default).key ≠ c.key := by
            rw [hgD, ← e1]
            show (nth t.es n).key ≠ _
            exact k1
          obtain ⟨p', fx, ex⟩ := RqR.cm p k3 mm.nx nS p.bd
          have hss : s' < w'.heap.size := k5.sk.lt (by omega)
          refine ⟨_, rfl, .inr ⟨n, ii, sc, s', j + 1, f', ⟨c.goal, c.hash, c.key, c.value, v, sc', u, (n : Int), msame⟩, ?_, hii, hhi, hkey, hFi, p', ex, ⟨k4, rfl, rfl, rfl, rfl, mm.nx, fun k hk => ?_, ?_, ?_⟩, rfl, rfl, hsc0, hsc1, rfl, ?_, h3.1, h3.2.1, e2, e3, hsn⟩⟩
          · rw [k2, hgD, ← e1]
            rfl
          · have ek := someB hk
            subst ek
            refine ⟨?_, hss⟩
            rcases hsn with y | y
            · exact nS _ y
            · exact fun z => by have := p.lt _ z; omega
          · show sc' ≤ 100000
            simp only at hsc
            omega
          · show v ≤ 100000
            omega
          · exact k5
      · exact (upto_some hUi hiL hhu h4).elim
end Go.Proofs.YtbpflmdefpjcaaaGreat
namespace Go.Proofs.YtbpflmdefpjcaaaGreat
open Go.RowKit Go.WideShapes

theorem sgq_field2 (v0 v1 v3 v4 v5 v6 : Value) (a : Option Addr) (n c : Nat) (w : World) : (Instr.field 64 (.agg #[v0, v1, .slice a n c, v3, v4, v5, v6]) 2).run Tryz.prog w = .ok (.slice a n c) w := by kernel_rfl
theorem gtrQ (x y : Int) {b : Bool} (h : decide (y < x) = b) (w : World) : (binOp .gtr 3 (.int .i64 x) (.int .i64 y)).run Tryz.prog w = .ok (.bool b) w := by
  rw [← h]
  simp [binOp, go_sem]
/-- A step of its own machine. -/
theorem RqR.step {w w1 w2 : World} {r d g gi rr h gi1 rr1 h1 gi2 rr2 h2 : Nat} {ev av ev1 av1 ev2 tv : Value} {t t1 t2 : Tb} {most v v1 v2 : Nat} {q1 : List Int} {same : Int} {i1 : Bool} {L1 L2 : List Pq} {x : Nat} {sv : Value} (a : RqR w r d g gi rr h ev av tv t most v same L1 v1 q1 i1 w1 gi1 rr1 h1 ev1 av1 t1) (p : Rq w2 r d g gi2 rr2 h2 ev2 av1 tv t2 most v2 q1 same i1) (hp : pqs t2.es = L2) (hs : v2 = v1 → t2 = t1) (hv : v1 ≤ v2) (fx : ∀ k, rqX r d g gi2 rr2 h2 ev2 av1 k → rqX r d g gi1 rr1 h1 ev1 av1 k ∨ w1.heap.size ≤ k) (ex : Ex (fun k => rqX r d g gi1 rr1 h1 ev1 av1 k ∨ k = x ∨ mB sv k) w1 w2) (hx : w.heap.size ≤ x) (hsv : ∀ k, mB sv k → w.heap.size ≤ k) : RqR w r d g gi rr h ev av tv t most v same L2 v2 q1 i1 w2 gi2 rr2 h2 ev2 av1 t2 :=
  ⟨p, hp, fun e => by
    have e1 : v2 = v1 := by have := a.vl; omega
    have e2 : v1 = v := by omega
    exact (hs e1).trans (a.sm e2), Nat.le_trans a.vl hv, fun k hk => (fx k hk).elim (a.fx k) (fun y => .inr (Nat.le_trans a.ex.size y)), a.ex.next ex (fun k hl hk => by
      rcases hk with y | y | y
      · exact (a.fx k y).elim id (fun z => by omega)
      · omega
      · have := hsv k y; omega)⟩
/-- Between two steps: the dictionary, the machine, what is left of the model's scan. -/
structure Lp8 (w : World) (r d g gi rr h : Nat) (ev av tv : Value) (t : Tb) (most v : Nat) (same : Int) (A : List Ac) (c : Cq) (a : Nat) (L' : List Pq) (v' : Nat) (q' : List Int) (inner : Bool) (Mv : Nat) (x nn : Nat) (wr : World) (q0 : List Int) (gi1 rr1 h1 : Nat) (ev1 av1 : Value) (t1 : Tb) (v1 : Nat) (q1 : List Int) (k1 : Nat) (sv : Value) (m : Ma) : Prop where
  rq : RqR w r d g gi rr h ev av tv t most v same (pqs t1.es) v1 q0 inner wr gi1 rr1 h1 ev1 av1 t1
  mm : Mr wr r d g gi1 rr1 h1 ev1 av1 c x sv m
  hu : m.u.kind = 0
  rdy : Rdy most same A c a L' v' q' k1 wr d g gi1 rr1 h1 ev1 t1 v1 q1 x sv m
  bd : v1 + potQ (q1.length : Int) A ≤ Mv
  sc : m.scans ≤ nn
  nx : w.heap.size ≤ x
  ns : ∀ k, mB sv k → w.heap.size ≤ k
  lk : k1 + nn ≤ 8000
/-- Behind an ask, the sought key told: the next step's state. -/
theorem lp8_told {w wr w4 w6 w8 : World} {r d g gi rr h : Nat} {ev av tv : Value} {t : Tb} {most v : Nat} {same : Int} {A : List Ac} {c : Cq} {a : Nat} {L' : List Pq} {v' : Nat} {q' : List Int} {inner : Bool} {Mv x nn : Nat} {q0 q02 : List Int} {gi1 rr1 h1 gi2 rr2 h2 : Nat} {ev1 av1 ev2 av2 : Value} {t1 t2 : Tb} {v1 v2 : Nat} {q1 : List Int} {k1 : Nat} {sv : Value} {m : Ma} (hL : Lp8 w r d g gi rr h ev av tv t most v same A c a L' v' q' inner Mv x nn wr q0 gi1 rr1 h1 ev1 av1 t1 v1 q1 k1 sv m)
    {n i sc s j f : Nat} {m1 : Ma} (hii : i < (pqs t1.es).length) (hhi : ((pqs t1.es).getD i default).hash = c.hash) (hkey : ((pqs t1.es).getD i default).key ≠ c.key) (hF : FdQ most same A c (pqs t1.es) v1 q1 i sc a L' v' q' k1) (hm1 : Mr w4 r d g gi1 rr1 h1 ev1 av1 c x (.pointer (some ⟨s, 0, none⟩)) m1) (hmv : m1.ver = v1) (hms : m1.scans ≠ 0) (hms1 : m1.scans ≤ m.scans + 1) (hma : m1.asked = (n : Int)) (hSw : Sw w4 d g gi1 rr1 h1 ev1 t1 (.pointer none) x s c.hash j (n : Int) f) (hn : n < t1.es.length) (hl : (nth t1.es n).live = true) (hp : lpos t1.es n = i) (hU : Upto t1.es c.hash (n : Int) (i + 1)) (hsn : w.heap.size ≤ s)
    -- what was done meanwhile, up to w6
    (R6 : RqR w4 r d g gi1 rr1 h1 ev1 av1 tv t1 most v1 same (actsQ most same (q1.length : Int) A (pqs t1.es, v1)).1 (actsQ most same (q1.length : Int) A (pqs t1.es, v1)).2 q02 inner w6 gi2 rr2 h2 ev2 av2 t2) (hv2 : v2 = (actsQ most same (q1.length : Int) A (pqs t1.es, v1)).2) (R0 : RqR w r d g gi rr h ev av tv t most v same (pqs t1.es) v1 q0 inner w4 gi1 rr1 h1 ev1 av1 t1)
    -- and the machine told
    (hmc : Mc w8 x (.pointer (some ⟨s, 0, none⟩)) d { m1 with u := Tu.zero, same := oneQ same ((pqs t1.es).getD i default).key c.key }) (x8 : Ex (fun k => k = x) w6 w8) :
    ∃ k2 m2, Lp8 w r d g gi rr h ev av tv t most v same A c a L' v' q' inner Mv x (nn + 1) w8 q02 gi2 rr2 h2 ev2 av2 t2 v2 (q1 ++ [((pqs t1.es).getD i default).key]) k2 (.pointer (some ⟨s, 0, none⟩)) m2 := by
  subst hv2
  obtain ⟨L3, v3, k3, ha, hk, hcase⟩ := hF.ask hii hhi hkey
  have hJ := actsQ_step most same (q1.length : Int) A (pqs t1.es, v1)
  rw [ha] at R6 hJ ⊢
  simp only at R6 hJ ⊢
  have e : ((q1 ++ [((pqs t1.es).getD i default).key]).length : Int) = (q1.length : Int) + 1 := by simp
  have hpq := R6.pq
  -- where x and s stand
  have lx4 : x < w4.heap.size := hm1.mc.lt (by omega)
  have ls4 : s < w4.heap.size := (hm1.ns s rfl).2
  have nx6 : ¬ rqX r d g gi2 rr2 h2 ev2 av2 x := fun y => (R6.fx x y).elim hm1.nx (fun z => by omega)
  have ns6 : ¬ rqX r d g gi2 rr2 h2 ev2 av2 s := fun y => (R6.fx s y).elim (hm1.ns s rfl).1 (fun z => by omega)
  have bs6 : w6.heap[s]? = w4.heap[s]? := R6.ex.block s ls4 (hm1.ns s rfl).1
  have nsx : s ≠ x := hSw.nx
  have bs8 : w8.heap[s]? = w4.heap[s]? := (x8.block s (Nat.lt_of_lt_of_le ls4 R6.ex.size) nsx).trans bs6
  have R8 : RqR w r d g gi rr h ev av tv t most v same L3 v3 q02 inner w8 gi2 rr2 h2 ev2 av2 t2 := (R0.trans R6).mod x8 (fun k hk => by
    have hk' : k = x := hk
    subst hk'
    exact ⟨hL.nx, nx6⟩)
  have hsz8 : s < w8.heap.size := Nat.lt_of_lt_of_le ls4 (Nat.le_trans R6.ex.size x8.size)
  have hbd : v3 + potQ ((q1 ++ [((pqs t1.es).getD i default).key]).length : Int) A ≤ Mv := by
    rw [e]
    have h1 := hL.bd
    have h2 := hJ.2.1
    omega
  have hsc := hL.sc
  have hlk := hL.lk
  have hmsc := hm1.sc
  have hmver := hm1.ver
  have mk : Mr w8 r d g gi2 rr2 h2 ev2 av2 c x (.pointer (some ⟨s, 0, none⟩)) { m1 with u := Tu.zero, same := oneQ same ((pqs t1.es).getD i default).key c.key } := ⟨hmc, hm1.goal, hm1.hash, hm1.key, hm1.value, nx6, fun k hk => by
    have hk' := someB hk
    subst hk'
    exact ⟨ns6, hsz8⟩, hmsc, hmver⟩
  have hrq : RqR w r d g gi rr h ev av tv t most v same (pqs t2.es) v3 q02 inner w8 gi2 rr2 h2 ev2 av2 t2 := by rw [hpq]; exact R8
  refine ⟨k3, _, hrq, mk, rfl, ?_, hbd, by show m1.scans ≤ _; omega, hL.nx, fun k hk => by rw [someB hk]; exact hsn, by omega⟩
  have sw8 : v3 = v1 → Sw w8 d g gi2 rr2 h2 ev2 t2 (.pointer none) x s c.hash j (n : Int) f ∧ t2 = t1 := fun ev3 => by
    have et := R6.sm ev3
    subst et
    exact ⟨⟨hSw.sk.same bs8, hSw.td, hSw.ff, hSw.le, hSw.lt, hSw.ge, fun y => ns6 (.inr (.inr y)), hSw.nm, nsx⟩, rfl⟩
  rcases hcase with ⟨g1, g2, g3, g4, g5, g6, g7, g8⟩ | ⟨g1, g2, g3, g4⟩ | ⟨g1, g2, g3⟩
  · obtain ⟨hs2, et⟩ := sw8 g1
    subst et g1
    exact .inr ⟨g4, by rw [g6], g7, g8, hms, hmv, g3, n, s, j, hma, hn, hl, by rw [hp, g5], rfl, ⟨_, _, _, _, _, _, hs2.sk⟩, hs2.nc, nsx⟩
  · obtain ⟨hs2, et⟩ := sw8 g1
    subst et g1
    refine .inl ⟨i + 1, sc, (n : Int), g4, hU, .inr ⟨hms, hmv, g3, s, j, f, rfl, ?_⟩⟩
    have : ({ m1 with u := Tu.zero, same := oneQ same ((pqs t2.es).getD i default).key c.key } : Ma).hash = c.hash := hm1.hash
    rw [this]
    exact hs2
  · refine .inl ⟨0, sc + 1, -1, by rw [hpq]; exact g3, upto_zero _ _, .inl ⟨.inr (by rw [show ({ m1 with u := Tu.zero, same := oneQ same ((pqs t1.es).getD i default).key c.key } : Ma).ver = m1.ver from rfl, hmv]; exact fun e => g1 e.symm), rfl⟩⟩
/-- The same, its hypotheses put away till the machine is told. -/
def ToldQ (w w4 : World) (r d g gi rr h : Nat) (ev av tv : Value) (t : Tb) (most v : Nat) (same : Int) (A : List Ac) (c : Cq) (a : Nat) (L' : List Pq) (v' : Nat) (q' : List Int) (inner : Bool) (Mv x nn : Nat) (gi1 rr1 h1 : Nat) (ev1 av1 : Value) (t1 : Tb) (v1 : Nat) (q1 : List Int) (m1 : Ma) (s i : Nat) : Prop :=
  ∀ (w6 w8 : World) (gi2 rr2 h2 : Nat) (ev2 av2 : Value) (t2 : Tb) (v2 : Nat) (q02 : List Int), RqR w4 r d g gi1 rr1 h1 ev1 av1 tv t1 most v1 same (actsQ most same (q1.length : Int) A (pqs t1.es, v1)).1 (actsQ most same (q1.length : Int) A (pqs t1.es, v1)).2 q02 inner w6 gi2 rr2 h2 ev2 av2 t2 → v2 = (actsQ most same (q1.length : Int) A (pqs t1.es, v1)).2 → Mc w8 x (.pointer (some ⟨s, 0, none⟩)) d { m1 with u := Tu.zero, same := oneQ same ((pqs t1.es).getD i default).key c.key } → Ex (fun k => k = x) w6 w8 →
    ∃ k2 m2, Lp8 w r d g gi rr h ev av tv t most v same A c a L' v' q' inner Mv x (nn + 1) w8 q02 gi2 rr2 h2 ev2 av2 t2 v2 (q1 ++ [((pqs t1.es).getD i default).key]) k2 (.pointer (some ⟨s, 0, none⟩)) m2
theorem toldQ_of {w wr w4 : World} {r d g gi rr h : Nat} {ev av tv : Value} {t : Tb} {most v : Nat} {same : Int} {A : List Ac} {c : Cq} {a : Nat} {L' : List Pq} {v' : Nat} {q' : List Int} {inner : Bool} {Mv x nn : Nat} {q0 : List Int} {gi1 rr1 h1 : Nat} {ev1 av1 : Value} {t1 : Tb} {v1 : Nat} {q1 : List Int} {k1 : Nat} {sv : Value} {m : Ma} (hL : Lp8 w r d g gi rr h ev av tv t most v same A c a L' v' q' inner Mv x nn wr q0 gi1 rr1 h1 ev1 av1 t1 v1 q1 k1 sv m)
    {n i sc s j f : Nat} {m1 : Ma} (hii : i < (pqs t1.es).length) (hhi : ((pqs t1.es).getD i default).hash = c.hash) (hkey : ((pqs t1.es).getD i default).key ≠ c.key) (hF : FdQ most same A c (pqs t1.es) v1 q1 i sc a L' v' q' k1) (hm1 : Mr w4 r d g gi1 rr1 h1 ev1 av1 c x (.pointer (some ⟨s, 0, none⟩)) m1) (hmv : m1.ver = v1) (hms : m1.scans ≠ 0) (hms1 : m1.scans ≤ m.scans + 1) (hma : m1.asked = (n : Int)) (hSw : Sw w4 d g gi1 rr1 h1 ev1 t1 (.pointer none) x s c.hash j (n : Int) f) (hn : n < t1.es.length) (hl : (nth t1.es n).live = true) (hp : lpos t1.es n = i) (hU : Upto t1.es c.hash (n : Int) (i + 1)) (hsn : w.heap.size ≤ s) (R0 : RqR w r d g gi rr h ev av tv t most v same (pqs t1.es) v1 q0 inner w4 gi1 rr1 h1 ev1 av1 t1) :
    ToldQ w w4 r d g gi rr h ev av tv t most v same A c a L' v' q' inner Mv x nn gi1 rr1 h1 ev1 av1 t1 v1 q1 m1 s i :=
  fun _ _ _ _ _ _ _ _ _ _ R6 hv hmc x8 => lp8_told hL hii hhi hkey hF hm1 hmv hms hms1 hma hSw hn hl hp hU hsn R6 hv R0 hmc x8
/-- What the program's call leaves. -/
def RcQ (w : World) (r d g gi rr h : Nat) (ev av tv : Value) (t : Tb) (most v : Nat) (same : Int) (inner : Bool) (o : Tu × List Pq × Nat) (Q : List Int) (e : Ending) (w' : World) : Prop :=
  e = .returned (.tuple #[tuV o.1, .bool true]) ∧ ∃ gi' rr' h' ev' av' t', RqR w r d g gi rr h ev av tv t most v same o.2.1 o.2.2 Q inner w' gi' rr' h' ev' av' t'
theorem rcQ_of {w : World} {r d g gi rr h : Nat} {ev av tv : Value} {t : Tb} {most v : Nat} {same : Int} {inner : Bool} {o : Tu × List Pq × Nat} {Q : List Int} {w' : World} {x : Value} {gi' rr' h' : Nat} {ev' av' : Value} {t' : Tb} (hx : x = tuV o.1) (hR : RqR w r d g gi rr h ev av tv t most v same o.2.1 o.2.2 Q inner w' gi' rr' h' ev' av' t') : RcQ w r d g gi rr h ev av tv t most v same inner o Q (.returned (.tuple #[x, .bool true])) w' := ⟨by rw [hx], _, _, _, _, _, _, hR⟩
end Go.Proofs.YtbpflmdefpjcaaaGreat
