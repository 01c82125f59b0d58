/-
  The model's find, where somebody is asked: its walk.
  The model's call, where somebody is asked.
  A machine that is told the same; turns compared; awake.
  The calls and acts that were handed in, laid open.
  The two sides between two calls.
  ProbeModel, walked.
-/
import Derived.Test.YtbpflmdefpjcaaaGreatGxaj
import Derived.Test.YtbpflmdefpjcaaaGreatGxaf
import Derived.Test.YtbpflmdefpjcaaaGreatGxaa
import Derived.Deep.Slices
import Derived.ChangeSame
import Derived.Test.YtbpflmdefpjcaaaGreatRqCallO
import Derived.Test.YtbpflmdefpjcaaaGreatRqAlike
namespace Go.Proofs.YtbpflmdefpjcaaaGreat
open Go.RowKit Go.WideShapes

set_option maxRecDepth 100000 in
set_option maxHeartbeats 16000000 in
theorem mfindO_any {B : Nat} {w : World} {m : Nat} {lv av tv : Value} {L : List Pq} {most v : Nat} {q : List Int} {same : Int} {A : List Ac} {M Mv : Nat} (h : Mq w m lv av tv L most v q same false) (hA : ArB B w tv A) (hB : ∀ k, mqX m lv av k → B ≤ k) (hBw : B ≤ w.heap.size) (hAl : A.length ≤ 1000) (hJ : L.length + potQ (q.length : Int) A ≤ M ∧ v + potQ (q.length : Int) A ≤ Mv) (hM : M ≤ 1000) (hMv : Mv ≤ 1000) (hq : q.length + 20 * M ≤ 100000) (c : Cq) :
    Calls Tryz.prog 13 #[.pointer (some ⟨m, 0, none⟩), .agg #[.int .i64 (c.goal : Int), .int .i64 c.hash, .int .i64 c.key, .int .i64 c.value]] w fun e w' => FoQ most same A c w m lv av tv L v q e w' := by
  obtain ⟨i0, hi0, hz0, hz1, hz2⟩ := info_parts Tryz.infoI8
  obtain ⟨w0, hw0⟩ : ∃ V, w.alloc (.cells #[.int .i64 (c.goal : Int), .int .i64 c.hash, .int .i64 c.key, .int .i64 c.value] 38) = V := ⟨_, rfl⟩
  have hb0 : Below w.heap.size w w0 := by rw [← hw0]; exact (Below.refl _ w).alloc (Nat.le_refl _) _
  have hB0 : Blk w0 w.heap.size 4 (clF c) := by rw [← hw0]; exact cl_new w c
  have h0 := h.below hb0
  have hs0 : w0.heap.size = w.heap.size + 1 := by rw [← hw0]; simp
  have HA0 : Hid (ArB B w0 tv A) := hA.keep fun k hk => hb0.block k (by omega)
  have HC : Hid (∀ V L1 v1 q1 i1, MqR w0 m lv av tv L1 most v1 q1 same i1 V → V.cell? ⟨w.heap.size, 1, none⟩ = some (.int .i64 c.hash) ∧ V.cell? ⟨w.heap.size, 2, none⟩ = some (.int .i64 c.key)) := fun V L1 v1 q1 i1 hR => by
    obtain ⟨_, _, _, _, r3⟩ := hR
    have hb := hB0.same (r3.block _ (hB0.lt (by omega)) (fun y => by have := h.lt _ y; omega))
    exact ⟨hb.c 1 (by omega), hb.c 2 (by omega)⟩
  have HBX := Lib.hid hB
  have HBW : Hid (B ≤ w0.heap.size) := by
    show B ≤ _
    omega
  have HB0 := Lib.hid hb0
  have HR0 : Hid (MqR w0 m lv av tv L most v q same false w0) := MqR.refl h0
  have HJ := Lib.hid hJ
  have HW0 := Lib.hid hw0
  clear h h0 hb0 hB0 hw0 hA hB hBw hJ hs0
  go_enter Tryz.func13, Tryz.ntmps13
  go_upto_region 1 with fail
  rw [HW0.out]
  go_wp2_with fail
  go_loopw [6] (fun iv wr => ∃ (sc : Nat) (L1 : List Pq) (v1 : Nat) (q1 : List Int) (d : Nat), sc ≤ 20 ∧ iv = .int .i64 (sc : Int) ∧ MqR w0 m lv av tv L1 most v1 q1 same false wr ∧ (sc < 20 → Sc8 most same A c L v q M L1 v1 q1 0 sc d) ∧ (L1.length + potQ (q1.length : Int) A ≤ M ∧ v1 + potQ (q1.length : Int) A ≤ Mv) ∧ q1.length = q.length + d ∧ d ≤ sc * M) (fun iv _ => 20 - (intOf iv).toNat)
  case atStart => exact ⟨0, L, v, q, 0, by omega, rfl, HR0.out, fun _ => ⟨fun _ _ _ _ _ h => h⟩, HJ.out, rfl, Nat.zero_le _⟩
  case round =>
    obtain ⟨sc, L1, v1, q1, d, hsc, rfl, hR, hS, hJ1, hqd, hd⟩ := hrel
    by_cases hs20 : sc < 20
    · have t0 : (sc : Int) < 20 := by omega
      have es : IntKind.i64.wrap ((sc : Int) + 1) = ((sc + 1 : Nat) : Int) := by rw [i64_small (by omega) (by omega)]; omega
      obtain ⟨_, _, _, x2, _⟩ := hR.cells
      have HR := Lib.hid hR
      have HS := Lib.hid (hS hs20)
      have HJ1 := Lib.hid hJ1
      have hn : L1.length ≤ M := by omega
      have hSM : sc * M ≤ 19 * M := Nat.mul_le_mul_right M (by omega)
      have HSM1 : (sc + 1) * M = sc * M + M := by rw [Nat.add_mul, Nat.one_mul]
      clear hR hS hJ1
      go_wp2_with fail
      clear x2
      generalize wr = wA at *
      go_loopw [8, 9, 10] (fun atv an iv V => ∃ i : Nat, i ≤ L1.length ∧ iv = .int .i64 (i : Int) ∧
        ((atv = .int .i64 (-1) ∧ an = .bool false ∧ ∃ (q2 : List Int) (d2 : Nat), MqR w0 m lv av tv L1 most v1 q2 same false V ∧ Sc8 most same A c L v q M L1 v1 q2 i sc d2 ∧ (L1.length + potQ (q2.length : Int) A ≤ M ∧ v1 + potQ (q2.length : Int) A ≤ Mv) ∧ q2.length = q.length + d2 ∧ d2 ≤ sc * M + i) ∨
         (∃ (j : Nat) (q2 : List Int) (k2 : Nat), j < L1.length ∧ atv = .int .i64 (j : Int) ∧ an = .bool false ∧ FdQ most same A c L v q 0 0 j L1 v1 q2 k2 ∧ MqR w0 m lv av tv L1 most v1 q2 same false V) ∨
         (atv = .int .i64 (-1) ∧ an = .bool true ∧ ∃ (L2 : List Pq) (v2 : Nat) (q2 : List Int) (d2 : Nat), MqR w0 m lv av tv L2 most v2 q2 same false V ∧ (sc + 1 < 20 → Sc8 most same A c L v q M L2 v2 q2 0 (sc + 1) d2) ∧ (L2.length + potQ (q2.length : Int) A ≤ M ∧ v2 + potQ (q2.length : Int) A ≤ Mv) ∧ q2.length = q.length + d2 ∧ d2 ≤ (sc + 1) * M))) (fun atv an iv _ => L1.length - (intOf iv).toNat)
      case atStart => exact ⟨0, Nat.zero_le _, rfl, .inl ⟨rfl, rfl, q1, d, HR.out, HS.out, HJ1.out, hqd, hd⟩⟩
      case round =>
        obtain ⟨i, hi, rfl, hcase⟩ := hrel
        rcases hcase with ⟨rfl, rfl, q2, d2, hR2, hS2, hJ2, hqd2, hd2⟩ | ⟨j, q2, k2, hj, rfl, rfl, hF, hR2⟩ | ⟨rfl, rfl, L2, v2, q2, d2, hR2, hS2, hJ2, hqd2, hd2⟩
        · obtain ⟨a, cap, g, x0, x5, hcap, hcl⟩ := hR2.pairs
          by_cases hlt : i < L1.length
          · have t1 : (i : Int) < (L1.length : Int) := by omega
            have e5 : IntKind.i64.wrap ((i : Int) + 1) = ((i + 1 : Nat) : Int) := by rw [i64_small (by omega) (by omega)]; omega
            obtain ⟨ha, y0, y1⟩ := hcl i hlt
            have ha' := ha
            subst ha'
            obtain ⟨qc1, qc2⟩ := HC.out wr L1 v1 q2 false hR2
            obtain ⟨lh, hlh⟩ : ∃ x, (L1.getD i default).hash = x := ⟨_, rfl⟩
            obtain ⟨lk, hlk⟩ : ∃ x, (L1.getD i default).key = x := ⟨_, rfl⟩
            rw [hlh] at y0
            rw [hlk] at y1
            have s0 : (wr.drew.cell? ⟨m, 0, none⟩ = some (.slice (some ⟨g, 0, none⟩) L1.length cap) ∧ wr.drew.cell? ⟨g, i * 3, none⟩ = some (.int .i64 lh) ∧ wr.drew.cell? ⟨g, i * 3 + 1, none⟩ = some (.int .i64 lk)) ∧ wr.drew.cell? ⟨w.heap.size, 1, none⟩ = some (.int .i64 c.hash) ∧ wr.drew.cell? ⟨w.heap.size, 2, none⟩ = some (.int .i64 c.key) := ⟨⟨x0, y0, y1⟩, qc1, qc2⟩
            have s1 : (wr.drew.drew.cell? ⟨m, 0, none⟩ = some (.slice (some ⟨g, 0, none⟩) L1.length cap) ∧ wr.drew.drew.cell? ⟨g, i * 3, none⟩ = some (.int .i64 lh) ∧ wr.drew.drew.cell? ⟨g, i * 3 + 1, none⟩ = some (.int .i64 lk)) ∧ wr.drew.drew.cell? ⟨w.heap.size, 1, none⟩ = some (.int .i64 c.hash) ∧ wr.drew.drew.cell? ⟨w.heap.size, 2, none⟩ = some (.int .i64 c.key) := s0
            have HRd := Lib.hid (hR2.below (Below.refl _ wr).drew)
            have HRdd := Lib.hid (hR2.below ((Below.refl wr.heap.size wr).drew.drew))
            have HLH := Lib.hid hlh
            have HLK := Lib.hid hlk
            have HS2 := Lib.hid hS2
            have HJ2 := Lib.hid hJ2
            have hql : q2.length + 1 ≤ 100000 := by omega
            have HQD := Lib.hid hqd2
            clear hcl y0 y1 qc1 qc2 ha hlh hlk hR2 hS2 hJ2 x5 hqd2
            go_upto_region 10 with fail
            go_region_held3 (fun V => (V.cell? ⟨m, 0, none⟩ = some (.slice (some ⟨g, 0, none⟩) L1.length cap) ∧ V.cell? ⟨g, i * 3, none⟩ = some (.int .i64 lh) ∧ V.cell? ⟨g, i * 3 + 1, none⟩ = some (.int .i64 lk)) ∧ V.cell? ⟨w.heap.size, 1, none⟩ = some (.int .i64 c.hash) ∧ V.cell? ⟨w.heap.size, 2, none⟩ = some (.int .i64 c.key)) (first | with_reducible exact s0 | fail) (fail)
            by_cases hh : lh = c.hash
            · have hne : (lh != c.hash) = false := by simp [hh]
              have HHH := Lib.hid hh
              go_upto_region 11 with fail
              go_region_held3 (fun V => (V.cell? ⟨m, 0, none⟩ = some (.slice (some ⟨g, 0, none⟩) L1.length cap) ∧ V.cell? ⟨g, i * 3, none⟩ = some (.int .i64 lh) ∧ V.cell? ⟨g, i * 3 + 1, none⟩ = some (.int .i64 lk)) ∧ V.cell? ⟨w.heap.size, 1, none⟩ = some (.int .i64 c.hash) ∧ V.cell? ⟨w.heap.size, 2, none⟩ = some (.int .i64 c.key)) (first | with_reducible exact s1 | fail) (fail)
              by_cases hkk : lk = c.key
              · have heq : (lk == c.key) = true := by simp [hkk]
                have HFN := Lib.hid (HS2.out.pre _ _ _ _ _ (.here hlt (by rw [HLH.out, hh]) (by rw [HLK.out, hkk])))
                have HFI : Hid (atQ L1 i = (i : Int)) := if_pos hlt
                have HRR := Lib.hid (HRdd.out.old HB0.out)
                clear s0 s1
                go_wp2_with fail
                go_ret2
                exact foQ_yes HFN.out HFI.out HRR.out
              · have heq : (lk == c.key) = false := by rw [beq_eq_false_iff_ne]; exact hkk
                have HKK := Lib.hid hkk
                obtain ⟨⟨z0, z1, z2⟩, z3, z4⟩ := s1
                clear s0 hh hkk x0
                generalize wr.drew.drew = wd at *
                obtain ⟨aq, capq, y3, hown, HP⟩ := ask_push HRdd.out lk
                obtain ⟨_, y6, _⟩ := HRdd.out.cells
                have HP' := Lib.hid HP
                have HOWN := Lib.hid hown
                clear HP hown
                go_upto_region 16 with (at_builtin; refine wpList_append_own_at _ rfl _ _ 30 rfl 0 3 i0 (.int .i64 0) 1 8 Tryz.underlying30 hi0 hz0 hz1 hz2 rfl (by decide) _ _ _ rfl (World.ownsRow.alloc HOWN.out _) ⟨wd.heap.size, 0, none⟩ 1 1 [.int .i64 lk] rfl rfl (new_int _ _ _) (by simp [Value.oneCell']) (by unfold maxLen; omega) (by omega) (by simp) ?_; intro vm w3 hown3 hgrow _ hob; obtain ⟨⟨k2, kz2⟩, HN3⟩ := HP'.out _ vm w3 hown3 hgrow hob; have HN4 := Lib.hid HN3; obtain ⟨a3, cap3, hv3⟩ := ownsRow_shape hown3; subst hv3; clear hown3 hgrow hob HN3)
                obtain ⟨w4, hw4⟩ : ∃ V, w3.setCell ⟨m, 3, none⟩ (.slice a3 (q2.length + 1) cap3) = V := ⟨_, rfl⟩
                have hR4 := HN4.out w4 hw4
                have hJb := HJ2.out
                have CP := hR4.act HA0.out HBX.out HBW.out (by omega) (by omega) (by simp; omega) hAl
                have elen : (((q2 ++ [lk]).length : Nat) : Int) - 1 = (q2.length : Int) := by simp
                rw [elen] at CP
                obtain ⟨L3, hL3⟩ : ∃ x, (actsQ most same (q2.length : Int) A (L1, v1)).1 = x := ⟨_, rfl⟩
                obtain ⟨v3, hv3⟩ : ∃ x, (actsQ most same (q2.length : Int) A (L1, v1)).2 = x := ⟨_, rfl⟩
                have hact : actsQ most same (q2.length : Int) A (L1, v1) = (L3, v3) := by rw [← hL3, ← hv3]
                have hsame := (actsQ_step most same (q2.length : Int) A (L1, v1)).2.2.2
                rw [hact] at hsame
                rw [hL3, hv3] at CP
                have hJ3 := Sc8.bd HJ2.out hact lk
                have HW4 := Lib.hid hw4
                have HACT := Lib.hid hact
                have HSAME := Lib.hid hsame
                have HJ3 := Lib.hid hJ3
                clear hR4 hw4 hact hsame hJ3 hL3 hv3 elen HN4 k2 kz2 y3
                rw [HW4.out]
                go_wp2_with fail
                refine CP.mono ?_
                rintro e w5 ⟨rfl, hR5⟩
                obtain ⟨_, _, _, x2, _⟩ := hR5.cells
                obtain ⟨_, _, _, _, x5, _, _⟩ := hR5.pairs
                obtain ⟨r1, r2⟩ := HC.out w5 _ _ _ _ hR5
                have HR5 := Lib.hid hR5
                clear CP hR5 hJb
                by_cases hvv : v3 = v1
                · have hL : L3 = L1 := congrArg Prod.fst (HSAME.out hvv)
                  subst hvv hL
                  have hnv : ((v3 : Int) != (v3 : Int)) = false := by simp
                  have C1 := mone_any x5 lk c.key
                  go_wp2_with fail
                  refine C1.mono ?_
                  rintro e v9 ⟨rfl, rfl⟩
                  clear C1
                  cases hone : oneQ same lk c.key with
                  | true =>
                    have HFN := Lib.hid (HS2.out.pre _ _ _ _ _ (.yes hlt (by rw [HLH.out, HHH.out]) (by rw [HLK.out]; exact HKK.out) HACT.out (by rw [HLK.out]; exact hone)))
                    go_wp2_with fail
                    go_roundw
                    case rel => exact ⟨i + 1, by omega, by first | rfl | go_num, .inr (.inl ⟨i, _, _, hlt, rfl, rfl, HFN.out, by rw [HLK.out]; exact HR5.out⟩)⟩
                    case measure => simp [intOf]; omega
                  | false =>
                    go_wp2_with fail
                    go_roundw
                    case rel => exact ⟨i + 1, by omega, by first | rfl | go_num, .inl ⟨rfl, rfl, q2 ++ [lk], d2 + 1, HR5.out, ⟨fun a L' v' q' k hF => by
                      have := HS2.out.pre _ _ _ _ _ (.no hlt (by rw [HLH.out, HHH.out]) (by rw [HLK.out]; exact HKK.out) HACT.out (by rw [HLK.out]; exact hone) (by rw [HLK.out]; exact hF))
                      rw [show k + (d2 + 1) = k + 1 + d2 by omega]
                      exact this⟩, HJ3.out, by have := HQD.out; simp; omega, by omega⟩⟩
                    case measure => simp [intOf]; omega
                · have hnv : ((v3 : Int) != (v1 : Int)) = true := by simp; omega
                  go_wp2_with fail
                  go_roundw
                  case rel => exact ⟨i + 1, by omega, by first | rfl | go_num, .inr (.inr ⟨rfl, rfl, L3, v3, q2 ++ [lk], d2 + 1, HR5.out, fun h20 => ⟨fun a L' v' q' k hF => by
                    have := HS2.out.pre _ _ _ _ _ (.anew hlt (by rw [HLH.out, HHH.out]) (by rw [HLK.out]; exact HKK.out) HACT.out hvv h20 (by rw [HLK.out]; exact hF))
                    rw [show k + (d2 + 1) = k + 1 + d2 by omega]
                    exact this⟩, HJ3.out, by have := HQD.out; simp; omega, by omega⟩)⟩
                  case measure => simp [intOf]; omega
            · have hne : (lh != c.hash) = true := by simp [hh]
              have HHH := Lib.hid hh
              clear s0 s1
              go_wp2_with fail
              go_roundw
              case rel => exact ⟨i + 1, by omega, by first | rfl | go_num, .inl ⟨rfl, rfl, q2, d2, HRd.out, ⟨fun a L' v' q' k hF => HS2.out.pre _ _ _ _ _ (.skip hlt (by rw [HLH.out]; exact HHH.out) hF)⟩, HJ2.out, HQD.out, by omega⟩⟩
              case measure => simp [intOf]; omega
          · have t1 : ¬ (i : Int) < (L1.length : Int) := by omega
            have hie : i = L1.length := by omega
            have HFN := Lib.hid (hS2.pre _ _ _ _ _ (.over (by omega)))
            have HFI : Hid (atQ L1 L1.length = -1) := if_neg (Nat.lt_irrefl _)
            have HRR := Lib.hid (hR2.old HB0.out)
            clear hR2 hS2 hJ2 hcl x5
            go_wp2_with fail
            go_ret2
            exact foQ_yes HFN.out HFI.out HRR.out
        · obtain ⟨a, cap, g, x0, _, hcap, _⟩ := hR2.pairs
          have t3 : ¬ (j : Int) < 0 := by omega
          have HFI : Hid (atQ L1 j = (j : Int)) := if_pos hj
          have HF := Lib.hid hF
          have HR2 := Lib.hid (hR2.old HB0.out)
          clear hF hR2
          by_cases hlt : i < L1.length
          · have t1 : (i : Int) < (L1.length : Int) := by omega
            go_wp2_with fail
            go_ret2
            exact foQ_yes HF.out HFI.out HR2.out
          · have t1 : ¬ (i : Int) < (L1.length : Int) := by omega
            go_wp2_with fail
            go_ret2
            exact foQ_yes HF.out HFI.out HR2.out
        · obtain ⟨a, cap, g, x0, _, hcap, _⟩ := hR2.pairs
          have HR2 := Lib.hid hR2
          have HS2 := Lib.hid hS2
          have HJ2 := Lib.hid hJ2
          clear hR2 hS2 hJ2
          by_cases hlt : i < L2.length
          · have t1 : (i : Int) < (L2.length : Int) := by omega
            go_wp2_with fail
            go_roundw
            case rel => exact ⟨sc + 1, L2, v2, q2, d2, by omega, by first | rfl | go_num, HR2.out, HS2.out, HJ2.out, hqd2, hd2⟩
            case measure => simp [intOf]; omega
          · have t1 : ¬ (i : Int) < (L2.length : Int) := by omega
            go_wp2_with fail
            go_roundw
            case rel => exact ⟨sc + 1, L2, v2, q2, d2, by omega, by first | rfl | go_num, HR2.out, HS2.out, HJ2.out, hqd2, hd2⟩
            case measure => simp [intOf]; omega
    · have t0 : ¬ (sc : Int) < 20 := by omega
      have HX : Hid (Ex (mqX m lv av) w wr) := by
        obtain ⟨_, _, _, _, r3⟩ := hR
        exact (ex_of HB0.out).next r3 (fun _ _ y => y)
      clear hR hS
      go_wp2_with fail
      go_ret2
      exact foQ_no HX.out
end Go.Proofs.YtbpflmdefpjcaaaGreat
namespace Go.Proofs.YtbpflmdefpjcaaaGreat
open Go.RowKit Go.WideShapes

/-- What a call of the model leaves. -/
def CoQ (Φ : Nat → List Pq → Nat → List Int → Prop) (w : World) (m : Nat) (lv av tv : Value) (most : Nat) (same : Int) (inner : Bool) (c : Cq) (e : Ending) (w' : World) : Prop :=
  (∃ a L' v' q', Φ a L' v' q' ∧ e = .returned (.tuple #[tuV (endQ most c (L', v') a).1, .bool true]) ∧ MqR w m lv av tv (endQ most c (L', v') a).2.1 most (endQ most c (L', v') a).2.2 q' same inner w') ∨ (e = .returned (.tuple #[tuV Tu.zero, .bool false]) ∧ Ex (mqX m lv av) w w')
theorem coQ_yes {Φ : Nat → List Pq → Nat → List Int → Prop} {w : World} {m : Nat} {lv av tv : Value} {most : Nat} {same : Int} {inner : Bool} {c : Cq} {w' : World} {a : Nat} {L' : List Pq} {v' : Nat} {q' : List Int} {x : Value} (h : Φ a L' v' q') (he : x = tuV (endQ most c (L', v') a).1) (hM : MqR w m lv av tv (endQ most c (L', v') a).2.1 most (endQ most c (L', v') a).2.2 q' same inner w') : CoQ Φ w m lv av tv most same inner c (.returned (.tuple #[x, .bool true])) w' := .inl ⟨a, L', v', q', h, by rw [he], hM⟩
theorem coQ_no {Φ : Nat → List Pq → Nat → List Int → Prop} {w : World} {m : Nat} {lv av tv : Value} {most : Nat} {same : Int} {inner : Bool} {c : Cq} {w' : World} (h : Ex (mqX m lv av) w w') : CoQ Φ w m lv av tv most same inner c (.returned (.tuple #[.agg #[.int .i64 0, .int .i64 0, .bool false, .int .i64 0, .int .i64 0], .bool false])) w' := .inr ⟨rfl, h⟩
set_option maxRecDepth 100000 in
set_option maxHeartbeats 8000000 in
theorem mcallO_of {w : World} {m : Nat} {lv av tv : Value} {most : Nat} {same : Int} {inner : Bool} (hX : ∀ k, mqX m lv av k → k < w.heap.size) (c : Cq) {Φ : Nat → List Pq → Nat → List Int → Prop} (HΦ : ∀ a L' v' q', Φ a L' v' q' → v' ≤ 900000 ∧ L'.length ≤ 90000)
    (CF : ∀ V, Below w.heap.size w V → Calls Tryz.prog 13 #[.pointer (some ⟨m, 0, none⟩), .agg #[.int .i64 (c.goal : Int), .int .i64 c.hash, .int .i64 c.key, .int .i64 c.value]] V fun e w' => (∃ a L' v' q', Φ a L' v' q' ∧ e = .returned (.tuple #[.int .i64 (atQ L' a), .bool true]) ∧ MqR V m lv av tv L' most v' q' same inner w') ∨ (e = .returned (.tuple #[.int .i64 (-1), .bool false]) ∧ Ex (mqX m lv av) V w')) :
    Calls Tryz.prog 6 #[.pointer (some ⟨m, 0, none⟩), .agg #[.int .i64 (c.goal : Int), .int .i64 c.hash, .int .i64 c.key, .int .i64 c.value]] w fun e w' => CoQ Φ w m lv av tv most same inner c e w' := by
  obtain ⟨w1, hw1⟩ : ∃ V, w.alloc (.cells #[.int .i64 (c.goal : Int), .int .i64 c.hash, .int .i64 c.key, .int .i64 c.value] 38) = V := ⟨_, rfl⟩
  obtain ⟨w2, hw2⟩ : ∃ V, w1.alloc (.cells #[.int .i64 0, .int .i64 0, .bool false, .int .i64 0, .int .i64 0] 40) = V := ⟨_, rfl⟩
  have hb1 : Below w.heap.size w w1 := by rw [← hw1]; exact (Below.refl _ w).alloc (Nat.le_refl _) _
  have hb2 : Below w1.heap.size w1 w2 := by rw [← hw2]; exact (Below.refl _ w1).alloc (Nat.le_refl _) _
  have hs1 : w1.heap.size = w.heap.size + 1 := by rw [← hw1]; simp
  have hs2 : w2.heap.size = w1.heap.size + 1 := by rw [← hw2]; simp
  have hb12 : Below w.heap.size w w2 := hb1.trans (hb2.mono hb1.size)
  have hC2 : Cb w2 w.heap.size c zT := ⟨Blk.of (by rw [← hw1]; exact cl_new w c) hb2 (by omega), by rw [← hw2, ← hs1]; exact Blk.new w1 _ _⟩
  have C1 := CF w2 hb12
  have k0 : w2.cell? ⟨w.heap.size, 0, none⟩ = some (.int .i64 (c.goal : Int)) := hC2.box.c 0 (by omega)
  have k1 : w2.cell? ⟨w.heap.size, 1, none⟩ = some (.int .i64 c.hash) := hC2.box.c 1 (by omega)
  have k2 : w2.cell? ⟨w.heap.size, 2, none⟩ = some (.int .i64 c.key) := hC2.box.c 2 (by omega)
  have k3 : w2.cell? ⟨w.heap.size, 3, none⟩ = some (.int .i64 c.value) := hC2.box.c 3 (by omega)
  have HX := Lib.hid hX
  have HW1 := Lib.hid hw1
  have HW2 := Lib.hid hw2
  have HB12 := Lib.hid hb12
  have HC2 := Lib.hid hC2
  clear CF hX hw1 hw2 hb1 hb2 hb12 hC2
  go_enter Tryz.func6, Tryz.ntmps6
  go_upto_region 1 with fail
  rw [HW1.out, HW2.out]
  go_wp2_with fail
  refine C1.mono ?_
  rintro e w3 hfo
  clear C1 k0 k1 k2 k3
  rcases hfo with ⟨a, L', v', q', hphi, rfl, lv', av', hM, hfx, hx⟩ | ⟨rfl, hx⟩
  case inr =>
    have hC3 : Cb w3 w.heap.size c zT := ⟨HC2.out.box.same (hx.block _ (by omega) (fun e => by have := HX.out _ e; omega)), HC2.out.res.same (hx.block _ (by omega) (fun e => by have := HX.out _ e; omega))⟩
    have HXW : Hid (Ex (mqX m lv av) w w3) := (ex_of HB12.out).next hx (fun _ _ y => y)
    have hs3 := hx.size
    clear hx
    obtain ⟨w9, hw9⟩ : ∃ V, put5 w3 (w.heap.size + 1) (.int .i64 0) (.int .i64 0) (.bool false) (.int .i64 0) (.int .i64 0) = V := ⟨_, rfl⟩
    have hR9 : Blk w9 (w.heap.size + 1) 5 (fun j => [Value.int .i64 0, .int .i64 0, .bool false, .int .i64 0, .int .i64 0].getD j .nilFunc) := by rw [← hw9]; exact put5_blk hC3.res (.int .i64 0) (.int .i64 0) (.bool false) (.int .i64 0) (.int .i64 0)
    have HF9 : Hid (Ex (mqX m lv av) w w9) := HXW.out.next (Y := fun k => k = w.heap.size + 1) (by rw [← hw9]; exact put5_ex _ _ (.int .i64 0) (.int .i64 0) (.bool false) (.int .i64 0) (.int .i64 0)) (fun k hl e => by omega)
    have z0 : w3.frozen? ⟨w.heap.size + 1, 0, none⟩ = false := hC3.res.z 0
    have z1 : w3.frozen? ⟨w.heap.size + 1, 1, none⟩ = false := hC3.res.z 1
    have z2 : w3.frozen? ⟨w.heap.size + 1, 2, none⟩ = false := hC3.res.z 2
    have z3 : w3.frozen? ⟨w.heap.size + 1, 3, none⟩ = false := hC3.res.z 3
    have z4 : w3.frozen? ⟨w.heap.size + 1, 4, none⟩ = false := hC3.res.z 4
    have zc0 : w3.cell? ⟨w.heap.size + 1, 0, none⟩ = some (.int .i64 0) := hC3.res.c 0 (by omega)
    have zc1 : w3.cell? ⟨w.heap.size + 1, 1, none⟩ = some (.int .i64 0) := hC3.res.c 1 (by omega)
    have zc2 : w3.cell? ⟨w.heap.size + 1, 2, none⟩ = some (.bool false) := hC3.res.c 2 (by omega)
    have zc3 : w3.cell? ⟨w.heap.size + 1, 3, none⟩ = some (.int .i64 0) := hC3.res.c 3 (by omega)
    have zc4 : w3.cell? ⟨w.heap.size + 1, 4, none⟩ = some (.int .i64 0) := hC3.res.c 4 (by omega)
    have o0 : w9.cell? ⟨w.heap.size + 1, 0, none⟩ = some (.int .i64 0) := hR9.c 0 (by omega)
    have o1 : w9.cell? ⟨w.heap.size + 1, 1, none⟩ = some (.int .i64 0) := hR9.c 1 (by omega)
    have o2 : w9.cell? ⟨w.heap.size + 1, 2, none⟩ = some (.bool false) := hR9.c 2 (by omega)
    have o3 : w9.cell? ⟨w.heap.size + 1, 3, none⟩ = some (.int .i64 0) := hR9.c 3 (by omega)
    have o4 : w9.cell? ⟨w.heap.size + 1, 4, none⟩ = some (.int .i64 0) := hR9.c 4 (by omega)
    have HW9 := Lib.hid hw9
    unfold put5 at HW9
    clear hw9 hR9
    go_wp2_with fail
    rw [HW9.out]
    refine bodyPost_ret (v := .tuple #[.agg #[.int .i64 0, .int .i64 0, .bool false, .int .i64 0, .int .i64 0], .bool false]) ?_ rfl (coQ_no HF9.out)
    simp [results, Tryz.results6, go_sem, o0, o1, o2, o3, o4]
  obtain ⟨hv, hl⟩ := HΦ a L' v' q' hphi
  have HPHI := Lib.hid hphi
  clear hphi HΦ
  have hs3 := hx.size
  have nB : ∀ k, mqX m lv' av' k → k ≠ w.heap.size ∧ k ≠ w.heap.size + 1 ∧ (mqX m lv av k ∨ w.heap.size ≤ k) := fun k hk => by
    rcases hfx k hk with y | y
    · have := HX.out k y; exact ⟨by omega, by omega, .inl y⟩
    · exact ⟨by omega, by omega, .inr (by omega)⟩
  have hC3 : Cb w3 w.heap.size c zT := ⟨HC2.out.box.same (hx.block _ (by omega) (fun e => by have := HX.out _ e; omega)), HC2.out.res.same (hx.block _ (by omega) (fun e => by have := HX.out _ e; omega))⟩
  have hxw : Ex (mqX m lv av) w w3 := (ex_of HB12.out).next hx (fun _ _ y => y)
  have g0 : w3.cell? ⟨w.heap.size, 0, none⟩ = some (.int .i64 (c.goal : Int)) := hC3.box.c 0 (by omega)
  have g1 : w3.cell? ⟨w.heap.size, 1, none⟩ = some (.int .i64 c.hash) := hC3.box.c 1 (by omega)
  have g2 : w3.cell? ⟨w.heap.size, 2, none⟩ = some (.int .i64 c.key) := hC3.box.c 2 (by omega)
  have g3 : w3.cell? ⟨w.heap.size, 3, none⟩ = some (.int .i64 c.value) := hC3.box.c 3 (by omega)
  have HM := Lib.hid hM
  have HNB := Lib.hid nB
  have HC3 := Lib.hid hC3
  have HXW := Lib.hid hxw
  have HMK : Hid (∀ (w4 : World) (L2 : List Pq) (v2 : Nat), MqR w3 m lv' av' tv L2 most v2 q' same inner w4 → Cb w4 w.heap.size c zT ∧ ∀ (Y : Nat → Prop) (w5 : World), Ex Y w4 w5 → (∀ k, Y k → k = w.heap.size + 1) → MqR w m lv av tv L2 most v2 q' same inner w5) := fun w4 L2 v2 hR => by
    obtain ⟨lv2, av2, r1, r2, r3⟩ := hR
    refine ⟨⟨HC3.out.box.same (r3.block _ (HC3.out.box.lt (by omega)) (fun e => (HNB.out _ e).1 rfl)), HC3.out.res.same (r3.block _ (HC3.out.res.lt (by omega)) (fun e => (HNB.out _ e).2.1 rfl))⟩, fun Y w5 hY hYr => ?_⟩
    refine MqR.mk' r1 (fun k hk => (r2 k hk).elim (fun y => (HNB.out k y).2.2) (fun y => .inr (by omega))) (HXW.out.next r3 (fun k hl hk => (HNB.out k hk).2.2.elim id (fun y => by omega))) hY (fun k hk => ?_)
    have e := hYr k hk
    subst e
    refine ⟨by omega, fun y => ?_⟩
    rcases r2 _ y with z | z
    · exact (HNB.out _ z).2.1 rfl
    · have := HC3.out.res.lt (by omega); omega
  clear hM nB hC3 hxw hfx hx
  by_cases ha : a < L'.length
  · have e0 : atQ L' a = (a : Int) := if_pos ha
    rw [e0]
    obtain ⟨al, capl, hlv, hcapl, g, hal, hcl⟩ := HM.out.row.open
    have hal' := hal (by omega)
    subst hal'
    have x0 : w3.cell? ⟨m, 0, none⟩ = some (.slice (some ⟨g, 0, none⟩) L'.length capl) := by rw [← hlv]; exact HM.out.hd.c 0 (by omega)
    obtain ⟨_, _, y2⟩ := hcl a ha
    have ta : (a : Int) < (L'.length : Int) := by omega
    have tb : (0 : Int) ≤ (a : Int) := by omega
    have hE : endQ most c (L', v') a = (⟨2, 0, true, (L'.getD a default).value, 0⟩, if c.goal = 2 then L'.set a ⟨(L'.getD a default).hash, (L'.getD a default).key, c.value⟩ else if c.goal = 3 then L'.eraseIdx a else L', hitN c.goal v') := by unfold endQ; rw [if_pos ha]
    obtain ⟨w4, hw4⟩ : ∃ V, w3.alloc (.cells #[.int .i64 2, .int .i64 0, .bool true, .int .i64 (L'.getD a default).value, .int .i64 0] 40) = V := ⟨_, rfl⟩
    have hb4 : Below w3.heap.size w3 w4 := by rw [← hw4]; exact (Below.refl _ w3).alloc (Nat.le_refl _) _
    have hT4 : Blk w4 w3.heap.size 5 (fun j => #[Value.int .i64 2, .int .i64 0, .bool true, .int .i64 (L'.getD a default).value, .int .i64 0].getD j .nilFunc) := by rw [← hw4]; exact Blk.new w3 _ _
    have hM4 := HM.out.below hb4
    have h40 : w4.cell? ⟨w.heap.size, 0, none⟩ = some (.int .i64 (c.goal : Int)) := (HC3.out.box.of hb4 (by omega)).c 0 (by omega)
    have h43 : w4.cell? ⟨w.heap.size, 3, none⟩ = some (.int .i64 c.value) := (HC3.out.box.of hb4 (by omega)).c 3 (by omega)
    have HB4 := Lib.hid hb4
    have HT4 := Lib.hid hT4
    have HM4 := Lib.hid hM4
    have HW4 := Lib.hid hw4
    have HTK : Hid (∀ (w5 : World) (L2 : List Pq) (v2 : Nat), MqR w4 m lv' av' tv L2 most v2 q' same inner w5 → MqR w3 m lv' av' tv L2 most v2 q' same inner w5 ∧ Blk w5 w3.heap.size 5 (fun j => #[Value.int .i64 2, .int .i64 0, .bool true, .int .i64 (L'.getD a default).value, .int .i64 0].getD j .nilFunc)) := fun w5 L2 v2 hR => by
      refine ⟨hR.old HB4.out, ?_⟩
      obtain ⟨_, _, _, _, r3⟩ := hR
      exact HT4.out.same (r3.block _ (HT4.out.lt (by omega)) (fun e => by have := HM.out.lt _ e; omega))
    have HE0 := Lib.hid hE
    clear hcl hal hlv hb4 hT4 hM4 hw4 hE
    generalize (L'.getD a default).value = vl at *
    generalize hLL : L'.length = nL at *
    by_cases hg : c.goal = 2
    · skip
      have hg2 : (c.goal : Int) = 2 := by omega
      rw [hg2] at h40
      have hN : hitN c.goal v' = v' + 1 := by unfold hitN; rw [if_pos (.inl hg)]
      have hE := HE0.out
      rw [if_pos hg, hN] at hE
      have HE := Lib.hid hE
      clear hE
      have CP := mput_hit HM4.out (by omega) (by rw [hLL]; exact ha) 0 0 c.value
      go_upto_region 6 with fail
      rw [HW4.out]
      go_wp2_with fail
      refine CP.mono ?_
      rintro e w5 ⟨rfl, hR5⟩
      clear CP
      obtain ⟨hR3, hT5⟩ := HTK.out w5 _ _ hR5
      obtain ⟨hC5, hK⟩ := HMK.out w5 _ _ hR3
      have t0 : w5.cell? ⟨w3.heap.size, 0, none⟩ = some (.int .i64 2) := hT5.c 0 (by omega)
      have t1 : w5.cell? ⟨w3.heap.size, 1, none⟩ = some (.int .i64 0) := hT5.c 1 (by omega)
      have t2 : w5.cell? ⟨w3.heap.size, 2, none⟩ = some (.bool true) := hT5.c 2 (by omega)
      have t3 : w5.cell? ⟨w3.heap.size, 3, none⟩ = some (.int .i64 vl) := hT5.c 3 (by omega)
      have t4 : w5.cell? ⟨w3.heap.size, 4, none⟩ = some (.int .i64 0) := hT5.c 4 (by omega)
      have b0 : w5.cell? ⟨w.heap.size, 0, none⟩ = some (.int .i64 (c.goal : Int)) := hC5.box.c 0 (by omega)
      rw [hg2] at b0
      obtain ⟨w9, hw9⟩ : ∃ V, put5 w5 (w.heap.size + 1) (.int .i64 2) (.int .i64 0) (.bool true) (.int .i64 vl) (.int .i64 0) = V := ⟨_, rfl⟩
      have hR9 : Blk w9 (w.heap.size + 1) 5 (fun j => [Value.int .i64 2, .int .i64 0, .bool true, .int .i64 vl, .int .i64 0].getD j .nilFunc) := by rw [← hw9]; exact put5_blk hC5.res (.int .i64 2) (.int .i64 0) (.bool true) (.int .i64 vl) (.int .i64 0)
      have HF9 := Lib.hid (hK _ w9 (by rw [← hw9]; exact put5_ex _ _ (.int .i64 2) (.int .i64 0) (.bool true) (.int .i64 vl) (.int .i64 0)) (fun _ h => h))
      have z0 : (w5).frozen? ⟨w.heap.size + 1, 0, none⟩ = false := hC5.res.z 0
      have z1 : (w5).frozen? ⟨w.heap.size + 1, 1, none⟩ = false := hC5.res.z 1
      have z2 : (w5).frozen? ⟨w.heap.size + 1, 2, none⟩ = false := hC5.res.z 2
      have z3 : (w5).frozen? ⟨w.heap.size + 1, 3, none⟩ = false := hC5.res.z 3
      have z4 : (w5).frozen? ⟨w.heap.size + 1, 4, none⟩ = false := hC5.res.z 4
      have zc0 : (w5).cell? ⟨w.heap.size + 1, 0, none⟩ = some (.int .i64 0) := hC5.res.c 0 (by omega)
      have zc1 : (w5).cell? ⟨w.heap.size + 1, 1, none⟩ = some (.int .i64 0) := hC5.res.c 1 (by omega)
      have zc2 : (w5).cell? ⟨w.heap.size + 1, 2, none⟩ = some (.bool false) := hC5.res.c 2 (by omega)
      have zc3 : (w5).cell? ⟨w.heap.size + 1, 3, none⟩ = some (.int .i64 0) := hC5.res.c 3 (by omega)
      have zc4 : (w5).cell? ⟨w.heap.size + 1, 4, none⟩ = some (.int .i64 0) := hC5.res.c 4 (by omega)
      have o0 : w9.cell? ⟨w.heap.size + 1, 0, none⟩ = some (.int .i64 2) := hR9.c 0 (by omega)
      have o1 : w9.cell? ⟨w.heap.size + 1, 1, none⟩ = some (.int .i64 0) := hR9.c 1 (by omega)
      have o2 : w9.cell? ⟨w.heap.size + 1, 2, none⟩ = some (.bool true) := hR9.c 2 (by omega)
      have o3 : w9.cell? ⟨w.heap.size + 1, 3, none⟩ = some (.int .i64 vl) := hR9.c 3 (by omega)
      have o4 : w9.cell? ⟨w.heap.size + 1, 4, none⟩ = some (.int .i64 0) := hR9.c 4 (by omega)
      have HW9 := Lib.hid hw9
      unfold put5 at HW9
      clear hw9 hR9
      clear hC5 hK hR3 hT5
      go_wp2_with fail
      rw [HW9.out]
      refine bodyPost_ret (v := .tuple #[.agg #[.int .i64 2, .int .i64 0, .bool true, .int .i64 vl, .int .i64 0], .bool true]) ?_ rfl (coQ_yes HPHI.out (by rw [HE.out]; rfl) (by rw [HE.out]; exact HF9.out))
      simp [results, Tryz.results6, go_sem, o0, o1, o2, o3, o4]
    · by_cases hg3 : c.goal = 3
      · have hg0 := hg
        clear hg
        have hg := hg3
        have hg2 : (c.goal : Int) = 3 := by omega
        rw [hg2] at h40
        have hN : hitN c.goal v' = v' + 1 := by unfold hitN; rw [if_pos (.inr hg)]
        have hE := HE0.out
        rw [if_neg hg0, if_pos hg, hN] at hE
        have HE := Lib.hid hE
        clear hE
        have CP := mout_any HM4.out (by omega) (by rw [hLL]; exact ha) (by omega)
        go_upto_region 6 with fail
        rw [HW4.out]
        go_wp2_with fail
        refine CP.mono ?_
        rintro e w5 ⟨rfl, hR5⟩
        clear CP
        obtain ⟨hR3, hT5⟩ := HTK.out w5 _ _ hR5
        obtain ⟨hC5, hK⟩ := HMK.out w5 _ _ hR3
        have t0 : w5.cell? ⟨w3.heap.size, 0, none⟩ = some (.int .i64 2) := hT5.c 0 (by omega)
        have t1 : w5.cell? ⟨w3.heap.size, 1, none⟩ = some (.int .i64 0) := hT5.c 1 (by omega)
        have t2 : w5.cell? ⟨w3.heap.size, 2, none⟩ = some (.bool true) := hT5.c 2 (by omega)
        have t3 : w5.cell? ⟨w3.heap.size, 3, none⟩ = some (.int .i64 vl) := hT5.c 3 (by omega)
        have t4 : w5.cell? ⟨w3.heap.size, 4, none⟩ = some (.int .i64 0) := hT5.c 4 (by omega)
        have b0 : w5.cell? ⟨w.heap.size, 0, none⟩ = some (.int .i64 (c.goal : Int)) := hC5.box.c 0 (by omega)
        rw [hg2] at b0
        obtain ⟨w9, hw9⟩ : ∃ V, put5 w5 (w.heap.size + 1) (.int .i64 2) (.int .i64 0) (.bool true) (.int .i64 vl) (.int .i64 0) = V := ⟨_, rfl⟩
        have hR9 : Blk w9 (w.heap.size + 1) 5 (fun j => [Value.int .i64 2, .int .i64 0, .bool true, .int .i64 vl, .int .i64 0].getD j .nilFunc) := by rw [← hw9]; exact put5_blk hC5.res (.int .i64 2) (.int .i64 0) (.bool true) (.int .i64 vl) (.int .i64 0)
        have HF9 := Lib.hid (hK _ w9 (by rw [← hw9]; exact put5_ex _ _ (.int .i64 2) (.int .i64 0) (.bool true) (.int .i64 vl) (.int .i64 0)) (fun _ h => h))
        have z0 : (w5).frozen? ⟨w.heap.size + 1, 0, none⟩ = false := hC5.res.z 0
        have z1 : (w5).frozen? ⟨w.heap.size + 1, 1, none⟩ = false := hC5.res.z 1
        have z2 : (w5).frozen? ⟨w.heap.size + 1, 2, none⟩ = false := hC5.res.z 2
        have z3 : (w5).frozen? ⟨w.heap.size + 1, 3, none⟩ = false := hC5.res.z 3
        have z4 : (w5).frozen? ⟨w.heap.size + 1, 4, none⟩ = false := hC5.res.z 4
        have zc0 : (w5).cell? ⟨w.heap.size + 1, 0, none⟩ = some (.int .i64 0) := hC5.res.c 0 (by omega)
        have zc1 : (w5).cell? ⟨w.heap.size + 1, 1, none⟩ = some (.int .i64 0) := hC5.res.c 1 (by omega)
        have zc2 : (w5).cell? ⟨w.heap.size + 1, 2, none⟩ = some (.bool false) := hC5.res.c 2 (by omega)
        have zc3 : (w5).cell? ⟨w.heap.size + 1, 3, none⟩ = some (.int .i64 0) := hC5.res.c 3 (by omega)
        have zc4 : (w5).cell? ⟨w.heap.size + 1, 4, none⟩ = some (.int .i64 0) := hC5.res.c 4 (by omega)
        have o0 : w9.cell? ⟨w.heap.size + 1, 0, none⟩ = some (.int .i64 2) := hR9.c 0 (by omega)
        have o1 : w9.cell? ⟨w.heap.size + 1, 1, none⟩ = some (.int .i64 0) := hR9.c 1 (by omega)
        have o2 : w9.cell? ⟨w.heap.size + 1, 2, none⟩ = some (.bool true) := hR9.c 2 (by omega)
        have o3 : w9.cell? ⟨w.heap.size + 1, 3, none⟩ = some (.int .i64 vl) := hR9.c 3 (by omega)
        have o4 : w9.cell? ⟨w.heap.size + 1, 4, none⟩ = some (.int .i64 0) := hR9.c 4 (by omega)
        have HW9 := Lib.hid hw9
        unfold put5 at HW9
        clear hw9 hR9
        clear hC5 hK hR3 hT5
        go_wp2_with fail
        rw [HW9.out]
        refine bodyPost_ret (v := .tuple #[.agg #[.int .i64 2, .int .i64 0, .bool true, .int .i64 vl, .int .i64 0], .bool true]) ?_ rfl (coQ_yes HPHI.out (by rw [HE.out]; rfl) (by rw [HE.out]; exact HF9.out))
        simp [results, Tryz.results6, go_sem, o0, o1, o2, o3, o4]
      · skip
        have hn2 : ((c.goal : Int) == 2) = false := by rw [beq_eq_false_iff_ne]; omega
        have hn3 : ((c.goal : Int) == 3) = false := by rw [beq_eq_false_iff_ne]; omega
        have hN : hitN c.goal v' = v' := by unfold hitN; rw [if_neg (by omega)]
        have hE := HE0.out
        rw [if_neg hg, if_neg hg3, hN] at hE
        have HE := Lib.hid hE
        clear hE
        go_upto_region 6 with fail
        rw [HW4.out]
        obtain ⟨hR3, hT5⟩ := HTK.out w4 _ _ (MqR.refl HM4.out)
        obtain ⟨hC5, hK⟩ := HMK.out w4 _ _ hR3
        have t0 : w4.cell? ⟨w3.heap.size, 0, none⟩ = some (.int .i64 2) := hT5.c 0 (by omega)
        have t1 : w4.cell? ⟨w3.heap.size, 1, none⟩ = some (.int .i64 0) := hT5.c 1 (by omega)
        have t2 : w4.cell? ⟨w3.heap.size, 2, none⟩ = some (.bool true) := hT5.c 2 (by omega)
        have t3 : w4.cell? ⟨w3.heap.size, 3, none⟩ = some (.int .i64 vl) := hT5.c 3 (by omega)
        have t4 : w4.cell? ⟨w3.heap.size, 4, none⟩ = some (.int .i64 0) := hT5.c 4 (by omega)
        have b0 : w4.cell? ⟨w.heap.size, 0, none⟩ = some (.int .i64 (c.goal : Int)) := hC5.box.c 0 (by omega)
        obtain ⟨w9, hw9⟩ : ∃ V, put5 w4 (w.heap.size + 1) (.int .i64 2) (.int .i64 0) (.bool true) (.int .i64 vl) (.int .i64 0) = V := ⟨_, rfl⟩
        have hR9 : Blk w9 (w.heap.size + 1) 5 (fun j => [Value.int .i64 2, .int .i64 0, .bool true, .int .i64 vl, .int .i64 0].getD j .nilFunc) := by rw [← hw9]; exact put5_blk hC5.res (.int .i64 2) (.int .i64 0) (.bool true) (.int .i64 vl) (.int .i64 0)
        have HF9 := Lib.hid (hK _ w9 (by rw [← hw9]; exact put5_ex _ _ (.int .i64 2) (.int .i64 0) (.bool true) (.int .i64 vl) (.int .i64 0)) (fun _ h => h))
        have z0 : (w4).frozen? ⟨w.heap.size + 1, 0, none⟩ = false := hC5.res.z 0
        have z1 : (w4).frozen? ⟨w.heap.size + 1, 1, none⟩ = false := hC5.res.z 1
        have z2 : (w4).frozen? ⟨w.heap.size + 1, 2, none⟩ = false := hC5.res.z 2
        have z3 : (w4).frozen? ⟨w.heap.size + 1, 3, none⟩ = false := hC5.res.z 3
        have z4 : (w4).frozen? ⟨w.heap.size + 1, 4, none⟩ = false := hC5.res.z 4
        have zc0 : (w4).cell? ⟨w.heap.size + 1, 0, none⟩ = some (.int .i64 0) := hC5.res.c 0 (by omega)
        have zc1 : (w4).cell? ⟨w.heap.size + 1, 1, none⟩ = some (.int .i64 0) := hC5.res.c 1 (by omega)
        have zc2 : (w4).cell? ⟨w.heap.size + 1, 2, none⟩ = some (.bool false) := hC5.res.c 2 (by omega)
        have zc3 : (w4).cell? ⟨w.heap.size + 1, 3, none⟩ = some (.int .i64 0) := hC5.res.c 3 (by omega)
        have zc4 : (w4).cell? ⟨w.heap.size + 1, 4, none⟩ = some (.int .i64 0) := hC5.res.c 4 (by omega)
        have o0 : w9.cell? ⟨w.heap.size + 1, 0, none⟩ = some (.int .i64 2) := hR9.c 0 (by omega)
        have o1 : w9.cell? ⟨w.heap.size + 1, 1, none⟩ = some (.int .i64 0) := hR9.c 1 (by omega)
        have o2 : w9.cell? ⟨w.heap.size + 1, 2, none⟩ = some (.bool true) := hR9.c 2 (by omega)
        have o3 : w9.cell? ⟨w.heap.size + 1, 3, none⟩ = some (.int .i64 vl) := hR9.c 3 (by omega)
        have o4 : w9.cell? ⟨w.heap.size + 1, 4, none⟩ = some (.int .i64 0) := hR9.c 4 (by omega)
        have HW9 := Lib.hid hw9
        unfold put5 at HW9
        clear hw9 hR9
        clear hC5 hK hR3 hT5
        go_wp2_with fail
        rw [HW9.out]
        refine bodyPost_ret (v := .tuple #[.agg #[.int .i64 2, .int .i64 0, .bool true, .int .i64 vl, .int .i64 0], .bool true]) ?_ rfl (coQ_yes HPHI.out (by rw [HE.out]; rfl) (by rw [HE.out]; exact HF9.out))
        simp [results, Tryz.results6, go_sem, o0, o1, o2, o3, o4]
  · have e0 : atQ L' a = -1 := if_neg ha
    rw [e0]
    by_cases hg : c.goal = 1 ∨ c.goal = 3
    · have hE : endQ most c (L', v') a = (⟨2, 0, false, 0, 0⟩, L', v') := by unfold endQ; rw [if_neg ha, if_pos hg]
      have HE := Lib.hid hE
      obtain ⟨hC4, hK⟩ := HMK.out w3 L' v' (MqR.refl HM.out)
      obtain ⟨w9, hw9⟩ : ∃ V, put5 w3 (w.heap.size + 1) (.int .i64 2) (.int .i64 0) (.bool false) (.int .i64 0) (.int .i64 0) = V := ⟨_, rfl⟩
      have hR9 : Blk w9 (w.heap.size + 1) 5 (fun j => [Value.int .i64 2, .int .i64 0, .bool false, .int .i64 0, .int .i64 0].getD j .nilFunc) := by rw [← hw9]; exact put5_blk hC4.res (.int .i64 2) (.int .i64 0) (.bool false) (.int .i64 0) (.int .i64 0)
      have HF9 := Lib.hid (hK _ w9 (by rw [← hw9]; exact put5_ex _ _ (.int .i64 2) (.int .i64 0) (.bool false) (.int .i64 0) (.int .i64 0)) (fun _ h => h))
      have z0 : (w3).frozen? ⟨w.heap.size + 1, 0, none⟩ = false := hC4.res.z 0
      have z1 : (w3).frozen? ⟨w.heap.size + 1, 1, none⟩ = false := hC4.res.z 1
      have z2 : (w3).frozen? ⟨w.heap.size + 1, 2, none⟩ = false := hC4.res.z 2
      have z3 : (w3).frozen? ⟨w.heap.size + 1, 3, none⟩ = false := hC4.res.z 3
      have z4 : (w3).frozen? ⟨w.heap.size + 1, 4, none⟩ = false := hC4.res.z 4
      have zc0 : (w3).cell? ⟨w.heap.size + 1, 0, none⟩ = some (.int .i64 0) := hC4.res.c 0 (by omega)
      have zc1 : (w3).cell? ⟨w.heap.size + 1, 1, none⟩ = some (.int .i64 0) := hC4.res.c 1 (by omega)
      have zc2 : (w3).cell? ⟨w.heap.size + 1, 2, none⟩ = some (.bool false) := hC4.res.c 2 (by omega)
      have zc3 : (w3).cell? ⟨w.heap.size + 1, 3, none⟩ = some (.int .i64 0) := hC4.res.c 3 (by omega)
      have zc4 : (w3).cell? ⟨w.heap.size + 1, 4, none⟩ = some (.int .i64 0) := hC4.res.c 4 (by omega)
      have o0 : w9.cell? ⟨w.heap.size + 1, 0, none⟩ = some (.int .i64 2) := hR9.c 0 (by omega)
      have o1 : w9.cell? ⟨w.heap.size + 1, 1, none⟩ = some (.int .i64 0) := hR9.c 1 (by omega)
      have o2 : w9.cell? ⟨w.heap.size + 1, 2, none⟩ = some (.bool false) := hR9.c 2 (by omega)
      have o3 : w9.cell? ⟨w.heap.size + 1, 3, none⟩ = some (.int .i64 0) := hR9.c 3 (by omega)
      have o4 : w9.cell? ⟨w.heap.size + 1, 4, none⟩ = some (.int .i64 0) := hR9.c 4 (by omega)
      have HW9 := Lib.hid hw9
      unfold put5 at HW9
      clear hw9 hR9
      clear hC4 hK hE
      rcases hg with hg | hg
      · have hg2 : (c.goal : Int) = 1 := by omega
        rw [hg2] at g0
        go_wp2_with fail
        rw [HW9.out]
        refine bodyPost_ret (v := .tuple #[.agg #[.int .i64 2, .int .i64 0, .bool false, .int .i64 0, .int .i64 0], .bool true]) ?_ rfl (coQ_yes HPHI.out (by rw [HE.out]; rfl) (by rw [HE.out]; exact HF9.out))
        simp [results, Tryz.results6, go_sem, o0, o1, o2, o3, o4]
      · have hg2 : (c.goal : Int) = 3 := by omega
        rw [hg2] at g0
        go_wp2_with fail
        rw [HW9.out]
        refine bodyPost_ret (v := .tuple #[.agg #[.int .i64 2, .int .i64 0, .bool false, .int .i64 0, .int .i64 0], .bool true]) ?_ rfl (coQ_yes HPHI.out (by rw [HE.out]; rfl) (by rw [HE.out]; exact HF9.out))
        simp [results, Tryz.results6, go_sem, o0, o1, o2, o3, o4]
    · have hn1 : ((c.goal : Int) == 1) = false := by rw [beq_eq_false_iff_ne]; omega
      have hn3 : ((c.goal : Int) == 3) = false := by rw [beq_eq_false_iff_ne]; omega
      have x1 : w3.drew.cell? ⟨m, 1, none⟩ = some (.int .i64 (most : Int)) := HM.out.hd.c 1 (by omega)
      obtain ⟨al, capl, hlv, hcapl, _⟩ := HM.out.row.open
      have x0 : w3.drew.cell? ⟨m, 0, none⟩ = some (.slice al L'.length capl) := by rw [← hlv]; exact HM.out.hd.c 0 (by omega)
      have s0 : w3.drew.cell? ⟨m, 0, none⟩ = some (.slice al L'.length capl) ∧ w3.drew.cell? ⟨m, 1, none⟩ = some (.int .i64 (most : Int)) := ⟨x0, x1⟩
      have hMd : Mq w3.drew m lv' av' tv L' most v' q' same inner := HM.out.same fun _ _ => rfl
      have hbd : Below w3.heap.size w3 w3.drew := (Below.refl _ w3).drew
      clear hlv x0 x1
      by_cases hf : most ≤ L'.length
      · have hE : endQ most c (L', v') a = (⟨3, 0, false, 0, 0⟩, L', v') := by unfold endQ; rw [if_neg ha, if_neg hg, if_pos hf]
        have HE := Lib.hid hE
        obtain ⟨hC4, hK⟩ := HMK.out w3.drew L' v' ((MqR.refl hMd).old hbd)
        obtain ⟨w9, hw9⟩ : ∃ V, put5 w3.drew (w.heap.size + 1) (.int .i64 3) (.int .i64 0) (.bool false) (.int .i64 0) (.int .i64 0) = V := ⟨_, rfl⟩
        have hR9 : Blk w9 (w.heap.size + 1) 5 (fun j => [Value.int .i64 3, .int .i64 0, .bool false, .int .i64 0, .int .i64 0].getD j .nilFunc) := by rw [← hw9]; exact put5_blk hC4.res (.int .i64 3) (.int .i64 0) (.bool false) (.int .i64 0) (.int .i64 0)
        have HF9 := Lib.hid (hK _ w9 (by rw [← hw9]; exact put5_ex _ _ (.int .i64 3) (.int .i64 0) (.bool false) (.int .i64 0) (.int .i64 0)) (fun _ h => h))
        have z0 : (w3.drew).frozen? ⟨w.heap.size + 1, 0, none⟩ = false := hC4.res.z 0
        have z1 : (w3.drew).frozen? ⟨w.heap.size + 1, 1, none⟩ = false := hC4.res.z 1
        have z2 : (w3.drew).frozen? ⟨w.heap.size + 1, 2, none⟩ = false := hC4.res.z 2
        have z3 : (w3.drew).frozen? ⟨w.heap.size + 1, 3, none⟩ = false := hC4.res.z 3
        have z4 : (w3.drew).frozen? ⟨w.heap.size + 1, 4, none⟩ = false := hC4.res.z 4
        have zc0 : (w3.drew).cell? ⟨w.heap.size + 1, 0, none⟩ = some (.int .i64 0) := hC4.res.c 0 (by omega)
        have zc1 : (w3.drew).cell? ⟨w.heap.size + 1, 1, none⟩ = some (.int .i64 0) := hC4.res.c 1 (by omega)
        have zc2 : (w3.drew).cell? ⟨w.heap.size + 1, 2, none⟩ = some (.bool false) := hC4.res.c 2 (by omega)
        have zc3 : (w3.drew).cell? ⟨w.heap.size + 1, 3, none⟩ = some (.int .i64 0) := hC4.res.c 3 (by omega)
        have zc4 : (w3.drew).cell? ⟨w.heap.size + 1, 4, none⟩ = some (.int .i64 0) := hC4.res.c 4 (by omega)
        have o0 : w9.cell? ⟨w.heap.size + 1, 0, none⟩ = some (.int .i64 3) := hR9.c 0 (by omega)
        have o1 : w9.cell? ⟨w.heap.size + 1, 1, none⟩ = some (.int .i64 0) := hR9.c 1 (by omega)
        have o2 : w9.cell? ⟨w.heap.size + 1, 2, none⟩ = some (.bool false) := hR9.c 2 (by omega)
        have o3 : w9.cell? ⟨w.heap.size + 1, 3, none⟩ = some (.int .i64 0) := hR9.c 3 (by omega)
        have o4 : w9.cell? ⟨w.heap.size + 1, 4, none⟩ = some (.int .i64 0) := hR9.c 4 (by omega)
        have HW9 := Lib.hid hw9
        unfold put5 at HW9
        clear hw9 hR9
        clear hC4 hK hE hMd hbd
        have tf : (most : Int) ≤ (L'.length : Int) := by omega
        go_upto_region 13 with fail
        go_region_held3 (fun V => V.cell? ⟨m, 0, none⟩ = some (.slice al L'.length capl) ∧ V.cell? ⟨m, 1, none⟩ = some (.int .i64 (most : Int))) (first | with_reducible exact s0 | fail) (fail)
        clear s0
        generalize w3.drew = wd at *
        go_wp2_with fail
        rw [HW9.out]
        refine bodyPost_ret (v := .tuple #[.agg #[.int .i64 3, .int .i64 0, .bool false, .int .i64 0, .int .i64 0], .bool true]) ?_ rfl (coQ_yes HPHI.out (by rw [HE.out]; rfl) (by rw [HE.out]; exact HF9.out))
        simp [results, Tryz.results6, go_sem, o0, o1, o2, o3, o4]
      · have hE : endQ most c (L', v') a = (⟨2, 0, false, c.value, 0⟩, L' ++ [⟨c.hash, c.key, c.value⟩], v' + 1) := by unfold endQ; rw [if_neg ha, if_neg hg, if_neg hf]
        have HE := Lib.hid hE
        have tf : ¬ (most : Int) ≤ (L'.length : Int) := by omega
        have CP := mput_app hMd (by omega) (by omega) c.hash c.key c.value
        have r1 : w3.drew.cell? ⟨w.heap.size, 1, none⟩ = some (.int .i64 c.hash) := g1
        have r2 : w3.drew.cell? ⟨w.heap.size, 2, none⟩ = some (.int .i64 c.key) := g2
        have r3 : w3.drew.cell? ⟨w.heap.size, 3, none⟩ = some (.int .i64 c.value) := g3
        have HBD := Lib.hid hbd
        clear hMd hbd hE
        go_upto_region 13 with fail
        go_region_held3 (fun V => V.cell? ⟨m, 0, none⟩ = some (.slice al L'.length capl) ∧ V.cell? ⟨m, 1, none⟩ = some (.int .i64 (most : Int))) (first | with_reducible exact s0 | fail) (fail)
        go_wp2_with fail
        refine CP.mono ?_
        rintro e w5 ⟨rfl, hR5⟩
        clear CP
        obtain ⟨hC5, hK⟩ := HMK.out w5 _ _ (hR5.old HBD.out)
        have b3 : w5.cell? ⟨w.heap.size, 3, none⟩ = some (.int .i64 c.value) := hC5.box.c 3 (by omega)
        obtain ⟨w9, hw9⟩ : ∃ V, put5 w5 (w.heap.size + 1) (.int .i64 2) (.int .i64 0) (.bool false) (.int .i64 c.value) (.int .i64 0) = V := ⟨_, rfl⟩
        have hR9 : Blk w9 (w.heap.size + 1) 5 (fun j => [Value.int .i64 2, .int .i64 0, .bool false, .int .i64 c.value, .int .i64 0].getD j .nilFunc) := by rw [← hw9]; exact put5_blk hC5.res (.int .i64 2) (.int .i64 0) (.bool false) (.int .i64 c.value) (.int .i64 0)
        have HF9 := Lib.hid (hK _ w9 (by rw [← hw9]; exact put5_ex _ _ (.int .i64 2) (.int .i64 0) (.bool false) (.int .i64 c.value) (.int .i64 0)) (fun _ h => h))
        have z0 : (w5).frozen? ⟨w.heap.size + 1, 0, none⟩ = false := hC5.res.z 0
        have z1 : (w5).frozen? ⟨w.heap.size + 1, 1, none⟩ = false := hC5.res.z 1
        have z2 : (w5).frozen? ⟨w.heap.size + 1, 2, none⟩ = false := hC5.res.z 2
        have z3 : (w5).frozen? ⟨w.heap.size + 1, 3, none⟩ = false := hC5.res.z 3
        have z4 : (w5).frozen? ⟨w.heap.size + 1, 4, none⟩ = false := hC5.res.z 4
        have zc0 : (w5).cell? ⟨w.heap.size + 1, 0, none⟩ = some (.int .i64 0) := hC5.res.c 0 (by omega)
        have zc1 : (w5).cell? ⟨w.heap.size + 1, 1, none⟩ = some (.int .i64 0) := hC5.res.c 1 (by omega)
        have zc2 : (w5).cell? ⟨w.heap.size + 1, 2, none⟩ = some (.bool false) := hC5.res.c 2 (by omega)
        have zc3 : (w5).cell? ⟨w.heap.size + 1, 3, none⟩ = some (.int .i64 0) := hC5.res.c 3 (by omega)
        have zc4 : (w5).cell? ⟨w.heap.size + 1, 4, none⟩ = some (.int .i64 0) := hC5.res.c 4 (by omega)
        have o0 : w9.cell? ⟨w.heap.size + 1, 0, none⟩ = some (.int .i64 2) := hR9.c 0 (by omega)
        have o1 : w9.cell? ⟨w.heap.size + 1, 1, none⟩ = some (.int .i64 0) := hR9.c 1 (by omega)
        have o2 : w9.cell? ⟨w.heap.size + 1, 2, none⟩ = some (.bool false) := hR9.c 2 (by omega)
        have o3 : w9.cell? ⟨w.heap.size + 1, 3, none⟩ = some (.int .i64 c.value) := hR9.c 3 (by omega)
        have o4 : w9.cell? ⟨w.heap.size + 1, 4, none⟩ = some (.int .i64 0) := hR9.c 4 (by omega)
        have HW9 := Lib.hid hw9
        unfold put5 at HW9
        clear hw9 hR9
        clear hC5 hK hR5
        go_wp2_with fail
        rw [HW9.out]
        refine bodyPost_ret (v := .tuple #[.agg #[.int .i64 2, .int .i64 0, .bool false, .int .i64 c.value, .int .i64 0], .bool true]) ?_ rfl (coQ_yes HPHI.out (by rw [HE.out]; rfl) (by rw [HE.out]; exact HF9.out))
        simp [results, Tryz.results6, go_sem, o0, o1, o2, o3, o4]
/-- What an outer call of the model does. -/
def OcQ (most : Nat) (same : Int) (A : List Ac) (c : Cq) (L : List Pq) (v : Nat) (q : List Int) (M Mv : Nat) (a : Nat) (L' : List Pq) (v' : Nat) (q' : List Int) : Prop := ∃ k, FdQ most same A c L v q 0 0 a L' v' q' k ∧ k ≤ 20 * M ∧ L'.length + potQ (q'.length : Int) A ≤ M ∧ v' + potQ (q'.length : Int) A ≤ Mv ∧ q'.length = q.length + k ∧ a ≤ L'.length
theorem mcallO_any {B : Nat} {w : World} {m : Nat} {lv av tv : Value} {L : List Pq} {most v : Nat} {q : List Int} {same : Int} {A : List Ac} {M Mv : Nat} (h : Mq w m lv av tv L most v q same false) (hA : ArB B w tv A) (hB : ∀ k, mqX m lv av k → B ≤ k) (hBw : B ≤ w.heap.size) (hAl : A.length ≤ 1000) (hJ : L.length + potQ (q.length : Int) A ≤ M ∧ v + potQ (q.length : Int) A ≤ Mv) (hM : M ≤ 1000) (hMv : Mv ≤ 1000) (hq : q.length + 20 * M ≤ 100000) (c : Cq) :
    Calls Tryz.prog 6 #[.pointer (some ⟨m, 0, none⟩), .agg #[.int .i64 (c.goal : Int), .int .i64 c.hash, .int .i64 c.key, .int .i64 c.value]] w fun e w' => CoQ (OcQ most same A c L v q M Mv) w m lv av tv most same false c e w' := by
  refine mcallO_of h.lt c (fun a L' v' q' ⟨k, _, _, h3, h4, _⟩ => by omega) fun V hb => (mfindO_any (h.below hb) (hA.keep fun k hk => hb.block k (by omega)) hB (Nat.le_trans hBw hb.size) hAl hJ hM hMv hq c).mono fun e w' h => ?_
  rcases h with ⟨a, L', v', q', k, h1, h2, h3⟩ | h
  · obtain ⟨g1, g2, g3, g4, g5⟩ := h1.bound hJ.1 (by omega)
    have hk : k ≤ 20 * M := by omega
    exact .inl ⟨a, L', v', q', ⟨k, h1, hk, g2, by omega, g4, g5⟩, h2, h3⟩
  · exact .inr h
end Go.Proofs.YtbpflmdefpjcaaaGreat
namespace Go.Proofs.YtbpflmdefpjcaaaGreat
open Go.RowKit Go.WideShapes

theorem aw_same {K : Nat → Prop} {B : Nat} {w0 w : World} {d x : Nat} {t : Tb} {most : Int} {v : Nat} {m : Ma} {n g gi r h : Nat} {ev : Value} {s j f : Nat} (p : Aw K B w0 w d x t most v m n g gi r h ev s j f) (hk : m.u.kind = 0) (hsame : m.same = true) (ft : Fit t v) (hg : m.goal = 1) :
    Calls Tryz.prog 10 #[.pointer (some ⟨x, 0, none⟩)] w fun e w' => e = .returned (tuV ⟨2, 0, true, (nth t.es n).value, (n : Int)⟩) ∧ En1 w' d x { m with u := ⟨2, 0, true, (nth t.es n).value, (n : Int)⟩ } t.L s j ∧ Pd K B w0 w' d g gi r h ev t most v ∧ Kp K w w' := by
  have hsv : ∀ k, mB (.pointer (some ⟨s, 0, none⟩)) k → k < w.heap.size := fun k hk => by rw [someB hk]; exact p.sw.sk.lt (by omega)
  refine (step_told p.pd.dc mtOk_nil (a := 0) (b := 0) trivial ft.turn ft.ver p.mx hk hsv (by rw [p.scans]; decide) p.ver hsame n p.asked p.of.1 p.of.2.1).mono ?_
  rintro e w' ⟨rfl, hc, hm, hks⟩
  have eT : hitT m t n = t := by rw [hitT, hg]; rfl
  have eN : hitN m.goal v = v := by rw [hitN, hg]; rfl
  rw [eT, eN] at hc
  have hle := p.sw.le
  have hlt := p.sw.lt
  exact ⟨rfl, ⟨hm, Vi.same ⟨_, _, _, _, _, _, p.sw.sk⟩ (hks s (p.sw.sk.lt (by omega)) p.sw.nc p.sw.nm p.sw.nx), by omega, p.scans⟩, p.pd.cm p.hx (fun k hk => by rw [someB hk]; exact p.hs) hc, p.pd.cmk p.kx (fun k hk => by rw [someB hk]; exact p.ks) hc⟩
/-- Two turns that are the same. -/
def tuE (x y : Tu) : Bool := x.kind == y.kind && (x.key == y.key && (x.found == y.found && (x.value == y.value && x.entry == y.entry)))
theorem tu_eq (x y : Tu) (w : World) : (binOp .eql 40 (tuV x) (tuV y)).run Tryz.prog w = .ok (.bool (tuE x y)) w := by
  unfold tuV tuE
  have hu : Tryz.prog.underlying 40 = some (.struct (Tryz.prog.fieldsOf 40)) := by kernel_rfl
  have hp : Tryz.prog.stoodInHeld 40 = false := by kernel_rfl
  rw [run_eql_struct, run_equalIn_agg w 9999 _ _ _ hu hp]
  have hF : (Tryz.prog.fieldsOf 40).toList = [⟨"Kind", 3, 0, false, "", "", 0⟩, ⟨"Key", 3, 1, false, "", "", 8⟩, ⟨"Found", 4, 2, false, "", "", 16⟩, ⟨"Value", 3, 3, false, "", "", 24⟩, ⟨"Entry", 3, 4, false, "", "", 32⟩] := by kernel_rfl
  rw [hF]
  by_cases h0 : x.kind = y.kind
  · by_cases h1 : x.key = y.key
    · by_cases h2 : x.found = y.found
      · by_cases h3 : x.value = y.value
        · by_cases h4 : x.entry = y.entry
          · simp [Op.eqFields, go_sem, h0, h1, h2, h3, h4]
          · simp [Op.eqFields, go_sem, h0, h1, h2, h3, h4]
        · simp [Op.eqFields, go_sem, h0, h1, h2, h3]
      · simp [Op.eqFields, go_sem, h0, h1, h2]
    · simp [Op.eqFields, go_sem, h0, h1]
  · simp [Op.eqFields, go_sem, h0]
theorem tu_ne (x y : Tu) (w : World) : (binOp .neq 40 (tuV x) (tuV y)).run Tryz.prog w = .ok (.bool (!tuE x y)) w := by
  have h := tu_eq x y w
  unfold tuV at h ⊢
  rw [run_eql_struct] at h
  rw [run_neq_struct]
  cases hr : (Op.equalIn 10000 40 (.agg #[.int .i64 x.kind, .int .i64 x.key, .bool x.found, .int .i64 x.value, .int .i64 x.entry]) (.agg #[.int .i64 y.kind, .int .i64 y.key, .bool y.found, .int .i64 y.value, .int .i64 y.entry])).run Tryz.prog w with
  | ok b w' =>
    rw [hr] at h
    simp [Result.andThen] at h ⊢
    obtain ⟨rfl, rfl⟩ := h
    exact ⟨rfl, rfl⟩
  | halt a w' => rw [hr] at h; simp [Result.andThen] at h
theorem neMa (x : Nat) (w : World) : (binOp .neq 45 (.pointer (some ⟨x, 0, none⟩)) (.pointer none)).run Tryz.prog w = .ok (.bool true) w := by kernel_rfl
/-- The machine of a dictionary of one's own that was begun. -/
theorem lw_begin {K : Nat → Prop} {B : Nat} {w0 w : World} {d g gi r h : Nat} {ev : Value} {t : Tb} {most : Int} {v : Nat} (p : Pd K B w0 w d g gi r h ev t most v) (goal : Nat) (hg1 : 1 ≤ goal) (hg4 : goal ≤ 4) (u k x : Int) :
    Calls Tryz.prog 9 #[.pointer (some ⟨d, 0, none⟩), .int .i64 (goal : Int), .int .i64 u, .int .i64 k, .int .i64 x] w fun e w' => ∃ b, e = .returned (.pointer (some ⟨b, 0, none⟩)) ∧ B ≤ b ∧ ¬ K b ∧ ¬ cX d g gi r h ev b ∧ Mc w' b (.pointer none) d ⟨goal, u, k, x, 0, 0, Tu.zero, 0, false⟩ ∧ Pd K B w0 w' d g gi r h ev t most v ∧ Kp K w w' := by
  refine (begin_yes d goal hg1 hg4 u k x w).mono ?_
  rintro e w' ⟨b, rfl, hb, hm, hbl⟩
  exact ⟨b, rfl, Nat.le_trans p.size hb, fun hk => by have := (p.kp b hk).1; omega, fun hk => by have := p.dc.lt b hk; omega, hm, p.below hbl, p.kept hbl⟩
theorem lw_new (w : World) (most : Int) (h0 : 0 ≤ most) (h1 : most ≤ 65536) :
    Calls Tryz.prog 5 #[.int .i64 most, .pointer none] w fun e w' => ∃ d g gi r h, e = .returned (.tuple #[.pointer (some ⟨d, 0, none⟩), .int .i64 0]) ∧ Pd (fun _ => False) w.heap.size w w' d g gi r h (.slice none 0 0) Tb.new most 0 := by
  refine (pnew_any (w := w) (pm := none) (a := 0) (b := 0) mtOk_nil trivial (by decide) most h0 h1).mono ?_
  rintro e w' ⟨d, g, gi, r, h, rfl, hf, hD, _, hX⟩
  exact ⟨d, g, gi, r, h, rfl, hD, hf, hX.below (fun k hk => (noneB hk).elim) (Nat.le_refl _), fun _ h => h.elim⟩
theorem new_none (u : Int) (n : Nat) : ¬ Of Tb.new.es u n := fun h => absurd h.1 (Nat.not_lt_zero _)
theorem awake_add : (Tb.new.add 7 1 10).es = [⟨true, 7, 1, 10, 0⟩] := by
  have h1 : Tb.new.add 7 1 10 = Tb.new.push 7 1 10 := by unfold Tb.add; rw [if_pos (by show 0 < rm (2 ^ 3); decide)]
  rw [h1]
  rfl
set_option maxRecDepth 100000 in
set_option maxHeartbeats 4000000 in
theorem awake8_any (w : World) : Calls Tryz.prog 4 #[] w fun e w' => e = .returned (.bool true) ∧ Below w.heap.size w w' := by
  have CN := lw_new w 3 (by decide) (by decide)
  go_enter Tryz.func4, Tryz.ntmps4
  go_wp2_with fail
  refine CN.mono ?_
  rintro e w1 ⟨d, g, gi, r, h, rfl, hP⟩
  clear CN
  have CB := lw_begin hP 2 (by decide) (by decide) 7 1 10
  have h1 := eqD d
  clear hP
  go_wp2_with fail
  refine CB.mono ?_
  rintro e w2 ⟨x, rfl, hx, hkx, hnx, hm, hP, _⟩
  clear CB h1
  have h1 := eqMa x
  have CS := fresh_step hP hx hm hnx hkx ⟨by decide, by decide, by decide, by decide⟩ (fun n hn => (new_none _ n hn).elim)
  clear hP hm
  go_wp2_with fail
  refine CS.mono ?_
  rintro e w3 ⟨u, rfl, hL, _⟩
  clear CS
  obtain ⟨hu, g2, gi2, r2, h2, ev2, hP⟩ : u = ⟨2, 0, false, 10, 0⟩ ∧ ∃ g gi' r' h' ev', Pd (fun _ => False) w.heap.size w w3 d g gi' r' h' ev' (Tb.new.add 7 1 10) 3 1 := by
    rcases hL with ⟨n, hO, _⟩ | ⟨_, _, hM⟩
    · exact (new_none _ n hO).elim
    · rcases hM with ⟨_, _, q, y⟩ | ⟨_, q, _⟩ | ⟨q, _⟩
      · refine ⟨?_, y⟩
        rw [q, awake_add]
        rfl
      · exact absurd (by decide) q
      · exact absurd (.inl rfl) q
  subst hu
  clear hL
  have e1 := tu_ne ⟨2, 0, false, 10, 0⟩ ⟨2, 0, false, 10, 0⟩
  have e1' : (!tuE ⟨2, 0, false, 10, 0⟩ ⟨2, 0, false, 10, 0⟩) = false := by decide
  rw [e1'] at e1
  unfold tuV at e1 ⊢
  have CB := lw_begin hP 1 (by decide) (by decide) 7 2 0
  clear hP
  go_wp2_with fail
  refine CB.mono ?_
  rintro e w4 ⟨y, rfl, hy, hky, hny, hm, hP, _⟩
  clear CB h1 e1 e1'
  have h1 := neMa y
  have r0 := Tb.new.add_rest 7 1 10
  have hes := awake_add
  have hft : Fit (Tb.new.add 7 1 10) 1 := ⟨Nat.le_trans r0.2.1 (by decide), by rw [r0.2.2.2]; decide, by rw [r0.1]; decide, by decide⟩
  generalize Tb.new.add 7 1 10 = T at *
  have CS := fresh_step hP hy hm hny hky hft (fun n hn => by
    have hl := hn.1
    rw [hes] at hl ⊢
    have : n = 0 := by simp at hl; exact hl
    subst this
    decide)
  have HT := Lib.hid hes
  have HF := Lib.hid hft
  clear hP hm r0 hes hft
  go_wp2_with fail
  refine CS.mono ?_
  rintro e w5 ⟨u, rfl, hL, _⟩
  clear CS
  obtain ⟨hu, g3, gi3, r3, h3, ev3, s3, j3, f3, hA⟩ : u = ⟨1, 1, false, 0, 0⟩ ∧ ∃ g gi r h ev s j f, Aw (fun _ => False) w.heap.size w w5 d y T 3 1 ⟨1, 7, 2, 0, 1, 1, ⟨1, 1, false, 0, 0⟩, 0, false⟩ 0 g gi r h ev s j f := by
    have h0 : Of T.es 7 0 := by rw [HT.out]; exact ⟨by decide, rfl, rfl⟩
    rcases hL with ⟨n, hO, _, hmin, q, hh⟩ | ⟨q, _⟩
    · have : n = 0 := Nat.le_zero.1 (hmin 0 h0 (by decide))
      subst this
      have hk : (nth T.es 0).key = 1 := by rw [HT.out]; rfl
      rw [hk] at q
      subst q
      exact ⟨rfl, hh⟩
    · exact absurd (q 0 h0) (by decide)
  subst hu
  clear hL
  have e1 := tu_eq ⟨1, 1, false, 0, 0⟩ ⟨1, 1, false, 0, 0⟩
  have e1' : tuE ⟨1, 1, false, 0, 0⟩ ⟨1, 1, false, 0, 0⟩ = true := by decide
  rw [e1'] at e1
  unfold tuV at e1 ⊢
  have CT := aw_tell hA rfl true
  clear hA
  go_wp2_with fail
  refine CT.mono ?_
  rintro e w6 ⟨rfl, hA, _⟩
  clear CT e1 e1'
  have CS := aw_same hA rfl rfl HF.out rfl
  have hk : (nth T.es 0).value = 10 := by rw [HT.out]; rfl
  rw [hk] at CS
  clear hA hk
  go_wp2_with fail
  refine CS.mono ?_
  rintro e w7 ⟨rfl, _, hP, _⟩
  clear CS
  have e1 := tu_eq ⟨2, 0, true, 10, 0⟩ ⟨2, 0, true, 10, 0⟩
  have e1' : tuE ⟨2, 0, true, 10, 0⟩ ⟨2, 0, true, 10, 0⟩ = true := by decide
  rw [e1'] at e1
  unfold tuV at e1 ⊢
  have HB := Lib.hid hP.bl
  clear hP
  simp only [Int.cast_ofNat_Int]
  go_wp2_with fail
  go_ret
  exact ⟨rfl, HB.out⟩
end Go.Proofs.YtbpflmdefpjcaaaGreat
namespace Go.Proofs.YtbpflmdefpjcaaaGreat
open Go.ChangeShapes Go.WideShapes Go.ChangeAt Go.RowKit Go.Joins

/-- A row of steps. -/
def Ah5 (W : World) (a : Option Addr) (n c : Nat) (G : Nat → Nat → Int) : Prop :=
  n ≤ c ∧ ∃ b off, (0 < n → a = some ⟨b, off, none⟩ ∧ b < W.heap.size) ∧ ∀ i, i < n → ∀ k, k < 5 → W.cell? ⟨b, off + (i * 5 + k), none⟩ = some (.int .i64 (G i k))
theorem Tryz.cellsAct5 : Tryz.prog.cellsOf 84 = 5 := by kernel_rfl
theorem Tryz.cellsIA5 : Tryz.prog.cellsOf 3 = 1 := by kernel_rfl
theorem five_addA (b off q : Nat) : (⟨b, off, none⟩ : Addr).add q = ⟨b, off + q, none⟩ := by
  unfold Addr.add
  split <;> simp_all
set_option maxRecDepth 100000 in
theorem acts5_open {H : Type} {enc : TypeId × Value → H} {W : World} {r : Reach} {base : Nat} {v : Value} {d : DataW H} {p : List MemPlace} (hv : Value.okWide Tryz.prog W r base 22 v) (h : DataW.Trod enc Tryz.prog W 0 (fun _ => true) true 22 v d p) :
    ∃ a n c G, v = .slice a n c ∧ Ah5 W a n c G := by
  obtain ⟨a0, n0, c0, rfl⟩ := okWide_slice Tryz.underlying22 hv
  obtain ⟨fuel, hf⟩ := h
  rcases Deep.open_slice Tryz.underlying22 hf with ⟨hcs, _⟩ | ⟨a, len, cap, m, n, D, Pl, hcs, hb, hl, hm, hmm, _, hx⟩
  · simp [Value.cells] at hcs
    obtain ⟨rfl, rfl, rfl⟩ := hcs
    exact ⟨none, 0, 0, fun _ _ => 0, rfl, Nat.le_refl _, 0, 0, fun h => absurd h (by omega), fun i h => absurd h (by omega)⟩
  · simp [Value.cells] at hcs
    obtain ⟨rfl, rfl, rfl⟩ := hcs
    simp only [if_true] at hmm
    have each : ∀ i, i < m → ∃ q : Nat → Int, ∀ k, k < 5 → W.cell? (a.add (i * 5 + k)) = some (.int .i64 (q k)) := by
      intro i hi
      obtain ⟨cs', h1, h2⟩ := hx i hi
      rw [Tryz.cellsAct5] at h1
      obtain ⟨_, hlen, hcell⟩ := World.cells?_some h1
      obtain ⟨xs, k, hk, hxy, _, hxl, hf⟩ := DataW.trod_struct Tryz.underlying84 h2
      match xs, hxl, cs', hlen with
      | [y0, y1, y2, y3, y4], _, [v0, v1, v2, v3, v4], _ =>
        have g0 := hf 0 _ rfl
        have g1 := hf 1 _ rfl
        have g2 := hf 2 _ rfl
        have g3 := hf 3 _ rfl
        have g4 := hf 4 _ rfl
        simp [Tryz.cellsIA5] at g0 g1 g2 g3 g4
        obtain ⟨z0, e0, _⟩ := DataW.trod_int Tryz.underlying3 g0
        obtain ⟨z1, e1, _⟩ := DataW.trod_int Tryz.underlying3 g1
        obtain ⟨z2, e2, _⟩ := DataW.trod_int Tryz.underlying3 g2
        obtain ⟨z3, e3, _⟩ := DataW.trod_int Tryz.underlying3 g3
        obtain ⟨z4, e4, _⟩ := DataW.trod_int Tryz.underlying3 g4
        simp only [List.cons.injEq, and_true] at e0 e1 e2 e3 e4
        subst e0 e1 e2 e3 e4
        refine ⟨fun k => match k with | 0 => z0 | 1 => z1 | 2 => z2 | 3 => z3 | _ => z4, fun k hk => ?_⟩
        have hc := hcell k (by omega)
        rw [Deep.add_add] at hc
        match k, hk with
        | 0, _ => simpa using hc
        | 1, _ => simpa using hc
        | 2, _ => simpa using hc
        | 3, _ => simpa using hc
        | 4, _ => simpa using hc
    obtain ⟨q, hq⟩ := Deep.choose_lt each
    obtain ⟨b, off, spot⟩ := a
    have hsp : 0 < n0 → spot = none := fun h0 => by
      have := hq 0 (by omega) 0 (by omega)
      simpa [Addr.add] using World.cell?_spot this
    refine ⟨_, _, _, q, rfl, hl, b, off, fun h0 => ?_, fun i hi k hk => ?_⟩
    · obtain rfl := hsp h0
      have hc := hq 0 (by omega) 0 (by omega)
      rw [five_addA] at hc
      exact ⟨rfl, lt_of_cell hc⟩
    · obtain rfl := hsp (by omega)
      have hc := hq i (by omega) k hk
      rw [five_addA] at hc
      exact hc
/-- A row of steps. -/
def Ch4 (W : World) (a : Option Addr) (n c : Nat) (G : Nat → Nat → Int) : Prop :=
  n ≤ c ∧ ∃ b off, (0 < n → a = some ⟨b, off, none⟩ ∧ b < W.heap.size) ∧ ∀ i, i < n → ∀ k, k < 4 → W.cell? ⟨b, off + (i * 4 + k), none⟩ = some (.int .i64 (G i k))
theorem Tryz.cellsCall4 : Tryz.prog.cellsOf 38 = 4 := by kernel_rfl
theorem Tryz.cellsIC4 : Tryz.prog.cellsOf 3 = 1 := by kernel_rfl
set_option maxRecDepth 100000 in
theorem calls4_open {H : Type} {enc : TypeId × Value → H} {W : World} {r : Reach} {base : Nat} {v : Value} {d : DataW H} {p : List MemPlace} (hv : Value.okWide Tryz.prog W r base 23 v) (h : DataW.Trod enc Tryz.prog W 0 (fun _ => true) true 23 v d p) :
    ∃ a n c G, v = .slice a n c ∧ Ch4 W a n c G := by
  obtain ⟨a0, n0, c0, rfl⟩ := okWide_slice Tryz.underlying23 hv
  obtain ⟨fuel, hf⟩ := h
  rcases Deep.open_slice Tryz.underlying23 hf with ⟨hcs, _⟩ | ⟨a, len, cap, m, n, D, Pl, hcs, hb, hl, hm, hmm, _, hx⟩
  · simp [Value.cells] at hcs
    obtain ⟨rfl, rfl, rfl⟩ := hcs
    exact ⟨none, 0, 0, fun _ _ => 0, rfl, Nat.le_refl _, 0, 0, fun h => absurd h (by omega), fun i h => absurd h (by omega)⟩
  · simp [Value.cells] at hcs
    obtain ⟨rfl, rfl, rfl⟩ := hcs
    simp only [if_true] at hmm
    have each : ∀ i, i < m → ∃ q : Nat → Int, ∀ k, k < 4 → W.cell? (a.add (i * 4 + k)) = some (.int .i64 (q k)) := by
      intro i hi
      obtain ⟨cs', h1, h2⟩ := hx i hi
      rw [Tryz.cellsCall4] at h1
      obtain ⟨_, hlen, hcell⟩ := World.cells?_some h1
      obtain ⟨xs, k, hk, hxy, _, hxl, hf⟩ := DataW.trod_struct Tryz.underlying38 h2
      match xs, hxl, cs', hlen with
      | [y0, y1, y2, y3], _, [v0, v1, v2, v3], _ =>
        have g0 := hf 0 _ rfl
        have g1 := hf 1 _ rfl
        have g2 := hf 2 _ rfl
        have g3 := hf 3 _ rfl
        simp [Tryz.cellsIC4] at g0 g1 g2 g3
        obtain ⟨z0, e0, _⟩ := DataW.trod_int Tryz.underlying3 g0
        obtain ⟨z1, e1, _⟩ := DataW.trod_int Tryz.underlying3 g1
        obtain ⟨z2, e2, _⟩ := DataW.trod_int Tryz.underlying3 g2
        obtain ⟨z3, e3, _⟩ := DataW.trod_int Tryz.underlying3 g3
        simp only [List.cons.injEq, and_true] at e0 e1 e2 e3
        subst e0 e1 e2 e3
        refine ⟨fun k => match k with | 0 => z0 | 1 => z1 | 2 => z2 | _ => z3, fun k hk => ?_⟩
        have hc := hcell k (by omega)
        rw [Deep.add_add] at hc
        match k, hk with
        | 0, _ => simpa using hc
        | 1, _ => simpa using hc
        | 2, _ => simpa using hc
        | 3, _ => simpa using hc
    obtain ⟨q, hq⟩ := Deep.choose_lt each
    obtain ⟨b, off, spot⟩ := a
    have hsp : 0 < n0 → spot = none := fun h0 => by
      have := hq 0 (by omega) 0 (by omega)
      simpa [Addr.add] using World.cell?_spot this
    refine ⟨_, _, _, q, rfl, hl, b, off, fun h0 => ?_, fun i hi k hk => ?_⟩
    · obtain rfl := hsp h0
      have hc := hq 0 (by omega) 0 (by omega)
      rw [five_addA] at hc
      exact ⟨rfl, lt_of_cell hc⟩
    · obtain rfl := hsp (by omega)
      have hc := hq i (by omega) k hk
      rw [five_addA] at hc
      exact hc
end Go.Proofs.YtbpflmdefpjcaaaGreat
namespace Go.Proofs.YtbpflmdefpjcaaaGreat
open Go.RowKit Go.WideShapes

/-- Behind k calls. -/
def Pm8 (w wr : World) (r d m : Nat) (tv : Value) (most : Nat) (same : Int) (A : List Ac) (k : Nat) : Prop :=
  ∃ g gi rr h ev av t v q lv av2, Rq wr r d g gi rr h ev av tv t most v q same false ∧ Mq wr m lv av2 tv (pqs t.es) most v q same false ∧ (∀ k, rqX r d g gi rr h ev av k → w.heap.size ≤ k ∧ ¬ mqX m lv av2 k) ∧ (∀ k, mqX m lv av2 k → w.heap.size ≤ k) ∧ Below w.heap.size w wr ∧ (pqs t.es).length + potQ (q.length : Int) A ≤ k + 20 ∧ v + potQ (q.length : Int) A ≤ k + 20 ∧ q.length ≤ k * 1600
/-- The model has answered u. -/
def Pm8M (w w2 : World) (r d m : Nat) (tv : Value) (most : Nat) (same : Int) (A : List Ac) (k : Nat) (c : Cq) (u : Tu) : Prop :=
  ∃ wr g gi rr h ev av t v q lv av2 a L' v' q', Rq wr r d g gi rr h ev av tv t most v q same false ∧ (∀ k, rqX r d g gi rr h ev av k → w.heap.size ≤ k ∧ ¬ mqX m lv av2 k) ∧ (∀ k, mqX m lv av2 k → w.heap.size ≤ k) ∧ Below w.heap.size w wr ∧ v + potQ (q.length : Int) A ≤ k + 20 ∧ q.length ≤ k * 1600 ∧ OcQ most same A c (pqs t.es) v q (k + 20) (k + 20) a L' v' q' ∧ u = (endQ most c (L', v') a).1 ∧ MqR wr m lv av2 tv (endQ most c (L', v') a).2.1 most (endQ most c (L', v') a).2.2 q' same false w2
section
variable {w wr w2 w3 : World} {r d m : Nat} {tv : Value} {most : Nat} {same : Int} {A : List Ac} {k : Nat} {c : Cq} {u : Tu}
theorem Pm8.bl (h : Pm8 w wr r d m tv most same A k) : Below w.heap.size w wr := by
  obtain ⟨_, _, _, _, _, _, _, _, _, _, _, _, _, _, _, hb, _⟩ := h
  exact hb
theorem Pm8.below (h : Pm8 w wr r d m tv most same A k) (hb : Below wr.heap.size wr w2) : Pm8 w w2 r d m tv most same A k := by
  obtain ⟨g, gi, rr, h, ev, av, t, v, q, lv, av2, p, M, h1, h2, h3, h4⟩ := h
  exact ⟨g, gi, rr, h, ev, av, t, v, q, lv, av2, p.below hb, M.below hb, h1, h2, h3.trans (hb.mono h3.size), h4⟩
theorem Pm8.more (h : Pm8 w wr r d m tv most same A k) : Pm8 w wr r d m tv most same A (k + 1) := by
  obtain ⟨g, gi, rr, h, ev, av, t, v, q, lv, av2, p, M, h1, h2, h3, h4, h5, h6⟩ := h
  exact ⟨g, gi, rr, h, ev, av, t, v, q, lv, av2, p, M, h1, h2, h3, by omega, by omega, Nat.le_trans h6 (Nat.mul_le_mul_right _ (Nat.le_succ _))⟩
theorem Pm8M.bl (h : Pm8M w w2 r d m tv most same A k c u) : Below w.heap.size w w2 := by
  obtain ⟨wr, g, gi, rr, h, ev, av, t, v, q, lv, av2, a, L', v', q', p, h1, h2, h3, h4, h5, h6, h7, _, _, _, _, mex⟩ := h
  exact h3.trans (mex.below h2 h3.size)
theorem pm8_model (h : Pm8 w wr r d m tv most same A k) (hk : k < 60) (hA : ArB w.heap.size w tv A) (hAl : A.length ≤ 20) (c : Cq) :
    Calls Tryz.prog 6 #[.pointer (some ⟨m, 0, none⟩), .agg #[.int .i64 (c.goal : Int), .int .i64 c.hash, .int .i64 c.key, .int .i64 c.value]] wr fun e w2 => (∃ u, e = .returned (.tuple #[tuV u, .bool true]) ∧ Pm8M w w2 r d m tv most same A k c u) ∨ (e = .returned (.tuple #[tuV Tu.zero, .bool false]) ∧ Below w.heap.size w w2) := by
  obtain ⟨g, gi, rr, h, ev, av, t, v, q, lv, av2, p, M, h1, h2, h3, h4, h5, h6⟩ := h
  refine (mcallO_any (M := k + 20) (Mv := k + 20) M (hA.keep fun j hj => h3.block j hj) h2 h3.size (by omega) ⟨h4, h5⟩ (by omega) (by omega) (by omega) c).mono fun e w2 hc => ?_
  rcases hc with ⟨a, L', v', q', g1, g2, g3⟩ | ⟨g1, g2⟩
  · exact .inl ⟨_, g2, wr, g, gi, rr, h, ev, av, t, v, q, lv, av2, a, L', v', q', p, h1, h2, h3, h5, h6, g1, rfl, g3⟩
  · exact .inr ⟨g1, h3.trans (g2.below h2 h3.size)⟩
theorem pm8_real (h : Pm8M w w2 r d m tv most same A k c u) (hb : Below w2.heap.size w2 w3) (hk : k < 60) (hA : ArB w.heap.size w tv A) (hAl : A.length ≤ 20) (hg : 1 ≤ c.goal ∧ c.goal ≤ 4) :
    Calls Tryz.prog 7 #[.pointer (some ⟨r, 0, none⟩), .agg #[.int .i64 (c.goal : Int), .int .i64 c.hash, .int .i64 c.key, .int .i64 c.value]] w3 fun e w4 => e = .returned (.tuple #[tuV u, .bool true]) ∧ Pm8 w w4 r d m tv most same A (k + 1) ∧ ∀ j, w2.heap.size ≤ j → j < w3.heap.size → w4.heap[j]? = w3.heap[j]? := by
  have hbl := h.bl
  obtain ⟨wr, g, gi, rr, h, ev, av, t, v, q, lv, av2, a, L', v', q', p, h1, h2, h3, h4, h5, ⟨n, f1, f2, f3, f4, f5, f6⟩, h7, lv', av', M2, mfx, mex⟩ := h
  have p3 := (p.same fun j hj => mex.block j (p.lt j hj) (h1 j hj).2).below hb
  have hb3 : Below w.heap.size w w3 := hbl.trans (hb.mono hbl.size)
  refine (rcallO_any (B := w.heap.size) p3 f1 (by omega) (by omega) hg (hA.keep fun j hj => hb3.block j hj) (fun j hj => (h1 j hj).1) hb3.size (by omega) (by omega)).mono fun e w4 ⟨e1, gi', rr', h', ev', av', t', hR⟩ => ?_
  subst h7
  refine ⟨e1, ?_, fun j j1 j2 => hR.ex.block j j2 (fun y => by have := p.lt j y; have := mex.size; omega)⟩
  obtain ⟨s1, s2, s3, _⟩ := endQ_step most c (L', v') a
  simp only at s1 s2 s3
  have M4 := (M2.below hb).same (w' := w4) fun j hj => hR.ex.block j (Nat.lt_of_lt_of_le (M2.lt j hj) hb.size) fun y => (mfx j hj).elim (fun z => (h1 j y).2 z) (fun z => by have := p.lt j y; omega)
  have lw := h3.size
  have hpq := hR.pq
  rw [← hpq] at M4 s3
  refine ⟨g, gi', rr', h', ev', av', t', _, _, lv', _, hR.rq, M4, fun j hj => ⟨?_, fun hm => ?_⟩, fun j hj => (mfx j hj).elim (h2 j) (fun z => by omega), hb3.trans (hR.ex.below (fun j hj => (h1 j hj).1) hb3.size), by omega, by omega, by omega⟩
  · exact (hR.fx j hj).elim (fun z => (h1 j z).1) (fun z => by have := hb3.size; omega)
  · rcases hR.fx j hj with z | z
    · exact (mfx j hm).elim (fun y => (h1 j z).2 y) (fun y => by have := p.lt j z; omega)
    · have e1 := M2.lt j hm
      have e2 := hb.size
      omega
theorem pm8_alike (h : Pm8 w wr r d m tv most same A k) (hk : k ≤ 60) :
    Calls Tryz.prog 8 #[.pointer (some ⟨r, 0, none⟩), .pointer (some ⟨m, 0, none⟩)] wr fun e w' => e = .returned (.bool true) ∧ Below wr.heap.size wr w' := by
  obtain ⟨g, gi, rr, h, ev, av, t, v, q, lv, av2, p, M, h1, h2, h3, h4, h5, h6⟩ := h
  exact ralike_any p M rfl (by omega) (by omega) (by omega)
end
/-- The acts that were handed in. -/
def actsL (n : Nat) (G : Nat → Nat → Int) : List Ac := (List.range n).map fun i => ⟨G i 0, G i 1, G i 2, G i 3, G i 4⟩
theorem actsL_len (n : Nat) (G : Nat → Nat → Int) : (actsL n G).length = n := by simp [actsL]
theorem actsL_at {n : Nat} (G : Nat → Nat → Int) {i : Nat} (h : i < n) : (actsL n G).getD i default = ⟨G i 0, G i 1, G i 2, G i 3, G i 4⟩ := by
  rw [List.getD_eq_getElem?_getD]
  simp [actsL, h]
theorem acts_row {w : World} {a : Option Addr} {n c : Nat} {G : Nat → Nat → Int} (h : Ah5 w a n c G) : ArB w.heap.size w (.slice a n c) (actsL n G) := by
  obtain ⟨hc, b, off, hb, hcell⟩ := h
  refine ⟨a, c, by rw [actsL_len], by rw [actsL_len]; exact hc, b, off, fun h0 => hb (by rw [actsL_len] at h0; exact h0), fun i hi => ?_⟩
  rw [actsL_len] at hi
  rw [actsL_at G hi]
  have e : ∀ j, off + i * 5 + j = off + (i * 5 + j) := fun j => by omega
  have z := hcell i hi 0 (by omega)
  rw [show off + (i * 5 + 0) = off + i * 5 by omega] at z
  exact ⟨z, by rw [e]; exact hcell i hi 1 (by omega), by rw [e]; exact hcell i hi 2 (by omega), by rw [e]; exact hcell i hi 3 (by omega), by rw [e]; exact hcell i hi 4 (by omega)⟩
end Go.Proofs.YtbpflmdefpjcaaaGreat
namespace Go.Proofs.YtbpflmdefpjcaaaGreat
open Go.RowKit Go.WideShapes

set_option maxRecDepth 100000 in
set_option maxHeartbeats 16000000 in
theorem pmodel_walk (most same : Int) (a2 : Option Addr) (n2 c2 : Nat) (G2 : Nat → Nat → Int) (a3 : Option Addr) (n3 c3 : Nat) (G3 : Nat → Nat → Int) (w : World) (h2 : Ah5 w a2 n2 c2 G2) (h3 : Ch4 w a3 n3 c3 G3) :
    Calls Tryz.prog 3 #[.int .i64 most, .int .i64 same, .slice a2 n2 c2, .slice a3 n3 c3] w fun e w' => e = .returned (.bool true) ∧ Below w.heap.size w w' := by
  by_cases hc0 : 0 ≤ most ∧ most ≤ 1000 ∧ n3 ≤ 60 ∧ n2 ≤ 20
  case neg =>
    have CW := awake8_any w
    clear h2 h3
    by_cases h1 : most < 0
    · go_enter Tryz.func3, Tryz.ntmps3
      go_wp2_with fail
      refine CW.mono ?_
      rintro e w' ⟨rfl, hB⟩
      clear CW
      go_wp2
      go_ret
      exact ⟨rfl, hB⟩
    · by_cases h2 : 1000 < most
      · go_enter Tryz.func3, Tryz.ntmps3
        go_wp2_with fail
        refine CW.mono ?_
        rintro e w' ⟨rfl, hB⟩
        clear CW
        go_wp2
        go_ret
        exact ⟨rfl, hB⟩
      · by_cases h4 : 60 < n3
        · have t0 : (60 : Int) < (n3 : Int) := by omega
          go_enter Tryz.func3, Tryz.ntmps3
          go_wp2_with fail
          refine CW.mono ?_
          rintro e w' ⟨rfl, hB⟩
          clear CW
          go_wp2
          go_ret
          exact ⟨rfl, hB⟩
        · have t0 : ¬ (60 : Int) < (n3 : Int) := by omega
          have t3 : (20 : Int) < (n2 : Int) := by omega
          go_enter Tryz.func3, Tryz.ntmps3
          go_wp2_with fail
          refine CW.mono ?_
          rintro e w' ⟨rfl, hB⟩
          clear CW
          go_wp2
          go_ret
          exact ⟨rfl, hB⟩
  case pos =>
    obtain ⟨hm0, hm1, hn3, hn2⟩ := hc0
    obtain ⟨M, rfl⟩ : ∃ M : Nat, most = (M : Int) := ⟨most.toNat, by omega⟩
    have s0 : ¬ (M : Int) < 0 := by omega
    have s1 : ¬ (1000 : Int) < (M : Int) := by omega
    have s2 : ¬ (60 : Int) < (n3 : Int) := by omega
    have s3 : ¬ (20 : Int) < (n2 : Int) := by omega
    have HA : Hid (ArB w.heap.size w (.slice a2 n2 c2) (actsL n2 G2)) := acts_row h2
    have HAL : Hid ((actsL n2 G2).length ≤ 20) := by
      have e := actsL_len n2 G2
      have : (actsL n2 G2).length ≤ 20 := by omega
      exact Lib.hid this
    obtain ⟨hc3, b3, off3, hb3, hcell3⟩ := h3
    have HC : Hid (∀ W j, Below w.heap.size w W → j < n3 → a3 = some ⟨b3, off3, none⟩ ∧ W.cell? ⟨b3, off3 + j * 4, none⟩ = some (.int .i64 (G3 j 0)) ∧ W.cell? ⟨b3, off3 + j * 4 + 1, none⟩ = some (.int .i64 (G3 j 1)) ∧ W.cell? ⟨b3, off3 + j * 4 + 2, none⟩ = some (.int .i64 (G3 j 2)) ∧ W.cell? ⟨b3, off3 + j * 4 + 3, none⟩ = some (.int .i64 (G3 j 3))) := fun W j hW hj => by
      have k := fun i hi => (hW.cell (p := ⟨b3, off3 + (j * 4 + i), none⟩) (hb3 (by omega)).2).trans (hcell3 j hj i hi)
      have k0 := k 0 (by omega)
      have k1 := k 1 (by omega)
      have k2 := k 2 (by omega)
      have k3 := k 3 (by omega)
      exact ⟨(hb3 (by omega)).1, k0, k1, k2, k3⟩
    have CN := pnew_any (w := w) (pm := none) (M := noM) (a := 0) (b := 0) mtOk_nil trivial (by decide) (M : Int) (by omega) (by omega)
    clear h2 hb3 hcell3
    generalize hAA : actsL n2 G2 = A at *
    clear hAA
    go_enter Tryz.func3, Tryz.ntmps3
    go_wp2_with fail
    refine CN.mono ?_
    rintro e w1 ⟨d, g, gi, rr, h, rfl, hfr, hdc, _, hex⟩
    clear CN
    have h1 := eqD d
    have hb01 : Below w.heap.size w w1 := hex.below (fun k hk => (noneB hk).elim) (Nat.le_refl _)
    obtain ⟨w2, hw2⟩ : ∃ V, w1.alloc (.cells #[.pointer (some ⟨d, 0, none⟩), .slice none 0 0, .slice a2 n2 c2, .int .i64 same, .bool false, .bool false] 32) = V := ⟨_, rfl⟩
    obtain ⟨w3, hw3⟩ : ∃ V, w2.alloc (.cells #[.slice none 0 0, .int .i64 (M : Int), .int .i64 0, .slice none 0 0, .slice a2 n2 c2, .int .i64 same, .bool false] 36) = V := ⟨_, rfl⟩
    have hs2 : w2.heap.size = w1.heap.size + 1 := by rw [← hw2]; simp
    have hb12 : Below w1.heap.size w1 w2 := by rw [← hw2]; exact (Below.refl _ w1).alloc (Nat.le_refl _) _
    have hb23 : Below w2.heap.size w2 w3 := by rw [← hw3]; exact (Below.refl _ w2).alloc (Nat.le_refl _) _
    have hR2 : Blk w2 w1.heap.size 6 (rqF d (.slice none 0 0) (.slice a2 n2 c2) same false) := by
      rw [← hw2]
      refine (Blk.new w1 _ _).congr fun j hj => ?_
      have : j = 0 ∨ j = 1 ∨ j = 2 ∨ j = 3 ∨ j = 4 ∨ j = 5 := by simp at hj; omega
      rcases this with rfl | rfl | rfl | rfl | rfl | rfl <;> rfl
    have hM3 : Blk w3 w2.heap.size 7 (mqF (.slice none 0 0) M 0 (.slice none 0 0) (.slice a2 n2 c2) same false) := by
      rw [← hw3]
      refine (Blk.new w2 _ _).congr fun j hj => ?_
      have : j = 0 ∨ j = 1 ∨ j = 2 ∨ j = 3 ∨ j = 4 ∨ j = 5 ∨ j = 6 := by simp at hj; omega
      rcases this with rfl | rfl | rfl | rfl | rfl | rfl | rfl <;> rfl
    have hP0 : Pm8 w w3 w1.heap.size d w2.heap.size (.slice a2 n2 c2) M same A 0 := by
      have hl01 := hb01.size
      have hl12 := hb12.size
      have hl23 := hb23.size
      have hlc := hdc.lt
      refine ⟨g, gi, rr, h, .slice none 0 0, .slice none 0 0, Tb.new, 0, [], .slice none 0 0, .slice none 0 0, ⟨hR2.of hb23 (by omega), ⟨rfl, .inl ⟨rfl, rfl⟩⟩, hdc.same fun k hk => (hb23.block k (by have := hlc k hk; omega)).trans (hb12.block k (hlc k hk)), fun k hk => (by cases hk), fun y => (by have := hlc _ y; omega), ?_⟩, ⟨hM3, ⟨rfl, .inl ⟨rfl, rfl⟩⟩, ⟨rfl, .inl ⟨rfl, rfl⟩⟩, fun k hk => (by cases hk), fun k hk => (by cases hk)⟩, fun k hk => ⟨?_, ?_⟩, fun k hk => ?_, hb01.trans ((hb12.trans (hb23.mono hb12.size)).mono hl01), ?_, ?_, ?_⟩
      · exact ⟨Nat.le_refl _, Nat.le_refl _, Nat.le_refl _⟩
      · rcases hk with y | y | y
        · omega
        · cases y
        · exact hfr k y
      · rintro (z | z | z)
        · rcases hk with y | y | y
          · omega
          · cases y
          · have := hlc k y; omega
        · cases z
        · cases z
      · rcases hk with y | y | y
        · omega
        · cases y
        · cases y
      · have := potQ_le 0 A
        have := HAL.out
        show 0 + potQ _ A ≤ _
        simp
        omega
      · have := potQ_le 0 A
        have := HAL.out
        show 0 + potQ _ A ≤ _
        simp
        omega
      · exact Nat.zero_le _
    rw [hs2] at hP0
    have HP0 := Lib.hid hP0
    have HW2 := Lib.hid hw2
    have HW3 := Lib.hid hw3
    clear hP0 hM3 hR2 hb23 hb12 hb01 hex hdc hfr hw2 hw3 hs2
    go_upto_region 8 with fail
    rw [HW2.out, HW3.out]
    generalize w1.heap.size + 1 = m at *
    generalize w1.heap.size = r at *
    clear HW2 HW3 h1
    go_wp2_with fail
    go_loopw [13] (fun iv wr => ∃ k : Nat, k ≤ n3 ∧ iv = .int .i64 (k : Int) ∧ Pm8 w wr r d m (.slice a2 n2 c2) M same A k) (fun iv _ => n3 - (intOf iv).toNat)
    case atStart => exact ⟨0, Nat.zero_le _, rfl, HP0.out⟩
    case round =>
      clear HP0
      obtain ⟨k, hk, rfl, hP⟩ := hrel
      by_cases hlt : k < n3
      · have t1 : (k : Int) < (n3 : Int) := by omega
        have t2 : ¬ (k : Int) < 0 := by omega
        obtain ⟨e3, c0, c1, c2', c3'⟩ := HC.out wr k hP.bl hlt
        subst e3
        generalize h30 : G3 k 0 = g0 at *
        generalize h31 : G3 k 1 = g1 at *
        generalize h32 : G3 k 2 = g2 at *
        generalize h33 : G3 k 3 = g3 at *
        by_cases hlo : g0 < 1
        · have HPN := Lib.hid hP.more
          clear hP
          go_wp2_with fail
          go_roundw
          case rel => exact ⟨k + 1, by omega, by first | rfl | go_num, HPN.out⟩
          case measure => simp [intOf]; omega
        · by_cases hhi : 4 < g0
          · have HPN := Lib.hid hP.more
            clear hP
            go_wp2_with fail
            go_roundw
            case rel => exact ⟨k + 1, by omega, by first | rfl | go_num, HPN.out⟩
            case measure => simp [intOf]; omega
          · obtain ⟨gn, rfl⟩ : ∃ gn : Nat, g0 = (gn : Int) := ⟨g0.toNat, by omega⟩
            have hg : 1 ≤ gn ∧ gn ≤ 4 := by omega
            have CM := pm8_model hP (by omega) HA.out HAL.out ⟨gn, g1, g2, g3⟩
            clear hP
            go_wp2_with fail
            refine CM.mono ?_
            rintro e w4 hcase
            clear CM c0 c1 c2' c3'
            rcases hcase with ⟨u, rfl, hM⟩ | ⟨rfl, hbE⟩
            · obtain ⟨w5, hw5⟩ : ∃ V, w4.alloc (.cells #[.int .i64 u.kind, .int .i64 u.key, .bool u.found, .int .i64 u.value, .int .i64 u.entry] 40) = V := ⟨_, rfl⟩
              have hb5 : Below w4.heap.size w4 w5 := by rw [← hw5]; exact (Below.refl _ w4).alloc (Nat.le_refl _) _
              have hT5 : Blk w5 w4.heap.size 5 (fun j => #[Value.int .i64 u.kind, .int .i64 u.key, .bool u.found, .int .i64 u.value, .int .i64 u.entry].getD j .nilFunc) := by rw [← hw5]; exact Blk.new w4 _ _
              have bl4 := hM.bl
              have bl5 : Below w.heap.size w w5 := bl4.trans (hb5.mono bl4.size)
              obtain ⟨_, c0, c1, c2', c3'⟩ := HC.out w5 k bl5 hlt
              rw [h30] at c0
              rw [h31] at c1
              rw [h32] at c2'
              rw [h33] at c3'
              have CR := pm8_real hM hb5 (by omega) HA.out HAL.out hg
              have HW5 := Lib.hid hw5
              have HT5 := Lib.hid hT5
              have HB5 := Lib.hid hb5
              unfold tuV at CR ⊢
              clear hM hT5 hb5 hw5 bl4 bl5 h30 h31 h32 h33
              go_upto_region 13 with fail
              rw [HW5.out]
              go_wp2_with fail
              refine CR.mono ?_
              rintro e w6 ⟨rfl, hP6, hk6⟩
              clear CR c0 c1 c2' c3'
              obtain ⟨w7, hw7⟩ : ∃ V, w6.alloc (.cells #[.int .i64 u.kind, .int .i64 u.key, .bool u.found, .int .i64 u.value, .int .i64 u.entry] 40) = V := ⟨_, rfl⟩
              have hb7 : Below w6.heap.size w6 w7 := by rw [← hw7]; exact (Below.refl _ w6).alloc (Nat.le_refl _) _
              have hT7 : Blk w7 w6.heap.size 5 (fun j => #[Value.int .i64 u.kind, .int .i64 u.key, .bool u.found, .int .i64 u.value, .int .i64 u.entry].getD j .nilFunc) := by rw [← hw7]; exact Blk.new w6 _ _
              have hT5' := (HT5.out.same (hk6 w4.heap.size (Nat.le_refl _) (HT5.out.lt (by omega)))).of hb7 (by omega)
              have hP7 := hP6.below hb7
              have CA := pm8_alike hP7 (by omega)
              have HP7 := Lib.hid hP7
              have HW7 := Lib.hid hw7
              have p0 : w7.cell? ⟨w6.heap.size, 0, none⟩ = some (.int .i64 u.kind) := hT7.c 0 (by omega)
              have p1 : w7.cell? ⟨w6.heap.size, 1, none⟩ = some (.int .i64 u.key) := hT7.c 1 (by omega)
              have p2 : w7.cell? ⟨w6.heap.size, 2, none⟩ = some (.bool u.found) := hT7.c 2 (by omega)
              have p3 : w7.cell? ⟨w6.heap.size, 3, none⟩ = some (.int .i64 u.value) := hT7.c 3 (by omega)
              have p4 : w7.cell? ⟨w6.heap.size, 4, none⟩ = some (.int .i64 u.entry) := hT7.c 4 (by omega)
              have r0 : w7.cell? ⟨w4.heap.size, 0, none⟩ = some (.int .i64 u.kind) := hT5'.c 0 (by omega)
              have r1 : w7.cell? ⟨w4.heap.size, 1, none⟩ = some (.int .i64 u.key) := hT5'.c 1 (by omega)
              have r2 : w7.cell? ⟨w4.heap.size, 2, none⟩ = some (.bool u.found) := hT5'.c 2 (by omega)
              have r3 : w7.cell? ⟨w4.heap.size, 3, none⟩ = some (.int .i64 u.value) := hT5'.c 3 (by omega)
              have r4 : w7.cell? ⟨w4.heap.size, 4, none⟩ = some (.int .i64 u.entry) := hT5'.c 4 (by omega)
              have hE : ∀ V, (binOp .neq 40 (tuV u) (tuV u)).run Tryz.prog V = .ok (.bool false) V := fun V => by rw [tu_ne]; unfold tuE; simp
              unfold tuV at hE
              clear hP6 hk6 hb7 hT7 hT5' hP7 hw7
              go_upto_region 16 with fail
              rw [HW7.out]
              go_wp2_with fail
              refine CA.mono ?_
              rintro e w8 ⟨rfl, hb8⟩
              clear CA
              have HP8 := Lib.hid (HP7.out.below hb8)
              clear hb8
              go_wp2_with fail
              go_roundw
              case rel => exact ⟨k + 1, by omega, by first | rfl | go_num, HP8.out⟩
              case measure => simp [intOf]; omega
            · obtain ⟨w5, hw5⟩ : ∃ V, w4.alloc (.cells #[.int .i64 0, .int .i64 0, .bool false, .int .i64 0, .int .i64 0] 40) = V := ⟨_, rfl⟩
              have hb5 : Below w4.heap.size w4 w5 := by rw [← hw5]; exact (Below.refl _ w4).alloc (Nat.le_refl _) _
              have HB5 := Lib.hid (hbE.trans (hb5.mono hbE.size))
              have HW5 := Lib.hid hw5
              have CW := awake8_any w5
              clear hbE hb5 hw5
              simp only [tuV, Tu.zero]
              go_upto_region 13 with fail
              rw [HW5.out]
              go_wp2_with fail
              refine CW.mono ?_
              rintro e w9 ⟨rfl, hB9⟩
              clear CW
              go_wp2
              go_ret
              exact ⟨rfl, HB5.out.trans (hB9.mono HB5.out.size)⟩
      · have t1 : ¬ (k : Int) < (n3 : Int) := by omega
        have CW := awake8_any wr
        have HBL := Lib.hid hP.bl
        clear hP
        go_wp2_with fail
        refine CW.mono ?_
        rintro e w9 ⟨rfl, hB9⟩
        clear CW
        go_wp2
        go_ret
        exact ⟨rfl, HBL.out.trans (hB9.mono HBL.out.size)⟩
end Go.Proofs.YtbpflmdefpjcaaaGreat
