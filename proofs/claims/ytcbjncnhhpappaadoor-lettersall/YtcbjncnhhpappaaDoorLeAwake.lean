/-
  What awake answers; and the reference's Len, Good, At, Has; letters.Good, Has.
-/
import Derived.Test.YtcbjncnhhpappaaDoorLeUnq
import Derived.Lib.IndexLaws
import Derived.Lib.IndexMore
namespace Go.Proofs.YtcbjncnhhpappaaDoor
open Go.RowKit Go.Lib

theorem unq_awake : unq [39, 97, 92, 110, 39, 122] = some ([97, 10], 5) := by decide +kernel
set_option maxRecDepth 100000 in
theorem awake_any (w : World) (hE : Env w) : Calls Tryd.prog 9 #[] w fun e w' => e = .returned (.bool true) ∧ Below w.heap.size w w' := by
  have c := unquote_any ⟨#[39, 97, 92, 110, 39, 122]⟩ w (by decide) hE
  rw [show (ByteArray.mk #[39, 97, 92, 110, 39, 122]).data.toList = [39, 97, 92, 110, 39, 122] from rfl, unq_awake] at c
  have c2 : Calls Tryd.prog 24 #[.string ⟨#[39, 97, 92, 110, 39, 122]⟩] w fun e w' => e = .returned (.tuple #[.string ⟨#[97, 10]⟩, .int .i64 5, .int .i64 0]) ∧ Below w.heap.size w w' := c
  clear c
  go_enter Tryd.func9, Tryd.ntmps9
  go_wp2_with fail
  refine c2.mono ?_
  rintro e w1 ⟨rfl, hb⟩
  clear c2
  go_wp2
  go_ret
  exact ⟨rfl, hb⟩

theorem good_any (s : ByteArray) (w : World) (hs : s.size < 1000000) (hE : Env w) :
    Calls Tryd.prog 12 #[.string s] w fun e w' => e = .returned (.bool (validD s.data.toList)) ∧ Below w.heap.size w w' := by
  go_enter Tryd.func12, Tryd.ntmps12
  go_wp2_with fail
  refine (Tryd.utf8_ValidString s w (by omega) hE.tabs).mono ?_
  rintro e w1 ⟨rfl, hb⟩
  go_wp2
  go_ret
  exact ⟨rfl, hb⟩

/-- string(l), l a slice of runes that was made here. -/
theorem encode_enc (r : Nat) : Utf8.encode (r : Int) = ⟨(enc r).toArray⟩ := by
  have hb : ∀ z : Int, z.toNat.toUInt8 = UInt8.ofNat z.toNat := fun z => rfl
  unfold Utf8.encode enc encodeRune
  by_cases hv : isRune r
  · have e : Utf8.valid (r : Int) = true := by unfold isRune at hv; simp [Utf8.valid]; omega
    simp only [e, if_true, Int.toNat_natCast]
    unfold isRune at hv
    by_cases h1 : r < 128
    · rw [if_pos h1, encodeRuneZ_one (by omega) (by omega)]
      simp
    · rw [if_neg h1]
      by_cases h2 : r < 2048
      · rw [if_pos h2, encodeRuneZ_two (by omega) (by omega)]
        have e0 : (192 + (r : Int) / 64).toNat = 192 + r / 64 := by omega
        have e1 : (128 + (r : Int) % 64).toNat = 128 + r % 64 := by omega
        simp [e0, e1]
      · rw [if_neg h2]
        by_cases h3 : r < 65536
        · rw [if_pos h3, encodeRuneZ_three (by omega)]
          have e0 : (224 + (r : Int) / 4096).toNat = 224 + r / 4096 := by omega
          have e1 : (128 + (r : Int) / 64 % 64).toNat = 128 + r / 64 % 64 := by omega
          have e2 : (128 + (r : Int) % 64).toNat = 128 + r % 64 := by omega
          simp [e0, e1, e2]
        · rw [if_neg h3, encodeRuneZ_four (by omega) (by omega)]
          have e0 : (240 + (r : Int) / 262144).toNat = 240 + r / 262144 := by omega
          have e1 : (128 + (r : Int) / 4096 % 64).toNat = 128 + r / 4096 % 64 := by omega
          have e2 : (128 + (r : Int) / 64 % 64).toNat = 128 + r / 64 % 64 := by omega
          have e3 : (128 + (r : Int) % 64).toNat = 128 + r % 64 := by omega
          simp [e0, e1, e2, e3]
  · have e : Utf8.valid (r : Int) = false := by unfold isRune at hv; simp [Utf8.valid]; omega
    unfold isRune at hv
    rw [encodeRuneZ_bad (by omega)]
    simp only [e, Bool.false_eq_true, if_false]
    rfl
theorem runesBytes_go : ∀ (rs : List Nat) (acc : List UInt8), (rs.map fun x : Nat => (x : Int)).foldl (fun r n => r ++ Utf8.encode n) (ByteArray.mk acc.toArray) = ⟨(acc ++ encs rs).toArray⟩
  | [], acc => by simp [encs]
  | r :: rs, acc => by
    rw [List.map_cons, List.foldl_cons, encode_enc, ByteArray.mk_append_mk, runesBytes_go rs, encs_cons, List.append_assoc]
theorem runesBytes_eq (rs : List Nat) : runesBytes (rs.map fun x : Nat => (x : Int)) = ⟨(encs rs).toArray⟩ := by
  exact runesBytes_go rs []
theorem conv_runes {B : Nat} {w : World} {v : Value} {rs : List Nat} (h : Runes B w v rs) : (convert 45 9 v).run Tryd.prog w = .ok (.string ⟨(encs rs).toArray⟩) w := by
  rcases h.2 with ⟨rfl, h0⟩ | ⟨g, cap, cur, rfl, hg, hh, hc, _, hs, ht⟩
  · obtain rfl : rs = [] := List.eq_nil_of_length_eq_zero h0
    rw [run_convert_runes_nil w _ _ 21 _ _ Tryd.underlying45 Tryd.underlying21 Tryd.underlying9]
    rfl
  · have hcell := h.cells (g := g) rfl
    rw [run_convert_runes w _ _ 21 ⟨g, 0, none⟩ rs.length cap (rs.map fun x : Nat => (x : Int)) (by simp) Tryd.underlying45 Tryd.underlying21 Tryd.underlying9 ?_]
    · rw [List.take_of_length_le (by simp), runesBytes_eq]
    · intro j hj
      rw [List.length_map] at hj
      rw [hcell j (.int .i32 ((rs[j]'hj : Nat) : Int)) (by simp [hj])]
      simp [List.getD, hj]
theorem Runes.form {B : Nat} {w : World} {v : Value} {rs : List Nat} (h : Runes B w v rs) : ∃ a cap, v = .slice a rs.length cap ∧ ∀ j (hj : j < rs.length), ∃ g, a = some ⟨g, 0, none⟩ ∧ w.cell? ⟨g, j, none⟩ = some (.int .i32 ((rs[j] : Nat) : Int)) := by
  rcases h.2 with ⟨rfl, h0⟩ | ⟨g, cap, cur, rfl, hg, hh, hc, _, hs, ht⟩
  · exact ⟨none, 0, by rw [h0], fun j hj => by omega⟩
  · refine ⟨_, cap, rfl, fun j hj => ⟨g, rfl, ?_⟩⟩
    have := h.cells (g := g) rfl j (.int .i32 ((rs[j]'hj : Nat) : Int)) (by simp [hj])
    rw [WideShapes.add_plain] at this
    simpa using this

theorem refLen_any (s : ByteArray) (w : World) (hs : s.size < 1000000000) :
    Calls Tryd.prog 15 #[.string s] w fun e w' => e = .returned (.int .i64 ((rl s.data.toList).length : Int)) ∧ Below w.heap.size w w' := by
  go_enter Tryd.func15, Tryd.ntmps15
  go_wp2_with fail
  refine (pieces_any s w hs).mono ?_
  rintro e w1 ⟨v, rfl, hR, hb⟩
  obtain ⟨a, cap, rfl, _⟩ := hR.form
  clear hR
  go_wp2
  go_ret
  exact ⟨rfl, hb⟩

theorem str_eq_list (l : List UInt8) (s : ByteArray) : ((ByteArray.mk l.toArray).toList == s.toList) = decide (l = s.data.toList) := by
  rw [ByteArray.toList_mk, ByteArray.toList_eq]
  by_cases h : l = s.data.toList
  · simp [h]
  · rw [decide_eq_false h]
    exact beq_eq_false_iff_ne.2 h

theorem refGood_any (s : ByteArray) (w : World) (hs : s.size < 1000000000) :
    Calls Tryd.prog 13 #[.string s] w fun e w' => e = .returned (.bool (validD s.data.toList)) ∧ Below w.heap.size w w' := by
  have hv := str_eq_list (mend s.data.toList) s
  rw [← valid_iff] at hv
  go_enter Tryd.func13, Tryd.ntmps13
  go_wp2_with fail
  refine (pieces_any s w hs).mono ?_
  rintro e w1 ⟨v, rfl, hR, hb⟩
  have hcv := conv_runes hR
  have hcv2 : (convert 45 9 v).run Tryd.prog w1 = .ok (.string ⟨(mend s.data.toList).toArray⟩) w1 := hcv
  obtain ⟨M, hM⟩ : ∃ M, ByteArray.mk (mend s.data.toList).toArray = M := ⟨_, rfl⟩
  rw [hM] at hcv2 hv
  have HV : Hid ((M.toList == s.toList) = validD s.data.toList) := hv
  clear hcv hM hR hv
  go_wp2
  go_ret
  exact ⟨by rw [← HV.out]; rfl, hb⟩

set_option maxRecDepth 100000 in
theorem refAt_any (s : ByteArray) (i : Int) (w : World) (hs : s.size < 1000000000) :
    Calls Tryd.prog 11 #[.string s, .int .i64 i] w fun e w' => e = .returned (.tuple #[.string (atB (rl s.data.toList) i), .int .i64 (atE (rl s.data.toList) i)]) ∧ Below w.heap.size w w' := by
  have hp := pieces_any s w hs
  generalize rl s.data.toList = rs at *
  by_cases h : 0 ≤ i ∧ i < (rs.length : Int)
  · obtain ⟨j, rfl⟩ : ∃ j : Nat, i = j := ⟨i.toNat, by omega⟩
    have hj : j < rs.length := by omega
    unfold atB atE
    rw [if_pos h, if_pos h, Int.toNat_natCast]
    have hget : rs.getD j 0 = rs[j] := by simp [List.getD, hj]
    rw [hget]
    have i1 : ¬ (j : Int) < 0 := by omega
    have i2 : (j : Int) < (rs.length : Int) := by omega
    go_enter Tryd.func11, Tryd.ntmps11
    go_wp2_with fail
    refine hp.mono ?_
    rintro e w1 ⟨v, rfl, hR, hb⟩
    obtain ⟨a, cap, rfl, hcell⟩ := hR.form
    obtain ⟨g, rfl, hc⟩ := hcell j hj
    obtain ⟨x, hx⟩ : ∃ x, rs[j] = x := ⟨_, rfl⟩
    rw [hx] at hc
    have HX : Hid (rs[j] = x) := hx
    clear hcell hR hget h hx
    go_wp2
    go_ret2
    exact ⟨by rw [HX.out]; rfl, hb⟩
  · unfold atB atE
    rw [if_neg h, if_neg h]
    have hc : i < 0 ∨ (¬ i < 0 ∧ (rs.length : Int) ≤ i) := by omega
    clear h
    rcases hc with hc | ⟨hc, hc2⟩
    all_goals
      go_enter Tryd.func11, Tryd.ntmps11
      go_wp2_with fail
      refine hp.mono ?_
      rintro e w1 ⟨v, rfl, hR, hb⟩
      obtain ⟨a, cap, rfl, hcell⟩ := hR.form
      clear hcell hR
      go_wp2
      go_ret2
      exact ⟨rfl, hb⟩

theorem extract_sub (s : ByteArray) (a k : Nat) : (s.extract a (a + k)).data.toList = (s.data.toList.drop a).take k := by
  rw [extract_list, show a + k - a = k by omega]
/-- Do the bytes of p stand in l? -/
theorem contains_iff (l p : List UInt8) : Lib.contains l p = true ↔ ∃ a, a + p.length ≤ l.length ∧ (l.drop a).take p.length = p := by
  have occ : ∀ a, occAt l p a = true ↔ (l.drop a).take p.length = p := fun a => by
    unfold occAt
    rw [List.isPrefixOf_iff_prefix, List.prefix_iff_eq_take]
    exact ⟨fun h => h.symm, fun h => h.symm⟩
  constructor
  · intro h
    have h0 : 0 ≤ index l p := of_decide_eq_true h
    have hr := index_room l p h0
    rcases index_spec l p with ⟨h1, _⟩ | ⟨i, h1, h2, h3, _⟩
    · omega
    · exact ⟨i, by omega, (occ i).1 h3⟩
  · rintro ⟨a, h1, h2⟩
    refine decide_eq_true ?_
    rcases index_spec l p with ⟨h3, h4⟩ | ⟨i, h3, _⟩
    · have := h4 a (by omega)
      rw [(occ a).2 h2] at this
      cases this
    · omega

set_option maxHeartbeats 4000000 in
set_option maxRecDepth 100000 in
theorem refHas_any (s p : ByteArray) (w : World) (hs : s.size < 1000000) (hp : p.size < 1000000) :
    Calls Tryd.prog 17 #[.string s, .string p] w fun e w' => e = .returned (.bool (Lib.contains s.data.toList p.data.toList)) ∧ w' = w := by
  obtain ⟨C, hC⟩ : ∃ C, Lib.contains s.data.toList p.data.toList = C := ⟨_, rfl⟩
  have HC : Hid (Lib.contains s.data.toList p.data.toList = C) := hC
  rw [hC]
  clear hC
  go_enter Tryd.func17, Tryd.ntmps17
  go_wp2
  go_loop [5] (fun i => ∃ k : Nat, i = .int .i64 (k : Int) ∧ k ≤ s.size + 1 ∧ ∀ a, a < k → ¬ (a + p.size ≤ s.size ∧ (s.data.toList.drop a).take p.size = p.data.toList)) (fun i => s.size + 1 - (RowKit.intOf i).toNat)
  case atStart => exact ⟨0, rfl, by omega, fun a h => by omega⟩
  case round =>
    obtain ⟨k, rfl, hk, hno⟩ := hrel
    have HN : Hid (∀ a, a < k → ¬ (a + p.size ≤ s.size ∧ (s.data.toList.drop a).take p.size = p.data.toList)) := hno
    clear hno
    by_cases hlt : k + p.size ≤ s.size
    · have ilt : (k : Int) + (p.size : Int) ≤ (s.size : Int) := by omega
      have hsl : ∀ wx, (Instr.slice 9 (.string s) (some (.int .i64 (k : Int))) (some (.int .i64 ((k : Int) + (p.size : Int)))) none).run Tryd.prog wx = .ok (.string (s.extract k (k + p.size))) wx := fun wx => by
        rw [run_slice_string wx 9 s .i64 .i64 (k : Int) ((k : Int) + (p.size : Int)) Tryd.underlying9 (by omega) (by omega) (by omega)]
        rw [show ((k : Int) + (p.size : Int)).toNat = k + p.size by omega, Int.toNat_natCast]
      by_cases he : (s.data.toList.drop k).take p.size = p.data.toList
      · have hb : ((s.extract k (k + p.size)).toList == p.toList) = true := by
          rw [ByteArray.toList_eq, ByteArray.toList_eq, extract_sub s k p.size, he]
          simp
        have HT : Hid (C = true) := by
          show _ = _
          rw [← HC.out]
          exact (contains_iff _ _).2 ⟨k, by rw [str_len, str_len]; omega, by rw [str_len]; exact he⟩
        clear he
        go_wp2
        go_ret
        exact ⟨by rw [HT.out]; rfl, rfl⟩
      · have hb : ((s.extract k (k + p.size)).toList == p.toList) = false := by
          rw [ByteArray.toList_eq, ByteArray.toList_eq, extract_sub s k p.size]
          exact beq_eq_false_iff_ne.2 he
        have HN2 : Hid (∀ a, a < k + 1 → ¬ (a + p.size ≤ s.size ∧ (s.data.toList.drop a).take p.size = p.data.toList)) := by
          intro a ha
          by_cases e : a = k
          · subst e; exact fun h => he h.2
          · exact HN.out a (by omega)
        clear he HN
        go_wp2
        go_round
        case rel => exact ⟨k + 1, by go_num, by omega, HN2.out⟩
        case measure => simp [RowKit.intOf]; omega
    · have ilt : ¬ (k : Int) + (p.size : Int) ≤ (s.size : Int) := by omega
      have HF : Hid (C = false) := by
        show _ = _
        rw [← HC.out]
        cases hc : Lib.contains s.data.toList p.data.toList with
        | false => rfl
        | true =>
          obtain ⟨a, h1, h2⟩ := (contains_iff _ _).1 hc
          rw [str_len] at h1 h2
          rw [str_len] at h1
          exact absurd ⟨h1, h2⟩ (HN.out a (by omega))
      clear HN
      go_wp2
      go_ret
      exact ⟨by rw [HF.out]; rfl, rfl⟩

theorem has_any (s p : ByteArray) (w : World) (hs : s.size < 1000000) (hE : Env w) :
    Calls Tryd.prog 16 #[.string s, .string p] w fun e w' => e = .returned (.bool (Lib.contains s.data.toList p.data.toList)) ∧ w' = w := by
  obtain ⟨m, hm⟩ := hE.most
  go_enter Tryd.func16, Tryd.ntmps16
  go_wp2_with fail
  refine (Tryd.strings_Contains s p m w (by omega) hm).mono ?_
  rintro e w1 ⟨rfl, rfl⟩
  go_wp2
  go_ret
  exact ⟨rfl, rfl⟩
end Go.Proofs.YtcbjncnhhpappaaDoor
