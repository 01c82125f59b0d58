/-
  What awake answers; and the reference's Len, Good, At, Has; letters.Good, Has.
-/
import Derived.Test.YtgillafjccgkdaaDoorLeUnq
import Derived.Lib.IndexLaws
import Derived.Lib.IndexMore
namespace Go.Proofs.YtgillafjccgkdaaDoor
open Go.RowKit Go.Lib

theorem unq_awake : unq [39, 97, 92, 110, 39, 122] = some ([97, 10], 5) := by decide +kernel
/-- string(l), l a slice of runes that was made here. -/
theorem encode_enc (r : Nat) : Utf8.encode (r : Int) = ⟨(enc r).toArray⟩ := by
  have hb : ∀ z : Int, z.toNat.toUInt8 = UInt8.ofNat z.toNat := fun z => rfl
  unfold Utf8.encode enc encodeRune
  by_cases hv : isRune r
  · have e : Utf8.valid (r : Int) = true := by unfold isRune at hv; simp [Utf8.valid]; omega
    simp only [e, if_true, Int.toNat_natCast]
    unfold isRune at hv
    by_cases h1 : r < 128
    · rw [if_pos h1, encodeRuneZ_one (by omega) (by omega)]
      simp
    · rw [if_neg h1]
      by_cases h2 : r < 2048
      · rw [if_pos h2, encodeRuneZ_two (by omega) (by omega)]
        have e0 : (192 + (r : Int) / 64).toNat = 192 + r / 64 := by omega
        have e1 : (128 + (r : Int) % 64).toNat = 128 + r % 64 := by omega
        simp [e0, e1]
      · rw [if_neg h2]
        by_cases h3 : r < 65536
        · rw [if_pos h3, encodeRuneZ_three (by omega)]
          have e0 : (224 + (r : Int) / 4096).toNat = 224 + r / 4096 := by omega
          have e1 : (128 + (r : Int) / 64 % 64).toNat = 128 + r / 64 % 64 := by omega
          have e2 : (128 + (r : Int) % 64).toNat = 128 + r % 64 := by omega
          simp [e0, e1, e2]
        · rw [if_neg h3, encodeRuneZ_four (by omega) (by omega)]
          have e0 : (240 + (r : Int) / 262144).toNat = 240 + r / 262144 := by omega
          have e1 : (128 + (r : Int) / 4096 % 64).toNat = 128 + r / 4096 % 64 := by omega
          have e2 : (128 + (r : Int) / 64 % 64).toNat = 128 + r / 64 % 64 := by omega
          have e3 : (128 + (r : Int) % 64).toNat = 128 + r % 64 := by omega
          simp [e0, e1, e2, e3]
  · have e : Utf8.valid (r : Int) = false := by unfold isRune at hv; simp [Utf8.valid]; omega
    unfold isRune at hv
    rw [encodeRuneZ_bad (by omega)]
    simp only [e, Bool.false_eq_true, if_false]
    rfl
theorem runesBytes_go : ∀ (rs : List Nat) (acc : List UInt8), (rs.map fun x : Nat => (x : Int)).foldl (fun r n => r ++ Utf8.encode n) (ByteArray.mk acc.toArray) = ⟨(acc ++ encs rs).toArray⟩
  | [], acc => by simp [encs]
  | r :: rs, acc => by
    rw [List.map_cons, List.foldl_cons, encode_enc, ByteArray.mk_append_mk, runesBytes_go rs, encs_cons, List.append_assoc]
theorem runesBytes_eq (rs : List Nat) : runesBytes (rs.map fun x : Nat => (x : Int)) = ⟨(encs rs).toArray⟩ := by
  exact runesBytes_go rs []
theorem conv_runes {B : Nat} {w : World} {v : Value} {rs : List Nat} (h : Runes B w v rs) : (convert 45 9 v).run Tryd.prog w = .ok (.string ⟨(encs rs).toArray⟩) w := by
  rcases h.2 with ⟨rfl, h0⟩ | ⟨g, cap, cur, rfl, hg, hh, hc, _, hs, ht⟩
  · obtain rfl : rs = [] := List.eq_nil_of_length_eq_zero h0
    rw [run_convert_runes_nil w _ _ 21 _ _ Tryd.underlying45 Tryd.underlying21 Tryd.underlying9]
    rfl
  · have hcell := h.cells (g := g) rfl
    rw [run_convert_runes w _ _ 21 ⟨g, 0, none⟩ rs.length cap (rs.map fun x : Nat => (x : Int)) (by simp) Tryd.underlying45 Tryd.underlying21 Tryd.underlying9 ?_]
    · rw [List.take_of_length_le (by simp), runesBytes_eq]
    · intro j hj
      rw [List.length_map] at hj
      rw [hcell j (.int .i32 ((rs[j]'hj : Nat) : Int)) (by simp [hj])]
      simp [List.getD, hj]
theorem Runes.form {B : Nat} {w : World} {v : Value} {rs : List Nat} (h : Runes B w v rs) : ∃ a cap, v = .slice a rs.length cap ∧ ∀ j (hj : j < rs.length), ∃ g, a = some ⟨g, 0, none⟩ ∧ w.cell? ⟨g, j, none⟩ = some (.int .i32 ((rs[j] : Nat) : Int)) := by
  rcases h.2 with ⟨rfl, h0⟩ | ⟨g, cap, cur, rfl, hg, hh, hc, _, hs, ht⟩
  · exact ⟨none, 0, by rw [h0], fun j hj => by omega⟩
  · refine ⟨_, cap, rfl, fun j hj => ⟨g, rfl, ?_⟩⟩
    have := h.cells (g := g) rfl j (.int .i32 ((rs[j]'hj : Nat) : Int)) (by simp [hj])
    rw [WideShapes.add_plain] at this
    simpa using this

theorem str_eq_list (l : List UInt8) (s : ByteArray) : ((ByteArray.mk l.toArray).toList == s.toList) = decide (l = s.data.toList) := by
  rw [ByteArray.toList_mk, ByteArray.toList_eq]
  by_cases h : l = s.data.toList
  · simp [h]
  · rw [decide_eq_false h]
    exact beq_eq_false_iff_ne.2 h

theorem extract_sub (s : ByteArray) (a k : Nat) : (s.extract a (a + k)).data.toList = (s.data.toList.drop a).take k := by
  rw [extract_list, show a + k - a = k by omega]
/-- Do the bytes of p stand in l? -/
theorem contains_iff (l p : List UInt8) : Lib.contains l p = true ↔ ∃ a, a + p.length ≤ l.length ∧ (l.drop a).take p.length = p := by
  have occ : ∀ a, occAt l p a = true ↔ (l.drop a).take p.length = p := fun a => by
    unfold occAt
    rw [List.isPrefixOf_iff_prefix, List.prefix_iff_eq_take]
    exact ⟨fun h => h.symm, fun h => h.symm⟩
  constructor
  · intro h
    have h0 : 0 ≤ index l p := of_decide_eq_true h
    have hr := index_room l p h0
    rcases index_spec l p with ⟨h1, _⟩ | ⟨i, h1, h2, h3, _⟩
    · omega
    · exact ⟨i, by omega, (occ i).1 h3⟩
  · rintro ⟨a, h1, h2⟩
    refine decide_eq_true ?_
    rcases index_spec l p with ⟨h3, h4⟩ | ⟨i, h3, _⟩
    · have := h4 a (by omega)
      rw [(occ a).2 h2] at this
      cases this
    · omega

end Go.Proofs.YtgillafjccgkdaaDoor
