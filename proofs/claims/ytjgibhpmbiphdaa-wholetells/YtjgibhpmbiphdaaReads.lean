/-
  WholeReads, walked.
-/
import Derived.Test.YtjgibhpmbiphdaaRParseN
namespace Go.Proofs.Ytjgibhpmbiphdaa
open Go.RowKit

theorem textOf_nums (s : ByteArray) : textOf (nums s) = .string s := by
  unfold textOf
  congr 1
  cases s with
  | mk d =>
    unfold strOfNums nums
    congr 1
    rw [List.map_map, List.map_map]
    have e : ((fun n : Int => UInt8.ofNat n.toNat) ∘ (fun x : Nat => (x : Int))) ∘ UInt8.toNat = id := by
      funext u
      simp
    rw [e, List.map_id]
/-- What Text tells of what Parse has read is the text. -/
theorem read_back {bs : List Nat} (hn : Num bs) {n : Bool} {xs ts : List Nat} (fm : Fm n xs) (hz : zv n (val xs) = pz bs) (ht : val xs = 0 ∧ ts = [48] ∨ val xs ≠ 0 ∧ ∃ us, ts = decBytes n us ∧ IsDec us (val xs)) : ts = bs := by
  unfold pz at hz
  obtain ⟨hv, hs⟩ := zv_eq hz
  have hd := hn.1
  have hlen : 0 < (dg bs).length := List.length_pos_iff.2 hd.1
  have hjoin : bs = (if sg bs then [45] else []) ++ dg bs := by
    cases hsg : sg bs with
    | false => unfold dg; rw [hsg]; rfl
    | true =>
      unfold dg
      rw [hsg]
      unfold sg at hsg
      simp only [decide_eq_true_eq] at hsg
      cases bs with
      | nil => simp at hsg
      | cons b bs => simp at hsg; subst hsg; rfl
  have first : (dg bs)[0]?.getD 0 = 48 → (dg bs).length = 1 := fun h => by
    rcases Nat.lt_or_ge 1 (dg bs).length with h1 | h1
    · exact absurd ⟨h, h1⟩ hd.2.1
    · omega
  have single : (dg bs).length = 1 → dg bs = [(dg bs)[0]?.getD 0] := fun h => by
    cases hq : dg bs with
    | nil => rw [hq] at h; simp at h
    | cons b cs => rw [hq] at h; simp at h; rw [h]; rfl
  rcases ht with ⟨h0, rfl⟩ | ⟨h0, us, rfl, hu⟩
  · have hd0 : dn (dg bs) = 0 := by omega
    have hl1 : (dg bs).length = 1 := by
      rcases Nat.lt_or_ge 1 (dg bs).length with h1 | h1
      · have := dn_ge hd h1
        have := ten_pow_pos ((dg bs).length - 1)
        omega
      · omega
    have hb := hd.2.2 0 hlen
    have hs1 := single hl1
    have h48 : (dg bs)[0]?.getD 0 = 48 := by
      rw [hs1] at hd0
      simp [dn, dval] at hd0
      omega
    have hdg : dg bs = [48] := by rw [hs1, h48]
    have hsg : sg bs = false := by
      cases hq : sg bs with
      | false => rfl
      | true => exact absurd ⟨hq, hdg⟩ hn.2
    rw [hjoin, hsg, hdg]
    rfl
  · have hns := hs h0
    subst hns
    have hdec : IsDec (dg bs).reverse (val xs) := by
      refine ⟨fun d h => isDig_mem hd d (by simpa using h), by rw [hv]; rfl, Or.inr ?_⟩
      rw [List.length_reverse, List.getElem?_reverse (by omega), show (dg bs).length - 1 - ((dg bs).length - 1) = 0 by omega]
      intro h48
      have hl1 := first h48
      have hs1 := single hl1
      rw [h48] at hs1
      apply h0
      rw [hv, hs1]
      rfl
    have hus := hu.unique hdec
    rw [hus]
    unfold decBytes
    rw [List.reverse_reverse, ← hjoin]

theorem reads_far (s : ByteArray) (w : World) (hs : 3000 < s.size) :
    Calls Try.prog 6 #[.string s] w fun e w' => e = .returned (.bool true) ∧ Below w.heap.size w w' := by
  have t1 : (3000 : Int) < s.size := by omega
  go_enter Try.func6, Try.ntmps6
  go_wp2_with fail
  refine (awake_any w).mono ?_
  rintro e w1 ⟨rfl, hb⟩
  go_wp2
  go_ret
  exact ⟨rfl, hb⟩

/-- What Parse answers: words, and an error. -/
theorem ParseRes.ans {B : Nat} {w : World} {n : Bool} {a : Option Addr} {l c : Nat} {k : Int} {bs : List Nat} (h : ParseRes B w (.agg #[.bool n, .slice a l c]) k bs) :
    ∃ zs, Ow .u32 B w (.slice a l c) zs ∧ okw zs ∧ Fm n zs ∧ zs.length ≤ 256 ∧ ((¬ Num bs ∧ k = 4 ∧ zs = [] ∧ n = false) ∨ (Num bs ∧ (((pz bs).natAbs < pw 256 ∧ k = 0 ∧ zv n (val zs) = pz bs) ∨ (pw 256 ≤ (pz bs).natAbs ∧ k = 3 ∧ zs = [] ∧ n = false)))) := by
  rcases h with ⟨h1, h2, h3⟩ | ⟨h1, ⟨hz, h2, h3⟩ | ⟨hz, h2, h3⟩⟩
  · cases h3
    exact ⟨[], Ow_nil _ _ _ _ _, okw_nil, ⟨Or.inl rfl, fun _ => rfl⟩, by simp, Or.inl ⟨h1, h2, rfl, rfl⟩⟩
  · obtain ⟨zs, o, k', f, e⟩ := h3.open
    exact ⟨zs, o, k', f, Tr_len_le f.tr 256 (by rw [← zv_abs n (val zs), e]; exact hz), Or.inr ⟨h1, Or.inl ⟨hz, h2, e⟩⟩⟩
  · cases h3
    exact ⟨[], Ow_nil _ _ _ _ _, okw_nil, ⟨Or.inl rfl, fun _ => rfl⟩, by simp, Or.inr ⟨h1, Or.inr ⟨hz, h2, rfl, rfl⟩⟩⟩
theorem parse_same {n m : Bool} {zs vs : List Nat} {k j : Int} {bs : List Nat} (oz : okw zs) (ov : okw vs) (fz : Fm n zs) (fv : Fm m vs)
    (h : (¬ Num bs ∧ k = 4 ∧ zs = [] ∧ n = false) ∨ (Num bs ∧ (((pz bs).natAbs < pw 256 ∧ k = 0 ∧ zv n (val zs) = pz bs) ∨ (pw 256 ≤ (pz bs).natAbs ∧ k = 3 ∧ zs = [] ∧ n = false))))
    (h' : (¬ Num bs ∧ j = 4 ∧ vs = [] ∧ m = false) ∨ (Num bs ∧ (((pz bs).natAbs < pw 256 ∧ j = 0 ∧ zv m (val vs) = pz bs) ∨ (pw 256 ≤ (pz bs).natAbs ∧ j = 3 ∧ vs = [] ∧ m = false)))) :
    k = j ∧ sameB n m zs vs = true := by
  rcases h with ⟨h1, rfl, rfl, rfl⟩ | ⟨h1, ⟨hz, rfl, e⟩ | ⟨hz, rfl, rfl, rfl⟩⟩ <;> rcases h' with ⟨g1, rfl, rfl, rfl⟩ | ⟨g1, ⟨gz, rfl, e'⟩ | ⟨gz, rfl, rfl, rfl⟩⟩
  · exact ⟨rfl, sameB_self _ _⟩
  · exact absurd g1 h1
  · exact absurd g1 h1
  · exact absurd h1 g1
  · exact ⟨rfl, same_true fz fv oz ov (e.trans e'.symm)⟩
  · omega
  · exact absurd h1 g1
  · omega
  · exact ⟨rfl, sameB_self _ _⟩

set_option maxRecDepth 100000 in
set_option maxHeartbeats 4000000 in
theorem reads_near (s : ByteArray) (w : World) (hs : s.size ≤ 3000) :
    Calls Try.prog 6 #[.string s] w fun e w' => e = .returned (.bool true) ∧ Below w.heap.size w w' := by
  have t1 : ¬ (3000 : Int) < s.size := by omega
  go_enter Try.func6, Try.ntmps6
  go_wp2_with fail
  refine (parse_any s w (by omega)).mono ?_
  rintro e w1 ⟨n1, a1, l1, c1, k1, rfl, hr1, hb1⟩
  obtain ⟨zs, oz, kz, fz, lz, cz⟩ := hr1.ans
  have bX := Box2.new w1 n1 a1 l1 c1 24
  have hB := hb1.alloc hb1.size (.cells #[.bool n1, .slice a1 l1 c1] 24)
  replace oz := oz.below (below_alloc w1 (.cells #[.bool n1, .slice a1 l1 c1] 24))
  clear hr1
  go_wp2_with fail
  obtain ⟨w2, hW⟩ : ∃ w2, w1.alloc (.cells #[.bool n1, .slice a1 l1 c1] 24) = w2 := ⟨_, rfl⟩
  rw [hW] at bX hB oz ⊢
  clear hW
  obtain ⟨X, hX⟩ : ∃ X, w1.heap.size = X := ⟨_, rfl⟩
  rw [hX] at bX ⊢
  clear hX hb1
  clear w1
  refine (rparse_any s w2 hs).mono ?_
  rintro e w3 ⟨n3, a3, l3, c3, k3, rfl, hr3, hb3⟩
  obtain ⟨vs, ov, kv, fv, lv, cv⟩ := hr3.ans
  obtain ⟨rfl, hsame⟩ := parse_same kz kv fz fv cz cv
  have bY := Box2.new w3 n3 a3 l3 c3 24
  replace bX := (bX.below hb3).below (below_alloc w3 (.cells #[.bool n3, .slice a3 l3 c3] 24))
  replace oz := (oz.below hb3).below (below_alloc w3 (.cells #[.bool n3, .slice a3 l3 c3] 24))
  replace ov := ov.below (below_alloc w3 (.cells #[.bool n3, .slice a3 l3 c3] 24))
  have hB3 : Below w.heap.size w w3 := hB.trans (hb3.mono hB.size)
  have hB4 := hB3.alloc hB3.size (.cells #[.bool n3, .slice a3 l3 c3] 24)
  have q0 := bX.c0
  have q1 := bX.c1
  have q2 := bY.c0
  have q3 := bY.c1
  have q4 : (k1 != k1) = false := by simp
  clear hr3 cv hB hB3 hb3
  go_wp2_with fail
  clear q0 q1 q2 q3
  obtain ⟨w4, hW⟩ : ∃ w2, w3.alloc (.cells #[.bool n3, .slice a3 l3 c3] 24) = w2 := ⟨_, rfl⟩
  rw [hW] at bX hB4 oz ov ⊢
  clear hW bY
  refine (same_any n1 n3 a1 a3 l1 c1 l3 c3 zs vs w4 oz.sl ov.sl (by omega)).mono ?_
  rw [hsame]
  rintro e w5 ⟨rfl, hb5⟩
  replace bX := bX.below hb5
  replace oz := oz.below hb5
  replace hB4 : Below w.heap.size w w5 := hB4.trans (hb5.mono hB4.size)
  clear hb5 ov hsame
  by_cases h0 : k1 = 0
  · have hN : Num (nums s) ∧ zv n1 (val zs) = pz (nums s) := by
      rcases cz with ⟨_, h, _⟩ | ⟨h1, ⟨_, _, h2⟩ | ⟨_, h, _⟩⟩
      · omega
      · exact ⟨h1, h2⟩
      · omega
    have t2 : (k1 != 0) = false := by rw [h0]; rfl
    have q0 := bX.c0
    have q1 := bX.c1
    clear cz
    go_wp2_with fail
    refine (text_any n1 a1 l1 c1 zs w5 oz.sl kz (by omega)).mono ?_
    rintro e w6 ⟨bs, rfl, hbs, hb6⟩
    rw [read_back hN.1 fz hN.2 hbs, textOf_nums]
    clear hbs q0 q1
    go_wp2_with fail
    refine (awake_any w6).mono ?_
    rintro e w7 ⟨rfl, hb7⟩
    go_wp2
    go_ret
    exact ⟨rfl, (hB4.trans (hb6.mono hB4.size)).trans (hb7.mono (Nat.le_trans hB4.size hb6.size))⟩
  · have t2 : (k1 != 0) = true := by rw [bne_iff_ne]; exact h0
    clear cz
    go_wp2
    go_ret
    exact ⟨rfl, hB4⟩

theorem reads_walk (s : ByteArray) (w : World) :
    Calls Try.prog 6 #[.string s] w fun e w' => e = .returned (.bool true) ∧ Below w.heap.size w w' := by
  by_cases h : 3000 < s.size
  · exact reads_far s w h
  · exact reads_near s w (by omega)
end Go.Proofs.Ytjgibhpmbiphdaa
