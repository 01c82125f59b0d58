/-
  The reference: Parse.
-/
import Derived.Test.YteplmnnpmekngaaMh
namespace Go.Proofs.Yteplmnnpmekngaa
open Go.RowKit Go.Shelf

theorem sb_start (A : World) : Below A.heap.size A A.drew := (Below.refl _ A).drew
theorem sb_alloc {A W : World} (h : Below A.heap.size A W) (o : Obj) : Below A.heap.size A (W.alloc o) := h.alloc h.size _
theorem sb_call {A W W' : World} (h : Below A.heap.size A W) (hb : Below W.heap.size W W') : Below A.heap.size A W' := h.trans (hb.mono h.size)
theorem sl_one (V : World) (x : Nat) (t : TypeId) : Sl .u32 (V.alloc (.cells #[.int .u32 (x : Int)] t)) (.slice (some ⟨V.heap.size, 0, none⟩) 1 1) [x] := by
  refine ⟨_, _, rfl, by simp, fun _ => ⟨V.heap.size, 0, rfl, fun j hj => ?_⟩⟩
  obtain rfl : j = 0 := by simpa using hj
  have := new_one V (.int .u32 (x : Int)) t 0 _ rfl
  rwa [WideShapes.add_plain] at this
theorem okw_one {x : Nat} (h : x < 4294967296) : okw [x] := okw_cons.2 ⟨h, okw_nil⟩
theorem dn_take_succ {bs : List Nat} {k : Nat} (h : k < bs.length) : dn (bs.take (k + 1)) = dn (bs.take k) * 10 + (bs[k]?.getD 0 - 48) := by
  rw [take_succ_get bs k h, dn_snoc]; omega
theorem ten_pow_pos (n : Nat) : 1 ≤ 10 ^ n := Nat.pow_pos (by omega)
theorem dn_mono {bs : List Nat} {k : Nat} : dn (bs.take k) ≤ dn bs := by
  have e := dn_append (bs.take k) (bs.drop k)
  rw [List.take_append_drop] at e
  rw [e]
  have : 1 * dn (bs.take k) ≤ 10 ^ (bs.drop k).length * dn (bs.take k) := Nat.mul_le_mul_right _ (ten_pow_pos _)
  omega

set_option maxRecDepth 100000 in
set_option maxHeartbeats 8000000 in
theorem rparse_not0 (s : ByteArray) (w : World) (hs : s.size ≤ 3000) (_hn : ¬ Num (nums s)) (hc : ¬ (nums s)[0]?.getD 0 = 45) (h0 : s.size = 0) :
    Calls Try.prog 30 #[.string s] w fun e w' => e = .returned (.tuple #[.agg #[.bool false, .slice none 0 0], .int .i64 4]) ∧ Below w.heap.size w w' := by
  have hl := nums_length s
  have hb0 := below_alloc w (.cells #[.bool false, .slice none 0 0] 24)
  have hR0 := Box2.new w false none 0 0 24
  have hE0 : s.toList.isEmpty = true := by rw [str_empty]; simpa using h0
  have hsg : sg (nums s) = false := sg_false hc
  have hdg : dg (nums s) = nums s := by unfold dg; rw [hsg]; rfl
  have hlt := nums_length s
  have hsz : s.size ≤ 3000 := hs
  clear hsg hdg hl hlt
  go_enter Try.func30, Try.ntmps30
  go_upto_region 1 with fail
  obtain ⟨w0, hW⟩ : ∃ w0, w.alloc (.cells #[.bool false, .slice none 0 0] 24) = w0 := ⟨_, rfl⟩
  rw [hW] at hb0 hR0 ⊢
  clear hW
  have hfin := hR0.put false none 0 0
  have hg0 := hfin.c0
  have hg1 := hfin.c1
  unfold put2 at hg0 hg1
  have r0 := hR0.c0
  have r1 := hR0.c1
  have rf0 := hR0.f0
  have rf1 := hR0.f1
  go_wp2
  refine bodyPost_ret (v := .tuple #[.agg #[.bool false, .slice none 0 0], .int .i64 4]) ?_ rfl ⟨rfl, below_put2 (N := w.heap.size) hb0 (Nat.le_refl _) _ _⟩
  simp [results, Try.f30, go_sem, hg0, hg1]

set_option maxRecDepth 100000 in
set_option maxHeartbeats 8000000 in
theorem rparse_notA (s : ByteArray) (w : World) (hs : s.size ≤ 3000) (hn : ¬ Num (nums s)) (hc : ¬ (nums s)[0]?.getD 0 = 45) (h0 : 0 < s.size) :
    Calls Try.prog 30 #[.string s] w fun e w' => e = .returned (.tuple #[.agg #[.bool false, .slice none 0 0], .int .i64 4]) ∧ Below w.heap.size w w' := by
  have hl := nums_length s
  have hb0 := below_alloc w (.cells #[.bool false, .slice none 0 0] 24)
  have hR0 := Box2.new w false none 0 0 24
  have hE0 : s.toList.isEmpty = false := by rw [str_empty]; exact decide_eq_false (by omega)
  have hi : ∀ w, (Instr.index 9 (.string s) (.int .i64 0)).run Try.prog w = .ok (.int .u8 (((nums s)[0]?.getD 0 : Nat) : Int)) w := index_str s 0 (by omega)
  obtain ⟨d0, hd0⟩ : ∃ d, (nums s)[0]?.getD 0 = d := ⟨_, rfl⟩
  rw [hd0] at hi
  have t2 : ((d0 : Int) == 45) = false := by rw [hd0] at hc; simp; omega
  have hsg : sg (nums s) = false := sg_false hc
  have hdg : dg (nums s) = nums s := by unfold dg; rw [hsg]; rfl
  have hlt := nums_length s
  have hsz : s.size ≤ 3000 := hs
  go_enter Try.func30, Try.ntmps30
  go_upto_region 1 with fail
  obtain ⟨w0, hW⟩ : ∃ w0, w.alloc (.cells #[.bool false, .slice none 0 0] 24) = w0 := ⟨_, rfl⟩
  rw [hW] at hb0 hR0 ⊢
  clear hW
  have hfin := hR0.put false none 0 0
  have hg0 := hfin.c0
  have hg1 := hfin.c1
  unfold put2 at hg0 hg1
  have r0 := hR0.c0
  have r1 := hR0.c1
  have rf0 := hR0.f0
  have rf1 := hR0.f1
  have hz : ¬ s.size = 0 := by omega
  have hE : s.toList.isEmpty = false := by rw [str_empty]; simpa using hz
  have hxt := index_str s
  have hbad : ¬ (d0 = 48 ∧ 1 < s.size) → ¬ ∀ j, j < (nums s).length → 48 ≤ (nums s)[j]?.getD 0 ∧ (nums s)[j]?.getD 0 ≤ 57 := fun hz2 hall => hn (by
    unfold Num
    rw [hdg, hsg]
    exact ⟨⟨fun e => by rw [e] at hlt; simp at hlt; omega, fun h => hz2 ⟨hd0.symm.trans h.1, by omega⟩, hall⟩, fun h => by simp at h⟩)
  by_cases hz2 : d0 = 48 ∧ 1 < s.size
  · have t7 : ((d0 : Int) == 48) = true := by rw [hz2.1]; rfl
    have t8 : (1 : Int) < s.size := by omega
    clear hn hsg hdg hl hlt hd0 hxt hbad hz2
    go_wp2
    refine bodyPost_ret (v := .tuple #[.agg #[.bool false, .slice none 0 0], .int .i64 4]) ?_ rfl ⟨rfl, below_put2 (N := w.heap.size) hb0 (Nat.le_refl _) _ _⟩
    simp [results, Try.f30, go_sem, hg0, hg1]
  replace hbad := hbad hz2
  by_cases h48 : d0 = 48
  · have t7 : ((d0 : Int) == 48) = true := by rw [h48]; rfl
    have t8 : ¬ (1 : Int) < s.size := by omega
    clear hn hsg hdg hl hd0
    have HB : Hid (¬ ∀ j, j < (nums s).length → 48 ≤ (nums s)[j]?.getD 0 ∧ (nums s)[j]?.getD 0 ≤ 57) := hbad
    clear hbad
    go_wp2_with fail
    go_loop [6] (fun i => ∃ k : Nat, k ≤ s.size ∧ i = .int .i64 (k : Int) ∧ ∀ j, j < k → 48 ≤ (nums s)[j]?.getD 0 ∧ (nums s)[j]?.getD 0 ≤ 57) (fun i => s.size - (intOf i).toNat)
    case atStart => exact ⟨0, Nat.zero_le _, rfl, fun j h => by omega⟩
    case round =>
      obtain ⟨k, hk, rfl, hok⟩ := hrel
      have HO : Hid (∀ j, j < k → 48 ≤ (nums s)[j]?.getD 0 ∧ (nums s)[j]?.getD 0 ≤ 57) := hok
      clear hok
      by_cases hlk : k < s.size
      · have hik := hxt k hlk
        obtain ⟨d, hd⟩ : ∃ d, (nums s)[k]?.getD 0 = d := ⟨_, rfl⟩
        rw [hd] at hik
        have HD : Hid ((nums s)[k]?.getD 0 = d) := hd
        have t9 : (k : Int) < s.size := by omega
        clear hd hxt
        by_cases h1 : d < 48
        · have t10 : (d : Int) < 48 := by omega
          go_wp2
          refine bodyPost_ret (v := .tuple #[.agg #[.bool false, .slice none 0 0], .int .i64 4]) ?_ rfl ⟨rfl, below_put2 (N := w.heap.size) hb0 (Nat.le_refl _) _ _⟩
          simp [results, Try.f30, go_sem, hg0, hg1]
        · have t10 : ¬ (d : Int) < 48 := by omega
          by_cases h2 : 57 < d
          · have t11 : (57 : Int) < d := by omega
            go_wp2
            refine bodyPost_ret (v := .tuple #[.agg #[.bool false, .slice none 0 0], .int .i64 4]) ?_ rfl ⟨rfl, below_put2 (N := w.heap.size) hb0 (Nat.le_refl _) _ _⟩
            simp [results, Try.f30, go_sem, hg0, hg1]
          · have t11 : ¬ (57 : Int) < d := by omega
            go_wp2_with fail
            go_round
            case rel => exact ⟨k + 1, by omega, by go_num, fun j hj => (Nat.eq_or_lt_of_le (Nat.le_of_lt_succ hj)).elim (fun e => by subst e; rw [HD.out]; omega) (fun h => HO.out j h)⟩
            case measure => simp [intOf]; omega
      · obtain rfl : k = s.size := by omega
        exact absurd (fun j hj => HO.out j (by rw [← hlt]; exact hj)) HB.out
  · have t7 : ((d0 : Int) == 48) = false := by simp; omega
    clear hn hsg hdg hl hd0
    have HB : Hid (¬ ∀ j, j < (nums s).length → 48 ≤ (nums s)[j]?.getD 0 ∧ (nums s)[j]?.getD 0 ≤ 57) := hbad
    clear hbad
    go_wp2_with fail
    go_loop [6] (fun i => ∃ k : Nat, k ≤ s.size ∧ i = .int .i64 (k : Int) ∧ ∀ j, j < k → 48 ≤ (nums s)[j]?.getD 0 ∧ (nums s)[j]?.getD 0 ≤ 57) (fun i => s.size - (intOf i).toNat)
    case atStart => exact ⟨0, Nat.zero_le _, rfl, fun j h => by omega⟩
    case round =>
      obtain ⟨k, hk, rfl, hok⟩ := hrel
      have HO : Hid (∀ j, j < k → 48 ≤ (nums s)[j]?.getD 0 ∧ (nums s)[j]?.getD 0 ≤ 57) := hok
      clear hok
      by_cases hlk : k < s.size
      · have hik := hxt k hlk
        obtain ⟨d, hd⟩ : ∃ d, (nums s)[k]?.getD 0 = d := ⟨_, rfl⟩
        rw [hd] at hik
        have HD : Hid ((nums s)[k]?.getD 0 = d) := hd
        have t9 : (k : Int) < s.size := by omega
        clear hd hxt
        by_cases h1 : d < 48
        · have t10 : (d : Int) < 48 := by omega
          go_wp2
          refine bodyPost_ret (v := .tuple #[.agg #[.bool false, .slice none 0 0], .int .i64 4]) ?_ rfl ⟨rfl, below_put2 (N := w.heap.size) hb0 (Nat.le_refl _) _ _⟩
          simp [results, Try.f30, go_sem, hg0, hg1]
        · have t10 : ¬ (d : Int) < 48 := by omega
          by_cases h2 : 57 < d
          · have t11 : (57 : Int) < d := by omega
            go_wp2
            refine bodyPost_ret (v := .tuple #[.agg #[.bool false, .slice none 0 0], .int .i64 4]) ?_ rfl ⟨rfl, below_put2 (N := w.heap.size) hb0 (Nat.le_refl _) _ _⟩
            simp [results, Try.f30, go_sem, hg0, hg1]
          · have t11 : ¬ (57 : Int) < d := by omega
            go_wp2_with fail
            go_round
            case rel => exact ⟨k + 1, by omega, by go_num, fun j hj => (Nat.eq_or_lt_of_le (Nat.le_of_lt_succ hj)).elim (fun e => by subst e; rw [HD.out]; omega) (fun h => HO.out j h)⟩
            case measure => simp [intOf]; omega
      · obtain rfl : k = s.size := by omega
        exact absurd (fun j hj => HO.out j (by rw [← hlt]; exact hj)) HB.out

set_option maxRecDepth 100000 in
set_option maxHeartbeats 8000000 in
theorem rparse_notB (s : ByteArray) (w : World) (hs : s.size ≤ 3000) (hn : ¬ Num (nums s)) (hc : (nums s)[0]?.getD 0 = 45) (h0 : 0 < s.size) :
    Calls Try.prog 30 #[.string s] w fun e w' => e = .returned (.tuple #[.agg #[.bool false, .slice none 0 0], .int .i64 4]) ∧ Below w.heap.size w w' := by
  have hl := nums_length s
  have hb0 := below_alloc w (.cells #[.bool false, .slice none 0 0] 24)
  have hR0 := Box2.new w false none 0 0 24
  have hE0 : s.toList.isEmpty = false := by rw [str_empty]; exact decide_eq_false (by omega)
  have hi : ∀ w, (Instr.index 9 (.string s) (.int .i64 0)).run Try.prog w = .ok (.int .u8 (((nums s)[0]?.getD 0 : Nat) : Int)) w := index_str s 0 (by omega)
  obtain ⟨d0, hd0⟩ : ∃ d, (nums s)[0]?.getD 0 = d := ⟨_, rfl⟩
  rw [hd0] at hi
  have t2 : ((d0 : Int) == 45) = true := by rw [hd0] at hc; simp; omega
  clear hd0
  have hsg : sg (nums s) = true := sg_true hc
  have hne := nums_extract s
  have hlt := nums_length (s.extract 1 s.size)
  have hdg : dg (nums s) = nums (s.extract 1 s.size) := by unfold dg; rw [hsg, hne]; rfl
  have h1s : 1 ≤ s.size := by omega
  have hsz : (s.extract 1 s.size).size ≤ 3000 := by rw [← hlt, hne, List.length_drop]; omega
  obtain ⟨t, ht⟩ : ∃ t, s.extract 1 s.size = t := ⟨_, rfl⟩
  rw [ht] at hdg hlt hsz
  go_enter Try.func30, Try.ntmps30
  go_upto_region 1 with fail
  obtain ⟨w0, hW⟩ : ∃ w0, w.alloc (.cells #[.bool false, .slice none 0 0] 24) = w0 := ⟨_, rfl⟩
  rw [hW] at hb0 hR0 ⊢
  clear hW
  have hfin := hR0.put false none 0 0
  have hg0 := hfin.c0
  have hg1 := hfin.c1
  unfold put2 at hg0 hg1
  have r0 := hR0.c0
  have r1 := hR0.c1
  have rf0 := hR0.f0
  have rf1 := hR0.f1
  by_cases hz : t.size = 0
  · have hE : t.toList.isEmpty = true := by rw [str_empty]; simpa using hz
    clear hn hsg hdg hl hlt
    go_wp2
    refine bodyPost_ret (v := .tuple #[.agg #[.bool false, .slice none 0 0], .int .i64 4]) ?_ rfl ⟨rfl, below_put2 (N := w.heap.size) hb0 (Nat.le_refl _) _ _⟩
    simp [results, Try.f30, go_sem, hg0, hg1]
  have hE : t.toList.isEmpty = false := by rw [str_empty]; simpa using hz
  have hit : ∀ w, (Instr.index 9 (.string t) (.int .i64 0)).run Try.prog w = .ok (.int .u8 (((nums t)[0]?.getD 0 : Nat) : Int)) w := index_str t 0 (by omega)
  have hxt := index_str t
  obtain ⟨c0, hc0⟩ : ∃ d, (nums t)[0]?.getD 0 = d := ⟨_, rfl⟩
  rw [hc0] at hit
  by_cases h48 : c0 = 48
  · have t7 : ((c0 : Int) == 48) = true := by rw [h48]; rfl
    clear hn hsg hdg hl hlt hc0 hxt
    go_wp2
    refine bodyPost_ret (v := .tuple #[.agg #[.bool false, .slice none 0 0], .int .i64 4]) ?_ rfl ⟨rfl, below_put2 (N := w.heap.size) hb0 (Nat.le_refl _) _ _⟩
    simp [results, Try.f30, go_sem, hg0, hg1]
  have t7 : ((c0 : Int) == 48) = false := by simp; omega
  have hbad : ¬ ∀ j, j < (nums t).length → 48 ≤ (nums t)[j]?.getD 0 ∧ (nums t)[j]?.getD 0 ≤ 57 := fun hall => hn (by
    unfold Num
    rw [hdg]
    refine ⟨⟨fun e => by rw [e] at hlt; simp at hlt; omega, fun h => h48 (hc0.symm.trans h.1), hall⟩, fun h => ?_⟩
    rw [h.2] at hc0
    exact h48 hc0.symm)
  clear hn hsg hdg hl hc0
  have HB : Hid (¬ ∀ j, j < (nums t).length → 48 ≤ (nums t)[j]?.getD 0 ∧ (nums t)[j]?.getD 0 ≤ 57) := hbad
  clear hbad
  go_wp2_with fail
  go_loop [6] (fun i => ∃ k : Nat, k ≤ t.size ∧ i = .int .i64 (k : Int) ∧ ∀ j, j < k → 48 ≤ (nums t)[j]?.getD 0 ∧ (nums t)[j]?.getD 0 ≤ 57) (fun i => t.size - (intOf i).toNat)
  case atStart => exact ⟨0, Nat.zero_le _, rfl, fun j h => by omega⟩
  case round =>
    obtain ⟨k, hk, rfl, hok⟩ := hrel
    have HO : Hid (∀ j, j < k → 48 ≤ (nums t)[j]?.getD 0 ∧ (nums t)[j]?.getD 0 ≤ 57) := hok
    clear hok
    by_cases hlk : k < t.size
    · have hik := hxt k hlk
      obtain ⟨d, hd⟩ : ∃ d, (nums t)[k]?.getD 0 = d := ⟨_, rfl⟩
      rw [hd] at hik
      have HD : Hid ((nums t)[k]?.getD 0 = d) := hd
      have t9 : (k : Int) < t.size := by omega
      clear hd hxt
      by_cases h1 : d < 48
      · have t10 : (d : Int) < 48 := by omega
        go_wp2
        refine bodyPost_ret (v := .tuple #[.agg #[.bool false, .slice none 0 0], .int .i64 4]) ?_ rfl ⟨rfl, below_put2 (N := w.heap.size) hb0 (Nat.le_refl _) _ _⟩
        simp [results, Try.f30, go_sem, hg0, hg1]
      · have t10 : ¬ (d : Int) < 48 := by omega
        by_cases h2 : 57 < d
        · have t11 : (57 : Int) < d := by omega
          go_wp2
          refine bodyPost_ret (v := .tuple #[.agg #[.bool false, .slice none 0 0], .int .i64 4]) ?_ rfl ⟨rfl, below_put2 (N := w.heap.size) hb0 (Nat.le_refl _) _ _⟩
          simp [results, Try.f30, go_sem, hg0, hg1]
        · have t11 : ¬ (57 : Int) < d := by omega
          go_wp2_with fail
          go_round
          case rel => exact ⟨k + 1, by omega, by go_num, fun j hj => (Nat.eq_or_lt_of_le (Nat.le_of_lt_succ hj)).elim (fun e => by subst e; rw [HD.out]; omega) (fun h => HO.out j h)⟩
          case measure => simp [intOf]; omega
    · obtain rfl : k = t.size := by omega
      exact absurd (fun j hj => HO.out j (by rw [← hlt]; exact hj)) HB.out

end Go.Proofs.Yteplmnnpmekngaa
