/-
  WholeTells, walked.
-/
import Derived.Test.YtjgibhpmbiphdaaRText
import Derived.Test.YtjgibhpmbiphdaaRSmall
import Derived.Test.YtjgibhpmbiphdaaReads
namespace Go.Proofs.Ytjgibhpmbiphdaa
open Go.RowKit

/-- What a text of a number is. -/
def Told (neg : Bool) (n : Nat) (bs : List Nat) : Prop := n = 0 ∧ bs = [48] ∨ n ≠ 0 ∧ ∃ ts, bs = decBytes neg ts ∧ IsDec ts n
theorem Told.unique {neg : Bool} {n : Nat} {bs cs : List Nat} (h : Told neg n bs) (k : Told neg n cs) : bs = cs := by
  rcases h with ⟨h0, rfl⟩ | ⟨h0, ts, rfl, ht⟩ <;> rcases k with ⟨k0, rfl⟩ | ⟨k0, us, rfl, hu⟩
  · rfl
  · exact absurd h0 k0
  · exact absurd k0 h0
  · rw [ht.unique hu]
theorem IsDec.ne {ts : List Nat} {n : Nat} (h : IsDec ts n) (h0 : n ≠ 0) : ts ≠ [] := fun e => h0 (by rw [← h.2.1, e]; rfl)
theorem IsDec.last {ts : List Nat} {n : Nat} (h : IsDec ts n) (h0 : n ≠ 0) : 49 ≤ ts[ts.length - 1]?.getD 0 ∧ ts[ts.length - 1]?.getD 0 ≤ 57 := by
  have hl := List.length_pos_iff.2 (h.ne h0)
  rcases h.2.2 with h1 | h1
  · omega
  · have hlt : ts.length - 1 < ts.length := by omega
    rw [List.getElem?_eq_getElem hlt] at h1 ⊢
    have := h.1 _ (List.getElem_mem hlt)
    simp only [Option.getD_some] at h1 ⊢
    omega
theorem IsDec.dig {ts : List Nat} {n : Nat} (h : IsDec ts n) (h0 : n ≠ 0) : isDig ts.reverse := by
  have hn := h.ne h0
  have hl := List.length_pos_iff.2 hn
  have hf : ts.reverse[0]?.getD 0 = ts[ts.length - 1]?.getD 0 := by rw [List.getElem?_reverse hl, Nat.sub_zero]
  refine ⟨fun e => hn (List.reverse_eq_nil_iff.1 e), fun e => ?_, fun j hj => ?_⟩
  · have := h.last h0
    rw [hf] at e
    omega
  · rw [List.getElem?_eq_getElem hj]
    exact h.1 _ (List.mem_reverse.1 (List.getElem_mem hj))
theorem Told.num {neg : Bool} {n : Nat} {bs : List Nat} (h : Told neg n bs) : Num bs ∧ pz bs = zv neg n := by
  rcases h with ⟨rfl, rfl⟩ | ⟨h0, ts, rfl, ht⟩
  · refine ⟨⟨⟨by decide, by decide, ?_⟩, by decide⟩, ?_⟩
    · intro j hj
      have : j = 0 := by
        have e : (dg [48]).length = 1 := rfl
        omega
      subst this
      decide
    · have e : pz [48] = zv false 0 := rfl
      rw [e]
      cases neg <;> rfl
  · have hd := ht.dig h0
    have hl := List.length_pos_iff.2 (ht.ne h0)
    have hf : ts.reverse[0]?.getD 0 = ts[ts.length - 1]?.getD 0 := by rw [List.getElem?_reverse hl, Nat.sub_zero]
    have hla := ht.last h0
    have hdn : dn ts.reverse = n := by unfold dn; rw [List.reverse_reverse]; exact ht.2.1
    cases neg with
    | true =>
      have hs : sg (decBytes true ts) = true := by simp [sg, decBytes]
      have hg : dg (decBytes true ts) = ts.reverse := by unfold dg; rw [hs]; rfl
      refine ⟨⟨by rw [hg]; exact hd, fun e => ?_⟩, by unfold pz; rw [hs, hg, hdn]⟩
      rw [hg] at e
      rw [e.2] at hf
      simp at hf
      omega
    | false =>
      have hb : decBytes false ts = ts.reverse := by simp [decBytes]
      have hs : sg ts.reverse = false := sg_false (by rw [hf]; omega)
      have hg : dg ts.reverse = ts.reverse := by unfold dg; rw [hs]; rfl
      rw [hb]
      refine ⟨⟨by rw [hg]; exact hd, fun e => ?_⟩, by unfold pz; rw [hs, hg, hdn]⟩
      rw [hs] at e
      exact absurd e.1 (by decide)
theorem Told.bytes {neg : Bool} {n : Nat} {bs : List Nat} (h : Told neg n bs) : ∀ b ∈ bs, b < 256 := by
  rcases h with ⟨_, rfl⟩ | ⟨_, ts, rfl, ht⟩
  · intro b hb
    simp at hb
    omega
  · intro b hb
    unfold decBytes at hb
    rcases List.mem_append.1 hb with h1 | h1
    · cases neg
      · simp at h1
      · simp at h1; omega
    · have := ht.1 b (by simpa using h1)
      omega
theorem IsDec.pow {ts : List Nat} {n : Nat} (h : IsDec ts n) (h0 : n ≠ 0) : 10 ^ (ts.length - 1) ≤ n := by
  have hl := List.length_pos_iff.2 (h.ne h0)
  have hla := h.last h0
  obtain ⟨k, hk⟩ : ∃ k, ts.length = k + 1 := ⟨ts.length - 1, by omega⟩
  have e : ts = ts.take k ++ [ts[k]?.getD 0] := by
    have := take_succ_get ts k (by omega)
    rwa [← hk, List.take_length] at this
  rw [hk, Nat.add_sub_cancel] at hla ⊢
  have hv := h.2.1
  rw [e, dval_append] at hv
  have hlk : (ts.take k).length = k := by rw [List.length_take]; omega
  rw [hlk] at hv
  have h1 : 10 ^ k * 1 ≤ 10 ^ k * dval [ts[k]?.getD 0] := Nat.mul_le_mul_left _ (by simp [dval]; omega)
  omega
theorem Told.short {neg : Bool} {xs bs : List Nat} (o : okw xs) (h : Told neg (val xs) bs) : bs.length ≤ 10 * xs.length + 1 := by
  rcases h with ⟨_, rfl⟩ | ⟨h0, ts, rfl, ht⟩
  · simp
  · have h1 := ht.pow h0
    have h2 := Nat.lt_of_lt_of_le (val_lt o) (pw_ten xs.length)
    have h3 : 10 ^ (ts.length - 1) < 10 ^ (10 * xs.length) := by omega
    have h4 := (Nat.pow_lt_pow_iff_right (by omega : 1 < 10)).1 h3
    unfold decBytes
    rw [List.length_append, List.length_reverse]
    cases neg <;> simp <;> omega
theorem nums_textOf {bs : List Nat} (h : ∀ b ∈ bs, b < 256) : ∃ s : ByteArray, textOf bs = .string s ∧ nums s = bs := by
  refine ⟨strOfNums (bs.map fun x : Nat => (x : Int)), rfl, ?_⟩
  unfold nums strOfNums
  simp only [List.map_map]
  rw [← List.map_id bs]
  simp only [List.map_id]
  apply List.ext_getElem
  · simp
  · intro i h1 h2
    have := h bs[i] (List.getElem_mem (by simpa using h2))
    simp
    omega

set_option maxRecDepth 100000 in
set_option maxHeartbeats 4000000 in
theorem rtext_zero (neg : Bool) (a : Option Addr) (n cap : Nat) (xs : List Nat) (w : World) (h : Sl .u32 w (.slice a n cap) xs) (h0 : val xs = 0) (ox : okw xs) (hbig : xs.length ≤ 1000) :
    Calls Try.prog 34 #[.agg #[.bool neg, .slice a n cap]] w fun e w' => e = .returned (textOf [48]) ∧ Below w.heap.size w w' := by
  have hb : Below w.heap.size w (w.alloc (.cells #[.bool neg, .slice a n cap] 24)) := below_alloc _ _
  have c0 := Box2.new w neg a n cap 24
  go_enter Try.func34, Try.ntmps34
  go_wp2_with fail
  obtain ⟨w0, hW⟩ : ∃ w0, w.alloc (.cells #[.bool neg, .slice a n cap] 24) = w0 := ⟨_, rfl⟩
  rw [hW] at c0 hb ⊢
  clear hW
  refine (rform_any neg a n cap xs w0 (h.below hb) ox (by omega)).mono ?_
  rintro e w3 ⟨n3, a3, l3, c3, rfl, hI3, hb3⟩
  replace c0 := c0.below hb3
  have hB3 : Below w.heap.size w w3 := hb.trans (hb3.mono hb.size)
  have r0 := c0.c0
  have r1 := c0.c1
  have rf0 := c0.f0
  have rf1 := c0.f1
  have hB4 := below_put2 (N := w.heap.size) hB3 (Nat.le_refl _) n3 (.slice a3 l3 c3)
  obtain ⟨ys, oY, ho, fm, ez⟩ := hI3.open
  obtain ⟨hvy, _⟩ := zv_eq ez
  have hl : ys.length = 0 := (Tr_zero fm.tr).1 (by omega)
  have len := oY.len
  obtain rfl : l3 = 0 := by omega
  clear ez hI3 oY fm ho len
  go_wp2
  go_ret
  exact ⟨rfl, hB4⟩
theorem rtext_any (neg : Bool) (ax : Option Addr) (nx cx : Nat) (xs : List Nat) (w : World) (hx : Sl .u32 w (.slice ax nx cx) xs) (ox : okw xs) (bx : xs.length ≤ 1000) :
    Calls Try.prog 34 #[.agg #[.bool neg, .slice ax nx cx]] w fun e w' => ∃ bs, e = .returned (textOf bs) ∧ Told neg (val xs) bs ∧ Below w.heap.size w w' := by
  by_cases h0 : val xs = 0
  · refine (rtext_zero neg ax nx cx xs w hx h0 ox bx).mono ?_
    rintro e w' ⟨rfl, hb⟩
    exact ⟨[48], rfl, Or.inl ⟨h0, rfl⟩, hb⟩
  · refine (rtext_some neg ax nx cx xs w hx h0 ox bx).mono ?_
    rintro e w' ⟨ts, rfl, hd, hb⟩
    exact ⟨_, rfl, Or.inr ⟨h0, ts, rfl, hd⟩, hb⟩
theorem tells_far (na : Bool) (a0 : Option Addr) (l0 c0 : Nat) (v : Int) (w : World) (g0 : 600 < l0) :
    Calls Try.prog 7 #[.agg #[.bool na, .slice a0 l0 c0], .int .i64 v] w fun e w' => e = .returned (.bool true) ∧ Below w.heap.size w w' := by
  have hA := Box2.new w na a0 l0 c0 24
  have hB0 : Below w.heap.size w (w.alloc (.cells #[.bool na, .slice a0 l0 c0] 24)) := below_alloc _ _
  have q0 := hA.c0
  have q1 := hA.c1
  go_enter Try.func7, Try.ntmps7
  go_wp2_with fail
  clear q0 q1
  obtain ⟨w0, hW⟩ : ∃ w0, w.alloc (.cells #[.bool na, .slice a0 l0 c0] 24) = w0 := ⟨_, rfl⟩
  rw [hW] at hA hB0 ⊢
  clear hW
  refine (large_any na a0 l0 c0 w0).mono ?_
  rintro e w1 ⟨rfl, hb1⟩
  have hd : decide (600 < l0) = true := by simpa using g0
  rw [hd]
  replace hB0 : Below w.heap.size w w1 := hB0.trans (hb1.mono hB0.size)
  clear hd hb1 hA g0
  go_wp2_with fail
  refine (awake_any w1).mono ?_
  rintro e w2 ⟨rfl, hb2⟩
  go_wp2
  go_ret
  exact ⟨rfl, hB0.trans (hb2.mono hB0.size)⟩

set_option maxRecDepth 100000 in
set_option maxHeartbeats 8000000 in
theorem tells_near (na : Bool) (a0 : Option Addr) (l0 c0 : Nat) (xs : List Nat) (v : Int) (w : World) (hx : Sl .u32 w (.slice a0 l0 c0) xs) (ox : okw xs) (g0 : l0 ≤ 600) (h1 : -9223372036854775808 ≤ v) (h2 : v ≤ 9223372036854775807) :
    Calls Try.prog 7 #[.agg #[.bool na, .slice a0 l0 c0], .int .i64 v] w fun e w' => e = .returned (.bool true) ∧ Below w.heap.size w w' := by
  have lx : xs.length ≤ 600 := by rw [← hx.len]; exact g0
  have hv : v.natAbs < pw 256 := Nat.lt_of_lt_of_le (show v.natAbs < pw 2 by rw [show pw 2 = 18446744073709551616 from rfl]; omega) (pw_mono (by omega))
  have hz1 : smallZ v = v := if_pos ⟨h1, h2⟩
  have hz2 : smallOk v = true := decide_eq_true ⟨h1, h2⟩
  have hA := Box2.new w na a0 l0 c0 24
  have hB0 : Below w.heap.size w (w.alloc (.cells #[.bool na, .slice a0 l0 c0] 24)) := below_alloc _ _
  have q0 := hA.c0
  have q1 := hA.c1
  go_enter Try.func7, Try.ntmps7
  go_wp2_with fail
  clear q0 q1
  obtain ⟨w0, hW⟩ : ∃ w0, w.alloc (.cells #[.bool na, .slice a0 l0 c0] 24) = w0 := ⟨_, rfl⟩
  rw [hW] at hA hB0 ⊢
  clear hW
  refine (large_any na a0 l0 c0 w0).mono ?_
  rintro e w1 ⟨rfl, hb1⟩
  have hd : decide (600 < l0) = false := by simp; omega
  rw [hd]
  clear hd
  replace hA := hA.below hb1
  replace hB0 : Below w.heap.size w w1 := hB0.trans (hb1.mono hB0.size)
  clear hb1
  have q0 := hA.c0
  have q1 := hA.c1
  go_wp2_with fail
  refine (lent_any na a0 l0 c0 xs w1 (hx.below hB0) (by omega)).mono ?_
  rintro e w3 ⟨g, cp, rfl, hP, hb1⟩
  replace hP : LentAt w.heap.size w3 g l0 cp xs := ⟨hP.len, hP.room, Nat.le_trans hB0.size hP.ge, hP.seg⟩
  replace hA := hA.below hb1
  replace hB0 : Below w.heap.size w w3 := hB0.trans (hb1.mono hB0.size)
  clear hb1
  clear q0 q1
  have hb1 := below_alloc w3 (.cells #[.bool na, .slice (some ⟨g, 0, none⟩) l0 cp] 24)
  have bP := Box2.new w3 na (some ⟨g, 0, none⟩) l0 cp 24
  have q0 := bP.c0
  have q1 := bP.c1
  go_wp2_with fail
  clear q0 q1
  obtain ⟨w4, hW4⟩ : ∃ w4, w3.alloc (.cells #[.bool na, .slice (some ⟨g, 0, none⟩) l0 cp] 24) = w4 := ⟨_, rfl⟩
  rw [hW4] at hb1 bP ⊢
  clear hW4
  obtain ⟨P, hPP⟩ : ∃ P, w3.heap.size = P := ⟨_, rfl⟩
  rw [hPP] at bP ⊢
  clear hPP
  replace hA := hA.below hb1
  replace hP := hP.below hb1
  replace hB0 : Below w.heap.size w w4 := hB0.trans (hb1.mono hB0.size)
  clear hb1
  refine (text_any na (some ⟨g, 0, none⟩) l0 cp xs w4 hP.sl ox (by omega)).mono ?_
  rintro e w5 ⟨bs, rfl, hbs, hb1⟩
  have HT : Hid (Told na (val xs) bs) := hbs
  obtain ⟨s, hs, hn⟩ := nums_textOf (Told.bytes (neg := na) hbs)
  have hss : s.size ≤ 6500 := by
    rw [← nums_length, hn]
    have := Told.short ox HT.out
    omega
  rw [hs]
  clear hbs
  replace hA := hA.below hb1
  replace hP := hP.below hb1
  replace bP := bP.below hb1
  replace hB0 : Below w.heap.size w w5 := hB0.trans (hb1.mono hB0.size)
  clear hb1
  have q0 := bP.c0
  have q1 := bP.c1
  go_wp2_with fail
  clear q0 q1
  have hsm := small_any na (some ⟨g, 0, none⟩) l0 cp xs w5 hP.sl ox (by omega)
  obtain ⟨sz, hsz⟩ : ∃ z, smallZ (zv na (val xs)) = z := ⟨_, rfl⟩
  obtain ⟨sb, hsb⟩ : ∃ z, smallOk (zv na (val xs)) = z := ⟨_, rfl⟩
  rw [hsz, hsb] at hsm
  refine hsm.mono ?_
  clear hsm
  rintro e w6 ⟨rfl, hb1⟩
  replace hA := hA.below hb1
  replace hP := hP.below hb1
  replace bP := bP.below hb1
  replace hB0 : Below w.heap.size w w6 := hB0.trans (hb1.mono hB0.size)
  clear hb1
  have q0 := hA.c0
  have q1 := hA.c1
  go_wp2_with fail
  clear q0 q1
  have hsm := rsmall_any na a0 l0 c0 xs w6 (hx.below hB0) ox (by omega)
  rw [hsz, hsb] at hsm
  refine hsm.mono ?_
  clear hsm hsz hsb
  rintro e w7 ⟨rfl, hb1⟩
  replace hA := hA.below hb1
  replace hP := hP.below hb1
  replace bP := bP.below hb1
  replace hB0 : Below w.heap.size w w7 := hB0.trans (hb1.mono hB0.size)
  clear hb1
  have q0 := hA.c0
  have q1 := hA.c1
  go_wp2_with fail
  clear q0 q1
  refine (rtext_any na a0 l0 c0 xs w7 (hx.below hB0) ox (by omega)).mono ?_
  rintro e w8 ⟨cs, rfl, hcs, hb1⟩
  obtain rfl : bs = cs := HT.out.unique hcs
  rw [hs]
  clear hcs hs
  have t1 : (sz != sz) = false := by simp
  have t2 : (sb != sb) = false := by simp
  replace hA := hA.below hb1
  replace hP := hP.below hb1
  replace bP := bP.below hb1
  replace hB0 : Below w.heap.size w w8 := hB0.trans (hb1.mono hB0.size)
  clear hb1
  have q0 := hA.c0
  have q1 := hA.c1
  have q2 := bP.c0
  have q3 := bP.c1
  go_wp2_with fail
  clear q0 q1 q2 q3
  refine (back_is na a0 l0 c0 g cp w.heap.size xs w8 hP (hx.below hB0) (by omega)).mono ?_
  rintro e w9 ⟨rfl, hb1⟩
  clear hP bP
  replace hA := hA.below hb1
  replace hB0 : Below w.heap.size w w9 := hB0.trans (hb1.mono hB0.size)
  clear hb1
  clear t1 t2
  go_wp2_with fail
  refine (parse_any s w9 hss).mono ?_
  rintro e w10 ⟨n1, a1, l1, c1, k1, rfl, hr1, hb1⟩
  rw [hn] at hr1
  obtain ⟨zs, oz, kz, fz, lz, cz⟩ := hr1.ans
  obtain ⟨hN, hpz⟩ := Told.num HT.out
  have HC : Hid (((zv na (val xs)).natAbs < pw 256 ∧ k1 = 0 ∧ zv n1 (val zs) = zv na (val xs)) ∨ pw 256 ≤ (zv na (val xs)).natAbs) := (by
    rcases cz with ⟨h, _⟩ | ⟨_, ⟨h1, h2, h3⟩ | ⟨h1, _⟩⟩
    · exact absurd hN h
    · rw [hpz] at h1 h3
      exact Or.inl ⟨h1, h2, h3⟩
    · rw [hpz] at h1
      exact Or.inr h1)
  clear hr1 cz hN hpz hn hss HT
  replace hA := hA.below hb1
  replace hB0 : Below w.heap.size w w10 := hB0.trans (hb1.mono hB0.size)
  clear hb1
  have hb1 := below_alloc w10 (.cells #[.bool n1, .slice a1 l1 c1] 24)
  have bX := Box2.new w10 n1 a1 l1 c1 24
  replace hA := hA.below hb1
  replace oz := oz.below hb1
  replace hB0 := hB0.trans (hb1.mono hB0.size)
  have q0 := hA.c0
  have q1 := hA.c1
  clear hb1
  go_wp2_with fail
  clear q0 q1
  obtain ⟨w11, hW⟩ : ∃ w2, w10.alloc (.cells #[.bool n1, .slice a1 l1 c1] 24) = w2 := ⟨_, rfl⟩
  rw [hW] at hA bX hB0 oz ⊢
  clear hW
  obtain ⟨X, hX⟩ : ∃ X, w10.heap.size = X := ⟨_, rfl⟩
  rw [hX] at bX ⊢
  clear hX
  refine (rform_any na a0 l0 c0 xs w11 (hx.below hB0) ox (by omega)).mono ?_
  rintro e w12 ⟨n3, a3, l3, c3, rfl, hI3, hb1⟩
  obtain ⟨ys, oY, ho, fm, ez⟩ := hI3.open
  obtain rfl := oY.len
  clear hI3 oY
  replace hA := hA.below hb1
  replace bX := bX.below hb1
  replace oz := oz.below hb1
  replace hB0 : Below w.heap.size w w12 := hB0.trans (hb1.mono hB0.size)
  clear hb1
  have hab : (zv na (val xs)).natAbs = val ys := by rw [← ez, zv_abs]
  have hfd : ∀ w : World, (Instr.field 24 (.agg #[.bool n3, .slice a3 ys.length c3]) 1).run Try.prog w = .ok (.slice a3 ys.length c3) w := fun _ => by kernel_rfl
  rcases HC.out with ⟨hlt, rfl, hzz⟩ | hge
  · have hly : ys.length ≤ 256 := len_small fm.tr (by rw [← hab]; exact hlt)
    have t1 : (ys.length : Int) ≤ 256 := by omega
    have t2 : ((0 : Int) != 0) = false := rfl
    have q0 := bX.c0
    have q1 := bX.c1
    have q2 := hA.c0
    have q3 := hA.c1
    clear HC hab
    go_wp2_with fail
    clear q0 q1 q2 q3
    have hcm := compare_any n1 na a1 a0 l1 c1 l0 c0 zs xs w12 oz.sl (hx.below hB0) kz ox (by omega) (by omega)
    rw [hzz, show cmpI (zv na (val xs)) (zv na (val xs)) = 0 by simp [cmpI]] at hcm
    refine hcm.mono ?_
    rintro e w13 ⟨rfl, hb1⟩
    replace hB0 : Below w.heap.size w w13 := hB0.trans (hb1.mono hB0.size)
    clear hb1 hcm hA bX oz t1 t2 hly hlt hzz ez fm ho kz fz
    go_wp2_with fail
    refine (of_any v w13 h1 h2).mono ?_
    rintro e V1 ⟨n4, a4, l4, c4, rfl, hI4, hb1⟩
    obtain ⟨s4, o4, k4, f4, e4⟩ := hI4.open
    have l4x := len_small f4.tr (by rw [← zv_abs n4 (val s4), e4]; exact hv)
    replace hB0 : Below w.heap.size w V1 := hB0.trans (hb1.mono hB0.size)
    clear hb1 hI4
    go_wp2_with fail
    have hsm := small_any n4 a4 l4 c4 s4 V1 o4.sl k4 (by omega)
    rw [e4, hz1, hz2] at hsm
    refine hsm.mono ?_
    rintro e V2 ⟨rfl, hb1⟩
    replace hB0 : Below w.heap.size w V2 := hB0.trans (hb1.mono hB0.size)
    clear hb1 hsm o4 k4 f4 e4
    go_wp2_with fail
    refine (of_any v V2 h1 h2).mono ?_
    rintro e V3 ⟨n5, a5, l5, c5, rfl, hI5, hb1⟩
    obtain ⟨s5, o5, k5, f5, e5⟩ := hI5.open
    have l5' := len_small f5.tr (by rw [← zv_abs n5 (val s5), e5]; exact hv)
    replace hB0 : Below w.heap.size w V3 := hB0.trans (hb1.mono hB0.size)
    clear hb1 hI5
    go_wp2_with fail
    refine (rof_any v V3 h1 h2).mono ?_
    rintro e V4 ⟨n6, a6, l6, c6, rfl, hI6, hb1⟩
    obtain ⟨s6, o6, k6, f6, e6⟩ := hI6.open
    replace o5 := o5.below hb1
    replace hB0 : Below w.heap.size w V4 := hB0.trans (hb1.mono hB0.size)
    have hsa := same_true f5 f6 k5 k6 (e5.trans e6.symm)
    clear hb1 hI6 k5 k6 f5 f6 e5 e6
    go_wp2_with fail
    refine (same_any n5 n6 a5 a6 l5 c5 l6 c6 s5 s6 V4 o5.sl o6.sl (by omega)).mono ?_
    rw [hsa]
    rintro e V5 ⟨rfl, hb1⟩
    replace hB0 : Below w.heap.size w V5 := hB0.trans (hb1.mono hB0.size)
    have tv : (v == v) = true := by simp
    clear hb1 hsa o5 o6
    go_wp2_with fail
    refine (awake_any V5).mono ?_
    rintro e V6 ⟨rfl, hb1⟩
    replace hB0 : Below w.heap.size w V6 := hB0.trans (hb1.mono hB0.size)
    clear hb1
    go_wp2
    go_ret
    exact ⟨rfl, hB0⟩
  · have hly : ¬ ys.length ≤ 256 := fun h => by
      have := Nat.lt_of_lt_of_le (val_lt ho) (pw_mono h)
      omega
    have t1 : ¬ (ys.length : Int) ≤ 256 := by omega
    clear HC hab hge hA bX oz ez fm ho kz fz hly
    go_wp2_with fail
    refine (of_any v w12 h1 h2).mono ?_
    rintro e V1 ⟨n4, a4, l4, c4, rfl, hI4, hb1⟩
    obtain ⟨s4, o4, k4, f4, e4⟩ := hI4.open
    have l4x := len_small f4.tr (by rw [← zv_abs n4 (val s4), e4]; exact hv)
    replace hB0 : Below w.heap.size w V1 := hB0.trans (hb1.mono hB0.size)
    clear hb1 hI4
    go_wp2_with fail
    have hsm := small_any n4 a4 l4 c4 s4 V1 o4.sl k4 (by omega)
    rw [e4, hz1, hz2] at hsm
    refine hsm.mono ?_
    rintro e V2 ⟨rfl, hb1⟩
    replace hB0 : Below w.heap.size w V2 := hB0.trans (hb1.mono hB0.size)
    clear hb1 hsm o4 k4 f4 e4
    go_wp2_with fail
    refine (of_any v V2 h1 h2).mono ?_
    rintro e V3 ⟨n5, a5, l5, c5, rfl, hI5, hb1⟩
    obtain ⟨s5, o5, k5, f5, e5⟩ := hI5.open
    have l5' := len_small f5.tr (by rw [← zv_abs n5 (val s5), e5]; exact hv)
    replace hB0 : Below w.heap.size w V3 := hB0.trans (hb1.mono hB0.size)
    clear hb1 hI5
    go_wp2_with fail
    refine (rof_any v V3 h1 h2).mono ?_
    rintro e V4 ⟨n6, a6, l6, c6, rfl, hI6, hb1⟩
    obtain ⟨s6, o6, k6, f6, e6⟩ := hI6.open
    replace o5 := o5.below hb1
    replace hB0 : Below w.heap.size w V4 := hB0.trans (hb1.mono hB0.size)
    have hsa := same_true f5 f6 k5 k6 (e5.trans e6.symm)
    clear hb1 hI6 k5 k6 f5 f6 e5 e6
    go_wp2_with fail
    refine (same_any n5 n6 a5 a6 l5 c5 l6 c6 s5 s6 V4 o5.sl o6.sl (by omega)).mono ?_
    rw [hsa]
    rintro e V5 ⟨rfl, hb1⟩
    replace hB0 : Below w.heap.size w V5 := hB0.trans (hb1.mono hB0.size)
    have tv : (v == v) = true := by simp
    clear hb1 hsa o5 o6
    go_wp2_with fail
    refine (awake_any V5).mono ?_
    rintro e V6 ⟨rfl, hb1⟩
    replace hB0 : Below w.heap.size w V6 := hB0.trans (hb1.mono hB0.size)
    clear hb1
    go_wp2
    go_ret
    exact ⟨rfl, hB0⟩

theorem tells_walk (na : Bool) (a0 : Option Addr) (l0 c0 : Nat) (xs : List Nat) (v : Int) (w : World) (hx : Sl .u32 w (.slice a0 l0 c0) xs) (ox : okw xs) (h1 : -9223372036854775808 ≤ v) (h2 : v ≤ 9223372036854775807) :
    Calls Try.prog 7 #[.agg #[.bool na, .slice a0 l0 c0], .int .i64 v] w fun e w' => e = .returned (.bool true) ∧ Below w.heap.size w w' := by
  by_cases h : 600 < l0
  · exact tells_far na a0 l0 c0 v w h
  · exact tells_near na a0 l0 c0 xs v w hx ox (by omega) h1 h2
end Go.Proofs.Ytjgibhpmbiphdaa
