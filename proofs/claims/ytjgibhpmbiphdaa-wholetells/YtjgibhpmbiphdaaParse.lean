/-
  What Parse of package whole does.
-/
import Derived.Test.YtjgibhpmbiphdaaSplit
namespace Go.Proofs.Ytjgibhpmbiphdaa
open Go.RowKit Go.Shelf
attribute [local go_sem] Oper.semAt_some

/-- A text's sign, its digits, whether it writes a number, and which. -/
def sg (bs : List Nat) : Bool := decide (bs[0]? = some 45)
def dg (bs : List Nat) : List Nat := if sg bs then bs.drop 1 else bs
def Num (bs : List Nat) : Prop := isDig (dg bs) ∧ ¬ (sg bs = true ∧ dg bs = [48])
def pz (bs : List Nat) : Int := zv (sg bs) (dn (dg bs))
def ParseRes (B : Nat) (w : World) (v : Value) (k : Int) (bs : List Nat) : Prop := (¬ Num bs ∧ k = 4 ∧ v = .agg #[.bool false, .slice none 0 0]) ∨ (Num bs ∧ Res B w v k (pz bs))

theorem nums_extract (s : ByteArray) : nums (s.extract 1 s.size) = (nums s).drop 1 := by
  unfold nums
  rw [ByteArray.data_extract, Array.toList_extract, List.extract_eq_take_drop, List.take_of_length_le (by rw [List.length_drop, Array.length_toList]; exact Nat.le_refl _), List.map_drop]
theorem big_digits : pw 256 ≤ 10 ^ 2467 := by decide +kernel
theorem dn_ge {bs : List Nat} (h : isDig bs) (hl : 1 < bs.length) : 10 ^ (bs.length - 1) ≤ dn bs := by
  obtain ⟨h0, h1, h2⟩ := h
  cases bs with
  | nil => simp at hl
  | cons b bs =>
    have hb := h2 0 (by simp)
    simp only [List.getElem?_cons_zero, Option.getD_some] at hb h1
    have e : dn (b :: bs) = dn bs + 10 ^ bs.length * (b - 48) := by
      have := dn_append [b] bs
      simpa [dn, dval] using this
    rw [e, List.length_cons, Nat.add_sub_cancel]
    have : 10 ^ bs.length * 1 ≤ 10 ^ bs.length * (b - 48) := Nat.mul_le_mul_left _ (by have : ¬ b = 48 := fun e => h1 ⟨e, hl⟩; omega)
    omega
theorem isDig_mem {bs : List Nat} (h : isDig bs) : ∀ d ∈ bs, 48 ≤ d ∧ d ≤ 57 := fun d hd => by
  obtain ⟨i, hi, rfl⟩ := List.getElem_of_mem hd
  have := h.2.2 i hi
  rwa [List.getElem?_eq_getElem hi] at this
theorem sg_false {bs : List Nat} (h : bs[0]?.getD 0 ≠ 45) : sg bs = false := by
  unfold sg
  simp only [decide_eq_false_iff_not]
  intro e
  rw [e] at h
  exact h rfl
theorem sg_true {bs : List Nat} (h : bs[0]?.getD 0 = 45) : sg bs = true := by
  unfold sg
  simp only [decide_eq_true_eq]
  cases he : bs[0]? with
  | none => rw [he] at h; simp at h
  | some v => rw [he] at h; simp at h; rw [h]
theorem nums_zero {t : ByteArray} (h : nums t = [48]) : t = ⟨#[48]⟩ := by
  cases t with
  | mk d =>
    unfold nums at h
    cases hd : d.toList with
    | nil => rw [hd] at h; simp at h
    | cons u us =>
      rw [hd] at h
      simp only [List.map_cons, List.cons.injEq, List.map_eq_nil_iff] at h
      obtain ⟨h1, h2⟩ := h
      subst h2
      have hu : u = 48 := UInt8.toNat_inj.1 h1
      subst hu
      congr 1
      exact Array.toList_inj.1 hd

set_option maxRecDepth 100000 in
set_option maxHeartbeats 4000000 in
theorem parse_not (s : ByteArray) (w : World) (hs : s.size ≤ 6500) (hn : ¬ Num (nums s)) :
    Calls Try.prog 29 #[.string s] w fun e w' => e = .returned (.tuple #[.agg #[.bool false, .slice none 0 0], .int .i64 4]) ∧ Below w.heap.size w w' := by
  have hl := nums_length s
  have hb0 := below_alloc w (.cells #[.bool false, .slice none 0 0] 24)
  have hR0 := Box2.new w false none 0 0 24
  by_cases h0 : s.size = 0
  · have hc : (nums s)[0]?.getD 0 ≠ 45 := by rw [List.getElem?_eq_none (by omega)]; simp
    have t1 : ¬ (0 : Int) < s.size := by omega
    have t0 : s.size = 0 := by omega
    have hsg : sg (nums s) = false := sg_false hc
    have hdig : ¬ isDig (nums s) := fun h => hn (by unfold Num dg; rw [hsg]; exact ⟨h, fun h2 => by simp at h2⟩)
    go_enter Try.func29, Try.ntmps29
    go_wp2_with fail
    obtain ⟨w0, hW⟩ : ∃ w0, w.alloc (.cells #[.bool false, .slice none 0 0] 24) = w0 := ⟨_, rfl⟩
    rw [hW] at hb0 hR0 ⊢
    clear hW
    have hfin := hR0.put false none 0 0
    have hg0 := hfin.c0
    have hg1 := hfin.c1
    unfold put2 at hg0 hg1
    have r0 := hR0.c0
    have r1 := hR0.c1
    have rf0 := hR0.f0
    have rf1 := hR0.f1
    refine (areDigits_any s w0 (by omega)).mono ?_
    rintro e w' ⟨⟨b, rfl, hb⟩, rfl⟩
    cases b with
    | true => exact absurd (hb.1 rfl) hdig
    | false =>
      clear hb hdig hn hsg
      go_wp2
      refine bodyPost_ret (v := .tuple #[.agg #[.bool false, .slice none 0 0], .int .i64 4]) ?_ rfl ⟨rfl, below_put2 (N := w.heap.size) hb0 (Nat.le_refl _) _ _⟩
      simp [results, Try.f29, go_sem, hg0, hg1]
  · by_cases hc : (nums s)[0]?.getD 0 = 45
    · skip
      have t1 : (0 : Int) < s.size := by omega
      have hi : ∀ w, (Instr.index 9 (.string s) (.int .i64 0)).run Try.prog w = .ok (.int .u8 (((nums s)[0]?.getD 0 : Nat) : Int)) w := index_str s 0 (by omega)
      obtain ⟨d0, hd0⟩ : ∃ d, (nums s)[0]?.getD 0 = d := ⟨_, rfl⟩
      rw [hd0] at hi
      have t2 : ((d0 : Int) == 45) = true := by rw [hd0] at hc; simp; omega
      clear hd0
      have hsg : sg (nums s) = true := sg_true hc
      have hne := nums_extract s
      have hsz : (s.extract 1 s.size).size ≤ 6500 := by
        have h1 := nums_length (s.extract 1 s.size)
        rw [hne, List.length_drop, hl] at h1
        omega
      have hN : ¬ (isDig (nums (s.extract 1 s.size)) ∧ ¬ nums (s.extract 1 s.size) = [48]) := fun h => hn (by
        unfold Num dg
        rw [hsg]
        rw [hne] at h
        exact ⟨h.1, fun h2 => h.2 h2.2⟩)
      have h1s : 1 ≤ s.size := by omega
      go_enter Try.func29, Try.ntmps29
      go_wp2_with fail
      generalize s.extract 1 s.size = t at *
      clear hne hsg hn
      obtain ⟨w0, hW⟩ : ∃ w0, w.alloc (.cells #[.bool false, .slice none 0 0] 24) = w0 := ⟨_, rfl⟩
      rw [hW] at hb0 hR0 ⊢
      clear hW
      have hfin := hR0.put false none 0 0
      have hg0 := hfin.c0
      have hg1 := hfin.c1
      unfold put2 at hg0 hg1
      have r0 := hR0.c0
      have r1 := hR0.c1
      have rf0 := hR0.f0
      have rf1 := hR0.f1
      refine (areDigits_any t w0 (by omega)).mono ?_
      rintro e w' ⟨⟨b, rfl, hb⟩, rfl⟩
      cases b with
      | true =>
        have hz : nums t = [48] := by
          rcases Decidable.em (nums t = [48]) with h | h
          · exact h
          · exact absurd ⟨hb.1 rfl, h⟩ hN
        obtain rfl := nums_zero hz
        clear hb hN hz hsz
        go_wp2
        refine bodyPost_ret (v := .tuple #[.agg #[.bool false, .slice none 0 0], .int .i64 4]) ?_ rfl ⟨rfl, below_put2 (N := w.heap.size) hb0 (Nat.le_refl _) _ _⟩
        simp [results, Try.f29, go_sem, hg0, hg1]
      | false =>
        clear hb hN hsz
        go_wp2
        refine bodyPost_ret (v := .tuple #[.agg #[.bool false, .slice none 0 0], .int .i64 4]) ?_ rfl ⟨rfl, below_put2 (N := w.heap.size) hb0 (Nat.le_refl _) _ _⟩
        simp [results, Try.f29, go_sem, hg0, hg1]
    · skip
      have t1 : (0 : Int) < s.size := by omega
      have hi : ∀ w, (Instr.index 9 (.string s) (.int .i64 0)).run Try.prog w = .ok (.int .u8 (((nums s)[0]?.getD 0 : Nat) : Int)) w := index_str s 0 (by omega)
      obtain ⟨d0, hd0⟩ : ∃ d, (nums s)[0]?.getD 0 = d := ⟨_, rfl⟩
      rw [hd0] at hi
      have t2 : ((d0 : Int) == 45) = false := by rw [hd0] at hc; simp; omega
      clear hd0
      have hsg : sg (nums s) = false := sg_false hc
      have hdig : ¬ isDig (nums s) := fun h => hn (by unfold Num dg; rw [hsg]; exact ⟨h, fun h2 => by simp at h2⟩)
      go_enter Try.func29, Try.ntmps29
      go_wp2_with fail
      obtain ⟨w0, hW⟩ : ∃ w0, w.alloc (.cells #[.bool false, .slice none 0 0] 24) = w0 := ⟨_, rfl⟩
      rw [hW] at hb0 hR0 ⊢
      clear hW
      have hfin := hR0.put false none 0 0
      have hg0 := hfin.c0
      have hg1 := hfin.c1
      unfold put2 at hg0 hg1
      have r0 := hR0.c0
      have r1 := hR0.c1
      have rf0 := hR0.f0
      have rf1 := hR0.f1
      refine (areDigits_any s w0 (by omega)).mono ?_
      rintro e w' ⟨⟨b, rfl, hb⟩, rfl⟩
      cases b with
      | true => exact absurd (hb.1 rfl) hdig
      | false =>
        clear hb hdig hn hsg
        go_wp2
        refine bodyPost_ret (v := .tuple #[.agg #[.bool false, .slice none 0 0], .int .i64 4]) ?_ rfl ⟨rfl, below_put2 (N := w.heap.size) hb0 (Nat.le_refl _) _ _⟩
        simp [results, Try.f29, go_sem, hg0, hg1]

theorem areDigits_true (t : ByteArray) (w : World) (hs : t.size ≤ 1000000) (h : isDig (nums t)) :
    Calls Try.prog 63 #[.string t] w fun e w' => e = .returned (.bool true) ∧ w' = w := by
  refine (areDigits_any t w hs).mono ?_
  rintro e w' ⟨⟨b, rfl, hb⟩, rfl⟩
  rw [hb.2 h]
  exact ⟨rfl, rfl⟩
theorem not_zero {t : ByteArray} (h : nums t ≠ [48]) : (t.toList == [48]) = false := by
  rw [ByteArray.toList_eq]
  simp only [beq_eq_false_iff_ne, ne_eq]
  intro e
  apply h
  unfold nums
  rw [e]
  rfl

set_option maxRecDepth 100000 in
set_option maxHeartbeats 4000000 in
theorem parse_long (s : ByteArray) (w : World) (hs : s.size ≤ 6500) (hn : Num (nums s)) (hb : 2467 < (dg (nums s)).length) :
    Calls Try.prog 29 #[.string s] w fun e w' => e = .returned (.tuple #[.agg #[.bool false, .slice none 0 0], .int .i64 3]) ∧ Below w.heap.size w w' := by
  have hl := nums_length s
  have hb0 := below_alloc w (.cells #[.bool false, .slice none 0 0] 24)
  have hR0 := Box2.new w false none 0 0 24
  have h0 : 0 < s.size := by
    rw [← hl]
    unfold dg at hb
    split at hb
    · rw [List.length_drop] at hb; omega
    · omega
  by_cases hc : (nums s)[0]?.getD 0 = 45
  · skip
    have t1 : (0 : Int) < s.size := by omega
    have hi : ∀ w, (Instr.index 9 (.string s) (.int .i64 0)).run Try.prog w = .ok (.int .u8 (((nums s)[0]?.getD 0 : Nat) : Int)) w := index_str s 0 (by omega)
    obtain ⟨d0, hd0⟩ : ∃ d, (nums s)[0]?.getD 0 = d := ⟨_, rfl⟩
    rw [hd0] at hi
    have t2 : ((d0 : Int) == 45) = true := by rw [hd0] at hc; simp; omega
    clear hd0
    have hsg : sg (nums s) = true := sg_true hc
    have hne := nums_extract s
    have hsz := nums_length (s.extract 1 s.size)
    have hdig : isDig (nums (s.extract 1 s.size)) := by have := hn.1; unfold dg at this; rw [hsg] at this; rw [hne]; exact this
    have hnz : ((s.extract 1 s.size).toList == [48]) = false := not_zero (fun e => hn.2 ⟨hsg, by unfold dg; rw [hsg]; rw [hne] at e; exact e⟩)
    have t5 : (2467 : Int) < (s.extract 1 s.size).size := by unfold dg at hb; rw [hsg] at hb; rw [← hsz, hne]; simp only [if_true] at hb; omega
    have t6 : (s.extract 1 s.size).size ≤ 6500 := by rw [← hsz, hne, List.length_drop]; omega
    have h1s : 1 ≤ s.size := by omega
    go_enter Try.func29, Try.ntmps29
    go_wp2_with fail
    generalize s.extract 1 s.size = t at *
    clear hne hsg hn hb hsz
    obtain ⟨w0, hW⟩ : ∃ w0, w.alloc (.cells #[.bool false, .slice none 0 0] 24) = w0 := ⟨_, rfl⟩
    rw [hW] at hb0 hR0 ⊢
    clear hW
    have hfin := hR0.put false none 0 0
    have hg0 := hfin.c0
    have hg1 := hfin.c1
    unfold put2 at hg0 hg1
    have r0 := hR0.c0
    have r1 := hR0.c1
    have rf0 := hR0.f0
    have rf1 := hR0.f1
    refine (areDigits_true t w0 (by omega) hdig).mono ?_
    rintro e w' ⟨rfl, rfl⟩
    clear hdig
    go_wp2
    refine bodyPost_ret (v := .tuple #[.agg #[.bool false, .slice none 0 0], .int .i64 3]) ?_ rfl ⟨rfl, below_put2 (N := w.heap.size) hb0 (Nat.le_refl _) _ _⟩
    simp [results, Try.f29, go_sem, hg0, hg1]
  · skip
    have t1 : (0 : Int) < s.size := by omega
    have hi : ∀ w, (Instr.index 9 (.string s) (.int .i64 0)).run Try.prog w = .ok (.int .u8 (((nums s)[0]?.getD 0 : Nat) : Int)) w := index_str s 0 (by omega)
    obtain ⟨d0, hd0⟩ : ∃ d, (nums s)[0]?.getD 0 = d := ⟨_, rfl⟩
    rw [hd0] at hi
    have t2 : ((d0 : Int) == 45) = false := by rw [hd0] at hc; simp; omega
    clear hd0
    have hsg : sg (nums s) = false := sg_false hc
    have hdig : isDig (nums s) := by have := hn.1; unfold dg at this; rw [hsg] at this; exact this
    have t5 : (2467 : Int) < s.size := by unfold dg at hb; rw [hsg] at hb; simp at hb; omega
    go_enter Try.func29, Try.ntmps29
    go_wp2_with fail
    obtain ⟨w0, hW⟩ : ∃ w0, w.alloc (.cells #[.bool false, .slice none 0 0] 24) = w0 := ⟨_, rfl⟩
    rw [hW] at hb0 hR0 ⊢
    clear hW
    have hfin := hR0.put false none 0 0
    have hg0 := hfin.c0
    have hg1 := hfin.c1
    unfold put2 at hg0 hg1
    have r0 := hR0.c0
    have r1 := hR0.c1
    have rf0 := hR0.f0
    have rf1 := hR0.f1
    refine (areDigits_true s w0 (by omega) hdig).mono ?_
    rintro e w' ⟨rfl, rfl⟩
    clear hdig hn hsg hb
    go_wp2
    refine bodyPost_ret (v := .tuple #[.agg #[.bool false, .slice none 0 0], .int .i64 3]) ?_ rfl ⟨rfl, below_put2 (N := w.heap.size) hb0 (Nat.le_refl _) _ _⟩
    simp [results, Try.f29, go_sem, hg0, hg1]
end Go.Proofs.Ytjgibhpmbiphdaa
