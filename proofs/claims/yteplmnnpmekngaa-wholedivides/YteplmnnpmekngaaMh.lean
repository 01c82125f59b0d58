/-
  What Parse of package whole does.
  What Parse of package whole does where it reads a number.
-/
import Derived.Test.YteplmnnpmekngaaMg
namespace Go.Proofs.Yteplmnnpmekngaa
open Go.RowKit Go.Shelf
attribute [local go_sem] Oper.semAt_some

/-- A text's sign, its digits, whether it writes a number, and which. -/
def sg (bs : List Nat) : Bool := decide (bs[0]? = some 45)
def dg (bs : List Nat) : List Nat := if sg bs then bs.drop 1 else bs
def Num (bs : List Nat) : Prop := isDig (dg bs) ∧ ¬ (sg bs = true ∧ dg bs = [48])
def pz (bs : List Nat) : Int := zv (sg bs) (dn (dg bs))
def ParseRes (B : Nat) (w : World) (v : Value) (k : Int) (bs : List Nat) : Prop := (¬ Num bs ∧ k = 4 ∧ v = .agg #[.bool false, .slice none 0 0]) ∨ (Num bs ∧ Res B w v k (pz bs))

theorem nums_extract (s : ByteArray) : nums (s.extract 1 s.size) = (nums s).drop 1 := by
  unfold nums
  rw [ByteArray.data_extract, Array.toList_extract, List.extract_eq_take_drop, List.take_of_length_le (by rw [List.length_drop, Array.length_toList]; exact Nat.le_refl _), List.map_drop]
theorem big_digits : pw 256 ≤ 10 ^ 2467 := by decide +kernel
theorem dn_ge {bs : List Nat} (h : isDig bs) (hl : 1 < bs.length) : 10 ^ (bs.length - 1) ≤ dn bs := by
  obtain ⟨h0, h1, h2⟩ := h
  cases bs with
  | nil => simp at hl
  | cons b bs =>
    have hb := h2 0 (by simp)
    simp only [List.getElem?_cons_zero, Option.getD_some] at hb h1
    have e : dn (b :: bs) = dn bs + 10 ^ bs.length * (b - 48) := by
      have := dn_append [b] bs
      simpa [dn, dval] using this
    rw [e, List.length_cons, Nat.add_sub_cancel]
    have : 10 ^ bs.length * 1 ≤ 10 ^ bs.length * (b - 48) := Nat.mul_le_mul_left _ (by have : ¬ b = 48 := fun e => h1 ⟨e, hl⟩; omega)
    omega
theorem isDig_mem {bs : List Nat} (h : isDig bs) : ∀ d ∈ bs, 48 ≤ d ∧ d ≤ 57 := fun d hd => by
  obtain ⟨i, hi, rfl⟩ := List.getElem_of_mem hd
  have := h.2.2 i hi
  rwa [List.getElem?_eq_getElem hi] at this
theorem sg_false {bs : List Nat} (h : bs[0]?.getD 0 ≠ 45) : sg bs = false := by
  unfold sg
  simp only [decide_eq_false_iff_not]
  intro e
  rw [e] at h
  exact h rfl
theorem sg_true {bs : List Nat} (h : bs[0]?.getD 0 = 45) : sg bs = true := by
  unfold sg
  simp only [decide_eq_true_eq]
  cases he : bs[0]? with
  | none => rw [he] at h; simp at h
  | some v => rw [he] at h; simp at h; rw [h]
theorem nums_zero {t : ByteArray} (h : nums t = [48]) : t = ⟨#[48]⟩ := by
  cases t with
  | mk d =>
    unfold nums at h
    cases hd : d.toList with
    | nil => rw [hd] at h; simp at h
    | cons u us =>
      rw [hd] at h
      simp only [List.map_cons, List.cons.injEq, List.map_eq_nil_iff] at h
      obtain ⟨h1, h2⟩ := h
      subst h2
      have hu : u = 48 := UInt8.toNat_inj.1 h1
      subst hu
      congr 1
      exact Array.toList_inj.1 hd

set_option maxRecDepth 100000 in
set_option maxHeartbeats 4000000 in
theorem parse_not (s : ByteArray) (w : World) (hs : s.size ≤ 6500) (hn : ¬ Num (nums s)) :
    Calls Try.prog 29 #[.string s] w fun e w' => e = .returned (.tuple #[.agg #[.bool false, .slice none 0 0], .int .i64 4]) ∧ Below w.heap.size w w' := by
  have hl := nums_length s
  have hb0 := below_alloc w (.cells #[.bool false, .slice none 0 0] 24)
  have hR0 := Box2.new w false none 0 0 24
  by_cases h0 : s.size = 0
  · have hc : (nums s)[0]?.getD 0 ≠ 45 := by rw [List.getElem?_eq_none (by omega)]; simp
    have t1 : ¬ (0 : Int) < s.size := by omega
    have t0 : s.size = 0 := by omega
    have hsg : sg (nums s) = false := sg_false hc
    have hdig : ¬ isDig (nums s) := fun h => hn (by unfold Num dg; rw [hsg]; exact ⟨h, fun h2 => by simp at h2⟩)
    go_enter Try.func29, Try.ntmps29
    go_wp2_with fail
    obtain ⟨w0, hW⟩ : ∃ w0, w.alloc (.cells #[.bool false, .slice none 0 0] 24) = w0 := ⟨_, rfl⟩
    rw [hW] at hb0 hR0 ⊢
    clear hW
    have hfin := hR0.put false none 0 0
    have hg0 := hfin.c0
    have hg1 := hfin.c1
    unfold put2 at hg0 hg1
    have r0 := hR0.c0
    have r1 := hR0.c1
    have rf0 := hR0.f0
    have rf1 := hR0.f1
    refine (areDigits_any s w0 (by omega)).mono ?_
    rintro e w' ⟨⟨b, rfl, hb⟩, rfl⟩
    cases b with
    | true => exact absurd (hb.1 rfl) hdig
    | false =>
      clear hb hdig hn hsg
      go_wp2
      refine bodyPost_ret (v := .tuple #[.agg #[.bool false, .slice none 0 0], .int .i64 4]) ?_ rfl ⟨rfl, below_put2 (N := w.heap.size) hb0 (Nat.le_refl _) _ _⟩
      simp [results, Try.f29, go_sem, hg0, hg1]
  · by_cases hc : (nums s)[0]?.getD 0 = 45
    · skip
      have t1 : (0 : Int) < s.size := by omega
      have hi : ∀ w, (Instr.index 9 (.string s) (.int .i64 0)).run Try.prog w = .ok (.int .u8 (((nums s)[0]?.getD 0 : Nat) : Int)) w := index_str s 0 (by omega)
      obtain ⟨d0, hd0⟩ : ∃ d, (nums s)[0]?.getD 0 = d := ⟨_, rfl⟩
      rw [hd0] at hi
      have t2 : ((d0 : Int) == 45) = true := by rw [hd0] at hc; simp; omega
      clear hd0
      have hsg : sg (nums s) = true := sg_true hc
      have hne := nums_extract s
      have hsz : (s.extract 1 s.size).size ≤ 6500 := by
        have h1 := nums_length (s.extract 1 s.size)
        rw [hne, List.length_drop, hl] at h1
        omega
      have hN : ¬ (isDig (nums (s.extract 1 s.size)) ∧ ¬ nums (s.extract 1 s.size) = [48]) := fun h => hn (by
        unfold Num dg
        rw [hsg]
        rw [hne] at h
        exact ⟨h.1, fun h2 => h.2 h2.2⟩)
      have h1s : 1 ≤ s.size := by omega
      go_enter Try.func29, Try.ntmps29
      go_wp2_with fail
      generalize s.extract 1 s.size = t at *
      clear hne hsg hn
      obtain ⟨w0, hW⟩ : ∃ w0, w.alloc (.cells #[.bool false, .slice none 0 0] 24) = w0 := ⟨_, rfl⟩
      rw [hW] at hb0 hR0 ⊢
      clear hW
      have hfin := hR0.put false none 0 0
      have hg0 := hfin.c0
      have hg1 := hfin.c1
      unfold put2 at hg0 hg1
      have r0 := hR0.c0
      have r1 := hR0.c1
      have rf0 := hR0.f0
      have rf1 := hR0.f1
      refine (areDigits_any t w0 (by omega)).mono ?_
      rintro e w' ⟨⟨b, rfl, hb⟩, rfl⟩
      cases b with
      | true =>
        have hz : nums t = [48] := by
          rcases Decidable.em (nums t = [48]) with h | h
          · exact h
          · exact absurd ⟨hb.1 rfl, h⟩ hN
        obtain rfl := nums_zero hz
        clear hb hN hz hsz
        go_wp2
        refine bodyPost_ret (v := .tuple #[.agg #[.bool false, .slice none 0 0], .int .i64 4]) ?_ rfl ⟨rfl, below_put2 (N := w.heap.size) hb0 (Nat.le_refl _) _ _⟩
        simp [results, Try.f29, go_sem, hg0, hg1]
      | false =>
        clear hb hN hsz
        go_wp2
        refine bodyPost_ret (v := .tuple #[.agg #[.bool false, .slice none 0 0], .int .i64 4]) ?_ rfl ⟨rfl, below_put2 (N := w.heap.size) hb0 (Nat.le_refl _) _ _⟩
        simp [results, Try.f29, go_sem, hg0, hg1]
    · skip
      have t1 : (0 : Int) < s.size := by omega
      have hi : ∀ w, (Instr.index 9 (.string s) (.int .i64 0)).run Try.prog w = .ok (.int .u8 (((nums s)[0]?.getD 0 : Nat) : Int)) w := index_str s 0 (by omega)
      obtain ⟨d0, hd0⟩ : ∃ d, (nums s)[0]?.getD 0 = d := ⟨_, rfl⟩
      rw [hd0] at hi
      have t2 : ((d0 : Int) == 45) = false := by rw [hd0] at hc; simp; omega
      clear hd0
      have hsg : sg (nums s) = false := sg_false hc
      have hdig : ¬ isDig (nums s) := fun h => hn (by unfold Num dg; rw [hsg]; exact ⟨h, fun h2 => by simp at h2⟩)
      go_enter Try.func29, Try.ntmps29
      go_wp2_with fail
      obtain ⟨w0, hW⟩ : ∃ w0, w.alloc (.cells #[.bool false, .slice none 0 0] 24) = w0 := ⟨_, rfl⟩
      rw [hW] at hb0 hR0 ⊢
      clear hW
      have hfin := hR0.put false none 0 0
      have hg0 := hfin.c0
      have hg1 := hfin.c1
      unfold put2 at hg0 hg1
      have r0 := hR0.c0
      have r1 := hR0.c1
      have rf0 := hR0.f0
      have rf1 := hR0.f1
      refine (areDigits_any s w0 (by omega)).mono ?_
      rintro e w' ⟨⟨b, rfl, hb⟩, rfl⟩
      cases b with
      | true => exact absurd (hb.1 rfl) hdig
      | false =>
        clear hb hdig hn hsg
        go_wp2
        refine bodyPost_ret (v := .tuple #[.agg #[.bool false, .slice none 0 0], .int .i64 4]) ?_ rfl ⟨rfl, below_put2 (N := w.heap.size) hb0 (Nat.le_refl _) _ _⟩
        simp [results, Try.f29, go_sem, hg0, hg1]

theorem areDigits_true (t : ByteArray) (w : World) (hs : t.size ≤ 1000000) (h : isDig (nums t)) :
    Calls Try.prog 63 #[.string t] w fun e w' => e = .returned (.bool true) ∧ w' = w := by
  refine (areDigits_any t w hs).mono ?_
  rintro e w' ⟨⟨b, rfl, hb⟩, rfl⟩
  rw [hb.2 h]
  exact ⟨rfl, rfl⟩
theorem not_zero {t : ByteArray} (h : nums t ≠ [48]) : (t.toList == [48]) = false := by
  rw [ByteArray.toList_eq]
  simp only [beq_eq_false_iff_ne, ne_eq]
  intro e
  apply h
  unfold nums
  rw [e]
  rfl

set_option maxRecDepth 100000 in
set_option maxHeartbeats 4000000 in
theorem parse_long (s : ByteArray) (w : World) (hs : s.size ≤ 6500) (hn : Num (nums s)) (hb : 2467 < (dg (nums s)).length) :
    Calls Try.prog 29 #[.string s] w fun e w' => e = .returned (.tuple #[.agg #[.bool false, .slice none 0 0], .int .i64 3]) ∧ Below w.heap.size w w' := by
  have hl := nums_length s
  have hb0 := below_alloc w (.cells #[.bool false, .slice none 0 0] 24)
  have hR0 := Box2.new w false none 0 0 24
  have h0 : 0 < s.size := by
    rw [← hl]
    unfold dg at hb
    split at hb
    · rw [List.length_drop] at hb; omega
    · omega
  by_cases hc : (nums s)[0]?.getD 0 = 45
  · skip
    have t1 : (0 : Int) < s.size := by omega
    have hi : ∀ w, (Instr.index 9 (.string s) (.int .i64 0)).run Try.prog w = .ok (.int .u8 (((nums s)[0]?.getD 0 : Nat) : Int)) w := index_str s 0 (by omega)
    obtain ⟨d0, hd0⟩ : ∃ d, (nums s)[0]?.getD 0 = d := ⟨_, rfl⟩
    rw [hd0] at hi
    have t2 : ((d0 : Int) == 45) = true := by rw [hd0] at hc; simp; omega
    clear hd0
    have hsg : sg (nums s) = true := sg_true hc
    have hne := nums_extract s
    have hsz := nums_length (s.extract 1 s.size)
    have hdig : isDig (nums (s.extract 1 s.size)) := by have := hn.1; unfold dg at this; rw [hsg] at this; rw [hne]; exact this
    have hnz : ((s.extract 1 s.size).toList == [48]) = false := not_zero (fun e => hn.2 ⟨hsg, by unfold dg; rw [hsg]; rw [hne] at e; exact e⟩)
    have t5 : (2467 : Int) < (s.extract 1 s.size).size := by unfold dg at hb; rw [hsg] at hb; rw [← hsz, hne]; simp only [if_true] at hb; omega
    have t6 : (s.extract 1 s.size).size ≤ 6500 := by rw [← hsz, hne, List.length_drop]; omega
    have h1s : 1 ≤ s.size := by omega
    go_enter Try.func29, Try.ntmps29
    go_wp2_with fail
    generalize s.extract 1 s.size = t at *
    clear hne hsg hn hb hsz
    obtain ⟨w0, hW⟩ : ∃ w0, w.alloc (.cells #[.bool false, .slice none 0 0] 24) = w0 := ⟨_, rfl⟩
    rw [hW] at hb0 hR0 ⊢
    clear hW
    have hfin := hR0.put false none 0 0
    have hg0 := hfin.c0
    have hg1 := hfin.c1
    unfold put2 at hg0 hg1
    have r0 := hR0.c0
    have r1 := hR0.c1
    have rf0 := hR0.f0
    have rf1 := hR0.f1
    refine (areDigits_true t w0 (by omega) hdig).mono ?_
    rintro e w' ⟨rfl, rfl⟩
    clear hdig
    go_wp2
    refine bodyPost_ret (v := .tuple #[.agg #[.bool false, .slice none 0 0], .int .i64 3]) ?_ rfl ⟨rfl, below_put2 (N := w.heap.size) hb0 (Nat.le_refl _) _ _⟩
    simp [results, Try.f29, go_sem, hg0, hg1]
  · skip
    have t1 : (0 : Int) < s.size := by omega
    have hi : ∀ w, (Instr.index 9 (.string s) (.int .i64 0)).run Try.prog w = .ok (.int .u8 (((nums s)[0]?.getD 0 : Nat) : Int)) w := index_str s 0 (by omega)
    obtain ⟨d0, hd0⟩ : ∃ d, (nums s)[0]?.getD 0 = d := ⟨_, rfl⟩
    rw [hd0] at hi
    have t2 : ((d0 : Int) == 45) = false := by rw [hd0] at hc; simp; omega
    clear hd0
    have hsg : sg (nums s) = false := sg_false hc
    have hdig : isDig (nums s) := by have := hn.1; unfold dg at this; rw [hsg] at this; exact this
    have t5 : (2467 : Int) < s.size := by unfold dg at hb; rw [hsg] at hb; simp at hb; omega
    go_enter Try.func29, Try.ntmps29
    go_wp2_with fail
    obtain ⟨w0, hW⟩ : ∃ w0, w.alloc (.cells #[.bool false, .slice none 0 0] 24) = w0 := ⟨_, rfl⟩
    rw [hW] at hb0 hR0 ⊢
    clear hW
    have hfin := hR0.put false none 0 0
    have hg0 := hfin.c0
    have hg1 := hfin.c1
    unfold put2 at hg0 hg1
    have r0 := hR0.c0
    have r1 := hR0.c1
    have rf0 := hR0.f0
    have rf1 := hR0.f1
    refine (areDigits_true s w0 (by omega) hdig).mono ?_
    rintro e w' ⟨rfl, rfl⟩
    clear hdig hn hsg hb
    go_wp2
    refine bodyPost_ret (v := .tuple #[.agg #[.bool false, .slice none 0 0], .int .i64 3]) ?_ rfl ⟨rfl, below_put2 (N := w.heap.size) hb0 (Nat.le_refl _) _ _⟩
    simp [results, Try.f29, go_sem, hg0, hg1]
end Go.Proofs.Yteplmnnpmekngaa
namespace Go.Proofs.Yteplmnnpmekngaa
open Go.RowKit Go.Shelf
attribute [local go_sem] Oper.semAt_some

theorem ownFrom_words {β : Type} (B C : Nat) (f : β → Value) (g : β → List Nat) : OwnFrom C (fun s W => Words B W (f s) (g s)) := by
  intro s X Y row hs hg hr
  refine World.ownsRow.kept hs hg ?_
  cases hv : (f s).ownBlock with
  | none => exact Or.inl rfl
  | some k =>
    right
    intro e
    obtain ⟨c, fz, hc⟩ := Go.Lib.ownsRow_kind hs k hv
    obtain ⟨_, o, ho, hno⟩ := hr k e.symm
    rw [hc] at ho
    cases ho
    simp [Obj.isCells] at hno
theorem pval_drop {ps : List Nat} {k : Nat} (h : k < ps.length) : pval (ps.drop k) = ps[k]?.getD 0 + 1000000000 * pval (ps.drop (k + 1)) := by
  rw [List.drop_eq_getElem_cons h, List.getElem?_eq_getElem h]; rfl
theorem Ow.putObj {B : Nat} {w : World} {v : Value} {xs : List Nat} (h : Ow .u32 B w v xs) {D : Nat} (hK : w.heap[D]? = some (.deferred (some []))) : Ow .u32 B (w.putObj D (.deferred none)) v xs := by
  obtain ⟨a, c, e, hc, hx⟩ := h
  refine ⟨a, c, e, hc, fun h0 => ?_⟩
  obtain ⟨g, off, ea, hB, hs, hf⟩ := hx h0
  have hne : g ≠ D := fun e2 => by
    subst e2
    have := hs 0 (List.length_pos_iff.2 h0)
    simp [World.cell?, hK] at this
  exact ⟨g, off, ea, hB, fun j hj => (World.cell?_of_block (a := ⟨g, off + j, none⟩) (World.putObj_heap_other (by omega))).trans (hs j hj), fun j hj => (World.frozen?_of_block (a := ⟨g, off + j, none⟩) (World.putObj_heap_other (by omega))).trans (hf j hj)⟩
theorem Res.putObj {B : Nat} {w : World} {v : Value} {k z : Int} (h : Res B w v k z) {D : Nat} (hK : w.heap[D]? = some (.deferred (some []))) : Res B (w.putObj D (.deferred none)) v k z := by
  rcases h with ⟨h1, h2, neg, a, n, cap, xs, e, ho, h3⟩ | h
  · exact Or.inl ⟨h1, h2, neg, a, n, cap, xs, e, ho.putObj hK, h3⟩
  · exact Or.inr h
def digitCap : Nat := 2467
theorem big_cap : pw 256 ≤ 10 ^ digitCap := by decide +kernel
theorem le_pow_trans (a c n : Nat) (h1 : a ≤ 10 ^ c) (h2 : c ≤ n) : a ≤ 10 ^ n := Nat.le_trans h1 (Nat.pow_le_pow_right (Nat.succ_pos 9) h2)
theorem big_le (n : Nat) (h : digitCap ≤ n) : pw 256 ≤ 10 ^ n := le_pow_trans (pw 256) digitCap n big_cap h
theorem Words.form {B : Nat} {w : World} {v : Value} {ts : List Nat} (h : Words B w v ts) : ∃ a c, v = .slice a ts.length c := h.ow.form

set_option maxRecDepth 100000 in
set_option maxHeartbeats 8000000 in
theorem parse_plain (s : ByteArray) (w : World) (hs : s.size ≤ 6500) (hn : Num (nums s)) (hb : (dg (nums s)).length ≤ 2467) (h0 : 0 < s.size) (hc : ¬ (nums s)[0]?.getD 0 = 45) :
    Calls Try.prog 29 #[.string s] w fun e w' => ∃ neg a n cap k, e = .returned (.tuple #[.agg #[.bool neg, .slice a n cap], .int .i64 k]) ∧ Res w.heap.size w' (.agg #[.bool neg, .slice a n cap]) k (zv false (dn (dg (nums s)))) ∧ Below w.heap.size w w' := by
  have hl := nums_length s
  have hb0 := below_alloc w (.cells #[.bool false, .slice none 0 0] 24)
  have hR0 := Box2.new w false none 0 0 24
  have t1 : (0 : Int) < s.size := by omega
  have hi : ∀ w, (Instr.index 9 (.string s) (.int .i64 0)).run Try.prog w = .ok (.int .u8 (((nums s)[0]?.getD 0 : Nat) : Int)) w := index_str s 0 (by omega)
  obtain ⟨d0, hd0⟩ : ∃ d, (nums s)[0]?.getD 0 = d := ⟨_, rfl⟩
  rw [hd0] at hi
  have t2 : ((d0 : Int) == 45) = false := by rw [hd0] at hc; simp; omega
  clear hd0
  have hsg : sg (nums s) = false := sg_false hc
  have hdg : dg (nums s) = nums s := by unfold dg; rw [hsg]; rfl
  have hdig : isDig (nums s) := by have := hn.1; rw [hdg] at this; exact this
  rw [hdg] at hb ⊢
  have t5 : ¬ (2467 : Int) < s.size := by omega
  have t6 : s.size ≤ 2467 := by omega
  clear hn hsg hdg hc
  have hmem := isDig_mem hdig
  have a77 : ∀ w, (isAgg 77).run Try.prog w = .ok true w := fun w => by unfold isAgg; rw [Sem.run_bind, run_underlying Try.arrPieces w]; rfl
  have z77 : ∀ w, (sizeOf 77).run Try.prog w = .ok 275 w := fun w => by
    cases hq : Try.prog.info? 77 with
    | none => have h := Try.infoPieces; rw [hq] at h; simp at h
    | some i => have h := Try.infoPieces; rw [hq] at h; simp at h; simp [sizeOf, typeInfo, hq, h.2]
  have hzv := Try.zeroPieces
  refine (callsIn_wide (n := 3)).1 ?_
  refine callsIn_of_wp_marks Try.func29 rfl trivial ?_ rfl
  simp only [Try.ntmps29, List.size_toArray, List.length_cons, List.length_nil, Nat.reduceAdd, Nat.reduceSub, Array.replicate_succ, Array.replicate_zero, List.push_toArray, List.append_toArray, List.nil_append, List.cons_append]
  gi_wp2_with (first
    | (refine ⟨trivial, ?_⟩; gi_at_call 63; refine (callsIn_wide.2 (areDigits_true s _ (by omega) hdig)).mono ?_; rintro e w' ⟨rfl, rfl⟩)
    | (refine ⟨trivial, ?_⟩; gi_at_call 64; refine (callsIn_wide.2 (split_any s _ t6 hmem)).mono ?_; rintro e w2 ⟨ps, rfl, ⟨p1, p2, p3⟩, hb2⟩; have hcs : ((ps ++ List.replicate (275 - ps.length) 0).map fun x : Nat => Value.int .u32 (x : Int)).toArray.size = 275 := (by simp; omega); have hst := run_storeCells_new (P := Try.prog) w2 77 zero275 ((ps ++ List.replicate (275 - ps.length) 0).map fun x : Nat => Value.int .u32 (x : Int)).toArray (by rw [hcs]; kernel_rfl) (by rw [hcs]; rfl) (rowP_oneCell _); have hsl := slice_pieces w2.heap.size ps.length p1; generalize hcd : ((ps ++ List.replicate (275 - ps.length) 0).map fun x : Nat => Value.int .u32 (x : Int)).toArray = cs at *; have HCS : Hid (((ps ++ List.replicate (275 - ps.length) 0).map fun x : Nat => Value.int .u32 (x : Int)).toArray = cs) := hcd; clear hcd)
    | (refine ⟨trivial, ?_⟩; gi_at_call 61; refine (callsIn_wide.2 (back_any _ _ _ _)).mono ?_; rintro e w' ⟨rfl, rfl⟩)
    | fail)
  have HP3 : Hid (pval ps = dn (nums s)) := p3
  have hcs' := HCS.out
  have hrow0 : Row .u32 77 (w2.alloc (.cells cs 77)) w2.heap.size (ps ++ List.replicate (275 - ps.length) 0) := by
    show _ = _
    rw [hcs']
    exact World.alloc_heap_new w2 _
  have hAw : Below w.heap.size w (w2.alloc (.cells cs 77)) := (hb0.trans (hb2.mono hb0.size)).alloc (Nat.le_trans hb0.size hb2.size) _
  have hRA := (hR0.below hb2).below (below_alloc w2 (.cells cs 77))
  have hsA : (w2.alloc (.cells cs 77)).heap.size = w2.heap.size + 1 := by simp
  have hrw : w.heap.size < w2.heap.size := (hR0.below hb2).lt
  obtain ⟨r, hr⟩ : ∃ r, w2.heap.size = r := ⟨_, rfl⟩
  obtain ⟨wA, hwA⟩ : ∃ wA, w2.alloc (.cells cs 77) = wA := ⟨_, rfl⟩
  rw [hr] at hrow0 hsA hrw hsl
  rw [hwA] at hrow0 hAw hRA hsA
  rw [hr, hwA]
  clear p3 hcs' hzv a77 z77 hst hsl hb2 hR0 hb0 hr hwA hmem hdig hi t2 hcs
  clear w2
  have b8 := Boxed.new wA 22 (.slice none 0 0)
  have b9 := Boxed.new (wA.alloc (.cells #[.slice none 0 0] 22)) 22 (.slice (some ⟨r, 0, none⟩) ps.length 275)
  simp only [World.size_alloc, hsA] at b8 b9
  have hBel : Below (r + 1) wA ((wA.alloc (.cells #[.slice none 0 0] 22)).alloc (.cells #[.slice (some ⟨r, 0, none⟩) ps.length 275] 22)) := ((Below.refl _ wA).alloc (by omega) _).alloc (by simp; omega) _
  refine back_loop (S := Nat × List Nat × Value) (r + 1 + 1) r 0 ps.length 275 (some ⟨r, 0, none⟩) (by omega) rfl rfl (by omega) (fun s => s.1)
    (fun s W => (s.1 ≤ ps.length ∧ okw s.2.1 ∧ val s.2.1 = pval (ps.drop s.1) ∧ s.2.1.length ≤ ps.length - s.1) ∧ Words (r + 1 + 1 + 1) W s.2.2 s.2.1 ∧ Boxed W (r + 1) 22 s.2.2 ∧ Boxed W (r + 1 + 1) 22 (.slice (some ⟨r, 0, none⟩) ps.length 275) ∧ Below (r + 1) wA W)
    (fun _ _ => False)
    (OwnFrom.and (ownFrom_pure _ _) (OwnFrom.and (ownFrom_words _ _ (fun s : Nat × List Nat × Value => s.2.2) (fun s => s.2.1)) (OwnFrom.and (OwnFrom.box _ _ _ (fun s : Nat × List Nat × Value => s.2.2)) (OwnFrom.and (OwnFrom.box _ _ _ _) (ownFrom_below (by omega) (by simp; omega))))))
    (fun c => ownFrom_pure _ (fun _ => False))
    ?read (ps.length, [], .slice none 0 0) rfl ⟨⟨Nat.le_refl _, okw_nil, by simp [val, pval], by simp⟩, Words.nil _ _, b8.alloc _, b9, hBel⟩
    ?act ?assign ?body ?done ?stop
  case assign =>
    intro l i v W K hK
    gi_wp2
    exact hK
  case read =>
    rintro ⟨k, zs, v⟩ W ⟨⟨hk, _⟩, _, _, bx, hb⟩
    refine ⟨hk, bx.cell, fun h => ⟨rfl, (ps ++ List.replicate (275 - ps.length) 0)[k - 1]?.getD 0, ?_⟩⟩
    exact (hrow0.seg.below hb (by omega)) (k - 1) (by simp only at h hk; simp; omega)
  case body =>
    rintro l ⟨k, zs, v⟩ p W ⟨⟨hk, oz, hv, hlz⟩, hw, h8, h9, hb⟩ hpos e1 hcell
    simp only at hk oz hv hlz hw h8 hpos hcell
    cases k with
    | zero => exact absurd hpos (by simp)
    | succ k =>
      simp only [Nat.add_sub_cancel] at hcell ⊢
      have hc0 : W.cell? ⟨r, 0 + k, none⟩ = some (.int .u32 (((ps ++ List.replicate (275 - ps.length) 0)[k]?.getD 0 : Nat) : Int)) := (hrow0.seg.below hb (by omega)) k (by simp; omega)
      rw [List.getElem?_append_left (by omega)] at hc0
      obtain rfl : ps[k]?.getD 0 = p := by
        rw [hc0] at hcell
        injection hcell with hcell
        injection hcell with _ hcell
        omega
      have hpk : ps[k]?.getD 0 < 1000000000 := p2 _ (by rw [List.getElem?_eq_getElem (by omega)]; exact List.getElem_mem _)
      have HN : Hid (val zs * 1000000000 + ps[k]?.getD 0 = pval (ps.drop k)) := (by show _ = _; rw [pval_drop (show k < ps.length by omega), hv]; omega)
      obtain ⟨x, hx⟩ : ∃ x, ps[k]?.getD 0 = x := ⟨_, rfl⟩
      rw [hx] at hpk HN ⊢
      obtain ⟨a, c, rfl⟩ := hw.form
      have k8 := h8.cell
      have f8 := h8.frozen
      have hBW : r + 1 + 1 + 1 ≤ W.heap.size := h9.lt
      have hma := mulAdd_any (r + 1 + 1 + 1) a c zs x W hw oz (by omega) hBW (by omega)
      clear hcell hc0 hx hv hw
      gi_wp2_with (refine ⟨trivial, ?_⟩; gi_at_call 65; refine (CallsIn.inRound l (callsIn_wide.2 hma)).mono ?_; rintro e w' ⟨v', zs', rfl, hw', oz', ez', lz', hb5, hko⟩; obtain ⟨a', c', rfl⟩ := hw'.form; have k8' : Boxed w' (r + 1) 22 (.slice a zs.length c) := (hb5.block _ (by omega)).trans h8; have k9' : Boxed w' (r + 1 + 1) 22 (.slice (some ⟨r, 0, none⟩) ps.length 275) := (hb5.block _ (by omega)).trans h9; have k8c := k8'.cell; have k8f := k8'.frozen)
      refine ⟨(hko.from _).trans ((KeepsOthers.setCell _ _ _).from _), (k, zs', .slice a' zs'.length c'), rfl, ⟨by simp only; omega, oz', by simp only; rw [ez', HN.out], by simp only; omega⟩, ?_, k8'.set _, k9'.other (by omega) _, ?_⟩
      · exact ownsRow_setCell_below hw' (by simp) _
      · exact (hb.trans (hb5.mono (by omega))).setCell (p := ⟨r + 1, 0, none⟩) (by simp) _
  case done =>
    rintro D ⟨k, zs, v⟩ W hD hk0 ⟨⟨_, oz, hv, hlz⟩, hw, h8, h9, hb⟩ hK
    simp only at hk0 oz hv hlz hw h8
    subst hk0
    obtain ⟨a, c, rfl⟩ := hw.form
    have k8 := h8.cell
    have hRW : Box2 W w.heap.size false none 0 0 := hRA.lower hb (by omega)
    have hBw : Below w.heap.size w W := hAw.trans (hb.mono (by omega))
    have HE : Hid (val zs = dn (nums s)) := (by show _ = _; rw [hv, List.drop_zero]; exact HP3.out)
    have hck := checked_any false a zs.length c _ zs W (hw.ow.mono (B' := w.heap.size) (by omega)) oz (by omega)
    clear hv hw h8 h9
    gi_wp2_with (refine ⟨trivial, ?_⟩; gi_at_call 47; refine (callsIn_wide.2 hck).mono ?_; rintro e w5 ⟨v5, k5, rfl, hres, hb5⟩; obtain ⟨n5, a5, l5, c5, rfl⟩ := hres.form; have hR5 := hRW.below hb5; have s0 := hR5.c0; have s1 := hR5.c1; have sf0 := hR5.f0; have sf1 := hR5.f1)
    have hfin := hR5.put n5 a5 l5 c5
    have hg0 := hfin.c0
    have hg1 := hfin.c1
    have hBw5 : Below w.heap.size w w5 := hBw.trans (hb5.mono hBw.size)
    have hK5 : w5.heap[D]? = some (.deferred (some [])) := (hb5.block D (Array.getElem?_eq_some_iff.1 hK).1).trans hK
    have hKp : (put2 w5 w.heap.size n5 (.slice a5 l5 c5)).heap[D]? = some (.deferred (some [])) := ((KeepsOthers.setCell _ _ _).trans (KeepsOthers.setCell _ _ _)).same D _ hK5 rfl
    have hg0' := cell_kept hg0 (grownBy_putObj' _ D (.deferred none)) (fun r e => by cases e; exact ⟨_, hKp, rfl⟩)
    have hg1' := cell_kept hg1 (grownBy_putObj' _ D (.deferred none)) (fun r e => by cases e; exact ⟨_, hKp, rfl⟩)
    have hres' := hres.put hR5 n5 (.slice a5 l5 c5)
    have hD' : w.heap.size ≤ D := by simp at hD; omega
    have hbD := (below_put2 (N := w.heap.size) hBw5 (Nat.le_refl _) n5 (.slice a5 l5 c5)).trans (belowK_b (w := w) (Nat.le_refl _) _ D _ (.deferred none) hD' hKp rfl rfl)
    have hres2 := hres'.putObj hKp
    rw [HE.out] at hres2
    unfold put2 at hKp hg0' hg1' hbD hres2
    refine ⟨by simp, .inl ⟨_, _, rfl, run_takeDeferred hKp, ?_⟩⟩
    refine ⟨.tuple #[.agg #[.bool n5, .slice a5 l5 c5], .int .i64 k5], by simp [results, Try.f29, go_sem, hg0', hg1'], ⟨_, _, _, _, _, rfl, hres2, hbD⟩⟩
  case stop =>
    rintro D c W _ h _
    exact h.elim

set_option maxRecDepth 100000 in
set_option maxHeartbeats 8000000 in
theorem parse_minus (s : ByteArray) (w : World) (hs : s.size ≤ 6500) (hn : Num (nums s)) (hb : (dg (nums s)).length ≤ 2467) (h0 : 0 < s.size) (hc : (nums s)[0]?.getD 0 = 45) :
    Calls Try.prog 29 #[.string s] w fun e w' => ∃ neg a n cap k, e = .returned (.tuple #[.agg #[.bool neg, .slice a n cap], .int .i64 k]) ∧ Res w.heap.size w' (.agg #[.bool neg, .slice a n cap]) k (zv true (dn (dg (nums s)))) ∧ Below w.heap.size w w' := by
  have hl := nums_length s
  have hb0 := below_alloc w (.cells #[.bool false, .slice none 0 0] 24)
  have hR0 := Box2.new w false none 0 0 24
  have t1 : (0 : Int) < s.size := by omega
  have hi : ∀ w, (Instr.index 9 (.string s) (.int .i64 0)).run Try.prog w = .ok (.int .u8 (((nums s)[0]?.getD 0 : Nat) : Int)) w := index_str s 0 (by omega)
  obtain ⟨d0, hd0⟩ : ∃ d, (nums s)[0]?.getD 0 = d := ⟨_, rfl⟩
  rw [hd0] at hi
  have t2 : ((d0 : Int) == 45) = true := by rw [hd0] at hc; simp; omega
  clear hd0
  have hsg : sg (nums s) = true := sg_true hc
  have hne := nums_extract s
  have hsz := nums_length (s.extract 1 s.size)
  have hdg : dg (nums s) = nums (s.extract 1 s.size) := by unfold dg; rw [hsg, hne]; rfl
  have hdig : isDig (nums (s.extract 1 s.size)) := by have := hn.1; rw [hdg] at this; exact this
  have hnz : ((s.extract 1 s.size).toList == [48]) = false := not_zero (fun e => hn.2 ⟨hsg, by rw [hdg]; exact e⟩)
  rw [hdg] at hb ⊢
  have t5 : ¬ (2467 : Int) < (s.extract 1 s.size).size := by omega
  have t6 : (s.extract 1 s.size).size ≤ 2467 := by omega
  have h1s : 1 ≤ s.size := by omega
  obtain ⟨t, ht⟩ : ∃ t, s.extract 1 s.size = t := ⟨_, rfl⟩
  rw [ht] at hdig hnz t5 t6 hb ⊢
  clear hn hsg hdg hne hsz hc
  have hmem := isDig_mem hdig
  have a77 : ∀ w, (isAgg 77).run Try.prog w = .ok true w := fun w => by unfold isAgg; rw [Sem.run_bind, run_underlying Try.arrPieces w]; rfl
  have z77 : ∀ w, (sizeOf 77).run Try.prog w = .ok 275 w := fun w => by
    cases hq : Try.prog.info? 77 with
    | none => have h := Try.infoPieces; rw [hq] at h; simp at h
    | some i => have h := Try.infoPieces; rw [hq] at h; simp at h; simp [sizeOf, typeInfo, hq, h.2]
  have hzv := Try.zeroPieces
  refine (callsIn_wide (n := 3)).1 ?_
  refine callsIn_of_wp_marks Try.func29 rfl trivial ?_ rfl
  simp only [Try.ntmps29, List.size_toArray, List.length_cons, List.length_nil, Nat.reduceAdd, Nat.reduceSub, Array.replicate_succ, Array.replicate_zero, List.push_toArray, List.append_toArray, List.nil_append, List.cons_append]
  gi_wp2_with (first
    | (refine ⟨trivial, ?_⟩; gi_at_call 63; refine (callsIn_wide.2 (areDigits_true t _ (by omega) hdig)).mono ?_; rintro e w' ⟨rfl, rfl⟩)
    | (refine ⟨trivial, ?_⟩; gi_at_call 64; refine (callsIn_wide.2 (split_any t _ t6 hmem)).mono ?_; rintro e w2 ⟨ps, rfl, ⟨p1, p2, p3⟩, hb2⟩; have hcs : ((ps ++ List.replicate (275 - ps.length) 0).map fun x : Nat => Value.int .u32 (x : Int)).toArray.size = 275 := (by simp; omega); have hst := run_storeCells_new (P := Try.prog) w2 77 zero275 ((ps ++ List.replicate (275 - ps.length) 0).map fun x : Nat => Value.int .u32 (x : Int)).toArray (by rw [hcs]; kernel_rfl) (by rw [hcs]; rfl) (rowP_oneCell _); have hsl := slice_pieces w2.heap.size ps.length p1; generalize hcd : ((ps ++ List.replicate (275 - ps.length) 0).map fun x : Nat => Value.int .u32 (x : Int)).toArray = cs at *; have HCS : Hid (((ps ++ List.replicate (275 - ps.length) 0).map fun x : Nat => Value.int .u32 (x : Int)).toArray = cs) := hcd; clear hcd)
    | (refine ⟨trivial, ?_⟩; gi_at_call 61; refine (callsIn_wide.2 (back_any _ _ _ _)).mono ?_; rintro e w' ⟨rfl, rfl⟩)
    | fail)
  have HP3 : Hid (pval ps = dn (nums t)) := p3
  have hcs' := HCS.out
  have hrow0 : Row .u32 77 (w2.alloc (.cells cs 77)) w2.heap.size (ps ++ List.replicate (275 - ps.length) 0) := by
    show _ = _
    rw [hcs']
    exact World.alloc_heap_new w2 _
  have hAw : Below w.heap.size w (w2.alloc (.cells cs 77)) := (hb0.trans (hb2.mono hb0.size)).alloc (Nat.le_trans hb0.size hb2.size) _
  have hRA := (hR0.below hb2).below (below_alloc w2 (.cells cs 77))
  have hsA : (w2.alloc (.cells cs 77)).heap.size = w2.heap.size + 1 := by simp
  have hrw : w.heap.size < w2.heap.size := (hR0.below hb2).lt
  obtain ⟨r, hr⟩ : ∃ r, w2.heap.size = r := ⟨_, rfl⟩
  obtain ⟨wA, hwA⟩ : ∃ wA, w2.alloc (.cells cs 77) = wA := ⟨_, rfl⟩
  rw [hr] at hrow0 hsA hrw hsl
  rw [hwA] at hrow0 hAw hRA hsA
  rw [hr, hwA]
  clear p3 hcs' hzv a77 z77 hst hsl hb2 hR0 hb0 hr hwA hmem hdig hi t2 hcs
  clear w2
  have b8 := Boxed.new wA 22 (.slice none 0 0)
  have b9 := Boxed.new (wA.alloc (.cells #[.slice none 0 0] 22)) 22 (.slice (some ⟨r, 0, none⟩) ps.length 275)
  simp only [World.size_alloc, hsA] at b8 b9
  have hBel : Below (r + 1) wA ((wA.alloc (.cells #[.slice none 0 0] 22)).alloc (.cells #[.slice (some ⟨r, 0, none⟩) ps.length 275] 22)) := ((Below.refl _ wA).alloc (by omega) _).alloc (by simp; omega) _
  refine back_loop (S := Nat × List Nat × Value) (r + 1 + 1) r 0 ps.length 275 (some ⟨r, 0, none⟩) (by omega) rfl rfl (by omega) (fun s => s.1)
    (fun s W => (s.1 ≤ ps.length ∧ okw s.2.1 ∧ val s.2.1 = pval (ps.drop s.1) ∧ s.2.1.length ≤ ps.length - s.1) ∧ Words (r + 1 + 1 + 1) W s.2.2 s.2.1 ∧ Boxed W (r + 1) 22 s.2.2 ∧ Boxed W (r + 1 + 1) 22 (.slice (some ⟨r, 0, none⟩) ps.length 275) ∧ Below (r + 1) wA W)
    (fun _ _ => False)
    (OwnFrom.and (ownFrom_pure _ _) (OwnFrom.and (ownFrom_words _ _ (fun s : Nat × List Nat × Value => s.2.2) (fun s => s.2.1)) (OwnFrom.and (OwnFrom.box _ _ _ (fun s : Nat × List Nat × Value => s.2.2)) (OwnFrom.and (OwnFrom.box _ _ _ _) (ownFrom_below (by omega) (by simp; omega))))))
    (fun c => ownFrom_pure _ (fun _ => False))
    ?read (ps.length, [], .slice none 0 0) rfl ⟨⟨Nat.le_refl _, okw_nil, by simp [val, pval], by simp⟩, Words.nil _ _, b8.alloc _, b9, hBel⟩
    ?act ?assign ?body ?done ?stop
  case assign =>
    intro l i v W K hK
    gi_wp2
    exact hK
  case read =>
    rintro ⟨k, zs, v⟩ W ⟨⟨hk, _⟩, _, _, bx, hb⟩
    refine ⟨hk, bx.cell, fun h => ⟨rfl, (ps ++ List.replicate (275 - ps.length) 0)[k - 1]?.getD 0, ?_⟩⟩
    exact (hrow0.seg.below hb (by omega)) (k - 1) (by simp only at h hk; simp; omega)
  case body =>
    rintro l ⟨k, zs, v⟩ p W ⟨⟨hk, oz, hv, hlz⟩, hw, h8, h9, hb⟩ hpos e1 hcell
    simp only at hk oz hv hlz hw h8 hpos hcell
    cases k with
    | zero => exact absurd hpos (by simp)
    | succ k =>
      simp only [Nat.add_sub_cancel] at hcell ⊢
      have hc0 : W.cell? ⟨r, 0 + k, none⟩ = some (.int .u32 (((ps ++ List.replicate (275 - ps.length) 0)[k]?.getD 0 : Nat) : Int)) := (hrow0.seg.below hb (by omega)) k (by simp; omega)
      rw [List.getElem?_append_left (by omega)] at hc0
      obtain rfl : ps[k]?.getD 0 = p := by
        rw [hc0] at hcell
        injection hcell with hcell
        injection hcell with _ hcell
        omega
      have hpk : ps[k]?.getD 0 < 1000000000 := p2 _ (by rw [List.getElem?_eq_getElem (by omega)]; exact List.getElem_mem _)
      have HN : Hid (val zs * 1000000000 + ps[k]?.getD 0 = pval (ps.drop k)) := (by show _ = _; rw [pval_drop (show k < ps.length by omega), hv]; omega)
      obtain ⟨x, hx⟩ : ∃ x, ps[k]?.getD 0 = x := ⟨_, rfl⟩
      rw [hx] at hpk HN ⊢
      obtain ⟨a, c, rfl⟩ := hw.form
      have k8 := h8.cell
      have f8 := h8.frozen
      have hBW : r + 1 + 1 + 1 ≤ W.heap.size := h9.lt
      have hma := mulAdd_any (r + 1 + 1 + 1) a c zs x W hw oz (by omega) hBW (by omega)
      clear hcell hc0 hx hv hw
      gi_wp2_with (refine ⟨trivial, ?_⟩; gi_at_call 65; refine (CallsIn.inRound l (callsIn_wide.2 hma)).mono ?_; rintro e w' ⟨v', zs', rfl, hw', oz', ez', lz', hb5, hko⟩; obtain ⟨a', c', rfl⟩ := hw'.form; have k8' : Boxed w' (r + 1) 22 (.slice a zs.length c) := (hb5.block _ (by omega)).trans h8; have k9' : Boxed w' (r + 1 + 1) 22 (.slice (some ⟨r, 0, none⟩) ps.length 275) := (hb5.block _ (by omega)).trans h9; have k8c := k8'.cell; have k8f := k8'.frozen)
      refine ⟨(hko.from _).trans ((KeepsOthers.setCell _ _ _).from _), (k, zs', .slice a' zs'.length c'), rfl, ⟨by simp only; omega, oz', by simp only; rw [ez', HN.out], by simp only; omega⟩, ?_, k8'.set _, k9'.other (by omega) _, ?_⟩
      · exact ownsRow_setCell_below hw' (by simp) _
      · exact (hb.trans (hb5.mono (by omega))).setCell (p := ⟨r + 1, 0, none⟩) (by simp) _
  case done =>
    rintro D ⟨k, zs, v⟩ W hD hk0 ⟨⟨_, oz, hv, hlz⟩, hw, h8, h9, hb⟩ hK
    simp only at hk0 oz hv hlz hw h8
    subst hk0
    obtain ⟨a, c, rfl⟩ := hw.form
    have k8 := h8.cell
    have hRW : Box2 W w.heap.size false none 0 0 := hRA.lower hb (by omega)
    have hBw : Below w.heap.size w W := hAw.trans (hb.mono (by omega))
    have HE : Hid (val zs = dn (nums t)) := (by show _ = _; rw [hv, List.drop_zero]; exact HP3.out)
    have hck := checked_any true a zs.length c _ zs W (hw.ow.mono (B' := w.heap.size) (by omega)) oz (by omega)
    clear hv hw h8 h9
    gi_wp2_with (refine ⟨trivial, ?_⟩; gi_at_call 47; refine (callsIn_wide.2 hck).mono ?_; rintro e w5 ⟨v5, k5, rfl, hres, hb5⟩; obtain ⟨n5, a5, l5, c5, rfl⟩ := hres.form; have hR5 := hRW.below hb5; have s0 := hR5.c0; have s1 := hR5.c1; have sf0 := hR5.f0; have sf1 := hR5.f1)
    have hfin := hR5.put n5 a5 l5 c5
    have hg0 := hfin.c0
    have hg1 := hfin.c1
    have hBw5 : Below w.heap.size w w5 := hBw.trans (hb5.mono hBw.size)
    have hK5 : w5.heap[D]? = some (.deferred (some [])) := (hb5.block D (Array.getElem?_eq_some_iff.1 hK).1).trans hK
    have hKp : (put2 w5 w.heap.size n5 (.slice a5 l5 c5)).heap[D]? = some (.deferred (some [])) := ((KeepsOthers.setCell _ _ _).trans (KeepsOthers.setCell _ _ _)).same D _ hK5 rfl
    have hg0' := cell_kept hg0 (grownBy_putObj' _ D (.deferred none)) (fun r e => by cases e; exact ⟨_, hKp, rfl⟩)
    have hg1' := cell_kept hg1 (grownBy_putObj' _ D (.deferred none)) (fun r e => by cases e; exact ⟨_, hKp, rfl⟩)
    have hres' := hres.put hR5 n5 (.slice a5 l5 c5)
    have hD' : w.heap.size ≤ D := by simp at hD; omega
    have hbD := (below_put2 (N := w.heap.size) hBw5 (Nat.le_refl _) n5 (.slice a5 l5 c5)).trans (belowK_b (w := w) (Nat.le_refl _) _ D _ (.deferred none) hD' hKp rfl rfl)
    have hres2 := hres'.putObj hKp
    rw [HE.out] at hres2
    unfold put2 at hKp hg0' hg1' hbD hres2
    refine ⟨by simp, .inl ⟨_, _, rfl, run_takeDeferred hKp, ?_⟩⟩
    refine ⟨.tuple #[.agg #[.bool n5, .slice a5 l5 c5], .int .i64 k5], by simp [results, Try.f29, go_sem, hg0', hg1'], ⟨_, _, _, _, _, rfl, hres2, hbD⟩⟩
  case stop =>
    rintro D c W _ h _
    exact h.elim

/-- Parse: of any text that is not too long. -/
theorem parse_any (s : ByteArray) (w : World) (hs : s.size ≤ 6500) :
    Calls Try.prog 29 #[.string s] w fun e w' => ∃ neg a n cap k, e = .returned (.tuple #[.agg #[.bool neg, .slice a n cap], .int .i64 k]) ∧ ParseRes w.heap.size w' (.agg #[.bool neg, .slice a n cap]) k (nums s) ∧ Below w.heap.size w w' := by
  by_cases hn : Num (nums s)
  · have hne : (dg (nums s)).length ≠ 0 := fun e => hn.1.1 (List.eq_nil_of_length_eq_zero e)
    have h0 : 0 < s.size := by
      rw [← nums_length]
      unfold dg at hne
      split at hne
      · rw [List.length_drop] at hne; omega
      · omega
    by_cases hb : 2467 < (dg (nums s)).length
    · refine (parse_long s w hs hn hb).mono ?_
      rintro e w' ⟨rfl, hbe⟩
      refine ⟨_, _, _, _, _, rfl, Or.inr ⟨hn, Or.inr ⟨?_, rfl, rfl⟩⟩, hbe⟩
      unfold pz
      rw [zv_abs]
      exact Nat.le_trans (big_le _ (by unfold digitCap; omega)) (dn_ge hn.1 (by omega))
    · by_cases hc : (nums s)[0]?.getD 0 = 45
      · refine (parse_minus s w hs hn (by omega) h0 hc).mono ?_
        rintro e w' ⟨n, a, l, c, k, rfl, hr, hbe⟩
        refine ⟨_, _, _, _, _, rfl, Or.inr ⟨hn, ?_⟩, hbe⟩
        unfold pz
        rw [sg_true hc]
        exact hr
      · refine (parse_plain s w hs hn (by omega) h0 hc).mono ?_
        rintro e w' ⟨n, a, l, c, k, rfl, hr, hbe⟩
        refine ⟨_, _, _, _, _, rfl, Or.inr ⟨hn, ?_⟩, hbe⟩
        unfold pz
        rw [sg_false hc]
        exact hr
  · refine (parse_not s w hs hn).mono ?_
    rintro e w' ⟨rfl, hbe⟩
    exact ⟨_, _, _, _, _, rfl, Or.inl ⟨hn, rfl, rfl⟩, hbe⟩
end Go.Proofs.Yteplmnnpmekngaa
