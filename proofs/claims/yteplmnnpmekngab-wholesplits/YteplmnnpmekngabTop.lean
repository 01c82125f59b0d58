/-
  Proved here: for every two Ints, in whatever form and memory, and every int, WholeSplits returns true and leaves its arguments as they were. No condition beside the form's own.
  What areDigits of package whole does.
  What split of package whole does: digits into pieces of nine.
  What Parse of package whole does.
  What Parse of package whole does where it reads a number.
  The reference: Parse.
  What divideWords of package whole does.
  What Divide of package whole does.
  How an Int that came in as data is opened.
  WholeSplits, walked.
-/
import Derived.Test.YteplmnnpmekngabMulAdd
import Derived.Deep.WholeRow
import Derived.Test.YteplmnnpmekngabDlLong
import Derived.Test.YteplmnnpmekngabDivZ
import Derived.ProofKit
import Derived.OpenShut
import Derived.ShutString
import Derived.ChangeOld
import Derived.Below
import Derived.Lib.SmallJoins
import Derived.Test.YteplmnnpmekngabAwake
import Derived.Deep.CutRange
import Derived.Test.YteplmnnpmekngabHeld
import Derived.Test.YteplmnnpmekngabRests
namespace Go.Proofs.Yteplmnnpmekngab
open Go.RowKit

/-- A string's bytes, as numbers. -/
def nums (s : ByteArray) : List Nat := s.data.toList.map UInt8.toNat
theorem nums_length (s : ByteArray) : (nums s).length = s.size := by unfold nums; rw [List.length_map, Array.length_toList]; rfl
theorem nums_lt (s : ByteArray) (i : Nat) : (nums s)[i]?.getD 0 < 256 := by
  unfold nums
  rw [List.getElem?_map]
  cases s.data.toList[i]? with
  | none => simp
  | some u => simp; exact u.toNat_lt
theorem index_str (s : ByteArray) (i : Nat) (h : i < s.size) (w : World) : (Instr.index 9 (.string s) (.int .i64 (i : Int))).run Try.prog w = .ok (.int .u8 (((nums s)[i]?.getD 0 : Nat) : Int)) w := by
  rw [run_index_string w 9 s .i64 (i : Int) (by kernel_rfl), dif_pos ⟨by omega, by omega⟩]
  have e : (nums s)[i]?.getD 0 = (s[i]'h).toNat := by
    unfold nums
    rw [List.getElem?_map, List.getElem?_eq_getElem (by rw [Array.length_toList]; exact h)]
    rfl
  rw [e]
  rfl

/-- The digits of a number that is not below 0, without noughts ahead. -/
def isDig (bs : List Nat) : Prop := bs ≠ [] ∧ ¬ (bs[0]?.getD 0 = 48 ∧ 1 < bs.length) ∧ ∀ j, j < bs.length → 48 ≤ bs[j]?.getD 0 ∧ bs[j]?.getD 0 ≤ 57

theorem str_empty (s : ByteArray) : s.toList.isEmpty = decide (s.size = 0) := by
  have h : s.toList.length = s.size := by rw [ByteArray.toList_eq, Array.length_toList]; rfl
  cases hl : s.toList with
  | nil => rw [hl] at h; simp only [List.length_nil] at h; simp [← h]
  | cons u us => rw [hl] at h; simp only [List.length_cons] at h; simp only [List.isEmpty_cons]; symm; simp only [decide_eq_false_iff_not]; omega

end Go.Proofs.Yteplmnnpmekngab
namespace Go.Proofs.Yteplmnnpmekngab
open Go.RowKit

/-- The number that digits write, the highest first. -/
def dn (bs : List Nat) : Nat := dval bs.reverse
theorem dn_append (A B : List Nat) : dn (A ++ B) = dn B + 10 ^ B.length * dn A := by
  unfold dn
  rw [List.reverse_append, dval_append, List.length_reverse]
theorem dn_snoc (A : List Nat) (b : Nat) : dn (A ++ [b]) = (b - 48) + 10 * dn A := by
  rw [dn_append]; simp [dn, dval]
theorem dn_lt {A : List Nat} (h : ∀ d ∈ A, 48 ≤ d ∧ d ≤ 57) : dn A < 10 ^ A.length := by
  unfold dn
  rw [← List.length_reverse]
  have h' : ∀ d ∈ A.reverse, 48 ≤ d ∧ d ≤ 57 := fun d hd => h d (by simpa using hd)
  generalize A.reverse = R at h'
  induction R with
  | nil => simp [dval]
  | cons d R ih =>
    have h1 := h' d (List.mem_cons_self ..)
    have h2 := ih (fun e he => h' e (List.mem_cons_of_mem _ he))
    simp only [dval, List.length_cons, Nat.pow_succ]
    omega
/-- The digits from a on, up to b. -/
def cutD (bs : List Nat) (a b : Nat) : List Nat := (bs.take b).drop a
theorem cutD_snoc (bs : List Nat) (a b : Nat) (h : b < bs.length) (hab : a ≤ b) : cutD bs a (b + 1) = cutD bs a b ++ [bs[b]?.getD 0] := by
  unfold cutD
  rw [take_succ_get bs b h, List.drop_append_of_le_length (by rw [List.length_take]; omega)]
theorem cutD_length (bs : List Nat) (a b : Nat) (h : b ≤ bs.length) : (cutD bs a b).length = b - a := by
  unfold cutD; rw [List.length_drop, List.length_take]; omega
theorem cutD_join (bs : List Nat) (a b : Nat) (hab : a ≤ b) : bs.take b = bs.take a ++ cutD bs a b := by
  unfold cutD
  conv => lhs; rw [← List.take_append_drop a (bs.take b)]
  rw [List.take_take, Nat.min_eq_left hab]
theorem cutD_mem {bs : List Nat} {a b : Nat} (h : ∀ d ∈ bs, 48 ≤ d ∧ d ≤ 57) : ∀ d ∈ cutD bs a b, 48 ≤ d ∧ d ≤ 57 := fun d hd => h d (List.mem_of_mem_take (List.mem_of_mem_drop hd))
/-- One piece more. -/
theorem piece_more {bs ps : List Nat} {j : Nat} (hj : ps.length = j) (hL : 9 * j < bs.length) (h : pval ps + 10 ^ (9 * j) * dn (bs.take (bs.length - 9 * j)) = dn bs) :
    pval (ps ++ [dn (cutD bs (bs.length - 9 * j - 9) (bs.length - 9 * j))]) + 10 ^ (9 * (j + 1)) * dn (bs.take (bs.length - 9 * (j + 1))) = dn bs := by
  rw [pval_snoc, hj, pow9, ← h]
  have e := cutD_join bs (bs.length - 9 * j - 9) (bs.length - 9 * j) (by omega)
  have e1 : dn (bs.take (bs.length - 9 * j)) = dn (cutD bs (bs.length - 9 * j - 9) (bs.length - 9 * j)) + 10 ^ (cutD bs (bs.length - 9 * j - 9) (bs.length - 9 * j)).length * dn (bs.take (bs.length - 9 * j - 9)) := by
    rw [e, dn_append]
  rw [e1, show bs.length - 9 * (j + 1) = bs.length - 9 * j - 9 by omega, cutD_length _ _ _ (by omega)]
  by_cases h9 : 9 ≤ bs.length - 9 * j
  · rw [show bs.length - 9 * j - (bs.length - 9 * j - 9) = 9 by omega, show 9 * (j + 1) = 9 * j + 9 by omega, Nat.mul_add, Nat.pow_add, Nat.mul_assoc]
    omega
  · rw [show bs.length - 9 * j - 9 = 0 by omega, List.take_zero, show dn [] = 0 from rfl]
    simp
theorem rowP_oneCell (xs : List Nat) : (xs.map fun x : Nat => Value.int .u32 (x : Int)).toArray.all (·.oneCell') = true := by
  rw [Array.all_eq_true_iff_forall_mem]
  intro v hv
  exact words_one xs .u32 v (by simpa using hv)

theorem below_setRow {B g : Nat} (hg : B ≤ g) (w : World) (cs : Array Value) : Below B w (w.setRow g cs) := by
  refine ⟨rfl, rfl, rfl, by simp [World.setRow], fun k hk => ?_⟩
  show (w.heap.modify g _)[k]? = _
  rw [Array.getElem?_modify, if_neg (by omega)]

end Go.Proofs.Yteplmnnpmekngab
namespace Go.Proofs.Yteplmnnpmekngab
open Go.RowKit Go.Shelf
attribute [local go_sem] Oper.semAt_some

/-- A text's sign, its digits, whether it writes a number, and which. -/
def sg (bs : List Nat) : Bool := decide (bs[0]? = some 45)
def dg (bs : List Nat) : List Nat := if sg bs then bs.drop 1 else bs
def Num (bs : List Nat) : Prop := isDig (dg bs) ∧ ¬ (sg bs = true ∧ dg bs = [48])
def pz (bs : List Nat) : Int := zv (sg bs) (dn (dg bs))
def ParseRes (B : Nat) (w : World) (v : Value) (k : Int) (bs : List Nat) : Prop := (¬ Num bs ∧ k = 4 ∧ v = .agg #[.bool false, .slice none 0 0]) ∨ (Num bs ∧ Res B w v k (pz bs))

theorem nums_extract (s : ByteArray) : nums (s.extract 1 s.size) = (nums s).drop 1 := by
  unfold nums
  rw [ByteArray.data_extract, Array.toList_extract, List.extract_eq_take_drop, List.take_of_length_le (by rw [List.length_drop, Array.length_toList]; exact Nat.le_refl _), List.map_drop]
theorem big_digits : pw 256 ≤ 10 ^ 2467 := by decide +kernel
theorem dn_ge {bs : List Nat} (h : isDig bs) (hl : 1 < bs.length) : 10 ^ (bs.length - 1) ≤ dn bs := by
  obtain ⟨h0, h1, h2⟩ := h
  cases bs with
  | nil => simp at hl
  | cons b bs =>
    have hb := h2 0 (by simp)
    simp only [List.getElem?_cons_zero, Option.getD_some] at hb h1
    have e : dn (b :: bs) = dn bs + 10 ^ bs.length * (b - 48) := by
      have := dn_append [b] bs
      simpa [dn, dval] using this
    rw [e, List.length_cons, Nat.add_sub_cancel]
    have : 10 ^ bs.length * 1 ≤ 10 ^ bs.length * (b - 48) := Nat.mul_le_mul_left _ (by have : ¬ b = 48 := fun e => h1 ⟨e, hl⟩; omega)
    omega
theorem isDig_mem {bs : List Nat} (h : isDig bs) : ∀ d ∈ bs, 48 ≤ d ∧ d ≤ 57 := fun d hd => by
  obtain ⟨i, hi, rfl⟩ := List.getElem_of_mem hd
  have := h.2.2 i hi
  rwa [List.getElem?_eq_getElem hi] at this
theorem sg_false {bs : List Nat} (h : bs[0]?.getD 0 ≠ 45) : sg bs = false := by
  unfold sg
  simp only [decide_eq_false_iff_not]
  intro e
  rw [e] at h
  exact h rfl
theorem sg_true {bs : List Nat} (h : bs[0]?.getD 0 = 45) : sg bs = true := by
  unfold sg
  simp only [decide_eq_true_eq]
  cases he : bs[0]? with
  | none => rw [he] at h; simp at h
  | some v => rw [he] at h; simp at h; rw [h]
theorem nums_zero {t : ByteArray} (h : nums t = [48]) : t = ⟨#[48]⟩ := by
  cases t with
  | mk d =>
    unfold nums at h
    cases hd : d.toList with
    | nil => rw [hd] at h; simp at h
    | cons u us =>
      rw [hd] at h
      simp only [List.map_cons, List.cons.injEq, List.map_eq_nil_iff] at h
      obtain ⟨h1, h2⟩ := h
      subst h2
      have hu : u = 48 := UInt8.toNat_inj.1 h1
      subst hu
      congr 1
      exact Array.toList_inj.1 hd

theorem not_zero {t : ByteArray} (h : nums t ≠ [48]) : (t.toList == [48]) = false := by
  rw [ByteArray.toList_eq]
  simp only [beq_eq_false_iff_ne, ne_eq]
  intro e
  apply h
  unfold nums
  rw [e]
  rfl

end Go.Proofs.Yteplmnnpmekngab
namespace Go.Proofs.Yteplmnnpmekngab
open Go.RowKit Go.Shelf
attribute [local go_sem] Oper.semAt_some

theorem ownFrom_words {β : Type} (B C : Nat) (f : β → Value) (g : β → List Nat) : OwnFrom C (fun s W => Words B W (f s) (g s)) := by
  intro s X Y row hs hg hr
  refine World.ownsRow.kept hs hg ?_
  cases hv : (f s).ownBlock with
  | none => exact Or.inl rfl
  | some k =>
    right
    intro e
    obtain ⟨c, fz, hc⟩ := Go.Lib.ownsRow_kind hs k hv
    obtain ⟨_, o, ho, hno⟩ := hr k e.symm
    rw [hc] at ho
    cases ho
    simp [Obj.isCells] at hno
theorem pval_drop {ps : List Nat} {k : Nat} (h : k < ps.length) : pval (ps.drop k) = ps[k]?.getD 0 + 1000000000 * pval (ps.drop (k + 1)) := by
  rw [List.drop_eq_getElem_cons h, List.getElem?_eq_getElem h]; rfl
theorem Ow.putObj {B : Nat} {w : World} {v : Value} {xs : List Nat} (h : Ow .u32 B w v xs) {D : Nat} (hK : w.heap[D]? = some (.deferred (some []))) : Ow .u32 B (w.putObj D (.deferred none)) v xs := by
  obtain ⟨a, c, e, hc, hx⟩ := h
  refine ⟨a, c, e, hc, fun h0 => ?_⟩
  obtain ⟨g, off, ea, hB, hs, hf⟩ := hx h0
  have hne : g ≠ D := fun e2 => by
    subst e2
    have := hs 0 (List.length_pos_iff.2 h0)
    simp [World.cell?, hK] at this
  exact ⟨g, off, ea, hB, fun j hj => (World.cell?_of_block (a := ⟨g, off + j, none⟩) (World.putObj_heap_other (by omega))).trans (hs j hj), fun j hj => (World.frozen?_of_block (a := ⟨g, off + j, none⟩) (World.putObj_heap_other (by omega))).trans (hf j hj)⟩
theorem Res.putObj {B : Nat} {w : World} {v : Value} {k z : Int} (h : Res B w v k z) {D : Nat} (hK : w.heap[D]? = some (.deferred (some []))) : Res B (w.putObj D (.deferred none)) v k z := by
  rcases h with ⟨h1, h2, neg, a, n, cap, xs, e, ho, h3⟩ | h
  · exact Or.inl ⟨h1, h2, neg, a, n, cap, xs, e, ho.putObj hK, h3⟩
  · exact Or.inr h
def digitCap : Nat := 2467
theorem big_cap : pw 256 ≤ 10 ^ digitCap := by decide +kernel
theorem le_pow_trans (a c n : Nat) (h1 : a ≤ 10 ^ c) (h2 : c ≤ n) : a ≤ 10 ^ n := Nat.le_trans h1 (Nat.pow_le_pow_right (Nat.succ_pos 9) h2)
theorem big_le (n : Nat) (h : digitCap ≤ n) : pw 256 ≤ 10 ^ n := le_pow_trans (pw 256) digitCap n big_cap h
theorem Words.form {B : Nat} {w : World} {v : Value} {ts : List Nat} (h : Words B w v ts) : ∃ a c, v = .slice a ts.length c := h.ow.form

end Go.Proofs.Yteplmnnpmekngab
namespace Go.Proofs.Yteplmnnpmekngab
open Go.RowKit Go.Shelf

theorem sb_start (A : World) : Below A.heap.size A A.drew := (Below.refl _ A).drew
theorem sb_alloc {A W : World} (h : Below A.heap.size A W) (o : Obj) : Below A.heap.size A (W.alloc o) := h.alloc h.size _
theorem sb_call {A W W' : World} (h : Below A.heap.size A W) (hb : Below W.heap.size W W') : Below A.heap.size A W' := h.trans (hb.mono h.size)
theorem sl_one (V : World) (x : Nat) (t : TypeId) : Sl .u32 (V.alloc (.cells #[.int .u32 (x : Int)] t)) (.slice (some ⟨V.heap.size, 0, none⟩) 1 1) [x] := by
  refine ⟨_, _, rfl, by simp, fun _ => ⟨V.heap.size, 0, rfl, fun j hj => ?_⟩⟩
  obtain rfl : j = 0 := by simpa using hj
  have := new_one V (.int .u32 (x : Int)) t 0 _ rfl
  rwa [WideShapes.add_plain] at this
theorem okw_one {x : Nat} (h : x < 4294967296) : okw [x] := okw_cons.2 ⟨h, okw_nil⟩
theorem dn_take_succ {bs : List Nat} {k : Nat} (h : k < bs.length) : dn (bs.take (k + 1)) = dn (bs.take k) * 10 + (bs[k]?.getD 0 - 48) := by
  rw [take_succ_get bs k h, dn_snoc]; omega
theorem ten_pow_pos (n : Nat) : 1 ≤ 10 ^ n := Nat.pow_pos (by omega)
theorem dn_mono {bs : List Nat} {k : Nat} : dn (bs.take k) ≤ dn bs := by
  have e := dn_append (bs.take k) (bs.drop k)
  rw [List.take_append_drop] at e
  rw [e]
  have : 1 * dn (bs.take k) ≤ 10 ^ (bs.drop k).length * dn (bs.take k) := Nat.mul_le_mul_right _ (ten_pow_pos _)
  omega

end Go.Proofs.Yteplmnnpmekngab
namespace Go.Proofs.Yteplmnnpmekngab
open Go.RowKit

theorem NumIs.nil (B : Nat) (w : World) : NumIs B w (.slice none 0 0) 0 := ⟨[], Ow_nil _ _ _ _ _, okw_nil, Or.inl rfl, rfl⟩

set_option maxRecDepth 100000 in
set_option maxHeartbeats 2000000 in
theorem divideWords_any (ax ay : Option Addr) (nx cx ny cy : Nat) (xs ys : List Nat) (w : World) (hx : Sl .u32 w (.slice ax nx cx) xs) (hy : Sl .u32 w (.slice ay ny cy) ys) (ox : okw xs) (oy : okw ys) (tx : Tr xs) (ty : Tr ys) (bx : xs.length ≤ 1000) (by_ : ys.length ≤ 1000) (hpos : 0 < val ys) :
    Calls Try.prog 22 #[.slice ax nx cx, .slice ay ny cy] w fun e w' => ∃ a1 l1 c1 a2 l2 c2, e = .returned (.tuple #[.slice a1 l1 c1, .slice a2 l2 c2]) ∧ NumIs w.heap.size w' (.slice a1 l1 c1) (val xs / val ys) ∧ NumIs w.heap.size w' (.slice a2 l2 c2) (val xs % val ys) ∧ Below w.heap.size w w' := by
  obtain rfl := hx.len
  have HNy : Hid (ny = ys.length) := hy.len
  go_enter Try.func22, Try.ntmps22
  go_wp2_with fail
  refine (cmpw_any ax ay _ cx ny cy xs ys w hx hy ox oy tx ty (by omega)).mono ?_
  rintro e w1 ⟨rfl, hb1⟩
  have hx1 := hx.below hb1
  have hy1 := hy.below hb1
  by_cases hlt : val xs < val ys
  · have e1 : cmpN (val xs) (val ys) = -1 := by unfold cmpN; rw [if_pos hlt]
    rw [e1]
    clear e1
    have HQ : Hid (val xs / val ys = 0 ∧ val xs % val ys = val xs) := ⟨Nat.div_eq_of_lt hlt, Nat.mod_eq_of_lt hlt⟩
    clear hlt
    go_wp2_with fail
    refine (clone_any ax _ cx xs w1 hx1 (by omega)).mono ?_
    rintro e w2 ⟨a', c', rfl, hO, hb2⟩
    have hB : Below w.heap.size w w2 := hb1.trans (hb2.mono hb1.size)
    have hs1 := hb1.size
    go_wp2
    refine bodyPost_ret (v := .tuple #[.slice none 0 0, .slice a' xs.length c']) ?_ rfl ⟨_, _, _, _, _, _, rfl, by rw [HQ.out.1]; exact NumIs.nil _ _, by rw [HQ.out.2]; exact ⟨xs, hO.mono hs1, ox, tx, rfl⟩, hB⟩
    simp [results, Try.f22, go_sem]
  · have hge : val ys ≤ val xs := by omega
    have e1 : ¬ cmpN (val xs) (val ys) < 0 := by unfold cmpN; rw [if_neg hlt]; split <;> omega
    obtain ⟨c, hc⟩ : ∃ c, cmpN (val xs) (val ys) = c := ⟨_, rfl⟩
    rw [hc] at e1 ⊢
    clear hc hlt
    have hy0 : ys ≠ [] := fun h => by rw [h] at hpos; simp [val] at hpos
    have hx0 : xs ≠ [] := fun h => by rw [h] at hge; simp [val] at hge; omega
    by_cases h1 : ys.length = 1
    · obtain ⟨y, rfl⟩ : ∃ y, ys = [y] := List.length_eq_one_iff.1 h1
      have hyv : val [y] = y := by simp [val]
      rw [hyv] at hpos
      have HV : Hid (val [y] = y) := hyv
      have hyb : y < 4294967296 := (okw_cons.1 oy).1
      obtain rfl : ny = 1 := HNy.out
      obtain ⟨b2, o2, hp2, s2⟩ := hy1.place
      obtain ⟨rfl, hb2lt⟩ := hp2 hy0
      have cy0 := s2 0 (by simp)
      simp only [Nat.add_zero, List.getElem?_cons_zero, Option.getD_some] at cy0
      clear HNy h1 hyv hge hy hp2
      go_wp2_with fail
      refine (clone_any ax _ cx xs w1 hx1 (by omega)).mono ?_
      rintro e w2 ⟨a', c', rfl, hO, hb2⟩
      have hB2 : Below w.heap.size w w2 := hb1.trans (hb2.mono hb1.size)
      have cy2 : w2.cell? ⟨b2, o2, none⟩ = some (.int .u32 (y : Int)) := (hb2.cell (p := ⟨b2, o2, none⟩) hb2lt).trans cy0
      have hs1 := hb1.size
      obtain ⟨g, off, hp, hge, sg, fr⟩ := hO.place
      obtain ⟨rfl, hg⟩ := hp hx0
      have hcap : xs.length ≤ c' := by
        obtain ⟨_, _, e, h, _⟩ := hO
        injection e with _ _ e3
        omega
      clear hp cy0 hx1 hy1 hO hx
      go_wp2_with fail
      refine (divideBy_some g off xs.length c' y _ xs w2 (by omega) rfl (fun _ => rfl) hg sg fr ox hpos hyb).mono ?_
      rintro e w3 ⟨rfl, ⟨qs, lq, oq, vq, sq⟩, ht⟩
      have hgB : w.heap.size ≤ g := Nat.le_trans hs1 hge
      have hB3 : Below w.heap.size w w3 := hB2.trans (ht.below hgB hB2.size)
      have f3 : Free w3 g off qs.length := fun j hj => (ht.frozen _).trans (fr j (by omega))
      have hm : val xs % y < y := Nat.mod_lt _ hpos
      obtain ⟨r, hr⟩ : ∃ r, val xs % y = r := ⟨_, rfl⟩
      rw [hr] at hm ⊢
      have HR : Hid (val xs % y = r) := hr
      have O3 : Ow .u32 w.heap.size w3 (.slice (some ⟨g, off, none⟩) xs.length c') qs := ⟨_, _, by rw [lq], by omega, fun _ => ⟨g, off, rfl, hgB, sq, f3⟩⟩
      clear hr ht sq f3 hB2 sg fr hge cy2
      have HLq : Hid (qs.length = xs.length) := lq
      clear lq
      go_wp2_with fail
      refine (trim_any _ _ _ qs w3 O3.sl (by rw [HLq.out]; omega)).mono ?_
      rintro e w4 ⟨rfl, rfl⟩
      go_wp2_with fail
      have sR := sl_one w4 r 52
      refine (trim_any _ 1 1 [r] _ sR (by simp)).mono ?_
      rintro e w5 ⟨rfl, rfl⟩
      have ba := below_alloc w4 (.cells #[.int .u32 (r : Int)] 52)
      have OR : Ow .u32 w.heap.size (w4.alloc (.cells #[.int .u32 (r : Int)] 52)) (.slice (some ⟨w4.heap.size, 0, none⟩) 1 1) [r] := by
        obtain ⟨_, _, e, h2, h3⟩ := sR
        refine ⟨_, _, rfl, by simp, fun hn => ?_⟩
        obtain ⟨b, o, e4, h5⟩ := h3 hn
        cases e
        cases e4
        exact ⟨_, _, rfl, hB3.size, h5, fun j _ => World.frozen?_alloc_at _ _ _ _ rfl⟩
      have F1 := (O3.below ba).trimmed
      have F2 := OR.trimmed
      have HF : Hid (NumIs w.heap.size (w4.alloc (.cells #[.int .u32 (r : Int)] 52)) (.slice (some ⟨g, off, none⟩) (tl qs qs.length) c') (val xs / y) ∧ NumIs w.heap.size (w4.alloc (.cells #[.int .u32 (r : Int)] 52)) (.slice (some ⟨w4.heap.size, 0, none⟩) (tl [r] [r].length) 1) r ∧ Below w.heap.size w (w4.alloc (.cells #[.int .u32 (r : Int)] 52))) :=
        ⟨⟨_, F1, okw_trimL oq, Tr_trimL _, by rw [val_trimL]; exact vq⟩, ⟨_, F2, okw_trimL (okw_cons.2 ⟨by omega, okw_nil⟩), Tr_trimL _, by rw [val_trimL]; simp [val]⟩, hB3.trans (ba.mono hB3.size)⟩
      clear F1 F2 OR O3 sR ba
      go_wp2
      refine bodyPost_ret (v := .tuple #[.slice (some ⟨g, off, none⟩) (tl qs qs.length) c', .slice (some ⟨w4.heap.size, 0, none⟩) (tl [r] [r].length) 1]) ?_ rfl ⟨_, _, _, _, _, _, rfl, by rw [HV.out]; exact HF.out.1, by rw [HV.out, HR.out]; exact HF.out.2.1, HF.out.2.2⟩
      simp [results, Try.f22, go_sem]
    · have hl2 : 0 < ys.length := List.length_pos_iff.2 hy0
      obtain ⟨m, hm⟩ : ∃ m, ys.length = m + 2 := ⟨ys.length - 2, by omega⟩
      have hty : ys[m + 1]?.getD 0 ≠ 0 := by
        rcases ty with h | h
        · omega
        · rwa [hm] at h
      have hxy : ys.length ≤ xs.length := Tr_len_of_le ty ox hge
      have LA := long_any ax ay _ cx ny cy m xs ys w1 hx1 hy1 ox oy bx hm hxy hty
      have n2 : ¬ (ny : Int) = 1 := by have := HNy.out; omega
      have n1 : ((ny : Int) == 1) = false := by simpa using n2
      clear h1 hl2 hm hty hxy hge
      go_wp2_with fail
      refine LA.mono ?_
      rintro e w2 ⟨a1, l1, c1, a2, l2, c2, Q, R, rfl, o1, o2, k1, k2, t1, t2, v1, v2, hb2⟩
      have hB : Below w.heap.size w w2 := hb1.trans (hb2.mono hb1.size)
      have hs1 := hb1.size
      have HF : Hid (NumIs w.heap.size w2 (.slice a1 l1 c1) (val xs / val ys) ∧ NumIs w.heap.size w2 (.slice a2 l2 c2) (val xs % val ys)) := ⟨⟨Q, o1.mono hs1, k1, t1, v1⟩, ⟨R, o2.mono hs1, k2, t2, v2⟩⟩
      clear LA o1 o2 k1 k2 t1 t2 v1 v2
      go_wp2
      refine bodyPost_ret (v := .tuple #[.slice a1 l1 c1, .slice a2 l2 c2]) ?_ rfl ⟨_, _, _, _, _, _, rfl, HF.out.1, HF.out.2, hB⟩
      simp [results, Try.f22, go_sem]
end Go.Proofs.Yteplmnnpmekngab
namespace Go.Proofs.Yteplmnnpmekngab
open Go.RowKit

/-- A division's answer: refused, or a quotient that is rounded down and what is left. -/
def DivRes (B : Nat) (w : World) (v1 v2 : Value) (k x y : Int) : Prop :=
  ((pw 256 ≤ x.natAbs ∨ pw 256 ≤ y.natAbs) ∧ k = 3 ∧ v1 = .agg #[.bool false, .slice none 0 0] ∧ v2 = .agg #[.bool false, .slice none 0 0]) ∨
  ((x.natAbs < pw 256 ∧ y.natAbs < pw 256) ∧ y = 0 ∧ k = 2 ∧ v1 = .agg #[.bool false, .slice none 0 0] ∧ v2 = .agg #[.bool false, .slice none 0 0]) ∨
  ((x.natAbs < pw 256 ∧ y.natAbs < pw 256) ∧ y ≠ 0 ∧ k = 0 ∧ ∃ zq zr, IsDiv x y zq zr ∧ IntIs B w v1 zq ∧ IntIs B w v2 zr)
/-- The four boxes of Divide. -/
structure D4 (w W : World) (na nb : Bool) (ax ay : Option Addr) (nx cx ny cy : Nat) (qn : Bool) (qa : Option Addr) (ql qc : Nat) : Prop where
  hA : Box2 W w.heap.size na ax nx cx
  hB : Box2 W (w.heap.size + 1) nb ay ny cy
  hQ : Box2 W (w.heap.size + 2) qn qa ql qc
  hR : Box2 W (w.heap.size + 3) false none 0 0
  be : Below w.heap.size w W
theorem Box2.other {w : World} {N M : Nat} {neg : Bool} {a : Option Addr} {n cap : Nat} (h : Box2 w N neg a n cap) (hne : M ≠ N) (x : Bool) (s : Value) : Box2 (put2 w M x s) N neg a n cap :=
  (h.setOther (p := ⟨M, 0, none⟩) hne _).setOther (p := ⟨M, 1, none⟩) hne _
theorem D4.below {w W W' : World} {na nb : Bool} {ax ay : Option Addr} {nx cx ny cy : Nat} {qn : Bool} {qa : Option Addr} {ql qc : Nat} (h : D4 w W na nb ax ay nx cx ny cy qn qa ql qc) (hb : Below W.heap.size W W') : D4 w W' na nb ax ay nx cx ny cy qn qa ql qc :=
  ⟨h.hA.below hb, h.hB.below hb, h.hQ.below hb, h.hR.below hb, h.be.trans (hb.mono h.be.size)⟩
theorem D4.putQ {w W : World} {na nb : Bool} {ax ay : Option Addr} {nx cx ny cy : Nat} {qn : Bool} {qa : Option Addr} {ql qc : Nat} (h : D4 w W na nb ax ay nx cx ny cy qn qa ql qc) (n : Bool) (a : Option Addr) (l c : Nat) : D4 w (put2 W (w.heap.size + 2) n (.slice a l c)) na nb ax ay nx cx ny cy n a l c :=
  ⟨h.hA.other (by omega) _ _, h.hB.other (by omega) _ _, h.hQ.put n a l c, h.hR.other (by omega) _ _, below_put2 h.be (by omega) _ _⟩
theorem D4.new (w : World) (na nb : Bool) (ax ay : Option Addr) (nx cx ny cy : Nat) (t : TypeId) : D4 w ((((w.alloc (.cells #[.bool na, .slice ax nx cx] t)).alloc (.cells #[.bool nb, .slice ay ny cy] t)).alloc (.cells #[.bool false, .slice none 0 0] t)).alloc (.cells #[.bool false, .slice none 0 0] t)) na nb ax ay nx cx ny cy false none 0 0 := by
  have h1 := boxes2 w na nb ax ay nx cx ny cy t
  have h2 := boxes2 ((w.alloc (.cells #[.bool na, .slice ax nx cx] t)).alloc (.cells #[.bool nb, .slice ay ny cy] t)) false false none none 0 0 0 0 t
  have e : ((w.alloc (.cells #[.bool na, .slice ax nx cx] t)).alloc (.cells #[.bool nb, .slice ay ny cy] t)).heap.size = w.heap.size + 2 := by simp
  obtain ⟨a1, a2, a3⟩ := h1
  obtain ⟨b1, b2, b3⟩ := h2
  rw [e] at b1 b2
  exact ⟨a1.below b3, a2.below b3, b1, b2, a3.trans (b3.mono a3.size)⟩
theorem NumIs.put {B : Nat} {w : World} {v : Value} {n : Nat} (h : NumIs B w v n) {N : Nat} {neg : Bool} {a : Option Addr} {l cap : Nat} (hb : Box2 w N neg a l cap) (x : Bool) (s : Value) : NumIs B (put2 w N x s) v n := by
  obtain ⟨xs, h1, h2⟩ := h
  exact ⟨xs, h1.put hb x s, h2⟩
theorem zv_down (Q : Nat) : zv true (Q + 1) = zv true Q + -1 := by
  show -((Q + 1 : Nat) : Int) = -(Q : Int) + -1
  omega
theorem zv_left {na nb : Bool} (h : na ≠ nb) {R Y : Nat} (hR : R ≤ Y) : zv nb (Y - R) = zv na R + zv nb Y := by
  cases na <;> cases nb <;> simp [zv] at h ⊢ <;> omega

set_option maxRecDepth 100000 in
set_option maxHeartbeats 4000000 in
theorem div_any (na nb : Bool) (ax ay : Option Addr) (nx cx ny cy : Nat) (xs ys : List Nat) (w : World) (hx : Sl .u32 w (.slice ax nx cx) xs) (hy : Sl .u32 w (.slice ay ny cy) ys) (ox : okw xs) (oy : okw ys) (bx : xs.length ≤ 1000000) (by_ : ys.length ≤ 1000000) :
    Calls Try.prog 8 #[.agg #[.bool na, .slice ax nx cx], .agg #[.bool nb, .slice ay ny cy]] w fun e w' => ∃ n1 a1 l1 c1 n2 a2 l2 c2 k, e = .returned (.tuple #[.agg #[.bool n1, .slice a1 l1 c1], .agg #[.bool n2, .slice a2 l2 c2], .int .i64 k]) ∧ DivRes w.heap.size w' (.agg #[.bool n1, .slice a1 l1 c1]) (.agg #[.bool n2, .slice a2 l2 c2]) k (zv na (val xs)) (zv nb (val ys)) ∧ Below w.heap.size w w' := by
  have hd4 := D4.new w na nb ax ay nx cx ny cy 24
  go_enter Try.func8, Try.ntmps8
  go_wp2_with fail
  obtain ⟨W0, hW0⟩ : ∃ W0, (((w.alloc (.cells #[.bool na, .slice ax nx cx] 24)).alloc (.cells #[.bool nb, .slice ay ny cy] 24)).alloc (.cells #[.bool false, .slice none 0 0] 24)).alloc (.cells #[.bool false, .slice none 0 0] 24) = W0 := ⟨_, rfl⟩
  rw [hW0] at hd4 ⊢
  clear hW0
  have hx0 := hx.below hd4.be
  have hy0 := hy.below hd4.be
  have a0 := hd4.hA.c0
  have a1 := hd4.hA.c1
  have b0 := hd4.hB.c0
  have b1 := hd4.hB.c1
  go_region_held3 (fun W => (W.cell? ⟨w.heap.size, 0, none⟩ = some (.bool na) ∧ W.cell? ⟨w.heap.size, 1, none⟩ = some (.slice ax nx cx) ∧ W.cell? ⟨w.heap.size + 1, 0, none⟩ = some (.bool nb) ∧ W.cell? ⟨w.heap.size + 1, 1, none⟩ = some (.slice ay ny cy)) ∧ Below W0.heap.size W0 W)
    (first | exact S4.start a0 a1 b0 b1 | exact S4.keep (by assumption) (Below.refl _ _))
    (first | (go_at_call_of 20 (Value.slice ax nx cx); refine (trim_any ax nx cx xs _ (hx0.below (S4.below (by assumption))) bx).mono ?_; rintro e w' ⟨rfl, rfl⟩)
           | (go_at_call_of 20 (Value.slice ay ny cy); refine (trim_any ay ny cy ys _ (hy0.below (S4.below (by assumption))) by_).mono ?_; rintro e w' ⟨rfl, rfl⟩))
  have hX := (hx0.below below_drew).trimmed
  have hY := (hy0.below below_drew).trimmed
  have h4 : D4 w W0.drew na nb ax ay nx cx ny cy false none 0 0 := hd4.below below_drew
  have lx := long_iff ox
  have ly := long_iff oy
  have zx : (zv na (val xs)).natAbs = val xs := zv_abs _ _
  have zy : (zv nb (val ys)).natAbs = val ys := zv_abs _ _
  have vX := val_trimL xs
  have vY := val_trimL ys
  have lX := trimL_length xs
  have lY := trimL_length ys
  have oX := okw_trimL ox
  have oY := okw_trimL oy
  have tX := Tr_trimL xs
  have tY := Tr_trimL ys
  clear hd4 hx0 hy0 a0 a1 b0 b1
  obtain ⟨W1, hW1⟩ : ∃ W1, W0.drew = W1 := ⟨_, rfl⟩
  rename_i hHeld
  clear hHeld
  rw [hW1] at hX hY h4 ⊢
  clear hW1
  obtain ⟨X, eX⟩ : ∃ X, trimL xs = X := ⟨_, rfl⟩
  obtain ⟨Y, eY⟩ : ∃ Y, trimL ys = Y := ⟨_, rfl⟩
  obtain ⟨mx, eMx⟩ : ∃ m, tl xs xs.length = m := ⟨_, rfl⟩
  obtain ⟨my, eMy⟩ : ∃ m, tl ys ys.length = m := ⟨_, rfl⟩
  rw [eX] at hX vX lX oX tX
  rw [eY] at hY vY lY oY tY
  rw [eMx] at hX lX lx ⊢
  rw [eMy] at hY lY ly ⊢
  clear eX eY eMx eMy
  have H : Hid (X.length = mx ∧ Y.length = my ∧ val X = val xs ∧ val Y = val ys) := ⟨lX, lY, vX, vY⟩
  have r0 := h4.hQ.c0
  have r1 := h4.hQ.c1
  have s0 := h4.hR.c0
  have s1 := h4.hR.c1
  by_cases hfx : 256 < mx
  · have d1 : decide (256 < mx) = true := by simpa using hfx
    have hbig : pw 256 ≤ val xs := by rw [d1] at lx; simpa using lx.symm
    have HR : Hid (DivRes w.heap.size W1 (.agg #[.bool false, .slice none 0 0]) (.agg #[.bool false, .slice none 0 0]) 3 (zv na (val xs)) (zv nb (val ys))) := Or.inl ⟨.inl (by rw [zx]; exact hbig), rfl, rfl, rfl⟩
    have hbe := h4.be
    clear lx ly zx zy vX vY lX lY hbig hfx h4 hX hY
    go_wp2_with (go_at_call 21; refine (isLong_any _ _ _ _).mono ?_; rintro e w' ⟨rfl, rfl⟩)
    refine bodyPost_ret (v := .tuple #[.agg #[.bool false, .slice none 0 0], .agg #[.bool false, .slice none 0 0], .int .i64 3]) ?_ rfl ⟨_, _, _, _, _, _, _, _, _, rfl, HR.out, hbe⟩
    simp [results, Try.f8, go_sem, r0, r1, s0, s1]
  · have d1 : decide (256 < mx) = false := by simpa using hfx
    have hsx : val xs < pw 256 := by rw [d1] at lx; have := lx.symm; simp at this; omega
    by_cases hfy : 256 < my
    · have d2 : decide (256 < my) = true := by simpa using hfy
      have hbig : pw 256 ≤ val ys := by rw [d2] at ly; simpa using ly.symm
      have HR : Hid (DivRes w.heap.size W1 (.agg #[.bool false, .slice none 0 0]) (.agg #[.bool false, .slice none 0 0]) 3 (zv na (val xs)) (zv nb (val ys))) := Or.inl ⟨.inr (by rw [zy]; exact hbig), rfl, rfl, rfl⟩
      have hbe := h4.be
      clear lx ly zx zy vX vY lX lY hbig hfx hfy hsx h4 hX hY
      go_wp2_with (go_at_call 21; refine (isLong_any _ _ _ _).mono ?_; rintro e w' ⟨rfl, rfl⟩)
      refine bodyPost_ret (v := .tuple #[.agg #[.bool false, .slice none 0 0], .agg #[.bool false, .slice none 0 0], .int .i64 3]) ?_ rfl ⟨_, _, _, _, _, _, _, _, _, rfl, HR.out, hbe⟩
      simp [results, Try.f8, go_sem, r0, r1, s0, s1]
    · have d2 : decide (256 < my) = false := by simpa using hfy
      have hsy : val ys < pw 256 := by rw [d2] at ly; have := ly.symm; simp at this; omega
      have HSm : Hid ((zv na (val xs)).natAbs < pw 256 ∧ (zv nb (val ys)).natAbs < pw 256) := ⟨by rw [zx]; exact hsx, by rw [zy]; exact hsy⟩
      have hmx : mx ≤ 256 := by omega
      have hmy : my ≤ 256 := by omega
      clear lx ly zx zy vX vY lX lY hfx hfy hsx hsy
      by_cases hy0 : my = 0
      · subst hy0
        have v0 : val ys = 0 := by rw [← H.out.2.2.2]; exact (Tr_zero tY).2 H.out.2.1
        have HR : Hid (DivRes w.heap.size W1 (.agg #[.bool false, .slice none 0 0]) (.agg #[.bool false, .slice none 0 0]) 2 (zv na (val xs)) (zv nb (val ys))) := Or.inr (Or.inl ⟨HSm.out, by rw [v0]; cases nb <;> rfl, rfl, rfl, rfl⟩)
        have hbe := h4.be
        clear v0 h4 hX hY
        go_wp2_with (go_at_call 21; refine (isLong_any _ _ _ _).mono ?_; rintro e w' ⟨rfl, rfl⟩)
        refine bodyPost_ret (v := .tuple #[.agg #[.bool false, .slice none 0 0], .agg #[.bool false, .slice none 0 0], .int .i64 2]) ?_ rfl ⟨_, _, _, _, _, _, _, _, _, rfl, HR.out, hbe⟩
        simp [results, Try.f8, go_sem, r0, r1, s0, s1]
      · have hYn : 0 < val Y := by
          rcases Nat.eq_zero_or_pos (val Y) with h | h
          · have := (Tr_zero tY).1 h; have := H.out.2.1; omega
          · exact h
        have n1 : ¬ (my : Int) = 0 := by omega
        have n2 : ((my : Int) == 0) = false := by simpa using n1
        have DW := divideWords_any _ _ _ _ _ _ X Y W1 hX hY oX oY tX tY (by have := H.out.1; omega) (by have := H.out.2.1; omega) hYn
        have HYz : Hid (zv nb (val ys) ≠ 0) := (by
          intro e
          have h1 := zv_abs nb (val ys)
          rw [e] at h1
          have h2 := H.out.2.2.2
          simp at h1
          omega)
        clear r0 r1 s0 s1
        go_wp2_with (go_at_call 21; refine (isLong_any _ _ _ _).mono ?_; rintro e w' ⟨rfl, rfl⟩)
        refine DW.mono ?_
        rintro e W2 ⟨a1, l1, c1, a2, l2, c2, rfl, NQ, NR, hb2⟩
        have hY2 := hY.below hb2
        have h5 := h4.below hb2
        have hsz := h4.be.size
        rw [H.out.2.2.1, H.out.2.2.2] at NQ NR
        have hRl : val xs % val ys < val ys := Nat.mod_lt _ (by rw [← H.out.2.2.2]; exact hYn)
        obtain ⟨Q, oQ, kQ, tQ, vQ⟩ := NQ
        obtain ⟨R, oR, kR, tR, vR⟩ := NR
        have hl2 : Hid (l2 = R.length ∧ l1 = Q.length) := ⟨oR.len, oQ.len⟩
        have bQ : Q.length ≤ 256 := by
          refine Tr_len_le tQ 256 ?_
          rw [vQ]
          have h1 := HSm.out.1
          rw [zv_abs] at h1
          exact Nat.lt_of_le_of_lt (Nat.div_le_self _ _) h1
        have bR : R.length ≤ 256 := by
          refine Tr_len_le tR 256 ?_
          rw [vR]
          have h1 := HSm.out.2
          rw [zv_abs] at h1
          omega
        replace oQ := oQ.mono hsz
        replace oR := oR.mono hsz
        have q0 := h5.hA.c0
        have q1 := h5.hB.c0
        have r0 := h5.hQ.c0
        have r1 := h5.hQ.c1
        have rf0 := h5.hQ.f0
        have rf1 := h5.hQ.f1
        clear DW hX hY hb2 h4 hYn
        by_cases hn : na = nb
        · subst hn
          have hIs := isDiv_plain (na := na) (nb := na) (X := val xs) (Y := val ys) rfl rfl (by omega) (.inr rfl)
          have hIs2 : IsDiv (zv na (val xs)) (zv na (val ys)) (zv false (val xs / val ys)) (zv na (val xs % val ys)) := by simpa using hIs
          have HI : Hid (IsDiv (zv na (val xs)) (zv na (val ys)) (zv false (val xs / val ys)) (zv na (val xs % val ys))) := hIs2
          clear hIs hIs2
          have nn : (na == na) = true := by simp
          go_wp2_with fail
          refine (formed_any false a1 l1 c1 w.heap.size Q W2 oQ kQ (by omega)).mono ?_
          rintro e W3 ⟨v1, rfl, hI1, hb3⟩
          have h6 := h5.below hb3
          obtain ⟨n1, x1, y1, z1, rfl⟩ := hI1.form
          have oR3 := oR.below hb3
          have hY3 := hY2.below hb3
          have r0 := h6.hQ.c0
          have r1 := h6.hQ.c1
          have rf0 := h6.hQ.f0
          have rf1 := h6.hQ.f1
          have q1 := h6.hB.c0
          clear hb3 oR oQ hY2 h5 q0
          go_upto_region 13 with fail
          clear r0 r1 rf0 rf1 q1
          have h7 := h6.putQ n1 x1 y1 z1
          have hI2 := hI1.put h6.hQ n1 (.slice x1 y1 z1)
          have oR4 := oR3.put h6.hQ n1 (.slice x1 y1 z1)
          obtain ⟨W4, hw4⟩ : ∃ W4, (W3.setCell ⟨w.heap.size + 2, 0, none⟩ (.bool n1)).setCell ⟨w.heap.size + 2, 1, none⟩ (.slice x1 y1 z1) = W4 := ⟨_, rfl⟩
          have hw5 : put2 W3 (w.heap.size + 2) n1 (.slice x1 y1 z1) = W4 := hw4
          rw [hw5] at h7 hI2 oR4
          rw [hw4]
          clear hw4 hw5 h6 hI1 oR3
          have q1 := h7.hB.c0
          have r0 := h7.hQ.c0
          have r1 := h7.hQ.c1
          go_wp2_with fail
          refine (formed_any na a2 l2 c2 w.heap.size R W4 oR4 kR (by omega)).mono ?_
          rintro e W5 ⟨v2, rfl, hI3, hb5⟩
          rw [vR] at hI3
          rw [vQ] at hI2
          have h8 := h7.below hb5
          have hI4 := hI2.below hb5
          obtain ⟨n2, x2, y2, z2, rfl⟩ := hI3.form
          have t0 := h8.hR.c0
          have t1 := h8.hR.c1
          have tf0 := h8.hR.f0
          have tf1 := h8.hR.f1
          have hfinR := h8.hR.put n2 x2 y2 z2
          have hfinQ := h8.hQ.other (M := w.heap.size + 3) (by omega) n2 (.slice x2 y2 z2)
          have g0 := hfinQ.c0
          have g1 := hfinQ.c1
          have g2 := hfinR.c0
          have g3 := hfinR.c1
          unfold put2 at g0 g1 g2 g3
          have HF : Hid (DivRes w.heap.size (put2 W5 (w.heap.size + 3) n2 (.slice x2 y2 z2)) (.agg #[.bool n1, .slice x1 y1 z1]) (.agg #[.bool n2, .slice x2 y2 z2]) 0 (zv na (val xs)) (zv na (val ys)) ∧ Below w.heap.size w (put2 W5 (w.heap.size + 3) n2 (.slice x2 y2 z2))) :=
            ⟨Or.inr (Or.inr ⟨HSm.out, HYz.out, rfl, _, _, HI.out, hI4.put h8.hR _ _, hI3.put h8.hR _ _⟩), below_put2 h8.be (by omega) _ _⟩
          clear hb5 hI3 hI4 hI2 h7 oR4 hfinR hfinQ
          go_wp2
          refine bodyPost_ret (v := .tuple #[.agg #[.bool n1, .slice x1 y1 z1], .agg #[.bool n2, .slice x2 y2 z2], .int .i64 0]) ?_ rfl ⟨_, _, _, _, _, _, _, _, _, rfl, HF.out.1, HF.out.2⟩
          simp [results, Try.f8, go_sem, g0, g1, g2, g3]
        · have nn : (na == nb) = false := by simpa using hn
          by_cases hR0 : val xs % val ys = 0
          · have hIs := isDiv_plain (na := na) (nb := nb) (X := val xs) (Y := val ys) rfl rfl (by omega) (.inl hR0)
            have nt : (na != nb) = true := by simp [bne, nn]
            rw [nt, hR0] at hIs
            have HI : Hid (IsDiv (zv na (val xs)) (zv nb (val ys)) (zv true (val xs / val ys)) (zv nb (val xs % val ys))) := (by
              rw [hR0]
              have e : zv nb 0 = zv na 0 := by cases na <;> cases nb <;> rfl
              rw [e]
              exact hIs)
            clear hIs nt
            have e2 : l2 = 0 := by rw [hl2.out.1]; exact (Tr_zero tR).1 (vR.trans hR0)
            subst e2
            go_wp2_with fail
            refine (formed_any true a1 l1 c1 w.heap.size Q W2 oQ kQ (by omega)).mono ?_
            rintro e W3 ⟨v1, rfl, hI1, hb3⟩
            have h6 := h5.below hb3
            obtain ⟨n1, x1, y1, z1, rfl⟩ := hI1.form
            have oR3 := oR.below hb3
            have hY3 := hY2.below hb3
            have r0 := h6.hQ.c0
            have r1 := h6.hQ.c1
            have rf0 := h6.hQ.f0
            have rf1 := h6.hQ.f1
            have q1 := h6.hB.c0
            clear hb3 oR oQ hY2 h5 q0
            go_upto_region 13 with fail
            clear r0 r1 rf0 rf1 q1
            have h7 := h6.putQ n1 x1 y1 z1
            have hI2 := hI1.put h6.hQ n1 (.slice x1 y1 z1)
            have oR4 := oR3.put h6.hQ n1 (.slice x1 y1 z1)
            obtain ⟨W4, hw4⟩ : ∃ W4, (W3.setCell ⟨w.heap.size + 2, 0, none⟩ (.bool n1)).setCell ⟨w.heap.size + 2, 1, none⟩ (.slice x1 y1 z1) = W4 := ⟨_, rfl⟩
            have hw5 : put2 W3 (w.heap.size + 2) n1 (.slice x1 y1 z1) = W4 := hw4
            rw [hw5] at h7 hI2 oR4
            rw [hw4]
            clear hw4 hw5 h6 hI1 oR3
            have q1 := h7.hB.c0
            have r0 := h7.hQ.c0
            have r1 := h7.hQ.c1
            go_wp2_with fail
            refine (formed_any nb a2 0 c2 w.heap.size R W4 oR4 kR (by omega)).mono ?_
            rintro e W5 ⟨v2, rfl, hI3, hb5⟩
            rw [vR] at hI3
            rw [vQ] at hI2
            have h8 := h7.below hb5
            have hI4 := hI2.below hb5
            obtain ⟨n2, x2, y2, z2, rfl⟩ := hI3.form
            have t0 := h8.hR.c0
            have t1 := h8.hR.c1
            have tf0 := h8.hR.f0
            have tf1 := h8.hR.f1
            have hfinR := h8.hR.put n2 x2 y2 z2
            have hfinQ := h8.hQ.other (M := w.heap.size + 3) (by omega) n2 (.slice x2 y2 z2)
            have g0 := hfinQ.c0
            have g1 := hfinQ.c1
            have g2 := hfinR.c0
            have g3 := hfinR.c1
            unfold put2 at g0 g1 g2 g3
            have HF : Hid (DivRes w.heap.size (put2 W5 (w.heap.size + 3) n2 (.slice x2 y2 z2)) (.agg #[.bool n1, .slice x1 y1 z1]) (.agg #[.bool n2, .slice x2 y2 z2]) 0 (zv na (val xs)) (zv nb (val ys)) ∧ Below w.heap.size w (put2 W5 (w.heap.size + 3) n2 (.slice x2 y2 z2))) :=
              ⟨Or.inr (Or.inr ⟨HSm.out, HYz.out, rfl, _, _, HI.out, hI4.put h8.hR _ _, hI3.put h8.hR _ _⟩), below_put2 h8.be (by omega) _ _⟩
            clear hb5 hI3 hI4 hI2 h7 oR4 hfinR hfinQ
            go_wp2
            refine bodyPost_ret (v := .tuple #[.agg #[.bool n1, .slice x1 y1 z1], .agg #[.bool n2, .slice x2 y2 z2], .int .i64 0]) ?_ rfl ⟨_, _, _, _, _, _, _, _, _, rfl, HF.out.1, HF.out.2⟩
            simp [results, Try.f8, go_sem, g0, g1, g2, g3]
          · have hIs := isDiv_down (na := na) (nb := nb) (X := val xs) (Y := val ys) rfl rfl (by omega) hR0 hn
            have nt : (na != nb) = true := by simp [bne, nn]
            rw [nt, ← zv_down, ← zv_left hn (Nat.le_of_lt hRl)] at hIs
            have HI : Hid (IsDiv (zv na (val xs)) (zv nb (val ys)) (zv true (val xs / val ys + 1)) (zv nb (val ys - val xs % val ys))) := hIs
            clear hIs nt
            have e2 : ¬ (l2 : Int) = 0 := by
              have h1 := hl2.out.1
              intro e
              have : R.length = 0 := by omega
              have h2 := (Tr_zero tR).2 this
              omega
            have e3 : ((l2 : Int) == 0) = false := by simpa using e2
            have s1 : Sl .u32 (W2.alloc (.cells #[.int .u32 1] 52)) (.slice (some ⟨W2.heap.size, 0, none⟩) 1 1) [1] := sl_one W2 1 52
            have ba := below_alloc W2 (.cells #[.int .u32 1] 52)
            have AW := addWords_any a1 _ l1 c1 1 1 Q [1] _ (oQ.sl.below ba) s1 (by omega) (by simp) kQ (okw_one (by omega))
            have oR1 := oR.below ba
            have hY1 := hY2.below ba
            have h5b := h5.below ba
            have hsz2 := h5b.be.size
            have hv1 : val [1] = 1 := rfl
            rw [hv1, vQ] at AW
            clear oQ oR hY2 h5 r0 r1 rf0 rf1 ba s1 hv1
            go_wp2_with fail
            refine AW.mono ?_
            rintro e W3 ⟨a3, m3, c3, rfl, hm3, ⟨P, oP, kP, tP, vP⟩, hb3⟩
            replace oP := oP.mono hsz2
            replace oR1 := oR1.below hb3
            replace hY1 := hY1.below hb3
            replace h5b := h5b.below hb3
            have bP : P.length ≤ 1000000 := by have := oP.len; omega
            clear hb3 AW q0 q1
            go_wp2_with fail
            refine (formed_any true a3 m3 c3 w.heap.size P W3 oP kP bP).mono ?_
            rintro e W3b ⟨v1, rfl, hI1, hb3⟩
            rw [vP] at hI1
            have h6 := h5b.below hb3
            obtain ⟨n1, x1, y1, z1, rfl⟩ := hI1.form
            have oR3 := oR1.below hb3
            have hY3 := hY1.below hb3
            have r0 := h6.hQ.c0
            have r1 := h6.hQ.c1
            have rf0 := h6.hQ.f0
            have rf1 := h6.hQ.f1
            clear hb3 oR1 oP hY1 h5b
            go_upto_region 8 with fail
            clear r0 r1 rf0 rf1
            have h7 := h6.putQ n1 x1 y1 z1
            have hI2 := hI1.put h6.hQ n1 (.slice x1 y1 z1)
            have oR4 := oR3.put h6.hQ n1 (.slice x1 y1 z1)
            have hY4 := hY3.put h6.hQ n1 (.slice x1 y1 z1)
            obtain ⟨W4, hw4⟩ : ∃ W4, (W3b.setCell ⟨w.heap.size + 2, 0, none⟩ (.bool n1)).setCell ⟨w.heap.size + 2, 1, none⟩ (.slice x1 y1 z1) = W4 := ⟨_, rfl⟩
            have hw5 : put2 W3b (w.heap.size + 2) n1 (.slice x1 y1 z1) = W4 := hw4
            rw [hw5] at h7 hI2 oR4 hY4
            rw [hw4]
            clear hw4 hw5 h6 hI1 oR3 hY3
            have hvR : val R ≤ val Y := by rw [vR, H.out.2.2.2]; omega
            have SW := subWords_any _ _ _ _ _ _ Y R W4 hY4 oR4.sl (by have := H.out.2.1; omega) (Tr_len_of_le tR oY hvR) hvR oY kR
            have hsz4 := h7.be.size
            rw [vR, H.out.2.2.2] at SW
            clear oR4 hY4
            go_wp2_with fail
            refine SW.mono ?_
            rintro e W4b ⟨a4, m4, c4, rfl, hm4, ⟨T, oT, kT, tT, vT⟩, hb4⟩
            replace oT := oT.mono hsz4
            replace h7 := h7.below hb4
            replace hI2 := hI2.below hb4
            have bT : T.length ≤ 1000000 := by have := oT.len; have := H.out.2.1; omega
            clear hb4 SW hvR
            have q1 := h7.hB.c0
            have r0 := h7.hQ.c0
            have r1 := h7.hQ.c1
            go_wp2_with fail
            refine (formed_any nb a4 m4 c4 w.heap.size T W4b oT kT bT).mono ?_
            rintro e W5 ⟨v2, rfl, hI3, hb5⟩
            rw [vT] at hI3
            have h8 := h7.below hb5
            have hI4 := hI2.below hb5
            obtain ⟨n2, x2, y2, z2, rfl⟩ := hI3.form
            have t0 := h8.hR.c0
            have t1 := h8.hR.c1
            have tf0 := h8.hR.f0
            have tf1 := h8.hR.f1
            have hfinR := h8.hR.put n2 x2 y2 z2
            have hfinQ := h8.hQ.other (M := w.heap.size + 3) (by omega) n2 (.slice x2 y2 z2)
            have g0 := hfinQ.c0
            have g1 := hfinQ.c1
            have g2 := hfinR.c0
            have g3 := hfinR.c1
            unfold put2 at g0 g1 g2 g3
            have HF : Hid (DivRes w.heap.size (put2 W5 (w.heap.size + 3) n2 (.slice x2 y2 z2)) (.agg #[.bool n1, .slice x1 y1 z1]) (.agg #[.bool n2, .slice x2 y2 z2]) 0 (zv na (val xs)) (zv nb (val ys)) ∧ Below w.heap.size w (put2 W5 (w.heap.size + 3) n2 (.slice x2 y2 z2))) :=
              ⟨Or.inr (Or.inr ⟨HSm.out, HYz.out, rfl, _, _, HI.out, hI4.put h8.hR _ _, hI3.put h8.hR _ _⟩), below_put2 h8.be (by omega) _ _⟩
            clear hb5 hI3 hI4 hI2 h7 oT hfinR hfinQ
            go_wp2
            refine bodyPost_ret (v := .tuple #[.agg #[.bool n1, .slice x1 y1 z1], .agg #[.bool n2, .slice x2 y2 z2], .int .i64 0]) ?_ rfl ⟨_, _, _, _, _, _, _, _, _, rfl, HF.out.1, HF.out.2⟩
            simp [results, Try.f8, go_sem, g0, g1, g2, g3]
end Go.Proofs.Yteplmnnpmekngab
namespace Go.Proofs.Yteplmnnpmekngab
open Go.ChangeShapes Go.WideShapes Go.ChangeAt Go.RowKit Go.Joins

theorem Try.own : ownKnob Try.prog.godebug = none := by kernel_rfl
theorem Try.laidOut : laidOutB Try.prog = true := by kernel_rfl
theorem Try.cellsInt : Try.prog.cellsOf 24 = 2 := by kernel_rfl
theorem Try.cellsWord : Try.prog.cellsOf 52 = 1 := by kernel_rfl

theorem arg_open {H : Type} {enc : TypeId × Value → H} {W : World} {r : Reach} {base : Nat} {v : Value} {d : DataW H} {p : List MemPlace} (hv : Value.okWide Try.prog W r base 24 v) (h : DataW.Trod enc Try.prog W 0 (fun _ => true) true 24 v d p) :
    ∃ neg a l c xs, v = .agg #[.bool neg, .slice a l c] ∧ Sl .u32 W (.slice a l c) xs ∧ okw xs := by
  obtain ⟨v0, v1, y0, y1, n, rfl, _, _, h0, h1⟩ := open_agg2 Try.underlying24 (by kernel_rfl) Try.cellsInt hv h
  obtain ⟨neg, e0, _⟩ := DataW.trod_bool Try.underlying4 h0
  simp only [List.cons.injEq, and_true] at e0
  subst e0
  rcases open_ints Try.underlying22 Try.underlying52 Try.cellsWord h1 with ⟨hcs, _⟩ | ⟨a, len, cap, zs, hcs, _, hl, hm, hz, _, hcell, hwz⟩
  · simp only [List.cons.injEq, and_true] at hcs
    subst hcs
    exact ⟨neg, none, 0, 0, [], rfl, Sl_nil _ _ _ _, okw_nil⟩
  · simp only [List.cons.injEq, and_true] at hcs
    subst hcs
    simp only [if_true] at hz
    have hb : ∀ n ∈ zs, 0 ≤ n ∧ n < 4294967296 := fun n hn => by
      have := bounds_u32 (hwz n hn)
      omega
    have hlen : ((zs.take len).map Int.toNat).length = len := by simp; omega
    refine ⟨neg, some a, len, cap, (zs.take len).map Int.toNat, rfl, ⟨some a, cap, by rw [hlen], by rw [hlen]; exact hl, fun hn => ?_⟩, fun x hx => ?_⟩
    · obtain ⟨b, off, spot⟩ := a
      have hp : 0 < zs.length := by
        have : 0 < ((zs.take len).map Int.toNat).length := List.length_pos_iff.2 hn
        omega
      have hspot : spot = none := by simpa [Addr.add] using World.cell?_spot (hcell 0 hp)
      subst hspot
      refine ⟨b, off, rfl, fun j hj => ?_⟩
      rw [hlen] at hj
      have hj' : j < zs.length := by omega
      have hc := hcell j hj'
      rw [add_plain] at hc
      rw [hc]
      have hbj := hb zs[j] (List.getElem_mem hj')
      simp [hj, hj', List.getD]
      omega
    · simp only [List.mem_map] at hx
      obtain ⟨n, hn, rfl⟩ := hx
      have := hb n (List.mem_of_mem_take hn)
      omega
end Go.Proofs.Yteplmnnpmekngab
namespace Go.Proofs.Yteplmnnpmekngab
open Go.RowKit

theorem isDiv_abs {x y q r : Int} (h : IsDiv x y q r) : q.natAbs ≤ x.natAbs ∧ r.natAbs ≤ y.natAbs := by
  obtain ⟨e, h⟩ := h
  rcases h with ⟨h1, h2⟩ | ⟨h1, h2⟩
  · refine ⟨?_, by omega⟩
    rcases Int.lt_or_le q 0 with hq | hq
    · have k : (q + 1) * y ≤ (q + 1) * 1 := Int.mul_le_mul_of_nonpos_left (by omega) (by omega)
      have k2 : (q + 1) * y = q * y + y := by rw [Int.add_mul, Int.one_mul]
      omega
    · have k : q * 1 ≤ q * y := Int.mul_le_mul_of_nonneg_left (by omega) hq
      omega
  · refine ⟨?_, by omega⟩
    rcases Int.lt_or_le q 0 with hq | hq
    · have k : (q + 1) * (-1) ≤ (q + 1) * y := Int.mul_le_mul_of_nonpos_left (by omega) (by omega)
      have k2 : (q + 1) * y = q * y + y := by rw [Int.add_mul, Int.one_mul]
      omega
    · have k : q * y ≤ q * (-1) := Int.mul_le_mul_of_nonneg_left (by omega) hq
      omega
theorem sameI {B B' : Nat} {w : World} {na nb : Bool} {ax ay : Option Addr} {nx cx ny cy : Nat} {z : Int} (h : IntIs B w (.agg #[.bool na, .slice ax nx cx]) z) (h' : IntIs B' w (.agg #[.bool nb, .slice ay ny cy]) z) (hz : z.natAbs < pw 256) :
    Calls Try.prog 13 #[.agg #[.bool na, .slice ax nx cx], .agg #[.bool nb, .slice ay ny cy]] w fun e w' => e = .returned (.bool true) ∧ Below w.heap.size w w' := by
  obtain ⟨X, oX⟩ := h.out hz
  obtain ⟨Y, oY⟩ := h'.out hz
  have l1 := oX.le
  have := same_any na nb ax ay nx cx ny cy X Y w oX.sl oY.sl (by omega)
  rw [same_true oX.fm oY.fm oX.ok oY.ok (oX.num.trans oY.num.symm)] at this
  exact this
/-- Compared with 0. -/
theorem cmp0 {w : World} {N : Nat} {na : Bool} {ax : Option Addr} {nx cx : Nat} {xs : List Nat} {x : Int} (hx : Hd w N na ax nx cx xs x) :
    Calls Try.prog 7 #[.agg #[.bool na, .slice ax nx cx], .agg #[.bool false, .slice none 0 0]] w fun e w' => e = .returned (.int .i64 (cmpI x 0)) ∧ Below w.heap.size w w' := by
  have h1 := hx.le
  refine (compare_any na false ax none nx cx 0 0 xs [] w hx.sl (Sl_nil _ _ _ _) hx.ok okw_nil (by omega) (by simp)).mono ?_
  rintro e w' ⟨rfl, hb⟩
  rw [hx.num]
  exact ⟨rfl, hb⟩
/-- A quotient and what is left, of two numbers that are few words long. -/
theorem divC {w : World} {na nb : Bool} {ax ay : Option Addr} {nx cx ny cy : Nat} {xs ys : List Nat} {x y : Int} (sx : Sl .u32 w (.slice ax nx cx) xs) (ox : okw xs) (lx : xs.length ≤ 256) (ex : zv na (val xs) = x) (sy : Sl .u32 w (.slice ay ny cy) ys) (oy : okw ys) (ly : ys.length ≤ 256) (ey : zv nb (val ys) = y) (bx : x.natAbs < pw 256) (by_ : y.natAbs < pw 256) (h0 : y ≠ 0) :
    Calls Try.prog 8 #[.agg #[.bool na, .slice ax nx cx], .agg #[.bool nb, .slice ay ny cy]] w fun e w' => ∃ n1 a1 l1 c1 n2 a2 l2 c2 zq zr, e = .returned (.tuple #[.agg #[.bool n1, .slice a1 l1 c1], .agg #[.bool n2, .slice a2 l2 c2], .int .i64 0]) ∧ IsDiv x y zq zr ∧ IntIs w.heap.size w' (.agg #[.bool n1, .slice a1 l1 c1]) zq ∧ IntIs w.heap.size w' (.agg #[.bool n2, .slice a2 l2 c2]) zr ∧ Below w.heap.size w w' := by
  refine (div_any na nb ax ay nx cx ny cy xs ys w sx sy ox oy (by omega) (by omega)).mono ?_
  rintro e w' ⟨n1, a1, l1, c1, n2, a2, l2, c2, k, rfl, hr, hb⟩
  rw [ex, ey] at hr
  rcases hr with ⟨hr, _⟩ | ⟨_, hr, _⟩ | ⟨_, _, rfl, zq, zr, hd, i1, i2⟩
  · omega
  · exact absurd hr h0
  · exact ⟨_, _, _, _, _, _, _, _, zq, zr, rfl, hd, i1, i2, hb⟩
theorem divH {w : World} {N M : Nat} {na nb : Bool} {ax ay : Option Addr} {nx cx ny cy : Nat} {xs ys : List Nat} {x y : Int} (hx : Hd w N na ax nx cx xs x) (hy : Hd w M nb ay ny cy ys y) (bx : x.natAbs < pw 256) (by_ : y.natAbs < pw 256) (h0 : y ≠ 0) :
    Calls Try.prog 8 #[.agg #[.bool na, .slice ax nx cx], .agg #[.bool nb, .slice ay ny cy]] w fun e w' => ∃ n1 a1 l1 c1 n2 a2 l2 c2 zq zr, e = .returned (.tuple #[.agg #[.bool n1, .slice a1 l1 c1], .agg #[.bool n2, .slice a2 l2 c2], .int .i64 0]) ∧ IsDiv x y zq zr ∧ IntIs w.heap.size w' (.agg #[.bool n1, .slice a1 l1 c1]) zq ∧ IntIs w.heap.size w' (.agg #[.bool n2, .slice a2 l2 c2]) zr ∧ Below w.heap.size w w' :=
  divC hx.sl hx.ok hx.le hx.num hy.sl hy.ok hy.le hy.num bx by_ h0
theorem rest_of {x : Int} {k : Nat} {zq zr : Int} (h : IsDiv x (k : Int) zq zr) (hk : 1 ≤ (k : Int)) : zr = x % (k : Int) := by
  obtain ⟨e, h⟩ := h
  rcases h with ⟨h1, h2⟩ | ⟨h1, h2⟩
  · rw [e, Int.mul_comm, Int.add_comm, Int.add_mul_emod_self_left, Int.emod_eq_of_lt h1 h2]
  · omega
theorem divZ {w : World} {N M : Nat} {na nb : Bool} {ax ay : Option Addr} {nx cx ny cy : Nat} {xs ys : List Nat} {x y : Int} (hx : Hd w N na ax nx cx xs x) (hy : Hd w M nb ay ny cy ys y) (bx : x.natAbs < pw 256) (h0 : y = 0) :
    Calls Try.prog 8 #[.agg #[.bool na, .slice ax nx cx], .agg #[.bool nb, .slice ay ny cy]] w fun e w' => e = .returned (.tuple #[.agg #[.bool false, .slice none 0 0], .agg #[.bool false, .slice none 0 0], .int .i64 2]) ∧ Below w.heap.size w w' := by
  have h1 := hx.le
  have h2 := hy.le
  have h3 := pw_pos 256
  refine (div_any na nb ax ay nx cx ny cy xs ys w hx.sl hy.sl hx.ok hy.ok (by omega) (by omega)).mono ?_
  rintro e w' ⟨n1, a1, l1, c1, n2, a2, l2, c2, k, rfl, hr, hb⟩
  rw [hx.num, hy.num] at hr
  rcases hr with ⟨hr, _⟩ | ⟨_, _, rfl, e1, e2⟩ | ⟨_, hr, _⟩
  · omega
  · rw [e1, e2]
    exact ⟨rfl, hb⟩
  · exact absurd h0 hr
theorem Out.hd {w : World} {N : Nat} {neg : Bool} {a : Option Addr} {l c : Nat} {xs : List Nat} {z : Int} (h : Out w neg a l c xs z) (b : Box2 w N neg a l c) : Hd w N neg a l c xs z := ⟨b, h.sl, h.ok, h.le, h.num⟩

theorem Box2.putO {w : World} {N M : Nat} {neg : Bool} {a : Option Addr} {n cap : Nat} (h : Box2 w N neg a n cap) (hne : N ≠ M) (x : Bool) (s : Value) : Box2 (put2 w M x s) N neg a n cap := by
  have o : ∀ j i v W, (World.setCell W ⟨M, i, none⟩ v).cell? ⟨N, j, none⟩ = W.cell? ⟨N, j, none⟩ := fun j i v W => World.cell?_setCell_other _ _ _ _ (fun e => hne (by injection e with e; exact e.symm))
  unfold put2
  exact ⟨by rw [o, o]; exact h.c0, by rw [o, o]; exact h.c1, by rw [World.frozen?_setCell, World.frozen?_setCell]; exact h.f0, by rw [World.frozen?_setCell, World.frozen?_setCell]; exact h.f1⟩
/-- A box holds what it held; what W0 had stands. -/
abbrev S1 (W0 : World) (N : Nat) (n5 : Bool) (a5 : Option Addr) (l5 c5 : Nat) (W : World) : Prop := (W.cell? ⟨N, 0, none⟩ = some (.bool n5) ∧ W.cell? ⟨N, 1, none⟩ = some (.slice a5 l5 c5)) ∧ Below W0.heap.size W0 W
theorem S1.start {W0 : World} {N : Nat} {n5 : Bool} {a5 : Option Addr} {l5 c5 : Nat} (h0 : W0.cell? ⟨N, 0, none⟩ = some (.bool n5)) (h1 : W0.cell? ⟨N, 1, none⟩ = some (.slice a5 l5 c5)) : S1 W0 N n5 a5 l5 c5 W0.drew := ⟨⟨h0, h1⟩, (Below.refl _ _).drew⟩
theorem S1.keep {W0 W W' : World} {N : Nat} {n5 : Bool} {a5 : Option Addr} {l5 c5 : Nat} (h : S1 W0 N n5 a5 l5 c5 W) (hb : Below W.heap.size W W') : S1 W0 N n5 a5 l5 c5 W' := ⟨⟨cell_below h.1.1 hb, cell_below h.1.2 hb⟩, h.2.trans (hb.mono h.2.size)⟩
theorem S1.below {W0 W : World} {N : Nat} {n5 : Bool} {a5 : Option Addr} {l5 c5 : Nat} (h : S1 W0 N n5 a5 l5 c5 W) : Below W0.heap.size W0 W := h.2

set_option maxRecDepth 100000 in
theorem splits_far (na nb : Bool) (a0 a1 : Option Addr) (l0 c0 l1 c1 : Nat) (m : Int) (w : World) (h : ¬ (l0 ≤ 80 ∧ l1 ≤ 80)) :
    Calls Try.prog 3 #[.agg #[.bool na, .slice a0 l0 c0], .agg #[.bool nb, .slice a1 l1 c1], .int .i64 m] w fun e w' => e = .returned (.bool true) ∧ Below w.heap.size w w' := by
  have hbs := boxes2 w na nb a0 a1 l0 c0 l1 c1 24
  go_enter Try.func3, Try.ntmps3
  go_wp2_with fail
  obtain ⟨W0, hW0⟩ : ∃ W0, (w.alloc (.cells #[.bool na, .slice a0 l0 c0] 24)).alloc (.cells #[.bool nb, .slice a1 l1 c1] 24) = W0 := ⟨_, rfl⟩
  simp only [hW0] at hbs
  rw [hW0]
  clear hW0
  obtain ⟨hA, hB, hB0⟩ := hbs
  refine (few_any na a0 l0 c0 W0).mono ?_
  rintro e w1 ⟨rfl, hb1⟩
  replace hB := hB.below hb1
  replace hB0 : Below w.heap.size w w1 := hB0.trans (hb1.mono hB0.size)
  clear hb1 hA
  by_cases h1 : l0 ≤ 80
  · have hd : decide (l0 ≤ 80) = true := by simpa using h1
    rw [hd]
    clear hd
    have b0 := hB.c0
    have b1 := hB.c1
    go_wp2_with fail
    refine (few_any nb a1 l1 c1 w1).mono ?_
    rintro e w2 ⟨rfl, hb2⟩
    have hd : decide (l1 ≤ 80) = false := by simp; omega
    rw [hd]
    replace hB0 : Below w.heap.size w w2 := hB0.trans (hb2.mono hB0.size)
    clear hd b0 b1 hb2 h h1
    go_wp2_with fail
    refine (awake_any w2).mono ?_
    rintro e w3 ⟨rfl, hb3⟩
    go_wp2
    go_ret
    exact ⟨rfl, hB0.trans (hb3.mono hB0.size)⟩
  · have hd : decide (l0 ≤ 80) = false := by simpa using h1
    rw [hd]
    clear hd h h1
    go_wp2_with fail
    refine (awake_any w1).mono ?_
    rintro e w2 ⟨rfl, hb2⟩
    go_wp2
    go_ret
    exact ⟨rfl, hB0.trans (hb2.mono hB0.size)⟩

set_option maxRecDepth 100000 in
set_option maxHeartbeats 8000000 in
theorem splits_near (na nb : Bool) (a0 a1 : Option Addr) (l0 c0 l1 c1 : Nat) (xs ys : List Nat) (m : Int) (w : World) (hx : Sl .u32 w (.slice a0 l0 c0) xs) (hy : Sl .u32 w (.slice a1 l1 c1) ys) (ox : okw xs) (oy : okw ys) (g0 : l0 ≤ 80) (g1 : l1 ≤ 80) (m1 : -9223372036854775808 ≤ m) (m2 : m ≤ 9223372036854775807) :
    Calls Try.prog 3 #[.agg #[.bool na, .slice a0 l0 c0], .agg #[.bool nb, .slice a1 l1 c1], .int .i64 m] w fun e w' => e = .returned (.bool true) ∧ Below w.heap.size w w' := by
  have lx : xs.length ≤ 80 := by rw [← hx.len]; exact g0
  have ly : ys.length ≤ 80 := by rw [← hy.len]; exact g1
  have hbs := boxes2 w na nb a0 a1 l0 c0 l1 c1 24
  go_enter Try.func3, Try.ntmps3
  go_wp2_with fail
  obtain ⟨W0, hW0⟩ : ∃ W0, (w.alloc (.cells #[.bool na, .slice a0 l0 c0] 24)).alloc (.cells #[.bool nb, .slice a1 l1 c1] 24) = W0 := ⟨_, rfl⟩
  simp only [hW0] at hbs
  rw [hW0]
  clear hW0
  obtain ⟨hA, hB, hB0⟩ := hbs
  refine (few_any na a0 l0 c0 W0).mono ?_
  rintro e w1 ⟨rfl, hb1⟩
  have hd : decide (l0 ≤ 80) = true := by simpa using g0
  rw [hd]
  clear hd
  replace hA := hA.below hb1
  replace hB := hB.below hb1
  replace hB0 : Below w.heap.size w w1 := hB0.trans (hb1.mono hB0.size)
  clear hb1
  clear W0
  have q0 := hB.c0
  have q1 := hB.c1
  go_wp2_with fail
  clear q0 q1
  refine (few_any nb a1 l1 c1 w1).mono ?_
  rintro e w2 ⟨rfl, hb1⟩
  have hd : decide (l1 ≤ 80) = true := by simpa using g1
  rw [hd]
  clear hd
  replace hA := hA.below hb1
  replace hB := hB.below hb1
  replace hB0 : Below w.heap.size w w2 := hB0.trans (hb1.mono hB0.size)
  clear hb1
  clear w1
  obtain ⟨x, hxx⟩ : ∃ x, zv na (val xs) = x := ⟨_, rfl⟩
  obtain ⟨y, hyy⟩ : ∃ y, zv nb (val ys) = y := ⟨_, rfl⟩
  have HA : Hd w2 w.heap.size na a0 l0 c0 xs x := ⟨hA, hx.below hB0, ox, by omega, hxx⟩
  have HB : Hd w2 (w.heap.size + 1) nb a1 l1 c1 ys y := ⟨hB, hy.below hB0, oy, by omega, hyy⟩
  have zx : x.natAbs < pw 80 := by rw [← hxx, zv_abs]; exact Nat.lt_of_lt_of_le (val_lt ox) (pw_mono lx)
  have zy : y.natAbs < pw 80 := by rw [← hyy, zv_abs]; exact Nat.lt_of_lt_of_le (val_lt oy) (pw_mono ly)
  have hpw : pw 80 ≤ pw 256 := pw_mono (by omega)
  have hp2 : pw 160 ≤ pw 256 := pw_mono (by omega)
  have HX : Hid (zv na (val xs) = x) := hxx
  clear hA hB hxx hyy
  have q0 := HB.box.c0
  have q1 := HB.box.c1
  go_wp2_with fail
  clear q0 q1
  refine (cmp0 HB).mono ?_
  rintro e w3 ⟨rfl, hb1⟩
  replace HA := HA.below hb1
  replace HB := HB.below hb1
  replace hB0 : Below w.heap.size w w3 := hB0.trans (hb1.mono hB0.size)
  clear hb1
  clear w2
  by_cases hy0 : y = 0
  · have e1 : cmpI y 0 = 0 := by rw [hy0]; rfl
    rw [e1]
    clear e1
    have q0 := HA.box.c0
    have q1 := HA.box.c1
    have q2 := HB.box.c0
    have q3 := HB.box.c1
    go_wp2_with fail
    refine (divZ HA HB (by omega) hy0).mono ?_
    rintro e w4 ⟨rfl, hb1⟩
    replace hB0 : Below w.heap.size w w4 := hB0.trans (hb1.mono hB0.size)
    clear q0 q1 q2 q3
    clear hb1 HA HB
    have hb2 := (below_alloc w4 (.cells #[.bool false, .slice none 0 0] 24)).trans ((below_alloc (w4.alloc (.cells #[.bool false, .slice none 0 0] 24)) (.cells #[.bool false, .slice none 0 0] 24)).mono (by simp))
    go_wp2_with fail
    refine (awake_any _).mono ?_
    rintro e w5 ⟨rfl, hb3⟩
    go_wp2
    go_ret
    have hb4 := hB0.trans (hb2.mono hB0.size)
    exact ⟨rfl, hb4.trans (hb3.mono hb4.size)⟩
  · have e1 : (cmpI y 0 == 0) = false := by unfold cmpI; split <;> simp <;> omega
    have e2 : ¬ cmpI y 0 = 0 := by simpa using e1
    obtain ⟨cy, hcy⟩ : ∃ c, cmpI y 0 = c := ⟨_, rfl⟩
    rw [hcy] at e1 e2 ⊢
    clear hcy
    have q0 := HA.box.c0
    have q1 := HA.box.c1
    have q2 := HB.box.c0
    have q3 := HB.box.c1
    go_wp2_with fail
    refine (divH HA HB (by omega) (by omega) hy0).mono ?_
    rintro e w4 ⟨n1, x1, y1, z1, n2, x2, y2, z2, zq, zr, rfl, hD, I1, I2, hb1⟩
    clear q0 q1 q2 q3
    clear e1 e2
    replace I1 := I1.mono hB0.size
    replace I2 := I2.mono hB0.size
    replace HA := HA.below hb1
    replace HB := HB.below hb1
    replace hB0 : Below w.heap.size w w4 := hB0.trans (hb1.mono hB0.size)
    clear hb1
    clear w3
    have hab := isDiv_abs hD
    obtain ⟨Q, oQ⟩ := I1.out (by omega)
    obtain ⟨R, oR⟩ := I2.out (by omega)
    obtain ⟨b10, b11, hb1⟩ := boxes2 w4 n1 n2 x1 x2 y1 z1 y2 z2 24
    replace oQ := oQ.below hb1
    replace oR := oR.below hb1
    have H10 := oQ.hd b10
    have H11 := oR.hd b11
    have HR11 := HB.below hb1
    have q0 := H10.box.c0
    have q1 := H10.box.c1
    have q2 := HR11.box.c0
    have q3 := HR11.box.c1
    go_wp2_with fail
    clear q0 q1 q2 q3
    obtain ⟨w5, hW⟩ : ∃ w5, (w4.alloc (.cells #[.bool n1, .slice x1 y1 z1] 24)).alloc (.cells #[.bool n2, .slice x2 y2 z2] 24) = w5 := ⟨_, rfl⟩
    rw [hW] at H10 H11 hb1 ⊢
    obtain ⟨N10, hN⟩ : ∃ N, w4.heap.size = N := ⟨_, rfl⟩
    rw [hN] at H10 H11 ⊢
    clear hN hW b10 b11 oQ oR HR11 I1 I2
    replace HA := HA.below hb1
    replace HB := HB.below hb1
    replace hB0 : Below w.heap.size w w5 := hB0.trans (hb1.mono hB0.size)
    clear hb1
    clear w4
    have hzq : (zq * y).natAbs < pw 160 := by
      rw [Int.natAbs_mul, show pw 160 = pw 80 * pw 80 from pw_add 80 80]
      exact Nat.mul_lt_mul_of_le_of_lt (by omega) zy (by omega)
    refine (ltimesH H10 HB (by omega) (by omega) (by omega)).mono ?_
    rintro e w6 ⟨n3, x3, y3, z3, S, rfl, oS, hb1⟩
    replace H11 := H11.below hb1
    replace HA := HA.below hb1
    replace HB := HB.below hb1
    replace hB0 : Below w.heap.size w w6 := hB0.trans (hb1.mono hB0.size)
    clear hb1
    clear H10
    clear w5
    have H13 := Hd.new oS 24
    have hb1 := below_alloc w6 (.cells #[.bool n3, .slice x3 y3 z3] 24)
    replace H11 := H11.below hb1
    have q0 := H13.box.c0
    have q1 := H13.box.c1
    have q2 := H11.box.c0
    have q3 := H11.box.c1
    go_wp2_with fail
    clear q0 q1 q2 q3
    obtain ⟨w7, hW⟩ : ∃ w7, w6.alloc (.cells #[.bool n3, .slice x3 y3 z3] 24) = w7 := ⟨_, rfl⟩
    rw [hW] at H13 H11 hb1 ⊢
    obtain ⟨N13, hN⟩ : ∃ N, w6.heap.size = N := ⟨_, rfl⟩
    rw [hN] at H13 ⊢
    clear hN hW oS
    replace HA := HA.below hb1
    replace HB := HB.below hb1
    replace hB0 : Below w.heap.size w w7 := hB0.trans (hb1.mono hB0.size)
    clear hb1
    clear w6
    have hsum : zq * y + zr = x := hD.1.symm
    have LS := lsumH H13 H11 (by omega) (by omega) (by rw [hsum]; omega)
    rw [hsum] at LS
    refine LS.mono ?_
    rintro e w8 ⟨n4, x4, y4, z4, X, rfl, oX, hb1⟩
    replace H11 := H11.below hb1
    replace HA := HA.below hb1
    replace HB := HB.below hb1
    replace hB0 : Below w.heap.size w w8 := hB0.trans (hb1.mono hB0.size)
    clear hb1
    clear H13 LS hsum hzq
    clear w7
    have H15 := Hd.new oX 24
    have hb1 := below_alloc w8 (.cells #[.bool n4, .slice x4 y4 z4] 24)
    replace H11 := H11.below hb1
    replace HA := HA.below hb1
    have q0 := H15.box.c0
    have q1 := H15.box.c1
    have q2 := HA.box.c0
    have q3 := HA.box.c1
    go_wp2_with fail
    clear q0 q1 q2 q3
    obtain ⟨w9, hW⟩ : ∃ w9, w8.alloc (.cells #[.bool n4, .slice x4 y4 z4] 24) = w9 := ⟨_, rfl⟩
    rw [hW] at H15 H11 HA hb1 ⊢
    obtain ⟨N15, hN⟩ : ∃ N, w8.heap.size = N := ⟨_, rfl⟩
    rw [hN] at H15 ⊢
    clear hN hW oX
    replace HB := HB.below hb1
    replace hB0 : Below w.heap.size w w9 := hB0.trans (hb1.mono hB0.size)
    clear hb1
    clear w8
    have CX := cmpH H15 HA
    rw [show cmpI x x = 0 by unfold cmpI; rw [if_neg (by omega), if_neg (by omega)]] at CX
    refine CX.mono ?_
    rintro e w10 ⟨rfl, hb1⟩
    replace H11 := H11.below hb1
    replace HA := HA.below hb1
    replace HB := HB.below hb1
    replace hB0 : Below w.heap.size w w10 := hB0.trans (hb1.mono hB0.size)
    clear hb1
    clear H15 CX
    clear w9
    have q0 := HB.box.c0
    have q1 := HB.box.c1
    go_wp2_with fail
    clear q0 q1
    refine (cmp0 HB).mono ?_
    rintro e w11 ⟨rfl, hb1⟩
    replace H11 := H11.below hb1
    replace HA := HA.below hb1
    replace HB := HB.below hb1
    replace hB0 : Below w.heap.size w w11 := hB0.trans (hb1.mono hB0.size)
    clear hb1
    clear w10
    rcases hD.2 with ⟨d1, d2⟩ | ⟨d1, d2⟩
    · have e1 : cmpI y 0 = 1 := by unfold cmpI; rw [if_neg (by omega), if_pos (by omega)]
      rw [e1]
      clear e1
      have e3 : ¬ cmpI zr 0 < 0 := by unfold cmpI; rw [if_neg (by omega)]; split <;> omega
      have e4 : cmpI zr y = -1 := by unfold cmpI; rw [if_pos d2]
      have CB := cmpH H11 HB
      have q0 := H11.box.c0
      have q1 := H11.box.c1
      go_wp2_with fail
      clear q0 q1
      refine (cmp0 H11).mono ?_
      rintro e w12 ⟨rfl, hb1⟩
      obtain ⟨cr, hcr⟩ : ∃ c, cmpI zr 0 = c := ⟨_, rfl⟩
      rw [hcr] at e3 ⊢
      clear hcr CB
      replace H11 := H11.below hb1
      replace HA := HA.below hb1
      replace HB := HB.below hb1
      replace hB0 : Below w.heap.size w w12 := hB0.trans (hb1.mono hB0.size)
      clear hb1
      clear w11
      have CB := cmpH H11 HB
      rw [e4] at CB
      have q0 := H11.box.c0
      have q1 := H11.box.c1
      have q2 := HB.box.c0
      have q3 := HB.box.c1
      go_wp2_with fail
      clear q0 q1 q2 q3
      refine CB.mono ?_
      rintro e w13 ⟨rfl, hb1⟩
      replace H11 := H11.below hb1
      replace HA := HA.below hb1
      replace HB := HB.below hb1
      replace hB0 : Below w.heap.size w w13 := hB0.trans (hb1.mono hB0.size)
      clear hb1
      clear CB e4
      clear w12
      have q0 := HB.box.c0
      have q1 := HB.box.c1
      go_wp2_with fail
      clear q0 q1
      refine (cmp0 HB).mono ?_
      rintro e w14 ⟨rfl, hb1⟩
      rw [show cmpI y 0 = 1 by unfold cmpI; rw [if_neg (by omega), if_pos (by omega)]]
      replace H11 := H11.below hb1
      replace HA := HA.below hb1
      replace HB := HB.below hb1
      replace hB0 : Below w.heap.size w w14 := hB0.trans (hb1.mono hB0.size)
      clear hb1
      clear w13
      clear d1 d2
      clear hD hab H11 HB hp2 zy hy0
      by_cases hm : 1 ≤ m ∧ m ≤ 4611686018427387904
      · obtain ⟨k, rfl⟩ : ∃ k : Nat, m = (k : Int) := ⟨m.toNat, by omega⟩
        have t1 : ¬ (k : Int) < 1 := by omega
        have t2 : ¬ (4611686018427387904 : Int) < (k : Int) := by omega
        have hk : (1 : Int) ≤ (k : Int) := hm.1
        have hk2 : (k : Int) ≤ 4611686018427387904 := hm.2
        clear hm m1 m2
        have p0 := HA.box.c0
        have p1 := HA.box.c1
        go_upto_region 18 with fail
        go_cut [19, 20, 21] from 133 to 140 (fun _ v20 v21 W => ∃ N n a l c, v20 = .pointer (some ⟨N, 0, none⟩) ∧ v21 = .int .i64 0 ∧ Box2 W N n a l c ∧ IntIs w.heap.size W (.agg #[.bool n, .slice a l c]) (x % (k : Int)) ∧ Hd W w.heap.size na a0 l0 c0 xs x ∧ Below w.heap.size w W)
        case first =>
          have hk3 : ((k : Int)).natAbs < pw 256 := by
            have h1 : pw 2 ≤ pw 256 := pw_mono (by omega)
            have h2 : pw 2 = 18446744073709551616 := rfl
            omega
          refine wp_region_noPanic ?_
          refine wp_region_held_drew (S := fun W => W.cell? ⟨w.heap.size, 0, none⟩ = some (.bool na) ∧ W.cell? ⟨w.heap.size, 1, none⟩ = some (.slice a0 l0 c0)) (by kernel_rfl) ⟨p0, p1⟩ (fun _ => ?_)
          replace HA := HA.below below_drew
          replace hB0 : Below w.heap.size w w14.drew := hB0.drew
          clear p0 p1
          obtain ⟨W0, hW0⟩ : ∃ W, w14.drew = W := ⟨_, rfl⟩
          rw [hW0] at HA hB0 ⊢
          clear hW0
          refine wpAnyH_take (i := 0) (v := ?_) rfl (by kernel_rfl) (by kernel_rfl) (by kernel_rfl) (fun _ _ _ h => False.elim h) (Or.inl ⟨by rfl, ?hy⟩) ⟨HA.box.c0, HA.box.c1⟩ ?_
          case hy => (intro w hSw; (try dsimp only at hSw); go_simp; try with_reducible rfl)
          refine wpAnyH_take (i := 1) (v := ?_) rfl (by kernel_rfl) (by kernel_rfl) (by kernel_rfl) (fun _ _ _ h => False.elim h) (Or.inl ⟨by rfl, ?hy⟩) ⟨HA.box.c0, HA.box.c1⟩ ?_
          case hy => (intro w hSw; (try dsimp only at hSw); go_simp; try with_reducible rfl)
          refine wpAnyH_ready (rs := [2, 8, 9]) (by kernel_rfl) (by simp) ?_
          refine AllReadyH.cons rfl (fun K hK => ?_) ?_
          · go_simp
            refine (ofH (k : Int) _ hk3 (by omega) (by omega)).mono ?_
            rintro e w30 ⟨n30, a30, l30, c30, M30, rfl, O30, hb⟩
            replace HA := HA.below hb
            replace hB0 := hB0.trans (hb.mono hB0.size)
            clear hb
            refine hK.out _ _ ⟨HA.box.c0, HA.box.c1⟩ (fun _ => ?_)
            clear hK K
            refine wpAnyH_ready (rs := [3, 8, 9]) (by kernel_rfl) (by simp) ?_
            refine AllReadyH.cons rfl (fun K hK => ?_) ?_
            · go_simp
              refine (divC HA.sl HA.ok HA.le HA.num O30.sl O30.ok O30.le O30.num (by omega) hk3 (by omega)).mono ?_
              rintro e w31 ⟨n1, x1, y1, z1, n2, x2, y2, z2, zq, zr, rfl, hD, I1, I2, hb⟩
              rw [rest_of hD hk] at I2
              replace I2 := I2.mono hB0.size
              clear I1
              replace HA := HA.below hb
              replace O30 := O30.below hb
              replace hB0 := hB0.trans (hb.mono hB0.size)
              clear hb
              refine hK.out _ _ ⟨HA.box.c0, HA.box.c1⟩ (fun _ => ?_)
              clear hK K
              refine wpAnyH_take (i := 4) (v := ?_) rfl (by kernel_rfl) (by kernel_rfl) (by kernel_rfl) (fun _ _ _ h => False.elim h) (Or.inl ⟨by rfl, ?hy⟩) ⟨HA.box.c0, HA.box.c1⟩ ?_
              case hy => (intro w hSw; (try dsimp only at hSw); go_simp; try with_reducible rfl)
              refine wpAnyH_take (i := 5) (v := ?_) rfl (by kernel_rfl) (by kernel_rfl) (by kernel_rfl) (fun _ _ _ h => False.elim h) (Or.inl ⟨by rfl, ?hy⟩) ⟨HA.box.c0, HA.box.c1⟩ ?_
              case hy => (intro w hSw; (try dsimp only at hSw); go_simp; try with_reducible rfl)
              refine wpAnyH_take (i := 6) (v := ?_) rfl (by kernel_rfl) (by kernel_rfl) (by kernel_rfl) (fun _ _ _ h => False.elim h) (Or.inl ⟨by rfl, ?hy⟩) ⟨HA.box.c0, HA.box.c1⟩ ?_
              case hy => (intro w hSw; (try dsimp only at hSw); go_simp; try with_reducible rfl)
              refine wpAnyH_take (i := 7) (v := ?_) rfl (by kernel_rfl) (by kernel_rfl) (by kernel_rfl) (fun _ _ _ h => False.elim h) (Or.inl ⟨by rfl, ?hy⟩) ⟨HA.box.c0, HA.box.c1⟩ ?_
              case hy => (intro w hSw; (try dsimp only at hSw); go_simp; try with_reducible rfl)
              refine wpAnyH_ready (rs := [8, 9]) (by kernel_rfl) (by simp) ?_
              refine AllReadyH.cons rfl (fun K hK => ?_) ?_
              · go_simp
                obtain ⟨Wa0, hWn⟩ : ∃ W, World.alloc w31 (.cells #[.bool false, .slice none 0 0] 24) = W := ⟨_, rfl⟩
                have hb : Below w31.heap.size w31 Wa0 := by rw [← hWn]; exact below_alloc _ _
                have b8 : Box2 Wa0 w31.heap.size false none 0 0 := by rw [← hWn]; exact Box2.new _ _ _ _ _ _
                have lo8 : w.heap.size < w31.heap.size := HA.box.lt
                rw [hWn]
                obtain ⟨N19, hN⟩ : ∃ N, w31.heap.size = N := ⟨_, rfl⟩
                replace HA := HA.below hb
                replace O30 := O30.below hb
                replace I2 := I2.below hb
                replace hB0 := hB0.trans (hb.mono hB0.size)
                rw [hN] at b8 lo8 ⊢
                clear hN hWn hb
                refine hK.out _ _ ⟨HA.box.c0, HA.box.c1⟩ (fun _ => ?_)
                clear hK K
                refine wpAnyH_ready (rs := [9]) (by kernel_rfl) (by simp) ?_
                refine AllReadyH.cons rfl (fun K hK => ?_) ?_
                · go_simp
                  obtain ⟨Wa1, hWn⟩ : ∃ W, World.alloc Wa0 (.cells #[.bool false, .slice none 0 0] 24) = W := ⟨_, rfl⟩
                  have hb : Below Wa0.heap.size Wa0 Wa1 := by rw [← hWn]; exact below_alloc _ _
                  have b9 : Box2 Wa1 Wa0.heap.size false none 0 0 := by rw [← hWn]; exact Box2.new _ _ _ _ _ _
                  have lo9 : w.heap.size < Wa0.heap.size := HA.box.lt
                  have hne : N19 < Wa0.heap.size := b8.lt
                  rw [hWn]
                  obtain ⟨N20, hN⟩ : ∃ N, Wa0.heap.size = N := ⟨_, rfl⟩
                  replace HA := HA.below hb
                  replace O30 := O30.below hb
                  replace I2 := I2.below hb
                  replace b8 := b8.below hb
                  replace hB0 := hB0.trans (hb.mono hB0.size)
                  rw [hN] at b9 lo9 hne ⊢
                  clear hN hWn hb
                  refine hK.out _ _ ⟨HA.box.c0, HA.box.c1⟩ (fun _ => ?_)
                  clear hK K
                  refine wpAnyH_ready (rs := [10]) (by kernel_rfl) (by simp) ?_
                  refine AllReadyH.cons rfl (fun K hK => ?_) ?_
                  · have e0 := b8.c0
                    have e1 := b8.c1
                    have e2 := b8.f0
                    have e3 := b8.f1
                    go_simp
                    clear e0 e1 e2 e3
                    have HA2 : Hd (put2 Wa1 N19 n1 (.slice x1 y1 z1)) w.heap.size na a0 l0 c0 xs x := ⟨HA.box.putO (by omega) _ _, HA.sl.put b8 _ _, HA.ok, HA.le, HA.num⟩
                    have I3 := I2.put b8 n1 (.slice x1 y1 z1)
                    have b92 := b9.putO (M := N19) (by omega) n1 (.slice x1 y1 z1)
                    have hB2 := below_put2 (N := N19) hB0 (by omega) n1 (.slice x1 y1 z1)
                    obtain ⟨Wp2, hWp⟩ : ∃ W, (Wa1.setCell ⟨N19, 0, none⟩ (.bool n1)).setCell ⟨N19, 1, none⟩ (.slice x1 y1 z1) = W := ⟨_, rfl⟩
                    have hWq : put2 Wa1 N19 n1 (.slice x1 y1 z1) = Wp2 := hWp
                    rw [hWq] at HA2 I3 b92 hB2
                    rw [hWp]
                    clear hWp hWq HA I2 b9 hB0
                    have HA := HA2
                    have I2 := I3
                    have b9 := b92
                    have hB0 := hB2
                    clear HA2 I3 b92 hB2
                    refine hK.out _ _ ⟨HA.box.c0, HA.box.c1⟩ (fun _ => ?_)
                    clear hK K
                    refine wpAnyH_ready (rs := [11]) (by kernel_rfl) (by simp) ?_
                    refine AllReadyH.cons rfl (fun K hK => ?_) ?_
                    · have e0 := b9.c0
                      have e1 := b9.c1
                      have e2 := b9.f0
                      have e3 := b9.f1
                      go_simp
                      clear e0 e1 e2 e3
                      have HA2 : Hd (put2 Wp2 N20 n2 (.slice x2 y2 z2)) w.heap.size na a0 l0 c0 xs x := ⟨HA.box.putO (by omega) _ _, HA.sl.put b9 _ _, HA.ok, HA.le, HA.num⟩
                      have I3 := I2.put b9 n2 (.slice x2 y2 z2)
                      have b92 := b9.put n2 x2 y2 z2
                      have hB2 := below_put2 (N := N20) hB0 (by omega) n2 (.slice x2 y2 z2)
                      obtain ⟨Wp3, hWp⟩ : ∃ W, (Wp2.setCell ⟨N20, 0, none⟩ (.bool n2)).setCell ⟨N20, 1, none⟩ (.slice x2 y2 z2) = W := ⟨_, rfl⟩
                      have hWq : put2 Wp2 N20 n2 (.slice x2 y2 z2) = Wp3 := hWp
                      rw [hWq] at HA2 I3 b92 hB2
                      rw [hWp]
                      clear hWp hWq HA I2 b9 hB0
                      have HA := HA2
                      have I2 := I3
                      have b9 := b92
                      have hB0 := hB2
                      clear HA2 I3 b92 hB2
                      refine hK.out _ _ ⟨HA.box.c0, HA.box.c1⟩ (fun _ => ?_)
                      clear hK K
                      refine wpAnyH_ready (rs := [12]) (by kernel_rfl) (by simp) ?_
                      refine AllReadyH.cons rfl (fun K hK => ?_) ?_
                      · go_simp
                        refine hK.out _ _ ⟨HA.box.c0, HA.box.c1⟩ (fun _ => ?_)
                        clear hK K
                        refine wpAnyH_done (by kernel_rfl) ?_ _
                        refine NoPanic.normal ?_
                        go_wp2_with fail
                        go_meet
                        case rel => exact ⟨N20, n2, x2, y2, z2, rfl, rfl, b9, I2, HA, hB0⟩
                      exact AllReadyH.nil
                    exact AllReadyH.nil
                  exact AllReadyH.nil
                exact AllReadyH.nil
              refine AllReadyH.cons rfl (fun K hK => ?_) ?_
              · go_simp
                obtain ⟨Wa0, hWn⟩ : ∃ W, World.alloc w31 (.cells #[.bool false, .slice none 0 0] 24) = W := ⟨_, rfl⟩
                have hb : Below w31.heap.size w31 Wa0 := by rw [← hWn]; exact below_alloc _ _
                have b9 : Box2 Wa0 w31.heap.size false none 0 0 := by rw [← hWn]; exact Box2.new _ _ _ _ _ _
                have lo9 : w.heap.size < w31.heap.size := HA.box.lt
                rw [hWn]
                obtain ⟨N20, hN⟩ : ∃ N, w31.heap.size = N := ⟨_, rfl⟩
                replace HA := HA.below hb
                replace O30 := O30.below hb
                replace I2 := I2.below hb
                replace hB0 := hB0.trans (hb.mono hB0.size)
                rw [hN] at b9 lo9 ⊢
                clear hN hWn hb
                refine hK.out _ _ ⟨HA.box.c0, HA.box.c1⟩ (fun _ => ?_)
                clear hK K
                refine wpAnyH_ready (rs := [8]) (by kernel_rfl) (by simp) ?_
                refine AllReadyH.cons rfl (fun K hK => ?_) ?_
                · go_simp
                  obtain ⟨Wa1, hWn⟩ : ∃ W, World.alloc Wa0 (.cells #[.bool false, .slice none 0 0] 24) = W := ⟨_, rfl⟩
                  have hb : Below Wa0.heap.size Wa0 Wa1 := by rw [← hWn]; exact below_alloc _ _
                  have b8 : Box2 Wa1 Wa0.heap.size false none 0 0 := by rw [← hWn]; exact Box2.new _ _ _ _ _ _
                  have lo8 : w.heap.size < Wa0.heap.size := HA.box.lt
                  have hne : N20 < Wa0.heap.size := b9.lt
                  rw [hWn]
                  obtain ⟨N19, hN⟩ : ∃ N, Wa0.heap.size = N := ⟨_, rfl⟩
                  replace HA := HA.below hb
                  replace O30 := O30.below hb
                  replace I2 := I2.below hb
                  replace b9 := b9.below hb
                  replace hB0 := hB0.trans (hb.mono hB0.size)
                  rw [hN] at b8 lo8 hne ⊢
                  clear hN hWn hb
                  refine hK.out _ _ ⟨HA.box.c0, HA.box.c1⟩ (fun _ => ?_)
                  clear hK K
                  refine wpAnyH_ready (rs := [10]) (by kernel_rfl) (by simp) ?_
                  refine AllReadyH.cons rfl (fun K hK => ?_) ?_
                  · have e0 := b8.c0
                    have e1 := b8.c1
                    have e2 := b8.f0
                    have e3 := b8.f1
                    go_simp
                    clear e0 e1 e2 e3
                    have HA2 : Hd (put2 Wa1 N19 n1 (.slice x1 y1 z1)) w.heap.size na a0 l0 c0 xs x := ⟨HA.box.putO (by omega) _ _, HA.sl.put b8 _ _, HA.ok, HA.le, HA.num⟩
                    have I3 := I2.put b8 n1 (.slice x1 y1 z1)
                    have b92 := b9.putO (M := N19) (by omega) n1 (.slice x1 y1 z1)
                    have hB2 := below_put2 (N := N19) hB0 (by omega) n1 (.slice x1 y1 z1)
                    obtain ⟨Wp2, hWp⟩ : ∃ W, (Wa1.setCell ⟨N19, 0, none⟩ (.bool n1)).setCell ⟨N19, 1, none⟩ (.slice x1 y1 z1) = W := ⟨_, rfl⟩
                    have hWq : put2 Wa1 N19 n1 (.slice x1 y1 z1) = Wp2 := hWp
                    rw [hWq] at HA2 I3 b92 hB2
                    rw [hWp]
                    clear hWp hWq HA I2 b9 hB0
                    have HA := HA2
                    have I2 := I3
                    have b9 := b92
                    have hB0 := hB2
                    clear HA2 I3 b92 hB2
                    refine hK.out _ _ ⟨HA.box.c0, HA.box.c1⟩ (fun _ => ?_)
                    clear hK K
                    refine wpAnyH_ready (rs := [11]) (by kernel_rfl) (by simp) ?_
                    refine AllReadyH.cons rfl (fun K hK => ?_) ?_
                    · have e0 := b9.c0
                      have e1 := b9.c1
                      have e2 := b9.f0
                      have e3 := b9.f1
                      go_simp
                      clear e0 e1 e2 e3
                      have HA2 : Hd (put2 Wp2 N20 n2 (.slice x2 y2 z2)) w.heap.size na a0 l0 c0 xs x := ⟨HA.box.putO (by omega) _ _, HA.sl.put b9 _ _, HA.ok, HA.le, HA.num⟩
                      have I3 := I2.put b9 n2 (.slice x2 y2 z2)
                      have b92 := b9.put n2 x2 y2 z2
                      have hB2 := below_put2 (N := N20) hB0 (by omega) n2 (.slice x2 y2 z2)
                      obtain ⟨Wp3, hWp⟩ : ∃ W, (Wp2.setCell ⟨N20, 0, none⟩ (.bool n2)).setCell ⟨N20, 1, none⟩ (.slice x2 y2 z2) = W := ⟨_, rfl⟩
                      have hWq : put2 Wp2 N20 n2 (.slice x2 y2 z2) = Wp3 := hWp
                      rw [hWq] at HA2 I3 b92 hB2
                      rw [hWp]
                      clear hWp hWq HA I2 b9 hB0
                      have HA := HA2
                      have I2 := I3
                      have b9 := b92
                      have hB0 := hB2
                      clear HA2 I3 b92 hB2
                      refine hK.out _ _ ⟨HA.box.c0, HA.box.c1⟩ (fun _ => ?_)
                      clear hK K
                      refine wpAnyH_ready (rs := [12]) (by kernel_rfl) (by simp) ?_
                      refine AllReadyH.cons rfl (fun K hK => ?_) ?_
                      · go_simp
                        refine hK.out _ _ ⟨HA.box.c0, HA.box.c1⟩ (fun _ => ?_)
                        clear hK K
                        refine wpAnyH_done (by kernel_rfl) ?_ _
                        refine NoPanic.normal ?_
                        go_wp2_with fail
                        go_meet
                        case rel => exact ⟨N20, n2, x2, y2, z2, rfl, rfl, b9, I2, HA, hB0⟩
                      exact AllReadyH.nil
                    exact AllReadyH.nil
                  exact AllReadyH.nil
                exact AllReadyH.nil
              exact AllReadyH.nil
            refine AllReadyH.cons rfl (fun K hK => ?_) ?_
            · go_simp
              obtain ⟨Wa0, hWn⟩ : ∃ W, World.alloc w30 (.cells #[.bool false, .slice none 0 0] 24) = W := ⟨_, rfl⟩
              have hb : Below w30.heap.size w30 Wa0 := by rw [← hWn]; exact below_alloc _ _
              have b8 : Box2 Wa0 w30.heap.size false none 0 0 := by rw [← hWn]; exact Box2.new _ _ _ _ _ _
              have lo8 : w.heap.size < w30.heap.size := HA.box.lt
              rw [hWn]
              obtain ⟨N19, hN⟩ : ∃ N, w30.heap.size = N := ⟨_, rfl⟩
              replace HA := HA.below hb
              replace O30 := O30.below hb
              replace hB0 := hB0.trans (hb.mono hB0.size)
              rw [hN] at b8 lo8 ⊢
              clear hN hWn hb
              refine hK.out _ _ ⟨HA.box.c0, HA.box.c1⟩ (fun _ => ?_)
              clear hK K
              refine wpAnyH_ready (rs := [3, 9]) (by kernel_rfl) (by simp) ?_
              refine AllReadyH.cons rfl (fun K hK => ?_) ?_
              · go_simp
                refine (divC HA.sl HA.ok HA.le HA.num O30.sl O30.ok O30.le O30.num (by omega) hk3 (by omega)).mono ?_
                rintro e w31 ⟨n1, x1, y1, z1, n2, x2, y2, z2, zq, zr, rfl, hD, I1, I2, hb⟩
                rw [rest_of hD hk] at I2
                replace I2 := I2.mono hB0.size
                clear I1
                replace HA := HA.below hb
                replace O30 := O30.below hb
                replace b8 := b8.below hb
                replace hB0 := hB0.trans (hb.mono hB0.size)
                clear hb
                refine hK.out _ _ ⟨HA.box.c0, HA.box.c1⟩ (fun _ => ?_)
                clear hK K
                refine wpAnyH_take (i := 4) (v := ?_) rfl (by kernel_rfl) (by kernel_rfl) (by kernel_rfl) (fun _ _ _ h => False.elim h) (Or.inl ⟨by rfl, ?hy⟩) ⟨HA.box.c0, HA.box.c1⟩ ?_
                case hy => (intro w hSw; (try dsimp only at hSw); go_simp; try with_reducible rfl)
                refine wpAnyH_take (i := 5) (v := ?_) rfl (by kernel_rfl) (by kernel_rfl) (by kernel_rfl) (fun _ _ _ h => False.elim h) (Or.inl ⟨by rfl, ?hy⟩) ⟨HA.box.c0, HA.box.c1⟩ ?_
                case hy => (intro w hSw; (try dsimp only at hSw); go_simp; try with_reducible rfl)
                refine wpAnyH_take (i := 6) (v := ?_) rfl (by kernel_rfl) (by kernel_rfl) (by kernel_rfl) (fun _ _ _ h => False.elim h) (Or.inl ⟨by rfl, ?hy⟩) ⟨HA.box.c0, HA.box.c1⟩ ?_
                case hy => (intro w hSw; (try dsimp only at hSw); go_simp; try with_reducible rfl)
                refine wpAnyH_take (i := 7) (v := ?_) rfl (by kernel_rfl) (by kernel_rfl) (by kernel_rfl) (fun _ _ _ h => False.elim h) (Or.inl ⟨by rfl, ?hy⟩) ⟨HA.box.c0, HA.box.c1⟩ ?_
                case hy => (intro w hSw; (try dsimp only at hSw); go_simp; try with_reducible rfl)
                refine wpAnyH_ready (rs := [9]) (by kernel_rfl) (by simp) ?_
                refine AllReadyH.cons rfl (fun K hK => ?_) ?_
                · go_simp
                  obtain ⟨Wa1, hWn⟩ : ∃ W, World.alloc w31 (.cells #[.bool false, .slice none 0 0] 24) = W := ⟨_, rfl⟩
                  have hb : Below w31.heap.size w31 Wa1 := by rw [← hWn]; exact below_alloc _ _
                  have b9 : Box2 Wa1 w31.heap.size false none 0 0 := by rw [← hWn]; exact Box2.new _ _ _ _ _ _
                  have lo9 : w.heap.size < w31.heap.size := HA.box.lt
                  have hne : N19 < w31.heap.size := b8.lt
                  rw [hWn]
                  obtain ⟨N20, hN⟩ : ∃ N, w31.heap.size = N := ⟨_, rfl⟩
                  replace HA := HA.below hb
                  replace O30 := O30.below hb
                  replace I2 := I2.below hb
                  replace b8 := b8.below hb
                  replace hB0 := hB0.trans (hb.mono hB0.size)
                  rw [hN] at b9 lo9 hne ⊢
                  clear hN hWn hb
                  refine hK.out _ _ ⟨HA.box.c0, HA.box.c1⟩ (fun _ => ?_)
                  clear hK K
                  refine wpAnyH_ready (rs := [10]) (by kernel_rfl) (by simp) ?_
                  refine AllReadyH.cons rfl (fun K hK => ?_) ?_
                  · have e0 := b8.c0
                    have e1 := b8.c1
                    have e2 := b8.f0
                    have e3 := b8.f1
                    go_simp
                    clear e0 e1 e2 e3
                    have HA2 : Hd (put2 Wa1 N19 n1 (.slice x1 y1 z1)) w.heap.size na a0 l0 c0 xs x := ⟨HA.box.putO (by omega) _ _, HA.sl.put b8 _ _, HA.ok, HA.le, HA.num⟩
                    have I3 := I2.put b8 n1 (.slice x1 y1 z1)
                    have b92 := b9.putO (M := N19) (by omega) n1 (.slice x1 y1 z1)
                    have hB2 := below_put2 (N := N19) hB0 (by omega) n1 (.slice x1 y1 z1)
                    obtain ⟨Wp2, hWp⟩ : ∃ W, (Wa1.setCell ⟨N19, 0, none⟩ (.bool n1)).setCell ⟨N19, 1, none⟩ (.slice x1 y1 z1) = W := ⟨_, rfl⟩
                    have hWq : put2 Wa1 N19 n1 (.slice x1 y1 z1) = Wp2 := hWp
                    rw [hWq] at HA2 I3 b92 hB2
                    rw [hWp]
                    clear hWp hWq HA I2 b9 hB0
                    have HA := HA2
                    have I2 := I3
                    have b9 := b92
                    have hB0 := hB2
                    clear HA2 I3 b92 hB2
                    refine hK.out _ _ ⟨HA.box.c0, HA.box.c1⟩ (fun _ => ?_)
                    clear hK K
                    refine wpAnyH_ready (rs := [11]) (by kernel_rfl) (by simp) ?_
                    refine AllReadyH.cons rfl (fun K hK => ?_) ?_
                    · have e0 := b9.c0
                      have e1 := b9.c1
                      have e2 := b9.f0
                      have e3 := b9.f1
                      go_simp
                      clear e0 e1 e2 e3
                      have HA2 : Hd (put2 Wp2 N20 n2 (.slice x2 y2 z2)) w.heap.size na a0 l0 c0 xs x := ⟨HA.box.putO (by omega) _ _, HA.sl.put b9 _ _, HA.ok, HA.le, HA.num⟩
                      have I3 := I2.put b9 n2 (.slice x2 y2 z2)
                      have b92 := b9.put n2 x2 y2 z2
                      have hB2 := below_put2 (N := N20) hB0 (by omega) n2 (.slice x2 y2 z2)
                      obtain ⟨Wp3, hWp⟩ : ∃ W, (Wp2.setCell ⟨N20, 0, none⟩ (.bool n2)).setCell ⟨N20, 1, none⟩ (.slice x2 y2 z2) = W := ⟨_, rfl⟩
                      have hWq : put2 Wp2 N20 n2 (.slice x2 y2 z2) = Wp3 := hWp
                      rw [hWq] at HA2 I3 b92 hB2
                      rw [hWp]
                      clear hWp hWq HA I2 b9 hB0
                      have HA := HA2
                      have I2 := I3
                      have b9 := b92
                      have hB0 := hB2
                      clear HA2 I3 b92 hB2
                      refine hK.out _ _ ⟨HA.box.c0, HA.box.c1⟩ (fun _ => ?_)
                      clear hK K
                      refine wpAnyH_ready (rs := [12]) (by kernel_rfl) (by simp) ?_
                      refine AllReadyH.cons rfl (fun K hK => ?_) ?_
                      · go_simp
                        refine hK.out _ _ ⟨HA.box.c0, HA.box.c1⟩ (fun _ => ?_)
                        clear hK K
                        refine wpAnyH_done (by kernel_rfl) ?_ _
                        refine NoPanic.normal ?_
                        go_wp2_with fail
                        go_meet
                        case rel => exact ⟨N20, n2, x2, y2, z2, rfl, rfl, b9, I2, HA, hB0⟩
                      exact AllReadyH.nil
                    exact AllReadyH.nil
                  exact AllReadyH.nil
                exact AllReadyH.nil
              refine AllReadyH.cons rfl (fun K hK => ?_) ?_
              · go_simp
                obtain ⟨Wa1, hWn⟩ : ∃ W, World.alloc Wa0 (.cells #[.bool false, .slice none 0 0] 24) = W := ⟨_, rfl⟩
                have hb : Below Wa0.heap.size Wa0 Wa1 := by rw [← hWn]; exact below_alloc _ _
                have b9 : Box2 Wa1 Wa0.heap.size false none 0 0 := by rw [← hWn]; exact Box2.new _ _ _ _ _ _
                have lo9 : w.heap.size < Wa0.heap.size := HA.box.lt
                have hne : N19 < Wa0.heap.size := b8.lt
                rw [hWn]
                obtain ⟨N20, hN⟩ : ∃ N, Wa0.heap.size = N := ⟨_, rfl⟩
                replace HA := HA.below hb
                replace O30 := O30.below hb
                replace b8 := b8.below hb
                replace hB0 := hB0.trans (hb.mono hB0.size)
                rw [hN] at b9 lo9 hne ⊢
                clear hN hWn hb
                refine hK.out _ _ ⟨HA.box.c0, HA.box.c1⟩ (fun _ => ?_)
                clear hK K
                refine wpAnyH_ready (rs := [3]) (by kernel_rfl) (by simp) ?_
                refine AllReadyH.cons rfl (fun K hK => ?_) ?_
                · go_simp
                  refine (divC HA.sl HA.ok HA.le HA.num O30.sl O30.ok O30.le O30.num (by omega) hk3 (by omega)).mono ?_
                  rintro e w31 ⟨n1, x1, y1, z1, n2, x2, y2, z2, zq, zr, rfl, hD, I1, I2, hb⟩
                  rw [rest_of hD hk] at I2
                  replace I2 := I2.mono hB0.size
                  clear I1
                  replace HA := HA.below hb
                  replace O30 := O30.below hb
                  replace b8 := b8.below hb
                  replace b9 := b9.below hb
                  replace hB0 := hB0.trans (hb.mono hB0.size)
                  clear hb
                  refine hK.out _ _ ⟨HA.box.c0, HA.box.c1⟩ (fun _ => ?_)
                  clear hK K
                  refine wpAnyH_take (i := 4) (v := ?_) rfl (by kernel_rfl) (by kernel_rfl) (by kernel_rfl) (fun _ _ _ h => False.elim h) (Or.inl ⟨by rfl, ?hy⟩) ⟨HA.box.c0, HA.box.c1⟩ ?_
                  case hy => (intro w hSw; (try dsimp only at hSw); go_simp; try with_reducible rfl)
                  refine wpAnyH_take (i := 5) (v := ?_) rfl (by kernel_rfl) (by kernel_rfl) (by kernel_rfl) (fun _ _ _ h => False.elim h) (Or.inl ⟨by rfl, ?hy⟩) ⟨HA.box.c0, HA.box.c1⟩ ?_
                  case hy => (intro w hSw; (try dsimp only at hSw); go_simp; try with_reducible rfl)
                  refine wpAnyH_take (i := 6) (v := ?_) rfl (by kernel_rfl) (by kernel_rfl) (by kernel_rfl) (fun _ _ _ h => False.elim h) (Or.inl ⟨by rfl, ?hy⟩) ⟨HA.box.c0, HA.box.c1⟩ ?_
                  case hy => (intro w hSw; (try dsimp only at hSw); go_simp; try with_reducible rfl)
                  refine wpAnyH_take (i := 7) (v := ?_) rfl (by kernel_rfl) (by kernel_rfl) (by kernel_rfl) (fun _ _ _ h => False.elim h) (Or.inl ⟨by rfl, ?hy⟩) ⟨HA.box.c0, HA.box.c1⟩ ?_
                  case hy => (intro w hSw; (try dsimp only at hSw); go_simp; try with_reducible rfl)
                  refine wpAnyH_ready (rs := [10]) (by kernel_rfl) (by simp) ?_
                  refine AllReadyH.cons rfl (fun K hK => ?_) ?_
                  · have e0 := b8.c0
                    have e1 := b8.c1
                    have e2 := b8.f0
                    have e3 := b8.f1
                    go_simp
                    clear e0 e1 e2 e3
                    have HA2 : Hd (put2 w31 N19 n1 (.slice x1 y1 z1)) w.heap.size na a0 l0 c0 xs x := ⟨HA.box.putO (by omega) _ _, HA.sl.put b8 _ _, HA.ok, HA.le, HA.num⟩
                    have I3 := I2.put b8 n1 (.slice x1 y1 z1)
                    have b92 := b9.putO (M := N19) (by omega) n1 (.slice x1 y1 z1)
                    have hB2 := below_put2 (N := N19) hB0 (by omega) n1 (.slice x1 y1 z1)
                    obtain ⟨Wp2, hWp⟩ : ∃ W, (w31.setCell ⟨N19, 0, none⟩ (.bool n1)).setCell ⟨N19, 1, none⟩ (.slice x1 y1 z1) = W := ⟨_, rfl⟩
                    have hWq : put2 w31 N19 n1 (.slice x1 y1 z1) = Wp2 := hWp
                    rw [hWq] at HA2 I3 b92 hB2
                    rw [hWp]
                    clear hWp hWq HA I2 b9 hB0
                    have HA := HA2
                    have I2 := I3
                    have b9 := b92
                    have hB0 := hB2
                    clear HA2 I3 b92 hB2
                    refine hK.out _ _ ⟨HA.box.c0, HA.box.c1⟩ (fun _ => ?_)
                    clear hK K
                    refine wpAnyH_ready (rs := [11]) (by kernel_rfl) (by simp) ?_
                    refine AllReadyH.cons rfl (fun K hK => ?_) ?_
                    · have e0 := b9.c0
                      have e1 := b9.c1
                      have e2 := b9.f0
                      have e3 := b9.f1
                      go_simp
                      clear e0 e1 e2 e3
                      have HA2 : Hd (put2 Wp2 N20 n2 (.slice x2 y2 z2)) w.heap.size na a0 l0 c0 xs x := ⟨HA.box.putO (by omega) _ _, HA.sl.put b9 _ _, HA.ok, HA.le, HA.num⟩
                      have I3 := I2.put b9 n2 (.slice x2 y2 z2)
                      have b92 := b9.put n2 x2 y2 z2
                      have hB2 := below_put2 (N := N20) hB0 (by omega) n2 (.slice x2 y2 z2)
                      obtain ⟨Wp3, hWp⟩ : ∃ W, (Wp2.setCell ⟨N20, 0, none⟩ (.bool n2)).setCell ⟨N20, 1, none⟩ (.slice x2 y2 z2) = W := ⟨_, rfl⟩
                      have hWq : put2 Wp2 N20 n2 (.slice x2 y2 z2) = Wp3 := hWp
                      rw [hWq] at HA2 I3 b92 hB2
                      rw [hWp]
                      clear hWp hWq HA I2 b9 hB0
                      have HA := HA2
                      have I2 := I3
                      have b9 := b92
                      have hB0 := hB2
                      clear HA2 I3 b92 hB2
                      refine hK.out _ _ ⟨HA.box.c0, HA.box.c1⟩ (fun _ => ?_)
                      clear hK K
                      refine wpAnyH_ready (rs := [12]) (by kernel_rfl) (by simp) ?_
                      refine AllReadyH.cons rfl (fun K hK => ?_) ?_
                      · go_simp
                        refine hK.out _ _ ⟨HA.box.c0, HA.box.c1⟩ (fun _ => ?_)
                        clear hK K
                        refine wpAnyH_done (by kernel_rfl) ?_ _
                        refine NoPanic.normal ?_
                        go_wp2_with fail
                        go_meet
                        case rel => exact ⟨N20, n2, x2, y2, z2, rfl, rfl, b9, I2, HA, hB0⟩
                      exact AllReadyH.nil
                    exact AllReadyH.nil
                  exact AllReadyH.nil
                exact AllReadyH.nil
              exact AllReadyH.nil
            refine AllReadyH.cons rfl (fun K hK => ?_) ?_
            · go_simp
              obtain ⟨Wa0, hWn⟩ : ∃ W, World.alloc w30 (.cells #[.bool false, .slice none 0 0] 24) = W := ⟨_, rfl⟩
              have hb : Below w30.heap.size w30 Wa0 := by rw [← hWn]; exact below_alloc _ _
              have b9 : Box2 Wa0 w30.heap.size false none 0 0 := by rw [← hWn]; exact Box2.new _ _ _ _ _ _
              have lo9 : w.heap.size < w30.heap.size := HA.box.lt
              rw [hWn]
              obtain ⟨N20, hN⟩ : ∃ N, w30.heap.size = N := ⟨_, rfl⟩
              replace HA := HA.below hb
              replace O30 := O30.below hb
              replace hB0 := hB0.trans (hb.mono hB0.size)
              rw [hN] at b9 lo9 ⊢
              clear hN hWn hb
              refine hK.out _ _ ⟨HA.box.c0, HA.box.c1⟩ (fun _ => ?_)
              clear hK K
              refine wpAnyH_ready (rs := [3, 8]) (by kernel_rfl) (by simp) ?_
              refine AllReadyH.cons rfl (fun K hK => ?_) ?_
              · go_simp
                refine (divC HA.sl HA.ok HA.le HA.num O30.sl O30.ok O30.le O30.num (by omega) hk3 (by omega)).mono ?_
                rintro e w31 ⟨n1, x1, y1, z1, n2, x2, y2, z2, zq, zr, rfl, hD, I1, I2, hb⟩
                rw [rest_of hD hk] at I2
                replace I2 := I2.mono hB0.size
                clear I1
                replace HA := HA.below hb
                replace O30 := O30.below hb
                replace b9 := b9.below hb
                replace hB0 := hB0.trans (hb.mono hB0.size)
                clear hb
                refine hK.out _ _ ⟨HA.box.c0, HA.box.c1⟩ (fun _ => ?_)
                clear hK K
                refine wpAnyH_take (i := 4) (v := ?_) rfl (by kernel_rfl) (by kernel_rfl) (by kernel_rfl) (fun _ _ _ h => False.elim h) (Or.inl ⟨by rfl, ?hy⟩) ⟨HA.box.c0, HA.box.c1⟩ ?_
                case hy => (intro w hSw; (try dsimp only at hSw); go_simp; try with_reducible rfl)
                refine wpAnyH_take (i := 5) (v := ?_) rfl (by kernel_rfl) (by kernel_rfl) (by kernel_rfl) (fun _ _ _ h => False.elim h) (Or.inl ⟨by rfl, ?hy⟩) ⟨HA.box.c0, HA.box.c1⟩ ?_
                case hy => (intro w hSw; (try dsimp only at hSw); go_simp; try with_reducible rfl)
                refine wpAnyH_take (i := 6) (v := ?_) rfl (by kernel_rfl) (by kernel_rfl) (by kernel_rfl) (fun _ _ _ h => False.elim h) (Or.inl ⟨by rfl, ?hy⟩) ⟨HA.box.c0, HA.box.c1⟩ ?_
                case hy => (intro w hSw; (try dsimp only at hSw); go_simp; try with_reducible rfl)
                refine wpAnyH_take (i := 7) (v := ?_) rfl (by kernel_rfl) (by kernel_rfl) (by kernel_rfl) (fun _ _ _ h => False.elim h) (Or.inl ⟨by rfl, ?hy⟩) ⟨HA.box.c0, HA.box.c1⟩ ?_
                case hy => (intro w hSw; (try dsimp only at hSw); go_simp; try with_reducible rfl)
                refine wpAnyH_ready (rs := [8]) (by kernel_rfl) (by simp) ?_
                refine AllReadyH.cons rfl (fun K hK => ?_) ?_
                · go_simp
                  obtain ⟨Wa1, hWn⟩ : ∃ W, World.alloc w31 (.cells #[.bool false, .slice none 0 0] 24) = W := ⟨_, rfl⟩
                  have hb : Below w31.heap.size w31 Wa1 := by rw [← hWn]; exact below_alloc _ _
                  have b8 : Box2 Wa1 w31.heap.size false none 0 0 := by rw [← hWn]; exact Box2.new _ _ _ _ _ _
                  have lo8 : w.heap.size < w31.heap.size := HA.box.lt
                  have hne : N20 < w31.heap.size := b9.lt
                  rw [hWn]
                  obtain ⟨N19, hN⟩ : ∃ N, w31.heap.size = N := ⟨_, rfl⟩
                  replace HA := HA.below hb
                  replace O30 := O30.below hb
                  replace I2 := I2.below hb
                  replace b9 := b9.below hb
                  replace hB0 := hB0.trans (hb.mono hB0.size)
                  rw [hN] at b8 lo8 hne ⊢
                  clear hN hWn hb
                  refine hK.out _ _ ⟨HA.box.c0, HA.box.c1⟩ (fun _ => ?_)
                  clear hK K
                  refine wpAnyH_ready (rs := [10]) (by kernel_rfl) (by simp) ?_
                  refine AllReadyH.cons rfl (fun K hK => ?_) ?_
                  · have e0 := b8.c0
                    have e1 := b8.c1
                    have e2 := b8.f0
                    have e3 := b8.f1
                    go_simp
                    clear e0 e1 e2 e3
                    have HA2 : Hd (put2 Wa1 N19 n1 (.slice x1 y1 z1)) w.heap.size na a0 l0 c0 xs x := ⟨HA.box.putO (by omega) _ _, HA.sl.put b8 _ _, HA.ok, HA.le, HA.num⟩
                    have I3 := I2.put b8 n1 (.slice x1 y1 z1)
                    have b92 := b9.putO (M := N19) (by omega) n1 (.slice x1 y1 z1)
                    have hB2 := below_put2 (N := N19) hB0 (by omega) n1 (.slice x1 y1 z1)
                    obtain ⟨Wp2, hWp⟩ : ∃ W, (Wa1.setCell ⟨N19, 0, none⟩ (.bool n1)).setCell ⟨N19, 1, none⟩ (.slice x1 y1 z1) = W := ⟨_, rfl⟩
                    have hWq : put2 Wa1 N19 n1 (.slice x1 y1 z1) = Wp2 := hWp
                    rw [hWq] at HA2 I3 b92 hB2
                    rw [hWp]
                    clear hWp hWq HA I2 b9 hB0
                    have HA := HA2
                    have I2 := I3
                    have b9 := b92
                    have hB0 := hB2
                    clear HA2 I3 b92 hB2
                    refine hK.out _ _ ⟨HA.box.c0, HA.box.c1⟩ (fun _ => ?_)
                    clear hK K
                    refine wpAnyH_ready (rs := [11]) (by kernel_rfl) (by simp) ?_
                    refine AllReadyH.cons rfl (fun K hK => ?_) ?_
                    · have e0 := b9.c0
                      have e1 := b9.c1
                      have e2 := b9.f0
                      have e3 := b9.f1
                      go_simp
                      clear e0 e1 e2 e3
                      have HA2 : Hd (put2 Wp2 N20 n2 (.slice x2 y2 z2)) w.heap.size na a0 l0 c0 xs x := ⟨HA.box.putO (by omega) _ _, HA.sl.put b9 _ _, HA.ok, HA.le, HA.num⟩
                      have I3 := I2.put b9 n2 (.slice x2 y2 z2)
                      have b92 := b9.put n2 x2 y2 z2
                      have hB2 := below_put2 (N := N20) hB0 (by omega) n2 (.slice x2 y2 z2)
                      obtain ⟨Wp3, hWp⟩ : ∃ W, (Wp2.setCell ⟨N20, 0, none⟩ (.bool n2)).setCell ⟨N20, 1, none⟩ (.slice x2 y2 z2) = W := ⟨_, rfl⟩
                      have hWq : put2 Wp2 N20 n2 (.slice x2 y2 z2) = Wp3 := hWp
                      rw [hWq] at HA2 I3 b92 hB2
                      rw [hWp]
                      clear hWp hWq HA I2 b9 hB0
                      have HA := HA2
                      have I2 := I3
                      have b9 := b92
                      have hB0 := hB2
                      clear HA2 I3 b92 hB2
                      refine hK.out _ _ ⟨HA.box.c0, HA.box.c1⟩ (fun _ => ?_)
                      clear hK K
                      refine wpAnyH_ready (rs := [12]) (by kernel_rfl) (by simp) ?_
                      refine AllReadyH.cons rfl (fun K hK => ?_) ?_
                      · go_simp
                        refine hK.out _ _ ⟨HA.box.c0, HA.box.c1⟩ (fun _ => ?_)
                        clear hK K
                        refine wpAnyH_done (by kernel_rfl) ?_ _
                        refine NoPanic.normal ?_
                        go_wp2_with fail
                        go_meet
                        case rel => exact ⟨N20, n2, x2, y2, z2, rfl, rfl, b9, I2, HA, hB0⟩
                      exact AllReadyH.nil
                    exact AllReadyH.nil
                  exact AllReadyH.nil
                exact AllReadyH.nil
              refine AllReadyH.cons rfl (fun K hK => ?_) ?_
              · go_simp
                obtain ⟨Wa1, hWn⟩ : ∃ W, World.alloc Wa0 (.cells #[.bool false, .slice none 0 0] 24) = W := ⟨_, rfl⟩
                have hb : Below Wa0.heap.size Wa0 Wa1 := by rw [← hWn]; exact below_alloc _ _
                have b8 : Box2 Wa1 Wa0.heap.size false none 0 0 := by rw [← hWn]; exact Box2.new _ _ _ _ _ _
                have lo8 : w.heap.size < Wa0.heap.size := HA.box.lt
                have hne : N20 < Wa0.heap.size := b9.lt
                rw [hWn]
                obtain ⟨N19, hN⟩ : ∃ N, Wa0.heap.size = N := ⟨_, rfl⟩
                replace HA := HA.below hb
                replace O30 := O30.below hb
                replace b9 := b9.below hb
                replace hB0 := hB0.trans (hb.mono hB0.size)
                rw [hN] at b8 lo8 hne ⊢
                clear hN hWn hb
                refine hK.out _ _ ⟨HA.box.c0, HA.box.c1⟩ (fun _ => ?_)
                clear hK K
                refine wpAnyH_ready (rs := [3]) (by kernel_rfl) (by simp) ?_
                refine AllReadyH.cons rfl (fun K hK => ?_) ?_
                · go_simp
                  refine (divC HA.sl HA.ok HA.le HA.num O30.sl O30.ok O30.le O30.num (by omega) hk3 (by omega)).mono ?_
                  rintro e w31 ⟨n1, x1, y1, z1, n2, x2, y2, z2, zq, zr, rfl, hD, I1, I2, hb⟩
                  rw [rest_of hD hk] at I2
                  replace I2 := I2.mono hB0.size
                  clear I1
                  replace HA := HA.below hb
                  replace O30 := O30.below hb
                  replace b8 := b8.below hb
                  replace b9 := b9.below hb
                  replace hB0 := hB0.trans (hb.mono hB0.size)
                  clear hb
                  refine hK.out _ _ ⟨HA.box.c0, HA.box.c1⟩ (fun _ => ?_)
                  clear hK K
                  refine wpAnyH_take (i := 4) (v := ?_) rfl (by kernel_rfl) (by kernel_rfl) (by kernel_rfl) (fun _ _ _ h => False.elim h) (Or.inl ⟨by rfl, ?hy⟩) ⟨HA.box.c0, HA.box.c1⟩ ?_
                  case hy => (intro w hSw; (try dsimp only at hSw); go_simp; try with_reducible rfl)
                  refine wpAnyH_take (i := 5) (v := ?_) rfl (by kernel_rfl) (by kernel_rfl) (by kernel_rfl) (fun _ _ _ h => False.elim h) (Or.inl ⟨by rfl, ?hy⟩) ⟨HA.box.c0, HA.box.c1⟩ ?_
                  case hy => (intro w hSw; (try dsimp only at hSw); go_simp; try with_reducible rfl)
                  refine wpAnyH_take (i := 6) (v := ?_) rfl (by kernel_rfl) (by kernel_rfl) (by kernel_rfl) (fun _ _ _ h => False.elim h) (Or.inl ⟨by rfl, ?hy⟩) ⟨HA.box.c0, HA.box.c1⟩ ?_
                  case hy => (intro w hSw; (try dsimp only at hSw); go_simp; try with_reducible rfl)
                  refine wpAnyH_take (i := 7) (v := ?_) rfl (by kernel_rfl) (by kernel_rfl) (by kernel_rfl) (fun _ _ _ h => False.elim h) (Or.inl ⟨by rfl, ?hy⟩) ⟨HA.box.c0, HA.box.c1⟩ ?_
                  case hy => (intro w hSw; (try dsimp only at hSw); go_simp; try with_reducible rfl)
                  refine wpAnyH_ready (rs := [10]) (by kernel_rfl) (by simp) ?_
                  refine AllReadyH.cons rfl (fun K hK => ?_) ?_
                  · have e0 := b8.c0
                    have e1 := b8.c1
                    have e2 := b8.f0
                    have e3 := b8.f1
                    go_simp
                    clear e0 e1 e2 e3
                    have HA2 : Hd (put2 w31 N19 n1 (.slice x1 y1 z1)) w.heap.size na a0 l0 c0 xs x := ⟨HA.box.putO (by omega) _ _, HA.sl.put b8 _ _, HA.ok, HA.le, HA.num⟩
                    have I3 := I2.put b8 n1 (.slice x1 y1 z1)
                    have b92 := b9.putO (M := N19) (by omega) n1 (.slice x1 y1 z1)
                    have hB2 := below_put2 (N := N19) hB0 (by omega) n1 (.slice x1 y1 z1)
                    obtain ⟨Wp2, hWp⟩ : ∃ W, (w31.setCell ⟨N19, 0, none⟩ (.bool n1)).setCell ⟨N19, 1, none⟩ (.slice x1 y1 z1) = W := ⟨_, rfl⟩
                    have hWq : put2 w31 N19 n1 (.slice x1 y1 z1) = Wp2 := hWp
                    rw [hWq] at HA2 I3 b92 hB2
                    rw [hWp]
                    clear hWp hWq HA I2 b9 hB0
                    have HA := HA2
                    have I2 := I3
                    have b9 := b92
                    have hB0 := hB2
                    clear HA2 I3 b92 hB2
                    refine hK.out _ _ ⟨HA.box.c0, HA.box.c1⟩ (fun _ => ?_)
                    clear hK K
                    refine wpAnyH_ready (rs := [11]) (by kernel_rfl) (by simp) ?_
                    refine AllReadyH.cons rfl (fun K hK => ?_) ?_
                    · have e0 := b9.c0
                      have e1 := b9.c1
                      have e2 := b9.f0
                      have e3 := b9.f1
                      go_simp
                      clear e0 e1 e2 e3
                      have HA2 : Hd (put2 Wp2 N20 n2 (.slice x2 y2 z2)) w.heap.size na a0 l0 c0 xs x := ⟨HA.box.putO (by omega) _ _, HA.sl.put b9 _ _, HA.ok, HA.le, HA.num⟩
                      have I3 := I2.put b9 n2 (.slice x2 y2 z2)
                      have b92 := b9.put n2 x2 y2 z2
                      have hB2 := below_put2 (N := N20) hB0 (by omega) n2 (.slice x2 y2 z2)
                      obtain ⟨Wp3, hWp⟩ : ∃ W, (Wp2.setCell ⟨N20, 0, none⟩ (.bool n2)).setCell ⟨N20, 1, none⟩ (.slice x2 y2 z2) = W := ⟨_, rfl⟩
                      have hWq : put2 Wp2 N20 n2 (.slice x2 y2 z2) = Wp3 := hWp
                      rw [hWq] at HA2 I3 b92 hB2
                      rw [hWp]
                      clear hWp hWq HA I2 b9 hB0
                      have HA := HA2
                      have I2 := I3
                      have b9 := b92
                      have hB0 := hB2
                      clear HA2 I3 b92 hB2
                      refine hK.out _ _ ⟨HA.box.c0, HA.box.c1⟩ (fun _ => ?_)
                      clear hK K
                      refine wpAnyH_ready (rs := [12]) (by kernel_rfl) (by simp) ?_
                      refine AllReadyH.cons rfl (fun K hK => ?_) ?_
                      · go_simp
                        refine hK.out _ _ ⟨HA.box.c0, HA.box.c1⟩ (fun _ => ?_)
                        clear hK K
                        refine wpAnyH_done (by kernel_rfl) ?_ _
                        refine NoPanic.normal ?_
                        go_wp2_with fail
                        go_meet
                        case rel => exact ⟨N20, n2, x2, y2, z2, rfl, rfl, b9, I2, HA, hB0⟩
                      exact AllReadyH.nil
                    exact AllReadyH.nil
                  exact AllReadyH.nil
                exact AllReadyH.nil
              exact AllReadyH.nil
            exact AllReadyH.nil
          refine AllReadyH.cons rfl (fun K hK => ?_) ?_
          · go_simp
            obtain ⟨Wa0, hWn⟩ : ∃ W, World.alloc W0 (.cells #[.bool false, .slice none 0 0] 24) = W := ⟨_, rfl⟩
            have hb : Below W0.heap.size W0 Wa0 := by rw [← hWn]; exact below_alloc _ _
            have b8 : Box2 Wa0 W0.heap.size false none 0 0 := by rw [← hWn]; exact Box2.new _ _ _ _ _ _
            have lo8 : w.heap.size < W0.heap.size := HA.box.lt
            rw [hWn]
            obtain ⟨N19, hN⟩ : ∃ N, W0.heap.size = N := ⟨_, rfl⟩
            replace HA := HA.below hb
            replace hB0 := hB0.trans (hb.mono hB0.size)
            rw [hN] at b8 lo8 ⊢
            clear hN hWn hb
            refine hK.out _ _ ⟨HA.box.c0, HA.box.c1⟩ (fun _ => ?_)
            clear hK K
            refine wpAnyH_ready (rs := [2, 9]) (by kernel_rfl) (by simp) ?_
            refine AllReadyH.cons rfl (fun K hK => ?_) ?_
            · go_simp
              refine (ofH (k : Int) _ hk3 (by omega) (by omega)).mono ?_
              rintro e w30 ⟨n30, a30, l30, c30, M30, rfl, O30, hb⟩
              replace HA := HA.below hb
              replace b8 := b8.below hb
              replace hB0 := hB0.trans (hb.mono hB0.size)
              clear hb
              refine hK.out _ _ ⟨HA.box.c0, HA.box.c1⟩ (fun _ => ?_)
              clear hK K
              refine wpAnyH_ready (rs := [3, 9]) (by kernel_rfl) (by simp) ?_
              refine AllReadyH.cons rfl (fun K hK => ?_) ?_
              · go_simp
                refine (divC HA.sl HA.ok HA.le HA.num O30.sl O30.ok O30.le O30.num (by omega) hk3 (by omega)).mono ?_
                rintro e w31 ⟨n1, x1, y1, z1, n2, x2, y2, z2, zq, zr, rfl, hD, I1, I2, hb⟩
                rw [rest_of hD hk] at I2
                replace I2 := I2.mono hB0.size
                clear I1
                replace HA := HA.below hb
                replace O30 := O30.below hb
                replace b8 := b8.below hb
                replace hB0 := hB0.trans (hb.mono hB0.size)
                clear hb
                refine hK.out _ _ ⟨HA.box.c0, HA.box.c1⟩ (fun _ => ?_)
                clear hK K
                refine wpAnyH_take (i := 4) (v := ?_) rfl (by kernel_rfl) (by kernel_rfl) (by kernel_rfl) (fun _ _ _ h => False.elim h) (Or.inl ⟨by rfl, ?hy⟩) ⟨HA.box.c0, HA.box.c1⟩ ?_
                case hy => (intro w hSw; (try dsimp only at hSw); go_simp; try with_reducible rfl)
                refine wpAnyH_take (i := 5) (v := ?_) rfl (by kernel_rfl) (by kernel_rfl) (by kernel_rfl) (fun _ _ _ h => False.elim h) (Or.inl ⟨by rfl, ?hy⟩) ⟨HA.box.c0, HA.box.c1⟩ ?_
                case hy => (intro w hSw; (try dsimp only at hSw); go_simp; try with_reducible rfl)
                refine wpAnyH_take (i := 6) (v := ?_) rfl (by kernel_rfl) (by kernel_rfl) (by kernel_rfl) (fun _ _ _ h => False.elim h) (Or.inl ⟨by rfl, ?hy⟩) ⟨HA.box.c0, HA.box.c1⟩ ?_
                case hy => (intro w hSw; (try dsimp only at hSw); go_simp; try with_reducible rfl)
                refine wpAnyH_take (i := 7) (v := ?_) rfl (by kernel_rfl) (by kernel_rfl) (by kernel_rfl) (fun _ _ _ h => False.elim h) (Or.inl ⟨by rfl, ?hy⟩) ⟨HA.box.c0, HA.box.c1⟩ ?_
                case hy => (intro w hSw; (try dsimp only at hSw); go_simp; try with_reducible rfl)
                refine wpAnyH_ready (rs := [9]) (by kernel_rfl) (by simp) ?_
                refine AllReadyH.cons rfl (fun K hK => ?_) ?_
                · go_simp
                  obtain ⟨Wa1, hWn⟩ : ∃ W, World.alloc w31 (.cells #[.bool false, .slice none 0 0] 24) = W := ⟨_, rfl⟩
                  have hb : Below w31.heap.size w31 Wa1 := by rw [← hWn]; exact below_alloc _ _
                  have b9 : Box2 Wa1 w31.heap.size false none 0 0 := by rw [← hWn]; exact Box2.new _ _ _ _ _ _
                  have lo9 : w.heap.size < w31.heap.size := HA.box.lt
                  have hne : N19 < w31.heap.size := b8.lt
                  rw [hWn]
                  obtain ⟨N20, hN⟩ : ∃ N, w31.heap.size = N := ⟨_, rfl⟩
                  replace HA := HA.below hb
                  replace O30 := O30.below hb
                  replace I2 := I2.below hb
                  replace b8 := b8.below hb
                  replace hB0 := hB0.trans (hb.mono hB0.size)
                  rw [hN] at b9 lo9 hne ⊢
                  clear hN hWn hb
                  refine hK.out _ _ ⟨HA.box.c0, HA.box.c1⟩ (fun _ => ?_)
                  clear hK K
                  refine wpAnyH_ready (rs := [10]) (by kernel_rfl) (by simp) ?_
                  refine AllReadyH.cons rfl (fun K hK => ?_) ?_
                  · have e0 := b8.c0
                    have e1 := b8.c1
                    have e2 := b8.f0
                    have e3 := b8.f1
                    go_simp
                    clear e0 e1 e2 e3
                    have HA2 : Hd (put2 Wa1 N19 n1 (.slice x1 y1 z1)) w.heap.size na a0 l0 c0 xs x := ⟨HA.box.putO (by omega) _ _, HA.sl.put b8 _ _, HA.ok, HA.le, HA.num⟩
                    have I3 := I2.put b8 n1 (.slice x1 y1 z1)
                    have b92 := b9.putO (M := N19) (by omega) n1 (.slice x1 y1 z1)
                    have hB2 := below_put2 (N := N19) hB0 (by omega) n1 (.slice x1 y1 z1)
                    obtain ⟨Wp2, hWp⟩ : ∃ W, (Wa1.setCell ⟨N19, 0, none⟩ (.bool n1)).setCell ⟨N19, 1, none⟩ (.slice x1 y1 z1) = W := ⟨_, rfl⟩
                    have hWq : put2 Wa1 N19 n1 (.slice x1 y1 z1) = Wp2 := hWp
                    rw [hWq] at HA2 I3 b92 hB2
                    rw [hWp]
                    clear hWp hWq HA I2 b9 hB0
                    have HA := HA2
                    have I2 := I3
                    have b9 := b92
                    have hB0 := hB2
                    clear HA2 I3 b92 hB2
                    refine hK.out _ _ ⟨HA.box.c0, HA.box.c1⟩ (fun _ => ?_)
                    clear hK K
                    refine wpAnyH_ready (rs := [11]) (by kernel_rfl) (by simp) ?_
                    refine AllReadyH.cons rfl (fun K hK => ?_) ?_
                    · have e0 := b9.c0
                      have e1 := b9.c1
                      have e2 := b9.f0
                      have e3 := b9.f1
                      go_simp
                      clear e0 e1 e2 e3
                      have HA2 : Hd (put2 Wp2 N20 n2 (.slice x2 y2 z2)) w.heap.size na a0 l0 c0 xs x := ⟨HA.box.putO (by omega) _ _, HA.sl.put b9 _ _, HA.ok, HA.le, HA.num⟩
                      have I3 := I2.put b9 n2 (.slice x2 y2 z2)
                      have b92 := b9.put n2 x2 y2 z2
                      have hB2 := below_put2 (N := N20) hB0 (by omega) n2 (.slice x2 y2 z2)
                      obtain ⟨Wp3, hWp⟩ : ∃ W, (Wp2.setCell ⟨N20, 0, none⟩ (.bool n2)).setCell ⟨N20, 1, none⟩ (.slice x2 y2 z2) = W := ⟨_, rfl⟩
                      have hWq : put2 Wp2 N20 n2 (.slice x2 y2 z2) = Wp3 := hWp
                      rw [hWq] at HA2 I3 b92 hB2
                      rw [hWp]
                      clear hWp hWq HA I2 b9 hB0
                      have HA := HA2
                      have I2 := I3
                      have b9 := b92
                      have hB0 := hB2
                      clear HA2 I3 b92 hB2
                      refine hK.out _ _ ⟨HA.box.c0, HA.box.c1⟩ (fun _ => ?_)
                      clear hK K
                      refine wpAnyH_ready (rs := [12]) (by kernel_rfl) (by simp) ?_
                      refine AllReadyH.cons rfl (fun K hK => ?_) ?_
                      · go_simp
                        refine hK.out _ _ ⟨HA.box.c0, HA.box.c1⟩ (fun _ => ?_)
                        clear hK K
                        refine wpAnyH_done (by kernel_rfl) ?_ _
                        refine NoPanic.normal ?_
                        go_wp2_with fail
                        go_meet
                        case rel => exact ⟨N20, n2, x2, y2, z2, rfl, rfl, b9, I2, HA, hB0⟩
                      exact AllReadyH.nil
                    exact AllReadyH.nil
                  exact AllReadyH.nil
                exact AllReadyH.nil
              refine AllReadyH.cons rfl (fun K hK => ?_) ?_
              · go_simp
                obtain ⟨Wa1, hWn⟩ : ∃ W, World.alloc w30 (.cells #[.bool false, .slice none 0 0] 24) = W := ⟨_, rfl⟩
                have hb : Below w30.heap.size w30 Wa1 := by rw [← hWn]; exact below_alloc _ _
                have b9 : Box2 Wa1 w30.heap.size false none 0 0 := by rw [← hWn]; exact Box2.new _ _ _ _ _ _
                have lo9 : w.heap.size < w30.heap.size := HA.box.lt
                have hne : N19 < w30.heap.size := b8.lt
                rw [hWn]
                obtain ⟨N20, hN⟩ : ∃ N, w30.heap.size = N := ⟨_, rfl⟩
                replace HA := HA.below hb
                replace O30 := O30.below hb
                replace b8 := b8.below hb
                replace hB0 := hB0.trans (hb.mono hB0.size)
                rw [hN] at b9 lo9 hne ⊢
                clear hN hWn hb
                refine hK.out _ _ ⟨HA.box.c0, HA.box.c1⟩ (fun _ => ?_)
                clear hK K
                refine wpAnyH_ready (rs := [3]) (by kernel_rfl) (by simp) ?_
                refine AllReadyH.cons rfl (fun K hK => ?_) ?_
                · go_simp
                  refine (divC HA.sl HA.ok HA.le HA.num O30.sl O30.ok O30.le O30.num (by omega) hk3 (by omega)).mono ?_
                  rintro e w31 ⟨n1, x1, y1, z1, n2, x2, y2, z2, zq, zr, rfl, hD, I1, I2, hb⟩
                  rw [rest_of hD hk] at I2
                  replace I2 := I2.mono hB0.size
                  clear I1
                  replace HA := HA.below hb
                  replace O30 := O30.below hb
                  replace b8 := b8.below hb
                  replace b9 := b9.below hb
                  replace hB0 := hB0.trans (hb.mono hB0.size)
                  clear hb
                  refine hK.out _ _ ⟨HA.box.c0, HA.box.c1⟩ (fun _ => ?_)
                  clear hK K
                  refine wpAnyH_take (i := 4) (v := ?_) rfl (by kernel_rfl) (by kernel_rfl) (by kernel_rfl) (fun _ _ _ h => False.elim h) (Or.inl ⟨by rfl, ?hy⟩) ⟨HA.box.c0, HA.box.c1⟩ ?_
                  case hy => (intro w hSw; (try dsimp only at hSw); go_simp; try with_reducible rfl)
                  refine wpAnyH_take (i := 5) (v := ?_) rfl (by kernel_rfl) (by kernel_rfl) (by kernel_rfl) (fun _ _ _ h => False.elim h) (Or.inl ⟨by rfl, ?hy⟩) ⟨HA.box.c0, HA.box.c1⟩ ?_
                  case hy => (intro w hSw; (try dsimp only at hSw); go_simp; try with_reducible rfl)
                  refine wpAnyH_take (i := 6) (v := ?_) rfl (by kernel_rfl) (by kernel_rfl) (by kernel_rfl) (fun _ _ _ h => False.elim h) (Or.inl ⟨by rfl, ?hy⟩) ⟨HA.box.c0, HA.box.c1⟩ ?_
                  case hy => (intro w hSw; (try dsimp only at hSw); go_simp; try with_reducible rfl)
                  refine wpAnyH_take (i := 7) (v := ?_) rfl (by kernel_rfl) (by kernel_rfl) (by kernel_rfl) (fun _ _ _ h => False.elim h) (Or.inl ⟨by rfl, ?hy⟩) ⟨HA.box.c0, HA.box.c1⟩ ?_
                  case hy => (intro w hSw; (try dsimp only at hSw); go_simp; try with_reducible rfl)
                  refine wpAnyH_ready (rs := [10]) (by kernel_rfl) (by simp) ?_
                  refine AllReadyH.cons rfl (fun K hK => ?_) ?_
                  · have e0 := b8.c0
                    have e1 := b8.c1
                    have e2 := b8.f0
                    have e3 := b8.f1
                    go_simp
                    clear e0 e1 e2 e3
                    have HA2 : Hd (put2 w31 N19 n1 (.slice x1 y1 z1)) w.heap.size na a0 l0 c0 xs x := ⟨HA.box.putO (by omega) _ _, HA.sl.put b8 _ _, HA.ok, HA.le, HA.num⟩
                    have I3 := I2.put b8 n1 (.slice x1 y1 z1)
                    have b92 := b9.putO (M := N19) (by omega) n1 (.slice x1 y1 z1)
                    have hB2 := below_put2 (N := N19) hB0 (by omega) n1 (.slice x1 y1 z1)
                    obtain ⟨Wp2, hWp⟩ : ∃ W, (w31.setCell ⟨N19, 0, none⟩ (.bool n1)).setCell ⟨N19, 1, none⟩ (.slice x1 y1 z1) = W := ⟨_, rfl⟩
                    have hWq : put2 w31 N19 n1 (.slice x1 y1 z1) = Wp2 := hWp
                    rw [hWq] at HA2 I3 b92 hB2
                    rw [hWp]
                    clear hWp hWq HA I2 b9 hB0
                    have HA := HA2
                    have I2 := I3
                    have b9 := b92
                    have hB0 := hB2
                    clear HA2 I3 b92 hB2
                    refine hK.out _ _ ⟨HA.box.c0, HA.box.c1⟩ (fun _ => ?_)
                    clear hK K
                    refine wpAnyH_ready (rs := [11]) (by kernel_rfl) (by simp) ?_
                    refine AllReadyH.cons rfl (fun K hK => ?_) ?_
                    · have e0 := b9.c0
                      have e1 := b9.c1
                      have e2 := b9.f0
                      have e3 := b9.f1
                      go_simp
                      clear e0 e1 e2 e3
                      have HA2 : Hd (put2 Wp2 N20 n2 (.slice x2 y2 z2)) w.heap.size na a0 l0 c0 xs x := ⟨HA.box.putO (by omega) _ _, HA.sl.put b9 _ _, HA.ok, HA.le, HA.num⟩
                      have I3 := I2.put b9 n2 (.slice x2 y2 z2)
                      have b92 := b9.put n2 x2 y2 z2
                      have hB2 := below_put2 (N := N20) hB0 (by omega) n2 (.slice x2 y2 z2)
                      obtain ⟨Wp3, hWp⟩ : ∃ W, (Wp2.setCell ⟨N20, 0, none⟩ (.bool n2)).setCell ⟨N20, 1, none⟩ (.slice x2 y2 z2) = W := ⟨_, rfl⟩
                      have hWq : put2 Wp2 N20 n2 (.slice x2 y2 z2) = Wp3 := hWp
                      rw [hWq] at HA2 I3 b92 hB2
                      rw [hWp]
                      clear hWp hWq HA I2 b9 hB0
                      have HA := HA2
                      have I2 := I3
                      have b9 := b92
                      have hB0 := hB2
                      clear HA2 I3 b92 hB2
                      refine hK.out _ _ ⟨HA.box.c0, HA.box.c1⟩ (fun _ => ?_)
                      clear hK K
                      refine wpAnyH_ready (rs := [12]) (by kernel_rfl) (by simp) ?_
                      refine AllReadyH.cons rfl (fun K hK => ?_) ?_
                      · go_simp
                        refine hK.out _ _ ⟨HA.box.c0, HA.box.c1⟩ (fun _ => ?_)
                        clear hK K
                        refine wpAnyH_done (by kernel_rfl) ?_ _
                        refine NoPanic.normal ?_
                        go_wp2_with fail
                        go_meet
                        case rel => exact ⟨N20, n2, x2, y2, z2, rfl, rfl, b9, I2, HA, hB0⟩
                      exact AllReadyH.nil
                    exact AllReadyH.nil
                  exact AllReadyH.nil
                exact AllReadyH.nil
              exact AllReadyH.nil
            refine AllReadyH.cons rfl (fun K hK => ?_) ?_
            · go_simp
              obtain ⟨Wa1, hWn⟩ : ∃ W, World.alloc Wa0 (.cells #[.bool false, .slice none 0 0] 24) = W := ⟨_, rfl⟩
              have hb : Below Wa0.heap.size Wa0 Wa1 := by rw [← hWn]; exact below_alloc _ _
              have b9 : Box2 Wa1 Wa0.heap.size false none 0 0 := by rw [← hWn]; exact Box2.new _ _ _ _ _ _
              have lo9 : w.heap.size < Wa0.heap.size := HA.box.lt
              have hne : N19 < Wa0.heap.size := b8.lt
              rw [hWn]
              obtain ⟨N20, hN⟩ : ∃ N, Wa0.heap.size = N := ⟨_, rfl⟩
              replace HA := HA.below hb
              replace b8 := b8.below hb
              replace hB0 := hB0.trans (hb.mono hB0.size)
              rw [hN] at b9 lo9 hne ⊢
              clear hN hWn hb
              refine hK.out _ _ ⟨HA.box.c0, HA.box.c1⟩ (fun _ => ?_)
              clear hK K
              refine wpAnyH_ready (rs := [2]) (by kernel_rfl) (by simp) ?_
              refine AllReadyH.cons rfl (fun K hK => ?_) ?_
              · go_simp
                refine (ofH (k : Int) _ hk3 (by omega) (by omega)).mono ?_
                rintro e w30 ⟨n30, a30, l30, c30, M30, rfl, O30, hb⟩
                replace HA := HA.below hb
                replace b8 := b8.below hb
                replace b9 := b9.below hb
                replace hB0 := hB0.trans (hb.mono hB0.size)
                clear hb
                refine hK.out _ _ ⟨HA.box.c0, HA.box.c1⟩ (fun _ => ?_)
                clear hK K
                refine wpAnyH_ready (rs := [3]) (by kernel_rfl) (by simp) ?_
                refine AllReadyH.cons rfl (fun K hK => ?_) ?_
                · go_simp
                  refine (divC HA.sl HA.ok HA.le HA.num O30.sl O30.ok O30.le O30.num (by omega) hk3 (by omega)).mono ?_
                  rintro e w31 ⟨n1, x1, y1, z1, n2, x2, y2, z2, zq, zr, rfl, hD, I1, I2, hb⟩
                  rw [rest_of hD hk] at I2
                  replace I2 := I2.mono hB0.size
                  clear I1
                  replace HA := HA.below hb
                  replace O30 := O30.below hb
                  replace b8 := b8.below hb
                  replace b9 := b9.below hb
                  replace hB0 := hB0.trans (hb.mono hB0.size)
                  clear hb
                  refine hK.out _ _ ⟨HA.box.c0, HA.box.c1⟩ (fun _ => ?_)
                  clear hK K
                  refine wpAnyH_take (i := 4) (v := ?_) rfl (by kernel_rfl) (by kernel_rfl) (by kernel_rfl) (fun _ _ _ h => False.elim h) (Or.inl ⟨by rfl, ?hy⟩) ⟨HA.box.c0, HA.box.c1⟩ ?_
                  case hy => (intro w hSw; (try dsimp only at hSw); go_simp; try with_reducible rfl)
                  refine wpAnyH_take (i := 5) (v := ?_) rfl (by kernel_rfl) (by kernel_rfl) (by kernel_rfl) (fun _ _ _ h => False.elim h) (Or.inl ⟨by rfl, ?hy⟩) ⟨HA.box.c0, HA.box.c1⟩ ?_
                  case hy => (intro w hSw; (try dsimp only at hSw); go_simp; try with_reducible rfl)
                  refine wpAnyH_take (i := 6) (v := ?_) rfl (by kernel_rfl) (by kernel_rfl) (by kernel_rfl) (fun _ _ _ h => False.elim h) (Or.inl ⟨by rfl, ?hy⟩) ⟨HA.box.c0, HA.box.c1⟩ ?_
                  case hy => (intro w hSw; (try dsimp only at hSw); go_simp; try with_reducible rfl)
                  refine wpAnyH_take (i := 7) (v := ?_) rfl (by kernel_rfl) (by kernel_rfl) (by kernel_rfl) (fun _ _ _ h => False.elim h) (Or.inl ⟨by rfl, ?hy⟩) ⟨HA.box.c0, HA.box.c1⟩ ?_
                  case hy => (intro w hSw; (try dsimp only at hSw); go_simp; try with_reducible rfl)
                  refine wpAnyH_ready (rs := [10]) (by kernel_rfl) (by simp) ?_
                  refine AllReadyH.cons rfl (fun K hK => ?_) ?_
                  · have e0 := b8.c0
                    have e1 := b8.c1
                    have e2 := b8.f0
                    have e3 := b8.f1
                    go_simp
                    clear e0 e1 e2 e3
                    have HA2 : Hd (put2 w31 N19 n1 (.slice x1 y1 z1)) w.heap.size na a0 l0 c0 xs x := ⟨HA.box.putO (by omega) _ _, HA.sl.put b8 _ _, HA.ok, HA.le, HA.num⟩
                    have I3 := I2.put b8 n1 (.slice x1 y1 z1)
                    have b92 := b9.putO (M := N19) (by omega) n1 (.slice x1 y1 z1)
                    have hB2 := below_put2 (N := N19) hB0 (by omega) n1 (.slice x1 y1 z1)
                    obtain ⟨Wp2, hWp⟩ : ∃ W, (w31.setCell ⟨N19, 0, none⟩ (.bool n1)).setCell ⟨N19, 1, none⟩ (.slice x1 y1 z1) = W := ⟨_, rfl⟩
                    have hWq : put2 w31 N19 n1 (.slice x1 y1 z1) = Wp2 := hWp
                    rw [hWq] at HA2 I3 b92 hB2
                    rw [hWp]
                    clear hWp hWq HA I2 b9 hB0
                    have HA := HA2
                    have I2 := I3
                    have b9 := b92
                    have hB0 := hB2
                    clear HA2 I3 b92 hB2
                    refine hK.out _ _ ⟨HA.box.c0, HA.box.c1⟩ (fun _ => ?_)
                    clear hK K
                    refine wpAnyH_ready (rs := [11]) (by kernel_rfl) (by simp) ?_
                    refine AllReadyH.cons rfl (fun K hK => ?_) ?_
                    · have e0 := b9.c0
                      have e1 := b9.c1
                      have e2 := b9.f0
                      have e3 := b9.f1
                      go_simp
                      clear e0 e1 e2 e3
                      have HA2 : Hd (put2 Wp2 N20 n2 (.slice x2 y2 z2)) w.heap.size na a0 l0 c0 xs x := ⟨HA.box.putO (by omega) _ _, HA.sl.put b9 _ _, HA.ok, HA.le, HA.num⟩
                      have I3 := I2.put b9 n2 (.slice x2 y2 z2)
                      have b92 := b9.put n2 x2 y2 z2
                      have hB2 := below_put2 (N := N20) hB0 (by omega) n2 (.slice x2 y2 z2)
                      obtain ⟨Wp3, hWp⟩ : ∃ W, (Wp2.setCell ⟨N20, 0, none⟩ (.bool n2)).setCell ⟨N20, 1, none⟩ (.slice x2 y2 z2) = W := ⟨_, rfl⟩
                      have hWq : put2 Wp2 N20 n2 (.slice x2 y2 z2) = Wp3 := hWp
                      rw [hWq] at HA2 I3 b92 hB2
                      rw [hWp]
                      clear hWp hWq HA I2 b9 hB0
                      have HA := HA2
                      have I2 := I3
                      have b9 := b92
                      have hB0 := hB2
                      clear HA2 I3 b92 hB2
                      refine hK.out _ _ ⟨HA.box.c0, HA.box.c1⟩ (fun _ => ?_)
                      clear hK K
                      refine wpAnyH_ready (rs := [12]) (by kernel_rfl) (by simp) ?_
                      refine AllReadyH.cons rfl (fun K hK => ?_) ?_
                      · go_simp
                        refine hK.out _ _ ⟨HA.box.c0, HA.box.c1⟩ (fun _ => ?_)
                        clear hK K
                        refine wpAnyH_done (by kernel_rfl) ?_ _
                        refine NoPanic.normal ?_
                        go_wp2_with fail
                        go_meet
                        case rel => exact ⟨N20, n2, x2, y2, z2, rfl, rfl, b9, I2, HA, hB0⟩
                      exact AllReadyH.nil
                    exact AllReadyH.nil
                  exact AllReadyH.nil
                exact AllReadyH.nil
              exact AllReadyH.nil
            exact AllReadyH.nil
          refine AllReadyH.cons rfl (fun K hK => ?_) ?_
          · go_simp
            obtain ⟨Wa0, hWn⟩ : ∃ W, World.alloc W0 (.cells #[.bool false, .slice none 0 0] 24) = W := ⟨_, rfl⟩
            have hb : Below W0.heap.size W0 Wa0 := by rw [← hWn]; exact below_alloc _ _
            have b9 : Box2 Wa0 W0.heap.size false none 0 0 := by rw [← hWn]; exact Box2.new _ _ _ _ _ _
            have lo9 : w.heap.size < W0.heap.size := HA.box.lt
            rw [hWn]
            obtain ⟨N20, hN⟩ : ∃ N, W0.heap.size = N := ⟨_, rfl⟩
            replace HA := HA.below hb
            replace hB0 := hB0.trans (hb.mono hB0.size)
            rw [hN] at b9 lo9 ⊢
            clear hN hWn hb
            refine hK.out _ _ ⟨HA.box.c0, HA.box.c1⟩ (fun _ => ?_)
            clear hK K
            refine wpAnyH_ready (rs := [2, 8]) (by kernel_rfl) (by simp) ?_
            refine AllReadyH.cons rfl (fun K hK => ?_) ?_
            · go_simp
              refine (ofH (k : Int) _ hk3 (by omega) (by omega)).mono ?_
              rintro e w30 ⟨n30, a30, l30, c30, M30, rfl, O30, hb⟩
              replace HA := HA.below hb
              replace b9 := b9.below hb
              replace hB0 := hB0.trans (hb.mono hB0.size)
              clear hb
              refine hK.out _ _ ⟨HA.box.c0, HA.box.c1⟩ (fun _ => ?_)
              clear hK K
              refine wpAnyH_ready (rs := [3, 8]) (by kernel_rfl) (by simp) ?_
              refine AllReadyH.cons rfl (fun K hK => ?_) ?_
              · go_simp
                refine (divC HA.sl HA.ok HA.le HA.num O30.sl O30.ok O30.le O30.num (by omega) hk3 (by omega)).mono ?_
                rintro e w31 ⟨n1, x1, y1, z1, n2, x2, y2, z2, zq, zr, rfl, hD, I1, I2, hb⟩
                rw [rest_of hD hk] at I2
                replace I2 := I2.mono hB0.size
                clear I1
                replace HA := HA.below hb
                replace O30 := O30.below hb
                replace b9 := b9.below hb
                replace hB0 := hB0.trans (hb.mono hB0.size)
                clear hb
                refine hK.out _ _ ⟨HA.box.c0, HA.box.c1⟩ (fun _ => ?_)
                clear hK K
                refine wpAnyH_take (i := 4) (v := ?_) rfl (by kernel_rfl) (by kernel_rfl) (by kernel_rfl) (fun _ _ _ h => False.elim h) (Or.inl ⟨by rfl, ?hy⟩) ⟨HA.box.c0, HA.box.c1⟩ ?_
                case hy => (intro w hSw; (try dsimp only at hSw); go_simp; try with_reducible rfl)
                refine wpAnyH_take (i := 5) (v := ?_) rfl (by kernel_rfl) (by kernel_rfl) (by kernel_rfl) (fun _ _ _ h => False.elim h) (Or.inl ⟨by rfl, ?hy⟩) ⟨HA.box.c0, HA.box.c1⟩ ?_
                case hy => (intro w hSw; (try dsimp only at hSw); go_simp; try with_reducible rfl)
                refine wpAnyH_take (i := 6) (v := ?_) rfl (by kernel_rfl) (by kernel_rfl) (by kernel_rfl) (fun _ _ _ h => False.elim h) (Or.inl ⟨by rfl, ?hy⟩) ⟨HA.box.c0, HA.box.c1⟩ ?_
                case hy => (intro w hSw; (try dsimp only at hSw); go_simp; try with_reducible rfl)
                refine wpAnyH_take (i := 7) (v := ?_) rfl (by kernel_rfl) (by kernel_rfl) (by kernel_rfl) (fun _ _ _ h => False.elim h) (Or.inl ⟨by rfl, ?hy⟩) ⟨HA.box.c0, HA.box.c1⟩ ?_
                case hy => (intro w hSw; (try dsimp only at hSw); go_simp; try with_reducible rfl)
                refine wpAnyH_ready (rs := [8]) (by kernel_rfl) (by simp) ?_
                refine AllReadyH.cons rfl (fun K hK => ?_) ?_
                · go_simp
                  obtain ⟨Wa1, hWn⟩ : ∃ W, World.alloc w31 (.cells #[.bool false, .slice none 0 0] 24) = W := ⟨_, rfl⟩
                  have hb : Below w31.heap.size w31 Wa1 := by rw [← hWn]; exact below_alloc _ _
                  have b8 : Box2 Wa1 w31.heap.size false none 0 0 := by rw [← hWn]; exact Box2.new _ _ _ _ _ _
                  have lo8 : w.heap.size < w31.heap.size := HA.box.lt
                  have hne : N20 < w31.heap.size := b9.lt
                  rw [hWn]
                  obtain ⟨N19, hN⟩ : ∃ N, w31.heap.size = N := ⟨_, rfl⟩
                  replace HA := HA.below hb
                  replace O30 := O30.below hb
                  replace I2 := I2.below hb
                  replace b9 := b9.below hb
                  replace hB0 := hB0.trans (hb.mono hB0.size)
                  rw [hN] at b8 lo8 hne ⊢
                  clear hN hWn hb
                  refine hK.out _ _ ⟨HA.box.c0, HA.box.c1⟩ (fun _ => ?_)
                  clear hK K
                  refine wpAnyH_ready (rs := [10]) (by kernel_rfl) (by simp) ?_
                  refine AllReadyH.cons rfl (fun K hK => ?_) ?_
                  · have e0 := b8.c0
                    have e1 := b8.c1
                    have e2 := b8.f0
                    have e3 := b8.f1
                    go_simp
                    clear e0 e1 e2 e3
                    have HA2 : Hd (put2 Wa1 N19 n1 (.slice x1 y1 z1)) w.heap.size na a0 l0 c0 xs x := ⟨HA.box.putO (by omega) _ _, HA.sl.put b8 _ _, HA.ok, HA.le, HA.num⟩
                    have I3 := I2.put b8 n1 (.slice x1 y1 z1)
                    have b92 := b9.putO (M := N19) (by omega) n1 (.slice x1 y1 z1)
                    have hB2 := below_put2 (N := N19) hB0 (by omega) n1 (.slice x1 y1 z1)
                    obtain ⟨Wp2, hWp⟩ : ∃ W, (Wa1.setCell ⟨N19, 0, none⟩ (.bool n1)).setCell ⟨N19, 1, none⟩ (.slice x1 y1 z1) = W := ⟨_, rfl⟩
                    have hWq : put2 Wa1 N19 n1 (.slice x1 y1 z1) = Wp2 := hWp
                    rw [hWq] at HA2 I3 b92 hB2
                    rw [hWp]
                    clear hWp hWq HA I2 b9 hB0
                    have HA := HA2
                    have I2 := I3
                    have b9 := b92
                    have hB0 := hB2
                    clear HA2 I3 b92 hB2
                    refine hK.out _ _ ⟨HA.box.c0, HA.box.c1⟩ (fun _ => ?_)
                    clear hK K
                    refine wpAnyH_ready (rs := [11]) (by kernel_rfl) (by simp) ?_
                    refine AllReadyH.cons rfl (fun K hK => ?_) ?_
                    · have e0 := b9.c0
                      have e1 := b9.c1
                      have e2 := b9.f0
                      have e3 := b9.f1
                      go_simp
                      clear e0 e1 e2 e3
                      have HA2 : Hd (put2 Wp2 N20 n2 (.slice x2 y2 z2)) w.heap.size na a0 l0 c0 xs x := ⟨HA.box.putO (by omega) _ _, HA.sl.put b9 _ _, HA.ok, HA.le, HA.num⟩
                      have I3 := I2.put b9 n2 (.slice x2 y2 z2)
                      have b92 := b9.put n2 x2 y2 z2
                      have hB2 := below_put2 (N := N20) hB0 (by omega) n2 (.slice x2 y2 z2)
                      obtain ⟨Wp3, hWp⟩ : ∃ W, (Wp2.setCell ⟨N20, 0, none⟩ (.bool n2)).setCell ⟨N20, 1, none⟩ (.slice x2 y2 z2) = W := ⟨_, rfl⟩
                      have hWq : put2 Wp2 N20 n2 (.slice x2 y2 z2) = Wp3 := hWp
                      rw [hWq] at HA2 I3 b92 hB2
                      rw [hWp]
                      clear hWp hWq HA I2 b9 hB0
                      have HA := HA2
                      have I2 := I3
                      have b9 := b92
                      have hB0 := hB2
                      clear HA2 I3 b92 hB2
                      refine hK.out _ _ ⟨HA.box.c0, HA.box.c1⟩ (fun _ => ?_)
                      clear hK K
                      refine wpAnyH_ready (rs := [12]) (by kernel_rfl) (by simp) ?_
                      refine AllReadyH.cons rfl (fun K hK => ?_) ?_
                      · go_simp
                        refine hK.out _ _ ⟨HA.box.c0, HA.box.c1⟩ (fun _ => ?_)
                        clear hK K
                        refine wpAnyH_done (by kernel_rfl) ?_ _
                        refine NoPanic.normal ?_
                        go_wp2_with fail
                        go_meet
                        case rel => exact ⟨N20, n2, x2, y2, z2, rfl, rfl, b9, I2, HA, hB0⟩
                      exact AllReadyH.nil
                    exact AllReadyH.nil
                  exact AllReadyH.nil
                exact AllReadyH.nil
              refine AllReadyH.cons rfl (fun K hK => ?_) ?_
              · go_simp
                obtain ⟨Wa1, hWn⟩ : ∃ W, World.alloc w30 (.cells #[.bool false, .slice none 0 0] 24) = W := ⟨_, rfl⟩
                have hb : Below w30.heap.size w30 Wa1 := by rw [← hWn]; exact below_alloc _ _
                have b8 : Box2 Wa1 w30.heap.size false none 0 0 := by rw [← hWn]; exact Box2.new _ _ _ _ _ _
                have lo8 : w.heap.size < w30.heap.size := HA.box.lt
                have hne : N20 < w30.heap.size := b9.lt
                rw [hWn]
                obtain ⟨N19, hN⟩ : ∃ N, w30.heap.size = N := ⟨_, rfl⟩
                replace HA := HA.below hb
                replace O30 := O30.below hb
                replace b9 := b9.below hb
                replace hB0 := hB0.trans (hb.mono hB0.size)
                rw [hN] at b8 lo8 hne ⊢
                clear hN hWn hb
                refine hK.out _ _ ⟨HA.box.c0, HA.box.c1⟩ (fun _ => ?_)
                clear hK K
                refine wpAnyH_ready (rs := [3]) (by kernel_rfl) (by simp) ?_
                refine AllReadyH.cons rfl (fun K hK => ?_) ?_
                · go_simp
                  refine (divC HA.sl HA.ok HA.le HA.num O30.sl O30.ok O30.le O30.num (by omega) hk3 (by omega)).mono ?_
                  rintro e w31 ⟨n1, x1, y1, z1, n2, x2, y2, z2, zq, zr, rfl, hD, I1, I2, hb⟩
                  rw [rest_of hD hk] at I2
                  replace I2 := I2.mono hB0.size
                  clear I1
                  replace HA := HA.below hb
                  replace O30 := O30.below hb
                  replace b8 := b8.below hb
                  replace b9 := b9.below hb
                  replace hB0 := hB0.trans (hb.mono hB0.size)
                  clear hb
                  refine hK.out _ _ ⟨HA.box.c0, HA.box.c1⟩ (fun _ => ?_)
                  clear hK K
                  refine wpAnyH_take (i := 4) (v := ?_) rfl (by kernel_rfl) (by kernel_rfl) (by kernel_rfl) (fun _ _ _ h => False.elim h) (Or.inl ⟨by rfl, ?hy⟩) ⟨HA.box.c0, HA.box.c1⟩ ?_
                  case hy => (intro w hSw; (try dsimp only at hSw); go_simp; try with_reducible rfl)
                  refine wpAnyH_take (i := 5) (v := ?_) rfl (by kernel_rfl) (by kernel_rfl) (by kernel_rfl) (fun _ _ _ h => False.elim h) (Or.inl ⟨by rfl, ?hy⟩) ⟨HA.box.c0, HA.box.c1⟩ ?_
                  case hy => (intro w hSw; (try dsimp only at hSw); go_simp; try with_reducible rfl)
                  refine wpAnyH_take (i := 6) (v := ?_) rfl (by kernel_rfl) (by kernel_rfl) (by kernel_rfl) (fun _ _ _ h => False.elim h) (Or.inl ⟨by rfl, ?hy⟩) ⟨HA.box.c0, HA.box.c1⟩ ?_
                  case hy => (intro w hSw; (try dsimp only at hSw); go_simp; try with_reducible rfl)
                  refine wpAnyH_take (i := 7) (v := ?_) rfl (by kernel_rfl) (by kernel_rfl) (by kernel_rfl) (fun _ _ _ h => False.elim h) (Or.inl ⟨by rfl, ?hy⟩) ⟨HA.box.c0, HA.box.c1⟩ ?_
                  case hy => (intro w hSw; (try dsimp only at hSw); go_simp; try with_reducible rfl)
                  refine wpAnyH_ready (rs := [10]) (by kernel_rfl) (by simp) ?_
                  refine AllReadyH.cons rfl (fun K hK => ?_) ?_
                  · have e0 := b8.c0
                    have e1 := b8.c1
                    have e2 := b8.f0
                    have e3 := b8.f1
                    go_simp
                    clear e0 e1 e2 e3
                    have HA2 : Hd (put2 w31 N19 n1 (.slice x1 y1 z1)) w.heap.size na a0 l0 c0 xs x := ⟨HA.box.putO (by omega) _ _, HA.sl.put b8 _ _, HA.ok, HA.le, HA.num⟩
                    have I3 := I2.put b8 n1 (.slice x1 y1 z1)
                    have b92 := b9.putO (M := N19) (by omega) n1 (.slice x1 y1 z1)
                    have hB2 := below_put2 (N := N19) hB0 (by omega) n1 (.slice x1 y1 z1)
                    obtain ⟨Wp2, hWp⟩ : ∃ W, (w31.setCell ⟨N19, 0, none⟩ (.bool n1)).setCell ⟨N19, 1, none⟩ (.slice x1 y1 z1) = W := ⟨_, rfl⟩
                    have hWq : put2 w31 N19 n1 (.slice x1 y1 z1) = Wp2 := hWp
                    rw [hWq] at HA2 I3 b92 hB2
                    rw [hWp]
                    clear hWp hWq HA I2 b9 hB0
                    have HA := HA2
                    have I2 := I3
                    have b9 := b92
                    have hB0 := hB2
                    clear HA2 I3 b92 hB2
                    refine hK.out _ _ ⟨HA.box.c0, HA.box.c1⟩ (fun _ => ?_)
                    clear hK K
                    refine wpAnyH_ready (rs := [11]) (by kernel_rfl) (by simp) ?_
                    refine AllReadyH.cons rfl (fun K hK => ?_) ?_
                    · have e0 := b9.c0
                      have e1 := b9.c1
                      have e2 := b9.f0
                      have e3 := b9.f1
                      go_simp
                      clear e0 e1 e2 e3
                      have HA2 : Hd (put2 Wp2 N20 n2 (.slice x2 y2 z2)) w.heap.size na a0 l0 c0 xs x := ⟨HA.box.putO (by omega) _ _, HA.sl.put b9 _ _, HA.ok, HA.le, HA.num⟩
                      have I3 := I2.put b9 n2 (.slice x2 y2 z2)
                      have b92 := b9.put n2 x2 y2 z2
                      have hB2 := below_put2 (N := N20) hB0 (by omega) n2 (.slice x2 y2 z2)
                      obtain ⟨Wp3, hWp⟩ : ∃ W, (Wp2.setCell ⟨N20, 0, none⟩ (.bool n2)).setCell ⟨N20, 1, none⟩ (.slice x2 y2 z2) = W := ⟨_, rfl⟩
                      have hWq : put2 Wp2 N20 n2 (.slice x2 y2 z2) = Wp3 := hWp
                      rw [hWq] at HA2 I3 b92 hB2
                      rw [hWp]
                      clear hWp hWq HA I2 b9 hB0
                      have HA := HA2
                      have I2 := I3
                      have b9 := b92
                      have hB0 := hB2
                      clear HA2 I3 b92 hB2
                      refine hK.out _ _ ⟨HA.box.c0, HA.box.c1⟩ (fun _ => ?_)
                      clear hK K
                      refine wpAnyH_ready (rs := [12]) (by kernel_rfl) (by simp) ?_
                      refine AllReadyH.cons rfl (fun K hK => ?_) ?_
                      · go_simp
                        refine hK.out _ _ ⟨HA.box.c0, HA.box.c1⟩ (fun _ => ?_)
                        clear hK K
                        refine wpAnyH_done (by kernel_rfl) ?_ _
                        refine NoPanic.normal ?_
                        go_wp2_with fail
                        go_meet
                        case rel => exact ⟨N20, n2, x2, y2, z2, rfl, rfl, b9, I2, HA, hB0⟩
                      exact AllReadyH.nil
                    exact AllReadyH.nil
                  exact AllReadyH.nil
                exact AllReadyH.nil
              exact AllReadyH.nil
            refine AllReadyH.cons rfl (fun K hK => ?_) ?_
            · go_simp
              obtain ⟨Wa1, hWn⟩ : ∃ W, World.alloc Wa0 (.cells #[.bool false, .slice none 0 0] 24) = W := ⟨_, rfl⟩
              have hb : Below Wa0.heap.size Wa0 Wa1 := by rw [← hWn]; exact below_alloc _ _
              have b8 : Box2 Wa1 Wa0.heap.size false none 0 0 := by rw [← hWn]; exact Box2.new _ _ _ _ _ _
              have lo8 : w.heap.size < Wa0.heap.size := HA.box.lt
              have hne : N20 < Wa0.heap.size := b9.lt
              rw [hWn]
              obtain ⟨N19, hN⟩ : ∃ N, Wa0.heap.size = N := ⟨_, rfl⟩
              replace HA := HA.below hb
              replace b9 := b9.below hb
              replace hB0 := hB0.trans (hb.mono hB0.size)
              rw [hN] at b8 lo8 hne ⊢
              clear hN hWn hb
              refine hK.out _ _ ⟨HA.box.c0, HA.box.c1⟩ (fun _ => ?_)
              clear hK K
              refine wpAnyH_ready (rs := [2]) (by kernel_rfl) (by simp) ?_
              refine AllReadyH.cons rfl (fun K hK => ?_) ?_
              · go_simp
                refine (ofH (k : Int) _ hk3 (by omega) (by omega)).mono ?_
                rintro e w30 ⟨n30, a30, l30, c30, M30, rfl, O30, hb⟩
                replace HA := HA.below hb
                replace b8 := b8.below hb
                replace b9 := b9.below hb
                replace hB0 := hB0.trans (hb.mono hB0.size)
                clear hb
                refine hK.out _ _ ⟨HA.box.c0, HA.box.c1⟩ (fun _ => ?_)
                clear hK K
                refine wpAnyH_ready (rs := [3]) (by kernel_rfl) (by simp) ?_
                refine AllReadyH.cons rfl (fun K hK => ?_) ?_
                · go_simp
                  refine (divC HA.sl HA.ok HA.le HA.num O30.sl O30.ok O30.le O30.num (by omega) hk3 (by omega)).mono ?_
                  rintro e w31 ⟨n1, x1, y1, z1, n2, x2, y2, z2, zq, zr, rfl, hD, I1, I2, hb⟩
                  rw [rest_of hD hk] at I2
                  replace I2 := I2.mono hB0.size
                  clear I1
                  replace HA := HA.below hb
                  replace O30 := O30.below hb
                  replace b8 := b8.below hb
                  replace b9 := b9.below hb
                  replace hB0 := hB0.trans (hb.mono hB0.size)
                  clear hb
                  refine hK.out _ _ ⟨HA.box.c0, HA.box.c1⟩ (fun _ => ?_)
                  clear hK K
                  refine wpAnyH_take (i := 4) (v := ?_) rfl (by kernel_rfl) (by kernel_rfl) (by kernel_rfl) (fun _ _ _ h => False.elim h) (Or.inl ⟨by rfl, ?hy⟩) ⟨HA.box.c0, HA.box.c1⟩ ?_
                  case hy => (intro w hSw; (try dsimp only at hSw); go_simp; try with_reducible rfl)
                  refine wpAnyH_take (i := 5) (v := ?_) rfl (by kernel_rfl) (by kernel_rfl) (by kernel_rfl) (fun _ _ _ h => False.elim h) (Or.inl ⟨by rfl, ?hy⟩) ⟨HA.box.c0, HA.box.c1⟩ ?_
                  case hy => (intro w hSw; (try dsimp only at hSw); go_simp; try with_reducible rfl)
                  refine wpAnyH_take (i := 6) (v := ?_) rfl (by kernel_rfl) (by kernel_rfl) (by kernel_rfl) (fun _ _ _ h => False.elim h) (Or.inl ⟨by rfl, ?hy⟩) ⟨HA.box.c0, HA.box.c1⟩ ?_
                  case hy => (intro w hSw; (try dsimp only at hSw); go_simp; try with_reducible rfl)
                  refine wpAnyH_take (i := 7) (v := ?_) rfl (by kernel_rfl) (by kernel_rfl) (by kernel_rfl) (fun _ _ _ h => False.elim h) (Or.inl ⟨by rfl, ?hy⟩) ⟨HA.box.c0, HA.box.c1⟩ ?_
                  case hy => (intro w hSw; (try dsimp only at hSw); go_simp; try with_reducible rfl)
                  refine wpAnyH_ready (rs := [10]) (by kernel_rfl) (by simp) ?_
                  refine AllReadyH.cons rfl (fun K hK => ?_) ?_
                  · have e0 := b8.c0
                    have e1 := b8.c1
                    have e2 := b8.f0
                    have e3 := b8.f1
                    go_simp
                    clear e0 e1 e2 e3
                    have HA2 : Hd (put2 w31 N19 n1 (.slice x1 y1 z1)) w.heap.size na a0 l0 c0 xs x := ⟨HA.box.putO (by omega) _ _, HA.sl.put b8 _ _, HA.ok, HA.le, HA.num⟩
                    have I3 := I2.put b8 n1 (.slice x1 y1 z1)
                    have b92 := b9.putO (M := N19) (by omega) n1 (.slice x1 y1 z1)
                    have hB2 := below_put2 (N := N19) hB0 (by omega) n1 (.slice x1 y1 z1)
                    obtain ⟨Wp2, hWp⟩ : ∃ W, (w31.setCell ⟨N19, 0, none⟩ (.bool n1)).setCell ⟨N19, 1, none⟩ (.slice x1 y1 z1) = W := ⟨_, rfl⟩
                    have hWq : put2 w31 N19 n1 (.slice x1 y1 z1) = Wp2 := hWp
                    rw [hWq] at HA2 I3 b92 hB2
                    rw [hWp]
                    clear hWp hWq HA I2 b9 hB0
                    have HA := HA2
                    have I2 := I3
                    have b9 := b92
                    have hB0 := hB2
                    clear HA2 I3 b92 hB2
                    refine hK.out _ _ ⟨HA.box.c0, HA.box.c1⟩ (fun _ => ?_)
                    clear hK K
                    refine wpAnyH_ready (rs := [11]) (by kernel_rfl) (by simp) ?_
                    refine AllReadyH.cons rfl (fun K hK => ?_) ?_
                    · have e0 := b9.c0
                      have e1 := b9.c1
                      have e2 := b9.f0
                      have e3 := b9.f1
                      go_simp
                      clear e0 e1 e2 e3
                      have HA2 : Hd (put2 Wp2 N20 n2 (.slice x2 y2 z2)) w.heap.size na a0 l0 c0 xs x := ⟨HA.box.putO (by omega) _ _, HA.sl.put b9 _ _, HA.ok, HA.le, HA.num⟩
                      have I3 := I2.put b9 n2 (.slice x2 y2 z2)
                      have b92 := b9.put n2 x2 y2 z2
                      have hB2 := below_put2 (N := N20) hB0 (by omega) n2 (.slice x2 y2 z2)
                      obtain ⟨Wp3, hWp⟩ : ∃ W, (Wp2.setCell ⟨N20, 0, none⟩ (.bool n2)).setCell ⟨N20, 1, none⟩ (.slice x2 y2 z2) = W := ⟨_, rfl⟩
                      have hWq : put2 Wp2 N20 n2 (.slice x2 y2 z2) = Wp3 := hWp
                      rw [hWq] at HA2 I3 b92 hB2
                      rw [hWp]
                      clear hWp hWq HA I2 b9 hB0
                      have HA := HA2
                      have I2 := I3
                      have b9 := b92
                      have hB0 := hB2
                      clear HA2 I3 b92 hB2
                      refine hK.out _ _ ⟨HA.box.c0, HA.box.c1⟩ (fun _ => ?_)
                      clear hK K
                      refine wpAnyH_ready (rs := [12]) (by kernel_rfl) (by simp) ?_
                      refine AllReadyH.cons rfl (fun K hK => ?_) ?_
                      · go_simp
                        refine hK.out _ _ ⟨HA.box.c0, HA.box.c1⟩ (fun _ => ?_)
                        clear hK K
                        refine wpAnyH_done (by kernel_rfl) ?_ _
                        refine NoPanic.normal ?_
                        go_wp2_with fail
                        go_meet
                        case rel => exact ⟨N20, n2, x2, y2, z2, rfl, rfl, b9, I2, HA, hB0⟩
                      exact AllReadyH.nil
                    exact AllReadyH.nil
                  exact AllReadyH.nil
                exact AllReadyH.nil
              exact AllReadyH.nil
            exact AllReadyH.nil
          exact AllReadyH.nil
        case rest =>
          obtain ⟨N, n5, a5, l5, c5, rfl, rfl, bS, IS, HA5, hB5⟩ := hcut
          clear HA hB0 p0 p1
          have p0 := HA5.box.c0
          have p1 := HA5.box.c1
          have RS := rest_some na a0 l0 c0 xs k wc HA5.sl ox (by omega) (by omega) (by omega)
          rw [HX.out] at RS
          go_wp2_with fail
          refine RS.mono ?_
          rintro e w40 ⟨rfl, hb1⟩
          replace bS := bS.below hb1
          replace IS := IS.below hb1
          replace hB5 : Below w.heap.size w w40 := hB5.trans (hb1.mono hB5.size)
          clear hb1 p0 p1 RS HA5
          have r1 : 0 ≤ x % (k : Int) := Int.emod_nonneg _ (by omega)
          have r2 : x % (k : Int) < (k : Int) := Int.emod_lt_of_pos _ (by omega)
          obtain ⟨K, hK⟩ : ∃ K, x % (k : Int) = K := ⟨_, rfl⟩
          rw [hK] at r1 r2 IS ⊢
          clear hK
          have hK3 : K.natAbs < pw 256 := by
            have h1 : pw 2 ≤ pw 256 := pw_mono (by omega)
            have h2 : pw 2 = 18446744073709551616 := rfl
            omega
          have s0 := bS.c0
          have s1 := bS.c1
          go_wp2_with fail
          go_region_held3 (fun W => (W.cell? ⟨N, 0, none⟩ = some (.bool n5) ∧ W.cell? ⟨N, 1, none⟩ = some (.slice a5 l5 c5)) ∧ Below w40.heap.size w40 W)
            (first | exact S1.start s0 s1 | exact S1.keep (by assumption) (by assumption) | exact S1.keep (by assumption) (Below.refl _ _))
            (first | (go_at_call 12; refine (of_any K _ (by omega) (by omega)).mono ?_; rintro e w41 ⟨n6, a6, l6, c6, rfl, I6, hb41⟩)
                   | (go_at_call 13; refine (sameI (IS.below (S1.below (by assumption))) I6 hK3).mono ?_; rintro e w42 ⟨rfl, hb42⟩)
                   | (go_at_call 6; refine (awake_any _).mono ?_; rintro e w43 ⟨rfl, hb43⟩))
          all_goals (
            go_wp2
            go_ret
            exact ⟨rfl, hB5.trans ((show S1 w40 N n5 a5 l5 c5 _ from by assumption).2.mono hB5.size)⟩)
      · have h16 := rest_arg na a0 l0 c0 m w14 (by omega)
        have p0 := HA.box.c0
        have p1 := HA.box.c1
        have hm' : m < 1 ∨ 4611686018427387904 < m := by omega
        rcases Int.lt_or_le m 1 with t1 | t1
        · clear hm hm'
          go_wp2_with fail
          refine h16.mono ?_
          rintro e w20 ⟨rfl, hb1⟩
          replace hB0 : Below w.heap.size w w20 := hB0.trans (hb1.mono hB0.size)
          clear p0 p1 h16 HA hb1
          go_wp2_with fail
          refine (awake_any _).mono ?_
          rintro e w21 ⟨rfl, hb1⟩
          go_wp2
          go_ret
          exact ⟨rfl, hB0.trans (hb1.mono hB0.size)⟩
        · have t2 : (4611686018427387904 : Int) < m := by omega
          have t3 : ¬ m < 1 := by omega
          clear hm hm' t1
          go_wp2_with fail
          refine h16.mono ?_
          rintro e w20 ⟨rfl, hb1⟩
          replace hB0 : Below w.heap.size w w20 := hB0.trans (hb1.mono hB0.size)
          clear p0 p1 h16 HA hb1
          go_wp2_with fail
          refine (awake_any _).mono ?_
          rintro e w21 ⟨rfl, hb1⟩
          go_wp2
          go_ret
          exact ⟨rfl, hB0.trans (hb1.mono hB0.size)⟩
    · have e1 : cmpI y 0 = -1 := by unfold cmpI; rw [if_pos (by omega)]
      rw [e1]
      clear e1
      have q0 := HB.box.c0
      have q1 := HB.box.c1
      go_wp2_with fail
      clear q0 q1
      refine (cmp0 HB).mono ?_
      rintro e w12 ⟨rfl, hb1⟩
      rw [show cmpI y 0 = -1 by unfold cmpI; rw [if_pos (by omega)]]
      replace H11 := H11.below hb1
      replace HA := HA.below hb1
      replace HB := HB.below hb1
      replace hB0 : Below w.heap.size w w12 := hB0.trans (hb1.mono hB0.size)
      clear hb1
      clear w11
      have e3 : ¬ 0 < cmpI zr 0 := by unfold cmpI; split <;> (try split) <;> omega
      have e4 : cmpI zr y = 1 := by unfold cmpI; rw [if_neg (by omega), if_pos d1]
      have q0 := H11.box.c0
      have q1 := H11.box.c1
      go_wp2_with fail
      clear q0 q1
      refine (cmp0 H11).mono ?_
      rintro e w13 ⟨rfl, hb1⟩
      obtain ⟨cr, hcr⟩ : ∃ c, cmpI zr 0 = c := ⟨_, rfl⟩
      rw [hcr] at e3 ⊢
      clear hcr
      replace H11 := H11.below hb1
      replace HA := HA.below hb1
      replace HB := HB.below hb1
      replace hB0 : Below w.heap.size w w13 := hB0.trans (hb1.mono hB0.size)
      clear hb1
      clear w12
      have CB := cmpH H11 HB
      rw [e4] at CB
      have q0 := H11.box.c0
      have q1 := H11.box.c1
      have q2 := HB.box.c0
      have q3 := HB.box.c1
      go_wp2_with fail
      clear q0 q1 q2 q3
      refine CB.mono ?_
      rintro e w14 ⟨rfl, hb1⟩
      replace H11 := H11.below hb1
      replace HA := HA.below hb1
      replace HB := HB.below hb1
      replace hB0 : Below w.heap.size w w14 := hB0.trans (hb1.mono hB0.size)
      clear hb1
      clear CB e4
      clear w13
      clear d1 d2
      clear hD hab H11 HB hp2 zy hy0
      by_cases hm : 1 ≤ m ∧ m ≤ 4611686018427387904
      · obtain ⟨k, rfl⟩ : ∃ k : Nat, m = (k : Int) := ⟨m.toNat, by omega⟩
        have t1 : ¬ (k : Int) < 1 := by omega
        have t2 : ¬ (4611686018427387904 : Int) < (k : Int) := by omega
        have hk : (1 : Int) ≤ (k : Int) := hm.1
        have hk2 : (k : Int) ≤ 4611686018427387904 := hm.2
        clear hm m1 m2
        have p0 := HA.box.c0
        have p1 := HA.box.c1
        go_upto_region 18 with fail
        go_cut [19, 20, 21] from 133 to 140 (fun _ v20 v21 W => ∃ N n a l c, v20 = .pointer (some ⟨N, 0, none⟩) ∧ v21 = .int .i64 0 ∧ Box2 W N n a l c ∧ IntIs w.heap.size W (.agg #[.bool n, .slice a l c]) (x % (k : Int)) ∧ Hd W w.heap.size na a0 l0 c0 xs x ∧ Below w.heap.size w W)
        case first =>
          have hk3 : ((k : Int)).natAbs < pw 256 := by
            have h1 : pw 2 ≤ pw 256 := pw_mono (by omega)
            have h2 : pw 2 = 18446744073709551616 := rfl
            omega
          refine wp_region_noPanic ?_
          refine wp_region_held_drew (S := fun W => W.cell? ⟨w.heap.size, 0, none⟩ = some (.bool na) ∧ W.cell? ⟨w.heap.size, 1, none⟩ = some (.slice a0 l0 c0)) (by kernel_rfl) ⟨p0, p1⟩ (fun _ => ?_)
          replace HA := HA.below below_drew
          replace hB0 : Below w.heap.size w w14.drew := hB0.drew
          clear p0 p1
          obtain ⟨W0, hW0⟩ : ∃ W, w14.drew = W := ⟨_, rfl⟩
          rw [hW0] at HA hB0 ⊢
          clear hW0
          refine wpAnyH_take (i := 0) (v := ?_) rfl (by kernel_rfl) (by kernel_rfl) (by kernel_rfl) (fun _ _ _ h => False.elim h) (Or.inl ⟨by rfl, ?hy⟩) ⟨HA.box.c0, HA.box.c1⟩ ?_
          case hy => (intro w hSw; (try dsimp only at hSw); go_simp; try with_reducible rfl)
          refine wpAnyH_take (i := 1) (v := ?_) rfl (by kernel_rfl) (by kernel_rfl) (by kernel_rfl) (fun _ _ _ h => False.elim h) (Or.inl ⟨by rfl, ?hy⟩) ⟨HA.box.c0, HA.box.c1⟩ ?_
          case hy => (intro w hSw; (try dsimp only at hSw); go_simp; try with_reducible rfl)
          refine wpAnyH_ready (rs := [2, 8, 9]) (by kernel_rfl) (by simp) ?_
          refine AllReadyH.cons rfl (fun K hK => ?_) ?_
          · go_simp
            refine (ofH (k : Int) _ hk3 (by omega) (by omega)).mono ?_
            rintro e w30 ⟨n30, a30, l30, c30, M30, rfl, O30, hb⟩
            replace HA := HA.below hb
            replace hB0 := hB0.trans (hb.mono hB0.size)
            clear hb
            refine hK.out _ _ ⟨HA.box.c0, HA.box.c1⟩ (fun _ => ?_)
            clear hK K
            refine wpAnyH_ready (rs := [3, 8, 9]) (by kernel_rfl) (by simp) ?_
            refine AllReadyH.cons rfl (fun K hK => ?_) ?_
            · go_simp
              refine (divC HA.sl HA.ok HA.le HA.num O30.sl O30.ok O30.le O30.num (by omega) hk3 (by omega)).mono ?_
              rintro e w31 ⟨n1, x1, y1, z1, n2, x2, y2, z2, zq, zr, rfl, hD, I1, I2, hb⟩
              rw [rest_of hD hk] at I2
              replace I2 := I2.mono hB0.size
              clear I1
              replace HA := HA.below hb
              replace O30 := O30.below hb
              replace hB0 := hB0.trans (hb.mono hB0.size)
              clear hb
              refine hK.out _ _ ⟨HA.box.c0, HA.box.c1⟩ (fun _ => ?_)
              clear hK K
              refine wpAnyH_take (i := 4) (v := ?_) rfl (by kernel_rfl) (by kernel_rfl) (by kernel_rfl) (fun _ _ _ h => False.elim h) (Or.inl ⟨by rfl, ?hy⟩) ⟨HA.box.c0, HA.box.c1⟩ ?_
              case hy => (intro w hSw; (try dsimp only at hSw); go_simp; try with_reducible rfl)
              refine wpAnyH_take (i := 5) (v := ?_) rfl (by kernel_rfl) (by kernel_rfl) (by kernel_rfl) (fun _ _ _ h => False.elim h) (Or.inl ⟨by rfl, ?hy⟩) ⟨HA.box.c0, HA.box.c1⟩ ?_
              case hy => (intro w hSw; (try dsimp only at hSw); go_simp; try with_reducible rfl)
              refine wpAnyH_take (i := 6) (v := ?_) rfl (by kernel_rfl) (by kernel_rfl) (by kernel_rfl) (fun _ _ _ h => False.elim h) (Or.inl ⟨by rfl, ?hy⟩) ⟨HA.box.c0, HA.box.c1⟩ ?_
              case hy => (intro w hSw; (try dsimp only at hSw); go_simp; try with_reducible rfl)
              refine wpAnyH_take (i := 7) (v := ?_) rfl (by kernel_rfl) (by kernel_rfl) (by kernel_rfl) (fun _ _ _ h => False.elim h) (Or.inl ⟨by rfl, ?hy⟩) ⟨HA.box.c0, HA.box.c1⟩ ?_
              case hy => (intro w hSw; (try dsimp only at hSw); go_simp; try with_reducible rfl)
              refine wpAnyH_ready (rs := [8, 9]) (by kernel_rfl) (by simp) ?_
              refine AllReadyH.cons rfl (fun K hK => ?_) ?_
              · go_simp
                obtain ⟨Wa0, hWn⟩ : ∃ W, World.alloc w31 (.cells #[.bool false, .slice none 0 0] 24) = W := ⟨_, rfl⟩
                have hb : Below w31.heap.size w31 Wa0 := by rw [← hWn]; exact below_alloc _ _
                have b8 : Box2 Wa0 w31.heap.size false none 0 0 := by rw [← hWn]; exact Box2.new _ _ _ _ _ _
                have lo8 : w.heap.size < w31.heap.size := HA.box.lt
                rw [hWn]
                obtain ⟨N19, hN⟩ : ∃ N, w31.heap.size = N := ⟨_, rfl⟩
                replace HA := HA.below hb
                replace O30 := O30.below hb
                replace I2 := I2.below hb
                replace hB0 := hB0.trans (hb.mono hB0.size)
                rw [hN] at b8 lo8 ⊢
                clear hN hWn hb
                refine hK.out _ _ ⟨HA.box.c0, HA.box.c1⟩ (fun _ => ?_)
                clear hK K
                refine wpAnyH_ready (rs := [9]) (by kernel_rfl) (by simp) ?_
                refine AllReadyH.cons rfl (fun K hK => ?_) ?_
                · go_simp
                  obtain ⟨Wa1, hWn⟩ : ∃ W, World.alloc Wa0 (.cells #[.bool false, .slice none 0 0] 24) = W := ⟨_, rfl⟩
                  have hb : Below Wa0.heap.size Wa0 Wa1 := by rw [← hWn]; exact below_alloc _ _
                  have b9 : Box2 Wa1 Wa0.heap.size false none 0 0 := by rw [← hWn]; exact Box2.new _ _ _ _ _ _
                  have lo9 : w.heap.size < Wa0.heap.size := HA.box.lt
                  have hne : N19 < Wa0.heap.size := b8.lt
                  rw [hWn]
                  obtain ⟨N20, hN⟩ : ∃ N, Wa0.heap.size = N := ⟨_, rfl⟩
                  replace HA := HA.below hb
                  replace O30 := O30.below hb
                  replace I2 := I2.below hb
                  replace b8 := b8.below hb
                  replace hB0 := hB0.trans (hb.mono hB0.size)
                  rw [hN] at b9 lo9 hne ⊢
                  clear hN hWn hb
                  refine hK.out _ _ ⟨HA.box.c0, HA.box.c1⟩ (fun _ => ?_)
                  clear hK K
                  refine wpAnyH_ready (rs := [10]) (by kernel_rfl) (by simp) ?_
                  refine AllReadyH.cons rfl (fun K hK => ?_) ?_
                  · have e0 := b8.c0
                    have e1 := b8.c1
                    have e2 := b8.f0
                    have e3 := b8.f1
                    go_simp
                    clear e0 e1 e2 e3
                    have HA2 : Hd (put2 Wa1 N19 n1 (.slice x1 y1 z1)) w.heap.size na a0 l0 c0 xs x := ⟨HA.box.putO (by omega) _ _, HA.sl.put b8 _ _, HA.ok, HA.le, HA.num⟩
                    have I3 := I2.put b8 n1 (.slice x1 y1 z1)
                    have b92 := b9.putO (M := N19) (by omega) n1 (.slice x1 y1 z1)
                    have hB2 := below_put2 (N := N19) hB0 (by omega) n1 (.slice x1 y1 z1)
                    obtain ⟨Wp2, hWp⟩ : ∃ W, (Wa1.setCell ⟨N19, 0, none⟩ (.bool n1)).setCell ⟨N19, 1, none⟩ (.slice x1 y1 z1) = W := ⟨_, rfl⟩
                    have hWq : put2 Wa1 N19 n1 (.slice x1 y1 z1) = Wp2 := hWp
                    rw [hWq] at HA2 I3 b92 hB2
                    rw [hWp]
                    clear hWp hWq HA I2 b9 hB0
                    have HA := HA2
                    have I2 := I3
                    have b9 := b92
                    have hB0 := hB2
                    clear HA2 I3 b92 hB2
                    refine hK.out _ _ ⟨HA.box.c0, HA.box.c1⟩ (fun _ => ?_)
                    clear hK K
                    refine wpAnyH_ready (rs := [11]) (by kernel_rfl) (by simp) ?_
                    refine AllReadyH.cons rfl (fun K hK => ?_) ?_
                    · have e0 := b9.c0
                      have e1 := b9.c1
                      have e2 := b9.f0
                      have e3 := b9.f1
                      go_simp
                      clear e0 e1 e2 e3
                      have HA2 : Hd (put2 Wp2 N20 n2 (.slice x2 y2 z2)) w.heap.size na a0 l0 c0 xs x := ⟨HA.box.putO (by omega) _ _, HA.sl.put b9 _ _, HA.ok, HA.le, HA.num⟩
                      have I3 := I2.put b9 n2 (.slice x2 y2 z2)
                      have b92 := b9.put n2 x2 y2 z2
                      have hB2 := below_put2 (N := N20) hB0 (by omega) n2 (.slice x2 y2 z2)
                      obtain ⟨Wp3, hWp⟩ : ∃ W, (Wp2.setCell ⟨N20, 0, none⟩ (.bool n2)).setCell ⟨N20, 1, none⟩ (.slice x2 y2 z2) = W := ⟨_, rfl⟩
                      have hWq : put2 Wp2 N20 n2 (.slice x2 y2 z2) = Wp3 := hWp
                      rw [hWq] at HA2 I3 b92 hB2
                      rw [hWp]
                      clear hWp hWq HA I2 b9 hB0
                      have HA := HA2
                      have I2 := I3
                      have b9 := b92
                      have hB0 := hB2
                      clear HA2 I3 b92 hB2
                      refine hK.out _ _ ⟨HA.box.c0, HA.box.c1⟩ (fun _ => ?_)
                      clear hK K
                      refine wpAnyH_ready (rs := [12]) (by kernel_rfl) (by simp) ?_
                      refine AllReadyH.cons rfl (fun K hK => ?_) ?_
                      · go_simp
                        refine hK.out _ _ ⟨HA.box.c0, HA.box.c1⟩ (fun _ => ?_)
                        clear hK K
                        refine wpAnyH_done (by kernel_rfl) ?_ _
                        refine NoPanic.normal ?_
                        go_wp2_with fail
                        go_meet
                        case rel => exact ⟨N20, n2, x2, y2, z2, rfl, rfl, b9, I2, HA, hB0⟩
                      exact AllReadyH.nil
                    exact AllReadyH.nil
                  exact AllReadyH.nil
                exact AllReadyH.nil
              refine AllReadyH.cons rfl (fun K hK => ?_) ?_
              · go_simp
                obtain ⟨Wa0, hWn⟩ : ∃ W, World.alloc w31 (.cells #[.bool false, .slice none 0 0] 24) = W := ⟨_, rfl⟩
                have hb : Below w31.heap.size w31 Wa0 := by rw [← hWn]; exact below_alloc _ _
                have b9 : Box2 Wa0 w31.heap.size false none 0 0 := by rw [← hWn]; exact Box2.new _ _ _ _ _ _
                have lo9 : w.heap.size < w31.heap.size := HA.box.lt
                rw [hWn]
                obtain ⟨N20, hN⟩ : ∃ N, w31.heap.size = N := ⟨_, rfl⟩
                replace HA := HA.below hb
                replace O30 := O30.below hb
                replace I2 := I2.below hb
                replace hB0 := hB0.trans (hb.mono hB0.size)
                rw [hN] at b9 lo9 ⊢
                clear hN hWn hb
                refine hK.out _ _ ⟨HA.box.c0, HA.box.c1⟩ (fun _ => ?_)
                clear hK K
                refine wpAnyH_ready (rs := [8]) (by kernel_rfl) (by simp) ?_
                refine AllReadyH.cons rfl (fun K hK => ?_) ?_
                · go_simp
                  obtain ⟨Wa1, hWn⟩ : ∃ W, World.alloc Wa0 (.cells #[.bool false, .slice none 0 0] 24) = W := ⟨_, rfl⟩
                  have hb : Below Wa0.heap.size Wa0 Wa1 := by rw [← hWn]; exact below_alloc _ _
                  have b8 : Box2 Wa1 Wa0.heap.size false none 0 0 := by rw [← hWn]; exact Box2.new _ _ _ _ _ _
                  have lo8 : w.heap.size < Wa0.heap.size := HA.box.lt
                  have hne : N20 < Wa0.heap.size := b9.lt
                  rw [hWn]
                  obtain ⟨N19, hN⟩ : ∃ N, Wa0.heap.size = N := ⟨_, rfl⟩
                  replace HA := HA.below hb
                  replace O30 := O30.below hb
                  replace I2 := I2.below hb
                  replace b9 := b9.below hb
                  replace hB0 := hB0.trans (hb.mono hB0.size)
                  rw [hN] at b8 lo8 hne ⊢
                  clear hN hWn hb
                  refine hK.out _ _ ⟨HA.box.c0, HA.box.c1⟩ (fun _ => ?_)
                  clear hK K
                  refine wpAnyH_ready (rs := [10]) (by kernel_rfl) (by simp) ?_
                  refine AllReadyH.cons rfl (fun K hK => ?_) ?_
                  · have e0 := b8.c0
                    have e1 := b8.c1
                    have e2 := b8.f0
                    have e3 := b8.f1
                    go_simp
                    clear e0 e1 e2 e3
                    have HA2 : Hd (put2 Wa1 N19 n1 (.slice x1 y1 z1)) w.heap.size na a0 l0 c0 xs x := ⟨HA.box.putO (by omega) _ _, HA.sl.put b8 _ _, HA.ok, HA.le, HA.num⟩
                    have I3 := I2.put b8 n1 (.slice x1 y1 z1)
                    have b92 := b9.putO (M := N19) (by omega) n1 (.slice x1 y1 z1)
                    have hB2 := below_put2 (N := N19) hB0 (by omega) n1 (.slice x1 y1 z1)
                    obtain ⟨Wp2, hWp⟩ : ∃ W, (Wa1.setCell ⟨N19, 0, none⟩ (.bool n1)).setCell ⟨N19, 1, none⟩ (.slice x1 y1 z1) = W := ⟨_, rfl⟩
                    have hWq : put2 Wa1 N19 n1 (.slice x1 y1 z1) = Wp2 := hWp
                    rw [hWq] at HA2 I3 b92 hB2
                    rw [hWp]
                    clear hWp hWq HA I2 b9 hB0
                    have HA := HA2
                    have I2 := I3
                    have b9 := b92
                    have hB0 := hB2
                    clear HA2 I3 b92 hB2
                    refine hK.out _ _ ⟨HA.box.c0, HA.box.c1⟩ (fun _ => ?_)
                    clear hK K
                    refine wpAnyH_ready (rs := [11]) (by kernel_rfl) (by simp) ?_
                    refine AllReadyH.cons rfl (fun K hK => ?_) ?_
                    · have e0 := b9.c0
                      have e1 := b9.c1
                      have e2 := b9.f0
                      have e3 := b9.f1
                      go_simp
                      clear e0 e1 e2 e3
                      have HA2 : Hd (put2 Wp2 N20 n2 (.slice x2 y2 z2)) w.heap.size na a0 l0 c0 xs x := ⟨HA.box.putO (by omega) _ _, HA.sl.put b9 _ _, HA.ok, HA.le, HA.num⟩
                      have I3 := I2.put b9 n2 (.slice x2 y2 z2)
                      have b92 := b9.put n2 x2 y2 z2
                      have hB2 := below_put2 (N := N20) hB0 (by omega) n2 (.slice x2 y2 z2)
                      obtain ⟨Wp3, hWp⟩ : ∃ W, (Wp2.setCell ⟨N20, 0, none⟩ (.bool n2)).setCell ⟨N20, 1, none⟩ (.slice x2 y2 z2) = W := ⟨_, rfl⟩
                      have hWq : put2 Wp2 N20 n2 (.slice x2 y2 z2) = Wp3 := hWp
                      rw [hWq] at HA2 I3 b92 hB2
                      rw [hWp]
                      clear hWp hWq HA I2 b9 hB0
                      have HA := HA2
                      have I2 := I3
                      have b9 := b92
                      have hB0 := hB2
                      clear HA2 I3 b92 hB2
                      refine hK.out _ _ ⟨HA.box.c0, HA.box.c1⟩ (fun _ => ?_)
                      clear hK K
                      refine wpAnyH_ready (rs := [12]) (by kernel_rfl) (by simp) ?_
                      refine AllReadyH.cons rfl (fun K hK => ?_) ?_
                      · go_simp
                        refine hK.out _ _ ⟨HA.box.c0, HA.box.c1⟩ (fun _ => ?_)
                        clear hK K
                        refine wpAnyH_done (by kernel_rfl) ?_ _
                        refine NoPanic.normal ?_
                        go_wp2_with fail
                        go_meet
                        case rel => exact ⟨N20, n2, x2, y2, z2, rfl, rfl, b9, I2, HA, hB0⟩
                      exact AllReadyH.nil
                    exact AllReadyH.nil
                  exact AllReadyH.nil
                exact AllReadyH.nil
              exact AllReadyH.nil
            refine AllReadyH.cons rfl (fun K hK => ?_) ?_
            · go_simp
              obtain ⟨Wa0, hWn⟩ : ∃ W, World.alloc w30 (.cells #[.bool false, .slice none 0 0] 24) = W := ⟨_, rfl⟩
              have hb : Below w30.heap.size w30 Wa0 := by rw [← hWn]; exact below_alloc _ _
              have b8 : Box2 Wa0 w30.heap.size false none 0 0 := by rw [← hWn]; exact Box2.new _ _ _ _ _ _
              have lo8 : w.heap.size < w30.heap.size := HA.box.lt
              rw [hWn]
              obtain ⟨N19, hN⟩ : ∃ N, w30.heap.size = N := ⟨_, rfl⟩
              replace HA := HA.below hb
              replace O30 := O30.below hb
              replace hB0 := hB0.trans (hb.mono hB0.size)
              rw [hN] at b8 lo8 ⊢
              clear hN hWn hb
              refine hK.out _ _ ⟨HA.box.c0, HA.box.c1⟩ (fun _ => ?_)
              clear hK K
              refine wpAnyH_ready (rs := [3, 9]) (by kernel_rfl) (by simp) ?_
              refine AllReadyH.cons rfl (fun K hK => ?_) ?_
              · go_simp
                refine (divC HA.sl HA.ok HA.le HA.num O30.sl O30.ok O30.le O30.num (by omega) hk3 (by omega)).mono ?_
                rintro e w31 ⟨n1, x1, y1, z1, n2, x2, y2, z2, zq, zr, rfl, hD, I1, I2, hb⟩
                rw [rest_of hD hk] at I2
                replace I2 := I2.mono hB0.size
                clear I1
                replace HA := HA.below hb
                replace O30 := O30.below hb
                replace b8 := b8.below hb
                replace hB0 := hB0.trans (hb.mono hB0.size)
                clear hb
                refine hK.out _ _ ⟨HA.box.c0, HA.box.c1⟩ (fun _ => ?_)
                clear hK K
                refine wpAnyH_take (i := 4) (v := ?_) rfl (by kernel_rfl) (by kernel_rfl) (by kernel_rfl) (fun _ _ _ h => False.elim h) (Or.inl ⟨by rfl, ?hy⟩) ⟨HA.box.c0, HA.box.c1⟩ ?_
                case hy => (intro w hSw; (try dsimp only at hSw); go_simp; try with_reducible rfl)
                refine wpAnyH_take (i := 5) (v := ?_) rfl (by kernel_rfl) (by kernel_rfl) (by kernel_rfl) (fun _ _ _ h => False.elim h) (Or.inl ⟨by rfl, ?hy⟩) ⟨HA.box.c0, HA.box.c1⟩ ?_
                case hy => (intro w hSw; (try dsimp only at hSw); go_simp; try with_reducible rfl)
                refine wpAnyH_take (i := 6) (v := ?_) rfl (by kernel_rfl) (by kernel_rfl) (by kernel_rfl) (fun _ _ _ h => False.elim h) (Or.inl ⟨by rfl, ?hy⟩) ⟨HA.box.c0, HA.box.c1⟩ ?_
                case hy => (intro w hSw; (try dsimp only at hSw); go_simp; try with_reducible rfl)
                refine wpAnyH_take (i := 7) (v := ?_) rfl (by kernel_rfl) (by kernel_rfl) (by kernel_rfl) (fun _ _ _ h => False.elim h) (Or.inl ⟨by rfl, ?hy⟩) ⟨HA.box.c0, HA.box.c1⟩ ?_
                case hy => (intro w hSw; (try dsimp only at hSw); go_simp; try with_reducible rfl)
                refine wpAnyH_ready (rs := [9]) (by kernel_rfl) (by simp) ?_
                refine AllReadyH.cons rfl (fun K hK => ?_) ?_
                · go_simp
                  obtain ⟨Wa1, hWn⟩ : ∃ W, World.alloc w31 (.cells #[.bool false, .slice none 0 0] 24) = W := ⟨_, rfl⟩
                  have hb : Below w31.heap.size w31 Wa1 := by rw [← hWn]; exact below_alloc _ _
                  have b9 : Box2 Wa1 w31.heap.size false none 0 0 := by rw [← hWn]; exact Box2.new _ _ _ _ _ _
                  have lo9 : w.heap.size < w31.heap.size := HA.box.lt
                  have hne : N19 < w31.heap.size := b8.lt
                  rw [hWn]
                  obtain ⟨N20, hN⟩ : ∃ N, w31.heap.size = N := ⟨_, rfl⟩
                  replace HA := HA.below hb
                  replace O30 := O30.below hb
                  replace I2 := I2.below hb
                  replace b8 := b8.below hb
                  replace hB0 := hB0.trans (hb.mono hB0.size)
                  rw [hN] at b9 lo9 hne ⊢
                  clear hN hWn hb
                  refine hK.out _ _ ⟨HA.box.c0, HA.box.c1⟩ (fun _ => ?_)
                  clear hK K
                  refine wpAnyH_ready (rs := [10]) (by kernel_rfl) (by simp) ?_
                  refine AllReadyH.cons rfl (fun K hK => ?_) ?_
                  · have e0 := b8.c0
                    have e1 := b8.c1
                    have e2 := b8.f0
                    have e3 := b8.f1
                    go_simp
                    clear e0 e1 e2 e3
                    have HA2 : Hd (put2 Wa1 N19 n1 (.slice x1 y1 z1)) w.heap.size na a0 l0 c0 xs x := ⟨HA.box.putO (by omega) _ _, HA.sl.put b8 _ _, HA.ok, HA.le, HA.num⟩
                    have I3 := I2.put b8 n1 (.slice x1 y1 z1)
                    have b92 := b9.putO (M := N19) (by omega) n1 (.slice x1 y1 z1)
                    have hB2 := below_put2 (N := N19) hB0 (by omega) n1 (.slice x1 y1 z1)
                    obtain ⟨Wp2, hWp⟩ : ∃ W, (Wa1.setCell ⟨N19, 0, none⟩ (.bool n1)).setCell ⟨N19, 1, none⟩ (.slice x1 y1 z1) = W := ⟨_, rfl⟩
                    have hWq : put2 Wa1 N19 n1 (.slice x1 y1 z1) = Wp2 := hWp
                    rw [hWq] at HA2 I3 b92 hB2
                    rw [hWp]
                    clear hWp hWq HA I2 b9 hB0
                    have HA := HA2
                    have I2 := I3
                    have b9 := b92
                    have hB0 := hB2
                    clear HA2 I3 b92 hB2
                    refine hK.out _ _ ⟨HA.box.c0, HA.box.c1⟩ (fun _ => ?_)
                    clear hK K
                    refine wpAnyH_ready (rs := [11]) (by kernel_rfl) (by simp) ?_
                    refine AllReadyH.cons rfl (fun K hK => ?_) ?_
                    · have e0 := b9.c0
                      have e1 := b9.c1
                      have e2 := b9.f0
                      have e3 := b9.f1
                      go_simp
                      clear e0 e1 e2 e3
                      have HA2 : Hd (put2 Wp2 N20 n2 (.slice x2 y2 z2)) w.heap.size na a0 l0 c0 xs x := ⟨HA.box.putO (by omega) _ _, HA.sl.put b9 _ _, HA.ok, HA.le, HA.num⟩
                      have I3 := I2.put b9 n2 (.slice x2 y2 z2)
                      have b92 := b9.put n2 x2 y2 z2
                      have hB2 := below_put2 (N := N20) hB0 (by omega) n2 (.slice x2 y2 z2)
                      obtain ⟨Wp3, hWp⟩ : ∃ W, (Wp2.setCell ⟨N20, 0, none⟩ (.bool n2)).setCell ⟨N20, 1, none⟩ (.slice x2 y2 z2) = W := ⟨_, rfl⟩
                      have hWq : put2 Wp2 N20 n2 (.slice x2 y2 z2) = Wp3 := hWp
                      rw [hWq] at HA2 I3 b92 hB2
                      rw [hWp]
                      clear hWp hWq HA I2 b9 hB0
                      have HA := HA2
                      have I2 := I3
                      have b9 := b92
                      have hB0 := hB2
                      clear HA2 I3 b92 hB2
                      refine hK.out _ _ ⟨HA.box.c0, HA.box.c1⟩ (fun _ => ?_)
                      clear hK K
                      refine wpAnyH_ready (rs := [12]) (by kernel_rfl) (by simp) ?_
                      refine AllReadyH.cons rfl (fun K hK => ?_) ?_
                      · go_simp
                        refine hK.out _ _ ⟨HA.box.c0, HA.box.c1⟩ (fun _ => ?_)
                        clear hK K
                        refine wpAnyH_done (by kernel_rfl) ?_ _
                        refine NoPanic.normal ?_
                        go_wp2_with fail
                        go_meet
                        case rel => exact ⟨N20, n2, x2, y2, z2, rfl, rfl, b9, I2, HA, hB0⟩
                      exact AllReadyH.nil
                    exact AllReadyH.nil
                  exact AllReadyH.nil
                exact AllReadyH.nil
              refine AllReadyH.cons rfl (fun K hK => ?_) ?_
              · go_simp
                obtain ⟨Wa1, hWn⟩ : ∃ W, World.alloc Wa0 (.cells #[.bool false, .slice none 0 0] 24) = W := ⟨_, rfl⟩
                have hb : Below Wa0.heap.size Wa0 Wa1 := by rw [← hWn]; exact below_alloc _ _
                have b9 : Box2 Wa1 Wa0.heap.size false none 0 0 := by rw [← hWn]; exact Box2.new _ _ _ _ _ _
                have lo9 : w.heap.size < Wa0.heap.size := HA.box.lt
                have hne : N19 < Wa0.heap.size := b8.lt
                rw [hWn]
                obtain ⟨N20, hN⟩ : ∃ N, Wa0.heap.size = N := ⟨_, rfl⟩
                replace HA := HA.below hb
                replace O30 := O30.below hb
                replace b8 := b8.below hb
                replace hB0 := hB0.trans (hb.mono hB0.size)
                rw [hN] at b9 lo9 hne ⊢
                clear hN hWn hb
                refine hK.out _ _ ⟨HA.box.c0, HA.box.c1⟩ (fun _ => ?_)
                clear hK K
                refine wpAnyH_ready (rs := [3]) (by kernel_rfl) (by simp) ?_
                refine AllReadyH.cons rfl (fun K hK => ?_) ?_
                · go_simp
                  refine (divC HA.sl HA.ok HA.le HA.num O30.sl O30.ok O30.le O30.num (by omega) hk3 (by omega)).mono ?_
                  rintro e w31 ⟨n1, x1, y1, z1, n2, x2, y2, z2, zq, zr, rfl, hD, I1, I2, hb⟩
                  rw [rest_of hD hk] at I2
                  replace I2 := I2.mono hB0.size
                  clear I1
                  replace HA := HA.below hb
                  replace O30 := O30.below hb
                  replace b8 := b8.below hb
                  replace b9 := b9.below hb
                  replace hB0 := hB0.trans (hb.mono hB0.size)
                  clear hb
                  refine hK.out _ _ ⟨HA.box.c0, HA.box.c1⟩ (fun _ => ?_)
                  clear hK K
                  refine wpAnyH_take (i := 4) (v := ?_) rfl (by kernel_rfl) (by kernel_rfl) (by kernel_rfl) (fun _ _ _ h => False.elim h) (Or.inl ⟨by rfl, ?hy⟩) ⟨HA.box.c0, HA.box.c1⟩ ?_
                  case hy => (intro w hSw; (try dsimp only at hSw); go_simp; try with_reducible rfl)
                  refine wpAnyH_take (i := 5) (v := ?_) rfl (by kernel_rfl) (by kernel_rfl) (by kernel_rfl) (fun _ _ _ h => False.elim h) (Or.inl ⟨by rfl, ?hy⟩) ⟨HA.box.c0, HA.box.c1⟩ ?_
                  case hy => (intro w hSw; (try dsimp only at hSw); go_simp; try with_reducible rfl)
                  refine wpAnyH_take (i := 6) (v := ?_) rfl (by kernel_rfl) (by kernel_rfl) (by kernel_rfl) (fun _ _ _ h => False.elim h) (Or.inl ⟨by rfl, ?hy⟩) ⟨HA.box.c0, HA.box.c1⟩ ?_
                  case hy => (intro w hSw; (try dsimp only at hSw); go_simp; try with_reducible rfl)
                  refine wpAnyH_take (i := 7) (v := ?_) rfl (by kernel_rfl) (by kernel_rfl) (by kernel_rfl) (fun _ _ _ h => False.elim h) (Or.inl ⟨by rfl, ?hy⟩) ⟨HA.box.c0, HA.box.c1⟩ ?_
                  case hy => (intro w hSw; (try dsimp only at hSw); go_simp; try with_reducible rfl)
                  refine wpAnyH_ready (rs := [10]) (by kernel_rfl) (by simp) ?_
                  refine AllReadyH.cons rfl (fun K hK => ?_) ?_
                  · have e0 := b8.c0
                    have e1 := b8.c1
                    have e2 := b8.f0
                    have e3 := b8.f1
                    go_simp
                    clear e0 e1 e2 e3
                    have HA2 : Hd (put2 w31 N19 n1 (.slice x1 y1 z1)) w.heap.size na a0 l0 c0 xs x := ⟨HA.box.putO (by omega) _ _, HA.sl.put b8 _ _, HA.ok, HA.le, HA.num⟩
                    have I3 := I2.put b8 n1 (.slice x1 y1 z1)
                    have b92 := b9.putO (M := N19) (by omega) n1 (.slice x1 y1 z1)
                    have hB2 := below_put2 (N := N19) hB0 (by omega) n1 (.slice x1 y1 z1)
                    obtain ⟨Wp2, hWp⟩ : ∃ W, (w31.setCell ⟨N19, 0, none⟩ (.bool n1)).setCell ⟨N19, 1, none⟩ (.slice x1 y1 z1) = W := ⟨_, rfl⟩
                    have hWq : put2 w31 N19 n1 (.slice x1 y1 z1) = Wp2 := hWp
                    rw [hWq] at HA2 I3 b92 hB2
                    rw [hWp]
                    clear hWp hWq HA I2 b9 hB0
                    have HA := HA2
                    have I2 := I3
                    have b9 := b92
                    have hB0 := hB2
                    clear HA2 I3 b92 hB2
                    refine hK.out _ _ ⟨HA.box.c0, HA.box.c1⟩ (fun _ => ?_)
                    clear hK K
                    refine wpAnyH_ready (rs := [11]) (by kernel_rfl) (by simp) ?_
                    refine AllReadyH.cons rfl (fun K hK => ?_) ?_
                    · have e0 := b9.c0
                      have e1 := b9.c1
                      have e2 := b9.f0
                      have e3 := b9.f1
                      go_simp
                      clear e0 e1 e2 e3
                      have HA2 : Hd (put2 Wp2 N20 n2 (.slice x2 y2 z2)) w.heap.size na a0 l0 c0 xs x := ⟨HA.box.putO (by omega) _ _, HA.sl.put b9 _ _, HA.ok, HA.le, HA.num⟩
                      have I3 := I2.put b9 n2 (.slice x2 y2 z2)
                      have b92 := b9.put n2 x2 y2 z2
                      have hB2 := below_put2 (N := N20) hB0 (by omega) n2 (.slice x2 y2 z2)
                      obtain ⟨Wp3, hWp⟩ : ∃ W, (Wp2.setCell ⟨N20, 0, none⟩ (.bool n2)).setCell ⟨N20, 1, none⟩ (.slice x2 y2 z2) = W := ⟨_, rfl⟩
                      have hWq : put2 Wp2 N20 n2 (.slice x2 y2 z2) = Wp3 := hWp
                      rw [hWq] at HA2 I3 b92 hB2
                      rw [hWp]
                      clear hWp hWq HA I2 b9 hB0
                      have HA := HA2
                      have I2 := I3
                      have b9 := b92
                      have hB0 := hB2
                      clear HA2 I3 b92 hB2
                      refine hK.out _ _ ⟨HA.box.c0, HA.box.c1⟩ (fun _ => ?_)
                      clear hK K
                      refine wpAnyH_ready (rs := [12]) (by kernel_rfl) (by simp) ?_
                      refine AllReadyH.cons rfl (fun K hK => ?_) ?_
                      · go_simp
                        refine hK.out _ _ ⟨HA.box.c0, HA.box.c1⟩ (fun _ => ?_)
                        clear hK K
                        refine wpAnyH_done (by kernel_rfl) ?_ _
                        refine NoPanic.normal ?_
                        go_wp2_with fail
                        go_meet
                        case rel => exact ⟨N20, n2, x2, y2, z2, rfl, rfl, b9, I2, HA, hB0⟩
                      exact AllReadyH.nil
                    exact AllReadyH.nil
                  exact AllReadyH.nil
                exact AllReadyH.nil
              exact AllReadyH.nil
            refine AllReadyH.cons rfl (fun K hK => ?_) ?_
            · go_simp
              obtain ⟨Wa0, hWn⟩ : ∃ W, World.alloc w30 (.cells #[.bool false, .slice none 0 0] 24) = W := ⟨_, rfl⟩
              have hb : Below w30.heap.size w30 Wa0 := by rw [← hWn]; exact below_alloc _ _
              have b9 : Box2 Wa0 w30.heap.size false none 0 0 := by rw [← hWn]; exact Box2.new _ _ _ _ _ _
              have lo9 : w.heap.size < w30.heap.size := HA.box.lt
              rw [hWn]
              obtain ⟨N20, hN⟩ : ∃ N, w30.heap.size = N := ⟨_, rfl⟩
              replace HA := HA.below hb
              replace O30 := O30.below hb
              replace hB0 := hB0.trans (hb.mono hB0.size)
              rw [hN] at b9 lo9 ⊢
              clear hN hWn hb
              refine hK.out _ _ ⟨HA.box.c0, HA.box.c1⟩ (fun _ => ?_)
              clear hK K
              refine wpAnyH_ready (rs := [3, 8]) (by kernel_rfl) (by simp) ?_
              refine AllReadyH.cons rfl (fun K hK => ?_) ?_
              · go_simp
                refine (divC HA.sl HA.ok HA.le HA.num O30.sl O30.ok O30.le O30.num (by omega) hk3 (by omega)).mono ?_
                rintro e w31 ⟨n1, x1, y1, z1, n2, x2, y2, z2, zq, zr, rfl, hD, I1, I2, hb⟩
                rw [rest_of hD hk] at I2
                replace I2 := I2.mono hB0.size
                clear I1
                replace HA := HA.below hb
                replace O30 := O30.below hb
                replace b9 := b9.below hb
                replace hB0 := hB0.trans (hb.mono hB0.size)
                clear hb
                refine hK.out _ _ ⟨HA.box.c0, HA.box.c1⟩ (fun _ => ?_)
                clear hK K
                refine wpAnyH_take (i := 4) (v := ?_) rfl (by kernel_rfl) (by kernel_rfl) (by kernel_rfl) (fun _ _ _ h => False.elim h) (Or.inl ⟨by rfl, ?hy⟩) ⟨HA.box.c0, HA.box.c1⟩ ?_
                case hy => (intro w hSw; (try dsimp only at hSw); go_simp; try with_reducible rfl)
                refine wpAnyH_take (i := 5) (v := ?_) rfl (by kernel_rfl) (by kernel_rfl) (by kernel_rfl) (fun _ _ _ h => False.elim h) (Or.inl ⟨by rfl, ?hy⟩) ⟨HA.box.c0, HA.box.c1⟩ ?_
                case hy => (intro w hSw; (try dsimp only at hSw); go_simp; try with_reducible rfl)
                refine wpAnyH_take (i := 6) (v := ?_) rfl (by kernel_rfl) (by kernel_rfl) (by kernel_rfl) (fun _ _ _ h => False.elim h) (Or.inl ⟨by rfl, ?hy⟩) ⟨HA.box.c0, HA.box.c1⟩ ?_
                case hy => (intro w hSw; (try dsimp only at hSw); go_simp; try with_reducible rfl)
                refine wpAnyH_take (i := 7) (v := ?_) rfl (by kernel_rfl) (by kernel_rfl) (by kernel_rfl) (fun _ _ _ h => False.elim h) (Or.inl ⟨by rfl, ?hy⟩) ⟨HA.box.c0, HA.box.c1⟩ ?_
                case hy => (intro w hSw; (try dsimp only at hSw); go_simp; try with_reducible rfl)
                refine wpAnyH_ready (rs := [8]) (by kernel_rfl) (by simp) ?_
                refine AllReadyH.cons rfl (fun K hK => ?_) ?_
                · go_simp
                  obtain ⟨Wa1, hWn⟩ : ∃ W, World.alloc w31 (.cells #[.bool false, .slice none 0 0] 24) = W := ⟨_, rfl⟩
                  have hb : Below w31.heap.size w31 Wa1 := by rw [← hWn]; exact below_alloc _ _
                  have b8 : Box2 Wa1 w31.heap.size false none 0 0 := by rw [← hWn]; exact Box2.new _ _ _ _ _ _
                  have lo8 : w.heap.size < w31.heap.size := HA.box.lt
                  have hne : N20 < w31.heap.size := b9.lt
                  rw [hWn]
                  obtain ⟨N19, hN⟩ : ∃ N, w31.heap.size = N := ⟨_, rfl⟩
                  replace HA := HA.below hb
                  replace O30 := O30.below hb
                  replace I2 := I2.below hb
                  replace b9 := b9.below hb
                  replace hB0 := hB0.trans (hb.mono hB0.size)
                  rw [hN] at b8 lo8 hne ⊢
                  clear hN hWn hb
                  refine hK.out _ _ ⟨HA.box.c0, HA.box.c1⟩ (fun _ => ?_)
                  clear hK K
                  refine wpAnyH_ready (rs := [10]) (by kernel_rfl) (by simp) ?_
                  refine AllReadyH.cons rfl (fun K hK => ?_) ?_
                  · have e0 := b8.c0
                    have e1 := b8.c1
                    have e2 := b8.f0
                    have e3 := b8.f1
                    go_simp
                    clear e0 e1 e2 e3
                    have HA2 : Hd (put2 Wa1 N19 n1 (.slice x1 y1 z1)) w.heap.size na a0 l0 c0 xs x := ⟨HA.box.putO (by omega) _ _, HA.sl.put b8 _ _, HA.ok, HA.le, HA.num⟩
                    have I3 := I2.put b8 n1 (.slice x1 y1 z1)
                    have b92 := b9.putO (M := N19) (by omega) n1 (.slice x1 y1 z1)
                    have hB2 := below_put2 (N := N19) hB0 (by omega) n1 (.slice x1 y1 z1)
                    obtain ⟨Wp2, hWp⟩ : ∃ W, (Wa1.setCell ⟨N19, 0, none⟩ (.bool n1)).setCell ⟨N19, 1, none⟩ (.slice x1 y1 z1) = W := ⟨_, rfl⟩
                    have hWq : put2 Wa1 N19 n1 (.slice x1 y1 z1) = Wp2 := hWp
                    rw [hWq] at HA2 I3 b92 hB2
                    rw [hWp]
                    clear hWp hWq HA I2 b9 hB0
                    have HA := HA2
                    have I2 := I3
                    have b9 := b92
                    have hB0 := hB2
                    clear HA2 I3 b92 hB2
                    refine hK.out _ _ ⟨HA.box.c0, HA.box.c1⟩ (fun _ => ?_)
                    clear hK K
                    refine wpAnyH_ready (rs := [11]) (by kernel_rfl) (by simp) ?_
                    refine AllReadyH.cons rfl (fun K hK => ?_) ?_
                    · have e0 := b9.c0
                      have e1 := b9.c1
                      have e2 := b9.f0
                      have e3 := b9.f1
                      go_simp
                      clear e0 e1 e2 e3
                      have HA2 : Hd (put2 Wp2 N20 n2 (.slice x2 y2 z2)) w.heap.size na a0 l0 c0 xs x := ⟨HA.box.putO (by omega) _ _, HA.sl.put b9 _ _, HA.ok, HA.le, HA.num⟩
                      have I3 := I2.put b9 n2 (.slice x2 y2 z2)
                      have b92 := b9.put n2 x2 y2 z2
                      have hB2 := below_put2 (N := N20) hB0 (by omega) n2 (.slice x2 y2 z2)
                      obtain ⟨Wp3, hWp⟩ : ∃ W, (Wp2.setCell ⟨N20, 0, none⟩ (.bool n2)).setCell ⟨N20, 1, none⟩ (.slice x2 y2 z2) = W := ⟨_, rfl⟩
                      have hWq : put2 Wp2 N20 n2 (.slice x2 y2 z2) = Wp3 := hWp
                      rw [hWq] at HA2 I3 b92 hB2
                      rw [hWp]
                      clear hWp hWq HA I2 b9 hB0
                      have HA := HA2
                      have I2 := I3
                      have b9 := b92
                      have hB0 := hB2
                      clear HA2 I3 b92 hB2
                      refine hK.out _ _ ⟨HA.box.c0, HA.box.c1⟩ (fun _ => ?_)
                      clear hK K
                      refine wpAnyH_ready (rs := [12]) (by kernel_rfl) (by simp) ?_
                      refine AllReadyH.cons rfl (fun K hK => ?_) ?_
                      · go_simp
                        refine hK.out _ _ ⟨HA.box.c0, HA.box.c1⟩ (fun _ => ?_)
                        clear hK K
                        refine wpAnyH_done (by kernel_rfl) ?_ _
                        refine NoPanic.normal ?_
                        go_wp2_with fail
                        go_meet
                        case rel => exact ⟨N20, n2, x2, y2, z2, rfl, rfl, b9, I2, HA, hB0⟩
                      exact AllReadyH.nil
                    exact AllReadyH.nil
                  exact AllReadyH.nil
                exact AllReadyH.nil
              refine AllReadyH.cons rfl (fun K hK => ?_) ?_
              · go_simp
                obtain ⟨Wa1, hWn⟩ : ∃ W, World.alloc Wa0 (.cells #[.bool false, .slice none 0 0] 24) = W := ⟨_, rfl⟩
                have hb : Below Wa0.heap.size Wa0 Wa1 := by rw [← hWn]; exact below_alloc _ _
                have b8 : Box2 Wa1 Wa0.heap.size false none 0 0 := by rw [← hWn]; exact Box2.new _ _ _ _ _ _
                have lo8 : w.heap.size < Wa0.heap.size := HA.box.lt
                have hne : N20 < Wa0.heap.size := b9.lt
                rw [hWn]
                obtain ⟨N19, hN⟩ : ∃ N, Wa0.heap.size = N := ⟨_, rfl⟩
                replace HA := HA.below hb
                replace O30 := O30.below hb
                replace b9 := b9.below hb
                replace hB0 := hB0.trans (hb.mono hB0.size)
                rw [hN] at b8 lo8 hne ⊢
                clear hN hWn hb
                refine hK.out _ _ ⟨HA.box.c0, HA.box.c1⟩ (fun _ => ?_)
                clear hK K
                refine wpAnyH_ready (rs := [3]) (by kernel_rfl) (by simp) ?_
                refine AllReadyH.cons rfl (fun K hK => ?_) ?_
                · go_simp
                  refine (divC HA.sl HA.ok HA.le HA.num O30.sl O30.ok O30.le O30.num (by omega) hk3 (by omega)).mono ?_
                  rintro e w31 ⟨n1, x1, y1, z1, n2, x2, y2, z2, zq, zr, rfl, hD, I1, I2, hb⟩
                  rw [rest_of hD hk] at I2
                  replace I2 := I2.mono hB0.size
                  clear I1
                  replace HA := HA.below hb
                  replace O30 := O30.below hb
                  replace b8 := b8.below hb
                  replace b9 := b9.below hb
                  replace hB0 := hB0.trans (hb.mono hB0.size)
                  clear hb
                  refine hK.out _ _ ⟨HA.box.c0, HA.box.c1⟩ (fun _ => ?_)
                  clear hK K
                  refine wpAnyH_take (i := 4) (v := ?_) rfl (by kernel_rfl) (by kernel_rfl) (by kernel_rfl) (fun _ _ _ h => False.elim h) (Or.inl ⟨by rfl, ?hy⟩) ⟨HA.box.c0, HA.box.c1⟩ ?_
                  case hy => (intro w hSw; (try dsimp only at hSw); go_simp; try with_reducible rfl)
                  refine wpAnyH_take (i := 5) (v := ?_) rfl (by kernel_rfl) (by kernel_rfl) (by kernel_rfl) (fun _ _ _ h => False.elim h) (Or.inl ⟨by rfl, ?hy⟩) ⟨HA.box.c0, HA.box.c1⟩ ?_
                  case hy => (intro w hSw; (try dsimp only at hSw); go_simp; try with_reducible rfl)
                  refine wpAnyH_take (i := 6) (v := ?_) rfl (by kernel_rfl) (by kernel_rfl) (by kernel_rfl) (fun _ _ _ h => False.elim h) (Or.inl ⟨by rfl, ?hy⟩) ⟨HA.box.c0, HA.box.c1⟩ ?_
                  case hy => (intro w hSw; (try dsimp only at hSw); go_simp; try with_reducible rfl)
                  refine wpAnyH_take (i := 7) (v := ?_) rfl (by kernel_rfl) (by kernel_rfl) (by kernel_rfl) (fun _ _ _ h => False.elim h) (Or.inl ⟨by rfl, ?hy⟩) ⟨HA.box.c0, HA.box.c1⟩ ?_
                  case hy => (intro w hSw; (try dsimp only at hSw); go_simp; try with_reducible rfl)
                  refine wpAnyH_ready (rs := [10]) (by kernel_rfl) (by simp) ?_
                  refine AllReadyH.cons rfl (fun K hK => ?_) ?_
                  · have e0 := b8.c0
                    have e1 := b8.c1
                    have e2 := b8.f0
                    have e3 := b8.f1
                    go_simp
                    clear e0 e1 e2 e3
                    have HA2 : Hd (put2 w31 N19 n1 (.slice x1 y1 z1)) w.heap.size na a0 l0 c0 xs x := ⟨HA.box.putO (by omega) _ _, HA.sl.put b8 _ _, HA.ok, HA.le, HA.num⟩
                    have I3 := I2.put b8 n1 (.slice x1 y1 z1)
                    have b92 := b9.putO (M := N19) (by omega) n1 (.slice x1 y1 z1)
                    have hB2 := below_put2 (N := N19) hB0 (by omega) n1 (.slice x1 y1 z1)
                    obtain ⟨Wp2, hWp⟩ : ∃ W, (w31.setCell ⟨N19, 0, none⟩ (.bool n1)).setCell ⟨N19, 1, none⟩ (.slice x1 y1 z1) = W := ⟨_, rfl⟩
                    have hWq : put2 w31 N19 n1 (.slice x1 y1 z1) = Wp2 := hWp
                    rw [hWq] at HA2 I3 b92 hB2
                    rw [hWp]
                    clear hWp hWq HA I2 b9 hB0
                    have HA := HA2
                    have I2 := I3
                    have b9 := b92
                    have hB0 := hB2
                    clear HA2 I3 b92 hB2
                    refine hK.out _ _ ⟨HA.box.c0, HA.box.c1⟩ (fun _ => ?_)
                    clear hK K
                    refine wpAnyH_ready (rs := [11]) (by kernel_rfl) (by simp) ?_
                    refine AllReadyH.cons rfl (fun K hK => ?_) ?_
                    · have e0 := b9.c0
                      have e1 := b9.c1
                      have e2 := b9.f0
                      have e3 := b9.f1
                      go_simp
                      clear e0 e1 e2 e3
                      have HA2 : Hd (put2 Wp2 N20 n2 (.slice x2 y2 z2)) w.heap.size na a0 l0 c0 xs x := ⟨HA.box.putO (by omega) _ _, HA.sl.put b9 _ _, HA.ok, HA.le, HA.num⟩
                      have I3 := I2.put b9 n2 (.slice x2 y2 z2)
                      have b92 := b9.put n2 x2 y2 z2
                      have hB2 := below_put2 (N := N20) hB0 (by omega) n2 (.slice x2 y2 z2)
                      obtain ⟨Wp3, hWp⟩ : ∃ W, (Wp2.setCell ⟨N20, 0, none⟩ (.bool n2)).setCell ⟨N20, 1, none⟩ (.slice x2 y2 z2) = W := ⟨_, rfl⟩
                      have hWq : put2 Wp2 N20 n2 (.slice x2 y2 z2) = Wp3 := hWp
                      rw [hWq] at HA2 I3 b92 hB2
                      rw [hWp]
                      clear hWp hWq HA I2 b9 hB0
                      have HA := HA2
                      have I2 := I3
                      have b9 := b92
                      have hB0 := hB2
                      clear HA2 I3 b92 hB2
                      refine hK.out _ _ ⟨HA.box.c0, HA.box.c1⟩ (fun _ => ?_)
                      clear hK K
                      refine wpAnyH_ready (rs := [12]) (by kernel_rfl) (by simp) ?_
                      refine AllReadyH.cons rfl (fun K hK => ?_) ?_
                      · go_simp
                        refine hK.out _ _ ⟨HA.box.c0, HA.box.c1⟩ (fun _ => ?_)
                        clear hK K
                        refine wpAnyH_done (by kernel_rfl) ?_ _
                        refine NoPanic.normal ?_
                        go_wp2_with fail
                        go_meet
                        case rel => exact ⟨N20, n2, x2, y2, z2, rfl, rfl, b9, I2, HA, hB0⟩
                      exact AllReadyH.nil
                    exact AllReadyH.nil
                  exact AllReadyH.nil
                exact AllReadyH.nil
              exact AllReadyH.nil
            exact AllReadyH.nil
          refine AllReadyH.cons rfl (fun K hK => ?_) ?_
          · go_simp
            obtain ⟨Wa0, hWn⟩ : ∃ W, World.alloc W0 (.cells #[.bool false, .slice none 0 0] 24) = W := ⟨_, rfl⟩
            have hb : Below W0.heap.size W0 Wa0 := by rw [← hWn]; exact below_alloc _ _
            have b8 : Box2 Wa0 W0.heap.size false none 0 0 := by rw [← hWn]; exact Box2.new _ _ _ _ _ _
            have lo8 : w.heap.size < W0.heap.size := HA.box.lt
            rw [hWn]
            obtain ⟨N19, hN⟩ : ∃ N, W0.heap.size = N := ⟨_, rfl⟩
            replace HA := HA.below hb
            replace hB0 := hB0.trans (hb.mono hB0.size)
            rw [hN] at b8 lo8 ⊢
            clear hN hWn hb
            refine hK.out _ _ ⟨HA.box.c0, HA.box.c1⟩ (fun _ => ?_)
            clear hK K
            refine wpAnyH_ready (rs := [2, 9]) (by kernel_rfl) (by simp) ?_
            refine AllReadyH.cons rfl (fun K hK => ?_) ?_
            · go_simp
              refine (ofH (k : Int) _ hk3 (by omega) (by omega)).mono ?_
              rintro e w30 ⟨n30, a30, l30, c30, M30, rfl, O30, hb⟩
              replace HA := HA.below hb
              replace b8 := b8.below hb
              replace hB0 := hB0.trans (hb.mono hB0.size)
              clear hb
              refine hK.out _ _ ⟨HA.box.c0, HA.box.c1⟩ (fun _ => ?_)
              clear hK K
              refine wpAnyH_ready (rs := [3, 9]) (by kernel_rfl) (by simp) ?_
              refine AllReadyH.cons rfl (fun K hK => ?_) ?_
              · go_simp
                refine (divC HA.sl HA.ok HA.le HA.num O30.sl O30.ok O30.le O30.num (by omega) hk3 (by omega)).mono ?_
                rintro e w31 ⟨n1, x1, y1, z1, n2, x2, y2, z2, zq, zr, rfl, hD, I1, I2, hb⟩
                rw [rest_of hD hk] at I2
                replace I2 := I2.mono hB0.size
                clear I1
                replace HA := HA.below hb
                replace O30 := O30.below hb
                replace b8 := b8.below hb
                replace hB0 := hB0.trans (hb.mono hB0.size)
                clear hb
                refine hK.out _ _ ⟨HA.box.c0, HA.box.c1⟩ (fun _ => ?_)
                clear hK K
                refine wpAnyH_take (i := 4) (v := ?_) rfl (by kernel_rfl) (by kernel_rfl) (by kernel_rfl) (fun _ _ _ h => False.elim h) (Or.inl ⟨by rfl, ?hy⟩) ⟨HA.box.c0, HA.box.c1⟩ ?_
                case hy => (intro w hSw; (try dsimp only at hSw); go_simp; try with_reducible rfl)
                refine wpAnyH_take (i := 5) (v := ?_) rfl (by kernel_rfl) (by kernel_rfl) (by kernel_rfl) (fun _ _ _ h => False.elim h) (Or.inl ⟨by rfl, ?hy⟩) ⟨HA.box.c0, HA.box.c1⟩ ?_
                case hy => (intro w hSw; (try dsimp only at hSw); go_simp; try with_reducible rfl)
                refine wpAnyH_take (i := 6) (v := ?_) rfl (by kernel_rfl) (by kernel_rfl) (by kernel_rfl) (fun _ _ _ h => False.elim h) (Or.inl ⟨by rfl, ?hy⟩) ⟨HA.box.c0, HA.box.c1⟩ ?_
                case hy => (intro w hSw; (try dsimp only at hSw); go_simp; try with_reducible rfl)
                refine wpAnyH_take (i := 7) (v := ?_) rfl (by kernel_rfl) (by kernel_rfl) (by kernel_rfl) (fun _ _ _ h => False.elim h) (Or.inl ⟨by rfl, ?hy⟩) ⟨HA.box.c0, HA.box.c1⟩ ?_
                case hy => (intro w hSw; (try dsimp only at hSw); go_simp; try with_reducible rfl)
                refine wpAnyH_ready (rs := [9]) (by kernel_rfl) (by simp) ?_
                refine AllReadyH.cons rfl (fun K hK => ?_) ?_
                · go_simp
                  obtain ⟨Wa1, hWn⟩ : ∃ W, World.alloc w31 (.cells #[.bool false, .slice none 0 0] 24) = W := ⟨_, rfl⟩
                  have hb : Below w31.heap.size w31 Wa1 := by rw [← hWn]; exact below_alloc _ _
                  have b9 : Box2 Wa1 w31.heap.size false none 0 0 := by rw [← hWn]; exact Box2.new _ _ _ _ _ _
                  have lo9 : w.heap.size < w31.heap.size := HA.box.lt
                  have hne : N19 < w31.heap.size := b8.lt
                  rw [hWn]
                  obtain ⟨N20, hN⟩ : ∃ N, w31.heap.size = N := ⟨_, rfl⟩
                  replace HA := HA.below hb
                  replace O30 := O30.below hb
                  replace I2 := I2.below hb
                  replace b8 := b8.below hb
                  replace hB0 := hB0.trans (hb.mono hB0.size)
                  rw [hN] at b9 lo9 hne ⊢
                  clear hN hWn hb
                  refine hK.out _ _ ⟨HA.box.c0, HA.box.c1⟩ (fun _ => ?_)
                  clear hK K
                  refine wpAnyH_ready (rs := [10]) (by kernel_rfl) (by simp) ?_
                  refine AllReadyH.cons rfl (fun K hK => ?_) ?_
                  · have e0 := b8.c0
                    have e1 := b8.c1
                    have e2 := b8.f0
                    have e3 := b8.f1
                    go_simp
                    clear e0 e1 e2 e3
                    have HA2 : Hd (put2 Wa1 N19 n1 (.slice x1 y1 z1)) w.heap.size na a0 l0 c0 xs x := ⟨HA.box.putO (by omega) _ _, HA.sl.put b8 _ _, HA.ok, HA.le, HA.num⟩
                    have I3 := I2.put b8 n1 (.slice x1 y1 z1)
                    have b92 := b9.putO (M := N19) (by omega) n1 (.slice x1 y1 z1)
                    have hB2 := below_put2 (N := N19) hB0 (by omega) n1 (.slice x1 y1 z1)
                    obtain ⟨Wp2, hWp⟩ : ∃ W, (Wa1.setCell ⟨N19, 0, none⟩ (.bool n1)).setCell ⟨N19, 1, none⟩ (.slice x1 y1 z1) = W := ⟨_, rfl⟩
                    have hWq : put2 Wa1 N19 n1 (.slice x1 y1 z1) = Wp2 := hWp
                    rw [hWq] at HA2 I3 b92 hB2
                    rw [hWp]
                    clear hWp hWq HA I2 b9 hB0
                    have HA := HA2
                    have I2 := I3
                    have b9 := b92
                    have hB0 := hB2
                    clear HA2 I3 b92 hB2
                    refine hK.out _ _ ⟨HA.box.c0, HA.box.c1⟩ (fun _ => ?_)
                    clear hK K
                    refine wpAnyH_ready (rs := [11]) (by kernel_rfl) (by simp) ?_
                    refine AllReadyH.cons rfl (fun K hK => ?_) ?_
                    · have e0 := b9.c0
                      have e1 := b9.c1
                      have e2 := b9.f0
                      have e3 := b9.f1
                      go_simp
                      clear e0 e1 e2 e3
                      have HA2 : Hd (put2 Wp2 N20 n2 (.slice x2 y2 z2)) w.heap.size na a0 l0 c0 xs x := ⟨HA.box.putO (by omega) _ _, HA.sl.put b9 _ _, HA.ok, HA.le, HA.num⟩
                      have I3 := I2.put b9 n2 (.slice x2 y2 z2)
                      have b92 := b9.put n2 x2 y2 z2
                      have hB2 := below_put2 (N := N20) hB0 (by omega) n2 (.slice x2 y2 z2)
                      obtain ⟨Wp3, hWp⟩ : ∃ W, (Wp2.setCell ⟨N20, 0, none⟩ (.bool n2)).setCell ⟨N20, 1, none⟩ (.slice x2 y2 z2) = W := ⟨_, rfl⟩
                      have hWq : put2 Wp2 N20 n2 (.slice x2 y2 z2) = Wp3 := hWp
                      rw [hWq] at HA2 I3 b92 hB2
                      rw [hWp]
                      clear hWp hWq HA I2 b9 hB0
                      have HA := HA2
                      have I2 := I3
                      have b9 := b92
                      have hB0 := hB2
                      clear HA2 I3 b92 hB2
                      refine hK.out _ _ ⟨HA.box.c0, HA.box.c1⟩ (fun _ => ?_)
                      clear hK K
                      refine wpAnyH_ready (rs := [12]) (by kernel_rfl) (by simp) ?_
                      refine AllReadyH.cons rfl (fun K hK => ?_) ?_
                      · go_simp
                        refine hK.out _ _ ⟨HA.box.c0, HA.box.c1⟩ (fun _ => ?_)
                        clear hK K
                        refine wpAnyH_done (by kernel_rfl) ?_ _
                        refine NoPanic.normal ?_
                        go_wp2_with fail
                        go_meet
                        case rel => exact ⟨N20, n2, x2, y2, z2, rfl, rfl, b9, I2, HA, hB0⟩
                      exact AllReadyH.nil
                    exact AllReadyH.nil
                  exact AllReadyH.nil
                exact AllReadyH.nil
              refine AllReadyH.cons rfl (fun K hK => ?_) ?_
              · go_simp
                obtain ⟨Wa1, hWn⟩ : ∃ W, World.alloc w30 (.cells #[.bool false, .slice none 0 0] 24) = W := ⟨_, rfl⟩
                have hb : Below w30.heap.size w30 Wa1 := by rw [← hWn]; exact below_alloc _ _
                have b9 : Box2 Wa1 w30.heap.size false none 0 0 := by rw [← hWn]; exact Box2.new _ _ _ _ _ _
                have lo9 : w.heap.size < w30.heap.size := HA.box.lt
                have hne : N19 < w30.heap.size := b8.lt
                rw [hWn]
                obtain ⟨N20, hN⟩ : ∃ N, w30.heap.size = N := ⟨_, rfl⟩
                replace HA := HA.below hb
                replace O30 := O30.below hb
                replace b8 := b8.below hb
                replace hB0 := hB0.trans (hb.mono hB0.size)
                rw [hN] at b9 lo9 hne ⊢
                clear hN hWn hb
                refine hK.out _ _ ⟨HA.box.c0, HA.box.c1⟩ (fun _ => ?_)
                clear hK K
                refine wpAnyH_ready (rs := [3]) (by kernel_rfl) (by simp) ?_
                refine AllReadyH.cons rfl (fun K hK => ?_) ?_
                · go_simp
                  refine (divC HA.sl HA.ok HA.le HA.num O30.sl O30.ok O30.le O30.num (by omega) hk3 (by omega)).mono ?_
                  rintro e w31 ⟨n1, x1, y1, z1, n2, x2, y2, z2, zq, zr, rfl, hD, I1, I2, hb⟩
                  rw [rest_of hD hk] at I2
                  replace I2 := I2.mono hB0.size
                  clear I1
                  replace HA := HA.below hb
                  replace O30 := O30.below hb
                  replace b8 := b8.below hb
                  replace b9 := b9.below hb
                  replace hB0 := hB0.trans (hb.mono hB0.size)
                  clear hb
                  refine hK.out _ _ ⟨HA.box.c0, HA.box.c1⟩ (fun _ => ?_)
                  clear hK K
                  refine wpAnyH_take (i := 4) (v := ?_) rfl (by kernel_rfl) (by kernel_rfl) (by kernel_rfl) (fun _ _ _ h => False.elim h) (Or.inl ⟨by rfl, ?hy⟩) ⟨HA.box.c0, HA.box.c1⟩ ?_
                  case hy => (intro w hSw; (try dsimp only at hSw); go_simp; try with_reducible rfl)
                  refine wpAnyH_take (i := 5) (v := ?_) rfl (by kernel_rfl) (by kernel_rfl) (by kernel_rfl) (fun _ _ _ h => False.elim h) (Or.inl ⟨by rfl, ?hy⟩) ⟨HA.box.c0, HA.box.c1⟩ ?_
                  case hy => (intro w hSw; (try dsimp only at hSw); go_simp; try with_reducible rfl)
                  refine wpAnyH_take (i := 6) (v := ?_) rfl (by kernel_rfl) (by kernel_rfl) (by kernel_rfl) (fun _ _ _ h => False.elim h) (Or.inl ⟨by rfl, ?hy⟩) ⟨HA.box.c0, HA.box.c1⟩ ?_
                  case hy => (intro w hSw; (try dsimp only at hSw); go_simp; try with_reducible rfl)
                  refine wpAnyH_take (i := 7) (v := ?_) rfl (by kernel_rfl) (by kernel_rfl) (by kernel_rfl) (fun _ _ _ h => False.elim h) (Or.inl ⟨by rfl, ?hy⟩) ⟨HA.box.c0, HA.box.c1⟩ ?_
                  case hy => (intro w hSw; (try dsimp only at hSw); go_simp; try with_reducible rfl)
                  refine wpAnyH_ready (rs := [10]) (by kernel_rfl) (by simp) ?_
                  refine AllReadyH.cons rfl (fun K hK => ?_) ?_
                  · have e0 := b8.c0
                    have e1 := b8.c1
                    have e2 := b8.f0
                    have e3 := b8.f1
                    go_simp
                    clear e0 e1 e2 e3
                    have HA2 : Hd (put2 w31 N19 n1 (.slice x1 y1 z1)) w.heap.size na a0 l0 c0 xs x := ⟨HA.box.putO (by omega) _ _, HA.sl.put b8 _ _, HA.ok, HA.le, HA.num⟩
                    have I3 := I2.put b8 n1 (.slice x1 y1 z1)
                    have b92 := b9.putO (M := N19) (by omega) n1 (.slice x1 y1 z1)
                    have hB2 := below_put2 (N := N19) hB0 (by omega) n1 (.slice x1 y1 z1)
                    obtain ⟨Wp2, hWp⟩ : ∃ W, (w31.setCell ⟨N19, 0, none⟩ (.bool n1)).setCell ⟨N19, 1, none⟩ (.slice x1 y1 z1) = W := ⟨_, rfl⟩
                    have hWq : put2 w31 N19 n1 (.slice x1 y1 z1) = Wp2 := hWp
                    rw [hWq] at HA2 I3 b92 hB2
                    rw [hWp]
                    clear hWp hWq HA I2 b9 hB0
                    have HA := HA2
                    have I2 := I3
                    have b9 := b92
                    have hB0 := hB2
                    clear HA2 I3 b92 hB2
                    refine hK.out _ _ ⟨HA.box.c0, HA.box.c1⟩ (fun _ => ?_)
                    clear hK K
                    refine wpAnyH_ready (rs := [11]) (by kernel_rfl) (by simp) ?_
                    refine AllReadyH.cons rfl (fun K hK => ?_) ?_
                    · have e0 := b9.c0
                      have e1 := b9.c1
                      have e2 := b9.f0
                      have e3 := b9.f1
                      go_simp
                      clear e0 e1 e2 e3
                      have HA2 : Hd (put2 Wp2 N20 n2 (.slice x2 y2 z2)) w.heap.size na a0 l0 c0 xs x := ⟨HA.box.putO (by omega) _ _, HA.sl.put b9 _ _, HA.ok, HA.le, HA.num⟩
                      have I3 := I2.put b9 n2 (.slice x2 y2 z2)
                      have b92 := b9.put n2 x2 y2 z2
                      have hB2 := below_put2 (N := N20) hB0 (by omega) n2 (.slice x2 y2 z2)
                      obtain ⟨Wp3, hWp⟩ : ∃ W, (Wp2.setCell ⟨N20, 0, none⟩ (.bool n2)).setCell ⟨N20, 1, none⟩ (.slice x2 y2 z2) = W := ⟨_, rfl⟩
                      have hWq : put2 Wp2 N20 n2 (.slice x2 y2 z2) = Wp3 := hWp
                      rw [hWq] at HA2 I3 b92 hB2
                      rw [hWp]
                      clear hWp hWq HA I2 b9 hB0
                      have HA := HA2
                      have I2 := I3
                      have b9 := b92
                      have hB0 := hB2
                      clear HA2 I3 b92 hB2
                      refine hK.out _ _ ⟨HA.box.c0, HA.box.c1⟩ (fun _ => ?_)
                      clear hK K
                      refine wpAnyH_ready (rs := [12]) (by kernel_rfl) (by simp) ?_
                      refine AllReadyH.cons rfl (fun K hK => ?_) ?_
                      · go_simp
                        refine hK.out _ _ ⟨HA.box.c0, HA.box.c1⟩ (fun _ => ?_)
                        clear hK K
                        refine wpAnyH_done (by kernel_rfl) ?_ _
                        refine NoPanic.normal ?_
                        go_wp2_with fail
                        go_meet
                        case rel => exact ⟨N20, n2, x2, y2, z2, rfl, rfl, b9, I2, HA, hB0⟩
                      exact AllReadyH.nil
                    exact AllReadyH.nil
                  exact AllReadyH.nil
                exact AllReadyH.nil
              exact AllReadyH.nil
            refine AllReadyH.cons rfl (fun K hK => ?_) ?_
            · go_simp
              obtain ⟨Wa1, hWn⟩ : ∃ W, World.alloc Wa0 (.cells #[.bool false, .slice none 0 0] 24) = W := ⟨_, rfl⟩
              have hb : Below Wa0.heap.size Wa0 Wa1 := by rw [← hWn]; exact below_alloc _ _
              have b9 : Box2 Wa1 Wa0.heap.size false none 0 0 := by rw [← hWn]; exact Box2.new _ _ _ _ _ _
              have lo9 : w.heap.size < Wa0.heap.size := HA.box.lt
              have hne : N19 < Wa0.heap.size := b8.lt
              rw [hWn]
              obtain ⟨N20, hN⟩ : ∃ N, Wa0.heap.size = N := ⟨_, rfl⟩
              replace HA := HA.below hb
              replace b8 := b8.below hb
              replace hB0 := hB0.trans (hb.mono hB0.size)
              rw [hN] at b9 lo9 hne ⊢
              clear hN hWn hb
              refine hK.out _ _ ⟨HA.box.c0, HA.box.c1⟩ (fun _ => ?_)
              clear hK K
              refine wpAnyH_ready (rs := [2]) (by kernel_rfl) (by simp) ?_
              refine AllReadyH.cons rfl (fun K hK => ?_) ?_
              · go_simp
                refine (ofH (k : Int) _ hk3 (by omega) (by omega)).mono ?_
                rintro e w30 ⟨n30, a30, l30, c30, M30, rfl, O30, hb⟩
                replace HA := HA.below hb
                replace b8 := b8.below hb
                replace b9 := b9.below hb
                replace hB0 := hB0.trans (hb.mono hB0.size)
                clear hb
                refine hK.out _ _ ⟨HA.box.c0, HA.box.c1⟩ (fun _ => ?_)
                clear hK K
                refine wpAnyH_ready (rs := [3]) (by kernel_rfl) (by simp) ?_
                refine AllReadyH.cons rfl (fun K hK => ?_) ?_
                · go_simp
                  refine (divC HA.sl HA.ok HA.le HA.num O30.sl O30.ok O30.le O30.num (by omega) hk3 (by omega)).mono ?_
                  rintro e w31 ⟨n1, x1, y1, z1, n2, x2, y2, z2, zq, zr, rfl, hD, I1, I2, hb⟩
                  rw [rest_of hD hk] at I2
                  replace I2 := I2.mono hB0.size
                  clear I1
                  replace HA := HA.below hb
                  replace O30 := O30.below hb
                  replace b8 := b8.below hb
                  replace b9 := b9.below hb
                  replace hB0 := hB0.trans (hb.mono hB0.size)
                  clear hb
                  refine hK.out _ _ ⟨HA.box.c0, HA.box.c1⟩ (fun _ => ?_)
                  clear hK K
                  refine wpAnyH_take (i := 4) (v := ?_) rfl (by kernel_rfl) (by kernel_rfl) (by kernel_rfl) (fun _ _ _ h => False.elim h) (Or.inl ⟨by rfl, ?hy⟩) ⟨HA.box.c0, HA.box.c1⟩ ?_
                  case hy => (intro w hSw; (try dsimp only at hSw); go_simp; try with_reducible rfl)
                  refine wpAnyH_take (i := 5) (v := ?_) rfl (by kernel_rfl) (by kernel_rfl) (by kernel_rfl) (fun _ _ _ h => False.elim h) (Or.inl ⟨by rfl, ?hy⟩) ⟨HA.box.c0, HA.box.c1⟩ ?_
                  case hy => (intro w hSw; (try dsimp only at hSw); go_simp; try with_reducible rfl)
                  refine wpAnyH_take (i := 6) (v := ?_) rfl (by kernel_rfl) (by kernel_rfl) (by kernel_rfl) (fun _ _ _ h => False.elim h) (Or.inl ⟨by rfl, ?hy⟩) ⟨HA.box.c0, HA.box.c1⟩ ?_
                  case hy => (intro w hSw; (try dsimp only at hSw); go_simp; try with_reducible rfl)
                  refine wpAnyH_take (i := 7) (v := ?_) rfl (by kernel_rfl) (by kernel_rfl) (by kernel_rfl) (fun _ _ _ h => False.elim h) (Or.inl ⟨by rfl, ?hy⟩) ⟨HA.box.c0, HA.box.c1⟩ ?_
                  case hy => (intro w hSw; (try dsimp only at hSw); go_simp; try with_reducible rfl)
                  refine wpAnyH_ready (rs := [10]) (by kernel_rfl) (by simp) ?_
                  refine AllReadyH.cons rfl (fun K hK => ?_) ?_
                  · have e0 := b8.c0
                    have e1 := b8.c1
                    have e2 := b8.f0
                    have e3 := b8.f1
                    go_simp
                    clear e0 e1 e2 e3
                    have HA2 : Hd (put2 w31 N19 n1 (.slice x1 y1 z1)) w.heap.size na a0 l0 c0 xs x := ⟨HA.box.putO (by omega) _ _, HA.sl.put b8 _ _, HA.ok, HA.le, HA.num⟩
                    have I3 := I2.put b8 n1 (.slice x1 y1 z1)
                    have b92 := b9.putO (M := N19) (by omega) n1 (.slice x1 y1 z1)
                    have hB2 := below_put2 (N := N19) hB0 (by omega) n1 (.slice x1 y1 z1)
                    obtain ⟨Wp2, hWp⟩ : ∃ W, (w31.setCell ⟨N19, 0, none⟩ (.bool n1)).setCell ⟨N19, 1, none⟩ (.slice x1 y1 z1) = W := ⟨_, rfl⟩
                    have hWq : put2 w31 N19 n1 (.slice x1 y1 z1) = Wp2 := hWp
                    rw [hWq] at HA2 I3 b92 hB2
                    rw [hWp]
                    clear hWp hWq HA I2 b9 hB0
                    have HA := HA2
                    have I2 := I3
                    have b9 := b92
                    have hB0 := hB2
                    clear HA2 I3 b92 hB2
                    refine hK.out _ _ ⟨HA.box.c0, HA.box.c1⟩ (fun _ => ?_)
                    clear hK K
                    refine wpAnyH_ready (rs := [11]) (by kernel_rfl) (by simp) ?_
                    refine AllReadyH.cons rfl (fun K hK => ?_) ?_
                    · have e0 := b9.c0
                      have e1 := b9.c1
                      have e2 := b9.f0
                      have e3 := b9.f1
                      go_simp
                      clear e0 e1 e2 e3
                      have HA2 : Hd (put2 Wp2 N20 n2 (.slice x2 y2 z2)) w.heap.size na a0 l0 c0 xs x := ⟨HA.box.putO (by omega) _ _, HA.sl.put b9 _ _, HA.ok, HA.le, HA.num⟩
                      have I3 := I2.put b9 n2 (.slice x2 y2 z2)
                      have b92 := b9.put n2 x2 y2 z2
                      have hB2 := below_put2 (N := N20) hB0 (by omega) n2 (.slice x2 y2 z2)
                      obtain ⟨Wp3, hWp⟩ : ∃ W, (Wp2.setCell ⟨N20, 0, none⟩ (.bool n2)).setCell ⟨N20, 1, none⟩ (.slice x2 y2 z2) = W := ⟨_, rfl⟩
                      have hWq : put2 Wp2 N20 n2 (.slice x2 y2 z2) = Wp3 := hWp
                      rw [hWq] at HA2 I3 b92 hB2
                      rw [hWp]
                      clear hWp hWq HA I2 b9 hB0
                      have HA := HA2
                      have I2 := I3
                      have b9 := b92
                      have hB0 := hB2
                      clear HA2 I3 b92 hB2
                      refine hK.out _ _ ⟨HA.box.c0, HA.box.c1⟩ (fun _ => ?_)
                      clear hK K
                      refine wpAnyH_ready (rs := [12]) (by kernel_rfl) (by simp) ?_
                      refine AllReadyH.cons rfl (fun K hK => ?_) ?_
                      · go_simp
                        refine hK.out _ _ ⟨HA.box.c0, HA.box.c1⟩ (fun _ => ?_)
                        clear hK K
                        refine wpAnyH_done (by kernel_rfl) ?_ _
                        refine NoPanic.normal ?_
                        go_wp2_with fail
                        go_meet
                        case rel => exact ⟨N20, n2, x2, y2, z2, rfl, rfl, b9, I2, HA, hB0⟩
                      exact AllReadyH.nil
                    exact AllReadyH.nil
                  exact AllReadyH.nil
                exact AllReadyH.nil
              exact AllReadyH.nil
            exact AllReadyH.nil
          refine AllReadyH.cons rfl (fun K hK => ?_) ?_
          · go_simp
            obtain ⟨Wa0, hWn⟩ : ∃ W, World.alloc W0 (.cells #[.bool false, .slice none 0 0] 24) = W := ⟨_, rfl⟩
            have hb : Below W0.heap.size W0 Wa0 := by rw [← hWn]; exact below_alloc _ _
            have b9 : Box2 Wa0 W0.heap.size false none 0 0 := by rw [← hWn]; exact Box2.new _ _ _ _ _ _
            have lo9 : w.heap.size < W0.heap.size := HA.box.lt
            rw [hWn]
            obtain ⟨N20, hN⟩ : ∃ N, W0.heap.size = N := ⟨_, rfl⟩
            replace HA := HA.below hb
            replace hB0 := hB0.trans (hb.mono hB0.size)
            rw [hN] at b9 lo9 ⊢
            clear hN hWn hb
            refine hK.out _ _ ⟨HA.box.c0, HA.box.c1⟩ (fun _ => ?_)
            clear hK K
            refine wpAnyH_ready (rs := [2, 8]) (by kernel_rfl) (by simp) ?_
            refine AllReadyH.cons rfl (fun K hK => ?_) ?_
            · go_simp
              refine (ofH (k : Int) _ hk3 (by omega) (by omega)).mono ?_
              rintro e w30 ⟨n30, a30, l30, c30, M30, rfl, O30, hb⟩
              replace HA := HA.below hb
              replace b9 := b9.below hb
              replace hB0 := hB0.trans (hb.mono hB0.size)
              clear hb
              refine hK.out _ _ ⟨HA.box.c0, HA.box.c1⟩ (fun _ => ?_)
              clear hK K
              refine wpAnyH_ready (rs := [3, 8]) (by kernel_rfl) (by simp) ?_
              refine AllReadyH.cons rfl (fun K hK => ?_) ?_
              · go_simp
                refine (divC HA.sl HA.ok HA.le HA.num O30.sl O30.ok O30.le O30.num (by omega) hk3 (by omega)).mono ?_
                rintro e w31 ⟨n1, x1, y1, z1, n2, x2, y2, z2, zq, zr, rfl, hD, I1, I2, hb⟩
                rw [rest_of hD hk] at I2
                replace I2 := I2.mono hB0.size
                clear I1
                replace HA := HA.below hb
                replace O30 := O30.below hb
                replace b9 := b9.below hb
                replace hB0 := hB0.trans (hb.mono hB0.size)
                clear hb
                refine hK.out _ _ ⟨HA.box.c0, HA.box.c1⟩ (fun _ => ?_)
                clear hK K
                refine wpAnyH_take (i := 4) (v := ?_) rfl (by kernel_rfl) (by kernel_rfl) (by kernel_rfl) (fun _ _ _ h => False.elim h) (Or.inl ⟨by rfl, ?hy⟩) ⟨HA.box.c0, HA.box.c1⟩ ?_
                case hy => (intro w hSw; (try dsimp only at hSw); go_simp; try with_reducible rfl)
                refine wpAnyH_take (i := 5) (v := ?_) rfl (by kernel_rfl) (by kernel_rfl) (by kernel_rfl) (fun _ _ _ h => False.elim h) (Or.inl ⟨by rfl, ?hy⟩) ⟨HA.box.c0, HA.box.c1⟩ ?_
                case hy => (intro w hSw; (try dsimp only at hSw); go_simp; try with_reducible rfl)
                refine wpAnyH_take (i := 6) (v := ?_) rfl (by kernel_rfl) (by kernel_rfl) (by kernel_rfl) (fun _ _ _ h => False.elim h) (Or.inl ⟨by rfl, ?hy⟩) ⟨HA.box.c0, HA.box.c1⟩ ?_
                case hy => (intro w hSw; (try dsimp only at hSw); go_simp; try with_reducible rfl)
                refine wpAnyH_take (i := 7) (v := ?_) rfl (by kernel_rfl) (by kernel_rfl) (by kernel_rfl) (fun _ _ _ h => False.elim h) (Or.inl ⟨by rfl, ?hy⟩) ⟨HA.box.c0, HA.box.c1⟩ ?_
                case hy => (intro w hSw; (try dsimp only at hSw); go_simp; try with_reducible rfl)
                refine wpAnyH_ready (rs := [8]) (by kernel_rfl) (by simp) ?_
                refine AllReadyH.cons rfl (fun K hK => ?_) ?_
                · go_simp
                  obtain ⟨Wa1, hWn⟩ : ∃ W, World.alloc w31 (.cells #[.bool false, .slice none 0 0] 24) = W := ⟨_, rfl⟩
                  have hb : Below w31.heap.size w31 Wa1 := by rw [← hWn]; exact below_alloc _ _
                  have b8 : Box2 Wa1 w31.heap.size false none 0 0 := by rw [← hWn]; exact Box2.new _ _ _ _ _ _
                  have lo8 : w.heap.size < w31.heap.size := HA.box.lt
                  have hne : N20 < w31.heap.size := b9.lt
                  rw [hWn]
                  obtain ⟨N19, hN⟩ : ∃ N, w31.heap.size = N := ⟨_, rfl⟩
                  replace HA := HA.below hb
                  replace O30 := O30.below hb
                  replace I2 := I2.below hb
                  replace b9 := b9.below hb
                  replace hB0 := hB0.trans (hb.mono hB0.size)
                  rw [hN] at b8 lo8 hne ⊢
                  clear hN hWn hb
                  refine hK.out _ _ ⟨HA.box.c0, HA.box.c1⟩ (fun _ => ?_)
                  clear hK K
                  refine wpAnyH_ready (rs := [10]) (by kernel_rfl) (by simp) ?_
                  refine AllReadyH.cons rfl (fun K hK => ?_) ?_
                  · have e0 := b8.c0
                    have e1 := b8.c1
                    have e2 := b8.f0
                    have e3 := b8.f1
                    go_simp
                    clear e0 e1 e2 e3
                    have HA2 : Hd (put2 Wa1 N19 n1 (.slice x1 y1 z1)) w.heap.size na a0 l0 c0 xs x := ⟨HA.box.putO (by omega) _ _, HA.sl.put b8 _ _, HA.ok, HA.le, HA.num⟩
                    have I3 := I2.put b8 n1 (.slice x1 y1 z1)
                    have b92 := b9.putO (M := N19) (by omega) n1 (.slice x1 y1 z1)
                    have hB2 := below_put2 (N := N19) hB0 (by omega) n1 (.slice x1 y1 z1)
                    obtain ⟨Wp2, hWp⟩ : ∃ W, (Wa1.setCell ⟨N19, 0, none⟩ (.bool n1)).setCell ⟨N19, 1, none⟩ (.slice x1 y1 z1) = W := ⟨_, rfl⟩
                    have hWq : put2 Wa1 N19 n1 (.slice x1 y1 z1) = Wp2 := hWp
                    rw [hWq] at HA2 I3 b92 hB2
                    rw [hWp]
                    clear hWp hWq HA I2 b9 hB0
                    have HA := HA2
                    have I2 := I3
                    have b9 := b92
                    have hB0 := hB2
                    clear HA2 I3 b92 hB2
                    refine hK.out _ _ ⟨HA.box.c0, HA.box.c1⟩ (fun _ => ?_)
                    clear hK K
                    refine wpAnyH_ready (rs := [11]) (by kernel_rfl) (by simp) ?_
                    refine AllReadyH.cons rfl (fun K hK => ?_) ?_
                    · have e0 := b9.c0
                      have e1 := b9.c1
                      have e2 := b9.f0
                      have e3 := b9.f1
                      go_simp
                      clear e0 e1 e2 e3
                      have HA2 : Hd (put2 Wp2 N20 n2 (.slice x2 y2 z2)) w.heap.size na a0 l0 c0 xs x := ⟨HA.box.putO (by omega) _ _, HA.sl.put b9 _ _, HA.ok, HA.le, HA.num⟩
                      have I3 := I2.put b9 n2 (.slice x2 y2 z2)
                      have b92 := b9.put n2 x2 y2 z2
                      have hB2 := below_put2 (N := N20) hB0 (by omega) n2 (.slice x2 y2 z2)
                      obtain ⟨Wp3, hWp⟩ : ∃ W, (Wp2.setCell ⟨N20, 0, none⟩ (.bool n2)).setCell ⟨N20, 1, none⟩ (.slice x2 y2 z2) = W := ⟨_, rfl⟩
                      have hWq : put2 Wp2 N20 n2 (.slice x2 y2 z2) = Wp3 := hWp
                      rw [hWq] at HA2 I3 b92 hB2
                      rw [hWp]
                      clear hWp hWq HA I2 b9 hB0
                      have HA := HA2
                      have I2 := I3
                      have b9 := b92
                      have hB0 := hB2
                      clear HA2 I3 b92 hB2
                      refine hK.out _ _ ⟨HA.box.c0, HA.box.c1⟩ (fun _ => ?_)
                      clear hK K
                      refine wpAnyH_ready (rs := [12]) (by kernel_rfl) (by simp) ?_
                      refine AllReadyH.cons rfl (fun K hK => ?_) ?_
                      · go_simp
                        refine hK.out _ _ ⟨HA.box.c0, HA.box.c1⟩ (fun _ => ?_)
                        clear hK K
                        refine wpAnyH_done (by kernel_rfl) ?_ _
                        refine NoPanic.normal ?_
                        go_wp2_with fail
                        go_meet
                        case rel => exact ⟨N20, n2, x2, y2, z2, rfl, rfl, b9, I2, HA, hB0⟩
                      exact AllReadyH.nil
                    exact AllReadyH.nil
                  exact AllReadyH.nil
                exact AllReadyH.nil
              refine AllReadyH.cons rfl (fun K hK => ?_) ?_
              · go_simp
                obtain ⟨Wa1, hWn⟩ : ∃ W, World.alloc w30 (.cells #[.bool false, .slice none 0 0] 24) = W := ⟨_, rfl⟩
                have hb : Below w30.heap.size w30 Wa1 := by rw [← hWn]; exact below_alloc _ _
                have b8 : Box2 Wa1 w30.heap.size false none 0 0 := by rw [← hWn]; exact Box2.new _ _ _ _ _ _
                have lo8 : w.heap.size < w30.heap.size := HA.box.lt
                have hne : N20 < w30.heap.size := b9.lt
                rw [hWn]
                obtain ⟨N19, hN⟩ : ∃ N, w30.heap.size = N := ⟨_, rfl⟩
                replace HA := HA.below hb
                replace O30 := O30.below hb
                replace b9 := b9.below hb
                replace hB0 := hB0.trans (hb.mono hB0.size)
                rw [hN] at b8 lo8 hne ⊢
                clear hN hWn hb
                refine hK.out _ _ ⟨HA.box.c0, HA.box.c1⟩ (fun _ => ?_)
                clear hK K
                refine wpAnyH_ready (rs := [3]) (by kernel_rfl) (by simp) ?_
                refine AllReadyH.cons rfl (fun K hK => ?_) ?_
                · go_simp
                  refine (divC HA.sl HA.ok HA.le HA.num O30.sl O30.ok O30.le O30.num (by omega) hk3 (by omega)).mono ?_
                  rintro e w31 ⟨n1, x1, y1, z1, n2, x2, y2, z2, zq, zr, rfl, hD, I1, I2, hb⟩
                  rw [rest_of hD hk] at I2
                  replace I2 := I2.mono hB0.size
                  clear I1
                  replace HA := HA.below hb
                  replace O30 := O30.below hb
                  replace b8 := b8.below hb
                  replace b9 := b9.below hb
                  replace hB0 := hB0.trans (hb.mono hB0.size)
                  clear hb
                  refine hK.out _ _ ⟨HA.box.c0, HA.box.c1⟩ (fun _ => ?_)
                  clear hK K
                  refine wpAnyH_take (i := 4) (v := ?_) rfl (by kernel_rfl) (by kernel_rfl) (by kernel_rfl) (fun _ _ _ h => False.elim h) (Or.inl ⟨by rfl, ?hy⟩) ⟨HA.box.c0, HA.box.c1⟩ ?_
                  case hy => (intro w hSw; (try dsimp only at hSw); go_simp; try with_reducible rfl)
                  refine wpAnyH_take (i := 5) (v := ?_) rfl (by kernel_rfl) (by kernel_rfl) (by kernel_rfl) (fun _ _ _ h => False.elim h) (Or.inl ⟨by rfl, ?hy⟩) ⟨HA.box.c0, HA.box.c1⟩ ?_
                  case hy => (intro w hSw; (try dsimp only at hSw); go_simp; try with_reducible rfl)
                  refine wpAnyH_take (i := 6) (v := ?_) rfl (by kernel_rfl) (by kernel_rfl) (by kernel_rfl) (fun _ _ _ h => False.elim h) (Or.inl ⟨by rfl, ?hy⟩) ⟨HA.box.c0, HA.box.c1⟩ ?_
                  case hy => (intro w hSw; (try dsimp only at hSw); go_simp; try with_reducible rfl)
                  refine wpAnyH_take (i := 7) (v := ?_) rfl (by kernel_rfl) (by kernel_rfl) (by kernel_rfl) (fun _ _ _ h => False.elim h) (Or.inl ⟨by rfl, ?hy⟩) ⟨HA.box.c0, HA.box.c1⟩ ?_
                  case hy => (intro w hSw; (try dsimp only at hSw); go_simp; try with_reducible rfl)
                  refine wpAnyH_ready (rs := [10]) (by kernel_rfl) (by simp) ?_
                  refine AllReadyH.cons rfl (fun K hK => ?_) ?_
                  · have e0 := b8.c0
                    have e1 := b8.c1
                    have e2 := b8.f0
                    have e3 := b8.f1
                    go_simp
                    clear e0 e1 e2 e3
                    have HA2 : Hd (put2 w31 N19 n1 (.slice x1 y1 z1)) w.heap.size na a0 l0 c0 xs x := ⟨HA.box.putO (by omega) _ _, HA.sl.put b8 _ _, HA.ok, HA.le, HA.num⟩
                    have I3 := I2.put b8 n1 (.slice x1 y1 z1)
                    have b92 := b9.putO (M := N19) (by omega) n1 (.slice x1 y1 z1)
                    have hB2 := below_put2 (N := N19) hB0 (by omega) n1 (.slice x1 y1 z1)
                    obtain ⟨Wp2, hWp⟩ : ∃ W, (w31.setCell ⟨N19, 0, none⟩ (.bool n1)).setCell ⟨N19, 1, none⟩ (.slice x1 y1 z1) = W := ⟨_, rfl⟩
                    have hWq : put2 w31 N19 n1 (.slice x1 y1 z1) = Wp2 := hWp
                    rw [hWq] at HA2 I3 b92 hB2
                    rw [hWp]
                    clear hWp hWq HA I2 b9 hB0
                    have HA := HA2
                    have I2 := I3
                    have b9 := b92
                    have hB0 := hB2
                    clear HA2 I3 b92 hB2
                    refine hK.out _ _ ⟨HA.box.c0, HA.box.c1⟩ (fun _ => ?_)
                    clear hK K
                    refine wpAnyH_ready (rs := [11]) (by kernel_rfl) (by simp) ?_
                    refine AllReadyH.cons rfl (fun K hK => ?_) ?_
                    · have e0 := b9.c0
                      have e1 := b9.c1
                      have e2 := b9.f0
                      have e3 := b9.f1
                      go_simp
                      clear e0 e1 e2 e3
                      have HA2 : Hd (put2 Wp2 N20 n2 (.slice x2 y2 z2)) w.heap.size na a0 l0 c0 xs x := ⟨HA.box.putO (by omega) _ _, HA.sl.put b9 _ _, HA.ok, HA.le, HA.num⟩
                      have I3 := I2.put b9 n2 (.slice x2 y2 z2)
                      have b92 := b9.put n2 x2 y2 z2
                      have hB2 := below_put2 (N := N20) hB0 (by omega) n2 (.slice x2 y2 z2)
                      obtain ⟨Wp3, hWp⟩ : ∃ W, (Wp2.setCell ⟨N20, 0, none⟩ (.bool n2)).setCell ⟨N20, 1, none⟩ (.slice x2 y2 z2) = W := ⟨_, rfl⟩
                      have hWq : put2 Wp2 N20 n2 (.slice x2 y2 z2) = Wp3 := hWp
                      rw [hWq] at HA2 I3 b92 hB2
                      rw [hWp]
                      clear hWp hWq HA I2 b9 hB0
                      have HA := HA2
                      have I2 := I3
                      have b9 := b92
                      have hB0 := hB2
                      clear HA2 I3 b92 hB2
                      refine hK.out _ _ ⟨HA.box.c0, HA.box.c1⟩ (fun _ => ?_)
                      clear hK K
                      refine wpAnyH_ready (rs := [12]) (by kernel_rfl) (by simp) ?_
                      refine AllReadyH.cons rfl (fun K hK => ?_) ?_
                      · go_simp
                        refine hK.out _ _ ⟨HA.box.c0, HA.box.c1⟩ (fun _ => ?_)
                        clear hK K
                        refine wpAnyH_done (by kernel_rfl) ?_ _
                        refine NoPanic.normal ?_
                        go_wp2_with fail
                        go_meet
                        case rel => exact ⟨N20, n2, x2, y2, z2, rfl, rfl, b9, I2, HA, hB0⟩
                      exact AllReadyH.nil
                    exact AllReadyH.nil
                  exact AllReadyH.nil
                exact AllReadyH.nil
              exact AllReadyH.nil
            refine AllReadyH.cons rfl (fun K hK => ?_) ?_
            · go_simp
              obtain ⟨Wa1, hWn⟩ : ∃ W, World.alloc Wa0 (.cells #[.bool false, .slice none 0 0] 24) = W := ⟨_, rfl⟩
              have hb : Below Wa0.heap.size Wa0 Wa1 := by rw [← hWn]; exact below_alloc _ _
              have b8 : Box2 Wa1 Wa0.heap.size false none 0 0 := by rw [← hWn]; exact Box2.new _ _ _ _ _ _
              have lo8 : w.heap.size < Wa0.heap.size := HA.box.lt
              have hne : N20 < Wa0.heap.size := b9.lt
              rw [hWn]
              obtain ⟨N19, hN⟩ : ∃ N, Wa0.heap.size = N := ⟨_, rfl⟩
              replace HA := HA.below hb
              replace b9 := b9.below hb
              replace hB0 := hB0.trans (hb.mono hB0.size)
              rw [hN] at b8 lo8 hne ⊢
              clear hN hWn hb
              refine hK.out _ _ ⟨HA.box.c0, HA.box.c1⟩ (fun _ => ?_)
              clear hK K
              refine wpAnyH_ready (rs := [2]) (by kernel_rfl) (by simp) ?_
              refine AllReadyH.cons rfl (fun K hK => ?_) ?_
              · go_simp
                refine (ofH (k : Int) _ hk3 (by omega) (by omega)).mono ?_
                rintro e w30 ⟨n30, a30, l30, c30, M30, rfl, O30, hb⟩
                replace HA := HA.below hb
                replace b8 := b8.below hb
                replace b9 := b9.below hb
                replace hB0 := hB0.trans (hb.mono hB0.size)
                clear hb
                refine hK.out _ _ ⟨HA.box.c0, HA.box.c1⟩ (fun _ => ?_)
                clear hK K
                refine wpAnyH_ready (rs := [3]) (by kernel_rfl) (by simp) ?_
                refine AllReadyH.cons rfl (fun K hK => ?_) ?_
                · go_simp
                  refine (divC HA.sl HA.ok HA.le HA.num O30.sl O30.ok O30.le O30.num (by omega) hk3 (by omega)).mono ?_
                  rintro e w31 ⟨n1, x1, y1, z1, n2, x2, y2, z2, zq, zr, rfl, hD, I1, I2, hb⟩
                  rw [rest_of hD hk] at I2
                  replace I2 := I2.mono hB0.size
                  clear I1
                  replace HA := HA.below hb
                  replace O30 := O30.below hb
                  replace b8 := b8.below hb
                  replace b9 := b9.below hb
                  replace hB0 := hB0.trans (hb.mono hB0.size)
                  clear hb
                  refine hK.out _ _ ⟨HA.box.c0, HA.box.c1⟩ (fun _ => ?_)
                  clear hK K
                  refine wpAnyH_take (i := 4) (v := ?_) rfl (by kernel_rfl) (by kernel_rfl) (by kernel_rfl) (fun _ _ _ h => False.elim h) (Or.inl ⟨by rfl, ?hy⟩) ⟨HA.box.c0, HA.box.c1⟩ ?_
                  case hy => (intro w hSw; (try dsimp only at hSw); go_simp; try with_reducible rfl)
                  refine wpAnyH_take (i := 5) (v := ?_) rfl (by kernel_rfl) (by kernel_rfl) (by kernel_rfl) (fun _ _ _ h => False.elim h) (Or.inl ⟨by rfl, ?hy⟩) ⟨HA.box.c0, HA.box.c1⟩ ?_
                  case hy => (intro w hSw; (try dsimp only at hSw); go_simp; try with_reducible rfl)
                  refine wpAnyH_take (i := 6) (v := ?_) rfl (by kernel_rfl) (by kernel_rfl) (by kernel_rfl) (fun _ _ _ h => False.elim h) (Or.inl ⟨by rfl, ?hy⟩) ⟨HA.box.c0, HA.box.c1⟩ ?_
                  case hy => (intro w hSw; (try dsimp only at hSw); go_simp; try with_reducible rfl)
                  refine wpAnyH_take (i := 7) (v := ?_) rfl (by kernel_rfl) (by kernel_rfl) (by kernel_rfl) (fun _ _ _ h => False.elim h) (Or.inl ⟨by rfl, ?hy⟩) ⟨HA.box.c0, HA.box.c1⟩ ?_
                  case hy => (intro w hSw; (try dsimp only at hSw); go_simp; try with_reducible rfl)
                  refine wpAnyH_ready (rs := [10]) (by kernel_rfl) (by simp) ?_
                  refine AllReadyH.cons rfl (fun K hK => ?_) ?_
                  · have e0 := b8.c0
                    have e1 := b8.c1
                    have e2 := b8.f0
                    have e3 := b8.f1
                    go_simp
                    clear e0 e1 e2 e3
                    have HA2 : Hd (put2 w31 N19 n1 (.slice x1 y1 z1)) w.heap.size na a0 l0 c0 xs x := ⟨HA.box.putO (by omega) _ _, HA.sl.put b8 _ _, HA.ok, HA.le, HA.num⟩
                    have I3 := I2.put b8 n1 (.slice x1 y1 z1)
                    have b92 := b9.putO (M := N19) (by omega) n1 (.slice x1 y1 z1)
                    have hB2 := below_put2 (N := N19) hB0 (by omega) n1 (.slice x1 y1 z1)
                    obtain ⟨Wp2, hWp⟩ : ∃ W, (w31.setCell ⟨N19, 0, none⟩ (.bool n1)).setCell ⟨N19, 1, none⟩ (.slice x1 y1 z1) = W := ⟨_, rfl⟩
                    have hWq : put2 w31 N19 n1 (.slice x1 y1 z1) = Wp2 := hWp
                    rw [hWq] at HA2 I3 b92 hB2
                    rw [hWp]
                    clear hWp hWq HA I2 b9 hB0
                    have HA := HA2
                    have I2 := I3
                    have b9 := b92
                    have hB0 := hB2
                    clear HA2 I3 b92 hB2
                    refine hK.out _ _ ⟨HA.box.c0, HA.box.c1⟩ (fun _ => ?_)
                    clear hK K
                    refine wpAnyH_ready (rs := [11]) (by kernel_rfl) (by simp) ?_
                    refine AllReadyH.cons rfl (fun K hK => ?_) ?_
                    · have e0 := b9.c0
                      have e1 := b9.c1
                      have e2 := b9.f0
                      have e3 := b9.f1
                      go_simp
                      clear e0 e1 e2 e3
                      have HA2 : Hd (put2 Wp2 N20 n2 (.slice x2 y2 z2)) w.heap.size na a0 l0 c0 xs x := ⟨HA.box.putO (by omega) _ _, HA.sl.put b9 _ _, HA.ok, HA.le, HA.num⟩
                      have I3 := I2.put b9 n2 (.slice x2 y2 z2)
                      have b92 := b9.put n2 x2 y2 z2
                      have hB2 := below_put2 (N := N20) hB0 (by omega) n2 (.slice x2 y2 z2)
                      obtain ⟨Wp3, hWp⟩ : ∃ W, (Wp2.setCell ⟨N20, 0, none⟩ (.bool n2)).setCell ⟨N20, 1, none⟩ (.slice x2 y2 z2) = W := ⟨_, rfl⟩
                      have hWq : put2 Wp2 N20 n2 (.slice x2 y2 z2) = Wp3 := hWp
                      rw [hWq] at HA2 I3 b92 hB2
                      rw [hWp]
                      clear hWp hWq HA I2 b9 hB0
                      have HA := HA2
                      have I2 := I3
                      have b9 := b92
                      have hB0 := hB2
                      clear HA2 I3 b92 hB2
                      refine hK.out _ _ ⟨HA.box.c0, HA.box.c1⟩ (fun _ => ?_)
                      clear hK K
                      refine wpAnyH_ready (rs := [12]) (by kernel_rfl) (by simp) ?_
                      refine AllReadyH.cons rfl (fun K hK => ?_) ?_
                      · go_simp
                        refine hK.out _ _ ⟨HA.box.c0, HA.box.c1⟩ (fun _ => ?_)
                        clear hK K
                        refine wpAnyH_done (by kernel_rfl) ?_ _
                        refine NoPanic.normal ?_
                        go_wp2_with fail
                        go_meet
                        case rel => exact ⟨N20, n2, x2, y2, z2, rfl, rfl, b9, I2, HA, hB0⟩
                      exact AllReadyH.nil
                    exact AllReadyH.nil
                  exact AllReadyH.nil
                exact AllReadyH.nil
              exact AllReadyH.nil
            exact AllReadyH.nil
          exact AllReadyH.nil
        case rest =>
          obtain ⟨N, n5, a5, l5, c5, rfl, rfl, bS, IS, HA5, hB5⟩ := hcut
          clear HA hB0 p0 p1
          have p0 := HA5.box.c0
          have p1 := HA5.box.c1
          have RS := rest_some na a0 l0 c0 xs k wc HA5.sl ox (by omega) (by omega) (by omega)
          rw [HX.out] at RS
          go_wp2_with fail
          refine RS.mono ?_
          rintro e w40 ⟨rfl, hb1⟩
          replace bS := bS.below hb1
          replace IS := IS.below hb1
          replace hB5 : Below w.heap.size w w40 := hB5.trans (hb1.mono hB5.size)
          clear hb1 p0 p1 RS HA5
          have r1 : 0 ≤ x % (k : Int) := Int.emod_nonneg _ (by omega)
          have r2 : x % (k : Int) < (k : Int) := Int.emod_lt_of_pos _ (by omega)
          obtain ⟨K, hK⟩ : ∃ K, x % (k : Int) = K := ⟨_, rfl⟩
          rw [hK] at r1 r2 IS ⊢
          clear hK
          have hK3 : K.natAbs < pw 256 := by
            have h1 : pw 2 ≤ pw 256 := pw_mono (by omega)
            have h2 : pw 2 = 18446744073709551616 := rfl
            omega
          have s0 := bS.c0
          have s1 := bS.c1
          go_wp2_with fail
          go_region_held3 (fun W => (W.cell? ⟨N, 0, none⟩ = some (.bool n5) ∧ W.cell? ⟨N, 1, none⟩ = some (.slice a5 l5 c5)) ∧ Below w40.heap.size w40 W)
            (first | exact S1.start s0 s1 | exact S1.keep (by assumption) (by assumption) | exact S1.keep (by assumption) (Below.refl _ _))
            (first | (go_at_call 12; refine (of_any K _ (by omega) (by omega)).mono ?_; rintro e w41 ⟨n6, a6, l6, c6, rfl, I6, hb41⟩)
                   | (go_at_call 13; refine (sameI (IS.below (S1.below (by assumption))) I6 hK3).mono ?_; rintro e w42 ⟨rfl, hb42⟩)
                   | (go_at_call 6; refine (awake_any _).mono ?_; rintro e w43 ⟨rfl, hb43⟩))
          all_goals (
            go_wp2
            go_ret
            exact ⟨rfl, hB5.trans ((show S1 w40 N n5 a5 l5 c5 _ from by assumption).2.mono hB5.size)⟩)
      · have h16 := rest_arg na a0 l0 c0 m w14 (by omega)
        have p0 := HA.box.c0
        have p1 := HA.box.c1
        have hm' : m < 1 ∨ 4611686018427387904 < m := by omega
        rcases Int.lt_or_le m 1 with t1 | t1
        · clear hm hm'
          go_wp2_with fail
          refine h16.mono ?_
          rintro e w20 ⟨rfl, hb1⟩
          replace hB0 : Below w.heap.size w w20 := hB0.trans (hb1.mono hB0.size)
          clear p0 p1 h16 HA hb1
          go_wp2_with fail
          refine (awake_any _).mono ?_
          rintro e w21 ⟨rfl, hb1⟩
          go_wp2
          go_ret
          exact ⟨rfl, hB0.trans (hb1.mono hB0.size)⟩
        · have t2 : (4611686018427387904 : Int) < m := by omega
          have t3 : ¬ m < 1 := by omega
          clear hm hm' t1
          go_wp2_with fail
          refine h16.mono ?_
          rintro e w20 ⟨rfl, hb1⟩
          replace hB0 : Below w.heap.size w w20 := hB0.trans (hb1.mono hB0.size)
          clear p0 p1 h16 HA hb1
          go_wp2_with fail
          refine (awake_any _).mono ?_
          rintro e w21 ⟨rfl, hb1⟩
          go_wp2
          go_ret
          exact ⟨rfl, hB0.trans (hb1.mono hB0.size)⟩
end Go.Proofs.Yteplmnnpmekngab
namespace Go.Proofs.Yteplmnnpmekngab
open Go.ChangeShapes Go.WideShapes Go.ChangeAt Go.RowKit Go.Joins

theorem splits_walk (na nb : Bool) (a0 a1 : Option Addr) (l0 c0 l1 c1 : Nat) (xs ys : List Nat) (m : Int) (w : World) (hx : Sl .u32 w (.slice a0 l0 c0) xs) (hy : Sl .u32 w (.slice a1 l1 c1) ys) (ox : okw xs) (oy : okw ys) (m1 : -9223372036854775808 ≤ m) (m2 : m ≤ 9223372036854775807) :
    Calls Try.prog 3 #[.agg #[.bool na, .slice a0 l0 c0], .agg #[.bool nb, .slice a1 l1 c1], .int .i64 m] w fun e w' => e = .returned (.bool true) ∧ Below w.heap.size w w' := by
  by_cases h : l0 ≤ 80 ∧ l1 ≤ 80
  · exact splits_near na nb a0 a1 l0 c0 l1 c1 xs ys m w hx hy ox oy h.1 h.2 m1 m2
  · exact splits_far na nb a0 a1 l0 c0 l1 c1 m w h

set_option maxRecDepth 100000 in
theorem splits_lifted (os : Os) (started : os.Started) (H : Type) (enc : TypeId × Value → H) :
    ReturnsInHanded {} Try.checked os 3 .any (Rows.wholeSplitsSpec.pre6 enc Try.prog Try.f3 Rows.wholeSplitsRow.domain false) (Rows.wholeSplitsSpec.post enc Try.prog Try.f3 false true false false) := by
  refine returnsInHanded_of_change (C := Try.checked) Try.own started (by kernel_rfl) Try.func3
    (ChangeSpec.witness6 (enc := enc) (C := Try.checked) false ⟨#[], #[.agg #[.bool false, .slice none 0 0], .agg #[.bool false, .slice none 0 0], .int .i64 0], []⟩ 8 (by kernel_rfl) (by kernel_rfl) (by kernel_rfl) (by kernel_rfl)) ?_
  intro W base args ds gs before hval0 hW hcnd _
  have hval : ∀ (j : Nat) t v, Try.f3.params[j]? = some t → args[j]? = some v → Value.okWide Try.prog W .any base t v := hval0
  have hW' := hW
  obtain ⟨p, q, hA0, hV, rfl, hfz, hnd⟩ := hW
  have hA : DataW.TrodAll enc Try.prog W 0 (fun _ => true) true Try.f3.params.toList args.toList ds p := hA0
  rw [Try.params3] at hA hval
  obtain ⟨v0, v1, v2, d0, d1, d2, p0, p1, p2, rfl, rfl, rfl, h0, h1, h2⟩ := trodAll_three hA
  obtain ⟨rfl, rfl⟩ := trodVars_none hV
  have k0 := h0
  have k1 := h1
  have k2 := h2
  have lt0 : ∀ x ∈ p0, x.block < W.heap.size := by obtain ⟨m, hm⟩ := k0; exact DataW.trod_lt m _ _ _ hm
  have lt1 : ∀ x ∈ p1, x.block < W.heap.size := by obtain ⟨m, hm⟩ := k1; exact DataW.trod_lt m _ _ _ hm
  have lt2 : ∀ x ∈ p2, x.block < W.heap.size := by obtain ⟨m, hm⟩ := k2; exact DataW.trod_lt m _ _ _ hm
  obtain ⟨na, a0, l0, c0, xs, rfl, hx, ox⟩ := arg_open (hval 0 24 v0 rfl rfl) h0
  obtain ⟨nb, a1, l1, c1, ys, rfl, hy, oy⟩ := arg_open (hval 1 24 v1 rfl rfl) h1
  obtain ⟨m, rfl, q1, q2, q3⟩ := open_int (t := 3) (k := .i64) (by kernel_rfl) (hval 2 3 v2 rfl rfl) h2
  have mb : -9223372036854775808 ≤ m ∧ m ≤ 9223372036854775807 := bounds_i64 (by first | exact q1 | exact q2 | exact q3)
  clear hA0 hval0
  refine (splits_walk na nb a0 a1 l0 c0 l1 c1 xs ys m W hx hy ox oy mb.1 mb.2).mono fun e W' ⟨he, bel⟩ => ?_
  subst he
  exact ⟨_, rfl, _, _, _, [], _, [], hW', trodAll_mk1 (shut_bool Try.underlying4 _), trodAll_mk3 (Below.trod Try.laidOut (by kernel_rfl) (of_decide_eq_true (by kernel_rfl)) k0 bel lt0) (Below.trod Try.laidOut (by kernel_rfl) (of_decide_eq_true (by kernel_rfl)) k1 bel lt1) (Below.trod Try.laidOut (by kernel_rfl) (of_decide_eq_true (by kernel_rfl)) k2 bel lt2), rfl, bel.frame _, fun h => by cases h⟩

theorem splits_holds : Rows.WholeSplitsSaid :=
  OpenClaim.holds_of_wide 3 Try.f3 rfl rfl rfl rfl rfl rfl rfl ⟨rfl, rfl, rfl, rfl, rfl⟩ rfl rfl rfl rfl rfl (by kernel_rfl) Try.func3 (by kernel_rfl)
    (of_decide_eq_true (by kernel_rfl)) (by unfold Func.isWrapper; rw [if_neg (of_decide_eq_false (by kernel_rfl))]; exact ⟨rfl, rfl⟩)
    (fun os started H enc _ => splits_lifted os started H enc)
#print axioms splits_holds
end Go.Proofs.Yteplmnnpmekngab
