/-
  What mulAdd and areDigits of package whole do.
  What areDigits of package whole does.
  What split of package whole does: digits into pieces of nine.
-/
import Derived.Lib.OwnKind
import Derived.Lib.SmallJoins
import Derived.Test.YteplmnnpmekngaaSums
import Derived.Deep.WholeRow
namespace Go.Proofs.Yteplmnnpmekngaa
open Go.RowKit

theorem mulAdd_val {xs ds : List Nat} {k c x d c' m : Nat} (h : val ds + pw k * c = val (xs.take k) * 1000000000 + m) (hd : ds.length = k) (ex : xs[k]?.getD 0 = x) (hs : x * 1000000000 + c = d + 4294967296 * c') :
    val (ds ++ [d]) + pw (k + 1) * c' = val (xs.take (k + 1)) * 1000000000 + m := by
  rw [val_append, hd, val_take_succ', ex]
  simp only [val, pw]
  have e : pw k * (x * 1000000000 + c) = pw k * (d + 4294967296 * c') := by rw [hs]
  rw [Nat.mul_add, Nat.mul_add] at e
  have e2 : 4294967296 * pw k * c' = pw k * (4294967296 * c') := by rw [Nat.mul_comm 4294967296 (pw k), Nat.mul_assoc]
  rw [e2, Nat.add_mul, Nat.mul_assoc (pw k)]
  simp only [Nat.mul_zero, Nat.add_zero]
  omega
theorem words_set {B : Nat} {w : World} {g n cap : Nat} {ts : List Nat} (hn : ts.length = n) (h : Words B w (.slice (some ⟨g, 0, none⟩) n cap) ts) (j d : Nat) : Words B (w.setCell ⟨g, j, none⟩ (.int .u32 (d : Int))) (.slice (some ⟨g, 0, none⟩) n cap) (ts.set j d) := by
  unfold Words at h ⊢
  subst hn
  have := (World.ownsRow.stored h j (.int .u32 (d : Int))).1
  rw [List.length_set, List.map_set]
  exact this

set_option maxRecDepth 100000 in
set_option maxHeartbeats 2000000 in
theorem mulAdd_any (B : Nat) (a : Option Addr) (cap : Nat) (xs : List Nat) (m : Nat) (w : World) (hw : Words B w (.slice a xs.length cap) xs) (ox : okw xs) (hm : m < 4294967296) (hB : B ≤ w.heap.size) (bx : xs.length ≤ 1000) :
    Calls Try.prog 65 #[.slice a xs.length cap, .int .u64 1000000000, .int .u64 (m : Int)] w fun e w' => ∃ v' zs, e = .returned v' ∧ Words B w' v' zs ∧ okw zs ∧ val zs = val xs * 1000000000 + m ∧ zs.length ≤ xs.length + 1 ∧ Below B w w' ∧ KeepsOthers w w' := by
  obtain ⟨i0, hi, hz0, hz1, hz2⟩ := info_parts Try.infoWord
  go_enter Try.func65, Try.ntmps65
  go_wp2_with fail
  go_loopw [7, 14] (fun c i wr => ∃ (k cv : Nat) (ds : List Nat), k ≤ xs.length ∧ i = .int .i64 (k : Int) ∧ c = .int .u64 (cv : Int) ∧ cv < 4294967296 ∧ ds.length = k ∧ okw ds ∧ val ds + pw k * cv = val (xs.take k) * 1000000000 + m ∧ Words B wr (.slice a xs.length cap) (ds ++ xs.drop k) ∧ Below B w wr ∧ KeepsOthers w wr) (fun _ i _ => xs.length - (intOf i).toNat)
  case atStart => exact ⟨0, m, [], Nat.zero_le _, rfl, rfl, hm, rfl, okw_nil, by simp [val, pw], by simpa using hw, Below.refl _ _, KeepsOthers.refl _⟩
  case round =>
    clear hw
    obtain ⟨k, cv, ds, hk, rfl, rfl, hcv, hd, od, hval, hw, hb, hko⟩ := hrel
    by_cases hlt : k < xs.length
    · have hx1 := okw_get ox k
      obtain ⟨S, hS⟩ : ∃ S, xs[k]?.getD 0 * 1000000000 + cv = S := ⟨_, rfl⟩
      have HK : Hid (val (ds ++ [S % 4294967296]) + pw (k + 1) * (S / 4294967296) = val (xs.take (k + 1)) * 1000000000 + m) := mulAdd_val hval hd rfl (by rw [hS]; omega)
      have hl : (ds ++ xs.drop k).length = xs.length := by simp [hd]; omega
      have hl' : (ds ++ xs.drop k).length = xs.length := hl
      have hown : wr.ownsRow B 55 1 (.slice a xs.length cap) (ds ++ xs.drop k).length ((ds ++ xs.drop k).map fun x : Nat => Value.int .u32 (x : Int)) := hw
      rw [hl] at hown
      obtain ⟨g, cap', e⟩ := Go.Joins.ownsRow_form hown (by omega)
      injection e with ea eb ec
      subst ea
      have hc : wr.cell? ⟨g, k, none⟩ = some (.int .u32 ((xs[k]?.getD 0 : Nat) : Int)) := by
        rw [World.ownsRow.cellAt hown k (by omega), List.getElem?_map, List.getElem?_append_right (by omega), hd, Nat.sub_self, List.getElem?_drop, Nat.add_zero, List.getElem?_eq_getElem hlt]
        rfl
      have hf : wr.frozen? ⟨g, k, none⟩ = false := World.ownsRow.frozenAt hown k
      have hge : B ≤ g := (World.ownsRow.lt hown g rfl).1
      have hW2 : ∀ d : Nat, Words B (wr.setCell ⟨g, k, none⟩ (.int .u32 (d : Int))) (.slice (some ⟨g, 0, none⟩) xs.length cap) ((ds ++ [d]) ++ xs.drop (k + 1)) := fun d => by
        rw [← set_mid ds xs k d hd hlt]
        exact words_set hl' hw k d
      obtain ⟨x, hx⟩ : ∃ x, xs[k]?.getD 0 = x := ⟨_, rfl⟩
      rw [hx] at hc hS hx1
      obtain ⟨D, hD⟩ : ∃ D, S % 4294967296 = D := ⟨_, rfl⟩
      obtain ⟨C, hC⟩ : ∃ C, S / 4294967296 = C := ⟨_, rfl⟩
      have s0 : (x : Int) * 1000000000 + cv = (S : Int) := by omega
      have s1 : (S : Int) % 4294967296 = (D : Int) := by omega
      have s2 : (S : Int) / 4294967296 = (C : Int) := by omega
      have hC1 : C < 4294967296 := by omega
      have hD1 : D < 4294967296 := by omega
      have hS1 : S < 18446744073709551616 := by omega
      rw [hD, hC] at HK
      have HW : Hid (Words B (wr.setCell ⟨g, k, none⟩ (.int .u32 (D : Int))) (.slice (some ⟨g, 0, none⟩) xs.length cap) ((ds ++ [D]) ++ xs.drop (k + 1))) := hW2 D
      have HD : Hid (ds.length = k) := hd
      have t1 : (k : Int) < xs.length := by omega
      clear hval hd hl hl' hown hw hW2 hx hS hD hC eb ec
      go_wp2_with fail
      go_roundw
      case rel => exact ⟨k + 1, C, ds ++ [D], by omega, by go_num, rfl, hC1, by simp [HD.out], okw_append.2 ⟨od, okw_cons.2 ⟨hD1, okw_nil⟩⟩, HK.out, HW.out, hb.setCell (p := ⟨g, k, none⟩) hge _, hko.trans (KeepsOthers.setCell _ _ _)⟩
      case measure => simp [intOf]; omega
    · obtain rfl : k = xs.length := by omega
      rw [List.drop_length, List.append_nil] at hw
      rw [List.take_length] at hval
      have t1 : ¬ (xs.length : Int) < xs.length := by omega
      have hsz : B ≤ wr.heap.size := Nat.le_trans hB hb.size
      have hown : wr.ownsRow B 55 1 (.slice a xs.length cap) ds.length (ds.map fun x : Nat => Value.int .u32 (x : Int)) := hw
      have hdl : ds.length ≤ 1000 := by omega
      by_cases h0 : cv = 0
      · subst h0
        have HE : Hid (val ds = val xs * 1000000000 + m) := (by show _ = _; simpa using hval)
        have HL : Hid (ds.length = xs.length) := hd
        clear hval hd
        go_wp2
        go_ret
        exact ⟨_, rfl, ds, hw, od, HE.out, by rw [HL.out]; omega, hb, hko⟩
      · have t2 : (0 : Int) < cv := by omega
        have HE : Hid (val (ds ++ [cv]) = val xs * 1000000000 + m) := (by show _ = _; rw [val_append, hd]; simp only [val]; omega)
        have HL : Hid (ds.length = xs.length) := hd
        have hcells : ∀ (j : Nat) (o : Obj), (Value.slice a xs.length cap).ownBlock = some j → (wr.alloc (.cells #[.int .u32 (cv : Int)] 55)).heap[j]? = some o → o.isCells = true := fun j o e ho => by
          obtain ⟨c, fz, hc⟩ := Go.Lib.ownsRow_kind (World.ownsRow.alloc hown (.cells #[.int .u32 (cv : Int)] 55)) j e
          rw [hc] at ho
          cases ho
          rfl
        clear hval hd
        go_wp2_with (at_builtin; refine wpList_append_own _ rfl _ _ 22 rfl B 55 i0 (.int .u32 0) 1 4 Try.underlying22 hi hz0 hz1 hz2 rfl (by decide) _ _ _ rfl (World.ownsRow.alloc hown _) ⟨wr.heap.size, 0, none⟩ 1 1 [.int .u32 (cv : Int)] rfl rfl (new_one _ _ _) (by simp [Value.oneCell']) (by unfold maxLen; omega) (by omega) (by simp; omega) ?_; intro v' w1 hown2 hgrow _)
        have hgrow' : (wr.alloc (.cells #[.int .u32 (cv : Int)] 55)).grownBy w1 (Value.slice a xs.length cap).ownBlock := hgrow
        have B1 := below_grown hb hB hown hgrow'
        have K1 : KeepsOthers w w1 := (hko.trans (KeepsOthers.alloc _ _)).trans (KeepsOthers.of_grownBy hgrow' hcells)
        have W1 := words_snoc hown2
        go_ret
        exact ⟨_, rfl, ds ++ [cv], W1, okw_append.2 ⟨od, okw_cons.2 ⟨hcv, okw_nil⟩⟩, HE.out, by simp [HL.out], B1, K1⟩
end Go.Proofs.Yteplmnnpmekngaa
namespace Go.Proofs.Yteplmnnpmekngaa
open Go.RowKit

/-- A string's bytes, as numbers. -/
def nums (s : ByteArray) : List Nat := s.data.toList.map UInt8.toNat
theorem nums_length (s : ByteArray) : (nums s).length = s.size := by unfold nums; rw [List.length_map, Array.length_toList]; rfl
theorem nums_lt (s : ByteArray) (i : Nat) : (nums s)[i]?.getD 0 < 256 := by
  unfold nums
  rw [List.getElem?_map]
  cases s.data.toList[i]? with
  | none => simp
  | some u => simp; exact u.toNat_lt
theorem index_str (s : ByteArray) (i : Nat) (h : i < s.size) (w : World) : (Instr.index 9 (.string s) (.int .i64 (i : Int))).run Try.prog w = .ok (.int .u8 (((nums s)[i]?.getD 0 : Nat) : Int)) w := by
  rw [run_index_string w 9 s .i64 (i : Int) (by kernel_rfl), dif_pos ⟨by omega, by omega⟩]
  have e : (nums s)[i]?.getD 0 = (s[i]'h).toNat := by
    unfold nums
    rw [List.getElem?_map, List.getElem?_eq_getElem (by rw [Array.length_toList]; exact h)]
    rfl
  rw [e]
  rfl

/-- The digits of a number that is not below 0, without noughts ahead. -/
def isDig (bs : List Nat) : Prop := bs ≠ [] ∧ ¬ (bs[0]?.getD 0 = 48 ∧ 1 < bs.length) ∧ ∀ j, j < bs.length → 48 ≤ bs[j]?.getD 0 ∧ bs[j]?.getD 0 ≤ 57

theorem str_empty (s : ByteArray) : s.toList.isEmpty = decide (s.size = 0) := by
  have h : s.toList.length = s.size := by rw [ByteArray.toList_eq, Array.length_toList]; rfl
  cases hl : s.toList with
  | nil => rw [hl] at h; simp only [List.length_nil] at h; simp [← h]
  | cons u us => rw [hl] at h; simp only [List.length_cons] at h; simp only [List.isEmpty_cons]; symm; simp only [decide_eq_false_iff_not]; omega

set_option maxRecDepth 100000 in
set_option maxHeartbeats 2000000 in
theorem areDigits_any (s : ByteArray) (w : World) (hs : s.size ≤ 1000000) :
    Calls Try.prog 63 #[.string s] w fun e w' => (∃ b, e = .returned (.bool b) ∧ (b = true ↔ isDig (nums s))) ∧ w' = w := by
  have hl := nums_length s
  by_cases h0 : s.size = 0
  · have hE : s.toList.isEmpty = true := by rw [str_empty]; simpa using h0
    have HF : Hid (¬ isDig (nums s)) := fun h => h.1 (List.eq_nil_of_length_eq_zero (by omega))
    clear hl h0
    go_enter Try.func63, Try.ntmps63
    go_wp2
    go_ret
    exact ⟨⟨false, rfl, by simp [HF.out]⟩, rfl⟩
  · have hE : s.toList.isEmpty = false := by rw [str_empty]; simpa using h0
    have hi : ∀ w, (Instr.index 9 (.string s) (.int .i64 0)).run Try.prog w = .ok (.int .u8 (((nums s)[0]?.getD 0 : Nat) : Int)) w := index_str s 0 (by omega)
    have hx := index_str s
    obtain ⟨d0, hd0⟩ : ∃ d, (nums s)[0]?.getD 0 = d := ⟨_, rfl⟩
    rw [hd0] at hi
    go_enter Try.func63, Try.ntmps63
    by_cases hz : d0 = 48 ∧ 1 < s.size
    · have t1 : ((d0 : Int) == 48) = true := by rw [hz.1]; rfl
      have t2 : (1 : Int) < s.size := by omega
      have HF : Hid (¬ isDig (nums s)) := fun h => h.2.1 ⟨hd0.trans hz.1, by omega⟩
      clear hl hz hd0 hx
      go_wp2
      go_ret
      exact ⟨⟨false, rfl, by simp [HF.out]⟩, rfl⟩
    · have HZ : Hid (¬ ((nums s)[0]?.getD 0 = 48 ∧ 1 < (nums s).length)) := (by rw [hd0, hl]; exact hz)
      have HL : Hid ((nums s).length = s.size) := hl
      have hx' : ∀ i, i < s.size → ∀ w, (Instr.index 9 (.string s) (.int .i64 (i : Int))).run Try.prog w = .ok (.int .u8 (((nums s)[i]?.getD 0 : Nat) : Int)) w := fun i hi => hx i hi
      clear hl hd0 hx
      have loop : True := trivial
      clear loop
      by_cases hq : d0 = 48
      · have t1 : ((d0 : Int) == 48) = true := by rw [hq]; rfl
        have t2 : ¬ (1 : Int) < s.size := by omega
        go_wp2_with fail
        go_loop [18] (fun i => ∃ k : Nat, k ≤ s.size ∧ i = .int .i64 (k : Int) ∧ ∀ j, j < k → 48 ≤ (nums s)[j]?.getD 0 ∧ (nums s)[j]?.getD 0 ≤ 57) (fun i => s.size - (intOf i).toNat)
        case atStart => exact ⟨0, Nat.zero_le _, rfl, fun j h => by omega⟩
        case round =>
          obtain ⟨k, hk, rfl, hok⟩ := hrel
          have HO : Hid (∀ j, j < k → 48 ≤ (nums s)[j]?.getD 0 ∧ (nums s)[j]?.getD 0 ≤ 57) := hok
          clear hok
          by_cases hlt : k < s.size
          · have hik := hx' k hlt
            obtain ⟨d, hd⟩ : ∃ d, (nums s)[k]?.getD 0 = d := ⟨_, rfl⟩
            rw [hd] at hik
            have HD : Hid ((nums s)[k]?.getD 0 = d) := hd
            have t5 : (k : Int) < s.size := by omega
            clear hd hx'
            by_cases h1 : d < 48
            · have t6 : (d : Int) < 48 := by omega
              have HF : Hid (¬ isDig (nums s)) := fun h => by have := h.2.2 k (by rw [HL.out]; exact hlt); rw [HD.out] at this; omega
              go_wp2
              go_ret
              exact ⟨Or.inl ⟨rfl, HF.out⟩, rfl⟩
            · have t6 : ¬ (d : Int) < 48 := by omega
              by_cases h2 : 57 < d
              · have t7 : (57 : Int) < d := by omega
                have HF : Hid (¬ isDig (nums s)) := fun h => by have := h.2.2 k (by rw [HL.out]; exact hlt); rw [HD.out] at this; omega
                go_wp2
                go_ret
                exact ⟨Or.inl ⟨rfl, HF.out⟩, rfl⟩
              · have t7 : ¬ (57 : Int) < d := by omega
                go_wp2
                go_round
                case rel => exact ⟨k + 1, by omega, by go_num, fun j hj => (Nat.eq_or_lt_of_le (Nat.le_of_lt_succ hj)).elim (fun e => by subst e; rw [HD.out]; omega) (fun h => HO.out j h)⟩
                case measure => simp [intOf]; omega
          · obtain rfl : k = s.size := by omega
            have t5 : ¬ (s.size : Int) < s.size := by omega
            have HT : Hid (isDig (nums s)) := ⟨fun h => by have := HL.out; rw [h] at this; simp at this; omega, HZ.out, fun j hj => HO.out j (by rw [← HL.out]; exact hj)⟩
            clear hx'
            go_wp2
            go_ret
            exact ⟨Or.inr ⟨rfl, HT.out⟩, rfl⟩
      · have t1 : ((d0 : Int) == 48) = false := by simp; omega
        go_wp2_with fail
        go_loop [18] (fun i => ∃ k : Nat, k ≤ s.size ∧ i = .int .i64 (k : Int) ∧ ∀ j, j < k → 48 ≤ (nums s)[j]?.getD 0 ∧ (nums s)[j]?.getD 0 ≤ 57) (fun i => s.size - (intOf i).toNat)
        case atStart => exact ⟨0, Nat.zero_le _, rfl, fun j h => by omega⟩
        case round =>
          obtain ⟨k, hk, rfl, hok⟩ := hrel
          have HO : Hid (∀ j, j < k → 48 ≤ (nums s)[j]?.getD 0 ∧ (nums s)[j]?.getD 0 ≤ 57) := hok
          clear hok
          by_cases hlt : k < s.size
          · have hik := hx' k hlt
            obtain ⟨d, hd⟩ : ∃ d, (nums s)[k]?.getD 0 = d := ⟨_, rfl⟩
            rw [hd] at hik
            have HD : Hid ((nums s)[k]?.getD 0 = d) := hd
            have t5 : (k : Int) < s.size := by omega
            clear hd hx'
            by_cases h1 : d < 48
            · have t6 : (d : Int) < 48 := by omega
              have HF : Hid (¬ isDig (nums s)) := fun h => by have := h.2.2 k (by rw [HL.out]; exact hlt); rw [HD.out] at this; omega
              go_wp2
              go_ret
              exact ⟨Or.inl ⟨rfl, HF.out⟩, rfl⟩
            · have t6 : ¬ (d : Int) < 48 := by omega
              by_cases h2 : 57 < d
              · have t7 : (57 : Int) < d := by omega
                have HF : Hid (¬ isDig (nums s)) := fun h => by have := h.2.2 k (by rw [HL.out]; exact hlt); rw [HD.out] at this; omega
                go_wp2
                go_ret
                exact ⟨Or.inl ⟨rfl, HF.out⟩, rfl⟩
              · have t7 : ¬ (57 : Int) < d := by omega
                go_wp2
                go_round
                case rel => exact ⟨k + 1, by omega, by go_num, fun j hj => (Nat.eq_or_lt_of_le (Nat.le_of_lt_succ hj)).elim (fun e => by subst e; rw [HD.out]; omega) (fun h => HO.out j h)⟩
                case measure => simp [intOf]; omega
          · obtain rfl : k = s.size := by omega
            have t5 : ¬ (s.size : Int) < s.size := by omega
            have HT : Hid (isDig (nums s)) := ⟨fun h => by have := HL.out; rw [h] at this; simp at this; omega, HZ.out, fun j hj => HO.out j (by rw [← HL.out]; exact hj)⟩
            clear hx'
            go_wp2
            go_ret
            exact ⟨Or.inr ⟨rfl, HT.out⟩, rfl⟩
end Go.Proofs.Yteplmnnpmekngaa
namespace Go.Proofs.Yteplmnnpmekngaa
open Go.RowKit

/-- The number that digits write, the highest first. -/
def dn (bs : List Nat) : Nat := dval bs.reverse
theorem dn_append (A B : List Nat) : dn (A ++ B) = dn B + 10 ^ B.length * dn A := by
  unfold dn
  rw [List.reverse_append, dval_append, List.length_reverse]
theorem dn_snoc (A : List Nat) (b : Nat) : dn (A ++ [b]) = (b - 48) + 10 * dn A := by
  rw [dn_append]; simp [dn, dval]
theorem dn_lt {A : List Nat} (h : ∀ d ∈ A, 48 ≤ d ∧ d ≤ 57) : dn A < 10 ^ A.length := by
  unfold dn
  rw [← List.length_reverse]
  have h' : ∀ d ∈ A.reverse, 48 ≤ d ∧ d ≤ 57 := fun d hd => h d (by simpa using hd)
  generalize A.reverse = R at h'
  induction R with
  | nil => simp [dval]
  | cons d R ih =>
    have h1 := h' d (List.mem_cons_self ..)
    have h2 := ih (fun e he => h' e (List.mem_cons_of_mem _ he))
    simp only [dval, List.length_cons, Nat.pow_succ]
    omega
/-- The digits from a on, up to b. -/
def cutD (bs : List Nat) (a b : Nat) : List Nat := (bs.take b).drop a
theorem cutD_snoc (bs : List Nat) (a b : Nat) (h : b < bs.length) (hab : a ≤ b) : cutD bs a (b + 1) = cutD bs a b ++ [bs[b]?.getD 0] := by
  unfold cutD
  rw [take_succ_get bs b h, List.drop_append_of_le_length (by rw [List.length_take]; omega)]
theorem cutD_length (bs : List Nat) (a b : Nat) (h : b ≤ bs.length) : (cutD bs a b).length = b - a := by
  unfold cutD; rw [List.length_drop, List.length_take]; omega
theorem cutD_join (bs : List Nat) (a b : Nat) (hab : a ≤ b) : bs.take b = bs.take a ++ cutD bs a b := by
  unfold cutD
  conv => lhs; rw [← List.take_append_drop a (bs.take b)]
  rw [List.take_take, Nat.min_eq_left hab]
theorem cutD_mem {bs : List Nat} {a b : Nat} (h : ∀ d ∈ bs, 48 ≤ d ∧ d ≤ 57) : ∀ d ∈ cutD bs a b, 48 ≤ d ∧ d ≤ 57 := fun d hd => h d (List.mem_of_mem_take (List.mem_of_mem_drop hd))
/-- One piece more. -/
theorem piece_more {bs ps : List Nat} {j : Nat} (hj : ps.length = j) (hL : 9 * j < bs.length) (h : pval ps + 10 ^ (9 * j) * dn (bs.take (bs.length - 9 * j)) = dn bs) :
    pval (ps ++ [dn (cutD bs (bs.length - 9 * j - 9) (bs.length - 9 * j))]) + 10 ^ (9 * (j + 1)) * dn (bs.take (bs.length - 9 * (j + 1))) = dn bs := by
  rw [pval_snoc, hj, pow9, ← h]
  have e := cutD_join bs (bs.length - 9 * j - 9) (bs.length - 9 * j) (by omega)
  have e1 : dn (bs.take (bs.length - 9 * j)) = dn (cutD bs (bs.length - 9 * j - 9) (bs.length - 9 * j)) + 10 ^ (cutD bs (bs.length - 9 * j - 9) (bs.length - 9 * j)).length * dn (bs.take (bs.length - 9 * j - 9)) := by
    rw [e, dn_append]
  rw [e1, show bs.length - 9 * (j + 1) = bs.length - 9 * j - 9 by omega, cutD_length _ _ _ (by omega)]
  by_cases h9 : 9 ≤ bs.length - 9 * j
  · rw [show bs.length - 9 * j - (bs.length - 9 * j - 9) = 9 by omega, show 9 * (j + 1) = 9 * j + 9 by omega, Nat.mul_add, Nat.pow_add, Nat.mul_assoc]
    omega
  · rw [show bs.length - 9 * j - 9 = 0 by omega, List.take_zero, show dn [] = 0 from rfl]
    simp
theorem rowP_oneCell (xs : List Nat) : (xs.map fun x : Nat => Value.int .u32 (x : Int)).toArray.all (·.oneCell') = true := by
  rw [Array.all_eq_true_iff_forall_mem]
  intro v hv
  exact words_one xs .u32 v (by simpa using hv)

theorem below_setRow {B g : Nat} (hg : B ≤ g) (w : World) (cs : Array Value) : Below B w (w.setRow g cs) := by
  refine ⟨rfl, rfl, rfl, by simp [World.setRow], fun k hk => ?_⟩
  show (w.heap.modify g _)[k]? = _
  rw [Array.getElem?_modify, if_neg (by omega)]

set_option maxRecDepth 100000 in
set_option maxHeartbeats 4000000 in
theorem split_any (s : ByteArray) (w : World) (hs : s.size ≤ 2467) (hd : ∀ d ∈ nums s, 48 ≤ d ∧ d ≤ 57) :
    Calls Try.prog 64 #[.string s] w fun e w' => ∃ ps : List Nat, e = .returned (.tuple #[.agg ((ps ++ List.replicate (275 - ps.length) 0).map fun x : Nat => Value.int .u32 (x : Int)).toArray, .int .i64 (ps.length : Int)]) ∧ (ps.length ≤ 275 ∧ (∀ p ∈ ps, p < 1000000000) ∧ pval ps = dn (nums s)) ∧ Below w.heap.size w w' := by
  have hl := nums_length s
  have hx := index_str s
  have hzv := Try.zeroPieces
  go_enter Try.func64, Try.ntmps64
  go_wp2_with fail
  clear hzv
  have hrow0 := row_zero w
  have hb0 := below_alloc w (.cells zero275 77)
  obtain ⟨w1, hW⟩ : ∃ w1, w.alloc (.cells zero275 77) = w1 := ⟨_, rfl⟩
  rw [hW] at hrow0 hb0 ⊢
  clear hW
  go_loopw [3, 4] (fun n en wr => ∃ (j : Nat) (ps : List Nat), n = .int .i64 (j : Int) ∧ en = .int .i64 ((s.size : Int) - 9 * j) ∧ ps.length = j ∧ j ≤ 275 ∧ (∀ p ∈ ps, p < 1000000000) ∧ pval ps + 10 ^ (9 * j) * dn ((nums s).take ((nums s).length - 9 * j)) = dn (nums s) ∧ Row .u32 77 wr w.heap.size (ps ++ List.replicate (275 - j) 0) ∧ Below w.heap.size w wr) (fun n _ _ => 275 - (intOf n).toNat)
  case atStart =>
    refine ⟨0, [], rfl, by simp, rfl, by omega, fun p h => by simp at h, ?_, by simpa using hrow0, hb0⟩
    simp [pval]
  case round =>
    clear hrow0 hb0
    obtain ⟨j, ps, rfl, rfl, hj, hj2, hp, hv, hrow, hb⟩ := hrel
    by_cases hlt : 9 * j < s.size
    · have t1 : (0 : Int) < (s.size : Int) - 9 * j := by omega
      have HV : Hid (pval (ps ++ [dn (cutD (nums s) ((nums s).length - 9 * j - 9) ((nums s).length - 9 * j))]) + 10 ^ (9 * (j + 1)) * dn ((nums s).take ((nums s).length - 9 * (j + 1))) = dn (nums s)) := piece_more hj (by omega) hv
      clear hv
      obtain ⟨E, hE⟩ : ∃ E : Nat, (s.size : Int) - 9 * j = (E : Int) := ⟨s.size - 9 * j, by omega⟩
      rw [hE]
      obtain ⟨lo, hlo⟩ : ∃ lo, E - 9 = lo := ⟨_, rfl⟩
      have hE' : E = s.size - 9 * j := by omega
      have HE : Hid (E = s.size - 9 * j) := hE'
      have hEb : E ≤ s.size := by omega
      have hE0 : 0 < E := by omega
      have hj4 : j ≤ 274 := by omega
      rw [hl, ← hE', hlo] at HV
      clear hE hE' t1
      have t1 : (0 : Int) < E := by omega
      go_upto_region 4 with fail
      go_cut [5] from 12 to 14 (fun v W => v = .int .i64 (lo : Int) ∧ W = wr)
      case first =>
        go_wp2_with fail
        all_goals (go_meet)
        all_goals exact ⟨by congr 1; omega, rfl⟩
      case rest =>
        obtain ⟨rfl, rfl⟩ := hcut
        go_wp2_with fail
        go_loopw [5] (fun iv wi => ∃ i : Nat, lo ≤ i ∧ i ≤ E ∧ iv = .int .i64 (i : Int) ∧ Row .u32 77 wi w.heap.size ((ps ++ List.replicate (275 - j) 0).set j (dn (cutD (nums s) lo i))) ∧ Below w.heap.size w wi) (fun iv _ => E - (intOf iv).toNat)
        case atStart =>
          refine ⟨lo, Nat.le_refl _, by omega, rfl, ?_, hb⟩
          have e0 : cutD (nums s) lo lo = [] := List.eq_nil_of_length_eq_zero (by rw [cutD_length _ _ _ (by omega)]; omega)
          rw [e0, show dn [] = 0 from rfl, set_piece ps j 0 hj (by omega)]
          have e2 : (ps ++ [0]) ++ List.replicate (275 - (j + 1)) 0 = ps ++ List.replicate (275 - j) 0 := by
            rw [List.append_assoc, show 275 - j = (275 - (j + 1)) + 1 by omega, List.replicate_succ]
            rfl
          rw [e2]
          exact hrow
        case round =>
          clear hrow hb
          obtain ⟨i, hi1, hi2, rfl, hrow, hb⟩ := hrel
          by_cases hlt2 : i < E
          · have q1 : dn (cutD (nums s) lo i) < 10 ^ 8 := by
              have h1 := dn_lt (cutD_mem (a := lo) (b := i) hd)
              rw [cutD_length _ _ _ (by omega)] at h1
              exact Nat.lt_of_lt_of_le h1 (Nat.pow_le_pow_right (by omega) (by omega))
            have hsn := cutD_snoc (nums s) lo i (by omega) hi1
            have hdi : 48 ≤ (nums s)[i]?.getD 0 ∧ (nums s)[i]?.getD 0 ≤ 57 := hd _ (by rw [List.getElem?_eq_getElem (by omega)]; exact List.getElem_mem _)
            have hxi := hx i (by omega)
            obtain ⟨q, hq⟩ : ∃ q, dn (cutD (nums s) lo i) = q := ⟨_, rfl⟩
            obtain ⟨d, hdd⟩ : ∃ d, (nums s)[i]?.getD 0 = d := ⟨_, rfl⟩
            have HN : Hid (dn (cutD (nums s) lo (i + 1)) = q * 10 + (d - 48)) := (by show _ = _; rw [hsn, dn_snoc, hq, hdd]; omega)
            rw [hq] at hrow q1
            rw [hdd] at hxi hdi
            have hcell := hrow.cell j (by simp [hj]; omega)
            have hfr := hrow.fr j
            rw [List.getElem?_set_self (by simp [hj]; omega)] at hcell
            simp only [Option.getD_some] at hcell
            have hset := fun v => Row.turn2 hrow j v
            simp only [List.set_set] at hset
            have HR : Hid (∀ v : Nat, Row .u32 77 (wr.setCell ⟨w.heap.size, j, none⟩ (.int .u32 (v : Int))) w.heap.size ((ps ++ List.replicate (275 - j) 0).set j v)) := hset
            have t2 : (i : Int) < E := by omega
            have t3 : (q : Int) < 100000000 := by omega
            clear hq hdd hsn hset hrow hx HV
            go_wp2_with fail
            go_region
            go_wp2_with fail
            have ev : ((q : Int) * 10 + ((d : Int) - 48)) = ((q * 10 + (d - 48) : Nat) : Int) := by omega
            rw [ev]
            refine ⟨⟨i + 1, by omega, by omega, by go_num, ?_, (hb.setCell (p := ⟨w.heap.size, j, none⟩) (Nat.le_refl _) _).drew⟩, by simp [intOf]; omega⟩
            rw [HN.out]
            exact HR.out _
          · obtain rfl : i = E := by omega
            have t2 : ¬ (i : Int) < i := by omega
            have hpq : dn (cutD (nums s) lo i) < 1000000000 := by
              have h1 := dn_lt (cutD_mem (a := lo) (b := i) hd)
              rw [cutD_length _ _ _ (by omega)] at h1
              exact Nat.lt_of_lt_of_le h1 (show 10 ^ (i - lo) ≤ 10 ^ 9 from Nat.pow_le_pow_right (by omega) (by omega))
            rw [set_piece ps j _ hj (by omega)] at hrow
            have HP : Hid (∀ p ∈ ps ++ [dn (cutD (nums s) lo i)], p < 1000000000) := (fun p h => by
              rcases List.mem_append.1 h with h | h
              · exact hp p h
              · rw [List.mem_singleton.1 h]; exact hpq)
            have hes : ((i : Int) - 9) = (s.size : Int) - 9 * ((j + 1 : Nat) : Int) := by have := HE.out; omega
            have HS : Hid (((i : Int) - 9) = (s.size : Int) - 9 * ((j + 1 : Nat) : Int)) := hes
            clear hes hpq hx
            go_wp2_with fail
            go_roundw
            case rel => exact ⟨j + 1, ps ++ [dn (cutD (nums s) lo i)], by go_num, by rw [HS.out], by simp [hj], by omega, HP.out, by rw [hl]; exact HV.out, hrow, hb⟩
            case measure => simp [intOf]; omega
    · have t1 : ¬ (0 : Int) < (s.size : Int) - 9 * j := by omega
      have HV : Hid (pval ps = dn (nums s)) := (by
        show _ = _
        rw [show (nums s).length - 9 * j = 0 by omega, List.take_zero, show dn [] = 0 from rfl] at hv
        simpa using hv)
      have hsz : ((ps ++ List.replicate (275 - j) 0).map fun x : Nat => Value.int .u32 (x : Int)).toArray.size = 275 := by simp [hj]; omega
      have hinf : (Try.prog.info? 77).map (·.size) = some ((ps ++ List.replicate (275 - j) 0).map fun x : Nat => Value.int .u32 (x : Int)).toArray.size := by rw [hsz]; kernel_rfl
      have hone := rowP_oneCell (ps ++ List.replicate (275 - j) 0)
      have hrow' : wr.heap[w.heap.size]? = some (.cells ((ps ++ List.replicate (275 - j) 0).map fun x : Nat => Value.int .u32 (x : Int)).toArray 77 (0, 0)) := hrow
      have hrow2 := setRow_heap wr w.heap.size _ ((ps ++ List.replicate (275 - j) 0).map fun x : Nat => Value.int .u32 (x : Int)).toArray 77 (0, 0) hrow'
      have hb2 : Below w.heap.size w (wr.setRow w.heap.size ((ps ++ List.replicate (275 - j) 0).map fun x : Nat => Value.int .u32 (x : Int)).toArray) := hb.trans (below_setRow (Nat.le_refl _) _ _)
      have hlv := run_loadVar_row (P := Try.prog) _ w.heap.size 77 77 _ (0, 0) _ hrow2 Try.arrPieces rfl hinf
      subst hj
      clear hv hx hd hsz
      generalize hcs : ((ps ++ List.replicate (275 - ps.length) 0).map fun x : Nat => Value.int .u32 (x : Int)).toArray = cs at *
      have HCS : Hid (((ps ++ List.replicate (275 - ps.length) 0).map fun x : Nat => Value.int .u32 (x : Int)).toArray = cs) := hcs
      clear hcs
      go_wp2_with (first | (refine wpList_load_row rfl 77 (.tmp 2) rfl w.heap.size rfl 77 cs (0, 0) _ hrow' Try.arrPieces rfl hinf ?_) | (refine wpList_store_row rfl 77 (.tmp 2) (.tmp 34) rfl w.heap.size cs rfl rfl 77 cs hrow' hinf rfl hone ?_) | fail)
      refine bodyPost_ret (v := .tuple #[.agg cs, .int .i64 (ps.length : Int)]) ?_ rfl ⟨ps, by rw [← HCS.out]; simp, ⟨hj2, hp, HV.out⟩, hb2⟩
      simp [results, Try.f64, asAddr, hlv]
end Go.Proofs.Yteplmnnpmekngaa
