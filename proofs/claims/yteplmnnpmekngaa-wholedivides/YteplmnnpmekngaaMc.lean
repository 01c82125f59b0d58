/-
  What appendPieces does: nine digits a piece, the lowest first.
  What slices.Reverse does to bytes.
  Decimal digits, the lowest first, as bytes. No program, no world.
-/
import Derived.Test.YteplmnnpmekngaaDivBy
import Derived.Laws.BytesArg
namespace Go.Proofs.Yteplmnnpmekngaa
open Go.RowKit

theorem Try.infoByte : (Try.prog.info? 5).map (fun i => (i.zero, i.size, i.bytes)) = some (some (.int .u8 0), 1, 1) := by kernel_rfl
/-- From w to w' there may be new blocks; of the old ones only rows of bytes from number B on may have turned. -/
structure TextTurn (B : Nat) (w w' : World) : Prop where
  os : w'.os = w.os
  tape : w'.tape = w.tape
  output : w'.output = w.output
  size : w.heap.size ≤ w'.heap.size
  block : ∀ k, k < w.heap.size → (k < B ∨ ∀ c f, w.heap[k]? ≠ some (.cells c 5 f)) → w'.heap[k]? = w.heap[k]?
theorem TextTurn.refl (B : Nat) (w : World) : TextTurn B w w := ⟨rfl, rfl, rfl, Nat.le_refl _, fun _ _ _ => rfl⟩
theorem TextTurn.trans {B : Nat} {a b c : World} (h : TextTurn B a b) (k : TextTurn B b c) : TextTurn B a c :=
  ⟨k.os.trans h.os, k.tape.trans h.tape, k.output.trans h.output, Nat.le_trans h.size k.size, fun i hi hc => by
    have e := h.block i hi hc
    refine (k.block i (Nat.lt_of_lt_of_le hi h.size) (hc.imp id fun hn c f => ?_)).trans e
    rw [e]; exact hn c f⟩
theorem TextTurn.of_below {B : Nat} {w w' : World} (h : Below w.heap.size w w') : TextTurn B w w' := ⟨h.os, h.tape, h.output, h.size, fun k hk _ => h.block k hk⟩
theorem TextTurn.grown {B n : Nat} {w w' : World} {v : Value} {xs : List Value} (hg : w.grownBy w' v.ownBlock) (ho : w.ownsRow B 5 1 v n xs) : TextTurn B w w' := by
  refine ⟨hg.os, hg.tape, hg.output, hg.size, fun k hk hc => hg.block k hk fun e => ?_⟩
  rcases ho.2 with ⟨rfl, _⟩ | ⟨g, cap, cur, rfl, hB, hh, _⟩
  · simp [Value.ownBlock] at e
  · simp [Value.ownBlock] at e
    subst e
    rcases hc with hc | hc
    · omega
    · exact hc _ _ hh
theorem TextTurn.below {B : Nat} {w w' : World} (h : TextTurn B w w') (hB : B ≤ w.heap.size) : Below B w w' := ⟨h.os, h.tape, h.output, h.size, fun k hk => h.block k (by omega) (Or.inl hk)⟩

/-- The bytes of text, as the kit owns them. -/
def Bytes (B : Nat) (w : World) (v : Value) (ts : List Nat) : Prop := w.ownsRow B 5 1 v ts.length (ts.map fun x : Nat => Value.int .u8 (x : Int))
/-- The first j of a piece's nine digits, the lowest first, as bytes. -/
def dg9 : Nat → Nat → List Nat
  | 0, _ => []
  | j + 1, p => (48 + p % 10) :: dg9 j (p / 10)
theorem dg9_length (j p : Nat) : (dg9 j p).length = j := by
  induction j generalizing p with
  | zero => rfl
  | succ j ih => simp [dg9, ih]
theorem dg9_snoc (j p : Nat) : dg9 (j + 1) p = dg9 j p ++ [48 + p / 10 ^ j % 10] := by
  induction j generalizing p with
  | zero => simp [dg9]
  | succ j ih =>
    rw [dg9, ih (p / 10), dg9, List.cons_append, Nat.pow_succ, Nat.mul_comm, Nat.div_div_eq_div_mul]
def dgs (row : List Nat) : List Nat := row.flatMap (dg9 9)
theorem dgs_snoc (row : List Nat) (p : Nat) : dgs (row ++ [p]) = dgs row ++ dg9 9 p := by simp [dgs]
theorem dgs_length (row : List Nat) : (dgs row).length = 9 * row.length := by
  induction row with
  | nil => rfl
  | cons p row ih => simp only [dgs, List.flatMap_cons, List.length_append, dg9_length, List.length_cons] at ih ⊢; omega

/-- What is appended lies in a new block of its own first. -/
theorem new_one (w : World) (x : Value) (t : TypeId) : ∀ j u, [x][j]? = some u → (w.alloc (.cells #[x] t)).cell? (Addr.add ⟨w.heap.size, 0, none⟩ j) = some u := by
  intro j u hj
  match j, hj with
  | 0, hj => rw [WideShapes.add_plain, World.cell?_alloc_at _ _ _ _ rfl]; simpa using hj
  | j + 1, hj => simp at hj

set_option maxRecDepth 100000 in
set_option maxHeartbeats 2000000 in
theorem appendPieces_any (B r off cap : Nat) (tv : Value) (ts ps : List Nat) (w : World) (ht : Bytes B w tv ts) (hB : B ≤ w.heap.size) (hr : r < w.heap.size) (hrt : ∀ c f, w.heap[r]? ≠ some (.cells c 5 f)) (sp : Seg .u32 w r off ps) (op : okw ps) (bt : ts.length ≤ 1000000) (bp : ps.length ≤ 1000) :
    Calls Try.prog 69 #[tv, .slice (some ⟨r, off, none⟩) ps.length cap] w fun e w' => ∃ tv', e = .returned tv' ∧ Bytes B w' tv' (ts ++ dgs ps) ∧ TextTurn B w w' := by
  obtain ⟨i0, hi, hz0, hz1, hz2⟩ := info_parts Try.infoByte
  go_enter Try.func69, Try.ntmps69
  go_wp2
  go_loopw [0, 9] (fun t i wr => ∃ k : Nat, k ≤ ps.length ∧ i = .int .i64 (k : Int) ∧ Bytes B wr t (ts ++ dgs (ps.take k)) ∧ TextTurn B w wr)
    (fun _ i _ => ps.length - (intOf i).toNat)
  case atStart => exact ⟨0, Nat.zero_le _, rfl, by simpa [dgs] using ht, TextTurn.refl _ _⟩
  case round =>
    obtain ⟨k, hk, rfl, hown, htt⟩ := hrel
    by_cases hlt : k < ps.length
    · have hp : wr.cell? ⟨r, off + k, none⟩ = some (.int .u32 ((ps[k]?.getD 0 : Nat) : Int)) := by
        rw [World.cell?_of_block (a := ⟨r, off + k, none⟩) (htt.block r hr (Or.inr hrt))]
        exact sp k hlt
      have hpb := okw_get op k
      obtain ⟨p, hp'⟩ : ∃ p, ps[k]?.getD 0 = p := ⟨_, rfl⟩
      rw [hp'] at hp hpb
      have HP : Hid (ps[k]?.getD 0 = p) := hp'
      clear hp'
      go_wp2
      go_loopw [0, 6, 13] (fun t q j wr' => ∃ m : Nat, m ≤ 9 ∧ j = .int .i64 (m : Int) ∧ q = .int .u32 ((p / 10 ^ m : Nat) : Int) ∧ Bytes B wr' t ((ts ++ dgs (ps.take k)) ++ dg9 m p) ∧ TextTurn B w wr')
        (fun _ _ j _ => 9 - (intOf j).toNat)
      case atStart => exact ⟨0, Nat.zero_le _, rfl, by simp, by simpa [dg9] using hown, htt⟩
      case round =>
        clear hown htt hp
        obtain ⟨m, hm, rfl, rfl, hown, htt⟩ := hrel
        have hl9 := dg9_length m p
        have hld := dgs_length (ps.take k)
        have hlk : (ps.take k).length = k := by rw [List.length_take]; omega
        obtain ⟨q, hq⟩ : ∃ q, p / 10 ^ m = q := ⟨_, rfl⟩
        have hqb : q < 4294967296 := by rw [← hq]; exact Nat.lt_of_le_of_lt (Nat.div_le_self _ _) hpb
        rw [hq]
        have HQ : Hid (p / 10 ^ m = q) := hq
        obtain ⟨us, hus⟩ : ∃ us, (ts ++ dgs (ps.take k)) ++ dg9 m p = us := ⟨_, rfl⟩
        have hul : us.length ≤ 1100000 := by rw [← hus]; simp [hl9, hld]; omega
        have HU : Hid ((ts ++ dgs (ps.take k)) ++ dg9 m p = us) := hus
        rw [hus] at hown
        clear hq hus hl9 hld hlk
        have hws := htt.size
        by_cases hm9 : m < 9
        · have hown1 : wr.ownsRow B 5 1 _ us.length (us.map fun x : Nat => Value.int .u8 (x : Int)) := hown
          go_wp2_with (at_builtin; refine wpList_append_own _ rfl _ _ 81 rfl B 5 i0 (.int .u8 0) 1 1 Try.underlying81 hi hz0 hz1 hz2 rfl (by decide) _ _ _ rfl (World.ownsRow.alloc hown1 _) ⟨wr.heap.size, 0, none⟩ 1 1 [.int .u8 (48 + (q : Int) % 10)] rfl rfl (new_one _ _ _) (by simp [Value.oneCell']) (by unfold maxLen; omega) (by omega) (by simp; omega) ?_; intro v' w1 hown2 hgrow _)
          have hgrow' : (wr.alloc (.cells #[.int .u8 (48 + (q : Int) % 10)] 5)).grownBy w1 u0.ownBlock := hgrow
          have T1 : TextTurn B w w1 := htt.trans ((TextTurn.of_below ((Below.refl _ _).alloc (Nat.le_refl _) _)).trans (TextTurn.grown hgrow' (World.ownsRow.alloc hown1 _)))
          have B1 : Bytes B w1 v' ((ts ++ dgs (ps.take k)) ++ dg9 (m + 1) p) := by
            rw [dg9_snoc, ← List.append_assoc, HU.out, HQ.out]
            unfold Bytes
            simpa using hown2
          go_roundw
          case rel => exact ⟨m + 1, by omega, by go_num, by rw [Nat.pow_succ, ← Nat.div_div_eq_div_mul, HQ.out]; simp, B1, T1⟩
          case measure => simp [intOf]; omega
        · obtain rfl : m = 9 := by omega
          have B1 : Bytes B wr u0 (ts ++ dgs (ps.take (k + 1))) := by
            rw [take_succ_get ps k hlt, dgs_snoc, HP.out, ← List.append_assoc, HU.out]
            exact hown
          go_wp2
          go_roundw
          case rel => exact ⟨k + 1, by omega, by go_num, B1, htt⟩
          case measure => simp [intOf]; omega
    · obtain rfl : k = ps.length := by omega
      have B1 : Bytes B wr u0 (ts ++ dgs ps) := by rw [List.take_length] at hown; exact hown
      clear hown
      go_wp2
      go_ret
      exact ⟨_, rfl, B1, htt⟩
end Go.Proofs.Yteplmnnpmekngaa
namespace Go.Proofs.Yteplmnnpmekngaa
open Go.RowKit

/-- us, its first k and last k places exchanged. -/
def swp (us : List Nat) (k : Nat) : List Nat := (List.range us.length).map fun t => if t < k ∨ us.length - k ≤ t then us[us.length - 1 - t]?.getD 0 else us[t]?.getD 0
theorem swp_length (us : List Nat) (k : Nat) : (swp us k).length = us.length := by simp [swp]
theorem swp_get (us : List Nat) (k t : Nat) (ht : t < us.length) : (swp us k)[t]?.getD 0 = if t < k ∨ us.length - k ≤ t then us[us.length - 1 - t]?.getD 0 else us[t]?.getD 0 := by
  simp [swp, ht]
theorem swp_zero (us : List Nat) : swp us 0 = us := by
  refine ext_get (swp_length _ _) fun t ht => ?_
  rw [swp_length] at ht
  rw [swp_get _ _ _ ht, if_neg (by omega)]
theorem swp_end (us : List Nat) (k : Nat) (h1 : us.length ≤ 2 * k + 1) : swp us k = us.reverse := by
  refine ext_get (by simp [swp_length]) fun t ht => ?_
  rw [swp_length] at ht
  rw [swp_get _ _ _ ht, List.getElem?_reverse ht]
  split
  · rfl
  · rw [show us.length - 1 - t = t by omega]
theorem swp_step (us : List Nat) (k j : Nat) (hj : j = us.length - 1 - k) (hk : k < j) : ((swp us k).set k (us[j]?.getD 0)).set j (us[k]?.getD 0) = swp us (k + 1) := by
  refine ext_get (by simp [swp_length]) fun t ht => ?_
  simp only [List.length_set, swp_length] at ht
  rw [swp_get _ _ _ ht]
  by_cases h1 : t = j
  · subst h1
    rw [List.getElem?_set_self (by simp [swp_length]; omega), if_pos (by omega), show us.length - 1 - t = k by omega]; rfl
  · rw [List.getElem?_set_ne (by omega)]
    by_cases h2 : t = k
    · subst h2
      rw [List.getElem?_set_self (by simp [swp_length]; omega), if_pos (by omega), hj]; rfl
    · rw [List.getElem?_set_ne (by omega), swp_get _ _ _ ht]
      by_cases h3 : t < k ∨ us.length - k ≤ t
      · rw [if_pos h3, if_pos (by omega)]
      · rw [if_neg h3, if_neg (by omega)]
theorem OnlyRow.drewR {w w' : World} {g off n : Nat} (h : OnlyRow w w' g off n) : OnlyRow w w'.drew g off n := ⟨h.os, h.tape, h.output, h.size, h.block, h.cell, h.frozen⟩

set_option maxRecDepth 100000 in
set_option maxHeartbeats 2000000 in
theorem reverse_some (g off cap : Nat) (us : List Nat) (w : World) (su : Seg .u8 w g off us) (fu : Free w g off us.length) (hn : 0 < us.length) (hb : us.length ≤ 10000000) :
    Calls Try.prog 70 #[.slice (some ⟨g, off, none⟩) us.length cap] w fun e w' => e = .returned (.tuple #[]) ∧ Seg .u8 w' g off us.reverse ∧ OnlyRow w w' g off us.length := by
  go_enter Try.func70, Try.ntmps70
  go_wp2
  go_loopw [2, 3] (fun i j wr => ∃ k l : Nat, i = .int .i64 (k : Int) ∧ j = .int .i64 (l : Int) ∧ l = us.length - 1 - k ∧ k ≤ l + 1 ∧ k < us.length ∧ Seg .u8 wr g off (swp us k) ∧ OnlyRow w wr g off us.length)
    (fun i _ _ => us.length - (intOf i).toNat)
  case atStart => exact ⟨0, us.length - 1, rfl, by simp; omega, rfl, by omega, hn, by rw [swp_zero]; exact su, OnlyRow.refl _ _ _ _⟩
  case round =>
    obtain ⟨k, l, rfl, rfl, hl, hkl, hkn, hs, hor⟩ := hrel
    have HL : Hid (l = us.length - 1 - k) := hl
    clear hl
    by_cases hlt : k < l
    · have hll : l < us.length := by have := HL.out; omega
      have c1 : wr.cell? ⟨g, off + k, none⟩ = some (.int .u8 ((us[k]?.getD 0 : Nat) : Int)) := by
        rw [hs k (by rw [swp_length]; omega), swp_get _ _ _ (by omega), if_neg (by have := HL.out; omega)]
      have c2 : wr.cell? ⟨g, off + l, none⟩ = some (.int .u8 ((us[l]?.getD 0 : Nat) : Int)) := by
        rw [hs l (by rw [swp_length]; omega), swp_get _ _ _ (by omega), if_neg (by have := HL.out; omega)]
      have f1 : wr.frozen? ⟨g, off + k, none⟩ = false := (hor.frozen _).trans (fu k (by omega))
      have f2 : wr.frozen? ⟨g, off + l, none⟩ = false := (hor.frozen _).trans (fu l (by omega))
      obtain ⟨x, hx⟩ : ∃ x, us[k]?.getD 0 = x := ⟨_, rfl⟩
      obtain ⟨y, hy⟩ : ∃ y, us[l]?.getD 0 = y := ⟨_, rfl⟩
      rw [hx] at c1
      rw [hy] at c2
      have HX : Hid (us[k]?.getD 0 = x) := hx
      have HY : Hid (us[l]?.getD 0 = y) := hy
      clear hx hy
      go_wp2
      go_region
      have hs2 : Seg .u8 ((wr.setCell ⟨g, off + k, none⟩ (.int .u8 (y : Int))).setCell ⟨g, off + l, none⟩ (.int .u8 (x : Int))).drew g off (swp us (k + 1)) := by
        rw [← swp_step us k l HL.out hlt, HX.out, HY.out]
        exact (hs.set k (by rw [swp_length]; omega) y).set l (by simp [swp_length]; omega) x
      have ho2 : OnlyRow w ((wr.setCell ⟨g, off + k, none⟩ (.int .u8 (y : Int))).setCell ⟨g, off + l, none⟩ (.int .u8 (x : Int))).drew g off us.length := ((hor.set k (by omega) _).set l (by omega) _).drewR
      generalize ((wr.setCell ⟨g, off + k, none⟩ (.int .u8 (y : Int))).setCell ⟨g, off + l, none⟩ (.int .u8 (x : Int))).drew = W at *
      clear c1 c2 f1 f2 hs hor
      go_wp2
      go_roundw
      case rel => exact ⟨k + 1, l - 1, by go_num, by simp; omega, by have := HL.out; omega, by omega, by omega, hs2, ho2⟩
      case measure => simp [intOf]; omega
    · go_wp2
      go_end0
      refine ⟨rfl, ?_, hor⟩
      rw [swp_end us k (by have := HL.out; omega)] at hs
      exact hs
end Go.Proofs.Yteplmnnpmekngaa
namespace Go.Proofs.Yteplmnnpmekngaa
open Go.RowKit

def dval : List Nat → Nat
  | [] => 0
  | d :: ds => (d - 48) + 10 * dval ds
def okd (ts : List Nat) : Prop := ∀ d ∈ ts, 48 ≤ d ∧ d ≤ 57
theorem okd_nil : okd [] := fun _ h => by cases h
theorem okd_cons {x : Nat} {xs : List Nat} : okd (x :: xs) ↔ (48 ≤ x ∧ x ≤ 57) ∧ okd xs := by simp [okd]
theorem okd_append {xs ys : List Nat} : okd (xs ++ ys) ↔ okd xs ∧ okd ys := by
  simp only [okd, List.mem_append]
  exact ⟨fun h => ⟨fun x hx => h x (Or.inl hx), fun x hx => h x (Or.inr hx)⟩, fun h x hx => hx.elim (h.1 x) (h.2 x)⟩
theorem okd_take {xs : List Nat} (h : okd xs) (k : Nat) : okd (xs.take k) := fun x hx => h x (List.mem_of_mem_take hx)
theorem dval_append (xs ys : List Nat) : dval (xs ++ ys) = dval xs + 10 ^ xs.length * dval ys := by
  induction xs with
  | nil => simp [dval]
  | cons x xs ih => simp only [List.cons_append, dval, List.length_cons]; rw [ih, Nat.mul_add, Nat.pow_succ, Nat.mul_comm (10 ^ xs.length) 10, Nat.mul_assoc]; omega
theorem okd_dg9 (j p : Nat) : okd (dg9 j p) := by
  induction j generalizing p with
  | zero => exact okd_nil
  | succ j ih => exact okd_cons.2 ⟨by omega, ih _⟩
theorem dval_dg9 (j p : Nat) : dval (dg9 j p) = p % 10 ^ j := by
  induction j generalizing p with
  | zero => simp [dg9, dval, Nat.mod_one]
  | succ j ih =>
    simp only [dg9, dval]
    rw [ih, Nat.pow_succ, Nat.mul_comm (10 ^ j) 10, Nat.mod_mul]
    omega
theorem okd_dgs (ps : List Nat) : okd (dgs ps) := by
  induction ps with
  | nil => exact okd_nil
  | cons p ps ih => simp only [dgs, List.flatMap_cons]; exact okd_append.2 ⟨okd_dg9 _ _, ih⟩
/-- The value of pieces below 10^9, the lowest first. -/
def pval : List Nat → Nat
  | [] => 0
  | p :: ps => p + 1000000000 * pval ps
theorem pval_snoc (ps : List Nat) (p : Nat) : pval (ps ++ [p]) = pval ps + 1000000000 ^ ps.length * p := by
  induction ps with
  | nil => simp [pval]
  | cons q ps ih => simp only [List.cons_append, pval, List.length_cons]; rw [ih, Nat.mul_add, Nat.pow_succ, Nat.mul_comm (1000000000 ^ ps.length) 1000000000, Nat.mul_assoc]; omega
theorem dval_dgs (ps : List Nat) (h : ∀ p ∈ ps, p < 1000000000) : dval (dgs ps) = pval ps := by
  induction ps with
  | nil => rfl
  | cons p ps ih =>
    have e : dgs (p :: ps) = dg9 9 p ++ dgs ps := by simp [dgs]
    rw [e, dval_append, dval_dg9, dg9_length, ih (fun q hq => h q (List.mem_cons_of_mem _ hq))]
    have := h p (List.mem_cons_self ..)
    rw [Nat.mod_eq_of_lt (by simpa using this)]
    simp [pval]
theorem pow9 (k : Nat) : (1000000000 : Nat) ^ k = 10 ^ (9 * k) := by
  rw [Nat.pow_mul]
/-- The digits of a number, without noughts at the end: one and only one. -/
def IsDec (ts : List Nat) (n : Nat) : Prop := okd ts ∧ dval ts = n ∧ (ts.length = 0 ∨ ts[ts.length - 1]?.getD 0 ≠ 48)
theorem dval_top {ts : List Nat} (h : okd ts) (h0 : ts.length = 0 ∨ ts[ts.length - 1]?.getD 0 ≠ 48) (hn : ts ≠ []) : 0 < dval ts := by
  obtain ⟨k, hk⟩ : ∃ k, ts.length = k + 1 := ⟨ts.length - 1, by have := List.length_pos_iff.2 hn; omega⟩
  have hlt : k < ts.length := by omega
  have e : ts = ts.take k ++ [ts[k]?.getD 0] := by
    have := take_succ_get ts k hlt
    rwa [← hk, List.take_length] at this
  rw [e, dval_append]
  rcases h0 with h0 | h0
  · omega
  · rw [hk] at h0
    simp only [Nat.add_sub_cancel] at h0
    have hr : 48 ≤ ts[k]?.getD 0 := by rw [List.getElem?_eq_getElem hlt]; exact (h _ (List.getElem_mem hlt)).1
    have hp : 0 < 10 ^ (ts.take k).length := Nat.pow_pos (by omega)
    have : 0 < 10 ^ (ts.take k).length * dval [ts[k]?.getD 0] := Nat.mul_pos hp (by simp [dval]; omega)
    omega
theorem IsDec.unique {ts us : List Nat} {n : Nat} (h : IsDec ts n) (k : IsDec us n) : ts = us := by
  induction ts generalizing us n with
  | nil =>
    obtain ⟨_, h2, _⟩ := h
    simp only [dval] at h2
    refine Decidable.byContradiction fun hne => ?_
    have := dval_top k.1 k.2.2 (fun e => hne e.symm)
    rw [k.2.1] at this
    omega
  | cons t ts ih =>
    cases us with
    | nil =>
      have := dval_top h.1 h.2.2 (by simp)
      rw [h.2.1, ← k.2.1] at this
      simp [dval] at this
    | cons u us =>
      have h1 := h.2.1
      have k1 := k.2.1
      simp only [dval] at h1 k1
      have ht := (okd_cons.1 h.1).1
      have hu := (okd_cons.1 k.1).1
      obtain rfl : t = u := by omega
      have last : ∀ {x : Nat} {xs : List Nat}, ((x :: xs).length = 0 ∨ (x :: xs)[(x :: xs).length - 1]?.getD 0 ≠ 48) → (xs.length = 0 ∨ xs[xs.length - 1]?.getD 0 ≠ 48) := by
        intro x xs hx
        cases xs with
        | nil => exact Or.inl rfl
        | cons y ys => right; rcases hx with hx | hx; · simp at hx
                       · simpa using hx
      rw [ih ⟨(okd_cons.1 h.1).2, rfl, last h.2.2⟩ ⟨(okd_cons.1 k.1).2, by omega, last k.2.2⟩]
/-- A number below 0 or not, as bytes in the order in which they are written. -/
def decBytes (neg : Bool) (ts : List Nat) : List Nat := (if neg then [45] else []) ++ ts.reverse
/-- A text of these bytes. -/
def textOf (bs : List Nat) : Value := .string (strOfNums (bs.map fun x : Nat => (x : Int)))
end Go.Proofs.Yteplmnnpmekngaa
