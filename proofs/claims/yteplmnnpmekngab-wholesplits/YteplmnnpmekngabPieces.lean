/-
  What appendPieces does: nine digits a piece, the lowest first.
-/
import Derived.Test.YteplmnnpmekngabDivBy
namespace Go.Proofs.Yteplmnnpmekngab
open Go.RowKit

theorem Try.infoByte : (Try.prog.info? 5).map (fun i => (i.zero, i.size, i.bytes)) = some (some (.int .u8 0), 1, 1) := by kernel_rfl
/-- From w to w' there may be new blocks; of the old ones only rows of bytes from number B on may have turned. -/
structure TextTurn (B : Nat) (w w' : World) : Prop where
  os : w'.os = w.os
  tape : w'.tape = w.tape
  output : w'.output = w.output
  size : w.heap.size ≤ w'.heap.size
  block : ∀ k, k < w.heap.size → (k < B ∨ ∀ c f, w.heap[k]? ≠ some (.cells c 5 f)) → w'.heap[k]? = w.heap[k]?
theorem TextTurn.refl (B : Nat) (w : World) : TextTurn B w w := ⟨rfl, rfl, rfl, Nat.le_refl _, fun _ _ _ => rfl⟩
theorem TextTurn.trans {B : Nat} {a b c : World} (h : TextTurn B a b) (k : TextTurn B b c) : TextTurn B a c :=
  ⟨k.os.trans h.os, k.tape.trans h.tape, k.output.trans h.output, Nat.le_trans h.size k.size, fun i hi hc => by
    have e := h.block i hi hc
    refine (k.block i (Nat.lt_of_lt_of_le hi h.size) (hc.imp id fun hn c f => ?_)).trans e
    rw [e]; exact hn c f⟩
theorem TextTurn.of_below {B : Nat} {w w' : World} (h : Below w.heap.size w w') : TextTurn B w w' := ⟨h.os, h.tape, h.output, h.size, fun k hk _ => h.block k hk⟩
theorem TextTurn.grown {B n : Nat} {w w' : World} {v : Value} {xs : List Value} (hg : w.grownBy w' v.ownBlock) (ho : w.ownsRow B 5 1 v n xs) : TextTurn B w w' := by
  refine ⟨hg.os, hg.tape, hg.output, hg.size, fun k hk hc => hg.block k hk fun e => ?_⟩
  rcases ho.2 with ⟨rfl, _⟩ | ⟨g, cap, cur, rfl, hB, hh, _⟩
  · simp [Value.ownBlock] at e
  · simp [Value.ownBlock] at e
    subst e
    rcases hc with hc | hc
    · omega
    · exact hc _ _ hh
theorem TextTurn.below {B : Nat} {w w' : World} (h : TextTurn B w w') (hB : B ≤ w.heap.size) : Below B w w' := ⟨h.os, h.tape, h.output, h.size, fun k hk => h.block k (by omega) (Or.inl hk)⟩

/-- The bytes of text, as the kit owns them. -/
def Bytes (B : Nat) (w : World) (v : Value) (ts : List Nat) : Prop := w.ownsRow B 5 1 v ts.length (ts.map fun x : Nat => Value.int .u8 (x : Int))
/-- The first j of a piece's nine digits, the lowest first, as bytes. -/
def dg9 : Nat → Nat → List Nat
  | 0, _ => []
  | j + 1, p => (48 + p % 10) :: dg9 j (p / 10)
theorem dg9_length (j p : Nat) : (dg9 j p).length = j := by
  induction j generalizing p with
  | zero => rfl
  | succ j ih => simp [dg9, ih]
theorem dg9_snoc (j p : Nat) : dg9 (j + 1) p = dg9 j p ++ [48 + p / 10 ^ j % 10] := by
  induction j generalizing p with
  | zero => simp [dg9]
  | succ j ih =>
    rw [dg9, ih (p / 10), dg9, List.cons_append, Nat.pow_succ, Nat.mul_comm, Nat.div_div_eq_div_mul]
def dgs (row : List Nat) : List Nat := row.flatMap (dg9 9)
theorem dgs_snoc (row : List Nat) (p : Nat) : dgs (row ++ [p]) = dgs row ++ dg9 9 p := by simp [dgs]
theorem dgs_length (row : List Nat) : (dgs row).length = 9 * row.length := by
  induction row with
  | nil => rfl
  | cons p row ih => simp only [dgs, List.flatMap_cons, List.length_append, dg9_length, List.length_cons] at ih ⊢; omega

/-- What is appended lies in a new block of its own first. -/
theorem new_one (w : World) (x : Value) (t : TypeId) : ∀ j u, [x][j]? = some u → (w.alloc (.cells #[x] t)).cell? (Addr.add ⟨w.heap.size, 0, none⟩ j) = some u := by
  intro j u hj
  match j, hj with
  | 0, hj => rw [WideShapes.add_plain, World.cell?_alloc_at _ _ _ _ rfl]; simpa using hj
  | j + 1, hj => simp at hj

set_option maxRecDepth 100000 in
set_option maxHeartbeats 2000000 in
theorem appendPieces_any (B r off cap : Nat) (tv : Value) (ts ps : List Nat) (w : World) (ht : Bytes B w tv ts) (hB : B ≤ w.heap.size) (hr : r < w.heap.size) (hrt : ∀ c f, w.heap[r]? ≠ some (.cells c 5 f)) (sp : Seg .u32 w r off ps) (op : okw ps) (bt : ts.length ≤ 1000000) (bp : ps.length ≤ 1000) :
    Calls Try.prog 32 #[tv, .slice (some ⟨r, off, none⟩) ps.length cap] w fun e w' => ∃ tv', e = .returned tv' ∧ Bytes B w' tv' (ts ++ dgs ps) ∧ TextTurn B w w' := by
  obtain ⟨i0, hi, hz0, hz1, hz2⟩ := info_parts Try.infoByte
  go_enter Try.func32, Try.ntmps32
  go_wp2
  go_loopw [0, 9] (fun t i wr => ∃ k : Nat, k ≤ ps.length ∧ i = .int .i64 (k : Int) ∧ Bytes B wr t (ts ++ dgs (ps.take k)) ∧ TextTurn B w wr)
    (fun _ i _ => ps.length - (intOf i).toNat)
  case atStart => exact ⟨0, Nat.zero_le _, rfl, by simpa [dgs] using ht, TextTurn.refl _ _⟩
  case round =>
    obtain ⟨k, hk, rfl, hown, htt⟩ := hrel
    by_cases hlt : k < ps.length
    · have hp : wr.cell? ⟨r, off + k, none⟩ = some (.int .u32 ((ps[k]?.getD 0 : Nat) : Int)) := by
        rw [World.cell?_of_block (a := ⟨r, off + k, none⟩) (htt.block r hr (Or.inr hrt))]
        exact sp k hlt
      have hpb := okw_get op k
      obtain ⟨p, hp'⟩ : ∃ p, ps[k]?.getD 0 = p := ⟨_, rfl⟩
      rw [hp'] at hp hpb
      have HP : Hid (ps[k]?.getD 0 = p) := hp'
      clear hp'
      go_wp2
      go_loopw [0, 6, 13] (fun t q j wr' => ∃ m : Nat, m ≤ 9 ∧ j = .int .i64 (m : Int) ∧ q = .int .u32 ((p / 10 ^ m : Nat) : Int) ∧ Bytes B wr' t ((ts ++ dgs (ps.take k)) ++ dg9 m p) ∧ TextTurn B w wr')
        (fun _ _ j _ => 9 - (intOf j).toNat)
      case atStart => exact ⟨0, Nat.zero_le _, rfl, by simp, by simpa [dg9] using hown, htt⟩
      case round =>
        clear hown htt hp
        obtain ⟨m, hm, rfl, rfl, hown, htt⟩ := hrel
        have hl9 := dg9_length m p
        have hld := dgs_length (ps.take k)
        have hlk : (ps.take k).length = k := by rw [List.length_take]; omega
        obtain ⟨q, hq⟩ : ∃ q, p / 10 ^ m = q := ⟨_, rfl⟩
        have hqb : q < 4294967296 := by rw [← hq]; exact Nat.lt_of_le_of_lt (Nat.div_le_self _ _) hpb
        rw [hq]
        have HQ : Hid (p / 10 ^ m = q) := hq
        obtain ⟨us, hus⟩ : ∃ us, (ts ++ dgs (ps.take k)) ++ dg9 m p = us := ⟨_, rfl⟩
        have hul : us.length ≤ 1100000 := by rw [← hus]; simp [hl9, hld]; omega
        have HU : Hid ((ts ++ dgs (ps.take k)) ++ dg9 m p = us) := hus
        rw [hus] at hown
        clear hq hus hl9 hld hlk
        have hws := htt.size
        by_cases hm9 : m < 9
        · have hown1 : wr.ownsRow B 5 1 _ us.length (us.map fun x : Nat => Value.int .u8 (x : Int)) := hown
          go_wp2_with (at_builtin; refine wpList_append_own _ rfl _ _ 61 rfl B 5 i0 (.int .u8 0) 1 1 Try.underlying61 hi hz0 hz1 hz2 rfl (by decide) _ _ _ rfl (World.ownsRow.alloc hown1 _) ⟨wr.heap.size, 0, none⟩ 1 1 [.int .u8 (48 + (q : Int) % 10)] rfl rfl (new_one _ _ _) (by simp [Value.oneCell']) (by unfold maxLen; omega) (by omega) (by simp; omega) ?_; intro v' w1 hown2 hgrow _)
          have hgrow' : (wr.alloc (.cells #[.int .u8 (48 + (q : Int) % 10)] 5)).grownBy w1 u0.ownBlock := hgrow
          have T1 : TextTurn B w w1 := htt.trans ((TextTurn.of_below ((Below.refl _ _).alloc (Nat.le_refl _) _)).trans (TextTurn.grown hgrow' (World.ownsRow.alloc hown1 _)))
          have B1 : Bytes B w1 v' ((ts ++ dgs (ps.take k)) ++ dg9 (m + 1) p) := by
            rw [dg9_snoc, ← List.append_assoc, HU.out, HQ.out]
            unfold Bytes
            simpa using hown2
          go_roundw
          case rel => exact ⟨m + 1, by omega, by go_num, by rw [Nat.pow_succ, ← Nat.div_div_eq_div_mul, HQ.out]; simp, B1, T1⟩
          case measure => simp [intOf]; omega
        · obtain rfl : m = 9 := by omega
          have B1 : Bytes B wr u0 (ts ++ dgs (ps.take (k + 1))) := by
            rw [take_succ_get ps k hlt, dgs_snoc, HP.out, ← List.append_assoc, HU.out]
            exact hown
          go_wp2
          go_roundw
          case rel => exact ⟨k + 1, by omega, by go_num, B1, htt⟩
          case measure => simp [intOf]; omega
    · obtain rfl : k = ps.length := by omega
      have B1 : Bytes B wr u0 (ts ++ dgs ps) := by rw [List.take_length] at hown; exact hown
      clear hown
      go_wp2
      go_ret
      exact ⟨_, rfl, B1, htt⟩
end Go.Proofs.Yteplmnnpmekngab
