/-
  What addInto and addWords do.
-/
import Derived.Laws.CopyOwn
import Derived.Test.YteplmnnpmekngabMade
namespace Go.Proofs.Yteplmnnpmekngab
open Go.RowKit

/-- From w to w' only the n cells at ⟨g, off⟩ may have turned. -/
structure OnlyRow (w w' : World) (g off n : Nat) : Prop where
  os : w'.os = w.os
  tape : w'.tape = w.tape
  output : w'.output = w.output
  size : w'.heap.size = w.heap.size
  block : ∀ k, k ≠ g → w'.heap[k]? = w.heap[k]?
  cell : ∀ o, (o < off ∨ off + n ≤ o) → w'.cell? ⟨g, o, none⟩ = w.cell? ⟨g, o, none⟩
  frozen : ∀ p, w'.frozen? p = w.frozen? p
theorem OnlyRow.refl (w : World) (g off n : Nat) : OnlyRow w w g off n := ⟨rfl, rfl, rfl, rfl, fun _ _ => rfl, fun _ _ => rfl, fun _ => rfl⟩
theorem OnlyRow.set {w w' : World} {g off n : Nat} (h : OnlyRow w w' g off n) (i : Nat) (hi : i < n) (v : Value) : OnlyRow w (w'.setCell ⟨g, off + i, none⟩ v) g off n := by
  refine ⟨h.os, h.tape, h.output, by rw [← h.size]; simp [World.setCell], fun k hk => ?_, fun o ho => ?_, fun p => ?_⟩
  · rw [Below.heap_setCell _ _ _ _ hk]; exact h.block k hk
  · rw [World.cell?_setCell_other _ _ _ _ (by intro e; injection e with _ e; omega)]; exact h.cell o ho
  · rw [World.frozen?_setCell]; exact h.frozen p
theorem OnlyRow.below {w w' : World} {g off n B : Nat} (h : OnlyRow w w' g off n) (hB : B ≤ g) : Below B w w' :=
  ⟨h.os, h.tape, h.output, by rw [h.size]; exact Nat.le_refl _, fun k hk => h.block k (by omega)⟩
theorem OnlyRow.seg {k : IntKind} {w w' : World} {g off n b o : Nat} {xs : List Nat} (h : OnlyRow w w' g off n) (hs : Seg k w b o xs) (hb : b ≠ g) : Seg k w' b o xs :=
  fun j hj => (World.cell?_of_block (a := ⟨b, o + j, none⟩) (h.block b hb)).trans (hs j hj)

theorem val_take_succ' (xs : List Nat) (k : Nat) : val (xs.take (k + 1)) = val (xs.take k) + pw k * (xs[k]?.getD 0) := by
  rcases Nat.lt_or_ge k xs.length with h | h
  · exact val_take_succ xs k h
  · rw [List.take_of_length_le (by omega), List.take_of_length_le h, List.getElem?_eq_none h]; simp
theorem val_split (xs : List Nat) (k : Nat) (h : k ≤ xs.length) : val xs = val (xs.take k) + pw k * val (xs.drop k) := by
  have := val_append (xs.take k) (xs.drop k)
  rw [List.take_append_drop, List.length_take, Nat.min_eq_left h] at this
  exact this
theorem okw_drop {xs : List Nat} (h : okw xs) (k : Nat) : okw (xs.drop k) := fun x hx => h x (List.mem_of_mem_drop hx)
theorem set_mid (ds xs : List Nat) (k d : Nat) (hd : ds.length = k) (hk : k < xs.length) : (ds ++ xs.drop k).set k d = (ds ++ [d]) ++ xs.drop (k + 1) := by
  subst hd
  rw [List.set_append_right _ _ (Nat.le_refl _), Nat.sub_self, List.append_assoc, List.drop_eq_getElem_cons hk]
  rfl
/-- One word of a row that is gone through is written. -/
theorem seg_mid {k : IntKind} {w : World} {g off i : Nat} {ds xs : List Nat} (h : Seg k w g off (ds ++ xs.drop i)) (hd : ds.length = i) (hi : i < xs.length) (d : Nat) : Seg k (w.setCell ⟨g, off + i, none⟩ (.int k (d : Int))) g off ((ds ++ [d]) ++ xs.drop (i + 1)) := by
  rw [← set_mid ds xs i d hd hi]
  exact h.set i (by simp; omega) d
theorem add_val {xs ys ds : List Nat} {k cv d c x y : Nat} (h : val ds + pw k * cv = val (xs.take k) + val (ys.take k)) (hd : ds.length = k) (ex : xs[k]?.getD 0 = x) (ey : ys[k]?.getD 0 = y) (hs : x + y + cv = d + 4294967296 * c) :
    val (ds ++ [d]) + pw (k + 1) * c = val (xs.take (k + 1)) + val (ys.take (k + 1)) := by
  rw [val_append, hd, val_take_succ', val_take_succ', ex, ey]
  simp only [val, pw]
  have e : pw k * (x + y + cv) = pw k * (d + 4294967296 * c) := by rw [hs]
  rw [Nat.mul_add, Nat.mul_add, Nat.mul_add] at e
  have e2 : 4294967296 * pw k * c = pw k * (4294967296 * c) := by rw [Nat.mul_comm 4294967296 (pw k), Nat.mul_assoc]
  rw [e2]
  simp only [Nat.mul_zero, Nat.add_zero]
  omega

set_option maxRecDepth 100000 in
set_option maxHeartbeats 1000000 in
theorem addInto_some (g off cx b2 off2 cy : Nat) (ay : Option Addr) (xs ys : List Nat) (w : World) (sx : Seg .u32 w g off xs) (fx : Free w g off xs.length) (hy : ys ≠ [] → ay = some ⟨b2, off2, none⟩ ∧ b2 ≠ g) (sy : Seg .u32 w b2 off2 ys) (hlen : ys.length ≤ xs.length)
    (bx : xs.length ≤ 1000000) (ox : okw xs) (oy : okw ys) :
    Calls Try.prog 37 #[.slice (some ⟨g, off, none⟩) xs.length cx, .slice ay ys.length cy] w fun e w' => ∃ (c : Nat) (zs : List Nat), e = .returned (.int .u32 (c : Int)) ∧ c ≤ 1 ∧ zs.length = xs.length ∧ okw zs ∧ val zs + pw xs.length * c = val xs + val ys ∧ Seg .u32 w' g off zs ∧ OnlyRow w w' g off xs.length := by
  go_enter Try.func37, Try.ntmps37
  go_wp2
  go_loopw [5, 12] (fun c i wr => ∃ (k cv : Nat) (ds : List Nat), k ≤ xs.length ∧ cv ≤ 1 ∧ c = .int .u32 (cv : Int) ∧ i = .int .i64 (k : Int) ∧ ds.length = k ∧ okw ds ∧ val ds + pw k * cv = val (xs.take k) + val (ys.take k) ∧ Seg .u32 wr g off (ds ++ xs.drop k) ∧ OnlyRow w wr g off xs.length)
    (fun _ i _ => xs.length - (intOf i).toNat)
  case atStart => exact ⟨0, 0, [], Nat.zero_le _, by omega, rfl, rfl, rfl, okw_nil, by simp [val], by simpa using sx, OnlyRow.refl _ _ _ _⟩
  case round =>
    obtain ⟨k, cv, ds, hk, hcv, rfl, rfl, hdl, hdo, hval, hseg, hor⟩ := hrel
    have HV : Hid (val ds + pw k * cv = val (xs.take k) + val (ys.take k)) := hval
    have HL : Hid (ds.length = k) := hdl
    clear hval hdl
    by_cases hlt : k < xs.length
    · obtain ⟨x, hx⟩ : ∃ x, xs[k]?.getD 0 = x := ⟨_, rfl⟩
      obtain ⟨y, hy'⟩ : ∃ y, ys[k]?.getD 0 = y := ⟨_, rfl⟩
      have hcell : wr.cell? ⟨g, off + k, none⟩ = some (.int .u32 (x : Int)) := by
        have := hseg k (by rw [List.length_append, HL.out, List.length_drop]; omega)
        rw [this, List.getElem?_append_right (by rw [HL.out]; omega), HL.out, ← hx]
        simp
      have hfr : wr.frozen? ⟨g, off + k, none⟩ = false := (hor.frozen _).trans (fx k hlt)
      have h1 := okw_get ox k
      have h2 := okw_get oy k
      rw [hx] at h1
      rw [hy'] at h2
      have EX : Hid (xs[k]?.getD 0 = x) := hx
      have EY : Hid (ys[k]?.getD 0 = y) := hy'
      clear hx hy'
      -- what the end of each way owes
      have fin : ∀ (c : Nat) (v : Int), c ≤ 1 → v = (((x + y + cv) % 4294967296 : Nat) : Int) → x + y + cv = (x + y + cv) % 4294967296 + 4294967296 * c →
          ∃ ds' : List Nat, ds'.length = k + 1 ∧ okw ds' ∧ val ds' + pw (k + 1) * c = val (xs.take (k + 1)) + val (ys.take (k + 1)) ∧ Seg .u32 (wr.setCell ⟨g, off + k, none⟩ (.int .u32 v)) g off (ds' ++ xs.drop (k + 1)) ∧ OnlyRow w (wr.setCell ⟨g, off + k, none⟩ (.int .u32 v)) g off xs.length := by
        intro c v hc hv hs
        subst hv
        refine ⟨ds ++ [(x + y + cv) % 4294967296], by simp [HL.out], okw_append.2 ⟨hdo, okw_cons.2 ⟨by omega, okw_nil⟩⟩, add_val HV.out HL.out EX.out EY.out hs, seg_mid hseg HL.out hlt _, hor.set k hlt _⟩
      by_cases hky : k < ys.length
      · have hyn : ys ≠ [] := by intro h; subst h; simp at hky
        obtain ⟨e1, e2⟩ := hy hyn
        subst e1
        have hcy : wr.cell? ⟨b2, off2 + k, none⟩ = some (.int .u32 (y : Int)) := by rw [← EY.out]; exact hor.seg sy e2 k hky
        have FIN : Hid (∀ (c : Nat) (v : Int), c ≤ 1 → v = (((x + y + cv) % 4294967296 : Nat) : Int) → x + y + cv = (x + y + cv) % 4294967296 + 4294967296 * c →
          ∃ ds' : List Nat, ds'.length = k + 1 ∧ okw ds' ∧ val ds' + pw (k + 1) * c = val (xs.take (k + 1)) + val (ys.take (k + 1)) ∧ Seg .u32 (wr.setCell ⟨g, off + k, none⟩ (.int .u32 v)) g off (ds' ++ xs.drop (k + 1)) ∧ OnlyRow w (wr.setCell ⟨g, off + k, none⟩ (.int .u32 v)) g off xs.length) := fin
        clear fin
        by_cases hc : 4294967296 ≤ x + y + cv
        · obtain ⟨ds', a1, a2, a3, a4, a5⟩ := FIN.out 1 (((x : Int) + y + cv) % 4294967296) (by omega) (by omega) (by omega)
          have A1 : Hid (ds'.length = k + 1) := a1
          have A3 : Hid (val ds' + pw (k + 1) * 1 = val (xs.take (k + 1)) + val (ys.take (k + 1))) := a3
          clear a1 a3 FIN
          go_wp2
          all_goals
            first
              | (exfalso; omega)
              | skip
          all_goals
            go_roundw
            case rel => exact ⟨k + 1, 1, ds', by omega, by omega, rfl, by go_num, A1.out, a2, A3.out, a4, a5⟩
            case measure => simp [intOf]; omega
        · obtain ⟨ds', a1, a2, a3, a4, a5⟩ := FIN.out 0 ((x : Int) + y + cv) (by omega) (by omega) (by omega)
          have A1 : Hid (ds'.length = k + 1) := a1
          have A3 : Hid (val ds' + pw (k + 1) * 0 = val (xs.take (k + 1)) + val (ys.take (k + 1))) := a3
          clear a1 a3 FIN
          go_wp2
          all_goals
            first
              | (exfalso; omega)
              | skip
          all_goals
            go_roundw
            case rel => exact ⟨k + 1, 0, ds', by omega, by omega, rfl, by go_num, A1.out, a2, A3.out, a4, a5⟩
            case measure => simp [intOf]; omega
      · have hy0 : y = 0 := by rw [← EY.out, List.getElem?_eq_none (by omega)]; rfl
        subst hy0
        by_cases hc0 : cv = 0
        · subst hc0
          have hz : (((0 : Nat) : Int) == 0) = true := rfl
          clear fin hcell hfr EX EY
          go_wp2
          go_ret
          refine ⟨0, ds ++ xs.drop k, rfl, by omega, by rw [List.length_append, HL.out, List.length_drop]; omega, okw_append.2 ⟨hdo, okw_drop ox k⟩, ?_, hseg, hor⟩
          have h3 := HV.out
          rw [List.take_of_length_le (show ys.length ≤ k by omega)] at h3
          rw [val_append, HL.out, val_split xs k (by omega)]
          omega
        · obtain rfl : cv = 1 := by omega
          have hz : (((1 : Nat) : Int) == 0) = false := rfl
          have FIN : Hid (∀ (c : Nat) (v : Int), c ≤ 1 → v = (((x + 0 + 1) % 4294967296 : Nat) : Int) → x + 0 + 1 = (x + 0 + 1) % 4294967296 + 4294967296 * c →
            ∃ ds' : List Nat, ds'.length = k + 1 ∧ okw ds' ∧ val ds' + pw (k + 1) * c = val (xs.take (k + 1)) + val (ys.take (k + 1)) ∧ Seg .u32 (wr.setCell ⟨g, off + k, none⟩ (.int .u32 v)) g off (ds' ++ xs.drop (k + 1)) ∧ OnlyRow w (wr.setCell ⟨g, off + k, none⟩ (.int .u32 v)) g off xs.length) := fin
          clear fin hc0
          by_cases hc : 4294967296 ≤ x + 1
          · obtain ⟨ds', a1, a2, a3, a4, a5⟩ := FIN.out 1 (((x : Int) + 1) % 4294967296) (by omega) (by omega) (by omega)
            have A1 : Hid (ds'.length = k + 1) := a1
            have A3 : Hid (val ds' + pw (k + 1) * 1 = val (xs.take (k + 1)) + val (ys.take (k + 1))) := a3
            clear a1 a3 FIN
            go_wp2
            all_goals
              first
                | (exfalso; omega)
                | skip
            all_goals
              go_roundw
              case rel => exact ⟨k + 1, 1, ds', by omega, by omega, rfl, by go_num, A1.out, a2, A3.out, a4, a5⟩
              case measure => simp [intOf]; omega
          · obtain ⟨ds', a1, a2, a3, a4, a5⟩ := FIN.out 0 ((x : Int) + 1) (by omega) (by omega) (by omega)
            have A1 : Hid (ds'.length = k + 1) := a1
            have A3 : Hid (val ds' + pw (k + 1) * 0 = val (xs.take (k + 1)) + val (ys.take (k + 1))) := a3
            clear a1 a3 FIN
            go_wp2
            all_goals
              first
                | (exfalso; omega)
                | skip
            all_goals
              go_roundw
              case rel => exact ⟨k + 1, 0, ds', by omega, by omega, rfl, by go_num, A1.out, a2, A3.out, a4, a5⟩
              case measure => simp [intOf]; omega
    · obtain rfl : k = xs.length := by omega
      go_wp2
      go_ret
      refine ⟨cv, ds, rfl, hcv, HL.out, hdo, ?_, by simpa using hseg, hor⟩
      have h3 := HV.out
      rw [List.take_length, List.take_of_length_le hlen] at h3
      exact h3

/-- Block g is a row of these numbers, the call's own. -/
def Row (k : IntKind) (t : TypeId) (w : World) (g : Nat) (xs : List Nat) : Prop := w.heap[g]? = some (.cells (xs.map fun x : Nat => Value.int k (x : Int)).toArray t (0, 0))
theorem Row.seg {k : IntKind} {t : TypeId} {w : World} {g : Nat} {xs : List Nat} (h : Row k t w g xs) : Seg k w g 0 xs := by
  intro j hj
  unfold World.cell?
  rw [show w.heap[g]? = _ from h]
  simp [hj]
theorem Row.free {k : IntKind} {t : TypeId} {w : World} {g : Nat} {xs : List Nat} (h : Row k t w g xs) (off n : Nat) : Free w g off n := by
  intro j _
  unfold World.frozen?
  rw [show w.heap[g]? = _ from h]
  simp
theorem Row.lt {k : IntKind} {t : TypeId} {w : World} {g : Nat} {xs : List Nat} (h : Row k t w g xs) : g < w.heap.size := (Array.getElem?_eq_some_iff.1 h).1
/-- What 'make' has laid. -/
theorem row_made {w : World} {B t n g : Nat} {k : IntKind} (h : w.ownsRow B t 1 (.slice (some ⟨g, 0, none⟩) n n) n (madeCells (Value.int k 0).cells (n * 1)).toList) : Row k t w g (List.replicate n 0) := by
  rcases h.2 with ⟨e, _⟩ | ⟨g', cap, cur, e, _, hh, _, _, hs, ht⟩
  · cases e
  · injection e with e1 e2 e3
    injection e1 with e1
    injection e1 with e1
    subst e1; subst e3
    unfold Row
    rw [hh]
    simp only [Nat.mul_one] at hs ht
    rw [List.take_of_length_le (by simp [hs])] at ht
    have e : cur = (List.replicate n (Value.int k 0)).toArray := by
      rw [← Array.toArray_toList (xs := cur), ht]
      rw [show (Value.int k 0).cells = #[Value.int k 0] from rfl, toList_madeCells_one]
    rw [e]
    simp
theorem map_splice (L : List Nat) (off : Nat) (cs : List Nat) (f : Nat → Value) : splice (L.map f) off (cs.map f) = (splice L off cs).map f := by simp [splice]
/-- A number in words: its row is the call's own, trimmed. -/
def NumIs (B : Nat) (w : World) (v : Value) (n : Nat) : Prop := ∃ xs, Ow .u32 B w v xs ∧ okw xs ∧ Tr xs ∧ val xs = n
theorem NumIs.below {B : Nat} {w w' : World} {v : Value} {n : Nat} (h : NumIs B w v n) (hb : Below w.heap.size w w') : NumIs B w' v n := by
  obtain ⟨xs, h1, h2⟩ := h
  exact ⟨xs, h1.below hb, h2⟩
theorem NumIs.mono {B B' : Nat} {w : World} {v : Value} {n : Nat} (h : NumIs B w v n) (hB : B' ≤ B) : NumIs B' w v n := by
  obtain ⟨xs, h1, h2⟩ := h
  exact ⟨xs, h1.mono hB, h2⟩

theorem Try.sizeWord : (Try.prog.info? 52).map (·.size) = some 1 := by kernel_rfl
/-- The cells of the words of a slice. -/
def From (w : World) (a : Option Addr) (X : List Value) : Prop := 0 < X.length → ∃ ad, a = some ad ∧ ∀ j u, X[j]? = some u → w.cell? (ad.add j) = some u
theorem From.below {w w' : World} {a : Option Addr} {X : List Value} (h : From w a X) (hb : Below w.heap.size w w') : From w' a X := fun h0 => by
  obtain ⟨ad, e, h⟩ := h h0
  refine ⟨ad, e, fun j u hu => ?_⟩
  have := h j u hu
  rw [hb.cell (World.block_lt_of_cell? _ _ this)]
  exact this
theorem from_of_sl {k : IntKind} {w : World} {a : Option Addr} {n cap : Nat} {xs : List Nat} (h : Sl k w (.slice a n cap) xs) : From w a (xs.map fun x : Nat => Value.int k (x : Int)) := fun h0 => by
  rcases h.cases with ⟨rfl, _⟩ | ⟨_, b, off, cap', e, _, hs, _⟩
  · simp at h0
  · injection e with e1
    exact ⟨_, e1, seg_cells hs⟩
theorem splice_front (xs : List Nat) : splice (List.replicate (xs.length + 1) 0) 0 xs = xs ++ [0] := by
  simp [splice, List.replicate_succ']
/-- The row behind 'make' and 'copy'. -/
theorem row_front {w : World} {g : Nat} {xs : List Nat} (h : w.heap[g]? = some (.cells (splice ((List.replicate (xs.length + 1) 0).map fun x : Nat => Value.int .u32 (x : Int)) 0 (xs.map fun x : Nat => Value.int .u32 (x : Int))).toArray 52 (0, 0))) : Row .u32 52 w g (xs ++ [0]) := by
  rw [map_splice, splice_front] at h
  exact h

theorem seg_snoc {k : IntKind} {w : World} {g : Nat} {zs : List Nat} {u : Value} (h : Seg k w g 0 zs) (hc : w.cell? ⟨g, zs.length, none⟩ = some u) (c : Nat) : Seg k (w.setCell ⟨g, zs.length, none⟩ (.int k (c : Int))) g 0 (zs ++ [c]) := by
  intro j hj
  rw [List.length_append] at hj
  by_cases hjz : j = zs.length
  · subst hjz
    rw [Nat.zero_add, World.cell?_setCell_same' _ _ _ (by rw [hc]; rfl)]
    simp
  · have hj' : j < zs.length := by simp at hj; omega
    rw [World.cell?_setCell_other _ _ _ _ (by intro e; injection e with _ e; omega), h j hj', List.getElem?_append_left hj']

set_option maxRecDepth 100000 in
set_option maxHeartbeats 1000000 in
theorem addWords_ge (ax ay : Option Addr) (cx cy b2 off2 : Nat) (xs ys : List Nat) (w : World) (hx : From w ax (xs.map fun x : Nat => Value.int .u32 (x : Int))) (hy : ys ≠ [] → ay = some ⟨b2, off2, none⟩ ∧ b2 < w.heap.size) (sy : Seg .u32 w b2 off2 ys)
    (hlen : ys.length ≤ xs.length) (bx : xs.length ≤ 100000) (ox : okw xs) (oy : okw ys) :
    Calls Try.prog 24 #[.slice ax xs.length cx, .slice ay ys.length cy] w fun e w' => ∃ a m cap, e = .returned (.slice a m cap) ∧ m ≤ xs.length + 1 ∧ NumIs w.heap.size w' (.slice a m cap) (val xs + val ys) ∧ Below w.heap.size w w' := by
  obtain ⟨i0, hi, hz0, hz1, hz2⟩ := info_parts Try.infoWord
  obtain ⟨X, hX⟩ : ∃ X, X = (xs.map fun x : Nat => Value.int .u32 (x : Int)) := ⟨_, rfl⟩
  have HX : Hid (X = (xs.map fun x : Nat => Value.int .u32 (x : Int))) := hX
  have HXL : Hid (X.length = xs.length) := by show X.length = xs.length; rw [hX]; simp
  have HX1 : Hid (∀ v ∈ X, v.oneCell' = true) := by show ∀ v ∈ X, v.oneCell' = true; rw [hX]; exact words_one _ _
  obtain ⟨C, hC⟩ : ∃ C, C = ((List.replicate (xs.length + 1) 0).map fun x : Nat => Value.int .u32 (x : Int)) := ⟨_, rfl⟩
  have HC : Hid (C = ((List.replicate (xs.length + 1) 0).map fun x : Nat => Value.int .u32 (x : Int))) := hC
  have HCL : Hid (C.length = xs.length + 1) := by show C.length = _; rw [hC]; simp
  rw [← hX] at hx
  clear hX hC
  go_enter Try.func24, Try.ntmps24
  go_wp2_with (first
    | (at_make; refine wpList_make_full _ rfl _ _ 22 rfl w.heap.size 52 i0 (.int .u32 0) 1 Try.underlying22 hi hz0 hz1 .i64 .i64 _ _ (xs.length + 1) rfl rfl (by omega) (by omega) (by rw [hz2]; omega) (by unfold maxLen; omega) (Nat.le_refl _) ?_; intro w1 hown1 hgrow1; have hb1 : Below w.heap.size w w1 := (Below.refl _ w).grown hgrow1 (Nat.le_refl _) (fun k e => by cases e); have hr1 : Hid (w1.heap[w.heap.size]? = some (.cells C.toArray 52 (0, 0))) := (by rw [HC.out]; exact row_made hown1); clear hown1 hgrow1)
    | (refine wpList_copy_splice rfl _ _ 22 22 rfl 52 Try.underlying22 Try.sizeWord _ _ _ _ _ _ rfl rfl w.heap.size 0 C 52 hr1.out X (by rw [HXL.out]; exact (Nat.min_eq_left (Nat.le_succ _)).symm) (fun h0 => ⟨rfl, hx.below hb1 h0⟩) (by rw [HXL.out, HCL.out]; omega) HX1.out w.heap.size w hb1 (Nat.le_refl _) ?_; intro w2 hg2 hb2; have hr2 : Row .u32 52 w2 w.heap.size (xs ++ [0]) := row_front (by rw [← HX.out, ← HC.out]; exact hg2.out); have hfr2 := fun j => hr2.free 0 (j + 1) j (Nat.lt_succ_self j)))
  have sx2 : Seg .u32 w2 w.heap.size 0 xs := by have := hr2.seg.take xs.length; rwa [List.take_left] at this
  refine (addInto_some w.heap.size 0 (xs.length + 1) b2 off2 cy ay xs ys w2 sx2 (hr2.free _ _) (fun h => ⟨(hy h).1, by have := (hy h).2; omega⟩) ?_ hlen (by omega) ox oy).mono ?_
  · by_cases h0 : ys = []
    · subst h0; intro j hj; simp at hj
    · exact sy.below hb2 (hy h0).2
  rintro e w3 ⟨c, zs, rfl, hc1, hzl, hzo, hzv, hzs, hor⟩
  have hcell : w3.cell? ⟨w.heap.size, xs.length, none⟩ = some (.int .u32 0) := by
    rw [hor.cell xs.length (Or.inr (by omega))]
    have := hr2.seg xs.length (by simp)
    simpa using this
  have hfr : w3.frozen? ⟨w.heap.size, xs.length, none⟩ = false := by
    rw [hor.frozen]
    have := hr2.free 0 (xs.length + 1) xs.length (by omega)
    simpa using this
  have HL : Hid (zs.length = xs.length) := hzl
  have HV : Hid (val zs + pw xs.length * c = val xs + val ys) := hzv
  clear hzl hzv hr1 hr2 hg2
  go_wp2_with fail
  have hs4 : Seg .u32 (w3.setCell ⟨w.heap.size, xs.length, none⟩ (.int .u32 (c : Int))) w.heap.size 0 (zs ++ [c]) := by
    rw [← HL.out]
    exact seg_snoc hzs (by rw [HL.out]; exact hcell) c
  have hf4 : Free (w3.setCell ⟨w.heap.size, xs.length, none⟩ (.int .u32 (c : Int))) w.heap.size 0 (zs ++ [c]).length := by
    intro j hj
    rw [World.frozen?_setCell, hor.frozen]
    exact hfr2 j
  have hl4 : (zs ++ [c]).length = xs.length + 1 := by simp [HL.out]
  have hO : Ow .u32 w.heap.size (w3.setCell ⟨w.heap.size, xs.length, none⟩ (.int .u32 (c : Int))) (.slice (some ⟨w.heap.size, 0, none⟩) (xs.length + 1) (xs.length + 1)) (zs ++ [c]) :=
    ⟨some ⟨w.heap.size, 0, none⟩, xs.length + 1, by rw [hl4], by rw [hl4]; exact Nat.le_refl _, fun _ => ⟨_, 0, rfl, Nat.le_refl _, hs4, hf4⟩⟩
  refine (trim_any (some ⟨w.heap.size, 0, none⟩) (xs.length + 1) (xs.length + 1) (zs ++ [c]) _ hO.sl (by rw [hl4]; omega)).mono ?_
  rintro e w5 ⟨rfl, rfl⟩
  have hT := hO.trimmed
  have hm : tl (zs ++ [c]) (zs ++ [c]).length ≤ xs.length + 1 := by rw [← hl4]; exact tl_le _ _
  have HT : Hid (NumIs w.heap.size (w3.setCell ⟨w.heap.size, xs.length, none⟩ (.int .u32 (c : Int))) (.slice (some ⟨w.heap.size, 0, none⟩) (tl (zs ++ [c]) (zs ++ [c]).length) (xs.length + 1)) (val xs + val ys)) := by
    refine ⟨trimL (zs ++ [c]), hT, okw_trimL (okw_append.2 ⟨hzo, okw_cons.2 ⟨by omega, okw_nil⟩⟩), Tr_trimL _, ?_⟩
    rw [val_trimL, val_append, HL.out, ← HV.out]
    simp [val]
  have HB : Below w.heap.size w (w3.setCell ⟨w.heap.size, xs.length, none⟩ (.int .u32 (c : Int))) := (hb2.trans (hor.below (Nat.le_refl _))).setCell (p := ⟨w.heap.size, xs.length, none⟩) (Nat.le_refl _) _
  obtain ⟨m, hm'⟩ : ∃ m, tl (zs ++ [c]) (zs ++ [c]).length = m := ⟨_, rfl⟩
  rw [hm'] at HT hm ⊢
  clear hm' hT hO hl4 hf4 hs4
  go_wp2
  go_ret
  exact ⟨_, _, _, rfl, hm, HT.out, HB⟩
set_option maxRecDepth 100000 in
set_option maxHeartbeats 1000000 in
theorem addWords_lt (ax ay : Option Addr) (cx cy b2 off2 : Nat) (xs ys : List Nat) (w : World) (hx : From w ax (xs.map fun x : Nat => Value.int .u32 (x : Int))) (hy : ys ≠ [] → ay = some ⟨b2, off2, none⟩ ∧ b2 < w.heap.size) (sy : Seg .u32 w b2 off2 ys)
    (hlt : ys.length < xs.length) (bx : xs.length ≤ 100000) (ox : okw xs) (oy : okw ys) :
    Calls Try.prog 24 #[.slice ay ys.length cy, .slice ax xs.length cx] w fun e w' => ∃ a m cap, e = .returned (.slice a m cap) ∧ m ≤ xs.length + 1 ∧ NumIs w.heap.size w' (.slice a m cap) (val xs + val ys) ∧ Below w.heap.size w w' := by
  have hlen : ys.length ≤ xs.length := by omega
  obtain ⟨i0, hi, hz0, hz1, hz2⟩ := info_parts Try.infoWord
  obtain ⟨X, hX⟩ : ∃ X, X = (xs.map fun x : Nat => Value.int .u32 (x : Int)) := ⟨_, rfl⟩
  have HX : Hid (X = (xs.map fun x : Nat => Value.int .u32 (x : Int))) := hX
  have HXL : Hid (X.length = xs.length) := by show X.length = xs.length; rw [hX]; simp
  have HX1 : Hid (∀ v ∈ X, v.oneCell' = true) := by show ∀ v ∈ X, v.oneCell' = true; rw [hX]; exact words_one _ _
  obtain ⟨C, hC⟩ : ∃ C, C = ((List.replicate (xs.length + 1) 0).map fun x : Nat => Value.int .u32 (x : Int)) := ⟨_, rfl⟩
  have HC : Hid (C = ((List.replicate (xs.length + 1) 0).map fun x : Nat => Value.int .u32 (x : Int))) := hC
  have HCL : Hid (C.length = xs.length + 1) := by show C.length = _; rw [hC]; simp
  rw [← hX] at hx
  clear hX hC
  go_enter Try.func24, Try.ntmps24
  go_wp2_with (first
    | (at_make; refine wpList_make_full _ rfl _ _ 22 rfl w.heap.size 52 i0 (.int .u32 0) 1 Try.underlying22 hi hz0 hz1 .i64 .i64 _ _ (xs.length + 1) rfl rfl (by omega) (by omega) (by rw [hz2]; omega) (by unfold maxLen; omega) (Nat.le_refl _) ?_; intro w1 hown1 hgrow1; have hb1 : Below w.heap.size w w1 := (Below.refl _ w).grown hgrow1 (Nat.le_refl _) (fun k e => by cases e); have hr1 : Hid (w1.heap[w.heap.size]? = some (.cells C.toArray 52 (0, 0))) := (by rw [HC.out]; exact row_made hown1); clear hown1 hgrow1)
    | (refine wpList_copy_splice rfl _ _ 22 22 rfl 52 Try.underlying22 Try.sizeWord _ _ _ _ _ _ rfl rfl w.heap.size 0 C 52 hr1.out X (by rw [HXL.out]; exact (Nat.min_eq_left (Nat.le_succ _)).symm) (fun h0 => ⟨rfl, hx.below hb1 h0⟩) (by rw [HXL.out, HCL.out]; omega) HX1.out w.heap.size w hb1 (Nat.le_refl _) ?_; intro w2 hg2 hb2; have hr2 : Row .u32 52 w2 w.heap.size (xs ++ [0]) := row_front (by rw [← HX.out, ← HC.out]; exact hg2.out); have hfr2 := fun j => hr2.free 0 (j + 1) j (Nat.lt_succ_self j)))
  have sx2 : Seg .u32 w2 w.heap.size 0 xs := by have := hr2.seg.take xs.length; rwa [List.take_left] at this
  refine (addInto_some w.heap.size 0 (xs.length + 1) b2 off2 cy ay xs ys w2 sx2 (hr2.free _ _) (fun h => ⟨(hy h).1, by have := (hy h).2; omega⟩) ?_ hlen (by omega) ox oy).mono ?_
  · by_cases h0 : ys = []
    · subst h0; intro j hj; simp at hj
    · exact sy.below hb2 (hy h0).2
  rintro e w3 ⟨c, zs, rfl, hc1, hzl, hzo, hzv, hzs, hor⟩
  have hcell : w3.cell? ⟨w.heap.size, xs.length, none⟩ = some (.int .u32 0) := by
    rw [hor.cell xs.length (Or.inr (by omega))]
    have := hr2.seg xs.length (by simp)
    simpa using this
  have hfr : w3.frozen? ⟨w.heap.size, xs.length, none⟩ = false := by
    rw [hor.frozen]
    have := hr2.free 0 (xs.length + 1) xs.length (by omega)
    simpa using this
  have HL : Hid (zs.length = xs.length) := hzl
  have HV : Hid (val zs + pw xs.length * c = val xs + val ys) := hzv
  clear hzl hzv hr1 hr2 hg2
  go_wp2_with fail
  have hs4 : Seg .u32 (w3.setCell ⟨w.heap.size, xs.length, none⟩ (.int .u32 (c : Int))) w.heap.size 0 (zs ++ [c]) := by
    rw [← HL.out]
    exact seg_snoc hzs (by rw [HL.out]; exact hcell) c
  have hf4 : Free (w3.setCell ⟨w.heap.size, xs.length, none⟩ (.int .u32 (c : Int))) w.heap.size 0 (zs ++ [c]).length := by
    intro j hj
    rw [World.frozen?_setCell, hor.frozen]
    exact hfr2 j
  have hl4 : (zs ++ [c]).length = xs.length + 1 := by simp [HL.out]
  have hO : Ow .u32 w.heap.size (w3.setCell ⟨w.heap.size, xs.length, none⟩ (.int .u32 (c : Int))) (.slice (some ⟨w.heap.size, 0, none⟩) (xs.length + 1) (xs.length + 1)) (zs ++ [c]) :=
    ⟨some ⟨w.heap.size, 0, none⟩, xs.length + 1, by rw [hl4], by rw [hl4]; exact Nat.le_refl _, fun _ => ⟨_, 0, rfl, Nat.le_refl _, hs4, hf4⟩⟩
  refine (trim_any (some ⟨w.heap.size, 0, none⟩) (xs.length + 1) (xs.length + 1) (zs ++ [c]) _ hO.sl (by rw [hl4]; omega)).mono ?_
  rintro e w5 ⟨rfl, rfl⟩
  have hT := hO.trimmed
  have hm : tl (zs ++ [c]) (zs ++ [c]).length ≤ xs.length + 1 := by rw [← hl4]; exact tl_le _ _
  have HT : Hid (NumIs w.heap.size (w3.setCell ⟨w.heap.size, xs.length, none⟩ (.int .u32 (c : Int))) (.slice (some ⟨w.heap.size, 0, none⟩) (tl (zs ++ [c]) (zs ++ [c]).length) (xs.length + 1)) (val xs + val ys)) := by
    refine ⟨trimL (zs ++ [c]), hT, okw_trimL (okw_append.2 ⟨hzo, okw_cons.2 ⟨by omega, okw_nil⟩⟩), Tr_trimL _, ?_⟩
    rw [val_trimL, val_append, HL.out, ← HV.out]
    simp [val]
  have HB : Below w.heap.size w (w3.setCell ⟨w.heap.size, xs.length, none⟩ (.int .u32 (c : Int))) := (hb2.trans (hor.below (Nat.le_refl _))).setCell (p := ⟨w.heap.size, xs.length, none⟩) (Nat.le_refl _) _
  obtain ⟨m, hm'⟩ : ∃ m, tl (zs ++ [c]) (zs ++ [c]).length = m := ⟨_, rfl⟩
  rw [hm'] at HT hm ⊢
  clear hm' hT hO hl4 hf4 hs4
  go_wp2
  go_ret
  exact ⟨_, _, _, rfl, hm, HT.out, HB⟩

/-- addWords: new memory that holds the sum. -/
theorem addWords_any (ax ay : Option Addr) (nx cx ny cy : Nat) (xs ys : List Nat) (w : World) (hx : Sl .u32 w (.slice ax nx cx) xs) (hy : Sl .u32 w (.slice ay ny cy) ys) (bx : xs.length ≤ 100000) (by_ : ys.length ≤ 100000) (ox : okw xs) (oy : okw ys) :
    Calls Try.prog 24 #[.slice ax nx cx, .slice ay ny cy] w fun e w' => ∃ a m cap, e = .returned (.slice a m cap) ∧ m ≤ 100001 ∧ NumIs w.heap.size w' (.slice a m cap) (val xs + val ys) ∧ Below w.heap.size w w' := by
  obtain rfl := hx.len
  obtain rfl := hy.len
  have place : ∀ {a : Option Addr} {n c : Nat} {zs : List Nat}, Sl .u32 w (.slice a n c) zs → ∃ b off, (zs ≠ [] → a = some ⟨b, off, none⟩ ∧ b < w.heap.size) ∧ Seg .u32 w b off zs := by
    intro a n c zs h
    rcases h.cases with ⟨rfl, _⟩ | ⟨_, b, off, cap', e, _, hs, hl⟩
    · exact ⟨0, 0, fun h => absurd rfl h, fun j hj => by simp at hj⟩
    · injection e with e1
      exact ⟨b, off, fun _ => ⟨e1, hl⟩, hs⟩
  rcases Nat.lt_or_ge xs.length ys.length with h | h
  · obtain ⟨b, off, h1, h2⟩ := place hx
    refine (addWords_lt ay ax cy cx b off ys xs w (from_of_sl hy) h1 h2 h by_ oy ox).mono ?_
    rintro e w' ⟨a, m, cap, rfl, hm, hn, hb⟩
    exact ⟨a, m, cap, rfl, by omega, by rwa [Nat.add_comm] at hn, hb⟩
  · obtain ⟨b, off, h1, h2⟩ := place hy
    refine (addWords_ge ax ay cx cy b off xs ys w (from_of_sl hx) h1 h2 h bx ox oy).mono ?_
    rintro e w' ⟨a, m, cap, rfl, hm, hn, hb⟩
    exact ⟨a, m, cap, rfl, by omega, hn, hb⟩
end Go.Proofs.Yteplmnnpmekngab
