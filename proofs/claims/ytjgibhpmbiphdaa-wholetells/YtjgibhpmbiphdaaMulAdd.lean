/-
  What mulAdd and areDigits of package whole do.
-/
import Derived.Lib.OwnKind
import Derived.Lib.SmallJoins
import Derived.Test.YtjgibhpmbiphdaaSums
namespace Go.Proofs.Ytjgibhpmbiphdaa
open Go.RowKit

theorem mulAdd_val {xs ds : List Nat} {k c x d c' m : Nat} (h : val ds + pw k * c = val (xs.take k) * 1000000000 + m) (hd : ds.length = k) (ex : xs[k]?.getD 0 = x) (hs : x * 1000000000 + c = d + 4294967296 * c') :
    val (ds ++ [d]) + pw (k + 1) * c' = val (xs.take (k + 1)) * 1000000000 + m := by
  rw [val_append, hd, val_take_succ', ex]
  simp only [val, pw]
  have e : pw k * (x * 1000000000 + c) = pw k * (d + 4294967296 * c') := by rw [hs]
  rw [Nat.mul_add, Nat.mul_add] at e
  have e2 : 4294967296 * pw k * c' = pw k * (4294967296 * c') := by rw [Nat.mul_comm 4294967296 (pw k), Nat.mul_assoc]
  rw [e2, Nat.add_mul, Nat.mul_assoc (pw k)]
  simp only [Nat.mul_zero, Nat.add_zero]
  omega
theorem words_set {B : Nat} {w : World} {g n cap : Nat} {ts : List Nat} (hn : ts.length = n) (h : Words B w (.slice (some ⟨g, 0, none⟩) n cap) ts) (j d : Nat) : Words B (w.setCell ⟨g, j, none⟩ (.int .u32 (d : Int))) (.slice (some ⟨g, 0, none⟩) n cap) (ts.set j d) := by
  unfold Words at h ⊢
  subst hn
  have := (World.ownsRow.stored h j (.int .u32 (d : Int))).1
  rw [List.length_set, List.map_set]
  exact this

set_option maxRecDepth 100000 in
set_option maxHeartbeats 2000000 in
theorem mulAdd_any (B : Nat) (a : Option Addr) (cap : Nat) (xs : List Nat) (m : Nat) (w : World) (hw : Words B w (.slice a xs.length cap) xs) (ox : okw xs) (hm : m < 4294967296) (hB : B ≤ w.heap.size) (bx : xs.length ≤ 1000) :
    Calls Try.prog 65 #[.slice a xs.length cap, .int .u64 1000000000, .int .u64 (m : Int)] w fun e w' => ∃ v' zs, e = .returned v' ∧ Words B w' v' zs ∧ okw zs ∧ val zs = val xs * 1000000000 + m ∧ zs.length ≤ xs.length + 1 ∧ Below B w w' ∧ KeepsOthers w w' := by
  obtain ⟨i0, hi, hz0, hz1, hz2⟩ := info_parts Try.infoWord
  go_enter Try.func65, Try.ntmps65
  go_wp2_with fail
  go_loopw [7, 14] (fun c i wr => ∃ (k cv : Nat) (ds : List Nat), k ≤ xs.length ∧ i = .int .i64 (k : Int) ∧ c = .int .u64 (cv : Int) ∧ cv < 4294967296 ∧ ds.length = k ∧ okw ds ∧ val ds + pw k * cv = val (xs.take k) * 1000000000 + m ∧ Words B wr (.slice a xs.length cap) (ds ++ xs.drop k) ∧ Below B w wr ∧ KeepsOthers w wr) (fun _ i _ => xs.length - (intOf i).toNat)
  case atStart => exact ⟨0, m, [], Nat.zero_le _, rfl, rfl, hm, rfl, okw_nil, by simp [val, pw], by simpa using hw, Below.refl _ _, KeepsOthers.refl _⟩
  case round =>
    clear hw
    obtain ⟨k, cv, ds, hk, rfl, rfl, hcv, hd, od, hval, hw, hb, hko⟩ := hrel
    by_cases hlt : k < xs.length
    · have hx1 := okw_get ox k
      obtain ⟨S, hS⟩ : ∃ S, xs[k]?.getD 0 * 1000000000 + cv = S := ⟨_, rfl⟩
      have HK : Hid (val (ds ++ [S % 4294967296]) + pw (k + 1) * (S / 4294967296) = val (xs.take (k + 1)) * 1000000000 + m) := mulAdd_val hval hd rfl (by rw [hS]; omega)
      have hl : (ds ++ xs.drop k).length = xs.length := by simp [hd]; omega
      have hl' : (ds ++ xs.drop k).length = xs.length := hl
      have hown : wr.ownsRow B 55 1 (.slice a xs.length cap) (ds ++ xs.drop k).length ((ds ++ xs.drop k).map fun x : Nat => Value.int .u32 (x : Int)) := hw
      rw [hl] at hown
      obtain ⟨g, cap', e⟩ := Go.Joins.ownsRow_form hown (by omega)
      injection e with ea eb ec
      subst ea
      have hc : wr.cell? ⟨g, k, none⟩ = some (.int .u32 ((xs[k]?.getD 0 : Nat) : Int)) := by
        rw [World.ownsRow.cellAt hown k (by omega), List.getElem?_map, List.getElem?_append_right (by omega), hd, Nat.sub_self, List.getElem?_drop, Nat.add_zero, List.getElem?_eq_getElem hlt]
        rfl
      have hf : wr.frozen? ⟨g, k, none⟩ = false := World.ownsRow.frozenAt hown k
      have hge : B ≤ g := (World.ownsRow.lt hown g rfl).1
      have hW2 : ∀ d : Nat, Words B (wr.setCell ⟨g, k, none⟩ (.int .u32 (d : Int))) (.slice (some ⟨g, 0, none⟩) xs.length cap) ((ds ++ [d]) ++ xs.drop (k + 1)) := fun d => by
        rw [← set_mid ds xs k d hd hlt]
        exact words_set hl' hw k d
      obtain ⟨x, hx⟩ : ∃ x, xs[k]?.getD 0 = x := ⟨_, rfl⟩
      rw [hx] at hc hS hx1
      obtain ⟨D, hD⟩ : ∃ D, S % 4294967296 = D := ⟨_, rfl⟩
      obtain ⟨C, hC⟩ : ∃ C, S / 4294967296 = C := ⟨_, rfl⟩
      have s0 : (x : Int) * 1000000000 + cv = (S : Int) := by omega
      have s1 : (S : Int) % 4294967296 = (D : Int) := by omega
      have s2 : (S : Int) / 4294967296 = (C : Int) := by omega
      have hC1 : C < 4294967296 := by omega
      have hD1 : D < 4294967296 := by omega
      have hS1 : S < 18446744073709551616 := by omega
      rw [hD, hC] at HK
      have HW : Hid (Words B (wr.setCell ⟨g, k, none⟩ (.int .u32 (D : Int))) (.slice (some ⟨g, 0, none⟩) xs.length cap) ((ds ++ [D]) ++ xs.drop (k + 1))) := hW2 D
      have HD : Hid (ds.length = k) := hd
      have t1 : (k : Int) < xs.length := by omega
      clear hval hd hl hl' hown hw hW2 hx hS hD hC eb ec
      go_wp2_with fail
      go_roundw
      case rel => exact ⟨k + 1, C, ds ++ [D], by omega, by go_num, rfl, hC1, by simp [HD.out], okw_append.2 ⟨od, okw_cons.2 ⟨hD1, okw_nil⟩⟩, HK.out, HW.out, hb.setCell (p := ⟨g, k, none⟩) hge _, hko.trans (KeepsOthers.setCell _ _ _)⟩
      case measure => simp [intOf]; omega
    · obtain rfl : k = xs.length := by omega
      rw [List.drop_length, List.append_nil] at hw
      rw [List.take_length] at hval
      have t1 : ¬ (xs.length : Int) < xs.length := by omega
      have hsz : B ≤ wr.heap.size := Nat.le_trans hB hb.size
      have hown : wr.ownsRow B 55 1 (.slice a xs.length cap) ds.length (ds.map fun x : Nat => Value.int .u32 (x : Int)) := hw
      have hdl : ds.length ≤ 1000 := by omega
      by_cases h0 : cv = 0
      · subst h0
        have HE : Hid (val ds = val xs * 1000000000 + m) := (by show _ = _; simpa using hval)
        have HL : Hid (ds.length = xs.length) := hd
        clear hval hd
        go_wp2
        go_ret
        exact ⟨_, rfl, ds, hw, od, HE.out, by rw [HL.out]; omega, hb, hko⟩
      · have t2 : (0 : Int) < cv := by omega
        have HE : Hid (val (ds ++ [cv]) = val xs * 1000000000 + m) := (by show _ = _; rw [val_append, hd]; simp only [val]; omega)
        have HL : Hid (ds.length = xs.length) := hd
        have hcells : ∀ (j : Nat) (o : Obj), (Value.slice a xs.length cap).ownBlock = some j → (wr.alloc (.cells #[.int .u32 (cv : Int)] 55)).heap[j]? = some o → o.isCells = true := fun j o e ho => by
          obtain ⟨c, fz, hc⟩ := Go.Lib.ownsRow_kind (World.ownsRow.alloc hown (.cells #[.int .u32 (cv : Int)] 55)) j e
          rw [hc] at ho
          cases ho
          rfl
        clear hval hd
        go_wp2_with (at_builtin; refine wpList_append_own _ rfl _ _ 22 rfl B 55 i0 (.int .u32 0) 1 4 Try.underlying22 hi hz0 hz1 hz2 rfl (by decide) _ _ _ rfl (World.ownsRow.alloc hown _) ⟨wr.heap.size, 0, none⟩ 1 1 [.int .u32 (cv : Int)] rfl rfl (new_one _ _ _) (by simp [Value.oneCell']) (by unfold maxLen; omega) (by omega) (by simp; omega) ?_; intro v' w1 hown2 hgrow _)
        have hgrow' : (wr.alloc (.cells #[.int .u32 (cv : Int)] 55)).grownBy w1 (Value.slice a xs.length cap).ownBlock := hgrow
        have B1 := below_grown hb hB hown hgrow'
        have K1 : KeepsOthers w w1 := (hko.trans (KeepsOthers.alloc _ _)).trans (KeepsOthers.of_grownBy hgrow' hcells)
        have W1 := words_snoc hown2
        go_ret
        exact ⟨_, rfl, ds ++ [cv], W1, okw_append.2 ⟨od, okw_cons.2 ⟨hcv, okw_nil⟩⟩, HE.out, by simp [HL.out], B1, K1⟩
end Go.Proofs.Ytjgibhpmbiphdaa
