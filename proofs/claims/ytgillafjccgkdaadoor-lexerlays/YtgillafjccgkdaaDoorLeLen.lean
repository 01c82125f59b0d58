/-
  What letters.Len, letters.At and the reference's Pieces, Len, At, Good do.
-/
import Derived.Test.YtgillafjccgkdaaDoorRows
import Derived.Test.YtgillafjccgkdaaDoorLeMath
import Derived.WalkKit
import Derived.Lib.Walk
import Derived.Lib.OthersKept
import Derived.Laws.RangeString
import Derived.Laws.RangeAny
import Derived.Laws.Cover4
import Derived.LoopTactic
namespace Go.Proofs.YtgillafjccgkdaaDoor
open Go.RowKit Go.Lib

/-- The pieces from a place on. -/
def rp (s : ByteArray) (pos : Nat) : List Nat := rl (s.data.toList.drop pos)
theorem rp_zero (s : ByteArray) : rp s 0 = rl s.data.toList := rfl
theorem rp_end (s : ByteArray) (pos : Nat) (h : ¬ pos < s.size) : rp s pos = [] := by
  unfold rp
  rw [List.drop_eq_nil_of_le (by rw [Array.length_toList]; exact Nat.le_of_not_lt h)]
  rfl
theorem rp_step (s : ByteArray) (pos : Nat) (h : pos < s.size) : rp s pos = (Utf8.decode s pos).1 :: rp s (pos + (Utf8.decode s pos).2) := by
  unfold rp
  rw [rl_step _ (by intro e; have := congrArg List.length e; rw [List.length_drop, Array.length_toList] at this; simp at this; have h' : pos < s.data.size := h; omega), decodeL_drop, List.drop_drop]
theorem str_len (s : ByteArray) : s.data.toList.length = s.size := by rw [Array.length_toList]; rfl
theorem rp_len (s : ByteArray) (pos : Nat) : (rp s pos).length ≤ s.size := by
  have h := rl_le (s.data.toList.drop pos)
  have h2 := List.length_drop (l := s.data.toList) (i := pos)
  rw [h2, str_len] at h
  exact Nat.le_trans h (Nat.sub_le _ _)

/-- What At answers. -/
def atB (rs : List Nat) (i : Int) : ByteArray := if 0 ≤ i ∧ i < (rs.length : Int) then Utf8.encode ((rs.getD i.toNat 0 : Nat) : Int) else ⟨#[]⟩
def atE (rs : List Nat) (i : Int) : Int := if 0 ≤ i ∧ i < (rs.length : Int) then 0 else 5
theorem append_getD (acc : List Nat) (x : Nat) (l : List Nat) : (acc ++ x :: l).getD acc.length 0 = x := by simp

/-- A slice of runes that the call has made. -/
def Runes (B : Nat) (w : World) (v : Value) (rs : List Nat) : Prop := w.ownsRow B 21 1 v rs.length (rs.map fun x : Nat => Value.int .i32 (x : Int))
theorem Tryd.infoRune : (Tryd.prog.info? 21).map (fun i => (i.zero, i.size, i.bytes)) = some (some (.int .i32 0), 1, 4) := by kernel_rfl
theorem ownsRow_iterAt {w : World} {B e size n : Nat} {v : Value} {xs : List Value} (h : w.ownsRow B e size v n xs) {k : Nat} (hk : k < B) (s : ByteArray) (pos : Nat) : (w.iterAt k s pos).ownsRow B e size v n xs := by
  refine ⟨h.1, ?_⟩
  rcases h.2 with h | ⟨g, cap, cur, h1, h2, h3, h4⟩
  · exact .inl h
  · exact .inr ⟨g, cap, cur, h1, h2, by rw [iterAt_other w k g s pos (by omega)]; exact h3, h4⟩
theorem new_one (w : World) (x : Value) (t : TypeId) : ∀ j u, [x][j]? = some u → (w.alloc (.cells #[x] t)).cell? (Addr.add ⟨w.heap.size, 0, none⟩ j) = some u := by
  intro j u hj
  match j, hj with
  | 0, hj => rw [WideShapes.add_plain, World.cell?_alloc_at _ _ _ _ rfl]; simpa using hj
  | j + 1, hj => simp at hj
theorem runes_le (s : ByteArray) (pos : Nat) : (Utf8.decode s pos).1 ≤ 1114111 := rune_le s pos

set_option maxHeartbeats 4000000 in
set_option maxRecDepth 1000000 in
theorem pieces_any (s : ByteArray) (w : World) (hs : s.size < 1000000000) :
    Calls Tryd.prog 13 #[.string s] w fun e w' => ∃ v, e = .returned v ∧ Runes (w.heap.size + 1) w' v (rl s.data.toList) ∧ Below w.heap.size w w' := by
  obtain ⟨i0, hi, hz0, hz1, hz2⟩ := info_parts Tryd.infoRune
  obtain ⟨RL, hRL⟩ : ∃ x, rl s.data.toList = x := ⟨_, rfl⟩
  have HR : Hid (rl s.data.toList = RL) := hRL
  have hlen : RL.length ≤ s.size := by rw [← hRL, ← str_len]; exact rl_le _
  rw [hRL]
  clear hRL
  go_enter Tryd.func13, Tryd.ntmps13
  go_wp2
  go_loopw [3, 5] (fun v _ wr => ∃ (pos : Nat) (acc : List Nat), wr.heap[w.heap.size]? = some (.stringIter s pos) ∧ Runes (w.heap.size + 1) wr v acc ∧ acc ++ rp s pos = RL ∧ acc.length ≤ pos ∧ Below w.heap.size w wr) (fun _ _ wr => s.size - wr.iterPos w.heap.size)
  case atStart => exact ⟨0, [], World.iter_heap w s 0, World.ownsRow_nil _ _ _ _, HR.out, Nat.le_refl _, (Below.refl _ _).alloc (Nat.le_refl _) _⟩
  case round =>
    obtain ⟨pos, acc, hit, hown, hc, ha, hbw⟩ := hrel
    have hsz : w.heap.size < wr.heap.size := (Array.getElem?_eq_some_iff.1 hit).1
    have H : Hid (acc ++ rp s pos = RL) := hc
    have hal : acc.length ≤ RL.length := by rw [← hc]; simp
    clear hc
    by_cases hp : pos < s.size
    · have hnx : ∀ ty, (Instr.next (.pointer (some ⟨w.heap.size, 0, none⟩)) true ty).run Tryd.prog wr = _ := fun ty => Lib.run_next_any_at wr w.heap.size s pos ty hit hp
      have hwd := width_pos s pos
      have hrle := runes_le s pos
      have hown1 : (wr.iterAt w.heap.size s (pos + (Utf8.decode s pos).2)).ownsRow (w.heap.size + 1) 21 1 _ acc.length (acc.map fun x : Nat => Value.int .i32 (x : Int)) := ownsRow_iterAt hown (by omega) _ _
      have hit1 := Lib.iterAt_heap wr w.heap.size s pos (pos + (Utf8.decode s pos).2) hit
      have hbw1 := Lib.below_iterAt hbw (k := w.heap.size) (Nat.le_refl _) s (pos + (Utf8.decode s pos).2)
      have hsz1 : (wr.iterAt w.heap.size s (pos + (Utf8.decode s pos).2)).heap.size = wr.heap.size := Lib.iterAt_size _ _ _ _
      have hst := rp_step s pos hp
      have HST : Hid (acc ++ [(Utf8.decode s pos).1] ++ rp s (pos + (Utf8.decode s pos).2) = RL) := by
        show _ = _
        rw [← H.out, hst]
        simp
      obtain ⟨W, hW⟩ : ∃ W, wr.iterAt w.heap.size s (pos + (Utf8.decode s pos).2) = W := ⟨_, rfl⟩
      obtain ⟨r, hr⟩ : ∃ r, (Utf8.decode s pos).1 = r := ⟨_, rfl⟩
      obtain ⟨wd, hwdd⟩ : ∃ r, (Utf8.decode s pos).2 = r := ⟨_, rfl⟩
      rw [hW] at hown1 hit1 hbw1 hsz1 hnx
      rw [hr, hwdd] at HST
      rw [hwdd] at hit1 hwd
      rw [hr] at hnx hrle
      clear hst hW hr hwdd
      have hszW : w.heap.size < W.heap.size := by omega
      clear hown hbw H hsz1
      go_wp2_with (at_builtin; refine wpList_append_own _ rfl _ _ 45 rfl (w.heap.size + 1) 21 i0 (.int .i32 0) 1 4 Tryd.underlying45 hi hz0 hz1 hz2 rfl (by decide) _ _ _ rfl (World.ownsRow.alloc hown1 _) ⟨W.heap.size, 0, none⟩ 1 1 [.int .i32 (r : Int)] rfl rfl (new_one _ _ _) (by simp [Value.oneCell']) (by unfold maxLen; omega) (by omega) (by simp; omega) ?_; intro v' w1 hown2 hgrow _)
      have hgrow' : (W.alloc (.cells #[.int .i32 (r : Int)] 21)).grownBy w1 u3.ownBlock := hgrow
      have hlt := hown1.lt
      have hit2 : w1.heap[w.heap.size]? = some (.stringIter s (pos + wd)) := by
        rw [hgrow'.block w.heap.size (by simp; omega) (fun e => by have := hlt _ e.symm; omega), (World.grownBy_alloc W _ none).block w.heap.size hszW (by simp)]
        exact hit1
      have hbw2 : Below w.heap.size w w1 := (hbw1.alloc (by omega) _).grown hgrow' (by simp; omega) (fun k e => by have := hlt _ e; omega)
      go_roundw
      case rel =>
        refine ⟨pos + wd, acc ++ [r], hit2, ?_, HST.out, by simp; omega, hbw2⟩
        unfold Runes
        simpa using hown2
      case measure =>
        simp only [World.iterPos, hit2, hit]
        omega
    · have hnx : ∀ ty, (Instr.next (.pointer (some ⟨w.heap.size, 0, none⟩)) true ty).run Tryd.prog wr = _ := fun ty => Lib.run_next_end_at wr w.heap.size s pos ty hit hp
      go_wp2
      go_ret
      have h1 := H.out
      rw [rp_end s pos hp, List.append_nil] at h1
      rw [← h1]
      exact ⟨_, rfl, hown, hbw⟩
end Go.Proofs.YtgillafjccgkdaaDoor
