/-
  What split of package whole does: digits into pieces of nine.
-/
import Derived.Deep.WholeRow
import Derived.Test.YtjgibhpmbiphdaaDigits
namespace Go.Proofs.Ytjgibhpmbiphdaa
open Go.RowKit

/-- The number that digits write, the highest first. -/
def dn (bs : List Nat) : Nat := dval bs.reverse
theorem dn_append (A B : List Nat) : dn (A ++ B) = dn B + 10 ^ B.length * dn A := by
  unfold dn
  rw [List.reverse_append, dval_append, List.length_reverse]
theorem dn_snoc (A : List Nat) (b : Nat) : dn (A ++ [b]) = (b - 48) + 10 * dn A := by
  rw [dn_append]; simp [dn, dval]
theorem dn_lt {A : List Nat} (h : ∀ d ∈ A, 48 ≤ d ∧ d ≤ 57) : dn A < 10 ^ A.length := by
  unfold dn
  rw [← List.length_reverse]
  have h' : ∀ d ∈ A.reverse, 48 ≤ d ∧ d ≤ 57 := fun d hd => h d (by simpa using hd)
  generalize A.reverse = R at h'
  induction R with
  | nil => simp [dval]
  | cons d R ih =>
    have h1 := h' d (List.mem_cons_self ..)
    have h2 := ih (fun e he => h' e (List.mem_cons_of_mem _ he))
    simp only [dval, List.length_cons, Nat.pow_succ]
    omega
/-- The digits from a on, up to b. -/
def cutD (bs : List Nat) (a b : Nat) : List Nat := (bs.take b).drop a
theorem cutD_snoc (bs : List Nat) (a b : Nat) (h : b < bs.length) (hab : a ≤ b) : cutD bs a (b + 1) = cutD bs a b ++ [bs[b]?.getD 0] := by
  unfold cutD
  rw [take_succ_get bs b h, List.drop_append_of_le_length (by rw [List.length_take]; omega)]
theorem cutD_length (bs : List Nat) (a b : Nat) (h : b ≤ bs.length) : (cutD bs a b).length = b - a := by
  unfold cutD; rw [List.length_drop, List.length_take]; omega
theorem cutD_join (bs : List Nat) (a b : Nat) (hab : a ≤ b) : bs.take b = bs.take a ++ cutD bs a b := by
  unfold cutD
  conv => lhs; rw [← List.take_append_drop a (bs.take b)]
  rw [List.take_take, Nat.min_eq_left hab]
theorem cutD_mem {bs : List Nat} {a b : Nat} (h : ∀ d ∈ bs, 48 ≤ d ∧ d ≤ 57) : ∀ d ∈ cutD bs a b, 48 ≤ d ∧ d ≤ 57 := fun d hd => h d (List.mem_of_mem_take (List.mem_of_mem_drop hd))
/-- One piece more. -/
theorem piece_more {bs ps : List Nat} {j : Nat} (hj : ps.length = j) (hL : 9 * j < bs.length) (h : pval ps + 10 ^ (9 * j) * dn (bs.take (bs.length - 9 * j)) = dn bs) :
    pval (ps ++ [dn (cutD bs (bs.length - 9 * j - 9) (bs.length - 9 * j))]) + 10 ^ (9 * (j + 1)) * dn (bs.take (bs.length - 9 * (j + 1))) = dn bs := by
  rw [pval_snoc, hj, pow9, ← h]
  have e := cutD_join bs (bs.length - 9 * j - 9) (bs.length - 9 * j) (by omega)
  have e1 : dn (bs.take (bs.length - 9 * j)) = dn (cutD bs (bs.length - 9 * j - 9) (bs.length - 9 * j)) + 10 ^ (cutD bs (bs.length - 9 * j - 9) (bs.length - 9 * j)).length * dn (bs.take (bs.length - 9 * j - 9)) := by
    rw [e, dn_append]
  rw [e1, show bs.length - 9 * (j + 1) = bs.length - 9 * j - 9 by omega, cutD_length _ _ _ (by omega)]
  by_cases h9 : 9 ≤ bs.length - 9 * j
  · rw [show bs.length - 9 * j - (bs.length - 9 * j - 9) = 9 by omega, show 9 * (j + 1) = 9 * j + 9 by omega, Nat.mul_add, Nat.pow_add, Nat.mul_assoc]
    omega
  · rw [show bs.length - 9 * j - 9 = 0 by omega, List.take_zero, show dn [] = 0 from rfl]
    simp
theorem rowP_oneCell (xs : List Nat) : (xs.map fun x : Nat => Value.int .u32 (x : Int)).toArray.all (·.oneCell') = true := by
  rw [Array.all_eq_true_iff_forall_mem]
  intro v hv
  exact words_one xs .u32 v (by simpa using hv)

theorem below_setRow {B g : Nat} (hg : B ≤ g) (w : World) (cs : Array Value) : Below B w (w.setRow g cs) := by
  refine ⟨rfl, rfl, rfl, by simp [World.setRow], fun k hk => ?_⟩
  show (w.heap.modify g _)[k]? = _
  rw [Array.getElem?_modify, if_neg (by omega)]

set_option maxRecDepth 100000 in
set_option maxHeartbeats 4000000 in
theorem split_any (s : ByteArray) (w : World) (hs : s.size ≤ 2467) (hd : ∀ d ∈ nums s, 48 ≤ d ∧ d ≤ 57) :
    Calls Try.prog 64 #[.string s] w fun e w' => ∃ ps : List Nat, e = .returned (.tuple #[.agg ((ps ++ List.replicate (275 - ps.length) 0).map fun x : Nat => Value.int .u32 (x : Int)).toArray, .int .i64 (ps.length : Int)]) ∧ (ps.length ≤ 275 ∧ (∀ p ∈ ps, p < 1000000000) ∧ pval ps = dn (nums s)) ∧ Below w.heap.size w w' := by
  have hl := nums_length s
  have hx := index_str s
  have hzv := Try.zeroPieces
  go_enter Try.func64, Try.ntmps64
  go_wp2_with fail
  clear hzv
  have hrow0 := row_zero w
  have hb0 := below_alloc w (.cells zero275 77)
  obtain ⟨w1, hW⟩ : ∃ w1, w.alloc (.cells zero275 77) = w1 := ⟨_, rfl⟩
  rw [hW] at hrow0 hb0 ⊢
  clear hW
  go_loopw [3, 4] (fun n en wr => ∃ (j : Nat) (ps : List Nat), n = .int .i64 (j : Int) ∧ en = .int .i64 ((s.size : Int) - 9 * j) ∧ ps.length = j ∧ j ≤ 275 ∧ (∀ p ∈ ps, p < 1000000000) ∧ pval ps + 10 ^ (9 * j) * dn ((nums s).take ((nums s).length - 9 * j)) = dn (nums s) ∧ Row .u32 77 wr w.heap.size (ps ++ List.replicate (275 - j) 0) ∧ Below w.heap.size w wr) (fun n _ _ => 275 - (intOf n).toNat)
  case atStart =>
    refine ⟨0, [], rfl, by simp, rfl, by omega, fun p h => by simp at h, ?_, by simpa using hrow0, hb0⟩
    simp [pval]
  case round =>
    clear hrow0 hb0
    obtain ⟨j, ps, rfl, rfl, hj, hj2, hp, hv, hrow, hb⟩ := hrel
    by_cases hlt : 9 * j < s.size
    · have t1 : (0 : Int) < (s.size : Int) - 9 * j := by omega
      have HV : Hid (pval (ps ++ [dn (cutD (nums s) ((nums s).length - 9 * j - 9) ((nums s).length - 9 * j))]) + 10 ^ (9 * (j + 1)) * dn ((nums s).take ((nums s).length - 9 * (j + 1))) = dn (nums s)) := piece_more hj (by omega) hv
      clear hv
      obtain ⟨E, hE⟩ : ∃ E : Nat, (s.size : Int) - 9 * j = (E : Int) := ⟨s.size - 9 * j, by omega⟩
      rw [hE]
      obtain ⟨lo, hlo⟩ : ∃ lo, E - 9 = lo := ⟨_, rfl⟩
      have hE' : E = s.size - 9 * j := by omega
      have HE : Hid (E = s.size - 9 * j) := hE'
      have hEb : E ≤ s.size := by omega
      have hE0 : 0 < E := by omega
      have hj4 : j ≤ 274 := by omega
      rw [hl, ← hE', hlo] at HV
      clear hE hE' t1
      have t1 : (0 : Int) < E := by omega
      go_upto_region 4 with fail
      go_cut [5] from 12 to 14 (fun v W => v = .int .i64 (lo : Int) ∧ W = wr)
      case first =>
        go_wp2_with fail
        all_goals (go_meet)
        all_goals exact ⟨by congr 1; omega, rfl⟩
      case rest =>
        obtain ⟨rfl, rfl⟩ := hcut
        go_wp2_with fail
        go_loopw [5] (fun iv wi => ∃ i : Nat, lo ≤ i ∧ i ≤ E ∧ iv = .int .i64 (i : Int) ∧ Row .u32 77 wi w.heap.size ((ps ++ List.replicate (275 - j) 0).set j (dn (cutD (nums s) lo i))) ∧ Below w.heap.size w wi) (fun iv _ => E - (intOf iv).toNat)
        case atStart =>
          refine ⟨lo, Nat.le_refl _, by omega, rfl, ?_, hb⟩
          have e0 : cutD (nums s) lo lo = [] := List.eq_nil_of_length_eq_zero (by rw [cutD_length _ _ _ (by omega)]; omega)
          rw [e0, show dn [] = 0 from rfl, set_piece ps j 0 hj (by omega)]
          have e2 : (ps ++ [0]) ++ List.replicate (275 - (j + 1)) 0 = ps ++ List.replicate (275 - j) 0 := by
            rw [List.append_assoc, show 275 - j = (275 - (j + 1)) + 1 by omega, List.replicate_succ]
            rfl
          rw [e2]
          exact hrow
        case round =>
          clear hrow hb
          obtain ⟨i, hi1, hi2, rfl, hrow, hb⟩ := hrel
          by_cases hlt2 : i < E
          · have q1 : dn (cutD (nums s) lo i) < 10 ^ 8 := by
              have h1 := dn_lt (cutD_mem (a := lo) (b := i) hd)
              rw [cutD_length _ _ _ (by omega)] at h1
              exact Nat.lt_of_lt_of_le h1 (Nat.pow_le_pow_right (by omega) (by omega))
            have hsn := cutD_snoc (nums s) lo i (by omega) hi1
            have hdi : 48 ≤ (nums s)[i]?.getD 0 ∧ (nums s)[i]?.getD 0 ≤ 57 := hd _ (by rw [List.getElem?_eq_getElem (by omega)]; exact List.getElem_mem _)
            have hxi := hx i (by omega)
            obtain ⟨q, hq⟩ : ∃ q, dn (cutD (nums s) lo i) = q := ⟨_, rfl⟩
            obtain ⟨d, hdd⟩ : ∃ d, (nums s)[i]?.getD 0 = d := ⟨_, rfl⟩
            have HN : Hid (dn (cutD (nums s) lo (i + 1)) = q * 10 + (d - 48)) := (by show _ = _; rw [hsn, dn_snoc, hq, hdd]; omega)
            rw [hq] at hrow q1
            rw [hdd] at hxi hdi
            have hcell := hrow.cell j (by simp [hj]; omega)
            have hfr := hrow.fr j
            rw [List.getElem?_set_self (by simp [hj]; omega)] at hcell
            simp only [Option.getD_some] at hcell
            have hset := fun v => Row.turn2 hrow j v
            simp only [List.set_set] at hset
            have HR : Hid (∀ v : Nat, Row .u32 77 (wr.setCell ⟨w.heap.size, j, none⟩ (.int .u32 (v : Int))) w.heap.size ((ps ++ List.replicate (275 - j) 0).set j v)) := hset
            have t2 : (i : Int) < E := by omega
            have t3 : (q : Int) < 100000000 := by omega
            clear hq hdd hsn hset hrow hx HV
            go_wp2_with fail
            go_region
            go_wp2_with fail
            have ev : ((q : Int) * 10 + ((d : Int) - 48)) = ((q * 10 + (d - 48) : Nat) : Int) := by omega
            rw [ev]
            refine ⟨⟨i + 1, by omega, by omega, by go_num, ?_, (hb.setCell (p := ⟨w.heap.size, j, none⟩) (Nat.le_refl _) _).drew⟩, by simp [intOf]; omega⟩
            rw [HN.out]
            exact HR.out _
          · obtain rfl : i = E := by omega
            have t2 : ¬ (i : Int) < i := by omega
            have hpq : dn (cutD (nums s) lo i) < 1000000000 := by
              have h1 := dn_lt (cutD_mem (a := lo) (b := i) hd)
              rw [cutD_length _ _ _ (by omega)] at h1
              exact Nat.lt_of_lt_of_le h1 (show 10 ^ (i - lo) ≤ 10 ^ 9 from Nat.pow_le_pow_right (by omega) (by omega))
            rw [set_piece ps j _ hj (by omega)] at hrow
            have HP : Hid (∀ p ∈ ps ++ [dn (cutD (nums s) lo i)], p < 1000000000) := (fun p h => by
              rcases List.mem_append.1 h with h | h
              · exact hp p h
              · rw [List.mem_singleton.1 h]; exact hpq)
            have hes : ((i : Int) - 9) = (s.size : Int) - 9 * ((j + 1 : Nat) : Int) := by have := HE.out; omega
            have HS : Hid (((i : Int) - 9) = (s.size : Int) - 9 * ((j + 1 : Nat) : Int)) := hes
            clear hes hpq hx
            go_wp2_with fail
            go_roundw
            case rel => exact ⟨j + 1, ps ++ [dn (cutD (nums s) lo i)], by go_num, by rw [HS.out], by simp [hj], by omega, HP.out, by rw [hl]; exact HV.out, hrow, hb⟩
            case measure => simp [intOf]; omega
    · have t1 : ¬ (0 : Int) < (s.size : Int) - 9 * j := by omega
      have HV : Hid (pval ps = dn (nums s)) := (by
        show _ = _
        rw [show (nums s).length - 9 * j = 0 by omega, List.take_zero, show dn [] = 0 from rfl] at hv
        simpa using hv)
      have hsz : ((ps ++ List.replicate (275 - j) 0).map fun x : Nat => Value.int .u32 (x : Int)).toArray.size = 275 := by simp [hj]; omega
      have hinf : (Try.prog.info? 77).map (·.size) = some ((ps ++ List.replicate (275 - j) 0).map fun x : Nat => Value.int .u32 (x : Int)).toArray.size := by rw [hsz]; kernel_rfl
      have hone := rowP_oneCell (ps ++ List.replicate (275 - j) 0)
      have hrow' : wr.heap[w.heap.size]? = some (.cells ((ps ++ List.replicate (275 - j) 0).map fun x : Nat => Value.int .u32 (x : Int)).toArray 77 (0, 0)) := hrow
      have hrow2 := setRow_heap wr w.heap.size _ ((ps ++ List.replicate (275 - j) 0).map fun x : Nat => Value.int .u32 (x : Int)).toArray 77 (0, 0) hrow'
      have hb2 : Below w.heap.size w (wr.setRow w.heap.size ((ps ++ List.replicate (275 - j) 0).map fun x : Nat => Value.int .u32 (x : Int)).toArray) := hb.trans (below_setRow (Nat.le_refl _) _ _)
      have hlv := run_loadVar_row (P := Try.prog) _ w.heap.size 77 77 _ (0, 0) _ hrow2 Try.arrPieces rfl hinf
      subst hj
      clear hv hx hd hsz
      generalize hcs : ((ps ++ List.replicate (275 - ps.length) 0).map fun x : Nat => Value.int .u32 (x : Int)).toArray = cs at *
      have HCS : Hid (((ps ++ List.replicate (275 - ps.length) 0).map fun x : Nat => Value.int .u32 (x : Int)).toArray = cs) := hcs
      clear hcs
      go_wp2_with (first | (refine wpList_load_row rfl 77 (.tmp 2) rfl w.heap.size rfl 77 cs (0, 0) _ hrow' Try.arrPieces rfl hinf ?_) | (refine wpList_store_row rfl 77 (.tmp 2) (.tmp 34) rfl w.heap.size cs rfl rfl 77 cs hrow' hinf rfl hone ?_) | fail)
      refine bodyPost_ret (v := .tuple #[.agg cs, .int .i64 (ps.length : Int)]) ?_ rfl ⟨ps, by rw [← HCS.out]; simp, ⟨hj2, hp, HV.out⟩, hb2⟩
      simp [results, Try.f64, asAddr, hlv]
end Go.Proofs.Ytjgibhpmbiphdaa
