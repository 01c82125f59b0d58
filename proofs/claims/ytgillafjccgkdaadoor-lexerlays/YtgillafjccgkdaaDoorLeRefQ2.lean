/-
  What the reference's Quote answers.
-/
import Derived.Test.YtgillafjccgkdaaDoorLeRefQ
import Derived.Test.YtgillafjccgkdaaDoorLePcs
namespace Go.Proofs.YtgillafjccgkdaaDoor
open Go.RowKit Go.Lib

theorem new_two (w : World) (x y : Value) (t : TypeId) : ∀ j u, [x, y][j]? = some u → (w.alloc (.cells #[x, y] t)).cell? (Addr.add ⟨w.heap.size, 0, none⟩ j) = some u := by
  intro j u hj
  match j, hj with
  | 0, hj => rw [WideShapes.add_plain, World.cell?_alloc_at _ _ _ _ rfl]; simpa using hj
  | 1, hj => rw [WideShapes.add_plain, World.cell?_alloc_at _ _ _ _ rfl]; simpa using hj
  | j + 2, hj => simp at hj
theorem qrs_take (rs : List Nat) (k : Nat) (h : k < rs.length) : qrs (rs.take (k + 1)) = qrs (rs.take k) ++ qr rs[k] := by
  rw [List.take_succ_eq_append_getElem h, qrs_app]
  simp [qrs]

set_option maxHeartbeats 32000000 in
set_option maxRecDepth 100000 in
theorem refQuote_any (s : ByteArray) (w : World) (hs : s.size ≤ 3000) :
    Calls Tryd.prog 11 #[.string s] w fun e w' => e = .returned (.string ⟨(quo s.data.toList).toArray⟩) ∧ Below w.heap.size w w' := by
  obtain ⟨i0, hi, hz0, hz1, hz2⟩ := info_parts Tryd.infoByte
  have cP := pieces_any s w (by omega)
  have hle := rl_le s.data.toList
  rw [str_len] at hle
  have hru := rl_isRune s.data.toList
  unfold quo
  generalize rl s.data.toList = rs at *
  obtain ⟨R, hR⟩ : ∃ R, ByteArray.mk (39 :: (qrs rs ++ [39])).toArray = R := ⟨_, rfl⟩
  have HR : Hid (ByteArray.mk (39 :: (qrs rs ++ [39])).toArray = R) := hR
  rw [hR]
  clear hR
  go_enter Tryd.func11, Tryd.ntmps11
  go_wp2_with fail
  refine cP.mono ?_
  rintro e w1 ⟨v, rfl, hRu, b1⟩
  obtain ⟨a, cap, rfl, hcell⟩ := hRu.form
  have hg : ∀ j (hj : j < rs.length), ∃ g, a = some ⟨g, 0, none⟩ ∧ g < w1.heap.size ∧ w1.cell? ⟨g, j, none⟩ = some (.int .i32 ((rs[j] : Nat) : Int)) := fun j hj => by
    obtain ⟨g, e1, e2⟩ := hcell j hj
    exact ⟨g, e1, lt_of_cell e2, e2⟩
  have HG := Lib.hid hg
  have HRU := Lib.hid hru
  have hstart := own_made w1 [39] (by simp)
  clear hcell hRu hg hru
  go_wp2
  go_loopw [4, 5, 6] (fun v i _ wr => ∃ k : Nat, i = .int .i64 (k : Int) ∧ k ≤ rs.length ∧ OwnB w1.heap.size wr v (39 :: qrs (rs.take k)) ∧ Below w1.heap.size w1 wr) (fun _ i _ _ => rs.length - (RowKit.intOf i).toNat)
  case atStart => exact ⟨0, rfl, Nat.zero_le _, hstart, (Below.refl _ _).alloc (Nat.le_refl _) _⟩
  case round =>
    clear hstart
    obtain ⟨k, rfl, hk, hI, hbw⟩ := hrel
    have hsz := hbw.size
    have hql := qrs_len (rs.take k)
    rw [List.length_take] at hql
    obtain ⟨acc, hacc⟩ : ∃ acc, 39 :: qrs (rs.take k) = acc := ⟨_, rfl⟩
    have hal : acc.length ≤ 20000 := by rw [← hacc]; simp; omega
    rw [hacc] at hI
    have HA : Hid (39 :: qrs (rs.take k) = acc) := hacc
    clear hacc hql
    by_cases hlt : k < rs.length
    · have ilt : (k : Int) < (rs.length : Int) := by omega
      obtain ⟨g, rfl, hg1, hg2⟩ := HG.out k hlt
      have hc : wr.cell? ⟨g, k, none⟩ = some (.int .i32 ((rs[k] : Nat) : Int)) := (hbw.cell (p := ⟨g, k, none⟩) hg1).trans hg2
      have hir := HRU.out rs[k] (List.getElem_mem hlt)
      have HT : Hid (39 :: qrs (rs.take (k + 1)) = acc ++ qr rs[k]) := by
        show _ = _
        rw [qrs_take rs k hlt, ← HA.out]
        rfl
      obtain ⟨r, hr⟩ : ∃ r, rs[k] = r := ⟨_, rfl⟩
      rw [hr] at hc hir HT
      have hrle : r ≤ 1114111 := by unfold isRune at hir; omega
      clear hr hg2
      have hown : wr.ownsRow w1.heap.size 5 1 _ acc.length (Lib.byteCells acc) := hI
      by_cases h1 : r = 39 ∨ r = 92
      · rcases h1 with rfl | rfl
        · have HQ : Hid (qr 39 = [92, 39]) := by show _ = _; decide
          go_wp2_with (at_builtin; refine wpList_append_own _ rfl _ _ 25 rfl w1.heap.size 5 i0 (.int .u8 0) 1 1 Tryd.underlying25 hi hz0 hz1 hz2 rfl (by decide) _ _ _ rfl (World.ownsRow.alloc hown _) ⟨wr.heap.size, 0, none⟩ 2 2 [.int .u8 92, .int .u8 39] rfl rfl (new_two _ _ _ _) (by simp [Value.oneCell']) (by unfold maxLen; omega) (by omega) (by simp; omega) ?_; intro v' w2 hown2 hgrow _)
          have hgrow' : (wr.alloc (.cells #[.int .u8 92, .int .u8 39] 5)).grownBy w2 u4.ownBlock := hgrow
          have hlt2 := hown.lt
          have hI2 : OwnB w1.heap.size w2 v' (39 :: qrs (rs.take (k + 1))) := by
            unfold OwnB
            rw [HT.out, HQ.out, Lib.byteCells_append, List.length_append]
            exact hown2
          have hbw2 : Below w1.heap.size w1 w2 := (hbw.alloc (by omega) _).grown hgrow' (by simp; omega) (fun k e => (hlt2 _ e).1)
          go_roundw
          case rel => exact ⟨k + 1, by go_num, by omega, hI2, hbw2⟩
          case measure => simp [RowKit.intOf]; omega
        · have HQ : Hid (qr 92 = [92, 92]) := by show _ = _; decide
          go_wp2_with (at_builtin; refine wpList_append_own _ rfl _ _ 25 rfl w1.heap.size 5 i0 (.int .u8 0) 1 1 Tryd.underlying25 hi hz0 hz1 hz2 rfl (by decide) _ _ _ rfl (World.ownsRow.alloc hown _) ⟨wr.heap.size, 0, none⟩ 2 2 [.int .u8 92, .int .u8 92] rfl rfl (new_two _ _ _ _) (by simp [Value.oneCell']) (by unfold maxLen; omega) (by omega) (by simp; omega) ?_; intro v' w2 hown2 hgrow _)
          have hgrow' : (wr.alloc (.cells #[.int .u8 92, .int .u8 92] 5)).grownBy w2 u4.ownBlock := hgrow
          have hlt2 := hown.lt
          have hI2 : OwnB w1.heap.size w2 v' (39 :: qrs (rs.take (k + 1))) := by
            unfold OwnB
            rw [HT.out, HQ.out, Lib.byteCells_append, List.length_append]
            exact hown2
          have hbw2 : Below w1.heap.size w1 w2 := (hbw.alloc (by omega) _).grown hgrow' (by simp; omega) (fun k e => (hlt2 _ e).1)
          go_roundw
          case rel => exact ⟨k + 1, by go_num, by omega, hI2, hbw2⟩
          case measure => simp [RowKit.intOf]; omega
      · have n39 : ((r : Int) == 39) = false := beq_eq_false_iff_ne.2 (by omega)
        have n92 : ((r : Int) == 92) = false := beq_eq_false_iff_ne.2 (by omega)
        by_cases h2 : r = 10
        · subst h2
          have HQ : Hid (qr 10 = [92, 110]) := by show _ = _; decide
          have hXs : (ByteArray.mk #[92, 110]).size = 2 := rfl
          have hsz2 := (hbw).size
          go_wp2_with (at_builtin; refine Lib.wpList_append_own_string _ rfl _ _ 25 9 rfl w1.heap.size 5 i0 Tryd.underlying25 Tryd.underlying9 hi hz0 hz1 hz2 _ _ _ rfl hown ⟨#[92, 110]⟩ rfl (by unfold maxLen; omega) (by omega) (by exact hsz2) ?_; intro v' w2 hown2 hgrow _)
          have hgrow' : wr.grownBy w2 u4.ownBlock := hgrow
          have hlt2 := (hown).lt
          have hI2 : OwnB w1.heap.size w2 v' (39 :: qrs (rs.take (k + 1))) := by
            unfold OwnB
            rw [HT.out, HQ.out, Lib.byteCells_append, List.length_append]
            exact hown2
          have hbw2 : Below w1.heap.size w1 w2 := (hbw).grown hgrow' hsz2 (fun k e => (hlt2 _ e).1)
          go_roundw
          case rel => exact ⟨k + 1, by go_num, by omega, hI2, hbw2⟩
          case measure => simp [RowKit.intOf]; omega
        · have n10 : ((r : Int) == 10) = false := beq_eq_false_iff_ne.2 (by omega)
          by_cases h3 : r = 9
          · subst h3
            have HQ : Hid (qr 9 = [92, 116]) := by show _ = _; decide
            have hXs : (ByteArray.mk #[92, 116]).size = 2 := rfl
            have hsz2 := (hbw).size
            go_wp2_with (at_builtin; refine Lib.wpList_append_own_string _ rfl _ _ 25 9 rfl w1.heap.size 5 i0 Tryd.underlying25 Tryd.underlying9 hi hz0 hz1 hz2 _ _ _ rfl hown ⟨#[92, 116]⟩ rfl (by unfold maxLen; omega) (by omega) (by exact hsz2) ?_; intro v' w2 hown2 hgrow _)
            have hgrow' : wr.grownBy w2 u4.ownBlock := hgrow
            have hlt2 := (hown).lt
            have hI2 : OwnB w1.heap.size w2 v' (39 :: qrs (rs.take (k + 1))) := by
              unfold OwnB
              rw [HT.out, HQ.out, Lib.byteCells_append, List.length_append]
              exact hown2
            have hbw2 : Below w1.heap.size w1 w2 := (hbw).grown hgrow' hsz2 (fun k e => (hlt2 _ e).1)
            go_roundw
            case rel => exact ⟨k + 1, by go_num, by omega, hI2, hbw2⟩
            case measure => simp [RowKit.intOf]; omega
          · have n9 : ((r : Int) == 9) = false := beq_eq_false_iff_ne.2 (by omega)
            cases hctl : ctl r with
            | true =>
              have hc' : r < 32 ∨ r = 127 := of_decide_eq_true hctl
              have hqr : qr r = [92, 120] ++ hxs 2 r := by unfold qr; rw [if_neg h1, if_neg h2, if_neg h3, if_pos hctl]
              have HQ : Hid (qr r = [92, 120] ++ hxs 2 r) := by show _ = _; exact hqr
              have hx := refHex2 r wr (by omega)
              have hhl := hxs_len 2 r
              obtain ⟨H, hH⟩ : ∃ H, hxs 2 r = H := ⟨_, rfl⟩
              rw [hH] at hx HQ hhl
              have hcat := cat_list [92, 120] H
              have hHs : (ByteArray.mk H.toArray).size = 2 := hhl
              obtain ⟨X, hX⟩ : ∃ X, ByteArray.mk ([92, 120] ++ H).toArray = X := ⟨_, rfl⟩
              have hXs : X.size = 2 + 2 := by rw [← hX]; show ([92, 120] ++ H).length = _; rw [List.length_append]; simp [hhl]
              have HX : Hid (X.data.toList = [92, 120] ++ H) := by show _ = _; rw [← hX]
              obtain ⟨HB, hHB⟩ : ∃ HB, ByteArray.mk H.toArray = HB := ⟨_, rfl⟩
              rw [hX, hHB] at hcat
              rw [hHB] at hx hHs
              have hcat2 : (ByteArray.mk #[92, 120]) ++ HB = X := hcat
              clear hcat hX hHB hH hhl hqr
              have hcc : (r : Int) < 32 ∨ ¬ (r : Int) < 32 ∧ ((r : Int) == 127) = true := by
                by_cases h : r < 32
                · left; omega
                · right; exact ⟨by omega, by rw [show r = 127 by omega]; rfl⟩
              clear h1 h2 h3 hc' hctl hown
              rcases hcc with hcc | ⟨hcc, hcc2⟩
              all_goals
                go_wp2_with fail
                refine hx.mono ?_
                rintro e w3 ⟨rfl, b3⟩
                have hI3 : OwnB w1.heap.size w3 u4 acc := hI.below b3
                have hown3 : w3.ownsRow w1.heap.size 5 1 _ acc.length (Lib.byteCells acc) := hI3
                have hbw3 : Below w1.heap.size w1 w3 := hbw.trans (b3.mono hsz)
                have hsz2 := (hbw3).size
                go_wp2_with (at_builtin; refine Lib.wpList_append_own_string _ rfl _ _ 25 9 rfl w1.heap.size 5 i0 Tryd.underlying25 Tryd.underlying9 hi hz0 hz1 hz2 _ _ _ rfl hown3 X rfl (by unfold maxLen; omega) (by omega) (by exact hsz2) ?_; intro v' w2 hown2 hgrow _)
                have hgrow' : w3.grownBy w2 u4.ownBlock := hgrow
                have hlt2 := (hown3).lt
                have hI2 : OwnB w1.heap.size w2 v' (39 :: qrs (rs.take (k + 1))) := by
                  unfold OwnB
                  rw [HT.out, HQ.out, ← HX.out, Lib.byteCells_append, List.length_append, str_len]
                  exact hown2
                have hbw2 : Below w1.heap.size w1 w2 := (hbw3).grown hgrow' hsz2 (fun k e => (hlt2 _ e).1)
                go_roundw
                case rel => exact ⟨k + 1, by go_num, by omega, hI2, hbw2⟩
                case measure => simp [RowKit.intOf]; omega
            | false =>
              have hc' : ¬ (r < 32 ∨ r = 127) := of_decide_eq_false hctl
              have n32 : ¬ (r : Int) < 32 := by omega
              have n127 : ((r : Int) == 127) = false := beq_eq_false_iff_ne.2 (by omega)
              cases hhid : hidden r with
              | true =>
                have hh' : r = 8232 ∨ r = 8233 ∨ r = 65279 ∨ (128 ≤ r ∧ r ≤ 159) := of_decide_eq_true hhid
                have hqr : qr r = [92, 117] ++ hxs 4 r := by unfold qr; rw [if_neg h1, if_neg h2, if_neg h3, if_neg (by rw [hctl]; simp), if_pos hhid]
                have HQ : Hid (qr r = [92, 117] ++ hxs 4 r) := by show _ = _; exact hqr
                have hx := refHex4 r wr (by omega)
                have hhl := hxs_len 4 r
                obtain ⟨H, hH⟩ : ∃ H, hxs 4 r = H := ⟨_, rfl⟩
                rw [hH] at hx HQ hhl
                have hcat := cat_list [92, 117] H
                have hHs : (ByteArray.mk H.toArray).size = 4 := hhl
                obtain ⟨X, hX⟩ : ∃ X, ByteArray.mk ([92, 117] ++ H).toArray = X := ⟨_, rfl⟩
                have hXs : X.size = 4 + 2 := by rw [← hX]; show ([92, 117] ++ H).length = _; rw [List.length_append]; simp [hhl]
                have HX : Hid (X.data.toList = [92, 117] ++ H) := by show _ = _; rw [← hX]
                obtain ⟨HB, hHB⟩ : ∃ HB, ByteArray.mk H.toArray = HB := ⟨_, rfl⟩
                rw [hX, hHB] at hcat
                rw [hHB] at hx hHs
                have hcat2 : (ByteArray.mk #[92, 117]) ++ HB = X := hcat
                clear hcat hX hHB hH hhl hqr
                have hcc : ((128 : Int) ≤ (r : Int) ∧ (r : Int) ≤ 159) ∨ ((128 : Int) ≤ (r : Int) ∧ ¬ (r : Int) ≤ 159 ∧ ((r : Int) == 8232) = true) ∨ ((128 : Int) ≤ (r : Int) ∧ ¬ (r : Int) ≤ 159 ∧ ((r : Int) == 8232) = false ∧ ((r : Int) == 8233) = true) ∨ ((128 : Int) ≤ (r : Int) ∧ ¬ (r : Int) ≤ 159 ∧ ((r : Int) == 8232) = false ∧ ((r : Int) == 8233) = false ∧ ((r : Int) == 65279) = true) := by
                  rcases hh' with h | h | h | h
                  · right; left; exact ⟨by omega, by omega, by rw [h]; rfl⟩
                  · right; right; left; exact ⟨by omega, by omega, by rw [h]; rfl, by rw [h]; rfl⟩
                  · right; right; right; exact ⟨by omega, by omega, by rw [h]; rfl, by rw [h]; rfl, by rw [h]; rfl⟩
                  · left; omega
                clear h1 h2 h3 hc' hctl hown hh' hhid
                rcases hcc with ⟨ha, hb⟩ | ⟨ha, hb, hc1⟩ | ⟨ha, hb, hc1, hc2⟩ | ⟨ha, hb, hc1, hc2, hc3⟩
                all_goals
                  go_wp2_with fail
                  refine hx.mono ?_
                  rintro e w3 ⟨rfl, b3⟩
                  have hI3 : OwnB w1.heap.size w3 u4 acc := hI.below b3
                  have hown3 : w3.ownsRow w1.heap.size 5 1 _ acc.length (Lib.byteCells acc) := hI3
                  have hbw3 : Below w1.heap.size w1 w3 := hbw.trans (b3.mono hsz)
                  have hsz2 := (hbw3).size
                  go_wp2_with (at_builtin; refine Lib.wpList_append_own_string _ rfl _ _ 25 9 rfl w1.heap.size 5 i0 Tryd.underlying25 Tryd.underlying9 hi hz0 hz1 hz2 _ _ _ rfl hown3 X rfl (by unfold maxLen; omega) (by omega) (by exact hsz2) ?_; intro v' w2 hown2 hgrow _)
                  have hgrow' : w3.grownBy w2 u4.ownBlock := hgrow
                  have hlt2 := (hown3).lt
                  have hI2 : OwnB w1.heap.size w2 v' (39 :: qrs (rs.take (k + 1))) := by
                    unfold OwnB
                    rw [HT.out, HQ.out, ← HX.out, Lib.byteCells_append, List.length_append, str_len]
                    exact hown2
                  have hbw2 : Below w1.heap.size w1 w2 := (hbw3).grown hgrow' hsz2 (fun k e => (hlt2 _ e).1)
                  go_roundw
                  case rel => exact ⟨k + 1, by go_num, by omega, hI2, hbw2⟩
                  case measure => simp [RowKit.intOf]; omega
              | false =>
                have hh' : ¬ (r = 8232 ∨ r = 8233 ∨ r = 65279 ∨ (128 ≤ r ∧ r ≤ 159)) := of_decide_eq_false hhid
                have HQ : Hid (qr r = enc r) := by show _ = _; unfold qr; rw [if_neg h1, if_neg h2, if_neg h3, if_neg (by rw [hctl]; simp), if_neg (by rw [hhid]; simp)]
                have n1 : ((r : Int) == 8232) = false := beq_eq_false_iff_ne.2 (by omega)
                have n2 : ((r : Int) == 8233) = false := beq_eq_false_iff_ne.2 (by omega)
                have n3 : ((r : Int) == 65279) = false := beq_eq_false_iff_ne.2 (by omega)
                have hen := encode_enc r
                obtain ⟨X, hX⟩ : ∃ X, Utf8.encode (r : Int) = X := ⟨_, rfl⟩
                have HX : Hid (X.data.toList = enc r) := by show _ = _; rw [← hX, hen]
                have hXs : X.size ≤ 4 := by rw [← hX, hen]; exact (enc_len r).2
                have hcc : ¬ (128 : Int) ≤ (r : Int) ∨ (128 : Int) ≤ (r : Int) ∧ ¬ (r : Int) ≤ 159 := by omega
                clear h1 h2 h3 hc' hctl hh' hhid hen
                rcases hcc with ha | ⟨ha, hb⟩
                all_goals
                  have hsz2 := (hbw).size
                  go_wp2_with (at_builtin; refine Lib.wpList_append_own_string _ rfl _ _ 25 9 rfl w1.heap.size 5 i0 Tryd.underlying25 Tryd.underlying9 hi hz0 hz1 hz2 _ _ _ rfl hown X rfl (by unfold maxLen; omega) (by omega) (by exact hsz2) ?_; intro v' w2 hown2 hgrow _)
                  have hgrow' : wr.grownBy w2 u4.ownBlock := hgrow
                  have hlt2 := (hown).lt
                  have hI2 : OwnB w1.heap.size w2 v' (39 :: qrs (rs.take (k + 1))) := by
                    unfold OwnB
                    rw [HT.out, HQ.out, ← HX.out, Lib.byteCells_append, List.length_append, str_len]
                    exact hown2
                  have hbw2 : Below w1.heap.size w1 w2 := (hbw).grown hgrow' hsz2 (fun k e => (hlt2 _ e).1)
                  go_roundw
                  case rel => exact ⟨k + 1, by go_num, by omega, hI2, hbw2⟩
                  case measure => simp [RowKit.intOf]; omega
    · have ilt : ¬ (k : Int) < (rs.length : Int) := by omega
      obtain rfl : k = rs.length := by omega
      have HA2 : Hid (39 :: qrs rs = acc) := by
        show _ = _
        have := HA.out
        rw [List.take_length] at this
        exact this
      have hown : wr.ownsRow w1.heap.size 5 1 _ acc.length (Lib.byteCells acc) := hI
      go_wp2_with (at_builtin; refine wpList_append_own _ rfl _ _ 25 rfl w1.heap.size 5 i0 (.int .u8 0) 1 1 Tryd.underlying25 hi hz0 hz1 hz2 rfl (by decide) _ _ _ rfl (World.ownsRow.alloc hown _) ⟨wr.heap.size, 0, none⟩ 1 1 [.int .u8 39] rfl rfl (new_one _ _ _) (by simp [Value.oneCell']) (by unfold maxLen; omega) (by omega) (by simp; omega) ?_; intro v' w2 hown2 hgrow _)
      have hgrow' : (wr.alloc (.cells #[.int .u8 39] 5)).grownBy w2 u4.ownBlock := hgrow
      have hlt2 := hown.lt
      have hI2 : OwnB w1.heap.size w2 v' (acc ++ [39]) := by
        unfold OwnB
        rw [Lib.byteCells_append, List.length_append]
        exact hown2
      have hbw2 : Below w1.heap.size w1 w2 := (hbw.alloc (by omega) _).grown hgrow' (by simp; omega) (fun k e => (hlt2 _ e).1)
      have hcv := conv_bytes hI2
      have hRe : ByteArray.mk (acc ++ [39]).toArray = R := by rw [← HR.out, ← HA2.out]; rfl
      rw [hRe] at hcv
      clear hown hown2 hgrow hgrow' hI2 hRe
      rw [hcv]
      go_wp2
      go_ret
      exact ⟨rfl, b1.trans (hbw2.mono b1.size)⟩
end Go.Proofs.YtgillafjccgkdaaDoor
