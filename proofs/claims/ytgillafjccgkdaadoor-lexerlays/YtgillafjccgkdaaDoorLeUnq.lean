/-
  What letters.readQuoted, letters.Unquote and awake do.
-/
import Derived.Test.YtgillafjccgkdaaDoorLeEsc
namespace Go.Proofs.YtgillafjccgkdaaDoor
open Go.RowKit Go.Lib

theorem decodeGo_eq (s : ByteArray) (h : s.size ≠ 0) : Lib.decodeGo s = decodeL s.data.toList := by
  unfold Lib.decodeGo
  rw [if_neg h, ← decodeL_drop s 0]
  rfl
theorem list_ne (s : ByteArray) (h : s.size ≠ 0) : s.data.toList ≠ [] := fun e => h (by rw [← str_len, e]; rfl)
theorem width_le4 (l : List UInt8) : (decodeL l).2 ≤ 4 := by
  rw [decodeL_N]
  rcases decodeN_shape l.length (l.getD 0 0).toNat (l.getD 1 0).toNat (l.getD 2 0).toNat (l.getD 3 0).toNat with ⟨c, e⟩ | ⟨c1, c2, c3, cv, e⟩ | ⟨c1, c2, c3, c4, cv, cs, e⟩ | ⟨c1, c2, c3, c4, c5, cv, cw, e⟩ | e
  all_goals (rw [e]; dsimp only; omega)

theorem rq_eq (l : List UInt8) (r k : Nat) (h : decodeL l = (r, k)) : rq l = if r = 65533 ∧ k = 1 then (0, 0) else if ctl r = true then (0, 0) else if r = 92 then re l else (r, k) := by
  have e : bad l ↔ (r = 65533 ∧ k = 1) := by unfold bad; rw [h]
  unfold rq
  by_cases hb : r = 65533 ∧ k = 1
  · rw [if_pos hb, if_pos (e.2 hb)]
  · rw [if_neg hb, if_neg (fun x => hb (e.1 x)), h]

set_option maxHeartbeats 8000000 in
set_option maxRecDepth 100000 in
theorem readQuoted_any (s : ByteArray) (h0 : s.size ≠ 0) (w : World) (hs : s.size < 1000000000) (hE : Env w) :
    Calls Tryd.prog 37 #[.string s] w fun e w' => e = .returned (.tuple #[.int .i32 ((rq s.data.toList).1 : Int), .int .i64 ((rq s.data.toList).2 : Int)]) ∧ Below w.heap.size w w' := by
  have cD := Tryd.utf8_DecodeRuneInString s w hE.tabs
  rw [decodeGo_eq s h0] at cD
  have hw1 := decodeL_width s.data.toList
  have hw4 := width_le4 s.data.toList
  have hr := decodeL_rune s.data.toList
  have cE := fun w1 (h1 : Env w1) => readEscape_any s w1 hs h1
  have CE : Hid (∀ w1, Env w1 → Calls Tryd.prog 42 #[.string s] w1 fun e w' => e = .returned (.tuple #[.int .i32 ((re s.data.toList).1 : Int), .int .i64 ((re s.data.toList).2 : Int)]) ∧ Below w1.heap.size w1 w') := cE
  clear cE
  obtain ⟨r, k, hd⟩ : ∃ r k, decodeL s.data.toList = (r, k) := ⟨_, _, rfl⟩
  rw [rq_eq _ r k hd]
  rw [hd] at cD hw1 hw4 hr
  clear hd
  simp only at cD hw1 hw4 hr
  by_cases hb : r = 65533 ∧ k = 1
  · rw [if_pos hb]
    obtain ⟨rfl, rfl⟩ := hb
    go_enter Tryd.func37, Tryd.ntmps37
    go_wp2_with fail
    refine cD.mono ?_
    rintro e w1 ⟨rfl, hb⟩
    go_wp2
    go_ret2
    exact ⟨rfl, hb⟩
  · rw [if_neg hb]
    have hg : ((r : Int) == 65533) = false ∨ ((r : Int) == 65533) = true ∧ ¬ (k : Int) < 2 := by
      by_cases e : r = 65533
      · right; subst e; exact ⟨rfl, by omega⟩
      · left; exact beq_eq_false_iff_ne.2 (by omega)
    have hc := fun w1 => isControl_any r w1 hr
    have HC : Hid (∀ w1, Calls Tryd.prog 41 #[.int .i32 (r : Int)] w1 fun e w' => e = .returned (.bool (ctl r)) ∧ w' = w1) := hc
    clear hc hb
    cases hctl : ctl r with
    | true =>
      rw [if_pos rfl]
      rcases hg with hg | ⟨hg, hg2⟩
      all_goals
        go_enter Tryd.func37, Tryd.ntmps37
        go_wp2_with fail
        refine cD.mono ?_
        rintro e w1 ⟨rfl, hb⟩
        go_wp2_with fail
        refine (HC.out w1).mono ?_
        rintro e w2 ⟨rfl, rfl⟩
        rw [hctl]
        go_wp2
        go_ret2
        exact ⟨rfl, hb⟩
    | false =>
      rw [if_neg (by simp)]
      by_cases h92 : r = 92
      · rw [if_pos h92]
        subst h92
        clear hg
        go_enter Tryd.func37, Tryd.ntmps37
        go_wp2_with fail
        refine cD.mono ?_
        rintro e w1 ⟨rfl, hb⟩
        go_wp2_with fail
        refine (HC.out w1).mono ?_
        rintro e w2 ⟨rfl, rfl⟩
        rw [hctl]
        go_wp2_with fail
        refine (CE.out _ (hE.below hb)).mono ?_
        rintro e w3 ⟨rfl, hb3⟩
        go_wp2
        go_ret2
        exact ⟨rfl, hb.trans (hb3.mono hb.size)⟩
      · rw [if_neg h92]
        have b92 : ((r : Int) == 92) = false := beq_eq_false_iff_ne.2 (by omega)
        clear h92
        rcases hg with hg | ⟨hg, hg2⟩
        all_goals
          go_enter Tryd.func37, Tryd.ntmps37
          go_wp2_with fail
          refine cD.mono ?_
          rintro e w1 ⟨rfl, hb⟩
          go_wp2_with fail
          refine (HC.out w1).mono ?_
          rintro e w2 ⟨rfl, rfl⟩
          rw [hctl]
          go_wp2
          go_ret2
          exact ⟨rfl, hb⟩

theorem IsBuilderF.below {T e : TypeId} {B b : Nat} {bs : List Value} {w w' : World} (h : Lib.IsBuilderF T e B b bs w) (hb : Below w.heap.size w w') : Lib.IsBuilderF T e B b bs w' := by
  have key : ∀ p, Lib.BuilderAtF T e B b p bs w → Lib.BuilderAtF T e B b p bs w' := by
    rintro p ⟨h1, v, h2, ⟨h3, h4⟩, h5⟩
    refine ⟨h1, v, (hb.block b (Array.getElem?_eq_some_iff.1 h2).1).trans h2, ⟨h3, ?_⟩, h5⟩
    rcases h4 with h4 | ⟨g, cap, cur, fz, e1, e2, e3, e4⟩
    · exact .inl h4
    · exact .inr ⟨g, cap, cur, fz, e1, e2, (hb.block g (Array.getElem?_eq_some_iff.1 e3).1).trans e3, e4⟩
  exact h.elim (fun x => .inl (key _ x)) (fun x => .inr (key _ x))
/-- What Unquote answers. -/
def unqT : Option (List UInt8 × Nat) → Value
  | some p => .tuple #[.string ⟨p.1.toArray⟩, .int .i64 (p.2 : Int), .int .i64 0]
  | none => .tuple #[.string ⟨#[]⟩, .int .i64 0, .int .i64 4]
theorem extract_end (s : ByteArray) (a : Nat) : (s.extract a s.size).data.toList = s.data.toList.drop a := by
  rw [extract_list, List.take_of_length_le (by rw [List.length_drop, str_len]; exact Nat.le_refl _)]
theorem drop_get0 (l : List UInt8) (a : Nat) : (l.drop a).getD 0 0 = l.getD a 0 := by simp [List.getD, List.getElem?_drop]
/-- What is answered once acc was said up to a place. -/
def cont (acc : List UInt8) (a : Nat) (r : Option (List UInt8 × Nat)) : Option (List UInt8 × Nat) := r.map fun p => (acc ++ p.1, a + p.2)
theorem cont_step (acc x : List UInt8) (a k : Nat) (r : Option (List UInt8 × Nat)) : cont acc a (r.map fun p => (x ++ p.1, k + p.2)) = cont (acc ++ x) (a + k) r := by
  cases r with
  | none => rfl
  | some p => simp [cont, Nat.add_assoc]

theorem rq_le (l : List UInt8) : (rq l).1 ≤ 1114111 ∧ (rq l).2 ≤ 6 := by
  have h1 := decodeL_rune l
  have h2 := width_le4 l
  have hn : ∀ v most n, n ≤ 6 → most ≤ 1114111 → (num v most n).1 ≤ 1114111 ∧ (num v most n).2 ≤ 6 := fun v most n hn hm => by
    unfold num
    repeat' split
    all_goals simp
    all_goals omega
  have hc := (l.getD 1 0).toNat_lt
  unfold rq
  split
  · simp
  · split
    · simp
    · split
      · unfold re
        repeat' split
        all_goals first | (simp; done) | exact hn _ _ _ (by omega) (by omega) | (simp only []; omega)
      · exact ⟨h1, by omega⟩

set_option maxHeartbeats 8000000 in
set_option maxRecDepth 100000 in
theorem unquote_any (s : ByteArray) (w : World) (hs : s.size < 1000000) (hE : Env w) :
    Calls Tryd.prog 34 #[.string s] w fun e w' => e = .returned (unqT (unq s.data.toList)) ∧ Below w.heap.size w w' := by
  by_cases h0 : s.size = 0
  · have hl : s = ⟨#[]⟩ := by
      obtain ⟨⟨l⟩⟩ := s
      cases l with
      | nil => rfl
      | cons _ _ => simp [ByteArray.size] at h0
    subst hl
    go_enter Tryd.func34, Tryd.ntmps34
    go_wp2
    go_ret3
    exact ⟨rfl, Below.refl _ _⟩
  · have hl := list_ne s h0
    have hp : 0 < s.size := by omega
    have hemp : s.toList.isEmpty = false := by
      rw [← decide_eq_emptyBytes]
      exact decide_eq_false (fun h => h0 (by rw [h]; rfl))
    have hun : unq s.data.toList = if s[0]'hp = 39 ∨ s[0]'hp = 34 then (uq (s[0]'hp) (s.data.toList.drop 1)).map fun p => (p.1, 1 + p.2) else none := by
      unfold unq
      rw [if_neg hl, getD_byte s 0 hp]
    obtain ⟨x, hx⟩ : ∃ x, s[0]'hp = x := ⟨_, rfl⟩
    rw [hx] at hun
    by_cases hq : x = 39 ∨ x = 34
    · rw [if_pos hq] at hun
      have hun2 : unq s.data.toList = cont [] 1 (uq x (s.data.toList.drop 1)) := hun
      obtain ⟨RES, hR⟩ : ∃ r, unq s.data.toList = r := ⟨_, rfl⟩
      rw [hR] at hun2 ⊢
      have HU : Hid (RES = cont [] 1 (uq x (s.data.toList.drop 1))) := hun2
      clear hun hun2 hR
      have i0 : (0 : Int) < (s.size : Int) := by omega
      have hqb : ((x.toNat : Int) != 39) = false ∨ ((x.toNat : Int) != 39) = true ∧ ((x.toNat : Int) != 34) = false := by
        rcases hq with rfl | rfl
        · left; decide
        · right; decide
      have hfresh := Lib.IsBuilderF.of (Lib.fresh_isBuilder 63 5 w)
      rcases hqb with hqb | ⟨hqb, hqb2⟩
      all_goals
        go_enter Tryd.func34, Tryd.ntmps34
        go_wp2
        go_loopw [6] (fun a wr => ∃ (k : Nat) (acc : List UInt8), a = .int .i64 (k : Int) ∧ k ≤ s.size + 6 ∧ 1 ≤ k ∧ Lib.IsBuilderF 63 5 w.heap.size w.heap.size (Lib.byteCells acc) wr ∧ Below w.heap.size w wr ∧ acc.length ≤ 4 * k ∧ RES = cont acc k (uq x (s.data.toList.drop k))) (fun a _ => s.size + 7 - (RowKit.intOf a).toNat)
        case atStart => exact ⟨1, [], rfl, by omega, Nat.le_refl _, hfresh, (Below.refl _ _).alloc (Nat.le_refl _) _, by simp, HU.out⟩
        case round =>
          obtain ⟨k, acc, rfl, hk, hk1, hI, hbw, hal, hres⟩ := hrel
          have hsz := hbw.size
          by_cases hlt : k < s.size
          · have ilt : (k : Int) < (s.size : Int) := by omega
            have hdk : s.data.toList.drop k ≠ [] := by
              intro h
              have := congrArg List.length h
              rw [List.length_drop, str_len] at this
              simp at this
              omega
            have hst := uq_step x (s.data.toList.drop k) hdk
            rw [drop_get0, getD_byte s k hlt] at hst
            obtain ⟨y, hy⟩ : ∃ y, s[k]'hlt = y := ⟨_, rfl⟩
            rw [hy] at hst
            by_cases hxy : y = x
            · rw [if_pos hxy] at hst
              rw [hst] at hres
              have HF : Hid (RES = some (acc, k + 1)) := by
                show _ = _
                rw [hres]
                simp [cont]
              have hb : ((y.toNat : Int) == (x.toNat : Int)) = true := by rw [hxy]; simp
              clear hst hres hxy hdk
              go_wp2
              go_region
              go_wp2_with fail
              refine (Tryd.Builder_String_any_k w.heap.size w.heap.size acc _ (by exact hI) (by exact hsz)).mono ?_
              rintro e w2 ⟨rfl, _, hb2, _⟩
              go_wp2
              go_ret3
              refine ⟨?_, hbw.drew.trans hb2⟩
              rw [HF.out]
              rfl
            · rw [if_neg hxy] at hst
              have hb : ((y.toNat : Int) == (x.toNat : Int)) = false := by
                refine beq_eq_false_iff_ne.2 (fun h => hxy (UInt8.toNat_inj.1 (by omega)))
              have hrq := rq_le (s.data.toList.drop k)
              have cQ := fun w1 (h1 : Env w1) => readQuoted_any (s.extract k s.size) (by rw [ByteArray.size_extract]; omega) w1 (by rw [ByteArray.size_extract]; omega) h1
              rw [extract_end] at cQ
              obtain ⟨r, d, hrd⟩ : ∃ r d, rq (s.data.toList.drop k) = (r, d) := ⟨_, _, rfl⟩
              rw [hrd] at hrq cQ hst
              clear hxy hdk
              simp only at hrq cQ hst
              obtain ⟨hr1, hd6⟩ := hrq
              have CQ : Hid (∀ w1, Env w1 → Calls Tryd.prog 37 #[.string (s.extract k s.size)] w1 fun e w' => e = .returned (.tuple #[.int .i32 (r : Int), .int .i64 (d : Int)]) ∧ Below w1.heap.size w1 w') := cQ
              have HS : Hid (uq x (s.data.toList.drop k) = if d = 0 then none else (uq x ((s.data.toList.drop k).drop d)).map fun p => (enc r ++ p.1, d + p.2)) := hst
              have HR : Hid (RES = cont acc k (uq x (s.data.toList.drop k))) := hres
              clear cQ hst hres hrd
              have hE1 : Env wr.drew := (hE.below hbw).below (Below.refl _ _).drew
              have hI1 : Lib.IsBuilderF 63 5 w.heap.size w.heap.size (Lib.byteCells acc) wr.drew := hI
              by_cases hd0 : d = 0
              · have HF : Hid (RES = none) := by
                  show _ = _
                  rw [HR.out, HS.out, if_pos hd0]
                  rfl
                subst hd0
                go_wp2
                go_region
                go_wp2_with fail
                refine (CQ.out _ (by exact hE1)).mono ?_
                rintro e w2 ⟨rfl, hb2⟩
                go_wp2
                go_ret3
                refine ⟨?_, hbw.drew.trans (hb2.mono hsz)⟩
                rw [HF.out]
                rfl
              · have HF : Hid (RES = cont (acc ++ enc r) (k + d) (uq x (s.data.toList.drop (k + d)))) := by
                  show _ = _
                  rw [HR.out, HS.out, if_neg hd0, cont_step, List.drop_drop]
                have hdb : ((d : Int) == 0) = false := beq_eq_false_iff_ne.2 (by omega)
                have hd1 : 1 ≤ d := by omega
                clear hd0
                go_wp2
                go_region
                go_wp2_with fail
                refine (CQ.out _ (by exact hE1)).mono ?_
                rintro e w2 ⟨rfl, hb2⟩
                have hI2 := IsBuilderF.below hI1 hb2
                have hbw2 : Below w.heap.size w w2 := hbw.drew.trans (hb2.mono hsz)
                have hl4 := enc_len r
                go_wp2_with fail
                refine (Tryd.Builder_WriteRune_k w.heap.size w.heap.size (Lib.byteCells acc) (r : Int) (by omega) (by omega) w2 hI2 (by rw [Lib.byteCells_length]; omega) hbw2.size).mono ?_
                rintro e w3 ⟨rfl, h3, hb3, _⟩
                have hI3 : Lib.IsBuilderF 63 5 w.heap.size w.heap.size (Lib.byteCells (acc ++ enc r)) w3 := by
                  unfold enc
                  rw [Lib.byteCells_append, Lib.byteCells_encodeRune]
                  exact .inr h3
                have hbw3 := hbw2.trans hb3
                clear h3 hb3 hI2 hI1 hI hbw hbw2 hb2
                go_wp2
                go_roundw
                case rel => exact ⟨k + d, acc ++ enc r, by go_num, by omega, by omega, hI3, hbw3, by rw [List.length_append]; omega, HF.out⟩
                case measure => simp [RowKit.intOf]; omega
          · have hnil : s.data.toList.drop k = [] := List.drop_eq_nil_of_le (by rw [str_len]; omega)
            have HF : Hid (RES = none) := by
              show _ = _
              rw [hres, hnil, uq_nil]
              rfl
            have ilt : ¬ (k : Int) < (s.size : Int) := by omega
            clear hres hnil
            go_wp2
            go_ret3
            refine ⟨?_, hbw⟩
            rw [HF.out]
            rfl
    · rw [if_neg hq] at hun
      rw [hun]
      have b1 : ((x.toNat : Int) != 39) = true := by
        rw [bne_iff_ne]
        intro e
        exact hq (.inl (UInt8.toNat_inj.1 (show x.toNat = 39 by omega)))
      have b2 : ((x.toNat : Int) != 34) = true := by
        rw [bne_iff_ne]
        intro e
        exact hq (.inr (UInt8.toNat_inj.1 (show x.toNat = 34 by omega)))
      have i0 : (0 : Int) < (s.size : Int) := by omega
      clear hun hq
      go_enter Tryd.func34, Tryd.ntmps34
      go_wp2
      go_ret3
      exact ⟨rfl, Below.refl _ _⟩
end Go.Proofs.YtgillafjccgkdaaDoor
