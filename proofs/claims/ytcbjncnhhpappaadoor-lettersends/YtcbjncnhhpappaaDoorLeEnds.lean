/-
  The walk of LettersEnds.
-/
import Derived.Test.YtcbjncnhhpappaaDoorLeQuoteW
namespace Go.Proofs.YtcbjncnhhpappaaDoor
open Go.RowKit Go.Lib

theorem tmod_bd (c : Int) (L : Nat) (h : 0 < L) : -(L : Int) < c.tmod (L : Int) ∧ c.tmod (L : Int) < (L : Int) := by
  have h1 := Int.tmod_lt_of_pos c (show (0 : Int) < (L : Int) by omega)
  have h2 := Int.tmod_lt_of_pos (-c) (show (0 : Int) < (L : Int) by omega)
  rw [Int.neg_tmod] at h2
  omega
theorem str_beq (a b : List UInt8) : ((ByteArray.mk a.toArray).toList == (ByteArray.mk b.toArray).toList) = decide (a = b) := by
  rw [str_eq_list]

set_option maxHeartbeats 8000000 in
set_option maxRecDepth 100000 in
theorem ends_far (s o b : ByteArray) (c : Int) (w : World) (hE : Env w) (h : 3000 < s.size ∨ 3000 < o.size ∨ 3000 < b.size) :
    Calls Tryd.prog 8 #[.string s, .string o, .string b, .int .i64 c] w fun e w' => e = .returned (.bool true) ∧ Below w.heap.size w w' := by
  have h3 : (3000 : Int) < (s.size : Int) ∨ ¬ (3000 : Int) < (s.size : Int) ∧ (3000 : Int) < (o.size : Int) ∨ ¬ (3000 : Int) < (s.size : Int) ∧ ¬ (3000 : Int) < (o.size : Int) ∧ (3000 : Int) < (b.size : Int) := by omega
  clear h
  rcases h3 with h1 | ⟨h1, h2⟩ | ⟨h1, h2, h3⟩
  all_goals
    go_enter Tryd.func8, Tryd.ntmps8
    go_wp2_with fail
    refine (awake_any w hE).mono ?_
    rintro e w1 ⟨rfl, hb⟩
    go_wp2
    go_ret
    exact ⟨rfl, hb⟩

set_option maxHeartbeats 8000000 in
set_option maxRecDepth 100000 in
theorem ends_bad (s o b : ByteArray) (c : Int) (w : World) (hE : Env w) (h1 : s.size ≤ 3000) (h2 : o.size ≤ 3000) (h3 : b.size ≤ 3000) (hv : validD s.data.toList = false ∨ validD s.data.toList = true ∧ validD o.data.toList = false) :
    Calls Tryd.prog 8 #[.string s, .string o, .string b, .int .i64 c] w fun e w' => e = .returned (.bool true) ∧ Below w.heap.size w w' := by
  have i1 : ¬ (3000 : Int) < (s.size : Int) := by omega
  have i2 : ¬ (3000 : Int) < (o.size : Int) := by omega
  have i3 : ¬ (3000 : Int) < (b.size : Int) := by omega
  have cA := refGood_any s w (by omega)
  have cB := fun w => refGood_any o w (by omega)
  rcases hv with hv | ⟨hv, hv2⟩
  · rw [hv] at cA
    clear cB hv
    go_enter Tryd.func8, Tryd.ntmps8
    go_wp2_with fail
    refine cA.mono ?_
    rintro e w1 ⟨rfl, b1⟩
    go_wp2_with fail
    refine (awake_any _ (hE.below b1)).mono ?_
    rintro e w2 ⟨rfl, b2⟩
    go_wp2
    go_ret
    exact ⟨rfl, b1.trans (b2.mono b1.size)⟩
  · rw [hv] at cA
    simp only [hv2] at cB
    have HB := Lib.hid cB
    clear cB hv hv2
    go_enter Tryd.func8, Tryd.ntmps8
    go_wp2_with fail
    refine cA.mono ?_
    rintro e w1 ⟨rfl, b1⟩
    go_wp2_with fail
    refine (HB.out w1).mono ?_
    rintro e w2 ⟨rfl, b2⟩
    have e2 := (hE.below b1).below b2
    replace b2 := b1.trans (b2.mono b1.size)
    go_wp2_with fail
    refine (awake_any _ e2).mono ?_
    rintro e w3 ⟨rfl, b3⟩
    go_wp2
    go_ret
    exact ⟨rfl, b2.trans (b3.mono b2.size)⟩

set_option maxHeartbeats 16000000 in
set_option maxRecDepth 100000 in
theorem ends_good (s o b : ByteArray) (c : Int) (w : World) (hE : Env w) (h1 : s.size ≤ 3000) (h2 : o.size ≤ 3000) (h3 : b.size ≤ 3000) (hv : validD s.data.toList = true) (hv2 : validD o.data.toList = true) :
    Calls Tryd.prog 8 #[.string s, .string o, .string b, .int .i64 c] w fun e w' => e = .returned (.bool true) ∧ Below w.heap.size w w' := by
  have i1 : ¬ (3000 : Int) < (s.size : Int) := by omega
  have i2 : ¬ (3000 : Int) < (o.size : Int) := by omega
  have i3 : ¬ (3000 : Int) < (b.size : Int) := by omega
  have cA := refGood_any s w (by omega)
  have cB := fun w => refGood_any o w (by omega)
  rw [hv] at cA
  simp only [hv2] at cB
  have cQ := fun w => quote_any s w (by omega)
  have cO := fun w => quote_any o w (by omega)
  have hql := quo_le s.data.toList
  have hql2 := quo_len s.data.toList
  rw [str_len] at hql
  have hQs : (ByteArray.mk (quo s.data.toList).toArray).size = (quo s.data.toList).length := rfl
  have hcat : ((ByteArray.mk (quo s.data.toList).toArray) ++ b).data.toList = quo s.data.toList ++ b.data.toList := by
    have e : b = ByteArray.mk (b.data.toList).toArray := by cases b; rfl
    conv => lhs; rw [e, ByteArray.mk_append_mk]
  have hcs : ((ByteArray.mk (quo s.data.toList).toArray) ++ b).size ≤ 100000 := by rw [ByteArray.size_append, hQs]; omega
  have cU := fun w (h : Env w) => unquote_any ((ByteArray.mk (quo s.data.toList).toArray) ++ b) w (by omega) h
  rw [hcat, unq_quo, mend_of_valid _ hv] at cU
  have hcutL := unq_cut s.data.toList
  have cV := fun (k : Nat) w (h : Env w) => unquote_any ((ByteArray.mk (quo s.data.toList).toArray).extract 0 k) w (by rw [ByteArray.size_extract]; omega) h
  have hext : ∀ k, ((ByteArray.mk (quo s.data.toList).toArray).extract 0 k).data.toList = (quo s.data.toList).take k := fun k => by rw [extract_list]; rfl
  simp only [hext] at cV
  have hinj := quo_inj s.data.toList o.data.toList hv hv2
  have hOQ : ((ByteArray.mk (quo o.data.toList).toArray).toList == (ByteArray.mk (quo s.data.toList).toArray).toList) = decide (o.data.toList = s.data.toList) := by
    rw [str_beq]
    exact decide_eq_decide.2 hinj
  have hos : (o.toList == s.toList) = decide (o.data.toList = s.data.toList) := by
    rw [ByteArray.toList_eq, ByteArray.toList_eq]
    by_cases h : o.data.toList = s.data.toList
    · simp [h]
    · rw [decide_eq_false h]; exact beq_eq_false_iff_ne.2 h
  have hts : ((ByteArray.mk (s.data.toList).toArray).toList == s.toList) = true := by rw [str_eq_list]; simp
  generalize decide (o.data.toList = s.data.toList) = D at *
  obtain ⟨L, hL⟩ : ∃ L, (quo s.data.toList).length = L := ⟨_, rfl⟩
  rw [hL] at hQs hql hql2
  simp only [hL] at cU hcutL
  have cV2 : ∀ k, k < L → ∀ w, Env w → Calls Tryd.prog 24 #[.string ((ByteArray.mk (quo s.data.toList).toArray).extract 0 k)] w fun e w' => e = .returned (.tuple #[.string ⟨#[]⟩, .int .i64 0, .int .i64 4]) ∧ Below w.heap.size w w' := by
    intro k hk w h
    have := cV k w h
    rw [hcutL k hk] at this
    exact this
  have cU2 : ∀ w, Env w → Calls Tryd.prog 24 #[.string ((ByteArray.mk (quo s.data.toList).toArray) ++ b)] w fun e w' => e = .returned (.tuple #[.string ⟨(s.data.toList).toArray⟩, .int .i64 (L : Int), .int .i64 0]) ∧ Below w.heap.size w w' := cU
  clear cU cV hcat hext hinj hcutL hL
  generalize ByteArray.mk (quo s.data.toList).toArray = Q at *
  generalize ByteArray.mk (quo o.data.toList).toArray = O at *
  generalize ByteArray.mk (s.data.toList).toArray = T at *
  obtain ⟨z, hz⟩ : ∃ z, c.tmod (L : Int) = z := ⟨_, rfl⟩
  have hzb := tmod_bd c L (by omega)
  rw [hz] at hzb
  obtain ⟨hz1, hz2⟩ := hzb
  have hL2 : (2 : Int) ≤ (L : Int) := by omega
  have hL9 : (L : Int) ≤ 100000 := by omega
  have hL0 : ((L : Int) == 0) = false := beq_eq_false_iff_ne.2 (by omega)
  have HB := Lib.hid cB
  have HQ := Lib.hid cQ
  have HO := Lib.hid cO
  have HU := Lib.hid cU2
  have HV := Lib.hid cV2
  clear cB cQ cO cU2 cV2 hv hv2 hql hql2
  rw [ByteArray.size_append] at hcs
  by_cases hz0 : z < 0
  · obtain ⟨k, hk⟩ : ∃ k : Nat, z + (L : Int) = (k : Int) := ⟨(z + (L : Int)).toNat, by omega⟩
    have hkL : k < L := by omega
    have hki : (k : Int) ≤ (Q.size : Int) := by rw [hQs]; omega
    go_enter Tryd.func8, Tryd.ntmps8
    go_wp2_with fail
    refine cA.mono ?_
    rintro e w1 ⟨rfl, b1⟩
    go_wp2_with fail
    refine (HB.out w1).mono ?_
    rintro e w2 ⟨rfl, b2⟩
    have e2 := (hE.below b1).below b2
    replace b2 := b1.trans (b2.mono b1.size)
    go_wp2_with fail
    refine (HQ.out w2).mono ?_
    rintro e w3 ⟨rfl, b3⟩
    have e3 := e2.below b3
    replace b3 := b2.trans (b3.mono b2.size)
    go_wp2_with fail
    refine (HU.out w3 e3).mono ?_
    rintro e w4 ⟨rfl, b4⟩
    have e4 := e3.below b4
    replace b4 := b3.trans (b4.mono b3.size)
    go_wp2_with fail
    refine (HO.out w4).mono ?_
    rintro e w5 ⟨rfl, b5⟩
    have e5 := e4.below b5
    replace b5 := b4.trans (b5.mono b4.size)
    go_wp2_with fail
    refine (HV.out k hkL w5 e5).mono ?_
    rintro e w6 ⟨rfl, b6⟩
    have e6 := e5.below b6
    replace b6 := b5.trans (b6.mono b5.size)
    go_wp2_with fail
    refine (awake_any _ e6).mono ?_
    rintro e w7 ⟨rfl, b7⟩
    go_wp2
    go_ret
    exact ⟨rfl, b6.trans (b7.mono b6.size)⟩
  · obtain ⟨k, rfl⟩ : ∃ k : Nat, z = (k : Int) := ⟨z.toNat, by omega⟩
    have hkL : k < L := by omega
    have hki : (k : Int) ≤ (Q.size : Int) := by rw [hQs]; omega
    go_enter Tryd.func8, Tryd.ntmps8
    go_wp2_with fail
    refine cA.mono ?_
    rintro e w1 ⟨rfl, b1⟩
    go_wp2_with fail
    refine (HB.out w1).mono ?_
    rintro e w2 ⟨rfl, b2⟩
    have e2 := (hE.below b1).below b2
    replace b2 := b1.trans (b2.mono b1.size)
    go_wp2_with fail
    refine (HQ.out w2).mono ?_
    rintro e w3 ⟨rfl, b3⟩
    have e3 := e2.below b3
    replace b3 := b2.trans (b3.mono b2.size)
    go_wp2_with fail
    refine (HU.out w3 e3).mono ?_
    rintro e w4 ⟨rfl, b4⟩
    have e4 := e3.below b4
    replace b4 := b3.trans (b4.mono b3.size)
    go_wp2_with fail
    refine (HO.out w4).mono ?_
    rintro e w5 ⟨rfl, b5⟩
    have e5 := e4.below b5
    replace b5 := b4.trans (b5.mono b4.size)
    go_wp2_with fail
    refine (HV.out k hkL w5 e5).mono ?_
    rintro e w6 ⟨rfl, b6⟩
    have e6 := e5.below b6
    replace b6 := b5.trans (b6.mono b5.size)
    go_wp2_with fail
    refine (awake_any _ e6).mono ?_
    rintro e w7 ⟨rfl, b7⟩
    go_wp2
    go_ret
    exact ⟨rfl, b6.trans (b7.mono b6.size)⟩

theorem ends_walk (s o b : ByteArray) (c : Int) (w : World) (hE : Env w) :
    Calls Tryd.prog 8 #[.string s, .string o, .string b, .int .i64 c] w fun e w' => e = .returned (.bool true) ∧ Below w.heap.size w w' := by
  by_cases h : 3000 < s.size ∨ 3000 < o.size ∨ 3000 < b.size
  · exact ends_far s o b c w hE h
  · have h1 : s.size ≤ 3000 := by omega
    have h2 : o.size ≤ 3000 := by omega
    have h3 : b.size ≤ 3000 := by omega
    cases hv : validD s.data.toList with
    | false => exact ends_bad s o b c w hE h1 h2 h3 (.inl hv)
    | true =>
      cases hv2 : validD o.data.toList with
      | false => exact ends_bad s o b c w hE h1 h2 h3 (.inr ⟨hv, hv2⟩)
      | true => exact ends_good s o b c w hE h1 h2 h3 hv hv2
end Go.Proofs.YtcbjncnhhpappaaDoor
