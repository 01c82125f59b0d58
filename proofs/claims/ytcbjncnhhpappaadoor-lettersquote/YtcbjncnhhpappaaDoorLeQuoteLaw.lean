/-
  The walk of LettersQuote.
-/
import Derived.Test.YtcbjncnhhpappaaDoorLeRefQ2
import Derived.Test.YtcbjncnhhpappaaDoorLePcs
namespace Go.Proofs.YtcbjncnhhpappaaDoor
open Go.RowKit Go.Lib

set_option maxHeartbeats 16000000 in
set_option maxRecDepth 100000 in
theorem quote_walk (s : ByteArray) (w : World) (hE : Env w) :
    Calls Tryd.prog 6 #[.string s] w fun e w' => e = .returned (.bool true) ∧ Below w.heap.size w w' := by
  by_cases h1 : s.size ≤ 3000
  · have i1 : ¬ (3000 : Int) < (s.size : Int) := by omega
    have cA := quote_any s w (by omega)
    have hql := quo_le s.data.toList
    rw [str_len] at hql
    have cU := fun w (h : Env w) => unquote_any (ByteArray.mk (quo s.data.toList).toArray) w (by show (quo s.data.toList).length < 1000000; omega) h
    have hun := unq_quo s.data.toList []
    rw [List.append_nil] at hun
    rw [show (ByteArray.mk (quo s.data.toList).toArray).data.toList = quo s.data.toList from rfl, hun] at cU
    have cU2 : ∀ w, Env w → Calls Tryd.prog 24 #[.string (ByteArray.mk (quo s.data.toList).toArray)] w fun e w' => e = .returned (.tuple #[.string ⟨(mend s.data.toList).toArray⟩, .int .i64 ((quo s.data.toList).length : Int), .int .i64 0]) ∧ Below w.heap.size w w' := cU
    have cR := fun w => refQuote_any s w h1
    have cL := fun w => refAll_any s w h1
    have cG := fun w (h : Env w) => good_any s w (by omega) h
    have hQs : ((ByteArray.mk (quo s.data.toList).toArray).size) = (quo s.data.toList).length := rfl
    have hts := str_eq_list (mend s.data.toList) s
    rw [← valid_iff] at hts
    have hle := rl_le s.data.toList
    rw [str_len] at hle
    unfold mend at cU2 hts
    obtain ⟨L, hL⟩ : ∃ L, (quo s.data.toList).length = L := ⟨_, rfl⟩
    rw [hL] at hQs
    simp only [hL] at cU2
    generalize ByteArray.mk (quo s.data.toList).toArray = Q at *
    generalize rl s.data.toList = rs at *
    obtain ⟨M, hM⟩ : ∃ M, ByteArray.mk (encs rs).toArray = M := ⟨_, rfl⟩
    rw [hM] at hts
    simp only [hM] at cU2
    have HM := Lib.hid hM
    generalize validD s.data.toList = V at *
    have HU := Lib.hid cU2
    have HR := Lib.hid cR
    have HL := Lib.hid cL
    have HG := Lib.hid cG
    have HTS := Lib.hid hts
    clear cU cU2 cR cL cG hun hM hL hts hql
    go_enter Tryd.func6, Tryd.ntmps6
    go_wp2_with fail
    refine cA.mono ?_
    rintro e w1 ⟨rfl, b1⟩
    have e1 := hE.below b1
    go_wp2_with fail
    refine (HU.out w1 e1).mono ?_
    rintro e w2 ⟨rfl, b2⟩
    have e2 := e1.below b2
    replace b2 := b1.trans (b2.mono b1.size)
    go_wp2_with fail
    refine (HL.out w2).mono ?_
    rintro e w3 ⟨v, rfl, hS, b3⟩
    have e3 := e2.below b3
    replace b3 := b2.trans (b3.mono b2.size)
    obtain ⟨a, cap, rfl, hcell⟩ := pcs_form hS
    have hg : ∀ j (hj : j < rs.length), ∃ g, a = some ⟨g, 0, none⟩ ∧ w3.cell? ⟨g, j, none⟩ = some (.string ⟨(enc rs[j]).toArray⟩) := fun j hj => by
      obtain ⟨g, _, _, e1, e2⟩ := hcell j hj
      exact ⟨g, e1, e2⟩
    have HC := Lib.hid hg
    clear hcell hg hS b1 b2 e1 e2
    go_wp2
    go_loop [7, 9] (fun t i => ∃ k : Nat, i = .int .i64 (k : Int) ∧ k ≤ rs.length ∧ t = .string ⟨(encs (rs.take k)).toArray⟩) (fun _ i => rs.length - (RowKit.intOf i).toNat)
    case atStart => exact ⟨0, rfl, Nat.zero_le _, rfl⟩
    case round =>
      obtain ⟨k, rfl, hk, rfl⟩ := hrel
      have hel := encs_len (rs.take k)
      rw [List.length_take] at hel
      by_cases hlt : k < rs.length
      · have ilt : (k : Int) < (rs.length : Int) := by omega
        obtain ⟨g, rfl, hc⟩ := HC.out k hlt
        have hcat := cat_list (encs (rs.take k)) (enc rs[k])
        rw [← encs_take rs k hlt] at hcat
        have hXs : (ByteArray.mk (encs (rs.take k)).toArray).size ≤ 20000 := by show (encs (rs.take k)).length ≤ 20000; omega
        have hYs : (ByteArray.mk (enc rs[k]).toArray).size ≤ 4 := (enc_len rs[k]).2
        obtain ⟨X, hX⟩ : ∃ X, ByteArray.mk (encs (rs.take k)).toArray = X := ⟨_, rfl⟩
        obtain ⟨Y, hY⟩ : ∃ Y, ByteArray.mk (enc rs[k]).toArray = Y := ⟨_, rfl⟩
        rw [hX] at hcat hXs ⊢
        rw [hY] at hcat hYs hc
        have HCat := Lib.hid hcat
        clear hX hY hcat hel
        go_wp2
        go_round
        case rel => exact ⟨k + 1, by go_num, by omega, by rw [← HCat.out]⟩
        case measure => simp [RowKit.intOf]; omega
      · have ilt : ¬ (k : Int) < (rs.length : Int) := by omega
        obtain rfl : k = rs.length := by omega
        rw [List.take_length, HM.out]
        clear hel
        have hMM : (M.toList == M.toList) = true := by simp
        have hQQ : (Q.toList == Q.toList) = true := by simp
        go_wp2_with fail
        refine (HR.out w3).mono ?_
        rintro e w4 ⟨rfl, b4⟩
        have e4 := e3.below b4
        replace b4 := b3.trans (b4.mono b3.size)
        go_wp2_with fail
        refine (HG.out w4 e4).mono ?_
        rintro e w5 ⟨rfl, b5⟩
        have e5 := e4.below b5
        replace b5 := b4.trans (b5.mono b4.size)
        have hts := HTS.out
        go_wp2_with fail
        refine (awake_any _ e5).mono ?_
        rintro e w6 ⟨rfl, b6⟩
        go_wp2
        go_ret
        exact ⟨rfl, b5.trans (b6.mono b5.size)⟩
  · have i1 : (3000 : Int) < (s.size : Int) := by omega
    go_enter Tryd.func6, Tryd.ntmps6
    go_wp2_with fail
    refine (awake_any w hE).mono ?_
    rintro e w1 ⟨rfl, hb⟩
    go_wp2
    go_ret
    exact ⟨rfl, hb⟩
end Go.Proofs.YtcbjncnhhpappaaDoor
