/-
  What letters.Quote answers.
-/
import Derived.Test.YtcbjncnhhpappaaDoorLeQuote
namespace Go.Proofs.YtcbjncnhhpappaaDoor
open Go.RowKit Go.Lib

theorem qrs_app (a b : List Nat) : qrs (a ++ b) = qrs a ++ qrs b := by simp [qrs]

set_option maxHeartbeats 16000000 in
set_option maxRecDepth 100000 in
theorem quote_any (s : ByteArray) (w : World) (hs : s.size ≤ 100000) :
    Calls Tryd.prog 23 #[.string s] w fun e w' => e = .returned (.string ⟨(quo s.data.toList).toArray⟩) ∧ Below w.heap.size w w' := by
  have hle := rl_le s.data.toList
  rw [str_len] at hle
  obtain ⟨R, hR⟩ : ∃ R, quo s.data.toList = R := ⟨_, rfl⟩
  have HR : Hid (quo s.data.toList = R) := hR
  rw [hR]
  clear hR
  go_enter Tryd.func23, Tryd.ntmps23
  go_wp2_with fail
  have hbk : (w.alloc (.cells #[.pointer none, .slice none 0 0] 51)).heap[w.heap.size]? = some (.cells #[.pointer none, .slice none 0 0] 51 (0, 0)) := heap_alloc_new w _
  have cG := Tryd.Builder_Grow_fresh w.heap.size w.heap.size (s.size + 2) _ (Nat.le_refl _) hbk (by simp) (by omega)
  have e2 : ((s.size + 2 : Nat) : Int) = (s.size : Int) + 2 := by omega
  rw [e2] at cG
  refine cG.mono ?_
  rintro e w1 ⟨rfl, hI, b1⟩
  have h1 := Lib.IsBuilderF.of (Or.inr hI : Lib.IsBuilder 51 5 w.heap.size w.heap.size [] w1)
  have hb1 : Below w.heap.size w w1 := ((Below.refl _ w).alloc (Nat.le_refl _) _).trans b1
  clear hI b1 hbk cG e2
  go_wp2_with fail
  refine (wb_any w.heap.size w.heap.size [] 39 _ rfl w1 h1 (by simp) hb1.size).mono ?_
  rintro e w2 ⟨rfl, h2, b2, _⟩
  have hb2 := hb1.trans b2
  have hlt : w.heap.size < w2.heap.size := by
    rcases h2 with h2 | h2
    all_goals
      obtain ⟨_, v, hv, _⟩ := h2
      exact (Array.getElem?_eq_some_iff.1 hv).1
  have hsz := hb2.size
  clear h1 hb1 b2
  obtain ⟨K, hK⟩ : ∃ K, w2.heap.size = K := ⟨_, rfl⟩
  go_wp2
  rw [hK] at hlt hsz
  go_loopw [5] (fun _ wr => ∃ (pos : Nat) (acc : List Nat), wr.heap[K]? = some (.stringIter s pos) ∧ Lib.IsBuilderF 51 5 w.heap.size w.heap.size (Lib.byteCells (39 :: qrs acc)) wr ∧ acc ++ rp s pos = rl s.data.toList ∧ Below w.heap.size w wr) (fun _ wr => s.size - wr.iterPos K)
  case atStart => exact ⟨0, [], by rw [← hK]; exact World.iter_heap w2 s 0, h2.alloc _, rfl, hb2.alloc (by omega) _⟩
  case round =>
    clear h2 hb2
    obtain ⟨pos, acc, hit, hI, hc, hbw⟩ := hrel
    have hszr : K < wr.heap.size := (Array.getElem?_eq_some_iff.1 hit).1
    have hal : acc.length ≤ s.size := by
      have := congrArg List.length hc
      rw [List.length_append] at this
      omega
    have hql := qrs_len acc
    have H : Hid (acc ++ rp s pos = rl s.data.toList) := hc
    clear hc
    by_cases hp : pos < s.size
    · have hnx : ∀ ty, (Instr.next (.pointer (some ⟨K, 0, none⟩)) true ty).run Tryd.prog wr = _ := fun ty => Lib.run_next_any_at wr K s pos ty hit hp
      have hwd := width_pos s pos
      have hrle := runes_le s pos
      have hI1 := hI.iterAt hit (pos + (Utf8.decode s pos).2)
      have hit1 := Lib.iterAt_heap wr K s pos (pos + (Utf8.decode s pos).2) hit
      have hbw1 := Lib.below_iterAt hbw (k := K) (by omega) s (pos + (Utf8.decode s pos).2)
      have hst := rp_step s pos hp
      have HST : Hid (acc ++ [(Utf8.decode s pos).1] ++ rp s (pos + (Utf8.decode s pos).2) = rl s.data.toList) := by
        show _ = _
        rw [← H.out, hst]
        simp
      obtain ⟨W, hW⟩ : ∃ W, wr.iterAt K s (pos + (Utf8.decode s pos).2) = W := ⟨_, rfl⟩
      obtain ⟨r, hr⟩ : ∃ r, (Utf8.decode s pos).1 = r := ⟨_, rfl⟩
      obtain ⟨wdt, hwdd⟩ : ∃ r, (Utf8.decode s pos).2 = r := ⟨_, rfl⟩
      rw [hW] at hI1 hit1 hbw1 hnx
      rw [hr, hwdd] at HST
      rw [hwdd] at hit1 hwd
      rw [hr] at hnx hrle
      clear hst hW hr hwdd hI hbw H
      go_wp2_with fail
      refine (writeQuoted_any w.heap.size w.heap.size (39 :: qrs acc) r W hI1 hrle (by simp; omega) hbw1.size).mono ?_
      rintro e w3 ⟨rfl, h3, b3, k3⟩
      have hit3 := k3.iter hit1 (by omega)
      have hI3 : Lib.IsBuilderF 51 5 w.heap.size w.heap.size (Lib.byteCells (39 :: qrs (acc ++ [r]))) w3 := by
        rw [qrs_app]
        have e : qrs [r] = qr r := by simp [qrs]
        rw [e]
        exact h3
      have hbw3 := hbw1.trans b3
      clear h3 k3 b3 hI1 hbw1
      go_wp2
      go_roundw
      case rel => exact ⟨pos + wdt, acc ++ [r], hit3, hI3, HST.out, hbw3⟩
      case measure =>
        simp only [World.iterPos, hit3, hit]
        omega
    · have hnx : ∀ ty, (Instr.next (.pointer (some ⟨K, 0, none⟩)) true ty).run Tryd.prog wr = _ := fun ty => Lib.run_next_end_at wr K s pos ty hit hp
      have h1 := H.out
      rw [rp_end s pos hp, List.append_nil] at h1
      have HF : Hid (R = 39 :: (qrs acc ++ [39])) := by
        show _ = _
        rw [← HR.out, h1]
        rfl
      clear h1
      go_wp2_with fail
      refine (wb_any w.heap.size w.heap.size (39 :: qrs acc) 39 _ rfl wr hI (by simp; omega) hbw.size).mono ?_
      rintro e w3 ⟨rfl, h3, b3, _⟩
      have hbw3 := hbw.trans b3
      go_wp2_with fail
      refine (Tryd.Builder_String_any_k w.heap.size w.heap.size (39 :: qrs acc ++ [39]) _ h3 hbw3.size).mono ?_
      rintro e w4 ⟨rfl, _, b4, _⟩
      go_wp2
      go_ret
      refine ⟨?_, hbw3.trans b4⟩
      rw [HF.out]
      rfl
end Go.Proofs.YtcbjncnhhpappaaDoor
