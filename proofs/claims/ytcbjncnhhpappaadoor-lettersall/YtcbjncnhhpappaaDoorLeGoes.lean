/-
  What the iterator of letters.All does when the law goes through it.
-/
import Derived.Test.YtcbjncnhhpappaaDoorLePcs
namespace Go.Proofs.YtcbjncnhhpappaaDoor
open Go.RowKit Go.Lib

/-- What goes keeps, in five blocks from B on: the list, where to stop, the count, whether all was right, whether it is over. -/
structure Gst (w : World) (B : Nat) (a : Option Addr) (L cap : Nat) (stop k : Int) (ok over : Bool) : Prop where
  l : w.cell? ⟨B, 0, none⟩ = some (.slice a L cap)
  s : w.cell? ⟨B + 1, 0, none⟩ = some (.int .i64 stop)
  n : w.cell? ⟨B + 2, 0, none⟩ = some (.int .i64 k)
  o : w.cell? ⟨B + 3, 0, none⟩ = some (.bool ok)
  v : w.cell? ⟨B + 4, 0, none⟩ = some (.bool over)
  fn : w.frozen? ⟨B + 2, 0, none⟩ = false
  fo : w.frozen? ⟨B + 3, 0, none⟩ = false
  fv : w.frozen? ⟨B + 4, 0, none⟩ = false

set_option maxHeartbeats 8000000 in
set_option maxRecDepth 100000 in
theorem goes1_any (w : World) (B g cap : Nat) (L k : Nat) (stop : Int) (X : ByteArray) (b : Bool) (hb : ((k : Int) + 1 == stop) = b) (hG : Gst w B (some ⟨g, 0, none⟩) L cap stop (k : Int) true false) (hk : k < L) (hL : L ≤ 3000) (hc : w.cell? ⟨g, k, none⟩ = some (.string X)) :
    Calls Tryd.prog 31 #[.int .i64 (k : Int), .string X, .pointer (some ⟨B + 3, 0, none⟩), .pointer (some ⟨B + 4, 0, none⟩), .pointer (some ⟨B + 2, 0, none⟩), .pointer (some ⟨B, 0, none⟩), .pointer (some ⟨B + 1, 0, none⟩)] w fun e w' =>
      e = .returned (.bool !b) ∧ Gst w' B (some ⟨g, 0, none⟩) L cap stop ((k : Int) + 1) true b ∧ Below B w w' ∧ (∀ j, B + 5 ≤ j → w'.heap[j]? = w.heap[j]?) ∧ w'.heap.size = w.heap.size := by
  obtain ⟨h1, h2, h3, h4, h5, f1, f2, f3⟩ := hG
  have ilt : (k : Int) < (L : Int) := by omega
  have ik : (k : Int) ≤ 3000 := by omega
  have hXX : (X.toList == X.toList) = true := by simp
  have HW : Hid (Gst (((w.setCell ⟨B + 3, 0, none⟩ (.bool true)).setCell ⟨B + 2, 0, none⟩ (.int .i64 ((k : Int) + 1))).setCell ⟨B + 4, 0, none⟩ (.bool b)) B (some ⟨g, 0, none⟩) L cap stop ((k : Int) + 1) true b) := by
    have ne : ∀ (i j : Nat), i ≠ j → (⟨i, 0, none⟩ : Addr) ≠ ⟨j, 0, none⟩ := fun i j h e => by injection e with e1; exact h e1
    refine ⟨?_, ?_, ?_, ?_, ?_, ?_, ?_, ?_⟩
    · rw [World.cell?_setCell_other _ _ _ _ (ne _ _ (by omega)), World.cell?_setCell_other _ _ _ _ (ne _ _ (by omega)), World.cell?_setCell_other _ _ _ _ (ne _ _ (by omega))]; exact h1
    · rw [World.cell?_setCell_other _ _ _ _ (ne _ _ (by omega)), World.cell?_setCell_other _ _ _ _ (ne _ _ (by omega)), World.cell?_setCell_other _ _ _ _ (ne _ _ (by omega))]; exact h2
    · rw [World.cell?_setCell_other _ _ _ _ (ne _ _ (by omega))]
      refine World.cell?_setCell_same' _ _ _ ?_
      rw [World.cell?_setCell_other _ _ _ _ (ne _ _ (by omega)), h3]
      rfl
    · rw [World.cell?_setCell_other _ _ _ _ (ne _ _ (by omega)), World.cell?_setCell_other _ _ _ _ (ne _ _ (by omega))]
      refine World.cell?_setCell_same' _ _ _ ?_
      rw [h4]
      rfl
    · refine World.cell?_setCell_same' _ _ _ ?_
      rw [World.cell?_setCell_other _ _ _ _ (ne _ _ (by omega)), World.cell?_setCell_other _ _ _ _ (ne _ _ (by omega)), h5]
      rfl
    · rw [World.frozen?_setCell, World.frozen?_setCell, World.frozen?_setCell]; exact f1
    · rw [World.frozen?_setCell, World.frozen?_setCell, World.frozen?_setCell]; exact f2
    · rw [World.frozen?_setCell, World.frozen?_setCell, World.frozen?_setCell]; exact f3
  go_enter Tryd.func31, Tryd.ntmps31
  go_wp2
  go_ret
  refine ⟨rfl, HW.out, (((Below.refl B w).setCell (p := ⟨B + 3, 0, none⟩) (by show B ≤ B + 3; omega) _).setCell (p := ⟨B + 2, 0, none⟩) (by show B ≤ B + 2; omega) _).setCell (p := ⟨B + 4, 0, none⟩) (by show B ≤ B + 4; omega) _, fun j hj => ?_, ?_⟩
  · rw [Below.heap_setCell _ _ _ _ (by show j ≠ B + 4; omega), Below.heap_setCell _ _ _ _ (by show j ≠ B + 2; omega), Below.heap_setCell _ _ _ _ (by show j ≠ B + 3; omega)]
  · simp

theorem Gst.block {w w' : World} {B : Nat} {a : Option Addr} {L cap : Nat} {stop k : Int} {ok over : Bool} (h : Gst w B a L cap stop k ok over) (hb : ∀ j, B ≤ j → j < B + 5 → w'.heap[j]? = w.heap[j]?) : Gst w' B a L cap stop k ok over := by
  have hc : ∀ j, B ≤ j → j < B + 5 → w'.cell? ⟨j, 0, none⟩ = w.cell? ⟨j, 0, none⟩ := fun j h1 h2 => World.cell?_of_block (a := ⟨j, 0, none⟩) (hb j h1 h2)
  have hf : ∀ j, B ≤ j → j < B + 5 → w'.frozen? ⟨j, 0, none⟩ = w.frozen? ⟨j, 0, none⟩ := fun j h1 h2 => World.frozen?_of_block (a := ⟨j, 0, none⟩) (hb j h1 h2)
  obtain ⟨h1, h2, h3, h4, h5, f1, f2, f3⟩ := h
  exact ⟨(hc _ (by omega) (by omega)).trans h1, (hc _ (by omega) (by omega)).trans h2, (hc _ (by omega) (by omega)).trans h3, (hc _ (by omega) (by omega)).trans h4, (hc _ (by omega) (by omega)).trans h5, (hf _ (by omega) (by omega)).trans f1, (hf _ (by omega) (by omega)).trans f2, (hf _ (by omega) (by omega)).trans f3⟩

set_option maxHeartbeats 16000000 in
set_option maxRecDepth 100000 in
theorem allSeq_any (s : ByteArray) (rs : List Nat) (HRS : Hid (rl s.data.toList = rs)) (w : World) (b0 B cap : Nat) (a : Option Addr) (stop : Int) (hs : s.size ≤ 3000) (hle : rs.length ≤ s.size)
    (hG : Gst w B a rs.length cap stop 0 true false) (hs0 : w.cell? ⟨b0, 0, none⟩ = some (.string s)) (hsz : B + 5 ≤ w.heap.size)
    (HL : Hid (∀ j (hj : j < rs.length), ∃ g, g < B ∧ a = some ⟨g, 0, none⟩ ∧ w.cell? ⟨g, j, none⟩ = some (.string ⟨(enc rs[j]).toArray⟩))) :
    Calls Tryd.prog 30 #[.func (.func 31) #[] #[.pointer (some ⟨B + 3, 0, none⟩), .pointer (some ⟨B + 4, 0, none⟩), .pointer (some ⟨B + 2, 0, none⟩), .pointer (some ⟨B, 0, none⟩), .pointer (some ⟨B + 1, 0, none⟩)], .pointer (some ⟨b0, 0, none⟩)] w fun e w' =>
      e = .returned (.tuple #[]) ∧ (∃ (n : Nat) (over : Bool), Gst w' B a rs.length cap stop (n : Int) true over ∧ ((n : Int) = stop ∧ 0 < stop ∨ n = rs.length)) ∧ Below B w w' := by
  obtain ⟨K, hK⟩ : ∃ K, w.heap.size = K := ⟨_, rfl⟩
  rw [hK] at hsz
  go_enter Tryd.func30, Tryd.ntmps30
  go_wp2
  go_loopw [3, 5] (fun n _ wr => ∃ (pos : Nat) (acc : List Nat), n = .int .i64 (acc.length : Int) ∧ wr.heap[K]? = some (.stringIter s pos) ∧ Gst wr B a rs.length cap stop (acc.length : Int) true false ∧ acc ++ rp s pos = rs ∧ (stop < 1 ∨ (acc.length : Int) < stop) ∧ Below B w wr) (fun _ _ wr => s.size - wr.iterPos K)
  case atStart =>
    refine ⟨0, [], rfl, by rw [← hK]; exact World.iter_heap w s 0, ?_, HRS.out, by simp; omega, (Below.refl B w).alloc (by omega) _⟩
    exact hG.block fun j h1 h2 => (World.grownBy_alloc w _ none).block j (by omega) (by simp)
  case round =>
    clear hG
    obtain ⟨pos, acc, rfl, hit, hG, hc, hst0, hbw⟩ := hrel
    have hszr : K < wr.heap.size := (Array.getElem?_eq_some_iff.1 hit).1
    have H : Hid (acc ++ rp s pos = rs) := hc
    clear hc
    by_cases hp : pos < s.size
    · have hnx : ∀ ty, (Instr.next (.pointer (some ⟨K, 0, none⟩)) true ty).run Tryd.prog wr = _ := fun ty => Lib.run_next_any_at wr K s pos ty hit hp
      have hwd := width_pos s pos
      have hit1 := Lib.iterAt_heap wr K s pos (pos + (Utf8.decode s pos).2) hit
      have hbw1 := Lib.below_iterAt hbw (k := K) (by omega) s (pos + (Utf8.decode s pos).2)
      have hG1 : Gst (wr.iterAt K s (pos + (Utf8.decode s pos).2)) B a rs.length cap stop (acc.length : Int) true false := hG.block fun j _ h2 => Lib.iterAt_other wr K j s _ (by omega)
      have hst := rp_step s pos hp
      have hrs2 := H.out
      rw [hst] at hrs2
      have HST : Hid (acc ++ [(Utf8.decode s pos).1] ++ rp s (pos + (Utf8.decode s pos).2) = rs) := by
        show _ = _
        rw [← hrs2]
        simp
      have hkl : acc.length < rs.length := by rw [← hrs2]; simp
      have hget : rs[acc.length] = (Utf8.decode s pos).1 := by simp [← hrs2]
      obtain ⟨g, hgB, rfl, hgc⟩ := HL.out acc.length hkl
      rw [hget] at hgc
      have hgc1 : (wr.iterAt K s (pos + (Utf8.decode s pos).2)).cell? ⟨g, acc.length, none⟩ = some (.string ⟨(enc (Utf8.decode s pos).1).toArray⟩) := (hbw1.cell (p := ⟨g, acc.length, none⟩) hgB).trans hgc
      obtain ⟨W, hW⟩ : ∃ W, wr.iterAt K s (pos + (Utf8.decode s pos).2) = W := ⟨_, rfl⟩
      obtain ⟨r, hr⟩ : ∃ r, (Utf8.decode s pos).1 = r := ⟨_, rfl⟩
      obtain ⟨wdt, hwdd⟩ : ∃ r, (Utf8.decode s pos).2 = r := ⟨_, rfl⟩
      rw [hW] at hit1 hbw1 hnx hG1 hgc1
      rw [hr, hwdd] at HST
      rw [hwdd] at hit1 hwd
      rw [hr] at hnx hgc1
      have hen := encode_enc r
      obtain ⟨X, hX⟩ : ∃ X, Utf8.encode (r : Int) = X := ⟨_, rfl⟩
      rw [← hen, hX] at hgc1
      have hki : (acc.length : Int) ≤ 3000 := by omega
      clear hst hW hr hwdd hbw H hrs2 hget hgc hG hen
      obtain ⟨b, hb⟩ : ∃ b, ((acc.length : Int) + 1 == stop) = b := ⟨_, rfl⟩
      have c1 := goes1_any W B g cap rs.length acc.length stop X b hb hG1 hkl (by omega) hgc1
      cases b with
      | true =>
        have hstop : (acc.length : Int) + 1 = stop := by simpa using hb
        have HS := Lib.hid hstop
        clear hb hstop hG1
        go_wp2_with fail
        refine c1.mono ?_
        rintro e w2 ⟨rfl, hG2, b2, _, _⟩
        have hbw2 := hbw1.trans b2
        clear c1 b2
        go_wp2
        refine bodyPost_ret (v := .tuple #[]) (by simp [results, Tryd.results30, go_sem]) rfl ?_
        refine ⟨rfl, ⟨acc.length + 1, true, by simpa using hG2, .inl ⟨?_, ?_⟩⟩, hbw2⟩
        · have := HS.out; omega
        · have := HS.out; omega
      | false =>
        have hstop : (acc.length : Int) + 1 ≠ stop := beq_eq_false_iff_ne.1 hb
        have hst1 : stop < 1 ∨ (acc.length : Int) + 1 < stop := by omega
        clear hb hstop hG1 hst0
        go_wp2_with fail
        refine c1.mono ?_
        rintro e w2 ⟨rfl, hG2, b2, hh2, _⟩
        have hbw2 := hbw1.trans b2
        have hit2 : w2.heap[K]? = some (.stringIter s (pos + wdt)) := (hh2 K (by omega)).trans hit1
        clear c1 b2 hh2
        go_wp2
        go_roundw
        case rel => exact ⟨pos + wdt, acc ++ [r], by simp, hit2, by simpa using hG2, HST.out, by simp; omega, hbw2⟩
        case measure =>
          simp only [World.iterPos, hit2, hit]
          omega
    · have hnx : ∀ ty, (Instr.next (.pointer (some ⟨K, 0, none⟩)) true ty).run Tryd.prog wr = _ := fun ty => Lib.run_next_end_at wr K s pos ty hit hp
      have h1 := H.out
      rw [rp_end s pos hp, List.append_nil] at h1
      have HA := Lib.hid h1
      clear h1 H
      go_wp2
      go_end0
      refine ⟨rfl, ⟨acc.length, false, hG, .inr ?_⟩, hbw⟩
      rw [HA.out]
end Go.Proofs.YtcbjncnhhpappaaDoor
