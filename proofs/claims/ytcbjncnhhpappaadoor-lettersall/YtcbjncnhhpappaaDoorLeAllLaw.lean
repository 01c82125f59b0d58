/-
  The walk of LettersAll.
-/
import Derived.Test.YtcbjncnhhpappaaDoorLeGoes
namespace Go.Proofs.YtcbjncnhhpappaaDoor
open Go.RowKit Go.Lib

/-- The five blocks that goes lays. -/
def five (w : World) (a : Option Addr) (L cap : Nat) (stop : Int) : World :=
  ((((w.alloc (.cells #[.slice a L cap] 35)).alloc (.cells #[.int .i64 stop] 3)).alloc (.cells #[.int .i64 0] 3)).alloc (.cells #[.bool true] 4)).alloc (.cells #[.bool false] 4)
theorem five_size (w : World) (a : Option Addr) (L cap : Nat) (stop : Int) : (five w a L cap stop).heap.size = w.heap.size + 5 := by simp [five]
theorem five_below (w : World) (a : Option Addr) (L cap : Nat) (stop : Int) : Below w.heap.size w (five w a L cap stop) :=
  (((((Below.refl _ w).alloc (Nat.le_refl _) _).alloc (by simp) _).alloc (by simp; omega) _).alloc (by simp; omega) _).alloc (by simp; omega) _
theorem five_heap (w : World) (a : Option Addr) (L cap : Nat) (stop : Int) : ∀ j o, [Obj.cells #[.slice a L cap] 35 (0, 0), .cells #[.int .i64 stop] 3 (0, 0), .cells #[.int .i64 0] 3 (0, 0), .cells #[.bool true] 4 (0, 0), .cells #[.bool false] 4 (0, 0)][j]? = some o → (five w a L cap stop).heap[w.heap.size + j]? = some o := by
  have key : ∀ (w : World) (o : Obj) (k : Nat), k < w.heap.size → (w.alloc o).heap[k]? = w.heap[k]? := fun w o k h => (World.grownBy_alloc w o none).block k h (by simp)
  have new : ∀ (w : World) (o : Obj) (k : Nat), k = w.heap.size → (w.alloc o).heap[k]? = some o := fun w o k h => by subst h; exact heap_alloc_new w o
  intro j o h
  unfold five
  match j, h with
  | 0, h => rw [key _ _ _ (by simp <;> omega), key _ _ _ (by simp <;> omega), key _ _ _ (by simp <;> omega), key _ _ _ (by simp), new _ _ _ (by simp)]; simpa using h
  | 1, h => rw [key _ _ _ (by simp <;> omega), key _ _ _ (by simp <;> omega), key _ _ _ (by simp), new _ _ _ (by simp)]; simpa using h
  | 2, h => rw [key _ _ _ (by simp <;> omega), key _ _ _ (by simp), new _ _ _ (by simp)]; simpa using h
  | 3, h => rw [key _ _ _ (by simp), new _ _ _ (by simp)]; simpa using h
  | 4, h => rw [new _ _ _ (by simp)]; simpa using h
  | j + 5, h => simp at h
theorem five_gst (w : World) (a : Option Addr) (L cap : Nat) (stop : Int) : Gst (five w a L cap stop) w.heap.size a L cap stop 0 true false := by
  have h := five_heap w a L cap stop
  have h0 : (five w a L cap stop).heap[w.heap.size]? = some (.cells #[.slice a L cap] 35 (0, 0)) := h 0 _ rfl
  have h1 := h 1 _ rfl
  have h2 := h 2 _ rfl
  have h3 := h 3 _ rfl
  have h4 := h 4 _ rfl
  exact ⟨by simp [World.cell?, h0], by simp [World.cell?, h1], by simp [World.cell?, h2], by simp [World.cell?, h3], by simp [World.cell?, h4], Lib.frozen_of_heap h2 0, Lib.frozen_of_heap h3 0, Lib.frozen_of_heap h4 0⟩

set_option maxHeartbeats 8000000 in
set_option maxRecDepth 100000 in
theorem goes_any (s : ByteArray) (rs : List Nat) (HRS : Hid (rl s.data.toList = rs)) (w : World) (b0 cap : Nat) (a : Option Addr) (stop : Int) (hs : s.size ≤ 3000) (hle : rs.length ≤ s.size)
    (hs0 : w.cell? ⟨b0, 0, none⟩ = some (.string s))
    (HL : Hid (∀ j (hj : j < rs.length), ∃ g, g < w.heap.size ∧ a = some ⟨g, 0, none⟩ ∧ w.cell? ⟨g, j, none⟩ = some (.string ⟨(enc rs[j]).toArray⟩))) :
    Calls Tryd.prog 20 #[.func (.func 30) #[] #[.pointer (some ⟨b0, 0, none⟩)], .slice a rs.length cap, .int .i64 stop] w fun e w' => e = .returned (.bool true) ∧ Below w.heap.size w w' := by
  have hmf : ∀ (fn : Fn) (first cap : Array Value) (w : World), (Instr.makeFunc fn first cap).run Tryd.prog w = .ok (.func fn first cap) w := fun _ _ _ _ => rfl
  have hb5 := five_below w a rs.length cap stop
  have hs5 := five_size w a rs.length cap stop
  have hs05 : (five w a rs.length cap stop).cell? ⟨b0, 0, none⟩ = some (.string s) := (hb5.cell (p := ⟨b0, 0, none⟩) (lt_of_cell hs0)).trans hs0
  have HL5 : Hid (∀ j (hj : j < rs.length), ∃ g, g < w.heap.size ∧ a = some ⟨g, 0, none⟩ ∧ (five w a rs.length cap stop).cell? ⟨g, j, none⟩ = some (.string ⟨(enc rs[j]).toArray⟩)) := by
    intro j hj
    obtain ⟨g, h1, h2, h3⟩ := HL.out j hj
    exact ⟨g, h1, h2, (hb5.cell (p := ⟨g, j, none⟩) h1).trans h3⟩
  have c := allSeq_any s rs HRS (five w a rs.length cap stop) b0 w.heap.size cap a stop hs hle (five_gst w a rs.length cap stop) hs05 (by omega) HL5
  have HB := Lib.hid hb5
  clear hs5 hs05 HL5 hb5 HL
  unfold five at c
  go_enter Tryd.func20, Tryd.ntmps20
  go_wp2_with fail
  refine c.mono ?_
  rintro e w2 ⟨rfl, ⟨n, over, hG, hn⟩, b2⟩
  have hbw : Below w.heap.size w w2 := HB.out.trans b2
  obtain ⟨g1, g2, g3, g4, g5, _, _, _⟩ := hG
  have hcase : (((n : Int) == stop) = true ∧ 0 < stop) ∨ (((n : Int) == stop) = true ∧ ¬ 0 < stop ∧ ((n : Int) == ((rs.length : Nat) : Int)) = true) ∨ (((n : Int) == stop) = false ∧ ((n : Int) == ((rs.length : Nat) : Int)) = true) := by
    by_cases h : (n : Int) = stop
    · by_cases h2 : 0 < stop
      · left; exact ⟨beq_iff_eq.2 h, h2⟩
      · right; left; exact ⟨beq_iff_eq.2 h, h2, beq_iff_eq.2 (by omega)⟩
    · right; right; exact ⟨beq_eq_false_iff_ne.2 h, beq_iff_eq.2 (by omega)⟩
  clear c b2 hn
  rcases hcase with ⟨c1, c2⟩ | ⟨c1, c2, c3⟩ | ⟨c1, c2⟩
  all_goals
    go_wp2
    go_ret
    exact ⟨rfl, hbw⟩

theorem letAll_any (s : ByteArray) (w : World) :
    Calls Tryd.prog 18 #[.string s] w fun e w' => e = .returned (.func (.func 30) #[] #[.pointer (some ⟨w.heap.size, 0, none⟩)]) ∧ w' = w.alloc (.cells #[.string s] 9) := by
  have hmf : ∀ (fn : Fn) (first cap : Array Value) (w : World), (Instr.makeFunc fn first cap).run Tryd.prog w = .ok (.func fn first cap) w := fun _ _ _ _ => rfl
  go_enter Tryd.func18, Tryd.ntmps18
  go_wp2
  go_ret
  exact ⟨rfl, rfl⟩

set_option maxHeartbeats 16000000 in
set_option maxRecDepth 100000 in
theorem all_walk (s : ByteArray) (stop : Int) (w : World) (hE : Env w) :
    Calls Tryd.prog 4 #[.string s, .int .i64 stop] w fun e w' => e = .returned (.bool true) ∧ Below w.heap.size w w' := by
  by_cases h1 : s.size ≤ 3000
  · have i1 : ¬ (3000 : Int) < (s.size : Int) := by omega
    have cL := fun w => refAll_any s w h1
    have cG := fun w (h : Env w) => good_any s w (by omega) h
    have hle := rl_le s.data.toList
    rw [str_len] at hle
    have hel := encs_len (rl s.data.toList)
    have cM := fun w (h : Env w) => good_any ⟨(mend s.data.toList).toArray⟩ w (by show (encs (rl s.data.toList)).length < 1000000; omega) h
    rw [show (ByteArray.mk (mend s.data.toList).toArray).data.toList = mend s.data.toList from rfl, mend_valid] at cM
    have hts := str_eq_list (mend s.data.toList) s
    rw [← valid_iff] at hts
    unfold mend at cM hts
    obtain ⟨rs, hrs⟩ : ∃ rs, rl s.data.toList = rs := ⟨_, rfl⟩
    have HRS := Lib.hid hrs
    rw [hrs] at hle hel hts
    simp only [hrs] at cL cM
    obtain ⟨M, hM⟩ : ∃ M, ByteArray.mk (encs rs).toArray = M := ⟨_, rfl⟩
    rw [hM] at hts
    simp only [hM] at cM
    have HM := Lib.hid hM
    generalize hV : validD s.data.toList = V at *
    have HL := Lib.hid cL
    have HG := Lib.hid cG
    have HG2 := Lib.hid cM
    have HTS := Lib.hid hts
    clear cL cG cM hM hts hrs hV
    have cA := letAll_any s w
    have b1 : Below w.heap.size w (w.alloc (.cells #[.string s] 9)) := (Below.refl _ _).alloc (Nat.le_refl _) _
    have hc0 : (w.alloc (.cells #[.string s] 9)).cell? ⟨w.heap.size, 0, none⟩ = some (.string s) := by rw [World.cell?_alloc_at _ _ _ _ rfl]; rfl
    have hfn : ∀ wx fn f1 c, (binOp .eql 33 (.func fn f1 c) .nilFunc).run Tryd.prog wx = .ok (.bool false) wx := fun _ _ _ _ => by kernel_rfl
    go_enter Tryd.func4, Tryd.ntmps4
    go_wp2_with fail
    refine cA.mono ?_
    rintro e w1 ⟨rfl, hw1⟩
    rw [← hw1] at b1 hc0
    clear hw1 cA
    have e1 := hE.below b1
    go_wp2_with fail
    refine (HL.out w1).mono ?_
    rintro e w3 ⟨v, rfl, hS, b3⟩
    have e3 := e1.below b3
    have hc3 : w3.cell? ⟨w.heap.size, 0, none⟩ = some (.string s) := (b3.cell (p := ⟨_, 0, none⟩) (lt_of_cell hc0)).trans hc0
    replace b3 := b1.trans (b3.mono b1.size)
    obtain ⟨a, cap, rfl, hcell⟩ := pcs_form hS
    have hg3 : ∀ j (hj : j < rs.length), ∃ g, g < w3.heap.size ∧ a = some ⟨g, 0, none⟩ ∧ w3.cell? ⟨g, j, none⟩ = some (.string ⟨(enc rs[j]).toArray⟩) := fun j hj => by
      obtain ⟨g, _, h2, h3, h4⟩ := hcell j hj
      exact ⟨g, h2, h3, h4⟩
    have HC3 := Lib.hid hg3
    clear hcell hg3 hS b1 e1 hc0
    go_wp2_with fail
    refine (goes_any s rs HRS w3 w.heap.size cap a stop h1 hle hc3 HC3).mono ?_
    rintro e w4 ⟨rfl, b4⟩
    have e4 := e3.below b4
    have hc4 : w4.cell? ⟨w.heap.size, 0, none⟩ = some (.string s) := (b4.cell (p := ⟨_, 0, none⟩) (lt_of_cell hc3)).trans hc3
    have HC4 : Hid (∀ j (hj : j < rs.length), ∃ g, g < w4.heap.size ∧ a = some ⟨g, 0, none⟩ ∧ w4.cell? ⟨g, j, none⟩ = some (.string ⟨(enc rs[j]).toArray⟩)) := by
      intro j hj
      obtain ⟨g, h2, h3, h4⟩ := HC3.out j hj
      exact ⟨g, Nat.lt_of_lt_of_le h2 b4.size, h3, (b4.cell (p := ⟨g, j, none⟩) h2).trans h4⟩
    replace b4 := b3.trans (b4.mono b3.size)
    clear HC3 b3 e3 hc3
    go_wp2_with fail
    refine (goes_any s rs HRS w4 w.heap.size cap a 0 h1 hle hc4 HC4).mono ?_
    rintro e w5 ⟨rfl, b5⟩
    have e5 := e4.below b5
    have HC5 : Hid (∀ j (hj : j < rs.length), ∃ g, a = some ⟨g, 0, none⟩ ∧ w5.cell? ⟨g, j, none⟩ = some (.string ⟨(enc rs[j]).toArray⟩)) := by
      intro j hj
      obtain ⟨g, h2, h3, h4⟩ := HC4.out j hj
      exact ⟨g, h3, (b5.cell (p := ⟨g, j, none⟩) h2).trans h4⟩
    replace b5 := b4.trans (b5.mono b4.size)
    clear HC4 b4 e4 hc4
    go_wp2
    go_loop [7, 8] (fun t i => ∃ k : Nat, i = .int .i64 (k : Int) ∧ k ≤ rs.length ∧ t = .string ⟨(encs (rs.take k)).toArray⟩) (fun _ i => rs.length - (RowKit.intOf i).toNat)
    case atStart => exact ⟨0, rfl, Nat.zero_le _, rfl⟩
    case round =>
      obtain ⟨k, rfl, hk, rfl⟩ := hrel
      have hel := encs_len (rs.take k)
      rw [List.length_take] at hel
      by_cases hlt : k < rs.length
      · have ilt : (k : Int) < (rs.length : Int) := by omega
        obtain ⟨g, rfl, hc⟩ := HC5.out k hlt
        have hcat := cat_list (encs (rs.take k)) (enc rs[k])
        rw [← encs_take rs k hlt] at hcat
        have hXs : (ByteArray.mk (encs (rs.take k)).toArray).size ≤ 20000 := by show (encs (rs.take k)).length ≤ 20000; omega
        have hYs : (ByteArray.mk (enc rs[k]).toArray).size ≤ 4 := (enc_len rs[k]).2
        obtain ⟨X, hX⟩ : ∃ X, ByteArray.mk (encs (rs.take k)).toArray = X := ⟨_, rfl⟩
        obtain ⟨Y, hY⟩ : ∃ Y, ByteArray.mk (enc rs[k]).toArray = Y := ⟨_, rfl⟩
        rw [hX] at hcat hXs ⊢
        rw [hY] at hcat hYs hc
        have HCat := Lib.hid hcat
        clear hX hY hcat hel
        go_wp2
        go_round
        case rel => exact ⟨k + 1, by go_num, by omega, by rw [← HCat.out]⟩
        case measure => simp [RowKit.intOf]; omega
      · have ilt : ¬ (k : Int) < (rs.length : Int) := by omega
        obtain rfl : k = rs.length := by omega
        rw [List.take_length, HM.out]
        clear hel
        have hts := HTS.out
        go_wp2_with fail
        refine (HG.out w5 e5).mono ?_
        rintro e w6 ⟨rfl, b6⟩
        have e6 := e5.below b6
        replace b6 := b5.trans (b6.mono b5.size)
        go_wp2_with fail
        refine (HG2.out w6 e6).mono ?_
        rintro e w7 ⟨rfl, b7⟩
        have e7 := e6.below b7
        replace b7 := b6.trans (b7.mono b6.size)
        go_wp2_with fail
        refine (awake_any _ e7).mono ?_
        rintro e w8 ⟨rfl, b8⟩
        go_wp2
        go_ret
        exact ⟨rfl, b7.trans (b8.mono b7.size)⟩
  · have i1 : (3000 : Int) < (s.size : Int) := by omega
    go_enter Tryd.func4, Tryd.ntmps4
    go_wp2_with fail
    refine (awake_any w hE).mono ?_
    rintro e w1 ⟨rfl, hb⟩
    go_wp2
    go_ret
    exact ⟨rfl, hb⟩
end Go.Proofs.YtcbjncnhhpappaaDoor
