/-
  New, Make; what a namespace tells: Len, Version, Shared, Get; a meter that is none.
-/
import Derived.Test.YtmgachknfeamkaaGreatShSet
import Derived.Test.YtmgachknfeamkaaGreatShOk
import Derived.Carry
namespace Go.Proofs.YtmgachknfeamkaaGreat
open Go.RowKit Go.WideShapes

set_option maxRecDepth 100000 in
set_option maxHeartbeats 1600000 in
theorem scount_nil (k n : Int) (w : World) :
    Calls Tryz.prog 138 #[.pointer none, .int .i64 k, .int .i64 n] w fun e w' => e = .returned (.tuple #[]) ∧ w' = w := by
  go_enter_defers Tryz.func138, Tryz.ntmps138
  go_wp2_with fail
  exact ⟨_, results_none rfl _ _ _, rfl, rfl⟩
theorem stable_nil (w : World) : Calls Tryz.prog 119 #[.pointer none] w fun e w' => e = .returned (.tuple #[]) ∧ w' = w := by
  go_enter Tryz.func119, Tryz.ntmps119
  go_wp2_with fail
  refine (scount_nil 0 1 w).mono ?_
  rintro e w' ⟨rfl, rfl⟩
  go_wp2
  go_end0
  exact ⟨rfl, rfl⟩
theorem svisit_nil (n : Int) (w : World) : Calls Tryz.prog 125 #[.pointer none, .int .i64 n] w fun e w' => e = .returned (.tuple #[]) ∧ w' = w := by
  go_enter Tryz.func125, Tryz.ntmps125
  go_wp2_with fail
  refine (scount_nil 1 n w).mono ?_
  rintro e w' ⟨rfl, rfl⟩
  go_wp2
  go_end0
  exact ⟨rfl, rfl⟩
theorem scharge_nil (n : Int) (w : World) : Calls Tryz.prog 187 #[.pointer none, .int .i64 n] w fun e w' => e = .returned (.tuple #[]) ∧ w' = w := by
  go_enter Tryz.func187, Tryz.ntmps187
  go_wp2_with fail
  refine (scount_nil 2 n w).mono ?_
  rintro e w' ⟨rfl, rfl⟩
  go_wp2
  go_end0
  exact ⟨rfl, rfl⟩
theorem sturn_nil (w : World) : Calls Tryz.prog 190 #[.pointer none] w fun e w' => e = .returned (.tuple #[]) ∧ w' = w := by
  go_enter Tryz.func190, Tryz.ntmps190
  go_wp2_with fail
  refine (scount_nil 3 1 w).mono ?_
  rintro e w' ⟨rfl, rfl⟩
  go_wp2
  go_end0
  exact ⟨rfl, rfl⟩
def no4 : Int → Int → Int → Int → World → Prop := fun _ _ _ _ _ => True
theorem m4_nil : M4 (.pointer none) no4 where
  mt c d := ⟨fun a b w _ _ _ => (stable_nil w).mono fun e w' ⟨h1, h2⟩ => ⟨h1, trivial, by rw [h2]; exact Ex.refl _ _⟩, fun _ _ _ _ _ _ => trivial, fun a b w k _ h => by cases h⟩
  vi c d := fun a b w _ _ _ => (svisit_nil 1 w).mono fun e w' ⟨h1, h2⟩ => ⟨h1, trivial, by rw [h2]; exact Ex.refl _ _⟩
  ch := fun a b c d w _ _ _ => (scharge_nil 1 w).mono fun e w' ⟨h1, h2⟩ => ⟨h1, trivial, by rw [h2]; exact Ex.refl _ _⟩
  tu := fun a b c d w _ _ _ => (sturn_nil w).mono fun e w' ⟨h1, h2⟩ => ⟨h1, trivial, by rw [h2]; exact Ex.refl _ _⟩
theorem noMet {k : Nat} (h : mB (.pointer none) k) : False := by cases h
set_option maxRecDepth 100000 in
theorem shnew_no {w : World} {pm : Option Addr} (room most : Int) (h : ¬ (0 ≤ room ∧ room ≤ 256 ∧ 0 ≤ most ∧ most ≤ 65536)) :
    Calls Tryz.prog 25 #[.int .i64 room, .int .i64 most, .pointer pm] w fun e w' => e = .returned (.tuple #[.pointer none, .int .i64 1]) ∧ w' = w := by
  by_cases h1 : room < 0
  · go_enter Tryz.func25, Tryz.ntmps25
    go_wp2
    exact bodyPost_ret (v := .tuple #[.pointer none, .int .i64 1]) (by simp [results, Tryz.results25, go_sem]) rfl ⟨rfl, rfl⟩
  · by_cases h2 : 256 < room
    · go_enter Tryz.func25, Tryz.ntmps25
      go_wp2
      exact bodyPost_ret (v := .tuple #[.pointer none, .int .i64 1]) (by simp [results, Tryz.results25, go_sem]) rfl ⟨rfl, rfl⟩
    · by_cases h3 : most < 0
      · go_enter Tryz.func25, Tryz.ntmps25
        go_wp2
        exact bodyPost_ret (v := .tuple #[.pointer none, .int .i64 1]) (by simp [results, Tryz.results25, go_sem]) rfl ⟨rfl, rfl⟩
      · have h4 : 65536 < most := by omega
        go_enter Tryz.func25, Tryz.ntmps25
        go_wp2
        exact bodyPost_ret (v := .tuple #[.pointer none, .int .i64 1]) (by simp [results, Tryz.results25, go_sem]) rfl ⟨rfl, rfl⟩
set_option maxRecDepth 100000 in
set_option maxHeartbeats 1600000 in
theorem shnew_any {w : World} {pm : Option Addr} {N : Int → Int → Int → Int → World → Prop} {a b c d : Int} (hM4 : M4 (.pointer pm) N) (hM : N a b c d w) (ha : 0 ≤ a ∧ a ≤ 100000000) (room most : Nat) (hr : room ≤ 256) (hm : most ≤ 65536) :
    Calls Tryz.prog 25 #[.int .i64 (room : Int), .int .i64 (most : Int), .pointer pm] w fun e w' => ∃ f XF, e = .returned (.tuple #[.pointer (some ⟨f, 0, none⟩), .int .i64 0]) ∧ FamX w' f ⟨[], Tb.new, room, most⟩ (.pointer pm) XF ∧ (∀ k, XF k → w.heap.size ≤ k) ∧ N (a + 1) b c d w' ∧ Ex (mB (.pointer pm)) w w' := by
  have t1 : ¬ (room : Int) < 0 := by omega
  have t2 : ¬ (256 : Int) < (room : Int) := by omega
  have t3 : ¬ (most : Int) < 0 := by omega
  have t4 : ¬ (65536 : Int) < (most : Int) := by omega
  have CN := new7_any (hM4.mt c d) hM ⟨ha.1, by omega⟩
  have HM4 := Lib.hid hM4
  have HM := Lib.hid hM
  clear hM4 hM
  have hmm := @run_makeMap Tryz.prog
  go_enter Tryz.func25, Tryz.ntmps25
  go_wp2_with fail
  refine CN.mono ?_
  rintro e w1 ⟨g, gi, r, h, rfl, hg, hgi, hr', hh, hD, hM1, hx1⟩
  clear CN
  have hs1 := hx1.size
  obtain ⟨w2, hw2⟩ : ∃ y, w1.alloc (.map #[] 0) = y := ⟨_, rfl⟩
  obtain ⟨w3, hw3⟩ : ∃ y, w2.alloc (.cells #[.pointer pm, .pointer (some ⟨g, 0, none⟩), .int .i64 (room : Int), .int .i64 (most : Int), .map (some w1.heap.size), .slice none 0 0] 58) = y := ⟨_, rfl⟩
  have hB2 : Below w1.heap.size w1 w2 := by rw [← hw2]; exact (Below.refl _ w1).alloc (Nat.le_refl _) _
  have hs2 : w2.heap.size = w1.heap.size + 1 := by rw [← hw2]; simp
  have hB3 : Below w2.heap.size w2 w3 := by rw [← hw3]; exact (Below.refl _ w2).alloc (Nat.le_refl _) _
  have hNm : Nm w3 w1.heap.size [] := by
    have h1 : Nm w2 w1.heap.size [] := by rw [← hw2]; exact Nm.new w1
    exact h1.same (hB3.block _ (by omega))
  have hF3 : Blk w3 w2.heap.size 6 (fF (.pointer pm) g room most w1.heap.size (.slice none 0 0)) := by
    rw [← hw3]
    refine (Blk.new w2 _ _).congr fun j hj => ?_
    have : j = 0 ∨ j = 1 ∨ j = 2 ∨ j = 3 ∨ j = 4 ∨ j = 5 := by simp at hj; omega
    rcases this with rfl | rfl | rfl | rfl | rfl | rfl <;> rfl
  have hB13 : Below w1.heap.size w1 w3 := hB2.trans (hB3.mono (by omega))
  have hdl := hD.lt
  have HF : Hid (FamX w3 w2.heap.size ⟨[], Tb.new, room, most⟩ (.pointer pm) (fX w2.heap.size g gi r h (.slice none 0 0) w1.heap.size (.slice none 0 0)) ∧ (∀ k, fX w2.heap.size g gi r h (.slice none 0 0) w1.heap.size (.slice none 0 0) k → w.heap.size ≤ k) ∧ N (a + 1) b c d w3 ∧ Ex (mB (.pointer pm)) w w3) := by
    refine ⟨⟨g, gi, r, h, _, w1.heap.size, _, ⟨⟨hF3, hNm, Ns.nil _, by omega, fun k hk => by cases hk⟩, hD.below hB13, ?_, ?_⟩, rfl⟩, ?_, (HM4.out.mt c d).below hM1 hB13, hx1.trans (ex_of hB13)⟩
    · rintro k (y | y | y) z
      · have := hdl k z; omega
      · have := hdl k z; omega
      · cases y
    · rintro k hk (y | y | y)
      · have := (HM4.out.mt c d).lt _ _ _ _ HM.out hk; omega
      · have := (HM4.out.mt c d).lt _ _ _ _ HM.out hk; omega
      · cases y
    · rintro k ((y | y | y) | (y | y | y | y | y))
      · omega
      · omega
      · cases y
      · omega
      · omega
      · omega
      · omega
      · cases y
  have HW2 := Lib.hid hw2
  have HW3 := Lib.hid hw3
  have HS2 := Lib.hid hs2
  clear hw2 hw3 hB2 hB3 hNm hF3 hB13 hdl hD hM1 hx1 hs2
  go_upto_region 4 with fail
  rw [HW2.out, HW3.out]
  go_wp2
  exact bodyPost_ret (v := .tuple #[.pointer (some ⟨w2.heap.size, 0, none⟩), .int .i64 0]) (by simp [results, Tryz.results25, go_sem]; exact HS2.out.symm) rfl ⟨_, _, rfl, HF.out.1, HF.out.2.1, HF.out.2.2.1, HF.out.2.2.2⟩
set_option maxRecDepth 100000 in
theorem make_any {w : World} {f : Nat} {F : Fa} {mv : Value} {XF : Nat → Prop} (hF : FamX w f F mv XF) (hm : ∀ k, mB mv k → k < w.heap.size) :
    Calls Tryz.prog 13 #[.pointer (some ⟨f, 0, none⟩)] w fun e w' => ∃ s XS, e = .returned (.pointer (some ⟨s, 0, none⟩)) ∧ Fs w' f F mv XF s (.row []) 0 XS ∧ (∀ k, XS k → w.heap.size ≤ k) ∧ Below w.heap.size w w' := by
  have h1 := eqFa f
  obtain ⟨w1, hw1⟩ : ∃ y, w.alloc (.cells #[.pointer (some ⟨f, 0, none⟩), .slice none 0 0] 116) = y := ⟨_, rfl⟩
  obtain ⟨w2, hw2⟩ : ∃ y, w1.alloc (.cells #[.pointer (some ⟨f, 0, none⟩), .iface 114 (.pointer (some ⟨w.heap.size, 0, none⟩)), .int .u64 0] 63) = y := ⟨_, rfl⟩
  have hB1 : Below w.heap.size w w1 := by rw [← hw1]; exact (Below.refl _ w).alloc (Nat.le_refl _) _
  have hs1 : w1.heap.size = w.heap.size + 1 := by rw [← hw1]; simp
  have hB2 : Below w1.heap.size w1 w2 := by rw [← hw2]; exact (Below.refl _ w1).alloc (Nat.le_refl _) _
  have hq : Blk w2 w.heap.size 2 (sdF f (.slice none 0 0)) := by
    have : Blk w1 w.heap.size 2 (sdF f (.slice none 0 0)) := by
      rw [← hw1]
      refine (Blk.new w _ _).congr fun j hj => ?_
      have : j = 0 ∨ j = 1 := by simp at hj; omega
      rcases this with rfl | rfl <;> rfl
    exact this.of hB2 (by omega)
  have hb : Blk w2 w1.heap.size 3 (spF f 114 w.heap.size 0) := by
    rw [← hw2]
    refine (Blk.new w1 _ _).congr fun j hj => ?_
    have : j = 0 ∨ j = 1 ∨ j = 2 := by simp at hj; omega
    rcases this with rfl | rfl | rfl <;> rfl
  have hBw : Below w.heap.size w w2 := hB1.trans (hB2.mono (by omega))
  have HF : Hid (Fs w2 f F mv XF w1.heap.size (.row []) 0 (fun k => k = w1.heap.size ∨ (k = w.heap.size ∨ (Value.slice none 0 0).ownBlock = some k)) ∧ (∀ k, (k = w1.heap.size ∨ (k = w.heap.size ∨ (Value.slice none 0 0).ownBlock = some k)) → w.heap.size ≤ k) ∧ Below w.heap.size w w2) := by
    refine ⟨⟨hF.same fun k hk => hBw.block k (hF.lt k hk), ⟨w.heap.size, fun k => k = w.heap.size ∨ (Value.slice none 0 0).ownBlock = some k, hb, ⟨_, hq, IntsR.nil _ _, (fun y => by cases y), rfl⟩, ?_, rfl⟩, ?_, ?_⟩, ?_, hBw⟩
    · rintro (y | y)
      · omega
      · cases y
    · rintro k hk (y | y | y)
      · have := hF.lt k hk; omega
      · have := hF.lt k hk; omega
      · cases y
    · rintro k hk (y | y | y)
      · have := hm k hk; omega
      · have := hm k hk; omega
      · cases y
    · rintro k (y | y | y)
      · omega
      · omega
      · cases y
  have HW1 := Lib.hid hw1
  have HW2 := Lib.hid hw2
  clear hw1 hw2 hB1 hB2 hq hb hBw hF hm
  go_enter Tryz.func13, Tryz.ntmps13
  go_wp2
  rw [HW1.out, HW2.out]
  go_ret
  exact ⟨_, _, by first | rfl | (simp [← HW1.out]), HF.out.1, HF.out.2.1, HF.out.2.2⟩
theorem mR_shared (a : Option Addr) (w : World) : (method 349 114 (.pointer a) "lexicon/shared.isShared").run Tryz.prog w = .ok (176, .pointer a) w := by kernel_rfl
theorem mO_shared (a : Option Addr) (w : World) : (method 349 236 (.pointer a) "lexicon/shared.isShared").run Tryz.prog w = .ok (217, .pointer a) w := by kernel_rfl
theorem mR_value (a : Option Addr) (w : World) : (method 349 114 (.pointer a) "lexicon/shared.value").run Tryz.prog w = .ok (183, .pointer a) w := by kernel_rfl
theorem mO_value (a : Option Addr) (w : World) : (method 349 236 (.pointer a) "lexicon/shared.value").run Tryz.prog w = .ok (223, .pointer a) w := by kernel_rfl
theorem rowShared (a : Value) (w : World) : Calls Tryz.prog 176 #[a] w fun e w' => e = .returned (.bool true) ∧ w' = w := by
  go_enter Tryz.func176, Tryz.ntmps176
  go_wp2
  go_ret
  exact ⟨rfl, rfl⟩
theorem ownShared (a : Value) (w : World) : Calls Tryz.prog 217 #[a] w fun e w' => e = .returned (.bool false) ∧ w' = w := by
  go_enter Tryz.func217, Tryz.ntmps217
  go_wp2
  go_ret
  exact ⟨rfl, rfl⟩
def isRow : Stn → Bool
  | .row _ => true
  | .own _ => false
theorem shared_any {w : World} {s f : Nat} {mv : Value} {v : Nat} {XS : Nat → Prop} {st : Stn} (h : Sm w s f mv v XS st) :
    Calls Tryz.prog 23 #[.pointer (some ⟨s, 0, none⟩)] w fun e w' => e = .returned (.bool (isRow st)) ∧ w' = w := by
  obtain ⟨q, XQ, h1, _, _, _⟩ := h
  cases st with
  | row vs =>
    have x1 : w.cell? ⟨s, 1, none⟩ = some (.iface 114 (.pointer (some ⟨q, 0, none⟩))) := h1.c 1 (by omega)
    have CN := isNothing_no x1
    have mm := mR_shared (some ⟨q, 0, none⟩)
    have CS := rowShared (.pointer (some ⟨q, 0, none⟩)) w
    clear h1
    go_enter Tryz.func23, Tryz.ntmps23
    go_wp2_with fail
    refine CN.mono ?_
    rintro e w1 ⟨rfl, rfl⟩
    go_wp2_with fail
    refine CS.mono ?_
    rintro e w2 ⟨rfl, rfl⟩
    go_wp2
    go_ret
    exact ⟨rfl, rfl⟩
  | own t =>
    have x1 : w.cell? ⟨s, 1, none⟩ = some (.iface 236 (.pointer (some ⟨q, 0, none⟩))) := h1.c 1 (by omega)
    have CN := isNothing_no x1
    have mm := mO_shared (some ⟨q, 0, none⟩)
    have CS := ownShared (.pointer (some ⟨q, 0, none⟩)) w
    clear h1
    go_enter Tryz.func23, Tryz.ntmps23
    go_wp2_with fail
    refine CN.mono ?_
    rintro e w1 ⟨rfl, rfl⟩
    go_wp2_with fail
    refine CS.mono ?_
    rintro e w2 ⟨rfl, rfl⟩
    go_wp2
    go_ret
    exact ⟨rfl, rfl⟩
end Go.Proofs.YtmgachknfeamkaaGreat
