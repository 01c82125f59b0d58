/-
  New, Make; what a namespace tells: Len, Version, Shared, Get; a meter that is none.
  A range over a function whose body may alter what was laid since it began, but for the loop's own blocks; the body always comes to its end. No program.
  table.All's iterator, for bodies that alter what they have laid.
  A drawn region inside a round, walked as outside of it. No program.
  A family's Names.
  A namespace's Get; the law's names.
  awake: its names. No walk.
  awake.
  Short facts of the program that the lifting asks.
  A row of stage 10's steps that was handed in, laid open; much.
-/
import Derived.Test.YtcbhpjpkjmlcnaaGreatGxah
import Derived.Carry
import Derived.Test.YtcbhpjpkjmlcnaaGreatGxaa
import Derived.Test.YtcbhpjpkjmlcnaaGreatGxae
import Derived.Deep.RegionHeld3
import Derived.RangeFuncCalls
import Derived.OrdersIn
import Derived.OwnWalkIn
import Derived.Test.YtcbhpjpkjmlcnaaGreatGxag
import Derived.Deep.Onto
import Derived.Laws.OwnMore
import Derived.ProofKit
import Derived.OpenShut
import Derived.ShutString
import Derived.ChangeOld
import Derived.Below
import Derived.Lib.SmallJoins
import Derived.Test.YtcbhpjpkjmlcnaaGreatRows
import Derived.ChangeArms
import Derived.Deep.Slices
import Derived.ChangeSame
namespace Go.Proofs.YtcbhpjpkjmlcnaaGreat
open Go.RowKit Go.WideShapes

set_option maxRecDepth 100000 in
set_option maxHeartbeats 1600000 in
theorem scount_nil (k n : Int) (w : World) :
    Calls Tryz.prog 131 #[.pointer none, .int .i64 k, .int .i64 n] w fun e w' => e = .returned (.tuple #[]) ∧ w' = w := by
  go_enter_defers Tryz.func131, Tryz.ntmps131
  go_wp2_with fail
  exact ⟨_, results_none rfl _ _ _, rfl, rfl⟩
theorem stable_nil (w : World) : Calls Tryz.prog 115 #[.pointer none] w fun e w' => e = .returned (.tuple #[]) ∧ w' = w := by
  go_enter Tryz.func115, Tryz.ntmps115
  go_wp2_with fail
  refine (scount_nil 0 1 w).mono ?_
  rintro e w' ⟨rfl, rfl⟩
  go_wp2
  go_end0
  exact ⟨rfl, rfl⟩
theorem svisit_nil (n : Int) (w : World) : Calls Tryz.prog 121 #[.pointer none, .int .i64 n] w fun e w' => e = .returned (.tuple #[]) ∧ w' = w := by
  go_enter Tryz.func121, Tryz.ntmps121
  go_wp2_with fail
  refine (scount_nil 1 n w).mono ?_
  rintro e w' ⟨rfl, rfl⟩
  go_wp2
  go_end0
  exact ⟨rfl, rfl⟩
theorem scharge_nil (n : Int) (w : World) : Calls Tryz.prog 180 #[.pointer none, .int .i64 n] w fun e w' => e = .returned (.tuple #[]) ∧ w' = w := by
  go_enter Tryz.func180, Tryz.ntmps180
  go_wp2_with fail
  refine (scount_nil 2 n w).mono ?_
  rintro e w' ⟨rfl, rfl⟩
  go_wp2
  go_end0
  exact ⟨rfl, rfl⟩
theorem sturn_nil (w : World) : Calls Tryz.prog 183 #[.pointer none] w fun e w' => e = .returned (.tuple #[]) ∧ w' = w := by
  go_enter Tryz.func183, Tryz.ntmps183
  go_wp2_with fail
  refine (scount_nil 3 1 w).mono ?_
  rintro e w' ⟨rfl, rfl⟩
  go_wp2
  go_end0
  exact ⟨rfl, rfl⟩
def no4 : Int → Int → Int → Int → World → Prop := fun _ _ _ _ _ => True
theorem m4_nil : M4 (.pointer none) no4 where
  mt c d := ⟨fun a b w _ _ _ => (stable_nil w).mono fun e w' ⟨h1, h2⟩ => ⟨h1, trivial, by rw [h2]; exact Ex.refl _ _⟩, fun _ _ _ _ _ _ => trivial, fun a b w k _ h => by cases h⟩
  vi c d := fun a b w _ _ _ => (svisit_nil 1 w).mono fun e w' ⟨h1, h2⟩ => ⟨h1, trivial, by rw [h2]; exact Ex.refl _ _⟩
  ch := fun a b c d w _ _ _ => (scharge_nil 1 w).mono fun e w' ⟨h1, h2⟩ => ⟨h1, trivial, by rw [h2]; exact Ex.refl _ _⟩
  tu := fun a b c d w _ _ _ => (sturn_nil w).mono fun e w' ⟨h1, h2⟩ => ⟨h1, trivial, by rw [h2]; exact Ex.refl _ _⟩
theorem noMet {k : Nat} (h : mB (.pointer none) k) : False := by cases h
set_option maxRecDepth 100000 in
theorem shnew_no {w : World} {pm : Option Addr} (room most : Int) (h : ¬ (0 ≤ room ∧ room ≤ 256 ∧ 0 ≤ most ∧ most ≤ 65536)) :
    Calls Tryz.prog 19 #[.int .i64 room, .int .i64 most, .pointer pm] w fun e w' => e = .returned (.tuple #[.pointer none, .int .i64 1]) ∧ w' = w := by
  by_cases h1 : room < 0
  · go_enter Tryz.func19, Tryz.ntmps19
    go_wp2
    exact bodyPost_ret (v := .tuple #[.pointer none, .int .i64 1]) (by simp [results, Tryz.results19, go_sem]) rfl ⟨rfl, rfl⟩
  · by_cases h2 : 256 < room
    · go_enter Tryz.func19, Tryz.ntmps19
      go_wp2
      exact bodyPost_ret (v := .tuple #[.pointer none, .int .i64 1]) (by simp [results, Tryz.results19, go_sem]) rfl ⟨rfl, rfl⟩
    · by_cases h3 : most < 0
      · go_enter Tryz.func19, Tryz.ntmps19
        go_wp2
        exact bodyPost_ret (v := .tuple #[.pointer none, .int .i64 1]) (by simp [results, Tryz.results19, go_sem]) rfl ⟨rfl, rfl⟩
      · have h4 : 65536 < most := by omega
        go_enter Tryz.func19, Tryz.ntmps19
        go_wp2
        exact bodyPost_ret (v := .tuple #[.pointer none, .int .i64 1]) (by simp [results, Tryz.results19, go_sem]) rfl ⟨rfl, rfl⟩
set_option maxRecDepth 100000 in
set_option maxHeartbeats 1600000 in
theorem shnew_any {w : World} {pm : Option Addr} {N : Int → Int → Int → Int → World → Prop} {a b c d : Int} (hM4 : M4 (.pointer pm) N) (hM : N a b c d w) (ha : 0 ≤ a ∧ a ≤ 100000000) (room most : Nat) (hr : room ≤ 256) (hm : most ≤ 65536) :
    Calls Tryz.prog 19 #[.int .i64 (room : Int), .int .i64 (most : Int), .pointer pm] w fun e w' => ∃ f XF, e = .returned (.tuple #[.pointer (some ⟨f, 0, none⟩), .int .i64 0]) ∧ FamX w' f ⟨[], Tb.new, room, most⟩ (.pointer pm) XF ∧ (∀ k, XF k → w.heap.size ≤ k) ∧ N (a + 1) b c d w' ∧ Ex (mB (.pointer pm)) w w' := by
  have t1 : ¬ (room : Int) < 0 := by omega
  have t2 : ¬ (256 : Int) < (room : Int) := by omega
  have t3 : ¬ (most : Int) < 0 := by omega
  have t4 : ¬ (65536 : Int) < (most : Int) := by omega
  have CN := new7_any (hM4.mt c d) hM ⟨ha.1, by omega⟩
  have HM4 := Lib.hid hM4
  have HM := Lib.hid hM
  clear hM4 hM
  have hmm := @run_makeMap Tryz.prog
  go_enter Tryz.func19, Tryz.ntmps19
  go_wp2_with fail
  refine CN.mono ?_
  rintro e w1 ⟨g, gi, r, h, rfl, hg, hgi, hr', hh, hD, hM1, hx1⟩
  clear CN
  have hs1 := hx1.size
  obtain ⟨w2, hw2⟩ : ∃ y, w1.alloc (.map #[] 0) = y := ⟨_, rfl⟩
  obtain ⟨w3, hw3⟩ : ∃ y, w2.alloc (.cells #[.pointer pm, .pointer (some ⟨g, 0, none⟩), .int .i64 (room : Int), .int .i64 (most : Int), .map (some w1.heap.size), .slice none 0 0] 110) = y := ⟨_, rfl⟩
  have hB2 : Below w1.heap.size w1 w2 := by rw [← hw2]; exact (Below.refl _ w1).alloc (Nat.le_refl _) _
  have hs2 : w2.heap.size = w1.heap.size + 1 := by rw [← hw2]; simp
  have hB3 : Below w2.heap.size w2 w3 := by rw [← hw3]; exact (Below.refl _ w2).alloc (Nat.le_refl _) _
  have hNm : Nm w3 w1.heap.size [] := by
    have h1 : Nm w2 w1.heap.size [] := by rw [← hw2]; exact Nm.new w1
    exact h1.same (hB3.block _ (by omega))
  have hF3 : Blk w3 w2.heap.size 6 (fF (.pointer pm) g room most w1.heap.size (.slice none 0 0)) := by
    rw [← hw3]
    refine (Blk.new w2 _ _).congr fun j hj => ?_
    have : j = 0 ∨ j = 1 ∨ j = 2 ∨ j = 3 ∨ j = 4 ∨ j = 5 := by simp at hj; omega
    rcases this with rfl | rfl | rfl | rfl | rfl | rfl <;> rfl
  have hB13 : Below w1.heap.size w1 w3 := hB2.trans (hB3.mono (by omega))
  have hdl := hD.lt
  have HF : Hid (FamX w3 w2.heap.size ⟨[], Tb.new, room, most⟩ (.pointer pm) (fX w2.heap.size g gi r h (.slice none 0 0) w1.heap.size (.slice none 0 0)) ∧ (∀ k, fX w2.heap.size g gi r h (.slice none 0 0) w1.heap.size (.slice none 0 0) k → w.heap.size ≤ k) ∧ N (a + 1) b c d w3 ∧ Ex (mB (.pointer pm)) w w3) := by
    refine ⟨⟨g, gi, r, h, _, w1.heap.size, _, ⟨⟨hF3, hNm, Ns.nil _, by omega, fun k hk => by cases hk⟩, hD.below hB13, ?_, ?_⟩, rfl⟩, ?_, (HM4.out.mt c d).below hM1 hB13, hx1.trans (ex_of hB13)⟩
    · rintro k (y | y | y) z
      · have := hdl k z; omega
      · have := hdl k z; omega
      · cases y
    · rintro k hk (y | y | y)
      · have := (HM4.out.mt c d).lt _ _ _ _ HM.out hk; omega
      · have := (HM4.out.mt c d).lt _ _ _ _ HM.out hk; omega
      · cases y
    · rintro k ((y | y | y) | (y | y | y | y | y))
      · omega
      · omega
      · cases y
      · omega
      · omega
      · omega
      · omega
      · cases y
  have HW2 := Lib.hid hw2
  have HW3 := Lib.hid hw3
  have HS2 := Lib.hid hs2
  clear hw2 hw3 hB2 hB3 hNm hF3 hB13 hdl hD hM1 hx1 hs2
  go_upto_region 4 with fail
  rw [HW2.out, HW3.out]
  go_wp2
  exact bodyPost_ret (v := .tuple #[.pointer (some ⟨w2.heap.size, 0, none⟩), .int .i64 0]) (by simp [results, Tryz.results19, go_sem]; exact HS2.out.symm) rfl ⟨_, _, rfl, HF.out.1, HF.out.2.1, HF.out.2.2.1, HF.out.2.2.2⟩
set_option maxRecDepth 100000 in
theorem make_any {w : World} {f : Nat} {F : Fa} {mv : Value} {XF : Nat → Prop} (hF : FamX w f F mv XF) (hm : ∀ k, mB mv k → k < w.heap.size) :
    Calls Tryz.prog 20 #[.pointer (some ⟨f, 0, none⟩)] w fun e w' => ∃ s XS, e = .returned (.pointer (some ⟨s, 0, none⟩)) ∧ Fs w' f F mv XF s (.row []) 0 XS ∧ (∀ k, XS k → w.heap.size ≤ k) ∧ Below w.heap.size w w' := by
  have h1 := eqFa f
  obtain ⟨w1, hw1⟩ : ∃ y, w.alloc (.cells #[.pointer (some ⟨f, 0, none⟩), .slice none 0 0] 119) = y := ⟨_, rfl⟩
  obtain ⟨w2, hw2⟩ : ∃ y, w1.alloc (.cells #[.pointer (some ⟨f, 0, none⟩), .iface 117 (.pointer (some ⟨w.heap.size, 0, none⟩)), .int .u64 0] 124) = y := ⟨_, rfl⟩
  have hB1 : Below w.heap.size w w1 := by rw [← hw1]; exact (Below.refl _ w).alloc (Nat.le_refl _) _
  have hs1 : w1.heap.size = w.heap.size + 1 := by rw [← hw1]; simp
  have hB2 : Below w1.heap.size w1 w2 := by rw [← hw2]; exact (Below.refl _ w1).alloc (Nat.le_refl _) _
  have hq : Blk w2 w.heap.size 2 (sdF f (.slice none 0 0)) := by
    have : Blk w1 w.heap.size 2 (sdF f (.slice none 0 0)) := by
      rw [← hw1]
      refine (Blk.new w _ _).congr fun j hj => ?_
      have : j = 0 ∨ j = 1 := by simp at hj; omega
      rcases this with rfl | rfl <;> rfl
    exact this.of hB2 (by omega)
  have hb : Blk w2 w1.heap.size 3 (spF f 117 w.heap.size 0) := by
    rw [← hw2]
    refine (Blk.new w1 _ _).congr fun j hj => ?_
    have : j = 0 ∨ j = 1 ∨ j = 2 := by simp at hj; omega
    rcases this with rfl | rfl | rfl <;> rfl
  have hBw : Below w.heap.size w w2 := hB1.trans (hB2.mono (by omega))
  have HF : Hid (Fs w2 f F mv XF w1.heap.size (.row []) 0 (fun k => k = w1.heap.size ∨ (k = w.heap.size ∨ (Value.slice none 0 0).ownBlock = some k)) ∧ (∀ k, (k = w1.heap.size ∨ (k = w.heap.size ∨ (Value.slice none 0 0).ownBlock = some k)) → w.heap.size ≤ k) ∧ Below w.heap.size w w2) := by
    refine ⟨⟨hF.same fun k hk => hBw.block k (hF.lt k hk), ⟨w.heap.size, fun k => k = w.heap.size ∨ (Value.slice none 0 0).ownBlock = some k, hb, ⟨_, hq, IntsR.nil _ _, (fun y => by cases y), rfl⟩, ?_, rfl⟩, ?_, ?_⟩, ?_, hBw⟩
    · rintro (y | y)
      · omega
      · cases y
    · rintro k hk (y | y | y)
      · have := hF.lt k hk; omega
      · have := hF.lt k hk; omega
      · cases y
    · rintro k hk (y | y | y)
      · have := hm k hk; omega
      · have := hm k hk; omega
      · cases y
    · rintro k (y | y | y)
      · omega
      · omega
      · cases y
  have HW1 := Lib.hid hw1
  have HW2 := Lib.hid hw2
  clear hw1 hw2 hB1 hB2 hq hb hBw hF hm
  go_enter Tryz.func20, Tryz.ntmps20
  go_wp2
  rw [HW1.out, HW2.out]
  go_ret
  exact ⟨_, _, by first | rfl | (simp [← HW1.out]), HF.out.1, HF.out.2.1, HF.out.2.2⟩
theorem mR_shared (a : Option Addr) (w : World) : (method 342 117 (.pointer a) "lexicon/shared.isShared").run Tryz.prog w = .ok (169, .pointer a) w := by kernel_rfl
theorem mO_shared (a : Option Addr) (w : World) : (method 342 229 (.pointer a) "lexicon/shared.isShared").run Tryz.prog w = .ok (210, .pointer a) w := by kernel_rfl
theorem mR_value (a : Option Addr) (w : World) : (method 342 117 (.pointer a) "lexicon/shared.value").run Tryz.prog w = .ok (176, .pointer a) w := by kernel_rfl
theorem mO_value (a : Option Addr) (w : World) : (method 342 229 (.pointer a) "lexicon/shared.value").run Tryz.prog w = .ok (216, .pointer a) w := by kernel_rfl
theorem rowShared (a : Value) (w : World) : Calls Tryz.prog 169 #[a] w fun e w' => e = .returned (.bool true) ∧ w' = w := by
  go_enter Tryz.func169, Tryz.ntmps169
  go_wp2
  go_ret
  exact ⟨rfl, rfl⟩
theorem ownShared (a : Value) (w : World) : Calls Tryz.prog 210 #[a] w fun e w' => e = .returned (.bool false) ∧ w' = w := by
  go_enter Tryz.func210, Tryz.ntmps210
  go_wp2
  go_ret
  exact ⟨rfl, rfl⟩
def isRow : Stn → Bool
  | .row _ => true
  | .own _ => false
theorem shared_any {w : World} {s f : Nat} {mv : Value} {v : Nat} {XS : Nat → Prop} {st : Stn} (h : Sm w s f mv v XS st) :
    Calls Tryz.prog 23 #[.pointer (some ⟨s, 0, none⟩)] w fun e w' => e = .returned (.bool (isRow st)) ∧ w' = w := by
  obtain ⟨q, XQ, h1, _, _, _⟩ := h
  cases st with
  | row vs =>
    have x1 : w.cell? ⟨s, 1, none⟩ = some (.iface 117 (.pointer (some ⟨q, 0, none⟩))) := h1.c 1 (by omega)
    have CN := isNothing_no x1
    have mm := mR_shared (some ⟨q, 0, none⟩)
    have CS := rowShared (.pointer (some ⟨q, 0, none⟩)) w
    clear h1
    go_enter Tryz.func23, Tryz.ntmps23
    go_wp2_with fail
    refine CN.mono ?_
    rintro e w1 ⟨rfl, rfl⟩
    go_wp2_with fail
    refine CS.mono ?_
    rintro e w2 ⟨rfl, rfl⟩
    go_wp2
    go_ret
    exact ⟨rfl, rfl⟩
  | own t =>
    have x1 : w.cell? ⟨s, 1, none⟩ = some (.iface 229 (.pointer (some ⟨q, 0, none⟩))) := h1.c 1 (by omega)
    have CN := isNothing_no x1
    have mm := mO_shared (some ⟨q, 0, none⟩)
    have CS := ownShared (.pointer (some ⟨q, 0, none⟩)) w
    clear h1
    go_enter Tryz.func23, Tryz.ntmps23
    go_wp2_with fail
    refine CN.mono ?_
    rintro e w1 ⟨rfl, rfl⟩
    go_wp2_with fail
    refine CS.mono ?_
    rintro e w2 ⟨rfl, rfl⟩
    go_wp2
    go_ret
    exact ⟨rfl, rfl⟩
end Go.Proofs.YtcbhpjpkjmlcnaaGreat
namespace Go.Proofs.YtcbhpjpkjmlcnaaGreat
open Go.RowKit

/-- What is said of a world stays when blocks are laid. -/
def St1 (J : Nat → World → Prop) : Prop := ∀ i A A', J i A → Below A.heap.size A A' → J i A'
/-- An iterator that tells encs 0, encs 1, .. N of them, as long as what it reads is kept (Kp), and keeps no cell of its own. -/
def SeqFr (P : Program) (gf : Nat) (args : Nat → Array Value) (encs : Nat → Array Value) (N : Nat) (Kp : World → Prop) (w : World) : Prop :=
  ∀ (l : Nat) (J : Nat → World → Prop) (W : World), Below w.heap.size w W → St1 J → (∀ i W1, J i W1 → Kp W1) →
    (∀ i W1, i < N → J i W1 → YieldAt Fence.wide 0 P l (encs i) W1 fun e W' => e = .returned (.bool true) ∧ J (i + 1) W') →
    J 0 W → CallsIn Fence.wide 0 P gf (args l) W fun e W' => (∃ v, e = .returned v) ∧ J N W'
/-- How a round is left. -/
def frPost (B : Nat) (I : Nat → World → Prop) (i : Nat) (W : World) : Exit → Act → World → Prop
  | .normal, _, W' => W.heap.size ≤ W'.heap.size ∧ W'.heap[B]? = W.heap[B]? ∧ W'.heap[B + 1]? = W.heap[B + 1]? ∧ I (i + 1) W'
  | _, _, _ => False
theorem wpIn_range_fr {P : Program} {g : Operand} {ps : Array Tmp} {assign body : Code} {Q : Exit → Act → World → Prop} {a : Act} {w : World}
    {gf : Nat} {args : Nat → Array Value} (dl : Nat → Deferred) (hres : ∀ l W, (resolve a.eval (rangeCall g l) 0).run P W = .ok (dl l) W) (hinv : ∀ l W, (invoke (dl l).target (dl l).args).run P W = .ok (.enter gf (args l)) W)
    {encs : Nat → Array Value} {N : Nat} {Kp : World → Prop} (hseq : SeqFr P gf args encs N Kp w) (hps : ∀ i, (encs i).size = ps.size)
    (I : Nat → World → Prop) (hI : St1 I) (hIp : ∀ i W o, I i W → I i (W.putObj (w.heap.size + 1) o)) (hIk : ∀ i W, I i W → Kp W) (h0 : I 0 w) (A : Nat → Act → World → Prop)
    (hA : ∀ i a' W o, A i a' W → A i a' (W.putObj (w.heap.size + 1) o))
    (hassign : ∀ (l i : Nat) (W : World) (K : Act → World → Prop), w.heap.size + 2 ≤ W.heap.size → i < N → I i W → (∀ a' W', A i a' W' → Below W.heap.size W W' → K a' W') →
      assign.wpIn (Fence.wide.inRound l) 0 P (Exit.then K (fun _ _ _ => False)) { tmps := (ps.zip (encs i)).foldl (fun t (p, v) => t.setIfInBounds p v) a.tmps, defers := [] } W)
    (hbody : ∀ (l i : Nat) (a' : Act) (W : World), i < N → w.heap.size + 2 ≤ W.heap.size → A i a' W → body.wpIn (Fence.wide.inRound l) 0 P (frPost w.heap.size I i W) a' W)
    (hdone : ∀ W, I N W → W.heap[w.heap.size]? = some (.deferred (some [])) → Q .normal { a with defers := { target := .collected w.heap.size, args := #[] } :: a.defers } W) :
    (Code.rangeFunc g ps assign body).wpIn Fence.wide 0 P Q a w := by
  refine wpIn_rangeFunc ?_
  intro fn hfn
  show ∃ l mark w₁ d w₁' f args w₂, (Instr.enterLoop fn a.tmps ps assign body none).run P w = _ ∧ _
  obtain ⟨rec, hrec⟩ : ∃ rec : LoopState → Option Code → Loop, rec = fun st pe => { state := st, pending := pe, fn, tmps := a.tmps, params := ps, assign, body, defers := w.heap.size } := ⟨_, rfl⟩
  obtain ⟨W1, hW1⟩ : ∃ W1, (w.alloc (.deferred (some []))).alloc (.loop (rec .ready none)) = W1 := ⟨_, rfl⟩
  have hL1 : W1.heap[w.heap.size + 1]? = some (.loop (rec .ready none)) := by
    rw [← hW1]; have := World.alloc_heap_new (w.alloc (.deferred (some []))) (.loop (rec .ready none)); rwa [World.size_alloc] at this
  have hK1 : W1.heap[w.heap.size]? = some (.deferred (some [])) := by
    rw [← hW1]; exact (Below.heap_alloc _ _ _ (by simp)).trans (World.alloc_heap_new w _)
  have hb1 : Below w.heap.size w W1 := by
    rw [← hW1]; exact ((Below.refl _ w).alloc (Nat.le_refl _) _).alloc (by simp) _
  refine ⟨w.heap.size + 1, [{ target := .collected w.heap.size, args := #[] }], W1, dl (w.heap.size + 1), W1, gf,
    args (w.heap.size + 1), W1, ?_, hres _ _, ?_, hinv _ _, fun h => by simp [Fence.wide] at h, ?_⟩
  · rw [← hW1, hrec]; exact run_enterLoop_outer _ _ _ _ _
  · intro f' _; trivial
  · refine (hseq (w.heap.size + 1)
      (fun i W => I i W ∧ W.heap[w.heap.size + 1]? = some (.loop (rec .ready none)) ∧ W.heap[w.heap.size]? = some (.deferred (some [])))
      W1 hb1 ?_ (fun i W h => hIk i W h.1) ?_ ⟨hI 0 w W1 h0 hb1, hL1, hK1⟩).mono ?_
    · rintro i A A' ⟨h1, h2, h3⟩ hb
      exact ⟨hI i A A' h1 hb, (hb.block _ (Array.getElem?_eq_some_iff.1 h2).1).trans h2, (hb.block _ (Array.getElem?_eq_some_iff.1 h3).1).trans h3⟩
    · rintro i W hi ⟨hJ, hl, hk⟩
      have hlt : w.heap.size + 1 < W.heap.size := (Array.getElem?_eq_some_iff.1 hl).1
      have hy := run_yield (P := P) (args := encs i) hl (by rw [hrec]; exact hps i)
      rw [hrec] at hy
      refine ⟨fn, _, assign, body, hy, roundIn_of_wpIn hfn (hassign _ i W _ (by omega) hi hJ ?_)⟩
      intro a' V hA' hbV
      have hlV := (hbV.block _ hlt).trans hl
      have hkV := (hbV.block w.heap.size (by omega)).trans hk
      have hltV : w.heap.size + 1 < V.heap.size := Nat.lt_of_lt_of_le hlt hbV.size
      refine ⟨_, run_beginRound hlV (by rw [hrec]), ?_⟩
      clear hl hk hlt hJ hbV hy
      have hl2 : (V.putObj (w.heap.size + 1) (.loop { rec .ready none with state := .busy })).heap[w.heap.size + 1]? = some (.loop { rec .ready none with state := .busy }) := World.putObj_heap_same hltV
      have hk2 : (V.putObj (w.heap.size + 1) (.loop { rec .ready none with state := .busy })).heap[w.heap.size]? = some (.deferred (some [])) := (World.putObj_heap_other (by omega)).trans hkV
      refine wpIn_mono (hbody _ i _ _ hi (by simp; omega) (hA _ _ _ _ hA')) ?_
      rintro e a3 W3 hp
      cases e with
      | normal =>
        obtain ⟨_, hd3, hp3, hi3⟩ := hp
        have hl3 := hp3.trans hl2
        have hr := run_endRound (P := P) none hl3
        have hlt3 := (Array.getElem?_eq_some_iff.1 hl3).1
        rw [hrec] at hr ⊢
        exact ⟨_, _, hr, rfl, hIp _ _ _ hi3, World.putObj_heap_same hlt3, (World.putObj_heap_other (by omega)).trans (hd3.trans hk2)⟩
      | ret => exact hp.elim
      | exit id => exact hp.elim
      | goto t => exact hp.elim
      | panic ch => exact hp.elim
      | outgrown => exact hp.elim
    · rintro e W2 ⟨⟨v, rfl⟩, hi, hl, hk⟩
      exact ⟨none, _, by have := run_endLoop (P := P) hl (by rw [hrec]; simp); rw [hrec] at this; exact this, hdone _ (hIp _ _ _ hi) ((World.putObj_heap_other (by omega)).trans hk)⟩
end Go.Proofs.YtcbhpjpkjmlcnaaGreat
namespace Go.Proofs.YtcbhpjpkjmlcnaaGreat
open Go.RowKit Go.WideShapes
attribute [local go_sem] Oper.semAt_some

set_option maxRecDepth 100000 in
set_option maxHeartbeats 4000000 in
theorem all1_fr {es : List En} {v : Value} (b : Nat) (w : World) (hlen : es.length ≤ 100000) (px : Nat → Nat) (hpx : ∀ i, i < es.length → (nth es i).live = true → px (cntL es i) = i) :
    SeqFr Tryz.prog 74 (fun l => #[.func (.yield l) #[] #[], .pointer (some ⟨b, 0, none⟩)]) (fun k => #[.int .i64 (px k : Int), eV (nth es (px k))]) (cntL es es.length) (fun W => Es W v es ∧ W.cell? ⟨b, 0, none⟩ = some v) w := by
  intro l J W _ HJ0 hKp hY0 J0
  have HJ := (show Hid _ from HJ0)
  have HY := (show Hid _ from hY0)
  have HK := (show Hid _ from hKp)
  have HPX := (show Hid _ from hpx)
  obtain ⟨hE, hb⟩ := hKp 0 W J0
  obtain ⟨a, cap, ge, hv, hae, hro⟩ := hE.open
  subst hv
  have hcap := hro.le
  have HAE : Hid (0 < es.length → a = some ⟨ge, 0, none⟩) := fun h => (hae h).1
  have HRO : Hid (∀ k W1, J k W1 → 0 < es.length → Ro W1 ge es.length cap es) := fun k W1 hJ hpos => by
    obtain ⟨a', cap', ge', hv', hae', hro'⟩ := (hKp k W1 hJ).1.open
    injection hv' with e1 e2 e3
    have h1 := (hae hpos).1
    have h2 := (hae' hpos).1
    rw [← e1, h1] at h2
    injection h2 with h2
    injection h2 with h2
    subst h2
    subst e3
    exact hro'
  clear HJ0 hY0 hKp hpx hE hae hro
  refine callsIn_of_wp Tryz.func74 rfl trivial ?_ rfl
  simp only [Tryz.ntmps74, List.size_toArray, List.length_cons, List.length_nil, Nat.reduceAdd, Nat.reduceSub, Array.replicate_succ, Array.replicate_zero, List.push_toArray, List.append_toArray, List.nil_append, List.cons_append]
  gi_wp2_with fail
  gi_loopw [3, 4, 7] (fun _ _ iv wr => ∃ i : Nat, i ≤ es.length ∧ iv = .int .i64 (i : Int) ∧ J (cntL es i) wr) (fun _ _ iv _ => es.length - (intOf iv).toNat)
  case atStart => exact ⟨0, Nat.zero_le _, rfl, J0⟩
  case round =>
    obtain ⟨i, hi, rfl, hJ⟩ := hrel
    by_cases hlt : i < es.length
    · have t1 : (i : Int) < (es.length : Int) := by omega
      have ha := HAE.out (by omega)
      subst ha
      have hR := HRO.out _ _ hJ (by omega)
      have r0 := hR.c0 i hlt
      have r1 := hR.c1 i hlt
      have r2 := hR.c2 i hlt
      have r3 := hR.c3 i hlt
      have r4 := hR.c4 i hlt
      clear hR
      obtain ⟨w2, hw2⟩ : ∃ y, wr.alloc (.cells #[.bool (nth es i).live, .int .i64 (nth es i).hash, .int .i64 (nth es i).key, .int .i64 (nth es i).value, .int .i64 (nth es i).birth] 107) = y := ⟨_, rfl⟩
      have hb2 : Below wr.heap.size wr w2 := by rw [← hw2]; exact (Below.refl _ wr).alloc (Nat.le_refl _) _
      have hX2 : Blk w2 wr.heap.size 5 (fun j => #[Value.bool (nth es i).live, .int .i64 (nth es i).hash, .int .i64 (nth es i).key, .int .i64 (nth es i).value, .int .i64 (nth es i).birth].getD j .nilFunc) := by rw [← hw2]; exact Blk.new wr _ _
      have hJ2 := HJ.out _ _ _ hJ hb2
      have p0 : w2.cell? ⟨wr.heap.size, 0, none⟩ = some (.bool (nth es i).live) := hX2.c 0 (by omega)
      have p1 : w2.cell? ⟨wr.heap.size, 1, none⟩ = some (.int .i64 (nth es i).hash) := hX2.c 1 (by omega)
      have p2 : w2.cell? ⟨wr.heap.size, 2, none⟩ = some (.int .i64 (nth es i).key) := hX2.c 2 (by omega)
      have p3 : w2.cell? ⟨wr.heap.size, 3, none⟩ = some (.int .i64 (nth es i).value) := hX2.c 3 (by omega)
      have p4 : w2.cell? ⟨wr.heap.size, 4, none⟩ = some (.int .i64 (nth es i).birth) := hX2.c 4 (by omega)
      have HW2 := Lib.hid hw2
      clear hX2 hb2 hw2
      have HC1 : Hid (cntL es (i + 1) = cntL es i + if (nth es i).live = true then 1 else 0) := rfl
      by_cases hlv : (nth es i).live = true
      · have hk : cntL es i < cntL es es.length := by
          have := cntL_le es (i := i + 1) (j := es.length) hlt
          rw [HC1.out, if_pos hlv] at this
          omega
        obtain ⟨fn, tmps, assign, body, hy, hR⟩ := HY.out (cntL es i) w2 hk hJ2
        have hp := HPX.out i hlt hlv
        simp only [hp] at hy hR
        have HC2 : Hid (cntL es (i + 1) = cntL es i + 1) := by
          have := HC1.out
          rw [if_pos hlv] at this
          exact this
        unfold eV at hy
        rw [hlv] at r0 p0 hy HW2
        clear hlv HC1
        generalize (nth es i).hash = y1 at *
        generalize (nth es i).key = y2 at *
        generalize (nth es i).value = y3 at *
        generalize (nth es i).birth = y4 at *
        have p0r : (wr.alloc (.cells #[.bool true, .int .i64 y1, .int .i64 y2, .int .i64 y3, .int .i64 y4] 107)).cell? ⟨wr.heap.size, 0, none⟩ = some (.bool true) := by rw [HW2.out]; exact p0
        have p1r : (wr.alloc (.cells #[.bool true, .int .i64 y1, .int .i64 y2, .int .i64 y3, .int .i64 y4] 107)).cell? ⟨wr.heap.size, 1, none⟩ = some (.int .i64 y1) := by rw [HW2.out]; exact p1
        have p2r : (wr.alloc (.cells #[.bool true, .int .i64 y1, .int .i64 y2, .int .i64 y3, .int .i64 y4] 107)).cell? ⟨wr.heap.size, 2, none⟩ = some (.int .i64 y2) := by rw [HW2.out]; exact p2
        have p3r : (wr.alloc (.cells #[.bool true, .int .i64 y1, .int .i64 y2, .int .i64 y3, .int .i64 y4] 107)).cell? ⟨wr.heap.size, 3, none⟩ = some (.int .i64 y3) := by rw [HW2.out]; exact p3
        have p4r : (wr.alloc (.cells #[.bool true, .int .i64 y1, .int .i64 y2, .int .i64 y3, .int .i64 y4] 107)).cell? ⟨wr.heap.size, 4, none⟩ = some (.int .i64 y4) := by rw [HW2.out]; exact p4
        rw [← HW2.out] at hy
        gi_wp2_with fail
        rw [HW2.out]
        refine ⟨rfl, hR.mono ?_⟩
        clear hR hy
        rintro e w5 ⟨rfl, hJ5⟩
        gi_wp2_with fail
        go_roundw
        case rel => exact ⟨i + 1, by omega, by go_num, by rw [HC2.out]; exact hJ5⟩
        case measure => simp [intOf]; omega
      · have hlf : (nth es i).live = false := by cases h : (nth es i).live <;> simp_all
        have HC2 : Hid (cntL es (i + 1) = cntL es i) := by
          have := HC1.out
          rw [if_neg hlv] at this
          exact this
        rw [hlf] at r0 p0 HW2
        clear hlv hlf HC1
        generalize (nth es i).hash = y1 at *
        generalize (nth es i).key = y2 at *
        generalize (nth es i).value = y3 at *
        generalize (nth es i).birth = y4 at *
        have p0r : (wr.alloc (.cells #[.bool false, .int .i64 y1, .int .i64 y2, .int .i64 y3, .int .i64 y4] 107)).cell? ⟨wr.heap.size, 0, none⟩ = some (.bool false) := by rw [HW2.out]; exact p0
        have p1r : (wr.alloc (.cells #[.bool false, .int .i64 y1, .int .i64 y2, .int .i64 y3, .int .i64 y4] 107)).cell? ⟨wr.heap.size, 1, none⟩ = some (.int .i64 y1) := by rw [HW2.out]; exact p1
        have p2r : (wr.alloc (.cells #[.bool false, .int .i64 y1, .int .i64 y2, .int .i64 y3, .int .i64 y4] 107)).cell? ⟨wr.heap.size, 2, none⟩ = some (.int .i64 y2) := by rw [HW2.out]; exact p2
        have p3r : (wr.alloc (.cells #[.bool false, .int .i64 y1, .int .i64 y2, .int .i64 y3, .int .i64 y4] 107)).cell? ⟨wr.heap.size, 3, none⟩ = some (.int .i64 y3) := by rw [HW2.out]; exact p3
        have p4r : (wr.alloc (.cells #[.bool false, .int .i64 y1, .int .i64 y2, .int .i64 y3, .int .i64 y4] 107)).cell? ⟨wr.heap.size, 4, none⟩ = some (.int .i64 y4) := by rw [HW2.out]; exact p4
        gi_wp2_with fail
        refine ⟨fun _ h => (by cases h), ?_⟩
        rw [HW2.out]
        gi_wp2_with fail
        go_roundw
        case rel => exact ⟨i + 1, by omega, by go_num, by rw [HC2.out]; exact hJ2⟩
        case measure => simp [intOf]; omega
    · obtain rfl : i = es.length := by omega
      have t1 : ¬ (es.length : Int) < (es.length : Int) := by omega
      gi_wp2
      go_end0
      exact ⟨⟨_, rfl⟩, hJ⟩
end Go.Proofs.YtcbhpjpkjmlcnaaGreat
namespace Go.Proofs.YtcbhpjpkjmlcnaaGreat
open Go.RowKit

def noDefers (ops : Array Oper) : Bool := ops.all fun o => match o.op with | .defer _ => false | _ => true
theorem noDefers_spec {ops : Array Oper} (h : noDefers ops = true) {i : Nat} {o : Oper} (hi : ops[i]? = some o) (c : Call) : o.op ≠ .defer c := by
  intro e
  have hm : o ∈ ops := Array.mem_of_getElem? hi
  have := (Array.all_eq_true_iff_forall_mem.1 h) o hm
  rw [e] at this
  cases this
theorem upon_round {P : Program} {o : Oper} {a : Act} {K : Act → World → Prop} {Q : Exit → Act → World → Prop} {l n : Nat} {r : Result Next} (h : o.upon P a K Q r) : o.uponIn (Fence.wide.inRound l) n P a K Q r := by
  cases r with
  | ok x w' =>
    cases x with
    | value v => exact h
    | skip => exact h
    | defer d => exact h
    | enter f args => exact ⟨(fun hh => by cases hh), CallsIn.inRound l (callsIn_wide.2 h)⟩
    | row x args => exact ⟨(fun hh => by cases hh), fun c cs _ => let ⟨v, w', r, s⟩ := h c cs; ⟨v, w', r, stepsIn_wide.2 s⟩⟩
    | _ => exact h.elim
  | halt x w' =>
    cases x with
    | panic v => exact h
    | _ => exact h.elim
theorem any_wide {P : Program} {md : Region.Mode} {ops : Array Oper} {Q : Exit → Act → World → Prop} {l n : Nat} (hQ : ¬ LetsOut Q) (hd : noDefers ops = true) :
    ∀ (fuel : Nat) (listed : Array Bool) (a : Act) (w : World), wpAny P md ops Q fuel listed a w → wpAnyIn (Fence.wide.inRound l) n P md ops Q fuel listed a w
  | 0, _, _, _, h => h
  | fuel + 1, listed, a, w, h => by
    refine ⟨h.1, fun i hi => ?_⟩
    have h1 := wpOp_mono (fun a w h => any_wide (l := l) (n := n) hQ hd fuel (listed.setIfInBounds i true) a w h) (h.2 i hi)
    unfold wpOp at h1
    unfold wpOpIn
    cases ho : ops[i]? with
    | none => rw [ho] at h1; exact h1
    | some o =>
      rw [ho] at h1
      simp only at h1 ⊢
      split
      · rename_i hw
        rw [if_pos hw] at h1
        rcases h1 with h1 | ⟨_, h1⟩
        · unfold Oper.wpIn
          refine ⟨fun f _ => trivial, ?_⟩
          rw [Oper.semAt_plain _ _ _ (noDefers_spec hd ho)]
          exact upon_round h1
        · exact absurd h1 hQ
      · rename_i hw
        rw [if_neg hw] at h1
        exact ⟨fun f _ => trivial, h1⟩
/-- A drawn region inside a round, by a condition that its worlds keep. -/
theorem region_round {P : Program} {ops : Array Oper} {Q : Exit → Act → World → Prop} {S : World → Prop} {id l n : Nat} {a : Act} {w : World} (hm : P.follows .mixedOrders = true) (hQ : ¬ LetsOut Q) (hd : noDefers ops = true) (hS : S w.drew)
    (h : S w.drew → wpAnyH P .any ops Q S ops.size (Array.replicate ops.size false) a w.drew) : (Code.region id ops true).wpIn (Fence.wide.inRound l) n P Q a w :=
  wpIn_region_any hm (any_wide hQ hd _ _ _ _ (wpAny_of_held _ _ _ _ (h hS)))
section
variable {P : Program} {ops : Array Oper} {Q : Exit → Act → World → Prop} {md : Region.Mode} {S : World → Prop}
/-- Take number i first, its slot written out. -/
theorem take_slot {i : Nat} {oi : Oper} {v : Value} {d : Option Nat} {fuel : Nat} {listed : Array Bool} {a : Act} {w : World} (hi : ops[i]? = some oi) (hd : oi.dst = d)
    (hs : Region.noSelect ops = true) (hf : Region.free md ops listed i = true) (hr : (Region.ready md ops listed).contains i = true)
    (hQ : ∀ c a w, Q (.panic c) (a.put d v) w → Q (.panic c) a w) (hy : YieldsIf P ops S oi v a) (hS : S w)
    (h : wpAnyH P md ops Q S fuel (listed.setIfInBounds i true) (a.put d v) w) : wpAnyH P md ops Q S (fuel + 1) listed a w := by
  subst hd
  exact wpAnyH_take hi hs hf hr hQ hy hS h
end
end Go.Proofs.YtcbhpjpkjmlcnaaGreat
namespace Go.Proofs.YtcbhpjpkjmlcnaaGreat
open Go.RowKit Go.WideShapes
attribute [local go_sem] Oper.semAt_some

/-- The names of entries. -/
def nmsOf (all : List ByteArray) (es : List En) : List ByteArray := es.map fun e => nmOf all e.key
/-- A row of texts of one's own. -/
def NsB (B : Nat) (w : World) (v : Value) (l : List ByteArray) : Prop := w.ownsRow B 9 1 v l.length (l.map Value.string)
/-- Behind k rounds. -/
structure NaI (w : World) (f : Nat) (all : List ByteArray) (es : List En) (b : Nat) (v0 : Value) (Z k : Nat) (W : World) (vk : Value) : Prop where
  bl : Below w.heap.size w W
  b1 : W.cell? ⟨w.heap.size, 0, none⟩ = some (.pointer (some ⟨f, 0, none⟩))
  b3 : W.cell? ⟨w.heap.size + 1, 0, none⟩ = some vk
  z3 : W.frozen? ⟨w.heap.size + 1, 0, none⟩ = false
  ow : W.ownsRow (Z + 2) 9 1 vk k ((nmsOf all (es.take k)).map Value.string)
  es : Es W v0 es
  ib : W.cell? ⟨b, 0, none⟩ = some v0
  sz : Z ≤ W.heap.size
theorem own_same {w w' : World} {B n : Nat} {t : TypeId} {v : Value} {xs : List Value} (h : w.ownsRow B t 1 v n xs) (e : ∀ k, v.ownBlock = some k → w'.heap[k]? = w.heap[k]?) : w'.ownsRow B t 1 v n xs := by
  refine ⟨h.1, ?_⟩
  rcases h.2 with x | ⟨g, cap, cur, hv, h1, h2, h3⟩
  · exact .inl x
  · exact .inr ⟨g, cap, cur, hv, h1, (e g (by rw [hv]; rfl)).trans h2, h3⟩
/-- .. while only other blocks are altered. -/
theorem NaI.same {w : World} {f : Nat} {all : List ByteArray} {es : List En} {b : Nat} {v0 : Value} {Z k : Nat} {W W' : World} {vk : Value} (x : NaI w f all es b v0 Z k W vk) (hz : w.heap.size + 1 < Z) (hb : b < Z) (hv : ∀ j, v0.ownBlock = some j → j < Z) (hbl : Below w.heap.size w W') (hs : W.heap.size ≤ W'.heap.size) (e : ∀ j, j < W.heap.size → j ≠ Z + 1 → W'.heap[j]? = W.heap[j]?) : NaI w f all es b v0 Z k W' vk := by
  have hsz := x.sz
  have hk : ∀ j, vk.ownBlock = some j → Z + 2 ≤ j ∧ j < W.heap.size := fun j hj => World.ownsRow.lt x.ow j hj
  have c : ∀ (j o : Nat) {u : Value}, j < Z → W.cell? ⟨j, o, none⟩ = some u → W'.cell? ⟨j, o, none⟩ = some u := fun j o u hj h => (World.cell?_of_block (a := ⟨j, o, none⟩) (e j (by omega) (by omega))).trans h
  exact ⟨hbl, c _ 0 (by omega) x.b1, c _ 0 (by omega) x.b3, (World.frozen?_of_block (a := ⟨w.heap.size + 1, 0, none⟩) (e (w.heap.size + 1) (by omega) (by omega))).trans x.z3, own_same x.ow fun j hj => e j (hk j hj).2 (by have := (hk j hj).1; omega), x.es.same fun j hj => e j (by have := hv j hj; omega) (by have := hv j hj; omega), c _ 0 hb x.ib, by omega⟩
set_option maxRecDepth 100000 in
set_option maxHeartbeats 8000000 in
theorem names_any {w : World} {f g gi r h : Nat} {ev : Value} {mb : Nat} {nv : Value} {F : Fa} {mv : Value} {hs : ByteArray → Int} (hF : Fam w f g gi r h ev mb nv F mv) (hN : Nl hs F.all F.kt.es) (hdead : deadN F.kt.es = 0) (hlen : F.kt.es.length ≤ 256) :
    Calls Tryz.prog 14 #[.pointer (some ⟨f, 0, none⟩)] w fun e w' => ∃ v, e = .returned v ∧ NsB w.heap.size w' v (nmsOf F.all F.kt.es) ∧ Below w.heap.size w w' := by
  obtain ⟨i0, hi0, hz0, hz1, hz2⟩ := info_parts Tryz.infoStr
  obtain ⟨px, hpx, hpl⟩ := places F.kt.es
  have hfl := live_all hdead
  have hcn : cntL F.kt.es F.kt.es.length = F.kt.es.length := by rw [cntL_all, hfl]
  obtain ⟨an, capn, hnv⟩ := ownsRow_shape hF.nh.ns
  have HF := Lib.hid hF
  have HN := Lib.hid hN
  have HPL : Hid (∀ k, k < F.kt.es.length → nth F.kt.es (px k) = nth F.kt.es k) := fun k hk => by
    have := (hpl k (by rw [hfl]; exact hk)).2
    rw [hfl] at this
    exact this
  obtain ⟨w1, hw1⟩ : ∃ y, w.alloc (.cells #[.pointer (some ⟨f, 0, none⟩)] 62) = y := ⟨_, rfl⟩
  obtain ⟨w2, hw2⟩ : ∃ y, w1.alloc (.cells #[.slice none 0 0] 61) = y := ⟨_, rfl⟩
  have hb1 : Below w.heap.size w w1 := by rw [← hw1]; exact (Below.refl _ w).alloc (Nat.le_refl _) _
  have hX1 : Blk w1 w.heap.size 1 (fun j => #[Value.pointer (some ⟨f, 0, none⟩)].getD j .nilFunc) := by rw [← hw1]; exact Blk.new w _ _
  have hs1 : w1.heap.size = w.heap.size + 1 := by rw [← hw1]; simp
  have hb2' : Below w1.heap.size w1 w2 := by rw [← hw2]; exact (Below.refl _ w1).alloc (Nat.le_refl _) _
  have hX2 : Blk w2 w1.heap.size 1 (fun j => #[Value.slice none 0 0].getD j .nilFunc) := by rw [← hw2]; exact Blk.new w1 _ _
  have hs2 : w2.heap.size = w.heap.size + 2 := by rw [← hw2]; simp; omega
  have hX12 := hX1.of hb2' (by omega)
  have hb2 : Below w.heap.size w w2 := hb1.trans (hb2'.mono (by omega))
  have hF2 := hF.below hb2
  have CK := keys_yes (hF2.nh.hd.c 1 (by omega))
  have CA := all7_new (hF2.dt.hd.c 2 (by omega)) hF2.dt.es (by omega)
  have c1 : w2.cell? ⟨w.heap.size, 0, none⟩ = some (.pointer (some ⟨f, 0, none⟩)) := hX12.c 0 (by omega)
  have c3 : w2.cell? ⟨w.heap.size + 1, 0, none⟩ = some (.slice none 0 0) := by rw [← hs1]; exact hX2.c 0 (by omega)
  have z3 : w2.frozen? ⟨w.heap.size + 1, 0, none⟩ = false := by rw [← hs1]; exact hX2.z 0
  have HW1 := Lib.hid hw1
  have HW2 := Lib.hid hw2
  have HS1 := Lib.hid hs1
  refine callsIn_wide.1 (callsIn_of_wp_marks (n := 0) Tryz.func14 rfl trivial ?_ rfl)
  simp only [Tryz.ntmps14, List.size_toArray, List.length_cons, List.length_nil, Nat.reduceAdd, Nat.reduceSub, Array.replicate_succ, Array.replicate_zero, List.push_toArray, List.append_toArray, List.nil_append, List.cons_append]
  clear hw1 hw2 hF hF2 hX1 hX2 hX12 hb1 hb2' hN hdead hfl hpl hs1
  gi_wp2_with fail
  rw [HW1.out, HW2.out]
  refine ⟨trivial, rfl, (callsIn_wide.2 CK).mono ?_⟩
  rintro e w2' ⟨rfl, h2'⟩
  rw [h2']
  clear CK h2'
  gi_wp2_with fail
  refine ⟨trivial, rfl, (callsIn_wide.2 CA).mono ?_⟩
  rintro e w3 ⟨b, v0, rfl, hbb, hbl, hbc, hE3, hvb, hB3⟩
  clear CA
  have hs3 := hB3.size
  have hI0 : NaI w f F.all F.kt.es b v0 w3.heap.size 0 w3 (.slice none 0 0) := ⟨hb2.trans (hB3.mono (by omega)), (hB3.cell (p := ⟨w.heap.size, 0, none⟩) (by show w.heap.size < _; omega)).trans c1, (hB3.cell (p := ⟨w.heap.size + 1, 0, none⟩) (by show w.heap.size + 1 < _; omega)).trans c3, (World.frozen?_of_block (a := ⟨w.heap.size + 1, 0, none⟩) (hB3.block (w.heap.size + 1) (by omega))).trans z3, World.ownsRow_nil _ _ _ _, hE3.es, hbc, Nat.le_refl _⟩
  have hlv := hE3.es.lt
  have hvg := hE3.ge
  have HSQ := Lib.hid (all1_fr (es := F.kt.es) (v := v0) b w3 (by omega) px hpx)
  have HI0 := Lib.hid hI0
  have HB3 := Lib.hid hB3
  clear hI0 hE3 hB3 hpx c1 c3 z3 hb2
  rw [hcn] at HSQ
  clear hcn
  gi_wp2_with fail
  refine wpIn_range_fr (fun l => { target := .fn (.func 74) #[.pointer (some ⟨b, 0, none⟩)], args := #[.func (.yield l) #[] #[]] }) (fun l W => by simp [resolve, Deferred.ofValue, go_sem, Act.eval]) (fun l W => by simp [invoke, go_sem, Tryz.call74])
    HSQ.out (fun _ => rfl) (fun k W => ∃ vk, NaI w f F.all F.kt.es b v0 w3.heap.size k W vk) ?hI ?hIp (fun k W ⟨_, h⟩ => ⟨h.es, h.ib⟩) ⟨_, HI0.out⟩
    (fun k a' W => ∃ bx vk, w3.heap.size + 2 ≤ bx ∧ vk.ownBlock ≠ some bx ∧ NaI w f F.all F.kt.es b v0 w3.heap.size k W vk ∧ Blk W bx 5 (fun j => #[Value.bool (nth F.kt.es (px k)).live, .int .i64 (nth F.kt.es (px k)).hash, .int .i64 (nth F.kt.es (px k)).key, .int .i64 (nth F.kt.es (px k)).value, .int .i64 (nth F.kt.es (px k)).birth].getD j .nilFunc) ∧ a' = { tmps := #[.pointer (some ⟨f, 0, none⟩), .pointer (some ⟨w.heap.size, 0, none⟩), .slice none 0 0, .pointer (some ⟨w.heap.size + 1, 0, none⟩), undef, .pointer (some ⟨bx, 0, none⟩), .pointer (some ⟨f, 0, none⟩), .pointer (some ⟨g, 0, none⟩), .func (.func 74) #[] #[.pointer (some ⟨b, 0, none⟩)], .int .i64 (px k : Int), eV (nth F.kt.es (px k)), undef, undef, undef, undef, undef, undef, undef, undef, undef, undef, undef, undef], defers := [] }) ?hA ?assign ?body ?done
  case hI =>
    rintro k A A' ⟨vk, x⟩ hb
    exact ⟨vk, x.same (by omega) (by omega) hlv (x.bl.trans (hb.mono x.bl.size)) hb.size (fun j hj _ => hb.block j hj)⟩
  case hIp =>
    rintro k A o ⟨vk, x⟩
    have hsA := x.sz
    exact ⟨vk, x.same (by omega) (by omega) hlv (x.bl.trans (below_put (by omega))) (by simp) (fun j _ hj => World.putObj_heap_other hj)⟩
  case hA =>
    rintro k a' W o ⟨bx, vk, hbx, hne, x, hX, ha⟩
    exact ⟨bx, vk, hbx, hne, x.same (by omega) (by omega) hlv (x.bl.trans (below_put (by omega))) (by simp) (fun j _ hj => World.putObj_heap_other hj), hX.same (World.putObj_heap_other (by omega)), ha⟩
  case assign =>
    intro l k W K hsz hk hI hK
    unfold eV at hK ⊢
    obtain ⟨vk, hI⟩ := hI
    have HI := Lib.hid hI
    obtain ⟨W1, hW1⟩ : ∃ y, W.alloc (.cells #[.bool (nth F.kt.es (px k)).live, .int .i64 (nth F.kt.es (px k)).hash, .int .i64 (nth F.kt.es (px k)).key, .int .i64 (nth F.kt.es (px k)).value, .int .i64 (nth F.kt.es (px k)).birth] 107) = y := ⟨_, rfl⟩
    have hB1 : Below W.heap.size W W1 := by rw [← hW1]; exact (Below.refl _ W).alloc (Nat.le_refl _) _
    have hX1 : Blk W1 W.heap.size 5 (fun j => #[Value.bool (nth F.kt.es (px k)).live, .int .i64 (nth F.kt.es (px k)).hash, .int .i64 (nth F.kt.es (px k)).key, .int .i64 (nth F.kt.es (px k)).value, .int .i64 (nth F.kt.es (px k)).birth].getD j .nilFunc) := by rw [← hW1]; exact Blk.new W _ _
    have hKK := hK _ W1 ⟨W.heap.size, vk, hsz, (fun e => by have := (World.ownsRow.lt HI.out.ow _ e).2; omega), HI.out.same (by omega) (by omega) hlv (HI.out.bl.trans (hB1.mono HI.out.bl.size)) hB1.size (fun j hj _ => hB1.block j hj), hX1, rfl⟩ hB1
    have HKK := Lib.hid hKK
    have HW1' := Lib.hid hW1
    clear hI hK hKK hB1 hX1 hW1
    gi_wp2_with fail
    rw [HW1'.out]
    exact HKK.out
  case body =>
    rintro l k a' W hk hszW ⟨bx, vk, hbx, hne, hI, hX, rfl⟩
    rw [HPL.out k hk] at hX ⊢
    obtain ⟨kk, nmk, hall, hkey, _⟩ := HN.out.nm _ (nth_mem hk)
    have hnk : nmOf F.all (nth F.kt.es k).key = nmk := by rw [hkey]; exact nmOf_at hall
    have hFW := HF.out.below hI.bl
    obtain ⟨gn, hgn⟩ : ∃ gn, an = some ⟨gn, 0, none⟩ := by
      have hpos : 0 < F.all.length := by have := (List.getElem?_eq_some_iff.1 hall).1; omega
      have h1 := hFW.nh.ns
      rw [hnv] at h1
      rcases h1.2 with ⟨h2, h3⟩ | ⟨g', cap', cur', h2, _⟩
      · injection h2 with _ h4 _
        omega
      · injection h2 with h2 _ _
        exact ⟨g', h2⟩
    subst hgn
    have hkl : kk < F.all.length := (List.getElem?_eq_some_iff.1 hall).1
    have cn : W.cell? ⟨gn, kk, none⟩ = some (.string nmk) := by
      have h1 := hFW.nh.ns
      rw [hnv] at h1
      have h2 := World.ownsRow.cellAt h1 kk (by omega)
      rw [h2, List.getElem?_map, hall]
      rfl
    have c5 : W.cell? ⟨f, 5, none⟩ = some (.slice (some ⟨gn, 0, none⟩) F.all.length capn) := by have := hFW.nh.hd.c 5 (by omega); rw [hnv] at this; exact this
    have c2 : W.cell? ⟨bx, 2, none⟩ = some (.int .i64 (kk : Int)) := by have := hX.c 2 (by omega); rw [← hkey]; exact this
    have cb := hI.b3
    have zb := hI.z3
    have b1 := hI.b1
    have hown := hI.ow
    have lf : f < w.heap.size := HF.out.lt f (.inl (.inl rfl))
    have lgn : gn < w.heap.size := HF.out.lt gn (.inl (.inr (.inr (by rw [hnv]; rfl))))
    have lbx := hX.lt (by omega)
    have hvk : ∀ j, vk.ownBlock = some j → w3.heap.size + 2 ≤ j ∧ j < W.heap.size := fun j hj => World.ownsRow.lt hown j hj
    have HRE : Hid ((nmsOf F.all (F.kt.es.take (k + 1))).map Value.string = ((nmsOf F.all (F.kt.es.take k)).map Value.string) ++ [.string nmk]) := by
      show _ = _
      rw [take_succ_nth hk]
      unfold nmsOf
      rw [List.map_append, List.map_append, ← hnk]
      rfl
    obtain ⟨R, hR⟩ : ∃ R, (nmsOf F.all (F.kt.es.take k)).map Value.string = R := ⟨_, rfl⟩
    rw [hR] at hown HRE
    have HFIN : Hid (∀ v' w2, w2.ownsRow (w3.heap.size + 2) 9 1 v' (k + 1) (R ++ [.string nmk]) → (W.drew.alloc (.cells #[.string nmk] 9)).grownBy w2 vk.ownBlock → (v'.ownBlock = vk.ownBlock ∨ v'.ownBlock = some (W.drew.alloc (.cells #[.string nmk] 9)).heap.size) →
        (w2.cell? ⟨w.heap.size, 0, none⟩ = some (.pointer (some ⟨f, 0, none⟩)) ∧ w2.cell? ⟨f, 5, none⟩ = some (.slice (some ⟨gn, 0, none⟩) F.all.length capn) ∧ w2.cell? ⟨bx, 2, none⟩ = some (.int .i64 (kk : Int)) ∧ w2.cell? ⟨gn, kk, none⟩ = some (.string nmk)) ∧ w2.cell? ⟨w.heap.size + 1, 0, none⟩ = some vk ∧ w2.frozen? ⟨w.heap.size + 1, 0, none⟩ = false ∧
        ((w2.setCell ⟨w.heap.size + 1, 0, none⟩ v').cell? ⟨w.heap.size, 0, none⟩ = some (.pointer (some ⟨f, 0, none⟩)) ∧ (w2.setCell ⟨w.heap.size + 1, 0, none⟩ v').cell? ⟨f, 5, none⟩ = some (.slice (some ⟨gn, 0, none⟩) F.all.length capn) ∧ (w2.setCell ⟨w.heap.size + 1, 0, none⟩ v').cell? ⟨bx, 2, none⟩ = some (.int .i64 (kk : Int)) ∧ (w2.setCell ⟨w.heap.size + 1, 0, none⟩ v').cell? ⟨gn, kk, none⟩ = some (.string nmk)) ∧
        (W.heap.size ≤ (w2.setCell ⟨w.heap.size + 1, 0, none⟩ v').heap.size ∧ (w2.setCell ⟨w.heap.size + 1, 0, none⟩ v').heap[w3.heap.size]? = W.heap[w3.heap.size]? ∧ (w2.setCell ⟨w.heap.size + 1, 0, none⟩ v').heap[w3.heap.size + 1]? = W.heap[w3.heap.size + 1]? ∧ ∃ vk, NaI w f F.all F.kt.es b v0 w3.heap.size (k + 1) (w2.setCell ⟨w.heap.size + 1, 0, none⟩ v') vk)) := by
      intro v' w2 h1 h2 h3
      have e2 : ∀ j, j < W.heap.size → vk.ownBlock ≠ some j → w2.heap[j]? = W.heap[j]? := fun j hj hn => (h2.block j (by simp; show j < W.heap.size + 1; omega) (fun e => hn e.symm)).trans (Below.heap_alloc W.drew _ _ hj)
      have e3 : ∀ j, j < W.heap.size → vk.ownBlock ≠ some j → j ≠ w.heap.size + 1 → (w2.setCell ⟨w.heap.size + 1, 0, none⟩ v').heap[j]? = W.heap[j]? := fun j hj hn hj2 => (Below.heap_setCell _ _ _ _ hj2).trans (e2 j hj hn)
      have q : ∀ {X : World} (j o : Nat) {u : Value}, X.heap[j]? = W.heap[j]? → W.cell? ⟨j, o, none⟩ = some u → X.cell? ⟨j, o, none⟩ = some u := fun {X} j o {u} he hc => (World.cell?_of_block (a := ⟨j, o, none⟩) he).trans hc
      have nv1 : ∀ j, j < w3.heap.size + 2 → vk.ownBlock ≠ some j := fun j hj e => by have := (hvk j e).1; omega
      have hsz2 : W.heap.size + 1 ≤ w2.heap.size := by have := h2.size; simp at this; exact this
      have hsW := hI.bl.size
      have hvn : ∀ j, v'.ownBlock = some j → w3.heap.size + 2 ≤ j := fun j hj => (World.ownsRow.lt h1 j hj).1
      refine ⟨⟨q _ 0 (e2 _ (by omega) (nv1 _ (by omega))) b1, q _ 5 (e2 _ (by omega) (nv1 _ (by omega))) c5, q _ 2 (e2 _ lbx hne) c2, q _ kk (e2 _ (by omega) (nv1 _ (by omega))) cn⟩, q _ 0 (e2 _ (by omega) (nv1 _ (by omega))) cb, (World.frozen?_of_block (a := ⟨w.heap.size + 1, 0, none⟩) (e2 (w.heap.size + 1) (by omega) (nv1 (w.heap.size + 1) (by omega)))).trans zb,
        ⟨q _ 0 (e3 _ (by omega) (nv1 _ (by omega)) (by omega)) b1, q _ 5 (e3 _ (by omega) (nv1 _ (by omega)) (by omega)) c5, q _ 2 (e3 _ lbx hne (by omega)) c2, q _ kk (e3 _ (by omega) (nv1 _ (by omega)) (by omega)) cn⟩, by simp [World.setCell]; omega, e3 _ (by omega) (nv1 _ (by omega)) (by omega), e3 _ (by omega) (nv1 _ (by omega)) (by omega), v', ?_⟩
      have hbw : Below w.heap.size w w2 := ⟨h2.os.trans hI.bl.os, h2.tape.trans hI.bl.tape, h2.output.trans hI.bl.output, by omega, fun j hj => (e2 j (by omega) (nv1 j (by omega))).trans (hI.bl.block j hj)⟩
      refine ⟨hbw.setCell (p := ⟨w.heap.size + 1, 0, none⟩) (by show w.heap.size ≤ w.heap.size + 1; omega) _, q _ 0 (e3 _ (by omega) (nv1 _ (by omega)) (by omega)) b1, World.cell?_setCell_same' _ _ _ (by rw [q _ 0 (e2 _ (by omega) (nv1 _ (by omega))) cb]; rfl), by rw [World.frozen?_setCell]; exact (World.frozen?_of_block (a := ⟨w.heap.size + 1, 0, none⟩) (e2 (w.heap.size + 1) (by omega) (nv1 (w.heap.size + 1) (by omega)))).trans zb, ?_, hI.es.same fun j hj => e3 j (by have := hlv j hj; omega) (nv1 j (by have := hlv j hj; omega)) ?_, q _ 0 (e3 _ (by omega) (nv1 _ (by omega)) (by omega)) hI.ib, by simp [World.setCell]; omega⟩
      · rw [HRE.out]
        exact own_same h1 fun j hj => Below.heap_setCell _ _ _ _ (by show j ≠ w.heap.size + 1; have := hvn j hj; omega)
      · have := hvg j hj
        omega
    unfold eV
    refine wpIn_block ?_
    have hr : ∀ (Q : Exit → Act → World → Prop), (∀ a' W', (W.heap.size ≤ W'.heap.size ∧ W'.heap[w3.heap.size]? = W.heap[w3.heap.size]? ∧ W'.heap[w3.heap.size + 1]? = W.heap[w3.heap.size + 1]? ∧ ∃ vk, NaI w f F.all F.kt.es b v0 w3.heap.size (k + 1) W' vk) → Q .normal a' W') → True := fun _ _ => trivial
    clear hr
    have d1 : W.drew.cell? ⟨w.heap.size, 0, none⟩ = some (.pointer (some ⟨f, 0, none⟩)) := b1
    have d5 : W.drew.cell? ⟨f, 5, none⟩ = some (.slice (some ⟨gn, 0, none⟩) F.all.length capn) := c5
    have d2 : W.drew.cell? ⟨bx, 2, none⟩ = some (.int .i64 (kk : Int)) := c2
    have dn : W.drew.cell? ⟨gn, kk, none⟩ = some (.string nmk) := cn
    have db : W.drew.cell? ⟨w.heap.size + 1, 0, none⟩ = some vk := cb
    have hown2 : W.drew.ownsRow (w3.heap.size + 2) 9 1 vk k R := hown
    have lW : W.drew.heap.size = W.heap.size := rfl
    have hsW := hI.bl.size
    have al : ∀ (j o : Nat) {u : Value}, j < W.heap.size → W.drew.cell? ⟨j, o, none⟩ = some u → (W.drew.alloc (.cells #[.string nmk] 9)).cell? ⟨j, o, none⟩ = some u := fun j o u hj hc => (cell_alloc_old _ _ _ _ hj).trans hc
    have a1 := al _ 0 (by omega) d1
    have a5 := al _ 5 (by omega) d5
    have a2 := al _ 2 lbx d2
    have an' := al _ kk (by omega) dn
    have ab := al _ 0 (by omega) db
    have lA : (W.drew.alloc (.cells #[.string nmk] 9)).heap.size = W.heap.size + 1 := World.size_alloc _ _
    have ab2 : (W.alloc (.cells #[.string nmk] 9)).cell? ⟨w.heap.size + 1, 0, none⟩ = some vk := ab
    have t1 : (kk : Int) < (F.all.length : Int) := by omega
    obtain ⟨ak, capk, hvk'⟩ := ownsRow_shape hown
    subst hvk'
    clear hFW hI hX hkey hall hnk hown hR b1 c5 c2 cn cb al hne
    generalize F.all.length = nA at *
    refine wpIn_mono (Q := fun e _ W' => e = .normal ∧ (W.heap.size ≤ W'.heap.size ∧ W'.heap[w3.heap.size]? = W.heap[w3.heap.size]? ∧ W'.heap[w3.heap.size + 1]? = W.heap[w3.heap.size + 1]? ∧ ∃ vk, NaI w f F.all F.kt.es b v0 w3.heap.size (k + 1) W' vk)) ?_ ?_
    case refine_2 =>
      rintro e a3 W3 ⟨rfl, h3⟩
      exact h3
    refine region_round (S := fun V => V.cell? ⟨w.heap.size, 0, none⟩ = some (.pointer (some ⟨f, 0, none⟩)) ∧ V.cell? ⟨f, 5, none⟩ = some (.slice (some ⟨gn, 0, none⟩) nA capn) ∧ V.cell? ⟨bx, 2, none⟩ = some (.int .i64 (kk : Int)) ∧ V.cell? ⟨gn, kk, none⟩ = some (.string nmk)) (by kernel_rfl) (fun ⟨_, _, h, _⟩ => by cases h) (by kernel_rfl) ⟨d1, d5, d2, dn⟩ (fun hSc => ?_)
    refine take_slot (i := 1) (d := some 12) (v := ?_) rfl rfl (by kernel_rfl) (by kernel_rfl) (by kernel_rfl) (fun _ _ _ h => h) (Or.inl ⟨by rfl, ?hy⟩) hSc ?_
    case hy => (intro w hSw; (try dsimp only at hSw); go_simp; try with_reducible rfl)
    simp only [Act.put, List.setIfInBounds_toArray, List.set_cons_zero, List.set_cons_succ]
    refine take_slot (i := 2) (d := some 13) (v := ?_) rfl rfl (by kernel_rfl) (by kernel_rfl) (by kernel_rfl) (fun _ _ _ h => h) (Or.inl ⟨by rfl, ?hy⟩) hSc ?_
    case hy => (intro w hSw; (try dsimp only at hSw); go_simp; try with_reducible rfl)
    simp only [Act.put, List.setIfInBounds_toArray, List.set_cons_zero, List.set_cons_succ]
    refine take_slot (i := 3) (d := some 14) (v := ?_) rfl rfl (by kernel_rfl) (by kernel_rfl) (by kernel_rfl) (fun _ _ _ h => h) (Or.inl ⟨by rfl, ?hy⟩) hSc ?_
    case hy => (intro w hSw; (try dsimp only at hSw); go_simp; try with_reducible rfl)
    simp only [Act.put, List.setIfInBounds_toArray, List.set_cons_zero, List.set_cons_succ]
    refine take_slot (i := 4) (d := some 15) (v := ?_) rfl rfl (by kernel_rfl) (by kernel_rfl) (by kernel_rfl) (fun _ _ _ h => h) (Or.inl ⟨by rfl, ?hy⟩) hSc ?_
    case hy => (intro w hSw; (try dsimp only at hSw); go_simp; try with_reducible rfl)
    simp only [Act.put, List.setIfInBounds_toArray, List.set_cons_zero, List.set_cons_succ]
    refine take_slot (i := 5) (d := some 16) (v := ?_) rfl rfl (by kernel_rfl) (by kernel_rfl) (by kernel_rfl) (fun _ _ _ h => h) (Or.inl ⟨by rfl, ?hy⟩) hSc ?_
    case hy => (intro w hSw; (try dsimp only at hSw); go_simp; try with_reducible rfl)
    simp only [Act.put, List.setIfInBounds_toArray, List.set_cons_zero, List.set_cons_succ]
    refine take_slot (i := 6) (d := some 17) (v := ?_) rfl rfl (by kernel_rfl) (by kernel_rfl) (by kernel_rfl) (fun _ _ _ h => h) (Or.inl ⟨by rfl, ?hy⟩) hSc ?_
    case hy => (intro w hSw; (try dsimp only at hSw); go_simp; try with_reducible rfl)
    simp only [Act.put, List.setIfInBounds_toArray, List.set_cons_zero, List.set_cons_succ]
    refine take_slot (i := 7) (d := some 18) (v := ?_) rfl rfl (by kernel_rfl) (by kernel_rfl) (by kernel_rfl) (fun _ _ _ h => h) (Or.inl ⟨by rfl, ?hy⟩) hSc ?_
    case hy => (intro w hSw; (try dsimp only at hSw); go_simp; try with_reducible rfl)
    simp only [Act.put, List.setIfInBounds_toArray, List.set_cons_zero, List.set_cons_succ]
    refine take_slot (i := 8) (d := some 19) (v := ?_) rfl rfl (by kernel_rfl) (by kernel_rfl) (by kernel_rfl) (fun _ _ _ h => h) (Or.inl ⟨by rfl, ?hy⟩) hSc ?_
    case hy => (intro w hSw; (try dsimp only at hSw); go_simp; try with_reducible rfl)
    simp only [Act.put, List.setIfInBounds_toArray, List.set_cons_zero, List.set_cons_succ]
    refine wpAnyH_ready (rs := [0, 9]) (by kernel_rfl) (by simp) ?_
    refine AllReadyH.cons rfl (fun K hK => ?_) (AllReadyH.cons rfl (fun K hK => ?_) AllReadyH.nil)
    · go_simp
      refine hK.out _ _ ⟨d1, d5, d2, dn⟩ (fun hSn => ?_)
      clear hK K
      try simp only [Act.put, List.setIfInBounds_toArray, List.set_cons_zero, List.set_cons_succ]
      refine wpAnyH_ready (rs := [9]) (by kernel_rfl) (by simp) ?_
      refine AllReadyH.cons rfl (fun K hK => ?_) AllReadyH.nil
      go_simp
      refine hK.out _ _ ⟨a1, a5, a2, an'⟩ (fun hSn => ?_)
      clear hK K
      show wpAnyH _ _ _ _ _ _ _ _ (W.drew.alloc (.cells #[.string nmk] 9))
      try simp only [Act.put, List.setIfInBounds_toArray, List.set_cons_zero, List.set_cons_succ]
      refine wpAnyH_ready (rs := [10]) (by kernel_rfl) (by simp) ?_
      refine AllReadyH.cons rfl (fun K hK => ?_) AllReadyH.nil
      refine step_append_own rfl _ _ 61 rfl (w3.heap.size + 2) 9 i0 (.string ByteArray.empty) 1 16 Tryz.underlying61 hi0 hz0 hz1 hz2 rfl (by decide) (.slice ak k capk) k R (by simp [Act.eval]) (World.ownsRow.alloc hown2 _) ⟨W.drew.heap.size, 0, none⟩ 1 1 [.string nmk] (by simp [Act.eval]) rfl (newR_one _ _ _) (by simp [Value.oneCell']) (by unfold maxLen; omega) (by omega) (by show w3.heap.size + 2 ≤ (W.drew.alloc (.cells #[.string nmk] 9)).heap.size; omega) ?_
      intro v' w2 hown3 hgrow hob
      obtain ⟨hS2, cb2, zb2, hS3, hP3⟩ := HFIN.out v' w2 hown3 hgrow hob
      obtain ⟨a', cap', hv'⟩ := ownsRow_shape hown3
      subst hv'
      refine hK.out _ _ hS2 (fun hSn => ?_)
      clear hK K hown3 hgrow hob
      refine wpAnyH_ready (rs := [11]) (by kernel_rfl) (by simp) ?_
      refine AllReadyH.cons rfl (fun K hK => ?_) AllReadyH.nil
      go_simp
      refine hK.out _ _ hS3 (fun hSn => ?_)
      clear hK K
      exact wpAnyH_done (by kernel_rfl) ⟨rfl, hP3⟩ _
    · go_simp
      refine hK.out _ _ ⟨a1, a5, a2, an'⟩ (fun hSn => ?_)
      clear hK K
      try simp only [Act.put, List.setIfInBounds_toArray, List.set_cons_zero, List.set_cons_succ]
      refine wpAnyH_ready (rs := [0]) (by kernel_rfl) (by simp) ?_
      refine AllReadyH.cons rfl (fun K hK => ?_) AllReadyH.nil
      go_simp
      refine hK.out _ _ ⟨a1, a5, a2, an'⟩ (fun hSn => ?_)
      clear hK K
      show wpAnyH _ _ _ _ _ _ _ _ (W.drew.alloc (.cells #[.string nmk] 9))
      try simp only [Act.put, List.setIfInBounds_toArray, List.set_cons_zero, List.set_cons_succ]
      refine wpAnyH_ready (rs := [10]) (by kernel_rfl) (by simp) ?_
      refine AllReadyH.cons rfl (fun K hK => ?_) AllReadyH.nil
      refine step_append_own rfl _ _ 61 rfl (w3.heap.size + 2) 9 i0 (.string ByteArray.empty) 1 16 Tryz.underlying61 hi0 hz0 hz1 hz2 rfl (by decide) (.slice ak k capk) k R (by simp [Act.eval]) (World.ownsRow.alloc hown2 _) ⟨W.drew.heap.size, 0, none⟩ 1 1 [.string nmk] (by simp [Act.eval]) rfl (newR_one _ _ _) (by simp [Value.oneCell']) (by unfold maxLen; omega) (by omega) (by show w3.heap.size + 2 ≤ (W.drew.alloc (.cells #[.string nmk] 9)).heap.size; omega) ?_
      intro v' w2 hown3 hgrow hob
      obtain ⟨hS2, cb2, zb2, hS3, hP3⟩ := HFIN.out v' w2 hown3 hgrow hob
      obtain ⟨a', cap', hv'⟩ := ownsRow_shape hown3
      subst hv'
      refine hK.out _ _ hS2 (fun hSn => ?_)
      clear hK K hown3 hgrow hob
      refine wpAnyH_ready (rs := [11]) (by kernel_rfl) (by simp) ?_
      refine AllReadyH.cons rfl (fun K hK => ?_) AllReadyH.nil
      go_simp
      refine hK.out _ _ hS3 (fun hSn => ?_)
      clear hK K
      exact wpAnyH_done (by kernel_rfl) ⟨rfl, hP3⟩ _
  case done =>
    rintro W ⟨vk, hI⟩ hK
    have hFin : NsB w.heap.size W vk (nmsOf F.all F.kt.es) ∧ Below w.heap.size w W := by
      refine ⟨?_, hI.bl⟩
      have h1 := hI.ow
      rw [List.take_length] at h1
      have h2 : W.ownsRow w.heap.size 9 1 vk F.kt.es.length ((nmsOf F.all F.kt.es).map Value.string) := h1.mono (by omega)
      unfold NsB
      rw [show (nmsOf F.all F.kt.es).length = F.kt.es.length by unfold nmsOf; simp]
      exact h2
    have cb := hI.b3
    have HFN := Lib.hid hFin
    have HVB : Hid (∀ j, vk.ownBlock = some j → w3.heap.size + 2 ≤ j) := fun j hj => (World.ownsRow.lt hI.ow j hj).1
    clear hI hFin
    gi_wp2_with fail
    gi_wp2
    refine ⟨by simp, .inl ⟨_, _, rfl, run_takeDeferred hK, ?_⟩⟩
    refine ⟨_, results_tmp rfl _ _ _, _, rfl, ?_, HFN.out.2.trans (below_put (by omega))⟩
    exact own_same HFN.out.1 (fun j hj => World.putObj_heap_other (by have := HVB.out j hj; omega))
end Go.Proofs.YtcbhpjpkjmlcnaaGreat
namespace Go.Proofs.YtcbhpjpkjmlcnaaGreat
open Go.RowKit Go.WideShapes

/-- What a Get tells. -/
def GetR (F : Fa) (nm : ByteArray) : Stn → Int → Bool → Prop
  | .row vs, x, ok => ∃ k, Num F.all nm k ∧ ((∃ n, Fnd F.kt.es k n ∧ n < vs.length ∧ x = vs[n]?.getD 0 ∧ ok = true) ∨ ((∀ n, Fnd F.kt.es k n → vs.length ≤ n) ∧ x = 0 ∧ ok = false))
  | .own t, x, ok => ∃ k, Num F.all nm k ∧ ((∃ n, Fnd t.es k n ∧ x = (nth t.es n).value ∧ ok = true) ∨ ((∀ n, ¬ Fnd t.es k n) ∧ x = 0 ∧ ok = false))
set_option maxRecDepth 100000 in
set_option maxHeartbeats 4000000 in
theorem get_any {w : World} {f : Nat} {F : Fa} {pm : Option Addr} {XF : Nat → Prop} {s : Nat} {st : Stn} {v : Nat} {XS : Nat → Prop} {N : Int → Int → Int → Int → World → Prop} {a b c d : Int} {c0 : Nat} (h : Fs w f F (.pointer pm) XF s st v XS) (hM4 : M4 (.pointer pm) N) (hM : N a b c d w) (hb : 0 ≤ b ∧ b ≤ 10000000000) (hO : F.Ok hsT c0) (hst : st.Ok hsT F c0) {nm : ByteArray} (hs : nm.size ≤ 3000) :
    Calls Tryz.prog 22 #[.pointer (some ⟨s, 0, none⟩), .string nm] w fun e w' => ∃ (x : Int) (ok : Bool) (k res : Int) (jj : Nat), e = .returned (.tuple #[.int .i64 x, .bool ok]) ∧ GetR F nm st x ok ∧ Num F.all nm k ∧ SkR (tbS F st) (hsT nm) k res jj ∧ N a (b + (jj : Int)) c d w' ∧ Ex (mB (.pointer pm)) w w' := by
  obtain ⟨k, hk⟩ := num_ex F.all nm
  have CS := sseek_any h hM4 hM hb hO hst hs hk
  have hF0 := h
  obtain ⟨q, XQ, h1, h2, h3, h4⟩ := h.sm
  subst h4
  have CN := isNothing_no (h1.c 1 (by omega))
  have ls := h1.lt (by omega)
  have HF0 := Lib.hid hF0
  have HM4 := Lib.hid hM4
  have HO := Lib.hid hO
  have HST := Lib.hid hst
  have HK := Lib.hid hk
  have HQ := Lib.hid h2
  have HB := Lib.hid h1
  clear h hM4 hM hO hst hk h1 h2 h3 hF0
  go_enter Tryz.func22, Tryz.ntmps22
  go_wp2_with fail
  refine CN.mono ?_
  rintro e w0 ⟨rfl, rfl⟩
  clear CN
  go_wp2_with fail
  refine CS.mono ?_
  rintro e w1 ⟨res, jj, rfl, hR, hM1, hx1⟩
  clear CS
  have hb1 := HB.out.same (w' := w1) (hx1.met ls (fun y => HF0.out.mq s y (.inl rfl)))
  have hq1 := HQ.out.same (w' := w1) fun j hj => hx1.met (HQ.out.lt j hj) (fun y => HF0.out.mq j y (.inr hj))
  have HR := Lib.hid hR
  have HM1 := Lib.hid hM1
  have HX1 := Lib.hid hx1
  cases st with
  | row vs =>
    have x1 : w1.cell? ⟨s, 1, none⟩ = some (.iface 117 (.pointer (some ⟨q, 0, none⟩))) := hb1.c 1 (by omega)
    have mh := mR_has (some ⟨q, 0, none⟩)
    obtain ⟨vv, hqb, hqv, hqn, rfl⟩ := hq1
    obtain ⟨av, cap, gv, rfl, hcap, hvo⟩ := hqv.open
    have hCH : (∃ n : Nat, res = (n : Int) ∧ Fnd F.kt.es k n ∧ n < vs.length) ∨ ((∀ n, Fnd F.kt.es k n → vs.length ≤ n) ∧ Calls Tryz.prog 168 #[.pointer (some ⟨q, 0, none⟩), .int .i64 res] w1 fun e w' => e = .returned (.bool false) ∧ w' = w1) := by
      rcases hR with ⟨n, rfl, hn, _⟩ | ⟨rfl, hn, _⟩
      · rcases Nat.lt_or_ge n vs.length with c1 | c1
        · exact .inl ⟨n, rfl, hn, c1⟩
        · refine .inr ⟨fun m hm => ?_, ?_⟩
          · rw [Nl.one (hs := hsT) (all := F.all) (by rw [live_all HO.out.dead]; exact HO.out.nl) hm hn]; exact c1
          · have := rowHas_any (hqb.c 1 (by omega)) n
            rw [decide_eq_false (by omega)] at this
            exact this
      · exact .inr ⟨fun m hm => absurd hm (hn m), rowHas_none⟩
    clear hR hM1 hx1
    rcases hCH with ⟨n, rfl, hn, hlt⟩ | ⟨hno, CH⟩
    · have CH := rowHas_any (hqb.c 1 (by omega)) n
      rw [decide_eq_true hlt] at CH
      obtain ⟨rfl, hgl, _, hgb⟩ := hvo (by omega)
      have CV := rowValue_any (hqb.c 1 (by omega)) hlt (hgb.c n hlt)
      have mv := mR_value (some ⟨q, 0, none⟩)
      have HG : Hid (GetR F nm (.row vs) (vs[n]?.getD 0) true) := ⟨k, HK.out, .inl ⟨n, hn, hlt, rfl, rfl⟩⟩
      clear hb1 hqb hqv hqn hvo hgb
      generalize vs[n]?.getD 0 = x at *
      go_wp2_with fail
      refine CH.mono ?_
      rintro e w3 ⟨rfl, rfl⟩
      clear CH
      go_wp2_with fail
      refine CV.mono ?_
      rintro e w4 ⟨rfl, rfl⟩
      clear CV
      go_wp2
      exact bodyPost_ret (v := .tuple #[.int .i64 x, .bool true]) (by simp [results, Tryz.results22, go_sem]) rfl ⟨x, true, k, _, jj, rfl, HG.out, HK.out, HR.out, HM1.out, HX1.out⟩
    · have HG : Hid (GetR F nm (.row vs) 0 false) := ⟨k, HK.out, .inr ⟨hno, rfl, rfl⟩⟩
      clear hb1 hqb hqv hqn hvo hno
      go_wp2_with fail
      refine CH.mono ?_
      rintro e w3 ⟨rfl, rfl⟩
      clear CH
      go_wp2
      exact bodyPost_ret (v := .tuple #[.int .i64 0, .bool false]) (by simp [results, Tryz.results22, go_sem]) rfl ⟨0, false, k, _, jj, rfl, HG.out, HK.out, HR.out, HM1.out, HX1.out⟩
  | own t =>
    have x1 : w1.cell? ⟨s, 1, none⟩ = some (.iface 229 (.pointer (some ⟨q, 0, none⟩))) := hb1.c 1 (by omega)
    have mh := mO_has (some ⟨q, 0, none⟩)
    obtain ⟨g, gi, r, h', ev, hqb, hqd, hqn, rfl⟩ := hq1
    clear hM1 hx1
    rcases hR with ⟨n, rfl, hn, _⟩ | ⟨rfl, hn, _⟩
    · have CH := ownHas_any (w := w1) (q := q) n
      have hn' : Fnd t.es k n := hn
      have CV := ownValue_any (hqb.c 1 (by omega)) hqd hn'.1 hn'.2.1
      have mv := mO_value (some ⟨q, 0, none⟩)
      have HG : Hid (GetR F nm (.own t) (nth t.es n).value true) := ⟨k, HK.out, .inl ⟨n, hn, rfl, rfl⟩⟩
      clear hb1 hqb hqd hqn
      generalize (nth t.es n).value = x at *
      go_wp2_with fail
      refine CH.mono ?_
      rintro e w3 ⟨rfl, rfl⟩
      clear CH
      go_wp2_with fail
      refine CV.mono ?_
      rintro e w4 ⟨rfl, hB4⟩
      clear CV
      go_wp2
      exact bodyPost_ret (v := .tuple #[.int .i64 x, .bool true]) (by simp [results, Tryz.results22, go_sem]) rfl ⟨x, true, k, _, jj, rfl, HG.out, HK.out, HR.out, (HM4.out.mt c d).below HM1.out hB4, HX1.out.trans (ex_of hB4)⟩
    · have CH := ownHas_none (w := w1) (q := q)
      have HG : Hid (GetR F nm (.own t) 0 false) := ⟨k, HK.out, .inr ⟨hn, rfl, rfl⟩⟩
      clear hb1 hqb hqd hqn hn
      go_wp2_with fail
      refine CH.mono ?_
      rintro e w3 ⟨rfl, rfl⟩
      clear CH
      go_wp2
      exact bodyPost_ret (v := .tuple #[.int .i64 0, .bool false]) (by simp [results, Tryz.results22, go_sem]) rfl ⟨0, false, k, _, jj, rfl, HG.out, HK.out, HR.out, HM1.out, HX1.out⟩
/-- A row of texts that can be read. -/
def RdS (w : World) (a : Option Addr) (l : List ByteArray) : Prop := ∃ g off, (0 < l.length → a = some ⟨g, off, none⟩) ∧ ∀ j, j < l.length → w.cell? ⟨g, off + j, none⟩ = some (.string (l[j]?.getD ByteArray.empty))
theorem NsB.rd {B : Nat} {w : World} {v : Value} {l : List ByteArray} (h : NsB B w v l) : ∃ a cap, v = .slice a l.length cap ∧ RdS w a l := by
  rcases h.2 with ⟨h1, h2⟩ | ⟨g, cap, cur, h1, h2⟩
  · refine ⟨none, 0, by rw [h1, h2], 0, 0, fun h => by omega, fun j hj => by omega⟩
  · refine ⟨_, cap, h1, g, 0, fun _ => rfl, fun j hj => ?_⟩
    have h3 : w.ownsRow B 9 1 (.slice (some ⟨g, 0, none⟩) l.length cap) l.length (l.map Value.string) := by rw [← h1]; exact h
    have h4 := World.ownsRow.cellAt h3 j (by omega)
    rw [Nat.zero_add, h4, List.getElem?_map, List.getElem?_eq_getElem hj]
    rfl
theorem RdS.below {w w' : World} {a : Option Addr} {l : List ByteArray} (h : RdS w a l) (hb : Below w.heap.size w w') : RdS w' a l := by
  obtain ⟨g, off, h1, h2⟩ := h
  exact ⟨g, off, h1, fun j hj => (hb.cell (p := ⟨g, off + j, none⟩) (lt_of_cell (h2 j hj))).trans (h2 j hj)⟩
theorem neS (s : ByteArray) (w : World) : (binOp .neq 9 (.string s) (.string s)).run Tryz.prog w = .ok (.bool false) w := by
  simp [binOp, go_sem, Op.stringOp]
set_option maxRecDepth 100000 in
set_option maxHeartbeats 1600000 in
theorem names_eq {w : World} {a1 a2 : Option Addr} {c1 c2 : Nat} {l : List ByteArray} (h1 : RdS w a1 l) (h2 : RdS w a2 l) (hl : l.length ≤ 100000) :
    Calls Tryz.prog 13 #[.slice a1 l.length c1, .slice a2 l.length c2] w fun e w' => e = .returned (.bool true) ∧ Below w.heap.size w w' := by
  obtain ⟨g1, o1, ha1, hc1⟩ := h1
  obtain ⟨g2, o2, ha2, hc2⟩ := h2
  obtain ⟨n, hn⟩ : ∃ n, l.length = n := ⟨_, rfl⟩
  rw [hn] at ha1 ha2 hc1 hc2 hl ⊢
  have HC1 := Lib.hid hc1
  have HC2 := Lib.hid hc2
  have HA1 := Lib.hid ha1
  have HA2 := Lib.hid ha2
  clear hc1 hc2 ha1 ha2 hn
  go_enter Tryz.func13, Tryz.ntmps13
  go_wp2_with fail
  go_loopw [5] (fun iv wr => ∃ i : Nat, i ≤ n ∧ iv = .int .i64 (i : Int) ∧ Below w.heap.size w wr) (fun iv _ => n - (intOf iv).toNat)
  case atStart => exact ⟨0, Nat.zero_le _, rfl, Below.refl _ _⟩
  case round =>
    obtain ⟨i, hi, rfl, hB⟩ := hrel
    by_cases hin : i < n
    · have ti : (i : Int) < (n : Int) := by omega
      have e1 := HA1.out (by omega)
      have e2 := HA2.out (by omega)
      subst e1
      subst e2
      have q1 := HC1.out i hin
      have q2 := HC2.out i hin
      have p1 : wr.drew.cell? ⟨g1, o1 + i, none⟩ = some (.string (l[i]?.getD ByteArray.empty)) := (hB.cell (p := ⟨g1, o1 + i, none⟩) (lt_of_cell q1)).trans q1
      have p2 : wr.drew.cell? ⟨g2, o2 + i, none⟩ = some (.string (l[i]?.getD ByteArray.empty)) := (hB.cell (p := ⟨g2, o2 + i, none⟩) (lt_of_cell q2)).trans q2
      have e5 : IntKind.i64.wrap ((i : Int) + 1) = ((i + 1 : Nat) : Int) := by rw [i64_small (by omega) (by omega)]; omega
      generalize l[i]?.getD ByteArray.empty = x at *
      have hne := neS x
      clear q1 q2
      go_wp2_with fail
      go_region_held3 (fun V => V.cell? ⟨g1, o1 + i, none⟩ = some (.string x) ∧ V.cell? ⟨g2, o2 + i, none⟩ = some (.string x)) (first | with_reducible exact ⟨p1, p2⟩ | fail) (fail)
      go_wp2_with fail
      go_roundw
      case rel => exact ⟨i + 1, by omega, rfl, hB.drew⟩
      case measure => simp [intOf]; omega
    · have ti : ¬ (i : Int) < (n : Int) := by omega
      go_wp2
      go_ret
      exact ⟨rfl, hB⟩
end Go.Proofs.YtcbhpjpkjmlcnaaGreat
namespace Go.Proofs.YtcbhpjpkjmlcnaaGreat
open Go.RowKit Go.WideShapes

theorem no_neg {hs : ByteArray → Int} {F : Fa} {c : Nat} (hF : F.Ok hs c) (n : Nat) : ¬ Fnd F.kt.es (-1) n := fun h => by
  obtain ⟨k, s, _, h2, _⟩ := hF.nl.nm _ (nth_mem h.1)
  have := h.2.2
  omega
theorem num_new {all : List ByteArray} {s : ByteArray} {k : Int} (h : Num all s k) (hs : s ∉ all) : k = -1 := by
  rcases h with ⟨n, _, hn⟩ | ⟨h, _⟩
  · exact absurd (List.mem_of_getElem? hn) hs
  · exact h
/-- A name that is new to the family, where the row has all names of the key table. -/
theorem setR_new {hs : ByteArray → Int} {F : Fa} {s : ByteArray} {v : Int} {vs : List Int} {F' : Fa} {st' : Stn} {er : Int} {dc dd c : Nat} (h : SetR hs F s v (.row vs) F' st' er dc dd) (hF : F.Ok hs c) (hs' : s ∉ F.all) (hl : F.kt.es.length = vs.length) (hr : vs.length < F.room) (hm : vs.length < F.most) :
    er = 0 ∧ dc = 1 ∧ dd = 0 ∧ F' = { F with all := F.all ++ [s], kt := F.kt.add (hs s) (F.all.length : Int) 0 } ∧ st' = .row (vs ++ [v]) := by
  cases h with
  | putR hk hn _ => rw [num_new hk hs'] at hn; exact absurd hn (no_neg hF _)
  | fullR hk hn hm' => omega
  | next hk hn _ => rw [num_new hk hs'] at hn; exact absurd hn (no_neg hF _)
  | new hk hn _ _ _ =>
    rw [num_new hk hs']
    exact ⟨rfl, rfl, rfl, rfl, rfl⟩
  | turn hk hn _ h2 => exact absurd ⟨hl, hr⟩ h2
def sX : ByteArray := { data := #[120] }
def sY : ByteArray := { data := #[121] }
noncomputable def F1a : Fa := ⟨[sX], Tb.new.add (hsT sX) 0 0, 3, 10⟩
noncomputable def F2a : Fa := ⟨[sX, sY], (Tb.new.add (hsT sX) 0 0).add (hsT sY) 1 0, 3, 10⟩
theorem F1a_es : F1a.kt.es = [⟨true, hsT sX, 0, 0, 0⟩] := by
  show (Tb.new.add (hsT sX) 0 0).es = _
  rw [add_live rfl]
  rfl
theorem F2a_es : F2a.kt.es = [⟨true, hsT sX, 0, 0, 0⟩, ⟨true, hsT sY, 1, 0, 1⟩] := by
  have h1 := F1a_es
  have a := Tb.new.add_rest (hsT sX) 0 0
  show ((Tb.new.add (hsT sX) 0 0).add (hsT sY) 1 0).es = _
  rw [add_live (by show deadN F1a.kt.es = 0; rw [h1]; rfl)]
  show F1a.kt.es ++ _ = _
  rw [h1, a.1]
  rfl
theorem xy_ne : sY ∉ [sX] := by
  intro h
  have := List.mem_singleton.1 h
  exact absurd this (by decide)
theorem F2a_names : nmsOf F2a.all F2a.kt.es = [sX, sY] := by
  rw [F2a_es]
  rfl
theorem F2a_get {x : Int} {ok : Bool} (h : GetR F2a sY (.row [1, 2]) x ok) : x = 2 ∧ ok = true := by
  obtain ⟨k, hk, h⟩ := h
  have hnd : F2a.all.Nodup := by show [sX, sY].Nodup; simp; exact fun e => absurd e (by decide)
  have hk1 : k = 1 := hk.uniq hnd (.inl ⟨1, rfl, rfl⟩)
  subst hk1
  have hf : Fnd F2a.kt.es 1 1 := by
    unfold Fnd
    rw [F2a_es]
    exact ⟨by decide, rfl, rfl⟩
  rcases h with ⟨n, hn, hl, hx, ho⟩ | ⟨hno, _⟩
  · have : n = 1 := by
      have h2 := hn.2.2
      rw [F2a_es] at h2
      have : n = 0 ∨ n = 1 := by simp at hl; omega
      rcases this with rfl | rfl
      · exact absurd h2 (by decide)
      · rfl
    subst this
    exact ⟨hx, ho⟩
  · have := hno 1 hf
    simp at this
theorem rd_two (w : World) (x y : ByteArray) : RdS (w.alloc (.cells #[.string x, .string y] 9)) (some ⟨w.heap.size, 0, none⟩) [x, y] := by
  have h : Blk (w.alloc (.cells #[.string x, .string y] 9)) w.heap.size 2 (fun j => #[Value.string x, .string y].getD j .nilFunc) := Blk.new w _ _
  refine ⟨w.heap.size, 0, fun _ => rfl, fun j hj => ?_⟩
  have : j = 0 ∨ j = 1 := by simp at hj; omega
  rcases this with rfl | rfl
  · exact h.c 0 (by omega)
  · exact h.c 1 (by omega)
end Go.Proofs.YtcbhpjpkjmlcnaaGreat
namespace Go.Proofs.YtcbhpjpkjmlcnaaGreat
open Go.RowKit Go.WideShapes

set_option maxRecDepth 100000 in
set_option maxHeartbeats 4000000 in
theorem awake10_any (w : World) : Calls Tryz.prog 7 #[] w fun e w' => e = .returned (.bool true) ∧ Below w.heap.size w w' := by
  have CN : Calls Tryz.prog 19 #[.int .i64 3, .int .i64 10, .pointer none] w fun e w' => ∃ f XF, e = .returned (.tuple #[.pointer (some ⟨f, 0, none⟩), .int .i64 0]) ∧ FamX w' f ⟨[], Tb.new, 3, 10⟩ (.pointer none) XF ∧ (∀ k, XF k → w.heap.size ≤ k) ∧ no4 (0 + 1) 0 0 0 w' ∧ Ex (mB (.pointer none)) w w' := shnew_any (N := no4) (a := 0) (b := 0) (c := 0) (d := 0) m4_nil trivial (by omega) 3 10 (by decide) (by decide)
  go_enter Tryz.func7, Tryz.ntmps7
  go_wp2_with fail
  refine CN.mono ?_
  rintro e w1 ⟨f, XF, rfl, hF1, hX1, _, hx1⟩
  clear CN
  have h1 := eqFa f
  have CM := make_any hF1 (fun k hk => (noMet hk).elim)
  have hB1 : Below w.heap.size w w1 := hx1.below (fun k hk => (noMet hk).elim) (Nat.le_refl _)
  clear hF1 hx1
  go_wp2_with fail
  refine CM.mono ?_
  rintro e w2 ⟨s, XS, rfl, hS2, hX2, hB2⟩
  clear CM h1
  have h2 := eqSp s
  have hF0 : (⟨[], Tb.new, 3, 10⟩ : Fa).Ok hsT 0 := fa_new hsT (by decide) (by decide)
  have C1 := (set_any (N := no4) (a := 0) (b := 0) (c := 0) (d := 0) hS2 m4_nil trivial (by omega) (by omega) (by omega) (by omega) hF0 (Nat.le_refl _) (by omega) (by omega) (nm := sX) (by decide) 1).mono (R' := fun e w' => e = .returned (.int .i64 0) ∧ ∃ XF' XS', Fs w' f F1a (.pointer none) XF' s (.row [1]) 1 XS' ∧ (∀ k, XF' k → w.heap.size ≤ k) ∧ (∀ k, XS' k → w.heap.size ≤ k) ∧ Below w.heap.size w w') (fun e w' ⟨er, he, F', st', dc, dd, hset, k, res, jj, _, _, XF', XS', R⟩ => by
    obtain ⟨rfl, _, _, rfl, rfl⟩ := setR_new hset hF0 (by simp) rfl (by show 0 < 3; decide) (by show 0 < 10; decide)
    have hs12 := hB1.size
    have hs2 := hB2.size
    refine ⟨he, XF', XS', R.fs, fun k hk => ?_, fun k hk => ?_, ?_⟩
    · rcases R.hf k hk with y | y
      · exact hX1 k y
      · omega
    · rcases R.hs k hk with y | y
      · have := hX2 k y; omega
      · omega
    · refine (hB1.trans (hB2.mono hs12)).trans (R.ex.below (fun k hk => ?_) (by omega))
      rcases hk with y | y | y
      · exact hX1 k y
      · have := hX2 k y; omega
      · exact (noMet y).elim)
  clear hS2 hX1 hX2 hB1 hB2
  unfold sX at C1
  go_wp2_with fail
  refine C1.mono ?_
  rintro e w3 ⟨rfl, XF3, XS3, hS3, hX3, hY3, hB3⟩
  clear C1
  have hF1 : F1a.Ok hsT 1 := (setR_ok (F := ⟨[], Tb.new, 3, 10⟩) (st := .row []) (s := sX) (v := 1) (.new (k := -1) (.inr ⟨rfl, by simp⟩) (fun n hn => absurd hn.1 (by simp [Tb.new])) (by show 0 < 10; decide) rfl (by show 0 < 3; decide)) hF0 (Nat.le_refl _) (by decide) (by omega)).1
  have C2 := (set_any (N := no4) (a := 0) (b := 0) (c := 0) (d := 0) hS3 m4_nil trivial (by omega) (by omega) (by omega) (by omega) hF1 (by show 1 ≤ F1a.kt.es.length; rw [F1a_es]; decide) (by omega) (by omega) (nm := sY) (by decide) 2).mono (R' := fun e w' => e = .returned (.int .i64 0) ∧ ∃ XF' XS', Fs w' f F2a (.pointer none) XF' s (.row [1, 2]) 2 XS' ∧ (∀ k, XF' k → w.heap.size ≤ k) ∧ (∀ k, XS' k → w.heap.size ≤ k) ∧ Below w.heap.size w w') (fun e w' ⟨er, he, F', st', dc, dd, hset, k, res, jj, _, _, XF', XS', R⟩ => by
    obtain ⟨rfl, _, _, rfl, rfl⟩ := setR_new hset hF1 xy_ne (by rw [F1a_es]; rfl) (by show 1 < 3; decide) (by show 1 < 10; decide)
    have hs3 := hB3.size
    refine ⟨he, XF', XS', R.fs, fun k hk => ?_, fun k hk => ?_, ?_⟩
    · rcases R.hf k hk with y | y
      · exact hX3 k y
      · omega
    · rcases R.hs k hk with y | y
      · exact hY3 k y
      · omega
    · refine hB3.trans (R.ex.below (fun k hk => ?_) hs3)
      rcases hk with y | y | y
      · exact hX3 k y
      · exact hY3 k y
      · exact (noMet y).elim)
  have hF2 : F2a.Ok hsT 2 := (setR_ok (F := F1a) (st := .row [1]) (s := sY) (v := 2) (.new (k := -1) (.inr ⟨rfl, xy_ne⟩) (fun n => no_neg hF1 n) (by show 1 < 10; decide) (by rw [F1a_es]; rfl) (by show 1 < 3; decide)) hF1 (by show 1 ≤ F1a.kt.es.length; rw [F1a_es]; decide) (by decide) (by omega)).1
  clear hS3 hX3 hY3 hB3
  unfold sY at C2
  go_wp2_with fail
  refine C2.mono ?_
  rintro e w4 ⟨rfl, XF4, XS4, hS4, hX4, hY4, hB4⟩
  clear C2 h2
  have C3 := (get_any (N := no4) (a := 0) (b := 0) (c := 0) (d := 0) hS4 m4_nil trivial (by omega) hF2 (by show 2 ≤ F2a.kt.es.length; rw [F2a_es]; decide) (nm := sY) (by decide)).mono (R' := fun e w' => e = .returned (.tuple #[.int .i64 2, .bool true]) ∧ Fs w' f F2a (.pointer none) XF4 s (.row [1, 2]) 2 XS4 ∧ Below w.heap.size w w') (fun e w' ⟨x, ok, k, res, jj, he, hg, _, _, _, hx⟩ => by
    obtain ⟨rfl, rfl⟩ := F2a_get hg
    exact ⟨he, hS4.met hx, hB4.trans (hx.below (fun k hk => (noMet hk).elim) hB4.size)⟩)
  clear hS4
  unfold sY at C3
  go_wp2_with fail
  refine C3.mono ?_
  rintro e w5 ⟨rfl, hS5, hB5⟩
  clear C3
  have C4 := shared_any hS5.sm
  obtain ⟨g, gi, r, h, ev, mb, nv, hFa, _⟩ := hS5.fm
  have C5 := names_any hFa hF2.nl hF2.dead (by rw [F2a_es]; decide)
  rw [F2a_names] at C5
  clear hS5 hFa
  go_wp2_with fail
  refine C4.mono ?_
  rintro e w6 ⟨rfl, rfl⟩
  clear C4
  go_wp2_with fail
  refine C5.mono ?_
  rintro e w7 ⟨vn, rfl, hN7, hB7⟩
  clear C5
  obtain ⟨an, cn, rfl, hR7⟩ := hN7.rd
  obtain ⟨w8, hw8⟩ : ∃ y, w7.alloc (.cells #[.string sX, .string sY] 9) = y := ⟨_, rfl⟩
  have hB8 : Below w7.heap.size w7 w8 := by rw [← hw8]; exact (Below.refl _ w7).alloc (Nat.le_refl _) _
  have hR8 : RdS w8 (some ⟨w7.heap.size, 0, none⟩) [sX, sY] := by rw [← hw8]; exact rd_two w7 sX sY
  have C6 := names_eq (c1 := cn) (c2 := 2) (hR7.below hB8) hR8 (by decide)
  simp only [List.length_cons, List.length_nil, Nat.reduceAdd] at C6
  have HW8 := Lib.hid hw8
  have HB : Hid (Below w.heap.size w w8) := hB5.trans ((hB7.trans (hB8.mono hB7.size)).mono hB5.size)
  clear hw8 hR7 hR8 hN7 hB7 hB8 hB5
  unfold sX sY at HW8
  simp only [List.length_cons, List.length_nil, Nat.reduceAdd]
  go_wp2_with (go_at_call 13; rw [HW8.out]; refine C6.mono ?_; rintro e w9 ⟨rfl, hB9⟩)
  go_ret
  exact ⟨rfl, HB.out.trans (hB9.mono HB.out.size)⟩
end Go.Proofs.YtcbhpjpkjmlcnaaGreat
namespace Go.Proofs.YtcbhpjpkjmlcnaaGreat
open Go.ChangeShapes Go.WideShapes Go.ChangeAt Go.RowKit Go.Joins

theorem Tryz.own : ownKnob Tryz.prog.godebug = none := by kernel_rfl
theorem Tryz.laidOut : laidOutB Tryz.prog = true := by kernel_rfl
end Go.Proofs.YtcbhpjpkjmlcnaaGreat
namespace Go.Proofs.YtcbhpjpkjmlcnaaGreat
open Go.ChangeShapes Go.WideShapes Go.ChangeAt Go.RowKit Go.Joins

/-- A step: its kind, its namespace, its name, its value. -/
structure Stp where
  kind : Int
  s : Int
  name : ByteArray
  value : Int
  deriving Inhabited
/-- A row of steps. -/
def S4 (W : World) (a : Option Addr) (n c : Nat) (G : Nat → Stp) : Prop :=
  n ≤ c ∧ ∃ b off, (0 < n → a = some ⟨b, off, none⟩ ∧ b < W.heap.size) ∧ ∀ i, i < n → W.cell? ⟨b, off + (i * 4 + 0), none⟩ = some (.int .i64 (G i).kind) ∧ W.cell? ⟨b, off + (i * 4 + 1), none⟩ = some (.int .i64 (G i).s) ∧ W.cell? ⟨b, off + (i * 4 + 2), none⟩ = some (.string (G i).name) ∧ W.cell? ⟨b, off + (i * 4 + 3), none⟩ = some (.int .i64 (G i).value)
theorem Tryz.cellsStep4 : Tryz.prog.cellsOf 53 = 4 := by kernel_rfl
theorem Tryz.cellsI4 : Tryz.prog.cellsOf 3 = 1 := by kernel_rfl
theorem Tryz.cellsS4 : Tryz.prog.cellsOf 9 = 1 := by kernel_rfl
theorem four_add (b off q : Nat) : (⟨b, off, none⟩ : Addr).add q = ⟨b, off + q, none⟩ := by
  unfold Addr.add
  split <;> simp_all
set_option maxRecDepth 100000 in
theorem steps4_open {H : Type} {enc : TypeId × Value → H} {W : World} {r : Reach} {base : Nat} {v : Value} {d : DataW H} {p : List MemPlace} (hv : Value.okWide Tryz.prog W r base 22 v) (h : DataW.Trod enc Tryz.prog W 0 (fun _ => true) true 22 v d p) :
    ∃ a n c G, v = .slice a n c ∧ S4 W a n c G := by
  obtain ⟨a0, n0, c0, rfl⟩ := okWide_slice Tryz.underlying22 hv
  obtain ⟨fuel, hf⟩ := h
  rcases Deep.open_slice Tryz.underlying22 hf with ⟨hcs, _⟩ | ⟨a, len, cap, m, n, D, Pl, hcs, hb, hl, hm, hmm, _, hx⟩
  · simp [Value.cells] at hcs
    obtain ⟨rfl, rfl, rfl⟩ := hcs
    exact ⟨none, 0, 0, fun _ => ⟨0, 0, ByteArray.empty, 0⟩, rfl, Nat.le_refl _, 0, 0, fun h => absurd h (by omega), fun i h => absurd h (by omega)⟩
  · simp [Value.cells] at hcs
    obtain ⟨rfl, rfl, rfl⟩ := hcs
    simp only [if_true] at hmm
    have each : ∀ i, i < m → ∃ q : Stp, W.cell? (a.add (i * 4 + 0)) = some (.int .i64 q.kind) ∧ W.cell? (a.add (i * 4 + 1)) = some (.int .i64 q.s) ∧ W.cell? (a.add (i * 4 + 2)) = some (.string q.name) ∧ W.cell? (a.add (i * 4 + 3)) = some (.int .i64 q.value) := by
      intro i hi
      obtain ⟨cs', h1, h2⟩ := hx i hi
      rw [Tryz.cellsStep4] at h1
      obtain ⟨_, hlen, hcell⟩ := World.cells?_some h1
      obtain ⟨xs, k, hk, hxy, _, hxl, hf⟩ := DataW.trod_struct Tryz.underlying53 h2
      match xs, hxl, cs', hlen with
      | [y0, y1, y2, y3], _, [v0, v1, v2, v3], _ =>
        have g0 := hf 0 _ rfl
        have g1 := hf 1 _ rfl
        have g2 := hf 2 _ rfl
        have g3 := hf 3 _ rfl
        simp [Tryz.cellsI4, Tryz.cellsS4] at g0 g1 g2 g3
        obtain ⟨z0, e0, _⟩ := DataW.trod_int Tryz.underlying3 g0
        obtain ⟨z1, e1, _⟩ := DataW.trod_int Tryz.underlying3 g1
        obtain ⟨z2, e2, _⟩ := DataW.trod_string Tryz.underlying9 g2
        obtain ⟨z3, e3, _⟩ := DataW.trod_int Tryz.underlying3 g3
        simp only [List.cons.injEq, and_true] at e0 e1 e2 e3
        subst e0 e1 e2 e3
        have hc0 := hcell 0 (by omega)
        have hc1 := hcell 1 (by omega)
        have hc2 := hcell 2 (by omega)
        have hc3 := hcell 3 (by omega)
        rw [Deep.add_add] at hc0 hc1 hc2 hc3
        exact ⟨⟨z0, z1, z2, z3⟩, by simpa using hc0, by simpa using hc1, by simpa using hc2, by simpa using hc3⟩
    obtain ⟨q, hq⟩ := Deep.choose_lt each
    obtain ⟨b, off, spot⟩ := a
    have hsp : 0 < n0 → spot = none := fun h0 => by
      have := (hq 0 (by omega)).1
      simpa [Addr.add] using World.cell?_spot this
    refine ⟨_, _, _, q, rfl, hl, b, off, fun h0 => ?_, fun i hi => ?_⟩
    · obtain rfl := hsp h0
      have hc := (hq 0 (by omega)).1
      rw [four_add] at hc
      exact ⟨rfl, lt_of_cell hc⟩
    · obtain rfl := hsp (by omega)
      have hc := hq i (by omega)
      simp only [four_add] at hc
      exact hc
/-- What much tells. -/
def MuR (n : Nat) (G : Nat → Stp) (e : Ending) (w w' : World) : Prop := ∃ b : Bool, e = .returned (.bool b) ∧ w' = w ∧ (b = false → n ≤ 300 ∧ ∀ i, i < n → (G i).name.size ≤ 200)
set_option maxRecDepth 100000 in
set_option maxHeartbeats 1600000 in
theorem much_any {w : World} {a : Option Addr} {n c : Nat} {G : Nat → Stp} (hS : S4 w a n c G) :
    Calls Tryz.prog 5 #[.slice a n c] w fun e w' => MuR n G e w w' := by
  obtain ⟨hcap, b, off, hab, hG⟩ := hS
  by_cases hn : n ≤ 300
  · have tn : ¬ 300 < (n : Int) := by omega
    have HG := Lib.hid hG
    have HAB := Lib.hid hab
    clear hG hab
    go_enter Tryz.func5, Tryz.ntmps5
    go_wp2_with fail
    go_loopw [3] (fun iv wr => ∃ k : Nat, k ≤ n ∧ iv = .int .i64 (k : Int) ∧ wr = w ∧ ∀ i, i < k → (G i).name.size ≤ 200) (fun iv _ => n - (intOf iv).toNat)
    case atStart => exact ⟨0, Nat.zero_le _, rfl, rfl, fun i hi => absurd hi (Nat.not_lt_zero _)⟩
    case round =>
      obtain ⟨k, hk, rfl, rfl, hall⟩ := hrel
      have HA := Lib.hid hall
      clear hall
      by_cases hlt : k < n
      · obtain ⟨rfl, hbl⟩ := HAB.out (by omega)
        have tk : (k : Int) < (n : Int) := by omega
        have c2 : wr.cell? ⟨b, off + k * 4 + 2, none⟩ = some (.string (G k).name) := (HG.out k hlt).2.2.1
        have e5 : IntKind.i64.wrap ((k : Int) + 1) = ((k + 1 : Nat) : Int) := by rw [i64_small (by omega) (by omega)]; omega
        by_cases hs : (G k).name.size ≤ 200
        · have ts : ¬ 200 < (((G k).name.size : Nat) : Int) := by omega
          have HS := Lib.hid hs
          clear hs
          generalize (G k).name = x at c2 ts
          go_wp2_with fail
          go_roundw
          case rel => exact ⟨k + 1, by omega, by first | rfl | trivial, by first | rfl | trivial, fun i hi => by
            rcases Nat.lt_or_ge i k with y | y
            · exact HA.out i y
            · obtain rfl : i = k := by omega
              exact HS.out⟩
          case measure => simp [intOf]; omega
        · have ts : 200 < (((G k).name.size : Nat) : Int) := by omega
          clear hs
          generalize (G k).name = x at c2 ts
          go_wp2
          go_ret
          exact ⟨true, rfl, rfl, fun h => by cases h⟩
      · have tk : ¬ (k : Int) < (n : Int) := by omega
        have hkn : k = n := by omega
        go_wp2
        go_ret
        exact ⟨false, rfl, rfl, fun _ => ⟨hn, fun i hi => HA.out i (by omega)⟩⟩
  · have tn : 300 < (n : Int) := by omega
    go_enter Tryz.func5, Tryz.ntmps5
    go_wp2
    go_ret
    exact ⟨true, rfl, rfl, fun h => by cases h⟩
end Go.Proofs.YtcbhpjpkjmlcnaaGreat
