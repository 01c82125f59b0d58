/-
  The law's does: a walk more.
-/
import Derived.Test.YtejfmajbggmghaaGreatGv
namespace Go.Proofs.YtejfmajbggmghaaGreat
open Go.RowKit Go.WideShapes

section
variable {P : Program} {ops : Array Oper} {Q : Exit → Act → World → Prop} {md : Region.Mode} {S : World → Prop}
/-- Take number i first, its slot written out. -/
theorem takeS_at {i : Nat} {oi : Oper} {v : Value} {d : Option Nat} {fuel : Nat} {listed : Array Bool} {a : Act} {w : World} (hi : ops[i]? = some oi) (hd : oi.dst = d)
    (hs : Region.noSelect ops = true) (hf : Region.free md ops listed i = true) (hr : (Region.ready md ops listed).contains i = true)
    (hQ : ∀ c a w, Q (.panic c) (a.put d v) w → Q (.panic c) a w) (hy : YieldsIf P ops S oi v a) (hS : S w)
    (h : wpAnyH P md ops Q S fuel (listed.setIfInBounds i true) (a.put d v) w) : wpAnyH P md ops Q S (fuel + 1) listed a w := by
  subst hd
  exact wpAnyH_take hi hs hf hr hQ hy hS h
end
theorem Tryz.info9s : (Tryz.prog.info? 42).map (fun i => (i.zero, i.size, i.bytes)) = some (some (.pointer none), 1, 8) := by kernel_rfl
theorem Tryz.info9k : (Tryz.prog.info? 63).map (fun i => (i.zero, i.size, i.bytes)) = some (some (.pointer none), 1, 8) := by kernel_rfl
theorem info8 {t : TypeId} {z : Value} {s b : Nat} (h : (Tryz.prog.info? t).map (fun i => (i.zero, i.size, i.bytes)) = some (some z, s, b)) : ∃ i, Tryz.prog.info? t = some i ∧ i.zero = some z ∧ i.size = s ∧ i.bytes = b := by
  cases e : Tryz.prog.info? t with
  | none => rw [e] at h; cases h
  | some i =>
    rw [e] at h
    simp only [Option.map_some, Option.some.injEq, Prod.mk.injEq] at h
    exact ⟨i, rfl, h.1, h.2.1, h.2.2⟩
theorem push_row {W w3 : World} {X fi n B : Nat} {F : Nat → Value} {T : TypeId} {o : Obj} {v v' : Value} {xs : List Value} (hX : Blk W X 4 F) (hne : ∀ i, v.ownBlock = some i → i ≠ X) (h1 : w3.ownsRow B T 1 v' n xs) (h2 : (W.alloc o).grownBy w3 v.ownBlock) (h3 : v'.ownBlock = v.ownBlock ∨ v'.ownBlock = some (W.alloc o).heap.size) :
    Blk w3 X 4 F ∧ ∀ w4, w3.setCell ⟨X, fi, none⟩ v' = w4 → Blk w4 X 4 (fun x => if x = fi then v' else F x) ∧ w4.ownsRow B T 1 v' n xs ∧ Ex (fun i => i = X ∨ v.ownBlock = some i) W w4 ∧ ∀ i, v'.ownBlock = some i → v.ownBlock = some i ∨ (W.heap.size ≤ i ∧ i < w4.heap.size) := by
  have lX := hX.lt (by omega)
  have h0 : Ex (fun i => i = X ∨ v.ownBlock = some i) W (W.alloc o) := (Ex.refl _ W).alloc o
  have e1 : Ex (fun i => i = X ∨ v.ownBlock = some i) W w3 := ⟨h2.os.trans h0.os, h2.tape.trans h0.tape, h2.output.trans h0.output, Nat.le_trans h0.size h2.size, fun k hk hx => (h2.block k (Nat.lt_of_lt_of_le hk h0.size) (fun e => hx (.inr e.symm))).trans (h0.block k hk hx)⟩
  have bX : w3.heap[X]? = W.heap[X]? := (h2.block X (Nat.lt_of_lt_of_le lX h0.size) (fun e => hne X e.symm rfl)).trans (Below.heap_alloc _ _ _ lX)
  have hX3 : Blk w3 X 4 F := hX.same bX
  refine ⟨hX3, fun w4 hw4 => ?_⟩
  have hx4 : Ex (fun i => i = X) w3 w4 := by rw [← hw4]; exact (Ex.refl (fun i => i = X) w3).setCell (p := ⟨X, fi, none⟩) (fun _ => rfl) _
  have hp := hX3.put fi v'
  rw [hw4] at hp
  have g : ∀ i, v'.ownBlock = some i → (v.ownBlock = some i ∨ W.heap.size ≤ i) ∧ i < w3.heap.size := fun i hi => ⟨by
    rcases h3 with e | e
    · exact .inl (e ▸ hi)
    · rw [e] at hi
      injection hi with hi
      simp at hi
      exact .inr (by omega), (h1.lt i hi).2⟩
  have nX : ∀ i, v'.ownBlock = some i → i ≠ X := fun i hi => by
    rcases (g i hi).1 with y | y
    · exact hne i y
    · omega
  exact ⟨hp, owns_same h1 (fun k hk => hx4.block k (g k hk).2 (nX k hk)), e1.next hx4 (fun _ _ e => .inl e), fun i hi => ((g i hi).1).elim .inl (fun y => .inr ⟨y, Nat.lt_of_lt_of_le (g i hi).2 hx4.size⟩)⟩
/-- The program's row has grown: what the document's side finds. -/
theorem walk_mid {B : Nat} {wB w1 w6 : World} {X : Nat} {S : St8} {most : Int} {c : Nat} (h : J9 B wB X S most c) (hb : Below wB.heap.size wB w1) (hx : Ex (fun i => i = X ∨ S.rm.ownBlock = some i) w1 w6) :
    Rdc w6 (S.ds 0).d2 (S.ds 0).g2 (S.ds 0).q2 (S.ds 0).ev2 (S.ds 0).t (.pointer none) most (S.ds 0).v ∧ w6.ownsRow 0 63 1 S.rn S.nw (ptrs (fun j => (S.ws j).k) S.nw) := by
  obtain ⟨lab, sp⟩ := h.p.sep
  have h0 : 0 < S.nd := by rw [h.nd]; decide
  have key : ∀ i, i < wB.heap.size → lab i ≠ 0 → lab i ≠ 3 → w6.heap[i]? = wB.heap[i]? := fun i hi n0 n3 => (hx.block i (Nat.lt_of_lt_of_le hi hb.size) (fun e => by
    rcases e with e | e
    · exact n0 (by rw [e]; exact sp.x.1)
    · exact n3 (sp.rm i e).1)).trans (hb.block i hi)
  refine ⟨(h.p.dk 0 h0).rc.same fun i hi => ?_, owns_same h.p.rn fun i hi => ?_⟩
  · have g := sp.dr 0 h0 i hi; exact key i g.2 (by omega) (by omega)
  · have g := sp.rn i hi; exact key i g.2 (by omega) (by omega)
theorem walk_all {B : Nat} {wB w1 w6 w7 w9 : World} {X : Nat} {S : St8} {most : Int} {c : Nat} (h : J9 B wB X S most c) (h20 : S.nw < 20) {s b k : Nat} {sb : Bool} {vm vn : Value}
    (hb1 : Below wB.heap.size wB w1) (hs : wB.heap.size ≤ s ∧ wB.heap.size ≤ b) (hSr : Sr w1 s (S.ds 0).d sb ((S.ds 0).t.live : Int) (if sb = true then 9223372036854775807 else -1) b)
    (hr6 : w6.ownsRow 0 42 1 vm (S.nw + 1) (ptrs (fun j => (S.ws j).s) S.nw ++ [.pointer (some ⟨s, 0, none⟩)])) (hx6 : Ex (fun i => i = X ∨ S.rm.ownBlock = some i) w1 w6) (ho6 : ∀ i, vm.ownBlock = some i → S.rm.ownBlock = some i ∨ (w1.heap.size ≤ i ∧ i < w6.heap.size))
    (hb7 : Below w6.heap.size w6 w7) (hk : w6.heap.size ≤ k) (hK : Blk w7 k 6 (rsF (S.ds 0).d2 ((S.ds 0).t.live : Int) sb 0 false 0))
    (hX9 : Blk w9 X 4 (fun x => if x = 3 then vn else (if x = 2 then vm else x8F S x))) (hr9 : w9.ownsRow 0 63 1 vn (S.nw + 1) (ptrs (fun j => (S.ws j).k) S.nw ++ [.pointer (some ⟨k, 0, none⟩)])) (hx9 : Ex (fun i => i = X ∨ S.rn.ownBlock = some i) w7 w9) (ho9 : ∀ i, vn.ownBlock = some i → S.rn.ownBlock = some i ∨ (w7.heap.size ≤ i ∧ i < w9.heap.size)) :
    ∃ S', J9 B w9 X S' most c ∧ Below B wB w9 := by
  obtain ⟨lab, sp⟩ := h.p.sep
  have l1 := hb1.size
  have l6 := hx6.size
  have l7 := hb7.size
  have l9 := hx9.size
  have ls := hSr.lt
  have lk := hK.lt (by omega)
  have lX := sp.x
  have nsb := hSr.ne
  have hnw : ∀ i, wB.heap.size ≤ i → i < w1.heap.size → w9.heap[i]? = w1.heap[i]? := fun i h1 h2 => by
    have n1 : i ≠ X := by omega
    rw [hx9.block i (by omega) (fun e => e.elim n1 (fun e => by have := (sp.rn i e).2; omega)), hb7.block i (by omega), hx6.block i h2 (fun e => e.elim n1 (fun e => by have := (sp.rm i e).2; omega))]
  refine ⟨_, walk_fin h h20 (q := ⟨s, k, b⟩) (vm := vm) (vn := vn) ?_ ⟨⟨hs.1, by show s < _; omega⟩, ⟨by show _ ≤ k; omega, by show k < _; omega⟩, ⟨hs.2, by show b < _; omega⟩, by show s ≠ k; omega, nsb, by show k ≠ b; omega⟩ ?_ ?_ hr9 (fun i hi => ?_) (fun i hi => ?_) (fun i h1 h2 => ?_) ?_⟩
  · exact (((ex_of hb1).next hx6 (fun _ _ e => e.elim .inl (fun e => .inr (.inl e)))).next (ex_of (X := fun _ => False) hb7) (fun _ _ e => e.elim)).next hx9 (fun _ _ e => e.elim .inl (fun e => .inr (.inr e)))
  · refine .inl ⟨sb, _, _, 0, false, hSr.same (hnw s hs.1 ls.1) (hnw b hs.2 ls.2), hK.same (hx9.block k (by omega) (fun e => e.elim (fun e => by omega) (fun e => by have := (sp.rn k e).2; omega))), ?_, fun e => ?_, fun e => (by cases e), fun _ => rfl⟩
    · cases sb <;> decide
    · rw [e]; decide
  · refine owns_same hr6 fun i hi => ?_
    have li := (World.ownsRow.lt hr6 i hi).2
    refine (hx9.block i (by omega) (fun e => ?_)).trans (hb7.block i li)
    rcases ho6 i hi with z | z
    · have g := sp.rm i z
      rcases e with e | e
      · rw [e] at g; omega
      · have := sp.rn i e; omega
    · rcases e with e | e
      · omega
      · have := sp.rn i e; omega
  · rcases ho6 i hi with z | z
    · exact .inl z
    · exact .inr ⟨by omega, by show i ≠ s; omega, by show i ≠ k; omega, by show i ≠ b; omega⟩
  · rcases ho9 i hi with z | z
    · exact .inl z
    · exact .inr ⟨by omega, by show i ≠ s; omega, by show i ≠ k; omega, by show i ≠ b; omega⟩
  · rcases ho6 i h1 with z | z <;> rcases ho9 i h2 with y | y
    · have g1 := sp.rm i z; have g2 := sp.rn i y; omega
    · have g1 := sp.rm i z; omega
    · have g1 := sp.rn i y; omega
    · omega
  · refine hX9.congr fun j hj => ?_
    rcases (by omega : j = 0 ∨ j = 1 ∨ j = 2 ∨ j = 3) with rfl | rfl | rfl | rfl <;> rfl
set_option maxRecDepth 100000 in
set_option maxHeartbeats 8000000 in
theorem does9_walk {B : Nat} {w : World} {X : Nat} {S : St8} {most : Int} {c : Nat} (h : J9 B w X S most c) (_hc : c ≤ 40000) (x1 x2 x3 x5 : Int) (sb : Bool) :
    Calls Tryz.prog 7 #[.pointer (some ⟨X, 0, none⟩), .agg #[.int .i64 4, .int .i64 x1, .int .i64 x2, .int .i64 x3, .bool sb, .int .i64 x5]] w fun e w' => e = .returned (.bool true) ∧ Out9 B w X most (c + 1) w' := by
  obtain ⟨w0, hw0⟩ : ∃ V, w.alloc (.cells #[.int .i64 4, .int .i64 x1, .int .i64 x2, .int .i64 x3, .bool sb, .int .i64 x5] 38) = V := ⟨_, rfl⟩
  have hb0 : Below w.heap.size w w0 := by rw [← hw0]; exact (Below.refl _ w).alloc (Nat.le_refl _) _
  have hB0 : Blk w0 w.heap.size 6 (fun j => #[Value.int .i64 4, .int .i64 x1, .int .i64 x2, .int .i64 x3, .bool sb, .int .i64 x5].getD j .nilFunc) := by rw [← hw0]; exact Blk.new w _ _
  have hJ0 := h.below hb0
  have hlS : w.heap.size < w0.heap.size := hB0.lt (by omega)
  have b0 : w0.cell? ⟨w.heap.size, 0, none⟩ = some (.int .i64 4) := hB0.c 0 (by omega)
  have HBB : Hid (Below B w w0) := hb0.mono h.hB
  have HJ := Lib.hid hJ0
  have HSB := Lib.hid hB0
  have HLO : Hid (∀ i, S.every X i → i < w.heap.size) := fun i hi => h.lt9 i hi
  have HW0 := Lib.hid hw0
  clear h hb0 hB0 hJ0 hw0
  have y2 : w0.cell? ⟨X, 2, none⟩ = some S.rm := HJ.out.p.hx.c 2 (by omega)
  obtain ⟨am, capm, em, hcapm⟩ := row_len HJ.out.p.rm
  obtain ⟨an, capn, en, hcapn⟩ := row_len HJ.out.p.rn
  rw [em] at y2
  have h20 := HJ.out.wk.nw
  by_cases hlt : S.nw < 20
  case neg =>
    have tz : ¬ (S.nw : Int) < 20 := by omega
    go_enter Tryz.func7, Tryz.ntmps7
    go_upto_region 1 with fail
    rw [HW0.out]
    go_wp2_with fail
    go_ret
    exact ⟨rfl, ⟨S, HJ.out.le (Nat.le_succ _), HBB.out⟩⟩
  have tz : (S.nw : Int) < 20 := by omega
  have hJd := HJ.out.below (w' := w0.drew) (Below.refl _ w0).drew
  have h0 : 0 < S.nd := by have := hJd.nd; omega
  have hdk := hJd.p.dk 0 h0
  have hcu := hJd.cur
  have CN := snew_any hdk.dc sb
  have hXd := hJd.p.hx
  have lX : X < w0.drew.heap.size := hJd.lt X (.inl rfl)
  have hne : ∀ i, S.rm.ownBlock = some i → i ≠ X := fun i hi e => by
    obtain ⟨lab, sp⟩ := hJd.p.sep
    have h1 := sp.rm i hi; have h2 := sp.x; rw [e] at h1; omega
  have hne2 : ∀ i, S.rn.ownBlock = some i → i ≠ X := fun i hi e => by
    obtain ⟨lab, sp⟩ := hJd.p.sep
    have h1 := sp.rn i hi; have h2 := sp.x; rw [e] at h1; omega
  have HRM := Lib.hid hJd.p.rm
  have HNE := Lib.hid hne
  have HNE2 := Lib.hid hne2
  have HXd := Lib.hid hXd
  have y0 : w0.cell? ⟨X, 0, none⟩ = some (.pointer (some ⟨(S.ds 0).d, 0, none⟩)) := by rw [← hcu]; exact HJ.out.p.hx.c 0 (by omega)
  have y4 : w0.cell? ⟨w.heap.size, 4, none⟩ = some (.bool sb) := HSB.out.c 4 (by omega)
  have HK : Hid (∀ V, Below w0.drew.heap.size w0.drew V → Blk V X 4 (x8F S) ∧ V.cell? ⟨X, 0, none⟩ = some (.pointer (some ⟨(S.ds 0).d, 0, none⟩)) ∧ V.cell? ⟨X, 2, none⟩ = some (.slice am S.nw capm) ∧ V.cell? ⟨w.heap.size, 4, none⟩ = some (.bool sb)) := fun V hb => by
    have hx := HXd.out.of hb (by omega)
    have hs : Blk V w.heap.size 6 _ := (Blk.same (w' := w0.drew) HSB.out rfl).of hb (by omega)
    exact ⟨hx, by rw [← hcu]; exact hx.c 0 (by omega), by rw [← em]; exact hx.c 2 (by omega), hs.c 4 (by omega)⟩
  have HOW : Hid (∀ w1, Below w0.drew.heap.size w0.drew w1 → ∀ s, Blk w1 X 4 (x8F S) ∧ (w1.cell? ⟨X, 0, none⟩ = some (.pointer (some ⟨(S.ds 0).d, 0, none⟩)) ∧ w1.cell? ⟨w.heap.size, 4, none⟩ = some (.bool sb)) ∧ ((w1.alloc (.cells #[.pointer (some ⟨s, 0, none⟩)] 42)).cell? ⟨X, 0, none⟩ = some (.pointer (some ⟨(S.ds 0).d, 0, none⟩)) ∧ (w1.alloc (.cells #[.pointer (some ⟨s, 0, none⟩)] 42)).cell? ⟨w.heap.size, 4, none⟩ = some (.bool sb)) ∧ w1.cell? ⟨X, 2, none⟩ = some (.slice am S.nw capm) ∧ (w1.alloc (.cells #[.pointer (some ⟨s, 0, none⟩)] 42)).cell? ⟨X, 2, none⟩ = some (.slice am S.nw capm) ∧ (w1.alloc (.cells #[.pointer (some ⟨s, 0, none⟩)] 42)).ownsRow 0 42 1 (.slice am S.nw capm) S.nw (ptrs (fun j => (S.ws j).s) S.nw)) := fun w1 hB1 s => by
    obtain ⟨q1, q2, q3, q4⟩ := HK.out w1 hB1
    have hb2 : Below w0.drew.heap.size w0.drew (w1.alloc (.cells #[.pointer (some ⟨s, 0, none⟩)] 42)) := hB1.alloc hB1.size _
    obtain ⟨r1, r2, r3, r4⟩ := HK.out _ hb2
    exact ⟨q1, ⟨q2, q4⟩, ⟨r2, r4⟩, q3, r3, by rw [← em]; exact World.ownsRow.alloc (owns_same HRM.out (fun i hi => hB1.block i (World.ownsRow.lt HRM.out i hi).2)) _⟩
  have HST : Hid (∀ w1, Below w0.drew.heap.size w0.drew w1 → ∀ s v' w5, w5.ownsRow 0 42 1 v' (S.nw + 1) (ptrs (fun j => (S.ws j).s) S.nw ++ [.pointer (some ⟨s, 0, none⟩)]) → (w1.alloc (.cells #[.pointer (some ⟨s, 0, none⟩)] 42)).grownBy w5 (Value.slice am S.nw capm).ownBlock → (v'.ownBlock = (Value.slice am S.nw capm).ownBlock ∨ v'.ownBlock = some (w1.alloc (.cells #[.pointer (some ⟨s, 0, none⟩)] 42)).heap.size) →
      (w5.cell? ⟨X, 0, none⟩ = some (.pointer (some ⟨(S.ds 0).d, 0, none⟩)) ∧ w5.cell? ⟨w.heap.size, 4, none⟩ = some (.bool sb)) ∧ w5.cell? ⟨X, 2, none⟩ = some (.slice am S.nw capm) ∧ w5.frozen? ⟨X, 2, none⟩ = false ∧ ((w5.setCell ⟨X, 2, none⟩ v').cell? ⟨X, 0, none⟩ = some (.pointer (some ⟨(S.ds 0).d, 0, none⟩)) ∧ (w5.setCell ⟨X, 2, none⟩ v').cell? ⟨w.heap.size, 4, none⟩ = some (.bool sb)) ∧
      (Blk (w5.setCell ⟨X, 2, none⟩ v') X 4 (fun x => if x = 2 then v' else x8F S x) ∧ (w5.setCell ⟨X, 2, none⟩ v').ownsRow 0 42 1 v' (S.nw + 1) (ptrs (fun j => (S.ws j).s) S.nw ++ [.pointer (some ⟨s, 0, none⟩)]) ∧ Ex (fun i => i = X ∨ S.rm.ownBlock = some i) w1 (w5.setCell ⟨X, 2, none⟩ v') ∧ ∀ i, v'.ownBlock = some i → S.rm.ownBlock = some i ∨ (w1.heap.size ≤ i ∧ i < (w5.setCell ⟨X, 2, none⟩ v').heap.size))) := fun w1 hB1 s v' w5 h1 h2 h3 => by
    obtain ⟨q1, q2, q3, q4⟩ := HK.out w1 hB1
    obtain ⟨p1, p2⟩ := push_row q1 (fi := 2) HNE.out h1 (by rw [em]; exact h2) (by rw [em]; exact h3)
    obtain ⟨m1, m2, m3, m4⟩ := p2 _ rfl
    have lS : w.heap.size < w1.heap.size := Nat.lt_of_lt_of_le hlS hB1.size
    have nS : w.heap.size ≠ X := by have := HLO.out X (.inl (.inl rfl)); omega
    have nR : S.rm.ownBlock ≠ some w.heap.size := fun e => by have := HLO.out _ (.inl (.inr (.inl e))); omega
    have e6 : (w5.setCell ⟨X, 2, none⟩ v').heap[w.heap.size]? = w1.heap[w.heap.size]? := m3.block _ lS (fun e => e.elim nS (fun e => nR e))
    have e5 : w5.heap[w.heap.size]? = w1.heap[w.heap.size]? := by rw [← Below.heap_setCell w5 ⟨X, 2, none⟩ v' w.heap.size nS]; exact e6
    exact ⟨⟨by rw [← hcu]; exact p1.c 0 (by omega), (World.cell?_of_block (a := ⟨w.heap.size, 4, none⟩) e5).trans q4⟩, by rw [← em]; exact p1.c 2 (by omega), p1.z 2, ⟨by rw [← hcu]; exact m1.c 0 (by omega), (World.cell?_of_block (a := ⟨w.heap.size, 4, none⟩) e6).trans q4⟩, m1, m2, m3, m4⟩
  have HJD := Lib.hid hJd
  have HBD : Hid (Below B w w0.drew) := HBB.out.drew
  have HLS : Hid (w.heap.size < w0.drew.heap.size) := hlS
  obtain ⟨i0, hi0, hz0, hz1, hz2⟩ := info8 Tryz.info9s
  clear hJd hdk hXd hne hne2 em
  generalize hTL : ((S.ds 0).t.live : Int) = tl at *
  go_enter Tryz.func7, Tryz.ntmps7
  go_upto_region 1 with fail
  rw [HW0.out]
  go_upto_region 11 with fail
  clear b0
  go_cut [42] from 43 to 57 (fun v W => v = .pointer (some ⟨X, 0, none⟩) ∧ ∃ w1 s b vm, Below w0.drew.heap.size w0.drew w1 ∧ (w0.drew.heap.size ≤ s ∧ w0.drew.heap.size ≤ b) ∧ Sr w1 s (S.ds 0).d sb tl (if sb = true then 9223372036854775807 else -1) b ∧ Blk W X 4 (fun x => if x = 2 then vm else x8F S x) ∧ W.ownsRow 0 42 1 vm (S.nw + 1) (ptrs (fun j => (S.ws j).s) S.nw ++ [.pointer (some ⟨s, 0, none⟩)]) ∧ Ex (fun i => i = X ∨ S.rm.ownBlock = some i) w1 W ∧ (∀ i, vm.ownBlock = some i → S.rm.ownBlock = some i ∨ (w1.heap.size ≤ i ∧ i < W.heap.size)) ∧ W.cell? ⟨w.heap.size, 4, none⟩ = some (.bool sb))
  case first =>
    refine wp_region_noPanic ?_
    refine wp_region_held_drew (S := fun V => V.cell? ⟨X, 0, none⟩ = some (.pointer (some ⟨(S.ds 0).d, 0, none⟩)) ∧ V.cell? ⟨w.heap.size, 4, none⟩ = some (.bool sb)) (by kernel_rfl) ⟨y0, y4⟩ (fun hSc => ?_)
    refine takeS_at (i := 0) (d := some 42) (v := ?_) rfl rfl (by kernel_rfl) (by kernel_rfl) (by kernel_rfl) (fun _ _ _ h => h) (Or.inl ⟨by rfl, ?hy⟩) hSc ?_
    case hy => (intro w hSw; (try dsimp only at hSw); go_simp; try with_reducible rfl)
    simp only [Act.put, List.setIfInBounds_toArray, List.set_cons_zero, List.set_cons_succ]
    refine takeS_at (i := 1) (d := some 43) (v := ?_) rfl rfl (by kernel_rfl) (by kernel_rfl) (by kernel_rfl) (fun _ _ _ h => h) (Or.inl ⟨by rfl, ?hy⟩) hSc ?_
    case hy => (intro w hSw; (try dsimp only at hSw); go_simp; try with_reducible rfl)
    simp only [Act.put, List.setIfInBounds_toArray, List.set_cons_zero, List.set_cons_succ]
    refine takeS_at (i := 2) (d := some 44) (v := ?_) rfl rfl (by kernel_rfl) (by kernel_rfl) (by kernel_rfl) (fun _ _ _ h => h) (Or.inl ⟨by rfl, ?hy⟩) hSc ?_
    case hy => (intro w hSw; (try dsimp only at hSw); go_simp; try with_reducible rfl)
    simp only [Act.put, List.setIfInBounds_toArray, List.set_cons_zero, List.set_cons_succ]
    refine takeS_at (i := 3) (d := some 45) (v := ?_) rfl rfl (by kernel_rfl) (by kernel_rfl) (by kernel_rfl) (fun _ _ _ h => h) (Or.inl ⟨by rfl, ?hy⟩) hSc ?_
    case hy => (intro w hSw; (try dsimp only at hSw); go_simp; try with_reducible rfl)
    simp only [Act.put, List.setIfInBounds_toArray, List.set_cons_zero, List.set_cons_succ]
    refine takeS_at (i := 5) (d := some 47) (v := ?_) rfl rfl (by kernel_rfl) (by kernel_rfl) (by kernel_rfl) (fun _ _ _ h => h) (Or.inl ⟨by rfl, ?hy⟩) hSc ?_
    case hy => (intro w hSw; (try dsimp only at hSw); go_simp; try with_reducible rfl)
    simp only [Act.put, List.setIfInBounds_toArray, List.set_cons_zero, List.set_cons_succ]
    refine takeS_at (i := 6) (d := some 48) (v := ?_) rfl rfl (by kernel_rfl) (by kernel_rfl) (by kernel_rfl) (fun _ _ _ h => h) (Or.inl ⟨by rfl, ?hy⟩) hSc ?_
    case hy => (intro w hSw; (try dsimp only at hSw); go_simp; try with_reducible rfl)
    simp only [Act.put, List.setIfInBounds_toArray, List.set_cons_zero, List.set_cons_succ]
    refine takeS_at (i := 7) (d := some 49) (v := ?_) rfl rfl (by kernel_rfl) (by kernel_rfl) (by kernel_rfl) (fun _ _ _ h => h) (Or.inl ⟨by rfl, ?hy⟩) hSc ?_
    case hy => (intro w hSw; (try dsimp only at hSw); go_simp; try with_reducible rfl)
    simp only [Act.put, List.setIfInBounds_toArray, List.set_cons_zero, List.set_cons_succ]
    refine takeS_at (i := 8) (d := some 50) (v := ?_) rfl rfl (by kernel_rfl) (by kernel_rfl) (by kernel_rfl) (fun _ _ _ h => h) (Or.inl ⟨by rfl, ?hy⟩) hSc ?_
    case hy => (intro w hSw; (try dsimp only at hSw); go_simp; try with_reducible rfl)
    simp only [Act.put, List.setIfInBounds_toArray, List.set_cons_zero, List.set_cons_succ]
    refine takeS_at (i := 9) (d := some 51) (v := ?_) rfl rfl (by kernel_rfl) (by kernel_rfl) (by kernel_rfl) (fun _ _ _ h => h) (Or.inl ⟨by rfl, ?hy⟩) hSc ?_
    case hy => (intro w hSw; (try dsimp only at hSw); go_simp; try with_reducible rfl)
    simp only [Act.put, List.setIfInBounds_toArray, List.set_cons_zero, List.set_cons_succ]
    refine takeS_at (i := 10) (d := some 52) (v := ?_) rfl rfl (by kernel_rfl) (by kernel_rfl) (by kernel_rfl) (fun _ _ _ h => h) (Or.inl ⟨by rfl, ?hy⟩) hSc ?_
    case hy => (intro w hSw; (try dsimp only at hSw); go_simp; try with_reducible rfl)
    simp only [Act.put, List.setIfInBounds_toArray, List.set_cons_zero, List.set_cons_succ]
    refine wpAnyH_ready (rs := [4, 11]) (by kernel_rfl) (by simp) ?_
    refine AllReadyH.cons rfl (fun K hK => ?_) (AllReadyH.cons rfl (fun K hK => ?_) AllReadyH.nil)
    · go_simp
      refine hK.out _ _ hSc (fun hSn => ?_)
      clear hK K
      refine wpAnyH_ready (rs := [11]) (by kernel_rfl) (by simp) ?_
      refine AllReadyH.cons rfl (fun K hK => ?_) AllReadyH.nil
      go_simp
      refine CN.mono ?_
      rintro e w1 ⟨s, b, rfl, hs, hbb, hSr, hB1⟩; obtain ⟨hX1, s1, s2, k2, ka2, hown⟩ := HOW.out w1 hB1 s
      refine hK.out _ _ s1 (fun hSn => ?_)
      clear hK K
      refine wpAnyH_ready (rs := [12]) (by kernel_rfl) (by simp) ?_
      refine AllReadyH.cons rfl (fun K hK => ?_) AllReadyH.nil
      go_simp
      refine hK.out _ _ s2 (fun hSn => ?_)
      clear hK K
      refine wpAnyH_ready (rs := [13]) (by kernel_rfl) (by simp) ?_
      refine AllReadyH.cons rfl (fun K hK => ?_) AllReadyH.nil
      refine step_append_own rfl _ _ 32 rfl 0 42 i0 (.pointer none) 1 8 Tryz.underlying32 hi0 hz0 hz1 hz2 rfl (by decide) (.slice am S.nw capm) S.nw (ptrs (fun j => (S.ws j).s) S.nw) (by simp [Act.eval]) hown ⟨w1.heap.size, 0, none⟩ 1 1 [.pointer (some ⟨s, 0, none⟩)] (by simp [Act.eval]) rfl (newR_one _ _ _) (by simp [Value.oneCell']) (by unfold maxLen; omega) (by omega) (Nat.zero_le _) ?_; intro v' w5 hown2 hgrow hat; obtain ⟨s3, g2, gz2, s4, hRL⟩ := HST.out w1 hB1 s v' w5 hown2 hgrow hat; obtain ⟨a2, cap2, hv2⟩ := ownsRow_shape hown2; subst hv2
      refine hK.out _ _ s3 (fun hSn => ?_)
      clear hK K
      refine takeS_at (i := 14) (d := some 56) (v := ?_) rfl rfl (by kernel_rfl) (by kernel_rfl) (by kernel_rfl) (fun _ _ _ h => h) (Or.inl ⟨by rfl, ?hy⟩) s3 ?_
      case hy => (intro w hSw; (try dsimp only at hSw); go_simp; try with_reducible rfl)
      simp only [Act.put, List.setIfInBounds_toArray]
      refine takeS_at (i := 15) (d := some 57) (v := ?_) rfl rfl (by kernel_rfl) (by kernel_rfl) (by kernel_rfl) (fun _ _ _ h => h) (Or.inl ⟨by rfl, ?hy⟩) s3 ?_
      case hy => (intro w hSw; (try dsimp only at hSw); go_simp; try with_reducible rfl)
      simp only [Act.put]
      refine wpAnyH_ready (rs := [16]) (by kernel_rfl) (by simp) ?_
      refine AllReadyH.cons rfl (fun K hK => ?_) AllReadyH.nil
      go_simp
      refine hK.out _ _ s4 (fun hSn => ?_)
      clear hK K
      refine wpAnyH_done (by kernel_rfl) ?_ _
      refine NoPanic.normal ?_
      go_wp2_with fail
      go_meet
      case rel => exact ⟨rfl, w1, s, b, _, hB1, ⟨hs, hbb⟩, hSr, hRL.1, hRL.2.1, hRL.2.2.1, hRL.2.2.2, s4.2⟩
    · go_simp
      refine CN.mono ?_
      rintro e w1 ⟨s, b, rfl, hs, hbb, hSr, hB1⟩; obtain ⟨hX1, s1, s2, k2, ka2, hown⟩ := HOW.out w1 hB1 s
      refine hK.out _ _ s1 (fun hSn => ?_)
      clear hK K
      refine wpAnyH_ready (rs := [4, 12]) (by kernel_rfl) (by simp) ?_
      refine AllReadyH.cons rfl (fun K hK => ?_) (AllReadyH.cons rfl (fun K hK => ?_) AllReadyH.nil)
      · go_simp
        refine hK.out _ _ s1 (fun hSn => ?_)
        clear hK K
        refine wpAnyH_ready (rs := [12]) (by kernel_rfl) (by simp) ?_
        refine AllReadyH.cons rfl (fun K hK => ?_) AllReadyH.nil
        go_simp
        refine hK.out _ _ s2 (fun hSn => ?_)
        clear hK K
        refine wpAnyH_ready (rs := [13]) (by kernel_rfl) (by simp) ?_
        refine AllReadyH.cons rfl (fun K hK => ?_) AllReadyH.nil
        refine step_append_own rfl _ _ 32 rfl 0 42 i0 (.pointer none) 1 8 Tryz.underlying32 hi0 hz0 hz1 hz2 rfl (by decide) (.slice am S.nw capm) S.nw (ptrs (fun j => (S.ws j).s) S.nw) (by simp [Act.eval]) hown ⟨w1.heap.size, 0, none⟩ 1 1 [.pointer (some ⟨s, 0, none⟩)] (by simp [Act.eval]) rfl (newR_one _ _ _) (by simp [Value.oneCell']) (by unfold maxLen; omega) (by omega) (Nat.zero_le _) ?_; intro v' w5 hown2 hgrow hat; obtain ⟨s3, g2, gz2, s4, hRL⟩ := HST.out w1 hB1 s v' w5 hown2 hgrow hat; obtain ⟨a2, cap2, hv2⟩ := ownsRow_shape hown2; subst hv2
        refine hK.out _ _ s3 (fun hSn => ?_)
        clear hK K
        refine takeS_at (i := 14) (d := some 56) (v := ?_) rfl rfl (by kernel_rfl) (by kernel_rfl) (by kernel_rfl) (fun _ _ _ h => h) (Or.inl ⟨by rfl, ?hy⟩) s3 ?_
        case hy => (intro w hSw; (try dsimp only at hSw); go_simp; try with_reducible rfl)
        simp only [Act.put, List.setIfInBounds_toArray]
        refine takeS_at (i := 15) (d := some 57) (v := ?_) rfl rfl (by kernel_rfl) (by kernel_rfl) (by kernel_rfl) (fun _ _ _ h => h) (Or.inl ⟨by rfl, ?hy⟩) s3 ?_
        case hy => (intro w hSw; (try dsimp only at hSw); go_simp; try with_reducible rfl)
        simp only [Act.put]
        refine wpAnyH_ready (rs := [16]) (by kernel_rfl) (by simp) ?_
        refine AllReadyH.cons rfl (fun K hK => ?_) AllReadyH.nil
        go_simp
        refine hK.out _ _ s4 (fun hSn => ?_)
        clear hK K
        refine wpAnyH_done (by kernel_rfl) ?_ _
        refine NoPanic.normal ?_
        go_wp2_with fail
        go_meet
        case rel => exact ⟨rfl, w1, s, b, _, hB1, ⟨hs, hbb⟩, hSr, hRL.1, hRL.2.1, hRL.2.2.1, hRL.2.2.2, s4.2⟩
      · go_simp
        refine hK.out _ _ s2 (fun hSn => ?_)
        clear hK K
        refine wpAnyH_ready (rs := [4]) (by kernel_rfl) (by simp) ?_
        refine AllReadyH.cons rfl (fun K hK => ?_) AllReadyH.nil
        go_simp
        refine hK.out _ _ s2 (fun hSn => ?_)
        clear hK K
        refine wpAnyH_ready (rs := [13]) (by kernel_rfl) (by simp) ?_
        refine AllReadyH.cons rfl (fun K hK => ?_) AllReadyH.nil
        refine step_append_own rfl _ _ 32 rfl 0 42 i0 (.pointer none) 1 8 Tryz.underlying32 hi0 hz0 hz1 hz2 rfl (by decide) (.slice am S.nw capm) S.nw (ptrs (fun j => (S.ws j).s) S.nw) (by simp [Act.eval]) hown ⟨w1.heap.size, 0, none⟩ 1 1 [.pointer (some ⟨s, 0, none⟩)] (by simp [Act.eval]) rfl (newR_one _ _ _) (by simp [Value.oneCell']) (by unfold maxLen; omega) (by omega) (Nat.zero_le _) ?_; intro v' w5 hown2 hgrow hat; obtain ⟨s3, g2, gz2, s4, hRL⟩ := HST.out w1 hB1 s v' w5 hown2 hgrow hat; obtain ⟨a2, cap2, hv2⟩ := ownsRow_shape hown2; subst hv2
        refine hK.out _ _ s3 (fun hSn => ?_)
        clear hK K
        refine takeS_at (i := 14) (d := some 56) (v := ?_) rfl rfl (by kernel_rfl) (by kernel_rfl) (by kernel_rfl) (fun _ _ _ h => h) (Or.inl ⟨by rfl, ?hy⟩) s3 ?_
        case hy => (intro w hSw; (try dsimp only at hSw); go_simp; try with_reducible rfl)
        simp only [Act.put, List.setIfInBounds_toArray]
        refine takeS_at (i := 15) (d := some 57) (v := ?_) rfl rfl (by kernel_rfl) (by kernel_rfl) (by kernel_rfl) (fun _ _ _ h => h) (Or.inl ⟨by rfl, ?hy⟩) s3 ?_
        case hy => (intro w hSw; (try dsimp only at hSw); go_simp; try with_reducible rfl)
        simp only [Act.put]
        refine wpAnyH_ready (rs := [16]) (by kernel_rfl) (by simp) ?_
        refine AllReadyH.cons rfl (fun K hK => ?_) AllReadyH.nil
        go_simp
        refine hK.out _ _ s4 (fun hSn => ?_)
        clear hK K
        refine wpAnyH_done (by kernel_rfl) ?_ _
        refine NoPanic.normal ?_
        go_wp2_with fail
        go_meet
        case rel => exact ⟨rfl, w1, s, b, _, hB1, ⟨hs, hbb⟩, hSr, hRL.1, hRL.2.1, hRL.2.2.1, hRL.2.2.2, s4.2⟩
  case rest =>
    obtain ⟨rfl, w1, s, b, vm, hB1, hsb, hSr, hX6, hr6, hx6, ho6, y46⟩ := hcut
    subst hTL
    obtain ⟨hRd, hown6⟩ := walk_mid HJD.out hB1 hx6
    have hRd2 := hRd.below (w' := wc.drew) (Below.refl _ wc).drew
    have CN := rsnew_any hRd2 sb
    have lwc : w.heap.size < wc.heap.size := lt_of_cell y46
    have lXc : X < wc.heap.size := hX6.lt (by omega)
    have y1 : wc.cell? ⟨X, 1, none⟩ = some (.pointer (some ⟨(S.ds 0).d2, 0, none⟩)) := by rw [← hcu]; exact hX6.c 1 (by omega)
    have y3 : wc.cell? ⟨X, 3, none⟩ = some (.slice an S.nw capn) := by rw [← en]; exact hX6.c 3 (by omega)
    have HX6 := Lib.hid hX6
    have HRN := Lib.hid hown6
    have HK2 : Hid (∀ V, Below wc.drew.heap.size wc.drew V → Blk V X 4 (fun x => if x = 2 then vm else x8F S x) ∧ V.cell? ⟨X, 1, none⟩ = some (.pointer (some ⟨(S.ds 0).d2, 0, none⟩)) ∧ V.cell? ⟨X, 3, none⟩ = some (.slice an S.nw capn) ∧ V.cell? ⟨w.heap.size, 4, none⟩ = some (.bool sb)) := fun V hb => by
      have hx : Blk V X 4 _ := (Blk.same (w' := wc.drew) HX6.out rfl).of hb (by omega)
      exact ⟨hx, by rw [← hcu]; exact hx.c 1 (by omega), by rw [← en]; exact hx.c 3 (by omega), (hb.cell (p := ⟨w.heap.size, 4, none⟩) (by show w.heap.size < wc.heap.size; omega)).trans y46⟩
    have HOW2 : Hid (∀ w1, Below wc.drew.heap.size wc.drew w1 → ∀ s, Blk w1 X 4 (fun x => if x = 2 then vm else x8F S x) ∧ (w1.cell? ⟨X, 1, none⟩ = some (.pointer (some ⟨(S.ds 0).d2, 0, none⟩)) ∧ w1.cell? ⟨w.heap.size, 4, none⟩ = some (.bool sb)) ∧ ((w1.alloc (.cells #[.pointer (some ⟨s, 0, none⟩)] 63)).cell? ⟨X, 1, none⟩ = some (.pointer (some ⟨(S.ds 0).d2, 0, none⟩)) ∧ (w1.alloc (.cells #[.pointer (some ⟨s, 0, none⟩)] 63)).cell? ⟨w.heap.size, 4, none⟩ = some (.bool sb)) ∧ w1.cell? ⟨X, 3, none⟩ = some (.slice an S.nw capn) ∧ (w1.alloc (.cells #[.pointer (some ⟨s, 0, none⟩)] 63)).cell? ⟨X, 3, none⟩ = some (.slice an S.nw capn) ∧ (w1.alloc (.cells #[.pointer (some ⟨s, 0, none⟩)] 63)).ownsRow 0 63 1 (.slice an S.nw capn) S.nw (ptrs (fun j => (S.ws j).k) S.nw)) := fun w1 hB1 s => by
      obtain ⟨q1, q2, q3, q4⟩ := HK2.out w1 hB1
      have hb2 : Below wc.drew.heap.size wc.drew (w1.alloc (.cells #[.pointer (some ⟨s, 0, none⟩)] 63)) := hB1.alloc hB1.size _
      obtain ⟨r1, r2, r3, r4⟩ := HK2.out _ hb2
      exact ⟨q1, ⟨q2, q4⟩, ⟨r2, r4⟩, q3, r3, by rw [← en]; exact World.ownsRow.alloc (owns_same HRN.out (fun i hi => hB1.block i (World.ownsRow.lt HRN.out i hi).2)) _⟩
    have HST2 : Hid (∀ w1, Below wc.drew.heap.size wc.drew w1 → ∀ s v' w5, w5.ownsRow 0 63 1 v' (S.nw + 1) (ptrs (fun j => (S.ws j).k) S.nw ++ [.pointer (some ⟨s, 0, none⟩)]) → (w1.alloc (.cells #[.pointer (some ⟨s, 0, none⟩)] 63)).grownBy w5 (Value.slice an S.nw capn).ownBlock → (v'.ownBlock = (Value.slice an S.nw capn).ownBlock ∨ v'.ownBlock = some (w1.alloc (.cells #[.pointer (some ⟨s, 0, none⟩)] 63)).heap.size) →
        (w5.cell? ⟨X, 1, none⟩ = some (.pointer (some ⟨(S.ds 0).d2, 0, none⟩)) ∧ w5.cell? ⟨w.heap.size, 4, none⟩ = some (.bool sb)) ∧ w5.cell? ⟨X, 3, none⟩ = some (.slice an S.nw capn) ∧ w5.frozen? ⟨X, 3, none⟩ = false ∧ ((w5.setCell ⟨X, 3, none⟩ v').cell? ⟨X, 1, none⟩ = some (.pointer (some ⟨(S.ds 0).d2, 0, none⟩)) ∧ (w5.setCell ⟨X, 3, none⟩ v').cell? ⟨w.heap.size, 4, none⟩ = some (.bool sb)) ∧
        (Blk (w5.setCell ⟨X, 3, none⟩ v') X 4 (fun x => if x = 3 then v' else (if x = 2 then vm else x8F S x)) ∧ (w5.setCell ⟨X, 3, none⟩ v').ownsRow 0 63 1 v' (S.nw + 1) (ptrs (fun j => (S.ws j).k) S.nw ++ [.pointer (some ⟨s, 0, none⟩)]) ∧ Ex (fun i => i = X ∨ S.rn.ownBlock = some i) w1 (w5.setCell ⟨X, 3, none⟩ v') ∧ ∀ i, v'.ownBlock = some i → S.rn.ownBlock = some i ∨ (w1.heap.size ≤ i ∧ i < (w5.setCell ⟨X, 3, none⟩ v').heap.size))) := fun w1 hB1 s v' w5 h1 h2 h3 => by
      obtain ⟨q1, q2, q3, q4⟩ := HK2.out w1 hB1
      obtain ⟨p1, p2⟩ := push_row q1 (fi := 3) HNE2.out h1 (by rw [en]; exact h2) (by rw [en]; exact h3)
      obtain ⟨m1, m2, m3, m4⟩ := p2 _ rfl
      have lS : w.heap.size < w1.heap.size := Nat.lt_of_lt_of_le lwc hB1.size
      have nS : w.heap.size ≠ X := by have := HLO.out X (.inl (.inl rfl)); omega
      have nR : S.rn.ownBlock ≠ some w.heap.size := fun e => by have := HLO.out _ (.inl (.inr (.inr (.inl e)))); omega
      have e6 : (w5.setCell ⟨X, 3, none⟩ v').heap[w.heap.size]? = w1.heap[w.heap.size]? := m3.block _ lS (fun e => e.elim nS (fun e => nR e))
      have e5 : w5.heap[w.heap.size]? = w1.heap[w.heap.size]? := by rw [← Below.heap_setCell w5 ⟨X, 3, none⟩ v' w.heap.size nS]; exact e6
      exact ⟨⟨by rw [← hcu]; exact p1.c 1 (by omega), (World.cell?_of_block (a := ⟨w.heap.size, 4, none⟩) e5).trans q4⟩, by rw [← en]; exact p1.c 3 (by omega), p1.z 3, ⟨by rw [← hcu]; exact m1.c 1 (by omega), (World.cell?_of_block (a := ⟨w.heap.size, 4, none⟩) e6).trans q4⟩, m1, m2, m3, m4⟩
    have HOUT : Hid (∀ w7 k vn w9, Below wc.drew.heap.size wc.drew w7 → wc.drew.heap.size ≤ k → Blk w7 k 6 (rsF (S.ds 0).d2 ((S.ds 0).t.live : Int) sb 0 false 0) → Blk w9 X 4 (fun x => if x = 3 then vn else (if x = 2 then vm else x8F S x)) → w9.ownsRow 0 63 1 vn (S.nw + 1) (ptrs (fun j => (S.ws j).k) S.nw ++ [.pointer (some ⟨k, 0, none⟩)]) → Ex (fun i => i = X ∨ S.rn.ownBlock = some i) w7 w9 → (∀ i, vn.ownBlock = some i → S.rn.ownBlock = some i ∨ (w7.heap.size ≤ i ∧ i < w9.heap.size)) → Out9 B w X most (c + 1) w9) := fun w7 k vn w9 h1 h2 h3 h4 h5 h6 h7 => by
      obtain ⟨S', g1, g2⟩ := walk_all HJD.out hlt hB1 hsb hSr hr6 hx6 ho6 ((Below.refl _ wc).drew.trans h1) h2 h3 h4 h5 h6 h7
      exact ⟨S', g1.le (Nat.le_succ _), HBD.out.trans g2⟩
    obtain ⟨j0, hj0, hz0, hz1, hz2⟩ := info8 Tryz.info9k
    clear hRd hRd2 hX6 hr6 hx6 ho6 hSr hsb hB1 hown6 en HK2 HJD HBD HXd HRM HK HOW HST HX6 HRN hi0
    generalize hTL : ((S.ds 0).t.live : Int) = tl at *
    go_upto_region 12 with fail
    refine wp_region_noPanic ?_
    refine wp_region_held_drew (S := fun V => V.cell? ⟨X, 1, none⟩ = some (.pointer (some ⟨(S.ds 0).d2, 0, none⟩)) ∧ V.cell? ⟨w.heap.size, 4, none⟩ = some (.bool sb)) (by kernel_rfl) ⟨y1, y46⟩ (fun hSc => ?_)
    refine takeS_at (i := 0) (d := some 58) (v := ?_) rfl rfl (by kernel_rfl) (by kernel_rfl) (by kernel_rfl) (fun _ _ _ h => h) (Or.inl ⟨by rfl, ?hy⟩) hSc ?_
    case hy => (intro w hSw; (try dsimp only at hSw); go_simp; try with_reducible rfl)
    simp only [Act.put, List.setIfInBounds_toArray, List.set_cons_zero, List.set_cons_succ]
    refine takeS_at (i := 1) (d := some 59) (v := ?_) rfl rfl (by kernel_rfl) (by kernel_rfl) (by kernel_rfl) (fun _ _ _ h => h) (Or.inl ⟨by rfl, ?hy⟩) hSc ?_
    case hy => (intro w hSw; (try dsimp only at hSw); go_simp; try with_reducible rfl)
    simp only [Act.put, List.setIfInBounds_toArray, List.set_cons_zero, List.set_cons_succ]
    refine takeS_at (i := 2) (d := some 60) (v := ?_) rfl rfl (by kernel_rfl) (by kernel_rfl) (by kernel_rfl) (fun _ _ _ h => h) (Or.inl ⟨by rfl, ?hy⟩) hSc ?_
    case hy => (intro w hSw; (try dsimp only at hSw); go_simp; try with_reducible rfl)
    simp only [Act.put, List.setIfInBounds_toArray, List.set_cons_zero, List.set_cons_succ]
    refine takeS_at (i := 3) (d := some 61) (v := ?_) rfl rfl (by kernel_rfl) (by kernel_rfl) (by kernel_rfl) (fun _ _ _ h => h) (Or.inl ⟨by rfl, ?hy⟩) hSc ?_
    case hy => (intro w hSw; (try dsimp only at hSw); go_simp; try with_reducible rfl)
    simp only [Act.put, List.setIfInBounds_toArray, List.set_cons_zero, List.set_cons_succ]
    refine takeS_at (i := 5) (d := some 63) (v := ?_) rfl rfl (by kernel_rfl) (by kernel_rfl) (by kernel_rfl) (fun _ _ _ h => h) (Or.inl ⟨by rfl, ?hy⟩) hSc ?_
    case hy => (intro w hSw; (try dsimp only at hSw); go_simp; try with_reducible rfl)
    simp only [Act.put, List.setIfInBounds_toArray, List.set_cons_zero, List.set_cons_succ]
    refine takeS_at (i := 6) (d := some 64) (v := ?_) rfl rfl (by kernel_rfl) (by kernel_rfl) (by kernel_rfl) (fun _ _ _ h => h) (Or.inl ⟨by rfl, ?hy⟩) hSc ?_
    case hy => (intro w hSw; (try dsimp only at hSw); go_simp; try with_reducible rfl)
    simp only [Act.put, List.setIfInBounds_toArray, List.set_cons_zero, List.set_cons_succ]
    refine takeS_at (i := 7) (d := some 65) (v := ?_) rfl rfl (by kernel_rfl) (by kernel_rfl) (by kernel_rfl) (fun _ _ _ h => h) (Or.inl ⟨by rfl, ?hy⟩) hSc ?_
    case hy => (intro w hSw; (try dsimp only at hSw); go_simp; try with_reducible rfl)
    simp only [Act.put, List.setIfInBounds_toArray, List.set_cons_zero, List.set_cons_succ]
    refine takeS_at (i := 8) (d := some 66) (v := ?_) rfl rfl (by kernel_rfl) (by kernel_rfl) (by kernel_rfl) (fun _ _ _ h => h) (Or.inl ⟨by rfl, ?hy⟩) hSc ?_
    case hy => (intro w hSw; (try dsimp only at hSw); go_simp; try with_reducible rfl)
    simp only [Act.put, List.setIfInBounds_toArray, List.set_cons_zero, List.set_cons_succ]
    refine takeS_at (i := 9) (d := some 67) (v := ?_) rfl rfl (by kernel_rfl) (by kernel_rfl) (by kernel_rfl) (fun _ _ _ h => h) (Or.inl ⟨by rfl, ?hy⟩) hSc ?_
    case hy => (intro w hSw; (try dsimp only at hSw); go_simp; try with_reducible rfl)
    simp only [Act.put, List.setIfInBounds_toArray, List.set_cons_zero, List.set_cons_succ]
    refine takeS_at (i := 10) (d := some 68) (v := ?_) rfl rfl (by kernel_rfl) (by kernel_rfl) (by kernel_rfl) (fun _ _ _ h => h) (Or.inl ⟨by rfl, ?hy⟩) hSc ?_
    case hy => (intro w hSw; (try dsimp only at hSw); go_simp; try with_reducible rfl)
    simp only [Act.put, List.setIfInBounds_toArray, List.set_cons_zero, List.set_cons_succ]
    refine wpAnyH_ready (rs := [4, 11]) (by kernel_rfl) (by simp) ?_
    refine AllReadyH.cons rfl (fun K hK => ?_) (AllReadyH.cons rfl (fun K hK => ?_) AllReadyH.nil)
    · go_simp
      refine hK.out _ _ hSc (fun hSn => ?_)
      clear hK K
      refine wpAnyH_ready (rs := [11]) (by kernel_rfl) (by simp) ?_
      refine AllReadyH.cons rfl (fun K hK => ?_) AllReadyH.nil
      go_simp
      refine CN.mono ?_
      rintro e w7 ⟨k, rfl, hk, hK7, hB7⟩; obtain ⟨hX1, s1, s2, k2, ka2, hown⟩ := HOW2.out w7 hB7 k
      refine hK.out _ _ s1 (fun hSn => ?_)
      clear hK K
      refine wpAnyH_ready (rs := [12]) (by kernel_rfl) (by simp) ?_
      refine AllReadyH.cons rfl (fun K hK => ?_) AllReadyH.nil
      go_simp
      refine hK.out _ _ s2 (fun hSn => ?_)
      clear hK K
      refine wpAnyH_ready (rs := [13]) (by kernel_rfl) (by simp) ?_
      refine AllReadyH.cons rfl (fun K hK => ?_) AllReadyH.nil
      refine step_append_own rfl _ _ 33 rfl 0 63 j0 (.pointer none) 1 8 Tryz.underlying33 hj0 hz0 hz1 hz2 rfl (by decide) (.slice an S.nw capn) S.nw (ptrs (fun j => (S.ws j).k) S.nw) (by simp [Act.eval]) hown ⟨w7.heap.size, 0, none⟩ 1 1 [.pointer (some ⟨k, 0, none⟩)] (by simp [Act.eval]) rfl (newR_one _ _ _) (by simp [Value.oneCell']) (by unfold maxLen; omega) (by omega) (Nat.zero_le _) ?_; intro v' w5 hown2 hgrow hat; obtain ⟨s3, g2, gz2, s4, hRL⟩ := HST2.out w7 hB7 k v' w5 hown2 hgrow hat; obtain ⟨a2, cap2, hv2⟩ := ownsRow_shape hown2; subst hv2
      refine hK.out _ _ s3 (fun hSn => ?_)
      clear hK K
      refine takeS_at (i := 14) (d := some 72) (v := ?_) rfl rfl (by kernel_rfl) (by kernel_rfl) (by kernel_rfl) (fun _ _ _ h => h) (Or.inl ⟨by rfl, ?hy⟩) s3 ?_
      case hy => (intro w hSw; (try dsimp only at hSw); go_simp; try with_reducible rfl)
      simp only [Act.put, List.setIfInBounds_toArray]
      refine takeS_at (i := 15) (d := some 73) (v := ?_) rfl rfl (by kernel_rfl) (by kernel_rfl) (by kernel_rfl) (fun _ _ _ h => h) (Or.inl ⟨by rfl, ?hy⟩) s3 ?_
      case hy => (intro w hSw; (try dsimp only at hSw); go_simp; try with_reducible rfl)
      simp only [Act.put]
      refine wpAnyH_ready (rs := [16]) (by kernel_rfl) (by simp) ?_
      refine AllReadyH.cons rfl (fun K hK => ?_) AllReadyH.nil
      go_simp
      refine hK.out _ _ s4 (fun hSn => ?_)
      clear hK K
      refine wpAnyH_done (by kernel_rfl) ?_ _
      refine NoPanic.normal ?_
      have HO := Lib.hid (HOUT.out w7 k _ _ hB7 hk hK7 hRL.1 hRL.2.1 hRL.2.2.1 hRL.2.2.2)
      clear hRL hB7 hk hK7
      go_wp2_with fail
      go_ret
      exact ⟨rfl, HO.out⟩
    · go_simp
      refine CN.mono ?_
      rintro e w7 ⟨k, rfl, hk, hK7, hB7⟩; obtain ⟨hX1, s1, s2, k2, ka2, hown⟩ := HOW2.out w7 hB7 k
      refine hK.out _ _ s1 (fun hSn => ?_)
      clear hK K
      refine wpAnyH_ready (rs := [4, 12]) (by kernel_rfl) (by simp) ?_
      refine AllReadyH.cons rfl (fun K hK => ?_) (AllReadyH.cons rfl (fun K hK => ?_) AllReadyH.nil)
      · go_simp
        refine hK.out _ _ s1 (fun hSn => ?_)
        clear hK K
        refine wpAnyH_ready (rs := [12]) (by kernel_rfl) (by simp) ?_
        refine AllReadyH.cons rfl (fun K hK => ?_) AllReadyH.nil
        go_simp
        refine hK.out _ _ s2 (fun hSn => ?_)
        clear hK K
        refine wpAnyH_ready (rs := [13]) (by kernel_rfl) (by simp) ?_
        refine AllReadyH.cons rfl (fun K hK => ?_) AllReadyH.nil
        refine step_append_own rfl _ _ 33 rfl 0 63 j0 (.pointer none) 1 8 Tryz.underlying33 hj0 hz0 hz1 hz2 rfl (by decide) (.slice an S.nw capn) S.nw (ptrs (fun j => (S.ws j).k) S.nw) (by simp [Act.eval]) hown ⟨w7.heap.size, 0, none⟩ 1 1 [.pointer (some ⟨k, 0, none⟩)] (by simp [Act.eval]) rfl (newR_one _ _ _) (by simp [Value.oneCell']) (by unfold maxLen; omega) (by omega) (Nat.zero_le _) ?_; intro v' w5 hown2 hgrow hat; obtain ⟨s3, g2, gz2, s4, hRL⟩ := HST2.out w7 hB7 k v' w5 hown2 hgrow hat; obtain ⟨a2, cap2, hv2⟩ := ownsRow_shape hown2; subst hv2
        refine hK.out _ _ s3 (fun hSn => ?_)
        clear hK K
        refine takeS_at (i := 14) (d := some 72) (v := ?_) rfl rfl (by kernel_rfl) (by kernel_rfl) (by kernel_rfl) (fun _ _ _ h => h) (Or.inl ⟨by rfl, ?hy⟩) s3 ?_
        case hy => (intro w hSw; (try dsimp only at hSw); go_simp; try with_reducible rfl)
        simp only [Act.put, List.setIfInBounds_toArray]
        refine takeS_at (i := 15) (d := some 73) (v := ?_) rfl rfl (by kernel_rfl) (by kernel_rfl) (by kernel_rfl) (fun _ _ _ h => h) (Or.inl ⟨by rfl, ?hy⟩) s3 ?_
        case hy => (intro w hSw; (try dsimp only at hSw); go_simp; try with_reducible rfl)
        simp only [Act.put]
        refine wpAnyH_ready (rs := [16]) (by kernel_rfl) (by simp) ?_
        refine AllReadyH.cons rfl (fun K hK => ?_) AllReadyH.nil
        go_simp
        refine hK.out _ _ s4 (fun hSn => ?_)
        clear hK K
        refine wpAnyH_done (by kernel_rfl) ?_ _
        refine NoPanic.normal ?_
        have HO := Lib.hid (HOUT.out w7 k _ _ hB7 hk hK7 hRL.1 hRL.2.1 hRL.2.2.1 hRL.2.2.2)
        clear hRL hB7 hk hK7
        go_wp2_with fail
        go_ret
        exact ⟨rfl, HO.out⟩
      · go_simp
        refine hK.out _ _ s2 (fun hSn => ?_)
        clear hK K
        refine wpAnyH_ready (rs := [4]) (by kernel_rfl) (by simp) ?_
        refine AllReadyH.cons rfl (fun K hK => ?_) AllReadyH.nil
        go_simp
        refine hK.out _ _ s2 (fun hSn => ?_)
        clear hK K
        refine wpAnyH_ready (rs := [13]) (by kernel_rfl) (by simp) ?_
        refine AllReadyH.cons rfl (fun K hK => ?_) AllReadyH.nil
        refine step_append_own rfl _ _ 33 rfl 0 63 j0 (.pointer none) 1 8 Tryz.underlying33 hj0 hz0 hz1 hz2 rfl (by decide) (.slice an S.nw capn) S.nw (ptrs (fun j => (S.ws j).k) S.nw) (by simp [Act.eval]) hown ⟨w7.heap.size, 0, none⟩ 1 1 [.pointer (some ⟨k, 0, none⟩)] (by simp [Act.eval]) rfl (newR_one _ _ _) (by simp [Value.oneCell']) (by unfold maxLen; omega) (by omega) (Nat.zero_le _) ?_; intro v' w5 hown2 hgrow hat; obtain ⟨s3, g2, gz2, s4, hRL⟩ := HST2.out w7 hB7 k v' w5 hown2 hgrow hat; obtain ⟨a2, cap2, hv2⟩ := ownsRow_shape hown2; subst hv2
        refine hK.out _ _ s3 (fun hSn => ?_)
        clear hK K
        refine takeS_at (i := 14) (d := some 72) (v := ?_) rfl rfl (by kernel_rfl) (by kernel_rfl) (by kernel_rfl) (fun _ _ _ h => h) (Or.inl ⟨by rfl, ?hy⟩) s3 ?_
        case hy => (intro w hSw; (try dsimp only at hSw); go_simp; try with_reducible rfl)
        simp only [Act.put, List.setIfInBounds_toArray]
        refine takeS_at (i := 15) (d := some 73) (v := ?_) rfl rfl (by kernel_rfl) (by kernel_rfl) (by kernel_rfl) (fun _ _ _ h => h) (Or.inl ⟨by rfl, ?hy⟩) s3 ?_
        case hy => (intro w hSw; (try dsimp only at hSw); go_simp; try with_reducible rfl)
        simp only [Act.put]
        refine wpAnyH_ready (rs := [16]) (by kernel_rfl) (by simp) ?_
        refine AllReadyH.cons rfl (fun K hK => ?_) AllReadyH.nil
        go_simp
        refine hK.out _ _ s4 (fun hSn => ?_)
        clear hK K
        refine wpAnyH_done (by kernel_rfl) ?_ _
        refine NoPanic.normal ?_
        have HO := Lib.hid (HOUT.out w7 k _ _ hB7 hk hK7 hRL.1 hRL.2.1 hRL.2.2.1 hRL.2.2.2)
        clear hRL hB7 hk hK7
        go_wp2_with fail
        go_ret
        exact ⟨rfl, HO.out⟩
end Go.Proofs.YtejfmajbggmghaaGreat
