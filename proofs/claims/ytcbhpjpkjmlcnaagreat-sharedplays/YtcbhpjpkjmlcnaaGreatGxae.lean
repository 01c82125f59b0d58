/-
  A dictionary in memory, and what its inner calls do.
  The iterator of table.All over entries.
  table.All; the places of the live entries.
  Names, their numbers, and tables of them; what a Set and a Del make of a namespace. No program.
  Rows of ints of one's own.
-/
import Derived.Test.YtcbhpjpkjmlcnaaGreatGxad
import Derived.Test.YtcbhpjpkjmlcnaaGreatGxaa
import Derived.OwnWalkIn
import Derived.TacticsInMore
import Derived.LoopNIn
import Derived.LoopIn
import Derived.LoopTactic
namespace Go.Proofs.YtcbhpjpkjmlcnaaGreat
open Go.RowKit Go.WideShapes

/-- A dictionary's cells: its table, how many pairs it may have, its version. -/
def dcF (g : Nat) (most : Int) (v : Nat) : Nat → Value
  | 0 => .pointer (some ⟨g, 0, none⟩)
  | 1 => .int .i64 most
  | _ => .int .u64 (v : Int)
structure Dc (w : World) (d g gi r h : Nat) (ev : Value) (t : Tb) (mv : Value) (most : Int) (v : Nat) : Prop where
  hd : Blk w d 3 (dcF g most v)
  dt : Dt w g gi r h ev t mv
  ok : t.Ok
  ne : ¬ dX g gi r h ev d
  nm : ¬ mB mv d
/-- The blocks of a dictionary. -/
def cX (d g gi r h : Nat) (ev : Value) (k : Nat) : Prop := k = d ∨ dX g gi r h ev k
theorem Dc.same {w w' : World} {d g gi r h : Nat} {ev : Value} {t : Tb} {mv : Value} {most : Int} {v : Nat} (x : Dc w d g gi r h ev t mv most v) (e : ∀ k, cX d g gi r h ev k → w'.heap[k]? = w.heap[k]?) : Dc w' d g gi r h ev t mv most v :=
  ⟨x.hd.same (e d (.inl rfl)), x.dt.same fun k hk => e k (.inr hk), x.ok, x.ne, x.nm⟩
theorem Dc.lt {w : World} {d g gi r h : Nat} {ev : Value} {t : Tb} {mv : Value} {most : Int} {v : Nat} (x : Dc w d g gi r h ev t mv most v) : ∀ k, cX d g gi r h ev k → k < w.heap.size := by
  rintro k (rfl | hk)
  · exact x.hd.lt (by omega)
  · exact x.dt.lt k hk
theorem Dc.below {w w' : World} {d g gi r h : Nat} {ev : Value} {t : Tb} {mv : Value} {most : Int} {v : Nat} (x : Dc w d g gi r h ev t mv most v) (hb : Below w.heap.size w w') : Dc w' d g gi r h ev t mv most v := x.same fun k hk => hb.block k (x.lt k hk)
theorem eqTb (g : Nat) (w : World) : (binOp .eql 103 (.pointer (some ⟨g, 0, none⟩)) (.pointer none)).run Tryz.prog w = .ok (.bool false) w := by kernel_rfl
/-- What a call that changes a dictionary leaves. -/
structure Cd (w : World) (d g gi r h : Nat) (ev : Value) (mv : Value) (M : Int → Int → World → Prop) (a b : Int) (most : Int) (v : Nat) (t' : Tb) (w' : World) (gi' r' h' : Nat) (ev' : Value) : Prop where
  dc : Dc w' d g gi' r' h' ev' t' mv most v
  m : M a b w'
  fx : ∀ j, dX g gi' r' h' ev' j → dX g gi r h ev j ∨ w.heap.size ≤ j
  ex : Ex (fun j => cX d g gi r h ev j ∨ mB mv j) w w'
/-- Its table changed, and then its version. -/
theorem cd_of {w w1 : World} {d g gi r h : Nat} {ev : Value} {t t' : Tb} {mv : Value} {M : Int → Int → World → Prop} {a b : Int} {most : Int} {v : Nat} (hC : Dc w d g gi r h ev t mv most v) (hMo : MtOk mv M) {gi' r' h' : Nat} {ev' : Value} (ok : t'.Ok)
    (hd : Dt w1 g gi' r' h' ev' t' mv) (hm : M a b w1) (fx : ∀ j, dX g gi' r' h' ev' j → dX g gi r h ev j ∨ w.heap.size ≤ j) (ex : Ex (fun j => dX g gi r h ev j ∨ mB mv j) w w1) :
    Blk w1 d 3 (dcF g most v) ∧ Cd w d g gi r h ev mv M a b most (v + 1) t' (w1.setCell ⟨d, 2, none⟩ (.int .u64 ((v : Int) + 1))) gi' r' h' ev' := by
  have ld := hC.hd.lt (by omega)
  have hB1 : Blk w1 d 3 (dcF g most v) := hC.hd.same (ex.block d ld (fun h => h.elim hC.ne hC.nm))
  have nd : ¬ dX g gi' r' h' ev' d := fun h => (fx d h).elim hC.ne (fun x => by omega)
  refine ⟨hB1, ⟨?_, hd.same fun k hk => Below.heap_setCell _ _ _ _ (fun (e : k = d) => nd (e ▸ hk)), ok, nd, hC.nm⟩, hMo.same _ _ _ _ hm fun k hk => Below.heap_setCell _ _ _ _ (fun (e : k = d) => hC.nm (e ▸ hk)), fx, ?_⟩
  · refine (hB1.put 2 _).congr fun j hj => ?_
    have : j = 0 ∨ j = 1 ∨ j = 2 := by omega
    rcases this with rfl | rfl | rfl
    · rfl
    · rfl
    · show Value.int .u64 (((v + 1 : Nat)) : Int) = Value.int .u64 ((v : Int) + 1)
      rw [Int.natCast_add]
      rfl
  · exact (ex.mono (fun k _ hk => hk.elim (fun y => .inl (.inr y)) .inr)).setCell (p := ⟨d, 2, none⟩) (fun _ => .inl (.inl rfl)) _
/-- An entry as a value. -/
def eV (e : En) : Value := .agg #[.bool e.live, .int .i64 e.hash, .int .i64 e.key, .int .i64 e.value, .int .i64 e.birth]
theorem Cd.over {w w' w'' : World} {d g gi r h : Nat} {ev : Value} {t t' : Tb} {mv : Value} {M : Int → Int → World → Prop} {a b : Int} {most : Int} {v v' : Nat} (c : Cd w d g gi r h ev mv M a b most v' t' w' gi r h ev) (hC : Dc w d g gi r h ev t mv most v) (hMo : MtOk mv M) (hlt : ∀ k, mB mv k → k < w.heap.size) (hb : Below w.heap.size w' w'') : Cd w d g gi r h ev mv M a b most v' t' w'' gi r h ev :=
  ⟨c.dc.same fun k hk => hb.block k (hC.lt k hk), hMo.same _ _ _ _ c.m fun k hk => hb.block k (hlt k hk), c.fx, c.ex.next (Y := fun k => w.heap.size ≤ k) ⟨hb.os, hb.tape, hb.output, hb.size, fun k _ hx => hb.block k (by omega)⟩ (fun k hk hx => by omega)⟩
/-- Five cells set. -/
def put5 (w : World) (R : Nat) (v0 v1 v2 v3 v4 : Value) : World := ((((w.setCell ⟨R, 0, none⟩ v0).setCell ⟨R, 1, none⟩ v1).setCell ⟨R, 2, none⟩ v2).setCell ⟨R, 3, none⟩ v3).setCell ⟨R, 4, none⟩ v4
theorem put5_below {B : Nat} {w : World} (R : Nat) (hR : B ≤ R) (v0 v1 v2 v3 v4 : Value) : Below B w (put5 w R v0 v1 v2 v3 v4) :=
  (((((Below.refl B w).setCell (p := ⟨R, 0, none⟩) hR _).setCell (p := ⟨R, 1, none⟩) hR _).setCell (p := ⟨R, 2, none⟩) hR _).setCell (p := ⟨R, 3, none⟩) hR _).setCell (p := ⟨R, 4, none⟩) hR _
theorem put5_blk {w : World} {R : Nat} {F : Nat → Value} (h : Blk w R 5 F) (v0 v1 v2 v3 v4 : Value) : Blk (put5 w R v0 v1 v2 v3 v4) R 5 (fun j => [v0, v1, v2, v3, v4].getD j .nilFunc) := by
  unfold put5
  refine (((((h.put 0 v0).put 1 v1).put 2 v2).put 3 v3).put 4 v4).congr fun j hj => ?_
  have : j = 0 ∨ j = 1 ∨ j = 2 ∨ j = 3 ∨ j = 4 := by omega
  rcases this with rfl | rfl | rfl | rfl | rfl <;> rfl
end Go.Proofs.YtcbhpjpkjmlcnaaGreat
namespace Go.Proofs.YtcbhpjpkjmlcnaaGreat
open Go.RowKit Go.WideShapes
attribute [local go_sem] Oper.semAt_some

/-- How many of the first i entries live. -/
def cntL (es : List En) : Nat → Nat
  | 0 => 0
  | i + 1 => cntL es i + if (nth es i).live = true then 1 else 0
theorem cntL_le (es : List En) : ∀ {i j : Nat}, i ≤ j → cntL es i ≤ cntL es j := by
  intro i j h
  induction j with
  | zero => rw [show i = 0 by omega]; exact Nat.le_refl _
  | succ j ih =>
    rcases Nat.lt_or_ge i (j + 1) with y | y
    · exact Nat.le_trans (ih (by omega)) (Nat.le_add_right _ _)
    · rw [show i = j + 1 by omega]; exact Nat.le_refl _
set_option maxRecDepth 100000 in
set_option maxHeartbeats 4000000 in
theorem all1_seq {es : List En} {v : Value} (b : Nat) (w : World) (hlen : es.length ≤ 100000) (px : Nat → Nat) (hpx : ∀ i, i < es.length → (nth es i).live = true → px (cntL es i) = i) :
    SeqAt Tryz.prog 74 (fun l => #[.func (.yield l) #[] #[], .pointer (some ⟨b, 0, none⟩)]) (fun k => #[.int .i64 (px k : Int), eV (nth es (px k))]) (cntL es es.length) (fun W => Es W v es ∧ W.cell? ⟨b, 0, none⟩ = some v) w := by
  intro l J Jx W hB HJ0 HJX0 hKp hY0 J0
  have HJ := (show Hid _ from HJ0)
  have HY := (show Hid _ from hY0)
  have HK := (show Hid _ from hKp)
  have HPX := (show Hid _ from hpx)
  obtain ⟨hE, hb⟩ := hKp 0 W J0
  obtain ⟨a, cap, ge, hv, hae, hro⟩ := hE.open
  subst hv
  have hcap := hro.le
  have HAE : Hid (0 < es.length → a = some ⟨ge, 0, none⟩) := fun h => (hae h).1
  have HRO : Hid (∀ k W1, J k W1 → 0 < es.length → Ro W1 ge es.length cap es) := fun k W1 hJ hpos => by
    obtain ⟨a', cap', ge', hv', hae', hro'⟩ := (hKp k W1 hJ).1.open
    injection hv' with e1 e2 e3
    have h1 := (hae hpos).1
    have h2 := (hae' hpos).1
    rw [← e1, h1] at h2
    injection h2 with h2
    injection h2 with h2
    subst h2
    subst e3
    exact hro'
  clear HJ0 HJX0 hY0 hKp hpx hE hae hro
  refine callsIn_of_wp Tryz.func74 rfl trivial ?_ rfl
  simp only [Tryz.ntmps74, List.size_toArray, List.length_cons, List.length_nil, Nat.reduceAdd, Nat.reduceSub, Array.replicate_succ, Array.replicate_zero, List.push_toArray, List.append_toArray, List.nil_append, List.cons_append]
  gi_wp2_with fail
  gi_loopw [3, 4, 7] (fun _ _ iv wr => ∃ i : Nat, i ≤ es.length ∧ iv = .int .i64 (i : Int) ∧ J (cntL es i) wr ∧ W.heap.size ≤ wr.heap.size) (fun _ _ iv _ => es.length - (intOf iv).toNat)
  case atStart => exact ⟨0, Nat.zero_le _, rfl, J0, Nat.le_refl _⟩
  case round =>
    obtain ⟨i, hi, rfl, hJ, hsz⟩ := hrel
    by_cases hlt : i < es.length
    · have t1 : (i : Int) < (es.length : Int) := by omega
      have ha := HAE.out (by omega)
      subst ha
      have hR := HRO.out _ _ hJ (by omega)
      have r0 := hR.c0 i hlt
      have r1 := hR.c1 i hlt
      have r2 := hR.c2 i hlt
      have r3 := hR.c3 i hlt
      have r4 := hR.c4 i hlt
      clear hR
      obtain ⟨w2, hw2⟩ : ∃ y, wr.alloc (.cells #[.bool (nth es i).live, .int .i64 (nth es i).hash, .int .i64 (nth es i).key, .int .i64 (nth es i).value, .int .i64 (nth es i).birth] 107) = y := ⟨_, rfl⟩
      have hb2 : Below W.heap.size wr w2 := by rw [← hw2]; exact (Below.refl _ wr).alloc hsz _
      have hX2 : Blk w2 wr.heap.size 5 (fun j => #[Value.bool (nth es i).live, .int .i64 (nth es i).hash, .int .i64 (nth es i).key, .int .i64 (nth es i).value, .int .i64 (nth es i).birth].getD j .nilFunc) := by rw [← hw2]; exact Blk.new wr _ _
      have hs2 : W.heap.size ≤ w2.heap.size := Nat.le_trans hsz hb2.size
      have hJ2 := HJ.out _ _ _ hJ hb2
      have p0 : w2.cell? ⟨wr.heap.size, 0, none⟩ = some (.bool (nth es i).live) := hX2.c 0 (by omega)
      have p1 : w2.cell? ⟨wr.heap.size, 1, none⟩ = some (.int .i64 (nth es i).hash) := hX2.c 1 (by omega)
      have p2 : w2.cell? ⟨wr.heap.size, 2, none⟩ = some (.int .i64 (nth es i).key) := hX2.c 2 (by omega)
      have p3 : w2.cell? ⟨wr.heap.size, 3, none⟩ = some (.int .i64 (nth es i).value) := hX2.c 3 (by omega)
      have p4 : w2.cell? ⟨wr.heap.size, 4, none⟩ = some (.int .i64 (nth es i).birth) := hX2.c 4 (by omega)
      have HW2 := Lib.hid hw2
      clear hX2 hb2 hw2
      have HC1 : Hid (cntL es (i + 1) = cntL es i + if (nth es i).live = true then 1 else 0) := rfl
      by_cases hlv : (nth es i).live = true
      · have hk : cntL es i < cntL es es.length := by
          have := cntL_le es (i := i + 1) (j := es.length) hlt
          rw [HC1.out, if_pos hlv] at this
          omega
        obtain ⟨fn, tmps, assign, body, hy, hR⟩ := HY.out (cntL es i) w2 hk hJ2
        have hp := HPX.out i hlt hlv
        simp only [hp] at hy hR
        have HC2 : Hid (cntL es (i + 1) = cntL es i + 1) := by
          have := HC1.out
          rw [if_pos hlv] at this
          exact this
        unfold eV at hy
        rw [hlv] at r0 p0 hy HW2
        clear hlv HC1
        generalize (nth es i).hash = y1 at *
        generalize (nth es i).key = y2 at *
        generalize (nth es i).value = y3 at *
        generalize (nth es i).birth = y4 at *
        have p0r : (wr.alloc (.cells #[.bool true, .int .i64 y1, .int .i64 y2, .int .i64 y3, .int .i64 y4] 107)).cell? ⟨wr.heap.size, 0, none⟩ = some (.bool true) := by rw [HW2.out]; exact p0
        have p1r : (wr.alloc (.cells #[.bool true, .int .i64 y1, .int .i64 y2, .int .i64 y3, .int .i64 y4] 107)).cell? ⟨wr.heap.size, 1, none⟩ = some (.int .i64 y1) := by rw [HW2.out]; exact p1
        have p2r : (wr.alloc (.cells #[.bool true, .int .i64 y1, .int .i64 y2, .int .i64 y3, .int .i64 y4] 107)).cell? ⟨wr.heap.size, 2, none⟩ = some (.int .i64 y2) := by rw [HW2.out]; exact p2
        have p3r : (wr.alloc (.cells #[.bool true, .int .i64 y1, .int .i64 y2, .int .i64 y3, .int .i64 y4] 107)).cell? ⟨wr.heap.size, 3, none⟩ = some (.int .i64 y3) := by rw [HW2.out]; exact p3
        have p4r : (wr.alloc (.cells #[.bool true, .int .i64 y1, .int .i64 y2, .int .i64 y3, .int .i64 y4] 107)).cell? ⟨wr.heap.size, 4, none⟩ = some (.int .i64 y4) := by rw [HW2.out]; exact p4
        rw [← HW2.out] at hy
        gi_wp2_with fail
        rw [HW2.out]
        refine ⟨rfl, hR.mono ?_⟩
        clear hR hy
        rintro e w5 (⟨rfl, hJ5, hK5⟩ | ⟨rfl, hX5⟩)
        · gi_wp2_with fail
          go_roundw
          case rel => exact ⟨i + 1, by omega, by go_num, by rw [HC2.out]; exact hJ5, Nat.le_trans hs2 hK5.size⟩
          case measure => simp [intOf]; omega
        · gi_wp2
          refine bodyPost_ret (v := .tuple #[]) (by simp [results, Tryz.results74, go_sem]) rfl ?_
          exact ⟨⟨_, rfl⟩, .inr ⟨_, hk, hX5⟩⟩
      · have hlf : (nth es i).live = false := by cases h : (nth es i).live <;> simp_all
        have HC2 : Hid (cntL es (i + 1) = cntL es i) := by
          have := HC1.out
          rw [if_neg hlv] at this
          exact this
        rw [hlf] at r0 p0 HW2
        clear hlv hlf HC1
        generalize (nth es i).hash = y1 at *
        generalize (nth es i).key = y2 at *
        generalize (nth es i).value = y3 at *
        generalize (nth es i).birth = y4 at *
        have p0r : (wr.alloc (.cells #[.bool false, .int .i64 y1, .int .i64 y2, .int .i64 y3, .int .i64 y4] 107)).cell? ⟨wr.heap.size, 0, none⟩ = some (.bool false) := by rw [HW2.out]; exact p0
        have p1r : (wr.alloc (.cells #[.bool false, .int .i64 y1, .int .i64 y2, .int .i64 y3, .int .i64 y4] 107)).cell? ⟨wr.heap.size, 1, none⟩ = some (.int .i64 y1) := by rw [HW2.out]; exact p1
        have p2r : (wr.alloc (.cells #[.bool false, .int .i64 y1, .int .i64 y2, .int .i64 y3, .int .i64 y4] 107)).cell? ⟨wr.heap.size, 2, none⟩ = some (.int .i64 y2) := by rw [HW2.out]; exact p2
        have p3r : (wr.alloc (.cells #[.bool false, .int .i64 y1, .int .i64 y2, .int .i64 y3, .int .i64 y4] 107)).cell? ⟨wr.heap.size, 3, none⟩ = some (.int .i64 y3) := by rw [HW2.out]; exact p3
        have p4r : (wr.alloc (.cells #[.bool false, .int .i64 y1, .int .i64 y2, .int .i64 y3, .int .i64 y4] 107)).cell? ⟨wr.heap.size, 4, none⟩ = some (.int .i64 y4) := by rw [HW2.out]; exact p4
        gi_wp2_with fail
        refine ⟨fun _ h => (by cases h), ?_⟩
        rw [HW2.out]
        gi_wp2_with fail
        go_roundw
        case rel => exact ⟨i + 1, by omega, by go_num, by rw [HC2.out]; exact hJ2, hs2⟩
        case measure => simp [intOf]; omega
    · obtain rfl : i = es.length := by omega
      have t1 : ¬ (es.length : Int) < (es.length : Int) := by omega
      gi_wp2
      go_end0
      exact ⟨⟨_, rfl⟩, .inl hJ⟩
end Go.Proofs.YtcbhpjpkjmlcnaaGreat
namespace Go.Proofs.YtcbhpjpkjmlcnaaGreat
open Go.RowKit Go.WideShapes

set_option maxRecDepth 100000 in
theorem all7_new {w : World} {g : Nat} {ev : Value} {es : List En} (k2 : w.cell? ⟨g, 2, none⟩ = some ev) (hE : Es w ev es) (hlen : es.length ≤ 100000) :
    Calls Tryz.prog 43 #[.pointer (some ⟨g, 0, none⟩)] w fun e w' => ∃ b v, e = .returned (.func (.func 74) #[] #[.pointer (some ⟨b, 0, none⟩)]) ∧ w.heap.size ≤ b ∧ b < w'.heap.size ∧ w'.cell? ⟨b, 0, none⟩ = some v ∧ EsB w.heap.size w' v es ∧ v.ownBlock ≠ some b ∧ Below w.heap.size w w' := by
  have hmf : ∀ (fn : Fn) (first cap : Array Value) (w : World), (Instr.makeFunc fn first cap).run Tryz.prog w = .ok (.func fn first cap) w := fun _ _ _ _ => rfl
  have C1 := copied_any k2 hE hlen
  clear k2 hE
  go_enter Tryz.func43, Tryz.ntmps43
  go_wp2_with fail
  refine C1.mono ?_
  rintro e w1 ⟨v, rfl, hE1, hB1⟩
  clear C1
  obtain ⟨a, cap, ge, hv, _⟩ := hE1.es.open
  obtain ⟨w2, hw2⟩ : ∃ y, w1.alloc (.cells #[v] 71) = y := ⟨_, rfl⟩
  have hb2 : Below w1.heap.size w1 w2 := by rw [← hw2]; exact (Below.refl _ w1).alloc (Nat.le_refl _) _
  have hl2 : w1.heap.size < w2.heap.size := by rw [← hw2]; simp
  have hc2 : w2.cell? ⟨w1.heap.size, 0, none⟩ = some v := by rw [← hw2]; exact cell_alloc_new _ _ _ _ rfl
  have hE2 : EsB w.heap.size w2 v es := by
    refine ⟨hE1.1, ?_⟩
    rcases hE1.2 with h0 | ⟨g, cap, cur, e, h1, h2, h3⟩
    · exact .inl h0
    · exact .inr ⟨g, cap, cur, e, h1, (hb2.block g (hE1.es.lt g (by rw [e]; rfl))).trans h2, h3⟩
  have HR : Hid (w.heap.size ≤ w1.heap.size ∧ w1.heap.size < w2.heap.size ∧ w2.cell? ⟨w1.heap.size, 0, none⟩ = some v ∧ EsB w.heap.size w2 v es ∧ v.ownBlock ≠ some w1.heap.size ∧ Below w.heap.size w w2) :=
    ⟨hB1.size, hl2, hc2, hE2, fun h => by have := hE1.es.lt _ h; omega, hB1.trans (hb2.mono hB1.size)⟩
  have HW2 := Lib.hid hw2
  subst hv
  clear hw2 hb2 hl2 hc2 hE2 hE1 hB1
  go_wp2_with fail
  rw [HW2.out]
  go_ret
  exact ⟨_, _, by simp, HR.out⟩
theorem cntL_live {es : List En} : ∀ {i : Nat}, i ≤ es.length → cntL es i = (liveL (es.take i)).length := by
  intro i
  induction i with
  | zero => intro _; simp [cntL, liveL]
  | succ i ih =>
    intro h
    rw [liveL_take (by omega), cntL, ih (by omega)]
    by_cases hl : (nth es i).live = true
    · rw [if_pos hl, if_pos hl]; simp
    · rw [if_neg hl, if_neg hl]; rfl
theorem cntL_all (es : List En) : cntL es es.length = (liveL es).length := by rw [cntL_live (Nat.le_refl _), List.take_length]
theorem nth_live {es : List En} {i : Nat} (hi : i < es.length) (hl : (nth es i).live = true) : nth (liveL es) (cntL es i) = nth es i := by
  rw [cntL_live (by omega), liveL_cut hi hl]
  exact nth_mid _ _ _
theorem cntL_inj {es : List En} {i j : Nat} (hi : (nth es i).live = true) (hj : (nth es j).live = true) (h : cntL es i = cntL es j) : i = j := by
  have key : ∀ {a b : Nat}, (nth es a).live = true → a < b → cntL es a < cntL es b := fun {a b} ha hab => by
    have h1 := cntL_le es (i := a + 1) (j := b) hab
    have h2 : cntL es (a + 1) = cntL es a + if (nth es a).live = true then 1 else 0 := rfl
    rw [if_pos ha] at h2
    omega
  rcases Nat.lt_trichotomy i j with y | y | y
  · have := key hi y; omega
  · exact y
  · have := key hj y; omega
theorem cntL_onto {es : List En} {k : Nat} : ∀ {n : Nat}, k < cntL es n → ∃ i, i < n ∧ (nth es i).live = true ∧ cntL es i = k := by
  intro n
  induction n with
  | zero => intro h; exact absurd h (Nat.not_lt_zero _)
  | succ n ih =>
    intro h
    rw [cntL] at h
    by_cases hk : k < cntL es n
    · obtain ⟨i, h1, h2, h3⟩ := ih hk
      exact ⟨i, by omega, h2, h3⟩
    · by_cases hl : (nth es n).live = true
      · rw [if_pos hl] at h
        exact ⟨n, by omega, hl, by omega⟩
      · rw [if_neg hl] at h
        omega
/-- The places of the live entries. -/
theorem places (es : List En) : ∃ px : Nat → Nat, (∀ i, i < es.length → (nth es i).live = true → px (cntL es i) = i) ∧ ∀ k, k < (liveL es).length → px k < es.length ∧ nth es (px k) = nth (liveL es) k := by
  classical
  refine ⟨fun k => if h : ∃ i, i < es.length ∧ (nth es i).live = true ∧ cntL es i = k then Classical.choose h else 0, fun i hi hl => ?_, fun k hk => ?_⟩
  · have h : ∃ j, j < es.length ∧ (nth es j).live = true ∧ cntL es j = cntL es i := ⟨i, hi, hl, rfl⟩
    simp only [dif_pos h]
    have := Classical.choose_spec h
    exact cntL_inj this.2.1 hl this.2.2
  · rw [← cntL_all] at hk
    have h := cntL_onto hk
    simp only [dif_pos h]
    have hs := Classical.choose_spec h
    refine ⟨hs.1, ?_⟩
    have := nth_live hs.1 hs.2.1
    rw [hs.2.2] at this
    exact this.symm
end Go.Proofs.YtcbhpjpkjmlcnaaGreat
namespace Go.Proofs.YtcbhpjpkjmlcnaaGreat

/-- k is a name's number: -1 where it has none. -/
def Num (all : List ByteArray) (s : ByteArray) (k : Int) : Prop := (∃ n : Nat, k = (n : Int) ∧ all[n]? = some s) ∨ (k = -1 ∧ s ∉ all)
theorem num_ex (all : List ByteArray) (s : ByteArray) : ∃ k, Num all s k := by
  by_cases h : s ∈ all
  · obtain ⟨n, hn, he⟩ := List.getElem_of_mem h
    exact ⟨n, .inl ⟨n, rfl, by rw [List.getElem?_eq_getElem hn, he]⟩⟩
  · exact ⟨-1, .inr ⟨rfl, h⟩⟩
theorem Num.lt {all : List ByteArray} {s : ByteArray} {k : Int} (h : Num all s k) : -1 ≤ k ∧ k < (all.length : Int) := by
  rcases h with ⟨n, rfl, h⟩ | ⟨rfl, _⟩
  · have := (List.getElem?_eq_some_iff.1 h).1
    omega
  · omega
theorem nodup_idx {α : Type} {l : List α} (h : l.Nodup) {i j : Nat} {x : α} (hi : l[i]? = some x) (hj : l[j]? = some x) : i = j := by
  obtain ⟨hil, hix⟩ := List.getElem?_eq_some_iff.1 hi
  obtain ⟨hjl, hjx⟩ := List.getElem?_eq_some_iff.1 hj
  rw [List.Nodup, List.pairwise_iff_getElem] at h
  rcases Nat.lt_trichotomy i j with c | c | c
  · exact absurd (hix.trans hjx.symm) (h i j hil hjl c)
  · exact c
  · exact absurd (hjx.trans hix.symm) (h j i hjl hil c)
theorem Num.uniq {all : List ByteArray} {s : ByteArray} {k k' : Int} (nd : all.Nodup) (a : Num all s k) (b : Num all s k') : k = k' := by
  rcases a with ⟨n, rfl, ha⟩ | ⟨rfl, ha⟩ <;> rcases b with ⟨m, rfl, hb⟩ | ⟨rfl, hb⟩
  · rw [nodup_idx nd ha hb]
  · exact absurd (List.mem_of_getElem? ha) hb
  · exact absurd (List.mem_of_getElem? hb) ha
  · rfl
/-- The name of a number. -/
def nmOf (all : List ByteArray) (k : Int) : ByteArray := (all[k.toNat]?).getD ByteArray.empty
theorem nmOf_at {all : List ByteArray} {k : Nat} {s : ByteArray} (h : all[k]? = some s) : nmOf all (k : Int) = s := by
  unfold nmOf
  rw [Int.toNat_natCast, h]
  rfl
/-- Live entries of a table of names. -/
structure Nl (hs : ByteArray → Int) (all : List ByteArray) (l : List En) : Prop where
  nm : ∀ e ∈ l, ∃ (k : Nat) (s : ByteArray), all[k]? = some s ∧ e.key = (k : Int) ∧ e.hash = hs s
  nd : (l.map En.key).Nodup
theorem Nl.nil (hs : ByteArray → Int) (all : List ByteArray) : Nl hs all [] := ⟨fun _ h => by simp at h, by simp⟩
theorem Nl.more {hs : ByteArray → Int} {all : List ByteArray} {l : List En} (h : Nl hs all l) (r : List ByteArray) : Nl hs (all ++ r) l := by
  refine ⟨fun e he => ?_, h.nd⟩
  obtain ⟨k, s, h1, h2, h3⟩ := h.nm e he
  exact ⟨k, s, by rw [List.getElem?_append_left (List.getElem?_eq_some_iff.1 h1).1]; exact h1, h2, h3⟩
theorem Nl.add {hs : ByteArray → Int} {all : List ByteArray} {l : List En} (h : Nl hs all l) {k : Nat} {s : ByteArray} (hk : all[k]? = some s) (hn : ∀ e ∈ l, e.key ≠ (k : Int)) (v b : Int) : Nl hs all (l ++ [⟨true, hs s, (k : Int), v, b⟩]) := by
  refine ⟨fun e he => ?_, ?_⟩
  · rcases List.mem_append.1 he with x | x
    · exact h.nm e x
    · rw [List.mem_singleton.1 x]
      exact ⟨k, s, hk, rfl, rfl⟩
  · rw [List.map_append, List.nodup_append]
    refine ⟨h.nd, by simp, fun a ha b hb => ?_⟩
    obtain ⟨e, he, rfl⟩ := List.mem_map.1 ha
    have : b = (k : Int) := by simpa using hb
    rw [this]
    exact hn e he
theorem Nl.sub {hs : ByteArray → Int} {all : List ByteArray} {l l' : List En} (h : Nl hs all l) (hs' : l'.Sublist l) : Nl hs all l' := ⟨fun e he => h.nm e (hs'.subset he), h.nd.sublist (hs'.map _)⟩
/-- The entry of a number. -/
def Fnd (es : List En) (k : Int) (n : Nat) : Prop := n < es.length ∧ (nth es n).live = true ∧ (nth es n).key = k
theorem live_mem {es : List En} {n : Nat} (h : n < es.length) (hl : (nth es n).live = true) : nth es n ∈ liveL es := by rw [liveL_cut h hl]; simp
theorem Nl.one {hs : ByteArray → Int} {all : List ByteArray} {es : List En} (h : Nl hs all (liveL es)) {n m : Nat} {k : Int} (a : Fnd es k n) (b : Fnd es k m) : n = m := by
  have ha := nth_live a.1 a.2.1
  have hb := nth_live b.1 b.2.1
  have la : cntL es n < (liveL es).length := by
    have h1 := cntL_le es (i := n + 1) (j := es.length) a.1
    have h2 : cntL es (n + 1) = cntL es n + if (nth es n).live = true then 1 else 0 := rfl
    rw [if_pos a.2.1] at h2
    rw [cntL_all] at h1
    omega
  have lb : cntL es m < (liveL es).length := by
    have h1 := cntL_le es (i := m + 1) (j := es.length) b.1
    have h2 : cntL es (m + 1) = cntL es m + if (nth es m).live = true then 1 else 0 := rfl
    rw [if_pos b.2.1] at h2
    rw [cntL_all] at h1
    omega
  have ka : ((liveL es).map En.key)[cntL es n]? = some k := by
    rw [List.getElem?_map, List.getElem?_eq_getElem la]
    unfold nth at ha
    rw [List.getD_eq_getElem?_getD, List.getElem?_eq_getElem la] at ha
    rw [show (liveL es)[cntL es n] = nth es n from ha]
    exact congrArg some a.2.2
  have kb : ((liveL es).map En.key)[cntL es m]? = some k := by
    rw [List.getElem?_map, List.getElem?_eq_getElem lb]
    unfold nth at hb
    rw [List.getD_eq_getElem?_getD, List.getElem?_eq_getElem lb] at hb
    rw [show (liveL es)[cntL es m] = nth es m from hb]
    exact congrArg some b.2.2
  exact cntL_inj a.2.1 b.2.1 (nodup_idx h.nd ka kb)
/-- The entry of a name's number lies on the name's trail. -/
theorem Nl.of {hs : ByteArray → Int} {all : List ByteArray} {es : List En} (h : Nl hs all (liveL es)) {s : ByteArray} {k : Int} (hk : Num all s k) {n : Nat} (a : Fnd es k n) : Of es (hs s) n := by
  obtain ⟨k', s', h1, h2, h3⟩ := h.nm _ (live_mem a.1 a.2.1)
  refine ⟨a.1, a.2.1, ?_⟩
  rw [h3]
  have e := h2.symm.trans a.2.2
  rcases hk with ⟨m, rfl, hm⟩ | ⟨rfl, _⟩
  · have : k' = m := by omega
    rw [this, hm] at h1
    injection h1 with h1
    rw [h1]
  · omega
/-- The names with a name more, if it has no number k; its number then. -/
def alln (all : List ByteArray) (s : ByteArray) (k : Int) : List ByteArray := if k = -1 then all ++ [s] else all
def numn (all : List ByteArray) (k : Int) : Int := if k = -1 then (all.length : Int) else k
theorem alln_at {all : List ByteArray} {s : ByteArray} {k : Int} (h : Num all s k) : ∃ n : Nat, numn all k = (n : Int) ∧ (alln all s k)[n]? = some s := by
  unfold alln numn
  rcases h with ⟨n, rfl, h⟩ | ⟨rfl, _⟩
  · rw [if_neg (by omega), if_neg (by omega)]
    exact ⟨n, rfl, h⟩
  · rw [if_pos rfl, if_pos rfl]
    exact ⟨all.length, rfl, by simp⟩
theorem alln_pre (all : List ByteArray) (s : ByteArray) (k : Int) : ∃ r, alln all s k = all ++ r := by
  unfold alln
  by_cases h : k = -1
  · rw [if_pos h]; exact ⟨_, rfl⟩
  · rw [if_neg h]; exact ⟨[], by simp⟩
theorem alln_nodup {all : List ByteArray} {s : ByteArray} {k : Int} (nd : all.Nodup) (h : Num all s k) : (alln all s k).Nodup := by
  unfold alln
  rcases h with ⟨n, rfl, h⟩ | ⟨rfl, h⟩
  · rw [if_neg (by omega)]; exact nd
  · rw [if_pos rfl, List.nodup_append]
    exact ⟨nd, by simp, fun a ha b hb => by rw [List.mem_singleton.1 hb]; exact fun e => h (e ▸ ha)⟩
theorem alln_len (all : List ByteArray) (s : ByteArray) (k : Int) : (alln all s k).length ≤ all.length + 1 := by
  unfold alln
  by_cases h : k = -1
  · rw [if_pos h]; simp
  · rw [if_neg h]; omega
/-- No entry has a number that no entry has had. -/
theorem numn_new {hs : ByteArray → Int} {all : List ByteArray} {l : List En} (h : Nl hs all l) {k : Int} (hn : ∀ e ∈ l, e.key ≠ k) : ∀ e ∈ l, e.key ≠ numn all k := by
  intro e he
  unfold numn
  by_cases c : k = -1
  · rw [if_pos c]
    obtain ⟨k', s', h1, h2, _⟩ := h.nm e he
    have := (List.getElem?_eq_some_iff.1 h1).1
    omega
  · rw [if_neg c]
    exact hn e he
theorem no_fnd {es : List En} {k : Int} (h : ∀ n, ¬ Fnd es k n) : ∀ e ∈ liveL es, e.key ≠ k := by
  intro e he hk
  obtain ⟨n, hn, hx⟩ := nth_index (mem_liveL he)
  exact h n ⟨hn, by rw [hx]; exact liveL_live es e he, by rw [hx]; exact hk⟩
/-- A family: its names by their numbers, its key table, how many names that and a namespace may have. -/
structure Fa where
  all : List ByteArray
  kt : Tb
  room : Nat
  most : Nat
structure Fa.Ok (hs : ByteArray → Int) (F : Fa) (c : Nat) : Prop where
  nd : F.all.Nodup
  ok : F.kt.Ok
  nl : Nl hs F.all F.kt.es
  dead : deadN F.kt.es = 0
  len : F.kt.es.length ≤ F.room
  room : F.room ≤ 256
  most : F.most ≤ 65536
  names : F.all.length ≤ c
  births : F.kt.births ≤ c
  made : F.kt.made ≤ c + 1
  turn : F.kt.turn ≤ c
  wide : ∀ s ∈ F.all, s.size ≤ 3000
/-- How a namespace stands: a row of values, or a table of its own. -/
inductive Stn where
  | row (vs : List Int)
  | own (t : Tb)
def Stn.Ok (hs : ByteArray → Int) (F : Fa) (c : Nat) : Stn → Prop
  | .row vs => vs.length ≤ F.kt.es.length
  | .own t => t.Ok ∧ Nl hs F.all (liveL t.es) ∧ t.births ≤ c ∧ t.made ≤ c + 1 ∧ t.turn ≤ c
theorem live_all {es : List En} (h : deadN es = 0) : liveL es = es := by
  induction es with
  | nil => rfl
  | cons e r ih =>
    unfold deadN at h
    rw [liveL]
    by_cases he : e.live = true
    · rw [if_pos he, ih (by omega)]
    · rw [if_neg (by simpa using he)] at h
      omega
theorem dead_live {es : List En} (h : deadN es = 0) {n : Nat} (hn : n < es.length) : (nth es n).live = true := by
  have := liveL_live es (nth es n) (by rw [live_all h]; exact nth_mem hn)
  exact this
/-- The table that a row is turned into. -/
noncomputable def turnN (es : List En) (vs : List Int) : Nat → Tb
  | 0 => Tb.new
  | i + 1 => (turnN es vs i).add (nth es i).hash (nth es i).key (vs[i]?.getD 0)
theorem turnN_is (es : List En) (vs : List Int) : ∀ i, i ≤ 1000 → (turnN es vs i).Ok ∧ (turnN es vs i).births = i ∧ (turnN es vs i).made ≤ i + 1 ∧ (turnN es vs i).turn = i ∧ liveL (turnN es vs i).es = (List.range i).map (fun j => ⟨true, (nth es j).hash, (nth es j).key, vs[j]?.getD 0, (j : Int)⟩) := by
  intro i
  induction i with
  | zero => intro _; exact ⟨Tb.new_ok, rfl, Nat.le_refl _, rfl, rfl⟩
  | succ i ih =>
    intro hi
    obtain ⟨h1, h2, h3, h4, h5⟩ := ih (by omega)
    have a := (turnN es vs i).add_rest (nth es i).hash (nth es i).key (vs[i]?.getD 0)
    refine ⟨h1.add _ _ _ (by omega), ?_, ?_, ?_, ?_⟩
    · show ((turnN es vs i).add _ _ _).births = _
      rw [a.1, h2]
    · show ((turnN es vs i).add _ _ _).made ≤ _
      have := a.2.1
      omega
    · show ((turnN es vs i).add _ _ _).turn = _
      rw [a.2.2.2, h4]
    · show liveL ((turnN es vs i).add _ _ _).es = _
      rw [Tb.add_es, h5, h2, List.range_succ, List.map_append]
      rfl
theorem turnN_nl {hs : ByteArray → Int} {all : List ByteArray} {es : List En} (h : Nl hs all es) (vs : List Int) {i : Nat} (hi : i ≤ es.length) (hi2 : i ≤ 1000) : Nl hs all (liveL (turnN es vs i).es) := by
  rw [(turnN_is es vs i hi2).2.2.2.2]
  refine ⟨fun e he => ?_, ?_⟩
  · obtain ⟨j, hj, rfl⟩ := List.mem_map.1 he
    have hj' : j < i := by simpa using hj
    obtain ⟨k, s, a, b, c⟩ := h.nm _ (nth_mem (show j < es.length by omega))
    exact ⟨k, s, a, b, c⟩
  · rw [List.map_map]
    have e : (List.range i).map (En.key ∘ fun j => (⟨true, (nth es j).hash, (nth es j).key, vs[j]?.getD 0, (j : Int)⟩ : En)) = (es.take i).map En.key := by
      apply List.ext_getElem (by simp; omega)
      intro j h1 h2
      have hj : j < es.length := by simp at h2; omega
      simp only [List.getElem_map, List.getElem_range, Function.comp, List.getElem_take]
      unfold nth
      rw [List.getD_eq_getElem?_getD, List.getElem?_eq_getElem hj]
      rfl
    rw [e]
    exact h.nd.sublist ((List.take_sublist _ _).map _)
/-- What a Set does: what it answers, how many values it charges and namespaces it turns. -/
inductive SetR (hs : ByteArray → Int) (F : Fa) (s : ByteArray) (v : Int) : Stn → Fa → Stn → Int → Nat → Nat → Prop
  | putR {vs : List Int} {k : Int} {n : Nat} (hk : Num F.all s k) (hn : Fnd F.kt.es k n) (hl : n < vs.length) : SetR hs F s v (.row vs) F (.row (vs.set n v)) 0 0 0
  | putO {t : Tb} {k : Int} {n : Nat} (hk : Num F.all s k) (hn : Fnd t.es k n) : SetR hs F s v (.own t) F (.own (t.putv n v)) 0 0 0
  | fullR {vs : List Int} {k : Int} (hk : Num F.all s k) (hn : ∀ n, Fnd F.kt.es k n → vs.length ≤ n) (hm : F.most ≤ vs.length) : SetR hs F s v (.row vs) F (.row vs) 6 0 0
  | fullO {t : Tb} {k : Int} (hk : Num F.all s k) (hn : ∀ n, ¬ Fnd t.es k n) (hm : F.most ≤ t.live) : SetR hs F s v (.own t) F (.own t) 6 0 0
  | next {vs : List Int} {k : Int} (hk : Num F.all s k) (hn : Fnd F.kt.es k vs.length) (hm : vs.length < F.most) : SetR hs F s v (.row vs) F (.row (vs ++ [v])) 0 1 0
  | new {vs : List Int} {k : Int} (hk : Num F.all s k) (hn : ∀ n, ¬ Fnd F.kt.es k n) (hm : vs.length < F.most) (hl : F.kt.es.length = vs.length) (hr : vs.length < F.room) :
      SetR hs F s v (.row vs) { F with all := alln F.all s k, kt := F.kt.add (hs s) (numn F.all k) 0 } (.row (vs ++ [v])) 0 1 0
  | turn {vs : List Int} {k : Int} (hk : Num F.all s k) (hn : ∀ n, Fnd F.kt.es k n → vs.length < n) (hm : vs.length < F.most) (hl : ¬ (F.kt.es.length = vs.length ∧ vs.length < F.room)) :
      SetR hs F s v (.row vs) { F with all := alln F.all s k } (.own ((turnN F.kt.es vs vs.length).add (hs s) (numn F.all k) v)) 0 0 1
  | add {t : Tb} {k : Int} (hk : Num F.all s k) (hn : ∀ n, ¬ Fnd t.es k n) (hm : t.live < F.most) :
      SetR hs F s v (.own t) { F with all := alln F.all s k } (.own (t.add (hs s) (numn F.all k) v)) 0 0 0
/-- What a Del does. -/
inductive DelR (F : Fa) (s : ByteArray) : Stn → Stn → Int → Nat → Prop
  | noneR {vs : List Int} {k : Int} (hk : Num F.all s k) (hn : ∀ n, Fnd F.kt.es k n → vs.length ≤ n) : DelR F s (.row vs) (.row vs) 7 0
  | noneO {t : Tb} {k : Int} (hk : Num F.all s k) (hn : ∀ n, ¬ Fnd t.es k n) : DelR F s (.own t) (.own t) 7 0
  | turn {vs : List Int} {k : Int} {n : Nat} (hk : Num F.all s k) (hn : Fnd F.kt.es k n) (hl : n < vs.length) : DelR F s (.row vs) (.own ((turnN F.kt.es vs vs.length).kill n)) 0 1
  | kill {t : Tb} {k : Int} {n : Nat} (hk : Num F.all s k) (hn : Fnd t.es k n) : DelR F s (.own t) (.own (t.kill n)) 0 0
end Go.Proofs.YtcbhpjpkjmlcnaaGreat
namespace Go.Proofs.YtcbhpjpkjmlcnaaGreat
open Go.RowKit Go.WideShapes

theorem Tryz.infoN : (Tryz.prog.info? 3).map (fun i => (i.zero, i.size, i.bytes)) = some (some (.int .i64 0), 1, 8) := by kernel_rfl
/-- Ints in a row of their own, from block B on. -/
def IntsR (B : Nat) (w : World) (v : Value) (l : List Int) : Prop := w.ownsRow B 3 1 v l.length (l.map fun x : Int => Value.int .i64 x)
theorem IntsR.nil (B : Nat) (w : World) : IntsR B w (.slice none 0 0) [] := ⟨rfl, Or.inl ⟨rfl, rfl⟩⟩
theorem intsR_snoc {B : Nat} {w1 : World} {v' : Value} {l : List Int} {d : Int} (h : w1.ownsRow B 3 1 v' (l.length + 1) ((l.map fun x : Int => Value.int .i64 x) ++ [Value.int .i64 d])) : IntsR B w1 v' (l ++ [d]) := by
  unfold IntsR
  simpa using h
theorem newR_one (w : World) (x : Value) (t : TypeId) : ∀ j u, [x][j]? = some u → (w.alloc (.cells #[x] t)).cell? (Addr.add ⟨w.heap.size, 0, none⟩ j) = some u := by
  intro j u hj
  match j, hj with
  | 0, hj => rw [WideShapes.add_plain, World.cell?_alloc_at _ _ _ _ rfl]; simpa using hj
  | j + 1, hj => simp at hj
theorem belowR_grown {B n : Nat} {w wr w1 : World} {v : Value} {xs : List Value} {o : Obj} {t : TypeId} (hb : Below B w wr) (hB : B ≤ w.heap.size) (hown : wr.ownsRow B t 1 v n xs) (hg : (wr.alloc o).grownBy w1 v.ownBlock) : Below B w w1 := by
  refine (hb.alloc (Nat.le_trans hB hb.size) o).grown hg (by simp; have := hb.size; omega) (fun k e => ?_)
  rcases hown.2 with ⟨rfl, _⟩ | ⟨g, cap, cur, rfl, h1, _⟩
  · cases e
  · simp [Value.ownBlock] at e
    omega
/-- A row of one's own, laid open as a block. -/
theorem IntsR.open {B : Nat} {w : World} {v : Value} {l : List Int} (h : IntsR B w v l) : ∃ a cap g, v = .slice a l.length cap ∧ l.length ≤ cap ∧ (0 < l.length → a = some ⟨g, 0, none⟩ ∧ g < w.heap.size ∧ B ≤ g ∧ Blk w g l.length (fun j => .int .i64 (l[j]?.getD 0))) := by
  have h0 : w.ownsRow B 3 1 v l.length (l.map fun x : Int => Value.int .i64 x) := h
  rcases h0.2 with ⟨rfl, h1⟩ | ⟨g, cap, cur, rfl, hg, hh, hc, _⟩
  · obtain rfl : l = [] := List.eq_nil_of_length_eq_zero h1
    exact ⟨none, 0, 0, rfl, Nat.le_refl _, fun h => absurd h (by simp)⟩
  · refine ⟨_, cap, g, rfl, hc, fun _ => ⟨rfl, (Array.getElem?_eq_some_iff.1 hh).1, hg, fun j hj => ?_, fun j => h0.frozenAt j⟩⟩
    rw [h0.cellAt j (by simpa using hj)]
    simp [hj]
end Go.Proofs.YtcbhpjpkjmlcnaaGreat
