/-
  The iterator of table.All over entries.
  table.All; the places of the live entries.
  A range over a function whose rounds lay their variables anew: as wpIn_range_at (RgLaw), but what stands ahead of the body may lay blocks. No program.
  Pairs.
-/
import Derived.Test.YtbpflmdefpjcaaaGreatGxae
import Derived.Test.YtbpflmdefpjcaaaGreatGxaa
import Derived.OwnWalkIn
import Derived.TacticsInMore
import Derived.LoopNIn
import Derived.LoopIn
import Derived.Test.YtbpflmdefpjcaaaGreatGxaf
namespace Go.Proofs.YtbpflmdefpjcaaaGreat
open Go.RowKit Go.WideShapes
attribute [local go_sem] Oper.semAt_some

/-- How many of the first i entries live. -/
def cntL (es : List En) : Nat → Nat
  | 0 => 0
  | i + 1 => cntL es i + if (nth es i).live = true then 1 else 0
theorem cntL_le (es : List En) : ∀ {i j : Nat}, i ≤ j → cntL es i ≤ cntL es j := by
  intro i j h
  induction j with
  | zero => rw [show i = 0 by omega]; exact Nat.le_refl _
  | succ j ih =>
    rcases Nat.lt_or_ge i (j + 1) with y | y
    · exact Nat.le_trans (ih (by omega)) (Nat.le_add_right _ _)
    · rw [show i = j + 1 by omega]; exact Nat.le_refl _
set_option maxRecDepth 100000 in
set_option maxHeartbeats 4000000 in
theorem all1_seq {es : List En} {v : Value} (b : Nat) (w : World) (hlen : es.length ≤ 100000) (px : Nat → Nat) (hpx : ∀ i, i < es.length → (nth es i).live = true → px (cntL es i) = i) :
    SeqAt Tryz.prog 53 (fun l => #[.func (.yield l) #[] #[], .pointer (some ⟨b, 0, none⟩)]) (fun k => #[.int .i64 (px k : Int), eV (nth es (px k))]) (cntL es es.length) (fun W => Es W v es ∧ W.cell? ⟨b, 0, none⟩ = some v) w := by
  intro l J Jx W hB HJ0 HJX0 hKp hY0 J0
  have HJ := (show Hid _ from HJ0)
  have HY := (show Hid _ from hY0)
  have HK := (show Hid _ from hKp)
  have HPX := (show Hid _ from hpx)
  obtain ⟨hE, hb⟩ := hKp 0 W J0
  obtain ⟨a, cap, ge, hv, hae, hro⟩ := hE.open
  subst hv
  have hcap := hro.le
  have HAE : Hid (0 < es.length → a = some ⟨ge, 0, none⟩) := fun h => (hae h).1
  have HRO : Hid (∀ k W1, J k W1 → 0 < es.length → Ro W1 ge es.length cap es) := fun k W1 hJ hpos => by
    obtain ⟨a', cap', ge', hv', hae', hro'⟩ := (hKp k W1 hJ).1.open
    injection hv' with e1 e2 e3
    have h1 := (hae hpos).1
    have h2 := (hae' hpos).1
    rw [← e1, h1] at h2
    injection h2 with h2
    injection h2 with h2
    subst h2
    subst e3
    exact hro'
  clear HJ0 HJX0 hY0 hKp hpx hE hae hro
  refine callsIn_of_wp Tryz.func53 rfl trivial ?_ rfl
  simp only [Tryz.ntmps53, List.size_toArray, List.length_cons, List.length_nil, Nat.reduceAdd, Nat.reduceSub, Array.replicate_succ, Array.replicate_zero, List.push_toArray, List.append_toArray, List.nil_append, List.cons_append]
  gi_wp2_with fail
  gi_loopw [3, 4, 7] (fun _ _ iv wr => ∃ i : Nat, i ≤ es.length ∧ iv = .int .i64 (i : Int) ∧ J (cntL es i) wr ∧ W.heap.size ≤ wr.heap.size) (fun _ _ iv _ => es.length - (intOf iv).toNat)
  case atStart => exact ⟨0, Nat.zero_le _, rfl, J0, Nat.le_refl _⟩
  case round =>
    obtain ⟨i, hi, rfl, hJ, hsz⟩ := hrel
    by_cases hlt : i < es.length
    · have t1 : (i : Int) < (es.length : Int) := by omega
      have ha := HAE.out (by omega)
      subst ha
      have hR := HRO.out _ _ hJ (by omega)
      have r0 := hR.c0 i hlt
      have r1 := hR.c1 i hlt
      have r2 := hR.c2 i hlt
      have r3 := hR.c3 i hlt
      have r4 := hR.c4 i hlt
      clear hR
      obtain ⟨w2, hw2⟩ : ∃ y, wr.alloc (.cells #[.bool (nth es i).live, .int .i64 (nth es i).hash, .int .i64 (nth es i).key, .int .i64 (nth es i).value, .int .i64 (nth es i).birth] 69) = y := ⟨_, rfl⟩
      have hb2 : Below W.heap.size wr w2 := by rw [← hw2]; exact (Below.refl _ wr).alloc hsz _
      have hX2 : Blk w2 wr.heap.size 5 (fun j => #[Value.bool (nth es i).live, .int .i64 (nth es i).hash, .int .i64 (nth es i).key, .int .i64 (nth es i).value, .int .i64 (nth es i).birth].getD j .nilFunc) := by rw [← hw2]; exact Blk.new wr _ _
      have hs2 : W.heap.size ≤ w2.heap.size := Nat.le_trans hsz hb2.size
      have hJ2 := HJ.out _ _ _ hJ hb2
      have p0 : w2.cell? ⟨wr.heap.size, 0, none⟩ = some (.bool (nth es i).live) := hX2.c 0 (by omega)
      have p1 : w2.cell? ⟨wr.heap.size, 1, none⟩ = some (.int .i64 (nth es i).hash) := hX2.c 1 (by omega)
      have p2 : w2.cell? ⟨wr.heap.size, 2, none⟩ = some (.int .i64 (nth es i).key) := hX2.c 2 (by omega)
      have p3 : w2.cell? ⟨wr.heap.size, 3, none⟩ = some (.int .i64 (nth es i).value) := hX2.c 3 (by omega)
      have p4 : w2.cell? ⟨wr.heap.size, 4, none⟩ = some (.int .i64 (nth es i).birth) := hX2.c 4 (by omega)
      have HW2 := Lib.hid hw2
      clear hX2 hb2 hw2
      have HC1 : Hid (cntL es (i + 1) = cntL es i + if (nth es i).live = true then 1 else 0) := rfl
      by_cases hlv : (nth es i).live = true
      · have hk : cntL es i < cntL es es.length := by
          have := cntL_le es (i := i + 1) (j := es.length) hlt
          rw [HC1.out, if_pos hlv] at this
          omega
        obtain ⟨fn, tmps, assign, body, hy, hR⟩ := HY.out (cntL es i) w2 hk hJ2
        have hp := HPX.out i hlt hlv
        simp only [hp] at hy hR
        have HC2 : Hid (cntL es (i + 1) = cntL es i + 1) := by
          have := HC1.out
          rw [if_pos hlv] at this
          exact this
        unfold eV at hy
        rw [hlv] at r0 p0 hy HW2
        clear hlv HC1
        generalize (nth es i).hash = y1 at *
        generalize (nth es i).key = y2 at *
        generalize (nth es i).value = y3 at *
        generalize (nth es i).birth = y4 at *
        have p0r : (wr.alloc (.cells #[.bool true, .int .i64 y1, .int .i64 y2, .int .i64 y3, .int .i64 y4] 69)).cell? ⟨wr.heap.size, 0, none⟩ = some (.bool true) := by rw [HW2.out]; exact p0
        have p1r : (wr.alloc (.cells #[.bool true, .int .i64 y1, .int .i64 y2, .int .i64 y3, .int .i64 y4] 69)).cell? ⟨wr.heap.size, 1, none⟩ = some (.int .i64 y1) := by rw [HW2.out]; exact p1
        have p2r : (wr.alloc (.cells #[.bool true, .int .i64 y1, .int .i64 y2, .int .i64 y3, .int .i64 y4] 69)).cell? ⟨wr.heap.size, 2, none⟩ = some (.int .i64 y2) := by rw [HW2.out]; exact p2
        have p3r : (wr.alloc (.cells #[.bool true, .int .i64 y1, .int .i64 y2, .int .i64 y3, .int .i64 y4] 69)).cell? ⟨wr.heap.size, 3, none⟩ = some (.int .i64 y3) := by rw [HW2.out]; exact p3
        have p4r : (wr.alloc (.cells #[.bool true, .int .i64 y1, .int .i64 y2, .int .i64 y3, .int .i64 y4] 69)).cell? ⟨wr.heap.size, 4, none⟩ = some (.int .i64 y4) := by rw [HW2.out]; exact p4
        rw [← HW2.out] at hy
        gi_wp2_with fail
        rw [HW2.out]
        refine ⟨rfl, hR.mono ?_⟩
        clear hR hy
        rintro e w5 (⟨rfl, hJ5, hK5⟩ | ⟨rfl, hX5⟩)
        · gi_wp2_with fail
          go_roundw
          case rel => exact ⟨i + 1, by omega, by go_num, by rw [HC2.out]; exact hJ5, Nat.le_trans hs2 hK5.size⟩
          case measure => simp [intOf]; omega
        · gi_wp2
          refine bodyPost_ret (v := .tuple #[]) (by simp [results, Tryz.results53, go_sem]) rfl ?_
          exact ⟨⟨_, rfl⟩, .inr ⟨_, hk, hX5⟩⟩
      · have hlf : (nth es i).live = false := by cases h : (nth es i).live <;> simp_all
        have HC2 : Hid (cntL es (i + 1) = cntL es i) := by
          have := HC1.out
          rw [if_neg hlv] at this
          exact this
        rw [hlf] at r0 p0 HW2
        clear hlv hlf HC1
        generalize (nth es i).hash = y1 at *
        generalize (nth es i).key = y2 at *
        generalize (nth es i).value = y3 at *
        generalize (nth es i).birth = y4 at *
        have p0r : (wr.alloc (.cells #[.bool false, .int .i64 y1, .int .i64 y2, .int .i64 y3, .int .i64 y4] 69)).cell? ⟨wr.heap.size, 0, none⟩ = some (.bool false) := by rw [HW2.out]; exact p0
        have p1r : (wr.alloc (.cells #[.bool false, .int .i64 y1, .int .i64 y2, .int .i64 y3, .int .i64 y4] 69)).cell? ⟨wr.heap.size, 1, none⟩ = some (.int .i64 y1) := by rw [HW2.out]; exact p1
        have p2r : (wr.alloc (.cells #[.bool false, .int .i64 y1, .int .i64 y2, .int .i64 y3, .int .i64 y4] 69)).cell? ⟨wr.heap.size, 2, none⟩ = some (.int .i64 y2) := by rw [HW2.out]; exact p2
        have p3r : (wr.alloc (.cells #[.bool false, .int .i64 y1, .int .i64 y2, .int .i64 y3, .int .i64 y4] 69)).cell? ⟨wr.heap.size, 3, none⟩ = some (.int .i64 y3) := by rw [HW2.out]; exact p3
        have p4r : (wr.alloc (.cells #[.bool false, .int .i64 y1, .int .i64 y2, .int .i64 y3, .int .i64 y4] 69)).cell? ⟨wr.heap.size, 4, none⟩ = some (.int .i64 y4) := by rw [HW2.out]; exact p4
        gi_wp2_with fail
        refine ⟨fun _ h => (by cases h), ?_⟩
        rw [HW2.out]
        gi_wp2_with fail
        go_roundw
        case rel => exact ⟨i + 1, by omega, by go_num, by rw [HC2.out]; exact hJ2, hs2⟩
        case measure => simp [intOf]; omega
    · obtain rfl : i = es.length := by omega
      have t1 : ¬ (es.length : Int) < (es.length : Int) := by omega
      gi_wp2
      go_end0
      exact ⟨⟨_, rfl⟩, .inl hJ⟩
end Go.Proofs.YtbpflmdefpjcaaaGreat
namespace Go.Proofs.YtbpflmdefpjcaaaGreat
open Go.RowKit Go.WideShapes

set_option maxRecDepth 100000 in
theorem all7_new {w : World} {g : Nat} {ev : Value} {es : List En} (k2 : w.cell? ⟨g, 2, none⟩ = some ev) (hE : Es w ev es) (hlen : es.length ≤ 100000) :
    Calls Tryz.prog 33 #[.pointer (some ⟨g, 0, none⟩)] w fun e w' => ∃ b v, e = .returned (.func (.func 53) #[] #[.pointer (some ⟨b, 0, none⟩)]) ∧ w.heap.size ≤ b ∧ b < w'.heap.size ∧ w'.cell? ⟨b, 0, none⟩ = some v ∧ EsB w.heap.size w' v es ∧ v.ownBlock ≠ some b ∧ Below w.heap.size w w' := by
  have hmf : ∀ (fn : Fn) (first cap : Array Value) (w : World), (Instr.makeFunc fn first cap).run Tryz.prog w = .ok (.func fn first cap) w := fun _ _ _ _ => rfl
  have C1 := copied_any k2 hE hlen
  clear k2 hE
  go_enter Tryz.func33, Tryz.ntmps33
  go_wp2_with fail
  refine C1.mono ?_
  rintro e w1 ⟨v, rfl, hE1, hB1⟩
  clear C1
  obtain ⟨a, cap, ge, hv, _⟩ := hE1.es.open
  obtain ⟨w2, hw2⟩ : ∃ y, w1.alloc (.cells #[v] 62) = y := ⟨_, rfl⟩
  have hb2 : Below w1.heap.size w1 w2 := by rw [← hw2]; exact (Below.refl _ w1).alloc (Nat.le_refl _) _
  have hl2 : w1.heap.size < w2.heap.size := by rw [← hw2]; simp
  have hc2 : w2.cell? ⟨w1.heap.size, 0, none⟩ = some v := by rw [← hw2]; exact cell_alloc_new _ _ _ _ rfl
  have hE2 : EsB w.heap.size w2 v es := by
    refine ⟨hE1.1, ?_⟩
    rcases hE1.2 with h0 | ⟨g, cap, cur, e, h1, h2, h3⟩
    · exact .inl h0
    · exact .inr ⟨g, cap, cur, e, h1, (hb2.block g (hE1.es.lt g (by rw [e]; rfl))).trans h2, h3⟩
  have HR : Hid (w.heap.size ≤ w1.heap.size ∧ w1.heap.size < w2.heap.size ∧ w2.cell? ⟨w1.heap.size, 0, none⟩ = some v ∧ EsB w.heap.size w2 v es ∧ v.ownBlock ≠ some w1.heap.size ∧ Below w.heap.size w w2) :=
    ⟨hB1.size, hl2, hc2, hE2, fun h => by have := hE1.es.lt _ h; omega, hB1.trans (hb2.mono hB1.size)⟩
  have HW2 := Lib.hid hw2
  subst hv
  clear hw2 hb2 hl2 hc2 hE2 hE1 hB1
  go_wp2_with fail
  rw [HW2.out]
  go_ret
  exact ⟨_, _, by simp, HR.out⟩
theorem cntL_live {es : List En} : ∀ {i : Nat}, i ≤ es.length → cntL es i = (liveL (es.take i)).length := by
  intro i
  induction i with
  | zero => intro _; simp [cntL, liveL]
  | succ i ih =>
    intro h
    rw [liveL_take (by omega), cntL, ih (by omega)]
    by_cases hl : (nth es i).live = true
    · rw [if_pos hl, if_pos hl]; simp
    · rw [if_neg hl, if_neg hl]; rfl
theorem cntL_all (es : List En) : cntL es es.length = (liveL es).length := by rw [cntL_live (Nat.le_refl _), List.take_length]
theorem nth_live {es : List En} {i : Nat} (hi : i < es.length) (hl : (nth es i).live = true) : nth (liveL es) (cntL es i) = nth es i := by
  rw [cntL_live (by omega), liveL_cut hi hl]
  exact nth_mid _ _ _
theorem cntL_inj {es : List En} {i j : Nat} (hi : (nth es i).live = true) (hj : (nth es j).live = true) (h : cntL es i = cntL es j) : i = j := by
  have key : ∀ {a b : Nat}, (nth es a).live = true → a < b → cntL es a < cntL es b := fun {a b} ha hab => by
    have h1 := cntL_le es (i := a + 1) (j := b) hab
    have h2 : cntL es (a + 1) = cntL es a + if (nth es a).live = true then 1 else 0 := rfl
    rw [if_pos ha] at h2
    omega
  rcases Nat.lt_trichotomy i j with y | y | y
  · have := key hi y; omega
  · exact y
  · have := key hj y; omega
theorem cntL_onto {es : List En} {k : Nat} : ∀ {n : Nat}, k < cntL es n → ∃ i, i < n ∧ (nth es i).live = true ∧ cntL es i = k := by
  intro n
  induction n with
  | zero => intro h; exact absurd h (Nat.not_lt_zero _)
  | succ n ih =>
    intro h
    rw [cntL] at h
    by_cases hk : k < cntL es n
    · obtain ⟨i, h1, h2, h3⟩ := ih hk
      exact ⟨i, by omega, h2, h3⟩
    · by_cases hl : (nth es n).live = true
      · rw [if_pos hl] at h
        exact ⟨n, by omega, hl, by omega⟩
      · rw [if_neg hl] at h
        omega
/-- The places of the live entries. -/
theorem places (es : List En) : ∃ px : Nat → Nat, (∀ i, i < es.length → (nth es i).live = true → px (cntL es i) = i) ∧ ∀ k, k < (liveL es).length → px k < es.length ∧ nth es (px k) = nth (liveL es) k := by
  classical
  refine ⟨fun k => if h : ∃ i, i < es.length ∧ (nth es i).live = true ∧ cntL es i = k then Classical.choose h else 0, fun i hi hl => ?_, fun k hk => ?_⟩
  · have h : ∃ j, j < es.length ∧ (nth es j).live = true ∧ cntL es j = cntL es i := ⟨i, hi, hl, rfl⟩
    simp only [dif_pos h]
    have := Classical.choose_spec h
    exact cntL_inj this.2.1 hl this.2.2
  · rw [← cntL_all] at hk
    have h := cntL_onto hk
    simp only [dif_pos h]
    have hs := Classical.choose_spec h
    refine ⟨hs.1, ?_⟩
    have := nth_live hs.1 hs.2.1
    rw [hs.2.2] at this
    exact this.symm
end Go.Proofs.YtbpflmdefpjcaaaGreat
namespace Go.Proofs.YtbpflmdefpjcaaaGreat
open Go.RowKit

theorem wpIn_range_box {P : Program} {g : Operand} {ps : Array Tmp} {assign body : Code} {Q : Exit → Act → World → Prop} {a : Act} {w : World}
    {gf : Nat} {args : Nat → Array Value} (dl : Nat → Deferred) (hres : ∀ l W, (resolve a.eval (rangeCall g l) 0).run P W = .ok (dl l) W) (hinv : ∀ l W, (invoke (dl l).target (dl l).args).run P W = .ok (.enter gf (args l)) W)
    {encs : Nat → Array Value} {N : Nat} {Kp : World → Prop} (hseq : SeqAt P gf args encs N Kp w) (hps : ∀ i, (encs i).size = ps.size)
    (I : Nat → World → Prop) (Ix : Code → Nat → World → Prop) (hI : St w.heap.size I) (hIx : ∀ c, St w.heap.size (Ix c)) (hIk : ∀ i W, I i W → Kp W) (h0 : I 0 w) (A : Nat → Act → World → Prop)
    (hA : ∀ i a' W o, A i a' W → A i a' (W.putObj (w.heap.size + 1) o))
    (hassign : ∀ (l i : Nat) (W : World) (K : Act → World → Prop), w.heap.size + 2 ≤ W.heap.size → i < N → I i W → (∀ a' W', A i a' W' → Below W.heap.size W W' → K a' W') →
      assign.wpIn (Fence.wide.inRound l) 0 P (Exit.then K (fun _ _ _ => False)) { tmps := (ps.zip (encs i)).foldl (fun t (p, v) => t.setIfInBounds p v) a.tmps, defers := [] } W)
    (hbody : ∀ (l i : Nat) (a' : Act) (W : World), i < N → A i a' W → body.wpIn (Fence.wide.inRound l) 0 P (ixPost w.heap.size N I Ix i W) a' W)
    (hdone : ∀ W, I N W → W.heap[w.heap.size]? = some (.deferred (some [])) → Q .normal { a with defers := { target := .collected w.heap.size, args := #[] } :: a.defers } W)
    (hstop : ∀ (c : Code) (i : Nat) (W : World), i < N → Ix c i W → W.heap[w.heap.size]? = some (.deferred (some [])) → c.wpIn Fence.wide 0 P Q { a with defers := { target := .collected w.heap.size, args := #[] } :: a.defers } W) :
    (Code.rangeFunc g ps assign body).wpIn Fence.wide 0 P Q a w := by
  refine wpIn_rangeFunc ?_
  intro fn hfn
  show ∃ l mark w₁ d w₁' f args w₂, (Instr.enterLoop fn a.tmps ps assign body none).run P w = _ ∧ _
  obtain ⟨rec, hrec⟩ : ∃ rec : LoopState → Option Code → Loop, rec = fun st pe => { state := st, pending := pe, fn, tmps := a.tmps, params := ps, assign, body, defers := w.heap.size } := ⟨_, rfl⟩
  obtain ⟨W1, hW1⟩ : ∃ W1, (w.alloc (.deferred (some []))).alloc (.loop (rec .ready none)) = W1 := ⟨_, rfl⟩
  have hL1 : W1.heap[w.heap.size + 1]? = some (.loop (rec .ready none)) := by
    rw [← hW1]; have := World.alloc_heap_new (w.alloc (.deferred (some []))) (.loop (rec .ready none)); rwa [World.size_alloc] at this
  have hK1 : W1.heap[w.heap.size]? = some (.deferred (some [])) := by
    rw [← hW1]; exact (Below.heap_alloc _ _ _ (by simp)).trans (World.alloc_heap_new w _)
  have hb1 : Below w.heap.size w W1 := by
    rw [← hW1]; exact ((Below.refl _ w).alloc (Nat.le_refl _) _).alloc (by simp) _
  have hs1 : W1.heap.size = w.heap.size + 2 := by rw [← hW1]; simp
  refine ⟨w.heap.size + 1, [{ target := .collected w.heap.size, args := #[] }], W1, dl (w.heap.size + 1), W1, gf,
    args (w.heap.size + 1), W1, ?_, hres _ _, ?_, hinv _ _, fun h => by simp [Fence.wide] at h, ?_⟩
  · rw [← hW1, hrec]; exact run_enterLoop_outer _ _ _ _ _
  · intro f' _; trivial
  · refine (hseq (w.heap.size + 1)
      (fun i W => I i W ∧ W.heap[w.heap.size + 1]? = some (.loop (rec .ready none)) ∧ W.heap[w.heap.size]? = some (.deferred (some [])))
      (fun i W => ∃ c, Ix c i W ∧ W.heap[w.heap.size + 1]? = some (.loop (rec .done (some c))) ∧ W.heap[w.heap.size]? = some (.deferred (some [])))
      W1 hb1 ?_ ?_ (fun i W h => hIk i W h.1) ?_ ⟨hI 0 w W1 h0 hb1, hL1, hK1⟩).mono ?_
    · rintro i A A' ⟨h1, h2, h3⟩ hb
      exact ⟨hI i A A' h1 (hb.mono (by omega)), (hb.block _ (by omega)).trans h2, (hb.block _ (by omega)).trans h3⟩
    · rintro i A A' ⟨c, h1, h2, h3⟩ hb
      exact ⟨c, hIx c i A A' h1 (hb.mono (by omega)), (hb.block _ (by omega)).trans h2, (hb.block _ (by omega)).trans h3⟩
    · rintro i W hi ⟨hJ, hl, hk⟩
      have hlt : w.heap.size + 1 < W.heap.size := (Array.getElem?_eq_some_iff.1 hl).1
      have hy := run_yield (P := P) (args := encs i) hl (by rw [hrec]; exact hps i)
      rw [hrec] at hy
      refine ⟨fn, _, assign, body, hy, roundIn_of_wpIn hfn (hassign _ i W _ (by omega) hi hJ ?_)⟩
      intro a' V hA' hbV
      have hlV := (hbV.block _ hlt).trans hl
      have hkV := (hbV.block w.heap.size (by omega)).trans hk
      have hltV : w.heap.size + 1 < V.heap.size := Nat.lt_of_lt_of_le hlt hbV.size
      have hSV : Since (w.heap.size + 2) W V := Since.below hbV
      refine ⟨_, run_beginRound hlV (by rw [hrec]), ?_⟩
      clear hl hk hlt hJ hbV hy
      have hl2 : (V.putObj (w.heap.size + 1) (.loop { rec .ready none with state := .busy })).heap[w.heap.size + 1]? = some (.loop { rec .ready none with state := .busy }) := World.putObj_heap_same hltV
      have hk2 : (V.putObj (w.heap.size + 1) (.loop { rec .ready none with state := .busy })).heap[w.heap.size]? = some (.deferred (some [])) := (World.putObj_heap_other (by omega)).trans hkV
      refine wpIn_mono (hbody _ i _ _ hi (hA _ _ _ _ hA')) ?_
      have fin : ∀ (jump : Option Code) (W3 : World), Since w.heap.size (V.putObj (w.heap.size + 1) (.loop { rec .ready none with state := .busy })) W3 →
          (Instr.endRound (w.heap.size + 1) jump).run P W3 = .ok (.bool jump.isNone) (W3.putObj (w.heap.size + 1) (.loop (rec (if jump.isNone then .ready else .done) jump))) ∧
          (W3.putObj (w.heap.size + 1) (.loop (rec (if jump.isNone then .ready else .done) jump))).heap[w.heap.size + 1]? = some (.loop (rec (if jump.isNone then .ready else .done) jump)) ∧
          (W3.putObj (w.heap.size + 1) (.loop (rec (if jump.isNone then .ready else .done) jump))).heap[w.heap.size]? = some (.deferred (some [])) := fun jump W3 hk3 => by
        have hl3 := (hk3.same (w.heap.size + 1) (by omega) (by simpa using hltV)).trans hl2
        have := run_endRound (P := P) jump hl3
        rw [hrec] at this ⊢
        exact ⟨this, World.putObj_heap_same (Array.getElem?_eq_some_iff.1 hl3).1, (World.putObj_heap_other (by omega)).trans ((hk3.same w.heap.size (Nat.le_refl _) (by simp; omega)).trans hk2)⟩
      rintro e a3 W3 hp
      cases e with
      | normal =>
        obtain ⟨hk3, hi3⟩ := hp
        obtain ⟨hr, hl4, hk4⟩ := fin none W3 hk3
        refine ⟨_, _, hr, .inl ⟨rfl, ⟨hI _ _ _ hi3 (below_put (by omega)), hl4, hk4⟩, ?_⟩⟩
        exact (hSV.mono (by omega)).trans (((since_put (by omega)).trans (hk3.mono (by omega))).trans (since_put (by omega)))
      | ret =>
        obtain ⟨hk3, _, hi3⟩ := hp
        obtain ⟨hr, hl4, hk4⟩ := fin (some .ret) W3 hk3
        exact ⟨_, _, hr, .inr ⟨rfl, .ret, hIx _ _ _ _ hi3 (below_put (by omega)), hl4, hk4⟩⟩
      | exit id =>
        obtain ⟨hk3, _, hi3⟩ := hp
        obtain ⟨hr, hl4, hk4⟩ := fin (some (.exit id)) W3 hk3
        exact ⟨_, _, hr, .inr ⟨rfl, .exit id, hIx _ _ _ _ hi3 (below_put (by omega)), hl4, hk4⟩⟩
      | goto t =>
        obtain ⟨hk3, _, hi3⟩ := hp
        obtain ⟨hr, hl4, hk4⟩ := fin (some (.goto t)) W3 hk3
        exact ⟨_, _, hr, .inr ⟨rfl, .goto t, hIx _ _ _ _ hi3 (below_put (by omega)), hl4, hk4⟩⟩
      | panic ch => exact hp.elim
      | outgrown => exact hp.elim
    · rintro e W2 ⟨⟨v, rfl⟩, (⟨hi, hl, hk⟩ | ⟨i, hiN, c, hi, hl, hk⟩)⟩
      · exact ⟨none, _, by have := run_endLoop (P := P) hl (by rw [hrec]; simp); rw [hrec] at this; exact this, hdone _ (hI _ _ _ hi (below_put (by omega))) ((World.putObj_heap_other (by omega)).trans hk)⟩
      · exact ⟨some c, _, by have := run_endLoop (P := P) hl (by rw [hrec]; simp); rw [hrec] at this; exact this, hstop c i _ hiN (hIx c _ _ _ hi (below_put (by omega))) ((World.putObj_heap_other (by omega)).trans hk)⟩
end Go.Proofs.YtbpflmdefpjcaaaGreat
namespace Go.Proofs.YtbpflmdefpjcaaaGreat
open Go.RowKit Go.WideShapes
attribute [local go_sem] Oper.semAt_some

/-- How Pairs stands behind k pairs. -/
structure PaI (w : World) (es : List En) (N G bp b : Nat) (v0 : Value) (B3 : Nat) (k : Nat) (W : World) : Prop where
  bl : Below w.heap.size w W
  bx : W.cell? ⟨bp, 0, none⟩ = some (.slice (some ⟨G, 0, none⟩) k N)
  fz : W.frozen? ⟨bp, 0, none⟩ = false
  ow : W.ownsRow w.heap.size 69 5 (.slice (some ⟨G, 0, none⟩) k N) k (enl ((liveL es).take k))
  es : Es W v0 es
  ib : W.cell? ⟨b, 0, none⟩ = some v0
  sz : B3 ≤ W.heap.size
/-- What of it hangs on memory. -/
theorem PaI.below {w : World} {es : List En} {N G bp b : Nat} {v0 : Value} {B3 k : Nat} {A A' : World} (h : PaI w es N G bp b v0 B3 k A) (hb : Below B3 A A') (hG : G < B3) (hbp : bp < B3) (hbb : b < B3) (hv : ∀ j, v0.ownBlock = some j → j < B3) (hw : w.heap.size ≤ B3) : PaI w es N G bp b v0 B3 k A' :=
  ⟨h.bl.trans (hb.mono hw), (hb.cell (p := ⟨bp, 0, none⟩) hbp).trans h.bx, (World.frozen?_of_block (a := ⟨bp, 0, none⟩) (hb.block bp hbp)).trans h.fz, by
    refine ⟨h.ow.1, ?_⟩
    rcases h.ow.2 with h0 | ⟨g, cap, cur, e, h1, h2, h3⟩
    · exact .inl h0
    · refine .inr ⟨g, cap, cur, e, h1, (hb.block g ?_).trans h2, h3⟩
      cases e
      exact hG, h.es.same fun j hj => hb.block j (hv j hj), (hb.cell (p := ⟨b, 0, none⟩) hbb).trans h.ib, Nat.le_trans h.sz hb.size⟩
set_option maxRecDepth 100000 in
set_option maxHeartbeats 4000000 in
theorem pairs_any {w : World} {d g gi r h : Nat} {ev : Value} {t : Tb} {mv : Value} {most : Int} {v : Nat} (hC : Dc w d g gi r h ev t mv most v) :
    Calls Tryz.prog 20 #[.pointer (some ⟨d, 0, none⟩)] w fun e w' => ∃ v, e = .returned v ∧ EsB w.heap.size w' v (liveL t.es) ∧ Below w.heap.size w w' := by
  obtain ⟨i0, hi, hz0, hz1, hz2⟩ := info_parts Tryz.infoEn
  have hlen : t.es.length ≤ 100000 := Nat.le_trans hC.ok.few hC.ok.all
  have hll : (liveL t.es).length ≤ t.es.length := by have := liveL_len t.es; omega
  obtain ⟨px, hpx, hpl⟩ := places t.es
  refine callsIn_wide.1 (callsIn_of_wp_marks (n := 0) Tryz.func20 rfl trivial ?_ rfl)
  simp only [Tryz.ntmps20, List.size_toArray, List.length_cons, List.length_nil, Nat.reduceAdd, Nat.reduceSub, Array.replicate_succ, Array.replicate_zero, List.push_toArray, List.append_toArray, List.nil_append, List.cons_append]
  have CL := plen_any (hC.hd.c 0 (by omega)) (hC.dt.hd.c 3 (by omega))
  have CL' : Calls Tryz.prog 21 #[.pointer (some ⟨d, 0, none⟩)] w fun e w' => e = .returned (.int .i64 ((liveL t.es).length : Int)) ∧ w' = w := by
    have : dF mv gi ev t 3 = .int .i64 ((liveL t.es).length : Int) := by show Value.int .i64 (t.live : Int) = _; rw [Tb.live_eq]
    exact plen_any (hC.hd.c 0 (by omega)) ((hC.dt.hd.c 3 (by omega)).trans (by rw [this]))
  clear CL
  have HC := Lib.hid hC
  clear hC
  generalize hLL : (liveL t.es).length = N at *
  gi_wp2_with fail
  refine ⟨trivial, rfl, (callsIn_wide.2 CL').mono ?_⟩
  rintro e w0 ⟨rfl, rfl⟩
  clear CL'
  gi_wp2_with (gi_at_make; refine wpListIn_make_own _ rfl _ _ 62 rfl w0.heap.size 69 i0 (.agg #[.bool false, .int .i64 0, .int .i64 0, .int .i64 0, .int .i64 0]) 5 Tryz.underlying62 hi hz0 hz1 .i64 .i64 _ N rfl rfl rfl (by rw [hz2]; omega) (by unfold maxLen; omega) (Nat.le_refl _) ?_; intro w1 hown1 hgrow1)
  obtain ⟨w2, hw2⟩ : ∃ y, w1.alloc (.cells #[.slice (some ⟨w0.heap.size, 0, none⟩) 0 N] 62) = y := ⟨_, rfl⟩
  have hb1 : Below w0.heap.size w0 w1 := (Below.refl _ w0).grown hgrow1 (Nat.le_refl _) (fun k e => by cases e)
  have hG1 : w0.heap.size < w1.heap.size := (hown1.lt w0.heap.size rfl).2
  have hb2 : Below w0.heap.size w0 w2 := by rw [← hw2]; exact hb1.alloc (by omega) _
  have hX2 : Blk w2 w1.heap.size 1 (fun j => #[Value.slice (some ⟨w0.heap.size, 0, none⟩) 0 N].getD j .nilFunc) := by rw [← hw2]; exact Blk.new w1 _ _
  have hs2 : w2.heap.size = w1.heap.size + 1 := by rw [← hw2]; simp
  have hown2 : w2.ownsRow w0.heap.size 69 5 (.slice (some ⟨w0.heap.size, 0, none⟩) 0 N) 0 [] := by rw [← hw2]; exact World.ownsRow.alloc hown1 _
  have hC2 := HC.out.below hb2
  have CK := kept_yes (hC2.hd.c 0 (by omega))
  have CA := all7_new (hC2.dt.hd.c 2 (by omega)) hC2.dt.es hlen
  have HW2 := Lib.hid hw2
  clear hw2 hC2 hown1 hgrow1
  rw [HW2.out]
  refine ⟨trivial, rfl, (callsIn_wide.2 CK).mono ?_⟩
  rintro e w2' ⟨rfl, h2'⟩
  rw [h2']
  clear CK h2'
  gi_wp2_with fail
  refine ⟨trivial, rfl, (callsIn_wide.2 CA).mono ?_⟩
  rintro e w3 ⟨b, v0, rfl, hbb, hbl, hbc, hE3, hvb, hB3⟩
  clear CA
  have hs3 := hB3.size
  have hI0 : PaI w0 t.es N w0.heap.size w1.heap.size b v0 w3.heap.size 0 w3 := by
    refine ⟨hb2.trans (hB3.mono hb2.size), (hB3.cell (p := ⟨w1.heap.size, 0, none⟩) (by show w1.heap.size < _; omega)).trans (hX2.c 0 (by omega)), (World.frozen?_of_block (a := ⟨w1.heap.size, 0, none⟩) (hB3.block w1.heap.size (by omega))).trans (hX2.z 0), ?_, hE3.es, hbc, Nat.le_refl _⟩
    refine ⟨hown2.1, ?_⟩
    rcases hown2.2 with h0 | ⟨g, cap, cur, e, h1, h2, h3⟩
    · exact .inl h0
    · refine .inr ⟨g, cap, cur, e, h1, (hB3.block g ?_).trans h2, h3⟩
      cases e
      omega
  have hlv := hE3.es.lt
  have hvg := hE3.ge
  have hvw : ∀ j, v0.ownBlock = some j → w2.heap.size ≤ j := hvg
  have hcn : cntL t.es t.es.length = N := by rw [cntL_all, hLL]
  have HSQ := Lib.hid (all1_seq (es := t.es) (v := v0) b w3 hlen px hpx)
  have HPL := Lib.hid hpl
  have HI0 := Lib.hid hI0
  have HLL := Lib.hid hLL
  clear hI0 hE3 hown2 hX2 hB3 hb1 hb2 HC hpx hpl hLL hvg
  rw [hcn] at HSQ
  clear hcn
  gi_wp2_with fail
  refine wpIn_range_box (fun l => { target := .fn (.func 53) #[.pointer (some ⟨b, 0, none⟩)], args := #[.func (.yield l) #[] #[]] }) (fun l W => by simp [resolve, Deferred.ofValue, go_sem, Act.eval]) (fun l W => by simp [invoke, go_sem, Tryz.call53])
    HSQ.out (fun _ => rfl) (fun k W => PaI w0 t.es N w0.heap.size w1.heap.size b v0 w3.heap.size k W) (fun _ _ _ => False) ?hI (fun _ _ _ _ h _ => h) (fun k W h => ⟨h.es, h.ib⟩) HI0.out
    (fun k a' W => ∃ bx, w3.heap.size + 2 ≤ bx ∧ PaI w0 t.es N w0.heap.size w1.heap.size b v0 w3.heap.size k W ∧ Blk W bx 5 (fun j => #[Value.bool (nth t.es (px k)).live, .int .i64 (nth t.es (px k)).hash, .int .i64 (nth t.es (px k)).key, .int .i64 (nth t.es (px k)).value, .int .i64 (nth t.es (px k)).birth].getD j .nilFunc) ∧ a' = { tmps := #[.pointer (some ⟨d, 0, none⟩), undef, .slice none 0 0, .pointer (some ⟨w1.heap.size, 0, none⟩), undef, .pointer (some ⟨bx, 0, none⟩), .pointer (some ⟨d, 0, none⟩), .int .i64 (N : Int), .slice (some ⟨w0.heap.size, 0, none⟩) 0 N, .pointer (some ⟨d, 0, none⟩), .pointer (some ⟨g, 0, none⟩), .func (.func 53) #[] #[.pointer (some ⟨b, 0, none⟩)], .int .i64 (px k : Int), eV (nth t.es (px k)), undef, undef, undef, undef, undef], defers := [] }) ?hA ?assign ?body ?done (fun _ _ _ _ h _ => h.elim)
  case hI =>
    intro k A A' x1 hb
    exact x1.below hb (by omega) (by omega) (by omega) hlv (by omega)
  case hA =>
    rintro k a' W o ⟨bx, hbx, hI, hX, ha⟩
    exact ⟨bx, hbx, hI.below (below_put (by omega)) (by omega) (by omega) (by omega) hlv (by omega), hX.same (World.putObj_heap_other (by omega)), ha⟩
  case assign =>
    intro l k W K hsz hk hI hK
    unfold eV at hK ⊢
    have HI := Lib.hid hI
    obtain ⟨W1, hW1⟩ : ∃ y, W.alloc (.cells #[.bool (nth t.es (px k)).live, .int .i64 (nth t.es (px k)).hash, .int .i64 (nth t.es (px k)).key, .int .i64 (nth t.es (px k)).value, .int .i64 (nth t.es (px k)).birth] 69) = y := ⟨_, rfl⟩
    have hB1 : Below W.heap.size W W1 := by rw [← hW1]; exact (Below.refl _ W).alloc (Nat.le_refl _) _
    have hX1 : Blk W1 W.heap.size 5 (fun j => #[Value.bool (nth t.es (px k)).live, .int .i64 (nth t.es (px k)).hash, .int .i64 (nth t.es (px k)).key, .int .i64 (nth t.es (px k)).value, .int .i64 (nth t.es (px k)).birth].getD j .nilFunc) := by rw [← hW1]; exact Blk.new W _ _
    have hKK := hK _ W1 ⟨W.heap.size, hsz, HI.out.below (hB1.mono HI.out.sz) (by omega) (by omega) (by omega) hlv (by omega), hX1, rfl⟩ hB1
    have HKK := Lib.hid hKK
    have HW1 := Lib.hid hW1
    clear hI hK hKK hB1 hX1 hW1
    gi_wp2_with fail
    rw [HW1.out]
    exact HKK.out
  case body =>
    rintro l k a' W hk ⟨bx, hbx, hI, hX, rfl⟩
    have hxl := (HPL.out k hk).2
    have hxe : (liveL t.es).take (k + 1) = (liveL t.es).take k ++ [nth t.es (px k)] := by rw [hxl]; exact take_succ_nth (by rw [HLL.out]; exact hk)
    obtain ⟨x, hx⟩ : ∃ x, nth t.es (px k) = x := ⟨_, rfl⟩
    rw [hx] at hX hxe ⊢
    have c0 := hX.c 0 (by omega)
    have c1 := hX.c 1 (by omega)
    have c2 := hX.c 2 (by omega)
    have c3 := hX.c 3 (by omega)
    have c4 := hX.c 4 (by omega)
    have cb := hI.bx
    have zb := hI.fz
    have hown := hI.ow
    have HI := Lib.hid hI
    have HXE := Lib.hid hxe
    have hszW := hI.sz
    have hlk : ((enl ((liveL t.es).take k)).length = k * 5) := by rw [enl_len, List.length_take]; rw [HLL.out]; omega
    have HLK := Lib.hid hlk
    clear hI hxe hX hxl hx hlk
    have HRE : Hid (enl ((liveL t.es).take (k + 1)) = enl ((liveL t.es).take k) ++ enc5 x) := by show _ = _; rw [HXE.out, enl_app]; simp [enl]
    generalize enl ((liveL t.es).take k) = R at *
    unfold eV
    gi_wp2_with (gi_at_builtin; refine wpListIn_append_fits _ rfl _ _ 62 rfl w0.heap.size 69 i0 5 Tryz.underlying62 hi hz1 w0.heap.size k N R rfl (World.ownsRow.alloc hown _) ⟨W.heap.size, 0, none⟩ 1 1 (enc5 x) rfl rfl (new_five _ _ _) (by simp [enc5, Value.oneCell']) (by omega) ?_; intro W2 hown2 hgrow2; have kb : W2.heap[w1.heap.size]? = W.heap[w1.heap.size]? := (hgrow2.block w1.heap.size (by simp; omega) (by intro e; injection e with e; omega)).trans (Below.heap_alloc _ _ _ (by omega)); have cb2 := (World.cell?_of_block (a := ⟨w1.heap.size, 0, none⟩) kb).trans cb; have zb2 := (World.frozen?_of_block (a := ⟨w1.heap.size, 0, none⟩) kb).trans zb)
    have hG : w0.heap.size < w3.heap.size := by omega
    have kk : ∀ j, j < W.heap.size → j ≠ w0.heap.size → W2.heap[j]? = W.heap[j]? := fun j hj hne => (hgrow2.block j (by simp; omega) (by intro e; injection e with e; omega)).trans (Below.heap_alloc _ _ _ hj)
    have hS : Since w3.heap.size W W2 := ⟨Nat.le_trans (by simp) hgrow2.size, fun j h1 h2 => kk j h2 (by omega)⟩
    have hbW : Below w0.heap.size w0 W2 := (HI.out.bl.alloc HI.out.bl.size _).grown hgrow2 (by simp; have := HI.out.bl.size; omega) (fun j e => by injection e with e; omega)
    refine ⟨hS.setCell (p := ⟨w1.heap.size, 0, none⟩) (by show w1.heap.size < _; omega) _, ?_⟩
    refine ⟨hbW.setCell (p := ⟨w1.heap.size, 0, none⟩) (by show w0.heap.size ≤ w1.heap.size; omega) _, World.cell?_setCell_same' _ _ _ (by rw [cb2]; rfl), by rw [World.frozen?_setCell]; exact zb2, ?_, ?_, ?_, ?_⟩
    · rw [HRE.out]
      refine ⟨hown2.1, ?_⟩
      rcases hown2.2 with h0 | ⟨g', cap', cur', e', q1, q2, q3⟩
      · exact .inl h0
      · refine .inr ⟨g', cap', cur', e', q1, (Below.heap_setCell _ _ _ _ ?_).trans q2, q3⟩
        cases e'
        show w0.heap.size ≠ w1.heap.size
        omega
    · exact HI.out.es.same fun j hj => by
        have h1 := hvw j hj
        have h2 := hlv j hj
        rw [Below.heap_setCell _ _ _ _ (by show j ≠ w1.heap.size; omega)]
        exact kk j (by omega) (by omega)
    · rw [World.cell?_setCell_other _ _ _ _ (by intro he; injection he with a b; omega)]
      exact (World.cell?_of_block (a := ⟨b, 0, none⟩) (kk b (by omega) (by omega))).trans HI.out.ib
    · have := hS.size
      simp [World.setCell]
      omega
  case done =>
    intro W hI hK
    have cb := hI.bx
    have HI := Lib.hid hI
    have hsW := hI.bl.size
    have HOW : Hid (EsB w0.heap.size W (.slice (some ⟨w0.heap.size, 0, none⟩) N N) (liveL t.es)) := by
      have h1 := hI.ow
      rw [List.take_of_length_le (by rw [HLL.out]; exact Nat.le_refl _)] at h1
      show W.ownsRow w0.heap.size 69 5 _ (liveL t.es).length (enl (liveL t.es))
      rw [HLL.out]
      exact h1
    clear hI
    gi_wp2_with fail
    gi_wp2
    refine ⟨by simp, .inl ⟨_, _, rfl, run_takeDeferred hK, ?_⟩⟩
    refine ⟨_, results_tmp rfl _ _ _, _, rfl, ?_, HI.out.bl.trans (below_put (by omega))⟩
    refine ⟨HOW.out.1, ?_⟩
    rcases HOW.out.2 with h0 | ⟨g', cap', cur', e', q1, q2, q3⟩
    · exact .inl h0
    · refine .inr ⟨g', cap', cur', e', q1, (World.putObj_heap_other ?_).trans q2, q3⟩
      cases e'
      omega
end Go.Proofs.YtbpflmdefpjcaaaGreat
