/-
  A row of steps of four ints, a bool and an int that was handed in, laid open.
  A machine that is told the same; turns compared; awake.
  Walks through a dictionary of one's own; awake.
  The law's does, whatever is asked; the law's beginning.
  StrollPlays, walked.
-/
import Derived.Test.YtejfmajbggmghaaGreatGa
import Derived.Deep.Slices
import Derived.ChangeSame
import Derived.ChangeArms
import Derived.Test.YtejfmajbggmghaaGreatGp
import Derived.Test.YtejfmajbggmghaaGreatStGo
import Derived.Test.YtejfmajbggmghaaGreatGv
import Derived.Test.YtejfmajbggmghaaGreatSpL3
import Derived.Test.YtejfmajbggmghaaGreatSpL4
namespace Go.Proofs.YtejfmajbggmghaaGreat
open Go.ChangeShapes Go.WideShapes Go.ChangeAt Go.RowKit Go.Joins

/-- A row of steps. -/
def S9 (W : World) (a : Option Addr) (n c : Nat) (q : Nat → (Nat → Int) × Bool) : Prop :=
  n ≤ c ∧ ∃ b off, (0 < n → a = some ⟨b, off, none⟩ ∧ b < W.heap.size) ∧ ∀ i, i < n → (∀ k, k < 6 → k ≠ 4 → W.cell? ⟨b, off + (i * 6 + k), none⟩ = some (.int .i64 ((q i).1 k))) ∧ W.cell? ⟨b, off + (i * 6 + 4), none⟩ = some (.bool (q i).2)
theorem Tryz.cellsStep9 : Tryz.prog.cellsOf 38 = 6 := by kernel_rfl
theorem Tryz.cellsI8 : Tryz.prog.cellsOf 3 = 1 := by kernel_rfl
theorem Tryz.cellsB8 : Tryz.prog.cellsOf 4 = 1 := by kernel_rfl
theorem eight_add (b off q : Nat) : (⟨b, off, none⟩ : Addr).add q = ⟨b, off + q, none⟩ := by
  unfold Addr.add
  split <;> simp_all
set_option maxRecDepth 100000 in
theorem steps9_open {H : Type} {enc : TypeId × Value → H} {W : World} {r : Reach} {base : Nat} {v : Value} {d : DataW H} {p : List MemPlace} (hv : Value.okWide Tryz.prog W r base 22 v) (h : DataW.Trod enc Tryz.prog W 0 (fun _ => true) true 22 v d p) :
    ∃ a n c q, v = .slice a n c ∧ S9 W a n c q := by
  obtain ⟨a0, n0, c0, rfl⟩ := okWide_slice Tryz.underlying22 hv
  obtain ⟨fuel, hf⟩ := h
  rcases Deep.open_slice Tryz.underlying22 hf with ⟨hcs, _⟩ | ⟨a, len, cap, m, n, D, Pl, hcs, hb, hl, hm, hmm, _, hx⟩
  · simp [Value.cells] at hcs
    obtain ⟨rfl, rfl, rfl⟩ := hcs
    exact ⟨none, 0, 0, fun _ => (fun _ => 0, false), rfl, Nat.le_refl _, 0, 0, fun h => absurd h (by omega), fun i h => absurd h (by omega)⟩
  · simp [Value.cells] at hcs
    obtain ⟨rfl, rfl, rfl⟩ := hcs
    simp only [if_true] at hmm
    have each : ∀ i, i < m → ∃ q : (Nat → Int) × Bool, (∀ k, k < 6 → k ≠ 4 → W.cell? (a.add (i * 6 + k)) = some (.int .i64 (q.1 k))) ∧ W.cell? (a.add (i * 6 + 4)) = some (.bool q.2) := by
      intro i hi
      obtain ⟨cs', h1, h2⟩ := hx i hi
      rw [Tryz.cellsStep9] at h1
      obtain ⟨_, hlen, hcell⟩ := World.cells?_some h1
      obtain ⟨xs, k, hk, hxy, _, hxl, hf⟩ := DataW.trod_struct Tryz.underlying38 h2
      match xs, hxl, cs', hlen with
      | [y0, y1, y2, y3, y4, y5], _, [v0, v1, v2, v3, v4, v5], _ =>
        have g0 := hf 0 _ rfl
        have g1 := hf 1 _ rfl
        have g2 := hf 2 _ rfl
        have g3 := hf 3 _ rfl
        have g4 := hf 4 _ rfl
        have g5 := hf 5 _ rfl
        simp [Tryz.cellsI8, Tryz.cellsB8] at g0 g1 g2 g3 g4 g5
        obtain ⟨z0, e0, _⟩ := DataW.trod_int Tryz.underlying3 g0
        obtain ⟨z1, e1, _⟩ := DataW.trod_int Tryz.underlying3 g1
        obtain ⟨z2, e2, _⟩ := DataW.trod_int Tryz.underlying3 g2
        obtain ⟨z3, e3, _⟩ := DataW.trod_int Tryz.underlying3 g3
        obtain ⟨z4, e4, _⟩ := DataW.trod_bool Tryz.underlying4 g4
        obtain ⟨z5, e5, _⟩ := DataW.trod_int Tryz.underlying3 g5
        simp only [List.cons.injEq, and_true] at e0 e1 e2 e3 e4 e5
        subst e0 e1 e2 e3 e4 e5
        refine ⟨(fun k => match k with | 0 => z0 | 1 => z1 | 2 => z2 | 3 => z3 | _ => z5, z4), fun k hk hk4 => ?_, ?_⟩
        · have hc := hcell k (by omega)
          rw [Deep.add_add] at hc
          match k, hk, hk4 with
          | 0, _, _ => simpa using hc
          | 1, _, _ => simpa using hc
          | 2, _, _ => simpa using hc
          | 3, _, _ => simpa using hc
          | 4, _, h => exact absurd rfl h
          | 5, _, _ => simpa using hc
        · have hc := hcell 4 (by omega)
          rw [Deep.add_add] at hc
          simpa using hc
    obtain ⟨q, hq⟩ := Deep.choose_lt each
    obtain ⟨b, off, spot⟩ := a
    have hsp : 0 < n0 → spot = none := fun h0 => by
      have := (hq 0 (by omega)).1 0 (by omega) (by omega)
      simpa [Addr.add] using World.cell?_spot this
    refine ⟨_, _, _, q, rfl, hl, b, off, fun h0 => ?_, fun i hi => ⟨fun k hk hk4 => ?_, ?_⟩⟩
    · obtain rfl := hsp h0
      have hc := (hq 0 (by omega)).2
      rw [eight_add] at hc
      exact ⟨rfl, lt_of_cell hc⟩
    · obtain rfl := hsp (by omega)
      have hc := (hq i (by omega)).1 k hk hk4
      rw [eight_add] at hc
      exact hc
    · obtain rfl := hsp (by omega)
      have hc := (hq i (by omega)).2
      rw [eight_add] at hc
      exact hc
end Go.Proofs.YtejfmajbggmghaaGreat
namespace Go.Proofs.YtejfmajbggmghaaGreat
open Go.RowKit Go.WideShapes

theorem aw_same {K : Nat → Prop} {B : Nat} {w0 w : World} {d x : Nat} {t : Tb} {most : Int} {v : Nat} {m : Ma} {n g gi r h : Nat} {ev : Value} {s j f : Nat} (p : Aw K B w0 w d x t most v m n g gi r h ev s j f) (hk : m.u.kind = 0) (hsame : m.same = true) (ft : Fit t v) (hg : m.goal = 1) :
    Calls Tryz.prog 10 #[.pointer (some ⟨x, 0, none⟩)] w fun e w' => e = .returned (tuV ⟨2, 0, true, (nth t.es n).value, (n : Int)⟩) ∧ En1 w' d x { m with u := ⟨2, 0, true, (nth t.es n).value, (n : Int)⟩ } t.L s j ∧ Pd K B w0 w' d g gi r h ev t most v ∧ Kp K w w' := by
  have hsv : ∀ k, mB (.pointer (some ⟨s, 0, none⟩)) k → k < w.heap.size := fun k hk => by rw [someB hk]; exact p.sw.sk.lt (by omega)
  refine (step_told p.pd.dc mtOk_nil (a := 0) (b := 0) trivial ft.turn ft.ver p.mx hk hsv (by rw [p.scans]; decide) p.ver hsame n p.asked p.of.1 p.of.2.1).mono ?_
  rintro e w' ⟨rfl, hc, hm, hks⟩
  have eT : hitT m t n = t := by rw [hitT, hg]; rfl
  have eN : hitN m.goal v = v := by rw [hitN, hg]; rfl
  rw [eT, eN] at hc
  have hle := p.sw.le
  have hlt := p.sw.lt
  exact ⟨rfl, ⟨hm, Vi.same ⟨_, _, _, _, _, _, p.sw.sk⟩ (hks s (p.sw.sk.lt (by omega)) p.sw.nc p.sw.nm p.sw.nx), by omega, p.scans⟩, p.pd.cm p.hx (fun k hk => by rw [someB hk]; exact p.hs) hc, p.pd.cmk p.kx (fun k hk => by rw [someB hk]; exact p.ks) hc⟩
/-- Two turns that are the same. -/
def tuE (x y : Tu) : Bool := x.kind == y.kind && (x.key == y.key && (x.found == y.found && (x.value == y.value && x.entry == y.entry)))
theorem tu_eq (x y : Tu) (w : World) : (binOp .eql 45 (tuV x) (tuV y)).run Tryz.prog w = .ok (.bool (tuE x y)) w := by
  unfold tuV tuE
  have hu : Tryz.prog.underlying 45 = some (.struct (Tryz.prog.fieldsOf 45)) := by kernel_rfl
  have hp : Tryz.prog.stoodInHeld 45 = false := by kernel_rfl
  rw [run_eql_struct, run_equalIn_agg w 9999 _ _ _ hu hp]
  have hF : (Tryz.prog.fieldsOf 45).toList = [⟨"Kind", 3, 0, false, "", "", 0⟩, ⟨"Key", 3, 1, false, "", "", 8⟩, ⟨"Found", 4, 2, false, "", "", 16⟩, ⟨"Value", 3, 3, false, "", "", 24⟩, ⟨"Entry", 3, 4, false, "", "", 32⟩] := by kernel_rfl
  rw [hF]
  by_cases h0 : x.kind = y.kind
  · by_cases h1 : x.key = y.key
    · by_cases h2 : x.found = y.found
      · by_cases h3 : x.value = y.value
        · by_cases h4 : x.entry = y.entry
          · simp [Op.eqFields, go_sem, h0, h1, h2, h3, h4]
          · simp [Op.eqFields, go_sem, h0, h1, h2, h3, h4]
        · simp [Op.eqFields, go_sem, h0, h1, h2, h3]
      · simp [Op.eqFields, go_sem, h0, h1, h2]
    · simp [Op.eqFields, go_sem, h0, h1]
  · simp [Op.eqFields, go_sem, h0]
theorem tu_ne (x y : Tu) (w : World) : (binOp .neq 45 (tuV x) (tuV y)).run Tryz.prog w = .ok (.bool (!tuE x y)) w := by
  have h := tu_eq x y w
  unfold tuV at h ⊢
  rw [run_eql_struct] at h
  rw [run_neq_struct]
  cases hr : (Op.equalIn 10000 45 (.agg #[.int .i64 x.kind, .int .i64 x.key, .bool x.found, .int .i64 x.value, .int .i64 x.entry]) (.agg #[.int .i64 y.kind, .int .i64 y.key, .bool y.found, .int .i64 y.value, .int .i64 y.entry])).run Tryz.prog w with
  | ok b w' =>
    rw [hr] at h
    simp [Result.andThen] at h ⊢
    obtain ⟨rfl, rfl⟩ := h
    exact ⟨rfl, rfl⟩
  | halt a w' => rw [hr] at h; simp [Result.andThen] at h
theorem neMa (x : Nat) (w : World) : (binOp .neq 40 (.pointer (some ⟨x, 0, none⟩)) (.pointer none)).run Tryz.prog w = .ok (.bool true) w := by kernel_rfl
/-- The machine of a dictionary of one's own that was begun. -/
theorem lw_begin {K : Nat → Prop} {B : Nat} {w0 w : World} {d g gi r h : Nat} {ev : Value} {t : Tb} {most : Int} {v : Nat} (p : Pd K B w0 w d g gi r h ev t most v) (goal : Nat) (hg1 : 1 ≤ goal) (hg4 : goal ≤ 4) (u k x : Int) :
    Calls Tryz.prog 8 #[.pointer (some ⟨d, 0, none⟩), .int .i64 (goal : Int), .int .i64 u, .int .i64 k, .int .i64 x] w fun e w' => ∃ b, e = .returned (.pointer (some ⟨b, 0, none⟩)) ∧ B ≤ b ∧ ¬ K b ∧ ¬ cX d g gi r h ev b ∧ Mc w' b (.pointer none) d ⟨goal, u, k, x, 0, 0, Tu.zero, 0, false⟩ ∧ Pd K B w0 w' d g gi r h ev t most v ∧ Kp K w w' := by
  refine (begin_yes d goal hg1 hg4 u k x w).mono ?_
  rintro e w' ⟨b, rfl, hb, hm, hbl⟩
  exact ⟨b, rfl, Nat.le_trans p.size hb, fun hk => by have := (p.kp b hk).1; omega, fun hk => by have := p.dc.lt b hk; omega, hm, p.below hbl, p.kept hbl⟩
theorem lw_new (w : World) (most : Int) (h0 : 0 ≤ most) (h1 : most ≤ 65536) :
    Calls Tryz.prog 5 #[.int .i64 most, .pointer none] w fun e w' => ∃ d g gi r h, e = .returned (.tuple #[.pointer (some ⟨d, 0, none⟩), .int .i64 0]) ∧ Pd (fun _ => False) w.heap.size w w' d g gi r h (.slice none 0 0) Tb.new most 0 := by
  refine (pnew_any (w := w) (pm := none) (a := 0) (b := 0) mtOk_nil trivial (by decide) most h0 h1).mono ?_
  rintro e w' ⟨d, g, gi, r, h, rfl, hf, hD, _, hX⟩
  exact ⟨d, g, gi, r, h, rfl, hD, hf, hX.below (fun k hk => (noneB hk).elim) (Nat.le_refl _), fun _ h => h.elim⟩
theorem new_none (u : Int) (n : Nat) : ¬ Of Tb.new.es u n := fun h => absurd h.1 (Nat.not_lt_zero _)
theorem awake_add : (Tb.new.add 7 1 10).es = [⟨true, 7, 1, 10, 0⟩] := by
  have h1 : Tb.new.add 7 1 10 = Tb.new.push 7 1 10 := by unfold Tb.add; rw [if_pos (by show 0 < rm (2 ^ 3); decide)]
  rw [h1]
  rfl
end Go.Proofs.YtejfmajbggmghaaGreat
namespace Go.Proofs.YtejfmajbggmghaaGreat
open Go.RowKit Go.WideShapes

def Nx1 (back : Bool) (es : List En) (told : Int) (n : Nat) : Prop := if back = true then Nb es told n else Nf es told n
def Nx0 (back : Bool) (es : List En) (told : Int) : Prop := if back = true then Fb es told else Ff es told
theorem fd_yes {back : Bool} {es : List En} {told : Int} {n : Nat} (hn : Nx1 back es told n) : ∀ e, FdR back es told e → e = .returned (.tuple #[eV (nth es n), .bool true]) := by
  unfold Nx1 at hn
  unfold FdR
  cases back with
  | true =>
    have hn' : Nb es told n := hn
    rintro e (⟨m, b, g⟩ | ⟨b, _⟩)
    · rw [g, b.uniq hn']
    · have h1 := b n hn'.1 hn'.2.1
      have h2 := hn'.2.2.1
      omega
  | false =>
    have hn' : Nf es told n := hn
    rintro e (⟨m, b, g⟩ | ⟨b, _⟩)
    · rw [g, b.uniq hn']
    · have h1 := b n hn'.1 hn'.2.1
      have h2 := hn'.2.2.1
      omega
theorem fd_no {back : Bool} {es : List En} {told : Int} (hn : Nx0 back es told) : ∀ e, FdR back es told e → e = .returned (.tuple #[eV En.zero, .bool false]) := by
  unfold Nx0 at hn
  unfold FdR
  cases back with
  | true =>
    have hn' : Fb es told := hn
    rintro e (⟨m, b, g⟩ | ⟨b, g⟩)
    · have h1 := hn' m b.1 b.2.1
      have h2 := b.2.2.1
      omega
    · exact g
  | false =>
    have hn' : Ff es told := hn
    rintro e (⟨m, b, g⟩ | ⟨b, g⟩)
    · have h1 := hn' m b.1 b.2.1
      have h2 := b.2.2.1
      omega
    · exact g
/-- The walk's own block is one of those kept: the dictionary stays as it was. -/
theorem Pd.strolled {K : Nat → Prop} {B : Nat} {w0 w w' : World} {d g gi r h : Nat} {ev : Value} {t : Tb} {most : Int} {v : Nat} (p : Pd K B w0 w d g gi r h ev t most v) {s : Nat} (hs : K s) (hB : B ≤ s) (hx : Ex (fun k => k = s) w w') : Pd K B w0 w' d g gi r h ev t most v :=
  ⟨p.dc.same fun k hk => hx.block k (p.dc.lt k hk) (fun e => (p.kp s hs).2 (e ▸ hk)), p.fr, p.bl.trans (hx.below (fun k hk => by rw [hk]; exact hB) p.size), fun k hk => ⟨Nat.lt_of_lt_of_le (p.kp k hk).1 hx.size, (p.kp k hk).2⟩⟩
theorem ln_yes {K : Nat → Prop} {B : Nat} {w0 w : World} {d g gi r h : Nat} {ev : Value} {t : Tb} {most : Int} {v : Nat} (p : Pd K B w0 w d g gi r h ev t most v) (hb : t.Born) {s b : Nat} {back : Bool} {told : Int} (hS : Sr w s d back (t.live : Int) told b) (hK : K s) (hB : B ≤ s) (ht : -1 ≤ told) (ht2 : back = false → told < 9223372036854775807) {n : Nat} (hn : Nx1 back t.es told n) :
    Calls Tryz.prog 11 #[.pointer (some ⟨s, 0, none⟩)] w fun e w' => e = .returned (.tuple #[eV (nth t.es n), .int .i64 0]) ∧ Sr w' s d back (t.live : Int) (nth t.es n).birth b ∧ Pd K B w0 w' d g gi r h ev t most v ∧ Ex (fun k => k = s) w w' :=
  (next_go p.dc hb hS ht ht2 (yb := true) (y0 := (nth t.es n).live) (y1 := (nth t.es n).hash) (y2 := (nth t.es n).key) (y3 := (nth t.es n).value) (y4 := (nth t.es n).birth) (fd_yes hn)).mono fun _ _ ⟨h1, h2, h3⟩ => ⟨h1, h2, p.strolled hK hB h3, h3⟩
theorem ln_no {K : Nat → Prop} {B : Nat} {w0 w : World} {d g gi r h : Nat} {ev : Value} {t : Tb} {most : Int} {v : Nat} (p : Pd K B w0 w d g gi r h ev t most v) (hb : t.Born) {s b : Nat} {back : Bool} {told : Int} (hS : Sr w s d back (t.live : Int) told b) (hK : K s) (hB : B ≤ s) (ht : -1 ≤ told) (ht2 : back = false → told < 9223372036854775807) (hn : Nx0 back t.es told) :
    Calls Tryz.prog 11 #[.pointer (some ⟨s, 0, none⟩)] w fun e w' => e = .returned (.tuple #[eV En.zero, .int .i64 10]) ∧ Blk w' s 5 (soF false) ∧ Pd K B w0 w' d g gi r h ev t most v ∧ Ex (fun k => k = s) w w' :=
  (next_go p.dc hb hS ht ht2 (yb := false) (y0 := false) (y1 := 0) (y2 := 0) (y3 := 0) (y4 := 0) (fd_no hn)).mono fun _ _ ⟨h1, h2, h3⟩ => ⟨h1, h2, p.strolled hK hB h3, h3⟩
/-- A new walk through a dictionary of one's own, kept with what is kept. -/
theorem ln_new {K : Nat → Prop} {B : Nat} {w0 w : World} {d g gi r h : Nat} {ev : Value} {t : Tb} {most : Int} {v : Nat} (p : Pd K B w0 w d g gi r h ev t most v) (back : Bool) :
    Calls Tryz.prog 9 #[.pointer (some ⟨d, 0, none⟩), .bool back] w fun e w' => ∃ s, e = .returned (.pointer (some ⟨s, 0, none⟩)) ∧ w.heap.size ≤ s ∧ ∃ b, w.heap.size ≤ b ∧ Sr w' s d back (t.live : Int) (if back = true then 9223372036854775807 else -1) b ∧ Pd (fun k => K k ∨ k = s ∨ k = b) B w0 w' d g gi r h ev t most v ∧ Below w.heap.size w w' := by
  refine (snew_any p.dc back).mono ?_
  rintro e w' ⟨s, b, h1, h2, h3, h4, h5⟩
  refine ⟨s, h1, h2, b, h3, h4, (p.below h5).withK ?_, h5⟩
  rintro k (hk | rfl | rfl)
  · exact ((p.below h5).kp k hk)
  · exact ⟨h4.lt.1, fun hc => by have := p.dc.lt _ hc; omega⟩
  · exact ⟨h4.lt.2, fun hc => by have := p.dc.lt _ hc; omega⟩
theorem awake_live : (Tb.new.add 7 1 10).live = 1 := by rw [Tb.live_eq, awake_add]; rfl
theorem new_born : Tb.new.Born := Go.Proofs.YtejfmajbggmghaaGreat.Born.nil _
set_option maxRecDepth 100000 in
set_option maxHeartbeats 4000000 in
theorem awake9_any (w : World) : Calls Tryz.prog 4 #[] w fun e w' => e = .returned (.bool true) ∧ Below w.heap.size w w' := by
  have CN := lw_new w 3 (by decide) (by decide)
  go_enter Tryz.func4, Tryz.ntmps4
  go_wp2_with fail
  refine CN.mono ?_
  rintro e w1 ⟨d, g, gi, r, h, rfl, hP⟩
  clear CN
  have CB := lw_begin hP 2 (by decide) (by decide) 7 1 10
  have h1 := eqD d
  clear hP
  go_wp2_with fail
  refine CB.mono ?_
  rintro e w2 ⟨x, rfl, hx, hkx, hnx, hm, hP, _⟩
  clear CB h1
  have CS := ln_new hP false
  have lx := hm.lt (by omega)
  clear hP
  go_wp2_with fail
  refine CS.mono ?_
  rintro e w3 ⟨s, rfl, hs, b, hb, hS, hP, hB3⟩
  clear CS
  have hm3 := hm.of hB3 (by omega)
  have hBs := hP.size
  have h1 := eqMa x
  have h2 := eqSr s
  have CS := fresh_step hP hx hm3 hnx (by rintro (h | h | h) <;> omega) ⟨by decide, by decide, by decide, by decide⟩ (fun n hn => (new_none _ n hn).elim)
  have HS := Lib.hid hS
  have hB2 : w.heap.size ≤ w2.heap.size := by omega
  clear hP hm hm3 hS
  go_wp2_with fail
  refine CS.mono ?_
  rintro e w4 ⟨u, rfl, hL, hK4⟩
  clear CS
  obtain ⟨hu, g2, gi2, r2, h2', ev2, hP⟩ : u = ⟨2, 0, false, 10, 0⟩ ∧ ∃ g gi' r' h' ev', Pd (fun k => False ∨ k = s ∨ k = b) w.heap.size w w4 d g gi' r' h' ev' (Tb.new.add 7 1 10) 3 1 := by
    rcases hL with ⟨n, hO, _⟩ | ⟨_, _, hM⟩
    · exact (new_none _ n hO).elim
    · rcases hM with ⟨_, _, q, y⟩ | ⟨_, q, _⟩ | ⟨q, _⟩
      · refine ⟨?_, y⟩
        rw [q, awake_add]
        rfl
      · exact absurd (by decide) q
      · exact absurd (.inl rfl) q
  subst hu
  clear hL
  have hS4 := HS.out.same (hK4 s (.inr (.inl rfl))) (hK4 b (.inr (.inr rfl)))
  have CS := ln_new hP true
  have hes := awake_add
  have hlv := awake_live
  have hbo : (Tb.new.add 7 1 10).Born := new_born.add 7 1 10
  generalize Tb.new.add 7 1 10 = T at *
  have HS4 := Lib.hid hS4
  have HES := Lib.hid hes
  have HLV := Lib.hid hlv
  have HBO := Lib.hid hbo
  clear hP hS4 hK4 HS hes hlv hbo
  unfold tuV
  have hfl : ∀ w, (Instr.field 45 (.agg #[.int .i64 2, .int .i64 0, .bool false, .int .i64 10, .int .i64 0]) 0).run Tryz.prog w = .ok (.int .i64 2) w := fun _ => by kernel_rfl
  go_wp2_with fail
  refine CS.mono ?_
  rintro e w5 ⟨s2, rfl, hs2, b2, hb2, hS2, hP, hB5⟩
  clear CS
  have hS5 := HS4.out.below hB5
  have l4 := HS4.out.lt
  have CS := next_size hP.dc hS5 (by rw [HLV.out]; decide)
  have HP := Lib.hid hP
  have HS2 := Lib.hid hS2
  clear hP hS2 hS5
  go_wp2_with fail
  refine CS.mono ?_
  rintro e w6 ⟨rfl, _, hX6⟩
  clear CS
  have hP6 := HP.out.strolled (.inl (.inr (.inl rfl))) (by omega) hX6
  have hS6 := HS2.out.same (hX6.block s2 HS2.out.lt.1 (by omega)) (hX6.block b2 HS2.out.lt.2 (by omega))
  have hn : Nx1 true T.es 9223372036854775807 0 := by
    show Nb T.es 9223372036854775807 0
    rw [HES.out]
    exact ⟨by decide, rfl, by decide, fun k h1 h2 => by simp at h2; omega⟩
  have CS := ln_yes hP6 HBO.out hS6 (.inr (.inl rfl)) (by omega) (by decide) (fun h => by cases h) hn
  have hnt : nth T.es 0 = ⟨true, 7, 1, 10, 0⟩ := by rw [HES.out]; rfl
  rw [hnt] at CS
  clear hP6 hS6 hX6 hn hnt HP HS2
  unfold eV at CS ⊢
  simp only at CS
  go_wp2_with fail
  refine CS.mono ?_
  rintro e w7 ⟨rfl, hS7, hP7, _⟩
  clear CS
  obtain ⟨w8, hw8⟩ : ∃ y, w7.alloc (.cells #[.bool true, .int .i64 7, .int .i64 1, .int .i64 10, .int .i64 0] 48) = y := ⟨_, rfl⟩
  have hB8 : Below w7.heap.size w7 w8 := by rw [← hw8]; exact (Below.refl _ w7).alloc (Nat.le_refl _) _
  have hX8 : Blk w8 w7.heap.size 5 (fun j => #[Value.bool true, .int .i64 7, .int .i64 1, .int .i64 10, .int .i64 0].getD j .nilFunc) := by rw [← hw8]; exact Blk.new w7 _ _
  have HW8 := Lib.hid hw8
  have l7 := hS7.lt.1
  have hn : Nx0 true T.es 0 := by
    show Fb T.es 0
    rw [HES.out]
    exact fun k h1 h2 => by
      have : k = 0 := by simp at h1; exact h1
      subst this
      decide
  have CS := ln_no (hP7.below hB8) HBO.out (hS7.below hB8) (.inr (.inl rfl)) (by omega) (by decide) (fun h => by cases h) hn
  have HX8 := Lib.hid hX8
  clear hP7 hS7 hn hX8 hw8 hB8
  unfold eV at CS
  go_upto_region 11 with fail
  rw [HW8.out]
  go_wp2_with fail
  refine CS.mono ?_
  rintro e w9 ⟨rfl, _, hP9, hX9⟩
  clear CS
  obtain ⟨w10, hw10⟩ : ∃ y, w9.alloc (.cells #[.bool En.zero.live, .int .i64 En.zero.hash, .int .i64 En.zero.key, .int .i64 En.zero.value, .int .i64 En.zero.birth] 48) = y := ⟨_, rfl⟩
  have hB10 : Below w9.heap.size w9 w10 := by rw [← hw10]; exact (Below.refl _ w9).alloc (Nat.le_refl _) _
  have hY : Blk w9 w7.heap.size 5 (fun j => #[Value.bool true, .int .i64 7, .int .i64 1, .int .i64 10, .int .i64 0].getD j .nilFunc) := HX8.out.same (hX9.block _ (HX8.out.lt (by omega)) (by omega))
  have hY10 := hY.of hB10 (by omega)
  have c2 : w10.cell? ⟨w7.heap.size, 2, none⟩ = some (.int .i64 1) := hY10.c 2 (by omega)
  have c3 : w10.cell? ⟨w7.heap.size, 3, none⟩ = some (.int .i64 10) := hY10.c 3 (by omega)
  have HB : Hid (Below w.heap.size w w10) := (hP9.below hB10).bl
  have HW10 := Lib.hid hw10
  clear hw10 hY hY10 hP9 hX9 hB10
  unfold En.zero at HW10 ⊢
  go_upto_region 12 with fail
  rw [HW10.out]
  go_wp2
  go_ret
  exact ⟨rfl, HB.out⟩
end Go.Proofs.YtejfmajbggmghaaGreat
namespace Go.Proofs.YtejfmajbggmghaaGreat
open Go.RowKit Go.WideShapes

theorem does9_any {B : Nat} {w : World} {X : Nat} {S : St8} {most : Int} {c : Nat} (h : J9 B w X S most c) (hc : c ≤ 40000) (x0 x1 x2 x3 x5 : Int) (sb : Bool) :
    Calls Tryz.prog 7 #[.pointer (some ⟨X, 0, none⟩), .agg #[.int .i64 x0, .int .i64 x1, .int .i64 x2, .int .i64 x3, .bool sb, .int .i64 x5]] w fun e w' => e = .returned (.bool true) ∧ Out9 B w X most (c + 1) w' := by
  by_cases hx : 1 ≤ x0 ∧ x0 ≤ 6
  · rcases (by omega : x0 = 1 ∨ x0 = 2 ∨ x0 = 3 ∨ x0 = 4 ∨ x0 = 5 ∨ x0 = 6) with rfl | rfl | rfl | rfl | rfl | rfl
    · exact does9_put h hc x1 x2 x3 x5 sb
    · exact does9_del h hc x1 x2 x3 x5 sb
    · exact does9_clear h hc x1 x2 x3 x5 sb
    · exact does9_walk h hc x1 x2 x3 x5 sb
    · exact does9_next h hc x1 x2 x3 x5 sb
    · exact does9_last h hc x1 x2 x3 x5 sb
  · exact does9_none h hc x1 x2 x3 x5 sb x0 hx
theorem S9.below {w w' : World} {a : Option Addr} {n c : Nat} {q : Nat → (Nat → Int) × Bool} (h : S9 w a n c q) (hb : Below w.heap.size w w') : S9 w' a n c q := by
  obtain ⟨h1, b, off, h2, h3⟩ := h
  refine ⟨h1, b, off, fun h => ⟨(h2 h).1, Nat.lt_of_lt_of_le (h2 h).2 hb.size⟩, fun i hi => ⟨fun k hk hk4 => (hb.cell (p := ⟨b, off + (i * 6 + k), none⟩) (h2 (by omega)).2).trans ((h3 i hi).1 k hk hk4), (hb.cell (p := ⟨b, off + (i * 6 + 4), none⟩) (h2 (by omega)).2).trans (h3 i hi).2⟩⟩
def ini9 (d g gi r h d2 g2 q2 : Nat) : St8 := { nd := 1, ds := fun _ => ⟨d, g, gi, r, h, .slice none 0 0, d2, g2, q2, .slice none 0 0, Tb.new, 0⟩, nm := 0, ms := fun _ => ⟨0, 0, .pointer none, 0, .pointer none, ⟨0, 0, 0, 0, 0, 0, Tu.zero, 0, false⟩, ⟨0, false, false, false, Tu.zero⟩⟩, rm := .slice none 0 0, rn := .slice none 0 0, nw := 0, ws := fun _ => ⟨0, 0, 0⟩ }
theorem j9_new {w w1 w2 w3 : World} {most : Int} {d g gi r h d2 g2 q2 : Nat}
    (hd : ∀ k, cX d g gi r h (.slice none 0 0) k → w.heap.size ≤ k) (hD : Dc w1 d g gi r h (.slice none 0 0) Tb.new (.pointer none) most 0) (x1 : Ex (mB (.pointer none)) w w1)
    (hr : ∀ k, rX d2 g2 q2 (.slice none 0 0) k → w1.heap.size ≤ k) (hR : Rdc w2 d2 g2 q2 (.slice none 0 0) Tb.new (.pointer none) most 0) (x2 : Ex (mB (.pointer none)) w1 w2) (hb : Below w2.heap.size w2 w3) (hX : Blk w3 w2.heap.size 4 (x8F (ini9 d g gi r h d2 g2 q2))) :
    J9 w.heap.size w3 w2.heap.size (ini9 d g gi r h d2 g2 q2) most 0 ∧ Below w.heap.size w w3 := by
  have s1 := x1.size
  have s2 := x2.size
  have s3 := hb.size
  have lX := hX.lt (by omega)
  have hlD := hD.lt
  have hlR := hR.lt
  have hb1 : Below w.heap.size w w1 := ⟨x1.os, x1.tape, x1.output, x1.size, fun k hk => x1.block k hk noneB⟩
  have hb2 : Below w1.heap.size w1 w2 := ⟨x2.os, x2.tape, x2.output, x2.size, fun k hk => x2.block k hk noneB⟩
  have hall : ∀ k, (ini9 d g gi r h d2 g2 q2).all w2.heap.size k → w.heap.size ≤ k := by
    rintro k (rfl | y | y | ⟨i, _, y | y⟩ | ⟨j, hj, _⟩)
    · omega
    · cases y
    · cases y
    · exact hd k y
    · have := hr k y; omega
    · exact absurd hj (Nat.not_lt_zero _)
  refine ⟨⟨⟨hX, ⟨rfl, .inl ⟨rfl, rfl⟩⟩, ⟨rfl, .inl ⟨rfl, rfl⟩⟩, Nat.one_pos, Nat.zero_le _, fun i _ => ⟨(hD.below hb2).below hb, hR.same fun k hk => hb.block k (hlR k hk), ⟨Nat.le_refl _, Nat.le_refl _, Nat.le_refl _, Nat.le_refl _⟩, Go.Proofs.YtejfmajbggmghaaGreat.Born.nil _⟩, fun j hj => absurd hj (Nat.not_lt_zero _), trivial, .inl rfl, ⟨by omega, by omega, by omega, by omega⟩, ?_⟩, rfl, rfl, ⟨Nat.zero_le _, fun j hj => absurd hj (Nat.not_lt_zero _), fun _ => 0, fun _ _ => rfl, fun j hj => absurd hj (Nat.not_lt_zero _)⟩, fun i hi => ?_, by omega⟩, (hb1.trans (hb2.mono s1)).trans (hb.mono (by omega))⟩
  · refine ⟨fun k => if k = w2.heap.size then 0 else if w1.heap.size ≤ k then 6 else 5, ⟨if_pos rfl, lX⟩, fun k y => (noneB y).elim, fun k y => (noneB y).elim, fun k y => ?_, fun k y => ?_, fun i hi k y => ?_, fun i hi k y => ?_, fun j hj => absurd hj (Nat.not_lt_zero _), fun j hj => absurd hj (Nat.not_lt_zero _)⟩
    · cases y
    · cases y
    · have g2 := hlD k y
      obtain rfl : i = 0 := by have : i < 1 := hi; omega
      show (if k = w2.heap.size then 0 else _) = 5 ∧ _
      rw [if_neg (by omega), if_neg (by omega)]
      exact ⟨rfl, by omega⟩
    · have g1 := hr k y
      have g2 := hlR k y
      obtain rfl : i = 0 := by have : i < 1 := hi; omega
      show (if k = w2.heap.size then 0 else _) = 6 ∧ _
      rw [if_neg (by omega), if_pos (by omega)]
      exact ⟨rfl, by omega⟩
  · rcases hi with y | ⟨j, hj, _⟩
    · exact hall i y
    · exact absurd hj (Nat.not_lt_zero _)
end Go.Proofs.YtejfmajbggmghaaGreat
namespace Go.Proofs.YtejfmajbggmghaaGreat
open Go.RowKit Go.WideShapes

set_option maxRecDepth 100000 in
set_option maxHeartbeats 4000000 in
theorem splays_walk (most : Int) (a0 : Option Addr) (n c0 : Nat) (q : Nat → (Nat → Int) × Bool) (w : World) (hS : S9 w a0 n c0 q) :
    Calls Tryz.prog 3 #[.int .i64 most, .slice a0 n c0] w fun e w' => e = .returned (.bool true) ∧ Below w.heap.size w w' := by
  have hcap := hS.1
  by_cases hg : n ≤ 300 ∧ 0 ≤ most ∧ most ≤ 1000
  case neg =>
    have CA := awake9_any w
    clear hS
    go_enter Tryz.func3, Tryz.ntmps3
    by_cases h1 : 300 < (n : Int)
    case pos =>
      go_wp2_with fail
      refine CA.mono ?_
      rintro e w2 ⟨rfl, hb2⟩
      have HB2 := Lib.hid hb2
      clear CA hb2
      go_wp2_with fail
      go_ret
      exact ⟨rfl, HB2.out⟩
    by_cases h2 : most < 0
    case pos =>
      go_wp2_with fail
      refine CA.mono ?_
      rintro e w2 ⟨rfl, hb2⟩
      have HB2 := Lib.hid hb2
      clear CA hb2
      go_wp2_with fail
      go_ret
      exact ⟨rfl, HB2.out⟩
    have h3 : 1000 < most := by omega
    go_wp2_with fail
    refine CA.mono ?_
    rintro e w2 ⟨rfl, hb2⟩
    have HB2 := Lib.hid hb2
    clear CA hb2
    go_wp2_with fail
    go_ret
    exact ⟨rfl, HB2.out⟩
  obtain ⟨hn, hm0, hm1⟩ := hg
  have t1 : ¬ 300 < (n : Int) := by omega
  have t2 : ¬ most < 0 := by omega
  have t3 : ¬ 1000 < most := by omega
  have C1 := pnew_any (w := w) mtOk_nil (M := noM) (a := 0) (b := 0) trivial (by omega) most hm0 (by omega)
  have HROW := Lib.hid hS
  clear hS
  go_enter Tryz.func3, Tryz.ntmps3
  go_wp2_with fail
  refine C1.mono ?_
  rintro e w1 ⟨d, g, gi, r, h, rfl, hd, hD, _, hX1⟩
  clear C1
  have C2 := rpnew_any (w := w1) (pr := none) (a := 0) (b := 0) (.inl rfl) (by omega) most hm0 (by omega)
  have HD := Lib.hid hD
  have HX1 := Lib.hid hX1
  have HDL := Lib.hid hd
  clear hD hX1 hd
  go_wp2_with fail
  refine C2.mono ?_
  rintro e w2 ⟨d2, g2, q2, rfl, hr, hR, _, hX2⟩
  clear C2
  obtain ⟨w3, hw3⟩ : ∃ y, w2.alloc (.cells #[.pointer (some ⟨d, 0, none⟩), .pointer (some ⟨d2, 0, none⟩), .slice none 0 0, .slice none 0 0] 35) = y := ⟨_, rfl⟩
  have hB3 : Below w2.heap.size w2 w3 := by rw [← hw3]; exact (Below.refl _ w2).alloc (Nat.le_refl _) _
  have hx3 : Blk w3 w2.heap.size 4 (x8F (ini9 d g gi r h d2 g2 q2)) := by
    rw [← hw3]
    refine (Blk.new w2 _ _).congr fun j hj => ?_
    have : j = 0 ∨ j = 1 ∨ j = 2 ∨ j = 3 := by simp at hj; omega
    rcases this with rfl | rfl | rfl | rfl <;> rfl
  have HJ0 : Hid (J9 w.heap.size w3 w2.heap.size (ini9 d g gi r h d2 g2 q2) most 0 ∧ Below w.heap.size w w3) := j9_new HDL.out HD.out HX1.out hr hR hX2 hB3 hx3
  have hnq := eqD d
  have HW3 := Lib.hid hw3
  clear hB3 hx3 hR hX2 hw3 HD HX1 HDL hr
  go_upto_region 8 with fail
  rw [HW3.out]
  generalize w2.heap.size = X at *
  clear HW3
  go_wp2_with fail
  clear hnq
  obtain ⟨S0, hS0⟩ : ∃ S0, Hid (J9 w.heap.size w3 X S0 most 0 ∧ Below w.heap.size w w3) := ⟨_, HJ0⟩
  clear HJ0
  go_loopw [10] (fun iv wr => ∃ k S, k ≤ n ∧ iv = .int .i64 (k : Int) ∧ J9 w.heap.size wr X S most k ∧ Below w.heap.size w wr) (fun iv _ => n - (intOf iv).toNat)
  case atStart => exact ⟨0, S0, Nat.zero_le _, rfl, hS0.out.1, hS0.out.2⟩
  case round =>
    clear hS0
    obtain ⟨k, S, hk, rfl, hJ, hB⟩ := hrel
    by_cases hlt : k < n
    · have u1 : (k : Int) < (n : Int) := by omega
      obtain ⟨_, bR, offR, hab, hG⟩ := HROW.out.below hB
      obtain ⟨rfl, hbl⟩ := hab (by omega)
      have hq := (hG k hlt).1
      have hF : ∀ j, j < 6 → j ≠ 4 → wr.cell? ⟨bR, offR + k * 6 + j, none⟩ = some (.int .i64 ((q k).1 j)) := fun j hj hj4 => by rw [Nat.add_assoc]; exact hq j hj hj4
      have r0 : wr.cell? ⟨bR, offR + k * 6, none⟩ = some (.int .i64 ((q k).1 0)) := hF 0 (by omega) (by omega)
      have r1 := hF 1 (by omega) (by omega)
      have r2 := hF 2 (by omega) (by omega)
      have r3 := hF 3 (by omega) (by omega)
      have r4 : wr.cell? ⟨bR, offR + k * 6 + 4, none⟩ = some (.bool (q k).2) := by rw [Nat.add_assoc]; exact (hG k hlt).2
      have r5 := hF 5 (by omega) (by omega)
      have CD := does9_any hJ (by omega) ((q k).1 0) ((q k).1 1) ((q k).1 2) ((q k).1 3) ((q k).1 5) (q k).2
      have HB := Lib.hid hB
      clear hG hab hJ hB hq hF
      generalize (q k).1 0 = x0 at *
      generalize (q k).1 1 = x1 at *
      generalize (q k).1 2 = x2 at *
      generalize (q k).1 3 = x3 at *
      generalize (q k).1 5 = x5 at *
      generalize (q k).2 = x4 at *
      go_wp2_with fail
      refine CD.mono ?_
      rintro e w4 ⟨rfl, S', hJ', hB'⟩
      have HJ' := Lib.hid hJ'
      have HB' := Lib.hid (HB.out.trans hB')
      clear CD hJ' hB' r0 r1 r2 r3 r4 r5
      go_wp2_with fail
      go_roundw
      case rel => exact ⟨k + 1, S', by omega, by go_num, HJ'.out, HB'.out⟩
      case measure => simp [intOf]; omega
    · obtain rfl : k = n := by omega
      have u1 : ¬ (k : Int) < (k : Int) := by omega
      have CA := awake9_any wr
      have HB := Lib.hid hB
      clear hJ hB
      go_wp2_with fail
      refine CA.mono ?_
      rintro e w5 ⟨rfl, hb5⟩
      have HB5 := Lib.hid (HB.out.trans (hb5.mono HB.out.size))
      clear CA hb5
      go_wp2_with fail
      go_ret
      exact ⟨rfl, HB5.out⟩
end Go.Proofs.YtejfmajbggmghaaGreat
