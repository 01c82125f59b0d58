/-
  A row of steps of seven ints and a bool that was handed in, laid open.
  The law's does, whatever is asked.
  The law's entries: two rows that hold the same.
-/
import Derived.Test.YtfhpkoakalihkaaGreatGa
import Derived.Deep.Slices
import Derived.ChangeSame
import Derived.ChangeArms
import Derived.Test.YtfhpkoakalihkaaGreatGq
import Derived.Test.YtfhpkoakalihkaaGreatPp8x1
import Derived.Test.YtfhpkoakalihkaaGreatPp8x2
import Derived.Test.YtfhpkoakalihkaaGreatPp8x3
import Derived.Test.YtfhpkoakalihkaaGreatPp8x4
import Derived.Test.YtfhpkoakalihkaaGreatGs
import Derived.Test.YtfhpkoakalihkaaGreatGr
import Derived.Test.YtfhpkoakalihkaaGreatLwMem
namespace Go.Proofs.YtfhpkoakalihkaaGreat
open Go.ChangeShapes Go.WideShapes Go.ChangeAt Go.RowKit Go.Joins

/-- A row of steps. -/
def S8 (W : World) (a : Option Addr) (n c : Nat) (q : Nat → (Nat → Int) × Bool) : Prop :=
  n ≤ c ∧ ∃ b off, (0 < n → a = some ⟨b, off, none⟩ ∧ b < W.heap.size) ∧ ∀ i, i < n → (∀ k, k < 7 → W.cell? ⟨b, off + (i * 8 + k), none⟩ = some (.int .i64 ((q i).1 k))) ∧ W.cell? ⟨b, off + (i * 8 + 7), none⟩ = some (.bool (q i).2)
theorem Tryz.cellsStep8 : Tryz.prog.cellsOf 63 = 8 := by kernel_rfl
theorem Tryz.cellsI8 : Tryz.prog.cellsOf 3 = 1 := by kernel_rfl
theorem Tryz.cellsB8 : Tryz.prog.cellsOf 4 = 1 := by kernel_rfl
theorem eight_add (b off q : Nat) : (⟨b, off, none⟩ : Addr).add q = ⟨b, off + q, none⟩ := by
  unfold Addr.add
  split <;> simp_all
set_option maxRecDepth 100000 in
theorem steps8_open {H : Type} {enc : TypeId × Value → H} {W : World} {r : Reach} {base : Nat} {v : Value} {d : DataW H} {p : List MemPlace} (hv : Value.okWide Tryz.prog W r base 22 v) (h : DataW.Trod enc Tryz.prog W 0 (fun _ => true) true 22 v d p) :
    ∃ a n c q, v = .slice a n c ∧ S8 W a n c q := by
  obtain ⟨a0, n0, c0, rfl⟩ := okWide_slice Tryz.underlying22 hv
  obtain ⟨fuel, hf⟩ := h
  rcases Deep.open_slice Tryz.underlying22 hf with ⟨hcs, _⟩ | ⟨a, len, cap, m, n, D, Pl, hcs, hb, hl, hm, hmm, _, hx⟩
  · simp [Value.cells] at hcs
    obtain ⟨rfl, rfl, rfl⟩ := hcs
    exact ⟨none, 0, 0, fun _ => (fun _ => 0, false), rfl, Nat.le_refl _, 0, 0, fun h => absurd h (by omega), fun i h => absurd h (by omega)⟩
  · simp [Value.cells] at hcs
    obtain ⟨rfl, rfl, rfl⟩ := hcs
    simp only [if_true] at hmm
    have each : ∀ i, i < m → ∃ q : (Nat → Int) × Bool, (∀ k, k < 7 → W.cell? (a.add (i * 8 + k)) = some (.int .i64 (q.1 k))) ∧ W.cell? (a.add (i * 8 + 7)) = some (.bool q.2) := by
      intro i hi
      obtain ⟨cs', h1, h2⟩ := hx i hi
      rw [Tryz.cellsStep8] at h1
      obtain ⟨_, hlen, hcell⟩ := World.cells?_some h1
      obtain ⟨xs, k, hk, hxy, _, hxl, hf⟩ := DataW.trod_struct Tryz.underlying63 h2
      match xs, hxl, cs', hlen with
      | [y0, y1, y2, y3, y4, y5, y6, y7], _, [v0, v1, v2, v3, v4, v5, v6, v7], _ =>
        have g0 := hf 0 _ rfl
        have g1 := hf 1 _ rfl
        have g2 := hf 2 _ rfl
        have g3 := hf 3 _ rfl
        have g4 := hf 4 _ rfl
        have g5 := hf 5 _ rfl
        have g6 := hf 6 _ rfl
        have g7 := hf 7 _ rfl
        simp [Tryz.cellsI8] at g0 g1 g2 g3 g4 g5 g6
        simp [Tryz.cellsB8] at g7
        obtain ⟨z0, e0, _⟩ := DataW.trod_int Tryz.underlying3 g0
        obtain ⟨z1, e1, _⟩ := DataW.trod_int Tryz.underlying3 g1
        obtain ⟨z2, e2, _⟩ := DataW.trod_int Tryz.underlying3 g2
        obtain ⟨z3, e3, _⟩ := DataW.trod_int Tryz.underlying3 g3
        obtain ⟨z4, e4, _⟩ := DataW.trod_int Tryz.underlying3 g4
        obtain ⟨z5, e5, _⟩ := DataW.trod_int Tryz.underlying3 g5
        obtain ⟨z6, e6, _⟩ := DataW.trod_int Tryz.underlying3 g6
        obtain ⟨z7, e7, _⟩ := DataW.trod_bool Tryz.underlying4 g7
        simp only [List.cons.injEq, and_true] at e0 e1 e2 e3 e4 e5 e6 e7
        subst e0 e1 e2 e3 e4 e5 e6 e7
        refine ⟨(fun k => match k with | 0 => z0 | 1 => z1 | 2 => z2 | 3 => z3 | 4 => z4 | 5 => z5 | _ => z6, z7), fun k hk => ?_, ?_⟩
        · have hc := hcell k (by omega)
          rw [Deep.add_add] at hc
          match k, hk with
          | 0, _ => simpa using hc
          | 1, _ => simpa using hc
          | 2, _ => simpa using hc
          | 3, _ => simpa using hc
          | 4, _ => simpa using hc
          | 5, _ => simpa using hc
          | 6, _ => simpa using hc
        · have hc := hcell 7 (by omega)
          rw [Deep.add_add] at hc
          simpa using hc
    obtain ⟨q, hq⟩ := Deep.choose_lt each
    obtain ⟨b, off, spot⟩ := a
    have hsp : 0 < n0 → spot = none := fun h0 => by
      have := (hq 0 (by omega)).1 0 (by omega)
      simpa [Addr.add] using World.cell?_spot this
    refine ⟨_, _, _, q, rfl, hl, b, off, fun h0 => ?_, fun i hi => ⟨fun k hk => ?_, ?_⟩⟩
    · obtain rfl := hsp h0
      have hc := (hq 0 (by omega)).2
      rw [eight_add] at hc
      exact ⟨rfl, lt_of_cell hc⟩
    · obtain rfl := hsp (by omega)
      have hc := (hq i (by omega)).1 k hk
      rw [eight_add] at hc
      exact hc
    · obtain rfl := hsp (by omega)
      have hc := (hq i (by omega)).2
      rw [eight_add] at hc
      exact hc
end Go.Proofs.YtfhpkoakalihkaaGreat
namespace Go.Proofs.YtfhpkoakalihkaaGreat
open Go.RowKit Go.WideShapes

theorem does8_any {w : World} {X : Nat} {S : St8} {pm pr : Option Addr} {M : Int → Int → World → Prop} {a b most : Int} {c : Nat} (hP : P8 w X S (.pointer pm) (.pointer pr) M a b most c) (hMo : MtOk (.pointer pm) M) (hMv : MvOk (.pointer pm) M) (hc : c ≤ 40000) (x0 x1 x2 x3 x4 x5 x6 : Int) (sb : Bool) :
    Calls Tryz.prog 12 #[.pointer (some ⟨X, 0, none⟩), .agg #[.int .i64 x0, .int .i64 x1, .int .i64 x2, .int .i64 x3, .int .i64 x4, .int .i64 x5, .int .i64 x6, .bool sb]] w fun e w' => e = .returned (.bool true) ∧ ∃ S' a' b', D8 w X S (.pointer pm) (.pointer pr) M most (c + 33) S' a' b' w' := by
  by_cases h : 1 ≤ x0 ∧ x0 ≤ 8
  · rcases (by omega : x0 = 1 ∨ x0 = 2 ∨ x0 = 3 ∨ x0 = 4 ∨ x0 = 5 ∨ x0 = 6 ∨ x0 = 7 ∨ x0 = 8) with rfl | rfl | rfl | rfl | rfl | rfl | rfl | rfl
    · exact does8_begin hP hMo x1 x2 x3 x4 x5 x6 sb
    · exact does8_step hP hMo hMv hc x1 x2 x3 x4 x5 x6 sb
    · exact does8_tell hP hMo hMv x1 x2 x3 x4 x5 x6 sb
    · exact does8_again hP hMo hMv hc x1 x2 x3 x4 x5 x6 sb
    · exact does8_clear hP hMo hMv hc x1 x2 x3 x4 x5 x6 sb
    · exact does8_first hP hMo hMv hc x1 x2 x3 x4 x5 x6 sb
    · exact does8_last hP hMo hMv hc x1 x2 x3 x4 x5 x6 sb
    · exact does8_copy hP hMo hMv hc x1 x2 x3 x4 x5 x6 sb
  · exact does8_none hP hMo x1 x2 x3 x4 x5 x6 sb x0 h
/-- What plays leaves. -/
structure Py8 (w : World) (X : Nat) (S : St8) (mv mr : Value) (M : Int → Int → World → Prop) (a b most : Int) (c : Nat) (w' : World) : Prop where
  p : P8 w' X S mv mr M a b most c
  fx : ∀ k, S.all X k → w.heap.size ≤ k
  ex : Ex (fun k => mB mv k ∨ mB mr k) w w'
theorem Py8.step {w w1 w2 : World} {X : Nat} {S S' : St8} {mv mr : Value} {M : Int → Int → World → Prop} {a b a' b' most : Int} {c c' : Nat} (h : Py8 w X S mv mr M a b most c w1) (d : D8 w1 X S mv mr M most c' S' a' b' w2) : Py8 w X S' mv mr M a' b' most c' w2 :=
  ⟨d.p, fun k hk => (d.fx k hk).elim (h.fx k) (fun x => Nat.le_trans h.ex.size x), h.ex.next d.ex (fun k hl hk => by
    rcases hk with y | y
    · have := h.fx k y; omega
    · exact y)⟩
theorem Py8.below {w w1 w2 : World} {X : Nat} {S : St8} {mv mr : Value} {M : Int → Int → World → Prop} {a b most : Int} {c : Nat} (h : Py8 w X S mv mr M a b most c w1) (hMo : MtOk mv M) (hb : Below w1.heap.size w1 w2) : Py8 w X S mv mr M a b most c w2 :=
  ⟨h.p.below hMo hb, h.fx, h.ex.next (ex_of (X := fun _ => False) hb) (fun _ _ x => x.elim)⟩
theorem S8.below {w w' : World} {a : Option Addr} {n c : Nat} {q : Nat → (Nat → Int) × Bool} {B : Nat} (h : S8 w a n c q) (hb : Below B w w') (hB : B = w.heap.size) : S8 w' a n c q := by
  subst hB
  obtain ⟨h1, b, off, h2, h3⟩ := h
  refine ⟨h1, b, off, fun h => ⟨(h2 h).1, Nat.lt_of_lt_of_le (h2 h).2 hb.size⟩, fun i hi => ⟨fun k hk => (hb.cell (p := ⟨b, off + (i * 8 + k), none⟩) (h2 (by omega)).2).trans ((h3 i hi).1 k hk), (hb.cell (p := ⟨b, off + (i * 8 + 7), none⟩) (h2 (by omega)).2).trans (h3 i hi).2⟩⟩
def ini8 (d g gi r h d2 g2 q2 : Nat) : St8 := ⟨1, fun _ => ⟨d, g, gi, r, h, .slice none 0 0, d2, g2, q2, .slice none 0 0, Tb.new, 0⟩, 0, fun _ => ⟨0, 0, .pointer none, 0, .pointer none, ⟨0, 0, 0, 0, 0, 0, Tu.zero, 0, false⟩, ⟨0, false, false, false, Tu.zero⟩⟩, .slice none 0 0, .slice none 0 0⟩
theorem py8_new {w w1 w2 w3 : World} {pm pr : Option Addr} {M : Int → Int → World → Prop} {most : Int} (hMo : MtOk (.pointer pm) M) (hlr : ∀ k, mB (.pointer pr) k → k < w.heap.size) (hlm : ∀ k, mB (.pointer pm) k → k < w.heap.size) (hpp : ∀ k, mB (.pointer pm) k → mB (.pointer pr) k → False) {d g gi r h d2 g2 q2 : Nat}
    (hd : ∀ k, cX d g gi r h (.slice none 0 0) k → w.heap.size ≤ k) (hD : Dc w1 d g gi r h (.slice none 0 0) Tb.new (.pointer pm) most 0) (hM : M 1 0 w1) (x1 : Ex (mB (.pointer pm)) w w1)
    (hr : ∀ k, rX d2 g2 q2 (.slice none 0 0) k → w1.heap.size ≤ k) (hR : Rdc w2 d2 g2 q2 (.slice none 0 0) Tb.new (.pointer pr) most 0) (hms : Ms w2 (.pointer pr) 1 0 0 0) (x2 : Ex (mB (.pointer pr)) w1 w2) (hb : Below w2.heap.size w2 w3) (hX : Blk w3 w2.heap.size 4 (x8F (ini8 d g gi r h d2 g2 q2))) :
    Py8 w w2.heap.size (ini8 d g gi r h d2 g2 q2) (.pointer pm) (.pointer pr) M 1 0 most 0 w3 := by
  have s1 := x1.size
  have s2 := x2.size
  have s3 := hb.size
  have lX := hX.lt (by omega)
  have hlD := hD.lt
  have hlR := hR.lt
  have nr : ∀ k, w.heap.size ≤ k → k < w1.heap.size → w2.heap[k]? = w1.heap[k]? := fun k h1 h2 => x2.block k h2 (fun e => by have := hlr k e; omega)
  have hD2 : Dc w2 d g gi r h (.slice none 0 0) Tb.new (.pointer pm) most 0 := hD.same fun k hk => nr k (hd k hk) (hlD k hk)
  have hM2 : M 1 0 w2 := hMo.same _ _ _ _ hM fun k hk => x2.block k (by have := hlm k hk; omega) (fun e => hpp k hk e)
  refine ⟨⟨hX, ⟨rfl, .inl ⟨rfl, rfl⟩⟩, ⟨rfl, .inl ⟨rfl, rfl⟩⟩, Nat.one_pos, Nat.zero_le _, fun i _ => ⟨hD2.below hb, hR.same fun k hk => hb.block k (hlR k hk), ⟨Nat.le_refl _, Nat.le_refl _, Nat.le_refl _, Nat.le_refl _⟩⟩, fun j hj => absurd hj (Nat.not_lt_zero _), hMo.below hM2 hb, hms.below hb, ⟨by omega, by omega, by omega, by omega⟩, ?_⟩, ?_, ?_⟩
  · refine ⟨fun k => if k = w2.heap.size then 0 else if w1.heap.size ≤ k then 6 else if w.heap.size ≤ k then 5 else @ite Nat (mB (.pointer pm) k) (Classical.propDecidable _) 1 2, ⟨if_pos rfl, lX⟩, fun k y => ?_, fun k y => ?_, fun k y => ?_, fun k y => ?_, fun i hi k y => ?_, fun i hi k y => ?_, fun j hj => absurd hj (Nat.not_lt_zero _), fun j hj => absurd hj (Nat.not_lt_zero _)⟩
    · have := hlm k y
      show (if k = w2.heap.size then 0 else _) = 1 ∧ _
      rw [if_neg (by omega), if_neg (by omega), if_neg (by omega)]
      exact ⟨if_pos y, by omega⟩
    · have := hlr k y
      show (if k = w2.heap.size then 0 else _) = 2 ∧ _
      rw [if_neg (by omega), if_neg (by omega), if_neg (by omega)]
      exact ⟨if_neg (fun z => hpp k z y), by omega⟩
    · cases y
    · cases y
    · have g1 := hd k y
      have g2 := hlD k y
      obtain rfl : i = 0 := by have : i < 1 := hi; omega
      show (if k = w2.heap.size then 0 else _) = 5 ∧ _
      rw [if_neg (by omega), if_neg (by omega), if_pos (by omega)]
      exact ⟨rfl, by omega⟩
    · have g1 := hr k y
      have g2 := hlR k y
      obtain rfl : i = 0 := by have : i < 1 := hi; omega
      show (if k = w2.heap.size then 0 else _) = 6 ∧ _
      rw [if_neg (by omega), if_pos (by omega)]
      exact ⟨rfl, by omega⟩
  · rintro k (rfl | y | y | ⟨i, _, y | y⟩ | ⟨j, hj, _⟩)
    · omega
    · cases y
    · cases y
    · exact hd k y
    · have := hr k y; omega
    · exact absurd hj (Nat.not_lt_zero _)
  · exact ((x1.mono (fun _ _ h => .inl h)).next x2 (fun _ _ h => .inr h)).next (ex_of (X := fun _ => False) hb) (fun _ _ x => x.elim)
end Go.Proofs.YtfhpkoakalihkaaGreat
namespace Go.Proofs.YtfhpkoakalihkaaGreat
open Go.RowKit Go.WideShapes

set_option maxRecDepth 100000 in
set_option maxHeartbeats 4000000 in
theorem entries8_any (a1 a2 : Option Addr) (n c1 c2 : Nat) (es : List En) (w : World) (h1 : SlE w a1 n c1 es) (h2 : SlE w a2 n c2 es) (hl : n ≤ 1000000) :
    Calls Tryz.prog 41 #[.slice a1 n c1, .slice a2 n c2] w fun e w' => e = .returned (.bool true) ∧ Below w.heap.size w w' := by
  obtain ⟨-, k1, b1, p1, s1⟩ := h1
  obtain ⟨-, k2, b2, p2, s2⟩ := h2
  have HP1 := Lib.hid p1
  have HP2 := Lib.hid p2
  have HS1 := Lib.hid s1
  have HS2 := Lib.hid s2
  have hl0 : ((n : Int) != (n : Int)) = false := by simp
  clear p1 p2 s1 s2
  go_enter Tryz.func41, Tryz.ntmps41
  go_wp2
  go_loopw [5] (fun iv wr => ∃ k : Nat, k ≤ n ∧ iv = .int .i64 (k : Int) ∧ Below w.heap.size w wr) (fun iv _ => n - (intOf iv).toNat)
  case atStart => exact ⟨0, Nat.zero_le _, rfl, Below.refl _ _⟩
  case round =>
    obtain ⟨k, hk, rfl, hB0⟩ := hrel
    by_cases hlt : k < n
    · obtain ⟨e1, q1⟩ := HP1.out (by omega)
      obtain ⟨e2, q2⟩ := HP2.out (by omega)
      have hly : (k : Int) < (n : Int) := by omega
      have key1 : ∀ o, wr.cell? ⟨b1, o, none⟩ = w.cell? ⟨b1, o, none⟩ := fun o => hB0.cell (p := ⟨b1, o, none⟩) q1
      have key2 : ∀ o, wr.cell? ⟨b2, o, none⟩ = w.cell? ⟨b2, o, none⟩ := fun o => hB0.cell (p := ⟨b2, o, none⟩) q2
      have x0 := (key1 _).trans (HS1.out.c0 k hlt)
      have x1 := (key1 _).trans (HS1.out.c1 k hlt)
      have x2 := (key1 _).trans (HS1.out.c2 k hlt)
      have x3 := (key1 _).trans (HS1.out.c3 k hlt)
      have x4 := (key1 _).trans (HS1.out.c4 k hlt)
      have y0 := (key2 _).trans (HS2.out.c0 k hlt)
      have y1 := (key2 _).trans (HS2.out.c1 k hlt)
      have y2 := (key2 _).trans (HS2.out.c2 k hlt)
      have y3 := (key2 _).trans (HS2.out.c3 k hlt)
      have y4 := (key2 _).trans (HS2.out.c4 k hlt)
      subst e1
      subst e2
      clear key1 key2
      generalize (nth es k).live = b0 at *
      generalize (nth es k).hash = z1 at *
      generalize (nth es k).key = z2 at *
      generalize (nth es k).value = z3 at *
      generalize (nth es k).birth = z4 at *
      go_wp2_with fail
      go_region_held3 (fun V => ((V.cell? ⟨b1, k * 5, none⟩ = some (.bool b0) ∧ V.cell? ⟨b1, k * 5 + 1, none⟩ = some (.int .i64 z1)) ∧ (V.cell? ⟨b1, k * 5 + 2, none⟩ = some (.int .i64 z2) ∧ V.cell? ⟨b1, k * 5 + 3, none⟩ = some (.int .i64 z3) ∧ V.cell? ⟨b1, k * 5 + 4, none⟩ = some (.int .i64 z4))) ∧ (V.cell? ⟨b2, k * 5, none⟩ = some (.bool b0) ∧ V.cell? ⟨b2, k * 5 + 1, none⟩ = some (.int .i64 z1)) ∧ (V.cell? ⟨b2, k * 5 + 2, none⟩ = some (.int .i64 z2) ∧ V.cell? ⟨b2, k * 5 + 3, none⟩ = some (.int .i64 z3) ∧ V.cell? ⟨b2, k * 5 + 4, none⟩ = some (.int .i64 z4)))
        (first | exact ⟨⟨⟨x0, x1⟩, x2, x3, x4⟩, ⟨y0, y1⟩, y2, y3, y4⟩ | fail) (fail)
      go_wp2_with fail
      go_roundw
      case rel => exact ⟨k + 1, by omega, by go_num, hB0.drew⟩
      case measure => simp [intOf]; omega
    · have hly : ¬ (k : Int) < (n : Int) := by omega
      go_wp2
      go_ret
      exact ⟨rfl, hB0⟩
/-- An entry's five cells, with a key alone. -/
def keyW (w : World) (ge n : Nat) (b : Int) : World := ((((w.setCell ⟨ge, n * 5, none⟩ (.bool false)).setCell ⟨ge, n * 5 + 1, none⟩ (.int .i64 0)).setCell ⟨ge, n * 5 + 2, none⟩ (.int .i64 b)).setCell ⟨ge, n * 5 + 3, none⟩ (.int .i64 0)).setCell ⟨ge, n * 5 + 4, none⟩ (.int .i64 0)
theorem keyW_but (w : World) (ge n : Nat) (b : Int) : But ge w (keyW w ge n b) := by
  unfold keyW
  exact (((((But.refl ge w).setCell _ _).setCell _ _).setCell _ _).setCell _ _).setCell _ _
theorem Es.keyed {w : World} {ge cap : Nat} {es : List En} (h : Es w (.slice (some ⟨ge, 0, Option.none⟩) es.length cap) es) (n : Nat) (hn : n < es.length) (b : Int) : Es (keyW w ge n b) (.slice (some ⟨ge, 0, Option.none⟩) es.length cap) (es.set n ⟨false, 0, b, 0, 0⟩) := by
  have e0 : Es (w.setCell ⟨ge, n * 5 + 0, Option.none⟩ (.bool false)) (.slice (some ⟨ge, 0, Option.none⟩) es.length cap) (es.set n ⟨false, (nth es n).hash, (nth es n).key, (nth es n).value, (nth es n).birth⟩) := Es.put rfl h n 0 hn (by decide) (.bool false) _ rfl rfl
  have sh : ∀ (es : List En) (e : En), n < es.length → nth (es.set n e) n = e := fun es e h => by rw [nth_set h, if_pos rfl]
  have e1 := Es.put (by simp) e0 n 1 (by simpa using hn) (by decide) (.int .i64 0) ⟨false, 0, (nth es n).key, (nth es n).value, (nth es n).birth⟩ (by rw [sh _ _ hn]; rfl) rfl
  rw [List.set_set] at e1
  have e2 := Es.put (by simp) e1 n 2 (by simpa using hn) (by decide) (.int .i64 b) ⟨false, 0, b, (nth es n).value, (nth es n).birth⟩ (by rw [sh _ _ hn]; rfl) rfl
  rw [List.set_set] at e2
  have e3 := Es.put (by simp) e2 n 3 (by simpa using hn) (by decide) (.int .i64 0) ⟨false, 0, b, 0, (nth es n).birth⟩ (by rw [sh _ _ hn]; rfl) rfl
  rw [List.set_set] at e3
  have e4 := Es.put (by simp) e3 n 4 (by simpa using hn) (by decide) (.int .i64 0) ⟨false, 0, b, 0, 0⟩ (by rw [sh _ _ hn]; rfl) rfl
  rw [List.set_set, Nat.add_zero] at e4
  exact e4
end Go.Proofs.YtfhpkoakalihkaaGreat
