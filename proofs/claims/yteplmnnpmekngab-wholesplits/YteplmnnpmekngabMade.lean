/-
  What slices.Clone, formed and checked do.
-/
import Derived.Laws.AppendOwnNone
import Derived.Lib.SliceRun
import Derived.WideShapes
import Derived.Test.YteplmnnpmekngabCompare
namespace Go.Proofs.Yteplmnnpmekngab
open Go.RowKit Go.WideShapes

theorem Try.infoWord : (Try.prog.info? 52).map (fun i => (i.zero, i.size, i.bytes)) = some (some (.int .u32 0), 1, 4) := by kernel_rfl
theorem words_one (xs : List Nat) (k : IntKind) : ∀ u ∈ (xs.map fun x : Nat => Value.int k (x : Int)), u.oneCell' = true := by
  intro u hu
  simp only [List.mem_map] at hu
  obtain ⟨x, _, rfl⟩ := hu
  rfl
theorem seg_cells {k : IntKind} {w : World} {b off : Nat} {xs : List Nat} (h : Seg k w b off xs) : ∀ j u, (xs.map fun x : Nat => Value.int k (x : Int))[j]? = some u → w.cell? (Addr.add ⟨b, off, none⟩ j) = some u := by
  intro j u hu
  rw [List.getElem?_map] at hu
  cases hx : xs[j]? with
  | none => rw [hx] at hu; simp at hu
  | some x =>
    rw [hx] at hu
    simp at hu
    have hj : j < xs.length := (List.getElem?_eq_some_iff.1 hx).1
    rw [add_plain, h j hj, hx, ← hu]
    rfl
theorem Ow.form {k : IntKind} {B : Nat} {w : World} {v : Value} {xs : List Nat} (h : Ow k B w v xs) : ∃ a cap, v = .slice a xs.length cap := by
  obtain ⟨a, cap, e, _⟩ := h
  exact ⟨a, cap, e⟩
theorem ownsRow_new (w : World) (B e : Nat) (hB : B ≤ w.heap.size) : (w.alloc (.cells #[] e)).ownsRow B e 1 (.slice (some ⟨w.heap.size, 0, none⟩) 0 0) 0 [] :=
  ⟨rfl, Or.inr ⟨w.heap.size, 0, #[], rfl, hB, World.alloc_heap_new w _, Nat.le_refl _, Nat.zero_le _, rfl, rfl⟩⟩

theorem clone_nil (cap : Nat) (w : World) :
    Calls Try.prog 29 #[.slice none 0 cap] w fun e w' => e = .returned (.slice none 0 0) ∧ w' = w := by
  have he := fun a n c w => Lib.run_eql_slice_nil (P := Try.prog) w 22 52 a n c 0 0 Try.underlying22
  go_enter Try.func29, Try.ntmps29
  go_wp2
  go_ret
  exact ⟨rfl, rfl⟩

set_option maxHeartbeats 400000 in
theorem clone_some (ad : Addr) (cap : Nat) (xs : List Nat) (w : World) (hb : xs.length ≤ 1000000) (hc : ∀ j u, (xs.map fun x : Nat => Value.int .u32 (x : Int))[j]? = some u → w.cell? (ad.add j) = some u) :
    Calls Try.prog 29 #[.slice (some ad) xs.length cap] w fun e w' => ∃ v, e = .returned v ∧ Ow .u32 w.heap.size w' v xs ∧ Below w.heap.size w w' := by
  obtain ⟨i0, hi, hz0, hz1, hz2⟩ := info_parts Try.infoWord
  have he := fun a n c w => Lib.run_eql_slice_nil (P := Try.prog) w 22 52 a n c 0 0 Try.underlying22
  have hrow := ownsRow_new w w.heap.size 52 (Nat.le_refl _)
  go_enter Try.func29, Try.ntmps29
  have hc' : ∀ j u, (xs.map fun x : Nat => Value.int .u32 (x : Int))[j]? = some u → (w.alloc (.cells #[] 52)).cell? (ad.add j) = some u := fun j u hu => by
    rw [World.cell?_alloc_some _ _ _ (by rw [hc j u hu]; rfl)]; exact hc j u hu
  go_wp2_with (at_builtin; refine wpList_append_own _ rfl _ _ 22 rfl w.heap.size 52 i0 (.int .u32 0) 1 4 Try.underlying22 hi hz0 hz1 hz2 rfl (by decide) _ _ _ rfl hrow ad xs.length cap (xs.map fun x : Nat => Value.int .u32 (x : Int)) rfl (by simp) hc' (words_one _ _) (by unfold maxLen; omega) (by omega) (by simp) ?_; intro v' w1 hown hgrow _)
  go_ret
  refine ⟨_, rfl, ow_of_row (by simpa using hown), ?_⟩
  exact ((Below.refl w.heap.size w).alloc (Nat.le_refl _) _).grown hgrow (by simp) (fun k e => by cases e; exact Nat.le_refl _)

/-- slices.Clone: new memory that holds the same. -/
theorem clone_any (a : Option Addr) (n cap : Nat) (xs : List Nat) (w : World) (h : Sl .u32 w (.slice a n cap) xs) (hb : xs.length ≤ 1000000) :
    Calls Try.prog 29 #[.slice a n cap] w fun e w' => ∃ a' c', e = .returned (.slice a' xs.length c') ∧ Ow .u32 w.heap.size w' (.slice a' xs.length c') xs ∧ Below w.heap.size w w' := by
  have fin : ∀ e w', (∃ v, e = Ending.returned v ∧ Ow .u32 w.heap.size w' v xs ∧ Below w.heap.size w w') → ∃ a' c', e = .returned (.slice a' xs.length c') ∧ Ow .u32 w.heap.size w' (.slice a' xs.length c') xs ∧ Below w.heap.size w w' := by
    rintro e w' ⟨v, rfl, h1, h2⟩
    obtain ⟨a', c', rfl⟩ := h1.form
    exact ⟨a', c', rfl, h1, h2⟩
  rcases h.cases with ⟨rfl, a', cap', e⟩ | ⟨_, b, off, cap', e, hc, hs, _⟩
  · injection e with e1 e2 e3
    subst e1; subst e2; subst e3
    cases a with
    | none => exact (clone_nil cap w).mono (by rintro e w' ⟨rfl, rfl⟩; exact ⟨none, 0, rfl, Ow_nil _ _ _ _ _, Below.refl _ _⟩)
    | some ad => exact (clone_some ad cap [] w hb (fun j u hu => by simp at hu)).mono fin
  · injection e with e1 e2 e3
    subst e1; subst e2; subst e3
    exact (clone_some ⟨b, off, none⟩ cap xs w hb (seg_cells hs)).mono fin

/-- A store into a cell that holds no number leaves rows of numbers alone. -/
theorem Seg.setOther {k : IntKind} {w : World} {b off : Nat} {xs : List Nat} (h : Seg k w b off xs) {p : Addr} {u : Value} (hp : w.cell? p = some u) (hu : ∀ q n, u ≠ .int q n) (v : Value) : Seg k (w.setCell p v) b off xs := by
  intro j hj
  rw [World.cell?_setCell_other _ _ _ _ (fun e => ?_), h j hj]
  have := h j hj
  rw [← e, hp] at this
  exact hu _ _ (Option.some.inj this)
theorem Sl.setOther {k : IntKind} {w : World} {sv : Value} {xs : List Nat} (h : Sl k w sv xs) {p : Addr} {u : Value} (hp : w.cell? p = some u) (hu : ∀ q n, u ≠ .int q n) (v : Value) : Sl k (w.setCell p v) sv xs := by
  obtain ⟨a, cap, e, hc, h⟩ := h
  refine ⟨a, cap, e, hc, fun hn => ?_⟩
  obtain ⟨b, off, e1, h1⟩ := h hn
  exact ⟨b, off, e1, h1.setOther hp hu v⟩
theorem Ow.setOther {k : IntKind} {B : Nat} {w : World} {sv : Value} {xs : List Nat} (h : Ow k B w sv xs) {p : Addr} {u : Value} (hp : w.cell? p = some u) (hu : ∀ q n, u ≠ .int q n) (v : Value) : Ow k B (w.setCell p v) sv xs := by
  obtain ⟨a, cap, e, hc, h⟩ := h
  refine ⟨a, cap, e, hc, fun hn => ?_⟩
  obtain ⟨b, off, e1, hB, h1, h2⟩ := h hn
  exact ⟨b, off, e1, hB, h1.setOther hp hu v, h2.set p v⟩
/-- A box of an Int at block N, written over. -/
def put2 (w : World) (N : Nat) (neg : Bool) (s : Value) : World := (w.setCell ⟨N, 0, none⟩ (.bool neg)).setCell ⟨N, 1, none⟩ s
structure Box2 (w : World) (N : Nat) (neg : Bool) (a : Option Addr) (n cap : Nat) : Prop where
  c0 : w.cell? ⟨N, 0, none⟩ = some (.bool neg)
  c1 : w.cell? ⟨N, 1, none⟩ = some (.slice a n cap)
  f0 : w.frozen? ⟨N, 0, none⟩ = false
  f1 : w.frozen? ⟨N, 1, none⟩ = false
theorem Box2.new (w : World) (neg : Bool) (a : Option Addr) (n cap : Nat) (t : TypeId) : Box2 (w.alloc (.cells #[.bool neg, .slice a n cap] t)) w.heap.size neg a n cap :=
  ⟨by rw [World.cell?_alloc_at _ _ _ _ rfl]; rfl, by rw [World.cell?_alloc_at _ _ _ _ rfl]; rfl, World.frozen?_alloc_at _ _ _ _ rfl, World.frozen?_alloc_at _ _ _ _ rfl⟩
theorem Box2.lt {w : World} {N : Nat} {neg : Bool} {a : Option Addr} {n cap : Nat} (h : Box2 w N neg a n cap) : N < w.heap.size := lt_of_cell h.c0
theorem Box2.below {w w' : World} {N : Nat} {neg : Bool} {a : Option Addr} {n cap : Nat} (h : Box2 w N neg a n cap) (hb : Below w.heap.size w w') : Box2 w' N neg a n cap :=
  ⟨(hb.cell (p := ⟨N, 0, none⟩) h.lt).trans h.c0, (hb.cell (p := ⟨N, 1, none⟩) h.lt).trans h.c1, (hb.frozen (p := ⟨N, 0, none⟩) h.lt).trans h.f0, (hb.frozen (p := ⟨N, 1, none⟩) h.lt).trans h.f1⟩
theorem Box2.putSlice {w : World} {N : Nat} {neg : Bool} {a : Option Addr} {n cap : Nat} (h : Box2 w N neg a n cap) (x : Bool) : (w.setCell ⟨N, 0, none⟩ (.bool x)).cell? ⟨N, 1, none⟩ = some (.slice a n cap) := by
  rw [World.cell?_setCell_other _ _ _ _ (by intro e; injection e with _ e; omega)]; exact h.c1
theorem Box2.put {w : World} {N : Nat} {neg : Bool} {a : Option Addr} {n cap : Nat} (h : Box2 w N neg a n cap) (x : Bool) (a' : Option Addr) (n' cap' : Nat) : Box2 (put2 w N x (.slice a' n' cap')) N x a' n' cap' := by
  refine ⟨?_, World.cell?_setCell_same' _ _ _ (by rw [h.putSlice]; rfl), ?_, ?_⟩
  · unfold put2
    rw [World.cell?_setCell_other _ _ _ _ (by intro e; injection e with _ e; omega)]
    exact World.cell?_setCell_same' _ _ _ (by rw [h.c0]; rfl)
  · unfold put2; rw [World.frozen?_setCell, World.frozen?_setCell]; exact h.f0
  · unfold put2; rw [World.frozen?_setCell, World.frozen?_setCell]; exact h.f1
theorem Sl.put {k : IntKind} {w : World} {sv : Value} {xs : List Nat} (h : Sl k w sv xs) {N : Nat} {neg : Bool} {a : Option Addr} {n cap : Nat} (hb : Box2 w N neg a n cap) (x : Bool) (s : Value) : Sl k (put2 w N x s) sv xs :=
  (h.setOther hb.c0 (fun _ _ e => by cases e) _).setOther (hb.putSlice x) (fun _ _ e => by cases e) _
theorem Ow.put {k : IntKind} {B : Nat} {w : World} {sv : Value} {xs : List Nat} (h : Ow k B w sv xs) {N : Nat} {neg : Bool} {a : Option Addr} {n cap : Nat} (hb : Box2 w N neg a n cap) (x : Bool) (s : Value) : Ow k B (put2 w N x s) sv xs :=
  (h.setOther hb.c0 (fun _ _ e => by cases e) _).setOther (hb.putSlice x) (fun _ _ e => by cases e) _
theorem below_put2 {B N : Nat} {a w : World} (h : Below B a w) (hN : B ≤ N) (x : Bool) (s : Value) : Below B a (put2 w N x s) :=
  (h.setCell (p := ⟨N, 0, none⟩) hN _).setCell (p := ⟨N, 1, none⟩) hN _

/-- An Int value in its form, of the number z, its words (from block B on) in the world w. -/
def IntIs (B : Nat) (w : World) (v : Value) (z : Int) : Prop :=
  ∃ neg a n cap xs, v = .agg #[.bool neg, .slice a n cap] ∧ Ow .u32 B w (.slice a n cap) xs ∧ okw xs ∧ Tr xs ∧ (xs = [] → neg = false ∧ a = none ∧ cap = 0) ∧ z = zv neg (val xs)

set_option maxHeartbeats 1000000 in
theorem formed_any (neg : Bool) (a : Option Addr) (n cap B : Nat) (xs : List Nat) (w : World) (h : Ow .u32 B w (.slice a n cap) xs) (ox : okw xs) (hb : xs.length ≤ 1000000) :
    Calls Try.prog 23 #[.bool neg, .slice a n cap] w fun e w' => ∃ v, e = .returned v ∧ IntIs B w' v (zv neg (val xs)) ∧ Below w.heap.size w w' := by
  have hbel : ∀ u v, Below w.heap.size w (w.alloc (.cells #[u, v] 24)) := fun u v => (Below.refl _ _).alloc (Nat.le_refl _) _
  have ht := trim_any a n cap xs _ (h.sl.below (hbel (.bool false) (.slice none 0 0))) hb
  have hT := h.trimmed
  have hl := trimL_length xs
  obtain ⟨m, hm⟩ : ∃ m, tl xs xs.length = m := ⟨_, rfl⟩
  rw [hm] at ht hT hl
  have hv := val_trimL xs
  cases m with
  | zero =>
    have h0 : val xs = 0 := tl_zero.1 hm
    clear hm
    go_enter Try.func23, Try.ntmps23
    go_wp2_with (go_at_call 20; refine ht.mono ?_; rintro e w' ⟨rfl, rfl⟩)
    refine bodyPost_ret (v := .agg #[.bool false, .slice none 0 0]) ?_ rfl ⟨_, rfl, ⟨false, none, 0, 0, [], rfl, Ow_nil _ _ _ _ _, okw_nil, Or.inl rfl, fun _ => ⟨rfl, rfl, rfl⟩, ?_⟩, hbel _ _⟩
    · simp [results, Try.f23, go_sem]
    · rw [h0]; simp [zv, val]
  | succ m =>
    clear hm
    go_enter Try.func23, Try.ntmps23
    go_wp2_with (go_at_call 20; refine ht.mono ?_; rintro e w' ⟨rfl, rfl⟩)
    refine bodyPost_ret (v := .agg #[.bool neg, .slice a (m + 1) cap]) ?_ rfl ⟨_, rfl, ⟨neg, a, m + 1, cap, trimL xs, rfl, hT.below (hbel _ _), okw_trimL ox, Tr_trimL xs, fun h0 => ?_, ?_⟩, hbel _ _⟩
    · simp [results, Try.f23, go_sem]
    · rw [h0] at hl; simp at hl
    · rw [hv]

/-- A result that is refused where it would be long. -/
def Res (B : Nat) (w : World) (v : Value) (k : Int) (z : Int) : Prop :=
  (z.natAbs < pw 256 ∧ k = 0 ∧ IntIs B w v z) ∨ (pw 256 ≤ z.natAbs ∧ k = 3 ∧ v = .agg #[.bool false, .slice none 0 0])
theorem IntIs.below {B : Nat} {w w' : World} {v : Value} {z : Int} (h : IntIs B w v z) (hb : Below w.heap.size w w') : IntIs B w' v z := by
  obtain ⟨neg, a, n, cap, xs, e, ho, h⟩ := h
  exact ⟨neg, a, n, cap, xs, e, ho.below hb, h⟩
theorem IntIs.mono {B B' : Nat} {w : World} {v : Value} {z : Int} (h : IntIs B w v z) (hB : B' ≤ B) : IntIs B' w v z := by
  obtain ⟨neg, a, n, cap, xs, e, ho, h⟩ := h
  exact ⟨neg, a, n, cap, xs, e, ho.mono hB, h⟩
theorem IntIs.put {B : Nat} {w : World} {v : Value} {z : Int} (h : IntIs B w v z) {N : Nat} {neg : Bool} {a : Option Addr} {n cap : Nat} (hb : Box2 w N neg a n cap) (x : Bool) (s : Value) : IntIs B (put2 w N x s) v z := by
  obtain ⟨neg, a, n, cap, xs, e, ho, h⟩ := h
  exact ⟨neg, a, n, cap, xs, e, ho.put hb x s, h⟩
theorem zv_abs (neg : Bool) (n : Nat) : (zv neg n).natAbs = n := by
  unfold zv
  split <;> omega

set_option maxHeartbeats 1000000 in
theorem checked_any (neg : Bool) (a : Option Addr) (n cap B : Nat) (xs : List Nat) (w : World) (h : Ow .u32 B w (.slice a n cap) xs) (ox : okw xs) (hb : xs.length ≤ 1000000) :
    Calls Try.prog 38 #[.bool neg, .slice a n cap] w fun e w' => ∃ v k, e = .returned (.tuple #[v, .int .i64 k]) ∧ Res B w' v k (zv neg (val xs)) ∧ Below w.heap.size w w' := by
  have hbel : ∀ u v, Below w.heap.size w (w.alloc (.cells #[u, v] 24)) := fun u v => (Below.refl _ _).alloc (Nat.le_refl _) _
  have ht := trim_any a n cap xs _ (h.sl.below (hbel (.bool false) (.slice none 0 0))) hb
  have hT := h.trimmed
  have hl := trimL_length xs
  have hle : tl xs xs.length ≤ 1000000 := Nat.le_trans (tl_le _ _) hb
  have hlong := len_le_iff (Tr_trimL xs) (okw_trimL ox) 256
  rw [val_trimL, hl] at hlong
  have habs := zv_abs neg (val xs)
  obtain ⟨m, hm⟩ : ∃ m, tl xs xs.length = m := ⟨_, rfl⟩
  rw [hm] at ht hT hl hlong hle
  by_cases hbig : 256 < m
  · have hd : decide (256 < m) = true := by simpa using hbig
    have hz : pw 256 ≤ (zv neg (val xs)).natAbs := by rw [habs]; omega
    clear hm hlong habs
    go_enter Try.func38, Try.ntmps38
    go_wp2_with (first | (go_at_call 20; refine ht.mono ?_; rintro e w' ⟨rfl, rfl⟩) | (go_at_call 21; refine (isLong_any _ _ _ _).mono ?_; rintro e w' ⟨rfl, rfl⟩))
    refine bodyPost_ret (v := .tuple #[.agg #[.bool false, .slice none 0 0], .int .i64 3]) ?_ rfl ⟨_, _, rfl, Or.inr ⟨hz, rfl, rfl⟩, hbel _ _⟩
    simp [results, Try.f38, go_sem]
  · have hd : decide (256 < m) = false := by simpa using hbig
    have hz : (zv neg (val xs)).natAbs < pw 256 := by rw [habs]; omega
    have hv := val_trimL xs
    clear hm hlong habs
    have hF := formed_any neg a m cap B (trimL xs) _ (hT.below (hbel (.bool false) (.slice none 0 0))) (okw_trimL ox) (by omega)
    rw [hv] at hF
    clear hv
    go_enter Try.func38, Try.ntmps38
    go_wp2_with (first | (go_at_call 20; refine ht.mono ?_; rintro e w' ⟨rfl, rfl⟩) | (go_at_call 21; refine (isLong_any _ _ _ _).mono ?_; rintro e w' ⟨rfl, rfl⟩) | (go_at_call 23; refine hF.mono ?_; rintro e w1 ⟨v, rfl, hI, hB1⟩; have hBx := (Box2.new w false none 0 0 24).below hB1; have hI' := hI; obtain ⟨neg1, a1, n1, cap1, xs1, rfl, hI⟩ := hI; clear hI; have hc0 := hBx.c0; have hc1 := hBx.c1; have hf0 := hBx.f0; have hf1 := hBx.f1))
    have hfin := hBx.put neg1 a1 n1 cap1
    have hg0 := hfin.c0
    have hg1 := hfin.c1
    unfold put2 at hg0 hg1
    refine bodyPost_ret (v := .tuple #[.agg #[.bool neg1, .slice a1 n1 cap1], .int .i64 0]) ?_ rfl ⟨_, _, rfl, Or.inl ⟨hz, rfl, hI'.put hBx neg1 (.slice a1 n1 cap1)⟩, below_put2 ((hbel _ _).trans (hB1.mono (by simp))) (Nat.le_refl _) _ _⟩
    simp [results, Try.f38, go_sem, hg0, hg1]
end Go.Proofs.Yteplmnnpmekngab
