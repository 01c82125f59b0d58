/-
  StrollMoves: the dictionary behind m moves; a step of the taking out; a putting in.
  StrollMoves: the row that the law wants; how the law stands in its second loop.
  StrollMoves: how the law stands between its moves and its Next; the asks of a taking out.
-/
import Derived.Test.YtbdpecpmdglalaaGreatStl
import Derived.Test.YtbdpecpmdglalaaGreatStp
import Derived.Test.YtbdpecpmdglalaaGreatPrAll2
import Derived.Test.YtbdpecpmdglalaaGreatStRow
import Derived.Test.YtbdpecpmdglalaaGreatPoFull0
namespace Go.Proofs.YtbdpecpmdglalaaGreat
open Go.RowKit Go.WideShapes

/-- The dictionary behind m moves. -/
structure Mv (K : Nat → Prop) (w wr : World) (d : Nat) (l : List Int) (N key m : Nat) (t : Tb) (g gi r h : Nat) (ev : Value) (v : Nat) : Prop where
  pd : Pd K w.heap.size w wr d g gi r h ev t 1000 v
  eq : liveL t.es = wsM l N key m
  births : t.births = N + m
  made : t.made ≤ N + m + 1
  turn : t.turn ≤ N + 2 * m
  ver : v ≤ N + 2 * m
  born : t.Born
theorem Mv.fit {K : Nat → Prop} {w wr : World} {d : Nat} {l : List Int} {N key m : Nat} {t : Tb} {g gi r h : Nat} {ev : Value} {v : Nat} (c : Mv K w wr d l N key m t g gi r h ev v) (hN : N ≤ 200) (hm : m ≤ 100) : Fit t v := ⟨by have := c.made; omega, by have := c.turn; omega, by rw [c.births]; omega, by have := c.ver; omega⟩
theorem wsM_len (l : List Int) {N key : Nat} (hk : key < N) (m : Nat) : (wsM l N key m).length = N := by
  cases m with
  | zero => exact W0_len l N
  | succ m =>
    show ((W0 l N).filter (noKey key) ++ [_]).length = N
    have hs := W0_split l hk
    have hA : ∀ x ∈ (W0 l N).take key, noKey key x = true := fun x hx => by
      obtain ⟨j, hj, hx⟩ := List.getElem_of_mem hx
      rw [← hx]
      have hj' : j < key := by rw [List.length_take] at hj; omega
      simp [W0, e0, noKey]
      omega
    have hC : ∀ x ∈ (W0 l N).drop (key + 1), noKey key x = true := fun x hx => by
      obtain ⟨j, hj, hx⟩ := List.getElem_of_mem hx
      rw [← hx]
      simp [W0, e0, noKey]
      omega
    have : (W0 l N).filter (noKey key) = (W0 l N).take key ++ (W0 l N).drop (key + 1) := by
      conv => lhs; rw [hs]
      rw [List.filter_append, List.filter_cons, List.filter_eq_self.2 hA, List.filter_eq_self.2 hC]
      simp [noKey, e0]
    rw [this]
    simp [W0_len]
    omega
theorem Mv.live {K : Nat → Prop} {w wr : World} {d : Nat} {l : List Int} {N key m : Nat} {t : Tb} {g gi r h : Nat} {ev : Value} {v : Nat} (c : Mv K w wr d l N key m t g gi r h ev v) (hk : key < N) : t.live = N := by rw [Tb.live_eq, c.eq, wsM_len l hk]
/-- The pair of the key, among the entries. -/
theorem mv_at {t : Tb} {l : List Int} {N key m : Nat} (he : liveL t.es = wsM l N key m) (hk : key < N) : ∃ n, Of t.es (l[key]?.getD 0) n ∧ (nth t.es n).key = (key : Int) := by
  obtain ⟨e, A, C, h1, h2, h3, h4, _⟩ := wsM_has l hk m
  have hm : e ∈ liveL t.es := by rw [he, h1]; simp
  obtain ⟨n, hn, hx⟩ := nth_index (mem_liveL hm)
  exact ⟨n, ⟨hn, by rw [hx]; exact h2, by rw [hx]; exact h3⟩, by rw [hx]; exact h4⟩
/-- Taken out. -/
theorem mv_kill {t : Tb} {l : List Int} {N key m : Nat} (he : liveL t.es = wsM l N key m) {n : Nat} (hn : n < t.es.length) (hl : (nth t.es n).live = true) (hkn : (nth t.es n).key = (key : Int)) (hk : key < N) : liveL (t.kill n).es = (W0 l N).filter (noKey key) := by
  obtain ⟨e, A, C, h1, h2, h3, h4, h5⟩ := wsM_has l hk m
  have hc := liveL_cut hn hl
  have hs := liveL_set hn (En.gone (nth t.es n).birth) rfl
  show liveL (t.es.set n (En.gone (nth t.es n).birth)) = _
  rw [hs, ← wsM_no l N key m, ← he]
  have hno : ∀ x ∈ liveL (t.es.take n) ++ liveL (t.es.drop (n + 1)), noKey key x = true := by
    have hcount : (liveL t.es).countP (fun x => !noKey key x) = 1 := by
      rw [he, h1, List.countP_append, List.countP_cons]
      have hA : A.countP (fun x => !noKey key x) = 0 := by
        rw [List.countP_eq_zero]
        intro x hx
        have := h5 x (List.mem_append_left _ hx)
        simp [noKey, this]
      have hC : C.countP (fun x => !noKey key x) = 0 := by
        rw [List.countP_eq_zero]
        intro x hx
        have := h5 x (List.mem_append_right _ hx)
        simp [noKey, this]
      rw [hA, hC]
      simp [noKey, h4]
    rw [hc, List.countP_append, List.countP_cons] at hcount
    have hn1 : (!noKey key (nth t.es n)) = true := by simp [noKey, hkn]
    rw [if_pos hn1] at hcount
    intro x hx
    rcases List.mem_append.1 hx with y | y
    · have : (liveL (t.es.take n)).countP (fun x => !noKey key x) = 0 := by omega
      have := List.countP_eq_zero.1 this x y
      simpa using this
    · have : (liveL (t.es.drop (n + 1))).countP (fun x => !noKey key x) = 0 := by omega
      have := List.countP_eq_zero.1 this x y
      simpa using this
  rw [hc, List.filter_append, List.filter_cons]
  have hn1 : noKey key (nth t.es n) = false := by simp [noKey, hkn]
  rw [if_neg (by rw [hn1]; decide), List.filter_eq_self.2 fun x hx => hno x (List.mem_append_left _ hx), List.filter_eq_self.2 fun x hx => hno x (List.mem_append_right _ hx)]
/-- The dictionary with the pair taken out. -/
structure Mk (K : Nat → Prop) (w wr : World) (d : Nat) (l : List Int) (N key m : Nat) (t : Tb) (g gi r h : Nat) (ev : Value) (v : Nat) : Prop where
  pd : Pd K w.heap.size w wr d g gi r h ev t 1000 v
  eq : liveL t.es = (W0 l N).filter (noKey key)
  births : t.births = N + m
  made : t.made ≤ N + m + 1
  turn : t.turn ≤ N + 2 * m + 1
  ver : v ≤ N + 2 * m + 1
  born : t.Born
def MkI (K : Nat → Prop) (w wr : World) (d : Nat) (l : List Int) (N key m : Nat) : Prop := ∃ t g gi r h ev v, Mk K w wr d l N key m t g gi r h ev v
def MvI (K : Nat → Prop) (w wr : World) (d : Nat) (l : List Int) (N key m : Nat) : Prop := ∃ t g gi r h ev v, Mv K w wr d l N key m t g gi r h ev v
/-- Put in again. -/
theorem Mk.put {K : Nat → Prop} {w wr w' : World} {d : Nat} {l : List Int} {N key m : Nat} {t : Tb} {g gi r h : Nat} {ev : Value} {v : Nat} (c : Mk K w wr d l N key m t g gi r h ev v) (q : PutR K w.heap.size w d t 1000 v (l[key]?.getD 0) (key : Int) 7 w') : MvI K w w' d l N key (m + 1) := by
  rcases q with ⟨n, hO, hky, _⟩ | ⟨_, g', gi', r', h', ev', p⟩
  · have hm : nth t.es n ∈ liveL t.es := by rw [liveL_cut hO.1 hO.2.1]; simp
    rw [c.eq] at hm
    have := (List.mem_filter.1 hm).2
    simp [noKey, hky] at this
  · have a := t.add_rest (l[key]?.getD 0) (key : Int) 7
    refine ⟨_, g', gi', r', h', ev', v + 1, ⟨p, ?_, by rw [a.1, c.births]; omega, by have := a.2.1; have := c.made; omega, by rw [a.2.2.2]; have := c.turn; omega, by have := c.ver; omega, c.born.add _ _ _⟩⟩
    rw [t.add_es, c.eq, c.births]
    rfl
/-- What a step of the taking out tells: it asks, or it has taken out. -/
theorem mv_step {K : Nat → Prop} {w wr w' : World} {d x : Nat} {l : List Int} {N key m : Nat} {t : Tb} {g gi r h : Nat} {ev : Value} {v : Nat} {told : Int} {u : Tu} (c : Mv K w wr d l N key m t g gi r h ev v) (hk : key < N) (hno : ∀ n : Nat, (n : Int) ≤ told → Of t.es (l[key]?.getD 0) n → (nth t.es n).key ≠ (key : Int))
    (q : LwQ K w.heap.size w d x t 1000 v 3 (l[key]?.getD 0) (key : Int) 0 told u w') :
    (∃ n : Nat, told < (n : Int) ∧ n < t.es.length ∧ (nth t.es n).live = true ∧ (∀ k : Nat, (k : Int) ≤ (n : Int) → Of t.es (l[key]?.getD 0) k → (nth t.es k).key ≠ (key : Int)) ∧ u = ⟨1, (nth t.es n).key, false, 0, 0⟩ ∧ ∃ g gi r h ev s j f, Aw K w.heap.size w w' d x t 1000 v (m1 3 (l[key]?.getD 0) (key : Int) 0 v u (n : Int)) n g gi r h ev s j f) ∨
    (u.kind = 2 ∧ u.found = true ∧ MkI K w w' d l N key m) := by
  rcases q with ⟨n, hO, htn, hmin, (⟨hky, hu, g', gi', r', h', ev', p⟩ | ⟨hky, hu, hA⟩)⟩ | ⟨hnone, _⟩
  · refine .inr ⟨by rw [hu], by rw [hu], _, g', gi', r', h', ev', v + 1, ⟨p, mv_kill c.eq hO.1 hO.2.1 hky hk, c.births, c.made, by show t.turn + 1 ≤ _; have := c.turn; omega, by have := c.ver; omega, c.born.kill n⟩⟩
  · refine .inl ⟨n, htn, hO.1, hO.2.1, fun k hk' hOk => ?_, hu, hA⟩
    by_cases hkt : (k : Int) ≤ told
    · exact hno k hkt hOk
    · have := hmin k hOk (by omega)
      rw [show k = n by omega]
      exact hky
  · obtain ⟨n, hO, hky⟩ := mv_at c.eq hk
    exact absurd hky (hno n (hnone n hO) hO)
end Go.Proofs.YtbdpecpmdglalaaGreat
namespace Go.Proofs.YtbdpecpmdglalaaGreat
open Go.RowKit Go.WideShapes

/-- A rest, and the number that it stands for. -/
theorem tm_cases (x : Int) {N : Nat} (hN : 0 < N) : ∃ a : Nat, a < N ∧ (Int.tmod x (N : Int) = (a : Int) ∨ (Int.tmod x (N : Int) < 0 ∧ Int.tmod x (N : Int) + (N : Int) = (a : Int))) := by
  have h1 : (Int.tmod x (N : Int)).natAbs < N := by
    rw [Int.natAbs_tmod, Int.natAbs_natCast]
    exact Nat.mod_lt _ hN
  rcases (by omega : 0 ≤ Int.tmod x (N : Int) ∨ Int.tmod x (N : Int) < 0) with h | h
  · exact ⟨(Int.tmod x (N : Int)).toNat, by omega, .inl (by omega)⟩
  · exact ⟨(Int.tmod x (N : Int) + (N : Int)).toNat, by omega, .inr ⟨h, by omega⟩⟩
theorem kx_lt {back : Bool} {N j : Nat} (h : j < N) : kx back N j < N := by unfold kx; split <;> omega
/-- A new row of one int. -/
theorem rowI_new (w : World) (x : Int) {B : Nat} (hB : B ≤ w.heap.size) : (w.alloc (.cells #[.int .i64 x] 3)).ownsRow B 3 1 (.slice (some ⟨w.heap.size, 0, none⟩) 1 1) 1 [.int .i64 x] :=
  ⟨rfl, .inr ⟨w.heap.size, 1, #[.int .i64 x], rfl, hB, World.alloc_heap_new w _, Nat.le_refl _, by unfold maxLen; omega, rfl, rfl⟩⟩
theorem run_append_nilI (w : World) (p : Addr) : (Builtin.append_ #[40, 40] 40 #[.slice (some p) 1 1, .slice none 0 0]).run Tryz.prog w = .ok (.slice (some p) 1 1) w := by
  obtain ⟨i0, hi, hz0, hz1, hz2⟩ := info_parts Tryz.infoN
  simp [Builtin.append_, run_underlying Tryz.underlying40, sizeOf, typeInfo, hi, Builtin.lenOf, Builtin.firstCells, storeCells]
theorem rowI_cells {B g n cap : Nat} {w : World} {l : List Int} (h : IntsR B w (.slice (some ⟨g, 0, none⟩) n cap) l) : ∀ j u, (l.map fun x : Int => Value.int .i64 x)[j]? = some u → w.cell? (Addr.add ⟨g, 0, none⟩ j) = some u := by
  intro j u hj
  have hjl : j < l.length := by
    have := (List.getElem?_eq_some_iff.1 hj).1
    simpa using this
  obtain ⟨a, c, g', hv, _, hp⟩ := h.open
  obtain ⟨ha, _, _, hb⟩ := hp (by omega)
  rw [ha] at hv
  injection hv with h1 h2 h3
  injection h1 with h1
  injection h1 with h1
  have := hb.c j hjl
  rw [WideShapes.add_plain, Nat.zero_add, h1, this]
  simp [hjl] at hj ⊢
  exact hj
/-- One int, and a row behind it. -/
theorem cons_own {B : Nat} {w1 wc w2 : World} {x : Int} {l : List Int} {v' : Value} (hB : Below B w1 wc) (hB0 : B ≤ w1.heap.size) (h : w2.ownsRow B 3 1 v' (1 + l.length) ([Value.int .i64 x] ++ l.map fun x : Int => Value.int .i64 x)) (hg : (wc.alloc (.cells #[.int .i64 x] 3)).grownBy w2 (Value.slice (some ⟨wc.heap.size, 0, none⟩) 1 1).ownBlock) : IntsR B w2 v' (x :: l) ∧ Below B w1 w2 := by
  refine ⟨by unfold IntsR; simpa [Nat.add_comm] using h, ?_⟩
  refine (hB.alloc (Nat.le_trans hB0 hB.size) _).grown hg (by simp; have := hB.size; omega) (fun k e => ?_)
  simp [Value.ownBlock] at e
  have := hB.size
  omega
theorem wl_pos {back : Bool} {N at' key : Nat} (h : at' ≤ N) : 0 < (wl back N at' key).length := by
  unfold wl
  cases back with
  | true =>
    simp only [if_true]
    by_cases h0 : at' = 0
    · rw [if_pos h0]; simp
    · rw [if_neg h0, wl0_split h]
      simp
      omega
  | false => simp
theorem wl_le {back : Bool} {N at' key : Nat} : (wl back N at' key).length ≤ N + 1 := by
  have hll : (wl0 back N at' key N).length ≤ N := by
    unfold wl0
    rw [List.length_map]
    exact Nat.le_trans (List.length_filter_le _ _) (by simp)
  unfold wl
  split
  · split <;> simp <;> omega
  · simp; omega
/-- What is still to be told ahead of any move. -/
theorem kkW0 {back : Bool} (l : List Int) {N i : Nat} (h : i < N) (hN : N ≤ 1000) : ∃ rest, kk1 back (tdAt back N i) (W0 l N) = (kx back N i : Int) :: rest := by
  have hf : (W0 l N).filter (noKey N) = W0 l N := List.filter_eq_self.2 fun x hx => by
    simp [W0] at hx
    obtain ⟨k, hk, rfl⟩ := hx
    exact decide_eq_true (by show (k : Int) ≠ (N : Int); omega)
  unfold kk1
  rw [← hf, sq1_W0, wr1_eq l (Nat.le_of_lt h) hN]
  obtain ⟨r, hr⟩ : ∃ r, N - i = r + 1 := ⟨N - i - 1, by omega⟩
  rw [hr, List.range_succ_eq_map, List.map_cons, List.filter_cons]
  rw [if_pos (by have := kx_lt (back := back) h; simp; omega)]
  exact ⟨_, by rw [List.map_cons, List.map_cons]; rfl⟩
theorem W0_birth {l : List Int} {N : Nat} {e : En} (h : e ∈ W0 l N) : e.birth = e.key := by
  simp [W0] at h
  obtain ⟨k, _, rfl⟩ := h
  rfl
theorem tdAt_succ (back : Bool) {N n : Nat} (h : n < N) : tdAt back N (n + 1) = (kx back N n : Int) := by
  unfold tdAt kx
  cases back with
  | true => simp only [if_true]; rw [if_neg (by omega)]; omega
  | false => simp only [Bool.false_eq_true, if_false]; omega
/-- A dictionary that was filled, ahead of any move. -/
theorem mv_zero {K : Nat → Prop} {w wr : World} {d : Nat} {l : List Int} {N key : Nat} {t : Tb} {g gi r h : Nat} {ev : Value} (p : Pd K w.heap.size w wr d g gi r h ev t 1000 N) (f : Fl l (fun i => 5 * (i : Int)) N t) : MvI K w wr d l N key 0 :=
  ⟨t, g, gi, r, h, ev, N, ⟨p, f.w0, f.births, f.made, by rw [f.turn]; omega, by omega, f.born⟩⟩
/-- How the law stands ahead of the i-th Next (the moves lie ahead of the A-th). -/
structure MoS (w wr : World) (d s b gv : Nat) (l : List Int) (N A key T : Nat) (back : Bool) (i : Nat) (told : Int) : Prop where
  mv : MvI (fun k => k = gv ∨ k = s ∨ k = b) w wr d l N key (if i ≤ A then 0 else T)
  sr : Sr wr s d back (N : Int) told b
  bk : Blk wr gv (wl back N A key).length (fun j => .int .i64 ((wl back N A key)[j]?.getD 0))
  ge : w.heap.size ≤ gv ∧ w.heap.size ≤ s ∧ w.heap.size ≤ b
  ne : gv ≠ s ∧ gv ≠ b
  lo : i ≤ A → told = tdAt back N i
  hi : A < i → kk1 back told (wsM l N key T) = (wl back N A key).drop i
  t1 : -1 ≤ told
  t2 : back = false → told < 9223372036854775807
end Go.Proofs.YtbdpecpmdglalaaGreat
namespace Go.Proofs.YtbdpecpmdglalaaGreat
open Go.RowKit Go.WideShapes

theorem MvI.withK {K K' : Nat → Prop} {w wr : World} {d : Nat} {l : List Int} {N key m : Nat} (x : MvI K w wr d l N key m) (hk : ∀ k, K' k → K k) : MvI K' w wr d l N key m := by
  obtain ⟨t, g, gi, r, h, ev, v, c⟩ := x
  exact ⟨t, g, gi, r, h, ev, v, ⟨c.pd.withK fun k y => c.pd.kp k (hk k y), c.eq, c.births, c.made, c.turn, c.ver, c.born⟩⟩
theorem MkI.ext {K : Nat → Prop} {w wr w' : World} {d : Nat} {l : List Int} {N key m : Nat} (x : MkI K w wr d l N key m) (hb : Below wr.heap.size wr w') (hl : wr.heap.size < w'.heap.size) : MkI (fun k => k = wr.heap.size ∨ K k) w w' d l N key m := by
  obtain ⟨t, g, gi, r, h, ev, v, c⟩ := x
  exact ⟨t, g, gi, r, h, ev, v, ⟨c.pd.ext hb hl, c.eq, c.births, c.made, c.turn, c.ver, c.born⟩⟩
theorem MkI.touch {K : Nat → Prop} {w wr w' : World} {d : Nat} {l : List Int} {N key m : Nat} (x : MkI K w wr d l N key m) (hx : Ex K wr w') (hK : ∀ k, K k → w.heap.size ≤ k) : MkI K w w' d l N key m := by
  obtain ⟨t, g, gi, r, h, ev, v, c⟩ := x
  exact ⟨t, g, gi, r, h, ev, v, ⟨c.pd.touch hx hK, c.eq, c.births, c.made, c.turn, c.ver, c.born⟩⟩
theorem Born.len {es : List En} {n : Nat} (h : Born es n) : es.length ≤ n := by
  have key : ∀ i, i < es.length → (i : Int) ≤ (nth es i).birth := by
    intro i
    induction i with
    | zero => intro hi; exact (Go.Proofs.YtbdpecpmdglalaaGreat.Born.at h hi).1
    | succ i ih =>
      intro hi
      have h1 := ih (by omega)
      have h2 := Go.Proofs.YtbdpecpmdglalaaGreat.Born.lt h (show i < i + 1 by omega) hi
      omega
  by_cases h0 : es.length = 0
  · omega
  · have h1 := key (es.length - 1) (by omega)
    have h2 := (Go.Proofs.YtbdpecpmdglalaaGreat.Born.at h (show es.length - 1 < es.length by omega)).2
    omega
theorem Mk.len {K : Nat → Prop} {w wr : World} {d : Nat} {l : List Int} {N key m : Nat} {t : Tb} {g gi r h : Nat} {ev : Value} {v : Nat} (c : Mk K w wr d l N key m t g gi r h ev v) : t.es.length ≤ N + m := by
  have h1 : t.es.length ≤ t.births := Go.Proofs.YtbdpecpmdglalaaGreat.Born.len c.born
  rw [c.births] at h1
  exact h1
theorem Mk.fit {K : Nat → Prop} {w wr : World} {d : Nat} {l : List Int} {N key m : Nat} {t : Tb} {g gi r h : Nat} {ev : Value} {v : Nat} (c : Mk K w wr d l N key m t g gi r h ev v) (hN : N ≤ 200) (hm : m ≤ 100) : Fit t v := ⟨by have := c.made; omega, by have := c.turn; omega, by rw [c.births]; omega, by have := c.ver; omega⟩
theorem Mk.room {K : Nat → Prop} {w wr : World} {d : Nat} {l : List Int} {N key m : Nat} {t : Tb} {g gi r h : Nat} {ev : Value} {v : Nat} (c : Mk K w wr d l N key m t g gi r h ev v) (hN : N ≤ 200) : (t.live : Int) < 1000 := by
  have h1 : t.live ≤ N := by
    rw [Tb.live_eq, c.eq]
    have := List.length_filter_le (noKey key) (W0 l N)
    rw [W0_len] at this
    exact this
  omega
/-- Behind the moves, if they come here, and ahead of the Next. -/
structure MoT (w wr : World) (d s b gv : Nat) (l : List Int) (N A key T : Nat) (back : Bool) (i : Nat) (told : Int) : Prop where
  mv : MvI (fun k => k = gv ∨ k = s ∨ k = b) w wr d l N key (if i < A then 0 else T)
  sr : Sr wr s d back (N : Int) told b
  bk : Blk wr gv (wl back N A key).length (fun j => .int .i64 ((wl back N A key)[j]?.getD 0))
theorem MoS.same {w wr : World} {d s b gv : Nat} {l : List Int} {N A key T : Nat} {back : Bool} {i : Nat} {told : Int} (S : MoS w wr d s b gv l N A key T back i told) (h : i ≠ A) : MoT w wr d s b gv l N A key T back i told := by
  refine ⟨?_, S.sr, S.bk⟩
  have e : (if i < A then 0 else T) = (if i ≤ A then 0 else T) := by
    by_cases h1 : i < A
    · rw [if_pos h1, if_pos (by omega)]
    · rw [if_neg h1, if_neg (by omega)]
  rw [e]
  exact S.mv
theorem mo_next {w wr0 wr : World} {d s b gv : Nat} {l : List Int} {N A key T : Nat} {back : Bool} {i : Nat} {told : Int} (S : MoS w wr0 d s b gv l N A key T back i told) (X : MoT w wr d s b gv l N A key T back i told) (hA : A < N) (hk : key < N) (hN : N ≤ 100) (hT1 : 1 ≤ T) (hT2 : T ≤ 60) (hi : i < (wl back N A key).length) :
    ∃ t g gi r h ev v n, Pd (fun k => k = gv ∨ k = s ∨ k = b) w.heap.size w wr d g gi r h ev t 1000 v ∧ t.Born ∧ t.live = N ∧ Nx1 back t.es told n ∧ (nth t.es n).key = (wl back N A key)[i]?.getD 0 ∧
      ∀ W', Pd (fun k => k = gv ∨ k = s ∨ k = b) w.heap.size w W' d g gi r h ev t 1000 v → Sr W' s d back (N : Int) (nth t.es n).birth b → Blk W' gv (wl back N A key).length (fun j => .int .i64 ((wl back N A key)[j]?.getD 0)) → MoS w W' d s b gv l N A key T back (i + 1) (nth t.es n).birth := by
  obtain ⟨t, g, gi, r, h, ev, v, c⟩ := X.mv
  obtain ⟨rest, hkk, hre⟩ : ∃ rest, kk1 back told (wsM l N key (if i < A then 0 else T)) = (wl back N A key)[i]?.getD 0 :: rest ∧ (A ≤ i → rest = (wl back N A key).drop (i + 1)) := by
    by_cases h1 : i < A
    · rw [if_pos h1]
      obtain ⟨rest, hr⟩ := kkW0 (back := back) l (show i < N by omega) (show N ≤ 1000 by omega)
      refine ⟨rest, ?_, fun h2 => by omega⟩
      rw [S.lo (by omega), wl_lo h1 (by omega)]
      exact hr
    · rw [if_neg h1]
      refine ⟨_, ?_, fun _ => rfl⟩
      have hd : kk1 back told (wsM l N key T) = (wl back N A key).drop i := by
        by_cases h2 : i = A
        · have := wl_drop (back := back) l (at' := A) (key := key) (m := T - 1) (Nat.le_of_lt hA) (show N ≤ 1000 by omega) (by omega)
          rw [show T - 1 + 1 = T by omega] at this
          rw [S.lo (by omega), h2]
          exact this.symm
        · exact S.hi (by omega)
      rw [hd, List.drop_eq_getElem_cons hi, List.getElem?_eq_getElem hi]
      rfl
  obtain ⟨n, hn, hnz, hkey, hrest⟩ := kk1_nx c.born c.eq hkk
  have hlive : (nth t.es n).live = true := by
    unfold Nz1 at hnz
    cases back with
    | true => exact (show Nb t.es told n from hnz).2.1
    | false => exact (show Nf t.es told n from hnz).2.1
  have hba := Go.Proofs.YtbdpecpmdglalaaGreat.Born.at c.born hn
  have hbn : t.births ≤ N + T := by
    rw [c.births]
    split <;> omega
  refine ⟨t, g, gi, r, h, ev, v, n, c.pd, c.born, c.live hk, hnz, hkey, fun W' p q bk => ?_⟩
  have em : (if i + 1 ≤ A then 0 else T) = (if i < A then 0 else T) := by
    by_cases h1 : i < A
    · rw [if_pos h1, if_pos (by omega)]
    · rw [if_neg h1, if_neg (by omega)]
  refine ⟨?_, q, bk, S.ge, S.ne, fun h1 => ?_, fun h1 => ?_, by omega, fun _ => by omega⟩
  · rw [em]
    exact ⟨t, g, gi, r, h, ev, v, ⟨p, c.eq, c.births, c.made, c.turn, c.ver, c.born⟩⟩
  · have hm : nth t.es n ∈ liveL t.es := by rw [liveL_cut hn hlive]; simp
    have he := c.eq
    rw [if_pos (show i < A by omega)] at he
    rw [he] at hm
    rw [W0_birth (show nth t.es n ∈ W0 l N from hm), hkey, wl_lo (show i < A by omega) (by omega), tdAt_succ back (show i < N by omega)]
  · rw [if_neg (by omega)] at hrest
    rw [hrest]
    exact hre (by omega)
theorem mo_end {w wr : World} {d s b gv : Nat} {l : List Int} {N A key T : Nat} {back : Bool} {i : Nat} {told : Int} (S : MoS w wr d s b gv l N A key T back i told) (hk : key < N) (hA : A < i) (hi : i = (wl back N A key).length) :
    ∃ t g gi r h ev v, Pd (fun k => k = gv ∨ k = s ∨ k = b) w.heap.size w wr d g gi r h ev t 1000 v ∧ t.Born ∧ t.live = N ∧ Nx0 back t.es told := by
  have hm := S.mv
  rw [if_neg (by omega)] at hm
  obtain ⟨t, g, gi, r, h, ev, v, c⟩ := hm
  have hkk := S.hi hA
  rw [hi, List.drop_length] at hkk
  exact ⟨t, g, gi, r, h, ev, v, c.pd, c.born, c.live hk, kk1_end c.eq hkk⟩
/-- How the taking out stands ahead of the n-th Tell: the machine waits, or it has taken out. -/
def MoL (K : Nat → Prop) (w wr : World) (d x A s b gv : Nat) (l : List Int) (N key m : Nat) (t : Tb) (v : Nat) (back : Bool) (told : Int) (W : List Int) (n : Nat) : Prop :=
  ∃ u, Blk wr A 5 (tuB u) ∧ Sr wr s d back (N : Int) told b ∧ Blk wr gv W.length (fun j => .int .i64 (W[j]?.getD 0)) ∧
    ((∃ q : Nat, n ≤ cntL t.es q ∧ q < t.es.length ∧ (nth t.es q).live = true ∧ (∀ k : Nat, (k : Int) ≤ (q : Int) → Of t.es (l[key]?.getD 0) k → (nth t.es k).key ≠ (key : Int)) ∧ u = ⟨1, (nth t.es q).key, false, 0, 0⟩ ∧ ∃ g gi r h ev s' j f, Aw K w.heap.size w wr d x t 1000 v (m1 3 (l[key]?.getD 0) (key : Int) 0 v u (q : Int)) q g gi r h ev s' j f) ∨
      (u.kind = 2 ∧ u.found = true ∧ MkI K w wr d l N key m))
/-- How the moves stand ahead of the k-th. -/
def MoK (w wr : World) (d s b gv : Nat) (l : List Int) (N key : Nat) (back : Bool) (told : Int) (W : List Int) (k : Nat) : Prop :=
  MvI (fun k => k = gv ∨ k = s ∨ k = b) w wr d l N key k ∧ Sr wr s d back (N : Int) told b ∧ Blk wr gv W.length (fun j => .int .i64 (W[j]?.getD 0))
theorem tuBM_new (w : World) (u : Tu) : Blk (w.alloc (.cells #[.int .i64 u.kind, .int .i64 u.key, .bool u.found, .int .i64 u.value, .int .i64 u.entry] 48)) w.heap.size 5 (tuB u) := by
  refine (Blk.new w _ _).congr fun j hj => ?_
  have : j = 0 ∨ j = 1 ∨ j = 2 ∨ j = 3 ∨ j = 4 := by simp at hj; omega
  rcases this with rfl | rfl | rfl | rfl | rfl <;> rfl
theorem tuBM_put {w : World} {A : Nat} {F : Nat → Value} (h : Blk w A 5 F) (u : Tu) : Blk (putU w A u) A 5 (tuB u) := put5_blk h _ _ _ _ _
theorem putUM_ex {X : Nat → Prop} (w : World) (A : Nat) (u : Tu) (h : X A) : Ex X w (putU w A u) := by
  have hb := putU_below (B := 0) (w := w) A (Nat.zero_le _) u
  exact ⟨hb.os, hb.tape, hb.output, hb.size, fun k _ hk => putU_other w A u k (fun e => hk (e ▸ h))⟩
theorem lwqM_pd {K : Nat → Prop} {B : Nat} {w0 : World} {d x : Nat} {t : Tb} {most : Int} {v : Nat} {goal : Nat} {uh key value told : Int} {u : Tu} {w' : World} (q : LwQ K B w0 d x t most v goal uh key value told u w') : B ≤ w'.heap.size := by
  rcases q with ⟨n, _, _, _, (⟨_, _, g, gi, r, h, ev, p⟩ | ⟨_, _, g, gi, r, h, ev, s, j, f, p⟩)⟩ | ⟨_, hM⟩
  · exact p.size
  · exact p.pd.size
  · obtain ⟨_, _, _, _, _, _, _, _, p⟩ := hM.any
    exact p.size
/-- A step of the taking out, whatever else is kept. -/
theorem mv_stepK {K K0 : Nat → Prop} {w wr w' : World} {d x : Nat} {l : List Int} {N key m : Nat} {t : Tb} {g gi r h : Nat} {ev : Value} {v : Nat} {told : Int} {u : Tu} (c : Mv K0 w wr d l N key m t g gi r h ev v) (hk : key < N) (hno : ∀ n : Nat, (n : Int) ≤ told → Of t.es (l[key]?.getD 0) n → (nth t.es n).key ≠ (key : Int))
    (q : LwQ K w.heap.size w d x t 1000 v 3 (l[key]?.getD 0) (key : Int) 0 told u w') :
    (∃ n : Nat, told < (n : Int) ∧ n < t.es.length ∧ (nth t.es n).live = true ∧ (∀ k : Nat, (k : Int) ≤ (n : Int) → Of t.es (l[key]?.getD 0) k → (nth t.es k).key ≠ (key : Int)) ∧ u = ⟨1, (nth t.es n).key, false, 0, 0⟩ ∧ ∃ g gi r h ev s j f, Aw K w.heap.size w w' d x t 1000 v (m1 3 (l[key]?.getD 0) (key : Int) 0 v u (n : Int)) n g gi r h ev s j f) ∨
    (u.kind = 2 ∧ u.found = true ∧ MkI K w w' d l N key m) := by
  rcases q with ⟨n, hO, htn, hmin, (⟨hky, hu, g', gi', r', h', ev', p⟩ | ⟨hky, hu, hA⟩)⟩ | ⟨hnone, _⟩
  · refine .inr ⟨by rw [hu], by rw [hu], _, g', gi', r', h', ev', v + 1, ⟨p, mv_kill c.eq hO.1 hO.2.1 hky hk, c.births, c.made, by show t.turn + 1 ≤ _; have := c.turn; omega, by have := c.ver; omega, c.born.kill n⟩⟩
  · refine .inl ⟨n, htn, hO.1, hO.2.1, fun k hk' hOk => ?_, hu, hA⟩
    by_cases hkt : (k : Int) ≤ told
    · exact hno k hkt hOk
    · have := hmin k hOk (by omega)
      rw [show k = n by omega]
      exact hky
  · obtain ⟨n, hO, hky⟩ := mv_at c.eq hk
    exact absurd hky (hno n (hnone n hO) hO)
theorem cnt_next {es : List En} {q n : Nat} (hq : (nth es q).live = true) (h : (q : Int) < (n : Int)) : cntL es q + 1 ≤ cntL es n := by
  have h1 := cntL_le es (i := q + 1) (j := n) (by omega)
  have h2 : cntL es (q + 1) = cntL es q + if (nth es q).live = true then 1 else 0 := rfl
  rw [if_pos hq] at h2
  omega
theorem cnt_lt {es : List En} {q : Nat} (hq : (nth es q).live = true) (h : q < es.length) : cntL es q < (liveL es).length := by
  have h1 := cnt_next hq (show (q : Int) < (es.length : Int) by omega)
  rw [cntL_all] at h1
  omega
end Go.Proofs.YtbdpecpmdglalaaGreat
