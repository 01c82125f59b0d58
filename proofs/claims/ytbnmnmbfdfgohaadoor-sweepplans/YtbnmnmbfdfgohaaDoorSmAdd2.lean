/-
  Add of slots.
-/
import Derived.Test.YtbnmnmbfdfgohaaDoorSmAdd
namespace Go.Proofs.YtbnmnmbfdfgohaaDoor
open Go.RowKit Go.WideShapes

/-- Behind unused: a slot is there to be laid. -/
structure Um (w w' : World) (g : Nat) (rv fv : Value) (L : Nat) (s1 : List So) (rv' fv' : Value) (n : Nat) (f : Nat → Int) : Prop where
  c0 : w'.cell? ⟨g, 0, none⟩ = some rv'
  c1 : w'.cell? ⟨g, 1, none⟩ = some fv'
  z : ∀ j, w'.frozen? ⟨g, j, none⟩ = false
  row : Sr2 w' rv' s1
  hq : Hq w' fv' n f
  ho : ∀ v, Ho (s1.set L ⟨true, v⟩) n f
  nr : rv'.ownBlock ≠ some g
  nf : fv'.ownBlock ≠ some g
  ne : ∀ k, rv'.ownBlock = some k → fv'.ownBlock = some k → False
  sm : s1.length ≤ 100000
  lt : L < s1.length
  ex : Ex (SX g rv fv) w w'
  nw : ∀ k, SX g rv' fv' k → SX g rv fv k ∨ w.heap.size ≤ k
set_option maxRecDepth 100000 in
theorem unused_pop {w : World} {g n : Nat} {ss : List So} {rv fv : Value} {f : Nat → Int} (h : Sl w g ss rv fv (n + 1) f) : Calls Tryd.prog 34 #[.pointer (some ⟨g, 0, none⟩)] w fun e w' => e = .returned (.int .i64 (low ss : Int)) ∧ low ss < ss.length ∧ ∃ fv' f', Um w w' g rv fv (low ss) ss rv fv' n f' := by
  obtain ⟨e0, hlow⟩ := h.ho.first
  have CP := hpop_any h.fh h.ho.hp
  rw [e0] at CP
  obtain ⟨a2, cap2, rfl⟩ := ownsS_shape h.hq
  have c1 := h.c1
  have i1 : (0 : Int) < ((n + 1 : Nat) : Int) := by omega
  have hta := ta_int (low ss : Int)
  have HS := Lib.hid h
  clear h e0
  generalize hn1 : n + 1 = n1 at *
  generalize hL : low ss = L at *
  go_enter Tryd.func34, Tryd.ntmps34
  go_wp2_with fail
  refine CP.mono ?_
  rintro e w1 ⟨rfl, fv1, f1, h1, k1, hP1, hH1⟩
  clear CP
  go_wp2
  go_ret
  have h := HS.out
  subst hn1
  subst hL
  refine ⟨rfl, hlow, fv1, f1, k1.c0.trans h.c0, h1.c1, h1.z, h.row.same (fun q hq => k1.ex.block q (World.ownsRow.lt h.row q hq).2 (fun hx => ?_)), h1.hq, fun v => h.ho.pop v hP1 hH1, h.nr, h1.nf, fun q h2 h3 => ?_, h.sm, hlow, k1.ex.mono (fun q _ hq => ?_), fun q hq => ?_⟩
  · rcases hx with e | e
    · exact h.nr (by rw [hq, e])
    · exact h.ne q hq e
  · rcases k1.nw q h3 with e | e
    · exact h.ne q h2 e
    · have := (World.ownsRow.lt h.row q h2).2
      omega
  · rcases hq with e | e
    · exact Or.inl e
    · exact Or.inr (Or.inr e)
  · rcases hq with e | e | e
    · exact Or.inl (Or.inl e)
    · exact Or.inl (Or.inr (Or.inl e))
    · rcases k1.nw q e with e' | e'
      · exact Or.inl (Or.inr (Or.inr e'))
      · exact Or.inr e'
theorem newS_two (w : World) (t : TypeId) : ∀ j u, (enc2 ⟨false, Sh.nil⟩)[j]? = some u → (w.alloc (.cells #[.bool false, .slice none 0 0] t)).cell? (Addr.add ⟨w.heap.size, 0, none⟩ j) = some u := by
  intro j u hj
  rw [WideShapes.add_plain, World.cell?_alloc_at _ _ _ _ rfl]
  simpa [enc2, Sh.nil] using hj
theorem grow_mid {w w5 : World} {g : Nat} {ss : List So} {rv fv v' : Value} {f : Nat → Int} {o : Obj} (h : Sl w g ss rv fv 0 f) (hs : ss.length < 100000) (hown : w5.ownsRow 0 62 2 v' (ss.length + 1) (sol ss ++ enc2 ⟨false, Sh.nil⟩))
    (hg : (w.alloc o).grownBy w5 rv.ownBlock) (hat : v'.ownBlock = rv.ownBlock ∨ v'.ownBlock = some (w.alloc o).heap.size) :
    w5.heap[g]? = w.heap[g]? ∧ Um w (w5.setCell ⟨g, 0, none⟩ v') g rv fv ss.length (ss ++ [⟨false, Sh.nil⟩]) v' fv 0 f := by
  have hlg := h.lt
  have hsz : (w.alloc o).heap.size = w.heap.size + 1 := by simp
  have hb : w5.heap[g]? = w.heap[g]? := (hg.block g (by omega) (fun e => h.nr e.symm)).trans (Below.heap_alloc _ _ _ hlg)
  have hs5 : w.heap.size ≤ w5.heap.size := by have := hg.size; omega
  have hnr : v'.ownBlock ≠ some g := by
    rcases hat with e | e
    · rw [e]; exact h.nr
    · rw [e, hsz]; intro e; injection e with e; omega
  have hset : (ss ++ [(⟨false, Sh.nil⟩ : So)]).set ss.length = fun e => ss ++ [e] := by
    funext e
    rw [List.set_append_right _ _ (Nat.le_refl _)]
    simp
  have hr5 : Sr2 w5 v' (ss ++ [⟨false, Sh.nil⟩]) := by
    unfold Sr2
    rw [sol_app, List.length_append]
    exact hown
  refine ⟨hb, setCell_hit ((World.cell?_of_block (a := ⟨g, 0, none⟩) hb).trans h.c0), (setCell_ne (by omega)).trans ((World.cell?_of_block (a := ⟨g, 1, none⟩) hb).trans h.c1), fun j => by rw [World.frozen?_setCell]; exact (World.frozen?_of_block (a := ⟨g, j, none⟩) hb).trans (h.z j), hr5.same (fun k hk => setCell_blk (fun e => hnr (by rw [hk, e]))), h.hq.same (fun k hk => ?_), fun v => by rw [hset]; exact (h.ho.grow v).2, hnr, h.nf, fun k h1 h2 => ?_, by simp; omega, by simp, ?_, fun k hk => ?_⟩
  · refine (setCell_blk (fun e => h.nf (by rw [hk, e]))).trans ((hg.block k (by have := (World.ownsRow.lt h.hq k hk).2; omega) (fun e => h.ne k e.symm hk)).trans (Below.heap_alloc _ _ _ (World.ownsRow.lt h.hq k hk).2))
  · rcases hat with e | e
    · exact h.ne k (by rw [← e]; exact h1) h2
    · rw [e, hsz] at h1
      injection h1 with h1
      have := (World.ownsRow.lt h.hq k h2).2
      omega
  · refine Ex.setCell (a := w) (w := w5) (p := ⟨g, 0, none⟩) (X := SX g rv fv) ⟨hg.os, hg.tape, hg.output, hs5, fun j hj hx => ?_⟩ (fun _ => Or.inl rfl) _
    exact (hg.block j (by omega) (fun e => hx (Or.inr (Or.inl e.symm)))).trans (Below.heap_alloc _ _ _ hj)
  · rcases hk with e | e | e
    · exact Or.inl (Or.inl e)
    · rcases hat with e' | e'
      · exact Or.inl (Or.inr (Or.inl (by rw [← e']; exact e)))
      · rw [e', hsz] at e
        injection e with e
        exact Or.inr (by omega)
    · exact Or.inl (Or.inr (Or.inr e))
set_option maxRecDepth 100000 in
theorem unused_grow {w : World} {g : Nat} {ss : List So} {rv fv : Value} {f : Nat → Int} (h : Sl w g ss rv fv 0 f) (hs : ss.length < 100000) : Calls Tryd.prog 34 #[.pointer (some ⟨g, 0, none⟩)] w fun e w' => e = .returned (.int .i64 (ss.length : Int)) ∧ ∃ rv', Um w w' g rv fv ss.length (ss ++ [⟨false, Sh.nil⟩]) rv' fv 0 f := by
  obtain ⟨a2, cap2, rfl⟩ := ownsS_shape h.hq
  obtain ⟨a, cap, rfl⟩ := ownsS_shape h.row
  have c0 := h.c0
  have c1 := h.c1
  have z0 := h.z 0
  obtain ⟨i0, hi, hz0, hz1, hz2⟩ := info_parts Tryd.infoSo
  have hown : w.ownsRow 0 62 2 (.slice a ss.length cap) ss.length (sol ss) := h.row
  have e1 : IntKind.i64.wrap (((ss.length + 1 : Nat) : Int) - 1) = (ss.length : Int) := by rw [i64_small (by omega) (by omega)]; omega
  have HS := Lib.hid h
  clear h
  go_enter Tryd.func34, Tryd.ntmps34
  go_wp2_with (at_builtin; refine wpListS_append_own rfl _ _ 56 rfl 0 62 i0 (.agg #[.bool false, .slice none 0 0]) 2 32 Tryd.underlying56 hi hz0 hz1 hz2 rfl (by decide) _ _ _ rfl (World.ownsRow.alloc hown _) ⟨w.heap.size, 0, none⟩ 1 1 (enc2 ⟨false, Sh.nil⟩) rfl rfl (newS_two _ _) (fun u hu => by simp [enc2] at hu; rcases hu with rfl | rfl <;> rfl) (by unfold maxLen; omega) (by omega) (Nat.zero_le _) ?_)
  intro v' w5 hown2 hgrow hat
  obtain ⟨a5, cap5, hv⟩ := ownsS_shape hown2
  subst hv
  obtain ⟨hb, hU⟩ := grow_mid HS.out hs hown2 hgrow (by simpa using hat)
  have x0 := (World.cell?_of_block (a := ⟨g, 0, none⟩) hb).trans c0
  have x1 := (World.frozen?_of_block (a := ⟨g, 0, none⟩) hb).trans z0
  have y0 := hU.c0
  have HU := Lib.hid hU
  clear hown2 hgrow hat hb hU c0 c1 z0 hown
  generalize hn1 : ss.length + 1 = n1 at *
  go_wp2
  go_ret
  exact ⟨rfl, _, HU.out⟩
set_option maxRecDepth 100000 in
theorem add_um {w : World} {g : Nat} {rv fv : Value} {L : Nat} {s1 : List So} (C : Calls Tryd.prog 34 #[.pointer (some ⟨g, 0, none⟩)] w fun e w' => e = .returned (.int .i64 (L : Int)) ∧ ∃ rv' fv' n f, Um w w' g rv fv L s1 rv' fv' n f) (v : Sh) :
    Calls Tryd.prog 24 #[.pointer (some ⟨g, 0, none⟩), .slice v.a v.n v.c] w fun e w' => e = .returned (.int .i64 (L : Int)) ∧ ∃ rv' fv' n f, Sl w' g (s1.set L ⟨true, v⟩) rv' fv' n f ∧ Ex (SX g rv fv) w w' ∧ (∀ k, SX g rv' fv' k → SX g rv fv k ∨ w.heap.size ≤ k) := by
  go_enter Tryd.func24, Tryd.ntmps24
  go_wp2_with fail
  refine C.mono ?_
  rintro e w1 ⟨rfl, rv1, fv1, n1, f1, hU⟩
  clear C
  obtain ⟨r, cap, rfl, hrl⟩ := ownsS_some hU.row (by have := hU.lt; omega)
  have c0 := hU.c0
  have hl := hU.lt
  have r0 := hU.row.c0 L hl
  have r1 := hU.row.c1 L hl
  have r2 := ((hU.row.put0 L hl true).c1 L (by simpa using hl))
  have z0 := hU.row.frozen (L * 2)
  have z1 := hU.row.frozen (L * 2 + 1)
  have i1 : (L : Int) < (s1.length : Int) := by omega
  have i2 : (0 : Int) ≤ (L : Int) := by omega
  have HU := Lib.hid hU
  clear hU
  go_wp2
  go_ret
  have hU := HU.out
  have hgr : g ≠ r := fun e => hU.nr (by rw [e]; rfl)
  have hb : But r w1 ((w1.setCell ⟨r, L * 2, none⟩ (.bool true)).setCell ⟨r, L * 2 + 1, none⟩ (.slice v.a v.n v.c)) := ((But.refl r w1).setCell _ _).setCell _ _
  have hbg := hb.block g (lt_of_cell hU.c0) hgr
  have hlen := hU.row.len
  have hx : ∀ k, k = r → k < w.heap.size → SX g rv fv k := fun k e hk => by
    rcases hU.nw r (Or.inr (Or.inl rfl)) with h | h
    · rw [e]; exact h
    · omega
  refine ⟨rfl, _, fv1, n1, f1, ⟨(World.cell?_of_block (a := ⟨g, 0, none⟩) hbg).trans hU.c0, (World.cell?_of_block (a := ⟨g, 1, none⟩) hbg).trans hU.c1, fun j => (World.frozen?_of_block (a := ⟨g, j, none⟩) hbg).trans (hU.z j), hU.row.both L hl true v, hU.hq.same (fun k hk => hb.block k (World.ownsRow.lt hU.hq k hk).2 (fun e => hU.ne k (by rw [e]; rfl) hk)), hU.ho v, hU.nr, hU.nf, hU.ne, by simpa using hU.sm⟩, hU.ex.next hb.ex (fun k hk e => hx k e hk), hU.nw⟩
theorem add_sl {w : World} {g : Nat} {ss : List So} {X : Nat → Prop} (h : SlV w g ss X) (hs : ss.length < 100000) (v : Sh) : Calls Tryd.prog 24 #[.pointer (some ⟨g, 0, none⟩), .slice v.a v.n v.c] w fun e w' => e = .returned (.int .i64 (low ss : Int)) ∧ SlV w' g (addS ss v) (gX X w w') ∧ Ex X w w' := by
  obtain ⟨rv, fv, n, f, h, hx, hX⟩ := h
  have key : ∀ s1 : List So, (∀ v, s1.set (low ss) ⟨true, v⟩ = addS ss v) → Calls Tryd.prog 34 #[.pointer (some ⟨g, 0, none⟩)] w (fun e w' => e = .returned (.int .i64 (low ss : Int)) ∧ ∃ rv' fv' n f, Um w w' g rv fv (low ss) s1 rv' fv' n f) → Calls Tryd.prog 24 #[.pointer (some ⟨g, 0, none⟩), .slice v.a v.n v.c] w fun e w' => e = .returned (.int .i64 (low ss : Int)) ∧ SlV w' g (addS ss v) (gX X w w') ∧ Ex X w w' := by
    intro s1 hs1 C
    refine (add_um C v).mono ?_
    rintro e w1 ⟨rfl, rv1, fv1, n1, f1, h1, h2, h3⟩
    rw [hs1 v] at h1
    refine ⟨rfl, ⟨rv1, fv1, n1, f1, h1, fun k hk => ?_, fun k hk => ?_⟩, h2.mono (fun k _ hk => hx k hk)⟩
    · rcases h3 k hk with e | e
      · exact Or.inl (hx k e)
      · exact Or.inr ⟨e, h1.below k hk⟩
    · rcases hk with hk | hk
      · exact Nat.lt_of_lt_of_le (hX k hk) h2.size
      · exact hk.2
  match n, h with
  | 0, h =>
    obtain ⟨hl, _⟩ := h.ho.grow Sh.nil
    have C := unused_grow h hs
    rw [← hl] at C
    refine key (ss ++ [⟨false, Sh.nil⟩]) (fun v => ?_) (C.mono ?_)
    · unfold addS
      rw [if_neg (by omega), hl, List.set_append_right _ _ (Nat.le_refl _)]
      simp
    · rintro e w1 ⟨rfl, rv1, hU⟩
      exact ⟨rfl, rv1, fv, 0, f, hU⟩
  | n + 1, h =>
    have hlow := h.ho.first.2
    refine key ss (fun v => by unfold addS; rw [if_pos hlow]) ((unused_pop h).mono ?_)
    rintro e w1 ⟨rfl, _, fv1, f1, hU⟩
    exact ⟨rfl, rv, fv1, n, f1, hU⟩
theorem len_v {w : World} {g : Nat} {ss : List So} {X : Nat → Prop} (h : SlV w g ss X) : Calls Tryd.prog 18 #[.pointer (some ⟨g, 0, none⟩)] w fun e w' => e = .returned (.int .i64 (cntS ss : Int)) ∧ ∃ m, w' = w.drewN m := by
  obtain ⟨rv, fv, n, f, h, hx, hX⟩ := h
  exact len_sl h
theorem high_v {w : World} {g : Nat} {ss : List So} {X : Nat → Prop} (h : SlV w g ss X) : Calls Tryd.prog 45 #[.pointer (some ⟨g, 0, none⟩)] w fun e w' => e = .returned (.int .i64 (ss.length : Int)) ∧ w' = w := by
  obtain ⟨rv, fv, n, f, h, hx, hX⟩ := h
  exact high_sl h
theorem get_v {w : World} {g : Nat} {ss : List So} {X : Nat → Prop} (h : SlV w g ss X) (i : Int) : Calls Tryd.prog 31 #[.pointer (some ⟨g, 0, none⟩), .int .i64 i] w fun e w' => e = .returned (.tuple #[.slice (getS ss i).a (getS ss i).n (getS ss i).c, .bool (isT ss i)]) ∧ w' = w := by
  obtain ⟨rv, fv, n, f, h, hx, hX⟩ := h
  exact get_sl h i
theorem SlV.drewN {w : World} {g : Nat} {ss : List So} {X : Nat → Prop} (h : SlV w g ss X) (m : Nat) : SlV (w.drewN m) g ss X := by
  induction m with
  | zero => exact h
  | succ m ih => exact ih.keep (Y := fun _ => False) ((Ex.refl _ _).drew) (fun _ _ h => h)
/-- Slots in memory from block B on. -/
def SlB (B : Nat) (w : World) (g : Nat) (ss : List So) : Prop := ∃ X, SlV w g ss X ∧ ∀ k, X k → B ≤ k
theorem SlB.keep {B : Nat} {w w' : World} {g : Nat} {ss : List So} (h : SlB B w g ss) (x : Below w.heap.size w w') : SlB B w' g ss := by
  obtain ⟨X, h1, h2⟩ := h
  exact ⟨X, h1.keep (Y := fun _ => False) (ex_of x) (fun _ _ h => h), h2⟩
theorem SlB.drewN {B : Nat} {w : World} {g : Nat} {ss : List So} (h : SlB B w g ss) (m : Nat) : SlB B (w.drewN m) g ss := by
  obtain ⟨X, h1, h2⟩ := h
  exact ⟨X, h1.drewN m, h2⟩
theorem new_b (w : World) : Calls Tryd.prog 23 #[] w fun e w' => e = .returned (.pointer (some ⟨w.heap.size, 0, none⟩)) ∧ SlB w.heap.size w' w.heap.size [] ∧ Below w.heap.size w w' := by
  refine (slnew_any w).mono ?_
  rintro e w' ⟨rfl, h1, h2, _⟩
  exact ⟨rfl, ⟨_, h1, fun k hk => by omega⟩, h2⟩
theorem slb_of {B : Nat} {w w' : World} {g : Nat} {ss' : List So} {X : Nat → Prop} (hX : ∀ k, X k → B ≤ k) (hB : B ≤ w.heap.size) (h : SlV w' g ss' (gX X w w')) (x : Ex X w w') : SlB B w' g ss' ∧ Below B w w' :=
  ⟨⟨_, h, fun k hk => by rcases hk with hk | hk; exact hX k hk; omega⟩, x.below hX hB⟩
theorem add_b {B : Nat} {w : World} {g : Nat} {ss : List So} (h : SlB B w g ss) (hB : B ≤ w.heap.size) (hs : ss.length < 100000) (v : Sh) : Calls Tryd.prog 24 #[.pointer (some ⟨g, 0, none⟩), .slice v.a v.n v.c] w fun e w' => e = .returned (.int .i64 (low ss : Int)) ∧ SlB B w' g (addS ss v) ∧ Below B w w' := by
  obtain ⟨X, h1, h2⟩ := h
  refine (add_sl h1 hs v).mono ?_
  rintro e w' ⟨rfl, h3, h4⟩
  exact ⟨rfl, slb_of h2 hB h3 h4⟩
theorem free_b {B : Nat} {w : World} {g : Nat} {ss : List So} (h : SlB B w g ss) (hB : B ≤ w.heap.size) (i : Int) : Calls Tryd.prog 26 #[.pointer (some ⟨g, 0, none⟩), .int .i64 i] w fun e w' => e = .returned (.bool (isT ss i)) ∧ SlB B w' g (freeS ss i) ∧ Below B w w' := by
  obtain ⟨X, h1, h2⟩ := h
  refine (free_sl h1 i).mono ?_
  rintro e w' ⟨rfl, h3, h4⟩
  exact ⟨rfl, slb_of h2 hB h3 h4⟩
theorem len_b {B : Nat} {w : World} {g : Nat} {ss : List So} (h : SlB B w g ss) : Calls Tryd.prog 18 #[.pointer (some ⟨g, 0, none⟩)] w fun e w' => e = .returned (.int .i64 (cntS ss : Int)) ∧ ∃ m, w' = w.drewN m := by
  obtain ⟨X, h1, h2⟩ := h
  exact len_v h1
theorem high_b {B : Nat} {w : World} {g : Nat} {ss : List So} (h : SlB B w g ss) : Calls Tryd.prog 45 #[.pointer (some ⟨g, 0, none⟩)] w fun e w' => e = .returned (.int .i64 (ss.length : Int)) ∧ w' = w := by
  obtain ⟨X, h1, h2⟩ := h
  exact high_v h1
end Go.Proofs.YtbnmnmbfdfgohaaDoor
