/-
  copied: a tree in memory of its own.
-/
import Derived.Test.YtfcgogpnbmikmaaGreatDoorNdWt
namespace Go.Proofs.YtfcgogpnbmikmaaGreatDoor
open Go.RowKit Go.WideShapes
namespace Nd
open Lx

theorem Tryz.infoNd : (Tryz.prog.info? 27).map (fun i => (i.zero, i.size, i.bytes)) = some (some (.agg #[.int .i64 0, .int .i64 0, .string ⟨#[]⟩, .bool false, .slice none 0 0, .slice none 0 0]), 6, 88) := by kernel_rfl
theorem Tryz.infoU : (Tryz.prog.info? 57).map (fun i => (i.zero, i.size, i.bytes)) = some (some (.int .u32 0), 1, 4) := by kernel_rfl
def mgl (mg : List Nat) : List Value := mg.map fun x : Nat => Value.int .u32 (x : Int)
/-- Nodes in a row. -/
def rw6 : Nat → (Nat → Nv) → List Value
  | 0, _ => []
  | n + 1, ys => rw6 n ys ++ (ys n).c
theorem rw6_len (ys : Nat → Nv) : ∀ n, (rw6 n ys).length = n * 6
  | 0 => rfl
  | n + 1 => by simp only [rw6, List.length_append, rw6_len ys n, Nv.c, List.length_cons, List.length_nil]; omega
theorem rw6_get (ys : Nat → Nv) : ∀ (n i j : Nat), i < n → j < 6 → (rw6 n ys)[i * 6 + j]? = (ys i).c[j]?
  | 0, i, j, h, _ => by omega
  | n + 1, i, j, h, hj => by
    simp only [rw6]
    rcases Nat.lt_or_ge i n with z | z
    · rw [List.getElem?_append_left (by rw [rw6_len]; omega)]
      exact rw6_get ys n i j z hj
    · obtain rfl : i = n := by omega
      rw [List.getElem?_append_right (by rw [rw6_len]; omega), rw6_len]
      congr 1
      omega
theorem rw6_congr (ys zs : Nat → Nv) : ∀ n, (∀ i, i < n → ys i = zs i) → rw6 n ys = rw6 n zs
  | 0, _ => rfl
  | n + 1, h => by simp only [rw6]; rw [rw6_congr ys zs n (fun i hi => h i (by omega)), h n (by omega)]
theorem nc_one (x : Nv) (h1 : x.mv.oneCell' = true) (h2 : x.kv.oneCell' = true) : ∀ u ∈ x.c, u.oneCell' = true := by
  intro u hu
  simp [Nv.c] at hu
  rcases hu with rfl | rfl | rfl | rfl | rfl | rfl
  · rfl
  · rfl
  · rfl
  · rfl
  · exact h1
  · exact h2
theorem newR6 (w : World) (x : Nv) (t : TypeId) : ∀ j u, x.c[j]? = some u → (w.alloc (.cells #[.int .i64 x.k, .int .i64 x.a, .string x.s, .bool x.neg, x.mv, x.kv] t)).cell? (Addr.add ⟨w.heap.size, 0, none⟩ j) = some u := by
  intro j u hu
  match j, hu with
  | 0, hu => simp [Nv.c] at hu; subst hu; simp [Addr.add, World.cell?_alloc_at]
  | 1, hu => simp [Nv.c] at hu; subst hu; simp [Addr.add, World.cell?_alloc_at]
  | 2, hu => simp [Nv.c] at hu; subst hu; simp [Addr.add, World.cell?_alloc_at]
  | 3, hu => simp [Nv.c] at hu; subst hu; simp [Addr.add, World.cell?_alloc_at]
  | 4, hu => simp [Nv.c] at hu; subst hu; simp [Addr.add, World.cell?_alloc_at]
  | 5, hu => simp [Nv.c] at hu; subst hu; simp [Addr.add, World.cell?_alloc_at]
  | j + 6, hu => simp [Nv.c] at hu
theorem at_of_owns {w : World} {B n cap g : Nat} {ys : Nat → Nv} (h : w.ownsRow B 27 6 (.slice (some ⟨g, 0, none⟩) n cap) n (rw6 n ys)) (i : Nat) (hi : i < n) : At w g (0 + i * 6) (ys i) := by
  have k : ∀ j u, j < 6 → (ys i).c[j]? = some u → w.cell? ⟨g, 0 + i * 6 + j, none⟩ = some u := fun j u hj hu => by
    have := ownsS_cell h (i * 6 + j) u (by rw [rw6_get ys n i j hi hj]; exact hu)
    rw [Nat.zero_add]
    exact this
  exact ⟨k 0 _ (by omega) rfl, k 1 _ (by omega) rfl, k 2 _ (by omega) rfl, k 3 _ (by omega) rfl, k 4 _ (by omega) rfl, k 5 _ (by omega) rfl⟩
theorem Rd.one {w : World} {ok : Nat → Prop} {t : Tr} {x : Nv} (h : Rd w ok t x) : x.mv.oneCell' = true ∧ x.kv.oneCell' = true := by
  cases t with
  | no => exact h.elim
  | mk k a s neg mg n kid =>
    obtain ⟨_, _, _, _, ⟨a, c, h5, _⟩, ka, kc, h6, _⟩ := h
    rw [h5, h6]
    exact ⟨rfl, rfl⟩
theorem mgl_get (mg : List Nat) (j : Nat) (h : j < mg.length) : (mgl mg)[j]? = some (.int .u32 ((mg.getD j 0 : Nat) : Int)) := by
  simp [mgl, h]
/-- A row of words of one's own can be read. -/
theorem Mg.of_owns {w : World} {B : Nat} {v : Value} {mg : List Nat} {ok : Nat → Prop} (h : w.ownsRow B 57 1 v mg.length (mgl mg)) (hok : ∀ k, v.ownBlock = some k → ok k) : Mg w ok v mg := by
  rcases Nat.eq_zero_or_pos mg.length with z | z
  · rcases h.2 with ⟨rfl, _⟩ | ⟨g, cap, cur, rfl, _, _, hc, _⟩
    · exact ⟨none, 0, by rw [z], by omega, fun _ => rfl, 0, 0, fun h0 => absurd h0 (by omega), fun j hj => absurd hj (by omega)⟩
    · exact ⟨_, cap, rfl, hc, (fun e => by cases e), g, 0, fun _ => ⟨rfl, hok g rfl⟩, fun j hj => absurd hj (by omega)⟩
  · obtain ⟨g, cap, rfl, _, hc, _⟩ := ownsS_some h z
    refine ⟨_, cap, rfl, hc, (fun e => by cases e), g, 0, fun _ => ⟨rfl, hok g rfl⟩, fun j hj => ?_⟩
    rw [Nat.zero_add]
    exact ownsS_cell h j _ (mgl_get mg j hj)
set_option maxRecDepth 100000 in
/-- append(nil, words...) -/
theorem app_mag {w : World} {ok : Nat → Prop} {mv : Value} {mg : List Nat} (h : Mg w ok mv mg) (hn : mg.length ≤ 3000) (ty : TypeId) :
    ∃ v' w', (Builtin.append_ #[22, 22] ty #[.slice none 0 0, mv]).run Tryz.prog w = .ok v' w' ∧ w'.ownsRow w.heap.size 57 1 v' mg.length (mgl mg) ∧ w.grownBy w' none ∧ v'.oneCell' = true := by
  obtain ⟨a, c, rfl, hc, hz, b, off, h4, h5⟩ := h
  obtain ⟨i0, hi, hz0, hz1, hz2⟩ := info_parts Tryz.infoU
  cases a with
  | none =>
    have hl : mg.length = 0 := by
      rcases Nat.eq_zero_or_pos mg.length with z | z
      · exact z
      · cases (h4 z).1
    obtain rfl := List.eq_nil_of_length_eq_zero hl
    refine ⟨.slice none 0 0, w, ?_, World.ownsRow_nil _ _ _ _, ⟨rfl, rfl, rfl, Nat.le_refl _, fun _ _ _ => rfl⟩, rfl⟩
    simp [Builtin.append_, run_underlying Tryz.underlying22, sizeOf, typeInfo, hi, Builtin.lenOf, Builtin.firstCells]
  | some ad =>
    have hnews : ∀ j u, (mgl mg)[j]? = some u → w.cell? (ad.add j) = some u := fun j u hu => by
      have hj : j < mg.length := by
        rcases Nat.lt_or_ge j mg.length with z | z
        · exact z
        · rw [List.getElem?_eq_none (by simp [mgl]; omega)] at hu
          cases hu
      rw [mgl_get mg j hj] at hu
      injection hu with hu
      obtain ⟨e, _⟩ := h4 (by omega)
      injection e with e
      rw [e, pl_add, ← hu]
      exact h5 j hj
    obtain ⟨v', w', hr, h2, h3, _, _⟩ := run_append_own_at (P := Tryz.prog) w w.heap.size 22 ty 57 i0 (.int .u32 0) 1 4 Tryz.underlying22 hi hz0 hz1 hz2 rfl (by decide) (.slice none 0 0) 0 [] (World.ownsRow_nil _ _ _ _) ad mg.length c (mgl mg) (by simp [mgl]) hnews (fun u hu => by simp [mgl] at hu; obtain ⟨x, _, rfl⟩ := hu; rfl) (by unfold maxLen; omega) (by omega) (Nat.le_refl _)
    obtain ⟨a', c', rfl⟩ := ownsS_shape h2
    rw [Nat.zero_add, List.nil_append] at h2
    rw [Nat.zero_add] at hr
    exact ⟨_, w', hr, h2, h3, rfl⟩
/-- A node laid into six cells. -/
def st6 (w : World) (g o : Nat) (x : Nv) : World := (((((w.setCell ⟨g, o, none⟩ (.int .i64 x.k)).setCell ⟨g, o + 1, none⟩ (.int .i64 x.a)).setCell ⟨g, o + 2, none⟩ (.string x.s)).setCell ⟨g, o + 3, none⟩ (.bool x.neg)).setCell ⟨g, o + 4, none⟩ x.mv).setCell ⟨g, o + 5, none⟩ x.kv
theorem st6_blk {w : World} {g o k : Nat} {x : Nv} (h : k ≠ g) : (st6 w g o x).heap[k]? = w.heap[k]? := by
  unfold st6
  rw [setCell_blk h, setCell_blk h, setCell_blk h, setCell_blk h, setCell_blk h, setCell_blk h]
theorem st6_size (w : World) (g o : Nat) (x : Nv) : (st6 w g o x).heap.size = w.heap.size := by simp [st6, World.setCell]
theorem blk_st6 {w : World} {g n : Nat} {F : Nat → Value} (h : Blk w g n F) (o : Nat) (x : Nv) : ∃ F', Blk (st6 w g o x) g n F' ∧ F' o = .int .i64 x.k ∧ F' (o + 1) = .int .i64 x.a ∧ F' (o + 2) = .string x.s ∧ F' (o + 3) = .bool x.neg ∧ F' (o + 4) = x.mv ∧ F' (o + 5) = x.kv ∧ ∀ j, (j < o ∨ o + 6 ≤ j) → F' j = F j := by
  have h0 := h.put o (.int .i64 x.k)
  have h1 := h0.put (o + 1) (.int .i64 x.a)
  have h2 := h1.put (o + 2) (.string x.s)
  have h3 := h2.put (o + 3) (.bool x.neg)
  have h4 := h3.put (o + 4) x.mv
  have h5 := h4.put (o + 5) x.kv
  refine ⟨_, h5, ?_, ?_, ?_, ?_, ?_, ?_, fun j hj => ?_⟩
  · simp only [if_neg (show ¬ o = o + 5 by omega), if_neg (show ¬ o = o + 4 by omega), if_neg (show ¬ o = o + 3 by omega), if_neg (show ¬ o = o + 2 by omega), if_neg (show ¬ o = o + 1 by omega), if_true]
  · simp only [if_neg (show ¬ o + 1 = o + 5 by omega), if_neg (show ¬ o + 1 = o + 4 by omega), if_neg (show ¬ o + 1 = o + 3 by omega), if_neg (show ¬ o + 1 = o + 2 by omega), if_true]
  · simp only [if_neg (show ¬ o + 2 = o + 5 by omega), if_neg (show ¬ o + 2 = o + 4 by omega), if_neg (show ¬ o + 2 = o + 3 by omega), if_true]
  · simp only [if_neg (show ¬ o + 3 = o + 5 by omega), if_neg (show ¬ o + 3 = o + 4 by omega), if_true]
  · simp only [if_neg (show ¬ o + 4 = o + 5 by omega), if_true]
  · simp only [if_true]
  · simp only [if_neg (show ¬ j = o + 5 by omega), if_neg (show ¬ j = o + 4 by omega), if_neg (show ¬ j = o + 3 by omega), if_neg (show ¬ j = o + 2 by omega), if_neg (show ¬ j = o + 1 by omega), if_neg (show ¬ j = o by omega)]
theorem blk_at {w : World} {g n : Nat} {F : Nat → Value} (h : Blk w g n F) (o : Nat) (x : Nv) (ho : o + 6 ≤ n) : At (st6 w g o x) g o x := by
  obtain ⟨F', hb, e0, e1, e2, e3, e4, e5, _⟩ := blk_st6 h o x
  refine ⟨?_, ?_, ?_, ?_, ?_, ?_⟩
  · rw [← e0]; exact hb.c o (by omega)
  · rw [← e1]; exact hb.c (o + 1) (by omega)
  · rw [← e2]; exact hb.c (o + 2) (by omega)
  · rw [← e3]; exact hb.c (o + 3) (by omega)
  · rw [← e4]; exact hb.c (o + 4) (by omega)
  · rw [← e5]; exact hb.c (o + 5) (by omega)
theorem below_st6 {B : Nat} {w w' : World} {g o : Nat} {x : Nv} (h : Below B w w') (hg : B ≤ g) : Below B w (st6 w' g o x) := by
  unfold st6
  exact (((((h.setCell (p := ⟨g, o, none⟩) hg _).setCell (p := ⟨g, o + 1, none⟩) hg _).setCell (p := ⟨g, o + 2, none⟩) hg _).setCell (p := ⟨g, o + 3, none⟩) hg _).setCell (p := ⟨g, o + 4, none⟩) hg _).setCell (p := ⟨g, o + 5, none⟩) hg _
/-- append whose run is known. -/
theorem wpList_append_run {P : Program} {ops : Array Oper} {rest : List Oper} {o : Oper} {a : Act} {w : World} {Q : Exit → Act → World → Prop} (hgd : o.guard = none) (s x : Operand) (t : TypeId)
    (ho : o.op = .call { callee := .builtin .append, args := #[s, x], argTypes := #[t, t] }) (v u v' : Value) (w' : World) (hs : a.eval s = v) (hx : a.eval x = u) (hr : (Builtin.append_ #[t, t] o.type #[v, u]).run P w = .ok v' w')
    (h : wpList P ops Q rest (a.put o.dst v') w') : wpList P ops Q (o :: rest) a w := by
  refine wpList_plain hgd fun K hK => ?_
  unfold Oper.wp execOp
  simp only [ho, resolve, invoke, builtin, Sem.run_bind, Sem.run_pure, Result.andThen_ok, List.map_toArray, List.map_cons, List.map_nil, hs, hx, hr]
  exact hK _ _ h
set_option maxRecDepth 100000 in
set_option maxHeartbeats 4000000 in
theorem copied_any {ok : Nat → Prop} : ∀ (t : Tr) (x : Nv) (w : World), Rd w ok t x → wt t ≤ 3000 → (∀ b, ok b → b < w.heap.size) →
    Calls Tryz.prog 8 #[x.v] w fun e w' => ∃ y : Nv, e = .returned y.v ∧ Rd w' (fun b => w.heap.size ≤ b ∧ b < w'.heap.size) t y ∧ Below w.heap.size w w' := by
  intro t
  induction t with
  | no => exact fun _ _ h => h.elim
  | mk k a s neg mg n kid ih =>
    rintro ⟨xk, xa, xs, xn, xm, xkv⟩ w ⟨h1, h2, h3, h4, h5, ka, kc, h6, h7, b, off, h8, ys, h9⟩ hwt hok
    simp only at h1 h2 h3 h4 h5 h6
    subst h1 h2 h3 h4 h6
    simp only [wt] at hwt
    have hn3 : n ≤ 3000 := by have := sm_ge (fun i => wt (kid i)) (fun i => wt_pos _) n; omega
    have hm3 : mg.length ≤ 3000 := by omega
    have HWK : Hid (∀ i, i < n → wt (kid i) ≤ 3000) := fun i hi => by have := sm_get (fun i => wt (kid i)) hi; omega
    obtain ⟨iN, hni, hnz0, hnz1, hnz2⟩ := info_parts Tryz.infoNd
    simp only [Nv.v]
    have HM := Lib.hid h5
    have HIH := Lib.hid ih
    have H9 := Lib.hid h9
    have H8 := Lib.hid h8
    have HOK := Lib.hid hok
    clear ih h9 h8 hok h5 hwt
    go_enter Tryz.func8, Tryz.ntmps8
    go_wp2_with fail
    obtain ⟨W, hW⟩ : ∃ W, (w.alloc (.cells #[.int .i64 xk, .int .i64 xa, .string xs, .bool xn, xm, .slice ka n kc] 27)).alloc (.cells #[.int .i64 0, .int .i64 0, .string ⟨#[]⟩, .bool false, .slice none 0 0, .slice none 0 0] 27) = W := ⟨_, rfl⟩
    rw [hW]
    have hsz : W.heap.size = w.heap.size + 2 := by rw [← hW]; simp
    have hbW : Below w.heap.size w W := by rw [← hW]; exact ((Below.refl _ w).alloc (Nat.le_refl _) _).alloc (by simp) _
    have hbx : At W w.heap.size 0 ⟨xk, xa, xs, xn, xm, .slice ka n kc⟩ := by
      have h1 : At (w.alloc (.cells #[.int .i64 xk, .int .i64 xa, .string xs, .bool xn, xm, .slice ka n kc] 27)) w.heap.size 0 ⟨xk, xa, xs, xn, xm, .slice ka n kc⟩ := ⟨World.cell?_alloc_at _ _ _ _ rfl, World.cell?_alloc_at _ _ _ _ rfl, World.cell?_alloc_at _ _ _ _ rfl, World.cell?_alloc_at _ _ _ _ rfl, World.cell?_alloc_at _ _ _ _ rfl, World.cell?_alloc_at _ _ _ _ rfl⟩
      rw [← hW]
      exact h1.same (Below.heap_alloc _ _ _ (by simp))
    have hrs : ∃ F, Blk W (w.heap.size + 1) 6 F := by
      have h := Blk.new (w.alloc (.cells #[.int .i64 xk, .int .i64 xa, .string xs, .bool xn, xm, .slice ka n kc] 27)) #[.int .i64 0, .int .i64 0, .string ⟨#[]⟩, .bool false, .slice none 0 0, .slice none 0 0] 27
      rw [hW, World.size_alloc] at h
      exact ⟨_, h⟩
    have HBW := Lib.hid hbW
    have HSZ := Lib.hid hsz
    have HBX := Lib.hid hbx
    have HRS := Lib.hid hrs
    clear hbW hsz hbx hW hrs
    go_loopg [3, 4] n (fun gk v3 v4 wr => ∃ (i : Nat) (zs : Nat → Nv), i + gk = n ∧ v4 = .int .i64 (i : Int) ∧ wr.ownsRow W.heap.size 27 6 v3 i (rw6 i zs) ∧ (∀ j, j < i → Rd wr (fun b => (W.heap.size ≤ b ∧ b < wr.heap.size) ∧ v3.ownBlock ≠ some b) (kid j) (zs j)) ∧ Below W.heap.size W wr)
    case atStart => exact ⟨0, fun _ => default, by omega, rfl, World.ownsRow_nil _ _ _ _, fun j hj => absurd hj (by omega), Below.refl _ _⟩
    case round =>
      obtain ⟨i, zs, hig, rfl, ho, hkids, hB⟩ := hrel
      obtain ⟨a3, c3, rfl⟩ := ownsS_shape ho
      have HO := Lib.hid ho
      have HK := Lib.hid hkids
      have HB := Lib.hid hB
      have hbx := HBX.out.same (hB.block w.heap.size (by rw [HSZ.out]; omega))
      obtain ⟨q0, q1, q2, q3, q4, q5⟩ := hbx
      simp only [Nat.zero_add] at q1 q2 q3 q4 q5
      have k0 : (0 : Int) ≤ (i : Int) := by omega
      have hsame : Hid (∀ k, k < w.heap.size → wr.heap[k]? = w.heap[k]?) := fun k hk => (HB.out.block k (by have := HSZ.out; omega)).trans (HBW.out.block k hk)
      clear ho hkids hB
      by_cases hin : i < n
      · have k1 : (i : Int) < (n : Int) := by omega
        obtain ⟨rfl, hokb⟩ := H8.out (by omega)
        obtain ⟨hat, hrd⟩ := H9.out i hin
        have hat := hat.same (hsame.out b (HOK.out b hokb))
        have hrd := hrd.same (w' := wr) (fun b hb => hsame.out b (HOK.out b hb))
        obtain ⟨p0, p1, p2, p3, p4, p5⟩ := hat
        have C := HIH.out i (ys i) wr hrd (HWK.out i hin) (fun b hb => Nat.lt_of_lt_of_le (HOK.out b hb) (by have := HB.out.size; have := HSZ.out; omega))
        simp only [Nv.v] at C
        generalize ys i = y at *
        have e2 : IntKind.i64.wrap ((i : Int) + 1) = ((i + 1 : Nat) : Int) := by rw [i64_small (by omega) (by omega)]; omega
        clear hrd
        go_wp2_with fail
        refine C.mono ?_
        rintro e w2 ⟨z, rfl, hz, hb2⟩
        clear C
        have hown2 : w2.ownsRow W.heap.size 27 6 (.slice a3 i c3) i (rw6 i zs) := ownsS_same HO.out (fun k hk => hb2.block k (ownsS_base HO.out k hk).2)
        have hone := hz.one
        have HZ := Lib.hid hz
        have HB2 := Lib.hid hb2
        have hBs : W.heap.size ≤ w2.heap.size := by have := HB.out.size; have := hb2.size; omega
        clear hz hb2
        go_wp2_with (at_builtin; refine wpListS_append_own rfl _ _ 25 rfl W.heap.size 27 iN _ 6 88 Tryz.underlying25 hni hnz0 hnz1 hnz2 rfl (by decide) _ i (rw6 i zs) rfl (World.ownsRow.alloc hown2 _) ⟨w2.heap.size, 0, none⟩ 1 1 z.c rfl rfl (newR6 _ z _) (nc_one z hone.1 hone.2) (by unfold maxLen; omega) (by omega) (by simp; omega) ?_)
        intro v' w5 hown5 hgrow5 hat5
        obtain ⟨g6, c6, hv6, -, -, -⟩ := ownsS_some hown5 (by omega)
        subst hv6
        have HO5 := Lib.hid hown5
        have HG5 := Lib.hid hgrow5
        have HA5 := Lib.hid hat5
        clear hown5 hgrow5 hat5 hown2 hone
        go_wp2_with fail
        go_roundg (gk - 1)
        case measure => omega
        case rel =>
          have hg := HG5.out
          have hkeep : ∀ k, k < w2.heap.size → (Value.slice a3 i c3).ownBlock ≠ some k → w5.heap[k]? = w2.heap[k]? := fun k hk hn => (hg.block k (by simp; omega) (fun e => hn e.symm)).trans (Below.heap_alloc _ _ _ hk)
          have hs5 : w2.heap.size ≤ w5.heap.size := by have := hg.size; simp at this; omega
          have hnew : ∀ k, k < w2.heap.size → (Value.slice a3 i c3).ownBlock ≠ some k → (Value.slice (some ⟨g6, 0, none⟩) (i + 1) c6).ownBlock ≠ some k := fun k hk hn => by
            rcases HA5.out with e | e
            · rw [e]; exact hn
            · rw [e]
              intro e
              injection e with e
              first
                | omega
                | (rw [World.size_alloc] at e; omega)
          refine ⟨i + 1, fun j => if j = i then z else zs j, by omega, rfl, ?_, fun j hj => ?_, ?_⟩
          · have h := HO5.out
            show w5.ownsRow _ _ _ _ (i + 1) (rw6 (i + 1) _)
            simp only [rw6, if_true]
            rw [rw6_congr (fun j => if j = i then z else zs j) zs i (fun j hj => if_neg (by omega))]
            exact h
          · by_cases hji : j = i
            · subst hji
              simp only [if_true]
              have hlow : ∀ b, (wr.heap.size ≤ b ∧ b < w2.heap.size) → (Value.slice a3 j c3).ownBlock ≠ some b := fun b hb e => by have := (ownsS_base HO.out b e).2; omega
              refine (HZ.out.same (w' := w5) (fun b hb => hkeep b hb.2 (hlow b hb))).mono (fun b hb => ⟨⟨?_, by omega⟩, hnew b hb.2 (hlow b hb)⟩)
              have := HB.out.size
              omega
            · simp only [if_neg hji]
              have h := HK.out j (by omega)
              refine (h.same (w' := w5) (fun b hb => ?_)).mono (fun b hb => ⟨⟨hb.1.1, by have := HB2.out.size; omega⟩, hnew b (by have := HB2.out.size; omega) hb.2⟩)
              rw [hkeep b (by have := HB2.out.size; omega) hb.2]
              exact HB2.out.block b hb.1.2
          · refine Below.grown (w := w2.alloc _) ((HB.out.trans (HB2.out.mono HB.out.size)).alloc (by have := HB.out.size; have := HB2.out.size; omega) _) hg (by have := HB.out.size; have := HB2.out.size; simp; omega) (fun k hk => (ownsS_base HO.out k hk).1)
      · obtain rfl : i = n := by omega
        have k1 : ¬ (i : Int) < (i : Int) := by omega
        have hmg := HM.out.same (w' := wr) (fun b hb => hsame.out b (HOK.out b hb))
        obtain ⟨mv', w3, hrun, hown3, hgrow3, hone3⟩ := app_mag hmg hm3 22
        obtain ⟨ma', mc', rfl⟩ := ownsS_shape hown3
        have hs3 : wr.heap.size ≤ w3.heap.size := hgrow3.size
        have hk3 : ∀ k, k < wr.heap.size → w3.heap[k]? = wr.heap[k]? := fun k hk => hgrow3.block k hk (fun e => by cases e)
        have hbx := HBX.out.same ((hk3 w.heap.size (by have := HB.out.size; have := HSZ.out; omega)).trans (HB.out.block w.heap.size (by rw [HSZ.out]; omega)))
        obtain ⟨p0, p1, p2, p3, p4, p5⟩ := hbx
        simp only [Nat.zero_add] at p1 p2 p3 p4 p5
        obtain ⟨F, hF⟩ := HRS.out
        have hF := (hF.same (HB.out.block (w.heap.size + 1) (by rw [HSZ.out]; omega))).same (hk3 (w.heap.size + 1) (by have := HB.out.size; have := HSZ.out; omega))
        have HFF := Lib.hid hF
        have f0 := hF.c 0 (by omega)
        have f1 := hF.c 1 (by omega)
        have f2 := hF.c 2 (by omega)
        have f3 := hF.c 3 (by omega)
        have f4 := hF.c 4 (by omega)
        have f5 := hF.c 5 (by omega)
        have g0 := hF.z 0
        have g1 := hF.z 1
        have g2 := hF.z 2
        have g3 := hF.z 3
        have g4 := hF.z 4
        have g5 := hF.z 5
        have HRUN := Lib.hid hrun
        have HO3 := Lib.hid hown3
        have HK3 := Lib.hid hk3
        have HS3 := Lib.hid hs3
        have HG3 := Lib.hid hgrow3
        clear hmg hF hrun hown3 hk3 hs3 hgrow3 hone3
        go_wp2_with (at_builtin; refine wpList_append_run rfl _ _ 22 rfl _ _ (.slice ma' mg.length mc') w3 rfl rfl HRUN.out ?_)
        have hA := blk_at HFF.out 0 ⟨xk, xa, xs, xn, .slice ma' mg.length mc', .slice a3 i c3⟩ (by omega)
        have hBl := below_st6 (o := 0) (x := ⟨xk, xa, xs, xn, .slice ma' mg.length mc', .slice a3 i c3⟩) (g := w.heap.size + 1) (Below.refl w.heap.size w3) (by omega)
        have hst : ∀ k, k ≠ w.heap.size + 1 → (st6 w3 (w.heap.size + 1) 0 ⟨xk, xa, xs, xn, .slice ma' mg.length mc', .slice a3 i c3⟩).heap[k]? = w3.heap[k]? := fun k hk => st6_blk hk
        have hss := st6_size w3 (w.heap.size + 1) 0 ⟨xk, xa, xs, xn, .slice ma' mg.length mc', .slice a3 i c3⟩
        simp only [st6, Nat.zero_add] at hA hBl hst hss
        generalize (((((w3.setCell ⟨w.heap.size + 1, 0, none⟩ (.int .i64 xk)).setCell ⟨w.heap.size + 1, 1, none⟩ (.int .i64 xa)).setCell ⟨w.heap.size + 1, 2, none⟩ (.string xs)).setCell ⟨w.heap.size + 1, 3, none⟩ (.bool xn)).setCell ⟨w.heap.size + 1, 4, none⟩ (.slice ma' mg.length mc')).setCell ⟨w.heap.size + 1, 5, none⟩ (.slice a3 i c3) = w6 at *
        obtain ⟨r0, r1, r2, r3, r4, r5⟩ := hA
        simp only [Nat.zero_add] at r1 r2 r3 r4 r5
        refine bodyPost_ret (v := .agg #[.int .i64 xk, .int .i64 xa, .string xs, .bool xn, .slice ma' mg.length mc', .slice a3 i c3]) (by simp [results, Tryz.results8, go_sem, r0, r1, r2, r3, r4, r5]) rfl ?_
        have hWs := HSZ.out
        have hBs := HB.out.size
        have h36 : ∀ k, w.heap.size + 2 ≤ k → k < wr.heap.size → w6.heap[k]? = wr.heap[k]? := fun k h1 h2 => (hst k (by omega)).trans (HK3.out k h2)
        have hs3 := HS3.out
        refine ⟨⟨xk, xa, xs, xn, .slice ma' mg.length mc', .slice a3 i c3⟩, rfl, ⟨rfl, rfl, rfl, rfl, ?_, a3, c3, rfl, ?_, ?_⟩, ?_⟩
        · refine Mg.of_owns (ownsS_same HO3.out (fun k hk => hst k ?_)) (fun k hk => ?_)
          · have := (ownsS_base HO3.out k hk).1
            omega
          · have := ownsS_base HO3.out k hk
            exact ⟨by omega, by omega⟩
        · rcases Nat.eq_zero_or_pos i with z | z
          · omega
          · obtain ⟨g, cap, e, _, hc, _⟩ := ownsS_some HO.out z
            injection e with _ _ e
            omega
        · rcases Nat.eq_zero_or_pos i with z | z
          · exact ⟨0, 0, fun h => absurd h (by omega), fun _ => default, fun j hj => absurd hj (by omega)⟩
          · have ho := HO.out
            obtain ⟨g, cap, e, hg, hc, hgB⟩ := ownsS_some ho z
            injection e with e1 _ e3
            subst e1
            subst e3
            refine ⟨g, 0, fun _ => ⟨rfl, by omega, by omega⟩, zs, fun j hj => ⟨(at_of_owns ho j hj).same (h36 g (by omega) hg), ?_⟩⟩
            exact ((HK.out j hj).same (w' := w6) (fun b hb => h36 b (by omega) hb.1.2)).mono (fun b hb => ⟨by omega, by omega⟩)
        · refine ⟨?_, ?_, ?_, by omega, fun k hk => ?_⟩
          · exact hBl.os.trans (HG3.out.os.trans (HB.out.os.trans HBW.out.os))
          · exact hBl.tape.trans (HG3.out.tape.trans (HB.out.tape.trans HBW.out.tape))
          · exact hBl.output.trans (HG3.out.output.trans (HB.out.output.trans HBW.out.output))
          · rw [hst k (by omega), HK3.out k (by omega), HB.out.block k (by omega), HBW.out.block k hk]
end Nd
end Go.Proofs.YtfcgogpnbmikmaaGreatDoor
