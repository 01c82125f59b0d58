/-
  What Text does.
-/
import Derived.Deep.LoopGhost
import Derived.WalkSmall
import Derived.Test.YteplmnnpmekngabDec
namespace Go.Proofs.Yteplmnnpmekngab
open Go.RowKit

theorem Row.set {k : IntKind} {t : TypeId} {w : World} {g : Nat} {xs : List Nat} (h : Row k t w g xs) (i v : Nat) : Row k t (w.setCell ⟨g, i, none⟩ (.int k (v : Int))) g (xs.set i v) := by
  obtain ⟨hlt, hk⟩ := Array.getElem?_eq_some_iff.1 h
  show (w.heap.modify g _)[g]? = _
  rw [Array.getElem?_eq_getElem (by rw [Array.size_modify]; exact hlt), Array.getElem_modify_self, hk]
  simp
theorem Row.turn {k : IntKind} {t : TypeId} {w w' : World} {g b off n : Nat} {xs : List Nat} (h : Row k t w g xs) (ht : RowTurn w w' b off n) (hne : g ≠ b) : Row k t w' g xs := (ht.block g h.lt hne).trans h
theorem Bytes.turn {B : Nat} {w w' : World} {v : Value} {ts : List Nat} {b off n : Nat} (h : Bytes B w v ts) (ht : RowTurn w w' b off n) (hb : b < B) : Bytes B w' v ts := by
  refine ⟨h.1, ?_⟩
  rcases h.2 with h2 | ⟨g, cap, cur, e, hg, hh, r⟩
  · exact Or.inl h2
  · exact Or.inr ⟨g, cap, cur, e, hg, (ht.block g (Array.getElem?_eq_some_iff.1 hh).1 (by omega)).trans hh, r⟩
theorem Bytes.setRow {B : Nat} {w : World} {v : Value} {ts xs : List Nat} {k : IntKind} {t r i : Nat} {u : Value} (h : Bytes B w v ts) (hr : Row k t w r xs) (ht : t ≠ 5) : Bytes B (w.setCell ⟨r, i, none⟩ u) v ts := by
  refine ⟨h.1, ?_⟩
  rcases h.2 with h2 | ⟨g, cap, cur, e, hg, hh, q⟩
  · exact Or.inl h2
  · refine Or.inr ⟨g, cap, cur, e, hg, ?_, q⟩
    rw [Below.heap_setCell _ _ _ _ (fun e => ?_)]
    · exact hh
    · subst e
      have hr' : w.heap[_]? = _ := hr
      rw [hh] at hr'
      injection hr' with e
      injection e with _ e
      exact ht e.symm
theorem Bytes.alloc {B : Nat} {w : World} {v : Value} {ts : List Nat} (h : Bytes B w v ts) (o : Obj) : Bytes B (w.alloc o) v ts := World.ownsRow.alloc h o
theorem RowTurn.alloc {w w' : World} {g off n : Nat} (h : RowTurn w w' g off n) (hg : g < w.heap.size) (o : Obj) : RowTurn w (w'.alloc o) g off n := by
  have hg' : g < w'.heap.size := Nat.lt_of_lt_of_le hg h.size
  exact h.trans (RowTurn.of_below ((Below.refl _ _).alloc (Nat.le_refl _) _) g off n hg')
theorem Seg.turn {k : IntKind} {w w' : World} {b o g off n : Nat} {xs : List Nat} (h : Seg k w b o xs) (ht : RowTurn w w' g off n) (hb : b < w.heap.size) (hne : b ≠ g) : Seg k w' b o xs :=
  fun j hj => (World.cell?_of_block (a := ⟨b, o + j, none⟩) (ht.block b hb hne)).trans (h j hj)
theorem RowTurn.widen {w w' : World} {g off n m : Nat} (h : RowTurn w w' g off n) (hm : n ≤ m) : RowTurn w w' g off m :=
  ⟨h.os, h.tape, h.output, h.size, h.block, fun o ho => h.cell o (by omega), h.frozen⟩
theorem set_piece (ps : List Nat) (k p : Nat) (hp : ps.length = k) (hk : k < 275) : (ps ++ List.replicate (275 - k) 0).set k p = (ps ++ [p]) ++ List.replicate (275 - (k + 1)) 0 := by
  subst hp
  rw [List.set_append_right _ _ (Nat.le_refl _), Nat.sub_self, List.append_assoc, show 275 - ps.length = (275 - (ps.length + 1)) + 1 by omega, List.replicate_succ]
  rfl
/-- .. where the rows of bytes alone turn. -/
theorem TextTurn.seg {k : IntKind} {B : Nat} {w w' : World} {b o : Nat} {xs : List Nat} (ht : TextTurn B w w') (h : Seg k w b o xs) (hb : b < w.heap.size) (hB : b < B) : Seg k w' b o xs :=
  fun j hj => (World.cell?_of_block (a := ⟨b, o + j, none⟩) (ht.block b hb (Or.inl hB))).trans (h j hj)
theorem TextTurn.rowTurn {B : Nat} {w0 w w' : World} {g off n : Nat} (ht : TextTurn B w w') (h : RowTurn w0 w g off n) (hB : w0.heap.size ≤ B) (hg : g < w0.heap.size) : RowTurn w0 w' g off n := by
  have e : ∀ k, k < w0.heap.size → w'.heap[k]? = w.heap[k]? := fun k hk => ht.block k (Nat.lt_of_lt_of_le hk h.size) (Or.inl (by omega))
  exact ⟨ht.os.trans h.os, ht.tape.trans h.tape, ht.output.trans h.output, Nat.le_trans h.size ht.size, fun k hk hne => (e k hk).trans (h.block k hk hne), fun o ho => (World.cell?_of_block (a := ⟨g, o, none⟩) (e g hg)).trans (h.cell o ho), fun o => (World.frozen?_of_block (a := ⟨g, o, none⟩) (e g hg)).trans (h.frozen o)⟩

/-- One piece more is taken. -/
theorem piece_step {k vz vy vq p vX dt lt : Nat} {ps : List Nat} (hpl : ps.length = k) (hvz : vz = pval ps + 10 ^ (9 * k) * vy) (hvy : 1000000000 * vq + p = vy) (hy : 0 < vy) (hX : vX = dt + 10 ^ lt * vz) :
    vz = pval (ps ++ [p]) + 10 ^ (9 * (k + 1)) * vq ∧ vq < vz ∧ 10 ^ (lt + 9 * (k + 1) - 9) ≤ vX := by
  have h9 : 0 < 10 ^ (9 * k) := Nat.pow_pos (by omega)
  have hl : 0 < 10 ^ lt := Nat.pow_pos (by omega)
  have hyz : 10 ^ (9 * k) * vy ≤ vz := by omega
  have h1 : 10 ^ (9 * k) * 1 ≤ 10 ^ (9 * k) * vy := Nat.mul_le_mul_left _ hy
  refine ⟨?_, ?_, ?_⟩
  · rw [pval_snoc, hpl, pow9, hvz, ← hvy, Nat.mul_add, show 9 * (k + 1) = 9 * k + 9 by omega, Nat.pow_add, Nat.mul_assoc]
    have : (10 : Nat) ^ 9 = 1000000000 := by decide
    rw [this]
    omega
  · have h2 : 1 * vy ≤ 10 ^ (9 * k) * vy := Nat.mul_le_mul_right _ h9
    omega
  · have h3 : 10 ^ lt * 10 ^ (9 * k) ≤ 10 ^ lt * vz := Nat.mul_le_mul_left _ (by omega)
    rw [show lt + 9 * (k + 1) - 9 = lt + 9 * k by omega, Nat.pow_add]
    omega
theorem pw_ten (k : Nat) : pw k ≤ 10 ^ (10 * k) := by
  induction k with
  | zero => simp [pw]
  | succ k ih =>
    rw [pw, show 10 * (k + 1) = 10 * k + 10 by omega, Nat.pow_add]
    have : 4294967296 ≤ 10 ^ 10 := by decide
    calc 4294967296 * pw k ≤ 10 ^ 10 * 10 ^ (10 * k) := Nat.mul_le_mul this ih
      _ = 10 ^ (10 * k) * 10 ^ 10 := Nat.mul_comm _ _
theorem digits_bd {X : List Nat} {L : Nat} (oX : okw X) (h : L ≤ 9 ∨ 10 ^ (L - 9) ≤ val X) : L ≤ 10 * X.length + 9 := by
  rcases h with h | h
  · omega
  · have h1 := Nat.lt_of_lt_of_le (val_lt oX) (pw_ten X.length)
    have h2 : 10 ^ (L - 9) < 10 ^ (10 * X.length) := by omega
    have h3 := (Nat.pow_lt_pow_iff_right (by omega : 1 < 10)).1 h2
    omega
/-- The pieces are laid behind the digits. -/
theorem pieces_val {vX vz vy k : Nat} {ts ps : List Nat} (hpl : ps.length = k) (hp : ∀ p ∈ ps, p < 1000000000) (hX : vX = dval ts + 10 ^ ts.length * vz) (hz : vz = pval ps + 10 ^ (9 * k) * vy) :
    vX = dval (ts ++ dgs ps) + 10 ^ (ts ++ dgs ps).length * vy := by
  rw [dval_append, dval_dgs ps hp, List.length_append, dgs_length, hpl, hX, hz, Nat.pow_add, Nat.mul_add, Nat.mul_assoc]
  omega
theorem Try.arrPieces : Try.prog.underlying 63 = some (.array 275 52) := by kernel_rfl
/-- The first k of an array of pieces. -/
theorem slice_pieces (r k : Nat) (hk : k ≤ 275) (W : World) : (Instr.sliceAt 63 (.pointer (some ⟨r, 0, none⟩)) none (some (.int .i64 (k : Int))) none).run Try.prog W = .ok (.slice (some ⟨r, 0, none⟩) k 275) W := by
  obtain ⟨i0, hi, _, _, _⟩ := info_parts Try.infoWord
  have h2 : (k : Int) ≤ 275 := by omega
  simp [Instr.sliceAt, Instr.sureAddr, run_underlying Try.arrPieces, Instr.sliceBounds, run_sliceBound, sizeOf, typeInfo, hi, Addr.add, h2]
/-- Bytes that are there: where they lie. -/
theorem Bytes.place {B : Nat} {w : World} {v : Value} {ts : List Nat} (h : Bytes B w v ts) (hn : ts ≠ []) : ∃ g cap, v = .slice (some ⟨g, 0, none⟩) ts.length cap ∧ B ≤ g ∧ ts.length ≤ cap ∧ cap ≤ maxLen ∧ g < w.heap.size := by
  rcases h.2 with ⟨_, h0⟩ | ⟨g, cap, cur, e, hg, hh, hc, hm, _⟩
  · exact absurd (List.eq_nil_of_length_eq_zero h0) hn
  · exact ⟨g, cap, e, hg, hc, hm, (Array.getElem?_eq_some_iff.1 hh).1⟩
theorem Bytes.cut {B g cap m : Nat} {w : World} {ts : List Nat} (h : Bytes B w (.slice (some ⟨g, 0, none⟩) ts.length cap) ts) (hm : m ≤ ts.length) : Bytes B w (.slice (some ⟨g, 0, none⟩) m cap) (ts.take m) := by
  have hl : (ts.take m).length = m := by rw [List.length_take]; omega
  refine ⟨by simp, Or.inr ?_⟩
  rcases h.2 with ⟨e, _⟩ | ⟨g', cap', cur, e, hg, hh, hc, hmx, hs, ht⟩
  · cases e
  · cases e
    rw [hl]
    refine ⟨g, cap, cur, rfl, hg, hh, by omega, hmx, hs, ?_⟩
    simp only [Nat.mul_one] at ht ⊢
    rw [List.map_take, ← ht, List.take_take, Nat.min_eq_left hm]
theorem Bytes.ow {B : Nat} {w : World} {v : Value} {ts : List Nat} (h : Bytes B w v ts) : Ow .u8 B w v ts := ow_of_row h
theorem conv_bytes (g n cap : Nat) (ts : List Nat) (W : World) (hn : ts.length = n) (h : Seg .u8 W g 0 ts) : (convert 61 9 (.slice (some ⟨g, 0, none⟩) n cap)).run Try.prog W = .ok (textOf ts) W := by
  refine run_convert_bytes_arg W 61 5 Try.underlying61 Try.underlying5 g 0 n cap (ts.map fun x : Nat => (x : Int)) (by simpa using hn) (fun i hi => ?_) 9 Try.underlying9
  rw [h i (by omega)]
  have hi' : i < ts.length := by omega
  simp [hi']
theorem dval_cut {ts : List Nat} {m : Nat} (hm : m < ts.length) (h : ts[m]?.getD 0 = 48) : dval (ts.take (m + 1)) = dval (ts.take m) := by
  rw [take_succ_get ts m hm, dval_append, h]
  simp [dval]
/-- The cells of a row of pieces that is new. -/
def zero275 : Array Value := (List.replicate 275 (Value.int .u32 0)).toArray
theorem Try.infoPieces : (Try.prog.info? 63).map (fun i => (i.zero, i.size)) = some (some (.agg zero275), 275) := by kernel_rfl
theorem Try.zeroPieces (w : World) : (zeroValue 63).run Try.prog w = .ok (.agg zero275) w := by
  have h := Try.infoPieces
  cases hi : Try.prog.info? 63 with
  | none => rw [hi] at h; simp at h
  | some i =>
    rw [hi] at h
    simp at h
    simp [zeroValue, typeInfo, hi, h.1]
theorem row_zero (w : World) : Row .u32 63 (w.alloc (.cells zero275 63)) w.heap.size (List.replicate 275 0) := by
  unfold Row
  rw [World.alloc_heap_new, List.map_replicate]
  rfl

set_option maxRecDepth 100000 in
set_option maxHeartbeats 4000000 in
theorem text_zero (neg : Bool) (ax : Option Addr) (nx cx : Nat) (xs : List Nat) (w : World) (hx : Sl .u32 w (.slice ax nx cx) xs) (h0 : val xs = 0) (bx : xs.length ≤ 1000000) :
    Calls Try.prog 16 #[.agg #[.bool neg, .slice ax nx cx]] w fun e w' => e = .returned (textOf [48]) ∧ Below w.heap.size w w' := by
  have hB0 : Below w.heap.size w (w.alloc (.cells #[.bool neg, .slice ax nx cx] 24)) := (Below.refl _ _).alloc (Nat.le_refl _) _
  have ht := trim_any ax nx cx xs _ (hx.below hB0) bx
  have hX := (hx.below hB0).trimmed
  have hl := trimL_length xs
  rw [tl_zero.2 h0] at ht hX hl
  have hcl := clone_any ax 0 cx (trimL xs) _ hX (by omega)
  rw [hl] at hcl
  clear hX hl h0 hx
  go_enter Try.func16, Try.ntmps16
  go_wp2_with (first
    | (go_at_call 20; refine ht.mono ?_; rintro e w1 ⟨rfl, rfl⟩)
    | (go_at_call 29; refine hcl.mono ?_; rintro e w2 ⟨a2, c2, rfl, ho2, hb2⟩))
  go_ret
  exact ⟨rfl, hB0.trans (hb2.mono (by simp))⟩

set_option maxRecDepth 100000 in
set_option maxHeartbeats 4000000 in
theorem text_some (neg : Bool) (ax : Option Addr) (nx cx : Nat) (xs : List Nat) (w : World) (hx : Sl .u32 w (.slice ax nx cx) xs) (h0 : val xs ≠ 0) (ox : okw xs) (bx : xs.length ≤ 1000) :
    Calls Try.prog 16 #[.agg #[.bool neg, .slice ax nx cx]] w fun e w' => ∃ ts, e = .returned (textOf (decBytes neg ts)) ∧ IsDec ts (val xs) ∧ Below w.heap.size w w' := by
  have hbox := Box2.new w neg ax nx cx 24
  have hB0 : Below w.heap.size w (w.alloc (.cells #[.bool neg, .slice ax nx cx] 24)) := (Below.refl _ _).alloc (Nat.le_refl _) _
  have ht := trim_any ax nx cx xs _ (hx.below hB0) (by omega)
  have hX := (hx.below hB0).trimmed
  have hl := trimL_length xs
  have hle := trimL_le xs
  have hcl := clone_any ax (tl xs xs.length) cx (trimL xs) _ hX (by omega)
  rw [hl] at hcl
  have hn0 : tl xs xs.length ≠ 0 := fun h => h0 (tl_zero.1 h)
  have oX := okw_trimL ox
  have tX := Tr_trimL xs
  have vX := val_trimL xs
  obtain ⟨X, eX⟩ : ∃ X, trimL xs = X := ⟨_, rfl⟩
  rw [eX] at hcl oX tX vX hl hle
  rw [← hl] at hcl hn0 ht
  have HV : Hid (val X = val xs) := vX
  have hXn : X ≠ [] := fun h => hn0 (by rw [h]; rfl)
  clear hX hl vX eX
  have ht0 : ((X.length : Int) == 0) = false := by rw [beq_eq_false_iff_ne]; omega
  go_enter Try.func16, Try.ntmps16
  go_wp2_with (first
    | (go_at_call 20; refine ht.mono ?_; rintro e w1 ⟨rfl, rfl⟩)
    | (go_at_call 29; refine hcl.mono ?_; rintro e W1 ⟨a2, c2, rfl, ho2, hb2⟩))
  clear ht hcl
  obtain ⟨g, off, hag, hBg, sX, fX⟩ := ho2.place
  obtain ⟨ea, hgl⟩ := hag hXn
  have hcap := ho2.cap
  have hbox1 := hbox.below hb2
  have hBw : Below w.heap.size w W1 := hB0.trans (hb2.mono (by simp))
  subst ea
  have hgN : g ≠ w.heap.size := by simp at hBg; omega
  clear hag ho2 hbox hb2 hB0
  have hXc : X.length ≤ 1000 := by omega
  have hcell0 := hbox1.c0
  have HB1 : Hid (Box2 W1 w.heap.size neg ax nx cx) := hbox1
  clear hbox1 hcell0 hx bx ox hle
  go_loopg [3, 4] (val X) (fun gk ws tv wr => ∃ (zs ts : List Nat), ws = .slice (some ⟨g, off, none⟩) zs.length c2 ∧ gk = val zs ∧ zs.length ≤ X.length ∧ okw zs ∧ Tr zs ∧ okd ts ∧ val X = dval ts + 10 ^ ts.length * val zs ∧ (ts.length ≤ 9 ∨ 10 ^ (ts.length - 9) ≤ val X) ∧ Seg .u32 wr g off zs ∧ Bytes W1.heap.size wr tv ts ∧ RowTurn W1 wr g off X.length)
  case atStart => exact ⟨X, [], rfl, rfl, Nat.le_refl _, oX, tX, okd_nil, by simp [dval], Or.inl (by simp), sX, World.ownsRow_nil _ _ _ _, RowTurn.refl _ _ _ _⟩
  case round =>
    obtain ⟨zs, ts, rfl, hgk, hzl, oz, tz, od, hval, hbd, sz, hbt, hrt⟩ := hrel
    have A : Aside (gk = val zs ∧ val X = dval ts + 10 ^ ts.length * val zs ∧ (ts.length ≤ 9 ∨ 10 ^ (ts.length - 9) ≤ val X)) := ⟨hgk, hval, hbd⟩
    clear hgk hval hbd
    by_cases hz0 : 0 < zs.length
    · have hzv := Try.zeroPieces
      go_wp2
      clear hzv
      obtain ⟨r, hr⟩ : ∃ r, wr.heap.size = r := ⟨_, rfl⟩
      have hrow0 := row_zero wr
      have sz0 : Seg .u32 (wr.alloc (.cells zero275 63)) g off zs := sz.below ((Below.refl wr.heap.size wr).alloc (Nat.le_refl _) _) (Nat.lt_of_lt_of_le hgl hrt.size)
      have hbt0 := hbt.alloc (.cells zero275 63)
      have hrt0 := hrt.alloc hgl (.cells zero275 63)
      have hrB : W1.heap.size ≤ r := by rw [← hr]; exact hrt.size
      rw [hr] at hrow0 ⊢
      generalize wr.alloc (.cells zero275 63) = W2 at *
      clear hr sz hbt hrt
      go_loopw [3, 6] (fun ws kv wi => ∃ (k : Nat) (ps ys : List Nat), k ≤ 275 ∧ kv = .int .i64 (k : Int) ∧ ws = .slice (some ⟨g, off, none⟩) ys.length c2 ∧ ps.length = k ∧ (∀ p ∈ ps, p < 1000000000) ∧ ys.length ≤ X.length ∧ okw ys ∧ Tr ys ∧ val zs = pval ps + 10 ^ (9 * k) * val ys ∧ (k = 0 ∧ ys = zs ∨ 0 < k ∧ val ys < val zs ∧ 10 ^ (ts.length + 9 * k - 9) ≤ val X) ∧
          Row .u32 63 wi r (ps ++ List.replicate (275 - k) 0) ∧ Seg .u32 wi g off ys ∧ Bytes W1.heap.size wi u4 ts ∧ RowTurn W1 wi g off X.length)
        (fun _ kv _ => 275 - (intOf kv).toNat)
      case atStart => exact ⟨0, [], zs, by omega, rfl, rfl, rfl, (fun p hp => by cases hp), hzl, oz, tz, by simp [pval], Or.inl ⟨rfl, rfl⟩, by simpa using hrow0, sz0, hbt0, hrt0⟩
      case round =>
        clear hrow0 sz0 hbt0 hrt0
        obtain ⟨k, ps, ys, hk, rfl, rfl, hpl, hpb, hyl, oy, ty, hvz, hst, hrow, sy, hbt, hrt⟩ := hrel
        have A2 : Aside (ps.length = k ∧ val zs = pval ps + 10 ^ (9 * k) * val ys ∧ (k = 0 ∧ ys = zs ∨ 0 < k ∧ val ys < val zs ∧ 10 ^ (ts.length + 9 * k - 9) ≤ val X)) := ⟨hpl, hvz, hst⟩
        clear hpl hvz hst
        by_cases hgo : k < 275 ∧ 0 < ys.length
        · obtain ⟨hk2, hy0⟩ := hgo
          have hgr : g < wr.heap.size := Nat.lt_of_lt_of_le hgl hrt.size
          have hrg : r ≠ g := by omega
          have hdv := divideBy_some g off ys.length c2 1000000000 (some ⟨g, off, none⟩) ys wr (by omega) rfl (fun _ => rfl) hgr sy (fun j hj => (hrt.frozen _).trans (fX j (by omega))) oy (by omega) (by omega)
          have e9 : ((1000000000 : Nat) : Int) = 1000000000 := rfl
          rw [e9] at hdv
          clear e9
          go_wp2_with fail
          refine hdv.mono ?_
          clear hdv
          rintro e w1 ⟨rfl, ⟨qs, hql, hqo, hqv, hqs⟩, hrt1⟩
          have hrow1 := hrow.turn hrt1 hrg
          have hbt1 := hbt.turn hrt1 (by omega)
          have hrt2 := hrt.trans (hrt1.widen hyl)
          obtain ⟨p, hp⟩ : ∃ p, val ys % 1000000000 = p := ⟨_, rfl⟩
          have hpb1 : p < 1000000000 := by rw [← hp]; exact Nat.mod_lt _ (by omega)
          rw [hp]
          have hvy := Nat.div_add_mod (val ys) 1000000000
          rw [hp, ← hqv] at hvy
          obtain ⟨hpl, hvz, hst⟩ := A2.out
          have hck : w1.cell? ⟨r, k, none⟩ = some (.int .u32 0) := by
            have := hrow1.seg k (by simp; omega)
            rw [Nat.zero_add, List.getElem?_append_right (by omega)] at this
            rw [this, hpl, Nat.sub_self, List.getElem?_replicate, if_pos (by omega)]
            rfl
          have hfk : w1.frozen? ⟨r, k, none⟩ = false := by
            have := hrow1.free 0 (k + 1) k (by omega)
            rwa [Nat.zero_add] at this
          have hrow2 : Row .u32 63 (w1.setCell ⟨r, k, none⟩ (.int .u32 (p : Int))) r ((ps ++ [p]) ++ List.replicate (275 - (k + 1)) 0) := by
            rw [← set_piece ps k p hpl hk2]
            exact hrow1.set k p
          have hbt2 : Bytes W1.heap.size (w1.setCell ⟨r, k, none⟩ (.int .u32 (p : Int))) u4 ts := hbt1.setRow hrow1 (by decide)
          have hrt3 : RowTurn W1 (w1.setCell ⟨r, k, none⟩ (.int .u32 (p : Int))) g off X.length := hrt2.setNew hgl (p := ⟨r, k, none⟩) hrB _
          have hqs2 : Seg .u32 (w1.setCell ⟨r, k, none⟩ (.int .u32 (p : Int))) g off qs := fun j hj => by
            rw [World.cell?_setCell_other _ _ _ _ (by intro e; injection e with e; omega)]
            exact hqs j hj
          have B2 : Aside (ps.length = k ∧ val zs = pval ps + 10 ^ (9 * k) * val ys ∧ (k = 0 ∧ ys = zs ∨ 0 < k ∧ val ys < val zs ∧ 10 ^ (ts.length + 9 * k - 9) ≤ val X) ∧ 1000000000 * val qs + p = val ys ∧ qs.length = ys.length) := ⟨hpl, hvz, hst, hvy, hql⟩
          clear A2 hpl hvz hst hvy hqv hrow1 hbt1 hrt2 hqs hrow hrt1 hrt hbt sy hp
          have hSq : Sl .u32 (w1.setCell ⟨r, k, none⟩ (.int .u32 (p : Int))) (.slice (some ⟨g, off, none⟩) ys.length c2) qs := ⟨_, c2, by rw [hql], by omega, fun _ => ⟨g, off, rfl, hqs2⟩⟩
          go_wp2_with fail
          refine (trim_any (some ⟨g, off, none⟩) ys.length c2 qs _ hSq (by omega)).mono ?_
          rintro e w3 ⟨rfl, rfl⟩
          have hqt := hqs2.take (tl qs qs.length)
          have hqt2 : Seg .u32 (w1.setCell ⟨r, k, none⟩ (.int .u32 (p : Int))) g off (trimL qs) := hqt
          have hlen := trimL_length qs
          have hvt := val_trimL qs
          have hole := trimL_le qs
          have hovs := okw_trimL hqo
          have htvs := Tr_trimL qs
          rw [← hlen]
          obtain ⟨vs, evs⟩ : ∃ vs, trimL qs = vs := ⟨_, rfl⟩
          rw [evs] at hqt2 hvt hole hovs htvs ⊢
          have C2 : Aside (val vs = val qs) := hvt
          clear hqt hqs2 hSq hlen hvt evs
          generalize w1.setCell ⟨r, k, none⟩ (.int .u32 (p : Int)) = W3 at *
          go_wp2
          go_roundw
          case rel =>
            obtain ⟨hpl, hvz, hst, hvy, hql⟩ := B2.out
            have hvq := C2.out
            obtain ⟨_, hX, _⟩ := A.out
            have hy1 : 0 < val ys := Nat.pos_of_ne_zero fun h => by have := (Tr_zero ty).1 h; omega
            obtain ⟨q1, q2, q3⟩ := piece_step hpl hvz hvy hy1 hX
            rw [← hvq] at q1 q2
            exact ⟨k + 1, ps ++ [p], vs, by omega, by go_num, rfl, by simp [hpl], fun x hx => (List.mem_append.1 hx).elim (hpb x) (fun h => by simp at h; omega), by omega, hovs, htvs, q1, Or.inr ⟨by omega, q2, q3⟩, hrow2, hqt2, hbt2, hrt3⟩
          case measure => simp [intOf]; omega
        · have hend : ¬ k < 275 ∨ ys.length = 0 := by omega
          obtain ⟨hpl, hvz, hst⟩ := A2.out
          have hk0 : 0 < k := by
            rcases hst with ⟨h1, h2⟩ | ⟨h1, _⟩
            · subst h2; omega
            · exact h1
          have hst2 : val ys < val zs ∧ 10 ^ (ts.length + 9 * k - 9) ≤ val X := by
            rcases hst with ⟨h1, _⟩ | ⟨_, h1⟩
            · omega
            · exact h1
          have B2 : Aside (ps.length = k ∧ val zs = pval ps + 10 ^ (9 * k) * val ys ∧ (val ys < val zs ∧ 10 ^ (ts.length + 9 * k - 9) ≤ val X)) := ⟨hpl, hvz, hst2⟩
          have hsp : Seg .u32 wr r 0 ps := by
            have := hrow.seg.take ps.length
            rwa [List.take_left] at this
          have hrl := hrow.lt
          have hrty : ∀ c f, wr.heap[r]? ≠ some (.cells c 5 f) := fun c f e => by
            have h1 : wr.heap[r]? = _ := hrow
            rw [h1] at e
            injection e with e
            injection e with _ e
            exact absurd e (by decide)
          have hbd := digits_bd oX A.out.2.2
          have hap := appendPieces_any W1.heap.size r 0 275 u4 ts ps wr hbt (Nat.le_trans hrB (Nat.le_of_lt hrl)) hrl hrty hsp (fun p hp => by have := hpb p hp; omega) (by omega) (by omega)
          rw [hpl] at hap
          clear A2 hpl hvz hst hgo hst2 hsp hrty hbd
          have fin : ∀ (tv' : Value) (w' : World), Bytes W1.heap.size w' tv' (ts ++ dgs ps) → TextTurn W1.heap.size wr w' →
              (∃ (zs ts : List Nat), Value.slice (some ⟨g, off, none⟩) ys.length c2 = .slice (some ⟨g, off, none⟩) zs.length c2 ∧ val ys = val zs ∧ zs.length ≤ X.length ∧ okw zs ∧ Tr zs ∧ okd ts ∧ val X = dval ts + 10 ^ ts.length * val zs ∧ (ts.length ≤ 9 ∨ 10 ^ (ts.length - 9) ≤ val X) ∧ Seg .u32 w' g off zs ∧ Bytes W1.heap.size w' tv' ts ∧ RowTurn W1 w' g off X.length) := by
            intro tv' w' hb' ht'
            obtain ⟨hpl, hvz, _, h2⟩ := B2.out
            refine ⟨ys, ts ++ dgs ps, rfl, rfl, hyl, oy, ty, okd_append.2 ⟨od, okd_dgs ps⟩, pieces_val hpl hpb A.out.2.1 hvz, Or.inr ?_, ht'.seg sy (Nat.lt_of_lt_of_le hgl hrt.size) hgl, hb', ht'.rowTurn hrt (Nat.le_refl _) hgl⟩
            rw [List.length_append, dgs_length, hpl]
            exact h2
          have FIN := @fin
          clear fin
          by_cases hk2 : k < 275
          · have hy0 : ¬ (0 : Int) < (ys.length : Int) := by omega
            have hsl := fun W => slice_pieces r k hk W
            go_wp2_with (go_at_call 32; refine hap.mono ?_; rintro e w5 ⟨tv5, rfl, hb5, ht5⟩)
            have F := FIN tv5 w5 hb5 ht5
            go_roundg (val ys)
            case measure =>
              obtain ⟨_, _, h1, _⟩ := B2.out
              rw [A.out.1]
              exact h1
            case rel => exact F
          · have hk3 : ¬ (k : Int) < 275 := by omega
            have hsl := fun W => slice_pieces r k hk W
            go_wp2_with (go_at_call 32; refine hap.mono ?_; rintro e w5 ⟨tv5, rfl, hb5, ht5⟩)
            have F := FIN tv5 w5 hb5 ht5
            go_roundg (val ys)
            case measure =>
              obtain ⟨_, _, h1, _⟩ := B2.out
              rw [A.out.1]
              exact h1
            case rel => exact F
    · obtain ⟨hgk, hval, hbd⟩ := A.out
      have hbd2 := digits_bd oX hbd
      have hz1 : val zs = 0 := (Tr_zero tz).2 (by omega)
      rw [hz1, Nat.mul_zero, Nat.add_zero, HV.out] at hval
      have hd0 : dval ts ≠ 0 := by rw [← hval]; exact h0
      have htn : ts ≠ [] := fun h => hd0 (by rw [h]; rfl)
      obtain ⟨gt, ct, et, hBt, hct, hmx, hgt⟩ := hbt.place htn
      subst et
      have htl : 0 < ts.length := List.length_pos_iff.2 htn
      have hnb : wr.cell? ⟨w.heap.size, 0, none⟩ = some (.bool neg) := by
        rw [World.cell?_of_block (a := ⟨w.heap.size, 0, none⟩) (hrt.block w.heap.size HB1.out.lt (fun e => hgN e.symm))]
        exact HB1.out.c0
      have st := hbt.ow.sl
      have hst : Seg .u8 wr gt 0 ts := by
        obtain ⟨b, o, e1, h1⟩ := st.place
        obtain ⟨e2, _⟩ := e1 htn
        injection e2 with e2
        injection e2 with e2 e3
        subst e2; subst e3
        exact h1
      have D : Aside (val xs = dval ts ∧ dval ts ≠ 0) := ⟨hval, hd0⟩
      have hzl0 : ¬ (0 : Int) < (zs.length : Int) := by omega
      have hBr : Below w.heap.size w wr := hBw.trans (hrt.below (by simp at hBg; omega) hBw.size)
      clear st hz1 hval hbd hgk hd0 A
      go_wp2
      go_loopg [4] ts.length (fun gk tv wi => wi = wr ∧ tv = .slice (some ⟨gt, 0, none⟩) gk ct ∧ 0 < gk ∧ gk ≤ ts.length ∧ dval (ts.take gk) = dval ts)
      case atStart => exact ⟨rfl, rfl, htl, Nat.le_refl _, by rw [List.take_length]⟩
      case round =>
        obtain ⟨rfl, rfl, hm0, hml, hmv⟩ := hrel
        cases gk with
        | zero => exact absurd hm0 (by simp)
        | succ m =>
          have E : Aside (dval (ts.take (m + 1)) = dval ts) := hmv
          clear hmv
          have hcell := hst m (by omega)
          rw [Nat.zero_add] at hcell
          obtain ⟨x, hx⟩ : ∃ x, ts[m]?.getD 0 = x := ⟨_, rfl⟩
          rw [hx] at hcell
          have HX : Hid (ts[m]?.getD 0 = x) := hx
          clear hx
          by_cases hx48 : x = 48
          · subst hx48
            have ht48 : (((48 : Nat) : Int) == 48) = true := rfl
            have hcut := dval_cut (show m < ts.length by omega) HX.out
            have hm1 : 0 < m := by
              refine Nat.pos_of_ne_zero fun h => D.out.2 ?_
              rw [← E.out, hcut, h]
              rfl
            have E2 : Aside (dval (ts.take m) = dval ts) := hcut.symm.trans E.out
            clear hcut
            go_wp2
            go_roundg m
            case measure => omega
            case rel => exact ⟨rfl, rfl, hm1, by omega, E2.out⟩
          · have ht48 : ((x : Int) == 48) = false := by rw [beq_eq_false_iff_ne]; omega
            have hbc := hbt.cut hml
            have hul : (ts.take (m + 1)).length = m + 1 := by rw [List.length_take]; omega
            have hdec : IsDec (ts.take (m + 1)) (val xs) := by
              refine ⟨okd_take od _, by rw [E.out]; exact D.out.1.symm, Or.inr ?_⟩
              rw [hul, List.getElem?_take_of_lt (by omega), Nat.add_sub_cancel, HX.out]
              exact hx48
            obtain ⟨us, hus⟩ : ∃ us, ts.take (m + 1) = us := ⟨_, rfl⟩
            rw [hus] at hbc hul hdec
            have hun : us ≠ [] := fun h => by rw [h] at hul; simp at hul
            have HUL : Hid (us.length = m + 1) := hul
            have HUL2 : Hid (us.length = m + 1) := hul
            clear hus
            cases neg with
            | true =>
              obtain ⟨i0, hi, hz0, hz1, hz2⟩ := info_parts Try.infoByte
              have hown1 : wr.ownsRow W1.heap.size 5 1 (.slice (some ⟨gt, 0, none⟩) (m + 1) ct) (m + 1) (us.map fun x : Nat => Value.int .u8 (x : Int)) := by
                have := hbc
                unfold Bytes at this
                rwa [hul] at this
              clear hul
              have hwW : W1.heap.size ≤ wr.heap.size := hrt.size
              go_wp2_with (at_builtin; refine wpList_append_own _ rfl _ _ 61 rfl W1.heap.size 5 i0 (.int .u8 0) 1 1 Try.underlying61 hi hz0 hz1 hz2 rfl (by decide) _ _ _ rfl (World.ownsRow.alloc hown1 _) ⟨wr.heap.size, 0, none⟩ 1 1 [.int .u8 45] rfl rfl (new_one _ _ _) (by simp [Value.oneCell']) (by unfold maxLen; omega) (by omega) (by simp; omega) ?_; intro v6 w6 hown6 hgrow6 _)
              have hgrow' : (wr.alloc (.cells #[.int .u8 45] 5)).grownBy w6 (Value.slice (some ⟨gt, 0, none⟩) (m + 1) ct).ownBlock := hgrow6
              have hTT : TextTurn W1.heap.size wr w6 := (TextTurn.of_below ((Below.refl _ _).alloc (Nat.le_refl _) _)).trans (TextTurn.grown hgrow' (World.ownsRow.alloc hown1 _))
              have hB6 : Bytes W1.heap.size w6 v6 (us ++ [45]) := by
                unfold Bytes
                rw [List.length_append, HUL.out]
                simpa using hown6
              have hB7 : Below w.heap.size w w6 := hBr.trans ((hTT.below hwW).mono hBw.size)
              obtain ⟨bs, hbs⟩ : ∃ bs, us ++ [45] = bs := ⟨_, rfl⟩
              have HBS : Hid (us ++ [45] = bs) := hbs
              rw [hbs] at hB6
              have hbn : bs ≠ [] := by rw [← hbs]; simp
              have hbl : bs.length ≤ 10000000 := by rw [← hbs, List.length_append, HUL.out]; simp; omega
              clear hbs hown6 hgrow6 hgrow' hown1 hTT
              obtain ⟨g6, c6, e6, hB6g, _⟩ := hB6.place hbn
              subst e6
              obtain ⟨b6, o6, hp6, _, s6, f6⟩ := hB6.ow.place
              obtain ⟨ep, _⟩ := hp6 hbn
              injection ep with ep
              injection ep with ep1 ep2
              subst ep1; subst ep2
              refine (reverse_some g6 0 c6 bs w6 s6 f6 (List.length_pos_iff.2 hbn) hbl).mono ?_
              rintro e w7 ⟨rfl, s7, o7⟩
              have hcv := conv_bytes g6 bs.length c6 bs.reverse w7 (by simp) s7
              have hB8 : Below w.heap.size w w7 := hB7.trans (o7.below (Nat.le_trans hBw.size hB6g))
              have R : Aside (textOf bs.reverse = textOf (decBytes true us)) := by
                show textOf bs.reverse = _
                rw [← HBS.out, decBytes]
                simp
              obtain ⟨T, hT⟩ : ∃ T, textOf bs.reverse = T := ⟨_, rfl⟩
              rw [hT] at hcv R
              clear hT s7 o7 s6 f6
              go_wp2
              go_ret
              exact ⟨us, by rw [← R.out]; rfl, hdec, hB8⟩
            | false =>
              have hbl : us.length ≤ 10000000 := by omega
              obtain ⟨b6, o6, hp6, _, s6, f6⟩ := hbc.ow.place
              obtain ⟨ep, _⟩ := hp6 hun
              injection ep with ep
              injection ep with ep1 ep2
              subst ep1; subst ep2
              have hrv := reverse_some gt 0 ct us wr s6 f6 (List.length_pos_iff.2 hun) hbl
              rw [hul] at hrv
              clear hul
              go_wp2_with (go_at_call 33; refine hrv.mono ?_; rintro e w7 ⟨rfl, s7, o7⟩; have hcv := conv_bytes gt (m + 1) ct us.reverse w7 (by simpa using HUL2.out) s7)
              have hB8 : Below w.heap.size w w7 := hBr.trans (o7.below (Nat.le_trans hBw.size hBt))
              go_ret
              exact ⟨us, by simp [decBytes], hdec, hB8⟩

/-- Text: the digits of the value, a sign ahead where it is below 0. -/
theorem text_any (neg : Bool) (ax : Option Addr) (nx cx : Nat) (xs : List Nat) (w : World) (hx : Sl .u32 w (.slice ax nx cx) xs) (ox : okw xs) (bx : xs.length ≤ 1000) :
    Calls Try.prog 16 #[.agg #[.bool neg, .slice ax nx cx]] w fun e w' => ∃ bs, e = .returned (textOf bs) ∧ (val xs = 0 ∧ bs = [48] ∨ val xs ≠ 0 ∧ ∃ ts, bs = decBytes neg ts ∧ IsDec ts (val xs)) ∧ Below w.heap.size w w' := by
  by_cases h0 : val xs = 0
  · refine (text_zero neg ax nx cx xs w hx h0 (by omega)).mono ?_
    rintro e w' ⟨rfl, hb⟩
    exact ⟨[48], rfl, Or.inl ⟨h0, rfl⟩, hb⟩
  · refine (text_some neg ax nx cx xs w hx h0 ox bx).mono ?_
    rintro e w' ⟨ts, rfl, hd, hb⟩
    exact ⟨_, rfl, Or.inr ⟨h0, ts, rfl, hd⟩, hb⟩
end Go.Proofs.Yteplmnnpmekngab
