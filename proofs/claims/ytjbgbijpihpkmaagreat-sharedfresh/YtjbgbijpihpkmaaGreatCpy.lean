/-
  Rows of bytes that a call has made.
  Copies of the rows of three widths.
  All of cells.
-/
import Derived.Test.YtjbgbijpihpkmaaGreatCrw
import Derived.Deep.RegionHeld3
import Derived.Deep.CutRange
namespace Go.Proofs.YtjbgbijpihpkmaaGreat
open Go.RowKit Go.WideShapes

theorem Tryz.infoByte : (Tryz.prog.info? 5).map (fun i => (i.zero, i.size, i.bytes)) = some (some (.int .u8 0), 1, 1) := by kernel_rfl
/-- The first m of these bytes, in a row of one's own. -/
def bl (m : Nat) (g : Nat → Int) : List Value := (List.range m).map fun j => Value.int .u8 (g j)
theorem bl_len (m : Nat) (g : Nat → Int) : (bl m g).length = m := by simp [bl]
theorem bl_succ (m : Nat) (g : Nat → Int) : bl (m + 1) g = bl m g ++ [Value.int .u8 (g m)] := by simp [bl, List.range_succ]
theorem bl_get (m : Nat) (g : Nat → Int) (j : Nat) (hj : j < m) : (bl m g)[j]? = some (.int .u8 (g j)) := by simp [bl, hj]
def Byt (B : Nat) (w : World) (v : Value) (m : Nat) (g : Nat → Int) : Prop := w.ownsRow B 5 1 v m (bl m g)
theorem Byt.nil (B : Nat) (w : World) (g : Nat → Int) : Byt B w (.slice none 0 0) 0 g := ⟨rfl, Or.inl ⟨rfl, rfl⟩⟩
theorem Byt.snoc {B : Nat} {w : World} {v : Value} {m : Nat} {g : Nat → Int} {x : Int} (h : w.ownsRow B 5 1 v (m + 1) (bl m g ++ [Value.int .u8 x])) (e : x = g m) : Byt B w v (m + 1) g := by
  unfold Byt
  rw [bl_succ, ← e]
  exact h
theorem new_one (w : World) (x : Value) (t : TypeId) : ∀ j u, [x][j]? = some u → (w.alloc (.cells #[x] t)).cell? (Addr.add ⟨w.heap.size, 0, none⟩ j) = some u := by
  intro j u hj
  match j, hj with
  | 0, hj => rw [WideShapes.add_plain, World.cell?_alloc_at _ _ _ _ rfl]; simpa using hj
  | j + 1, hj => simp at hj
theorem below_grown {B n : Nat} {w wr w1 : World} {v : Value} {xs : List Value} {o : Obj} {t : TypeId} (hb : Below B w wr) (hB : B ≤ w.heap.size) (hown : wr.ownsRow B t 1 v n xs) (hg : (wr.alloc o).grownBy w1 v.ownBlock) : Below B w w1 := by
  refine (hb.alloc (Nat.le_trans hB hb.size) o).grown hg (by simp; have := hb.size; omega) (fun k e => ?_)
  rcases hown.2 with ⟨rfl, _⟩ | ⟨g, cap, cur, rfl, h1, _⟩
  · cases e
  · simp [Value.ownBlock] at e
    omega
/-- Byte j of cells of W bytes. -/
def bt (W : Nat) (f : Nat → Int) (j : Nat) : Int := f (j / W) / 256 ^ (j % W) % 256
theorem bt_at (W i k : Nat) (f : Nat → Int) (hk : k < W) : bt W f (i * W + k) = f i / 256 ^ k % 256 := by
  unfold bt
  rw [Nat.mul_comm i W, Nat.mul_add_div (by omega), Nat.div_eq_of_lt hk, Nat.add_zero, Nat.mul_add_mod, Nat.mod_eq_of_lt hk]
end Go.Proofs.YtjbgbijpihpkmaaGreat
namespace Go.Proofs.YtjbgbijpihpkmaaGreat
open Go.RowKit Go.WideShapes

/-- The first n of these numbers, in a row. -/
def nl (k : IntKind) (n : Nat) (f : Nat → Int) : List Value := (List.range n).map fun j => Value.int k (f j)
theorem nl_len (k : IntKind) (n : Nat) (f : Nat → Int) : (nl k n f).length = n := by simp [nl]
theorem nl_get (k : IntKind) (n : Nat) (f : Nat → Int) (j : Nat) (hj : j < n) : (nl k n f)[j]? = some (.int k (f j)) := by simp [nl, hj]
theorem nl_cells {w : World} {h n : Nat} {k : IntKind} {f : Nat → Int} (hc : ∀ j, j < n → w.cell? ⟨h, j, none⟩ = some (.int k (f j))) : ∀ j u, (nl k n f)[j]? = some u → w.cell? (Addr.add ⟨h, 0, none⟩ j) = some u := by
  intro j u hj
  by_cases hlt : j < n
  · rw [nl_get _ _ _ _ hlt] at hj
    rw [WideShapes.add_plain, Nat.zero_add, hc j hlt, hj]
  · rw [List.getElem?_eq_none (by rw [nl_len]; omega)] at hj
    simp at hj
/-- What a copy is. -/
structure Cpy (w w' : World) (g S cap : Nat) (k : IntKind) (f : Nat → Int) : Prop where
  ge : w.heap.size ≤ g
  le : S ≤ cap
  hc : ∀ j, j < S → w'.cell? ⟨g, j, none⟩ = some (.int k (f j))
  hz : ∀ j, w'.frozen? ⟨g, j, none⟩ = false
  b : Below w.heap.size w w'
theorem cpy_of {w w2 : World} {t : TypeId} {k : IntKind} {v : Value} {S B : Nat} {f : Nat → Int} (hS : 0 < S) (hB : B = w.heap.size) (h : w2.ownsRow B t 1 v (0 + S) ([] ++ nl k S f)) (hg : (w.alloc (.cells #[] t)).grownBy w2 (some B)) :
    ∃ g cap, v = .slice (some ⟨g, 0, none⟩) S cap ∧ Cpy w w2 g S cap k f := by
  subst hB
  rw [Nat.zero_add, List.nil_append] at h
  rcases h.2 with ⟨_, h0⟩ | ⟨g, cap, cur, rfl, h1, h2, h3, _⟩
  · omega
  · refine ⟨g, cap, rfl, h1, h3, fun j hj => ?_, fun j => h.frozenAt j, ?_⟩
    · rw [h.cellAt j (by omega), nl_get _ _ _ _ hj]
    · exact (((Below.refl _ w).alloc (Nat.le_refl _) _).grown hg (by simp) (fun k e => by simp at e; omega))
theorem rw_copy {w w2 : World} {g S cap W : Nat} {k : IntKind} {f : Nat → Int} {ty : TypeId} (h : Cpy w w2 g S cap k f) (hS0 : 0 < S) : Rw (w2.alloc (.cells #[.int .i64 (W : Int), .slice (some ⟨g, 0, none⟩) S cap] ty)) w2.heap.size g k W S cap f := by
  have e : (w2.alloc (.cells #[.int .i64 (W : Int), .slice (some ⟨g, 0, none⟩) S cap] ty)).heap[g]? = w2.heap[g]? := Below.heap_alloc _ _ _ (lt_of_cell (h.hc 0 hS0))
  exact ⟨by rw [World.cell?_alloc_at _ _ _ _ rfl]; rfl, by rw [World.cell?_alloc_at _ _ _ _ rfl]; rfl, h.le, fun j hj => (World.cell?_of_block (a := ⟨g, j, none⟩) e).trans (h.hc j hj), fun j => (World.frozen?_of_block (a := ⟨g, j, none⟩) e).trans (h.hz j)⟩

set_option maxRecDepth 100000 in
set_option maxHeartbeats 2000000 in
theorem clone8 {w : World} {h S cap : Nat} {f : Nat → Int} (hc : ∀ j, j < S → w.cell? ⟨h, j, none⟩ = some (.int .i8 (f j))) (hS0 : 0 < S) (hS : S ≤ 1048576) :
    Calls Tryz.prog 198 #[.slice (some ⟨h, 0, none⟩) S cap] w fun e w' => ∃ g cap', e = .returned (.slice (some ⟨g, 0, none⟩) S cap') ∧ Cpy w w' g S cap' .i8 f := by
  obtain ⟨i0, hi, hz0, hz1, hz2⟩ := info_parts Tryz.info8
  have hn : ∀ w h S cap, (binOp .eql 202 (.slice (some ⟨h, 0, none⟩) S cap) (.slice none 0 0)).run Tryz.prog w = .ok (.bool false) w := fun _ _ _ _ => by kernel_rfl
  have HN : Hid (∀ j u, (nl .i8 S f)[j]? = some u → (w.alloc (.cells #[] 242)).cell? (Addr.add ⟨h, 0, none⟩ j) = some u) := nl_cells fun j hj => ((Below.refl _ w).alloc (Nat.le_refl _) _).cell (p := ⟨h, j, none⟩) (lt_of_cell (hc j hj)) |>.trans (hc j hj)
  clear hc
  go_enter Tryz.func198, Tryz.ntmps198
  go_wp2_with (at_builtin; refine wpList_append_own _ rfl _ _ 202 rfl w.heap.size 242 i0 (.int .i8 0) 1 1 Tryz.underlying202 hi hz0 hz1 hz2 rfl (by decide) _ _ [] rfl (World.ownsRow_lit w #[] 0 (Nat.le_refl _) (by decide) rfl) ⟨h, 0, none⟩ S cap (nl .i8 S f) rfl (by rw [nl_len, Nat.mul_one]) HN.out (by intro u hu; simp [nl] at hu; obtain ⟨j, _, rfl⟩ := hu; rfl) (by unfold maxLen; omega) (by omega) (by simp) ?_; intro v' w2 hown2 hgrow _; obtain ⟨g, cap', ev, hCp⟩ := cpy_of hS0 rfl hown2 hgrow; subst ev; clear hgrow hown2)
  go_ret
  exact ⟨_, _, rfl, hCp⟩
set_option maxRecDepth 100000 in
set_option maxHeartbeats 2000000 in
theorem copied8 {w : World} {r h W S cap : Nat} {f : Nat → Int} (hR : Rw w r h .i8 W S cap f) (hS0 : 0 < S) (hS : S ≤ 1048576) :
    Calls Tryz.prog 193 #[.pointer (some ⟨r, 0, none⟩)] w fun e w' => ∃ r' h' cap', e = .returned (.iface 201 (.pointer (some ⟨r', 0, none⟩))) ∧ w.heap.size ≤ r' ∧ w.heap.size ≤ h' ∧ Rw w' r' h' .i8 W S cap' f ∧ Below w.heap.size w w' := by
  have h0 := hR.r0
  have h1 := hR.r1
  have CC := clone8 (w := w.drew) (cap := cap) hR.hc hS0 hS
  have l1 := lt_of_cell h0
  clear hR
  go_enter Tryz.func193, Tryz.ntmps193
  go_wp2_with fail
  go_region_held3 (fun V => V.cell? ⟨r, 0, none⟩ = some (.int .i64 (W : Int)) ∧ V.cell? ⟨r, 1, none⟩ = some (.slice (some ⟨h, 0, none⟩) S cap))
    (first | exact ⟨h0, h1⟩ | exact ⟨q0, q1⟩ | exact ⟨(HB.out.cell (p := ⟨r, 0, none⟩) l1).trans h0, (HB.out.cell (p := ⟨r, 1, none⟩) l1).trans h1⟩ | fail)
    (first | (go_at_call 198; refine CC.mono ?_; rintro e w2 ⟨g, cap', rfl, hCp⟩; have hb2 : Below w.heap.size w w2 := ((Below.refl _ w).drew).trans hCp.b; have q0 := (hb2.cell (p := ⟨r, 0, none⟩) l1).trans h0; have q1 := (hb2.cell (p := ⟨r, 1, none⟩) l1).trans h1; have HB := Lib.hid (hb2.alloc hb2.size (.cells #[.int .i64 (W : Int), .slice (some ⟨g, 0, none⟩) S cap'] 204))) | fail)
  go_wp2
  go_ret
  exact ⟨_, _, _, rfl, hb2.size, hCp.ge, rw_copy hCp hS0, HB.out⟩
set_option maxRecDepth 100000 in
set_option maxHeartbeats 2000000 in
theorem clone16 {w : World} {h S cap : Nat} {f : Nat → Int} (hc : ∀ j, j < S → w.cell? ⟨h, j, none⟩ = some (.int .i16 (f j))) (hS0 : 0 < S) (hS : S ≤ 1048576) :
    Calls Tryz.prog 205 #[.slice (some ⟨h, 0, none⟩) S cap] w fun e w' => ∃ g cap', e = .returned (.slice (some ⟨g, 0, none⟩) S cap') ∧ Cpy w w' g S cap' .i16 f := by
  obtain ⟨i0, hi, hz0, hz1, hz2⟩ := info_parts Tryz.info16
  have hn : ∀ w h S cap, (binOp .eql 206 (.slice (some ⟨h, 0, none⟩) S cap) (.slice none 0 0)).run Tryz.prog w = .ok (.bool false) w := fun _ _ _ _ => by kernel_rfl
  have HN : Hid (∀ j u, (nl .i16 S f)[j]? = some u → (w.alloc (.cells #[] 244)).cell? (Addr.add ⟨h, 0, none⟩ j) = some u) := nl_cells fun j hj => ((Below.refl _ w).alloc (Nat.le_refl _) _).cell (p := ⟨h, j, none⟩) (lt_of_cell (hc j hj)) |>.trans (hc j hj)
  clear hc
  go_enter Tryz.func205, Tryz.ntmps205
  go_wp2_with (at_builtin; refine wpList_append_own _ rfl _ _ 206 rfl w.heap.size 244 i0 (.int .i16 0) 1 2 Tryz.underlying206 hi hz0 hz1 hz2 rfl (by decide) _ _ [] rfl (World.ownsRow_lit w #[] 0 (Nat.le_refl _) (by decide) rfl) ⟨h, 0, none⟩ S cap (nl .i16 S f) rfl (by rw [nl_len, Nat.mul_one]) HN.out (by intro u hu; simp [nl] at hu; obtain ⟨j, _, rfl⟩ := hu; rfl) (by unfold maxLen; omega) (by omega) (by simp) ?_; intro v' w2 hown2 hgrow _; obtain ⟨g, cap', ev, hCp⟩ := cpy_of hS0 rfl hown2 hgrow; subst ev; clear hgrow hown2)
  go_ret
  exact ⟨_, _, rfl, hCp⟩
set_option maxRecDepth 100000 in
set_option maxHeartbeats 2000000 in
theorem copied16 {w : World} {r h W S cap : Nat} {f : Nat → Int} (hR : Rw w r h .i16 W S cap f) (hS0 : 0 < S) (hS : S ≤ 1048576) :
    Calls Tryz.prog 200 #[.pointer (some ⟨r, 0, none⟩)] w fun e w' => ∃ r' h' cap', e = .returned (.iface 205 (.pointer (some ⟨r', 0, none⟩))) ∧ w.heap.size ≤ r' ∧ w.heap.size ≤ h' ∧ Rw w' r' h' .i16 W S cap' f ∧ Below w.heap.size w w' := by
  have h0 := hR.r0
  have h1 := hR.r1
  have CC := clone16 (w := w.drew) (cap := cap) hR.hc hS0 hS
  have l1 := lt_of_cell h0
  clear hR
  go_enter Tryz.func200, Tryz.ntmps200
  go_wp2_with fail
  go_region_held3 (fun V => V.cell? ⟨r, 0, none⟩ = some (.int .i64 (W : Int)) ∧ V.cell? ⟨r, 1, none⟩ = some (.slice (some ⟨h, 0, none⟩) S cap))
    (first | exact ⟨h0, h1⟩ | exact ⟨q0, q1⟩ | exact ⟨(HB.out.cell (p := ⟨r, 0, none⟩) l1).trans h0, (HB.out.cell (p := ⟨r, 1, none⟩) l1).trans h1⟩ | fail)
    (first | (go_at_call 205; refine CC.mono ?_; rintro e w2 ⟨g, cap', rfl, hCp⟩; have hb2 : Below w.heap.size w w2 := ((Below.refl _ w).drew).trans hCp.b; have q0 := (hb2.cell (p := ⟨r, 0, none⟩) l1).trans h0; have q1 := (hb2.cell (p := ⟨r, 1, none⟩) l1).trans h1; have HB := Lib.hid (hb2.alloc hb2.size (.cells #[.int .i64 (W : Int), .slice (some ⟨g, 0, none⟩) S cap'] 208))) | fail)
  go_wp2
  go_ret
  exact ⟨_, _, _, rfl, hb2.size, hCp.ge, rw_copy hCp hS0, HB.out⟩
set_option maxRecDepth 100000 in
set_option maxHeartbeats 2000000 in
theorem clone32 {w : World} {h S cap : Nat} {f : Nat → Int} (hc : ∀ j, j < S → w.cell? ⟨h, j, none⟩ = some (.int .i32 (f j))) (hS0 : 0 < S) (hS : S ≤ 1048576) :
    Calls Tryz.prog 212 #[.slice (some ⟨h, 0, none⟩) S cap] w fun e w' => ∃ g cap', e = .returned (.slice (some ⟨g, 0, none⟩) S cap') ∧ Cpy w w' g S cap' .i32 f := by
  obtain ⟨i0, hi, hz0, hz1, hz2⟩ := info_parts Tryz.info32
  have hn : ∀ w h S cap, (binOp .eql 210 (.slice (some ⟨h, 0, none⟩) S cap) (.slice none 0 0)).run Tryz.prog w = .ok (.bool false) w := fun _ _ _ _ => by kernel_rfl
  have HN : Hid (∀ j u, (nl .i32 S f)[j]? = some u → (w.alloc (.cells #[] 21)).cell? (Addr.add ⟨h, 0, none⟩ j) = some u) := nl_cells fun j hj => ((Below.refl _ w).alloc (Nat.le_refl _) _).cell (p := ⟨h, j, none⟩) (lt_of_cell (hc j hj)) |>.trans (hc j hj)
  clear hc
  go_enter Tryz.func212, Tryz.ntmps212
  go_wp2_with (at_builtin; refine wpList_append_own _ rfl _ _ 210 rfl w.heap.size 21 i0 (.int .i32 0) 1 4 Tryz.underlying210 hi hz0 hz1 hz2 rfl (by decide) _ _ [] rfl (World.ownsRow_lit w #[] 0 (Nat.le_refl _) (by decide) rfl) ⟨h, 0, none⟩ S cap (nl .i32 S f) rfl (by rw [nl_len, Nat.mul_one]) HN.out (by intro u hu; simp [nl] at hu; obtain ⟨j, _, rfl⟩ := hu; rfl) (by unfold maxLen; omega) (by omega) (by simp) ?_; intro v' w2 hown2 hgrow _; obtain ⟨g, cap', ev, hCp⟩ := cpy_of hS0 rfl hown2 hgrow; subst ev; clear hgrow hown2)
  go_ret
  exact ⟨_, _, rfl, hCp⟩
set_option maxRecDepth 100000 in
set_option maxHeartbeats 2000000 in
theorem copied32 {w : World} {r h W S cap : Nat} {f : Nat → Int} (hR : Rw w r h .i32 W S cap f) (hS0 : 0 < S) (hS : S ≤ 1048576) :
    Calls Tryz.prog 207 #[.pointer (some ⟨r, 0, none⟩)] w fun e w' => ∃ r' h' cap', e = .returned (.iface 209 (.pointer (some ⟨r', 0, none⟩))) ∧ w.heap.size ≤ r' ∧ w.heap.size ≤ h' ∧ Rw w' r' h' .i32 W S cap' f ∧ Below w.heap.size w w' := by
  have h0 := hR.r0
  have h1 := hR.r1
  have CC := clone32 (w := w.drew) (cap := cap) hR.hc hS0 hS
  have l1 := lt_of_cell h0
  clear hR
  go_enter Tryz.func207, Tryz.ntmps207
  go_wp2_with fail
  go_region_held3 (fun V => V.cell? ⟨r, 0, none⟩ = some (.int .i64 (W : Int)) ∧ V.cell? ⟨r, 1, none⟩ = some (.slice (some ⟨h, 0, none⟩) S cap))
    (first | exact ⟨h0, h1⟩ | exact ⟨q0, q1⟩ | exact ⟨(HB.out.cell (p := ⟨r, 0, none⟩) l1).trans h0, (HB.out.cell (p := ⟨r, 1, none⟩) l1).trans h1⟩ | fail)
    (first | (go_at_call 212; refine CC.mono ?_; rintro e w2 ⟨g, cap', rfl, hCp⟩; have hb2 : Below w.heap.size w w2 := ((Below.refl _ w).drew).trans hCp.b; have q0 := (hb2.cell (p := ⟨r, 0, none⟩) l1).trans h0; have q1 := (hb2.cell (p := ⟨r, 1, none⟩) l1).trans h1; have HB := Lib.hid (hb2.alloc hb2.size (.cells #[.int .i64 (W : Int), .slice (some ⟨g, 0, none⟩) S cap'] 212))) | fail)
  go_wp2
  go_ret
  exact ⟨_, _, _, rfl, hb2.size, hCp.ge, rw_copy hCp hS0, HB.out⟩
theorem row_copied {w : World} {r h W S cap L : Nat} {f : Nat → Int} (hR : Rw w r h (kd L) W S cap f) (hS0 : 0 < S) (hS : S ≤ 1048576) :
    Calls Tryz.prog (copiedF L) #[.pointer (some ⟨r, 0, none⟩)] w fun e w' => ∃ r' h' cap', e = .returned (.iface (rty L) (.pointer (some ⟨r', 0, none⟩))) ∧ w.heap.size ≤ r' ∧ w.heap.size ≤ h' ∧ Rw w' r' h' (kd L) W S cap' f ∧ Below w.heap.size w w' := by
  rcases L_cases L with h1 | ⟨h1, h2⟩ | ⟨h1, h2⟩
  · rw [show kd L = .i8 by simp [kd, h1]] at hR ⊢
    rw [show copiedF L = 193 by simp [copiedF, h1], show rty L = 201 by simp [rty, h1]]
    exact copied8 hR hS0 hS
  · rw [show kd L = .i16 by simp [kd, h1, h2]] at hR ⊢
    rw [show copiedF L = 200 by simp [copiedF, h1, h2], show rty L = 205 by simp [rty, h1, h2]]
    exact copied16 hR hS0 hS
  · rw [show kd L = .i32 by simp [kd, h1, h2]] at hR ⊢
    rw [show copiedF L = 207 by simp [copiedF, h1, h2], show rty L = 209 by simp [rty, h1, h2]]
    exact copied32 hR hS0 hS
end Go.Proofs.YtjbgbijpihpkmaaGreat
namespace Go.Proofs.YtjbgbijpihpkmaaGreat
open Go.RowKit Go.WideShapes

/-- What All hands out: a copy's each. -/
def itv (L r : Nat) : Value := .func (.method "lexicon/cells.each") #[.iface (rty L) (.pointer (some ⟨r, 0, none⟩))] #[]
theorem allM_any {w : World} {g r h L S : Nat} {f : Nat → Int} (hC : Cl w g r h L S f) : Calls Tryz.prog 98 #[.pointer (some ⟨g, 0, none⟩)] w fun e w' => ∃ r' h' cap', e = .returned (itv L r') ∧ w.heap.size ≤ r' ∧ w.heap.size ≤ h' ∧ Rw w' r' h' (kd L) (wd L) S cap' f ∧ Below w.heap.size w w' := by
  have C1 := isNone_cl hC
  have C2 := row_copied hC.rw (by have := hC.sz.pos; omega) hC.sz.most
  have h1 := hC.c1
  have hm := fun w => m_copied L (some ⟨r, 0, none⟩) w
  have he := e_copied L
  have hmf : ∀ (fn : Fn) (first cap : Array Value) (w : World), (Instr.makeFunc fn first cap).run Tryz.prog w = .ok (.func fn first cap) w := fun _ _ _ _ => rfl
  unfold itv
  clear hC
  generalize copiedF L = Y at *
  generalize rty L = T at *
  generalize kd L = K0 at *
  generalize wd L = W0 at *
  go_enter Tryz.func98, Tryz.ntmps98
  go_wp2_with fail
  refine C1.mono ?_
  rintro e w1 ⟨rfl, rfl⟩
  clear C1
  go_wp2_with fail
  refine C2.mono ?_
  rintro e w2 ⟨r', h', cap', rfl, h2, h3, hR, hB⟩
  clear C2
  go_wp2
  go_ret
  exact ⟨_, _, _, rfl, h2, h3, hR, hB⟩
end Go.Proofs.YtjbgbijpihpkmaaGreat
