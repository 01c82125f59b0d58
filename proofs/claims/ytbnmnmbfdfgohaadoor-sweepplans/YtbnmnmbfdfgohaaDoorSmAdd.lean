/-
  Free and Add of slots.
-/
import Derived.Test.YtbnmnmbfdfgohaaDoorSmOps
namespace Go.Proofs.YtbnmnmbfdfgohaaDoor
open Go.RowKit Go.WideShapes

theorem wpListS_clear_run {P : Program} {ops : Array Oper} {rest : List Oper} {o : Oper} {a : Act} {w w2 : World} {Q : Exit → Act → World → Prop} (hgd : o.guard = none) (d : Operand) (dT : TypeId)
    (ho : o.op = .call { callee := .builtin .clear, args := #[d], argTypes := #[dT] }) (v1 v : Value) (h1 : a.eval d = v1) (hrun : (Builtin.clear_ #[dT] o.type #[v1]).run P w = .ok v w2)
    (h : wpList P ops Q rest (a.put o.dst v) w2) : wpList P ops Q (o :: rest) a w := by
  refine wpList_plain hgd fun K hK => ?_
  unfold Oper.wp
  simp [execOp, ho, resolve, invoke, builtin, h1, hrun, Result.andThen]
  exact hK _ _ h
theorem butS_setRow (w : World) (g : Nat) (cs : Array Value) : But g w (w.setRow g cs) := ⟨rfl, rfl, rfl, by simp [World.setRow], fun k _ hk => setRow_other w g k cs hk⟩
theorem spliceS_take {α : Type} (A cs : List α) (k N : Nat) (hk : k + cs.length ≤ N) (hN : N ≤ A.length) : (A.take k ++ cs ++ A.drop (k + cs.length)).take N = (A.take N).take k ++ cs ++ (A.take N).drop (k + cs.length) := by
  have h1 : (A.take k ++ cs).length = k + cs.length := by simp; omega
  rw [List.take_append, h1, List.take_of_length_le (by omega), List.take_take, Nat.min_eq_left (by omega), List.drop_take]
theorem sol_splice (ss : List So) (k : Nat) (hk : k < ss.length) (z : So) : (sol ss).take (k * 2) ++ enc2 z ++ (sol ss).drop (k * 2 + 2) = sol (ss.set k z) := by
  induction ss generalizing k with
  | nil => simp at hk
  | cons e r ih =>
    rw [show sol (e :: r) = enc2 e ++ sol r from rfl]
    match k, hk with
    | 0, _ => simp [enc2, sol]
    | k + 1, hk =>
      rw [List.set_cons_succ, show sol (e :: r.set k z) = enc2 e ++ sol (r.set k z) from rfl, ← ih k (by simpa using hk), show (k + 1) * 2 = (enc2 e).length + k * 2 by simp [enc2]; omega, List.take_length_add_append, show (enc2 e).length + k * 2 + 2 = (enc2 e).length + (k * 2 + 2) by omega, List.drop_length_add_append]
      simp
theorem zero_so (w : World) : (zeroValue 62).run Tryd.prog w = .ok (.agg #[.bool false, .slice none 0 0]) w := by
  obtain ⟨i0, hi, hz0, hz1, hz2⟩ := info_parts Tryd.infoSo
  simp [zeroValue, typeInfo, hi, hz0]
/-- clear of one slot. -/
theorem clear_so {w : World} {r cap : Nat} {ss : List So} (h : Sr2 w (.slice (some ⟨r, 0, none⟩) ss.length cap) ss) (k : Nat) (hk : k < ss.length) :
    ∃ w2, (∀ ty c, (Builtin.clear_ #[56] ty #[.slice (some ⟨r, k * 2, none⟩) 1 c]).run Tryd.prog w = .ok (.tuple #[]) w2) ∧ Sr2 w2 (.slice (some ⟨r, 0, none⟩) ss.length cap) (ss.set k ⟨false, Sh.nil⟩) ∧ But r w w2 := by
  rcases h.2 with ⟨e, _⟩ | ⟨g, cap', cur, e, h1, h2, h3, h4, h5, h6⟩
  · cases e
  cases e
  have hZ : (Builtin.zeroCells (Value.agg #[.bool false, .slice none 0 0]).cells 1).toList = enc2 ⟨false, Sh.nil⟩ := by kernel_rfl
  have hA : ss.length * 2 ≤ cur.toList.length := by simp; rw [h5]; exact Nat.mul_le_mul_right 2 h3
  have hzs : (Builtin.zeroCells (Value.agg #[.bool false, .slice none 0 0]).cells 1).size = 2 := by kernel_rfl
  have hl2 : (enc2 ⟨false, Sh.nil⟩).length = 2 := rfl
  refine ⟨_, fun ty c => run_clear_wide (P := Tryd.prog) w 56 ty 62 _ Tryd.underlying56 zero_so r (k * 2) 1 c cur 62 h2 (by rw [hzs, ← Array.length_toList]; omega) (fun v hv => ?_) (by omega), ?_, butS_setRow _ _ _⟩
  · rw [hZ] at hv
    simp [enc2] at hv
    rcases hv with rfl | rfl <;> rfl
  · refine ⟨by rw [sol_len], .inr ⟨r, cap, _, by simp, Nat.zero_le _, setRow_heap w r _ _ _ _ h2, by simpa using h3, h4, ?_, ?_⟩⟩
    · rw [hZ, hzs]
      simp [enc2]
      simp at hA
      omega
    · have hd : (Builtin.zeroCells (Value.agg #[.bool false, .slice none 0 0]).cells 1).size = (enc2 ⟨false, Sh.nil⟩).length := by kernel_rfl
      rw [hZ, hd, List.length_set]
      have := spliceS_take cur.toList (enc2 ⟨false, Sh.nil⟩) (k * 2) (ss.length * 2) (by rw [hl2]; omega) hA
      rw [this, h6, hl2]
      exact sol_splice ss k hk ⟨false, Sh.nil⟩
/-- A heap of slots is a heap by itself. -/
theorem Sl.fh {w : World} {g : Nat} {ss : List So} {rv fv : Value} {n : Nat} {f : Nat → Int} (h : Sl w g ss rv fv n f) : Fh w g fv n f := ⟨h.c1, h.z, h.hq, h.nf, by have := h.num; have := h.sm; omega⟩
set_option maxRecDepth 100000 in
theorem free_sl {w : World} {g : Nat} {ss : List So} {X : Nat → Prop} (h : SlV w g ss X) (i : Int) : Calls Tryd.prog 26 #[.pointer (some ⟨g, 0, none⟩), .int .i64 i] w fun e w' => e = .returned (.bool (isT ss i)) ∧ SlV w' g (freeS ss i) (gX X w w') ∧ Ex X w w' := by
  obtain ⟨rv, fv, n, f, h, hx, hX⟩ := h
  have CT := taken_any h i
  by_cases ht : isT ss i = true
  · obtain ⟨k, rfl, hk, htk⟩ := isT_ex ht
    obtain ⟨r, cap, rfl, _⟩ := ownsS_some h.row (by omega)
    have hcap : ss.length ≤ cap := by
      rcases h.row.2 with ⟨e, _⟩ | ⟨_, _, _, e, _, _, h3, _⟩
      · cases e
      · cases e
        exact h3
    have c0 := h.c0
    obtain ⟨w2, hrun, hr2, hb2⟩ := clear_so h.row k hk
    have hsm := h.sm
    have i1 : (k : Int) < (ss.length : Int) := by omega
    have i2 : (0 : Int) ≤ (k : Int) := by omega
    have e1 : IntKind.i64.wrap ((k : Int) + 1) = ((k + 1 : Nat) : Int) := by rw [i64_small (by omega) (by omega)]; omega
    have i3 : ((k + 1 : Nat) : Int) ≤ (cap : Int) := by omega
    have i4 : (k : Int) ≤ ((k + 1 : Nat) : Int) := by omega
    have i5 : ((k + 1 : Nat) : Int) - (k : Int) = 1 := by omega
    have es : freeS ss (k : Int) = ss.set k ⟨false, Sh.nil⟩ := by unfold freeS; rw [if_pos ht]; simp
    rw [es]
    rw [ht] at CT ⊢
    have hgr : g ≠ r := fun e => h.nr (by rw [e]; rfl)
    have hblk := hb2.block g h.lt hgr
    have hfh2 : Fh w2 g fv n f := ⟨(World.cell?_of_block (a := ⟨g, 1, none⟩) hblk).trans h.c1, fun j => (World.frozen?_of_block (a := ⟨g, j, none⟩) hblk).trans (h.z j), h.hq.same (fun q hq => hb2.block q (World.ownsRow.lt h.hq q hq).2 (fun e => h.ne q (by rw [e]; rfl) hq)), h.nf, by have := h.num; omega⟩
    have CP := hpush_any hfh2 (by have := h.num; omega) h.ho.hp (k : Int)
    have HS := Lib.hid h
    have HT := Lib.hid htk
    have HR := Lib.hid hr2
    have HB := Lib.hid hb2
    have HRUN := Lib.hid hrun
    clear h es ht htk hfh2 hr2 hb2 hrun hblk
    generalize hk1 : k + 1 = k1 at *
    have hrun2 : ∀ ty c, (Builtin.clear_ #[56] ty #[.slice (some ⟨r, k * 2, none⟩) (k1 - k) c]).run Tryd.prog w = .ok (.tuple #[]) w2 := fun ty c => by rw [show k1 - k = 1 by omega]; exact HRUN.out ty c
    go_enter Tryd.func26, Tryd.ntmps26
    go_wp2_with fail
    refine CT.mono ?_
    rintro e w1 ⟨rfl, rfl⟩
    clear CT
    go_wp2_with fail
    refine CP.mono ?_
    rintro e w3 ⟨rfl, fv3, f3, h3, k3, hP3, hH3⟩
    clear CP
    go_wp2
    go_ret
    have hS2 := HS.out
    have hex : Ex (SX g (.slice (some ⟨r, 0, none⟩) ss.length cap) fv) w1 w3 := (HB.out.ex.mono (fun q _ e => Or.inr (Or.inl (by rw [e]; rfl)))).next k3.ex (fun q _ hq => by
      rcases hq with e | e
      · exact Or.inl e
      · exact Or.inr (Or.inr e))
    have hnw : ∀ q, fv3.ownBlock = some q → fv.ownBlock = some q ∨ w1.heap.size ≤ q := fun q hq => by
      rcases k3.nw q hq with e | e
      · exact Or.inl e
      · exact Or.inr (Nat.le_trans HB.out.size e)
    have hrl := (World.ownsRow.lt hS2.row r rfl).2
    have hrne : r ≠ g := fun e => hgr e.symm
    have hb3 : w3.heap[r]? = w2.heap[r]? := k3.ex.block r (Nat.lt_of_lt_of_le hrl HB.out.size) (fun hq => by
      rcases hq with e | e
      · exact hrne e
      · exact hS2.ne r rfl e)
    refine ⟨rfl, ⟨.slice (some ⟨r, 0, none⟩) ss.length cap, fv3, n + 1, f3, ⟨k3.c0.trans ((World.cell?_of_block (a := ⟨g, 0, none⟩) (HB.out.block g hS2.lt hgr)).trans hS2.c0), h3.c1, h3.z, HR.out.same (fun q hq => by injection hq with hq; rw [← hq]; exact hb3), h3.hq, hS2.ho.push hk HT.out hP3 hH3, hS2.nr, h3.nf, fun q h1 h2 => ?_, by simpa using hS2.sm⟩, fun q hq => ?_, fun q hq => ?_⟩, hex.mono (fun q _ hq => hx q hq)⟩
    · injection h1 with h1
      rw [← h1] at h2
      rcases hnw r h2 with e | e
      · exact hS2.ne r rfl e
      · omega
    · rcases hq with e | e | e
      · exact Or.inl (hx q (Or.inl e))
      · exact Or.inl (hx q (Or.inr (Or.inl e)))
      · rcases hnw q e with e' | e'
        · exact Or.inl (hx q (Or.inr (Or.inr e')))
        · exact Or.inr ⟨e', (World.ownsRow.lt h3.hq q e).2⟩
    · rcases hq with hq | hq
      · exact Nat.lt_of_lt_of_le (hX q hq) hex.size
      · exact hq.2
  · have ht : isT ss i = false := by simpa using ht
    have es : freeS ss i = ss := by unfold freeS; rw [ht]; simp
    rw [es]
    rw [ht] at CT ⊢
    have HS := Lib.hid h
    clear h es ht
    go_enter Tryd.func26, Tryd.ntmps26
    go_wp2_with fail
    refine CT.mono ?_
    rintro e w1 ⟨rfl, rfl⟩
    clear CT
    go_wp2
    go_ret
    exact ⟨rfl, ⟨_, _, n, f, HS.out, fun k hk => Or.inl (hx k hk), fun k hk => by rcases hk with hk | hk; exact hX k hk; omega⟩, Ex.refl _ _⟩
end Go.Proofs.YtbnmnmbfdfgohaaDoor
