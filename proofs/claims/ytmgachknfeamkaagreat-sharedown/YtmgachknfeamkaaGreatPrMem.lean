/-
  A dictionary in memory, and what its inner calls do.
-/
import Derived.Test.YtmgachknfeamkaaGreatDtPut
import Derived.Test.YtmgachknfeamkaaGreatDtKill
import Derived.Test.YtmgachknfeamkaaGreatDtSight
import Derived.Test.YtmgachknfeamkaaGreatDtCp
namespace Go.Proofs.YtmgachknfeamkaaGreat
open Go.RowKit Go.WideShapes

/-- A dictionary's cells: its table, how many pairs it may have, its version. -/
def dcF (g : Nat) (most : Int) (v : Nat) : Nat → Value
  | 0 => .pointer (some ⟨g, 0, none⟩)
  | 1 => .int .i64 most
  | _ => .int .u64 (v : Int)
structure Dc (w : World) (d g gi r h : Nat) (ev : Value) (t : Tb) (mv : Value) (most : Int) (v : Nat) : Prop where
  hd : Blk w d 3 (dcF g most v)
  dt : Dt w g gi r h ev t mv
  ok : t.Ok
  ne : ¬ dX g gi r h ev d
  nm : ¬ mB mv d
/-- The blocks of a dictionary. -/
def cX (d g gi r h : Nat) (ev : Value) (k : Nat) : Prop := k = d ∨ dX g gi r h ev k
theorem Dc.same {w w' : World} {d g gi r h : Nat} {ev : Value} {t : Tb} {mv : Value} {most : Int} {v : Nat} (x : Dc w d g gi r h ev t mv most v) (e : ∀ k, cX d g gi r h ev k → w'.heap[k]? = w.heap[k]?) : Dc w' d g gi r h ev t mv most v :=
  ⟨x.hd.same (e d (.inl rfl)), x.dt.same fun k hk => e k (.inr hk), x.ok, x.ne, x.nm⟩
theorem Dc.lt {w : World} {d g gi r h : Nat} {ev : Value} {t : Tb} {mv : Value} {most : Int} {v : Nat} (x : Dc w d g gi r h ev t mv most v) : ∀ k, cX d g gi r h ev k → k < w.heap.size := by
  rintro k (rfl | hk)
  · exact x.hd.lt (by omega)
  · exact x.dt.lt k hk
theorem Dc.below {w w' : World} {d g gi r h : Nat} {ev : Value} {t : Tb} {mv : Value} {most : Int} {v : Nat} (x : Dc w d g gi r h ev t mv most v) (hb : Below w.heap.size w w') : Dc w' d g gi r h ev t mv most v := x.same fun k hk => hb.block k (x.lt k hk)
theorem eqTb (g : Nat) (w : World) : (binOp .eql 54 (.pointer (some ⟨g, 0, none⟩)) (.pointer none)).run Tryz.prog w = .ok (.bool false) w := by kernel_rfl
/-- What a call that changes a dictionary leaves. -/
structure Cd (w : World) (d g gi r h : Nat) (ev : Value) (mv : Value) (M : Int → Int → World → Prop) (a b : Int) (most : Int) (v : Nat) (t' : Tb) (w' : World) (gi' r' h' : Nat) (ev' : Value) : Prop where
  dc : Dc w' d g gi' r' h' ev' t' mv most v
  m : M a b w'
  fx : ∀ j, dX g gi' r' h' ev' j → dX g gi r h ev j ∨ w.heap.size ≤ j
  ex : Ex (fun j => cX d g gi r h ev j ∨ mB mv j) w w'
/-- Its table changed, and then its version. -/
theorem cd_of {w w1 : World} {d g gi r h : Nat} {ev : Value} {t t' : Tb} {mv : Value} {M : Int → Int → World → Prop} {a b : Int} {most : Int} {v : Nat} (hC : Dc w d g gi r h ev t mv most v) (hMo : MtOk mv M) {gi' r' h' : Nat} {ev' : Value} (ok : t'.Ok)
    (hd : Dt w1 g gi' r' h' ev' t' mv) (hm : M a b w1) (fx : ∀ j, dX g gi' r' h' ev' j → dX g gi r h ev j ∨ w.heap.size ≤ j) (ex : Ex (fun j => dX g gi r h ev j ∨ mB mv j) w w1) :
    Blk w1 d 3 (dcF g most v) ∧ Cd w d g gi r h ev mv M a b most (v + 1) t' (w1.setCell ⟨d, 2, none⟩ (.int .u64 ((v : Int) + 1))) gi' r' h' ev' := by
  have ld := hC.hd.lt (by omega)
  have hB1 : Blk w1 d 3 (dcF g most v) := hC.hd.same (ex.block d ld (fun h => h.elim hC.ne hC.nm))
  have nd : ¬ dX g gi' r' h' ev' d := fun h => (fx d h).elim hC.ne (fun x => by omega)
  refine ⟨hB1, ⟨?_, hd.same fun k hk => Below.heap_setCell _ _ _ _ (fun (e : k = d) => nd (e ▸ hk)), ok, nd, hC.nm⟩, hMo.same _ _ _ _ hm fun k hk => Below.heap_setCell _ _ _ _ (fun (e : k = d) => hC.nm (e ▸ hk)), fx, ?_⟩
  · refine (hB1.put 2 _).congr fun j hj => ?_
    have : j = 0 ∨ j = 1 ∨ j = 2 := by omega
    rcases this with rfl | rfl | rfl
    · rfl
    · rfl
    · show Value.int .u64 (((v + 1 : Nat)) : Int) = Value.int .u64 ((v : Int) + 1)
      rw [Int.natCast_add]
      rfl
  · exact (ex.mono (fun k _ hk => hk.elim (fun y => .inl (.inr y)) .inr)).setCell (p := ⟨d, 2, none⟩) (fun _ => .inl (.inl rfl)) _
/-- An entry as a value. -/
def eV (e : En) : Value := .agg #[.bool e.live, .int .i64 e.hash, .int .i64 e.key, .int .i64 e.value, .int .i64 e.birth]
theorem Cd.over {w w' w'' : World} {d g gi r h : Nat} {ev : Value} {t t' : Tb} {mv : Value} {M : Int → Int → World → Prop} {a b : Int} {most : Int} {v v' : Nat} (c : Cd w d g gi r h ev mv M a b most v' t' w' gi r h ev) (hC : Dc w d g gi r h ev t mv most v) (hMo : MtOk mv M) (hlt : ∀ k, mB mv k → k < w.heap.size) (hb : Below w.heap.size w' w'') : Cd w d g gi r h ev mv M a b most v' t' w'' gi r h ev :=
  ⟨c.dc.same fun k hk => hb.block k (hC.lt k hk), hMo.same _ _ _ _ c.m fun k hk => hb.block k (hlt k hk), c.fx, c.ex.next (Y := fun k => w.heap.size ≤ k) ⟨hb.os, hb.tape, hb.output, hb.size, fun k _ hx => hb.block k (by omega)⟩ (fun k hk hx => by omega)⟩
/-- Five cells set. -/
def put5 (w : World) (R : Nat) (v0 v1 v2 v3 v4 : Value) : World := ((((w.setCell ⟨R, 0, none⟩ v0).setCell ⟨R, 1, none⟩ v1).setCell ⟨R, 2, none⟩ v2).setCell ⟨R, 3, none⟩ v3).setCell ⟨R, 4, none⟩ v4
theorem put5_below {B : Nat} {w : World} (R : Nat) (hR : B ≤ R) (v0 v1 v2 v3 v4 : Value) : Below B w (put5 w R v0 v1 v2 v3 v4) :=
  (((((Below.refl B w).setCell (p := ⟨R, 0, none⟩) hR _).setCell (p := ⟨R, 1, none⟩) hR _).setCell (p := ⟨R, 2, none⟩) hR _).setCell (p := ⟨R, 3, none⟩) hR _).setCell (p := ⟨R, 4, none⟩) hR _
theorem put5_blk {w : World} {R : Nat} {F : Nat → Value} (h : Blk w R 5 F) (v0 v1 v2 v3 v4 : Value) : Blk (put5 w R v0 v1 v2 v3 v4) R 5 (fun j => [v0, v1, v2, v3, v4].getD j .nilFunc) := by
  unfold put5
  refine (((((h.put 0 v0).put 1 v1).put 2 v2).put 3 v3).put 4 v4).congr fun j hj => ?_
  have : j = 0 ∨ j = 1 ∨ j = 2 ∨ j = 3 ∨ j = 4 := by omega
  rcases this with rfl | rfl | rfl | rfl | rfl <;> rfl
end Go.Proofs.YtmgachknfeamkaaGreat
