/-
  A family's add: a name laid behind the others of a table.
-/
import Derived.Test.YtmgachknfeamkaaGreatShMem
import Derived.Test.YtmgachknfeamkaaGreatDtAdd
import Derived.Maps.AppendAt
namespace Go.Proofs.YtmgachknfeamkaaGreat
open Go.RowKit Go.WideShapes

theorem Tryz.infoStr : (Tryz.prog.info? 9).map (fun i => (i.zero, i.size, i.bytes)) = some (some (.string ByteArray.empty), 1, 16) := by kernel_rfl
theorem ex_grown {w w' : World} {row : Option Nat} {X : Nat → Prop} (h : w.grownBy w' row) (hx : ∀ k, k < w.heap.size → row = some k → X k) : Ex X w w' := ⟨h.os, h.tape, h.output, h.size, fun k hk hn => h.block k hk (fun e => hn (hx k hk e.symm))⟩
theorem fF_put (mv : Value) (g room most mb : Nat) (nv v' : Value) : ∀ j, j < 6 → fF mv g room most mb v' j = if j = 5 then v' else fF mv g room most mb nv j := by
  intro j hj
  have : j = 0 ∨ j = 1 ∨ j = 2 ∨ j = 3 ∨ j = 4 ∨ j = 5 := by omega
  rcases this with rfl | rfl | rfl | rfl | rfl | rfl <;> rfl
/-- The names with one more. -/
theorem nh_more {w wm w2 : World} {f g room most mb : Nat} {nv v' : Value} {all : List ByteArray} {mv : Value} {nm : ByteArray} {o : Obj} (hN : Nh w f g room most mb nv all mv) (hgm : w.grownBy wm (some mb)) (hNm : Nm wm mb (all ++ [nm]))
    (hown : w2.ownsRow 0 9 1 v' (all.length + 1) ((all.map Value.string) ++ [.string nm])) (hgrow : (wm.alloc o).grownBy w2 nv.ownBlock) (hob : v'.ownBlock = nv.ownBlock ∨ v'.ownBlock = some (wm.alloc o).heap.size) :
    Nh (w2.setCell ⟨f, 5, none⟩ v') f g room most mb v' (all ++ [nm]) mv ∧ Ex (hX f mb nv) w (w2.setCell ⟨f, 5, none⟩ v') ∧ ∀ k, v'.ownBlock = some k → nv.ownBlock = some k ∨ w.heap.size ≤ k := by
  have hl := hN.lt
  have lf := hl f (.inl rfl)
  have lm := hl mb (.inr (.inl rfl))
  have hs1 : wm.heap.size ≤ (wm.alloc o).heap.size := by simp
  have hs0 := hgm.size
  have hal : ∀ k, k < wm.heap.size → (wm.alloc o).heap[k]? = wm.heap[k]? := fun k hk => Below.heap_alloc _ _ _ hk
  have e2 : ∀ k, k < w.heap.size → k ≠ mb → nv.ownBlock ≠ some k → w2.heap[k]? = w.heap[k]? := fun k hk h1 h2 => (hgrow.block k (by omega) (fun e => h2 e.symm)).trans ((hal k (by omega)).trans (hgm.block k hk (fun e => h1 (by injection e))))
  have em : w2.heap[mb]? = wm.heap[mb]? := (hgrow.block mb (by omega) (fun e => (hN.n2 mb e.symm).2 rfl)).trans (hal mb (by omega))
  have hv' : ∀ k, v'.ownBlock = some k → nv.ownBlock = some k ∨ w.heap.size ≤ k := fun k hk => by
    rcases hob with h | h
    · exact .inl (h ▸ hk)
    · right
      rw [h] at hk
      injection hk with hk
      omega
  have n2 : ∀ k, v'.ownBlock = some k → k ≠ f ∧ k ≠ mb := fun k hk => by
    rcases hv' k hk with h | h
    · exact hN.n2 k h
    · exact ⟨by omega, by omega⟩
  have hf2 : Blk w2 f 6 (fF mv g room most mb nv) := hN.hd.same (e2 f lf hN.n1 (fun h => (hN.n2 f h).1 rfl))
  refine ⟨⟨(hf2.put 5 v').congr (fF_put mv g room most mb nv v'), (hNm.same em).same (Below.heap_setCell _ _ _ _ (fun e => hN.n1 e.symm)), ?_, hN.n1, n2⟩, ?_, hv'⟩
  · have : Ns w2 v' (all ++ [nm]) := by unfold Ns; simpa using hown
    exact this.same fun k hk => Below.heap_setCell _ _ _ _ (n2 k hk).1
  · have x1 : Ex (hX f mb nv) w w2 := ⟨hgrow.os.trans hgm.os, hgrow.tape.trans hgm.tape, hgrow.output.trans hgm.output, by have := hgrow.size; omega, fun k hk hn => e2 k hk (fun e => hn (.inr (.inl e))) (fun e => hn (.inr (.inr e)))⟩
    exact x1.setCell (p := ⟨f, 5, none⟩) (fun _ => .inl rfl) _
/-- What add leaves. -/
structure Fd (w : World) (f g room most mb : Nat) (nv : Value) (mv : Value) (tg tgi tr th : Nat) (tev : Value) (M : Int → Int → World → Prop) (a b : Int) (all' : List ByteArray) (t' : Tb) (w' : World) (nv' : Value) (tgi' tr' th' : Nat) (tev' : Value) : Prop where
  nh : Nh w' f g room most mb nv' all' mv
  dt : Dt w' tg tgi' tr' th' tev' t' mv
  m : M a b w'
  hx : ∀ j, hX f mb nv' j → hX f mb nv j ∨ w.heap.size ≤ j
  fx : ∀ j, dX tg tgi' tr' th' tev' j → dX tg tgi tr th tev j ∨ w.heap.size ≤ j
  ap : ∀ k, hX f mb nv' k → ¬ dX tg tgi' tr' th' tev' k
  n3 : ∀ k, mB mv k → ¬ hX f mb nv' k
  ex : Ex (fun j => hX f mb nv j ∨ dX tg tgi tr th tev j ∨ mB mv j) w w'
/-- .. put together: the names first, then the table. -/
theorem fd_of {w w3 w' : World} {f g room most mb : Nat} {nv nv' : Value} {mv : Value} {tg tgi tr th : Nat} {tev : Value} {M : Int → Int → World → Prop} {a b : Int} {all' : List ByteArray} {tt t' : Tb} {tgi' tr' th' : Nat} {tev' : Value} (hMo : MtOk mv M) {a0 b0 : Int} (hM : M a0 b0 w)
    (hD : Dt w tg tgi tr th tev tt mv) (ap : ∀ k, hX f mb nv k → ¬ dX tg tgi tr th tev k) (n3 : ∀ k, mB mv k → ¬ hX f mb nv k)
    (hN3 : Nh w3 f g room most mb nv' all' mv) (x3 : Ex (hX f mb nv) w w3) (hv : ∀ k, nv'.ownBlock = some k → nv.ownBlock = some k ∨ w.heap.size ≤ k)
    (A : Ad w3 tg tgi tr th tev mv M a b t' w' tgi' tr' th' tev') : Fd w f g room most mb nv mv tg tgi tr th tev M a b all' t' w' nv' tgi' tr' th' tev' := by
  have hx : ∀ j, hX f mb nv' j → hX f mb nv j ∨ w.heap.size ≤ j := by
    rintro j (h | h | h)
    · exact .inl (.inl h)
    · exact .inl (.inr (.inl h))
    · rcases hv j h with y | y
      · exact .inl (.inr (.inr y))
      · exact .inr y
  have h0 : ∀ k, hX f mb nv' k → ¬ dX tg tgi tr th tev k := fun k hk y => by
    rcases hx k hk with z | z
    · exact ap k z y
    · have := hD.lt k y; omega
  have hm3 : ∀ k, mB mv k → ¬ hX f mb nv' k := fun k hk y => by
    rcases hx k y with z | z
    · exact n3 k hk z
    · have := hMo.lt _ _ _ _ hM hk; omega
  have hs := x3.size
  refine ⟨hN3.same fun k hk => A.ex.block k (hN3.lt k hk) (fun y => y.elim (h0 k hk) (fun z => hm3 k z hk)), A.dt, A.m, hx, fun j hj => ?_, fun k hk y => ?_, hm3, ?_⟩
  · rcases A.fx j hj with y | y
    · exact .inl y
    · exact .inr (by omega)
  · rcases A.fx k y with z | z
    · exact h0 k hk z
    · have := hN3.lt k hk; omega
  · refine (x3.mono fun k _ hk => .inl hk).next A.ex fun k _ hk => hk.elim (fun y => .inr (.inl y)) (fun y => .inr (.inr y))
set_option maxRecDepth 100000 in
set_option maxHeartbeats 4000000 in
theorem fadd_any {w : World} {f g room most mb : Nat} {nv : Value} {all : List ByteArray} {mv : Value} {tg tgi tr th : Nat} {tev : Value} {tt : Tb} {M : Int → Int → World → Prop} {a b : Int} (hN : Nh w f g room most mb nv all mv) (hD : Dt w tg tgi tr th tev tt mv) (ap : ∀ k, hX f mb nv k → ¬ dX tg tgi tr th tev k) (n3 : ∀ k, mB mv k → ¬ hX f mb nv k)
    (hO : tt.Ok) (hMo : MtOk mv M) (hM : M a b w) (hm : tt.made ≤ 1000000) (ha : 0 ≤ a ∧ a ≤ 1000000000) (ht : tt.turn ≤ 1000000) (hb : tt.births < 100000) {nm : ByteArray} (hs : nm.size ≤ 3000) {k : Int} (hk : Num all nm k) (hl : all.length ≤ 100000) (v : Int) :
    Calls Tryz.prog 167 #[.pointer (some ⟨f, 0, none⟩), .pointer (some ⟨tg, 0, none⟩), .string nm, .int .i64 v] w fun e w' => e = .returned (.tuple #[]) ∧ ∃ nv' tgi' tr' th' tev', Fd w f g room most mb nv mv tg tgi tr th tev M (a + ((tt.add (hsT nm) (numn all k) v).made - tt.made : Nat)) b (alln all nm k) (tt.add (hsT nm) (numn all k) v) w' nv' tgi' tr' th' tev' := by
  have CN := numberOf_any (hN.hd.c 4 (by omega)) hN.mp hs hk
  have klt := hk.lt
  by_cases hc : k = -1
  · subst hc
    obtain ⟨i0, hi0, hz0, hz1, hz2⟩ := info_parts Tryz.infoStr
    have hn : nm ∉ all := by
      rcases hk with ⟨n, h, _⟩ | ⟨_, h⟩
      · omega
      · exact h
    have e1 : numn all (-1) = (all.length : Int) := if_pos rfl
    have e2 : alln all nm (-1) = all ++ [nm] := if_pos rfl
    rw [e1, e2]
    obtain ⟨an, capn, hnv⟩ := ownsRow_shape hN.ns
    obtain ⟨wm, hrm, hNm, hgm⟩ := hN.mp.put hs hn (by omega)
    have c4 : w.cell? ⟨f, 4, none⟩ = some (.map (some mb)) := hN.hd.c 4 (by omega)
    have c5 : w.cell? ⟨f, 5, none⟩ = some nv := hN.hd.c 5 (by omega)
    have lf := hN.lt f (.inl rfl)
    have d5 : wm.cell? ⟨f, 5, none⟩ = some nv := (World.cell?_of_block (a := ⟨f, 5, none⟩) (hgm.block f lf (fun e => hN.n1 (by injection e)))).trans c5
    have hownm : wm.ownsRow 0 9 1 nv all.length (all.map Value.string) := (hN.ns.same fun k' hk' => hgm.block k' (hN.lt k' (.inr (.inr hk'))) (fun e => (hN.n2 k' hk').2 (by injection e)))
    have HFIN : Hid (∀ v' w2, w2.ownsRow 0 9 1 v' (all.length + 1) ((all.map Value.string) ++ [.string nm]) → (wm.alloc (.cells #[.string nm] 9)).grownBy w2 nv.ownBlock → (v'.ownBlock = nv.ownBlock ∨ v'.ownBlock = some (wm.alloc (.cells #[.string nm] 9)).heap.size) →
        (w2.cell? ⟨f, 5, none⟩ = some nv ∧ w2.frozen? ⟨f, 5, none⟩ = false) ∧ ∀ w3, w2.setCell ⟨f, 5, none⟩ v' = w3 → Calls Tryz.prog 80 #[.string nm] w3 (fun e w' => e = .returned (.int .i64 (hsT nm)) ∧ w' = w3) ∧
          Calls Tryz.prog 168 #[.pointer (some ⟨tg, 0, none⟩), .int .i64 (hsT nm), .int .i64 (all.length : Int), .int .i64 v] w3 fun e w' => e = .returned (.tuple #[.int .i64 (((tt.add (hsT nm) (all.length : Int) v).es.length - 1 : Nat) : Int), .int .i64 0]) ∧ ∃ nv' tgi' tr' th' tev', Fd w f g room most mb nv mv tg tgi tr th tev M (a + ((tt.add (hsT nm) (all.length : Int) v).made - tt.made : Nat)) b (all ++ [nm]) (tt.add (hsT nm) (all.length : Int) v) w' nv' tgi' tr' th' tev') := by
      intro v' w2 h1 h2 h3
      obtain ⟨q1, q2, q3⟩ := nh_more hN hgm hNm h1 h2 h3
      have hbl : w2.heap[f]? = w.heap[f]? := (h2.block f (by simp; have := hgm.size; omega) (fun e => (hN.n2 f e.symm).1 rfl)).trans ((Below.heap_alloc _ _ _ (by have := hgm.size; omega)).trans (hgm.block f lf (fun e => hN.n1 (by injection e))))
      refine ⟨⟨(World.cell?_of_block (a := ⟨f, 5, none⟩) hbl).trans c5, (World.frozen?_of_block (a := ⟨f, 5, none⟩) hbl).trans (hN.hd.z 5)⟩, fun w3 hw3 => ?_⟩
      rw [hw3] at q1 q2
      have hD3 := hD.same (w' := w3) fun k' hk' => q2.block k' (hD.lt k' hk') (fun y => ap k' y hk')
      have hM3 := hMo.same _ _ _ w3 hM fun k' hk' => q2.block k' (hMo.lt _ _ _ _ hM hk') (n3 k' hk')
      refine ⟨text_h nm w3 hs, (add_any hD3 hO hMo hM3 hm ha ht hb (hsT nm) (all.length : Int) v).mono ?_⟩
      rintro e w' ⟨h1, gi', r', h', ev', A⟩
      exact ⟨h1, v', gi', r', h', ev', fd_of hMo hM hD ap n3 q1 q2 q3 A⟩
    obtain ⟨U, hU⟩ : ∃ U, hsT nm = U := ⟨_, rfl⟩
    rw [hU] at HFIN ⊢
    obtain ⟨R, hR⟩ : ∃ R, all.map Value.string = R := ⟨_, rfl⟩
    rw [hR] at hownm HFIN
    have hsz := hgm.size
    subst hnv
    clear hN hD ap n3 hO hMo hM hk hn hNm hgm klt e1 e2 hU hR
    go_enter Tryz.func167, Tryz.ntmps167
    go_wp2_with fail
    refine CN.mono ?_
    rintro e w1 ⟨rfl, rfl⟩
    clear CN
    go_wp2_with (at_builtin; refine wpList_append_own_at _ rfl _ _ 56 rfl 0 9 i0 (.string ByteArray.empty) 1 16 Tryz.underlying56 hi0 hz0 hz1 hz2 rfl (by decide) _ _ _ rfl (World.ownsRow.alloc hownm _) ⟨wm.heap.size, 0, none⟩ 1 1 [.string nm] rfl rfl (newR_one _ _ _) (by simp [Value.oneCell']) (by unfold maxLen; omega) (by omega) (by simp) ?_; intro v' w2 hown2 hgrow _ hob; obtain ⟨⟨k5, z5⟩, HN3⟩ := HFIN.out v' w2 hown2 hgrow hob; have HN4 := Lib.hid HN3; obtain ⟨a', cap', hv'⟩ := ownsRow_shape hown2; subst hv'; clear hown2 hgrow hob HN3)
    obtain ⟨w3, hw3⟩ : ∃ y, w2.setCell ⟨f, 5, none⟩ (.slice a' (all.length + 1) cap') = y := ⟨_, rfl⟩
    obtain ⟨CX, CA⟩ := HN4.out w3 hw3
    have HW3 := Lib.hid hw3
    clear hw3 HN4 HFIN
    go_upto_region 5 with fail
    rw [HW3.out]
    go_wp2_with fail
    refine CX.mono ?_
    rintro e w4 ⟨rfl, rfl⟩
    clear CX
    go_wp2_with fail
    refine CA.mono ?_
    rintro e w5 ⟨rfl, hF⟩
    clear CA
    have HF := Lib.hid hF
    clear hF
    go_wp2
    go_end0
    exact ⟨rfl, HF.out⟩
  · have e1 : numn all k = k := if_neg hc
    have e2 : alln all nm k = all := if_neg hc
    rw [e1, e2]
    have CX := text_h nm w hs
    have CA := (add_any hD hO hMo hM hm ha ht hb (hsT nm) k v).mono (R' := fun e w' => e = .returned (.tuple #[.int .i64 (((tt.add (hsT nm) k v).es.length - 1 : Nat) : Int), .int .i64 0]) ∧ ∃ nv' tgi' tr' th' tev', Fd w f g room most mb nv mv tg tgi tr th tev M (a + ((tt.add (hsT nm) k v).made - tt.made : Nat)) b all (tt.add (hsT nm) k v) w' nv' tgi' tr' th' tev') (fun e w' ⟨h1, gi', r', h', ev', A⟩ => ⟨h1, nv, gi', r', h', ev', fd_of hMo hM hD ap n3 hN (Ex.refl _ _) (fun k hk => .inl hk) A⟩)
    have tq : (k == -1) = false := by simp [hc]
    have tq2 : (k = -1) = False := by simp [hc]
    clear hN hD ap n3 hO hMo hM hk hc e1 e2 klt
    obtain ⟨U, hU⟩ : ∃ U, hsT nm = U := ⟨_, rfl⟩
    rw [hU] at CX CA ⊢
    clear hU
    go_enter Tryz.func167, Tryz.ntmps167
    go_wp2_with fail
    refine CN.mono ?_
    rintro e w1 ⟨rfl, rfl⟩
    clear CN
    go_wp2_with fail
    refine CX.mono ?_
    rintro e w2 ⟨rfl, rfl⟩
    clear CX
    go_wp2_with fail
    refine CA.mono ?_
    rintro e w3 ⟨rfl, hF⟩
    clear CA
    have HF := Lib.hid hF
    clear hF
    go_wp2
    go_end0
    exact ⟨rfl, HF.out⟩
end Go.Proofs.YtmgachknfeamkaaGreat
