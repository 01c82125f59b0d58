/-
  Add.
  copied, refuse.
  Copy.
-/
import Derived.Test.YtejfmajbggmghaaGreatGc
import Derived.Laws.OwnMore
namespace Go.Proofs.YtejfmajbggmghaaGreat
open Go.RowKit Go.WideShapes

/-- The table behind Add's last stores. -/
def dAddW (w7 : World) (g : Nat) (t1 : Tb) : World := ((w7.setCell ⟨g, 3, none⟩ (.int .i64 ((t1.live : Int) + 1))).setCell ⟨g, 4, none⟩ (.int .i64 ((t1.births : Int) + 1))).setCell ⟨g, 6, none⟩ (.int .i64 ((t1.turn : Int) + 1))
theorem dAddW_other (w7 : World) (g : Nat) (t1 : Tb) (j : Nat) (hj : j ≠ g) : (dAddW w7 g t1).heap[j]? = w7.heap[j]? := by
  unfold dAddW
  rw [Below.heap_setCell _ _ _ _ hj, Below.heap_setCell _ _ _ _ hj, Below.heap_setCell _ _ _ _ hj]
/-- Between the append and lay. -/
structure Al (w : World) (g gi r h : Nat) (ev : Value) (t : Tb) (mv : Value) (M : Int → Int → World → Prop) (a b : Int) (u k v : Int) (gi1 r1 h1 : Nat) (t1 : Tb) (w6 : World) (ge2 cap2 i : Nat) : Prop where
  k1 : w6.cell? ⟨g, 1, none⟩ = some (.pointer (some ⟨gi1, 0, none⟩))
  k2 : w6.cell? ⟨g, 2, none⟩ = some (.slice (some ⟨ge2, 0, none⟩) (t1.es.length + 1) cap2)
  ke : w6.cell? ⟨ge2, t1.es.length * 5 + 1, none⟩ = some (.int .i64 u)
  cl : Cl w6 gi1 r1 h1 t1.L (2 ^ t1.L) t1.c
  gh : g ≠ h1
  eh : ge2 ≠ h1
  isF : IsF t1.c (uw u) t1.L i
  lt : i < 2 ^ t1.L + 13
  fin : ∀ w7, Cl w7 gi1 r1 h1 t1.L (2 ^ t1.L) (upd t1.c (trl (uw u) t1.L i) (t1.es.length : Int)) → But h1 w6 w7 → Blk w7 g 7 (setE (dF mv gi1 (.slice none 0 0) t1) (.slice (some ⟨ge2, 0, none⟩) (t1.es.length + 1) cap2)) ∧
    Dt (dAddW w7 g t1) g gi1 r1 h1 (.slice (some ⟨ge2, 0, none⟩) (t1.es.length + 1) cap2) (t1.push u k v) mv ∧ M (a + (t1.made - t.made : Nat)) b (dAddW w7 g t1) ∧
    (∀ j, dX g gi1 r1 h1 (.slice (some ⟨ge2, 0, none⟩) (t1.es.length + 1) cap2) j → dX g gi r h ev j ∨ w.heap.size ≤ j) ∧ Ex (fun j => dX g gi r h ev j ∨ mB mv j) w (dAddW w7 g t1)
theorem dadd_mid {w : World} {g gi r h : Nat} {ev : Value} {t : Tb} {mv : Value} {M : Int → Int → World → Prop} {a b u k v : Int} {w1 : World} {gi1 r1 h1 : Nat} {ev1 : Value} {t1 : Tb} (hMo : MtOk mv M) (hT : Rd w g gi r h ev t mv M a b u k v w1 gi1 r1 h1 ev1 t1) {o : Obj} {w5 : World} {a2 : Option Addr} {cap2 : Nat}
    (hown : w5.ownsRow 0 48 5 (.slice a2 (t1.es.length + 1) cap2) (t1.es.length + 1) (enl t1.es ++ enc5 ⟨true, u, k, v, (t1.births : Int)⟩)) (hgrow : (w1.drew.alloc o).grownBy w5 ev1.ownBlock) (hat : (Value.slice a2 (t1.es.length + 1) cap2).ownBlock = ev1.ownBlock ∨ (Value.slice a2 (t1.es.length + 1) cap2).ownBlock = some (w1.drew.alloc o).heap.size) :
    ∃ ge2 i, a2 = some ⟨ge2, 0, none⟩ ∧ Al w g gi r h ev t mv M a b u k v gi1 r1 h1 t1 (w5.setCell ⟨g, 2, none⟩ (.slice a2 (t1.es.length + 1) cap2)) ge2 cap2 i := by
  have hD := hT.dt
  have hE5 : Es w5 (.slice a2 (t1.es.length + 1) cap2) (t1.es ++ [⟨true, u, k, v, (t1.births : Int)⟩]) := (EsB.snoc hown).es
  obtain ⟨a', cap', ge2, hv', hae', hro'⟩ := hE5.open
  have hl2 : (t1.es ++ [(⟨true, u, k, v, (t1.births : Int)⟩ : En)]).length = t1.es.length + 1 := by simp
  rw [hl2] at hv'
  cases hv'
  obtain ⟨rfl, hob, hfz⟩ := hae' (by rw [hl2]; omega)
  have hap2 : ∀ j, (Value.slice (some ⟨ge2, 0, none⟩) (t1.es.length + 1) cap2).ownBlock = some j → (ev1.ownBlock = some j ∨ w1.heap.size ≤ j) := by
    intro j hj
    rcases hat with e | e
    · exact .inl (e ▸ hj)
    · rw [e] at hj
      cases hj
      exact .inr (by simp)
  have hg2 := hap2 ge2 rfl
  obtain ⟨lx1, lx2, lx3⟩ := hD.cl.lt
  have lg := hD.hd.lt (by omega)
  have hne2 : ge2 ≠ g ∧ ge2 ≠ gi1 ∧ ge2 ≠ r1 ∧ ge2 ≠ h1 := by
    rcases hg2 with e | e
    · exact hD.ap ge2 e
    · exact ⟨by omega, by omega, by omega, by omega⟩
  have hblk : ∀ j, j < w1.heap.size → ev1.ownBlock ≠ some j → w5.heap[j]? = w1.heap[j]? := fun j hj hne => (hgrow.block j (by simp; exact Nat.lt_succ_of_lt hj) (fun e => hne e.symm)).trans (Below.heap_alloc _ _ _ hj)
  have hsz : w1.heap.size ≤ w5.heap.size := by have := hgrow.size; simp at this; exact Nat.le_of_succ_le this
  have hB5 : Blk w5 g 7 (dF mv gi1 ev1 t1) := hD.hd.same (hblk g lg (fun e => (hD.ap g e).1 rfl))
  have hC5 : Cl w5 gi1 r1 h1 t1.L (2 ^ t1.L) t1.c := hD.cl.same (hblk _ lx1 (fun e => (hD.ap _ e).2.1 rfl)) (hblk _ lx2 (fun e => (hD.ap _ e).2.2.1 rfl)) (hblk _ lx3 (fun e => (hD.ap _ e).2.2.2 rfl))
  have o6 : ∀ j, j ≠ g → (w5.setCell ⟨g, 2, none⟩ (.slice (some ⟨ge2, 0, none⟩) (t1.es.length + 1) cap2)).heap[j]? = w5.heap[j]? := fun j hj => Below.heap_setCell _ _ _ _ hj
  have hB6 : Blk (w5.setCell ⟨g, 2, none⟩ (.slice (some ⟨ge2, 0, none⟩) (t1.es.length + 1) cap2)) g 7 (setE (dF mv gi1 (.slice none 0 0) t1) (.slice (some ⟨ge2, 0, none⟩) (t1.es.length + 1) cap2)) := (hB5.put 2 _).congr fun j hj => by
    have : j = 0 ∨ j = 1 ∨ j = 2 ∨ j = 3 ∨ j = 4 ∨ j = 5 ∨ j = 6 := by omega
    rcases this with rfl | rfl | rfl | rfl | rfl | rfl | rfl <;> rfl
  have hC6 : Cl (w5.setCell ⟨g, 2, none⟩ (.slice (some ⟨ge2, 0, none⟩) (t1.es.length + 1) cap2)) gi1 r1 h1 t1.L (2 ^ t1.L) t1.c := hC5.same (o6 _ (fun e => hD.ne.1 e.symm)) (o6 _ (fun e => hD.ne.2.1 e.symm)) (o6 _ (fun e => hD.ne.2.2 e.symm))
  have hE6 : Es (w5.setCell ⟨g, 2, none⟩ (.slice (some ⟨ge2, 0, none⟩) (t1.es.length + 1) cap2)) (.slice (some ⟨ge2, 0, none⟩) (t1.es.length + 1) cap2) (t1.es ++ [⟨true, u, k, v, (t1.births : Int)⟩]) := hE5.same fun j hj => by cases hj; exact o6 _ hne2.1
  have hk1 := hro'.c1 t1.es.length (by rw [hl2]; omega)
  rw [nth_app_eq] at hk1
  obtain ⟨i, hil, hif⟩ := hT.ok.inv.first u
  have hX1 : Ex (fun j => dX g gi r h ev j ∨ mB mv j) w w5 := ⟨hgrow.os.trans hT.ex.os, hgrow.tape.trans hT.ex.tape, hgrow.output.trans hT.ex.output, Nat.le_trans hT.ex.size hsz, fun j hj hx => (hblk j (Nat.lt_of_lt_of_le hj hT.ex.size) (fun e => by
      rcases hT.fx j (.inr (.inr (.inr (.inr e)))) with y | y
      · exact hx (.inl y)
      · omega)).trans (hT.ex.block j hj hx)⟩
  have hX6 := hX1.setCell (p := ⟨g, 2, none⟩) (fun _ => .inl (.inl rfl)) (.slice (some ⟨ge2, 0, none⟩) (t1.es.length + 1) cap2)
  have hFX : ∀ j, dX g gi1 r1 h1 (.slice (some ⟨ge2, 0, none⟩) (t1.es.length + 1) cap2) j → dX g gi r h ev j ∨ w.heap.size ≤ j := by
    rintro j (e | e | e | e | e)
    · exact hT.fx j (.inl e)
    · exact hT.fx j (.inr (.inl e))
    · exact hT.fx j (.inr (.inr (.inl e)))
    · exact hT.fx j (.inr (.inr (.inr (.inl e))))
    · rcases hap2 j e with y | y
      · exact hT.fx j (.inr (.inr (.inr (.inr y))))
      · exact .inr (Nat.le_trans hT.ex.size y)
  refine ⟨ge2, i, rfl, hB6.c 1 (by omega), hB6.c 2 (by omega), ?_, hC6, hD.ne.2.2, hne2.2.2.2, hif, hil, fun w7 hC7 hb7 => ?_⟩
  · exact (World.cell?_of_block (a := ⟨ge2, t1.es.length * 5 + 1, none⟩) (o6 _ hne2.1)).trans hk1
  have lg6 : g < (w5.setCell ⟨g, 2, none⟩ (.slice (some ⟨ge2, 0, none⟩) (t1.es.length + 1) cap2)).heap.size := hB6.lt (by omega)
  have hB7 := hB6.same (hb7.block g lg6 hD.ne.2.2)
  have o8 : ∀ j, j ≠ g → (dAddW w7 g t1).heap[j]? = w7.heap[j]? := fun j hj => dAddW_other _ _ _ _ hj
  have s8 : (dAddW w7 g t1).heap.size = w7.heap.size := by unfold dAddW; simp
  refine ⟨hB7, ⟨?_, ?_, ?_, ?_, hD.ne, ?_⟩, ?_, hFX, ?_⟩
  · unfold dAddW
    refine (((hB7.put 3 _).put 4 _).put 6 _).congr fun j hj => ?_
    have : j = 0 ∨ j = 1 ∨ j = 2 ∨ j = 3 ∨ j = 4 ∨ j = 5 ∨ j = 6 := by omega
    rcases this with rfl | rfl | rfl | rfl | rfl | rfl | rfl
    · rfl
    · rfl
    · rfl
    · show Value.int .i64 (((t1.push u k v).live : Nat) : Int) = Value.int .i64 ((t1.live : Int) + 1)
      rw [Tb.live_push, Int.natCast_add]
      rfl
    · show Value.int .i64 (((t1.births + 1 : Nat)) : Int) = Value.int .i64 ((t1.births : Int) + 1)
      rw [Int.natCast_add]
      rfl
    · rfl
    · show Value.int .i64 (((t1.turn + 1 : Nat)) : Int) = Value.int .i64 ((t1.turn : Int) + 1)
      rw [Int.natCast_add]
      rfl
  · refine hE6.same fun j hj => ?_
    cases hj
    exact (o8 _ hne2.1).trans (hb7.block _ (hE6.lt _ rfl) hne2.2.2.2)
  · show Cl _ gi1 r1 h1 t1.L (2 ^ t1.L) (layc t1.c t1.L u t1.es.length)
    rw [layc, fidx_eq hif]
    exact hC7.same (o8 _ (fun e => hD.ne.1 e.symm)) (o8 _ (fun e => hD.ne.2.1 e.symm)) (o8 _ (fun e => hD.ne.2.2 e.symm))
  · intro j hj
    cases hj
    exact hne2
  · intro j hj
    obtain ⟨x1, x2, x3, x4, x5⟩ := hD.mp j hj
    refine ⟨x1, x2, x3, x4, fun e => ?_⟩
    rcases hap2 j e with y | y
    · exact x5 y
    · have := hMo.lt _ _ _ _ hT.m hj
      omega
  · refine hMo.same _ _ w1 _ hT.m fun j hj => ?_
    obtain ⟨x1, x2, x3, x4, x5⟩ := hD.mp j hj
    have hjl := hMo.lt _ _ _ _ hT.m hj
    rw [o8 j x1, hb7.block j (by simp [World.setCell]; omega) x4, o6 j x1, hblk j hjl x5]
  · have hX7 : Ex (fun j => dX g gi r h ev j ∨ mB mv j) w w7 := hX6.next hb7.ex fun j hj e => by
      rcases hT.fx j (.inr (.inr (.inr (.inl e)))) with y | y
      · exact .inl y
      · omega
    unfold dAddW
    exact ((hX7.setCell (p := ⟨g, 3, none⟩) (fun _ => .inl (.inl rfl)) _).setCell (p := ⟨g, 4, none⟩) (fun _ => .inl (.inl rfl)) _).setCell (p := ⟨g, 6, none⟩) (fun _ => .inl (.inl rfl)) _
/-- What Add leaves. -/
structure Ad (w : World) (g gi r h : Nat) (ev : Value) (mv : Value) (M : Int → Int → World → Prop) (a b : Int) (t' : Tb) (w' : World) (gi' r' h' : Nat) (ev' : Value) : Prop where
  dt : Dt w' g gi' r' h' ev' t' mv
  m : M a b w'
  fx : ∀ j, dX g gi' r' h' ev' j → dX g gi r h ev j ∨ w.heap.size ≤ j
  ex : Ex (fun j => dX g gi r h ev j ∨ mB mv j) w w'
set_option maxRecDepth 100000 in
set_option maxHeartbeats 8000000 in
theorem add_any {w : World} {g gi r h : Nat} {ev : Value} {t : Tb} {mv : Value} {M : Int → Int → World → Prop} {a b : Int} (hD : Dt w g gi r h ev t mv) (hO : t.Ok) (hMo : MtOk mv M) (hM : M a b w) (hm : t.made ≤ 1000000) (ha : 0 ≤ a ∧ a ≤ 1000000000) (ht : t.turn ≤ 1000000) (hb : t.births < 100000) (u k v : Int) :
    Calls Tryz.prog 90 #[.pointer (some ⟨g, 0, none⟩), .int .i64 u, .int .i64 k, .int .i64 v] w fun e w' => e = .returned (.tuple #[.int .i64 (((t.add u k v).es.length - 1 : Nat) : Int), .int .i64 0]) ∧ ∃ gi' r' h' ev', Ad w g gi r h ev mv M (a + ((t.add u k v).made - t.made : Nat)) b (t.add u k v) w' gi' r' h' ev' := by
  obtain ⟨i0, hi, hz0, hz1, hz2⟩ := info_parts Tryz.infoEn
  have CR := ready_yes (g := g) (gi := gi) (hD.hd.c 1 (by omega))
  have CM := makeRoom_any hD hO hMo hM hm ha u k v
  have HMO := Lib.hid hMo
  clear hD hO hMo hM
  go_enter Tryz.func90, Tryz.ntmps90
  go_wp2_with fail
  refine CR.mono ?_
  rintro e w0 ⟨rfl, rfl⟩
  clear CR
  go_wp2_with fail
  refine CM.mono ?_
  rintro e w1 ⟨rfl, gi1, r1, h1, ev1, t1, hT⟩
  clear CM
  have HT := Lib.hid hT
  have hB := hT.dt.hd
  obtain ⟨a1, cap1, ge1, hev, _, hro1⟩ := hT.dt.es.open
  have hcap1 := hro1.le
  have f2 : w1.cell? ⟨g, 2, none⟩ = some (.slice a1 t1.es.length cap1) := by rw [← hev]; exact hB.c 2 (by omega)
  have f4 : w1.cell? ⟨g, 4, none⟩ = some (.int .i64 (t1.births : Int)) := hB.c 4 (by omega)
  have z2 := hB.z 2
  have hlg := hB.lt (by omega)
  have hl1 : t1.es.length ≤ 100000 := Nat.le_trans hT.ok.few hT.ok.all
  have hown : w1.drew.ownsRow 0 48 5 (.slice a1 t1.es.length cap1) t1.es.length (enl t1.es) := by rw [← hev]; exact hT.dt.es
  have NF : Hid (∀ j u', (enc5 ⟨true, u, k, v, (t1.births : Int)⟩)[j]? = some u' → (w1.drew.alloc (.cells #[.bool true, .int .i64 u, .int .i64 k, .int .i64 v, .int .i64 (t1.births : Int)] 48)).cell? (Addr.add ⟨w1.drew.heap.size, 0, none⟩ j) = some u') := new_five w1.drew ⟨true, u, k, v, (t1.births : Int)⟩ 48
  have HE5 : Hid ((enc5 ⟨true, u, k, v, (t1.births : Int)⟩).length = 5 ∧ ∀ u' ∈ enc5 ⟨true, u, k, v, (t1.births : Int)⟩, u'.oneCell' = true) := ⟨rfl, fun u' hu => enl_one [⟨true, u, k, v, (t1.births : Int)⟩] u' (by simpa [enl] using hu)⟩
  have HGB : Hid (∀ w5 : World, (w1.drew.alloc (.cells #[.bool true, .int .i64 u, .int .i64 k, .int .i64 v, .int .i64 (t1.births : Int)] 48)).grownBy w5 (Value.slice a1 t1.es.length cap1).ownBlock → ∀ j, j < w1.heap.size → (Value.slice a1 t1.es.length cap1).ownBlock ≠ some j → w5.heap[j]? = w1.heap[j]?) := fun w5 hgw j hj hne => (hgw.block j (by simp; exact Nat.lt_succ_of_lt hj) (fun e => hne e.symm)).trans (Below.heap_alloc _ _ _ hj)
  have HNG : Hid ((Value.slice a1 t1.es.length cap1).ownBlock ≠ some g) := fun e => (hT.dt.ap g (by rw [hev]; exact e)).1 rfl
  have HEV := Lib.hid hev
  clear hT hro1 hB hev
  go_upto_region 8 with fail
  go_region_law (refine step_append_own rfl _ _ 84 rfl 0 48 i0 (.agg #[.bool false, .int .i64 0, .int .i64 0, .int .i64 0, .int .i64 0]) 5 40 Tryz.underlying84 hi hz0 hz1 hz2 rfl (by decide) (.slice a1 t1.es.length cap1) t1.es.length (enl t1.es) (by simp [Act.eval]) (World.ownsRow.alloc hown _) ⟨w1.drew.heap.size, 0, none⟩ 1 1 (enc5 ⟨true, u, k, v, (t1.births : Int)⟩) (by simp [Act.eval]) HE5.out.1 NF.out HE5.out.2 (by unfold maxLen; omega) (by omega) (Nat.zero_le _) ?_; intro v' w5 hown2 hgrow hat; obtain ⟨a2, cap2, hv2⟩ := ownsRow_shape hown2; subst hv2; have hb5 := HGB.out w5 hgrow g hlg HNG.out; have g2 := (World.cell?_of_block (a := ⟨g, 2, none⟩) hb5).trans f2; have gz2 := (World.frozen?_of_block (a := ⟨g, 2, none⟩) hb5).trans z2)
  all_goals
    rw [← HEV.out] at hgrow hat
    obtain ⟨ge2, i, rfl, hA⟩ := dadd_mid HMO.out HT.out hown2 hgrow hat
    have CL := lay_any hA.k1 hA.k2 hA.ke hA.cl hA.gh hA.eh (by omega) HT.out.room hA.isF hA.lt
    have HA := Lib.hid hA
    clear hown2 hgrow hat hA f2 f4 z2
    go_wp2_with fail
    generalize World.setCell w5 _ _ = w6 at *
    clear g2 gz2 hb5
    refine CL.mono ?_
    rintro e w7 ⟨rfl, hC7, hb7⟩
    clear CL
    obtain ⟨hB7, hDt, hM7, hFx, hEx⟩ := HA.out.fin w7 hC7 hb7
    have x4 : w7.cell? ⟨g, 4, none⟩ = some (.int .i64 (t1.births : Int)) := hB7.c 4 (by omega)
    have x3 : w7.cell? ⟨g, 3, none⟩ = some (.int .i64 (t1.live : Int)) := hB7.c 3 (by omega)
    have x6 : w7.cell? ⟨g, 6, none⟩ = some (.int .i64 (t1.turn : Int)) := hB7.c 6 (by omega)
    have y4 := hB7.z 4
    have y3 := hB7.z 3
    have y6 := hB7.z 6
    have hbi := HT.out.bi
    have htu := HT.out.tu
    have hlv1 := t1.live_le
    have e4 : IntKind.i64.wrap ((t1.births : Int) + 1) = (t1.births : Int) + 1 := i64_small (by omega) (by omega)
    have e3 : IntKind.i64.wrap ((t1.live : Int) + 1) = (t1.live : Int) + 1 := i64_small (by omega) (by omega)
    have e6 : IntKind.i64.wrap ((t1.turn : Int) + 1) = (t1.turn : Int) + 1 := i64_small (by omega) (by omega)
    have HN : Hid ((t.add u k v).es.length - 1 = t1.es.length) := by
      show _ = _
      rw [HT.out.eq]
      show (t1.es ++ [_]).length - 1 = _
      simp
    have HR : Hid (Ad w0 g gi r h ev mv M (a + ((t.add u k v).made - t.made : Nat)) b (t.add u k v) (dAddW w7 g t1) gi1 r1 h1 (.slice (some ⟨ge2, 0, none⟩) (t1.es.length + 1) cap2)) := by
      show Ad _ _ _ _ _ _ _ _ _ _ _ _ _ _ _ _
      rw [HT.out.eq]
      exact ⟨hDt, hM7, hFx, hEx⟩
    clear hC7 hb7 hB7 hDt hM7 hFx hEx hbi htu
    unfold dAddW at HR
    go_wp2
    go_ret2
    exact ⟨by rw [HN.out]; rfl, gi1, r1, h1, _, HR.out⟩
end Go.Proofs.YtejfmajbggmghaaGreat
namespace Go.Proofs.YtejfmajbggmghaaGreat
open Go.RowKit Go.WideShapes

theorem copy_out {w : World} {gd n B : Nat} {ys : List Value} {ev : Value} {es : List En} (hd : w.ownsRow B 48 5 (.slice (some ⟨gd, 0, none⟩) n n) n ys) (hE : Es w ev es) (hn : es.length = n) :
    ∃ w2, (∀ ty, (Builtin.copy_ #[84, 84] ty #[.slice (some ⟨gd, 0, none⟩) n n, ev]).run Tryz.prog w = .ok (goInt (n : Nat)) w2) ∧ EsB B w2 (.slice (some ⟨gd, 0, none⟩) n n) es ∧ But gd w w2 := by
  subst hn
  rcases hd.2 with ⟨e, _⟩ | ⟨g', cap', cur, e, h1, h2, h3, h4, h5, h6⟩
  · cases e
  cases e
  by_cases h0 : es.length = 0
  · have hes : es = [] := List.eq_nil_of_length_eq_zero h0
    refine ⟨w, fun ty => ?_, ?_, But.refl _ _⟩
    · obtain ⟨ae, cape, ge, hev, _, _⟩ := hE.open
      rw [hev, h0]
      exact run_copy_wide0 w _ _ ty 48 5 _ _ _ _ _ _ Tryz.underlying84 Tryz.infoEn5 (by simp)
    · refine ⟨by rw [enl_len], .inr ⟨gd, es.length, cur, rfl, h1, h2, h3, h4, h5, ?_⟩⟩
      subst hes
      simp [enl]
  · have hE' := hE
    obtain ⟨ae, cape, ge, hev, hae, hro⟩ := hE.open
    obtain ⟨rfl, _, _⟩ := hae (by omega)
    subst hev
    have hE0 : w.ownsRow 0 48 5 (.slice (some ⟨ge, 0, none⟩) es.length cape) es.length (enl es) := hE'
    have hcs := enl_len es
    have hmin : Nat.min es.length es.length = es.length := Nat.min_self _
    refine ⟨w.setRow gd (cur.toList.take 0 ++ enl es ++ cur.toList.drop (0 + (enl es).length)).toArray, fun ty => ?_, ?_, but_setRow _ _ _⟩
    · have := run_copy_wide (P := Tryz.prog) w 84 84 ty 48 5 gd 0 es.length es.length ⟨ge, 0, none⟩ es.length cape cur 48 (enl es) Tryz.underlying84 Tryz.infoEn5 h2 (by rw [hcs, hmin]) ?_ (by rw [hcs, h5]; omega) (enl_one _)
      · rw [hmin] at this
        exact this
      · intro j v hj
        have hjl : j < es.length * 5 := by rw [← hcs]; exact (List.getElem?_eq_some_iff.1 hj).1
        rw [WideShapes.add_plain, Nat.zero_add, hE0.cellAt j hjl]
        exact hj
    · refine ⟨by rw [enl_len], .inr ⟨gd, es.length, _, rfl, h1, setRow_heap w gd _ _ _ _ h2, Nat.le_refl _, h4, ?_, ?_⟩⟩
      · simp [hcs, h5]
      · have hdr : cur.toList.drop (0 + (enl es).length) = [] := List.drop_eq_nil_of_le (by rw [hcs, Array.length_toList, h5]; omega)
        rw [hdr]
        simp [← hcs]
/-- Why there is no live entry of that number. -/
noncomputable def noE (t : Tb) (n : Int) : Int := @ite Int (t.has n) (Classical.propDecidable _) 0 7
theorem Tb.has_nat {t : Tb} {n : Int} (h : t.has n) : ∃ m : Nat, n = (m : Int) ∧ m < t.es.length ∧ (nth t.es m).live = true := ⟨n.toNat, by have := h.1; omega, by have := h.1; have := h.2.1; omega, h.2.2⟩
set_option maxRecDepth 100000 in
set_option maxHeartbeats 2000000 in
theorem trefuse_any {w : World} {g : Nat} {ev : Value} {t : Tb} (k2 : w.cell? ⟨g, 2, none⟩ = some ev) (hE : Es w ev t.es) (n : Int) :
    Calls Tryz.prog 77 #[.pointer (some ⟨g, 0, none⟩), .int .i64 n] w fun e w' => e = .returned (.int .i64 (noE t n)) ∧ w' = w := by
  obtain ⟨ae, cape, ge, hev, hae, hro⟩ := hE.open
  have hcap := hro.le
  subst hev
  by_cases h0 : n < 0
  · have e0 : noE t n = 7 := if_neg (fun h => by have := h.1; omega)
    rw [e0]
    clear hE hro hae e0
    go_enter Tryz.func77, Tryz.ntmps77
    go_wp2
    go_ret
    exact ⟨rfl, rfl⟩
  · by_cases h1 : n < (t.es.length : Int)
    · obtain ⟨m, rfl⟩ : ∃ m : Nat, n = (m : Int) := ⟨n.toNat, by omega⟩
      have hm : m < t.es.length := by omega
      obtain ⟨rfl, _, _⟩ := hae (by omega)
      have c0 := hro.c0 m hm
      have t1 : ¬ ((t.es.length : Int) ≤ (m : Int)) := by omega
      by_cases hl : (nth t.es m).live = true
      · have e0 : noE t (m : Int) = 0 := if_pos ⟨by omega, by omega, by rw [Int.toNat_natCast]; exact hl⟩
        rw [e0]
        rw [hl] at c0
        clear hE hro hae e0 hl
        go_enter Tryz.func77, Tryz.ntmps77
        go_wp2
        go_ret
        exact ⟨rfl, rfl⟩
      · have hlf : (nth t.es m).live = false := by simpa using hl
        have e0 : noE t (m : Int) = 7 := if_neg (fun h => hl (by have := h.2.2; rwa [Int.toNat_natCast] at this))
        rw [e0]
        rw [hlf] at c0
        clear hE hro hae e0 hl hlf
        go_enter Tryz.func77, Tryz.ntmps77
        go_wp2
        go_ret
        exact ⟨rfl, rfl⟩
    · have t1 : (t.es.length : Int) ≤ n := by omega
      have e0 : noE t n = 7 := if_neg (fun h => by have := h.2.1; omega)
      rw [e0]
      clear hE hro hae e0
      go_enter Tryz.func77, Tryz.ntmps77
      go_wp2
      go_ret
      exact ⟨rfl, rfl⟩
theorem len_any {w : World} {g : Nat} {n : Int} (k3 : w.cell? ⟨g, 3, none⟩ = some (.int .i64 n)) :
    Calls Tryz.prog 52 #[.pointer (some ⟨g, 0, none⟩)] w fun e w' => e = .returned (.int .i64 n) ∧ w' = w := by
  go_enter Tryz.func52, Tryz.ntmps52
  go_wp2
  go_ret
  exact ⟨rfl, rfl⟩
end Go.Proofs.YtejfmajbggmghaaGreat
namespace Go.Proofs.YtejfmajbggmghaaGreat
open Go.RowKit Go.WideShapes

/-- The first k with births of their own. -/
def reb (es : List En) (k : Nat) : List En := (List.range es.length).map fun i => if i < k then ⟨(nth es i).live, (nth es i).hash, (nth es i).key, (nth es i).value, (i : Int)⟩ else nth es i
theorem reb_len (es : List En) (k : Nat) : (reb es k).length = es.length := by simp [reb]
theorem reb_nth (es : List En) (k i : Nat) (hi : i < es.length) : nth (reb es k) i = if i < k then ⟨(nth es i).live, (nth es i).hash, (nth es i).key, (nth es i).value, (i : Int)⟩ else nth es i := by
  conv => lhs; unfold nth
  rw [List.getD_eq_getElem?_getD]
  simp [reb, hi]
theorem ext_nth {a b : List En} (hl : a.length = b.length) (h : ∀ i, i < a.length → nth a i = nth b i) : a = b := by
  apply List.ext_getElem hl
  intro i h1 h2
  have := h i h1
  unfold nth at this
  rw [List.getD_eq_getElem?_getD, List.getD_eq_getElem?_getD, List.getElem?_eq_getElem h1, List.getElem?_eq_getElem h2] at this
  exact this
theorem reb_zero (es : List En) : reb es 0 = es := ext_nth (reb_len _ _) fun i hi => by rw [reb_len] at hi; rw [reb_nth _ _ _ hi, if_neg (Nat.not_lt_zero _)]
theorem reb_set (es : List En) (k : Nat) (hk : k < es.length) : (reb es k).set k ⟨(nth es k).live, (nth es k).hash, (nth es k).key, (nth es k).value, (k : Int)⟩ = reb es (k + 1) := by
  refine ext_nth (by rw [List.length_set, reb_len, reb_len]) fun i hi => ?_
  rw [List.length_set, reb_len] at hi
  rw [nth_set (by rw [reb_len]; exact hk), reb_nth _ _ _ hi, reb_nth _ _ _ hi]
  by_cases e : i = k
  · subst e
    rw [if_pos rfl, if_pos (by omega)]
  · rw [if_neg e]
    by_cases h2 : i < k
    · rw [if_pos h2, if_pos (by omega)]
    · rw [if_neg h2, if_neg (by omega)]
/-- The log of a copy's index. -/
def cplog (n : Nat) : Nat := logF ((3 * n + 1) / 2) 20 3
/-- A copy. -/
noncomputable def Tb.cp (t : Tb) : Tb := ⟨reb (liveL t.es) (liveL t.es).length, cplog (liveL t.es).length, layN (reb (liveL t.es) (liveL t.es).length) (cplog (liveL t.es).length) (liveL t.es).length, (liveL t.es).length, 1, 0⟩
theorem cplog_ok {n : Nat} (hn : n ≤ 100000) : 3 ≤ cplog n ∧ cplog n ≤ 20 ∧ n ≤ rm (2 ^ cplog n) := by
  obtain ⟨a1, a2, a3, a4⟩ := logF_step ((3 * n + 1) / 2) 20 3 (Nat.le_trans (by omega : (3 * n + 1) / 2 ≤ 2 ^ 20) (by decide))
  refine ⟨a2, ?_, ?_⟩
  · rcases Nat.lt_or_ge 20 (cplog n) with e | e
    · have h1 := a4 20 (by omega) e
      have h2 : (2 : Nat) ^ 20 = 1048576 := by decide
      omega
    · exact e
  · have : (3 * n + 1) / 2 ≤ 2 ^ cplog n := Nat.le_of_not_lt a3
    unfold rm
    omega
theorem reb_live {es : List En} (h : ∀ n, n < es.length → (nth es n).live = true) (k n : Nat) (hn : n < es.length) : (nth (reb es k) n).live = true := by
  rw [reb_nth _ _ _ hn]
  split
  · exact h n hn
  · exact h n hn
theorem Tb.Ok.cp {t : Tb} (h : t.Ok) : t.cp.Ok := by
  have hl : (liveL t.es).length ≤ 100000 := by have := liveL_len t.es; have := h.few; have := h.all; omega
  obtain ⟨h1, h2, h3⟩ := cplog_ok hl
  refine ⟨?_, ⟨h1, h2⟩, by show (reb _ _).length ≤ (liveL t.es).length; rw [reb_len]; exact Nat.le_refl _, hl⟩
  have := layN_inv (reb (liveL t.es) (liveL t.es).length) (cplog (liveL t.es).length) (fun n hn => reb_live (fun n hn => liveL_nth _ n hn) _ n (by rwa [reb_len] at hn)) (by rw [reb_len]; exact h3) (liveL t.es).length (by rw [reb_len]; exact Nat.le_refl _)
  rw [List.take_of_length_le (by rw [reb_len]; exact Nat.le_refl _)] at this
  exact this
theorem Tb.cp_live (t : Tb) : t.cp.live = (liveL t.es).length := by
  rw [Tb.live_eq]
  show (liveL (reb (liveL t.es) (liveL t.es).length)).length = _
  have h1 := liveL_len (reb (liveL t.es) (liveL t.es).length)
  rw [deadN_live _ (fun e he => by
    obtain ⟨n, hn, hx⟩ : ∃ n, n < (reb (liveL t.es) (liveL t.es).length).length ∧ nth (reb (liveL t.es) (liveL t.es).length) n = e := by
      obtain ⟨n, hn, he⟩ := List.getElem_of_mem he
      exact ⟨n, hn, by unfold nth; rw [List.getD_eq_getElem?_getD, List.getElem?_eq_getElem hn, Option.getD_some, he]⟩
    rw [← hx]
    exact reb_live (fun n hn => liveL_nth _ n hn) _ n (by rwa [reb_len] at hn)), reb_len] at h1
  omega
/-- The head of a copy under way. -/
def cF (mv ev : Value) (l b : Nat) : Nat → Value
  | 0 => mv
  | 1 => .pointer none
  | 2 => ev
  | 3 => .int .i64 (l : Int)
  | 4 => .int .i64 (b : Int)
  | _ => .int .i64 0
end Go.Proofs.YtejfmajbggmghaaGreat
