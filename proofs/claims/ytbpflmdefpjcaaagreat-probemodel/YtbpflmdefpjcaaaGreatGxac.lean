/-
  Add.
  copied, refuse.
  Seek, and a Seeker's visit.
  A Seeker's hasEnded and visit.
  A Seeker's Next; At.
-/
import Derived.Test.YtbpflmdefpjcaaaGreatGxab
import Derived.Laws.OwnMore
import Derived.BigQuiet
namespace Go.Proofs.YtbpflmdefpjcaaaGreat
open Go.RowKit Go.WideShapes

/-- The table behind Add's last stores. -/
def dAddW (w7 : World) (g : Nat) (t1 : Tb) : World := ((w7.setCell ⟨g, 3, none⟩ (.int .i64 ((t1.live : Int) + 1))).setCell ⟨g, 4, none⟩ (.int .i64 ((t1.births : Int) + 1))).setCell ⟨g, 6, none⟩ (.int .i64 ((t1.turn : Int) + 1))
theorem dAddW_other (w7 : World) (g : Nat) (t1 : Tb) (j : Nat) (hj : j ≠ g) : (dAddW w7 g t1).heap[j]? = w7.heap[j]? := by
  unfold dAddW
  rw [Below.heap_setCell _ _ _ _ hj, Below.heap_setCell _ _ _ _ hj, Below.heap_setCell _ _ _ _ hj]
/-- Between the append and lay. -/
structure Al (w : World) (g gi r h : Nat) (ev : Value) (t : Tb) (mv : Value) (M : Int → Int → World → Prop) (a b : Int) (u k v : Int) (gi1 r1 h1 : Nat) (t1 : Tb) (w6 : World) (ge2 cap2 i : Nat) : Prop where
  k1 : w6.cell? ⟨g, 1, none⟩ = some (.pointer (some ⟨gi1, 0, none⟩))
  k2 : w6.cell? ⟨g, 2, none⟩ = some (.slice (some ⟨ge2, 0, none⟩) (t1.es.length + 1) cap2)
  ke : w6.cell? ⟨ge2, t1.es.length * 5 + 1, none⟩ = some (.int .i64 u)
  cl : Cl w6 gi1 r1 h1 t1.L (2 ^ t1.L) t1.c
  gh : g ≠ h1
  eh : ge2 ≠ h1
  isF : IsF t1.c (uw u) t1.L i
  lt : i < 2 ^ t1.L + 13
  fin : ∀ w7, Cl w7 gi1 r1 h1 t1.L (2 ^ t1.L) (upd t1.c (trl (uw u) t1.L i) (t1.es.length : Int)) → But h1 w6 w7 → Blk w7 g 7 (setE (dF mv gi1 (.slice none 0 0) t1) (.slice (some ⟨ge2, 0, none⟩) (t1.es.length + 1) cap2)) ∧
    Dt (dAddW w7 g t1) g gi1 r1 h1 (.slice (some ⟨ge2, 0, none⟩) (t1.es.length + 1) cap2) (t1.push u k v) mv ∧ M (a + (t1.made - t.made : Nat)) b (dAddW w7 g t1) ∧
    (∀ j, dX g gi1 r1 h1 (.slice (some ⟨ge2, 0, none⟩) (t1.es.length + 1) cap2) j → dX g gi r h ev j ∨ w.heap.size ≤ j) ∧ Ex (fun j => dX g gi r h ev j ∨ mB mv j) w (dAddW w7 g t1)
theorem dadd_mid {w : World} {g gi r h : Nat} {ev : Value} {t : Tb} {mv : Value} {M : Int → Int → World → Prop} {a b u k v : Int} {w1 : World} {gi1 r1 h1 : Nat} {ev1 : Value} {t1 : Tb} (hMo : MtOk mv M) (hT : Rd w g gi r h ev t mv M a b u k v w1 gi1 r1 h1 ev1 t1) {o : Obj} {w5 : World} {a2 : Option Addr} {cap2 : Nat}
    (hown : w5.ownsRow 0 69 5 (.slice a2 (t1.es.length + 1) cap2) (t1.es.length + 1) (enl t1.es ++ enc5 ⟨true, u, k, v, (t1.births : Int)⟩)) (hgrow : (w1.drew.alloc o).grownBy w5 ev1.ownBlock) (hat : (Value.slice a2 (t1.es.length + 1) cap2).ownBlock = ev1.ownBlock ∨ (Value.slice a2 (t1.es.length + 1) cap2).ownBlock = some (w1.drew.alloc o).heap.size) :
    ∃ ge2 i, a2 = some ⟨ge2, 0, none⟩ ∧ Al w g gi r h ev t mv M a b u k v gi1 r1 h1 t1 (w5.setCell ⟨g, 2, none⟩ (.slice a2 (t1.es.length + 1) cap2)) ge2 cap2 i := by
  have hD := hT.dt
  have hE5 : Es w5 (.slice a2 (t1.es.length + 1) cap2) (t1.es ++ [⟨true, u, k, v, (t1.births : Int)⟩]) := (EsB.snoc hown).es
  obtain ⟨a', cap', ge2, hv', hae', hro'⟩ := hE5.open
  have hl2 : (t1.es ++ [(⟨true, u, k, v, (t1.births : Int)⟩ : En)]).length = t1.es.length + 1 := by simp
  rw [hl2] at hv'
  cases hv'
  obtain ⟨rfl, hob, hfz⟩ := hae' (by rw [hl2]; omega)
  have hap2 : ∀ j, (Value.slice (some ⟨ge2, 0, none⟩) (t1.es.length + 1) cap2).ownBlock = some j → (ev1.ownBlock = some j ∨ w1.heap.size ≤ j) := by
    intro j hj
    rcases hat with e | e
    · exact .inl (e ▸ hj)
    · rw [e] at hj
      cases hj
      exact .inr (by simp)
  have hg2 := hap2 ge2 rfl
  obtain ⟨lx1, lx2, lx3⟩ := hD.cl.lt
  have lg := hD.hd.lt (by omega)
  have hne2 : ge2 ≠ g ∧ ge2 ≠ gi1 ∧ ge2 ≠ r1 ∧ ge2 ≠ h1 := by
    rcases hg2 with e | e
    · exact hD.ap ge2 e
    · exact ⟨by omega, by omega, by omega, by omega⟩
  have hblk : ∀ j, j < w1.heap.size → ev1.ownBlock ≠ some j → w5.heap[j]? = w1.heap[j]? := fun j hj hne => (hgrow.block j (by simp; exact Nat.lt_succ_of_lt hj) (fun e => hne e.symm)).trans (Below.heap_alloc _ _ _ hj)
  have hsz : w1.heap.size ≤ w5.heap.size := by have := hgrow.size; simp at this; exact Nat.le_of_succ_le this
  have hB5 : Blk w5 g 7 (dF mv gi1 ev1 t1) := hD.hd.same (hblk g lg (fun e => (hD.ap g e).1 rfl))
  have hC5 : Cl w5 gi1 r1 h1 t1.L (2 ^ t1.L) t1.c := hD.cl.same (hblk _ lx1 (fun e => (hD.ap _ e).2.1 rfl)) (hblk _ lx2 (fun e => (hD.ap _ e).2.2.1 rfl)) (hblk _ lx3 (fun e => (hD.ap _ e).2.2.2 rfl))
  have o6 : ∀ j, j ≠ g → (w5.setCell ⟨g, 2, none⟩ (.slice (some ⟨ge2, 0, none⟩) (t1.es.length + 1) cap2)).heap[j]? = w5.heap[j]? := fun j hj => Below.heap_setCell _ _ _ _ hj
  have hB6 : Blk (w5.setCell ⟨g, 2, none⟩ (.slice (some ⟨ge2, 0, none⟩) (t1.es.length + 1) cap2)) g 7 (setE (dF mv gi1 (.slice none 0 0) t1) (.slice (some ⟨ge2, 0, none⟩) (t1.es.length + 1) cap2)) := (hB5.put 2 _).congr fun j hj => by
    have : j = 0 ∨ j = 1 ∨ j = 2 ∨ j = 3 ∨ j = 4 ∨ j = 5 ∨ j = 6 := by omega
    rcases this with rfl | rfl | rfl | rfl | rfl | rfl | rfl <;> rfl
  have hC6 : Cl (w5.setCell ⟨g, 2, none⟩ (.slice (some ⟨ge2, 0, none⟩) (t1.es.length + 1) cap2)) gi1 r1 h1 t1.L (2 ^ t1.L) t1.c := hC5.same (o6 _ (fun e => hD.ne.1 e.symm)) (o6 _ (fun e => hD.ne.2.1 e.symm)) (o6 _ (fun e => hD.ne.2.2 e.symm))
  have hE6 : Es (w5.setCell ⟨g, 2, none⟩ (.slice (some ⟨ge2, 0, none⟩) (t1.es.length + 1) cap2)) (.slice (some ⟨ge2, 0, none⟩) (t1.es.length + 1) cap2) (t1.es ++ [⟨true, u, k, v, (t1.births : Int)⟩]) := hE5.same fun j hj => by cases hj; exact o6 _ hne2.1
  have hk1 := hro'.c1 t1.es.length (by rw [hl2]; omega)
  rw [nth_app_eq] at hk1
  obtain ⟨i, hil, hif⟩ := hT.ok.inv.first u
  have hX1 : Ex (fun j => dX g gi r h ev j ∨ mB mv j) w w5 := ⟨hgrow.os.trans hT.ex.os, hgrow.tape.trans hT.ex.tape, hgrow.output.trans hT.ex.output, Nat.le_trans hT.ex.size hsz, fun j hj hx => (hblk j (Nat.lt_of_lt_of_le hj hT.ex.size) (fun e => by
      rcases hT.fx j (.inr (.inr (.inr (.inr e)))) with y | y
      · exact hx (.inl y)
      · omega)).trans (hT.ex.block j hj hx)⟩
  have hX6 := hX1.setCell (p := ⟨g, 2, none⟩) (fun _ => .inl (.inl rfl)) (.slice (some ⟨ge2, 0, none⟩) (t1.es.length + 1) cap2)
  have hFX : ∀ j, dX g gi1 r1 h1 (.slice (some ⟨ge2, 0, none⟩) (t1.es.length + 1) cap2) j → dX g gi r h ev j ∨ w.heap.size ≤ j := by
    rintro j (e | e | e | e | e)
    · exact hT.fx j (.inl e)
    · exact hT.fx j (.inr (.inl e))
    · exact hT.fx j (.inr (.inr (.inl e)))
    · exact hT.fx j (.inr (.inr (.inr (.inl e))))
    · rcases hap2 j e with y | y
      · exact hT.fx j (.inr (.inr (.inr (.inr y))))
      · exact .inr (Nat.le_trans hT.ex.size y)
  refine ⟨ge2, i, rfl, hB6.c 1 (by omega), hB6.c 2 (by omega), ?_, hC6, hD.ne.2.2, hne2.2.2.2, hif, hil, fun w7 hC7 hb7 => ?_⟩
  · exact (World.cell?_of_block (a := ⟨ge2, t1.es.length * 5 + 1, none⟩) (o6 _ hne2.1)).trans hk1
  have lg6 : g < (w5.setCell ⟨g, 2, none⟩ (.slice (some ⟨ge2, 0, none⟩) (t1.es.length + 1) cap2)).heap.size := hB6.lt (by omega)
  have hB7 := hB6.same (hb7.block g lg6 hD.ne.2.2)
  have o8 : ∀ j, j ≠ g → (dAddW w7 g t1).heap[j]? = w7.heap[j]? := fun j hj => dAddW_other _ _ _ _ hj
  have s8 : (dAddW w7 g t1).heap.size = w7.heap.size := by unfold dAddW; simp
  refine ⟨hB7, ⟨?_, ?_, ?_, ?_, hD.ne, ?_⟩, ?_, hFX, ?_⟩
  · unfold dAddW
    refine (((hB7.put 3 _).put 4 _).put 6 _).congr fun j hj => ?_
    have : j = 0 ∨ j = 1 ∨ j = 2 ∨ j = 3 ∨ j = 4 ∨ j = 5 ∨ j = 6 := by omega
    rcases this with rfl | rfl | rfl | rfl | rfl | rfl | rfl
    · rfl
    · rfl
    · rfl
    · show Value.int .i64 (((t1.push u k v).live : Nat) : Int) = Value.int .i64 ((t1.live : Int) + 1)
      rw [Tb.live_push, Int.natCast_add]
      rfl
    · show Value.int .i64 (((t1.births + 1 : Nat)) : Int) = Value.int .i64 ((t1.births : Int) + 1)
      rw [Int.natCast_add]
      rfl
    · rfl
    · show Value.int .i64 (((t1.turn + 1 : Nat)) : Int) = Value.int .i64 ((t1.turn : Int) + 1)
      rw [Int.natCast_add]
      rfl
  · refine hE6.same fun j hj => ?_
    cases hj
    exact (o8 _ hne2.1).trans (hb7.block _ (hE6.lt _ rfl) hne2.2.2.2)
  · show Cl _ gi1 r1 h1 t1.L (2 ^ t1.L) (layc t1.c t1.L u t1.es.length)
    rw [layc, fidx_eq hif]
    exact hC7.same (o8 _ (fun e => hD.ne.1 e.symm)) (o8 _ (fun e => hD.ne.2.1 e.symm)) (o8 _ (fun e => hD.ne.2.2 e.symm))
  · intro j hj
    cases hj
    exact hne2
  · intro j hj
    obtain ⟨x1, x2, x3, x4, x5⟩ := hD.mp j hj
    refine ⟨x1, x2, x3, x4, fun e => ?_⟩
    rcases hap2 j e with y | y
    · exact x5 y
    · have := hMo.lt _ _ _ _ hT.m hj
      omega
  · refine hMo.same _ _ w1 _ hT.m fun j hj => ?_
    obtain ⟨x1, x2, x3, x4, x5⟩ := hD.mp j hj
    have hjl := hMo.lt _ _ _ _ hT.m hj
    rw [o8 j x1, hb7.block j (by simp [World.setCell]; omega) x4, o6 j x1, hblk j hjl x5]
  · have hX7 : Ex (fun j => dX g gi r h ev j ∨ mB mv j) w w7 := hX6.next hb7.ex fun j hj e => by
      rcases hT.fx j (.inr (.inr (.inr (.inl e)))) with y | y
      · exact .inl y
      · omega
    unfold dAddW
    exact ((hX7.setCell (p := ⟨g, 3, none⟩) (fun _ => .inl (.inl rfl)) _).setCell (p := ⟨g, 4, none⟩) (fun _ => .inl (.inl rfl)) _).setCell (p := ⟨g, 6, none⟩) (fun _ => .inl (.inl rfl)) _
/-- What Add leaves. -/
structure Ad (w : World) (g gi r h : Nat) (ev : Value) (mv : Value) (M : Int → Int → World → Prop) (a b : Int) (t' : Tb) (w' : World) (gi' r' h' : Nat) (ev' : Value) : Prop where
  dt : Dt w' g gi' r' h' ev' t' mv
  m : M a b w'
  fx : ∀ j, dX g gi' r' h' ev' j → dX g gi r h ev j ∨ w.heap.size ≤ j
  ex : Ex (fun j => dX g gi r h ev j ∨ mB mv j) w w'
set_option maxRecDepth 100000 in
set_option maxHeartbeats 8000000 in
theorem add_any {w : World} {g gi r h : Nat} {ev : Value} {t : Tb} {mv : Value} {M : Int → Int → World → Prop} {a b : Int} (hD : Dt w g gi r h ev t mv) (hO : t.Ok) (hMo : MtOk mv M) (hM : M a b w) (hm : t.made ≤ 1000000) (ha : 0 ≤ a ∧ a ≤ 1000000000) (ht : t.turn ≤ 1000000) (hb : t.births < 100000) (u k v : Int) :
    Calls Tryz.prog 70 #[.pointer (some ⟨g, 0, none⟩), .int .i64 u, .int .i64 k, .int .i64 v] w fun e w' => e = .returned (.tuple #[.int .i64 (((t.add u k v).es.length - 1 : Nat) : Int), .int .i64 0]) ∧ ∃ gi' r' h' ev', Ad w g gi r h ev mv M (a + ((t.add u k v).made - t.made : Nat)) b (t.add u k v) w' gi' r' h' ev' := by
  obtain ⟨i0, hi, hz0, hz1, hz2⟩ := info_parts Tryz.infoEn
  have CR := ready_yes (g := g) (gi := gi) (hD.hd.c 1 (by omega))
  have CM := makeRoom_any hD hO hMo hM hm ha u k v
  have HMO := Lib.hid hMo
  clear hD hO hMo hM
  go_enter Tryz.func70, Tryz.ntmps70
  go_wp2_with fail
  refine CR.mono ?_
  rintro e w0 ⟨rfl, rfl⟩
  clear CR
  go_wp2_with fail
  refine CM.mono ?_
  rintro e w1 ⟨rfl, gi1, r1, h1, ev1, t1, hT⟩
  clear CM
  have HT := Lib.hid hT
  have hB := hT.dt.hd
  obtain ⟨a1, cap1, ge1, hev, _, hro1⟩ := hT.dt.es.open
  have hcap1 := hro1.le
  have f2 : w1.cell? ⟨g, 2, none⟩ = some (.slice a1 t1.es.length cap1) := by rw [← hev]; exact hB.c 2 (by omega)
  have f4 : w1.cell? ⟨g, 4, none⟩ = some (.int .i64 (t1.births : Int)) := hB.c 4 (by omega)
  have z2 := hB.z 2
  have hlg := hB.lt (by omega)
  have hl1 : t1.es.length ≤ 100000 := Nat.le_trans hT.ok.few hT.ok.all
  have hown : w1.drew.ownsRow 0 69 5 (.slice a1 t1.es.length cap1) t1.es.length (enl t1.es) := by rw [← hev]; exact hT.dt.es
  have NF : Hid (∀ j u', (enc5 ⟨true, u, k, v, (t1.births : Int)⟩)[j]? = some u' → (w1.drew.alloc (.cells #[.bool true, .int .i64 u, .int .i64 k, .int .i64 v, .int .i64 (t1.births : Int)] 69)).cell? (Addr.add ⟨w1.drew.heap.size, 0, none⟩ j) = some u') := new_five w1.drew ⟨true, u, k, v, (t1.births : Int)⟩ 69
  have HE5 : Hid ((enc5 ⟨true, u, k, v, (t1.births : Int)⟩).length = 5 ∧ ∀ u' ∈ enc5 ⟨true, u, k, v, (t1.births : Int)⟩, u'.oneCell' = true) := ⟨rfl, fun u' hu => enl_one [⟨true, u, k, v, (t1.births : Int)⟩] u' (by simpa [enl] using hu)⟩
  have HGB : Hid (∀ w5 : World, (w1.drew.alloc (.cells #[.bool true, .int .i64 u, .int .i64 k, .int .i64 v, .int .i64 (t1.births : Int)] 69)).grownBy w5 (Value.slice a1 t1.es.length cap1).ownBlock → ∀ j, j < w1.heap.size → (Value.slice a1 t1.es.length cap1).ownBlock ≠ some j → w5.heap[j]? = w1.heap[j]?) := fun w5 hgw j hj hne => (hgw.block j (by simp; exact Nat.lt_succ_of_lt hj) (fun e => hne e.symm)).trans (Below.heap_alloc _ _ _ hj)
  have HNG : Hid ((Value.slice a1 t1.es.length cap1).ownBlock ≠ some g) := fun e => (hT.dt.ap g (by rw [hev]; exact e)).1 rfl
  have HEV := Lib.hid hev
  clear hT hro1 hB hev
  go_upto_region 8 with fail
  go_region_law (refine step_append_own rfl _ _ 62 rfl 0 69 i0 (.agg #[.bool false, .int .i64 0, .int .i64 0, .int .i64 0, .int .i64 0]) 5 40 Tryz.underlying62 hi hz0 hz1 hz2 rfl (by decide) (.slice a1 t1.es.length cap1) t1.es.length (enl t1.es) (by simp [Act.eval]) (World.ownsRow.alloc hown _) ⟨w1.drew.heap.size, 0, none⟩ 1 1 (enc5 ⟨true, u, k, v, (t1.births : Int)⟩) (by simp [Act.eval]) HE5.out.1 NF.out HE5.out.2 (by unfold maxLen; omega) (by omega) (Nat.zero_le _) ?_; intro v' w5 hown2 hgrow hat; obtain ⟨a2, cap2, hv2⟩ := ownsRow_shape hown2; subst hv2; have hb5 := HGB.out w5 hgrow g hlg HNG.out; have g2 := (World.cell?_of_block (a := ⟨g, 2, none⟩) hb5).trans f2; have gz2 := (World.frozen?_of_block (a := ⟨g, 2, none⟩) hb5).trans z2)
  all_goals
    rw [← HEV.out] at hgrow hat
    obtain ⟨ge2, i, rfl, hA⟩ := dadd_mid HMO.out HT.out hown2 hgrow hat
    have CL := lay_any hA.k1 hA.k2 hA.ke hA.cl hA.gh hA.eh (by omega) HT.out.room hA.isF hA.lt
    have HA := Lib.hid hA
    clear hown2 hgrow hat hA f2 f4 z2
    go_wp2_with fail
    generalize World.setCell w5 _ _ = w6 at *
    clear g2 gz2 hb5
    refine CL.mono ?_
    rintro e w7 ⟨rfl, hC7, hb7⟩
    clear CL
    obtain ⟨hB7, hDt, hM7, hFx, hEx⟩ := HA.out.fin w7 hC7 hb7
    have x4 : w7.cell? ⟨g, 4, none⟩ = some (.int .i64 (t1.births : Int)) := hB7.c 4 (by omega)
    have x3 : w7.cell? ⟨g, 3, none⟩ = some (.int .i64 (t1.live : Int)) := hB7.c 3 (by omega)
    have x6 : w7.cell? ⟨g, 6, none⟩ = some (.int .i64 (t1.turn : Int)) := hB7.c 6 (by omega)
    have y4 := hB7.z 4
    have y3 := hB7.z 3
    have y6 := hB7.z 6
    have hbi := HT.out.bi
    have htu := HT.out.tu
    have hlv1 := t1.live_le
    have e4 : IntKind.i64.wrap ((t1.births : Int) + 1) = (t1.births : Int) + 1 := i64_small (by omega) (by omega)
    have e3 : IntKind.i64.wrap ((t1.live : Int) + 1) = (t1.live : Int) + 1 := i64_small (by omega) (by omega)
    have e6 : IntKind.i64.wrap ((t1.turn : Int) + 1) = (t1.turn : Int) + 1 := i64_small (by omega) (by omega)
    have HN : Hid ((t.add u k v).es.length - 1 = t1.es.length) := by
      show _ = _
      rw [HT.out.eq]
      show (t1.es ++ [_]).length - 1 = _
      simp
    have HR : Hid (Ad w0 g gi r h ev mv M (a + ((t.add u k v).made - t.made : Nat)) b (t.add u k v) (dAddW w7 g t1) gi1 r1 h1 (.slice (some ⟨ge2, 0, none⟩) (t1.es.length + 1) cap2)) := by
      show Ad _ _ _ _ _ _ _ _ _ _ _ _ _ _ _ _
      rw [HT.out.eq]
      exact ⟨hDt, hM7, hFx, hEx⟩
    clear hC7 hb7 hB7 hDt hM7 hFx hEx hbi htu
    unfold dAddW at HR
    go_wp2
    go_ret2
    exact ⟨by rw [HN.out]; rfl, gi1, r1, h1, _, HR.out⟩
end Go.Proofs.YtbpflmdefpjcaaaGreat
namespace Go.Proofs.YtbpflmdefpjcaaaGreat
open Go.RowKit Go.WideShapes

theorem copy_out {w : World} {gd n B : Nat} {ys : List Value} {ev : Value} {es : List En} (hd : w.ownsRow B 69 5 (.slice (some ⟨gd, 0, none⟩) n n) n ys) (hE : Es w ev es) (hn : es.length = n) :
    ∃ w2, (∀ ty, (Builtin.copy_ #[62, 62] ty #[.slice (some ⟨gd, 0, none⟩) n n, ev]).run Tryz.prog w = .ok (goInt (n : Nat)) w2) ∧ EsB B w2 (.slice (some ⟨gd, 0, none⟩) n n) es ∧ But gd w w2 := by
  subst hn
  rcases hd.2 with ⟨e, _⟩ | ⟨g', cap', cur, e, h1, h2, h3, h4, h5, h6⟩
  · cases e
  cases e
  by_cases h0 : es.length = 0
  · have hes : es = [] := List.eq_nil_of_length_eq_zero h0
    refine ⟨w, fun ty => ?_, ?_, But.refl _ _⟩
    · obtain ⟨ae, cape, ge, hev, _, _⟩ := hE.open
      rw [hev, h0]
      exact run_copy_wide0 w _ _ ty 69 5 _ _ _ _ _ _ Tryz.underlying62 Tryz.infoEn5 (by simp)
    · refine ⟨by rw [enl_len], .inr ⟨gd, es.length, cur, rfl, h1, h2, h3, h4, h5, ?_⟩⟩
      subst hes
      simp [enl]
  · have hE' := hE
    obtain ⟨ae, cape, ge, hev, hae, hro⟩ := hE.open
    obtain ⟨rfl, _, _⟩ := hae (by omega)
    subst hev
    have hE0 : w.ownsRow 0 69 5 (.slice (some ⟨ge, 0, none⟩) es.length cape) es.length (enl es) := hE'
    have hcs := enl_len es
    have hmin : Nat.min es.length es.length = es.length := Nat.min_self _
    refine ⟨w.setRow gd (cur.toList.take 0 ++ enl es ++ cur.toList.drop (0 + (enl es).length)).toArray, fun ty => ?_, ?_, but_setRow _ _ _⟩
    · have := run_copy_wide (P := Tryz.prog) w 62 62 ty 69 5 gd 0 es.length es.length ⟨ge, 0, none⟩ es.length cape cur 69 (enl es) Tryz.underlying62 Tryz.infoEn5 h2 (by rw [hcs, hmin]) ?_ (by rw [hcs, h5]; omega) (enl_one _)
      · rw [hmin] at this
        exact this
      · intro j v hj
        have hjl : j < es.length * 5 := by rw [← hcs]; exact (List.getElem?_eq_some_iff.1 hj).1
        rw [WideShapes.add_plain, Nat.zero_add, hE0.cellAt j hjl]
        exact hj
    · refine ⟨by rw [enl_len], .inr ⟨gd, es.length, _, rfl, h1, setRow_heap w gd _ _ _ _ h2, Nat.le_refl _, h4, ?_, ?_⟩⟩
      · simp [hcs, h5]
      · have hdr : cur.toList.drop (0 + (enl es).length) = [] := List.drop_eq_nil_of_le (by rw [hcs, Array.length_toList, h5]; omega)
        rw [hdr]
        simp [← hcs]
set_option maxRecDepth 100000 in
set_option maxHeartbeats 2000000 in
theorem copied_any {w : World} {g : Nat} {ev : Value} {es : List En} (k2 : w.cell? ⟨g, 2, none⟩ = some ev) (hE : Es w ev es) (hlen : es.length ≤ 100000) :
    Calls Tryz.prog 52 #[.pointer (some ⟨g, 0, none⟩)] w fun e w' => ∃ v, e = .returned v ∧ EsB w.heap.size w' v es ∧ Below w.heap.size w w' := by
  obtain ⟨i0, hi, hz0, hz1, hz2⟩ := info_parts Tryz.infoEn
  obtain ⟨ae, cape, ge, hev, hae, hro⟩ := hE.open
  have hcap := hro.le
  subst hev
  have HE := Lib.hid hE
  have hlg := lt_of_cell k2
  clear hE hro hae
  have HC : Hid (∀ (w3 : World) (ys : List Value), Below w.heap.size w w3 → w3.ownsRow w.heap.size 69 5 (.slice (some ⟨w.heap.size, 0, none⟩) es.length es.length) es.length ys → ∃ w4, (∀ ty, (Builtin.copy_ #[62, 62] ty #[.slice (some ⟨w.heap.size, 0, none⟩) es.length es.length, .slice ae es.length cape]).run Tryz.prog w3 = .ok (goInt (es.length : Nat)) w4) ∧ EsB w.heap.size w4 (.slice (some ⟨w.heap.size, 0, none⟩) es.length es.length) es ∧ Below w.heap.size w w4) := fun w3 ys hb hown => by
    obtain ⟨w4, h1, h2, h3⟩ := copy_out hown (HE.out.same fun k hk => hb.block k (HE.out.lt k hk)) rfl
    exact ⟨w4, h1, h2, hb.trans (h3.below (Nat.le_refl _) hb.size)⟩
  go_enter Tryz.func52, Tryz.ntmps52
  go_wp2_with (first | (at_make; refine wpList_make_full _ rfl _ _ 62 rfl w.heap.size 69 i0 (.agg #[.bool false, .int .i64 0, .int .i64 0, .int .i64 0, .int .i64 0]) 5 Tryz.underlying62 hi hz0 hz1 .i64 .i64 _ _ es.length rfl rfl (by omega) (by omega) (by rw [hz2]; omega) (by unfold maxLen; omega) (Nat.le_refl _) ?_; intro w3 hown3 hgrow3; have hb3 : Below w.heap.size w w3 := (Below.refl _ w).grown hgrow3 (Nat.le_refl _) (fun k e => by cases e); have y2 := (hb3.cell (p := ⟨g, 2, none⟩) hlg).trans k2; obtain ⟨w4, HR4, HE4, HB4⟩ : ∃ w4, (∀ ty, (Builtin.copy_ #[62, 62] ty #[.slice (some ⟨w.heap.size, 0, none⟩) es.length es.length, .slice ae es.length cape]).run Tryz.prog w3 = .ok (goInt (es.length : Nat)) w4) ∧ Hid (EsB w.heap.size w4 (.slice (some ⟨w.heap.size, 0, none⟩) es.length es.length) es) ∧ Hid (Below w.heap.size w w4) := HC.out w3 _ hb3 hown3) | fail)
  go_ret
  exact ⟨_, rfl, HE4.out, HB4.out⟩
/-- Why there is no live entry of that number. -/
noncomputable def noE (t : Tb) (n : Int) : Int := @ite Int (t.has n) (Classical.propDecidable _) 0 7
theorem Tb.has_nat {t : Tb} {n : Int} (h : t.has n) : ∃ m : Nat, n = (m : Int) ∧ m < t.es.length ∧ (nth t.es m).live = true := ⟨n.toNat, by have := h.1; omega, by have := h.1; have := h.2.1; omega, h.2.2⟩
set_option maxRecDepth 100000 in
set_option maxHeartbeats 2000000 in
theorem trefuse_any {w : World} {g : Nat} {ev : Value} {t : Tb} (k2 : w.cell? ⟨g, 2, none⟩ = some ev) (hE : Es w ev t.es) (n : Int) :
    Calls Tryz.prog 61 #[.pointer (some ⟨g, 0, none⟩), .int .i64 n] w fun e w' => e = .returned (.int .i64 (noE t n)) ∧ w' = w := by
  obtain ⟨ae, cape, ge, hev, hae, hro⟩ := hE.open
  have hcap := hro.le
  subst hev
  by_cases h0 : n < 0
  · have e0 : noE t n = 7 := if_neg (fun h => by have := h.1; omega)
    rw [e0]
    clear hE hro hae e0
    go_enter Tryz.func61, Tryz.ntmps61
    go_wp2
    go_ret
    exact ⟨rfl, rfl⟩
  · by_cases h1 : n < (t.es.length : Int)
    · obtain ⟨m, rfl⟩ : ∃ m : Nat, n = (m : Int) := ⟨n.toNat, by omega⟩
      have hm : m < t.es.length := by omega
      obtain ⟨rfl, _, _⟩ := hae (by omega)
      have c0 := hro.c0 m hm
      have t1 : ¬ ((t.es.length : Int) ≤ (m : Int)) := by omega
      by_cases hl : (nth t.es m).live = true
      · have e0 : noE t (m : Int) = 0 := if_pos ⟨by omega, by omega, by rw [Int.toNat_natCast]; exact hl⟩
        rw [e0]
        rw [hl] at c0
        clear hE hro hae e0 hl
        go_enter Tryz.func61, Tryz.ntmps61
        go_wp2
        go_ret
        exact ⟨rfl, rfl⟩
      · have hlf : (nth t.es m).live = false := by simpa using hl
        have e0 : noE t (m : Int) = 7 := if_neg (fun h => hl (by have := h.2.2; rwa [Int.toNat_natCast] at this))
        rw [e0]
        rw [hlf] at c0
        clear hE hro hae e0 hl hlf
        go_enter Tryz.func61, Tryz.ntmps61
        go_wp2
        go_ret
        exact ⟨rfl, rfl⟩
    · have t1 : (t.es.length : Int) ≤ n := by omega
      have e0 : noE t n = 7 := if_neg (fun h => by have := h.2.1; omega)
      rw [e0]
      clear hE hro hae e0
      go_enter Tryz.func61, Tryz.ntmps61
      go_wp2
      go_ret
      exact ⟨rfl, rfl⟩
theorem len_any {w : World} {g : Nat} {n : Int} (k3 : w.cell? ⟨g, 3, none⟩ = some (.int .i64 n)) :
    Calls Tryz.prog 34 #[.pointer (some ⟨g, 0, none⟩)] w fun e w' => e = .returned (.int .i64 n) ∧ w' = w := by
  go_enter Tryz.func34, Tryz.ntmps34
  go_wp2
  go_ret
  exact ⟨rfl, rfl⟩
end Go.Proofs.YtbpflmdefpjcaaaGreat
namespace Go.Proofs.YtbpflmdefpjcaaaGreat
open Go.RowKit Go.WideShapes

/-- What a Seeker asks of the meter. -/
def MvOk (mv : Value) (M : Int → Int → World → Prop) : Prop := ∀ a b w, 0 ≤ b → b ≤ 1000000000000 → M a b w → Calls Tryz.prog 76 #[mv, .int .i64 1] w fun e w' => e = .returned (.tuple #[]) ∧ M a (b + 1) w' ∧ Ex (mB mv) w w'
/-- A Seeker's cells: its table, the changes that it knows, its hash, its walk, what it told last, what it visited. -/
def skF (tp : Value) (tu : Nat) (u : Int) (c p S : Nat) (told : Int) (v : Nat) : Nat → Value
  | 0 => tp
  | 1 => .int .i64 (tu : Int)
  | 2 => .int .i64 u
  | 3 => .int .u64 (c : Int)
  | 4 => .int .u64 (p : Int)
  | 5 => .int .u64 ((S : Int) - 1)
  | 6 => .int .i64 told
  | _ => .int .i64 (v : Int)
/-- A Seeker at place i of the trail of u. -/
def Sk (w : World) (s : Nat) (tp : Value) (tu : Nat) (u : Int) (L i : Nat) (told : Int) (v : Nat) : Prop := Blk w s 8 (skF tp tu u (trl (uw u) L i) (uw u / 32 ^ i) (2 ^ L) told v)
set_option maxRecDepth 100000 in
set_option maxHeartbeats 4000000 in
theorem seek_any {w : World} {g gi r h : Nat} {ev : Value} {t : Tb} {mv : Value} (hD : Dt w g gi r h ev t mv) (u : Int) :
    Calls Tryz.prog 58 #[.pointer (some ⟨g, 0, none⟩), .int .i64 u] w fun e w' => ∃ s, e = .returned (.pointer (some ⟨s, 0, none⟩)) ∧ w.heap.size ≤ s ∧ Sk w' s (.pointer (some ⟨g, 0, none⟩)) t.turn u t.L 0 (-1) 0 ∧ Below w.heap.size w w' := by
  have k1 : w.cell? ⟨g, 1, none⟩ = some (.pointer (some ⟨gi, 0, none⟩)) := hD.hd.c 1 (by omega)
  have k6 : w.cell? ⟨g, 6, none⟩ = some (.int .i64 (t.turn : Int)) := hD.hd.c 6 (by omega)
  have hS : Tr.Sz t.L (2 ^ t.L) := ⟨rfl, hD.cl.sz.le⟩
  have CR := ready_yes k1
  have CL : Calls Tryz.prog 47 #[.pointer (some ⟨gi, 0, none⟩)] w.drew fun e w' => e = .returned (.int .i64 (t.L : Int)) ∧ w' = w.drew := log_any (hD.cl.same rfl rfl rfl)
  have CB := Tr.begin_any hS u w.drew
  have hlg := lt_of_cell k1
  have hB0 : Below w.heap.size w w.drew := (Below.refl _ w).drew
  have HT0 : Hid (uw u % 2 ^ t.L = trl (uw u) t.L 0) := by show _ = _; rw [trl]
  rw [HT0.out] at CB
  have d1 : w.drew.cell? ⟨g, 1, none⟩ = some (.pointer (some ⟨gi, 0, none⟩)) := k1
  have d6 : w.drew.cell? ⟨g, 6, none⟩ = some (.int .i64 (t.turn : Int)) := k6
  clear hD hS
  generalize hSS : 2 ^ t.L = S at *
  have HSS := Lib.hid hSS
  clear hSS
  generalize hx0 : trl (uw u) t.L 0 = x0 at *
  generalize hU : uw u = U at *
  have HX0 := Lib.hid hx0
  have HU := Lib.hid hU
  clear hx0 hU HT0
  go_enter Tryz.func58, Tryz.ntmps58
  go_wp2_with fail
  refine CR.mono ?_
  rintro e w1 ⟨rfl, rfl⟩
  clear CR
  go_wp2_with fail
  go_region_held3 (fun V => V.cell? ⟨g, 1, none⟩ = some (.pointer (some ⟨gi, 0, none⟩)) ∧ V.cell? ⟨g, 6, none⟩ = some (.int .i64 (t.turn : Int)))
    (first | with_reducible exact ⟨d1, d6⟩ | with_reducible exact ⟨k1, k6⟩ | with_reducible exact ⟨q1, q6⟩ | with_reducible exact ⟨r1, r6⟩ | fail)
    (first | (go_at_call 47; refine CL.mono ?_; rintro e v2 ⟨rfl, rfl⟩) | (go_at_call 72; refine CB.mono ?_; rintro e w2 ⟨rfl, hb2⟩; have hB2 := hB0.trans hb2; have q1 := (hB2.cell (p := ⟨g, 1, none⟩) hlg).trans k1; have q6 := (hB2.cell (p := ⟨g, 6, none⟩) hlg).trans k6; have r1 := (cell_alloc_old w2 (.cells #[.pointer (some ⟨g, 0, none⟩), .int .i64 (t.turn : Int), .int .i64 u, .int .u64 (x0 : Int), .int .u64 (U : Int), .int .u64 ((S : Int) - 1), .int .i64 (-1), .int .i64 0] 97) g 1 (Nat.lt_of_lt_of_le hlg hB2.size)).trans q1; have r6 := (cell_alloc_old w2 (.cells #[.pointer (some ⟨g, 0, none⟩), .int .i64 (t.turn : Int), .int .i64 u, .int .u64 (x0 : Int), .int .u64 (U : Int), .int .u64 ((S : Int) - 1), .int .i64 (-1), .int .i64 0] 97) g 6 (Nat.lt_of_lt_of_le hlg hB2.size)).trans q6) | fail)
  have HB : Hid (Blk (w2.alloc (.cells #[.pointer (some ⟨g, 0, none⟩), .int .i64 (t.turn : Int), .int .i64 u, .int .u64 (x0 : Int), .int .u64 (U : Int), .int .u64 ((S : Int) - 1), .int .i64 (-1), .int .i64 0] 97)) w2.heap.size 8 (skF (.pointer (some ⟨g, 0, none⟩)) t.turn u x0 U S (-1) 0)) := (Blk.new w2 _ _).congr fun j hj => by
    have : j = 0 ∨ j = 1 ∨ j = 2 ∨ j = 3 ∨ j = 4 ∨ j = 5 ∨ j = 6 ∨ j = 7 := by simp at hj; omega
    rcases this with rfl | rfl | rfl | rfl | rfl | rfl | rfl | rfl <;> rfl
  have HBW : Hid (∀ o, Below w1.heap.size w1 (w2.alloc o)) := fun o => hB2.alloc hB2.size o
  have hs2 := hB2.size
  clear q1 q6 r1 r6 d1 d6 k1 k6 hB2 hb2
  go_wp2
  go_ret
  refine ⟨w2.heap.size, rfl, hs2, ?_, HBW.out _⟩
  unfold Sk
  rw [HSS.out, HU.out, HX0.out]
  simpa using HB.out
end Go.Proofs.YtbpflmdefpjcaaaGreat
namespace Go.Proofs.YtbpflmdefpjcaaaGreat
open Go.RowKit Go.WideShapes

set_option maxRecDepth 100000 in
set_option maxHeartbeats 4000000 in
theorem hasEnded_no {w : World} {s g tu : Nat} (x0 : w.cell? ⟨s, 0, none⟩ = some (.pointer (some ⟨g, 0, none⟩))) (x1 : w.cell? ⟨s, 1, none⟩ = some (.int .i64 (tu : Int))) (k6 : w.cell? ⟨g, 6, none⟩ = some (.int .i64 (tu : Int))) :
    Calls Tryz.prog 59 #[.pointer (some ⟨s, 0, none⟩)] w fun e w' => e = .returned (.bool false) ∧ w' = w.drew := by
  go_enter Tryz.func59, Tryz.ntmps59
  go_wp2_with fail
  go_region_held3 (fun V => V.cell? ⟨s, 0, none⟩ = some (.pointer (some ⟨g, 0, none⟩)) ∧ V.cell? ⟨s, 1, none⟩ = some (.int .i64 (tu : Int)) ∧ V.cell? ⟨g, 6, none⟩ = some (.int .i64 (tu : Int)))
    (first | exact ⟨x0, x1, k6⟩ | fail) (fail)
  go_wp2
  go_ret
  exact ⟨rfl, rfl⟩
theorem visited_any {w : World} {s : Nat} {v : Int} (x7 : w.cell? ⟨s, 7, none⟩ = some (.int .i64 v)) : Calls Tryz.prog 29 #[.pointer (some ⟨s, 0, none⟩)] w fun e w' => e = .returned (.int .i64 v) ∧ w' = w := by
  go_enter Tryz.func29, Tryz.ntmps29
  go_wp2
  go_ret
  exact ⟨rfl, rfl⟩
set_option maxRecDepth 100000 in
set_option maxHeartbeats 4000000 in
theorem visit7_any {w : World} {g gi r h : Nat} {ev : Value} {t : Tb} {mv : Value} {M : Int → Int → World → Prop} {a b : Int} (hD : Dt w g gi r h ev t mv) (hMo : MtOk mv M) (hMv : MvOk mv M) (hM : M a b w) (hb : 0 ≤ b ∧ b ≤ 1000000000000) {s tu i v : Nat} {u told : Int} (hK : Sk w s (.pointer (some ⟨g, 0, none⟩)) tu u t.L i told v) (hs : ¬ dX g gi r h ev s) (hsm : ¬ mB mv s) (hv : v ≤ 1000000000) :
    Calls Tryz.prog 60 #[.pointer (some ⟨s, 0, none⟩)] w fun e w' => e = .returned (.int .i64 (t.c (trl (uw u) t.L i))) ∧ Sk w' s (.pointer (some ⟨g, 0, none⟩)) tu u t.L (i + 1) told (v + 1) ∧ M a (b + 1) w' ∧ Ex (fun k => k = s ∨ mB mv k) w w' := by
  have hS : Tr.Sz t.L (2 ^ t.L) := ⟨rfl, hD.cl.sz.le⟩
  have hx := trl_lt (uw u) t.L i
  have hm := hS.most
  have hp64 : uw u / 32 ^ i < 18446744073709551616 := Nat.lt_of_le_of_lt (Nat.div_le_self _ _) (uw_lt u)
  have x0 : w.cell? ⟨s, 0, none⟩ = some (.pointer (some ⟨g, 0, none⟩)) := hK.c 0 (by omega)
  have k1 : w.cell? ⟨g, 1, none⟩ = some (.pointer (some ⟨gi, 0, none⟩)) := hD.hd.c 1 (by omega)
  have k0 : w.cell? ⟨g, 0, none⟩ = some mv := hD.hd.c 0 (by omega)
  have hsg : s ≠ g := fun e => hs (.inl e)
  have lg := hD.hd.lt (by omega)
  have ls := hK.lt (by omega)
  have CC : Calls Tryz.prog 74 #[.pointer (some ⟨s, 3, none⟩)] w.drew fun e w' => e = .returned (.int .i64 ((trl (uw u) t.L i : Nat) : Int)) ∧ w' = w.drew := Tr.cell_any s 3 _ (by omega) _ (hK.c 3 (by omega))
  have CG : Calls Tryz.prog 73 #[.pointer (some ⟨gi, 0, none⟩), .int .i64 ((trl (uw u) t.L i : Nat) : Int)] w.drew fun e w' => e = .returned (.tuple #[.int .i64 (t.c (trl (uw u) t.L i)), .int .i64 0]) ∧ w' = w.drew := getM_yes (hD.cl.same (w' := w.drew) rfl rfl rfl) _ hx
  have CS : Calls Tryz.prog 75 #[.pointer (some ⟨s, 3, none⟩)] w.drew _ := Tr.step_any hS s 3 _ _ hx hp64 w.drew (hK.c 3 (by omega)) (hK.c 4 (by omega)) (hK.c 5 (by omega)) (hK.z 3) (hK.z 4)
  rw [show (trl (uw u) t.L i * 5 + uw u / 32 ^ i / 32 + 1) % 2 ^ t.L = trl (uw u) t.L (i + 1) by rw [trl, left_step], left_step] at CS
  have hK2 : Blk (Tr.stepW w.drew s 3 (trl (uw u) t.L (i + 1)) (uw u / 32 ^ (i + 1))) s 8 (skF (.pointer (some ⟨g, 0, none⟩)) tu u (trl (uw u) t.L (i + 1)) (uw u / 32 ^ (i + 1)) (2 ^ t.L) told v) := by
    unfold Tr.stepW
    have h1 : Blk w.drew s 8 _ := hK.same rfl
    refine (((h1.put 4 _).put 3 _).same (w' := World.drew _) rfl).congr fun j hj => ?_
    have : j = 0 ∨ j = 1 ∨ j = 2 ∨ j = 3 ∨ j = 4 ∨ j = 5 ∨ j = 6 ∨ j = 7 := by omega
    rcases this with rfl | rfl | rfl | rfl | rfl | rfl | rfl | rfl <;> rfl
  have hX2 : Ex (fun k => k = s ∨ mB mv k) w (Tr.stepW w.drew s 3 (trl (uw u) t.L (i + 1)) (uw u / 32 ^ (i + 1))) := by
    unfold Tr.stepW
    exact (((Ex.refl _ w).drew.setCell (p := ⟨s, 3 + 1, none⟩) (fun _ => .inl rfl) _).setCell (p := ⟨s, 3, none⟩) (fun _ => .inl rfl) _).drew
  have HX2same : Hid (∀ k, mB mv k → k ≠ s → (Tr.stepW w.drew s 3 (trl (uw u) t.L (i + 1)) (uw u / 32 ^ (i + 1))).heap[k]? = w.heap[k]?) := fun k _ hks => by
    unfold Tr.stepW
    show (World.setCell _ _ _).heap[k]? = _
    rw [Below.heap_setCell _ _ _ _ hks, Below.heap_setCell _ _ _ _ hks]
    rfl
  have HD := Lib.hid hD
  have HMO := Lib.hid hMo
  have HMV := Lib.hid hMv
  have HM := Lib.hid hM
  clear hS hx hD hK hMo hMv hM hp64
  generalize t.c (trl (uw u) t.L i) = cv at *
  generalize trl (uw u) t.L i = x at *
  generalize Tr.stepW w.drew s 3 (trl (uw u) t.L (i + 1)) (uw u / 32 ^ (i + 1)) = w2 at *
  have d0 : w.drew.cell? ⟨s, 0, none⟩ = some (.pointer (some ⟨g, 0, none⟩)) := x0
  have d1 : w.drew.cell? ⟨g, 1, none⟩ = some (.pointer (some ⟨gi, 0, none⟩)) := k1
  go_enter Tryz.func60, Tryz.ntmps60
  go_wp2_with fail
  go_region_held3 (fun V => V.cell? ⟨s, 0, none⟩ = some (.pointer (some ⟨g, 0, none⟩)) ∧ V.cell? ⟨g, 1, none⟩ = some (.pointer (some ⟨gi, 0, none⟩)))
    (first | with_reducible exact ⟨d0, d1⟩ | with_reducible exact ⟨x0, k1⟩ | fail)
    (first | (go_at_call 74; refine CC.mono ?_; rintro e v2 ⟨rfl, rfl⟩) | (go_at_call 73; refine CG.mono ?_; rintro e v2 ⟨rfl, rfl⟩) | fail)
  clear CC CG
  have y0 : w2.cell? ⟨s, 0, none⟩ = some (.pointer (some ⟨g, 0, none⟩)) := hK2.c 0 (by omega)
  have y7 : w2.cell? ⟨s, 7, none⟩ = some (.int .i64 (v : Int)) := hK2.c 7 (by omega)
  have yz7 := hK2.z 7
  have e7 : IntKind.i64.wrap ((v : Int) + 1) = (v : Int) + 1 := i64_small (by omega) (by omega)
  have o3 : ∀ k, k ≠ s → (w2.setCell ⟨s, 7, none⟩ (.int .i64 ((v : Int) + 1))).heap[k]? = w2.heap[k]? := fun k hk => Below.heap_setCell _ _ _ _ hk
  have hK3 : Blk (w2.setCell ⟨s, 7, none⟩ (.int .i64 ((v : Int) + 1))) s 8 (skF (.pointer (some ⟨g, 0, none⟩)) tu u (trl (uw u) t.L (i + 1)) (uw u / 32 ^ (i + 1)) (2 ^ t.L) told (v + 1)) := (hK2.put 7 _).congr fun j hj => by
    have : j = 0 ∨ j = 1 ∨ j = 2 ∨ j = 3 ∨ j = 4 ∨ j = 5 ∨ j = 6 ∨ j = 7 := by omega
    rcases this with rfl | rfl | rfl | rfl | rfl | rfl | rfl | rfl
    · rfl
    · rfl
    · rfl
    · rfl
    · rfl
    · rfl
    · rfl
    · show Value.int .i64 ((v + 1 : Nat) : Int) = Value.int .i64 ((v : Int) + 1)
      rw [Int.natCast_add]
      rfl
  have hX3 := hX2.setCell (p := ⟨s, 7, none⟩) (fun _ => .inl rfl) (.int .i64 ((v : Int) + 1))
  have z0 : (w2.setCell ⟨s, 7, none⟩ (.int .i64 ((v : Int) + 1))).cell? ⟨s, 0, none⟩ = some (.pointer (some ⟨g, 0, none⟩)) := hK3.c 0 (by omega)
  have zg : (w2.setCell ⟨s, 7, none⟩ (.int .i64 ((v : Int) + 1))).cell? ⟨g, 0, none⟩ = some mv := (World.cell?_of_block (a := ⟨g, 0, none⟩) (hX3.block g lg (fun hx => hx.elim (fun e => hsg e.symm) (fun e => (HD.out.mp g e).1 rfl)))).trans k0
  have hM3 : M a b (w2.setCell ⟨s, 7, none⟩ (.int .i64 ((v : Int) + 1))) := HMO.out.same a b w _ HM.out fun k hk => by
    have hks : k ≠ s := fun e => hsm (e ▸ hk)
    rw [o3 k hks]
    exact HX2same.out k hk hks
  have CV := HMV.out a b _ hb.1 hb.2 hM3
  have HK3 := Lib.hid hK3
  have HX3 := Lib.hid hX3
  clear hK2 hX2 hK3 hX3 hM3 o3
  go_wp2_with fail
  refine CS.mono ?_
  rintro e w3 ⟨rfl, rfl⟩
  clear CS
  go_wp2_with fail
  refine CV.mono ?_
  rintro e w4 ⟨rfl, hM4, hX4⟩
  clear CV
  go_wp2
  go_ret
  refine ⟨rfl, HK3.out.same (hX4.block s (by have := HX3.out.size; omega) hsm), hM4, HX3.out.next hX4 (fun k _ hk => .inr hk)⟩
end Go.Proofs.YtbpflmdefpjcaaaGreat
namespace Go.Proofs.YtbpflmdefpjcaaaGreat
open Go.RowKit Go.WideShapes

theorem Ex.drewN {X : Nat → Prop} {a w : World} (x : Ex X a w) (n : Nat) : Ex X a (w.drewN n) := ⟨x.os, x.tape, x.output, x.size, x.block⟩
/-- What Next leaves: it went on to place j; it told n, or it has ended. -/
structure Nx (w : World) (s g : Nat) (t : Tb) (mv : Value) (M : Int → Int → World → Prop) (a b : Int) (u : Int) (i v j : Nat) (tp : Value) (told : Int) (w' : World) : Prop where
  sk : Sk w' s tp t.turn u t.L (j + 1) told (v + (j + 1 - i))
  m : M a (b + ((j + 1 - i : Nat) : Int)) w'
  ex : Ex (fun k => k = s ∨ mB mv k) w w'
set_option maxRecDepth 100000 in
set_option maxHeartbeats 8000000 in
theorem next7_any {w : World} {g gi r h : Nat} {ev : Value} {t : Tb} {mv : Value} {M : Int → Int → World → Prop} {a b : Int} (hD : Dt w g gi r h ev t mv) (hI : Inv t.es t.L t.c) (hMo : MtOk mv M) (hMv : MvOk mv M) (hM : M a b w) (hb : 0 ≤ b ∧ b ≤ 100000000000) {s i v f : Nat} {u told : Int} (hK : Sk w s (.pointer (some ⟨g, 0, none⟩)) t.turn u t.L i told v) (hs : ¬ dX g gi r h ev s) (hsm : ¬ mB mv s) (hv : v ≤ 100000000)
    (hT : Told t.es t.L t.c u i told) (hF : IsF t.c (uw u) t.L f) (hf : f < 2 ^ t.L + 13) (hif : i ≤ f) (htd : -1 ≤ told) (hlen : t.es.length ≤ 100000) :
    Calls Tryz.prog 42 #[.pointer (some ⟨s, 0, none⟩)] w fun e w' => ∃ j, i ≤ j ∧ j ≤ f ∧ ((∃ n : Nat, e = .returned (.tuple #[.int .i64 (n : Int), .bool true]) ∧ Of t.es u n ∧ told < (n : Int) ∧ t.c (trl (uw u) t.L j) = (n : Int) ∧ Told t.es t.L t.c u j told ∧ Told t.es t.L t.c u (j + 1) (n : Int) ∧ (∀ m, Of t.es u m → told < (m : Int) → n ≤ m) ∧ Nx w s g t mv M a b u i v j (.pointer (some ⟨g, 0, none⟩)) (n : Int) w') ∨
      (e = .returned (.tuple #[.int .i64 (-1), .bool false]) ∧ j = f ∧ (∀ n, Of t.es u n → (n : Int) ≤ told) ∧ Nx w s g t mv M a b u i v j (.pointer none) told w')) := by
  have hm : 2 ^ t.L ≤ 1048576 := Nat.le_trans (Nat.pow_le_pow_right (n := 2) (by decide) hD.cl.sz.le) (by decide)
  have CE := hasEnded_no (hK.c 0 (by omega)) (hK.c 1 (by omega)) (hD.hd.c 6 (by omega))
  have HD := Lib.hid hD
  have HI := Lib.hid hI
  have HMO := Lib.hid hMo
  have HMV := Lib.hid hMv
  have HF := Lib.hid hF
  have HSD := Lib.hid hs
  have HK0 : Hid (Sk w.drew s (.pointer (some ⟨g, 0, none⟩)) t.turn u t.L i told v) := hK.same rfl
  have HM0 : Hid (M a b w.drew) := hMo.same a b w _ hM fun _ _ => rfl
  have HT0 := Lib.hid hT
  have hlg := hD.hd.lt (by omega)
  have hls := hK.lt (by omega)
  have hsg : s ≠ g := fun e => hs (.inl e)
  clear hD hI hMo hMv hF hs hK hM hT
  go_enter Tryz.func42, Tryz.ntmps42
  go_wp2_with fail
  refine CE.mono ?_
  rintro e w1 ⟨rfl, hw1⟩
  clear CE
  have HW1 := Lib.hid hw1
  clear hw1
  go_wp2_with fail
  go_loopg [4] (f + 1 - i) (fun gk _ wr => ∃ j : Nat, j + gk = f + 1 ∧ i ≤ j ∧ j ≤ f ∧ Sk wr s (.pointer (some ⟨g, 0, none⟩)) t.turn u t.L j told (v + (j - i)) ∧ M a (b + ((j - i : Nat) : Int)) wr ∧ Told t.es t.L t.c u j told ∧ Ex (fun k => k = s ∨ mB mv k) w wr)
  case atStart => exact ⟨i, by omega, Nat.le_refl _, hif, by rw [Nat.sub_self, Nat.add_zero, HW1.out]; exact HK0.out, by rw [Nat.sub_self, Int.natCast_zero, Int.add_zero, HW1.out]; exact HM0.out, HT0.out, by rw [HW1.out]; exact (Ex.refl _ w).drew⟩
  case round =>
    clear HK0 HM0 HT0 HW1
    obtain ⟨j, hgj, hij, hjf, hKj, hMj, hTj, hXj⟩ := hrel
    have hDj : Dt wr g gi r h ev t mv := HD.out.same fun k hk => hXj.block k (HD.out.lt k hk) (fun hx => hx.elim (fun e => HSD.out (e ▸ hk)) (fun e => by
      obtain ⟨m1, m2, m3, m4, m5⟩ := HD.out.mp k e
      rcases hk with y | y | y | y | y
      · exact m1 y
      · exact m2 y
      · exact m3 y
      · exact m4 y
      · exact m5 y))
    have CV := visit7_any hDj HMO.out HMV.out hMj (by omega) hKj HSD.out hsm (by omega)
    have HXj := Lib.hid hXj
    have HTj := Lib.hid hTj
    clear hDj hKj hMj hXj hTj
    have hsub : v + (j - i) + 1 = v + (j + 1 - i) := by omega
    have hsub2 : b + ((j - i : Nat) : Int) + 1 = b + ((j + 1 - i : Nat) : Int) := by omega
    rw [hsub, hsub2] at CV
    go_wp2_with fail
    refine CV.mono ?_
    rintro e w2 ⟨rfl, hK2, hM2, hX2⟩
    clear CV
    have hXw : Ex (fun k => k = s ∨ mB mv k) w w2 := HXj.out.trans hX2
    have hDw : Dt w2 g gi r h ev t mv := HD.out.same fun k hk => hXw.block k (HD.out.lt k hk) (fun hx => hx.elim (fun e => HSD.out (e ▸ hk)) (fun e => by
      obtain ⟨m1, m2, m3, m4, m5⟩ := HD.out.mp k e
      rcases hk with y | y | y | y | y
      · exact m1 y
      · exact m2 y
      · exact m3 y
      · exact m4 y
      · exact m5 y))
    have x0 : w2.cell? ⟨s, 0, none⟩ = some (.pointer (some ⟨g, 0, none⟩)) := hK2.c 0 (by omega)
    have x2 : w2.cell? ⟨s, 2, none⟩ = some (.int .i64 u) := hK2.c 2 (by omega)
    have x6 : w2.cell? ⟨s, 6, none⟩ = some (.int .i64 told) := hK2.c 6 (by omega)
    have z0 := hK2.z 0
    have z6 := hK2.z 6
    have HK2 := Lib.hid hK2
    have HM2 := Lib.hid hM2
    have HX2 := Lib.hid hXw
    clear hX2 hK2 hM2
    by_cases hE : t.c (trl (uw u) t.L j) = -1
    · have hjF : j = f := (show IsF t.c (uw u) t.L j from ⟨hE, fun q hq => HF.out.2 q (by omega)⟩).uniq HF.out
      have HEnd := Lib.hid (told_end HI.out HTj.out hE)
      have HN : Hid (Nx w s g t mv M a b u i v j (.pointer none) told (w2.setCell ⟨s, 0, none⟩ (.pointer none))) := by
        refine ⟨(HK2.out.put 0 _).congr (fun q hq => ?_), HMO.out.same _ _ w2 _ HM2.out (fun k hk => Below.heap_setCell _ _ _ _ (fun (e : k = s) => hsm (e ▸ hk))), HX2.out.setCell (p := ⟨s, 0, none⟩) (fun _ => .inl rfl) _⟩
        have : q = 0 ∨ q = 1 ∨ q = 2 ∨ q = 3 ∨ q = 4 ∨ q = 5 ∨ q = 6 ∨ q = 7 := by omega
        rcases this with rfl | rfl | rfl | rfl | rfl | rfl | rfl | rfl <;> rfl
      rw [hE]
      have HJF := Lib.hid hjF
      clear hE hDw hXw hjF
      go_wp2
      go_ret2
      exact ⟨j, hij, hjf, .inr ⟨rfl, HJF.out, HEnd.out, HN.out⟩⟩
    · have hjlt : j < f := by
        rcases Nat.lt_or_ge j f with z | z
        · exact z
        · exact absurd (by rw [show j = f by omega]; exact HF.out.1) hE
      have k2 : w2.cell? ⟨g, 2, none⟩ = some ev := hDw.hd.c 2 (by omega)
      obtain ⟨ae, cape, ge, hev, hae, hro⟩ := hDw.es.open
      rw [hev] at k2
      have hcap := hro.le
      rcases HI.out.cell (uw u) j hE with hc | ⟨n, hn, hc, hl⟩
      · have HT1 := Lib.hid (told_no HTj.out (fun q hq _ => by omega))
        have tc : decide (told < -2) = false := decide_eq_false (by omega)
        rw [hc]
        clear hE hDw hXw hro hae hc hev k2
        go_wp2_with fail
        go_quiet (fail)
        go_wp2_with fail
        go_roundg (f + 1 - (j + 1))
        case measure => omega
        case rel => exact ⟨j + 1, by omega, by omega, by omega, HK2.out.same rfl, HMO.out.same _ _ w2 _ HM2.out (fun _ _ => rfl), HT1.out, HX2.out.drewN _⟩
      · obtain ⟨hae1, _, _⟩ := hae (by omega)
        subst hae1
        have ke := hro.c1 n hn
        have tn : (n : Int) < (t.es.length : Int) := by omega
        have tn1 : ((n : Int) == -1) = false := by rw [beq_eq_false_iff_ne]; omega
        by_cases htn : told < (n : Int)
        · have td : decide (told < (n : Int)) = true := decide_eq_true htn
          by_cases hh : (nth t.es n).hash = u
          · have hOf : Of t.es u n := ⟨hn, hl, hh⟩
            have HC := Lib.hid hc
            have HT1 := Lib.hid (told_yes HI.out HTj.out hc htn hOf)
            have HOF := Lib.hid hOf
            have HN : Hid (Nx w s g t mv M a b u i v j (.pointer (some ⟨g, 0, none⟩)) (n : Int) (w2.drew.setCell ⟨s, 6, none⟩ (.int .i64 (n : Int)))) := by
              refine ⟨((show Blk w2.drew s 8 _ from HK2.out.same rfl).put 6 _).congr (fun q hq => ?_), HMO.out.same _ _ w2 _ HM2.out (fun k hk => Below.heap_setCell _ _ _ _ (fun (e : k = s) => hsm (e ▸ hk))), HX2.out.drew.setCell (p := ⟨s, 6, none⟩) (fun _ => .inl rfl) _⟩
              have : q = 0 ∨ q = 1 ∨ q = 2 ∨ q = 3 ∨ q = 4 ∨ q = 5 ∨ q = 6 ∨ q = 7 := by omega
              rcases this with rfl | rfl | rfl | rfl | rfl | rfl | rfl | rfl <;> rfl
            rw [hh] at ke
            rw [hc]
            clear hE hDw hXw hro hae hc hev hOf hh
            go_wp2_with fail
            go_region_held3 (fun V => V.cell? ⟨s, 6, none⟩ = some (.int .i64 told) ∧ V.cell? ⟨s, 0, none⟩ = some (.pointer (some ⟨g, 0, none⟩)) ∧ V.cell? ⟨s, 2, none⟩ = some (.int .i64 u) ∧ V.cell? ⟨g, 2, none⟩ = some (.slice (some ⟨ge, 0, none⟩) t.es.length cape) ∧ V.cell? ⟨ge, n * 5 + 1, none⟩ = some (.int .i64 u)) (first | exact ⟨x6, x0, x2, k2, ke⟩ | fail) (fail)
            go_wp2
            go_ret2
            exact ⟨j, hij, hjf, .inl ⟨n, rfl, HOF.out, htn, HC.out, HTj.out, HT1.out.1, HT1.out.2, HN.out⟩⟩
          · have HT1 := Lib.hid (told_no HTj.out (fun q hq hO => by
              have : q = n := by omega
              subst this
              exact absurd hO.2.2 hh))
            have th : ((nth t.es n).hash == u) = false := by rw [beq_eq_false_iff_ne]; exact hh
            rw [hc]
            clear hE hDw hXw hro hae hc hev
            generalize (nth t.es n).hash = hv1 at *
            go_wp2_with fail
            go_region_held3 (fun V => V.cell? ⟨s, 6, none⟩ = some (.int .i64 told) ∧ V.cell? ⟨s, 0, none⟩ = some (.pointer (some ⟨g, 0, none⟩)) ∧ V.cell? ⟨s, 2, none⟩ = some (.int .i64 u) ∧ V.cell? ⟨g, 2, none⟩ = some (.slice (some ⟨ge, 0, none⟩) t.es.length cape) ∧ V.cell? ⟨ge, n * 5 + 1, none⟩ = some (.int .i64 hv1)) (first | exact ⟨x6, x0, x2, k2, ke⟩ | fail) (fail)
            go_wp2_with fail
            go_roundg (f + 1 - (j + 1))
            case measure => omega
            case rel => exact ⟨j + 1, by omega, by omega, by omega, HK2.out.same rfl, HMO.out.same _ _ w2 _ HM2.out (fun _ _ => rfl), HT1.out, HX2.out.drew⟩
        · have HT1 := Lib.hid (told_no HTj.out (fun q hq _ => by omega))
          have td : decide (told < (n : Int)) = false := decide_eq_false htn
          rw [hc]
          clear hE hDw hXw hro hae hc hev k2
          go_wp2_with fail
          go_quiet (fail)
          go_wp2_with fail
          go_roundg (f + 1 - (j + 1))
          case measure => omega
          case rel => exact ⟨j + 1, by omega, by omega, by omega, HK2.out.same rfl, HMO.out.same _ _ w2 _ HM2.out (fun _ _ => rfl), HT1.out, HX2.out.drewN _⟩
set_option maxRecDepth 100000 in
set_option maxHeartbeats 4000000 in
theorem at7_yes {w : World} {g gi r h : Nat} {ev : Value} {t : Tb} {mv : Value} (hD : Dt w g gi r h ev t mv) (n : Nat) (hn : n < t.es.length) (hl : (nth t.es n).live = true) :
    Calls Tryz.prog 43 #[.pointer (some ⟨g, 0, none⟩), .int .i64 (n : Int)] w fun e w' => e = .returned (.tuple #[.agg #[.bool (nth t.es n).live, .int .i64 (nth t.es n).hash, .int .i64 (nth t.es n).key, .int .i64 (nth t.es n).value, .int .i64 (nth t.es n).birth], .int .i64 0]) ∧ Below w.heap.size w w' := by
  obtain ⟨w1, hw1⟩ : ∃ y, w.alloc (.cells #[.bool false, .int .i64 0, .int .i64 0, .int .i64 0, .int .i64 0] 69) = y := ⟨_, rfl⟩
  have hB1 : Below w.heap.size w w1 := by rw [← hw1]; exact (Below.refl _ w).alloc (Nat.le_refl _) _
  have hX1 : Blk w1 w.heap.size 5 (fun j => #[Value.bool false, .int .i64 0, .int .i64 0, .int .i64 0, .int .i64 0].getD j .nilFunc) := by rw [← hw1]; exact Blk.new w _ _
  have hs1 : w1.heap.size = w.heap.size + 1 := by rw [← hw1]; simp
  have hD1 := hD.below hB1
  have C1 := trefuse_any (hD1.hd.c 2 (by omega)) hD1.es (n : Int)
  rw [show noE t (n : Int) = 0 from if_pos ⟨by omega, by omega, by rw [Int.toNat_natCast]; exact hl⟩] at C1
  obtain ⟨ae, cape, ge, hev, hae, hro⟩ := hD1.es.open
  obtain ⟨rfl, _, _⟩ := hae (by omega)
  have hcap := hro.le
  have k2 : w1.cell? ⟨g, 2, none⟩ = some (.slice (some ⟨ge, 0, none⟩) t.es.length cape) := by rw [← hev]; exact hD1.hd.c 2 (by omega)
  have e0 := hro.c0 n hn
  have e1 := hro.c1 n hn
  have e2 := hro.c2 n hn
  have e3 := hro.c3 n hn
  have e4 := hro.c4 n hn
  have a0 := hX1.c 0 (by omega)
  have a1 := hX1.c 1 (by omega)
  have a2 := hX1.c 2 (by omega)
  have a3 := hX1.c 3 (by omega)
  have a4 := hX1.c 4 (by omega)
  have z0 := hX1.z 0
  have z1 := hX1.z 1
  have z2 := hX1.z 2
  have z3 := hX1.z 3
  have z4 := hX1.z 4
  have t0 : (n : Int) < (t.es.length : Int) := by omega
  have HW := Lib.hid hw1
  have HX1 := Lib.hid hX1
  have HB1 := Lib.hid hB1
  clear hw1 hX1 hB1 hD hD1 hro hae hev hl
  generalize (nth t.es n).live = x0 at *
  generalize (nth t.es n).hash = x1 at *
  generalize (nth t.es n).key = x2 at *
  generalize (nth t.es n).value = x3 at *
  generalize (nth t.es n).birth = x4 at *
  go_enter Tryz.func43, Tryz.ntmps43
  go_wp2_with fail
  rw [HW.out]
  refine C1.mono ?_
  rintro e w2 ⟨rfl, rfl⟩
  clear C1
  have HR := Lib.hid (((((HX1.out.put 0 (.bool x0)).put 1 (.int .i64 x1)).put 2 (.int .i64 x2)).put 3 (.int .i64 x3)).put 4 (.int .i64 x4))
  have HBB : Hid (Below w.heap.size w (((((w2.setCell ⟨w.heap.size, 0, none⟩ (.bool x0)).setCell ⟨w.heap.size, 1, none⟩ (.int .i64 x1)).setCell ⟨w.heap.size, 2, none⟩ (.int .i64 x2)).setCell ⟨w.heap.size, 3, none⟩ (.int .i64 x3)).setCell ⟨w.heap.size, 4, none⟩ (.int .i64 x4))) := ((((HB1.out.setCell (p := ⟨w.heap.size, 0, none⟩) (Nat.le_refl _) _).setCell (p := ⟨w.heap.size, 1, none⟩) (Nat.le_refl _) _).setCell (p := ⟨w.heap.size, 2, none⟩) (Nat.le_refl _) _).setCell (p := ⟨w.heap.size, 3, none⟩) (Nat.le_refl _) _).setCell (p := ⟨w.heap.size, 4, none⟩) (Nat.le_refl _) _
  go_wp2_with fail
  generalize World.setCell (World.setCell (World.setCell (World.setCell (World.setCell w2 _ _) _ _) _ _) _ _) _ _ = w3 at *
  have p0 : w3.cell? ⟨w.heap.size, 0, none⟩ = some (.bool x0) := HR.out.c 0 (by omega)
  have p1 : w3.cell? ⟨w.heap.size, 1, none⟩ = some (.int .i64 x1) := HR.out.c 1 (by omega)
  have p2 : w3.cell? ⟨w.heap.size, 2, none⟩ = some (.int .i64 x2) := HR.out.c 2 (by omega)
  have p3 : w3.cell? ⟨w.heap.size, 3, none⟩ = some (.int .i64 x3) := HR.out.c 3 (by omega)
  have p4 : w3.cell? ⟨w.heap.size, 4, none⟩ = some (.int .i64 x4) := HR.out.c 4 (by omega)
  refine bodyPost_ret (v := .tuple #[.agg #[.bool x0, .int .i64 x1, .int .i64 x2, .int .i64 x3, .int .i64 x4], .int .i64 0]) ?_ rfl ⟨rfl, HBB.out⟩
  simp [results, Tryz.results43, go_sem, p0, p1, p2, p3, p4]
end Go.Proofs.YtbpflmdefpjcaaaGreat
