/-
  A way through slots in memory: reach, next.
-/
import Derived.Test.YtbnmnmbfdfgohaaDoorSwMem
namespace Go.Proofs.YtbnmnmbfdfgohaaDoor
open Go.RowKit Go.WideShapes

/-- A list of ints that can be read, below block B. -/
def Lz (w : World) (B : Nat) (a : Option Addr) (n c : Nat) (l : List Int) : Prop := n = l.length ∧ n ≤ c ∧ (∀ x ∈ l, -9223372036854775808 ≤ x ∧ x ≤ 9223372036854775807) ∧ ∃ b off, (0 < n → a = some ⟨b, off, none⟩ ∧ b < B) ∧ ∀ j, j < n → w.cell? ⟨b, off + j, none⟩ = some (.int .i64 (l[j]?.getD 0))
theorem Lz.nil (w : World) (B c : Nat) (a : Option Addr) : Lz w B a 0 c [] := ⟨rfl, Nat.zero_le _, (fun x h => by simp at h), 0, 0, fun h => absurd h (by omega), fun j h => absurd h (by omega)⟩
theorem Lz.below {w w' : World} {B : Nat} {a : Option Addr} {n c : Nat} {l : List Int} (h : Lz w B a n c l) (hb : Below B w w') : Lz w' B a n c l := by
  obtain ⟨h1, h2, h3, b, off, h4, h5⟩ := h
  exact ⟨h1, h2, h3, b, off, h4, fun j hj => (World.cell?_of_block (a := ⟨b, off + j, none⟩) (hb.block b (h4 (by omega)).2)).trans (h5 j hj)⟩
theorem Lz.mono {w : World} {B B' : Nat} {a : Option Addr} {n c : Nat} {l : List Int} (h : Lz w B a n c l) (hb : B ≤ B') : Lz w B' a n c l := by
  obtain ⟨h1, h2, h3, b, off, h4, h5⟩ := h
  exact ⟨h1, h2, h3, b, off, fun h => ⟨(h4 h).1, Nat.lt_of_lt_of_le (h4 h).2 hb⟩, h5⟩
/-- A way in memory, from block B on. -/
structure Wm (w : World) (B b m gr gl : Nat) (sv : Value) (Wr Wl : Nat → Nat) (y : Wy) : Prop where
  c0 : w.cell? ⟨b, 0, none⟩ = some (.slice (some ⟨gr, 0, none⟩) m m)
  c1 : w.cell? ⟨b, 1, none⟩ = some (.slice (some ⟨gl, 0, none⟩) m m)
  c2 : w.cell? ⟨b, 2, none⟩ = some sv
  z : ∀ j, w.frozen? ⟨b, j, none⟩ = false
  mr : Mk w gr m m Wr
  fr : Wf Wr y.rf m
  ml : Mk w gl m m Wl
  fl : Wf Wl y.lf m
  st : IntsR B w sv y.st
  n1 : b ≠ gr
  n2 : b ≠ gl
  n3 : gr ≠ gl
  n4 : ∀ k, sv.ownBlock = some k → k ≠ b ∧ k ≠ gr ∧ k ≠ gl
  ge : B ≤ b ∧ B ≤ gr ∧ B ≤ gl
  sm : m ≤ 1000
def WmV (w : World) (B b m : Nat) (y : Wy) : Prop := ∃ gr gl sv Wr Wl, Wm w B b m gr gl sv Wr Wl y
theorem Wf.lt {W : Nat → Nat} {f : Nat → Bool} {m k : Nat} (h : Wf W f m) (hk : f k = true) : k < m * 64 := by
  apply Nat.lt_of_not_le
  intro hle
  rw [h.2 k hle] at hk
  cases hk
/-- The left set is written. -/
theorem Wm.left {w w' : World} {B b m gr gl : Nat} {sv : Value} {Wr Wl Wl' : Nat → Nat} {y : Wy} {lf : Nat → Bool} (h : Wm w B b m gr gl sv Wr Wl y) (x : Ex (fun k => k = gl) w w') (hm : Mk w' gl m m Wl') (hf : Wf Wl' lf m) : Wm w' B b m gr gl sv Wr Wl' ⟨lf, y.rf, y.st⟩ := by
  have hb := x.block b (lt_of_cell h.c0) h.n2
  exact ⟨(World.cell?_of_block (a := ⟨b, 0, none⟩) hb).trans h.c0, (World.cell?_of_block (a := ⟨b, 1, none⟩) hb).trans h.c1, (World.cell?_of_block (a := ⟨b, 2, none⟩) hb).trans h.c2, fun j => (World.frozen?_of_block (a := ⟨b, j, none⟩) hb).trans (h.z j), h.mr.same (x.block gr h.mr.lt h.n3), h.fr, hm, hf, ownsS_same h.st (fun k hk => x.block k (World.ownsRow.lt h.st k hk).2 (h.n4 k hk).2.2), h.n1, h.n2, h.n3, h.n4, h.ge, h.sm⟩
/-- The reached set is written. -/
theorem Wm.reached {w w' : World} {B b m gr gl : Nat} {sv : Value} {Wr Wl Wr' : Nat → Nat} {y : Wy} {rf : Nat → Bool} (h : Wm w B b m gr gl sv Wr Wl y) (x : Ex (fun k => k = gr) w w') (hm : Mk w' gr m m Wr') (hf : Wf Wr' rf m) : Wm w' B b m gr gl sv Wr' Wl ⟨y.lf, rf, y.st⟩ := by
  have hb := x.block b (lt_of_cell h.c0) h.n1
  exact ⟨(World.cell?_of_block (a := ⟨b, 0, none⟩) hb).trans h.c0, (World.cell?_of_block (a := ⟨b, 1, none⟩) hb).trans h.c1, (World.cell?_of_block (a := ⟨b, 2, none⟩) hb).trans h.c2, fun j => (World.frozen?_of_block (a := ⟨b, j, none⟩) hb).trans (h.z j), hm, hf, h.ml.same (x.block gl h.ml.lt (fun e => h.n3 e.symm)), h.fl, ownsS_same h.st (fun k hk => x.block k (World.ownsRow.lt h.st k hk).2 (h.n4 k hk).2.1), h.n1, h.n2, h.n3, h.n4, h.ge, h.sm⟩
theorem Wm.same {w w' : World} {B b m gr gl : Nat} {sv : Value} {Wr Wl : Nat → Nat} {y : Wy} (h : Wm w B b m gr gl sv Wr Wl y) (e : ∀ k, k < w.heap.size → w'.heap[k]? = w.heap[k]?) : Wm w' B b m gr gl sv Wr Wl y := by
  have hb := e b (lt_of_cell h.c0)
  exact ⟨(World.cell?_of_block (a := ⟨b, 0, none⟩) hb).trans h.c0, (World.cell?_of_block (a := ⟨b, 1, none⟩) hb).trans h.c1, (World.cell?_of_block (a := ⟨b, 2, none⟩) hb).trans h.c2, fun j => (World.frozen?_of_block (a := ⟨b, j, none⟩) hb).trans (h.z j), h.mr.same (e gr h.mr.lt), h.fr, h.ml.same (e gl h.ml.lt), h.fl, ownsS_same h.st (fun k hk => e k (World.ownsRow.lt h.st k hk).2), h.n1, h.n2, h.n3, h.n4, h.ge, h.sm⟩
theorem WmV.same {w w' : World} {B b m : Nat} {y : Wy} (h : WmV w B b m y) (e : ∀ k, k < w.heap.size → w'.heap[k]? = w.heap[k]?) : WmV w' B b m y := by
  obtain ⟨gr, gl, sv, Wr, Wl, h⟩ := h
  exact ⟨gr, gl, sv, Wr, Wl, h.same e⟩
/-- The stack grows. -/
theorem Wm.push {w w5 : World} {B b m gr gl : Nat} {sv v' : Value} {Wr Wl : Nat → Nat} {y : Wy} {i : Int} {o : Obj} (h : Wm w B b m gr gl sv Wr Wl y) (hown : w5.ownsRow B 3 1 v' (y.st.length + 1) ((y.st.map fun x : Int => Value.int .i64 x) ++ [Value.int .i64 i]))
    (hg : (w.alloc o).grownBy w5 sv.ownBlock) (hat : v'.ownBlock = sv.ownBlock ∨ v'.ownBlock = some (w.alloc o).heap.size) :
    w5.heap[b]? = w.heap[b]? ∧ Wm (w5.setCell ⟨b, 2, none⟩ v') B b m gr gl v' Wr Wl ⟨y.lf, y.rf, y.st ++ [i]⟩ ∧ Below B w (w5.setCell ⟨b, 2, none⟩ v') := by
  have hlb : b < w.heap.size := lt_of_cell h.c0
  have hlr := h.mr.lt
  have hll := h.ml.lt
  have hsz : (w.alloc o).heap.size = w.heap.size + 1 := by simp
  have keep : ∀ k, k < w.heap.size → sv.ownBlock ≠ some k → w5.heap[k]? = w.heap[k]? := fun k hk hn => (hg.block k (by omega) (fun e => hn e.symm)).trans (Below.heap_alloc _ _ _ hk)
  have hb : w5.heap[b]? = w.heap[b]? := keep b hlb (fun e => (h.n4 b e).1 rfl)
  have hr : w5.heap[gr]? = w.heap[gr]? := keep gr hlr (fun e => (h.n4 gr e).2.1 rfl)
  have hl : w5.heap[gl]? = w.heap[gl]? := keep gl hll (fun e => (h.n4 gl e).2.2 rfl)
  have hn4 : ∀ k, v'.ownBlock = some k → k ≠ b ∧ k ≠ gr ∧ k ≠ gl := fun k hk => by
    rcases hat with e | e
    · exact h.n4 k (by rw [← e]; exact hk)
    · rw [e, hsz] at hk
      injection hk with hk
      omega
  have c2' : w5.cell? ⟨b, 2, none⟩ = some sv := (World.cell?_of_block (a := ⟨b, 2, none⟩) hb).trans h.c2
  refine ⟨hb, ⟨(setCell_ne (by omega)).trans ((World.cell?_of_block (a := ⟨b, 0, none⟩) hb).trans h.c0), (setCell_ne (by omega)).trans ((World.cell?_of_block (a := ⟨b, 1, none⟩) hb).trans h.c1), setCell_hit c2', fun j => by rw [World.frozen?_setCell]; exact (World.frozen?_of_block (a := ⟨b, j, none⟩) hb).trans (h.z j), h.mr.same ((setCell_blk (fun e => h.n1 e.symm)).trans hr), h.fr, h.ml.same ((setCell_blk (fun e => h.n2 e.symm)).trans hl), h.fl, ?_, h.n1, h.n2, h.n3, hn4, h.ge, h.sm⟩, ?_⟩
  · exact ownsS_same (intsR_snoc hown) (fun k hk => setCell_blk (fun e => (hn4 k hk).1 e))
  · have hB : Below B w w5 := ⟨hg.os, hg.tape, hg.output, by have := hg.size; omega, fun k hk => keep k (by have := h.ge.1; omega) (fun e => by have := (World.ownsRow.lt h.st k e).1; omega)⟩
    exact hB.setCell (p := ⟨b, 2, none⟩) h.ge.1 _
set_option maxRecDepth 100000 in
set_option maxHeartbeats 1000000 in
theorem reach_any {w : World} {B b m : Nat} {y : Wy} {a : Option Addr} {n c : Nat} {l : List Int} (h : WmV w B b m y) (hB : B ≤ w.heap.size) (hl : Lz w B a n c l) (hs : l.length ≤ 100000) (hst : y.st.length ≤ 100000) : Calls Tryd.prog 38 #[.pointer (some ⟨b, 0, none⟩), .slice a n c] w fun e w' => e = .returned (.tuple #[]) ∧ WmV w' B b m (y.all l) ∧ Below B w w' := by
  obtain ⟨i0, hi, hz0, hz1, hz2⟩ := info_parts Tryd.infoN
  obtain ⟨hn, hc, hbd, lb, off, ha, hcell⟩ := hl
  have HA := Lib.hid ha
  have HC := Lib.hid hcell
  have HD := Lib.hid hbd
  have HN := Lib.hid hn
  have HH := Lib.hid h
  have hs' : n ≤ 100000 := by omega
  clear ha hcell hbd hn h hs
  go_enter Tryd.func38, Tryd.ntmps38
  go_wp2_with fail
  go_loopw [8] (fun v8 wr => ∃ j : Nat, j ≤ n ∧ v8 = .int .i64 (j : Int) ∧ WmV wr B b m (y.all (l.take j)) ∧ (y.all (l.take j)).st.length ≤ 100000 + j ∧ Below B w wr) (fun v8 _ => n - (intOf v8).toNat)
  case atStart => exact ⟨0, Nat.zero_le _, rfl, by simpa [Wy.all] using HH.out, by simpa [Wy.all] using hst, Below.refl _ _⟩
  case round =>
    clear HH
    obtain ⟨j, hj, rfl, hM, hsl, hBw⟩ := hrel
    by_cases hjl : j < n
    · have tj : (j : Int) < (n : Int) := by omega
      have tj0 : (0 : Int) ≤ (j : Int) := by omega
      have ej : IntKind.i64.wrap ((j : Int) + 1) = ((j + 1 : Nat) : Int) := by rw [i64_small (by omega) (by omega)]; omega
      obtain ⟨rfl, hlb⟩ := HA.out (by omega)
      have cj := (World.cell?_of_block (a := ⟨lb, off + j, none⟩) (hBw.block lb hlb)).trans (HC.out j hjl)
      have htk : l.take (j + 1) = l.take j ++ [l[j]?.getD 0] := by
        rw [List.take_add_one, List.getElem?_eq_getElem (by have := HN.out; omega)]
        simp
      have hmem : l[j]?.getD 0 ∈ l := by
        rw [List.getElem?_eq_getElem (by have := HN.out; omega)]
        simp
      have HY : Hid (y.all (l.take (j + 1)) = (y.all (l.take j)).one (l[j]?.getD 0)) := by show _ = _; rw [htk, Wy.all_snoc]
      obtain ⟨x1, x2⟩ := HD.out _ hmem
      obtain ⟨gr, gl, sv, Wr, Wl, hW⟩ := hM
      clear htk hmem
      generalize l[j]?.getD 0 = i at *
      generalize y.all (l.take j) = z at *
      have c1 := hW.c1
      by_cases hi0 : 0 ≤ i ∧ z.lf i.toNat = true
      · obtain ⟨h0, h1⟩ := hi0
        obtain ⟨k, rfl⟩ : ∃ k : Nat, i = (k : Int) := ⟨i.toNat, by omega⟩
        rw [Int.toNat_natCast] at h1
        have hk := hW.fl.lt h1
        have CT := mtake_yes hW.ml hW.fl hk (by have := hW.sm; omega)
        rw [h1] at CT
        have hsm := hW.sm
        have HW := Lib.hid hW
        clear hW
        go_wp2_with fail
        refine CT.mono ?_
        rintro e w1 ⟨rfl, ⟨Wl1, hm1, hf1⟩, hx1⟩
        clear CT
        have hW1 := HW.out.left hx1 hm1 hf1
        have HB1 := Lib.hid (hBw.trans (hx1.below (fun k hk => by rw [hk]; exact HW.out.ge.2.2) (Nat.le_trans hB hBw.size)))
        have CP := mput_any hW1.mr hW1.fr hk (by omega)
        have c0 := hW1.c0
        have HW1 := Lib.hid hW1
        clear hW1 hm1 hf1 hx1 HW hBw
        go_wp2_with fail
        refine CP.mono ?_
        rintro e w2 ⟨rfl, ⟨Wr2, hm2, hf2⟩, hx2⟩
        clear CP
        have hW2 := HW1.out.reached hx2 hm2 hf2
        have HB2 := Lib.hid (HB1.out.trans (hx2.below (fun k hk => by rw [hk]; exact HW1.out.ge.2.1) (Nat.le_trans hB HB1.out.size)))
        have c2 := hW2.c2
        have z2 := hW2.z 2
        obtain ⟨sa, sc, rfl⟩ := ownsS_shape hW2.st
        have hown : w2.ownsRow B 3 1 (.slice sa z.st.length sc) z.st.length (z.st.map fun x : Int => Value.int .i64 x) := hW2.st
        have hBs : B ≤ w2.heap.size := Nat.le_trans hB HB2.out.size
        have HW2 := Lib.hid hW2
        have HSL := Lib.hid hsl
        clear hW2 hm2 hf2 hx2 HW1 HB1 hsl
        go_wp2_with (at_builtin; refine wpListS_append_own rfl _ _ 23 rfl B 3 i0 (.int .i64 0) 1 8 Tryd.underlying23 hi hz0 hz1 hz2 rfl (by decide) _ _ _ rfl (World.ownsRow.alloc hown _) ⟨w2.heap.size, 0, none⟩ 1 1 [.int .i64 (k : Int)] rfl rfl (newR_one _ _ _) (fun u hu => by simp at hu; subst hu; rfl) (by have := HSL.out; unfold maxLen; omega) (by have := HSL.out; omega) (by simp; omega) ?_)
        intro v' w5 hown2 hgrow hat
        obtain ⟨hb5, hW5, hB5⟩ := HW2.out.push hown2 hgrow (by simpa using hat)
        obtain ⟨va, vc, rfl⟩ := ownsS_shape hown2
        have x2' := (World.cell?_of_block (a := ⟨b, 2, none⟩) hb5).trans c2
        have z2' := (World.frozen?_of_block (a := ⟨b, 2, none⟩) hb5).trans z2
        have HW5 := Lib.hid hW5
        have HB5 := Lib.hid (HB2.out.trans hB5)
        clear hown2 hgrow hat hown hW5 hB5 hb5 c2 z2
        generalize hn1 : z.st.length + 1 = n1 at *
        go_wp2_with fail
        go_roundw
        case rel =>
          refine ⟨j + 1, by omega, rfl, ?_, ?_, HB5.out⟩
          · rw [HY.out]
            unfold Wy.one
            rw [if_pos ⟨by omega, by rw [Int.toNat_natCast]; exact h1⟩, Int.toNat_natCast]
            exact ⟨_, _, _, _, _, HW5.out⟩
          · rw [HY.out]
            unfold Wy.one
            rw [if_pos ⟨by omega, by rw [Int.toNat_natCast]; exact h1⟩]
            have := HSL.out
            simp
            omega
        case measure => simp [intOf]; omega
      · have hOne : z.one i = z := by unfold Wy.one; rw [if_neg hi0]
        rw [hOne] at HY
        have CT : Calls Tryd.prog 50 #[.slice (some ⟨gl, 0, none⟩) m m, .int .i64 i] wr fun e w' => e = .returned (.bool false) ∧ (∃ Wl', Wm w' B b m gr gl sv Wr Wl' z) ∧ Below B w w' := by
          by_cases hin : 0 ≤ i ∧ i < (m : Int) * 64
          · obtain ⟨k, rfl⟩ : ∃ k : Nat, i = (k : Int) := ⟨i.toNat, by omega⟩
            have hzk : z.lf k = false := by
              cases e : z.lf k with
              | false => rfl
              | true => exact absurd ⟨by omega, by rw [Int.toNat_natCast]; exact e⟩ hi0
            have C0 := mtake_yes hW.ml hW.fl (show k < m * 64 by omega) (by have := hW.sm; omega)
            rw [hzk] at C0
            refine C0.mono ?_
            rintro e w1 ⟨rfl, ⟨Wl1, hm1, hf1⟩, hx1⟩
            have hfe : (fun j => z.lf j && decide (j ≠ k)) = z.lf := by
              funext q
              by_cases e : q = k
              · rw [e, hzk]; rfl
              · simp [e]
            rw [hfe] at hf1
            exact ⟨rfl, ⟨Wl1, hW.left hx1 hm1 hf1⟩, hBw.trans (hx1.below (fun k hk => by rw [hk]; exact hW.ge.2.2) (Nat.le_trans hB hBw.size))⟩
          · refine (mtake_no i (by omega) x2).mono ?_
            rintro e w1 ⟨rfl, rfl⟩
            exact ⟨rfl, ⟨Wl, hW⟩, hBw⟩
        have HSL := Lib.hid hsl
        clear hW hBw hsl
        go_wp2_with fail
        refine CT.mono ?_
        rintro e w1 ⟨rfl, ⟨Wl1, hW1⟩, hB1⟩
        clear CT
        have HW1 := Lib.hid hW1
        have HB1 := Lib.hid hB1
        clear hW1 hB1
        go_wp2_with fail
        go_roundw
        case rel =>
          have := HSL.out
          exact ⟨j + 1, by omega, rfl, by rw [HY.out]; exact ⟨_, _, _, _, _, HW1.out⟩, by rw [HY.out]; omega, HB1.out⟩
        case measure => simp [intOf]; omega
    · obtain rfl : j = n := by omega
      have tj : ((j : Int) < (j : Int)) = False := by simp
      have HM := Lib.hid hM
      clear hM
      go_wp2
      go_end0
      have := HN.out
      refine ⟨rfl, ?_, hBw⟩
      have h1 := HM.out
      rw [List.take_of_length_le (by omega)] at h1
      exact h1
end Go.Proofs.YtbnmnmbfdfgohaaDoor
