/-
  A tree that was handed in, laid open.
-/
import Derived.Test.YtfcgogpnbmikmaaGreatDoorNdWt
import Derived.ChangeArms
import Derived.ChangeSame
import Derived.ChangeSlices
import Derived.OpenShut
import Derived.Deep.Slices
import Derived.ProofKit
import Derived.ChangeMaps5
import Derived.Stop.Joined
import Derived.Lib.SmallJoins
namespace Go.Proofs.YtfcgogpnbmikmaaGreatDoor
open Go.ChangeShapes Go.WideShapes Go.ChangeAt Go.RowKit Go.Joins
namespace Nd

theorem Tryz.cellsNd : Tryz.prog.cellsOf 27 = 6 := by kernel_rfl
theorem Tryz.cellsIn : Tryz.prog.cellsOf 3 = 1 := by kernel_rfl
theorem Tryz.cellsSt : Tryz.prog.cellsOf 9 = 1 := by kernel_rfl
theorem Tryz.cellsNm : Tryz.prog.cellsOf 24 = 2 := by kernel_rfl
theorem Tryz.cellsBo : Tryz.prog.cellsOf 4 = 1 := by kernel_rfl
theorem Tryz.cellsMs : Tryz.prog.cellsOf 22 = 1 := by kernel_rfl
theorem Tryz.cellsKs : Tryz.prog.cellsOf 25 = 1 := by kernel_rfl
theorem Tryz.cellsU : Tryz.prog.cellsOf 57 = 1 := by kernel_rfl
theorem a_plain (b off q : Nat) : (⟨b, off, none⟩ : Addr).add q = ⟨b, off + q, none⟩ := by
  unfold Addr.add
  split <;> simp_all
instance : Inhabited Tr := ⟨.no⟩
set_option maxRecDepth 100000 in
theorem mag_at {H : Type} {enc : TypeId × Value → H} {W : World} {fuel : Nat} {cs : List Value} {x : DataW H × List MemPlace} (h : DataW.trod enc Tryz.prog W 0 (fun _ => true) true fuel 22 cs = some x) (hw : ∀ b ∈ x.1.weights Tryz.prog 22, b ≤ reachBytes) :
    ∃ mv mg, cs = [mv] ∧ Mg W (fun b => b < W.heap.size) mv mg ∧ mg.length ≤ 281474976710656 := by
  rcases open_ints Tryz.underlying22 Tryz.underlying57 Tryz.cellsU h with ⟨hcs, _⟩ | ⟨a, len, cap, zs, hcs, _, hl, hm, hz, hxe, hcell, hwz⟩
  · exact ⟨_, [], hcs, ⟨none, 0, rfl, Nat.le_refl _, fun _ => rfl, 0, 0, fun h => absurd h (by simp), fun j h => absurd h (by simp)⟩, by simp⟩
  · simp only [if_true] at hz
    have hlen : ((zs.take len).map Int.toNat).length = len := by simp; omega
    have hsmall : len ≤ 281474976710656 := by
      rw [hxe] at hw
      have hb4 : Tryz.prog.bytesOf 57 = 4 := by kernel_rfl
      have hll : (lits .u32 (zs.take len) : List (DataW H)).length = len := by simp [lits]; omega
      have h1 := hw (((lits .u32 (zs.take len) : List (DataW H)).length + (lits .u32 (zs.drop len) : List (DataW H)).length) * Tryz.prog.bytesOf 57) (by simp only [DataW.weights, Tryz.underlying22]; exact List.mem_cons_self)
      rw [hb4, hll] at h1
      unfold reachBytes at h1
      omega
    obtain ⟨b, off, spot⟩ := a
    have hsp : 0 < len → spot = none := fun h0 => by
      have hc := hcell 0 (by omega)
      simpa [Addr.add] using World.cell?_spot hc
    refine ⟨_, (zs.take len).map Int.toNat, hcs, ⟨some ⟨b, off, spot⟩, cap, by rw [hlen], by omega, (fun e => by cases e), b, off, fun h0 => ?_, fun j hj => ?_⟩, by rw [hlen]; exact hsmall⟩
    · rw [hlen] at h0
      obtain rfl := hsp h0
      have hc := hcell 0 (by omega)
      rw [a_plain] at hc
      exact ⟨rfl, Lx.lt_of_cell hc⟩
    · rw [hlen] at hj
      obtain rfl := hsp (by omega)
      have hj' : j < zs.length := by omega
      have hc := hcell j hj'
      rw [a_plain] at hc
      rw [hc]
      have hw := hwz (zs.getD j 0) (by simp [List.getD, hj'])
      have hb := bounds_u32 hw
      congr 2
      simp only [List.getD, List.getElem?_map, List.getElem?_take, if_pos hj, List.getElem?_eq_getElem hj', Option.map_some, Option.getD_some] at hb ⊢
      omega
theorem mem_weightsAll {H : Type} {P : Program} {e : TypeId} {d : DataW H} {b : Nat} : ∀ {l : List (DataW H)}, d ∈ l → b ∈ d.weights P e → b ∈ DataW.weightsAll P e l
  | x :: r, h, hb => by
    simp only [DataW.weightsAll, List.mem_append]
    rcases List.mem_cons.1 h with rfl | h
    · exact Or.inl hb
    · exact Or.inr (mem_weightsAll h hb)
set_option maxRecDepth 100000 in
set_option maxHeartbeats 2000000 in
theorem node_at {H : Type} {enc : TypeId × Value → H} {W : World} : ∀ (fuel : Nat) (cs : List Value) (x0 : DataW H × List MemPlace), DataW.trod enc Tryz.prog W 0 (fun _ => true) true fuel 27 cs = some x0 → (∀ b ∈ x0.1.weights Tryz.prog 27, b ≤ reachBytes) → ∃ t x, cs = Nv.c x ∧ Rd W (fun b => b < W.heap.size) t x ∧ Sz t := by
  intro fuel
  induction fuel using Nat.strongRecOn with
  | _ fuel ih =>
    intro cs x0 h hw
    obtain ⟨xs, k, hk, hx0, hlen, hxl, hf⟩ := DataW.trod_struct Tryz.underlying27 h
    rw [Tryz.cellsNd] at hlen
    match xs, hxl, cs, hlen with
    | [y0, y1, y2, y3, y4], _, [v0, v1, v2, v3, v4, v5], _ =>
      have hw0 : x0.1.weights Tryz.prog 27 = y0.1.weights Tryz.prog 3 ++ (y1.1.weights Tryz.prog 3 ++ (y2.1.weights Tryz.prog 9 ++ (y3.1.weights Tryz.prog 24 ++ (y4.1.weights Tryz.prog 25 ++ [])))) := by
        rw [hx0]
        simp only [DataW.weights, Tryz.underlying27]
        rfl
      rw [hw0] at hw
      simp only [List.mem_append, List.not_mem_nil, or_false] at hw
      have g0 := hf 0 _ rfl
      have g1 := hf 1 _ rfl
      have g2 := hf 2 _ rfl
      have g3 := hf 3 _ rfl
      have g4 := hf 4 _ rfl
      simp [Tryz.cellsIn, Tryz.cellsSt, Tryz.cellsNm, Tryz.cellsKs] at g0 g1 g2 g3 g4
      obtain ⟨n0, e0, _⟩ := DataW.trod_int Tryz.underlying3 g0
      obtain ⟨n1, e1, _⟩ := DataW.trod_int Tryz.underlying3 g1
      obtain ⟨s2, e2, ex2, _⟩ := DataW.trod_string Tryz.underlying9 g2
      have hs2 : s2.size ≤ 281474976710656 := by
        have h1 := hw s2.data.toList.length (Or.inr (Or.inr (Or.inl (by rw [ex2]; simp [DataW.weights]))))
        rw [Array.length_toList] at h1
        unfold reachBytes at h1
        have h2 : s2.size = s2.data.size := rfl
        omega
      obtain ⟨us, k3, hk3, hu0, _, hul, hfu⟩ := DataW.trod_struct Tryz.underlying24 g3
      match us, hul with
      | [z0, z1], _ =>
        have hw3 : y3.1.weights Tryz.prog 24 = z0.1.weights Tryz.prog 4 ++ (z1.1.weights Tryz.prog 22 ++ []) := by
          rw [hu0]
          simp only [DataW.weights, Tryz.underlying24]
          rfl
        have f0 := hfu 0 _ rfl
        have f1 := hfu 1 _ rfl
        simp [Tryz.cellsBo, Tryz.cellsMs] at f0 f1
        obtain ⟨b3, e3, _⟩ := DataW.trod_bool Tryz.underlying4 f0
        obtain ⟨mv, mg, e4, hmg, hml⟩ := mag_at f1 (fun b hb => hw b (Or.inr (Or.inr (Or.inr (Or.inl (by rw [hw3]; simp only [List.mem_append]; exact Or.inr (Or.inl hb)))))))
        simp only [List.cons.injEq, and_true] at e0 e1 e2 e3 e4
        subst e0 e1 e2 e3 e4
        rcases DataW.trod_slice Tryz.underlying25 g4 with ⟨hcs, _⟩ | ⟨a, len, cap, elems, rest, n, hn, hcs, hxk, _, hl, hm, hel, hx, _, _⟩
        · simp only [List.cons.injEq, and_true] at hcs
          subst hcs
          exact ⟨.mk n0 n1 s2 b3 mg 0 (fun _ => .no), ⟨n0, n1, s2, b3, v4, .slice none 0 0⟩, rfl, ⟨rfl, rfl, rfl, rfl, hmg, none, 0, rfl, Nat.le_refl _, 0, 0, fun h => absurd h (by omega), fun _ => default, fun i hi => absurd hi (by omega)⟩, ⟨hs2, hml, by omega, fun i hi => absurd hi (by omega)⟩⟩
        · simp only [List.cons.injEq, and_true] at hcs
          subst hcs
          have hwk : y4.1.weights Tryz.prog 25 = ((elems.map (·.1)).length + (rest.map (·.1)).length) * Tryz.prog.bytesOf 27 :: (DataW.weightsAll Tryz.prog 27 (elems.map (·.1)) ++ DataW.weightsAll Tryz.prog 27 (rest.map (·.1))) := by
            rw [hxk]
            simp only [DataW.weights, Tryz.underlying25]
          have hbN : Tryz.prog.bytesOf 27 = 88 := by kernel_rfl
          have hlenS : len ≤ 281474976710656 := by
            have h1 := hw (((elems.map (·.1)).length + (rest.map (·.1)).length) * Tryz.prog.bytesOf 27) (Or.inr (Or.inr (Or.inr (Or.inr (by rw [hwk]; exact List.mem_cons_self)))))
            rw [hbN, List.length_map, hel] at h1
            unfold reachBytes at h1
            omega
          have hwe : ∀ i (hi : i < elems.length), ∀ b ∈ (elems[i].1).weights Tryz.prog 27, b ≤ reachBytes := fun i hi b hb => hw b (Or.inr (Or.inr (Or.inr (Or.inr (by
            rw [hwk]
            refine List.mem_cons_of_mem _ (List.mem_append_left _ ?_)
            exact mem_weightsAll (List.mem_map.2 ⟨elems[i], List.getElem_mem hi, rfl⟩) hb)))))
          have each : ∀ i, i < len → ∃ q : Tr × Nv, (∀ j u, (Nv.c q.2)[j]? = some u → W.cell? (a.add (i * 6 + j)) = some u) ∧ Rd W (fun b => b < W.heap.size) q.1 q.2 ∧ Sz q.1 := by
            intro i hi
            have h1 := hx i hi
            rw [List.getElem?_eq_getElem (by omega)] at h1
            obtain ⟨cs', h2, h3⟩ := Option.bind_eq_some_iff.1 h1
            rw [Tryz.cellsNd] at h2
            obtain ⟨_, hcl, hcell⟩ := World.cells?_some h2
            obtain ⟨t, x, rfl, hr, hz⟩ := ih n (by omega) cs' _ h3 (hwe i (by omega))
            refine ⟨(t, x), fun j u hu => ?_, hr, hz⟩
            have hj : j < 6 := by
              rcases Nat.lt_or_ge j 6 with z | z
              · exact z
              · rw [List.getElem?_eq_none (by simp [Nv.c]; omega)] at hu
                cases hu
            have hc := hcell j (by omega)
            rw [Deep.add_add] at hc
            rw [hc]
            exact hu
          obtain ⟨q, hq⟩ := Deep.choose_lt each
          obtain ⟨b, off, spot⟩ := a
          have hsp : 0 < len → spot = none := fun h0 => by
            have := (hq 0 h0).1 0 _ rfl
            simpa [Addr.add] using World.cell?_spot this
          refine ⟨.mk n0 n1 s2 b3 mg len (fun i => (q i).1), ⟨n0, n1, s2, b3, v4, .slice (some ⟨b, off, spot⟩) len cap⟩, rfl, ⟨rfl, rfl, rfl, rfl, hmg, some ⟨b, off, spot⟩, cap, rfl, hl, b, off, fun h0 => ?_, fun i => (q i).2, fun i hi => ?_⟩, ⟨hs2, hml, hlenS, fun i hi => (hq i hi).2.2⟩⟩
          · obtain rfl := hsp h0
            have hc := (hq 0 h0).1 0 _ rfl
            rw [a_plain] at hc
            exact ⟨rfl, Lx.lt_of_cell hc⟩
          · obtain rfl := hsp (by omega)
            have hc : ∀ j u, (Nv.c (q i).2)[j]? = some u → W.cell? ⟨b, off + (i * 6 + j), none⟩ = some u := fun j u hu => by
              have := (hq i hi).1 j u hu
              rw [a_plain] at this
              exact this
            refine ⟨⟨hc 0 _ rfl, ?_, ?_, ?_, ?_, ?_⟩, (hq i hi).2.1⟩
            · rw [Nat.add_assoc]; exact hc 1 _ rfl
            · rw [Nat.add_assoc]; exact hc 2 _ rfl
            · rw [Nat.add_assoc]; exact hc 3 _ rfl
            · rw [Nat.add_assoc]; exact hc 4 _ rfl
            · rw [Nat.add_assoc]; exact hc 5 _ rfl
end Nd
end Go.Proofs.YtfcgogpnbmikmaaGreatDoor
