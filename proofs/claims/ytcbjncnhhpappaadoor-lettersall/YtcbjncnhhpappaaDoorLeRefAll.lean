/-
  What the reference's All does.
-/
import Derived.Test.YtcbjncnhhpappaaDoorLeAwake
import Derived.Test.YtcbjncnhhpappaaDoorLeBytes
namespace Go.Proofs.YtcbjncnhhpappaaDoor
open Go.RowKit Go.Lib

/-- A slice of texts that the call has made. -/
def OwnS (B : Nat) (w : World) (v : Value) (ss : List ByteArray) : Prop := w.ownsRow B 9 1 v ss.length (ss.map Value.string)
theorem Tryd.infoStr : (Tryd.prog.info? 9).map (fun i => (i.zero, i.size, i.bytes)) = some (some (.string ⟨#[]⟩), 1, 16) := by kernel_rfl
theorem OwnS.nil (B : Nat) (w : World) : OwnS B w (.slice none 0 0) [] := World.ownsRow_nil _ _ _ _
/-- The pieces as texts. -/
def pcs (rs : List Nat) : List ByteArray := rs.map fun r => ⟨(enc r).toArray⟩
theorem pcs_len (rs : List Nat) : (pcs rs).length = rs.length := by simp [pcs]
theorem OwnS.form {B : Nat} {w : World} {v : Value} {ss : List ByteArray} (h : OwnS B w v ss) : ∃ a cap, v = .slice a ss.length cap ∧ ∀ j (hj : j < ss.length), ∃ g, B ≤ g ∧ g < w.heap.size ∧ a = some ⟨g, 0, none⟩ ∧ w.cell? ⟨g, j, none⟩ = some (.string ss[j]) := by
  rcases h.2 with ⟨rfl, h0⟩ | ⟨g, cap, cur, rfl, hg, hh, hc, _, hs, ht⟩
  · exact ⟨none, 0, by rw [h0], fun j hj => by omega⟩
  · refine ⟨_, cap, rfl, fun j hj => ⟨g, hg, (Array.getElem?_eq_some_iff.1 hh).1, rfl, ?_⟩⟩
    have := h.cells (g := g) rfl j (.string ss[j]) (by simp [hj])
    rw [WideShapes.add_plain] at this
    simpa using this
theorem OwnS.below {B : Nat} {w w' : World} {v : Value} {bs : List ByteArray} (h : OwnS B w v bs) (hb : Below w.heap.size w w') : OwnS B w' v bs := by
  refine ⟨h.1, ?_⟩
  rcases h.2 with h4 | ⟨g, cap, cur, e1, e2, e3, e4⟩
  · exact .inl h4
  · exact .inr ⟨g, cap, cur, e1, e2, (hb.block g (Array.getElem?_eq_some_iff.1 e3).1).trans e3, e4⟩

set_option maxHeartbeats 8000000 in
set_option maxRecDepth 100000 in
theorem refAll_any (s : ByteArray) (w : World) (hs : s.size ≤ 3000) :
    Calls Tryd.prog 19 #[.string s] w fun e w' => ∃ v, e = .returned v ∧ OwnS w.heap.size w' v (pcs (rl s.data.toList)) ∧ Below w.heap.size w w' := by
  obtain ⟨i0, hi, hz0, hz1, hz2⟩ := info_parts Tryd.infoStr
  have cP := pieces_any s w (by omega)
  have hle := rl_le s.data.toList
  rw [str_len] at hle
  generalize rl s.data.toList = rs at *
  go_enter Tryd.func19, Tryd.ntmps19
  go_wp2_with fail
  refine cP.mono ?_
  rintro e w1 ⟨v, rfl, hR, b1⟩
  obtain ⟨a, cap, rfl, hcell⟩ := hR.form
  have hg : ∀ j (hj : j < rs.length), ∃ g, a = some ⟨g, 0, none⟩ ∧ g < w1.heap.size ∧ w1.cell? ⟨g, j, none⟩ = some (.int .i32 ((rs[j] : Nat) : Int)) := fun j hj => by
    obtain ⟨g, e1, e2⟩ := hcell j hj
    exact ⟨g, e1, lt_of_cell e2, e2⟩
  have HG := Lib.hid hg
  clear hcell hR hg
  go_wp2
  go_loopw [4, 5] (fun v i wr => ∃ k : Nat, i = .int .i64 (k : Int) ∧ k ≤ rs.length ∧ OwnS w1.heap.size wr v (pcs (rs.take k)) ∧ Below w1.heap.size w1 wr) (fun _ i _ => rs.length - (RowKit.intOf i).toNat)
  case atStart => exact ⟨0, rfl, Nat.zero_le _, OwnS.nil _ _, Below.refl _ _⟩
  case round =>
    obtain ⟨k, rfl, hk, hI, hbw⟩ := hrel
    have hsz := hbw.size
    by_cases hlt : k < rs.length
    · have ilt : (k : Int) < (rs.length : Int) := by omega
      obtain ⟨g, rfl, hg1, hg2⟩ := HG.out k hlt
      have hc : wr.cell? ⟨g, k, none⟩ = some (.int .i32 ((rs[k] : Nat) : Int)) := (hbw.cell (p := ⟨g, k, none⟩) hg1).trans hg2
      have htk : rs.take (k + 1) = rs.take k ++ [rs[k]] := by rw [List.take_succ_eq_append_getElem hlt]
      obtain ⟨r, hr⟩ : ∃ r, rs[k] = r := ⟨_, rfl⟩
      rw [hr] at hc htk
      have hen := encode_enc r
      obtain ⟨E, hE⟩ : ∃ E, Utf8.encode (r : Int) = E := ⟨_, rfl⟩
      rw [hE] at hen
      have HT : Hid (pcs (rs.take (k + 1)) = pcs (rs.take k) ++ [E]) := by
        show _ = _
        rw [htk, hen]
        simp [pcs]
      have hlp : (pcs (rs.take k)).length = k := by rw [pcs_len, List.length_take]; omega
      obtain ⟨ps, hps⟩ : ∃ ps, pcs (rs.take k) = ps := ⟨_, rfl⟩
      rw [hps] at hI hlp
      have HP : Hid (pcs (rs.take k) = ps) := hps
      have hlp2 : ps.length ≤ 3000 := by omega
      clear hr htk hen hps hg2 hlp
      have hown : wr.ownsRow w1.heap.size 9 1 _ ps.length (ps.map Value.string) := hI
      go_wp2_with (at_builtin; refine wpList_append_own _ rfl _ _ 35 rfl w1.heap.size 9 i0 (.string ⟨#[]⟩) 1 16 Tryd.underlying35 hi hz0 hz1 hz2 rfl (by decide) _ _ _ rfl (World.ownsRow.alloc hown _) ⟨wr.heap.size, 0, none⟩ 1 1 [.string E] rfl rfl (new_one _ _ _) (by simp [Value.oneCell']) (by unfold maxLen; omega) (by omega) (by simp; omega) ?_; intro v' w2 hown2 hgrow _)
      have hgrow' : (wr.alloc (.cells #[.string E] 9)).grownBy w2 u4.ownBlock := hgrow
      have hlt2 := hown.lt
      have hI2 : OwnS w1.heap.size w2 v' (pcs (rs.take (k + 1))) := by
        unfold OwnS
        rw [HT.out, HP.out]
        simpa using hown2
      have hbw2 : Below w1.heap.size w1 w2 := (hbw.alloc (by omega) _).grown hgrow' (by simp; omega) (fun k e => (hlt2 _ e).1)
      go_roundw
      case rel => exact ⟨k + 1, by go_num, by omega, hI2, hbw2⟩
      case measure => simp [RowKit.intOf]; omega
    · have ilt : ¬ (k : Int) < (rs.length : Int) := by omega
      obtain rfl : k = rs.length := by omega
      rw [List.take_length] at hI
      go_wp2
      go_ret
      refine ⟨_, rfl, ?_, b1.trans (hbw.mono b1.size)⟩
      refine ⟨hI.1, ?_⟩
      have hs1 := b1.size
      rcases hI.2 with h4 | ⟨g, cp, cur, e1, e2, e3⟩
      · exact .inl h4
      · exact .inr ⟨g, cp, cur, e1, Nat.le_trans hs1 e2, e3⟩
end Go.Proofs.YtcbjncnhhpappaaDoor
