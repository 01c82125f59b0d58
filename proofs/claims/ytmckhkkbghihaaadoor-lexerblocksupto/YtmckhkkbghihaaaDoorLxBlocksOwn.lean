/-
  Proved here: for every argument, LexerBlocks returns true and leaves its argument as it was; both forms (the second where what is read is of bulk at most 1048576). The package-level variables that its row lists start as the program's text lays them (the cards tie them).
-/
import Derived.Test.YtmckhkkbghihaaaDoorCards
import Derived.Test.YtmckhkkbghihaaaDoorTie
import Derived.Test.YtmckhkkbghihaaaDoorLxInts
import Derived.Test.YtmckhkkbghihaaaDoorLxBlocks
import Derived.SevenTiedAt
import Derived.Deep.DeepHandedRow
namespace Go.Proofs.YtmckhkkbghihaaaDoor
open Go.ChangeShapes Go.WideShapes Go.ChangeAt Go.RowKit Go.Joins

set_option maxRecDepth 100000 in
theorem blocks_contract (H : Type) (enc : TypeId × Value → H) (W : World) (base : Nat) (args : Array Value) (ds gs : List (DataW H)) (before : List MemPlace)
    (hval0 : ∀ (j : Nat) t v, Tryd.f5.params[j]? = some t → args[j]? = some v → Value.okWide Tryd.prog W .any base t v)
    (hW : DataW.Whole enc Tryd.prog Tryd.f5.params.toList Rows.lexerBlocksSpec.vars false W args.toList ds gs before) (hL : laidMetH Tryd.prog Rows.lexerBlocksRow.laid W) :
    Calls Tryd.prog 5 args W fun e W' => ∃ v, e = .returned v ∧ Rows.lexerBlocksSpec.post enc Tryd.prog Tryd.f5 false true false false W args v W' := by
  have hval : ∀ (j : Nat) t v, Tryd.f5.params[j]? = some t → args[j]? = some v → Value.okWide Tryd.prog W .any base t v := hval0
  have hW' := hW
  obtain ⟨p, q, hA0, hV, rfl, hfz, hnd⟩ := hW
  have hA : DataW.TrodAll enc Tryd.prog W 0 (fun _ => true) true Tryd.f5.params.toList args.toList ds p := hA0
  rw [Tryd.params5] at hA hval
  obtain ⟨v0, d0, rfl, rfl, h0⟩ := trodAll_one hA
  obtain ⟨rfl, rfl⟩ := trodVars_none hV
  have k0 := h0
  have lt0 : ∀ x ∈ p, x.block < W.heap.size := by obtain ⟨m, hm⟩ := k0; exact DataW.trod_lt m _ _ _ hm
  obtain ⟨a0, n0, c0, l0, rfl, hl0⟩ := ints_open (hval 0 34 v0 rfl rfl) h0
  clear hA0 hval0
  refine (Lx.blocks_walk a0 n0 c0 l0 W hl0 (env_of rfl hL)).mono fun e W' ⟨he, bel⟩ => ?_
  subst he
  exact ⟨_, rfl, _, _, _, [], _, [], hW', trodAll_mk1 (shut_bool Tryd.underlying4 _), trodAll_mk1 (Below.trod Tryd.laidOut (by kernel_rfl) (of_decide_eq_true (by kernel_rfl)) k0 bel lt0), rfl, bel.frame _, fun h => by cases h⟩

theorem blocks_reads (os : Os) {H : Type} (enc : TypeId × Value → H) : ∃ places, DataW.whole enc Tryd.prog ((World.laidAll Tryd.prog os Rows.lexerBlocksRow.laid).forCall (fun _ _ => 0) ⟨#[], #[.slice none 0 0], []⟩).memory Tryd.f5.params.toList Rows.lexerBlocksSpec.vars false #[Value.slice none 0 0].toList 8 = some ([.nil], [], places) :=
  ⟨[], by kernel_rfl⟩
theorem blocks_laid (os : Os) : laidMetH Tryd.prog Rows.lexerBlocksRow.laid ((World.laidAll Tryd.prog os Rows.lexerBlocksRow.laid).forCall (fun _ _ => 0) ⟨#[], #[.slice none 0 0], []⟩).memory := by
  rw [MakeChecks.laidMetH_plain _ _ _ (by kernel_rfl)]
  exact laidMet_laidAll _ (by kernel_rfl) (by kernel_rfl)
theorem blocks_ok (os : Os) : Input.okWideB Tryd.prog ((World.laidAll Tryd.prog os Rows.lexerBlocksRow.laid).forCall (fun _ _ => 0) ⟨#[], #[.slice none 0 0], []⟩) 5 ⟨#[], #[.slice none 0 0], []⟩ = true := by kernel_rfl
theorem blocks_shaped (os : Os) : ((World.laidAll Tryd.prog os Rows.lexerBlocksRow.laid).forCall (fun _ _ => 0) ⟨#[], #[.slice none 0 0], []⟩).Shaped Tryd.prog := World.shaped_of_ZipB (by kernel_rfl) (by kernel_rfl)

set_option maxRecDepth 100000 in
theorem blocks_lifted (os : Os) (started : os.Started) (H : Type) (enc : TypeId × Value → H) (F : Stop.Interp) :
    ReturnsInHanded {} Tryd.checked os 5 .any ((OpenSpec.ofChange Rows.lexerBlocksSpec).preRow enc Tryd.prog Tryd.f5 Rows.lexerBlocksRow.domain false Rows.lexerBlocksRow.laid) (((OpenSpec.ofChange Rows.lexerBlocksSpec).at F).post enc Tryd.prog Tryd.f5 false true false false) := by
  obtain ⟨places, hx⟩ := blocks_reads os enc
  refine returnsInHanded_of_row (C := Tryd.checked) (s := OpenSpec.ofChange Rows.lexerBlocksSpec) Tryd.own started (by kernel_rfl) Tryd.func5
    ⟨World.laidAll Tryd.prog os Rows.lexerBlocksRow.laid, fun _ _ => 0, ⟨#[], #[.slice none 0 0], []⟩, World.laidAll_os _ _ _, blocks_shaped os, (Input.okWide_of_okWideB (base := 0) (blocks_ok os)).1, (Input.okWide_of_okWideB (blocks_ok os)).2,
      OpenSpec.preRow_of_cond 8 hx (by kernel_rfl) (fun k hk => by cases hk) (by kernel_rfl) (blocks_laid os), by simp only [Assume.holds]; exact ⟨by simp, by simp, fun h => by simp at h, by simp, by simp⟩⟩ ?_
  intro W base args ds gs before hval hW _ _ _ hL _ _
  exact blocks_contract H enc W base args ds gs before hval hW hL
set_option maxRecDepth 100000 in
theorem blocks_lifted_upto (os : Os) (started : os.Started) (H : Type) (enc : TypeId × Value → H) (F : Stop.Interp) :
    ReturnsInHanded {} Tryd.checked os 5 .any ((Rows.OpenSpec.upto Rows.lexerBlocksSpec).preRow enc Tryd.prog Tryd.f5 Rows.lexerBlocksUptoRow.domain false Rows.lexerBlocksUptoRow.laid) (((Rows.OpenSpec.upto Rows.lexerBlocksSpec).at F).post enc Tryd.prog Tryd.f5 false true false false) := by
  obtain ⟨places, hx⟩ := blocks_reads os enc
  refine returnsInHanded_of_row (C := Tryd.checked) (s := Rows.OpenSpec.upto Rows.lexerBlocksSpec) Tryd.own started (by kernel_rfl) Tryd.func5
    ⟨World.laidAll Tryd.prog os Rows.lexerBlocksRow.laid, fun _ _ => 0, ⟨#[], #[.slice none 0 0], []⟩, World.laidAll_os _ _ _, blocks_shaped os, (Input.okWide_of_okWideB (base := 0) (blocks_ok os)).1, (Input.okWide_of_okWideB (blocks_ok os)).2,
      OpenSpec.preRow_of_cond 8 hx (by kernel_rfl) (fun k hk => by cases hk; kernel_rfl) (by kernel_rfl) (blocks_laid os), by simp only [Assume.holds]; exact ⟨by simp, by simp, fun h => by simp at h, by simp, by simp⟩⟩ ?_
  intro W base args ds gs before hval hW _ _ _ hL _ _
  exact blocks_contract H enc W base args ds gs before hval hW hL

theorem blocks_row : Rows.LexerBlocksSaid :=
  OpenClaim.holds_of_cond 5 Tryd.f5 rfl rfl rfl rfl rfl rfl rfl ⟨rfl, rfl, rfl, rfl, rfl⟩ rfl rfl rfl rfl rfl (by kernel_rfl) Tryd.func5 (by kernel_rfl)
    (of_decide_eq_true (by kernel_rfl)) (by unfold Func.isWrapper; rw [if_neg (of_decide_eq_false (by kernel_rfl))]; exact ⟨rfl, rfl⟩)
    (fun os started H enc _ F => by rw [OpenClaim.pre_eq_preRow]; exact blocks_lifted os started H enc F)
theorem blocks_row_upto : Rows.LexerBlocksUptoSaid :=
  OpenClaim.holds_of_cond 5 Tryd.f5 rfl rfl rfl rfl rfl rfl rfl ⟨rfl, rfl, rfl, rfl, rfl⟩ rfl rfl rfl rfl rfl (by kernel_rfl) Tryd.func5 (by kernel_rfl)
    (of_decide_eq_true (by kernel_rfl)) (by unfold Func.isWrapper; rw [if_neg (of_decide_eq_false (by kernel_rfl))]; exact ⟨rfl, rfl⟩)
    (fun os started H enc _ F => by rw [OpenClaim.pre_eq_preRow]; exact blocks_lifted_upto os started H enc F)

theorem blocks_plain (f : FuncId) (fn : Func) (hf : Tryd.prog.funcNamed Rows.lexerBlocksRow.func = some f) (hfn : Tryd.prog.funcs[f]? = some fn) :
    true = Tryd.prog.looks [] ∧ ∀ (j : Nat) t, fn.params[j]? = some t → Tryd.prog.wantsStandIn t = false := by
  obtain rfl : f = 5 := Option.some.inj ((show Tryd.prog.funcNamed Rows.lexerBlocksRow.func = some 5 by kernel_rfl).symm.trans hf) |>.symm
  obtain rfl : fn = Tryd.f5 := (Option.some.inj (Tryd.func5.symm.trans hfn)).symm
  refine ⟨by kernel_rfl, fun j t ht => ?_⟩
  rw [Tryd.params5] at ht
  have hm : t ∈ [34] := by simpa using Array.mem_of_getElem? ht
  obtain rfl : t = 34 := by simpa using hm
  exact (show Tryd.prog.wantsStandIn 34 = false by kernel_rfl)

theorem blocks_holds : Rows.LexerBlocksCardSaid :=
  Claim7.holds_tied_plain_at .later [] Rows.lexerBlocksCard.laidKinds true Rows.lexerBlocksCard.stood.harness true
    blocks_row (fun _ h => by cases h) (by kernel_rfl) (fun _ h => by cases h) lexerBlocks_row_tie rfl ⟨rfl, rfl⟩ (by kernel_rfl) rfl blocks_plain (by kernel_rfl)
theorem blocks_upto_holds : Rows.LexerBlocksUptoCardSaid :=
  Claim7.holds_tied_plain_at .later [] Rows.lexerBlocksUptoCard.laidKinds true Rows.lexerBlocksUptoCard.stood.harness true
    blocks_row_upto (fun _ h => by cases h) (by kernel_rfl) (fun _ h => by cases h) lexerBlocksUpto_row_tie rfl ⟨rfl, rfl⟩ (by kernel_rfl) rfl blocks_plain (by kernel_rfl)
#print axioms blocks_upto_holds
end Go.Proofs.YtmckhkkbghihaaaDoor
