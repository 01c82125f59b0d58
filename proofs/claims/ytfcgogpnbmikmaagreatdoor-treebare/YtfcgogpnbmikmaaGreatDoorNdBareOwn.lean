/-
  Proved here: for every argument, TreeBare returns true and leaves its argument as it was (the plain form). The package-level variables that its row lists start as the program's text lays them (the cards tie them).
-/
import Derived.Test.YtfcgogpnbmikmaaGreatDoorCards
import Derived.Test.YtfcgogpnbmikmaaGreatDoorTie
import Derived.Test.YtfcgogpnbmikmaaGreatDoorNdOpen
import Derived.Test.YtfcgogpnbmikmaaGreatDoorNdBare
import Derived.ShutString
import Derived.ChangeOld
import Derived.Below
import Derived.Lay
import Derived.LaidMore
import Derived.LaidLaws
import Derived.PinnedBridge
import Derived.Lib.LaidU8
import Derived.Shelf.Vars
import Derived.HandedShaped
import Derived.SevenTiedAt
import Derived.Deep.DeepHandedRow
namespace Go.Proofs.YtfcgogpnbmikmaaGreatDoor
open Go.ChangeShapes Go.WideShapes Go.ChangeAt Go.RowKit Go.Joins

theorem Tryz.own : ownKnob Tryz.prog.godebug = none := by kernel_rfl
theorem Tryz.laidOut : laidOutB Tryz.prog = true := by kernel_rfl
theorem Nd.node_open {H : Type} {enc : TypeId × Value → H} {W : World} {v : Value} {d : DataW H} {p : List MemPlace} (h : DataW.Trod enc Tryz.prog W 0 (fun _ => true) true 27 v d p) (hw : ∀ b ∈ d.weights Tryz.prog 27, b ≤ reachBytes) : ∃ t x, v = Nd.Nv.v x ∧ Nd.Rd W (fun b => b < W.heap.size) t x ∧ Nd.Sz t := by
  obtain ⟨m, hm⟩ := h
  obtain ⟨t, x, hc, hr, hz⟩ := Nd.node_at m _ _ hm hw
  refine ⟨t, x, ?_, hr, hz⟩
  cases v with
  | agg cs =>
    have h1 : cs.toList = Nd.Nv.c x := hc
    have h2 : cs = (Nd.Nv.c x).toArray := by rw [← h1]
    rw [h2]
    rfl
  | _ => simp [Value.cells, Nd.Nv.c] at hc
set_option maxRecDepth 100000 in
theorem bare_contract (H : Type) (enc : TypeId × Value → H) (W : World) (base : Nat) (args : Array Value) (ds gs : List (DataW H)) (before : List MemPlace)
    (hval0 : ∀ (j : Nat) t v, Tryz.f5.params[j]? = some t → args[j]? = some v → Value.okWide Tryz.prog W .any base t v)
    (hW : DataW.Whole enc Tryz.prog Tryz.f5.params.toList Rows.treeBareSpec.vars false W args.toList ds gs before) (hwt : ((DataW.weightsEach Tryz.prog (Tryz.f5.params.toList ++ DataSpec.varTypes Tryz.prog (OpenSpec.ofChange Rows.treeBareSpec).bare.plain) (ds ++ gs)).all fun x => decide (x ≤ reachBytes)) = true) :
    Calls Tryz.prog 5 args W fun e W' => ∃ v, e = .returned v ∧ Rows.treeBareSpec.post enc Tryz.prog Tryz.f5 false true false false W args v W' := by
  have hval : ∀ (j : Nat) t v, Tryz.f5.params[j]? = some t → args[j]? = some v → Value.okWide Tryz.prog W .any base t v := hval0
  have hW' := hW
  obtain ⟨p, q, hA0, hV, rfl, hfz, hnd⟩ := hW
  have hA : DataW.TrodAll enc Tryz.prog W 0 (fun _ => true) true Tryz.f5.params.toList args.toList ds p := hA0
  rw [Tryz.params5] at hA hval
  obtain ⟨v0, d0, rfl, rfl, h0⟩ := trodAll_one hA
  obtain ⟨rfl, rfl⟩ := trodVars_none hV
  have k0 := h0
  have lt0 : ∀ x ∈ p, x.block < W.heap.size := by obtain ⟨m, hm⟩ := k0; exact DataW.trod_lt m _ _ _ hm
  obtain ⟨t, x, rfl, hr, hz⟩ := Nd.node_open h0 (fun b hb => by
    have h1 : ((DataW.weightsEach Tryz.prog [27] [d0]).all fun x => decide (x ≤ reachBytes)) = true := hwt
    rw [List.all_eq_true] at h1
    exact of_decide_eq_true (h1 b (by rw [DataW.weightsEach.eq_1]; exact List.mem_append_left _ hb)))
  clear hA0 hval0
  refine (Nd.bare_walk t x W hr hz).mono fun e W' ⟨he, bel⟩ => ?_
  subst he
  exact ⟨_, rfl, _, _, _, [], _, [], hW', trodAll_mk1 (shut_bool Tryz.underlying4 _), trodAll_mk1 (Below.trod Tryz.laidOut (by kernel_rfl) (of_decide_eq_true (by kernel_rfl)) k0 bel lt0), rfl, bel.frame _, fun h => by cases h⟩

theorem bare_reads (os : Os) {H : Type} (enc : TypeId × Value → H) : ∃ places, DataW.whole enc Tryz.prog ((World.laidAll Tryz.prog os Rows.treeBareRow.laid).forCall (fun _ _ => 0) ⟨#[], #[.agg #[.int .i64 0, .int .i64 0, .string ⟨#[]⟩, .bool false, .slice none 0 0, .slice none 0 0]], []⟩).memory Tryz.f5.params.toList Rows.treeBareSpec.vars false #[Value.agg #[.int .i64 0, .int .i64 0, .string ⟨#[]⟩, .bool false, .slice none 0 0, .slice none 0 0]].toList 8 = some ([.agg [.lit (.int .i64 0), .lit (.int .i64 0), .lit (.string []), .agg [.lit (.bool false), .nil], .nil]], [], places) :=
  ⟨[], by kernel_rfl⟩
theorem bare_laid (os : Os) : laidMetH Tryz.prog Rows.treeBareRow.laid ((World.laidAll Tryz.prog os Rows.treeBareRow.laid).forCall (fun _ _ => 0) ⟨#[], #[.agg #[.int .i64 0, .int .i64 0, .string ⟨#[]⟩, .bool false, .slice none 0 0, .slice none 0 0]], []⟩).memory := by
  rw [MakeChecks.laidMetH_plain _ _ _ (by kernel_rfl)]
  exact laidMet_laidAll _ (by kernel_rfl) (by kernel_rfl)
theorem bare_ok (os : Os) : Input.okWideB Tryz.prog ((World.laidAll Tryz.prog os Rows.treeBareRow.laid).forCall (fun _ _ => 0) ⟨#[], #[.agg #[.int .i64 0, .int .i64 0, .string ⟨#[]⟩, .bool false, .slice none 0 0, .slice none 0 0]], []⟩) 5 ⟨#[], #[.agg #[.int .i64 0, .int .i64 0, .string ⟨#[]⟩, .bool false, .slice none 0 0, .slice none 0 0]], []⟩ = true := by kernel_rfl
theorem bare_shaped (os : Os) : ((World.laidAll Tryz.prog os Rows.treeBareRow.laid).forCall (fun _ _ => 0) ⟨#[], #[.agg #[.int .i64 0, .int .i64 0, .string ⟨#[]⟩, .bool false, .slice none 0 0, .slice none 0 0]], []⟩).Shaped Tryz.prog := World.shaped_of_ZipB (by kernel_rfl) (by kernel_rfl)

set_option maxRecDepth 100000 in
theorem bare_lifted (os : Os) (started : os.Started) (H : Type) (enc : TypeId × Value → H) (F : Stop.Interp) :
    ReturnsInHanded {} Tryz.checked os 5 .any ((OpenSpec.ofChange Rows.treeBareSpec).preRow enc Tryz.prog Tryz.f5 Rows.treeBareRow.domain false Rows.treeBareRow.laid) (((OpenSpec.ofChange Rows.treeBareSpec).at F).post enc Tryz.prog Tryz.f5 false true false false) := by
  obtain ⟨places, hx⟩ := bare_reads os enc
  refine returnsInHanded_of_row (C := Tryz.checked) (s := OpenSpec.ofChange Rows.treeBareSpec) Tryz.own started (by kernel_rfl) Tryz.func5
    ⟨World.laidAll Tryz.prog os Rows.treeBareRow.laid, fun _ _ => 0, ⟨#[], #[.agg #[.int .i64 0, .int .i64 0, .string ⟨#[]⟩, .bool false, .slice none 0 0, .slice none 0 0]], []⟩, World.laidAll_os _ _ _, bare_shaped os, (Input.okWide_of_okWideB (base := 0) (bare_ok os)).1, (Input.okWide_of_okWideB (bare_ok os)).2,
      OpenSpec.preRow_of_cond 8 hx (by kernel_rfl) (fun k hk => by cases hk) (by kernel_rfl) (bare_laid os), by simp only [Assume.holds]; exact ⟨by simp, by simp, fun h => by simp at h, by simp, by simp⟩⟩ ?_
  intro W base args ds gs before hval hW _ _ hwt _ _ _
  exact bare_contract H enc W base args ds gs before hval hW hwt
theorem bare_row : Rows.TreeBareSaid :=
  OpenClaim.holds_of_cond 5 Tryz.f5 rfl rfl rfl rfl rfl rfl rfl ⟨rfl, rfl, rfl, rfl, rfl⟩ rfl rfl rfl rfl rfl (by kernel_rfl) Tryz.func5 (by kernel_rfl)
    (of_decide_eq_true (by kernel_rfl)) (by unfold Func.isWrapper; rw [if_neg (of_decide_eq_false (by kernel_rfl))]; exact ⟨rfl, rfl⟩)
    (fun os started H enc _ F => by rw [OpenClaim.pre_eq_preRow]; exact bare_lifted os started H enc F)

theorem bare_plain (f : FuncId) (fn : Func) (hf : Tryz.prog.funcNamed Rows.treeBareRow.func = some f) (hfn : Tryz.prog.funcs[f]? = some fn) :
    false = Tryz.prog.looks [] ∧ ∀ (j : Nat) t, fn.params[j]? = some t → Tryz.prog.wantsStandIn t = false := by
  obtain rfl : f = 5 := Option.some.inj ((show Tryz.prog.funcNamed Rows.treeBareRow.func = some 5 by kernel_rfl).symm.trans hf) |>.symm
  obtain rfl : fn = Tryz.f5 := (Option.some.inj (Tryz.func5.symm.trans hfn)).symm
  refine ⟨by kernel_rfl, fun j t ht => ?_⟩
  rw [Tryz.params5] at ht
  have hm : t ∈ [27] := by simpa using Array.mem_of_getElem? ht
  obtain rfl : t = 27 := by simpa using hm
  exact (show Tryz.prog.wantsStandIn 27 = false by kernel_rfl)

theorem bare_holds : Rows.TreeBareCardSaid :=
  Claim7.holds_tied_plain_at .later [] Rows.treeBareCard.laidKinds true Rows.treeBareCard.stood.harness false
    bare_row (fun _ h => by cases h) (by kernel_rfl) (fun _ h => by cases h) treeBare_row_tie rfl ⟨rfl, rfl⟩ (by kernel_rfl) rfl bare_plain (by kernel_rfl)
#print axioms bare_holds
end Go.Proofs.YtfcgogpnbmikmaaGreatDoor
