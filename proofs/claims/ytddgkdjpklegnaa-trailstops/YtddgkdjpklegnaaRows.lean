/-
  No cell of these rows narrows 'for every input' (looked for: loops, veiled, ifaces, maps, wideKeys, modest, calm, conditions, laid).
  DERIVED. THE GIVEN ROWS OF THIS SEAT. 4 by the template 'for every input the law returns true; each argument reads behind the call as it read before'; 0 by the template 'total and deterministic' (their statements: YtddgkdjpklegnaaTotals.lean).
  GIVEN WITH THE SEED: the statements are not yours to turn. If you find one false, say at which input.
  Laid BY PROGRAM, IN A SANDBOX (cutbox-rows.mjs): the forced cells as the released guide's own fill.sh prints them over the translation 7000a8871583a711… (all of the seat's roots in one cut). By AI agents, Wed Nov 11 2026. No macro, syntax, notation, axiom, sorry.
-/
import Derived.Test.YtddgkdjpklegnaaChecked
import GoSem.Claim
import GoSem.ClaimJoined
import GoSem.ClaimMapViews
import Derived.JoinedTies
import Derived.KernelRfl
namespace Go.Proofs.Ytddgkdjpklegnaa
/- THE CELL 'sum', in the pinned program and in every row, IS THE sha256 OF THE DUMP (.gsa) THAT YtddgkdjpklegnaaProg.lean LOADS. Nothing in Lean hashes anything: it is a label: what it is worth is what the hold of that sum in a sandbox is worth. -/
noncomputable def Try.pinned : Pinned := { name := "ytddgkdjpklegnaa", sum := "7000a8871583a711e083c3b4cc2db1de1458f5cf0331c549b6decefc447aaa11", checked := Try.checked }
namespace Rows
def none {H : Type} : Left H := { results := [], args := [] }

/-- 'lexiconlaw5.TrailGoes': WHATEVER THE INPUT: true; the input reads as it did. -/
def trailGoesSpec : ChangeSpec := { name := "trailGoes", fn := fun _ => fun
  | [d1, d2, d3] => { results := [.lit (.bool true)], args := [d1, d2, d3] }
  | _ => none }
def trailGoesRow : OpenClaim := { program := "ytddgkdjpklegnaa", sum := "7000a8871583a711e083c3b4cc2db1de1458f5cf0331c549b6decefc447aaa11", func := "lexicon/lexiconlaw5.TrailGoes", spec := "trailGoes", unfollowed := true, recurses := true, apart := false }
def TrailGoesSaid : Prop := trailGoesRow.holds Try.pinned (OpenSpec.ofChange trailGoesSpec)

/-- ITS FALSE NEIGHBOUR: 'it returns false'. Refute it at one input. -/
def trailGoesWrong : ChangeSpec := { name := "trailGoes", fn := fun _ => fun
  | [d1, d2, d3] => { results := [.lit (.bool false)], args := [d1, d2, d3] }
  | _ => none }
def TrailGoesWrongFalsely : Prop := trailGoesRow.holds Try.pinned (OpenSpec.ofChange trailGoesWrong)

/-- 'lexiconlaw5.TrailStops': WHATEVER THE INPUT: true; the input reads as it did. -/
def trailStopsSpec : ChangeSpec := { name := "trailStops", fn := fun _ => fun
  | [d1, d2, d3] => { results := [.lit (.bool true)], args := [d1, d2, d3] }
  | _ => none }
def trailStopsRow : OpenClaim := { program := "ytddgkdjpklegnaa", sum := "7000a8871583a711e083c3b4cc2db1de1458f5cf0331c549b6decefc447aaa11", func := "lexicon/lexiconlaw5.TrailStops", spec := "trailStops", unfollowed := true, recurses := true, apart := false }
def TrailStopsSaid : Prop := trailStopsRow.holds Try.pinned (OpenSpec.ofChange trailStopsSpec)

/-- ITS FALSE NEIGHBOUR: 'it returns false'. Refute it at one input. -/
def trailStopsWrong : ChangeSpec := { name := "trailStops", fn := fun _ => fun
  | [d1, d2, d3] => { results := [.lit (.bool false)], args := [d1, d2, d3] }
  | _ => none }
def TrailStopsWrongFalsely : Prop := trailStopsRow.holds Try.pinned (OpenSpec.ofChange trailStopsWrong)

/-- 'lexiconlaw5.TrailCovers': WHATEVER THE INPUT: true; the input reads as it did. -/
def trailCoversSpec : ChangeSpec := { name := "trailCovers", fn := fun _ => fun
  | [d1, d2] => { results := [.lit (.bool true)], args := [d1, d2] }
  | _ => none }
def trailCoversRow : OpenClaim := { program := "ytddgkdjpklegnaa", sum := "7000a8871583a711e083c3b4cc2db1de1458f5cf0331c549b6decefc447aaa11", func := "lexicon/lexiconlaw5.TrailCovers", spec := "trailCovers", unfollowed := true, recurses := true, apart := false }
def TrailCoversSaid : Prop := trailCoversRow.holds Try.pinned (OpenSpec.ofChange trailCoversSpec)

/-- ITS FALSE NEIGHBOUR: 'it returns false'. Refute it at one input. -/
def trailCoversWrong : ChangeSpec := { name := "trailCovers", fn := fun _ => fun
  | [d1, d2] => { results := [.lit (.bool false)], args := [d1, d2] }
  | _ => none }
def TrailCoversWrongFalsely : Prop := trailCoversRow.holds Try.pinned (OpenSpec.ofChange trailCoversWrong)

/-- 'lexiconlaw5.TrailAlike': WHATEVER THE INPUT: true; the input reads as it did. -/
def trailAlikeSpec : ChangeSpec := { name := "trailAlike", fn := fun _ => fun
  | [d1, d2, d3, d4] => { results := [.lit (.bool true)], args := [d1, d2, d3, d4] }
  | _ => none }
def trailAlikeRow : OpenClaim := { program := "ytddgkdjpklegnaa", sum := "7000a8871583a711e083c3b4cc2db1de1458f5cf0331c549b6decefc447aaa11", func := "lexicon/lexiconlaw5.TrailAlike", spec := "trailAlike", unfollowed := true, recurses := true, apart := false }
def TrailAlikeSaid : Prop := trailAlikeRow.holds Try.pinned (OpenSpec.ofChange trailAlikeSpec)

/-- ITS FALSE NEIGHBOUR: 'it returns false'. Refute it at one input. -/
def trailAlikeWrong : ChangeSpec := { name := "trailAlike", fn := fun _ => fun
  | [d1, d2, d3, d4] => { results := [.lit (.bool false)], args := [d1, d2, d3, d4] }
  | _ => none }
def TrailAlikeWrongFalsely : Prop := trailAlikeRow.holds Try.pinned (OpenSpec.ofChange trailAlikeWrong)

/- THE SECOND FORM. 'bulk': how many values and letters a reading holds, each counted each time it is reached (what is shared counts as often as it is met; a slice's spare places count too). A statement '..UptoSaid' is the law's where the arguments, and the package variables that the reading takes, are together of bulk at most 1048576: NARROWER than '..Said'. Prove '..Said' where nothing that the law and all that it calls make is longer than what came in: it says more and counts as full. Else prove '..UptoSaid'. A law counts once. -/
mutual
def uptoBulk {H : Type} : DataW H → Nat
  | .lit (.string bytes) => bytes.length + 1
  | .lit _ => 1
  | .nil => 1
  | .ptr d => uptoBulk d + 1
  | .slice elems spare => uptoBulkAll elems + uptoBulkAll spare + 1
  | .agg parts => uptoBulkAll parts + 1
  | .iface _ d => uptoBulk d + 1
  | .map entries => uptoBulkEntries entries + 1
  | .held _ => 1
def uptoBulkAll {H : Type} : List (DataW H) → Nat
  | [] => 0
  | d :: r => uptoBulk d + uptoBulkAll r
def uptoBulkEntries {H : Type} : List (Lit × DataW H) → Nat
  | [] => 0
  | x :: r => uptoBulkEntry x + uptoBulkEntries r
def uptoBulkEntry {H : Type} : Lit × DataW H → Nat
  | (.string bytes, d) => bytes.length + uptoBulk d + 1
  | (_, d) => uptoBulk d + 1
 end
def uptoSmall : (H : Type) → List (DataW H) → Bool := fun _ ds => decide (uptoBulkAll ds ≤ 1048576)
def OpenSpec.upto (s : _root_.Go.ChangeSpec) : _root_.Go.OpenSpec := { _root_.Go.OpenSpec.ofChange s with cond := some uptoSmall }

/-- 'lexiconlaw5.TrailGoes', WHERE WHAT IT READS IS OF BULK AT MOST 1048576: true; the input reads as it did. -/
def trailGoesUptoRow : OpenClaim := { program := "ytddgkdjpklegnaa", sum := "7000a8871583a711e083c3b4cc2db1de1458f5cf0331c549b6decefc447aaa11", func := "lexicon/lexiconlaw5.TrailGoes", spec := "trailGoes", unfollowed := true, recurses := true, apart := false, narrowed := true }
def TrailGoesUptoSaid : Prop := trailGoesUptoRow.holds Try.pinned (OpenSpec.upto trailGoesSpec)

/-- 'lexiconlaw5.TrailStops', WHERE WHAT IT READS IS OF BULK AT MOST 1048576: true; the input reads as it did. -/
def trailStopsUptoRow : OpenClaim := { program := "ytddgkdjpklegnaa", sum := "7000a8871583a711e083c3b4cc2db1de1458f5cf0331c549b6decefc447aaa11", func := "lexicon/lexiconlaw5.TrailStops", spec := "trailStops", unfollowed := true, recurses := true, apart := false, narrowed := true }
def TrailStopsUptoSaid : Prop := trailStopsUptoRow.holds Try.pinned (OpenSpec.upto trailStopsSpec)

/-- 'lexiconlaw5.TrailCovers', WHERE WHAT IT READS IS OF BULK AT MOST 1048576: true; the input reads as it did. -/
def trailCoversUptoRow : OpenClaim := { program := "ytddgkdjpklegnaa", sum := "7000a8871583a711e083c3b4cc2db1de1458f5cf0331c549b6decefc447aaa11", func := "lexicon/lexiconlaw5.TrailCovers", spec := "trailCovers", unfollowed := true, recurses := true, apart := false, narrowed := true }
def TrailCoversUptoSaid : Prop := trailCoversUptoRow.holds Try.pinned (OpenSpec.upto trailCoversSpec)

/-- 'lexiconlaw5.TrailAlike', WHERE WHAT IT READS IS OF BULK AT MOST 1048576: true; the input reads as it did. -/
def trailAlikeUptoRow : OpenClaim := { program := "ytddgkdjpklegnaa", sum := "7000a8871583a711e083c3b4cc2db1de1458f5cf0331c549b6decefc447aaa11", func := "lexicon/lexiconlaw5.TrailAlike", spec := "trailAlike", unfollowed := true, recurses := true, apart := false, narrowed := true }
def TrailAlikeUptoSaid : Prop := trailAlikeUptoRow.holds Try.pinned (OpenSpec.upto trailAlikeSpec)

end Rows
end Go.Proofs.Ytddgkdjpklegnaa
