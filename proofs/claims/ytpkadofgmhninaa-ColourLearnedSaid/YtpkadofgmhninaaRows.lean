/-
  No cell of these rows narrows 'for every input' (looked for: loops, veiled, ifaces, maps, wideKeys, modest, calm, conditions, laid).
  DERIVED. THE GIVEN ROWS OF THIS SEAT. 5 by the template 'for every input the law returns true; each argument reads behind the call as it read before'; 0 by the template 'total and deterministic' (their statements: YtpkadofgmhninaaTotals.lean).
  GIVEN WITH THE SEED: the statements are not yours to turn. If you find one false, say at which input.
  Laid BY PROGRAM, IN A SANDBOX (cutbox-rows.mjs): the forced cells as the released guide's own fill.sh prints them over the translation 392c8dbbb5d50310… (all of the seat's roots in one cut). By AI agents, Wed Nov 11 2026. No macro, syntax, notation, axiom, sorry.
-/
import Derived.Test.YtpkadofgmhninaaChecked
import GoSem.Claim
import GoSem.ClaimJoined
import GoSem.ClaimMapViews
import Derived.JoinedTies
import Derived.KernelRfl
namespace Go.Proofs.Ytpkadofgmhninaa
/- THE CELL 'sum', in the pinned program and in every row, IS THE sha256 OF THE DUMP (.gsa) THAT YtpkadofgmhninaaProg.lean LOADS. Nothing in Lean hashes anything: it is a label: what it is worth is what the hold of that sum in a sandbox is worth. -/
noncomputable def Try.pinned : Pinned := { name := "ytpkadofgmhninaa", sum := "392c8dbbb5d50310627224f8cab096930d40ab5626836d1576e5ce43744944ff", checked := Try.checked }
namespace Rows
def none {H : Type} : Left H := { results := [], args := [] }

/-- 'smaltolaw01.ColourTruth': WHATEVER THE INPUT: true; the input reads as it did. -/
def colourTruthSpec : ChangeSpec := { name := "colourTruth", fn := fun _ => fun
  | [d1, d2] => { results := [.lit (.bool true)], args := [d1, d2] }
  | _ => none }
def colourTruthRow : OpenClaim := { program := "ytpkadofgmhninaa", sum := "392c8dbbb5d50310627224f8cab096930d40ab5626836d1576e5ce43744944ff", func := "smalto/smaltolaw01.ColourTruth", spec := "colourTruth", unfollowed := true, recurses := true, apart := false }
def ColourTruthSaid : Prop := colourTruthRow.holds Try.pinned (OpenSpec.ofChange colourTruthSpec)

/-- ITS FALSE NEIGHBOUR: 'it returns false'. Refute it at one input. -/
def colourTruthWrong : ChangeSpec := { name := "colourTruth", fn := fun _ => fun
  | [d1, d2] => { results := [.lit (.bool false)], args := [d1, d2] }
  | _ => none }
def ColourTruthWrongFalsely : Prop := colourTruthRow.holds Try.pinned (OpenSpec.ofChange colourTruthWrong)

/-- 'smaltolaw01.ColourBest': WHATEVER THE INPUT: true; the input reads as it did. -/
def colourBestSpec : ChangeSpec := { name := "colourBest", fn := fun _ => fun
  | [d1, d2, d3] => { results := [.lit (.bool true)], args := [d1, d2, d3] }
  | _ => none }
def colourBestRow : OpenClaim := { program := "ytpkadofgmhninaa", sum := "392c8dbbb5d50310627224f8cab096930d40ab5626836d1576e5ce43744944ff", func := "smalto/smaltolaw01.ColourBest", spec := "colourBest", unfollowed := true, recurses := true, apart := false }
def ColourBestSaid : Prop := colourBestRow.holds Try.pinned (OpenSpec.ofChange colourBestSpec)

/-- ITS FALSE NEIGHBOUR: 'it returns false'. Refute it at one input. -/
def colourBestWrong : ChangeSpec := { name := "colourBest", fn := fun _ => fun
  | [d1, d2, d3] => { results := [.lit (.bool false)], args := [d1, d2, d3] }
  | _ => none }
def ColourBestWrongFalsely : Prop := colourBestRow.holds Try.pinned (OpenSpec.ofChange colourBestWrong)

/-- 'smaltolaw01.ColourBarred': WHATEVER THE INPUT: true; the input reads as it did. -/
def colourBarredSpec : ChangeSpec := { name := "colourBarred", fn := fun _ => fun
  | [d1, d2] => { results := [.lit (.bool true)], args := [d1, d2] }
  | _ => none }
def colourBarredRow : OpenClaim := { program := "ytpkadofgmhninaa", sum := "392c8dbbb5d50310627224f8cab096930d40ab5626836d1576e5ce43744944ff", func := "smalto/smaltolaw01.ColourBarred", spec := "colourBarred", unfollowed := true, recurses := true, apart := false }
def ColourBarredSaid : Prop := colourBarredRow.holds Try.pinned (OpenSpec.ofChange colourBarredSpec)

/-- ITS FALSE NEIGHBOUR: 'it returns false'. Refute it at one input. -/
def colourBarredWrong : ChangeSpec := { name := "colourBarred", fn := fun _ => fun
  | [d1, d2] => { results := [.lit (.bool false)], args := [d1, d2] }
  | _ => none }
def ColourBarredWrongFalsely : Prop := colourBarredRow.holds Try.pinned (OpenSpec.ofChange colourBarredWrong)

/-- 'smaltolaw01.ColourLearned': WHATEVER THE INPUT: true; the input reads as it did. -/
def colourLearnedSpec : ChangeSpec := { name := "colourLearned", fn := fun _ => fun
  | [d1, d2, d3] => { results := [.lit (.bool true)], args := [d1, d2, d3] }
  | _ => none }
def colourLearnedRow : OpenClaim := { program := "ytpkadofgmhninaa", sum := "392c8dbbb5d50310627224f8cab096930d40ab5626836d1576e5ce43744944ff", func := "smalto/smaltolaw01.ColourLearned", spec := "colourLearned", unfollowed := true, recurses := true, apart := false }
def ColourLearnedSaid : Prop := colourLearnedRow.holds Try.pinned (OpenSpec.ofChange colourLearnedSpec)

/-- ITS FALSE NEIGHBOUR: 'it returns false'. Refute it at one input. -/
def colourLearnedWrong : ChangeSpec := { name := "colourLearned", fn := fun _ => fun
  | [d1, d2, d3] => { results := [.lit (.bool false)], args := [d1, d2, d3] }
  | _ => none }
def ColourLearnedWrongFalsely : Prop := colourLearnedRow.holds Try.pinned (OpenSpec.ofChange colourLearnedWrong)

/-- 'smaltolaw01.ColourLies': WHATEVER THE INPUT: true; the input reads as it did. -/
def colourLiesSpec : ChangeSpec := { name := "colourLies", fn := fun _ => fun
  | [d1, d2] => { results := [.lit (.bool true)], args := [d1, d2] }
  | _ => none }
def colourLiesRow : OpenClaim := { program := "ytpkadofgmhninaa", sum := "392c8dbbb5d50310627224f8cab096930d40ab5626836d1576e5ce43744944ff", func := "smalto/smaltolaw01.ColourLies", spec := "colourLies", unfollowed := true, recurses := true, apart := false }
def ColourLiesSaid : Prop := colourLiesRow.holds Try.pinned (OpenSpec.ofChange colourLiesSpec)

/-- ITS FALSE NEIGHBOUR: 'it returns false'. Refute it at one input. -/
def colourLiesWrong : ChangeSpec := { name := "colourLies", fn := fun _ => fun
  | [d1, d2] => { results := [.lit (.bool false)], args := [d1, d2] }
  | _ => none }
def ColourLiesWrongFalsely : Prop := colourLiesRow.holds Try.pinned (OpenSpec.ofChange colourLiesWrong)

/- THE SECOND FORM. 'bulk': how many values and letters a reading holds, each counted each time it is reached (what is shared counts as often as it is met; a slice's spare places count too). A statement '..UptoSaid' is the law's where the arguments, and the package variables that the reading takes, are together of bulk at most 1048576: NARROWER than '..Said'. Prove '..Said' where nothing that the law and all that it calls make is longer than what came in: it says more and counts as full. Else prove '..UptoSaid'. A law counts once. -/
mutual
def uptoBulk {H : Type} : DataW H → Nat
  | .lit (.string bytes) => bytes.length + 1
  | .lit _ => 1
  | .nil => 1
  | .ptr d => uptoBulk d + 1
  | .slice elems spare => uptoBulkAll elems + uptoBulkAll spare + 1
  | .agg parts => uptoBulkAll parts + 1
  | .iface _ d => uptoBulk d + 1
  | .map entries => uptoBulkEntries entries + 1
  | .held _ => 1
def uptoBulkAll {H : Type} : List (DataW H) → Nat
  | [] => 0
  | d :: r => uptoBulk d + uptoBulkAll r
def uptoBulkEntries {H : Type} : List (Lit × DataW H) → Nat
  | [] => 0
  | x :: r => uptoBulkEntry x + uptoBulkEntries r
def uptoBulkEntry {H : Type} : Lit × DataW H → Nat
  | (.string bytes, d) => bytes.length + uptoBulk d + 1
  | (_, d) => uptoBulk d + 1
 end
def uptoSmall : (H : Type) → List (DataW H) → Bool := fun _ ds => decide (uptoBulkAll ds ≤ 1048576)
def OpenSpec.upto (s : _root_.Go.ChangeSpec) : _root_.Go.OpenSpec := { _root_.Go.OpenSpec.ofChange s with cond := some uptoSmall }

/-- 'smaltolaw01.ColourTruth', WHERE WHAT IT READS IS OF BULK AT MOST 1048576: true; the input reads as it did. -/
def colourTruthUptoRow : OpenClaim := { program := "ytpkadofgmhninaa", sum := "392c8dbbb5d50310627224f8cab096930d40ab5626836d1576e5ce43744944ff", func := "smalto/smaltolaw01.ColourTruth", spec := "colourTruth", unfollowed := true, recurses := true, apart := false, narrowed := true }
def ColourTruthUptoSaid : Prop := colourTruthUptoRow.holds Try.pinned (OpenSpec.upto colourTruthSpec)

/-- 'smaltolaw01.ColourBest', WHERE WHAT IT READS IS OF BULK AT MOST 1048576: true; the input reads as it did. -/
def colourBestUptoRow : OpenClaim := { program := "ytpkadofgmhninaa", sum := "392c8dbbb5d50310627224f8cab096930d40ab5626836d1576e5ce43744944ff", func := "smalto/smaltolaw01.ColourBest", spec := "colourBest", unfollowed := true, recurses := true, apart := false, narrowed := true }
def ColourBestUptoSaid : Prop := colourBestUptoRow.holds Try.pinned (OpenSpec.upto colourBestSpec)

/-- 'smaltolaw01.ColourBarred', WHERE WHAT IT READS IS OF BULK AT MOST 1048576: true; the input reads as it did. -/
def colourBarredUptoRow : OpenClaim := { program := "ytpkadofgmhninaa", sum := "392c8dbbb5d50310627224f8cab096930d40ab5626836d1576e5ce43744944ff", func := "smalto/smaltolaw01.ColourBarred", spec := "colourBarred", unfollowed := true, recurses := true, apart := false, narrowed := true }
def ColourBarredUptoSaid : Prop := colourBarredUptoRow.holds Try.pinned (OpenSpec.upto colourBarredSpec)

/-- 'smaltolaw01.ColourLearned', WHERE WHAT IT READS IS OF BULK AT MOST 1048576: true; the input reads as it did. -/
def colourLearnedUptoRow : OpenClaim := { program := "ytpkadofgmhninaa", sum := "392c8dbbb5d50310627224f8cab096930d40ab5626836d1576e5ce43744944ff", func := "smalto/smaltolaw01.ColourLearned", spec := "colourLearned", unfollowed := true, recurses := true, apart := false, narrowed := true }
def ColourLearnedUptoSaid : Prop := colourLearnedUptoRow.holds Try.pinned (OpenSpec.upto colourLearnedSpec)

/-- 'smaltolaw01.ColourLies', WHERE WHAT IT READS IS OF BULK AT MOST 1048576: true; the input reads as it did. -/
def colourLiesUptoRow : OpenClaim := { program := "ytpkadofgmhninaa", sum := "392c8dbbb5d50310627224f8cab096930d40ab5626836d1576e5ce43744944ff", func := "smalto/smaltolaw01.ColourLies", spec := "colourLies", unfollowed := true, recurses := true, apart := false, narrowed := true }
def ColourLiesUptoSaid : Prop := colourLiesUptoRow.holds Try.pinned (OpenSpec.upto colourLiesSpec)

end Rows
end Go.Proofs.Ytpkadofgmhninaa
