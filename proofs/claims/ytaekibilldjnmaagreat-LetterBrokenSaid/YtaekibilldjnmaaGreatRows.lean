/-
  No cell of these rows narrows 'for every input' (looked for: loops, veiled, ifaces, maps, wideKeys, modest, calm, conditions, laid).
  DERIVED. THE GIVEN ROWS OF THIS SEAT. 5 by the template 'for every input the law returns true; each argument reads behind the call as it read before'; 0 by the template 'total and deterministic' (their statements: YtaekibilldjnmaaGreatTotals.lean).
  GIVEN WITH THE SEED: the statements are not yours to turn. If you find one false, say at which input.
  Laid BY PROGRAM, IN A SANDBOX (cutbox-rows.mjs): the forced cells as the released guide's own fill.sh prints them over the translation 449ec8121ebeef60… (all of the seat's roots in one cut). By AI agents, Wed Nov 11 2026. No macro, syntax, notation, axiom, sorry.
-/
import Derived.Test.YtaekibilldjnmaaGreatChecked
import GoSem.Claim
import GoSem.ClaimJoined
import GoSem.ClaimMapViews
import Derived.JoinedTies
import Derived.KernelRfl
namespace Go.Proofs.YtaekibilldjnmaaGreat
/- THE CELL 'sum', in the pinned program and in every row, IS THE sha256 OF THE DUMP (.gsa) THAT YtaekibilldjnmaaGreatProg.lean LOADS. Nothing in Lean hashes anything: it is a label: what it is worth is what the hold of that sum in a sandbox is worth. -/
noncomputable def Tryz.pinned : Pinned := { name := "ytaekibilldjnmaagreat", sum := "449ec8121ebeef608f47f7a42897390deaa83ac42a97a3e446cd9d55bb1ac8df", checked := Tryz.checked }
namespace Rows
def none {H : Type} : Left H := { results := [], args := [] }

/-- 'smaltolaw04.LetterLaid': WHATEVER THE INPUT: true; the input reads as it did. -/
def letterLaidSpec : ChangeSpec := { name := "letterLaid", fn := fun _ => fun
  | [d1, d2, d3] => { results := [.lit (.bool true)], args := [d1, d2, d3] }
  | _ => none }
def letterLaidRow : OpenClaim := { program := "ytaekibilldjnmaagreat", sum := "449ec8121ebeef608f47f7a42897390deaa83ac42a97a3e446cd9d55bb1ac8df", func := "smalto/smaltolaw04.LetterLaid", spec := "letterLaid", unfollowed := true, recurses := true, plainKeys := false, apart := false }
def LetterLaidSaid : Prop := letterLaidRow.holds Tryz.pinned (OpenSpec.ofChange letterLaidSpec)

/-- ITS FALSE NEIGHBOUR: 'it returns false'. Refute it at one input. -/
def letterLaidWrong : ChangeSpec := { name := "letterLaid", fn := fun _ => fun
  | [d1, d2, d3] => { results := [.lit (.bool false)], args := [d1, d2, d3] }
  | _ => none }
def LetterLaidWrongFalsely : Prop := letterLaidRow.holds Tryz.pinned (OpenSpec.ofChange letterLaidWrong)

/-- 'smaltolaw04.LetterOut': WHATEVER THE INPUT: true; the input reads as it did. -/
def letterOutSpec : ChangeSpec := { name := "letterOut", fn := fun _ => fun
  | [d1, d2, d3] => { results := [.lit (.bool true)], args := [d1, d2, d3] }
  | _ => none }
def letterOutRow : OpenClaim := { program := "ytaekibilldjnmaagreat", sum := "449ec8121ebeef608f47f7a42897390deaa83ac42a97a3e446cd9d55bb1ac8df", func := "smalto/smaltolaw04.LetterOut", spec := "letterOut", unfollowed := true, recurses := true, plainKeys := false, apart := false }
def LetterOutSaid : Prop := letterOutRow.holds Tryz.pinned (OpenSpec.ofChange letterOutSpec)

/-- ITS FALSE NEIGHBOUR: 'it returns false'. Refute it at one input. -/
def letterOutWrong : ChangeSpec := { name := "letterOut", fn := fun _ => fun
  | [d1, d2, d3] => { results := [.lit (.bool false)], args := [d1, d2, d3] }
  | _ => none }
def LetterOutWrongFalsely : Prop := letterOutRow.holds Tryz.pinned (OpenSpec.ofChange letterOutWrong)

/-- 'smaltolaw04.LetterBroken': WHATEVER THE INPUT: true; the input reads as it did. -/
def letterBrokenSpec : ChangeSpec := { name := "letterBroken", fn := fun _ => fun
  | [d1, d2, d3] => { results := [.lit (.bool true)], args := [d1, d2, d3] }
  | _ => none }
def letterBrokenRow : OpenClaim := { program := "ytaekibilldjnmaagreat", sum := "449ec8121ebeef608f47f7a42897390deaa83ac42a97a3e446cd9d55bb1ac8df", func := "smalto/smaltolaw04.LetterBroken", spec := "letterBroken", unfollowed := true, recurses := true, plainKeys := false, apart := false }
def LetterBrokenSaid : Prop := letterBrokenRow.holds Tryz.pinned (OpenSpec.ofChange letterBrokenSpec)

/-- ITS FALSE NEIGHBOUR: 'it returns false'. Refute it at one input. -/
def letterBrokenWrong : ChangeSpec := { name := "letterBroken", fn := fun _ => fun
  | [d1, d2, d3] => { results := [.lit (.bool false)], args := [d1, d2, d3] }
  | _ => none }
def LetterBrokenWrongFalsely : Prop := letterBrokenRow.holds Tryz.pinned (OpenSpec.ofChange letterBrokenWrong)

/-- 'smaltolaw04.LetterPlates': WHATEVER THE INPUT: true; the input reads as it did. -/
def letterPlatesSpec : ChangeSpec := { name := "letterPlates", fn := fun _ => fun
  | [d1, d2, d3] => { results := [.lit (.bool true)], args := [d1, d2, d3] }
  | _ => none }
def letterPlatesRow : OpenClaim := { program := "ytaekibilldjnmaagreat", sum := "449ec8121ebeef608f47f7a42897390deaa83ac42a97a3e446cd9d55bb1ac8df", func := "smalto/smaltolaw04.LetterPlates", spec := "letterPlates", unfollowed := true, recurses := true, plainKeys := false, apart := false }
def LetterPlatesSaid : Prop := letterPlatesRow.holds Tryz.pinned (OpenSpec.ofChange letterPlatesSpec)

/-- ITS FALSE NEIGHBOUR: 'it returns false'. Refute it at one input. -/
def letterPlatesWrong : ChangeSpec := { name := "letterPlates", fn := fun _ => fun
  | [d1, d2, d3] => { results := [.lit (.bool false)], args := [d1, d2, d3] }
  | _ => none }
def LetterPlatesWrongFalsely : Prop := letterPlatesRow.holds Tryz.pinned (OpenSpec.ofChange letterPlatesWrong)

/-- 'smaltolaw04.LetterChanged': WHATEVER THE INPUT: true; the input reads as it did. -/
def letterChangedSpec : ChangeSpec := { name := "letterChanged", fn := fun _ => fun
  | [d1, d2, d3] => { results := [.lit (.bool true)], args := [d1, d2, d3] }
  | _ => none }
def letterChangedRow : OpenClaim := { program := "ytaekibilldjnmaagreat", sum := "449ec8121ebeef608f47f7a42897390deaa83ac42a97a3e446cd9d55bb1ac8df", func := "smalto/smaltolaw04.LetterChanged", spec := "letterChanged", unfollowed := true, recurses := true, plainKeys := false, apart := false }
def LetterChangedSaid : Prop := letterChangedRow.holds Tryz.pinned (OpenSpec.ofChange letterChangedSpec)

/-- ITS FALSE NEIGHBOUR: 'it returns false'. Refute it at one input. -/
def letterChangedWrong : ChangeSpec := { name := "letterChanged", fn := fun _ => fun
  | [d1, d2, d3] => { results := [.lit (.bool false)], args := [d1, d2, d3] }
  | _ => none }
def LetterChangedWrongFalsely : Prop := letterChangedRow.holds Tryz.pinned (OpenSpec.ofChange letterChangedWrong)

/- THE SECOND FORM. 'bulk': how many values and letters a reading holds, each counted each time it is reached (what is shared counts as often as it is met; a slice's spare places count too). A statement '..UptoSaid' is the law's where the arguments, and the package variables that the reading takes, are together of bulk at most 1048576: NARROWER than '..Said'. Prove '..Said' where nothing that the law and all that it calls make is longer than what came in: it says more and counts as full. Else prove '..UptoSaid'. A law counts once. -/
mutual
def uptoBulk {H : Type} : DataW H → Nat
  | .lit (.string bytes) => bytes.length + 1
  | .lit _ => 1
  | .nil => 1
  | .ptr d => uptoBulk d + 1
  | .slice elems spare => uptoBulkAll elems + uptoBulkAll spare + 1
  | .agg parts => uptoBulkAll parts + 1
  | .iface _ d => uptoBulk d + 1
  | .map entries => uptoBulkEntries entries + 1
  | .held _ => 1
def uptoBulkAll {H : Type} : List (DataW H) → Nat
  | [] => 0
  | d :: r => uptoBulk d + uptoBulkAll r
def uptoBulkEntries {H : Type} : List (Lit × DataW H) → Nat
  | [] => 0
  | x :: r => uptoBulkEntry x + uptoBulkEntries r
def uptoBulkEntry {H : Type} : Lit × DataW H → Nat
  | (.string bytes, d) => bytes.length + uptoBulk d + 1
  | (_, d) => uptoBulk d + 1
 end
def uptoSmall : (H : Type) → List (DataW H) → Bool := fun _ ds => decide (uptoBulkAll ds ≤ 1048576)
def OpenSpec.upto (s : _root_.Go.ChangeSpec) : _root_.Go.OpenSpec := { _root_.Go.OpenSpec.ofChange s with cond := some uptoSmall }

/-- 'smaltolaw04.LetterLaid', WHERE WHAT IT READS IS OF BULK AT MOST 1048576: true; the input reads as it did. -/
def letterLaidUptoRow : OpenClaim := { program := "ytaekibilldjnmaagreat", sum := "449ec8121ebeef608f47f7a42897390deaa83ac42a97a3e446cd9d55bb1ac8df", func := "smalto/smaltolaw04.LetterLaid", spec := "letterLaid", unfollowed := true, recurses := true, plainKeys := false, apart := false, narrowed := true }
def LetterLaidUptoSaid : Prop := letterLaidUptoRow.holds Tryz.pinned (OpenSpec.upto letterLaidSpec)

/-- 'smaltolaw04.LetterOut', WHERE WHAT IT READS IS OF BULK AT MOST 1048576: true; the input reads as it did. -/
def letterOutUptoRow : OpenClaim := { program := "ytaekibilldjnmaagreat", sum := "449ec8121ebeef608f47f7a42897390deaa83ac42a97a3e446cd9d55bb1ac8df", func := "smalto/smaltolaw04.LetterOut", spec := "letterOut", unfollowed := true, recurses := true, plainKeys := false, apart := false, narrowed := true }
def LetterOutUptoSaid : Prop := letterOutUptoRow.holds Tryz.pinned (OpenSpec.upto letterOutSpec)

/-- 'smaltolaw04.LetterBroken', WHERE WHAT IT READS IS OF BULK AT MOST 1048576: true; the input reads as it did. -/
def letterBrokenUptoRow : OpenClaim := { program := "ytaekibilldjnmaagreat", sum := "449ec8121ebeef608f47f7a42897390deaa83ac42a97a3e446cd9d55bb1ac8df", func := "smalto/smaltolaw04.LetterBroken", spec := "letterBroken", unfollowed := true, recurses := true, plainKeys := false, apart := false, narrowed := true }
def LetterBrokenUptoSaid : Prop := letterBrokenUptoRow.holds Tryz.pinned (OpenSpec.upto letterBrokenSpec)

/-- 'smaltolaw04.LetterPlates', WHERE WHAT IT READS IS OF BULK AT MOST 1048576: true; the input reads as it did. -/
def letterPlatesUptoRow : OpenClaim := { program := "ytaekibilldjnmaagreat", sum := "449ec8121ebeef608f47f7a42897390deaa83ac42a97a3e446cd9d55bb1ac8df", func := "smalto/smaltolaw04.LetterPlates", spec := "letterPlates", unfollowed := true, recurses := true, plainKeys := false, apart := false, narrowed := true }
def LetterPlatesUptoSaid : Prop := letterPlatesUptoRow.holds Tryz.pinned (OpenSpec.upto letterPlatesSpec)

/-- 'smaltolaw04.LetterChanged', WHERE WHAT IT READS IS OF BULK AT MOST 1048576: true; the input reads as it did. -/
def letterChangedUptoRow : OpenClaim := { program := "ytaekibilldjnmaagreat", sum := "449ec8121ebeef608f47f7a42897390deaa83ac42a97a3e446cd9d55bb1ac8df", func := "smalto/smaltolaw04.LetterChanged", spec := "letterChanged", unfollowed := true, recurses := true, plainKeys := false, apart := false, narrowed := true }
def LetterChangedUptoSaid : Prop := letterChangedUptoRow.holds Tryz.pinned (OpenSpec.upto letterChangedSpec)

end Rows
end Go.Proofs.YtaekibilldjnmaaGreat
