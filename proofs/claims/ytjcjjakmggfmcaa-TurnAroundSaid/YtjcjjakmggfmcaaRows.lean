/-
  No cell of these rows narrows 'for every input' (looked for: loops, veiled, ifaces, maps, wideKeys, modest, calm, conditions, laid).
  DERIVED. THE GIVEN ROWS OF THIS SEAT. 13 by the template 'for every input the law returns true; each argument reads behind the call as it read before'; 0 by the template 'total and deterministic' (their statements: YtjcjjakmggfmcaaTotals.lean).
  GIVEN WITH THE SEED: the statements are not yours to turn. If you find one false, say at which input.
  Laid BY PROGRAM, IN A SANDBOX (cutbox-rows.mjs): the forced cells as the released guide's own fill.sh prints them over the translation 41f976027affc70c… (all of the seat's roots in one cut). By AI agents, Wed Nov 11 2026. No macro, syntax, notation, axiom, sorry.
-/
import Derived.Test.YtjcjjakmggfmcaaChecked
import GoSem.Claim
import GoSem.ClaimJoined
import GoSem.ClaimMapViews
import Derived.JoinedTies
import Derived.KernelRfl
namespace Go.Proofs.Ytjcjjakmggfmcaa
/- THE CELL 'sum', in the pinned program and in every row, IS THE sha256 OF THE DUMP (.gsa) THAT YtjcjjakmggfmcaaProg.lean LOADS. Nothing in Lean hashes anything: it is a label: what it is worth is what the hold of that sum in a sandbox is worth. -/
noncomputable def Try.pinned : Pinned := { name := "ytjcjjakmggfmcaa", sum := "41f976027affc70caf54ac2a1e176dcc5c007d10abbe8e317b730d230f5de82d", checked := Try.checked }
namespace Rows
def none {H : Type} : Left H := { results := [], args := [] }

/-- 'trishawlaw01.TurnDeviates': WHATEVER THE INPUT: true; the input reads as it did. -/
def turnDeviatesSpec : ChangeSpec := { name := "turnDeviates", fn := fun _ => fun
  | [d1, d2] => { results := [.lit (.bool true)], args := [d1, d2] }
  | _ => none }
def turnDeviatesRow : OpenClaim := { program := "ytjcjjakmggfmcaa", sum := "41f976027affc70caf54ac2a1e176dcc5c007d10abbe8e317b730d230f5de82d", func := "trishaw/trishawlaw01.TurnDeviates", spec := "turnDeviates", unfollowed := true, recurses := true, apart := false }
def TurnDeviatesSaid : Prop := turnDeviatesRow.holds Try.pinned (OpenSpec.ofChange turnDeviatesSpec)

/-- ITS FALSE NEIGHBOUR: 'it returns false'. Refute it at one input. -/
def turnDeviatesWrong : ChangeSpec := { name := "turnDeviates", fn := fun _ => fun
  | [d1, d2] => { results := [.lit (.bool false)], args := [d1, d2] }
  | _ => none }
def TurnDeviatesWrongFalsely : Prop := turnDeviatesRow.holds Try.pinned (OpenSpec.ofChange turnDeviatesWrong)

/-- 'trishawlaw01.TurnCalls': WHATEVER THE INPUT: true; the input reads as it did. -/
def turnCallsSpec : ChangeSpec := { name := "turnCalls", fn := fun _ => fun
  | [d1, d2] => { results := [.lit (.bool true)], args := [d1, d2] }
  | _ => none }
def turnCallsRow : OpenClaim := { program := "ytjcjjakmggfmcaa", sum := "41f976027affc70caf54ac2a1e176dcc5c007d10abbe8e317b730d230f5de82d", func := "trishaw/trishawlaw01.TurnCalls", spec := "turnCalls", unfollowed := true, recurses := true, apart := false }
def TurnCallsSaid : Prop := turnCallsRow.holds Try.pinned (OpenSpec.ofChange turnCallsSpec)

/-- ITS FALSE NEIGHBOUR: 'it returns false'. Refute it at one input. -/
def turnCallsWrong : ChangeSpec := { name := "turnCalls", fn := fun _ => fun
  | [d1, d2] => { results := [.lit (.bool false)], args := [d1, d2] }
  | _ => none }
def TurnCallsWrongFalsely : Prop := turnCallsRow.holds Try.pinned (OpenSpec.ofChange turnCallsWrong)

/-- 'trishawlaw01.TurnWindows': WHATEVER THE INPUT: true; the input reads as it did. -/
def turnWindowsSpec : ChangeSpec := { name := "turnWindows", fn := fun _ => fun
  | [d1, d2] => { results := [.lit (.bool true)], args := [d1, d2] }
  | _ => none }
def turnWindowsRow : OpenClaim := { program := "ytjcjjakmggfmcaa", sum := "41f976027affc70caf54ac2a1e176dcc5c007d10abbe8e317b730d230f5de82d", func := "trishaw/trishawlaw01.TurnWindows", spec := "turnWindows", unfollowed := true, recurses := true, apart := false }
def TurnWindowsSaid : Prop := turnWindowsRow.holds Try.pinned (OpenSpec.ofChange turnWindowsSpec)

/-- ITS FALSE NEIGHBOUR: 'it returns false'. Refute it at one input. -/
def turnWindowsWrong : ChangeSpec := { name := "turnWindows", fn := fun _ => fun
  | [d1, d2] => { results := [.lit (.bool false)], args := [d1, d2] }
  | _ => none }
def TurnWindowsWrongFalsely : Prop := turnWindowsRow.holds Try.pinned (OpenSpec.ofChange turnWindowsWrong)

/-- 'trishawlaw01.TurnRounds': WHATEVER THE INPUT: true; the input reads as it did. -/
def turnRoundsSpec : ChangeSpec := { name := "turnRounds", fn := fun _ => fun
  | [d] => { results := [.lit (.bool true)], args := [d] }
  | _ => none }
def turnRoundsRow : OpenClaim := { program := "ytjcjjakmggfmcaa", sum := "41f976027affc70caf54ac2a1e176dcc5c007d10abbe8e317b730d230f5de82d", func := "trishaw/trishawlaw01.TurnRounds", spec := "turnRounds", unfollowed := true, recurses := true, apart := false }
def TurnRoundsSaid : Prop := turnRoundsRow.holds Try.pinned (OpenSpec.ofChange turnRoundsSpec)

/-- ITS FALSE NEIGHBOUR: 'it returns false'. Refute it at one input. -/
def turnRoundsWrong : ChangeSpec := { name := "turnRounds", fn := fun _ => fun
  | [d] => { results := [.lit (.bool false)], args := [d] }
  | _ => none }
def TurnRoundsWrongFalsely : Prop := turnRoundsRow.holds Try.pinned (OpenSpec.ofChange turnRoundsWrong)

/-- 'trishawlaw01.TurnMerges': WHATEVER THE INPUT: true; the input reads as it did. -/
def turnMergesSpec : ChangeSpec := { name := "turnMerges", fn := fun _ => fun
  | [d1, d2, d3] => { results := [.lit (.bool true)], args := [d1, d2, d3] }
  | _ => none }
def turnMergesRow : OpenClaim := { program := "ytjcjjakmggfmcaa", sum := "41f976027affc70caf54ac2a1e176dcc5c007d10abbe8e317b730d230f5de82d", func := "trishaw/trishawlaw01.TurnMerges", spec := "turnMerges", unfollowed := true, recurses := true, apart := false }
def TurnMergesSaid : Prop := turnMergesRow.holds Try.pinned (OpenSpec.ofChange turnMergesSpec)

/-- ITS FALSE NEIGHBOUR: 'it returns false'. Refute it at one input. -/
def turnMergesWrong : ChangeSpec := { name := "turnMerges", fn := fun _ => fun
  | [d1, d2, d3] => { results := [.lit (.bool false)], args := [d1, d2, d3] }
  | _ => none }
def TurnMergesWrongFalsely : Prop := turnMergesRow.holds Try.pinned (OpenSpec.ofChange turnMergesWrong)

/-- 'trishawlaw01.TurnTijdeman': WHATEVER THE INPUT: true; the input reads as it did. -/
def turnTijdemanSpec : ChangeSpec := { name := "turnTijdeman", fn := fun _ => fun
  | [d1, d2] => { results := [.lit (.bool true)], args := [d1, d2] }
  | _ => none }
def turnTijdemanRow : OpenClaim := { program := "ytjcjjakmggfmcaa", sum := "41f976027affc70caf54ac2a1e176dcc5c007d10abbe8e317b730d230f5de82d", func := "trishaw/trishawlaw01.TurnTijdeman", spec := "turnTijdeman", unfollowed := true, recurses := true, apart := false }
def TurnTijdemanSaid : Prop := turnTijdemanRow.holds Try.pinned (OpenSpec.ofChange turnTijdemanSpec)

/-- ITS FALSE NEIGHBOUR: 'it returns false'. Refute it at one input. -/
def turnTijdemanWrong : ChangeSpec := { name := "turnTijdeman", fn := fun _ => fun
  | [d1, d2] => { results := [.lit (.bool false)], args := [d1, d2] }
  | _ => none }
def TurnTijdemanWrongFalsely : Prop := turnTijdemanRow.holds Try.pinned (OpenSpec.ofChange turnTijdemanWrong)

/-- 'trishawlaw01.TurnAround': WHATEVER THE INPUT: true; the input reads as it did. -/
def turnAroundSpec : ChangeSpec := { name := "turnAround", fn := fun _ => fun
  | [d1, d2] => { results := [.lit (.bool true)], args := [d1, d2] }
  | _ => none }
def turnAroundRow : OpenClaim := { program := "ytjcjjakmggfmcaa", sum := "41f976027affc70caf54ac2a1e176dcc5c007d10abbe8e317b730d230f5de82d", func := "trishaw/trishawlaw01.TurnAround", spec := "turnAround", unfollowed := true, recurses := true, apart := false }
def TurnAroundSaid : Prop := turnAroundRow.holds Try.pinned (OpenSpec.ofChange turnAroundSpec)

/-- ITS FALSE NEIGHBOUR: 'it returns false'. Refute it at one input. -/
def turnAroundWrong : ChangeSpec := { name := "turnAround", fn := fun _ => fun
  | [d1, d2] => { results := [.lit (.bool false)], args := [d1, d2] }
  | _ => none }
def TurnAroundWrongFalsely : Prop := turnAroundRow.holds Try.pinned (OpenSpec.ofChange turnAroundWrong)

/-- 'trishawlaw01.TurnInside': WHATEVER THE INPUT: true; the input reads as it did. -/
def turnInsideSpec : ChangeSpec := { name := "turnInside", fn := fun _ => fun
  | [d1, d2, d3, d4] => { results := [.lit (.bool true)], args := [d1, d2, d3, d4] }
  | _ => none }
def turnInsideRow : OpenClaim := { program := "ytjcjjakmggfmcaa", sum := "41f976027affc70caf54ac2a1e176dcc5c007d10abbe8e317b730d230f5de82d", func := "trishaw/trishawlaw01.TurnInside", spec := "turnInside", unfollowed := true, recurses := true, apart := false }
def TurnInsideSaid : Prop := turnInsideRow.holds Try.pinned (OpenSpec.ofChange turnInsideSpec)

/-- ITS FALSE NEIGHBOUR: 'it returns false'. Refute it at one input. -/
def turnInsideWrong : ChangeSpec := { name := "turnInside", fn := fun _ => fun
  | [d1, d2, d3, d4] => { results := [.lit (.bool false)], args := [d1, d2, d3, d4] }
  | _ => none }
def TurnInsideWrongFalsely : Prop := turnInsideRow.holds Try.pinned (OpenSpec.ofChange turnInsideWrong)

/-- 'trishawlaw01.TurnLeast': WHATEVER THE INPUT: true; the input reads as it did. -/
def turnLeastSpec : ChangeSpec := { name := "turnLeast", fn := fun _ => fun
  | [d] => { results := [.lit (.bool true)], args := [d] }
  | _ => none }
def turnLeastRow : OpenClaim := { program := "ytjcjjakmggfmcaa", sum := "41f976027affc70caf54ac2a1e176dcc5c007d10abbe8e317b730d230f5de82d", func := "trishaw/trishawlaw01.TurnLeast", spec := "turnLeast", unfollowed := true, recurses := true, apart := false }
def TurnLeastSaid : Prop := turnLeastRow.holds Try.pinned (OpenSpec.ofChange turnLeastSpec)

/-- ITS FALSE NEIGHBOUR: 'it returns false'. Refute it at one input. -/
def turnLeastWrong : ChangeSpec := { name := "turnLeast", fn := fun _ => fun
  | [d] => { results := [.lit (.bool false)], args := [d] }
  | _ => none }
def TurnLeastWrongFalsely : Prop := turnLeastRow.holds Try.pinned (OpenSpec.ofChange turnLeastWrong)

/-- 'trishawlaw01.TurnTried': WHATEVER THE INPUT: true; the input reads as it did. -/
def turnTriedSpec : ChangeSpec := { name := "turnTried", fn := fun _ => fun
  | [d1, d2] => { results := [.lit (.bool true)], args := [d1, d2] }
  | _ => none }
def turnTriedRow : OpenClaim := { program := "ytjcjjakmggfmcaa", sum := "41f976027affc70caf54ac2a1e176dcc5c007d10abbe8e317b730d230f5de82d", func := "trishaw/trishawlaw01.TurnTried", spec := "turnTried", unfollowed := true, recurses := true, apart := false }
def TurnTriedSaid : Prop := turnTriedRow.holds Try.pinned (OpenSpec.ofChange turnTriedSpec)

/-- ITS FALSE NEIGHBOUR: 'it returns false'. Refute it at one input. -/
def turnTriedWrong : ChangeSpec := { name := "turnTried", fn := fun _ => fun
  | [d1, d2] => { results := [.lit (.bool false)], args := [d1, d2] }
  | _ => none }
def TurnTriedWrongFalsely : Prop := turnTriedRow.holds Try.pinned (OpenSpec.ofChange turnTriedWrong)

/-- 'trishawlaw01.TurnMerged': WHATEVER THE INPUT: true; the input reads as it did. -/
def turnMergedSpec : ChangeSpec := { name := "turnMerged", fn := fun _ => fun
  | [d1, d2, d3, d4] => { results := [.lit (.bool true)], args := [d1, d2, d3, d4] }
  | _ => none }
def turnMergedRow : OpenClaim := { program := "ytjcjjakmggfmcaa", sum := "41f976027affc70caf54ac2a1e176dcc5c007d10abbe8e317b730d230f5de82d", func := "trishaw/trishawlaw01.TurnMerged", spec := "turnMerged", unfollowed := true, recurses := true, apart := false }
def TurnMergedSaid : Prop := turnMergedRow.holds Try.pinned (OpenSpec.ofChange turnMergedSpec)

/-- ITS FALSE NEIGHBOUR: 'it returns false'. Refute it at one input. -/
def turnMergedWrong : ChangeSpec := { name := "turnMerged", fn := fun _ => fun
  | [d1, d2, d3, d4] => { results := [.lit (.bool false)], args := [d1, d2, d3, d4] }
  | _ => none }
def TurnMergedWrongFalsely : Prop := turnMergedRow.holds Try.pinned (OpenSpec.ofChange turnMergedWrong)

/-- 'trishawlaw01.TurnRenumbered': WHATEVER THE INPUT: true; the input reads as it did. -/
def turnRenumberedSpec : ChangeSpec := { name := "turnRenumbered", fn := fun _ => fun
  | [d1, d2, d3] => { results := [.lit (.bool true)], args := [d1, d2, d3] }
  | _ => none }
def turnRenumberedRow : OpenClaim := { program := "ytjcjjakmggfmcaa", sum := "41f976027affc70caf54ac2a1e176dcc5c007d10abbe8e317b730d230f5de82d", func := "trishaw/trishawlaw01.TurnRenumbered", spec := "turnRenumbered", unfollowed := true, recurses := true, apart := false }
def TurnRenumberedSaid : Prop := turnRenumberedRow.holds Try.pinned (OpenSpec.ofChange turnRenumberedSpec)

/-- ITS FALSE NEIGHBOUR: 'it returns false'. Refute it at one input. -/
def turnRenumberedWrong : ChangeSpec := { name := "turnRenumbered", fn := fun _ => fun
  | [d1, d2, d3] => { results := [.lit (.bool false)], args := [d1, d2, d3] }
  | _ => none }
def TurnRenumberedWrongFalsely : Prop := turnRenumberedRow.holds Try.pinned (OpenSpec.ofChange turnRenumberedWrong)

/-- 'trishawlaw01.TurnLags': WHATEVER THE INPUT: true; the input reads as it did. -/
def turnLagsSpec : ChangeSpec := { name := "turnLags", fn := fun _ => fun
  | [d1, d2] => { results := [.lit (.bool true)], args := [d1, d2] }
  | _ => none }
def turnLagsRow : OpenClaim := { program := "ytjcjjakmggfmcaa", sum := "41f976027affc70caf54ac2a1e176dcc5c007d10abbe8e317b730d230f5de82d", func := "trishaw/trishawlaw01.TurnLags", spec := "turnLags", unfollowed := true, recurses := true, apart := false }
def TurnLagsSaid : Prop := turnLagsRow.holds Try.pinned (OpenSpec.ofChange turnLagsSpec)

/-- ITS FALSE NEIGHBOUR: 'it returns false'. Refute it at one input. -/
def turnLagsWrong : ChangeSpec := { name := "turnLags", fn := fun _ => fun
  | [d1, d2] => { results := [.lit (.bool false)], args := [d1, d2] }
  | _ => none }
def TurnLagsWrongFalsely : Prop := turnLagsRow.holds Try.pinned (OpenSpec.ofChange turnLagsWrong)

/- THE SECOND FORM. 'bulk': how many values and letters a reading holds, each counted each time it is reached (what is shared counts as often as it is met; a slice's spare places count too). A statement '..UptoSaid' is the law's where the arguments, and the package variables that the reading takes, are together of bulk at most 1048576: NARROWER than '..Said'. Prove '..Said' where nothing that the law and all that it calls make is longer than what came in: it says more and counts as full. Else prove '..UptoSaid'. A law counts once. -/
mutual
def uptoBulk {H : Type} : DataW H → Nat
  | .lit (.string bytes) => bytes.length + 1
  | .lit _ => 1
  | .nil => 1
  | .ptr d => uptoBulk d + 1
  | .slice elems spare => uptoBulkAll elems + uptoBulkAll spare + 1
  | .agg parts => uptoBulkAll parts + 1
  | .iface _ d => uptoBulk d + 1
  | .map entries => uptoBulkEntries entries + 1
  | .held _ => 1
def uptoBulkAll {H : Type} : List (DataW H) → Nat
  | [] => 0
  | d :: r => uptoBulk d + uptoBulkAll r
def uptoBulkEntries {H : Type} : List (Lit × DataW H) → Nat
  | [] => 0
  | x :: r => uptoBulkEntry x + uptoBulkEntries r
def uptoBulkEntry {H : Type} : Lit × DataW H → Nat
  | (.string bytes, d) => bytes.length + uptoBulk d + 1
  | (_, d) => uptoBulk d + 1
 end
def uptoSmall : (H : Type) → List (DataW H) → Bool := fun _ ds => decide (uptoBulkAll ds ≤ 1048576)
def OpenSpec.upto (s : _root_.Go.ChangeSpec) : _root_.Go.OpenSpec := { _root_.Go.OpenSpec.ofChange s with cond := some uptoSmall }

/-- 'trishawlaw01.TurnDeviates', WHERE WHAT IT READS IS OF BULK AT MOST 1048576: true; the input reads as it did. -/
def turnDeviatesUptoRow : OpenClaim := { program := "ytjcjjakmggfmcaa", sum := "41f976027affc70caf54ac2a1e176dcc5c007d10abbe8e317b730d230f5de82d", func := "trishaw/trishawlaw01.TurnDeviates", spec := "turnDeviates", unfollowed := true, recurses := true, apart := false, narrowed := true }
def TurnDeviatesUptoSaid : Prop := turnDeviatesUptoRow.holds Try.pinned (OpenSpec.upto turnDeviatesSpec)

/-- 'trishawlaw01.TurnCalls', WHERE WHAT IT READS IS OF BULK AT MOST 1048576: true; the input reads as it did. -/
def turnCallsUptoRow : OpenClaim := { program := "ytjcjjakmggfmcaa", sum := "41f976027affc70caf54ac2a1e176dcc5c007d10abbe8e317b730d230f5de82d", func := "trishaw/trishawlaw01.TurnCalls", spec := "turnCalls", unfollowed := true, recurses := true, apart := false, narrowed := true }
def TurnCallsUptoSaid : Prop := turnCallsUptoRow.holds Try.pinned (OpenSpec.upto turnCallsSpec)

/-- 'trishawlaw01.TurnWindows', WHERE WHAT IT READS IS OF BULK AT MOST 1048576: true; the input reads as it did. -/
def turnWindowsUptoRow : OpenClaim := { program := "ytjcjjakmggfmcaa", sum := "41f976027affc70caf54ac2a1e176dcc5c007d10abbe8e317b730d230f5de82d", func := "trishaw/trishawlaw01.TurnWindows", spec := "turnWindows", unfollowed := true, recurses := true, apart := false, narrowed := true }
def TurnWindowsUptoSaid : Prop := turnWindowsUptoRow.holds Try.pinned (OpenSpec.upto turnWindowsSpec)

/-- 'trishawlaw01.TurnRounds', WHERE WHAT IT READS IS OF BULK AT MOST 1048576: true; the input reads as it did. -/
def turnRoundsUptoRow : OpenClaim := { program := "ytjcjjakmggfmcaa", sum := "41f976027affc70caf54ac2a1e176dcc5c007d10abbe8e317b730d230f5de82d", func := "trishaw/trishawlaw01.TurnRounds", spec := "turnRounds", unfollowed := true, recurses := true, apart := false, narrowed := true }
def TurnRoundsUptoSaid : Prop := turnRoundsUptoRow.holds Try.pinned (OpenSpec.upto turnRoundsSpec)

/-- 'trishawlaw01.TurnMerges', WHERE WHAT IT READS IS OF BULK AT MOST 1048576: true; the input reads as it did. -/
def turnMergesUptoRow : OpenClaim := { program := "ytjcjjakmggfmcaa", sum := "41f976027affc70caf54ac2a1e176dcc5c007d10abbe8e317b730d230f5de82d", func := "trishaw/trishawlaw01.TurnMerges", spec := "turnMerges", unfollowed := true, recurses := true, apart := false, narrowed := true }
def TurnMergesUptoSaid : Prop := turnMergesUptoRow.holds Try.pinned (OpenSpec.upto turnMergesSpec)

/-- 'trishawlaw01.TurnTijdeman', WHERE WHAT IT READS IS OF BULK AT MOST 1048576: true; the input reads as it did. -/
def turnTijdemanUptoRow : OpenClaim := { program := "ytjcjjakmggfmcaa", sum := "41f976027affc70caf54ac2a1e176dcc5c007d10abbe8e317b730d230f5de82d", func := "trishaw/trishawlaw01.TurnTijdeman", spec := "turnTijdeman", unfollowed := true, recurses := true, apart := false, narrowed := true }
def TurnTijdemanUptoSaid : Prop := turnTijdemanUptoRow.holds Try.pinned (OpenSpec.upto turnTijdemanSpec)

/-- 'trishawlaw01.TurnAround', WHERE WHAT IT READS IS OF BULK AT MOST 1048576: true; the input reads as it did. -/
def turnAroundUptoRow : OpenClaim := { program := "ytjcjjakmggfmcaa", sum := "41f976027affc70caf54ac2a1e176dcc5c007d10abbe8e317b730d230f5de82d", func := "trishaw/trishawlaw01.TurnAround", spec := "turnAround", unfollowed := true, recurses := true, apart := false, narrowed := true }
def TurnAroundUptoSaid : Prop := turnAroundUptoRow.holds Try.pinned (OpenSpec.upto turnAroundSpec)

/-- 'trishawlaw01.TurnInside', WHERE WHAT IT READS IS OF BULK AT MOST 1048576: true; the input reads as it did. -/
def turnInsideUptoRow : OpenClaim := { program := "ytjcjjakmggfmcaa", sum := "41f976027affc70caf54ac2a1e176dcc5c007d10abbe8e317b730d230f5de82d", func := "trishaw/trishawlaw01.TurnInside", spec := "turnInside", unfollowed := true, recurses := true, apart := false, narrowed := true }
def TurnInsideUptoSaid : Prop := turnInsideUptoRow.holds Try.pinned (OpenSpec.upto turnInsideSpec)

/-- 'trishawlaw01.TurnLeast', WHERE WHAT IT READS IS OF BULK AT MOST 1048576: true; the input reads as it did. -/
def turnLeastUptoRow : OpenClaim := { program := "ytjcjjakmggfmcaa", sum := "41f976027affc70caf54ac2a1e176dcc5c007d10abbe8e317b730d230f5de82d", func := "trishaw/trishawlaw01.TurnLeast", spec := "turnLeast", unfollowed := true, recurses := true, apart := false, narrowed := true }
def TurnLeastUptoSaid : Prop := turnLeastUptoRow.holds Try.pinned (OpenSpec.upto turnLeastSpec)

/-- 'trishawlaw01.TurnTried', WHERE WHAT IT READS IS OF BULK AT MOST 1048576: true; the input reads as it did. -/
def turnTriedUptoRow : OpenClaim := { program := "ytjcjjakmggfmcaa", sum := "41f976027affc70caf54ac2a1e176dcc5c007d10abbe8e317b730d230f5de82d", func := "trishaw/trishawlaw01.TurnTried", spec := "turnTried", unfollowed := true, recurses := true, apart := false, narrowed := true }
def TurnTriedUptoSaid : Prop := turnTriedUptoRow.holds Try.pinned (OpenSpec.upto turnTriedSpec)

/-- 'trishawlaw01.TurnMerged', WHERE WHAT IT READS IS OF BULK AT MOST 1048576: true; the input reads as it did. -/
def turnMergedUptoRow : OpenClaim := { program := "ytjcjjakmggfmcaa", sum := "41f976027affc70caf54ac2a1e176dcc5c007d10abbe8e317b730d230f5de82d", func := "trishaw/trishawlaw01.TurnMerged", spec := "turnMerged", unfollowed := true, recurses := true, apart := false, narrowed := true }
def TurnMergedUptoSaid : Prop := turnMergedUptoRow.holds Try.pinned (OpenSpec.upto turnMergedSpec)

/-- 'trishawlaw01.TurnRenumbered', WHERE WHAT IT READS IS OF BULK AT MOST 1048576: true; the input reads as it did. -/
def turnRenumberedUptoRow : OpenClaim := { program := "ytjcjjakmggfmcaa", sum := "41f976027affc70caf54ac2a1e176dcc5c007d10abbe8e317b730d230f5de82d", func := "trishaw/trishawlaw01.TurnRenumbered", spec := "turnRenumbered", unfollowed := true, recurses := true, apart := false, narrowed := true }
def TurnRenumberedUptoSaid : Prop := turnRenumberedUptoRow.holds Try.pinned (OpenSpec.upto turnRenumberedSpec)

/-- 'trishawlaw01.TurnLags', WHERE WHAT IT READS IS OF BULK AT MOST 1048576: true; the input reads as it did. -/
def turnLagsUptoRow : OpenClaim := { program := "ytjcjjakmggfmcaa", sum := "41f976027affc70caf54ac2a1e176dcc5c007d10abbe8e317b730d230f5de82d", func := "trishaw/trishawlaw01.TurnLags", spec := "turnLags", unfollowed := true, recurses := true, apart := false, narrowed := true }
def TurnLagsUptoSaid : Prop := turnLagsUptoRow.holds Try.pinned (OpenSpec.upto turnLagsSpec)

end Rows
end Go.Proofs.Ytjcjjakmggfmcaa
