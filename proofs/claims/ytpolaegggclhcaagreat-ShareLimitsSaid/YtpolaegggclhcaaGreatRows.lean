/-
  No cell of these rows narrows 'for every input' (looked for: loops, veiled, ifaces, maps, wideKeys, modest, calm, conditions, laid).
  DERIVED. THE GIVEN ROWS OF THIS SEAT. 2 by the template 'for every input the law returns true; each argument reads behind the call as it read before'; 0 by the template 'total and deterministic' (their statements: YtpolaegggclhcaaGreatTotals.lean).
  GIVEN WITH THE SEED: the statements are not yours to turn. If you find one false, say at which input.
  Laid BY PROGRAM, IN A SANDBOX (cutbox-rows.mjs): the forced cells as the released guide's own fill.sh prints them over the translation 56f61467928a5ad3… (all of the seat's roots in one cut). By AI agents, Wed Nov 11 2026. No macro, syntax, notation, axiom, sorry.
-/
import Derived.Test.YtpolaegggclhcaaGreatChecked
import GoSem.Claim
import GoSem.ClaimJoined
import GoSem.ClaimMapViews
import Derived.JoinedTies
import Derived.KernelRfl
namespace Go.Proofs.YtpolaegggclhcaaGreat
/- THE CELL 'sum', in the pinned program and in every row, IS THE sha256 OF THE DUMP (.gsa) THAT YtpolaegggclhcaaGreatProg.lean LOADS. Nothing in Lean hashes anything: it is a label: what it is worth is what the hold of that sum in a sandbox is worth. -/
noncomputable def Tryz.pinned : Pinned := { name := "ytpolaegggclhcaagreat", sum := "56f61467928a5ad320ee214c0a42a67bb8b97cc8c029f72188dc69929c28b6d5", checked := Tryz.checked }
namespace Rows
def none {H : Type} : Left H := { results := [], args := [] }

/-- 'trishawlaw08.ShareEnvies': WHATEVER THE INPUT: true; the input reads as it did. -/
def shareEnviesSpec : ChangeSpec := { name := "shareEnvies", fn := fun _ => fun
  | [d1, d2, d3] => { results := [.lit (.bool true)], args := [d1, d2, d3] }
  | _ => none }
def shareEnviesRow : OpenClaim := { program := "ytpolaegggclhcaagreat", sum := "56f61467928a5ad320ee214c0a42a67bb8b97cc8c029f72188dc69929c28b6d5", func := "trishaw/trishawlaw08.ShareEnvies", spec := "shareEnvies", unfollowed := true, recurses := true, apart := false }
def ShareEnviesSaid : Prop := shareEnviesRow.holds Tryz.pinned (OpenSpec.ofChange shareEnviesSpec)

/-- ITS FALSE NEIGHBOUR: 'it returns false'. Refute it at one input. -/
def shareEnviesWrong : ChangeSpec := { name := "shareEnvies", fn := fun _ => fun
  | [d1, d2, d3] => { results := [.lit (.bool false)], args := [d1, d2, d3] }
  | _ => none }
def ShareEnviesWrongFalsely : Prop := shareEnviesRow.holds Tryz.pinned (OpenSpec.ofChange shareEnviesWrong)

/-- 'trishawlaw08.ShareLimits': WHATEVER THE INPUT: true; the input reads as it did. -/
def shareLimitsSpec : ChangeSpec := { name := "shareLimits", fn := fun _ => fun
  | [d1, d2, d3] => { results := [.lit (.bool true)], args := [d1, d2, d3] }
  | _ => none }
def shareLimitsRow : OpenClaim := { program := "ytpolaegggclhcaagreat", sum := "56f61467928a5ad320ee214c0a42a67bb8b97cc8c029f72188dc69929c28b6d5", func := "trishaw/trishawlaw08.ShareLimits", spec := "shareLimits", unfollowed := true, recurses := true, apart := false }
def ShareLimitsSaid : Prop := shareLimitsRow.holds Tryz.pinned (OpenSpec.ofChange shareLimitsSpec)

/-- ITS FALSE NEIGHBOUR: 'it returns false'. Refute it at one input. -/
def shareLimitsWrong : ChangeSpec := { name := "shareLimits", fn := fun _ => fun
  | [d1, d2, d3] => { results := [.lit (.bool false)], args := [d1, d2, d3] }
  | _ => none }
def ShareLimitsWrongFalsely : Prop := shareLimitsRow.holds Tryz.pinned (OpenSpec.ofChange shareLimitsWrong)

/- THE SECOND FORM. 'bulk': how many values and letters a reading holds, each counted each time it is reached (what is shared counts as often as it is met; a slice's spare places count too). A statement '..UptoSaid' is the law's where the arguments, and the package variables that the reading takes, are together of bulk at most 1048576: NARROWER than '..Said'. Prove '..Said' where nothing that the law and all that it calls make is longer than what came in: it says more and counts as full. Else prove '..UptoSaid'. A law counts once. -/
mutual
def uptoBulk {H : Type} : DataW H → Nat
  | .lit (.string bytes) => bytes.length + 1
  | .lit _ => 1
  | .nil => 1
  | .ptr d => uptoBulk d + 1
  | .slice elems spare => uptoBulkAll elems + uptoBulkAll spare + 1
  | .agg parts => uptoBulkAll parts + 1
  | .iface _ d => uptoBulk d + 1
  | .map entries => uptoBulkEntries entries + 1
  | .held _ => 1
def uptoBulkAll {H : Type} : List (DataW H) → Nat
  | [] => 0
  | d :: r => uptoBulk d + uptoBulkAll r
def uptoBulkEntries {H : Type} : List (Lit × DataW H) → Nat
  | [] => 0
  | x :: r => uptoBulkEntry x + uptoBulkEntries r
def uptoBulkEntry {H : Type} : Lit × DataW H → Nat
  | (.string bytes, d) => bytes.length + uptoBulk d + 1
  | (_, d) => uptoBulk d + 1
 end
def uptoSmall : (H : Type) → List (DataW H) → Bool := fun _ ds => decide (uptoBulkAll ds ≤ 1048576)
def OpenSpec.upto (s : _root_.Go.ChangeSpec) : _root_.Go.OpenSpec := { _root_.Go.OpenSpec.ofChange s with cond := some uptoSmall }

/-- 'trishawlaw08.ShareEnvies', WHERE WHAT IT READS IS OF BULK AT MOST 1048576: true; the input reads as it did. -/
def shareEnviesUptoRow : OpenClaim := { program := "ytpolaegggclhcaagreat", sum := "56f61467928a5ad320ee214c0a42a67bb8b97cc8c029f72188dc69929c28b6d5", func := "trishaw/trishawlaw08.ShareEnvies", spec := "shareEnvies", unfollowed := true, recurses := true, apart := false, narrowed := true }
def ShareEnviesUptoSaid : Prop := shareEnviesUptoRow.holds Tryz.pinned (OpenSpec.upto shareEnviesSpec)

/-- 'trishawlaw08.ShareLimits', WHERE WHAT IT READS IS OF BULK AT MOST 1048576: true; the input reads as it did. -/
def shareLimitsUptoRow : OpenClaim := { program := "ytpolaegggclhcaagreat", sum := "56f61467928a5ad320ee214c0a42a67bb8b97cc8c029f72188dc69929c28b6d5", func := "trishaw/trishawlaw08.ShareLimits", spec := "shareLimits", unfollowed := true, recurses := true, apart := false, narrowed := true }
def ShareLimitsUptoSaid : Prop := shareLimitsUptoRow.holds Tryz.pinned (OpenSpec.upto shareLimitsSpec)

end Rows
end Go.Proofs.YtpolaegggclhcaaGreat
