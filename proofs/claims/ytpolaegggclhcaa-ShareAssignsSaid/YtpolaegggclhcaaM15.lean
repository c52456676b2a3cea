/-
 THE TABLE OF LEAST SUMS, AS IT IS HANDED OVER.
-/
import Derived.Test.YtpolaegggclhcaaM12
namespace Go.Tri
open Go.Proofs

@[reducible] noncomputable def drW (fr : Bool) (n : Nat) (W : Nat → List Int) : V := .seq fr 1 n fun j _ => .ints true (lsN n (drr n W j))
/-- What a call returns may be read as less. -/
theorem APure_sub {P : Program} {f : FuncId} {xs : List V} {r r' : V} (h : APure P f xs (fun R => R = r)) (hs : Sub r r') (hf : Fr r') : APure P f xs (fun R => R = r') := by
 unfold APure at h ⊢
 refine ⟨h.1, fun w args hsz ha => (h.2 w args hsz ha).mono ?_⟩
 rintro e w' ⟨v, R, he, rfl, _, hr, hev⟩
 exact ⟨v, r', he, rfl, hf, hs _ _ _ _ hr, hev⟩
end Go.Tri
