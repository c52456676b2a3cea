/-
  CONTRACTS: lists, and what it yields; letters.
-/
import Derived.Test.YtnjojmjcjhcnaaaB4
namespace Go.Tri
open Go.Proofs

/-- The box of a number. -/
@[reducible] def boxI (h : Int) : Ob := ⟨3, 1, 0, .one [.int h]⟩
theorem lists_cm (h : Int) (xs : List Int) (M : Mem) : ACM Try.prog 41 [.int h, .ints false xs] M (fun R M' => R = .clo 63 2 (fun i => ([V.ptr M.length 0 0 0, V.ptr (M.put M.length (boxI h)).length 0 0 0]).getD i .any) ∧ M' = (M.put M.length (boxI h)).put (M.put M.length (boxI h)).length (boxOb xs)) := by
  refine ACM_of (T := tab) (wr := wrL) tab_ok Try.func41 (by decide) rfl (Nat.le_of_ble_eq_true rfl) (fun nb => ?_)
  conv => whnf
  rw [forceNP_eq]
  conv => whnf
  rw [forceM_eq]
  conv => whnf
  rw [forceNP_eq]
  conv => whnf
  rw [forceM_eq]
  conv => whnf
  exact ⟨_, rfl, rfl, rfl⟩

/-- All that lists yields from lists of j stamps on. -/
def fromX (h j : Nat) (vals : List Int) : List (List Int × Int) := (List.range' j (h + 1 - j)).flatMap fun m => ext m [] 0 vals
def allX (h : Nat) (vals : List Int) : List (List Int × Int) := fromX h 0 vals
theorem fromX_step {h j : Nat} (hj : j < h + 1) (vals : List Int) : fromX h j vals = ext j [] 0 vals ++ fromX h (j + 1) vals := by
  unfold fromX
  rw [show h + 1 - j = (h + 1 - (j + 1)) + 1 from by omega, List.range'_succ, List.flatMap_cons]
theorem fromX_end {h j : Nat} (hj : ¬ j < h + 1) (vals : List Int) : fromX h j vals = [] := by
  unfold fromX
  rw [show h + 1 - j = 0 from by omega]
  rfl

section
variable {S : Type} {step : S → List Int → Int → S × Bool} {G : Nat → S → Prop} {Pq : List Int → Int → Prop} {c0 c1 c4 : S → Ob}
/-- What lists$1 sees. -/
@[reducible] def spF (c0 c1 c4 : S → Ob) (s : S) (h : Int) (vals : List Int) (E : Mem) : Mem := some (c0 s) :: some (c1 s) :: some (boxI h) :: some (boxOb vals) :: some (c4 s) :: E

set_option maxRecDepth 100000 in
theorem lists1_cm (hB : BodyOk step G Pq c0 c1 c4) (h : Nat) (hh : 1 ≤ h ∧ h ≤ 6) (vals : List Int) (hv : ∀ x ∈ vals, 1 ≤ x ∧ x ≤ 200) (hvl : vals.length ≤ 1000) (s : S) (hG : G (allX h vals).length s) (hP : ∀ q ∈ allX h vals, Pq q.1 q.2) :
    ACM Try.prog 63 [.yld 4, .ptr 2 0 0 0, .ptr 3 0 0 0] (spF c0 c1 c4 s h vals []) (fun _ M' => ∃ ts, M' = spF c0 c1 c4 (foldU step (allX h vals) s).1 h vals [some (tkOb ts)]) := by
  refine ACM_of (T := tab) (wr := wrL) tab_ok Try.func63 (by decide) rfl (Nat.le_of_ble_eq_true rfl) (fun nb => ?_)
  conv => whnf
  refine ⟨(show (0 : Int) ≤ 0 by omega), ?_⟩
  conv => whnf
  refine ⟨(show (0 : Int) ≤ (h : Int) by omega), ?_⟩
  conv => whnf
  refine ⟨(show (8 : Int) * (h : Int) ≤ 140737488355328 by omega), ?_⟩
  conv => whnf
  refine ⟨inr (by omega), ?_⟩
  conv => whnf
  refine AW_loop (X := ⟨Try.prog, tab, wrL, 20, nb, false⟩) tab_ok [0, 1, 2, 4, 9, 10]
    (fun vs M => ∃ (j : Nat) (s1 : S) (ts1 : List Int), j ≤ h + 1 ∧ G (fromX h j vals).length s1 ∧ ts1.length = h ∧ foldU step (allX h vals) s = foldU step (fromX h j vals) s1 ∧
      vs = [.yld 4, .ptr 2 0 0 0, .ptr 3 0 0 0, .sl 5 0 0 0, .int ((h : Int) + 1), .int j] ∧ M = spF c0 c1 c4 s1 h vals [some (tkOb ts1)])
    (fun vs _ => h + 1 - (vs.getD 5 .any).toInt.toNat) ?_ ?_
  · exact ⟨0, s, List.replicate h 0, by omega, hG, by simp, rfl, rfl, rfl⟩
  rintro vs M ⟨j, s1, ts1, hj, hG1, hl1, hf1, rfl, rfl⟩
  conv => whnf
  refine br_dec (fun hlt => ?_) (fun hge => ?_)
  · have hj' : j < h + 1 := by omega
    rw [fromX_step hj'] at hG1 hf1
    rw [List.length_append] at hG1
    rw [foldU_append] at hf1
    have hgd := foldU_good hB.good _ (ext j [] 0 vals) s1 hG1
    have hfl := hB.flat s1
    have hnf := hB.nofr _ s1 hG1
    have IH := extend_cm hB j [] 0 vals ts1 s1 _ hG1 (by simp; omega) (by omega) (by omega) rfl hv (by omega) (by omega) hvl (fun q hq => hP q (by
      unfold allX fromX
      rw [List.mem_flatMap]
      exact ⟨j, by rw [List.mem_range']; exact ⟨j, by omega, by omega⟩, hq⟩))
    conv => whnf
    refine ACM.mono (ACM_frame K6 ?ha ?hx ?hxf ?hm ?hmf (by exact IH)) ?hpost
    case ha => exact fun t h => K6_lt h
    case hx => exact ⟨rfl, trivial, trivial, trivial, rfl, trivial⟩
    case hxf => exact ⟨trivial, trivial, trivial, rfl, trivial, trivial⟩
    case hm => exact (show NamedM K6 (sp c0 c1 c4 s1 ts1 []) from ⟨hfl.1.named, hfl.2.1.named, hfl.2.2.named, trivial, trivial⟩)
    case hmf => exact (show NoFrM (sp c0 c1 c4 s1 ts1 []) from ⟨hnf.1, hnf.2.1, hnf.2.2, trivial, trivial⟩)
    case hpost =>
      rintro R M'' ⟨M1, ⟨ts3, hl3, ht3, rfl, rfl⟩, rfl⟩
      generalize foldU step (ext j [] 0 vals) s1 = q at hf1 hgd
      obtain ⟨s2, b⟩ := q
      cases b with
      | true =>
        simp only [if_true] at hf1
        conv => whnf
        refine ⟨inr (by omega), ?_⟩
        conv => whnf
        refine ⟨⟨j + 1, s2, ts3, by omega, hgd rfl, by omega, hf1, rfl, rfl⟩, ?_⟩
        simp [V.toInt, sel, Env.get]; omega
      | false =>
        simp only [Bool.false_eq_true, if_false] at hf1
        conv => whnf
        exact ⟨_, rfl, ts3, by rw [hf1]; rfl⟩
  · conv => whnf
    refine ⟨_, rfl, ts1, ?_⟩
    rw [hf1, fromX_end (by omega)]
    rfl
end
end Go.Tri
