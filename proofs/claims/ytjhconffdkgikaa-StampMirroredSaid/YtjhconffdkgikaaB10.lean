/-
  CONTRACTS: Mirrored, the program's and the reference's.
-/
import Derived.Test.YtjhconffdkgikaaB3
namespace Go.Tri
open Go.Proofs

/-- The first j values of the mirror. -/
def mirP (v : List Int) : Nat → List Int
  | 0 => []
  | j + 1 => mirP v j ++ [lastV v - v.getD (v.length - 2 - j) 0]
theorem mirP_len (v : List Int) : ∀ j, (mirP v j).length = j := by
  intro j
  induction j with
  | zero => rfl
  | succ j ih => simp [mirP, ih]
def mirL (v : List Int) : List Int := mirP v (v.length - 1) ++ [lastV v]

theorem take_snoc_all (l : List Int) (x : Int) : (l ++ [x]).take (l.length + 1) = l ++ [x] := List.take_of_length_le (by simp)
/-- Twelve names and one that are not taken. -/
@[reducible] def nn13 (r : Mem) : Mem := none :: none :: none :: none :: none :: none :: none :: none :: none :: none :: none :: none :: none :: r
/-- A list that has been appended to, from nil on: nothing yet, or an object of the name 13. -/
def Out13 (l : List Int) (o : V) (R : Mem) : Prop := (l = [] ∧ o = .emp true ∧ R = []) ∨ ∃ ver, o = .sl 13 ver 0 l.length ∧ R = nn13 [some ⟨3, 1, ver, .il l⟩]
/-- The list so far: nothing yet, or an object of the name 5. -/
def OutM (l : List Int) (o : V) (R : Mem) : Prop := (l = [] ∧ o = .emp true ∧ R = []) ∨ ∃ ver y, o = .sl 5 ver 0 l.length ∧ R = [some ⟨3, 1, 0, .kil [y]⟩, some ⟨3, 1, ver, .il l⟩]

set_option maxRecDepth 100000 in
theorem Mirrored_pure (v : List Int) : APure Try.prog 34 [.ints false v] (fun R => R = tup2 (.ints true (if valsE v = 0 then mirL v else [])) (.int (valsE v))) := by
  refine APure_of (X := ⟨Try.prog, tab, wrL, 34, 0, false⟩) tab_ok rfl (rs := [(.tmp 2, 22), (.tmp 3, 24)]) Try.func34 (by decide) rfl rfl rfl (by simp) (by simp [NoFr]) ?_
  intro hlen
  conv => whnf
  refine APure.to (checkValues_pure v) ?_
  conv => whnf
  refine br_ne (fun h0 => ?_) (fun h0 => ?_)
  · conv => whnf
    exact ⟨rfl, trivial, Q2 (Ql (by rw [if_neg h0])) rfl⟩
  have hv := valsE_inv h0
  have hl := hv.last
  have h1l := hv.1
  have h6l := hv.2.1
  rw [if_pos h0, h0]
  conv => whnf
  refine APure.to (MaxV_pure v hv) ?_
  conv => whnf
  refine ⟨inr (by omega), ?_⟩
  conv => whnf
  refine ⟨(show (0 : Int) ≤ 0 by omega), ?_⟩
  conv => whnf
  refine ⟨(show (0 : Int) ≤ (v.length : Int) - 1 by omega), ?_⟩
  conv => whnf
  refine ⟨(show (v.length : Int) - 1 ≤ (v.length : Int) by omega), ?_⟩
  have hxs : (v.drop (0 : Int).toNat).take (((v.length : Int) - 1).toNat - (0 : Int).toNat) = v.take (v.length - 1) := by
    rw [show (0 : Int).toNat = 0 from rfl, List.drop_zero]
    congr 1
    omega
  obtain ⟨xs, hxd⟩ : ∃ xs, v.take (v.length - 1) = xs := ⟨_, rfl⟩
  have hxl : xs.length = v.length - 1 := by rw [← hxd, List.length_take]; omega
  have hxg : ∀ k, k < v.length - 1 → xs.getD k 0 = v.getD k 0 := fun k hk => by rw [← hxd]; simp only [List.getD, List.getElem?_take]; rw [if_pos hk]
  rw [hxd] at hxs
  conv => whnf
  refine ACM_xs (ys := [.ints false xs]) (show [V.ints false ((v.drop (0 : Int).toNat).take (((v.length : Int) - 1).toNat - (0 : Int).toNat))] = _ by rw [hxs]) ?_
  refine (back_cm xs _).mono ?_
  rintro R M' ⟨rfl, rfl⟩
  conv => whnf
  refine AW_rangeL (X := ⟨Try.prog, tab, wrL, 34, 0, false⟩) tab_ok rfl [5, 6] rfl rfl (fun lp hlp hround => ?_)
  refine ACM.mono (backs_cm xs (by omega) 2 3
    (fun k M => ∃ o R, k ≤ v.length - 1 ∧ OutM (mirP v (v.length - 1 - k)) o R ∧ M = some ⟨3, 1, 0, .one [.int (lastV v)]⟩ :: some ⟨22, 1, 0, .one [o]⟩ :: some (boxOb xs) :: some (lp .ready none) :: R)
    (fun _ => False) ?hb ?hy (some ⟨3, 1, 0, .one [.int (lastV v)]⟩ :: some ⟨22, 1, 0, .one [.emp true]⟩ :: some (boxOb xs) :: some (lp .ready none) :: []) ?h0) ?post
  case hb => rintro k M ⟨o, R, _, _, rfl⟩; rfl
  case h0 => exact ⟨.emp true, [], by omega, .inl ⟨by rw [show v.length - 1 - xs.length = 0 from by omega]; rfl, rfl, rfl⟩, rfl⟩
  case hy =>
    rintro k M hk ⟨o, R, hk1, hO, rfl⟩
    have hx : xs.getD k 0 = v.getD k 0 := hxg k (by omega)
    have hvk := hv.at (i := k) (by omega)
    have hnext : mirP v (v.length - 1 - k) = mirP v (v.length - 1 - (k + 1)) ++ [lastV v - v.getD k 0] := by
      rw [show v.length - 1 - k = (v.length - 1 - (k + 1)) + 1 from by omega]
      simp only [mirP]
      rw [show v.length - 2 - (v.length - 1 - (k + 1)) = k from by omega]
    have hml := mirP_len v (v.length - 1 - (k + 1))
    rw [hx]
    generalize mirP v (v.length - 1 - (k + 1)) = l at *
    refine YW_maskQ (kp := cutN 6) (fun t ht => by
      rw [cutN_iff]
      rcases hO with ⟨_, _, rfl⟩ | ⟨ver, y, _, rfl⟩ <;> simp at ht <;> omega) ?_
    rcases hO with ⟨rfl, rfl, rfl⟩ | ⟨ver, y, rfl, rfl⟩
    · refine hround _ _ _ rfl rfl (fun nb => AW_of_awp (X := ⟨Try.prog, tab, wrL, 34, nb, true⟩) tab_ok ?_)
      conv => whnf
      refine ⟨rfl, ?_⟩
      conv => whnf
      refine ⟨inr (by omega), ?_⟩
      conv => whnf
      refine ⟨(show (8 : Int) * 1 ≤ 140737488355328 by omega), ?_⟩
      conv => whnf
      refine ⟨rfl, trivial, ?_, .inl ⟨rfl, _, _, by omega, .inr ⟨0, lastV v - v.getD k 0, rfl, rfl⟩, ?_⟩⟩
      · exact ⟨⟨trivial, trivial⟩, ⟨rfl, trivial⟩, ⟨trivial, trivial⟩, hlp.named _ _ _ ⟨rfl, rfl, trivial⟩, trivial, trivial, trivial⟩
      · rw [hnext]; rfl
    · refine hround _ _ _ rfl rfl (fun nb => AW_of_awp (X := ⟨Try.prog, tab, wrL, 34, nb, true⟩) tab_ok ?_)
      conv => whnf
      refine ⟨rfl, ?_⟩
      conv => whnf
      refine ⟨inr (by omega), ?_⟩
      conv => whnf
      refine eqn_self ?_
      conv => whnf
      refine ⟨(show (8 : Int) * ((l.length : Int) + 1) ≤ 140737488355328 by omega), ?_⟩
      conv => whnf
      refine ⟨rfl, trivial, ?_, .inl ⟨rfl, _, _, by omega, .inr ⟨ver + 1, y, rfl, rfl⟩, ?_⟩⟩
      · exact ⟨⟨trivial, trivial⟩, ⟨rfl, trivial⟩, ⟨trivial, trivial⟩, hlp.named _ _ _ ⟨rfl, rfl, trivial⟩, trivial, trivial, trivial⟩
      · rw [hnext]
        show some (⟨3, 1, 0, .one [.int (lastV v)]⟩ : Ob) :: some (⟨22, 1, 0, .one [.sl 5 (ver + 1) 0 (l.length + 1)]⟩ : Ob) :: some (boxOb xs) :: some (lp .ready none) :: some (⟨3, 1, 0, .kil [y]⟩ : Ob) :: some (⟨3, 1, ver + 1, .il (l.take l.length ++ [lastV v - v.getD k 0])⟩ : Ob) :: [] = _
        rw [List.take_length, List.length_append]
        rfl
  case post =>
    rintro _ M' (⟨o, R, _, hO, rfl⟩ | h)
    · refine ⟨.ready, none, by decide, rfl, ?_⟩
      have hml := mirP_len v (v.length - 1 - 0)
      have hmm : mirL v = mirP v (v.length - 1 - 0) ++ [lastV v] := rfl
      generalize mirP v (v.length - 1 - 0) = l at *
      rcases hO with ⟨rfl, rfl, rfl⟩ | ⟨ver, y, rfl, rfl⟩
      · conv => whnf
        refine ⟨(show (8 : Int) * 1 ≤ 140737488355328 by omega), ?_⟩
        conv => whnf
        exact ⟨rfl, trivial, Q2 (Ql hmm.symm) rfl⟩
      · conv => whnf
        refine eqn_self ?_
        conv => whnf
        refine ⟨(show (8 : Int) * ((l.length : Int) + 1) ≤ 140737488355328 by omega), ?_⟩
        conv => whnf
        refine eqn_self ?_
        refine ⟨rfl, trivial, Q2 (Ql ?_) rfl⟩
        show ((l.take l.length ++ [lastV v]).drop 0).take (l.length + 1) = mirL v
        rw [hmm, List.take_length, List.drop_zero, take_snoc_all]
    · exact h.elim

theorem refMirrored_pure (v : List Int) : APure Try.prog 35 [.ints false v] (fun R => R = tup2 (.ints true (if valsE v = 0 then mirL v else [])) (.int (valsE v))) := by
  refine APure_of (X := cx 42) (cx_ok 42) rfl (rs := [(.tmp 2, 22), (.tmp 3, 24)]) Try.func35 (by decide) rfl rfl rfl (by simp [cx]) (by simp [NoFr]) ?_
  intro hlen
  conv => whnf
  refine APure.to (refValues_pure v) ?_
  conv => whnf
  refine br_ne (fun h0 => ?_) (fun h0 => ?_)
  · conv => whnf
    exact ⟨rfl, trivial, Q2 (Ql (by rw [if_neg h0])) rfl⟩
  have hv := valsE_inv h0
  have hl := hv.last
  have h1l := hv.1
  have h6l := hv.2.1
  have hll : v.getD ((v.length : Int) - 1).toNat 0 = lastV v := by unfold lastV; congr 1; omega
  rw [if_pos h0, h0]
  conv => whnf
  refine ⟨inr (by omega), ?_⟩
  conv => whnf
  refine AW_loopA (X := cx 42) (cx_ok 42) [0, 5, 6] (fun t => Nat.beq t 13) (fun vs M => ∃ (j : Nat) (o : V), j ≤ v.length - 1 ∧ Out13 (mirP v j) o M ∧ vs = [.ints false v, o, .int ((v.length : Int) - 2 - j)])
    (fun vs _ => ((vs.getD 2 .any).toInt + 1).toNat) (fun t ht => absurd ht (by simp)) ?_ ?_
  · exact same0 ⟨0, .emp true, Nat.zero_le _, .inl ⟨rfl, rfl, rfl⟩, by rw [show ((v.length : Int) - 2 - (0 : Nat)) = (v.length : Int) - 2 from by omega]; rfl⟩
  rintro vs M ⟨j, o, hj, hO, rfl⟩
  have hml := mirP_len v j
  have e1 : ((v.length : Int) - 2 - j).toNat = v.length - 2 - j := by omega
  conv => whnf
  refine br_dec (fun hlt => ?_) (fun hge => ?_)
  · have hvk := hv.at (i := v.length - 2 - j) (by omega)
    have hnext : mirP v (j + 1) = mirP v j ++ [lastV v - v.getD (v.length - 2 - j) 0] := rfl
    have e2 : ((v.length : Int) - 2 - j) - 1 = (v.length : Int) - 2 - (j + 1 : Nat) := by omega
    generalize mirP v j = l at *
    have hxx : lastV v - v.getD (v.length - 2 - j) 0 = v.getD ((v.length : Int) - 1).toNat 0 - v.getD ((v.length : Int) - 2 - j).toNat 0 := by rw [hll, e1]
    rcases hO with ⟨rfl, rfl, rfl⟩ | ⟨ver, rfl, rfl⟩
    · conv => whnf
      refine AW_draw (X := cx 42) (cx_ok 42) mixed (by kernel_rfl) ?_
      conv => whnf
      repeat ((first | refine ⟨by omega, ?_⟩ | refine ⟨inr (by omega), ?_⟩ | refine ⟨inr (by rw [hll, e1]; omega), ?_⟩ | refine ⟨ms1, ?_⟩); conv => whnf)
      refine ⟨by repeat (first | exact trivial | exact rfl | exact fun _ => trivial | exact fun _ _ => trivial | exact fun _ _ _ => trivial | exact fun _ _ _ _ => trivial | refine And.intro ?_ ?_), memA1 (nn13 [some ⟨3, 1, 0, .il (mirP v (j + 1))⟩]) ⟨ObSub.ii (by rw [hnext, hxx]; rfl), trivial⟩ ⟨⟨j + 1, _, by omega, .inr ⟨0, rfl, rfl⟩, ?_⟩, ?_⟩⟩
      · rw [hnext, ← e2]; rfl
      · simp [V.toInt, sel, Env.get]; omega
    · conv => whnf
      refine AW_draw (X := cx 42) (cx_ok 42) mixed (by kernel_rfl) ?_
      conv => whnf
      repeat ((first | refine ⟨by omega, ?_⟩ | refine ⟨inr (by omega), ?_⟩ | refine ⟨inr (by rw [hll, e1]; omega), ?_⟩ | refine eqn_self ?_ | refine ⟨msk (by omega), ?_⟩); conv => whnf)
      refine ⟨by repeat (first | exact trivial | exact rfl | exact fun _ => trivial | exact fun _ _ => trivial | exact fun _ _ _ => trivial | exact fun _ _ _ _ => trivial | refine And.intro ?_ ?_), memA1 (nn13 [some ⟨3, 1, ver + 1, .il (mirP v (j + 1))⟩]) ⟨ObSub.ii (by rw [hnext, hxx, List.take_length]; rfl), trivial⟩ ⟨⟨j + 1, _, by omega, .inr ⟨ver + 1, rfl, rfl⟩, ?_⟩, ?_⟩⟩
      · rw [hnext, ← e2, List.length_append]; rfl
      · simp [V.toInt, sel, Env.get]; omega
  · have : j = v.length - 1 := by omega
    subst this
    have hmm : mirL v = mirP v (v.length - 1) ++ [lastV v] := rfl
    generalize mirP v (v.length - 1) = l at *
    rcases hO with ⟨rfl, rfl, rfl⟩ | ⟨ver, rfl, rfl⟩
    · conv => whnf
      repeat ((first | refine ⟨by omega, ?_⟩ | refine ⟨inr (by omega), ?_⟩ | refine ⟨ms1, ?_⟩); conv => whnf)
      refine ⟨rfl, trivial, Q2 (Ql ?_) rfl⟩
      rw [hmm, ← hll]
      rfl
    · conv => whnf
      repeat ((first | refine ⟨by omega, ?_⟩ | refine ⟨inr (by omega), ?_⟩ | refine eqn_self ?_ | refine ⟨ms (by omega), ?_⟩ | refine ⟨ms (by simp only [Src.n]; omega), ?_⟩ | refine ⟨msk (by omega), ?_⟩ | refine ⟨ms1, ?_⟩); conv => whnf)
      refine ⟨rfl, trivial, Q2 (Ql ?_) rfl⟩
      show ((l.take l.length ++ [v.getD ((v.length : Int) - 1).toNat 0]).drop 0).take (l.length + 1) = mirL v
      rw [hmm, ← hll, List.take_length, List.drop_zero, take_snoc_all]
end Go.Tri
