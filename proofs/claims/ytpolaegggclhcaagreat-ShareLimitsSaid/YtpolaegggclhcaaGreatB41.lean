/-
 CONTRACTS: slices.AppendSeq, Collect, Sorted over the values of a row; slices.Equal; is a list an assignment?
-/
import Derived.Test.YtpolaegggclhcaaGreatB40
import Derived.Test.YtpolaegggclhcaaGreatB7
namespace Go.Tri
open Go.Proofs

@[reducible] def valsC (l : List Int) : V := .clo 82 1 (fun _ => .at_ 1 (fun _ => .ints false l) 0)
@[reducible] def bxO (v : V) : Ob := ⟨23, 1, 0, .one [v]⟩
@[reducible] def iOb (ver : Nat) (l : List Int) : Ob := ⟨3, 1, ver, .il l⟩
def kp3 (t : Nat) : Bool := Nat.beq t 0 || Nat.beq t 1 || Nat.beq t 3
set_option maxRecDepth 100000 in
theorem appendSeq_cm (l : List Int) (h1 : 1 ≤ l.length) (h5 : l.length ≤ 1000) : ACM Tryz.prog 87 [.emp true, valsC l] [] (fun R M' => ∃ ver, R = .sl 3 ver 0 l.length ∧ M' = [none, none, none, some (iOb ver l)]) := by
 refine ACM_maskQ (kp := fun t => Nat.beq t 3) (fun t ht => absurd ht (Nat.not_lt_zero _)) ?_
 refine ACM_of (T := tab) (wr := wSo) tab_ok Tryz.func87 (by decide) rfl (Nat.le_of_ble_eq_true rfl) (fun nb => ?_)
 ((conv=>whnf);repeat (refine Wa ?_;(repeat (first|refine Wb ?_|refine Wc ?_|refine Wd ?_|refine We ?_|refine Wf ?_));(conv=>whnf)))
 refine AW_rangeL (X := ⟨Tryz.prog, tab, wSo, 13, nb, false⟩) tab_ok rfl [2] rfl rfl (fun lp hlp hround => ?_)
 refine ACM.mono (vals_cm l (by omega) 1 (fun k M => (k = 0 ∧ M = [some (bxO (.emp true)), some (lp .ready none)]) ∨ (1 ≤ k ∧ ∃ ver, M = [some (bxO (.sl 3 ver 0 k)), some (lp .ready none), none, some (iOb ver (l.take k))])) ?hy _ (.inl ⟨rfl, rfl⟩)) ?post
 case hy =>
  rintro k M hk (⟨rfl, rfl⟩ | ⟨hk1, ver, rfl⟩)
  ·refine YW_maskQ (kp := kp3) (fun t ht => by
    match t, ht with
    | 0, _ => rfl
    | 1, _ => rfl) ?_
   refine hround _ _ _ rfl rfl (fun nb => AW_of_awp (X := ⟨Tryz.prog, tab, wSo, 13, nb, true⟩) tab_ok ?_)
   ((conv=>whnf);repeat (refine Wa ?_;(repeat (first|refine Wb ?_|refine Wc ?_|refine Wd ?_|refine We ?_|refine Wf ?_));(conv=>whnf)))
   refine ⟨rfl, ?_⟩
   ((conv=>whnf);repeat (refine Wa ?_;(repeat (first|refine Wb ?_|refine Wc ?_|refine Wd ?_|refine We ?_|refine Wf ?_));(conv=>whnf)))
   refine ⟨(show (8 : Int) * 1 ≤ 140737488355328 by decide), ?_⟩
   ((conv=>whnf);repeat (refine Wa ?_;(repeat (first|refine Wb ?_|refine Wc ?_|refine Wd ?_|refine We ?_|refine Wf ?_));(conv=>whnf)))
   refine ⟨rfl, trivial, ?_, rfl, .inr ⟨Nat.le_refl _, 0, ?_⟩⟩
   ·exact (show NamedM kp3 [some (bxO (.sl 3 0 0 1)), some (lp .ready none), none, some (iOb 0 [l.getD 0 0])] from ⟨⟨rfl, trivial⟩, hlp.named _ _ _ ⟨rfl, trivial⟩, trivial, trivial⟩)
   ·exact congrArg (fun x => [some (bxO (.sl 3 0 0 1)), some (lp .ready none), none, some (iOb 0 x)]) (show [l.getD 0 0] = l.take 1 from (by rw [take_snoc (show 0 < l.length by omega)]; rfl))
  ·refine YW_maskQ (kp := cutN 4) (fun t ht => by rw [cutN_iff]; exact ht) ?_
   refine hround _ _ _ rfl rfl (fun nb => AW_of_awp (X := ⟨Tryz.prog, tab, wSo, 13, nb, true⟩) tab_ok ?_)
   ((conv=>whnf);repeat (refine Wa ?_;(repeat (first|refine Wb ?_|refine Wc ?_|refine Wd ?_|refine We ?_|refine Wf ?_));(conv=>whnf)))
   refine ⟨rfl, ?_⟩
   ((conv=>whnf);repeat (refine Wa ?_;(repeat (first|refine Wb ?_|refine Wc ?_|refine Wd ?_|refine We ?_|refine Wf ?_));(conv=>whnf)))
   refine eqn_self ?_
   ((conv=>whnf);repeat (refine Wa ?_;(repeat (first|refine Wb ?_|refine Wc ?_|refine Wd ?_|refine We ?_|refine Wf ?_));(conv=>whnf)))
   refine ⟨(show (8 : Int) * ((k : Int) + (1 : Nat)) ≤ 140737488355328 by omega), ?_⟩
   ((conv=>whnf);repeat (refine Wa ?_;(repeat (first|refine Wb ?_|refine Wc ?_|refine Wd ?_|refine We ?_|refine Wf ?_));(conv=>whnf)))
   refine ⟨rfl, trivial, ?_, rfl, .inr ⟨by omega, ver + 1, ?_⟩⟩
   ·exact (show NamedM (cutN 4) [some (bxO (.sl 3 (ver + 1) 0 (k + 1))), some (lp .ready none), none, some (iOb (ver + 1) ((l.take k).take k ++ [l.getD k 0]))] from ⟨⟨rfl, trivial⟩, hlp.named _ _ _ ⟨rfl, trivial⟩, trivial, trivial⟩)
   ·exact congrArg (fun x => [some (bxO (.sl 3 (ver + 1) 0 (k + 1))), some (lp .ready none), none, some (iOb (ver + 1) x)]) (show (l.take k).take k ++ [l.getD k 0] = l.take (k + 1) from (by rw [take_snoc hk, List.take_take, Nat.min_self]))
 case post =>
  rintro _ M' (⟨h0, rfl⟩ | ⟨_, ver, rfl⟩)
  ·omega
  ·refine ⟨.ready, none, by decide, rfl, ?_⟩
   ((conv=>whnf);repeat (refine Wa ?_;(repeat (first|refine Wb ?_|refine Wc ?_|refine Wd ?_|refine We ?_|refine Wf ?_));(conv=>whnf)))
   refine ⟨_, rfl, rfl, ?_, ver, rfl, ?_⟩
   ·exact (show NamedM _ [none, none, none, some (iOb ver (l.take l.length))] from ⟨trivial, trivial⟩)
   ·exact congrArg (fun x => [none, none, none, some (iOb ver x)]) List.take_length

set_option maxRecDepth 100000 in
theorem collect_cm (l : List Int) (h1 : 1 ≤ l.length) (h5 : l.length ≤ 1000) : ACM Tryz.prog 80 [valsC l] [] (fun R M' => ∃ ver, R = .sl 3 ver 0 l.length ∧ M' = [none, none, none, some (iOb ver l)]) := by
 refine ACM_of (T := tab) (wr := wSo) tab_ok Tryz.func80 (by decide) rfl (Nat.le_of_ble_eq_true rfl) (fun nb => ?_)
 ((conv=>whnf);repeat (refine Wa ?_;(repeat (first|refine Wb ?_|refine Wc ?_|refine Wd ?_|refine We ?_|refine Wf ?_));(conv=>whnf)))
 refine (appendSeq_cm l h1 h5).mono ?_
 rintro R M' ⟨ver, rfl, rfl⟩
 ((conv=>whnf);repeat (refine Wa ?_;(repeat (first|refine Wb ?_|refine Wc ?_|refine Wd ?_|refine We ?_|refine Wf ?_));(conv=>whnf)))
 exact ⟨_, rfl, ver, rfl, rfl⟩
@[reducible] noncomputable def xSo : Cx := ⟨Tryz.prog, tab, wSo, 9, 0, false⟩
set_option maxRecDepth 100000 in
theorem sortedV_pure (l : List Int) (h1 : 1 ≤ l.length) (h5 : l.length ≤ 9) : APure Tryz.prog 60 [valsC l] (fun R => R = .ints true (sortP ltI l l.length)) := by
 refine APure_of (X := xSo) tab_ok rfl (rs := [(.tmp 2, 23)]) Tryz.func60 (by decide) rfl rfl rfl (by simp) (nofr1 (show NoFr (valsC l) from fun _ _ => rfl)) ?_
 intro hlen
 ((conv=>whnf);repeat (refine Wa ?_;(repeat (first|refine Wb ?_|refine Wc ?_|refine Wd ?_|refine We ?_|refine Wf ?_));(conv=>whnf)))
 refine (collect_cm l h1 (by omega)).mono ?_
 rintro R M' ⟨ver, rfl, rfl⟩
 ((conv=>whnf);repeat (refine Wa ?_;(repeat (first|refine Wb ?_|refine Wc ?_|refine Wd ?_|refine We ?_|refine Wf ?_));(conv=>whnf)))
 refine (sortI3 ver l h1 h5).mono ?_
 rintro R M' ⟨rfl, rfl⟩
 ((conv=>whnf);repeat (refine Wa ?_;(repeat (first|refine Wb ?_|refine Wc ?_|refine Wd ?_|refine We ?_|refine Wf ?_));(conv=>whnf)))
 refine eqn_self ?_
 ((conv=>whnf);repeat (refine Wa ?_;(repeat (first|refine Wb ?_|refine Wc ?_|refine Wd ?_|refine We ?_|refine Wf ?_));(conv=>whnf)))
 refine ⟨rfl, ?_⟩
 exact congrArg (V.ints true) (by rw [List.drop_zero, List.take_of_length_le (by rw [sortP_len]; exact Nat.le_refl _)])
theorem equalI_pure (a b : List Int) : APure Tryz.prog 59 [.ints false a, .ints false b] (fun R => R = .bool (decide (a = b))) := by
 refine APure_of (X := cx 26) (cx_ok 26) rfl (rs := [(.tmp 4, 4)]) Tryz.func59 (by decide) rfl rfl rfl (by simp [cx]) (nofr2 (show NoFr (.ints false a) from rfl) (show NoFr (.ints false b) from rfl)) ?_
 intro hlen
 have hla := LenI hlen
 ((conv=>whnf);repeat (refine Wa ?_;(repeat (first|refine Wb ?_|refine Wc ?_|refine Wd ?_|refine We ?_|refine Wf ?_));(conv=>whnf)))
 refine br_ne (fun h => ?_) (fun h => ?_)
 ·have h : (a.length : Int) ≠ b.length := h
  ((conv=>whnf);repeat (refine Wa ?_;(repeat (first|refine Wb ?_|refine Wc ?_|refine Wd ?_|refine We ?_|refine Wf ?_));(conv=>whnf)))
  exact ⟨trivial, Qb (decide_eq_false (fun e => h (by rw [e]))).symm⟩
 have hab : a.length = b.length := by have h : (a.length : Int) = b.length := h; omega
 ((conv=>whnf);repeat (refine Wa ?_;(repeat (first|refine Wb ?_|refine Wc ?_|refine Wd ?_|refine We ?_|refine Wf ?_));(conv=>whnf)))
 refine AW_loop (X := cx 26) (cx_ok 26) [0, 1, 12, 13] (fun vs M => ∃ k : Nat, k ≤ a.length ∧ (∀ j, j < k → a.getD j 0 = b.getD j 0) ∧ vs = [.ints false a, .ints false b, .int a.length, .int k] ∧ M = []) (fun vs _ => (a.length - (vs.getD 3 .any).toInt).toNat) ?_ ?_
 ·exact ⟨0, Nat.zero_le _, fun j hj => absurd hj (by omega), rfl, rfl⟩
 rintro vs M ⟨k, hk, hI, rfl, rfl⟩
 ((conv=>whnf);repeat (refine Wa ?_;(repeat (first|refine Wb ?_|refine Wc ?_|refine Wd ?_|refine We ?_|refine Wf ?_));(conv=>whnf)))
 refine br_dec (fun hlt => ?_) (fun hge => ?_)
 ·have hk' : k < a.length := by omega
  ((conv=>whnf);repeat (refine Wa ?_;(repeat (first|refine Wb ?_|refine Wc ?_|refine Wd ?_|refine We ?_|refine Wf ?_));(conv=>whnf)))
  refine AW_draw (X := cx 26) (cx_ok 26) mixed (by kernel_rfl) ?_
  ((conv=>whnf);repeat (refine Wa ?_;(repeat (first|refine Wb ?_|refine Wc ?_|refine Wd ?_|refine We ?_|refine Wf ?_));(conv=>whnf)))
  repeat ((first | refine ⟨by omega, ?_⟩ | refine ⟨inr (by omega), ?_⟩ | refine eqn_self ?_ | refine ⟨ms (by omega), ?_⟩ | refine ⟨ms (by simp only [Src.n]; omega), ?_⟩ | refine ⟨msk (by omega), ?_⟩ | refine ⟨ms1, ?_⟩); ((conv=>whnf);repeat (refine Wa ?_;(repeat (first|refine Wb ?_|refine Wc ?_|refine Wd ?_|refine We ?_|refine Wf ?_));(conv=>whnf))))
  refine br_ne (fun h => ?_) (fun h => ?_)
  ·have h : a.getD k 0 ≠ b.getD k 0 := h
   ((conv=>whnf);repeat (refine Wa ?_;(repeat (first|refine Wb ?_|refine Wc ?_|refine Wd ?_|refine We ?_|refine Wf ?_));(conv=>whnf)))
   exact ⟨trivial, Qb (decide_eq_false (fun e => h (by rw [e]))).symm⟩
  ·have h : a.getD k 0 = b.getD k 0 := h
   ((conv=>whnf);repeat (refine Wa ?_;(repeat (first|refine Wb ?_|refine Wc ?_|refine Wd ?_|refine We ?_|refine Wf ?_));(conv=>whnf)))
   repeat ((first | refine ⟨by omega, ?_⟩ | refine ⟨inr (by omega), ?_⟩ | refine eqn_self ?_ | refine ⟨ms (by omega), ?_⟩ | refine ⟨ms (by simp only [Src.n]; omega), ?_⟩ | refine ⟨msk (by omega), ?_⟩ | refine ⟨ms1, ?_⟩); ((conv=>whnf);repeat (refine Wa ?_;(repeat (first|refine Wb ?_|refine Wc ?_|refine Wd ?_|refine We ?_|refine Wf ?_));(conv=>whnf))))
   refine ⟨⟨k + 1, hk', fun j hj => ?_, rfl, rfl⟩, ?_⟩
   ·rcases (by omega : j < k ∨ j = k) with h6 | rfl
    ·exact hI j h6
    ·exact h
   ·simp [V.toInt, sel, Env.get]; omega
 ·obtain rfl : k = a.length := by omega
  ((conv=>whnf);repeat (refine Wa ?_;(repeat (first|refine Wb ?_|refine Wc ?_|refine Wd ?_|refine We ?_|refine Wf ?_));(conv=>whnf)))
  exact ⟨trivial, Qb (decide_eq_true (ext_getD hab hI)).symm⟩
theorem values_cm (l : List Int) : ACM Tryz.prog 61 [.ints false l] [] (fun R M' => R = .clo 82 1 (fun i => ([V.ptr 0 0 0 0]).getD i .any) ∧ M' = [some (bxO (.ints false l))]) := by
 refine ACM_of (T := tab) (wr := wSo) tab_ok Tryz.func61 (by decide) rfl (Nat.le_of_ble_eq_true rfl) (fun nb => ?_)
 ((conv=>whnf);repeat (refine Wa ?_;(repeat (first|refine Wb ?_|refine Wc ?_|refine Wd ?_|refine We ?_|refine Wf ?_));(conv=>whnf)))
 exact ⟨_, rfl, rfl, rfl⟩
@[reducible] noncomputable def xIA : Cx := ⟨Tryz.prog, tab, wSo, 17, 0, false⟩
set_option maxRecDepth 100000 in
theorem isAssignment_pure (l : List Int) (n : Nat) (h1 : 1 ≤ n) (h5 : n ≤ 5) : APure Tryz.prog 38 [.ints false l, .int n] (fun R => R = .bool (decide (l ∈ asg n n []))) := by
 refine APure_of (X := xIA) tab_ok rfl (rs := [(.tmp 4, 4)]) Tryz.func38 (by decide) rfl rfl rfl (by simp) (nofr2 (show NoFr (.ints false l) from rfl) (show NoFr (.int n) from trivial)) ?_
 intro hlen
 ((conv=>whnf);repeat (refine Wa ?_;(repeat (first|refine Wb ?_|refine Wc ?_|refine Wd ?_|refine We ?_|refine Wf ?_));(conv=>whnf)))
 refine br_eq (fun h => ?_) (fun h => ?_)
 ·have h : (l.length : Int) = n := h
  have hln : l.length = n := by omega
  have c1 := sortedV_pure l (by omega) (by omega)
  have c2 := indices_pure n (by omega)
  have c3 := equalI_pure (sortP ltI l l.length) (idx n)
  ((conv=>whnf);repeat (refine Wa ?_;(repeat (first|refine Wb ?_|refine Wc ?_|refine Wd ?_|refine We ?_|refine Wf ?_));(conv=>whnf)))
  refine (values_cm l).mono ?_
  rintro R M' ⟨rfl, rfl⟩
  ((conv=>whnf);repeat (refine Wa ?_;(repeat (first|refine Wb ?_|refine Wc ?_|refine Wd ?_|refine We ?_|refine Wf ?_));(conv=>whnf)))
  refine APure.to (APure.arg1 (sub_clo fun i hi => by
   have hi : i < 1 := hi
   rw [show i = 0 by omega]
   exact sub_at fun j hj => by
    have hj : j < 1 := hj
    rw [show j = 0 by omega]
    exact Sub.refl _) c1) ?_
  ((conv=>whnf);repeat (refine Wa ?_;(repeat (first|refine Wb ?_|refine Wc ?_|refine Wd ?_|refine We ?_|refine Wf ?_));(conv=>whnf)))
  refine APure.to c2 ?_
  ((conv=>whnf);repeat (refine Wa ?_;(repeat (first|refine Wb ?_|refine Wc ?_|refine Wd ?_|refine We ?_|refine Wf ?_));(conv=>whnf)))
  refine APure.to c3 ?_
  ((conv=>whnf);repeat (refine Wa ?_;(repeat (first|refine Wb ?_|refine Wc ?_|refine Wd ?_|refine We ?_|refine Wf ?_));(conv=>whnf)))
  refine ⟨trivial, Qb (decide_eq_decide.2 ?_)⟩
  rw [show idx n = idxL n from rfl]
  exact asg_sort h5 hln
 ·have h : (l.length : Int) ≠ n := h
  ((conv=>whnf);repeat (refine Wa ?_;(repeat (first|refine Wb ?_|refine Wc ?_|refine Wd ?_|refine We ?_|refine Wf ?_));(conv=>whnf)))
  refine ⟨trivial, Qb (decide_eq_false (fun e => h (by rw [(asg_all.1 e).1]))).symm⟩
end Go.Tri
