/-
 CONTRACTS: are all corners connected?
-/
import Derived.Test.YtafibngpgllcfaaB8
import Derived.Test.YtafibngpgllcfaaM4
namespace Go.Tri
open Go.Proofs

theorem apF_apN (m1 : Nat) (A1 A2 : Nat → Nat) : apF m1 (fun j => A1 j) (fun j => A2 j) = fun j => ((apN m1 A1 A2 j : Nat) : Int) := by
 funext j
 unfold apF apN
 split <;> rfl
@[reducible] def nextA (X : Cx) (ops : Array Oper) (Q : Env → Mem → Prop) (f : Nat) (L : Array Bool) (e : Env) (M : Mem) : List Nat → Prop
 | [] => Q e M
 | i :: r => allI (i :: r) fun i => match ops[i]? with
  | none => True
  | some o => stepA X ops o e M (anyW X ops Q f (L.setIfInBounds i true))
theorem anyW_step {X : Cx} {ops : Array Oper} {Q : Env → Mem → Prop} {f : Nat} {L : Array Bool} {e : Env} {M : Mem} (l : List Nat) (h : Region.ready .any ops L = l) (hk : nextA X ops Q f L e M l) : anyW X ops Q (f + 1) L e M := by
 unfold anyW
 rw [h]
 cases l <;> exact hk
theorem anyW_end {X : Cx} {ops : Array Oper} {Q : Env → Mem → Prop} {L : Array Bool} {e : Env} {M : Mem} (h : Region.ready .any ops L = []) (hk : Q e M) : anyW X ops Q 0 L e M := by
 unfold anyW
 rw [h]
 exact hk
def wrC : List FuncId := [94, 83]
/-- The walk along the streets in both directions meets all corners. -/
def conB (n m : Nat) (A B : Nat → Nat) : Bool := ((wk (apN m A B) (apN m B A) (m + m) n 0 0 : Nat) : Int) == ((fullN n : Nat) : Int)
attribute [local irreducible] anyW in
set_option maxRecDepth 100000 in
theorem isConnected_pure (n m : Nat) (A B : Nat → Nat) (hn : 2 ≤ n ∧ n ≤ 20) (hm : m ≤ 50) (hA : ∀ j, j < m → A j < n) (hB : ∀ j, j < m → B j < n) (cA : Cl m (fun j => A j)) (cB : Cl m (fun j => B j)) :
  APure Try.prog 85 [quV n m (fun j => A j) (fun j => B j)] (fun R => R = .bool (conB n m A B)) := by
 refine APure_of (X := ⟨Try.prog, tab, wrC, 22, 0, false⟩) tab_ok rfl (rs := [(.tmp 2, 4)]) Try.func85 (by decide) rfl rfl rfl (by simp) (by intro x hx; simp at hx; rcases hx with rfl; exact fun k => nofrQ k) ?_
 intro hlen
 have c1 := turned_pure n m (fun j => A j) (fun j => B j) (by omega) cA cB
 have c2 : APure Try.prog 98 [catV m m (fun j => A j) (fun j => B j) (fun j => B j) (fun j => A j)] (fun R => R = stV true (m + m) (apF m (fun j => A j) (fun j => B j)) (apF m (fun j => B j) (fun j => A j))) := by
  by_cases h0 : m = 0
  ·subst h0
   exact Concat0 _ _ _ _
  ·exact Concat_pure m m _ _ _ _ (by omega)
 rw [apF_apN, apF_apN] at c2
 have c3 := all_pure n m (fun j => A j) (fun j => B j) (by omega)
 ((conv=>whnf);repeat (refine Wa ?_;(repeat (first|refine Wb ?_|refine Wc ?_|refine Wd ?_|refine We ?_|refine Wf ?_));(conv=>whnf)))
 refine AW_draw (X := ⟨Try.prog, tab, wrC, 22, 0, false⟩) tab_ok mixed (by kernel_rfl) ?_
 ((conv=>whnf);repeat (refine Wa ?_;(repeat (first|refine Wb ?_|refine Wc ?_|refine Wd ?_|refine We ?_|refine Wf ?_));(conv=>whnf)))
 refine ⟨_, APure.arg1 (sub_agg fun i hi => by
  have hi : i < 2 := hi
  rcases (by omega : i = 0 ∨ i = 1) with rfl | rfl
  ·exact Sub.refl _
  ·exact subS) c1, ?_⟩
 ((conv=>whnf);repeat (refine Wa ?_;(repeat (first|refine Wb ?_|refine Wc ?_|refine Wd ?_|refine We ?_|refine Wf ?_));(conv=>whnf)))
 refine ⟨_, APure.arg1 (sub_seq fun j k hj hk => by
  have hk : k < 1 := hk
  have hj : j < 2 := hj
  obtain rfl : k = 0 := by omega
  rcases (by omega : j = 0 ∨ j = 1) with rfl | rfl
  ·exact subS
  ·exact subS) c2, ?_⟩
 ((conv=>whnf);repeat (refine Wa ?_;(repeat (first|refine Wb ?_|refine Wc ?_|refine Wd ?_|refine We ?_|refine Wf ?_));(conv=>whnf)))
 refine (walker_cm true n (m + m) (fun j => (apN m A B j : Nat)) (fun j => (apN m B A j : Nat)) _).mono ?_
 rintro R M1 ⟨a, b, c, rfl, hl1, hla, hlb, hlc, hM1, hg1⟩
 have c4 := walk1_cm true n (m + m) (apN m A B) (apN m B A) (by omega) (by omega) (apN_lt hA hB) (apN_lt hB hA) n M1 a b c 0 0 hM1 (Nat.two_pow_pos n) (by omega) (unv_le_n 0 n)
 ((conv=>whnf);repeat (refine Wa ?_;(repeat (first|refine Wb ?_|refine Wc ?_|refine Wd ?_|refine We ?_|refine Wf ?_));(conv=>whnf)))
 have g0 : M1.get 0 = some ⟨57, 2, 0, .one [.int n, stV false m (fun j => A j) (fun j => B j)]⟩ := hg1 0 (Nat.lt_of_lt_of_le (by decide : 0 < 7) (Nat.le_refl 7))
 have l1 : 7 ≤ M1.length := hl1
 have la : 7 ≤ a := hla
 clear hg1 hl1 hla hlb hlc
 refine AW_drawE (X := ⟨Try.prog, tab, wrC, 22, 0, false⟩) tab_ok mixed (by kernel_rfl) ?_
 refine anyW_step (f := 5) [0, 2] (by kernel_rfl) ⟨?_, ?_⟩
 ·((conv=>whnf);repeat (refine Wa ?_;(repeat (first|refine Wb ?_|refine Wc ?_|refine Wd ?_|refine We ?_|refine Wf ?_));(conv=>whnf)))
  refine anyW_step (f := 4) [1, 2] (by kernel_rfl) ⟨?_, ?_⟩
  ·((conv=>whnf);repeat (refine Wa ?_;(repeat (first|refine Wb ?_|refine Wc ?_|refine Wd ?_|refine We ?_|refine Wf ?_));(conv=>whnf)))
   refine c4.mono ?_
   rintro R M2 ⟨rfl, l2, g2⟩
   ((conv=>whnf);repeat (refine Wa ?_;(repeat (first|refine Wb ?_|refine Wc ?_|refine Wd ?_|refine We ?_|refine Wf ?_));(conv=>whnf)))
   refine anyW_step (f := 3) [2] (by kernel_rfl) ?_
   ((conv=>whnf);repeat (refine Wa ?_;(repeat (first|refine Wb ?_|refine Wc ?_|refine Wd ?_|refine We ?_|refine Wf ?_));(conv=>whnf)))
   refine stepO (by exact aop_load rfl (by rw [g2 0 (by omega), if_neg (by omega)]; exact g0) rfl) ?_
   ((conv=>whnf);repeat (refine Wa ?_;(repeat (first|refine Wb ?_|refine Wc ?_|refine Wd ?_|refine We ?_|refine Wf ?_));(conv=>whnf)))
   refine anyW_step (f := 2) [3] (by kernel_rfl) ?_
   ((conv=>whnf);repeat (refine Wa ?_;(repeat (first|refine Wb ?_|refine Wc ?_|refine Wd ?_|refine We ?_|refine Wf ?_));(conv=>whnf)))
   refine APure.to (APure.arg1 (sub_agg fun i hi => by
    have hi : i < 2 := hi
    rcases (by omega : i = 0 ∨ i = 1) with rfl | rfl
    ·exact Sub.refl _
    ·exact subS) c3) ?_
   ((conv=>whnf);repeat (refine Wa ?_;(repeat (first|refine Wb ?_|refine Wc ?_|refine Wd ?_|refine We ?_|refine Wf ?_));(conv=>whnf)))
   refine anyW_step (f := 1) [4] (by kernel_rfl) ?_
   ((conv=>whnf);repeat (refine Wa ?_;(repeat (first|refine Wb ?_|refine Wc ?_|refine Wd ?_|refine We ?_|refine Wf ?_));(conv=>whnf)))
   refine anyW_step (f := 0) [5] (by kernel_rfl) ?_
   ((conv=>whnf);repeat (refine Wa ?_;(repeat (first|refine Wb ?_|refine Wc ?_|refine Wd ?_|refine We ?_|refine Wf ?_));(conv=>whnf)))
   refine anyW_end (by kernel_rfl) ?_
   ((conv=>whnf);repeat (refine Wa ?_;(repeat (first|refine Wb ?_|refine Wc ?_|refine Wd ?_|refine We ?_|refine Wf ?_));(conv=>whnf)))
   exact ⟨trivial, rfl⟩
  ·((conv=>whnf);repeat (refine Wa ?_;(repeat (first|refine Wb ?_|refine Wc ?_|refine Wd ?_|refine We ?_|refine Wf ?_));(conv=>whnf)))
   refine stepO (by exact aop_load rfl (g0) rfl) ?_
   ((conv=>whnf);repeat (refine Wa ?_;(repeat (first|refine Wb ?_|refine Wc ?_|refine Wd ?_|refine We ?_|refine Wf ?_));(conv=>whnf)))
   refine anyW_step (f := 3) [1] (by kernel_rfl) ?_
   ((conv=>whnf);repeat (refine Wa ?_;(repeat (first|refine Wb ?_|refine Wc ?_|refine Wd ?_|refine We ?_|refine Wf ?_));(conv=>whnf)))
   refine c4.mono ?_
   rintro R M2 ⟨rfl, l2, g2⟩
   ((conv=>whnf);repeat (refine Wa ?_;(repeat (first|refine Wb ?_|refine Wc ?_|refine Wd ?_|refine We ?_|refine Wf ?_));(conv=>whnf)))
   refine anyW_step (f := 2) [3] (by kernel_rfl) ?_
   ((conv=>whnf);repeat (refine Wa ?_;(repeat (first|refine Wb ?_|refine Wc ?_|refine Wd ?_|refine We ?_|refine Wf ?_));(conv=>whnf)))
   refine APure.to (APure.arg1 (sub_agg fun i hi => by
    have hi : i < 2 := hi
    rcases (by omega : i = 0 ∨ i = 1) with rfl | rfl
    ·exact Sub.refl _
    ·exact subS) c3) ?_
   ((conv=>whnf);repeat (refine Wa ?_;(repeat (first|refine Wb ?_|refine Wc ?_|refine Wd ?_|refine We ?_|refine Wf ?_));(conv=>whnf)))
   refine anyW_step (f := 1) [4] (by kernel_rfl) ?_
   ((conv=>whnf);repeat (refine Wa ?_;(repeat (first|refine Wb ?_|refine Wc ?_|refine Wd ?_|refine We ?_|refine Wf ?_));(conv=>whnf)))
   refine anyW_step (f := 0) [5] (by kernel_rfl) ?_
   ((conv=>whnf);repeat (refine Wa ?_;(repeat (first|refine Wb ?_|refine Wc ?_|refine Wd ?_|refine We ?_|refine Wf ?_));(conv=>whnf)))
   refine anyW_end (by kernel_rfl) ?_
   ((conv=>whnf);repeat (refine Wa ?_;(repeat (first|refine Wb ?_|refine Wc ?_|refine Wd ?_|refine We ?_|refine Wf ?_));(conv=>whnf)))
   exact ⟨trivial, rfl⟩
 ·((conv=>whnf);repeat (refine Wa ?_;(repeat (first|refine Wb ?_|refine Wc ?_|refine Wd ?_|refine We ?_|refine Wf ?_));(conv=>whnf)))
  refine stepO (by exact aop_load rfl (g0) rfl) ?_
  ((conv=>whnf);repeat (refine Wa ?_;(repeat (first|refine Wb ?_|refine Wc ?_|refine Wd ?_|refine We ?_|refine Wf ?_));(conv=>whnf)))
  refine anyW_step (f := 4) [0] (by kernel_rfl) ?_
  ((conv=>whnf);repeat (refine Wa ?_;(repeat (first|refine Wb ?_|refine Wc ?_|refine Wd ?_|refine We ?_|refine Wf ?_));(conv=>whnf)))
  refine anyW_step (f := 3) [1] (by kernel_rfl) ?_
  ((conv=>whnf);repeat (refine Wa ?_;(repeat (first|refine Wb ?_|refine Wc ?_|refine Wd ?_|refine We ?_|refine Wf ?_));(conv=>whnf)))
  refine c4.mono ?_
  rintro R M2 ⟨rfl, l2, g2⟩
  ((conv=>whnf);repeat (refine Wa ?_;(repeat (first|refine Wb ?_|refine Wc ?_|refine Wd ?_|refine We ?_|refine Wf ?_));(conv=>whnf)))
  refine anyW_step (f := 2) [3] (by kernel_rfl) ?_
  ((conv=>whnf);repeat (refine Wa ?_;(repeat (first|refine Wb ?_|refine Wc ?_|refine Wd ?_|refine We ?_|refine Wf ?_));(conv=>whnf)))
  refine APure.to (APure.arg1 (sub_agg fun i hi => by
   have hi : i < 2 := hi
   rcases (by omega : i = 0 ∨ i = 1) with rfl | rfl
   ·exact Sub.refl _
   ·exact subS) c3) ?_
  ((conv=>whnf);repeat (refine Wa ?_;(repeat (first|refine Wb ?_|refine Wc ?_|refine Wd ?_|refine We ?_|refine Wf ?_));(conv=>whnf)))
  refine anyW_step (f := 1) [4] (by kernel_rfl) ?_
  ((conv=>whnf);repeat (refine Wa ?_;(repeat (first|refine Wb ?_|refine Wc ?_|refine Wd ?_|refine We ?_|refine Wf ?_));(conv=>whnf)))
  refine anyW_step (f := 0) [5] (by kernel_rfl) ?_
  ((conv=>whnf);repeat (refine Wa ?_;(repeat (first|refine Wb ?_|refine Wc ?_|refine Wd ?_|refine We ?_|refine Wf ?_));(conv=>whnf)))
  refine anyW_end (by kernel_rfl) ?_
  ((conv=>whnf);repeat (refine Wa ?_;(repeat (first|refine Wb ?_|refine Wc ?_|refine Wd ?_|refine We ?_|refine Wf ?_));(conv=>whnf)))
  exact ⟨trivial, rfl⟩
end Go.Tri
