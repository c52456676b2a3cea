/-
 CONTRACTS: the mends with the fewest streets.
-/
import Derived.Test.YtafibngpgllcfaaB22
import Derived.Test.YtafibngpgllcfaaR1
import Derived.Test.YtafibngpgllcfaaB26
import Derived.Test.YtafibngpgllcfaaA37
import Derived.Test.YtafibngpgllcfaaM8
import Derived.Shelf.Lay
import Derived.Ground.SlsfProg
namespace Go.Proofs
open Go.Shelf Go.RowKit Go.Lib Go.Sort
shelf_lay_g SlLaysF.n6 Slsf 6 at Try 75 as Try.sortRows
end Go.Proofs
namespace Go.Tri
open Go.Proofs

theorem app_emp {T : Tab} {nm e m sz : Nat} {M : Mem} {g : Nat → Nat → V} {p : Obl} {x : V} {b : Bool} (hsz : (T.row e).sz = sz) (h1 : (knownT (T.row e) && Nat.blt 0 (T.row e).sz && Nat.blt 0 (T.row e).bs) = true) (hx : srcV M (T.row e).sz (isI64T (T.row e)) x = some (p, .cells m g)) :
  aAppend T nm e (.emp b) x M = some (.and p (.le ((T.row e).bs * m) 140737488355328), .sl nm 0 0 m, M.put nm ⟨e, sz, 0, .cv m g⟩) := by
 subst hsz
 simp only [aAppend, h1, hx, cond_true, Src.n, srcCon]
/-- The list so far: nothing yet, or a named row. -/
def Hl (M : Mem) (v : V) (P : List Nat) : Prop := (P = [] ∧ v = .emp true) ∨ ∃ t ver f, 0 < t ∧ v = .sl t ver 0 P.length ∧ M.get t = some ⟨25, 1, ver, .cv P.length f⟩ ∧ ∀ j, j < P.length → f j 0 = .ints true (mbL (P.getD j 0) 14)
theorem rowsF_new {P : List Nat} {f : Nat → Nat → V} {x j : Nat} (hf : ∀ j, j < P.length → f j 0 = .ints true (mbL (P.getD j 0) 14)) (hj : j < P.length + 1) : (if j < P.length then f j 0 else V.ints true (mbL x 14)) = .ints true (mbL ((P ++ [x]).getD j 0) 14) := by
 split
 ·next h => rw [hf j h, show (P ++ [x]).getD j 0 = P.getD j 0 by simp [List.getD, List.getElem?_append_left h]]
 ·next h =>
  obtain rfl : j = P.length := by omega
  rw [show (P ++ [x]).getD P.length 0 = x by simp [List.getD]]
theorem range_getD (P : List Nat) : ((List.range P.length).map fun i => P.getD i 0) = P := by
 apply List.ext_getElem?
 intro j
 rw [List.getElem?_map]
 by_cases hj : j < P.length
 ·rw [List.getElem?_range hj, List.getElem?_eq_getElem hj]
  simp [List.getD, hj]
 ·rw [List.getElem?_eq_none (by simp; omega), List.getElem?_eq_none (by omega)]
  rfl
def wrM : List FuncId := [75]
theorem enters76 : ∀ args w, (callFunc 76 args).run Try.prog w = .ok (.enter 76 args) w := enters_of Try.func76 (by kernel_rfl) rfl
set_option maxRecDepth 100000 in
set_option maxHeartbeats 1000000 in
theorem mends_cm {n m : Nat} {A B : Nat → Nat} (h : Qok n m A B) : ACM Try.prog 53 [qu n m A B] [] (fun R M => ∃ (t ver : Nat) (f : Nat → Nat → V) (Q : List Nat), R = .sl t ver 0 Q.length ∧ M.get t = some ⟨25, 1, ver, .cv Q.length f⟩ ∧ (∀ j, j < Q.length → f j 0 = .ints true (mbL (Q.getD j 0) 14)) ∧ Q.Perm (mdL n m A B) ∧ ∀ i j, i < j → j < Q.length → ¬ cmpL (mbL (Q.getD j 0) 14) (mbL (Q.getD i 0) 14) < 0) := by
 refine ACM_of (T := tab) (wr := wrM) tab_ok Try.func53 (by decide) rfl (Nat.le_of_ble_eq_true rfl) (fun nb => ?_)
 have hm := h.q.sm
 have c1 := cuts_pure h.q
 have hpm : 2 ^ m ≤ 2 ^ 14 := Nat.pow_le_pow_right (by decide) hm
 have hp0 : 0 < 2 ^ m := Nat.two_pow_pos m
 ((conv=>whnf);repeat (refine Wa ?_;(repeat (first|refine Wb ?_|refine Wc ?_|refine Wd ?_|refine We ?_|refine Wf ?_));(conv=>whnf)))
 refine APure.to (APure.arg1 (subQ rfl rfl) c1) ?_
 ((conv=>whnf);repeat (refine Wa ?_;(repeat (first|refine Wb ?_|refine Wc ?_|refine Wd ?_|refine We ?_|refine Wf ?_));(conv=>whnf)))
 refine ⟨by omega, ?_⟩
 rw [shlI (by omega)]
 ((conv=>whnf);repeat (refine Wa ?_;(repeat (first|refine Wb ?_|refine Wc ?_|refine Wd ?_|refine We ?_|refine Wf ?_));(conv=>whnf)))
 refine AW_loop (X := ⟨Try.prog, tab, wrM, 45, nb, false⟩) tab_ok [1, 3, 4, 5, 16, 17] (fun vs M => ∃ (k : Nat) (v : V), k ≤ 2 ^ m ∧ Hl M v (mdS n m A B k).2 ∧ M.get 0 = some (quO n m (fun j => A j) (fun j => B j)) ∧ 0 < M.length ∧ vs = [.ptr 0 0 0 0, cusV m A B true (cutL n m A B (fullN n)), v, .int (mdS n m A B k).1, .int (2 ^ m : Nat), .int k]) (fun vs _ => 2 ^ m - (vs.getD 5 .any).toInt.toNat) ?_ ?_
 ·exact ⟨0, _, Nat.zero_le _, .inl ⟨rfl, rfl⟩, rfl, Nat.zero_lt_one, rfl⟩
 rintro vs M ⟨k, v, hk, hH, f0, hl0, rfl⟩
 have hsp := mdS_spec (n := n) (A := A) (B := B) hm k hk
 have hE : mdS n m A B (k + 1) = if ct k 14 > (mdS n m A B k).1 ∨ mtS n m A B k = false then mdS n m A B k else if ct k 14 < (mdS n m A B k).1 then (ct k 14, [k]) else ((mdS n m A B k).1, (mdS n m A B k).2 ++ [k]) := rfl
 have hll := hsp.2.2.2
 ((conv=>whnf);repeat (refine Wa ?_;(repeat (first|refine Wb ?_|refine Wc ?_|refine Wd ?_|refine We ?_|refine Wf ?_));(conv=>whnf)))
 refine br_dec (fun hlt => ?_) (fun hge => ?_)
 ·have hk' : k < 2 ^ m := by have : (k : Int) < (2 ^ m : Nat) := hlt; omega
  have hk14 : k < 16384 := by omega
  have c2 := Ones_pure k hk14
  have c3 := meets_pure h.q (cutL n m A B (fullN n)) k (by omega)
  have hC1 := ct_m hk' hm
  ((conv=>whnf);repeat (refine Wa ?_;(repeat (first|refine Wb ?_|refine Wc ?_|refine Wd ?_|refine We ?_|refine Wf ?_));(conv=>whnf)))
  rw [wrU (by omega)]
  refine APure.to c2 ?_
  ((conv=>whnf);repeat (refine Wa ?_;(repeat (first|refine Wb ?_|refine Wc ?_|refine Wd ?_|refine We ?_|refine Wf ?_));(conv=>whnf)))
  refine br_dec (fun h1 => ?_) (fun h1 => ?_)
  ·have h1 : ((ct k 14 : Nat) : Int) > (mdS n m A B k).1 := h1
   have E := hE.trans (if_pos (.inl (by omega)))
   have hH' : Hl M v (mdS n m A B (k + 1)).2 := by rw [E]; exact hH
   ((conv=>whnf);repeat (refine Wa ?_;(repeat (first|refine Wb ?_|refine Wc ?_|refine Wd ?_|refine We ?_|refine Wf ?_));(conv=>whnf)))
   refine ⟨inr (by omega), ?_⟩
   ((conv=>whnf);repeat (refine Wa ?_;(repeat (first|refine Wb ?_|refine Wc ?_|refine Wd ?_|refine We ?_|refine Wf ?_));(conv=>whnf)))
   exact ⟨⟨k + 1, v, hk', hH', f0, hl0, by rw [E]; rfl⟩, by simp [V.toInt, sel, Env.get]; omega⟩
  have h1 : ¬ ((ct k 14 : Nat) : Int) > (mdS n m A B k).1 := h1
  ((conv=>whnf);repeat (refine Wa ?_;(repeat (first|refine Wb ?_|refine Wc ?_|refine Wd ?_|refine We ?_|refine Wf ?_));(conv=>whnf)))
  refine APure.to (APure.arg2 (Sub.refl _) subCu c3) ?_
  ((conv=>whnf);repeat (refine Wa ?_;(repeat (first|refine Wb ?_|refine Wc ?_|refine Wd ?_|refine We ?_|refine Wf ?_));(conv=>whnf)))
  refine br_not ?_
  refine br_mk (fun h2 => ?_) (fun h2 => ?_)
  ·have h2 : mtS n m A B k = true := h2
   have hE2 := hE.trans (if_neg (by intro hh; rcases hh with hh | hh; exact h1 (by omega); rw [h2] at hh; cases hh))
   ((conv=>whnf);repeat (refine Wa ?_;(repeat (first|refine Wb ?_|refine Wc ?_|refine Wd ?_|refine We ?_|refine Wf ?_));(conv=>whnf)))
   refine br_dec (fun h3 => ?_) (fun h3 => ?_)
   ·have h3 : ((ct k 14 : Nat) : Int) < (mdS n m A B k).1 := h3
    have E := hE2.trans (if_pos (by omega))
    ((conv=>whnf);repeat (refine Wa ?_;(repeat (first|refine Wb ?_|refine Wc ?_|refine Wd ?_|refine We ?_|refine Wf ?_));(conv=>whnf)))
    refine APure.to (members_pure 14 k (by omega) hk14) ?_
    ((conv=>whnf);repeat (refine Wa ?_;(repeat (first|refine Wb ?_|refine Wc ?_|refine Wd ?_|refine We ?_|refine Wf ?_));(conv=>whnf)))
    rw [forceNP_eq]
    ((conv=>whnf);repeat (refine Wa ?_;(repeat (first|refine Wb ?_|refine Wc ?_|refine Wd ?_|refine We ?_|refine Wf ?_));(conv=>whnf)))
    obtain ⟨M5, hMe5⟩ : ∃ M5, M.put M.length ⟨25, 1, 0, .cv 1 fun _ _ => .ints true (mbL k 14)⟩ = M5 := ⟨_, rfl⟩
    obtain ⟨g5, l5, o5⟩ := putN hMe5
    refine gen_mem hMe5 ?_
    ((conv=>whnf);repeat (refine Wa ?_;(repeat (first|refine Wb ?_|refine Wc ?_|refine Wd ?_|refine We ?_|refine Wf ?_));(conv=>whnf)))
    rw [forceNP_eq]
    ((conv=>whnf);repeat (refine Wa ?_;(repeat (first|refine Wb ?_|refine Wc ?_|refine Wd ?_|refine We ?_|refine Wf ?_));(conv=>whnf)))
    refine stepO (by exact app_emp (T := tab) (e := 25) rfl rfl (srcV_cv g5)) ?_
    ((conv=>whnf);repeat (refine Wa ?_;(repeat (first|refine Wb ?_|refine Wc ?_|refine Wd ?_|refine We ?_|refine Wf ?_));(conv=>whnf)))
    refine ⟨(show (24 : Int) * ((1 : Nat) : Int) ≤ 140737488355328 by omega), ?_⟩
    ((conv=>whnf);repeat (refine Wa ?_;(repeat (first|refine Wb ?_|refine Wc ?_|refine Wd ?_|refine We ?_|refine Wf ?_));(conv=>whnf)))
    obtain ⟨M6, hMe6⟩ : ∃ M6, M5.put M5.length ⟨25, 1, 0, .cv 1 fun _ _ => .ints true (mbL k 14)⟩ = M6 := ⟨_, rfl⟩
    obtain ⟨g6, l6, o6⟩ := putN hMe6
    refine gen_mem hMe6 ?_
    ((conv=>whnf);repeat (refine Wa ?_;(repeat (first|refine Wb ?_|refine Wc ?_|refine Wd ?_|refine We ?_|refine Wf ?_));(conv=>whnf)))
    refine ⟨inr (by omega), ?_⟩
    ((conv=>whnf);repeat (refine Wa ?_;(repeat (first|refine Wb ?_|refine Wc ?_|refine Wd ?_|refine We ?_|refine Wf ?_));(conv=>whnf)))
    refine ⟨⟨k + 1, .sl M5.length 0 0 1, hk', .inr ⟨M5.length, 0, _, by omega, by rw [E]; rfl, by rw [g6, E]; rfl, fun j hj => ?_⟩, ?_, by omega, by rw [E]; rfl⟩, by simp [V.toInt, sel, Env.get]; omega⟩
    ·rw [E] at hj ⊢
     have hj : j < 1 := hj
     obtain rfl : j = 0 := by omega
     rfl
    ·rw [o6 0 (by omega), o5 0 (by omega)]; exact f0
   ·have h3 : ¬ ((ct k 14 : Nat) : Int) < (mdS n m A B k).1 := h3
    have E := hE2.trans (if_neg (by omega))
    rcases hH with ⟨hP, rfl⟩ | ⟨t, ver, f, ht0, rfl, ht, hf⟩
    ·rw [hP, List.nil_append] at E
     ((conv=>whnf);repeat (refine Wa ?_;(repeat (first|refine Wb ?_|refine Wc ?_|refine Wd ?_|refine We ?_|refine Wf ?_));(conv=>whnf)))
     refine APure.to (members_pure 14 k (by omega) hk14) ?_
     ((conv=>whnf);repeat (refine Wa ?_;(repeat (first|refine Wb ?_|refine Wc ?_|refine Wd ?_|refine We ?_|refine Wf ?_));(conv=>whnf)))
     rw [forceNP_eq]
     ((conv=>whnf);repeat (refine Wa ?_;(repeat (first|refine Wb ?_|refine Wc ?_|refine Wd ?_|refine We ?_|refine Wf ?_));(conv=>whnf)))
     obtain ⟨M5, hMe5⟩ : ∃ M5, M.put M.length ⟨25, 1, 0, .cv 1 fun _ _ => .ints true (mbL k 14)⟩ = M5 := ⟨_, rfl⟩
     obtain ⟨g5, l5, o5⟩ := putN hMe5
     refine gen_mem hMe5 ?_
     ((conv=>whnf);repeat (refine Wa ?_;(repeat (first|refine Wb ?_|refine Wc ?_|refine Wd ?_|refine We ?_|refine Wf ?_));(conv=>whnf)))
     rw [forceNP_eq]
     ((conv=>whnf);repeat (refine Wa ?_;(repeat (first|refine Wb ?_|refine Wc ?_|refine Wd ?_|refine We ?_|refine Wf ?_));(conv=>whnf)))
     refine stepO (by exact app_emp (T := tab) (e := 25) rfl rfl (srcV_cv g5)) ?_
     ((conv=>whnf);repeat (refine Wa ?_;(repeat (first|refine Wb ?_|refine Wc ?_|refine Wd ?_|refine We ?_|refine Wf ?_));(conv=>whnf)))
     refine ⟨(show (24 : Int) * ((1 : Nat) : Int) ≤ 140737488355328 by omega), ?_⟩
     ((conv=>whnf);repeat (refine Wa ?_;(repeat (first|refine Wb ?_|refine Wc ?_|refine Wd ?_|refine We ?_|refine Wf ?_));(conv=>whnf)))
     obtain ⟨M6, hMe6⟩ : ∃ M6, M5.put M5.length ⟨25, 1, 0, .cv 1 fun _ _ => .ints true (mbL k 14)⟩ = M6 := ⟨_, rfl⟩
     obtain ⟨g6, l6, o6⟩ := putN hMe6
     refine gen_mem hMe6 ?_
     ((conv=>whnf);repeat (refine Wa ?_;(repeat (first|refine Wb ?_|refine Wc ?_|refine Wd ?_|refine We ?_|refine Wf ?_));(conv=>whnf)))
     refine ⟨inr (by omega), ?_⟩
     ((conv=>whnf);repeat (refine Wa ?_;(repeat (first|refine Wb ?_|refine Wc ?_|refine Wd ?_|refine We ?_|refine Wf ?_));(conv=>whnf)))
     refine ⟨⟨k + 1, .sl M5.length 0 0 1, hk', .inr ⟨M5.length, 0, _, by omega, by rw [E]; rfl, by rw [g6, E]; rfl, fun j hj => ?_⟩, ?_, by omega, by rw [E]; rfl⟩, by simp [V.toInt, sel, Env.get]; omega⟩
     ·rw [E] at hj ⊢
      have hj : j < 1 := hj
      obtain rfl : j = 0 := by omega
      rfl
     ·rw [o6 0 (by omega), o5 0 (by omega)]; exact f0
    ·((conv=>whnf);repeat (refine Wa ?_;(repeat (first|refine Wb ?_|refine Wc ?_|refine Wd ?_|refine We ?_|refine Wf ?_));(conv=>whnf)))
     refine APure.to (members_pure 14 k (by omega) hk14) ?_
     ((conv=>whnf);repeat (refine Wa ?_;(repeat (first|refine Wb ?_|refine Wc ?_|refine Wd ?_|refine We ?_|refine Wf ?_));(conv=>whnf)))
     rw [forceNP_eq]
     ((conv=>whnf);repeat (refine Wa ?_;(repeat (first|refine Wb ?_|refine Wc ?_|refine Wd ?_|refine We ?_|refine Wf ?_));(conv=>whnf)))
     obtain ⟨M5, hMe5⟩ : ∃ M5, M.put M.length ⟨25, 1, 0, .cv 1 fun _ _ => .ints true (mbL k 14)⟩ = M5 := ⟨_, rfl⟩
     obtain ⟨g5, l5, o5⟩ := putN hMe5
     refine gen_mem hMe5 ?_
     ((conv=>whnf);repeat (refine Wa ?_;(repeat (first|refine Wb ?_|refine Wc ?_|refine Wd ?_|refine We ?_|refine Wf ?_));(conv=>whnf)))
     rw [forceNP_eq]
     ((conv=>whnf);repeat (refine Wa ?_;(repeat (first|refine Wb ?_|refine Wc ?_|refine Wd ?_|refine We ?_|refine Wf ?_));(conv=>whnf)))
     have htl := get_lt ht
     refine stepO (by exact app_cv (T := tab) (e := 25) rfl rfl (srcV_cv g5) ((o5 t htl).trans ht)) ?_
     ((conv=>whnf);repeat (refine Wa ?_;(repeat (first|refine Wb ?_|refine Wc ?_|refine Wd ?_|refine We ?_|refine Wf ?_));(conv=>whnf)))
     refine eqn_self ?_
     ((conv=>whnf);repeat (refine Wa ?_;(repeat (first|refine Wb ?_|refine Wc ?_|refine Wd ?_|refine We ?_|refine Wf ?_));(conv=>whnf)))
     refine ⟨(show (24 : Int) * (((mdS n m A B k).2.length : Int) + (1 : Nat)) ≤ 140737488355328 by omega), ?_⟩
     ((conv=>whnf);repeat (refine Wa ?_;(repeat (first|refine Wb ?_|refine Wc ?_|refine Wd ?_|refine We ?_|refine Wf ?_));(conv=>whnf)))
     obtain ⟨M6, hMe6⟩ : ∃ M6, M5.put t ⟨25, 1, ver + 1, .cv ((mdS n m A B k).2.length + 1) fun j o => if j < (mdS n m A B k).2.length then f j o else .ints true (mbL k 14)⟩ = M6 := ⟨_, rfl⟩
     obtain ⟨g6, l6, o6⟩ := putO hMe6
     refine gen_mem hMe6 ?_
     ((conv=>whnf);repeat (refine Wa ?_;(repeat (first|refine Wb ?_|refine Wc ?_|refine Wd ?_|refine We ?_|refine Wf ?_));(conv=>whnf)))
     refine ⟨inr (by omega), ?_⟩
     ((conv=>whnf);repeat (refine Wa ?_;(repeat (first|refine Wb ?_|refine Wc ?_|refine Wd ?_|refine We ?_|refine Wf ?_));(conv=>whnf)))
     refine ⟨⟨k + 1, .sl t (ver + 1) 0 ((mdS n m A B k).2.length + 1), hk', .inr ⟨t, ver + 1, _, ht0, by rw [E]; exact congrArg (V.sl t (ver + 1) 0) (by simp), by rw [g6, E]; exact congrArg (fun q => some (⟨25, 1, ver + 1, .cv q _⟩ : Ob)) (by simp), fun j hj => ?_⟩, ?_, by omega, by rw [E]; rfl⟩, by simp [V.toInt, sel, Env.get]; omega⟩
     ·rw [E] at hj ⊢
      have hj : j < (mdS n m A B k).2.length + 1 := by simpa using hj
      exact rowsF_new hf hj
     ·rw [o6 0 (by omega), o5 0 (by omega)]; exact f0
  ·have h2 : mtS n m A B k = false := h2
   have E := hE.trans (if_pos (.inr h2))
   have hH' : Hl M v (mdS n m A B (k + 1)).2 := by rw [E]; exact hH
   ((conv=>whnf);repeat (refine Wa ?_;(repeat (first|refine Wb ?_|refine Wc ?_|refine Wd ?_|refine We ?_|refine Wf ?_));(conv=>whnf)))
   refine ⟨inr (by omega), ?_⟩
   ((conv=>whnf);repeat (refine Wa ?_;(repeat (first|refine Wb ?_|refine Wc ?_|refine Wd ?_|refine We ?_|refine Wf ?_));(conv=>whnf)))
   exact ⟨⟨k + 1, v, hk', hH', f0, hl0, by rw [E]; rfl⟩, by simp [V.toInt, sel, Env.get]; omega⟩
 ·obtain rfl : k = 2 ^ m := by have : ¬ (k : Int) < (2 ^ m : Nat) := hge; omega
  have hpos := mdL_pos h
  rcases hH with ⟨hP, _⟩ | ⟨t, ver, f, ht0, rfl, ht, hf⟩
  ·have : (mdS n m A B (2 ^ m)).2.length = 0 := by rw [hP]; rfl
   exact absurd hpos (by unfold mdL; omega)
  ·((conv=>whnf);repeat (refine Wa ?_;(repeat (first|refine Wb ?_|refine Wc ?_|refine Wd ?_|refine We ?_|refine Wf ?_));(conv=>whnf)))
   have hlen : (mdS n m A B (2 ^ m)).2.length ≤ 2 ^ m := hsp.2.2.2
   refine ACM.mono (show ACM Try.prog 75 [.sl t ver 0 (mdS n m A B (2 ^ m)).2.length, .clo 76 0 fun _ => .any] M _ from ACM_sortRows Try.sortRows ⟨_, Try.func75, by decide, rfl⟩ (R := fun j => mbL ((mdS n m A B (2 ^ m)).2.getD j 0) 14) ht hf hpos (by omega) enters76 cmpL cmpL_swo CompareL_pure) ?_
   rintro R M' ⟨rfl, σ, hs1, hs2, hs3, rfl⟩
   ((conv=>whnf);repeat (refine Wa ?_;(repeat (first|refine Wb ?_|refine Wc ?_|refine Wd ?_|refine We ?_|refine Wf ?_));(conv=>whnf)))
   have hlQ : ((List.range (mdS n m A B (2 ^ m)).2.length).map fun j => (mdS n m A B (2 ^ m)).2.getD (σ j) 0).length = (mdS n m A B (2 ^ m)).2.length := by simp
   have hgQ : ∀ j, j < (mdS n m A B (2 ^ m)).2.length → ((List.range (mdS n m A B (2 ^ m)).2.length).map fun j => (mdS n m A B (2 ^ m)).2.getD (σ j) 0).getD j 0 = (mdS n m A B (2 ^ m)).2.getD (σ j) 0 := fun j hj => by
    rw [List.getD_eq_getElem?_getD, List.getElem?_map, List.getElem?_range hj]
    rfl
   refine ⟨_, rfl, t, ver, _, (List.range (mdS n m A B (2 ^ m)).2.length).map fun j => (mdS n m A B (2 ^ m)).2.getD (σ j) 0, by rw [hlQ]; rfl, by rw [hlQ]; exact Mem.get_put_same .., fun j hj => ?_, ?_, fun i j hij hj => ?_⟩
   ·rw [hlQ] at hj
    rw [hgQ j hj]
   ·have h1 := hs2.map fun i => (mdS n m A B (2 ^ m)).2.getD i 0
    rw [List.map_map] at h1
    refine (List.Perm.of_eq ?_).trans (h1.trans (List.Perm.of_eq ?_))
    ·rfl
    ·exact range_getD _
   ·rw [hlQ] at hj
    rw [hgQ j hj, hgQ i (by omega)]
    exact of_decide_eq_false (hs3 i j hij hj)
end Go.Tri
