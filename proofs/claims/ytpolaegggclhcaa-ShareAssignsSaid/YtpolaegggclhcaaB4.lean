/-
 CONTRACTS: assignments, of no list: all.
-/
import Derived.Test.YtpolaegggclhcaaB3
namespace Go.Tri
open Go.Proofs

@[reducible] noncomputable def xB : Cx := ⟨Try.prog, tab, wrA, 32, 0, false⟩
def OutY (L : List (List Int)) (o : V) (M : Mem) : Prop := (L = [] ∧ o = .emp true ∧ M = []) ∨ (L ≠ [] ∧ ∃ ver, o = .sl 2 ver 0 L.length ∧ M = [none, none, some ⟨22, 1, ver, .cv L.length (rowF L)⟩])
set_option maxRecDepth 100000 in
theorem all_cm (n : Nat) (hn : 1 ≤ n ∧ n ≤ 5) : ACM Try.prog 87 [.emp true, .int n] [] (fun R _ => Flat noN R ∧ R = rowsV (asg n n [])) (some 0) := by
 obtain ⟨d, rfl⟩ : ∃ d, n = d + 1 := ⟨n - 1, by omega⟩
 refine ACM_ofW (T := tab) tab_ok Try.func87 (by decide) rfl (Nat.le_of_ble_eq_true rfl) ?_
 have hcn : ∀ (k : Nat), APure Try.prog 111 [.ints false [], .int k] (fun R => R = .bool false) := fun k => by
  have := Contains_pure [] k
  rw [decide_eq_false (by simp)] at this
  exact this
 have hbd := asgTo_bd (n := d + 1) (d := d) hn.2 (by omega) []
 refine AW_seqW (X := xB) tab_ok ?_
 ((conv=>whnf);repeat (refine Wa ?_;(repeat (first|refine Wb ?_|refine Wc ?_|refine Wd ?_|refine We ?_|refine Wf ?_));(conv=>whnf)))
 refine AW_seq ?_
 refine AW_seqW (X := xB) tab_ok ?_
 ((conv=>whnf);repeat (refine Wa ?_;(repeat (first|refine Wb ?_|refine Wc ?_|refine Wd ?_|refine We ?_|refine Wf ?_));(conv=>whnf)))
 refine AW_cond rfl (fun ht => ?_) (fun _ => ?_)
 ·exact absurd ht (by simp; omega)
 refine AW_of_awp (X := xB) tab_ok ?_
 ((conv=>whnf);repeat (refine Wa ?_;(repeat (first|refine Wb ?_|refine Wc ?_|refine Wd ?_|refine We ?_|refine Wf ?_));(conv=>whnf)))
 refine AW_seqW (X := xB) tab_ok ?_
 ((conv=>whnf);repeat (refine Wa ?_;(repeat (first|refine Wb ?_|refine Wc ?_|refine Wd ?_|refine We ?_|refine Wf ?_));(conv=>whnf)))
 refine AW_seq ?_
 refine AW_of_awp (X := xB) tab_ok ?_
 ((conv=>whnf);repeat (refine Wa ?_;(repeat (first|refine Wb ?_|refine Wc ?_|refine Wd ?_|refine We ?_|refine Wf ?_));(conv=>whnf)))
 refine AW_loopAW (X := xB) tab_ok [0, 1, 5, 14, 15] (fun t => Nat.beq t 2) (fun vs M => ∃ (k : Nat) (o : V), k ≤ d + 1 ∧ OutY (asgTo (d + 1) d [] k) o M ∧ vs = [.emp true, .int (d + 1 : Nat), o, .int (d + 1 : Nat), .int k])
  (fun vs _ => d + 1 - (vs.getD 4 .any).toInt.toNat) (fun t ht => absurd ht (by simp)) ?_ ?_
 ·exact same0 ⟨0, .emp true, Nat.zero_le _, .inl ⟨rfl, rfl, rfl⟩, rfl⟩
 rintro vs M ⟨k, o, hk, hO, rfl⟩
 have hsucc := asgTo_succ (d + 1) d [] k
 have hLn : k = d + 1 → asgTo (d + 1) d [] k ≠ [] := fun h => by rw [h]; exact asg_ne (d + 1) [] (by simp)
 have hLa : k = d + 1 → asgTo (d + 1) d [] k = asg (d + 1) (d + 1) [] := fun h => by rw [h]; rfl
 have hbk := hbd k
 have hbk1 := hbd (k + 1)
 have hcn := hcn k
 have hne := asg_ne (n := d + 1) d (([] : List Int) ++ [(k : Int)]) (by simp; omega)
 rw [if_neg (by simp)] at hsucc
 rw [hsucc, List.length_append] at hbk1
 generalize asgTo (d + 1) d [] k = L at *
 rcases hO with ⟨hL0, rfl, rfl⟩ | ⟨hL, ver, rfl, rfl⟩
 ·rw [hL0, List.nil_append] at hsucc
  refine AW_seqW (X := xB) tab_ok ?_
  ((conv=>whnf);repeat (refine Wa ?_;(repeat (first|refine Wb ?_|refine Wc ?_|refine Wd ?_|refine We ?_|refine Wf ?_));(conv=>whnf)))
  refine AW_seq ?_
  refine AW_of_awp (X := xB) tab_ok ?_
  ((conv=>whnf);repeat (refine Wa ?_;(repeat (first|refine Wb ?_|refine Wc ?_|refine Wd ?_|refine We ?_|refine Wf ?_));(conv=>whnf)))
  refine br_dec (fun hlt => ?_) (fun hge => ?_)
  ·((conv=>whnf);repeat (refine Wa ?_;(repeat (first|refine Wb ?_|refine Wc ?_|refine Wd ?_|refine We ?_|refine Wf ?_));(conv=>whnf)))
   refine AW_seq ?_
   refine AW_block ?_
   refine AW_seqW (X := xB) tab_ok ?_
   ((conv=>whnf);repeat (refine Wa ?_;(repeat (first|refine Wb ?_|refine Wc ?_|refine Wd ?_|refine We ?_|refine Wf ?_));(conv=>whnf)))
   refine AW_seqW (X := xB) tab_ok ?_
   ((conv=>whnf);repeat (refine Wa ?_;(repeat (first|refine Wb ?_|refine Wc ?_|refine Wd ?_|refine We ?_|refine Wf ?_));(conv=>whnf)))
   refine APure.to hcn ?_
   ((conv=>whnf);repeat (refine Wa ?_;(repeat (first|refine Wb ?_|refine Wc ?_|refine Wd ?_|refine We ?_|refine Wf ?_));(conv=>whnf)))
   refine AW_cond rfl (fun ht => ?_) (fun hf => nomatch hf)
   refine AW_regionO ?_
   refine AWo_take (X := xB) tab_ok 4 rfl rfl rfl ?_
   ((conv=>whnf);repeat (refine Wa ?_;(repeat (first|refine Wb ?_|refine Wc ?_|refine Wd ?_|refine We ?_|refine Wf ?_));(conv=>whnf)))
   refine AWo_rev (X := xB) (d2 := 26) (ys := []) (L := [(k : Int)]) tab_ok (by rfl) (by rfl) (by rfl) (by rfl) (by rfl) (by rfl) (by rfl) (show 26 < 32 by decide) (by rfl) (by rfl) (.inl ⟨true, rfl, rfl⟩) (by rfl) ?_
   ((conv=>whnf);repeat (refine Wa ?_;(repeat (first|refine Wb ?_|refine Wc ?_|refine Wd ?_|refine We ?_|refine Wf ?_));(conv=>whnf)))
   refine ⟨(show (0 : Int) < ((1 : Nat) : Int) by decide), ?_⟩
   refine ⟨(show (8 : Int) * (((0 : Nat) : Int) + ((1 : Nat) : Int)) ≤ 140737488355328 by decide), fun c hc => ?_⟩
   have ht2 : ([(k : Int)] ++ List.replicate (c - [(k : Int)].length) 0).take (([] : List Int) ++ [(k : Int)]).length = ([] : List Int) ++ [(k : Int)] := rfl
   have IH := asg_cm (d + 1) hn d (([] : List Int) ++ [(k : Int)]) ([(k : Int)] ++ List.replicate (c - [(k : Int)].length) 0) (by simp; omega) (by simp) (by simp) ht2
   generalize [(k : Int)] ++ List.replicate (c - [(k : Int)].length) 0 = ts2 at *
   refine AWo_take (X := xB) tab_ok 4 rfl rfl rfl ?_
   ((conv=>whnf);repeat (refine Wa ?_;(repeat (first|refine Wb ?_|refine Wc ?_|refine Wd ?_|refine We ?_|refine Wf ?_));(conv=>whnf)))
   refine ACM_xs (ys := [.sl 1 0 0 (([] : List Int) ++ [(k : Int)]).length, .int (d + 1 : Nat)]) rfl ?_
   refine ACM.mono (ACM_one (t := 1) (ob := kOb ts2) (ts := ts2) (Q := fun R ts' => R = rowsV (asg (d + 1) d (([] : List Int) ++ [(k : Int)])) ∧ ts'.length = ts2.length ∧ ts'.take (([] : List Int) ++ [(k : Int)]).length = ([] : List Int) ++ [(k : Int)]) rfl rfl IH) ?_
   rintro R M' ⟨ts3, ⟨rfl, hl3, ht3⟩, rfl⟩
   generalize asg (d + 1) d (([] : List Int) ++ [(k : Int)]) = L2 at *
   ((conv=>whnf);repeat (refine Wa ?_;(repeat (first|refine Wb ?_|refine Wc ?_|refine Wd ?_|refine We ?_|refine Wf ?_));(conv=>whnf)))
   refine ⟨(show (24 : Int) * (L2.length : Int) ≤ 140737488355328 by omega), ?_⟩
   ((conv=>whnf);repeat (refine Wa ?_;(repeat (first|refine Wb ?_|refine Wc ?_|refine Wd ?_|refine We ?_|refine Wf ?_));(conv=>whnf)))
   refine AWo_fin rfl ?_
   show AW _ _ _ _ _ _ _ _
   refine AW_of_awp (X := xB) tab_ok ?_
   ((conv=>whnf);repeat (refine Wa ?_;(repeat (first|refine Wb ?_|refine Wc ?_|refine Wd ?_|refine We ?_|refine Wf ?_));(conv=>whnf)))
   refine ⟨inr (by omega), ?_⟩
   ((conv=>whnf);repeat (refine Wa ?_;(repeat (first|refine Wb ?_|refine Wc ?_|refine Wd ?_|refine We ?_|refine Wf ?_));(conv=>whnf)))
   refine ⟨by repeat (first|exact trivial|exact rfl|exact fun _=>trivial|exact fun _ _=>trivial|exact fun _ _ _=>trivial|exact fun _ _ _ _=>trivial|refine And.intro ?_ ?_), memA1 [none, none, some ⟨22, 1, 0, .cv L2.length (rowF L2)⟩] ⟨ObSub.refl _, trivial⟩ ⟨⟨k + 1, .sl 2 0 0 L2.length, by omega, .inr ⟨by rw [hsucc]; exact hne, 0, by rw [hsucc], by rw [hsucc]⟩, rfl⟩, ?_⟩⟩
   simp [V.toInt, sel, Env.get]; omega
  ·exact absurd hL0 (hLn (by omega))
 ·refine AW_seqW (X := xB) tab_ok ?_
  ((conv=>whnf);repeat (refine Wa ?_;(repeat (first|refine Wb ?_|refine Wc ?_|refine Wd ?_|refine We ?_|refine Wf ?_));(conv=>whnf)))
  refine AW_seq ?_
  refine AW_of_awp (X := xB) tab_ok ?_
  ((conv=>whnf);repeat (refine Wa ?_;(repeat (first|refine Wb ?_|refine Wc ?_|refine Wd ?_|refine We ?_|refine Wf ?_));(conv=>whnf)))
  refine br_dec (fun hlt => ?_) (fun hge => ?_)
  ·((conv=>whnf);repeat (refine Wa ?_;(repeat (first|refine Wb ?_|refine Wc ?_|refine Wd ?_|refine We ?_|refine Wf ?_));(conv=>whnf)))
   refine AW_seq ?_
   refine AW_block ?_
   refine AW_seqW (X := xB) tab_ok ?_
   ((conv=>whnf);repeat (refine Wa ?_;(repeat (first|refine Wb ?_|refine Wc ?_|refine Wd ?_|refine We ?_|refine Wf ?_));(conv=>whnf)))
   refine AW_seqW (X := xB) tab_ok ?_
   ((conv=>whnf);repeat (refine Wa ?_;(repeat (first|refine Wb ?_|refine Wc ?_|refine Wd ?_|refine We ?_|refine Wf ?_));(conv=>whnf)))
   refine APure.to hcn ?_
   ((conv=>whnf);repeat (refine Wa ?_;(repeat (first|refine Wb ?_|refine Wc ?_|refine Wd ?_|refine We ?_|refine Wf ?_));(conv=>whnf)))
   refine AW_cond rfl (fun ht => ?_) (fun hf => nomatch hf)
   refine AW_regionO ?_
   refine AWo_take (X := xB) tab_ok 4 rfl rfl rfl ?_
   ((conv=>whnf);repeat (refine Wa ?_;(repeat (first|refine Wb ?_|refine Wc ?_|refine Wd ?_|refine We ?_|refine Wf ?_));(conv=>whnf)))
   refine AWo_rev (X := xB) (d2 := 26) (ys := []) (L := [(k : Int)]) tab_ok (by rfl) (by rfl) (by rfl) (by rfl) (by rfl) (by rfl) (by rfl) (show 26 < 32 by decide) (by rfl) (by rfl) (.inl ⟨true, rfl, rfl⟩) (by rfl) ?_
   ((conv=>whnf);repeat (refine Wa ?_;(repeat (first|refine Wb ?_|refine Wc ?_|refine Wd ?_|refine We ?_|refine Wf ?_));(conv=>whnf)))
   refine ⟨(show (0 : Int) < ((1 : Nat) : Int) by decide), ?_⟩
   refine ⟨(show (8 : Int) * (((0 : Nat) : Int) + ((1 : Nat) : Int)) ≤ 140737488355328 by decide), fun c hc => ?_⟩
   have ht2 : ([(k : Int)] ++ List.replicate (c - [(k : Int)].length) 0).take (([] : List Int) ++ [(k : Int)]).length = ([] : List Int) ++ [(k : Int)] := rfl
   have IH := asg_cm (d + 1) hn d (([] : List Int) ++ [(k : Int)]) ([(k : Int)] ++ List.replicate (c - [(k : Int)].length) 0) (by simp; omega) (by simp) (by simp) ht2
   generalize [(k : Int)] ++ List.replicate (c - [(k : Int)].length) 0 = ts2 at *
   refine AWo_take (X := xB) tab_ok 4 rfl rfl rfl ?_
   ((conv=>whnf);repeat (refine Wa ?_;(repeat (first|refine Wb ?_|refine Wc ?_|refine Wd ?_|refine We ?_|refine Wf ?_));(conv=>whnf)))
   refine ACM_xs (ys := [.sl 4 0 0 (([] : List Int) ++ [(k : Int)]).length, .int (d + 1 : Nat)]) rfl ?_
   refine ACM.mono (ACM_one (t := 4) (ob := kOb ts2) (ts := ts2) (Q := fun R ts' => R = rowsV (asg (d + 1) d (([] : List Int) ++ [(k : Int)])) ∧ ts'.length = ts2.length ∧ ts'.take (([] : List Int) ++ [(k : Int)]).length = ([] : List Int) ++ [(k : Int)]) rfl rfl IH) ?_
   rintro R M' ⟨ts3, ⟨rfl, hl3, ht3⟩, rfl⟩
   generalize asg (d + 1) d (([] : List Int) ++ [(k : Int)]) = L2 at *
   ((conv=>whnf);repeat (refine Wa ?_;(repeat (first|refine Wb ?_|refine Wc ?_|refine Wd ?_|refine We ?_|refine Wf ?_));(conv=>whnf)))
   refine eqn_self ?_
   refine ⟨(show (24 : Int) * ((L.length : Int) + (L2.length : Int)) ≤ 140737488355328 by omega), ?_⟩
   ((conv=>whnf);repeat (refine Wa ?_;(repeat (first|refine Wb ?_|refine Wc ?_|refine Wd ?_|refine We ?_|refine Wf ?_));(conv=>whnf)))
   refine AWo_fin rfl ?_
   show AW _ _ _ _ _ _ _ _
   refine AW_of_awp (X := xB) tab_ok ?_
   ((conv=>whnf);repeat (refine Wa ?_;(repeat (first|refine Wb ?_|refine Wc ?_|refine Wd ?_|refine We ?_|refine Wf ?_));(conv=>whnf)))
   refine ⟨inr (by omega), ?_⟩
   ((conv=>whnf);repeat (refine Wa ?_;(repeat (first|refine Wb ?_|refine Wc ?_|refine Wd ?_|refine We ?_|refine Wf ?_));(conv=>whnf)))
   refine ⟨?_, memA1 [none, none, some ⟨22, 1, ver + 1, .cv (L.length + L2.length) (rowF (L ++ L2))⟩] ⟨?_, trivial⟩ ⟨⟨k + 1, .sl 2 (ver + 1) 0 (L.length + L2.length), by omega, .inr ⟨by rw [hsucc]; simp [hL], ver + 1, by rw [hsucc, List.length_append], by rw [hsucc, List.length_append]⟩, rfl⟩, ?_⟩⟩
   ·refine ⟨by repeat (first|exact trivial|exact rfl|exact fun _=>trivial|exact fun _ _=>trivial|exact fun _ _ _=>trivial|exact fun _ _ _ _=>trivial|refine And.intro ?_ ?_), ?_⟩
    refine ⟨fun j q _ _ => ?_, trivial⟩
    show Named _ (if j < L.length then rowF L j q else _)
    split <;> exact trivial
   ·first | exact ObSub_rows | exact ObSub_rows'
   ·simp [V.toInt, sel, Env.get]; omega
  ·have hkn : k = d + 1 := by omega
   ((conv=>whnf);repeat (refine Wa ?_;(repeat (first|refine Wb ?_|refine Wc ?_|refine Wd ?_|refine We ?_|refine Wf ?_));(conv=>whnf)))
   refine AW_seqW (X := xB) tab_ok ?_
   ((conv=>whnf);repeat (refine Wa ?_;(repeat (first|refine Wb ?_|refine Wc ?_|refine Wd ?_|refine We ?_|refine Wf ?_));(conv=>whnf)))
   refine AW_freezeSL [4] [rowsV L] rfl (by decide) ⟨.inr ⟨_, rfl, rfl, fun j k _ _ => rfl⟩, trivial⟩ ?_
   refine AW_of_awp (X := xB) tab_ok ?_
   ((conv=>whnf);repeat (refine Wa ?_;(repeat (first|refine Wb ?_|refine Wc ?_|refine Wd ?_|refine We ?_|refine Wf ?_));(conv=>whnf)))
   exact ⟨_, rfl, flat_rows L, (show rowsV L = _ by rw [hLa hkn])⟩
/-- It makes memory alone. -/
theorem all_imm (n : Nat) (hn : 1 ≤ n ∧ n ≤ 5) : AImm Try.prog 87 [.emp true, .int n] (fun R => R = rowsV (asg n n [])) := AImm_of0 (fun i φ base w v h => by
 match i with
 | 0 => exact h
 | 1 => exact h
 | i + 2 => trivial) (all_cm n hn)
end Go.Tri
