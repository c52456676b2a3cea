/-
 CONTRACTS: assignments, of a list that is there (written by wip/bin/genb3.py).
-/
import Derived.Test.YtpolaegggclhcaaB2
namespace Go.Tri
open Go.Proofs

def asgQ (n d : Nat) (list ts : List Int) (R : V) (M' : Mem) : Prop := Flat noN R ∧ ∃ ts', M'.get 0 = some { kOb ts with c := .kil ts' } ∧ (R = rowsV (asg n d list) ∧ ts'.length = ts.length ∧ ts'.take list.length = list)
@[reducible] noncomputable def xA : Cx := ⟨Try.prog, tab, wrA, 32, 1, false⟩
def OutX (m : Nat) (L : List (List Int)) (o : V) (ts1 : List Int) (M : Mem) : Prop := (L = [] ∧ o = .emp true ∧ M = [some (kOb ts1)]) ∨ (L ≠ [] ∧ ∃ ver, o = .sl (m + 1) ver 0 L.length ∧ M = some (kOb ts1) :: (List.replicate m none ++ [some ⟨22, 1, ver, .cv L.length (rowF L)⟩]))
theorem rowF_app {L L2 : List (List Int)} {j k : Nat} : (if j < L.length then rowF L j k else rowF L2 (j - L.length) k) = rowF (L ++ L2) j k := by
 unfold rowF
 by_cases h : j < L.length
 ·rw [if_pos h]
  simp only [List.getD_eq_getElem?_getD, List.getElem?_append_left h]
 ·rw [if_neg h]
  simp only [List.getD_eq_getElem?_getD, List.getElem?_append_right (Nat.le_of_not_lt h)]
theorem ObSub_rows {e ver : Nat} {L L2 : List (List Int)} : ObSub ⟨e, 1, ver, .cv (L.length + L2.length) fun j k => if j < L.length then rowF L j k else rowF L2 (0 + (j - L.length)) k⟩ ⟨e, 1, ver, .cv (L.length + L2.length) (rowF (L ++ L2))⟩ := ⟨rfl, rfl, rfl, rfl, ⟨rfl, rfl⟩, fun j k _ _ => Sub.of (by
 show (if j < L.length then rowF L j k else rowF L2 (0 + (j - L.length)) k) = _
 rw [Nat.zero_add]
 exact rowF_app)⟩
theorem ObSub_rows' {e ver : Nat} {L L2 : List (List Int)} : ObSub ⟨e, 1, ver, .cv (L.length + L2.length) fun j k => if j < L.length then rowF L j k else rowF L2 (j - L.length) k⟩ ⟨e, 1, ver, .cv (L.length + L2.length) (rowF (L ++ L2))⟩ := ⟨rfl, rfl, rfl, rfl, ⟨rfl, rfl⟩, fun _ _ _ _ => Sub.of rowF_app⟩
set_option maxRecDepth 100000 in
theorem asg_cm (n : Nat) (hn : 1 ≤ n ∧ n ≤ 5) : ∀ (d : Nat) (list ts : List Int), list.length + d = n → 1 ≤ list.length → list.length ≤ ts.length → ts.take list.length = list →
  ACM Try.prog 87 [.sl 0 0 0 list.length, .int n] [some (kOb ts)] (asgQ n d list ts) (some 1) := by
 intro d
 induction d with
 | zero =>
  intro list ts hl h1 hle htk
  refine ACM_ofW (T := tab) tab_ok Try.func87 (by decide) rfl (Nat.le_of_ble_eq_true rfl) ?_
  have hc : APure Try.prog 110 [.ints false ((ts.drop 0).take list.length)] (fun R => R = .ints true list) := by rw [List.drop_zero, htk]; exact Clone_pure list (by omega)
  refine AW_seqW (X := xA) tab_ok ?_
  ((conv=>whnf);repeat (refine Wa ?_;(repeat (first|refine Wb ?_|refine Wc ?_|refine Wd ?_|refine We ?_|refine Wf ?_));(conv=>whnf)))
  refine AW_seq ?_
  refine AW_seqW (X := xA) tab_ok ?_
  ((conv=>whnf);repeat (refine Wa ?_;(repeat (first|refine Wb ?_|refine Wc ?_|refine Wd ?_|refine We ?_|refine Wf ?_));(conv=>whnf)))
  refine AW_cond rfl (fun _ => ?_) (fun hf => ?_)
  ·refine AW_seqW (X := xA) tab_ok ?_
   ((conv=>whnf);repeat (refine Wa ?_;(repeat (first|refine Wb ?_|refine Wc ?_|refine Wd ?_|refine We ?_|refine Wf ?_));(conv=>whnf)))
   refine APure.to hc ?_
   ((conv=>whnf);repeat (refine Wa ?_;(repeat (first|refine Wb ?_|refine Wc ?_|refine Wd ?_|refine We ?_|refine Wf ?_));(conv=>whnf)))
   refine AW_freezeSL [4] [rowsV [list]] rfl (Nat.le_refl _) ⟨.inr ⟨_, rfl, rfl, fun j k hj _ => ?_⟩, trivial⟩ ?_
   ·obtain rfl : j = 0 := by have : j < 1 := hj; omega
    rfl
   refine AW_of_awp (X := xA) tab_ok ?_
   ((conv=>whnf);repeat (refine Wa ?_;(repeat (first|refine Wb ?_|refine Wc ?_|refine Wd ?_|refine We ?_|refine Wf ?_));(conv=>whnf)))
   exact ⟨_, rfl, flat_rows [list], ts, rfl, rfl, rfl, htk⟩
  ·exact absurd hf (by simp; omega)
 | succ d ih =>
  intro list ts hl h1 hle htk
  refine ACM_ofW (T := tab) tab_ok Try.func87 (by decide) rfl (Nat.le_of_ble_eq_true rfl) ?_
  have hcn : ∀ (ts1 : List Int) (k : Nat), ts1.take list.length = list → APure Try.prog 111 [.ints false ((ts1.drop 0).take list.length), .int k] (fun R => R = .bool (decide ((k : Int) ∈ list))) := fun ts1 k h => by
   rw [List.drop_zero, h]
   exact Contains_pure list k
  have hbd := asgTo_bd (n := n) (d := d) hn.2 (by omega) list
  refine AW_seqW (X := xA) tab_ok ?_
  ((conv=>whnf);repeat (refine Wa ?_;(repeat (first|refine Wb ?_|refine Wc ?_|refine Wd ?_|refine We ?_|refine Wf ?_));(conv=>whnf)))
  refine AW_seq ?_
  refine AW_seqW (X := xA) tab_ok ?_
  ((conv=>whnf);repeat (refine Wa ?_;(repeat (first|refine Wb ?_|refine Wc ?_|refine Wd ?_|refine We ?_|refine Wf ?_));(conv=>whnf)))
  refine AW_cond rfl (fun ht => ?_) (fun _ => ?_)
  ·exact absurd ht (by simp; omega)
  refine AW_of_awp (X := xA) tab_ok ?_
  ((conv=>whnf);repeat (refine Wa ?_;(repeat (first|refine Wb ?_|refine Wc ?_|refine Wd ?_|refine We ?_|refine Wf ?_));(conv=>whnf)))
  refine AW_seqW (X := xA) tab_ok ?_
  ((conv=>whnf);repeat (refine Wa ?_;(repeat (first|refine Wb ?_|refine Wc ?_|refine Wd ?_|refine We ?_|refine Wf ?_));(conv=>whnf)))
  refine AW_seq ?_
  refine AW_of_awp (X := xA) tab_ok ?_
  ((conv=>whnf);repeat (refine Wa ?_;(repeat (first|refine Wb ?_|refine Wc ?_|refine Wd ?_|refine We ?_|refine Wf ?_));(conv=>whnf)))
  rcases (by omega : list.length < ts.length ∨ list.length = ts.length) with hroom | hfull
  ·refine AW_loopAW (X := xA) tab_ok [0, 1, 5, 14, 15] (fun t => Nat.beq t 0 || Nat.beq t 2) (fun vs M => ∃ (k : Nat) (o : V) (ts1 : List Int), k ≤ n ∧ ts1.length = ts.length ∧ ts1.take list.length = list ∧ OutX 1 (asgTo n d list k) o ts1 M ∧ vs = [.sl 0 0 0 list.length, .int n, o, .int n, .int k])
    (fun vs _ => n - (vs.getD 4 .any).toInt.toNat) (fun t ht => by have : t < 1 := ht; simp; omega) ?_ ?_
   ·exact same0 ⟨0, .emp true, ts, Nat.zero_le _, rfl, htk, .inl ⟨rfl, rfl, rfl⟩, rfl⟩
   rintro vs M ⟨k, o, ts1, hk, hl1, ht1, hO, rfl⟩
   have hsucc := asgTo_succ n d list k
   have hLn : k = n → asgTo n d list k ≠ [] := fun h => by rw [h]; exact asg_ne (d + 1) list hl
   have hLa : k = n → asgTo n d list k = asg n (d + 1) list := fun h => by rw [h]; rfl
   have hbk := hbd k
   have hbk1 := hbd (k + 1)
   have hcn := hcn ts1 k ht1
   generalize asgTo n d list k = L at *
   rcases hO with ⟨hL0, rfl, rfl⟩ | ⟨hL, ver, rfl, rfl⟩
   ·refine AW_seqW (X := xA) tab_ok ?_
    ((conv=>whnf);repeat (refine Wa ?_;(repeat (first|refine Wb ?_|refine Wc ?_|refine Wd ?_|refine We ?_|refine Wf ?_));(conv=>whnf)))
    refine AW_seq ?_
    refine AW_of_awp (X := xA) tab_ok ?_
    ((conv=>whnf);repeat (refine Wa ?_;(repeat (first|refine Wb ?_|refine Wc ?_|refine Wd ?_|refine We ?_|refine Wf ?_));(conv=>whnf)))
    refine br_dec (fun hlt => ?_) (fun hge => ?_)
    ·((conv=>whnf);repeat (refine Wa ?_;(repeat (first|refine Wb ?_|refine Wc ?_|refine Wd ?_|refine We ?_|refine Wf ?_));(conv=>whnf)))
     refine AW_seq ?_
     refine AW_block ?_
     refine AW_seqW (X := xA) tab_ok ?_
     ((conv=>whnf);repeat (refine Wa ?_;(repeat (first|refine Wb ?_|refine Wc ?_|refine Wd ?_|refine We ?_|refine Wf ?_));(conv=>whnf)))
     refine AW_seqW (X := xA) tab_ok ?_
     ((conv=>whnf);repeat (refine Wa ?_;(repeat (first|refine Wb ?_|refine Wc ?_|refine Wd ?_|refine We ?_|refine Wf ?_));(conv=>whnf)))
     refine APure.to hcn ?_
     ((conv=>whnf);repeat (refine Wa ?_;(repeat (first|refine Wb ?_|refine Wc ?_|refine Wd ?_|refine We ?_|refine Wf ?_));(conv=>whnf)))
     refine AW_cond rfl (fun ht => ?_) (fun hf => ?_)
     ·have hnm : ¬ (k : Int) ∈ list := by simpa using ht
      have hll : (list ++ [(k : Int)]).length = list.length + 1 := by simp
      have hne := asg_ne (n := n) d (list ++ [(k : Int)]) (by omega)
      have h8 : (8 : Int) * ((list.length : Int) + 1) ≤ 140737488355328 := by omega
      rw [hL0, if_neg hnm, List.nil_append] at hsucc
      rw [hsucc] at hbk1
      have hts2 : (ts1.take list.length ++ [(k : Int)] ++ ts1.drop (list.length + 1)).length = ts.length := by simp only [List.length_append, List.length_take, List.length_drop, List.length_cons, List.length_nil]; omega
      have ht2 : (ts1.take list.length ++ [(k : Int)] ++ ts1.drop (list.length + 1)).take (list ++ [(k : Int)]).length = list ++ [(k : Int)] := by
       rw [ht1, List.take_left']
       rfl
      have IH := ih (list ++ [(k : Int)]) (ts1.take list.length ++ [(k : Int)] ++ ts1.drop (list.length + 1)) (by omega) (by omega) (by omega) ht2
      refine AW_of_awp (X := xA) tab_ok ?_
      ((conv=>whnf);repeat (refine Wa ?_;(repeat (first|refine Wb ?_|refine Wc ?_|refine Wd ?_|refine We ?_|refine Wf ?_));(conv=>whnf)))
      refine stepO (by
       refine aApp_kil (p := .tt) (len := list.length) (ts := ts1) (ys := [(k : Int)]) ?h1 ?h2 ?h3 ?h4 (by omega) (by simp; omega)
       case h1 => rfl
       case h2 => rfl
       case h4 => rfl
       case h3 => rfl) ?_
      ((conv=>whnf);repeat (refine Wa ?_;(repeat (first|refine Wb ?_|refine Wc ?_|refine Wd ?_|refine We ?_|refine Wf ?_));(conv=>whnf)))
      refine ⟨h8, ?_⟩
      ((conv=>whnf);repeat (refine Wa ?_;(repeat (first|refine Wb ?_|refine Wc ?_|refine Wd ?_|refine We ?_|refine Wf ?_));(conv=>whnf)))
      generalize hts2e : ts1.take list.length ++ [(k : Int)] ++ ts1.drop (list.length + 1) = ts2 at *
      refine ACM_xs (ys := [.sl 0 0 0 (list ++ [(k : Int)]).length, .int n]) (by rw [hll]; rfl) ?_
      refine ACM.mono (ACM_one (t := 0) (ob := kOb ts2) (ts := ts2) (Q := fun R ts' => R = rowsV (asg n d (list ++ [(k : Int)])) ∧ ts'.length = ts2.length ∧ ts'.take (list ++ [(k : Int)]).length = list ++ [(k : Int)]) rfl rfl IH) ?_
      rintro R M' ⟨ts3, ⟨rfl, hl3, ht3⟩, rfl⟩
      have hts3 : ts3.take list.length = list := by
       have := congrArg (List.take list.length) ht3
       rw [hll, List.take_take, List.take_left'] at this
       ·rwa [Nat.min_eq_left (by omega)] at this
       ·rfl
      generalize asg n d (list ++ [(k : Int)]) = L2 at *
      ((conv=>whnf);repeat (refine Wa ?_;(repeat (first|refine Wb ?_|refine Wc ?_|refine Wd ?_|refine We ?_|refine Wf ?_));(conv=>whnf)))
      refine ⟨(show (24 : Int) * (L2.length : Int) ≤ 140737488355328 by omega), ?_⟩
      ((conv=>whnf);repeat (refine Wa ?_;(repeat (first|refine Wb ?_|refine Wc ?_|refine Wd ?_|refine We ?_|refine Wf ?_));(conv=>whnf)))
      refine AW_of_awp (X := xA) tab_ok ?_
      ((conv=>whnf);repeat (refine Wa ?_;(repeat (first|refine Wb ?_|refine Wc ?_|refine Wd ?_|refine We ?_|refine Wf ?_));(conv=>whnf)))
      refine ⟨inr (by omega), ?_⟩
      ((conv=>whnf);repeat (refine Wa ?_;(repeat (first|refine Wb ?_|refine Wc ?_|refine Wd ?_|refine We ?_|refine Wf ?_));(conv=>whnf)))
      refine ⟨by repeat (first|exact trivial|exact rfl|exact fun _=>trivial|exact fun _ _=>trivial|exact fun _ _ _=>trivial|exact fun _ _ _ _=>trivial|refine And.intro ?_ ?_), memA1 [some (kOb ts3), none, some ⟨22, 1, 0, .cv L2.length (rowF L2)⟩] ⟨ObSub.refl _, ObSub.refl _, trivial⟩ ⟨⟨k + 1, .sl 2 0 0 L2.length, ts3, by omega, by omega, hts3, .inr ⟨by rw [hsucc]; exact hne, 0, by rw [hsucc], by rw [hsucc]; rfl⟩, rfl⟩, ?_⟩⟩
      simp [V.toInt, sel, Env.get]; omega
     ·have hin : (k : Int) ∈ list := by simpa using hf
      rw [hL0, if_pos hin] at hsucc
      refine AW_of_awp (X := xA) tab_ok ?_
      ((conv=>whnf);repeat (refine Wa ?_;(repeat (first|refine Wb ?_|refine Wc ?_|refine Wd ?_|refine We ?_|refine Wf ?_));(conv=>whnf)))
      refine AW_of_awp (X := xA) tab_ok ?_
      ((conv=>whnf);repeat (refine Wa ?_;(repeat (first|refine Wb ?_|refine Wc ?_|refine Wd ?_|refine We ?_|refine Wf ?_));(conv=>whnf)))
      refine ⟨inr (by omega), ?_⟩
      ((conv=>whnf);repeat (refine Wa ?_;(repeat (first|refine Wb ?_|refine Wc ?_|refine Wd ?_|refine We ?_|refine Wf ?_));(conv=>whnf)))
      refine ⟨by repeat (first|exact trivial|exact rfl|exact fun _=>trivial|exact fun _ _=>trivial|exact fun _ _ _=>trivial|exact fun _ _ _ _=>trivial|refine And.intro ?_ ?_), memA1 [some (kOb ts1)] ⟨ObSub.refl _, trivial⟩ ⟨⟨k + 1, _, ts1, by omega, by omega, ht1, .inl ⟨hsucc, rfl, rfl⟩, rfl⟩, ?_⟩⟩
      simp [V.toInt, sel, Env.get]; omega
    ·exact absurd hL0 (hLn (by omega))
   ·refine AW_seqW (X := xA) tab_ok ?_
    ((conv=>whnf);repeat (refine Wa ?_;(repeat (first|refine Wb ?_|refine Wc ?_|refine Wd ?_|refine We ?_|refine Wf ?_));(conv=>whnf)))
    refine AW_seq ?_
    refine AW_of_awp (X := xA) tab_ok ?_
    ((conv=>whnf);repeat (refine Wa ?_;(repeat (first|refine Wb ?_|refine Wc ?_|refine Wd ?_|refine We ?_|refine Wf ?_));(conv=>whnf)))
    refine br_dec (fun hlt => ?_) (fun hge => ?_)
    ·((conv=>whnf);repeat (refine Wa ?_;(repeat (first|refine Wb ?_|refine Wc ?_|refine Wd ?_|refine We ?_|refine Wf ?_));(conv=>whnf)))
     refine AW_seq ?_
     refine AW_block ?_
     refine AW_seqW (X := xA) tab_ok ?_
     ((conv=>whnf);repeat (refine Wa ?_;(repeat (first|refine Wb ?_|refine Wc ?_|refine Wd ?_|refine We ?_|refine Wf ?_));(conv=>whnf)))
     refine AW_seqW (X := xA) tab_ok ?_
     ((conv=>whnf);repeat (refine Wa ?_;(repeat (first|refine Wb ?_|refine Wc ?_|refine Wd ?_|refine We ?_|refine Wf ?_));(conv=>whnf)))
     refine APure.to hcn ?_
     ((conv=>whnf);repeat (refine Wa ?_;(repeat (first|refine Wb ?_|refine Wc ?_|refine Wd ?_|refine We ?_|refine Wf ?_));(conv=>whnf)))
     refine AW_cond rfl (fun ht => ?_) (fun hf => ?_)
     ·have hnm : ¬ (k : Int) ∈ list := by simpa using ht
      have hll : (list ++ [(k : Int)]).length = list.length + 1 := by simp
      have hne := asg_ne (n := n) d (list ++ [(k : Int)]) (by omega)
      have h8 : (8 : Int) * ((list.length : Int) + 1) ≤ 140737488355328 := by omega
      rw [if_neg hnm] at hsucc
      rw [hsucc] at hbk1
      rw [List.length_append] at hbk1
      have hts2 : (ts1.take list.length ++ [(k : Int)] ++ ts1.drop (list.length + 1)).length = ts.length := by simp only [List.length_append, List.length_take, List.length_drop, List.length_cons, List.length_nil]; omega
      have ht2 : (ts1.take list.length ++ [(k : Int)] ++ ts1.drop (list.length + 1)).take (list ++ [(k : Int)]).length = list ++ [(k : Int)] := by
       rw [ht1, List.take_left']
       rfl
      have IH := ih (list ++ [(k : Int)]) (ts1.take list.length ++ [(k : Int)] ++ ts1.drop (list.length + 1)) (by omega) (by omega) (by omega) ht2
      refine AW_of_awp (X := xA) tab_ok ?_
      ((conv=>whnf);repeat (refine Wa ?_;(repeat (first|refine Wb ?_|refine Wc ?_|refine Wd ?_|refine We ?_|refine Wf ?_));(conv=>whnf)))
      refine stepO (by
       refine aApp_kil (p := .tt) (len := list.length) (ts := ts1) (ys := [(k : Int)]) ?h1 ?h2 ?h3 ?h4 (by omega) (by simp; omega)
       case h1 => rfl
       case h2 => rfl
       case h4 => rfl
       case h3 => rfl) ?_
      ((conv=>whnf);repeat (refine Wa ?_;(repeat (first|refine Wb ?_|refine Wc ?_|refine Wd ?_|refine We ?_|refine Wf ?_));(conv=>whnf)))
      refine ⟨h8, ?_⟩
      ((conv=>whnf);repeat (refine Wa ?_;(repeat (first|refine Wb ?_|refine Wc ?_|refine Wd ?_|refine We ?_|refine Wf ?_));(conv=>whnf)))
      generalize hts2e : ts1.take list.length ++ [(k : Int)] ++ ts1.drop (list.length + 1) = ts2 at *
      refine ACM_xs (ys := [.sl 0 0 0 (list ++ [(k : Int)]).length, .int n]) (by rw [hll]; rfl) ?_
      refine ACM.mono (ACM_one (t := 0) (ob := kOb ts2) (ts := ts2) (Q := fun R ts' => R = rowsV (asg n d (list ++ [(k : Int)])) ∧ ts'.length = ts2.length ∧ ts'.take (list ++ [(k : Int)]).length = list ++ [(k : Int)]) rfl rfl IH) ?_
      rintro R M' ⟨ts3, ⟨rfl, hl3, ht3⟩, rfl⟩
      have hts3 : ts3.take list.length = list := by
       have := congrArg (List.take list.length) ht3
       rw [hll, List.take_take, List.take_left'] at this
       ·rwa [Nat.min_eq_left (by omega)] at this
       ·rfl
      generalize asg n d (list ++ [(k : Int)]) = L2 at *
      ((conv=>whnf);repeat (refine Wa ?_;(repeat (first|refine Wb ?_|refine Wc ?_|refine Wd ?_|refine We ?_|refine Wf ?_));(conv=>whnf)))
      refine eqn_self ?_
      refine ⟨(show (24 : Int) * ((L.length : Int) + (L2.length : Int)) ≤ 140737488355328 by omega), ?_⟩
      ((conv=>whnf);repeat (refine Wa ?_;(repeat (first|refine Wb ?_|refine Wc ?_|refine Wd ?_|refine We ?_|refine Wf ?_));(conv=>whnf)))
      refine AW_of_awp (X := xA) tab_ok ?_
      ((conv=>whnf);repeat (refine Wa ?_;(repeat (first|refine Wb ?_|refine Wc ?_|refine Wd ?_|refine We ?_|refine Wf ?_));(conv=>whnf)))
      refine ⟨inr (by omega), ?_⟩
      ((conv=>whnf);repeat (refine Wa ?_;(repeat (first|refine Wb ?_|refine Wc ?_|refine Wd ?_|refine We ?_|refine Wf ?_));(conv=>whnf)))
      refine ⟨?_, memA1 [some (kOb ts3), none, some ⟨22, 1, ver + 1, .cv (L.length + L2.length) (rowF (L ++ L2))⟩] ⟨ObSub.refl _, ?_, trivial⟩ ⟨⟨k + 1, .sl 2 (ver + 1) 0 (L.length + L2.length), ts3, by omega, by omega, hts3, .inr ⟨by rw [hsucc]; simp [hL], ver + 1, by rw [hsucc, List.length_append], by rw [hsucc, List.length_append]; rfl⟩, rfl⟩, ?_⟩⟩
      ·refine ⟨by repeat (first|exact trivial|exact rfl|exact fun _=>trivial|exact fun _ _=>trivial|exact fun _ _ _=>trivial|exact fun _ _ _ _=>trivial|refine And.intro ?_ ?_), ?_⟩
       refine ⟨trivial, ?_⟩
       refine ⟨fun j q _ _ => ?_, trivial⟩
       show Named _ (if j < L.length then rowF L j q else _)
       split <;> exact trivial
      ·first | exact ObSub_rows | exact ObSub_rows'
      ·simp [V.toInt, sel, Env.get]; omega
     ·have hin : (k : Int) ∈ list := by simpa using hf
      rw [if_pos hin, List.append_nil] at hsucc
      refine AW_of_awp (X := xA) tab_ok ?_
      ((conv=>whnf);repeat (refine Wa ?_;(repeat (first|refine Wb ?_|refine Wc ?_|refine Wd ?_|refine We ?_|refine Wf ?_));(conv=>whnf)))
      refine AW_of_awp (X := xA) tab_ok ?_
      ((conv=>whnf);repeat (refine Wa ?_;(repeat (first|refine Wb ?_|refine Wc ?_|refine Wd ?_|refine We ?_|refine Wf ?_));(conv=>whnf)))
      refine ⟨inr (by omega), ?_⟩
      ((conv=>whnf);repeat (refine Wa ?_;(repeat (first|refine Wb ?_|refine Wc ?_|refine Wd ?_|refine We ?_|refine Wf ?_));(conv=>whnf)))
      refine ⟨by repeat (first|exact trivial|exact rfl|exact fun _=>trivial|exact fun _ _=>trivial|exact fun _ _ _=>trivial|exact fun _ _ _ _=>trivial|refine And.intro ?_ ?_), memA1 [some (kOb ts1), none, some ⟨22, 1, ver, .cv L.length (rowF L)⟩] ⟨ObSub.refl _, ObSub.refl _, trivial⟩ ⟨⟨k + 1, .sl 2 ver 0 L.length, ts1, by omega, by omega, ht1, .inr ⟨by rw [hsucc]; exact hL, ver, by rw [hsucc], by rw [hsucc]; rfl⟩, rfl⟩, ?_⟩⟩
      simp [V.toInt, sel, Env.get]; omega
    ·have hkn : k = n := by omega
     ((conv=>whnf);repeat (refine Wa ?_;(repeat (first|refine Wb ?_|refine Wc ?_|refine Wd ?_|refine We ?_|refine Wf ?_));(conv=>whnf)))
     refine AW_seqW (X := xA) tab_ok ?_
     ((conv=>whnf);repeat (refine Wa ?_;(repeat (first|refine Wb ?_|refine Wc ?_|refine Wd ?_|refine We ?_|refine Wf ?_));(conv=>whnf)))
     refine AW_freezeSL [4] [rowsV L] rfl (by decide) ⟨.inr ⟨_, rfl, rfl, fun j k _ _ => rfl⟩, trivial⟩ ?_
     refine AW_of_awp (X := xA) tab_ok ?_
     ((conv=>whnf);repeat (refine Wa ?_;(repeat (first|refine Wb ?_|refine Wc ?_|refine Wd ?_|refine We ?_|refine Wf ?_));(conv=>whnf)))
     exact ⟨_, rfl, flat_rows L, ts1, rfl, (show rowsV L = _ by rw [hLa hkn]), hl1, ht1⟩
  ·refine AW_loopAW (X := xA) tab_ok [0, 1, 5, 14, 15] (fun t => Nat.beq t 0 || Nat.beq t 3) (fun vs M => ∃ (k : Nat) (o : V) (ts1 : List Int), k ≤ n ∧ ts1.length = ts.length ∧ ts1.take list.length = list ∧ OutX 2 (asgTo n d list k) o ts1 M ∧ vs = [.sl 0 0 0 list.length, .int n, o, .int n, .int k])
    (fun vs _ => n - (vs.getD 4 .any).toInt.toNat) (fun t ht => by have : t < 1 := ht; simp; omega) ?_ ?_
   ·exact same0 ⟨0, .emp true, ts, Nat.zero_le _, rfl, htk, .inl ⟨rfl, rfl, rfl⟩, rfl⟩
   rintro vs M ⟨k, o, ts1, hk, hl1, ht1, hO, rfl⟩
   have hsucc := asgTo_succ n d list k
   have hLn : k = n → asgTo n d list k ≠ [] := fun h => by rw [h]; exact asg_ne (d + 1) list hl
   have hLa : k = n → asgTo n d list k = asg n (d + 1) list := fun h => by rw [h]; rfl
   have hbk := hbd k
   have hbk1 := hbd (k + 1)
   have hcn := hcn ts1 k ht1
   generalize asgTo n d list k = L at *
   rcases hO with ⟨hL0, rfl, rfl⟩ | ⟨hL, ver, rfl, rfl⟩
   ·refine AW_seqW (X := xA) tab_ok ?_
    ((conv=>whnf);repeat (refine Wa ?_;(repeat (first|refine Wb ?_|refine Wc ?_|refine Wd ?_|refine We ?_|refine Wf ?_));(conv=>whnf)))
    refine AW_seq ?_
    refine AW_of_awp (X := xA) tab_ok ?_
    ((conv=>whnf);repeat (refine Wa ?_;(repeat (first|refine Wb ?_|refine Wc ?_|refine Wd ?_|refine We ?_|refine Wf ?_));(conv=>whnf)))
    refine br_dec (fun hlt => ?_) (fun hge => ?_)
    ·((conv=>whnf);repeat (refine Wa ?_;(repeat (first|refine Wb ?_|refine Wc ?_|refine Wd ?_|refine We ?_|refine Wf ?_));(conv=>whnf)))
     refine AW_seq ?_
     refine AW_block ?_
     refine AW_seqW (X := xA) tab_ok ?_
     ((conv=>whnf);repeat (refine Wa ?_;(repeat (first|refine Wb ?_|refine Wc ?_|refine Wd ?_|refine We ?_|refine Wf ?_));(conv=>whnf)))
     refine AW_seqW (X := xA) tab_ok ?_
     ((conv=>whnf);repeat (refine Wa ?_;(repeat (first|refine Wb ?_|refine Wc ?_|refine Wd ?_|refine We ?_|refine Wf ?_));(conv=>whnf)))
     refine APure.to hcn ?_
     ((conv=>whnf);repeat (refine Wa ?_;(repeat (first|refine Wb ?_|refine Wc ?_|refine Wd ?_|refine We ?_|refine Wf ?_));(conv=>whnf)))
     refine AW_cond rfl (fun ht => ?_) (fun hf => ?_)
     ·have hnm : ¬ (k : Int) ∈ list := by simpa using ht
      have hll : (list ++ [(k : Int)]).length = list.length + 1 := by simp
      have hne := asg_ne (n := n) d (list ++ [(k : Int)]) (by omega)
      have h8 : (8 : Int) * ((list.length : Int) + 1) ≤ 140737488355328 := by omega
      rw [hL0, if_neg hnm, List.nil_append] at hsucc
      rw [hsucc] at hbk1
      have hll1 : list.length = ts1.length := by omega
      have hts1 : ts1 = list := by rw [← ht1, List.take_of_length_le (by omega)]
      subst hts1
      refine AW_regionO ?_
      refine AWo_take (X := xA) tab_ok 4 rfl rfl rfl ?_
      ((conv=>whnf);repeat (refine Wa ?_;(repeat (first|refine Wb ?_|refine Wc ?_|refine Wd ?_|refine We ?_|refine Wf ?_));(conv=>whnf)))
      refine AWo_rev (X := xA) (d2 := 26) (ys := ts1) (L := ts1 ++ [(k : Int)]) tab_ok (by rfl) (by rfl) (by rfl) (by rfl) (by rfl) (by rfl) (by rfl) (show 26 < 32 by decide) (by rfl) (by rfl) (.inr (.inr ⟨0, 0, kOb ts1, rfl, rfl, rfl, rfl, rfl⟩)) (by rfl) ?_
      ((conv=>whnf);repeat (refine Wa ?_;(repeat (first|refine Wb ?_|refine Wc ?_|refine Wd ?_|refine We ?_|refine Wf ?_));(conv=>whnf)))
      refine ⟨(show (0 : Int) < ((1 : Nat) : Int) by decide), ?_⟩
      refine ⟨h8, fun c hc => ?_⟩
      have ht2 : (ts1 ++ [(k : Int)] ++ List.replicate (c - (ts1 ++ [(k : Int)]).length) 0).take (ts1 ++ [(k : Int)]).length = ts1 ++ [(k : Int)] := by
       rw [List.take_left']
       rfl
      have IH := ih (ts1 ++ [(k : Int)]) (ts1 ++ [(k : Int)] ++ List.replicate (c - (ts1 ++ [(k : Int)]).length) 0) (by omega) (by omega) (by simp only [List.length_append]; omega) ht2
      generalize ts1 ++ [(k : Int)] ++ List.replicate (c - (ts1 ++ [(k : Int)]).length) 0 = ts2 at *
      refine AWo_take (X := xA) tab_ok 4 rfl rfl rfl ?_
      ((conv=>whnf);repeat (refine Wa ?_;(repeat (first|refine Wb ?_|refine Wc ?_|refine Wd ?_|refine We ?_|refine Wf ?_));(conv=>whnf)))
      refine ACM_xs (ys := [.sl 2 0 0 (ts1 ++ [(k : Int)]).length, .int n]) rfl ?_
      refine ACM.mono (ACM_one (t := 2) (ob := kOb ts2) (ts := ts2) (Q := fun R ts' => R = rowsV (asg n d (ts1 ++ [(k : Int)])) ∧ ts'.length = ts2.length ∧ ts'.take (ts1 ++ [(k : Int)]).length = ts1 ++ [(k : Int)]) rfl rfl IH) ?_
      rintro R M' ⟨ts3, ⟨rfl, hl3, ht3⟩, rfl⟩
      generalize asg n d (ts1 ++ [(k : Int)]) = L2 at *
      ((conv=>whnf);repeat (refine Wa ?_;(repeat (first|refine Wb ?_|refine Wc ?_|refine Wd ?_|refine We ?_|refine Wf ?_));(conv=>whnf)))
      refine ⟨(show (24 : Int) * (L2.length : Int) ≤ 140737488355328 by omega), ?_⟩
      ((conv=>whnf);repeat (refine Wa ?_;(repeat (first|refine Wb ?_|refine Wc ?_|refine Wd ?_|refine We ?_|refine Wf ?_));(conv=>whnf)))
      refine AWo_fin rfl ?_
      show AW _ _ _ _ _ _ _ _
      refine AW_of_awp (X := xA) tab_ok ?_
      ((conv=>whnf);repeat (refine Wa ?_;(repeat (first|refine Wb ?_|refine Wc ?_|refine Wd ?_|refine We ?_|refine Wf ?_));(conv=>whnf)))
      refine ⟨inr (by omega), ?_⟩
      ((conv=>whnf);repeat (refine Wa ?_;(repeat (first|refine Wb ?_|refine Wc ?_|refine Wd ?_|refine We ?_|refine Wf ?_));(conv=>whnf)))
      refine ⟨by repeat (first|exact trivial|exact rfl|exact fun _=>trivial|exact fun _ _=>trivial|exact fun _ _ _=>trivial|exact fun _ _ _ _=>trivial|refine And.intro ?_ ?_), memA1 [some (kOb ts1), none, none, some ⟨22, 1, 0, .cv L2.length (rowF L2)⟩] ⟨ObSub.refl _, ObSub.refl _, trivial⟩ ⟨⟨k + 1, .sl 3 0 0 L2.length, ts1, by omega, by omega, ht1, .inr ⟨by rw [hsucc]; exact hne, 0, by rw [hsucc], by rw [hsucc]; rfl⟩, rfl⟩, ?_⟩⟩
      simp [V.toInt, sel, Env.get]; omega
     ·have hin : (k : Int) ∈ list := by simpa using hf
      rw [hL0, if_pos hin] at hsucc
      refine AW_of_awp (X := xA) tab_ok ?_
      ((conv=>whnf);repeat (refine Wa ?_;(repeat (first|refine Wb ?_|refine Wc ?_|refine Wd ?_|refine We ?_|refine Wf ?_));(conv=>whnf)))
      refine AW_of_awp (X := xA) tab_ok ?_
      ((conv=>whnf);repeat (refine Wa ?_;(repeat (first|refine Wb ?_|refine Wc ?_|refine Wd ?_|refine We ?_|refine Wf ?_));(conv=>whnf)))
      refine ⟨inr (by omega), ?_⟩
      ((conv=>whnf);repeat (refine Wa ?_;(repeat (first|refine Wb ?_|refine Wc ?_|refine Wd ?_|refine We ?_|refine Wf ?_));(conv=>whnf)))
      refine ⟨by repeat (first|exact trivial|exact rfl|exact fun _=>trivial|exact fun _ _=>trivial|exact fun _ _ _=>trivial|exact fun _ _ _ _=>trivial|refine And.intro ?_ ?_), memA1 [some (kOb ts1)] ⟨ObSub.refl _, trivial⟩ ⟨⟨k + 1, _, ts1, by omega, by omega, ht1, .inl ⟨hsucc, rfl, rfl⟩, rfl⟩, ?_⟩⟩
      simp [V.toInt, sel, Env.get]; omega
    ·exact absurd hL0 (hLn (by omega))
   ·refine AW_seqW (X := xA) tab_ok ?_
    ((conv=>whnf);repeat (refine Wa ?_;(repeat (first|refine Wb ?_|refine Wc ?_|refine Wd ?_|refine We ?_|refine Wf ?_));(conv=>whnf)))
    refine AW_seq ?_
    refine AW_of_awp (X := xA) tab_ok ?_
    ((conv=>whnf);repeat (refine Wa ?_;(repeat (first|refine Wb ?_|refine Wc ?_|refine Wd ?_|refine We ?_|refine Wf ?_));(conv=>whnf)))
    refine br_dec (fun hlt => ?_) (fun hge => ?_)
    ·((conv=>whnf);repeat (refine Wa ?_;(repeat (first|refine Wb ?_|refine Wc ?_|refine Wd ?_|refine We ?_|refine Wf ?_));(conv=>whnf)))
     refine AW_seq ?_
     refine AW_block ?_
     refine AW_seqW (X := xA) tab_ok ?_
     ((conv=>whnf);repeat (refine Wa ?_;(repeat (first|refine Wb ?_|refine Wc ?_|refine Wd ?_|refine We ?_|refine Wf ?_));(conv=>whnf)))
     refine AW_seqW (X := xA) tab_ok ?_
     ((conv=>whnf);repeat (refine Wa ?_;(repeat (first|refine Wb ?_|refine Wc ?_|refine Wd ?_|refine We ?_|refine Wf ?_));(conv=>whnf)))
     refine APure.to hcn ?_
     ((conv=>whnf);repeat (refine Wa ?_;(repeat (first|refine Wb ?_|refine Wc ?_|refine Wd ?_|refine We ?_|refine Wf ?_));(conv=>whnf)))
     refine AW_cond rfl (fun ht => ?_) (fun hf => ?_)
     ·have hnm : ¬ (k : Int) ∈ list := by simpa using ht
      have hll : (list ++ [(k : Int)]).length = list.length + 1 := by simp
      have hne := asg_ne (n := n) d (list ++ [(k : Int)]) (by omega)
      have h8 : (8 : Int) * ((list.length : Int) + 1) ≤ 140737488355328 := by omega
      rw [if_neg hnm] at hsucc
      rw [hsucc] at hbk1
      rw [List.length_append] at hbk1
      have hll1 : list.length = ts1.length := by omega
      have hts1 : ts1 = list := by rw [← ht1, List.take_of_length_le (by omega)]
      subst hts1
      refine AW_regionO ?_
      refine AWo_take (X := xA) tab_ok 4 rfl rfl rfl ?_
      ((conv=>whnf);repeat (refine Wa ?_;(repeat (first|refine Wb ?_|refine Wc ?_|refine Wd ?_|refine We ?_|refine Wf ?_));(conv=>whnf)))
      refine AWo_rev (X := xA) (d2 := 26) (ys := ts1) (L := ts1 ++ [(k : Int)]) tab_ok (by rfl) (by rfl) (by rfl) (by rfl) (by rfl) (by rfl) (by rfl) (show 26 < 32 by decide) (by rfl) (by rfl) (.inr (.inr ⟨0, 0, kOb ts1, rfl, rfl, rfl, rfl, rfl⟩)) (by rfl) ?_
      ((conv=>whnf);repeat (refine Wa ?_;(repeat (first|refine Wb ?_|refine Wc ?_|refine Wd ?_|refine We ?_|refine Wf ?_));(conv=>whnf)))
      refine ⟨(show (0 : Int) < ((1 : Nat) : Int) by decide), ?_⟩
      refine ⟨h8, fun c hc => ?_⟩
      have ht2 : (ts1 ++ [(k : Int)] ++ List.replicate (c - (ts1 ++ [(k : Int)]).length) 0).take (ts1 ++ [(k : Int)]).length = ts1 ++ [(k : Int)] := by
       rw [List.take_left']
       rfl
      have IH := ih (ts1 ++ [(k : Int)]) (ts1 ++ [(k : Int)] ++ List.replicate (c - (ts1 ++ [(k : Int)]).length) 0) (by omega) (by omega) (by simp only [List.length_append]; omega) ht2
      generalize ts1 ++ [(k : Int)] ++ List.replicate (c - (ts1 ++ [(k : Int)]).length) 0 = ts2 at *
      refine AWo_take (X := xA) tab_ok 4 rfl rfl rfl ?_
      ((conv=>whnf);repeat (refine Wa ?_;(repeat (first|refine Wb ?_|refine Wc ?_|refine Wd ?_|refine We ?_|refine Wf ?_));(conv=>whnf)))
      refine ACM_xs (ys := [.sl 5 0 0 (ts1 ++ [(k : Int)]).length, .int n]) rfl ?_
      refine ACM.mono (ACM_one (t := 5) (ob := kOb ts2) (ts := ts2) (Q := fun R ts' => R = rowsV (asg n d (ts1 ++ [(k : Int)])) ∧ ts'.length = ts2.length ∧ ts'.take (ts1 ++ [(k : Int)]).length = ts1 ++ [(k : Int)]) rfl rfl IH) ?_
      rintro R M' ⟨ts3, ⟨rfl, hl3, ht3⟩, rfl⟩
      generalize asg n d (ts1 ++ [(k : Int)]) = L2 at *
      ((conv=>whnf);repeat (refine Wa ?_;(repeat (first|refine Wb ?_|refine Wc ?_|refine Wd ?_|refine We ?_|refine Wf ?_));(conv=>whnf)))
      refine eqn_self ?_
      refine ⟨(show (24 : Int) * ((L.length : Int) + (L2.length : Int)) ≤ 140737488355328 by omega), ?_⟩
      ((conv=>whnf);repeat (refine Wa ?_;(repeat (first|refine Wb ?_|refine Wc ?_|refine Wd ?_|refine We ?_|refine Wf ?_));(conv=>whnf)))
      refine AWo_fin rfl ?_
      show AW _ _ _ _ _ _ _ _
      refine AW_of_awp (X := xA) tab_ok ?_
      ((conv=>whnf);repeat (refine Wa ?_;(repeat (first|refine Wb ?_|refine Wc ?_|refine Wd ?_|refine We ?_|refine Wf ?_));(conv=>whnf)))
      refine ⟨inr (by omega), ?_⟩
      ((conv=>whnf);repeat (refine Wa ?_;(repeat (first|refine Wb ?_|refine Wc ?_|refine Wd ?_|refine We ?_|refine Wf ?_));(conv=>whnf)))
      refine ⟨?_, memA1 [some (kOb ts1), none, none, some ⟨22, 1, ver + 1, .cv (L.length + L2.length) (rowF (L ++ L2))⟩] ⟨ObSub.refl _, ?_, trivial⟩ ⟨⟨k + 1, .sl 3 (ver + 1) 0 (L.length + L2.length), ts1, by omega, by omega, ht1, .inr ⟨by rw [hsucc]; simp [hL], ver + 1, by rw [hsucc, List.length_append], by rw [hsucc, List.length_append]; rfl⟩, rfl⟩, ?_⟩⟩
      ·refine ⟨by repeat (first|exact trivial|exact rfl|exact fun _=>trivial|exact fun _ _=>trivial|exact fun _ _ _=>trivial|exact fun _ _ _ _=>trivial|refine And.intro ?_ ?_), ?_⟩
       refine ⟨trivial, ?_⟩
       refine ⟨fun j q _ _ => ?_, trivial⟩
       show Named _ (if j < L.length then rowF L j q else _)
       split <;> exact trivial
      ·first | exact ObSub_rows | exact ObSub_rows'
      ·simp [V.toInt, sel, Env.get]; omega
     ·have hin : (k : Int) ∈ list := by simpa using hf
      rw [if_pos hin, List.append_nil] at hsucc
      refine AW_of_awp (X := xA) tab_ok ?_
      ((conv=>whnf);repeat (refine Wa ?_;(repeat (first|refine Wb ?_|refine Wc ?_|refine Wd ?_|refine We ?_|refine Wf ?_));(conv=>whnf)))
      refine AW_of_awp (X := xA) tab_ok ?_
      ((conv=>whnf);repeat (refine Wa ?_;(repeat (first|refine Wb ?_|refine Wc ?_|refine Wd ?_|refine We ?_|refine Wf ?_));(conv=>whnf)))
      refine ⟨inr (by omega), ?_⟩
      ((conv=>whnf);repeat (refine Wa ?_;(repeat (first|refine Wb ?_|refine Wc ?_|refine Wd ?_|refine We ?_|refine Wf ?_));(conv=>whnf)))
      refine ⟨by repeat (first|exact trivial|exact rfl|exact fun _=>trivial|exact fun _ _=>trivial|exact fun _ _ _=>trivial|exact fun _ _ _ _=>trivial|refine And.intro ?_ ?_), memA1 [some (kOb ts1), none, none, some ⟨22, 1, ver, .cv L.length (rowF L)⟩] ⟨ObSub.refl _, ObSub.refl _, trivial⟩ ⟨⟨k + 1, .sl 3 ver 0 L.length, ts1, by omega, by omega, ht1, .inr ⟨by rw [hsucc]; exact hL, ver, by rw [hsucc], by rw [hsucc]; rfl⟩, rfl⟩, ?_⟩⟩
      simp [V.toInt, sel, Env.get]; omega
    ·have hkn : k = n := by omega
     ((conv=>whnf);repeat (refine Wa ?_;(repeat (first|refine Wb ?_|refine Wc ?_|refine Wd ?_|refine We ?_|refine Wf ?_));(conv=>whnf)))
     refine AW_seqW (X := xA) tab_ok ?_
     ((conv=>whnf);repeat (refine Wa ?_;(repeat (first|refine Wb ?_|refine Wc ?_|refine Wd ?_|refine We ?_|refine Wf ?_));(conv=>whnf)))
     refine AW_freezeSL [4] [rowsV L] rfl (by decide) ⟨.inr ⟨_, rfl, rfl, fun j k _ _ => rfl⟩, trivial⟩ ?_
     refine AW_of_awp (X := xA) tab_ok ?_
     ((conv=>whnf);repeat (refine Wa ?_;(repeat (first|refine Wb ?_|refine Wc ?_|refine Wd ?_|refine We ?_|refine Wf ?_));(conv=>whnf)))
     exact ⟨_, rfl, flat_rows L, ts1, rfl, (show rowsV L = _ by rw [hLa hkn]), hl1, ht1⟩
end Go.Tri
