/-
 CONTRACTS: the reference's best assignment.
-/
import Derived.Test.YtpolaegggclhcaaM13
import Derived.Test.YtpolaegggclhcaaB9
namespace Go.Tri
open Go.Proofs

theorem refworth_pure {n : Nat} {W : Nat → List Int} {l : List Int} (hW : Wis n W) (hl : Asg n l) : APure Try.prog 89 [tabV n W, .ints false l] (fun R => R = .int (wrS W l n)) := by
 refine APure_of (X := cx 26) (cx_ok 26) rfl (rs := [(.tmp 4, 3)]) Try.func89 (by decide) rfl rfl rfl (by simp [cx]) (nofr2 nofrT (by rfl)) ?_
 intro hlen
 have hn := hl.1
 have h5 := hW.2.1
 ((conv=>whnf);repeat (refine Wa ?_;(repeat (first|refine Wb ?_|refine Wc ?_|refine Wd ?_|refine We ?_|refine Wf ?_));(conv=>whnf)))
 refine AW_loop (X := cx 26) (cx_ok 26) [0, 1, 5, 6] (fun vs M => ∃ k : Nat, k ≤ n ∧ vs = [tabV n W, .ints false l, .int (wrS W l k), .int k] ∧ M = []) (fun vs _ => n - (vs.getD 3 .any).toInt.toNat) ?_ ?_
 ·exact ⟨0, Nat.zero_le _, rfl, rfl⟩
 rintro vs M ⟨k, hk, rfl, rfl⟩
 have hb := wrS_bd hW hl k hk
 ((conv=>whnf);repeat (refine Wa ?_;(repeat (first|refine Wb ?_|refine Wc ?_|refine Wd ?_|refine We ?_|refine Wf ?_));(conv=>whnf)))
 refine br_dec (fun hlt => ?_) (fun hge => ?_)
 ·have hk' : k < n := by omega
  have hlk := hl.2 k hk'
  have hWk := hW.2.2 k hk'
  have he := hWk.2.1 (l.getD k 0).toNat (by omega)
  ((conv=>whnf);repeat (refine Wa ?_;(repeat (first|refine Wb ?_|refine Wc ?_|refine Wd ?_|refine We ?_|refine Wf ?_));(conv=>whnf)))
  refine AW_draw (X := cx 26) (cx_ok 26) mixed (by kernel_rfl) ?_
  ((conv=>whnf);repeat (refine Wa ?_;(repeat (first|refine Wb ?_|refine Wc ?_|refine Wd ?_|refine We ?_|refine Wf ?_));(conv=>whnf)))
  refine ⟨(show (0 : Int) ≤ (k : Int) by omega), ?_⟩
  refine ⟨(show (k : Int) < (n : Int) by omega), ?_⟩
  ((conv=>whnf);repeat (refine Wa ?_;(repeat (first|refine Wb ?_|refine Wc ?_|refine Wd ?_|refine We ?_|refine Wf ?_));(conv=>whnf)))
  refine ⟨(show (0 : Int) ≤ (k : Int) by omega), ?_⟩
  refine ⟨(show (k : Int) < (l.length : Int) by omega), ?_⟩
  ((conv=>whnf);repeat (refine Wa ?_;(repeat (first|refine Wb ?_|refine Wc ?_|refine Wd ?_|refine We ?_|refine Wf ?_));(conv=>whnf)))
  refine ⟨(show (0 : Int) ≤ l.getD k 0 by omega), ?_⟩
  refine ⟨(show l.getD k 0 < ((W k).length : Int) by omega), ?_⟩
  ((conv=>whnf);repeat (refine Wa ?_;(repeat (first|refine Wb ?_|refine Wc ?_|refine Wd ?_|refine We ?_|refine Wf ?_));(conv=>whnf)))
  refine ⟨(show InR (wrS W l (k + 1)) from inr (by simp only [wrS]; omega)), ?_⟩
  ((conv=>whnf);repeat (refine Wa ?_;(repeat (first|refine Wb ?_|refine Wc ?_|refine Wd ?_|refine We ?_|refine Wf ?_));(conv=>whnf)))
  refine ⟨inr (by omega), ?_⟩
  ((conv=>whnf);repeat (refine Wa ?_;(repeat (first|refine Wb ?_|refine Wc ?_|refine Wd ?_|refine We ?_|refine Wf ?_));(conv=>whnf)))
  refine ⟨⟨k + 1, hk', rfl, rfl⟩, ?_⟩
  simp [V.toInt, sel, Env.get]; omega
 ·obtain rfl : k = n := by omega
  ((conv=>whnf);repeat (refine Wa ?_;(repeat (first|refine Wb ?_|refine Wc ?_|refine Wd ?_|refine We ?_|refine Wf ?_));(conv=>whnf)))
  exact ⟨trivial, rfl⟩
theorem namedT2 {b : List Int} {x : Int} (kp : Nat → Bool) : Named kp (tup2 (.ints true b) (.int x)) := fun k _ => by
 match k with
 | 0 => trivial
 | _ + 1 => trivial
theorem stepF {o : Option (Obl × V)} {p : Obl} {v : V} {K : V → Prop} (h : o = some (p, v)) (hk : p.req (forceV v fun v => K v)) : (match (generalizing := false) o with
  | some (p, v) => p.req (forceV v fun v => K v)
  | none => False) := by rw [h]; exact hk
theorem fullApp_kil {T : Tab} {e t : Nat} {M : Mem} {ys : List Int} {k : Int} (hT : (knownT (T.row e) && Nat.beq (T.row e).sz 1 && Nat.blt 0 (T.row e).bs && isI64T (T.row e)) = true) (hM : M.get t = some ⟨e, 1, 0, .kil [k]⟩) :
  fullApp T e ys (.sl t 0 0 1) M = some (.and (eqnO 0 0) (.and (.lt 0 ((1 : Nat) : Int)) (.le ((T.row e).bs * ((ys.length : Int) + ((1 : Nat) : Int))) 140737488355328)), .ints true (ys ++ [k])) := by
 unfold fullApp
 rw [hT]
 simp only [cond_true, srcV, hM]
 rfl
theorem put_ge (o : Ob) : ∀ (M : Mem) (t : Nat), M.length ≤ (M.put t o).length
 | [], _ => Nat.zero_le _
 | _ :: _, 0 => Nat.le_refl _
 | _ :: r, t + 1 => Nat.succ_le_succ (put_ge o r t)
def wrF : List FuncId := [57]
theorem refassign_imm {n : Nat} {W : Nat → List Int} (hW : Wis n W) : ∀ (d : Nat) (l : List Int) (u : Nat), l.length + d = n → (∀ x ∈ l, 0 ≤ x ∧ x < n) → l.Nodup → Use u l →
  ∃ b, FG (fun l => wrS W l n) (asg n d l) b ∧ AImm Try.prog 57 [tabV n W, .ints true l, .int u] (fun R => R = tup2 (.ints true b) (.int (wrS W b n)))
 | 0, l, u, hl, hr, hd, hu => by
  have hm : l ∈ asg n n [] := asg_all.2 ⟨by omega, hr, hd⟩
  have c1 := refworth_pure hW (asg_Asg hm)
  refine ⟨l, FG.one, AImm_of namedT2 fun M => ?_⟩
  refine ACM_of (T := tab) (wr := wrF) tab_ok Try.func57 (by decide) rfl (Nat.le_of_ble_eq_true rfl) (fun nb => ?_)
  ((conv=>whnf);repeat (refine Wa ?_;(repeat (first|refine Wb ?_|refine Wc ?_|refine Wd ?_|refine We ?_|refine Wf ?_));(conv=>whnf)))
  refine br_eq (fun _ => ?_) (fun h => absurd (show (l.length : Int) = n by omega) h)
  ((conv=>whnf);repeat (refine Wa ?_;(repeat (first|refine Wb ?_|refine Wc ?_|refine Wd ?_|refine We ?_|refine Wf ?_));(conv=>whnf)))
  refine APure.to (APure.arg2 subT (Sub.refl _) c1) ?_
  ((conv=>whnf);repeat (refine Wa ?_;(repeat (first|refine Wb ?_|refine Wc ?_|refine Wd ?_|refine We ?_|refine Wf ?_));(conv=>whnf)))
  exact ⟨_, rfl, rfl, fun _ _ => rfl⟩
 | d + 1, l, u, hl, hr, hd, hu => by
  have key : ∃ b, FG (fun l => wrS W l n) (asg n (d + 1) l) b ∧ ∀ M, ACM Try.prog 57 [tabV n W, .ints true l, .int u] M (fun R M' => R = tup2 (.ints true b) (.int (wrS W b n)) ∧ ∀ t, t < M.length → M'.get t = M.get t) := by
   obtain ⟨b, hb⟩ : ∃ b, FG (fun l => wrS W l n) (asgTo n d l n) b := FG.ex (asg_ne (n := n) (d + 1) l hl)
   refine ⟨b, hb, fun M => ?_⟩
   have h1 := hW.1
   have h5 := hW.2.1
   refine ACM_of (T := tab) (wr := wrF) tab_ok Try.func57 (by decide) rfl (Nat.le_of_ble_eq_true rfl) (fun nb => ?_)
   ((conv=>whnf);repeat (refine Wa ?_;(repeat (first|refine Wb ?_|refine Wc ?_|refine Wd ?_|refine We ?_|refine Wf ?_));(conv=>whnf)))
   refine br_eq (fun h => absurd (show (l.length : Int) = n from h) (by omega)) (fun _ => ?_)
   ((conv=>whnf);repeat (refine Wa ?_;(repeat (first|refine Wb ?_|refine Wc ?_|refine Wd ?_|refine We ?_|refine Wf ?_));(conv=>whnf)))
   refine AW_loop (X := ⟨Try.prog, tab, wrF, 58, nb, false⟩) tab_ok [0, 1, 2, 8, 9, 10] (fun vs M' => ∃ (k : Nat) (o : V) (x : Int), k ≤ n ∧ ((asgTo n d l k = [] ∧ o = .emp true ∧ x = -1) ∨ ∃ b, FG (fun l => wrS W l n) (asgTo n d l k) b ∧ o = .ints true b ∧ x = wrS W b n) ∧ vs = [tabV n W, .ints true l, .int u, o, .int x, .int k] ∧ M.length ≤ M'.length ∧ ∀ t, t < M.length → M'.get t = M.get t)
    (fun vs _ => n - (vs.getD 5 .any).toInt.toNat) ?_ ?_
   ·exact ⟨0, .emp true, -1, Nat.zero_le _, .inl ⟨rfl, rfl, rfl⟩, rfl, Nat.le_refl _, fun _ _ => rfl⟩
   rintro vs M' ⟨k, o, x, hk, hO, rfl, hML, hM⟩
   have hsucc := asgTo_succ n d l k
   ((conv=>whnf);repeat (refine Wa ?_;(repeat (first|refine Wb ?_|refine Wc ?_|refine Wd ?_|refine We ?_|refine Wf ?_));(conv=>whnf)))
   refine br_dec (fun hlt => ?_) (fun hge => ?_)
   ·have hk' : k < n := by omega
    have hbit := hu.2 k (by omega)
    have e1 : Int.tmod ((u / 2 ^ k : Nat) : Int) 2 = ((u / 2 ^ k % 2 : Nat) : Int) := by rw [show (2 : Int) = ((2 : Nat) : Int) from rfl, ← Int.ofNat_tmod]
    ((conv=>whnf);repeat (refine Wa ?_;(repeat (first|refine Wb ?_|refine Wc ?_|refine Wd ?_|refine We ?_|refine Wf ?_));(conv=>whnf)))
    refine ⟨(show (0 : Int) ≤ (k : Int) by omega), ?_⟩
    rw [shrI (show k ≤ 8 by omega)]
    ((conv=>whnf);repeat (refine Wa ?_;(repeat (first|refine Wb ?_|refine Wc ?_|refine Wd ?_|refine We ?_|refine Wf ?_));(conv=>whnf)))
    refine ⟨by decide, ?_⟩
    rw [e1]
    ((conv=>whnf);repeat (refine Wa ?_;(repeat (first|refine Wb ?_|refine Wc ?_|refine Wd ?_|refine We ?_|refine Wf ?_));(conv=>whnf)))
    refine br_eq (fun hb1 => ?_) (fun hb1 => ?_)
    ·have hin : (k : Int) ∈ l := hbit.1 (by have h : ((u / 2 ^ k % 2 : Nat) : Int) = 1 := hb1; omega)
     rw [if_pos hin, List.append_nil] at hsucc
     ((conv=>whnf);repeat (refine Wa ?_;(repeat (first|refine Wb ?_|refine Wc ?_|refine Wd ?_|refine We ?_|refine Wf ?_));(conv=>whnf)))
     refine ⟨inr (by omega), ?_⟩
     ((conv=>whnf);repeat (refine Wa ?_;(repeat (first|refine Wb ?_|refine Wc ?_|refine Wd ?_|refine We ?_|refine Wf ?_));(conv=>whnf)))
     refine ⟨⟨k + 1, o, x, hk', by rw [hsucc]; exact hO, rfl, hML, hM⟩, ?_⟩
     simp [V.toInt, sel, Env.get]; omega
    ·have hin : ¬ (k : Int) ∈ l := fun h => hb1 (by have := hbit.2 h; show ((u / 2 ^ k % 2 : Nat) : Int) = 1; omega)
     rw [if_neg hin] at hsucc
     ((conv=>whnf);repeat (refine Wa ?_;(repeat (first|refine Wb ?_|refine Wc ?_|refine Wd ?_|refine We ?_|refine Wf ?_));(conv=>whnf)))
     refine AW_draw (X := ⟨Try.prog, tab, wrF, 58, nb, false⟩) tab_ok mixed (by kernel_rfl) ?_
     ((conv=>whnf);repeat (refine Wa ?_;(repeat (first|refine Wb ?_|refine Wc ?_|refine Wd ?_|refine We ?_|refine Wf ?_));(conv=>whnf)))
     refine ⟨(show (0 : Int) ≤ (l.length : Int) by omega), ?_⟩
     refine ⟨Int.le_refl _, ?_⟩
     refine ⟨Int.le_refl _, ?_⟩
     refine ⟨Int.le_refl _, ?_⟩
     ((conv=>whnf);repeat (refine Wa ?_;(repeat (first|refine Wb ?_|refine Wc ?_|refine Wd ?_|refine We ?_|refine Wf ?_));(conv=>whnf)))
     rw [show List.take (l.length : Int).toNat l = l by rw [Int.toNat_natCast, List.take_length]]
     rw [forceNP_eq]
     ((conv=>whnf);repeat (refine Wa ?_;(repeat (first|refine Wb ?_|refine Wc ?_|refine Wd ?_|refine We ?_|refine Wf ?_));(conv=>whnf)))
     rw [forceM_eq]
     ((conv=>whnf);repeat (refine Wa ?_;(repeat (first|refine Wb ?_|refine Wc ?_|refine Wd ?_|refine We ?_|refine Wf ?_));(conv=>whnf)))
     rw [forceNP_eq]
     ((conv=>whnf);repeat (refine Wa ?_;(repeat (first|refine Wb ?_|refine Wc ?_|refine Wd ?_|refine We ?_|refine Wf ?_));(conv=>whnf)))
     refine stepF (by exact fullApp_kil (k := k) (by rfl) (by exact Mem.get_put_same _ _ _)) ?_
     ((conv=>whnf);repeat (refine Wa ?_;(repeat (first|refine Wb ?_|refine Wc ?_|refine Wd ?_|refine We ?_|refine Wf ?_));(conv=>whnf)))
     refine ⟨(show (0 : Int) < ((1 : Nat) : Int) by decide), ?_⟩
     refine ⟨(show (8 : Int) * ((l.length : Int) + ((1 : Nat) : Int)) ≤ 140737488355328 by omega), ?_⟩
     ((conv=>whnf);repeat (refine Wa ?_;(repeat (first|refine Wb ?_|refine Wc ?_|refine Wd ?_|refine We ?_|refine Wf ?_));(conv=>whnf)))
     rw [forceM_eq]
     ((conv=>whnf);repeat (refine Wa ?_;(repeat (first|refine Wb ?_|refine Wc ?_|refine Wd ?_|refine We ?_|refine Wf ?_));(conv=>whnf)))
     refine ⟨(show (0 : Int) ≤ (k : Int) by omega), ?_⟩
     rw [shlI (show k ≤ 8 by omega)]
     ((conv=>whnf);repeat (refine Wa ?_;(repeat (first|refine Wb ?_|refine Wc ?_|refine Wd ?_|refine We ?_|refine Wf ?_));(conv=>whnf)))
     rw [(or_facts u hu.1 k (by omega)).2.1]
     ((conv=>whnf);repeat (refine Wa ?_;(repeat (first|refine Wb ?_|refine Wc ?_|refine Wd ?_|refine We ?_|refine Wf ?_));(conv=>whnf)))
     obtain ⟨b', hb', ib⟩ := refassign_imm hW d (l ++ [(k : Int)]) (u ||| 2 ^ k) (by rw [List.length_append]; simp; omega) (fun y hy => by
      rcases List.mem_append.1 hy with h | h
      ·exact hr y h
      ·rw [List.mem_singleton.1 h]; omega) (List.nodup_append.2 ⟨hd, by simp, fun y hy z hz => by
      rw [List.mem_singleton.1 hz]
      exact fun e => hin (e ▸ hy)⟩) (use_next hu (by omega))
     have hv : 0 ≤ wrS W b' n := by
      obtain ⟨r, hr1, hr2, hr3, hr4, hr5⟩ := (asg_iff d _ _).1 hb'.mem
      have hA : Asg n b' := asg_Asg (asg_all.2 ⟨by rw [hr1]; simp; omega, fun y hy => by
       rw [hr1] at hy
       rcases List.mem_append.1 hy with h | h
       ·rcases List.mem_append.1 h with h | h
        ·exact hr y h
        ·rw [List.mem_singleton.1 h]; omega
       ·exact hr3 y h, by
       rw [hr1]
       exact List.nodup_append.2 ⟨List.nodup_append.2 ⟨hd, by simp, fun y hy z hz => by
        rw [List.mem_singleton.1 hz]
        exact fun e => hin (e ▸ hy)⟩, hr4, fun y hy z hz e => hr5 z hz (e ▸ hy)⟩⟩)
      exact (wrS_bd hW hA n (Nat.le_refl _)).1
     refine ⟨_, ib, ?_⟩
     ((conv=>whnf);repeat (refine Wa ?_;(repeat (first|refine Wb ?_|refine Wc ?_|refine Wd ?_|refine We ?_|refine Wf ?_));(conv=>whnf)))
     refine br_dec (fun hgt => ?_) (fun hgt => ?_)
     ·have hgt : wrS W b' n > x := hgt
      ((conv=>whnf);repeat (refine Wa ?_;(repeat (first|refine Wb ?_|refine Wc ?_|refine Wd ?_|refine We ?_|refine Wf ?_));(conv=>whnf)))
      refine ⟨inr (by omega), ?_⟩
      ((conv=>whnf);repeat (refine Wa ?_;(repeat (first|refine Wb ?_|refine Wc ?_|refine Wd ?_|refine We ?_|refine Wf ?_));(conv=>whnf)))
      refine ⟨⟨k + 1, .ints true b', wrS W b' n, hk', .inr ⟨b', ?_, rfl, rfl⟩, rfl, Nat.le_trans hML (put_ge _ _ _), fun t ht => (Mem.get_put_other _ (by omega) _).trans (hM t ht)⟩, ?_⟩
      ·rw [hsucc]
       rcases hO with ⟨h0, _, _⟩ | ⟨b2, hb2, _, rfl⟩
       ·rw [h0]; exact hb'
       ·have := hb2.app hb'
        rw [if_pos hgt] at this
        exact this
      ·simp [V.toInt, sel, Env.get]; omega
     ·have hgt : ¬ wrS W b' n > x := hgt
      ((conv=>whnf);repeat (refine Wa ?_;(repeat (first|refine Wb ?_|refine Wc ?_|refine Wd ?_|refine We ?_|refine Wf ?_));(conv=>whnf)))
      refine ⟨inr (by omega), ?_⟩
      ((conv=>whnf);repeat (refine Wa ?_;(repeat (first|refine Wb ?_|refine Wc ?_|refine Wd ?_|refine We ?_|refine Wf ?_));(conv=>whnf)))
      refine ⟨⟨k + 1, o, x, hk', ?_, rfl, Nat.le_trans hML (put_ge _ _ _), fun t ht => (Mem.get_put_other _ (by omega) _).trans (hM t ht)⟩, ?_⟩
      ·rw [hsucc]
       rcases hO with ⟨h0, _, hx1⟩ | ⟨b2, hb2, rfl, rfl⟩
       ·omega
       ·have := hb2.app hb'
        rw [if_neg hgt] at this
        exact .inr ⟨b2, this, rfl, rfl⟩
      ·simp [V.toInt, sel, Env.get]; omega
   ·obtain rfl : n = k := by omega
    ((conv=>whnf);repeat (refine Wa ?_;(repeat (first|refine Wb ?_|refine Wc ?_|refine Wd ?_|refine We ?_|refine Wf ?_));(conv=>whnf)))
    rcases hO with ⟨h0, _⟩ | ⟨b', hb', rfl, rfl⟩
    ·exact absurd h0 (asg_ne (n := n) (d + 1) l hl)
    ·obtain rfl := hb.uniq hb'
     ((conv=>whnf);repeat (refine Wa ?_;(repeat (first|refine Wb ?_|refine Wc ?_|refine Wd ?_|refine We ?_|refine Wf ?_));(conv=>whnf)))
     exact ⟨_, rfl, rfl, hM⟩
  obtain ⟨b, hb, h⟩ := key
  exact ⟨b, hb, AImm_of namedT2 h⟩
end Go.Tri
