/-
 CONTRACTS: a walk, over any memory that holds its three boxes.
-/
import Derived.Test.YtafibngpgllcfaaM1
import Derived.Test.YtafibngpgllcfaaB3
namespace Go.Tri
open Go.Proofs

@[reducible] def walkC (a b c : Nat) : V := .clo 94 3 fun i => [V.ptr a 0 0 0, V.ptr b 0 0 0, V.ptr c 0 0 0].getD i .any
@[reducible] def metO (s : Nat) : Option Ob := some ⟨3, 1, 0, .one [.int s]⟩
theorem aop_store {T : Tab} {nm t : Nat} {x y : Operand} {ev : Operand → V} {M : Mem} {n ver i o : Nat} {ob : Ob} {c' : Con} (hx : ev x = .ptr n ver i o) (h : M.get n = some ob) (hk : knownT (T.row t) = true) (ha : isAggT (T.row t) = false) (h1 : Nat.beq (T.row t).sz 1 = true)
  (hc : ob.c.set ob.sz i o (ev y) = some c') : aop T nm (.store t x y) ev M = some (ldO ver ob.ver o ob.sz, .any, M.put n { ob with c := c' }) := by
 simp only [aop, storeV, hx, h, hk, ha, h1, hc, cond_true, cond_false]
theorem aop_faddr {T : Tab} {nm s f : Nat} {x : Operand} {ev : Operand → V} {M : Mem} {n ver i o : Nat} {ob : Ob} {fs : List (Nat × Nat)} (hd : (T.row s).d = .struct fs) (hk : (Nat.blt f fs.length && knownT (T.row (fs.getD f (0, 0)).1) && Nat.blt 0 (T.row (fs.getD f (0, 0)).1).sz) = true) (hx : ev x = .ptr n ver i o) (h : M.get n = some ob) :
  aop T nm (.fieldAddr s x f) ev M = some (eqnO ver ob.ver, .ptr n ver i (o + (fs.getD f (0, 0)).2), M) := by
 simp only [aop, hd, hx, h, hk, cond_true]
theorem put_ge (o : Ob) : ∀ (M : Mem) (t : Nat), M.length ≤ (M.put t o).length
 | [], _ => Nat.zero_le _
 | _ :: _, 0 => Nat.le_refl _
 | _ :: r, t + 1 => Nat.succ_le_succ (put_ge o r t)
theorem gen_mem {K : Mem → Prop} {M0 M1 : Mem} (h : M0 = M1) (hk : K M1) : forceM M0 K := by rw [forceM_eq, h]; exact hk
theorem aop_storeA {T : Tab} {nm t : Nat} {x y : Operand} {ev : Operand → V} {M : Mem} {n ver i o q : Nat} {g : Nat → V} {ob : Ob} {c' : Con} (hx : ev x = .ptr n ver i o) (hy : ev y = .agg q g) (h : M.get n = some ob) (hk : knownT (T.row t) = true) (ha : isAggT (T.row t) = true) (hr : isArrT (T.row t) = false) (h1 : (Nat.beq q (T.row t).sz && Nat.ble (o + q) ob.sz) = true)
  (hc : storeCellsV ob.c ob.sz i o g q = some c') : aop T nm (.store t x y) ev M = some (eqnO ver ob.ver, .any, M.put n { ob with c := c' }) := by
 simp only [aop, storeV, hx, hy, h, hk, ha, hr, h1, hc, cond_true, cond_false, Bool.false_and]
/-- What a walk sees. -/
structure WM (M : Mem) (a b c : Nat) (fr : Bool) (n m : Nat) (A B : Nat → Int) (s : Nat) : Prop where
 ha : M.get a = metO s
 hb : M.get b = some ⟨57, 2, 0, .one [.int n, stV fr m A B]⟩
 hc : M.get c = some ⟨66, 1, 0, .one [walkC a b c]⟩
def wrK : List FuncId := [94]
theorem wk_has (A B : Nat → Nat) (m f s x : Nat) (h : s.testBit x = true) : wk A B m f s x = s := by
 cases f with
 | zero => rfl
 | succ f => rw [wk_succ, if_pos h]
set_option maxRecDepth 100000 in
theorem walk1_has (fr : Bool) (n m : Nat) (A B : Nat → Nat) (hn : n ≤ 20) (f : Nat) (M : Mem) (a b c s x : Nat) (hM : WM M a b c fr n m (fun j => A j) (fun j => B j) s) (hs : s < 2 ^ n) (hx : x < n) (h1 : s.testBit x = true) :
  ACM Try.prog 94 [.int x, .ptr a 0 0 0, .ptr b 0 0 0, .ptr c 0 0 0] M (fun R M' => R = .int (wk A B m f s x : Nat) ∧ M.length ≤ M'.length ∧ ∀ t, t < M.length → M'.get t = if t = a then metO (wk A B m f s x) else M.get t) := by
 refine ACM_of (T := tab) (wr := wrK) tab_ok Try.func94 (by decide) rfl (Nat.le_of_ble_eq_true rfl) (fun nb => ?_)
 have hs63 : s < 9223372036854775808 := Nat.lt_of_lt_of_le hs (Nat.le_trans (Nat.pow_le_pow_right (by decide) hn) (by decide))
 have e1 := wk_has A B m f s x h1
 ((conv=>whnf);repeat (refine Wa ?_;(repeat (first|refine Wb ?_|refine Wc ?_|refine Wd ?_|refine We ?_|refine Wf ?_));(conv=>whnf)))
 refine stepO (by exact aop_load rfl hM.ha rfl) ?_
 ((conv=>whnf);repeat (refine Wa ?_;(repeat (first|refine Wb ?_|refine Wc ?_|refine Wd ?_|refine We ?_|refine Wf ?_));(conv=>whnf)))
 refine APure.to (has_pure (s := s) (i := x) hs63 (by omega)) ?_
 rw [h1]
 ((conv=>whnf);repeat (refine Wa ?_;(repeat (first|refine Wb ?_|refine Wc ?_|refine Wd ?_|refine We ?_|refine Wf ?_));(conv=>whnf)))
 refine stepO (by exact aop_load rfl hM.ha rfl) ?_
 ((conv=>whnf);repeat (refine Wa ?_;(repeat (first|refine Wb ?_|refine Wc ?_|refine Wd ?_|refine We ?_|refine Wf ?_));(conv=>whnf)))
 refine ⟨_, rfl, by rw [e1]; rfl, Nat.le_refl _, fun t _ => ?_⟩
 rw [e1]
 by_cases hta : t = a
 ·rw [if_pos hta, hta]
  exact hM.ha
 ·rw [if_neg hta]
set_option maxRecDepth 100000 in
theorem walk1_cm (fr : Bool) (n m : Nat) (A B : Nat → Nat) (hn : n ≤ 20) (hm : m ≤ 100) (hA : ∀ j, j < m → A j < n) (hB : ∀ j, j < m → B j < n) : ∀ (f : Nat) (M : Mem) (a b c s x : Nat), WM M a b c fr n m (fun j => A j) (fun j => B j) s → s < 2 ^ n → x < n → unv s n ≤ f →
  ACM Try.prog 94 [.int x, .ptr a 0 0 0, .ptr b 0 0 0, .ptr c 0 0 0] M (fun R M' => R = .int (wk A B m f s x : Nat) ∧ M.length ≤ M'.length ∧ ∀ t, t < M.length → M'.get t = if t = a then metO (wk A B m f s x) else M.get t) := by
 intro f
 induction f with
 | zero =>
  intro M a b c s x hM hs hx hu
  exact walk1_has fr n m A B hn 0 M a b c s x hM hs hx (unv_zero n (by omega) x hx)
 | succ f ih =>
  intro M a b c s x hM hs hx hu
  by_cases h1 : s.testBit x = true
  ·exact walk1_has fr n m A B hn (f + 1) M a b c s x hM hs hx h1
  refine ACM_of (T := tab) (wr := wrK) tab_ok Try.func94 (by decide) rfl (Nat.le_of_ble_eq_true rfl) (fun nb => ?_)
  have hs63 : s < 9223372036854775808 := Nat.lt_of_lt_of_le hs (Nat.le_trans (Nat.pow_le_pow_right (by decide) hn) (by decide))
  ((conv=>whnf);repeat (refine Wa ?_;(repeat (first|refine Wb ?_|refine Wc ?_|refine Wd ?_|refine We ?_|refine Wf ?_));(conv=>whnf)))
  refine stepO (by exact aop_load rfl hM.ha rfl) ?_
  ((conv=>whnf);repeat (refine Wa ?_;(repeat (first|refine Wb ?_|refine Wc ?_|refine Wd ?_|refine We ?_|refine Wf ?_));(conv=>whnf)))
  refine APure.to (has_pure (s := s) (i := x) hs63 (by omega)) ?_
  ((conv=>whnf);repeat (refine Wa ?_;(repeat (first|refine Wb ?_|refine Wc ?_|refine Wd ?_|refine We ?_|refine Wf ?_));(conv=>whnf)))
  rw [show s.testBit x = false by simpa using h1]
  ((conv=>whnf);repeat (refine Wa ?_;(repeat (first|refine Wb ?_|refine Wc ?_|refine Wd ?_|refine We ?_|refine Wf ?_));(conv=>whnf)))
  ·have hp63 : 2 ^ x < 9223372036854775808 := Nat.lt_of_le_of_lt (Nat.pow_le_pow_right (by decide) (show x ≤ 20 by omega)) (by decide)
   refine AW_draw (X := ⟨Try.prog, tab, wrK, 33, nb, false⟩) tab_ok mixed (by kernel_rfl) ?_
   ((conv=>whnf);repeat (refine Wa ?_;(repeat (first|refine Wb ?_|refine Wc ?_|refine Wd ?_|refine We ?_|refine Wf ?_));(conv=>whnf)))
   refine stepO (by exact aop_load rfl hM.ha rfl) ?_
   ((conv=>whnf);repeat (refine Wa ?_;(repeat (first|refine Wb ?_|refine Wc ?_|refine Wd ?_|refine We ?_|refine Wf ?_));(conv=>whnf)))
   refine ⟨(show (0 : Int) ≤ (x : Int) by omega), ?_⟩
   rw [shlI (by omega)]
   ((conv=>whnf);repeat (refine Wa ?_;(repeat (first|refine Wb ?_|refine Wc ?_|refine Wd ?_|refine We ?_|refine Wf ?_));(conv=>whnf)))
   rw [orI hs63 hp63]
   ((conv=>whnf);repeat (refine Wa ?_;(repeat (first|refine Wb ?_|refine Wc ?_|refine Wd ?_|refine We ?_|refine Wf ?_));(conv=>whnf)))
   refine stepO (by exact aop_store rfl hM.ha rfl rfl rfl rfl) ?_
   ((conv=>whnf);repeat (refine Wa ?_;(repeat (first|refine Wb ?_|refine Wc ?_|refine Wd ?_|refine We ?_|refine Wf ?_));(conv=>whnf)))
   have hab : b ≠ a := fun h => by have h2 := hM.hb; rw [h, hM.ha] at h2; cases h2
   have hac : c ≠ a := fun h => by have h2 := hM.hc; rw [h, hM.ha] at h2; cases h2
   obtain ⟨M1, hMe⟩ : ∃ M1, M.put a ⟨3, 1, 0, .one [.int (s ||| 2 ^ x : Nat)]⟩ = M1 := ⟨_, rfl⟩
   have hg1 : ∀ t, M1.get t = if t = a then metO (s ||| 2 ^ x) else M.get t := fun t => by
    rw [← hMe]
    by_cases h : t = a
    ·rw [if_pos h, h]
     exact Mem.get_put_same M a _
    ·rw [if_neg h]
     exact Mem.get_put_other M h _
   have hM1 : WM M1 a b c fr n m (fun j => A j) (fun j => B j) (s ||| 2 ^ x) := ⟨by rw [hg1, if_pos rfl], by rw [hg1, if_neg hab]; exact hM.hb, by rw [hg1, if_neg hac]; exact hM.hc⟩
   refine gen_mem hMe ?_
   ((conv=>whnf);repeat (refine Wa ?_;(repeat (first|refine Wb ?_|refine Wc ?_|refine Wd ?_|refine We ?_|refine Wf ?_));(conv=>whnf)))
   refine stepO (by exact aop_faddr rfl rfl rfl hM1.hb) ?_
   ((conv=>whnf);repeat (refine Wa ?_;(repeat (first|refine Wb ?_|refine Wc ?_|refine Wd ?_|refine We ?_|refine Wf ?_));(conv=>whnf)))
   refine stepO (by exact aop_load rfl hM1.hb rfl) ?_
   ((conv=>whnf);repeat (refine Wa ?_;(repeat (first|refine Wb ?_|refine Wc ?_|refine Wd ?_|refine We ?_|refine Wf ?_));(conv=>whnf)))
   have hw : ∀ k, k ≤ m → wkS A B m f s x k < 2 ^ n := fun k hk => by
    induction k with
    | zero => exact Nat.or_lt_two_pow hs (Nat.pow_lt_pow_right (by decide) hx)
    | succ k ihk =>
     rw [wkS_succ]
     split
     ·exact wk_lt hB f _ _ (ihk (by omega)) (hB k (by omega))
     ·exact ihk (by omega)
   have hu1 : ∀ k, unv (wkS A B m f s x k) n ≤ f := fun k => by
    have h2 := unv_lt (s := s) (t := s ||| 2 ^ x) (c := x) (fun i hi => by rw [tb_or_pow, hi]; rfl) (by simpa using h1) (by rw [tb_or_pow]; simp) n hx
    have h3 := unv_le (wkS_sub A B m f s x k) n
    omega
   have hl1 : M.length ≤ M1.length := by
    have := get_lt hM.ha
    rw [← hMe]
    exact put_ge _ M a
   refine AW_loop (X := ⟨Try.prog, tab, wrK, 33, nb, false⟩) tab_ok [0, 1, 2, 3, 17, 18, 19] (fun vs M2 => ∃ k : Nat, k ≤ m ∧ vs = [.int x, .ptr a 0 0 0, .ptr b 0 0 0, .ptr c 0 0 0, stV fr m (fun j => A j) (fun j => B j), .int m, .int k] ∧ M.length ≤ M2.length ∧ ∀ t, t < M.length → M2.get t = if t = a then metO (wkS A B m f s x k) else M.get t)
    (fun vs _ => m - (vs.getD 6 .any).toInt.toNat) ?_ ?_
   ·exact ⟨0, Nat.zero_le _, rfl, hl1, fun t _ => hg1 t⟩
   rintro vs M2 ⟨k, hk, rfl, hl2, hg2⟩
   have hM2 : WM M2 a b c fr n m (fun j => A j) (fun j => B j) (wkS A B m f s x k) := ⟨by rw [hg2 a (get_lt hM.ha), if_pos rfl], by rw [hg2 b (get_lt hM.hb), if_neg hab]; exact hM.hb, by rw [hg2 c (get_lt hM.hc), if_neg hac]; exact hM.hc⟩
   ((conv=>whnf);repeat (refine Wa ?_;(repeat (first|refine Wb ?_|refine Wc ?_|refine Wd ?_|refine We ?_|refine Wf ?_));(conv=>whnf)))
   refine br_dec (fun hlt => ?_) (fun hge => ?_)
   ·have hk' : k < m := by omega
    ((conv=>whnf);repeat (refine Wa ?_;(repeat (first|refine Wb ?_|refine Wc ?_|refine Wd ?_|refine We ?_|refine Wf ?_));(conv=>whnf)))
    refine ⟨(show (0 : Int) ≤ (k : Int) by omega), ?_⟩
    refine ⟨(show (k : Int) < (m : Int) by omega), ?_⟩
    rw [Int.toNat_natCast]
    ((conv=>whnf);repeat (refine Wa ?_;(repeat (first|refine Wb ?_|refine Wc ?_|refine Wd ?_|refine We ?_|refine Wf ?_));(conv=>whnf)))
    rw [forceNP_eq]
    ((conv=>whnf);repeat (refine Wa ?_;(repeat (first|refine Wb ?_|refine Wc ?_|refine Wd ?_|refine We ?_|refine Wf ?_));(conv=>whnf)))
    obtain ⟨M3, hMe3⟩ : ∃ M3, M2.put M2.length ⟨34, 2, 0, newCon (tab.row 34)⟩ = M3 := ⟨_, rfl⟩
    have hL3 : M3.get M2.length = some ⟨34, 2, 0, newCon (tab.row 34)⟩ := by rw [← hMe3]; exact Mem.get_put_same ..
    have hg3 : ∀ t, t < M2.length → M3.get t = M2.get t := fun t ht => by rw [← hMe3]; exact Mem.get_put_other _ (by omega) _
    refine gen_mem hMe3 ?_
    ((conv=>whnf);repeat (refine Wa ?_;(repeat (first|refine Wb ?_|refine Wc ?_|refine Wd ?_|refine We ?_|refine Wf ?_));(conv=>whnf)))
    refine stepO (by exact aop_storeA rfl rfl hL3 rfl rfl rfl rfl rfl) ?_
    ((conv=>whnf);repeat (refine Wa ?_;(repeat (first|refine Wb ?_|refine Wc ?_|refine Wd ?_|refine We ?_|refine Wf ?_));(conv=>whnf)))
    obtain ⟨M4, hMe4⟩ : ∃ M4, M3.put M2.length ⟨34, 2, 0, .one [.int (A k), .int (B k)]⟩ = M4 := ⟨_, rfl⟩
    have hL4 : M4.get M2.length = some ⟨34, 2, 0, .one [.int (A k), .int (B k)]⟩ := by rw [← hMe4]; exact Mem.get_put_same ..
    have hg4 : ∀ t, t < M.length → M4.get t = if t = a then metO (wkS A B m f s x k) else M.get t := fun t ht => by
     rw [← hMe4, Mem.get_put_other _ (by omega), hg3 t (by omega)]
     exact hg2 t ht
    have hl4 : M.length ≤ M4.length := by have := get_lt hL4; omega
    have hM4 : WM M4 a b c fr n m (fun j => A j) (fun j => B j) (wkS A B m f s x k) := ⟨by rw [hg4 a (get_lt hM.ha), if_pos rfl], by rw [hg4 b (get_lt hM.hb), if_neg hab]; exact hM.hb, by rw [hg4 c (get_lt hM.hc), if_neg hac]; exact hM.hc⟩
    refine gen_mem hMe4 ?_
    ((conv=>whnf);repeat (refine Wa ?_;(repeat (first|refine Wb ?_|refine Wc ?_|refine Wd ?_|refine We ?_|refine Wf ?_));(conv=>whnf)))
    refine stepO (by exact aop_faddr rfl rfl rfl hL4) ?_
    ((conv=>whnf);repeat (refine Wa ?_;(repeat (first|refine Wb ?_|refine Wc ?_|refine Wd ?_|refine We ?_|refine Wf ?_));(conv=>whnf)))
    refine stepO (by exact aop_load rfl hL4 rfl) ?_
    ((conv=>whnf);repeat (refine Wa ?_;(repeat (first|refine Wb ?_|refine Wc ?_|refine Wd ?_|refine We ?_|refine Wf ?_));(conv=>whnf)))
    refine br_eq (fun h5 => ?_) (fun h5 => ?_)
    ·have h5 : A k = x := by have h5 : (A k : Int) = x := h5; omega
     ((conv=>whnf);repeat (refine Wa ?_;(repeat (first|refine Wb ?_|refine Wc ?_|refine Wd ?_|refine We ?_|refine Wf ?_));(conv=>whnf)))
     refine stepO (by exact aop_load rfl hM4.hc rfl) ?_
     ((conv=>whnf);repeat (refine Wa ?_;(repeat (first|refine Wb ?_|refine Wc ?_|refine Wd ?_|refine We ?_|refine Wf ?_));(conv=>whnf)))
     refine stepO (by exact aop_faddr rfl rfl rfl hL4) ?_
     ((conv=>whnf);repeat (refine Wa ?_;(repeat (first|refine Wb ?_|refine Wc ?_|refine Wd ?_|refine We ?_|refine Wf ?_));(conv=>whnf)))
     refine stepO (by exact aop_load rfl hL4 rfl) ?_
     ((conv=>whnf);repeat (refine Wa ?_;(repeat (first|refine Wb ?_|refine Wc ?_|refine Wd ?_|refine We ?_|refine Wf ?_));(conv=>whnf)))
     refine (ih M4 a b c (wkS A B m f s x k) (B k) hM4 (hw k hk) (hB k hk') (hu1 k)).mono ?_
     rintro R M5 ⟨rfl, hl5, hg5⟩
     ((conv=>whnf);repeat (refine Wa ?_;(repeat (first|refine Wb ?_|refine Wc ?_|refine Wd ?_|refine We ?_|refine Wf ?_));(conv=>whnf)))
     refine ⟨inr (by omega), ?_⟩
     ((conv=>whnf);repeat (refine Wa ?_;(repeat (first|refine Wb ?_|refine Wc ?_|refine Wd ?_|refine We ?_|refine Wf ?_));(conv=>whnf)))
     refine ⟨⟨k + 1, hk', rfl, by omega, fun t ht => ?_⟩, ?_⟩
     ·rw [wkS_succ, if_pos h5, hg5 t (by omega)]
      by_cases hta : t = a
      ·rw [if_pos hta, if_pos hta]
      ·rw [if_neg hta, if_neg hta, hg4 t ht, if_neg hta]
     ·simp [V.toInt, sel, Env.get]; omega
    ·have h5 : A k ≠ x := by have h5 : (A k : Int) ≠ x := h5; omega
     ((conv=>whnf);repeat (refine Wa ?_;(repeat (first|refine Wb ?_|refine Wc ?_|refine Wd ?_|refine We ?_|refine Wf ?_));(conv=>whnf)))
     refine ⟨inr (by omega), ?_⟩
     ((conv=>whnf);repeat (refine Wa ?_;(repeat (first|refine Wb ?_|refine Wc ?_|refine Wd ?_|refine We ?_|refine Wf ?_));(conv=>whnf)))
     refine ⟨⟨k + 1, hk', rfl, hl4, fun t ht => ?_⟩, ?_⟩
     ·rw [wkS_succ, if_neg h5]
      exact hg4 t ht
     ·simp [V.toInt, sel, Env.get]; omega
   ·obtain rfl : k = m := by omega
    ((conv=>whnf);repeat (refine Wa ?_;(repeat (first|refine Wb ?_|refine Wc ?_|refine Wd ?_|refine We ?_|refine Wf ?_));(conv=>whnf)))
    refine stepO (by exact aop_load rfl hM2.ha rfl) ?_
    ((conv=>whnf);repeat (refine Wa ?_;(repeat (first|refine Wb ?_|refine Wc ?_|refine Wd ?_|refine We ?_|refine Wf ?_));(conv=>whnf)))
    have e1 : wk A B k (f + 1) s x = wkS A B k f s x k := by rw [wk_succ, if_neg h1]
    refine ⟨_, rfl, by rw [e1]; rfl, hl2, fun t ht => ?_⟩
    rw [e1]
    exact hg2 t ht
end Go.Tri
