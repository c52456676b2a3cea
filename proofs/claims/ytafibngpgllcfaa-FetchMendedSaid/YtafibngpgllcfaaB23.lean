/-
 CONTRACTS: are the cuts of a list apart? IsMend, AreApart.
-/
import Derived.Test.YtafibngpgllcfaaB22
namespace Go.Tri
open Go.Proofs

theorem has_any (z i : Int) (hi : 0 ≤ i) : APure Try.prog 72 [.int z, .int i] (fun R => ∃ b, R = .bool b) := by
 refine APure_of (X := cx 10) (cx_ok 10) rfl (rs := [(.tmp 4, 4)]) Try.func72 (by decide) rfl rfl rfl (by simp [cx]) (by simp [NoFr]) ?_
 intro _
 ((conv=>whnf);repeat (refine Wa ?_;(repeat (first|refine Wb ?_|refine Wc ?_|refine Wd ?_|refine We ?_|refine Wf ?_));(conv=>whnf)))
 refine ⟨hi, ?_⟩
 ((conv=>whnf);repeat (refine Wa ?_;(repeat (first|refine Wb ?_|refine Wc ?_|refine Wd ?_|refine We ?_|refine Wf ?_));(conv=>whnf)))
 exact ⟨trivial, _, rfl⟩
set_option maxRecDepth 100000 in
theorem leaving_any {n m : Nat} {A B : Nat → Nat} (hQ : Qn n m A B) (z : Int) : APure Try.prog 48 [qu n m A B, .int z] (fun R => ∃ t, R = .int t) := by
 refine APure_of (X := cx 33) (cx_ok 33) rfl (rs := [(.tmp 4, 3)]) Try.func48 (by decide) rfl rfl rfl (by simp [cx]) (nofr2 nofrQ' nofrInt) ?_
 intro hlen
 obtain ⟨h2, h7, hm, hA, hB⟩ := hQ
 ((conv=>whnf);repeat (refine Wa ?_;(repeat (first|refine Wb ?_|refine Wc ?_|refine Wd ?_|refine We ?_|refine Wf ?_));(conv=>whnf)))
 refine AW_loopA (X := cx 33) (cx_ok 33) [1, 5, 9, 10, 11] (cutN 1) (fun vs M => ∃ (k : Nat) (t : Int), k ≤ m ∧ vs = [.int z, .int t, stV false m (fun j => A j) (fun j => B j), .int m, .int k] ∧ M = [some (quO n m (fun j => A j) (fun j => B j))]) (fun vs _ => m - (vs.getD 4 .any).toInt.toNat) (fun t ht => cutN_iff.2 ht) ?_ ?_
 ·exact same0 ⟨0, 0, Nat.zero_le _, rfl, rfl⟩
 rintro vs M ⟨k, t, hk, rfl, rfl⟩
 ((conv=>whnf);repeat (refine Wa ?_;(repeat (first|refine Wb ?_|refine Wc ?_|refine Wd ?_|refine We ?_|refine Wf ?_));(conv=>whnf)))
 refine br_dec (fun hlt => ?_) (fun hge => ?_)
 ·have hk' : k < m := by omega
  have rnd : ∀ t : Int, (∃ (k' : Nat) (t' : Int), k' ≤ m ∧ [V.int z, V.int t, stV false m (fun j => A j) (fun j => B j), V.int m, V.int ((k : Int) + 1)] = [V.int z, V.int t', stV false m (fun j => A j) (fun j => B j), V.int m, V.int k'] ∧ [some (quO n m (fun j => A j) (fun j => B j))] = [some (quO n m (fun j => A j) (fun j => B j))]) := fun t => ⟨k + 1, t, hk', rfl, rfl⟩
  ((conv=>whnf);repeat (refine Wa ?_;(repeat (first|refine Wb ?_|refine Wc ?_|refine Wd ?_|refine We ?_|refine Wf ?_));(conv=>whnf)))
  repeat ((first | refine ⟨by omega, ?_⟩ | refine ⟨inr (by omega), ?_⟩ | refine eqn_self ?_ | refine ⟨ms (by omega), ?_⟩ | refine ⟨ms (by simp only [Src.n]; omega), ?_⟩ | refine ⟨msk (by omega), ?_⟩ | refine ⟨ms1, ?_⟩); ((conv=>whnf);repeat (refine Wa ?_;(repeat (first|refine Wb ?_|refine Wc ?_|refine Wd ?_|refine We ?_|refine Wf ?_));(conv=>whnf))))
  rw [Int.toNat_natCast]
  refine (has_any z (A k) (by omega)).mono ?_
  rintro R ⟨b1, rfl⟩
  ((conv=>whnf);repeat (refine Wa ?_;(repeat (first|refine Wb ?_|refine Wc ?_|refine Wd ?_|refine We ?_|refine Wf ?_));(conv=>whnf)))
  refine br_mk (fun hb => ?_) (fun hb => ?_)
  ·((conv=>whnf);repeat (refine Wa ?_;(repeat (first|refine Wb ?_|refine Wc ?_|refine Wd ?_|refine We ?_|refine Wf ?_));(conv=>whnf)))
   refine (has_any z (B k) (by omega)).mono ?_
   rintro R ⟨b2, rfl⟩
   ((conv=>whnf);repeat (refine Wa ?_;(repeat (first|refine Wb ?_|refine Wc ?_|refine Wd ?_|refine We ?_|refine Wf ?_));(conv=>whnf)))
   refine br_not ?_
   refine br_mk (fun hb2 => ?_) (fun hb2 => ?_)
   ·((conv=>whnf);repeat (refine Wa ?_;(repeat (first|refine Wb ?_|refine Wc ?_|refine Wd ?_|refine We ?_|refine Wf ?_));(conv=>whnf)))
    refine ⟨inr (by omega), ?_⟩
    ((conv=>whnf);repeat (refine Wa ?_;(repeat (first|refine Wb ?_|refine Wc ?_|refine Wd ?_|refine We ?_|refine Wf ?_));(conv=>whnf)))
    refine ⟨?_, same1 ⟨rnd _, by simp [V.toInt, sel, Env.get]; omega⟩⟩
    exact ⟨by repeat (first|exact trivial|exact rfl|exact namedS|exact fun _=>trivial|exact fun _ _=>trivial|exact fun _ _ _=>trivial|exact fun _ _ _ _=>trivial|refine And.intro ?_ ?_), ⟨trivial, namedS, trivial⟩, trivial⟩
   ·((conv=>whnf);repeat (refine Wa ?_;(repeat (first|refine Wb ?_|refine Wc ?_|refine Wd ?_|refine We ?_|refine Wf ?_));(conv=>whnf)))
    refine ⟨by omega, ?_⟩
    ((conv=>whnf);repeat (refine Wa ?_;(repeat (first|refine Wb ?_|refine Wc ?_|refine Wd ?_|refine We ?_|refine Wf ?_));(conv=>whnf)))
    refine ⟨inr (by omega), ?_⟩
    ((conv=>whnf);repeat (refine Wa ?_;(repeat (first|refine Wb ?_|refine Wc ?_|refine Wd ?_|refine We ?_|refine Wf ?_));(conv=>whnf)))
    refine ⟨?_, same1 ⟨rnd _, by simp [V.toInt, sel, Env.get]; omega⟩⟩
    exact ⟨by repeat (first|exact trivial|exact rfl|exact namedS|exact fun _=>trivial|exact fun _ _=>trivial|exact fun _ _ _=>trivial|exact fun _ _ _ _=>trivial|refine And.intro ?_ ?_), ⟨trivial, namedS, trivial⟩, trivial⟩
  ·((conv=>whnf);repeat (refine Wa ?_;(repeat (first|refine Wb ?_|refine Wc ?_|refine Wd ?_|refine We ?_|refine Wf ?_));(conv=>whnf)))
   refine ⟨inr (by omega), ?_⟩
   ((conv=>whnf);repeat (refine Wa ?_;(repeat (first|refine Wb ?_|refine Wc ?_|refine Wd ?_|refine We ?_|refine Wf ?_));(conv=>whnf)))
   refine ⟨?_, same1 ⟨rnd _, by simp [V.toInt, sel, Env.get]; omega⟩⟩
   exact ⟨by repeat (first|exact trivial|exact rfl|exact namedS|exact fun _=>trivial|exact fun _ _=>trivial|exact fun _ _ _=>trivial|exact fun _ _ _ _=>trivial|refine And.intro ?_ ?_), ⟨trivial, namedS, trivial⟩, trivial⟩
 ·obtain rfl : k = m := by omega
  ((conv=>whnf);repeat (refine Wa ?_;(repeat (first|refine Wb ?_|refine Wc ?_|refine Wd ?_|refine We ?_|refine Wf ?_));(conv=>whnf)))
  exact ⟨trivial, _, rfl⟩
theorem cutZ_pos {n m : Nat} {A B : Nat → Nat} {z : Int} (h : cutZ n m A B z = true) : 0 < z ∧ z.toNat < fullN n := by
 unfold cutZ cutB at h
 simp only [Bool.and_eq_true, decide_eq_true_iff] at h
 exact ⟨h.1, h.2.2.1⟩
set_option maxRecDepth 100000 in
theorem areApart_pure {n m : Nat} {A B : Nat → Nat} (hQ : Qn n m A B) (l : List Int) : APure Try.prog 58 [qu n m A B, .ints false l] (fun R => R = .bool (apB n m A B l l.length)) := by
 refine APure_of (X := cx 32) (cx_ok 32) rfl (rs := [(.tmp 4, 4)]) Try.func58 (by decide) rfl rfl rfl (by simp [cx]) (nofrQL) ?_
 intro hlen
 have hl := LenL hlen
 have hm := hQ.sm
 ((conv=>whnf);repeat (refine Wa ?_;(repeat (first|refine Wb ?_|refine Wc ?_|refine Wd ?_|refine We ?_|refine Wf ?_));(conv=>whnf)))
 refine AW_loop (X := cx 32) (cx_ok 32) [2, 5, 9, 10, 11] (fun vs M => ∃ k : Nat, k ≤ l.length ∧ apB n m A B l k = true ∧ vs = [.ptr 0 0 0 0, .int (tkO m A B l k : Nat), .ints false l, .int l.length, .int k] ∧ M = [some (quO n m (fun j => A j) (fun j => B j))]) (fun vs _ => l.length - (vs.getD 4 .any).toInt.toNat) ?_ ?_
 ·exact ⟨0, Nat.zero_le _, rfl, rfl, rfl⟩
 rintro vs M ⟨k, hk, hap, rfl, rfl⟩
 ((conv=>whnf);repeat (refine Wa ?_;(repeat (first|refine Wb ?_|refine Wc ?_|refine Wd ?_|refine We ?_|refine Wf ?_));(conv=>whnf)))
 refine br_dec (fun hlt => ?_) (fun hge => ?_)
 ·have hk' : k < l.length := by omega
  have no : apP n m A B l k = false → false = apB n m A B l l.length := fun h => (allB_false hk' h).symm
  have c1 := isCut_pure hQ (l.getD k 0)
  have ht1 : tkO m A B l k < 9223372036854775808 := lt63 (tkO_lt l k) (by omega)
  cases hc : cutZ n m A B (l.getD k 0) with
  | false =>
   rw [hc] at c1
   have c2 := leaving_any hQ (l.getD k 0)
   ((conv=>whnf);repeat (refine Wa ?_;(repeat (first|refine Wb ?_|refine Wc ?_|refine Wd ?_|refine We ?_|refine Wf ?_));(conv=>whnf)))
   repeat ((first | refine ⟨by omega, ?_⟩ | refine ⟨inr (by omega), ?_⟩ | refine eqn_self ?_ | refine ⟨ms (by omega), ?_⟩ | refine ⟨ms (by simp only [Src.n]; omega), ?_⟩ | refine ⟨msk (by omega), ?_⟩ | refine ⟨ms1, ?_⟩); ((conv=>whnf);repeat (refine Wa ?_;(repeat (first|refine Wb ?_|refine Wc ?_|refine Wd ?_|refine We ?_|refine Wf ?_));(conv=>whnf))))
   rw [Int.toNat_natCast]
   refine APure.mono (APure.arg2 (subQ rfl rfl) (Sub.refl _) c2) ?_
   rintro R ⟨t, rfl⟩
   ((conv=>whnf);repeat (refine Wa ?_;(repeat (first|refine Wb ?_|refine Wc ?_|refine Wd ?_|refine We ?_|refine Wf ?_));(conv=>whnf)))
   refine APure.to (APure.arg2 (subQ rfl rfl) (Sub.refl _) c1) ?_
   ((conv=>whnf);repeat (refine Wa ?_;(repeat (first|refine Wb ?_|refine Wc ?_|refine Wd ?_|refine We ?_|refine Wf ?_));(conv=>whnf)))
   refine ⟨trivial, Qb (no ?_)⟩
   unfold apP
   rw [hc, Bool.false_and]
  | true =>
   rw [hc] at c1
   obtain ⟨hz, hzf⟩ := cutZ_pos hc
   have hf := full_le hQ.hi
   obtain ⟨t, ht⟩ : ∃ t : Nat, l.getD k 0 = t := ⟨(l.getD k 0).toNat, by omega⟩
   have c2 := leaving_pure hQ t (by omega)
   have ht2 : lvS A B t m < 9223372036854775808 := lt63 (lvS_lt A B t m) (by omega)
   have e : tkO m A B l (k + 1) = tkO m A B l k ||| lvS A B t m := by rw [tkO, ht, Int.toNat_natCast]
   have eP : apP n m A B l k = (tkO m A B l k &&& lvS A B t m == 0) := by unfold apP; rw [hc, Bool.true_and, ht, Int.toNat_natCast]
   rw [ht] at c1
   ((conv=>whnf);repeat (refine Wa ?_;(repeat (first|refine Wb ?_|refine Wc ?_|refine Wd ?_|refine We ?_|refine Wf ?_));(conv=>whnf)))
   repeat ((first | refine ⟨by omega, ?_⟩ | refine ⟨inr (by omega), ?_⟩ | refine eqn_self ?_ | refine ⟨ms (by omega), ?_⟩ | refine ⟨ms (by simp only [Src.n]; omega), ?_⟩ | refine ⟨msk (by omega), ?_⟩ | refine ⟨ms1, ?_⟩); ((conv=>whnf);repeat (refine Wa ?_;(repeat (first|refine Wb ?_|refine Wc ?_|refine Wd ?_|refine We ?_|refine Wf ?_));(conv=>whnf))))
   rw [Int.toNat_natCast, ht]
   refine APure.to (APure.arg2 (subQ rfl rfl) (Sub.refl _) c2) ?_
   ((conv=>whnf);repeat (refine Wa ?_;(repeat (first|refine Wb ?_|refine Wc ?_|refine Wd ?_|refine We ?_|refine Wf ?_));(conv=>whnf)))
   refine APure.to (APure.arg2 (subQ rfl rfl) (Sub.refl _) c1) ?_
   ((conv=>whnf);repeat (refine Wa ?_;(repeat (first|refine Wb ?_|refine Wc ?_|refine Wd ?_|refine We ?_|refine Wf ?_));(conv=>whnf)))
   rw [andI ht1 ht2]
   refine br_ne (fun h1 => ?_) (fun h1 => ?_)
   ·((conv=>whnf);repeat (refine Wa ?_;(repeat (first|refine Wb ?_|refine Wc ?_|refine Wd ?_|refine We ?_|refine Wf ?_));(conv=>whnf)))
    refine ⟨trivial, Qb (no ?_)⟩
    rw [eP]
    cases h2 : (tkO m A B l k &&& lvS A B t m == 0) with
    | false => rfl
    | true => rw [beq_iff_eq] at h2; rw [h2] at h1; exact absurd rfl h1
   ·((conv=>whnf);repeat (refine Wa ?_;(repeat (first|refine Wb ?_|refine Wc ?_|refine Wd ?_|refine We ?_|refine Wf ?_));(conv=>whnf)))
    rw [orI ht1 ht2]
    refine ⟨inr (by omega), ?_⟩
    ((conv=>whnf);repeat (refine Wa ?_;(repeat (first|refine Wb ?_|refine Wc ?_|refine Wd ?_|refine We ?_|refine Wf ?_));(conv=>whnf)))
    refine ⟨⟨k + 1, hk', allB_iff.2 fun j hj => ?_, by rw [e]; rfl, rfl⟩, by simp [V.toInt, sel, Env.get]; omega⟩
    by_cases hjk : j = k
    ·rw [hjk, eP, beq_iff_eq]
     omega
    ·exact allB_iff.1 hap j (by omega)
 ·obtain rfl : k = l.length := by omega
  ((conv=>whnf);repeat (refine Wa ?_;(repeat (first|refine Wb ?_|refine Wc ?_|refine Wd ?_|refine We ?_|refine Wf ?_));(conv=>whnf)))
  exact ⟨trivial, Qb hap.symm⟩
theorem nofrNL {n : Int} {m : Nat} {A B : Nat → Int} {l : List Int} : ∀ x ∈ [V.int n, stV false m A B, V.ints false l], NoFr x := by intro x hx; simp at hx; rcases hx with rfl | rfl | rfl; exact nofrInt; exact nofrS; rfl
set_option maxRecDepth 100000 in
theorem IsMend_bad {n : Int} {m : Nat} {A B : Nat → Int} (l : List Int) (h : ckE n m A B ≠ 0) : APure Try.prog 28 [.int n, stV false m A B, .ints false l] (fun R => R = tup2 (.bool false) (.int (ckE n m A B))) := by
 refine APure_of (X := cx 21) (cx_ok 21) rfl (rs := [(.tmp 6, 4), (.tmp 7, 26)]) Try.func28 (by decide) rfl rfl rfl (by simp [cx]) (nofrNL) ?_
 intro hlen
 have c1 := check_all n m A B
 ((conv=>whnf);repeat (refine Wa ?_;(repeat (first|refine Wb ?_|refine Wc ?_|refine Wd ?_|refine We ?_|refine Wf ?_));(conv=>whnf)))
 refine APure.to (APure.arg1 (subQ2 rfl rfl) c1) ?_
 ((conv=>whnf);repeat (refine Wa ?_;(repeat (first|refine Wb ?_|refine Wc ?_|refine Wd ?_|refine We ?_|refine Wf ?_));(conv=>whnf)))
 refine br_ne (fun _ => ?_) (fun h' => absurd h' h)
 ((conv=>whnf);repeat (refine Wa ?_;(repeat (first|refine Wb ?_|refine Wc ?_|refine Wd ?_|refine We ?_|refine Wf ?_));(conv=>whnf)))
 exact ⟨trivial, trivial, rfl⟩
set_option maxRecDepth 100000 in
theorem IsMend_pure {n m : Nat} {A B : Nat → Nat} (h : Qok n m A B) (l : List Int) : APure Try.prog 28 [.int n, stV false m (fun j => A j) (fun j => B j), .ints false l] (fun R => R = tup2 (.bool (imB n m A B l)) (.int 0)) := by
 refine APure_of (X := cx 21) (cx_ok 21) rfl (rs := [(.tmp 6, 4), (.tmp 7, 26)]) Try.func28 (by decide) rfl rfl rfl (by simp [cx]) (nofrNL) ?_
 intro hlen
 have c1 := check_all n m (fun j => A j) (fun j => B j)
 rw [ckE_ok h] at c1
 have c2 := isMend_pure h.q l
 ((conv=>whnf);repeat (refine Wa ?_;(repeat (first|refine Wb ?_|refine Wc ?_|refine Wd ?_|refine We ?_|refine Wf ?_));(conv=>whnf)))
 refine APure.to (APure.arg1 (subQ2 rfl rfl) c1) ?_
 ((conv=>whnf);repeat (refine Wa ?_;(repeat (first|refine Wb ?_|refine Wc ?_|refine Wd ?_|refine We ?_|refine Wf ?_));(conv=>whnf)))
 refine APure.to (APure.arg2 (subQ rfl rfl) (Sub.refl _) c2) ?_
 ((conv=>whnf);repeat (refine Wa ?_;(repeat (first|refine Wb ?_|refine Wc ?_|refine Wd ?_|refine We ?_|refine Wf ?_));(conv=>whnf)))
 exact ⟨trivial, trivial, rfl⟩
set_option maxRecDepth 100000 in
theorem AreApart_bad {n : Int} {m : Nat} {A B : Nat → Int} (l : List Int) (h : ckE n m A B ≠ 0) : APure Try.prog 30 [.int n, stV false m A B, .ints false l] (fun R => R = tup2 (.bool false) (.int (ckE n m A B))) := by
 refine APure_of (X := cx 21) (cx_ok 21) rfl (rs := [(.tmp 6, 4), (.tmp 7, 26)]) Try.func30 (by decide) rfl rfl rfl (by simp [cx]) (nofrNL) ?_
 intro hlen
 have c1 := check_all n m A B
 ((conv=>whnf);repeat (refine Wa ?_;(repeat (first|refine Wb ?_|refine Wc ?_|refine Wd ?_|refine We ?_|refine Wf ?_));(conv=>whnf)))
 refine APure.to (APure.arg1 (subQ2 rfl rfl) c1) ?_
 ((conv=>whnf);repeat (refine Wa ?_;(repeat (first|refine Wb ?_|refine Wc ?_|refine Wd ?_|refine We ?_|refine Wf ?_));(conv=>whnf)))
 refine br_ne (fun _ => ?_) (fun h' => absurd h' h)
 ((conv=>whnf);repeat (refine Wa ?_;(repeat (first|refine Wb ?_|refine Wc ?_|refine Wd ?_|refine We ?_|refine Wf ?_));(conv=>whnf)))
 exact ⟨trivial, trivial, rfl⟩
set_option maxRecDepth 100000 in
theorem AreApart_pure {n m : Nat} {A B : Nat → Nat} (h : Qok n m A B) (l : List Int) : APure Try.prog 30 [.int n, stV false m (fun j => A j) (fun j => B j), .ints false l] (fun R => R = tup2 (.bool (apB n m A B l l.length)) (.int 0)) := by
 refine APure_of (X := cx 21) (cx_ok 21) rfl (rs := [(.tmp 6, 4), (.tmp 7, 26)]) Try.func30 (by decide) rfl rfl rfl (by simp [cx]) (nofrNL) ?_
 intro hlen
 have c1 := check_all n m (fun j => A j) (fun j => B j)
 rw [ckE_ok h] at c1
 have c2 := areApart_pure h.q l
 ((conv=>whnf);repeat (refine Wa ?_;(repeat (first|refine Wb ?_|refine Wc ?_|refine Wd ?_|refine We ?_|refine Wf ?_));(conv=>whnf)))
 refine APure.to (APure.arg1 (subQ2 rfl rfl) c1) ?_
 ((conv=>whnf);repeat (refine Wa ?_;(repeat (first|refine Wb ?_|refine Wc ?_|refine Wd ?_|refine We ?_|refine Wf ?_));(conv=>whnf)))
 refine APure.to (APure.arg2 (subQ rfl rfl) (Sub.refl _) c2) ?_
 ((conv=>whnf);repeat (refine Wa ?_;(repeat (first|refine Wb ?_|refine Wc ?_|refine Wd ?_|refine We ?_|refine Wf ?_));(conv=>whnf)))
 exact ⟨trivial, trivial, rfl⟩
end Go.Tri
