/-
  CONTRACTS: the winner's parts, the program's.
-/
import Derived.Test.YtghkpmeonoadlaaB15
import Derived.Test.YtghkpmeonoadlaaM2
namespace Go.Tri
open Go.Proofs

def setW (n : Nat) (L : List Int) (den : Int) : Nat → List Int
  | 0 => List.replicate n 0
  | k + 1 => (setW n L den k).set (L.getD k 0).toNat den
theorem setW_len {n : Nat} {L : List Int} {den : Int} : ∀ k, (setW n L den k).length = n
  | 0 => List.length_replicate
  | k + 1 => by simp only [setW, List.length_set]; exact setW_len k
def winN (n : Nat) (L : List Int) (den lead : Int) (w : Nat) : List Int := (setW n L den w).set (L.getD w 0).toNat lead
theorem winN_len {n : Nat} {L : List Int} {den lead : Int} {w : Nat} : (winN n L den lead w).length = n := by simp only [winN, List.length_set]; exact setW_len w
theorem getD_set_or (l : List Int) (i : Nat) (x : Int) (j : Nat) : (l.set i x).getD j 0 = x ∨ (l.set i x).getD j 0 = l.getD j 0 := by
  by_cases h : i = j
  · subst h
    by_cases hl : i < l.length
    · exact .inl (by simp [List.getD, hl])
    · exact .inr (by rw [List.set_eq_of_length_le (by omega)])
  · exact .inr (by simp only [List.getD, List.getElem?_set_ne h])
theorem setW_or {n : Nat} {L : List Int} {den : Int} : ∀ k j, (setW n L den k).getD j 0 = 0 ∨ (setW n L den k).getD j 0 = den
  | 0, j => .inl (by
      simp only [setW, List.getD]
      by_cases h : j < n <;> simp [h])
  | k + 1, j => by
    simp only [setW]
    rcases getD_set_or (setW n L den k) (L.getD k 0).toNat den j with h | h
    · exact .inr h
    · rw [h]; exact setW_or k j
theorem winN_or {n : Nat} {L : List Int} {den lead : Int} {w j : Nat} : (winN n L den lead w).getD j 0 = lead ∨ (winN n L den lead w).getD j 0 = 0 ∨ (winN n L den lead w).getD j 0 = den := by
  unfold winN
  rcases getD_set_or (setW n L den w) (L.getD w 0).toNat lead j with h | h
  · exact .inl h
  · rw [h]; exact .inr (setW_or w j)
theorem ldR_nn {f g : Nat → Int} {L : List Int} {w : Nat} (h : ∀ j, j < w → toR f g (L.getD j 0) ≤ ldR f g L j) : 0 ≤ ldR f g L w := by
  cases w with
  | zero => simp [ldR]
  | succ w =>
    have := h w (by omega)
    simp only [ldR]
    omega
theorem getD_memI {l : List Int} {j : Nat} (h : j < l.length) : l.getD j 0 ∈ l := by
  rw [show l.getD j 0 = l[j] by simp [List.getD, List.getElem?_eq_getElem h]]
  exact List.getElem_mem h
theorem ldR_bd {n : Nat} {f g : Nat → Int} {L : List Int} (ht : ∀ j, j < n → 0 ≤ toR f g (L.getD j 0) ∧ toR f g (L.getD j 0) ≤ 200) : ∀ k, k ≤ n → -200 * (k : Int) ≤ ldR f g L k ∧ ldR f g L k ≤ 100
  | 0, _ => by simp [ldR]
  | k + 1, h => by
    have := ldR_bd ht k (by omega)
    have := ht k (by omega)
    simp only [ldR]
    omega
set_option maxRecDepth 100000 in
theorem winner_pure {n w : Nat} {f g : Nat → Int} (h1 : 1 ≤ n) (h8 : n ≤ 8) (hf : in100 n f) (hg : in100 n g) (hw : w < n)
    (hge : ∀ j, j < w → toR f g ((ordR f g n).getD j 0) ≤ ldR f g (ordR f g n) j) (hlt : ldR f g (ordR f g n) w < toR f g ((ordR f g n).getD w 0)) :
    APure Try.prog 51 [dealV false n f g]
      (fun R => R = parV true (lowN (winN n (ordR f g n) (toR f g ((ordR f g n).getD w 0)) (ldR f g (ordR f g n) w) w) (toR f g ((ordR f g n).getD w 0)))
        ((toR f g ((ordR f g n).getD w 0)).tdiv (gP (winN n (ordR f g n) (toR f g ((ordR f g n).getD w 0)) (ldR f g (ordR f g n) w) w) (toR f g ((ordR f g n).getD w 0))))) := by
  refine APure_of (X := cx 71) (cx_ok 71) rfl (rs := [(.cell 2 24, 24)]) Try.func51 (by decide) rfl rfl rfl (by simp [cx]) (nofr1 nofrD) ?_
  intro hlen
  have c1 := indices_pure n (by omega)
  have c2 := sorted_pure h1 h8 hf hg
  ((conv => whnf); repeat (refine stepK_in ?_; (repeat (first | refine seqQ_n ?_ | refine blockQ_n ?_ | refine awp_skip ?_ | refine awp_seq ?_ | refine awp_block ?_)); (conv => whnf)))
  refine APure.to c1 ?_
  ((conv => whnf); repeat (refine stepK_in ?_; (repeat (first | refine seqQ_n ?_ | refine blockQ_n ?_ | refine awp_skip ?_ | refine awp_seq ?_ | refine awp_block ?_)); (conv => whnf)))
  refine APure.to (APure.arg3 (Sub.refl _) (sub_clo fun i hi => by have hi : i < 1 := hi; rw [show i = 0 by omega]; exact sub_at fun i hi => by have hi : i < 1 := hi; rw [show i = 0 by omega]; exact subD) (Sub.refl _) c2) ?_
  have hln := ordR_len f g n
  have hlm := ordR_mem (f := f) (g := g) (n := n)
  generalize ordR f g n = L at *
  have hm : ∀ j, j < n → 0 ≤ L.getD j 0 ∧ L.getD j 0 < n := fun j hj => hlm _ (getD_memI (by omega))
  have hfg : ∀ j, j < n → in100' (f (L.getD j 0).toNat) ∧ in100' (g (L.getD j 0).toNat) := fun j hj => by
    have h := hm j hj
    exact ⟨hf _ (by omega), hg _ (by omega)⟩
  have ht : ∀ j, j < n → 0 ≤ toR f g (L.getD j 0) ∧ toR f g (L.getD j 0) ≤ 200 := fun j hj => by
    obtain ⟨⟨h1, h2⟩, h3, h4⟩ := hfg j hj
    unfold toR
    omega
  have hld := ldR_bd ht
  have hl0 := ldR_nn hge
  have hlw := hld w (by omega)
  have htw := ht w hw
  have c3 := Parts_pure (winN n L (toR f g (L.getD w 0)) (ldR f g L w) w) (toR f g (L.getD w 0)) (by rw [winN_len]; omega)
    (fun j _ => by
      unfold Sm
      rcases winN_or (n := n) (L := L) (den := toR f g (L.getD w 0)) (lead := ldR f g L w) (w := w) (j := j) with h | h | h <;> rw [h] <;> omega) (by unfold Sm; omega) (by omega)
  ((conv => whnf); repeat (refine stepK_in ?_; (repeat (first | refine seqQ_n ?_ | refine blockQ_n ?_ | refine awp_skip ?_ | refine awp_seq ?_ | refine awp_block ?_)); (conv => whnf)))
  refine AW_loop (X := cx 71) (cx_ok 71) [1, 2, 3, 4, 5] (fun vs M => ∃ k : Nat, k ≤ w ∧ vs = [.ptr 0 0 0 0, .ptr 1 0 0 0, .ints true L, .int (ldR f g L k), .int k] ∧ M = [some ⟨69, 1, 0, .one [dealV false n f g]⟩, some ⟨24, ((cx 71).T.row 24).sz, 0, newCon ((cx 71).T.row 24)⟩])
    (fun vs _ => w - (vs.getD 4 .any).toInt.toNat) ?_ ?_
  · exact ⟨0, Nat.zero_le _, rfl, rfl⟩
  rintro vs M ⟨k, hk, rfl, rfl⟩
  ((conv => whnf); repeat (refine stepK_in ?_; (repeat (first | refine seqQ_n ?_ | refine blockQ_n ?_ | refine awp_skip ?_ | refine awp_seq ?_ | refine awp_block ?_)); (conv => whnf)))
  have hk' : k < n := by omega
  obtain ⟨hmk, hmk2⟩ := hm k hk'
  obtain ⟨hfk, hgk⟩ := hfg k hk'
  have hbk := both_pure _ _ hfk hgk
  refine AW_draw (X := cx 71) (cx_ok 71) mixed (by kernel_rfl) ?_
  ((conv => whnf); repeat (refine stepK_in ?_; (repeat (first | refine seqQ_n ?_ | refine blockQ_n ?_ | refine awp_skip ?_ | refine awp_seq ?_ | refine awp_block ?_)); (conv => whnf)))
  refine ⟨(show (0 : Int) ≤ (k : Int) by omega), ?_⟩
  refine ⟨(show (k : Int) < (L.length : Int) by omega), ?_⟩
  ((conv => whnf); repeat (refine stepK_in ?_; (repeat (first | refine seqQ_n ?_ | refine blockQ_n ?_ | refine awp_skip ?_ | refine awp_seq ?_ | refine awp_block ?_)); (conv => whnf)))
  refine ⟨(show (0 : Int) ≤ L.getD k 0 by omega), ?_⟩
  refine ⟨(show L.getD k 0 < (n : Int) by omega), ?_⟩
  ((conv => whnf); repeat (refine stepK_in ?_; (repeat (first | refine seqQ_n ?_ | refine blockQ_n ?_ | refine awp_skip ?_ | refine awp_seq ?_ | refine awp_block ?_)); (conv => whnf)))
  refine ⟨_, APure.arg1 (sub_pair rfl rfl) hbk, ?_⟩
  ((conv => whnf); repeat (refine stepK_in ?_; (repeat (first | refine seqQ_n ?_ | refine blockQ_n ?_ | refine awp_skip ?_ | refine awp_seq ?_ | refine awp_block ?_)); (conv => whnf)))
  have hgo : k < w ∨ k = w := by omega
  refine br_dec (fun hc => ?_) (fun hc => ?_)
  · have hkw : k < w := by
      rcases hgo with h | rfl
      · exact h
      · exact absurd hlt (show ¬ (ldR f g L k < f (L.getD k 0).toNat + g (L.getD k 0).toNat) by omega)
    have hlk := hld k (by omega)
    have hlk1 := hld (k + 1) (by omega)
    have htk : f (L.getD k 0).toNat + g (L.getD k 0).toNat = toR f g (L.getD k 0) := rfl
    ((conv => whnf); repeat (refine stepK_in ?_; (repeat (first | refine seqQ_n ?_ | refine blockQ_n ?_ | refine awp_skip ?_ | refine awp_seq ?_ | refine awp_block ?_)); (conv => whnf)))
    refine AW_draw (X := cx 71) (cx_ok 71) mixed (by kernel_rfl) ?_
    ((conv => whnf); repeat (refine stepK_in ?_; (repeat (first | refine seqQ_n ?_ | refine blockQ_n ?_ | refine awp_skip ?_ | refine awp_seq ?_ | refine awp_block ?_)); (conv => whnf)))
    refine ⟨(show (0 : Int) ≤ (k : Int) by omega), ?_⟩
    refine ⟨(show (k : Int) < (L.length : Int) by omega), ?_⟩
    ((conv => whnf); repeat (refine stepK_in ?_; (repeat (first | refine seqQ_n ?_ | refine blockQ_n ?_ | refine awp_skip ?_ | refine awp_seq ?_ | refine awp_block ?_)); (conv => whnf)))
    refine ⟨(show (0 : Int) ≤ L.getD k 0 by omega), ?_⟩
    refine ⟨(show L.getD k 0 < (n : Int) by omega), ?_⟩
    ((conv => whnf); repeat (refine stepK_in ?_; (repeat (first | refine seqQ_n ?_ | refine blockQ_n ?_ | refine awp_skip ?_ | refine awp_seq ?_ | refine awp_block ?_)); (conv => whnf)))
    refine ⟨_, APure.arg1 (sub_pair rfl rfl) hbk, ?_⟩
    ((conv => whnf); repeat (refine stepK_in ?_; (repeat (first | refine seqQ_n ?_ | refine blockQ_n ?_ | refine awp_skip ?_ | refine awp_seq ?_ | refine awp_block ?_)); (conv => whnf)))
    refine ⟨(show InR (ldR f g L (k + 1)) from inr (by omega)), ?_⟩
    ((conv => whnf); repeat (refine stepK_in ?_; (repeat (first | refine seqQ_n ?_ | refine blockQ_n ?_ | refine awp_skip ?_ | refine awp_seq ?_ | refine awp_block ?_)); (conv => whnf)))
    refine ⟨inr (by omega), ?_⟩
    ((conv => whnf); repeat (refine stepK_in ?_; (repeat (first | refine seqQ_n ?_ | refine blockQ_n ?_ | refine awp_skip ?_ | refine awp_seq ?_ | refine awp_block ?_)); (conv => whnf)))
    refine ⟨⟨k + 1, hkw, rfl, rfl⟩, ?_⟩
    simp [V.toInt, sel, Env.get]; omega
  · obtain rfl : k = w := by
      rcases hgo with h | h
      · exact absurd (hge k h) (show ¬ (f (L.getD k 0).toNat + g (L.getD k 0).toNat ≤ ldR f g L k) by omega)
      · exact h
    ((conv => whnf); repeat (refine stepK_in ?_; (repeat (first | refine seqQ_n ?_ | refine blockQ_n ?_ | refine awp_skip ?_ | refine awp_seq ?_ | refine awp_block ?_)); (conv => whnf)))
    refine AW_draw (X := cx 71) (cx_ok 71) mixed (by kernel_rfl) ?_
    ((conv => whnf); repeat (refine stepK_in ?_; (repeat (first | refine seqQ_n ?_ | refine blockQ_n ?_ | refine awp_skip ?_ | refine awp_seq ?_ | refine awp_block ?_)); (conv => whnf)))
    refine ⟨(show (0 : Int) ≤ (k : Int) by omega), ?_⟩
    refine ⟨(show (k : Int) < (L.length : Int) by omega), ?_⟩
    ((conv => whnf); repeat (refine stepK_in ?_; (repeat (first | refine seqQ_n ?_ | refine blockQ_n ?_ | refine awp_skip ?_ | refine awp_seq ?_ | refine awp_block ?_)); (conv => whnf)))
    refine ⟨(show (0 : Int) ≤ L.getD k 0 by omega), ?_⟩
    refine ⟨(show L.getD k 0 < (n : Int) by omega), ?_⟩
    ((conv => whnf); repeat (refine stepK_in ?_; (repeat (first | refine seqQ_n ?_ | refine blockQ_n ?_ | refine awp_skip ?_ | refine awp_seq ?_ | refine awp_block ?_)); (conv => whnf)))
    refine ⟨_, APure.arg1 (sub_pair rfl rfl) hbk, ?_⟩
    ((conv => whnf); repeat (refine stepK_in ?_; (repeat (first | refine seqQ_n ?_ | refine blockQ_n ?_ | refine awp_skip ?_ | refine awp_seq ?_ | refine awp_block ?_)); (conv => whnf)))
    refine ⟨(show (0 : Int) ≤ (n : Int) by omega), ?_⟩
    refine ⟨Int.le_refl _, ?_⟩
    refine ⟨(show (8 : Int) * (n : Int) ≤ 140737488355328 by omega), ?_⟩
    rw [Int.toNat_natCast]
    ((conv => whnf); repeat (refine stepK_in ?_; (repeat (first | refine seqQ_n ?_ | refine blockQ_n ?_ | refine awp_skip ?_ | refine awp_seq ?_ | refine awp_block ?_)); (conv => whnf)))
    have hTl : (L.take k).length = k := by rw [List.length_take]; omega
    have hTg : ∀ j, j < k → (L.take k).getD j 0 = L.getD j 0 := fun j hj => by simp [List.getD, hj]
    refine ⟨(show (0 : Int) ≤ 0 by omega), ?_⟩
    refine ⟨(show (0 : Int) ≤ (k : Int) by omega), ?_⟩
    refine ⟨(show (k : Int) ≤ (L.length : Int) by omega), ?_⟩
    rw [show List.take (((some (k : Int)).getD (L.length : Int)).toNat - ((none : Option Int).getD 0).toNat) (List.drop ((none : Option Int).getD 0).toNat L) = L.take k by simp]
    generalize L.take k = T at *
    ((conv => whnf); repeat (refine stepK_in ?_; (repeat (first | refine seqQ_n ?_ | refine blockQ_n ?_ | refine awp_skip ?_ | refine awp_seq ?_ | refine awp_block ?_)); (conv => whnf)))
    refine AW_loopA (X := cx 71) (cx_ok 71) [2, 3, 4, 5, 6, 7, 50, 51, 52] (fun t => Nat.blt t 3) (fun vs M => ∃ j : Nat, j ≤ k ∧ vs = [.ptr 1 0 0 0, .ints true L, .int (ldR f g L k), .int k, .int (toR f g (L.getD k 0)), .sl 2 0 0 n, .ints true T, .int k, .int j] ∧ M = [some ⟨69, 1, 0, .one [dealV false n f g]⟩, some ⟨24, ((cx 71).T.row 24).sz, 0, newCon ((cx 71).T.row 24)⟩, some ⟨3, 1, 0, .il (setW n L (toR f g (L.getD k 0)) j)⟩])
      (fun vs _ => k - (vs.getD 8 .any).toInt.toNat) (fun t ht => by have : t < 3 := ht; simp; omega) ?_ ?_
    · rw [hTl]
      exact same0 ⟨0, Nat.zero_le _, rfl, rfl⟩
    rintro vs M ⟨j, hj, rfl, rfl⟩
    ((conv => whnf); repeat (refine stepK_in ?_; (repeat (first | refine seqQ_n ?_ | refine blockQ_n ?_ | refine awp_skip ?_ | refine awp_seq ?_ | refine awp_block ?_)); (conv => whnf)))
    refine br_dec (fun hlt' => ?_) (fun hge' => ?_)
    · have hj' : j < k := by omega
      obtain ⟨hmj, hmj2⟩ := hm j (by omega)
      have hTj := hTg j hj'
      have hsl := setW_len (n := n) (L := L) (den := toR f g (L.getD k 0)) j
      ((conv => whnf); repeat (refine stepK_in ?_; (repeat (first | refine seqQ_n ?_ | refine blockQ_n ?_ | refine awp_skip ?_ | refine awp_seq ?_ | refine awp_block ?_)); (conv => whnf)))
      repeat ((first | refine ⟨(show (0 : Int) ≤ (j : Int) by omega), ?_⟩ | refine ⟨(show (j : Int) < (T.length : Int) by omega), ?_⟩); ((conv => whnf); repeat (refine stepK_in ?_; (repeat (first | refine seqQ_n ?_ | refine blockQ_n ?_ | refine awp_skip ?_ | refine awp_seq ?_ | refine awp_block ?_)); (conv => whnf))))
      rw [show T.getD (j : Int).toNat 0 = L.getD j 0 by rw [Int.toNat_natCast, hTj]]
      refine ⟨(show (0 : Int) ≤ L.getD j 0 by omega), ?_⟩
      refine ⟨(show L.getD j 0 < (n : Int) by omega), ?_⟩
      ((conv => whnf); repeat (refine stepK_in ?_; (repeat (first | refine seqQ_n ?_ | refine blockQ_n ?_ | refine awp_skip ?_ | refine awp_seq ?_ | refine awp_block ?_)); (conv => whnf)))
      refine ⟨inr (by omega), ?_⟩
      ((conv => whnf); repeat (refine stepK_in ?_; (repeat (first | refine seqQ_n ?_ | refine blockQ_n ?_ | refine awp_skip ?_ | refine awp_seq ?_ | refine awp_block ?_)); (conv => whnf)))
      refine ⟨by repeat (first | exact trivial | exact rfl | exact namedD |  exact fun _ => trivial | exact fun _ _ => trivial | exact fun _ _ _ => trivial | exact fun _ _ _ _ => trivial | refine And.intro ?_ ?_), memA1 [some ⟨69, 1, 0, .one [dealV false n f g]⟩, some ⟨24, ((cx 71).T.row 24).sz, 0, newCon ((cx 71).T.row 24)⟩, some ⟨3, 1, 0, .il (setW n L (toR f g (L.getD k 0)) (j + 1))⟩] ⟨ObSub.refl _, ObSub.refl _, ObSub.ii (by rw [Nat.zero_add]; rfl), trivial⟩ ⟨⟨j + 1, hj', rfl, rfl⟩, ?_⟩⟩
      simp [V.toInt, sel, Env.get]; omega
    · obtain rfl : j = k := by omega
      ((conv => whnf); repeat (refine stepK_in ?_; (repeat (first | refine seqQ_n ?_ | refine blockQ_n ?_ | refine awp_skip ?_ | refine awp_seq ?_ | refine awp_block ?_)); (conv => whnf)))
      refine ⟨(show (0 : Int) ≤ (j : Int) by omega), ?_⟩
      refine ⟨(show (j : Int) < (L.length : Int) by omega), ?_⟩
      ((conv => whnf); repeat (refine stepK_in ?_; (repeat (first | refine seqQ_n ?_ | refine blockQ_n ?_ | refine awp_skip ?_ | refine awp_seq ?_ | refine awp_block ?_)); (conv => whnf)))
      refine ⟨(show (0 : Int) ≤ L.getD j 0 by omega), ?_⟩
      refine ⟨(show L.getD j 0 < (n : Int) by omega), ?_⟩
      ((conv => whnf); repeat (refine stepK_in ?_; (repeat (first | refine seqQ_n ?_ | refine blockQ_n ?_ | refine awp_skip ?_ | refine awp_seq ?_ | refine awp_block ?_)); (conv => whnf)))
      have hwl := winN_len (n := n) (L := L) (den := toR f g (L.getD j 0)) (lead := ldR f g L j) (w := j)
      refine APure.to (APure.arg2 (Sub.of (show V.ints false ((((setW n L (toR f g (L.getD j 0)) j).set (0 + (L.getD j 0).toNat) (ldR f g L j)).drop 0).take n) = V.ints false (winN n L (toR f g (L.getD j 0)) (ldR f g L j) j) by
        rw [Nat.zero_add, List.drop_zero]
        exact congrArg (V.ints false) (List.take_of_length_le (Nat.le_of_eq hwl)))) (Sub.refl _) c3) ?_
      generalize lowN (winN n L (toR f g (L.getD j 0)) (ldR f g L j) j) (toR f g (L.getD j 0)) = N1 at *
      generalize (toR f g (L.getD j 0)).tdiv (gP (winN n L (toR f g (L.getD j 0)) (ldR f g L j) j) (toR f g (L.getD j 0))) = N2 at *
      ((conv => whnf); repeat (refine stepK_in ?_; (repeat (first | refine seqQ_n ?_ | refine blockQ_n ?_ | refine awp_skip ?_ | refine awp_seq ?_ | refine awp_block ?_)); (conv => whnf)))
      refine ⟨fun q hq => ?_, congrArg (V.agg 2) (funext fun q => ?_)⟩
      · have hq : q < 2 := hq
        rcases (by omega : q = 0 ∨ q = 1) with rfl | rfl
        · exact rfl
        · exact trivial
      · match q with
        | 0 => rfl
        | 1 => rfl
        | _ + 2 => rfl
end Go.Tri
