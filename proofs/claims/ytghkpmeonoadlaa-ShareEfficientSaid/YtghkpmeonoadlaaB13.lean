/-
  CONTRACTS: sorted things.
-/
import Derived.Test.YtghkpmeonoadlaaB12
namespace Go.Tri
open Go.Proofs

set_option maxRecDepth 100000 in
theorem stable_cm {n : Nat} {f g : Nat → Int} (hf : in100 n f) (hg : in100 n g) (xs : List Int) (hx : ∀ y ∈ xs, 0 ≤ y ∧ y < n) (h1 : 1 ≤ xs.length) (h2 : xs.length ≤ 8) :
    ACM Try.prog 116 [.sl 1 0 0 xs.length, .int xs.length, cmpS] [some boxC, some (lsO f g xs.length xs)]
      (fun _ M' => M' = [some boxC, some (lsO f g xs.length (sortP (ltR f g) xs xs.length))]) := by
  refine ACM_of (T := tab) (wr := wrS) tab_ok Try.func116 (by decide) rfl (Nat.le_of_ble_eq_true rfl) (fun nb => ?_)
  ((conv => whnf); repeat (refine stepK_in ?_; (repeat (first | refine seqQ_n ?_ | refine blockQ_n ?_ | refine awp_skip ?_ | refine awp_seq ?_ | refine awp_block ?_)); (conv => whnf)))
  refine AW_loop (X := ⟨Try.prog, tab, wrS, 63, nb, false⟩) tab_ok [0, 1, 2, 6, 7, 8] (fun vs M => vs = [.sl 1 0 0 xs.length, .int xs.length, cmpS, .int 20, .int 0, .int 20] ∧ M = [some boxC, some (lsO f g xs.length xs)]) (fun _ _ => 0) ?_ ?_
  · exact ⟨rfl, rfl⟩
  rintro vs M ⟨rfl, rfl⟩
  ((conv => whnf); repeat (refine stepK_in ?_; (repeat (first | refine seqQ_n ?_ | refine blockQ_n ?_ | refine awp_skip ?_ | refine awp_seq ?_ | refine awp_block ?_)); (conv => whnf)))
  rw [decide_eq_false (show ¬ (20 : Int) ≤ (xs.length : Int) by omega)]
  ((conv => whnf); repeat (refine stepK_in ?_; (repeat (first | refine seqQ_n ?_ | refine blockQ_n ?_ | refine awp_skip ?_ | refine awp_seq ?_ | refine awp_block ?_)); (conv => whnf)))
  refine (insert_cm hf hg xs hx h1 (by omega)).mono ?_
  rintro R M' rfl
  ((conv => whnf); repeat (refine stepK_in ?_; (repeat (first | refine seqQ_n ?_ | refine blockQ_n ?_ | refine awp_skip ?_ | refine awp_seq ?_ | refine awp_block ?_)); (conv => whnf)))
  refine AW_loop (X := ⟨Try.prog, tab, wrS, 63, nb, false⟩) tab_ok [1, 6] (fun vs M => vs = [.int xs.length, .int 20] ∧ M = [some boxC, some (lsO f g xs.length (sortP (ltR f g) xs xs.length))]) (fun _ _ => 0) ?_ ?_
  · exact ⟨rfl, rfl⟩
  rintro vs M ⟨rfl, rfl⟩
  ((conv => whnf); repeat (refine stepK_in ?_; (repeat (first | refine seqQ_n ?_ | refine blockQ_n ?_ | refine awp_skip ?_ | refine awp_seq ?_ | refine awp_block ?_)); (conv => whnf)))
  rw [decide_eq_false (show ¬ (20 : Int) < (xs.length : Int) by omega)]
  ((conv => whnf); repeat (refine stepK_in ?_; (repeat (first | refine seqQ_n ?_ | refine blockQ_n ?_ | refine awp_skip ?_ | refine awp_seq ?_ | refine awp_block ?_)); (conv => whnf)))
  exact ⟨_, rfl, rfl⟩
theorem sortStable_cm {n : Nat} {f g : Nat → Int} (hf : in100 n f) (hg : in100 n g) (xs : List Int) (hx : ∀ y ∈ xs, 0 ≤ y ∧ y < n) (h1 : 1 ≤ xs.length) (h2 : xs.length ≤ 8) :
    ACM Try.prog 98 [.sl 1 0 0 xs.length, cmpS] [some boxC, some (lsO f g xs.length xs)]
      (fun _ M' => M' = [some boxC, some (lsO f g xs.length (sortP (ltR f g) xs xs.length))]) := by
  refine ACM_of (T := tab) (wr := wrS) tab_ok Try.func98 (by decide) rfl (Nat.le_of_ble_eq_true rfl) (fun nb => ?_)
  ((conv => whnf); repeat (refine stepK_in ?_; (repeat (first | refine seqQ_n ?_ | refine blockQ_n ?_ | refine awp_skip ?_ | refine awp_seq ?_ | refine awp_block ?_)); (conv => whnf)))
  refine (stable_cm hf hg xs hx h1 h2).mono ?_
  rintro R M' rfl
  ((conv => whnf); repeat (refine stepK_in ?_; (repeat (first | refine seqQ_n ?_ | refine blockQ_n ?_ | refine awp_skip ?_ | refine awp_seq ?_ | refine awp_block ?_)); (conv => whnf)))
  exact ⟨_, rfl, rfl⟩

@[reducible] def dealB (n : Nat) (f g : Nat → Int) : V := .at_ 1 (fun _ => dealV false n f g) 0
@[reducible] def ratC (n : Nat) (f g : Nat → Int) : V := .clo 78 1 fun _ => dealB n f g
theorem nofrDB {n : Nat} {f g : Nat → Int} : NoFr (dealB n f g) := fun _ => nofrD
theorem nofrRC {n : Nat} {f g : Nat → Int} : NoFr (ratC n f g) := fun _ => nofrDB
theorem rate1_pure {n : Nat} {f g : Nat → Int} (x : Nat) (hx : x < n) : APure Try.prog 78 [.int x, dealB n f g] (fun R => R = pairV (f x) (g x)) := by
  refine APure_of (X := cx 8) (cx_ok 8) rfl (rs := [(.cell 3 98, 98)]) Try.func78 (by decide) rfl rfl rfl (by simp [cx]) (nofr2 (by trivial) nofrDB) ?_
  intro hlen
  ((conv => whnf); repeat (refine stepK_in ?_; (repeat (first | refine seqQ_n ?_ | refine blockQ_n ?_ | refine awp_skip ?_ | refine awp_seq ?_ | refine awp_block ?_)); (conv => whnf)))
  refine ⟨(show (0 : Int) ≤ (x : Int) by omega), ?_⟩
  refine ⟨(show (x : Int) < (n : Int) by omega), ?_⟩
  ((conv => whnf); repeat (refine stepK_in ?_; (repeat (first | refine seqQ_n ?_ | refine blockQ_n ?_ | refine awp_skip ?_ | refine awp_seq ?_ | refine awp_block ?_)); (conv => whnf)))
  refine ⟨fun q hq => ?_, congrArg (V.agg 2) (funext fun q => ?_)⟩
  · have hq : q < 2 := hq
    rcases (by omega : q = 0 ∨ q = 1) with rfl | rfl <;> exact trivial
  · match q with
    | 0 => rfl
    | 1 => rfl
    | _ + 2 => rfl

/-- The first k are laid; all of them: as they stay. -/
def triG (f g : Nat → Int) (n k : Nat) : Nat → Nat → V := fun j q => if k = n then triF f g (idx n) j q else if j < k then triF f g (idx n) j q else .int 0
theorem namedTG {kp : Nat → Bool} {f g : Nat → Int} {n k j q : Nat} : Named kp (triG f g n k j q) := by
  unfold triG
  split
  · exact namedTF
  · split
    · exact namedTF
    · trivial
theorem triG_n {f g : Nat → Int} {n : Nat} : triG f g n n = triF f g (idx n) := by
  funext j q
  unfold triG
  rw [if_pos rfl]
theorem triG_lt {f g : Nat → Int} {n k j q : Nat} (hj : j < k) : triG f g n k j q = triF f g (idx n) j q := by
  unfold triG
  by_cases h : k = n
  · rw [if_pos h]
  · rw [if_neg h, if_pos hj]
theorem triG_set {f g : Nat → Int} {n k i' j q : Nat} {c0 c1 c2 : V} (hk : k < n) (hi' : i' = k) (h0 : c0 = .int k) (h1 : c1 = .int (f k)) (h2 : c2 = .int (g k)) (hj : j < n) (hq : q < 3) :
    (if j = i' ∧ q = 0 + 2 then c2 else if j = i' ∧ q = 0 + 1 then c1 else if j = i' ∧ q = 0 + 0 then c0 else triG f g n k j q) = triG f g n (k + 1) j q := by
  subst hi' h0 h1 h2
  by_cases hji : j = i'
  · subst hji
    have hx : (idx n).getD j 0 = j := idx_get hk
    rw [triG_lt (show j < j + 1 by omega)]
    rcases (by omega : q = 0 ∨ q = 1 ∨ q = 2) with rfl | rfl | rfl
    · refine (if_neg (by omega)).trans ((if_neg (by omega)).trans ((if_pos (by omega)).trans ?_))
      show V.int j = V.int ((idx n).getD j 0)
      rw [hx]
    · refine (if_neg (by omega)).trans ((if_pos (by omega)).trans ?_)
      show V.int (f j) = V.int (f ((idx n).getD j 0).toNat)
      rw [hx, Int.toNat_natCast]
    · refine (if_pos (by omega)).trans ?_
      show V.int (g j) = V.int (g ((idx n).getD j 0).toNat)
      rw [hx, Int.toNat_natCast]
  · refine (if_neg (fun h => hji h.1)).trans ((if_neg (fun h => hji h.1)).trans ((if_neg (fun h => hji h.1)).trans ?_))
    by_cases hlt : j < i'
    · rw [triG_lt hlt, triG_lt (by omega)]
    · unfold triG
      rw [if_neg (by omega), if_neg hlt, if_neg (by omega), if_neg (by omega)]
set_option maxRecDepth 100000 in
theorem rankR_cm {n : Nat} {f g : Nat → Int} (h1 : 1 ≤ n) (h8 : n ≤ 8) :
    ACM Try.prog 97 [.ints false (idx n), ratC n f g] [some boxC] (fun R M' => R = .sl 1 0 0 n ∧ M' = [some boxC, some (lsO f g n (idx n))]) := by
  refine ACM_of (T := tab) (wr := wrS) tab_ok Try.func97 (by decide) rfl (Nat.le_of_ble_eq_true rfl) (fun nb => ?_)
  have hil := idx_len n
  have hig : ∀ j, j < n → (idx n).getD j 0 = j := fun j hj => idx_get hj
  have hc := fun (j : Nat) (hj : j < n) => rate1_pure (f := f) (g := g) j hj
  ((conv => whnf); repeat (refine stepK_in ?_; (repeat (first | refine seqQ_n ?_ | refine blockQ_n ?_ | refine awp_skip ?_ | refine awp_seq ?_ | refine awp_block ?_)); (conv => whnf)))
  refine ⟨(show (0 : Int) ≤ ((idx n).length : Int) by omega), ?_⟩
  refine ⟨Int.le_refl _, ?_⟩
  refine ⟨(show (24 : Int) * ((idx n).length : Int) ≤ 140737488355328 by omega), ?_⟩
  rw [Int.toNat_natCast, hil]
  ((conv => whnf); repeat (refine stepK_in ?_; (repeat (first | refine seqQ_n ?_ | refine blockQ_n ?_ | refine awp_skip ?_ | refine awp_seq ?_ | refine awp_block ?_)); (conv => whnf)))
  refine AW_loopA (X := ⟨Try.prog, tab, wrS, 28, nb, false⟩) tab_ok [1, 5, 11, 12, 13] (fun t => Nat.blt t 2) (fun vs M => ∃ k : Nat, k ≤ n ∧ vs = [ratC n f g, .sl 1 0 0 n, .ints false (idx n), .int n, .int k] ∧ M = [some boxC, some ⟨128, 3, 0, .cv n (triG f g n k)⟩])
    (fun vs _ => n - (vs.getD 4 .any).toInt.toNat) (fun t ht => by have : t < 2 := ht; simp; omega) ?_ ?_
  · rw [hil]
    refine memA0 [some boxC, some ⟨128, 3, 0, .cv n (triG f g n 0)⟩] ⟨ObSub.refl _, ObSub_vv (fun j q hj hq => ?_), trivial⟩ ⟨0, Nat.zero_le _, rfl, rfl⟩
    have hq : q < 3 := hq
    unfold triG
    rw [if_neg (by omega), if_neg (by omega)]
    rcases (by omega : q = 0 ∨ q = 1 ∨ q = 2) with rfl | rfl | rfl <;> rfl
  rintro vs M ⟨k, hk, rfl, rfl⟩
  ((conv => whnf); repeat (refine stepK_in ?_; (repeat (first | refine seqQ_n ?_ | refine blockQ_n ?_ | refine awp_skip ?_ | refine awp_seq ?_ | refine awp_block ?_)); (conv => whnf)))
  refine br_dec (fun hlt => ?_) (fun hge => ?_)
  · have hk' : k < n := by omega
    have hck := hc k hk'
    have hgk := hig k hk'
    ((conv => whnf); repeat (refine stepK_in ?_; (repeat (first | refine seqQ_n ?_ | refine blockQ_n ?_ | refine awp_skip ?_ | refine awp_seq ?_ | refine awp_block ?_)); (conv => whnf)))
    refine ⟨(show (0 : Int) ≤ (k : Int) by omega), ?_⟩
    refine ⟨(show (k : Int) < ((idx n).length : Int) by omega), ?_⟩
    ((conv => whnf); repeat (refine stepK_in ?_; (repeat (first | refine seqQ_n ?_ | refine blockQ_n ?_ | refine awp_skip ?_ | refine awp_seq ?_ | refine awp_block ?_)); (conv => whnf)))
    rw [show (idx n).getD (k : Int).toNat 0 = k by rw [Int.toNat_natCast, hgk]]
    refine APure.to (APure.arg2 (Sub.refl _) (sub_at fun i hi => subD) hck) ?_
    ((conv => whnf); repeat (refine stepK_in ?_; (repeat (first | refine seqQ_n ?_ | refine blockQ_n ?_ | refine awp_skip ?_ | refine awp_seq ?_ | refine awp_block ?_)); (conv => whnf)))
    refine ⟨(show (0 : Int) ≤ (k : Int) by omega), ?_⟩
    refine ⟨(show (k : Int) < (n : Int) by omega), ?_⟩
    ((conv => whnf); repeat (refine stepK_in ?_; (repeat (first | refine seqQ_n ?_ | refine blockQ_n ?_ | refine awp_skip ?_ | refine awp_seq ?_ | refine awp_block ?_)); (conv => whnf)))
    refine ⟨inr (by omega), ?_⟩
    ((conv => whnf); repeat (refine stepK_in ?_; (repeat (first | refine seqQ_n ?_ | refine blockQ_n ?_ | refine awp_skip ?_ | refine awp_seq ?_ | refine awp_block ?_)); (conv => whnf)))
    refine ⟨⟨by repeat (first | exact trivial | exact rfl | exact fun _ _ => fun _ _ => namedD |  exact fun _ => trivial | exact fun _ _ => trivial | exact fun _ _ _ => trivial | exact fun _ _ _ _ => trivial | refine And.intro ?_ ?_), ?_⟩, memA1 [some boxC, some ⟨128, 3, 0, .cv n (triG f g n (k + 1))⟩] ⟨ObSub.refl _, ObSub_vv (fun j q hj hq => ?_), trivial⟩ ⟨⟨k + 1, hk', rfl, rfl⟩, ?_⟩⟩
    · refine ⟨namedBC, fun j q _ hq => ?_, trivial⟩
      have hq : q < 3 := hq
      rcases (by omega : q = 0 ∨ q = 1 ∨ q = 2) with rfl | rfl | rfl <;> repeat (first | exact trivial | exact namedTG | (show Named _ (if _ then _ else _); split))
    · have hq : q < 3 := hq
      exact triG_set hk' (show 0 + (k : Int).toNat = k by omega) rfl rfl rfl hj hq
    · simp [V.toInt, sel, Env.get]; omega
  · obtain rfl : k = n := by omega
    ((conv => whnf); repeat (refine stepK_in ?_; (repeat (first | refine seqQ_n ?_ | refine blockQ_n ?_ | refine awp_skip ?_ | refine awp_seq ?_ | refine awp_block ?_)); (conv => whnf)))
    rw [triG_n]
    exact ⟨_, rfl, rfl, rfl⟩
end Go.Tri
