/-
  CONTRACTS: scores, the program's.
-/
import Derived.Test.YtghkpmeonoadlaaB16
namespace Go.Tri
open Go.Proofs

def mulA (f : Nat → Int) (nums : List Int) : Nat → Int
  | 0 => 0
  | k + 1 => mulA f nums k + f k * nums.getD k 0
def mulB (g : Nat → Int) (nums : List Int) (den : Int) : Nat → Int
  | 0 => 0
  | k + 1 => mulB g nums den k + g k * (den - nums.getD k 0)
theorem mul_bd {a x d : Int} (h1 : 0 ≤ a) (h2 : a ≤ 100) (h3 : 0 ≤ x) (h4 : x ≤ d) : 0 ≤ a * x ∧ a * x ≤ 100 * d :=
  ⟨Int.mul_nonneg h1 h3, Int.mul_le_mul h2 h4 h3 (by omega)⟩
theorem mulA_bd {n : Nat} {f : Nat → Int} {nums : List Int} {den : Int} (hf : in100 n f) (hx : ∀ j, j < n → 0 ≤ nums.getD j 0 ∧ nums.getD j 0 ≤ den) : ∀ k, k ≤ n → 0 ≤ mulA f nums k ∧ mulA f nums k ≤ 100 * den * k
  | 0, _ => by simp [mulA]
  | k + 1, h => by
    obtain ⟨h1, h2⟩ := mulA_bd hf hx k (by omega)
    obtain ⟨h3, h4⟩ := mul_bd (hf k (by omega)).1 (hf k (by omega)).2 (hx k (by omega)).1 (hx k (by omega)).2
    simp only [mulA]
    have : 100 * den * ((k + 1 : Nat) : Int) = 100 * den * k + 100 * den := by rw [Int.natCast_succ, Int.mul_add, Int.mul_one]
    omega
theorem mulB_bd {n : Nat} {g : Nat → Int} {nums : List Int} {den : Int} (hg : in100 n g) (hx : ∀ j, j < n → 0 ≤ nums.getD j 0 ∧ nums.getD j 0 ≤ den) : ∀ k, k ≤ n → 0 ≤ mulB g nums den k ∧ mulB g nums den k ≤ 100 * den * k
  | 0, _ => by simp [mulB]
  | k + 1, h => by
    obtain ⟨h1, h2⟩ := mulB_bd hg hx k (by omega)
    have h5 := hx k (by omega)
    obtain ⟨h3, h4⟩ := mul_bd (d := den) (hg k (by omega)).1 (hg k (by omega)).2 (show 0 ≤ den - nums.getD k 0 by omega) (by omega)
    simp only [mulB]
    have : 100 * den * ((k + 1 : Nat) : Int) = 100 * den * k + 100 * den := by rw [Int.natCast_succ, Int.mul_add, Int.mul_one]
    omega
theorem bd8 {d x : Int} {n k : Nat} (h8 : n ≤ 8) (hk : k ≤ n) (hd : 1 ≤ d ∧ d ≤ 1000000000) (h : 0 ≤ x ∧ x ≤ 100 * d * k) : 0 ≤ x ∧ x ≤ 800000000000 := by
  have : 100 * d * (k : Int) ≤ 100 * d * 8 := Int.mul_le_mul_of_nonneg_left (by omega) (by omega)
  omega
theorem nofrPa {nums : List Int} {den : Int} : NoFr (parV false nums den) := fun k => by
  match k with
  | 0 => rfl
  | 1 => trivial
  | _ + 2 => trivial
set_option maxRecDepth 100000 in
theorem scores_pure {n : Nat} {f g : Nat → Int} {nums : List Int} {den : Int} (h8 : n ≤ 8) (hf : in100 n f) (hg : in100 n g) (hl : nums.length = n) (hd : 1 ≤ den ∧ den ≤ 1000000000) (hx : ∀ j, j < n → 0 ≤ nums.getD j 0 ∧ nums.getD j 0 ≤ den) :
    APure Try.prog 45 [dealV false n f g, parV false nums den] (fun R => R = tup2 (ratP (mulA f nums n) den) (ratP (mulB g nums den n) den)) := by
  refine APure_of (X := cx 48) (cx_ok 48) rfl (rs := [(.cell 4 28, 28), (.cell 5 28, 28)]) Try.func45 (by decide) rfl rfl rfl (by simp [cx]) (nofr2 nofrD nofrPa) ?_
  intro hlen
  ((conv => whnf); repeat (refine stepK_in ?_; (repeat (first | refine seqQ_n ?_ | refine blockQ_n ?_ | refine awp_skip ?_ | refine awp_seq ?_ | refine awp_block ?_)); (conv => whnf)))
  refine AW_loopA (X := cx 48) (cx_ok 48) [0, 3, 4, 5, 6, 7, 11, 12, 13] (fun t => Nat.blt t 3) (fun vs M => ∃ k : Nat, k ≤ n ∧ vs = [dealV false n f g, .ptr 0 0 0 0, .ptr 1 0 0 0, .ptr 2 0 0 0, .int (mulA f nums k), .int (mulB g nums den k), .ints false nums, .int n, .int k] ∧ M = [some ⟨24, 2, 0, .one [.ints false nums, .int den]⟩, some ⟨28, 2, 0, .one [.int 0, .int 0]⟩, some ⟨28, 2, 0, .one [.int 0, .int 0]⟩])
    (fun vs _ => n - (vs.getD 8 .any).toInt.toNat) (fun t ht => by have : t < 3 := ht; simp; omega) ?_ ?_
  · rw [hl]
    exact same0 ⟨0, Nat.zero_le _, rfl, rfl⟩
  rintro vs M ⟨k, hk, rfl, rfl⟩
  ((conv => whnf); repeat (refine stepK_in ?_; (repeat (first | refine seqQ_n ?_ | refine blockQ_n ?_ | refine awp_skip ?_ | refine awp_seq ?_ | refine awp_block ?_)); (conv => whnf)))
  refine br_dec (fun hlt => ?_) (fun hge => ?_)
  · have hk' : k < n := by omega
    have hfk := hf k hk'
    have hgk := hg k hk'
    have hxk := hx k hk'
    have ha := bd8 h8 hk hd (mulA_bd hf hx k hk)
    have ha' := bd8 h8 hk' hd (mulA_bd hf hx (k + 1) hk')
    have hb := bd8 h8 hk hd (mulB_bd hg hx k hk)
    have hb' := bd8 h8 hk' hd (mulB_bd hg hx (k + 1) hk')
    have hp1 := mul_bd hfk.1 hfk.2 hxk.1 hxk.2
    have hp2 := mul_bd (d := den) hgk.1 hgk.2 (show 0 ≤ den - nums.getD k 0 by omega) (by omega)
    ((conv => whnf); repeat (refine stepK_in ?_; (repeat (first | refine seqQ_n ?_ | refine blockQ_n ?_ | refine awp_skip ?_ | refine awp_seq ?_ | refine awp_block ?_)); (conv => whnf)))
    repeat ((first | refine ⟨(show (0 : Int) ≤ (k : Int) by omega), ?_⟩ | refine ⟨(show (k : Int) < (n : Int) by omega), ?_⟩ | refine ⟨(show (k : Int) < (nums.length : Int) by omega), ?_⟩); ((conv => whnf); repeat (refine stepK_in ?_; (repeat (first | refine seqQ_n ?_ | refine blockQ_n ?_ | refine awp_skip ?_ | refine awp_seq ?_ | refine awp_block ?_)); (conv => whnf))))
    refine ⟨(show InR (f k * nums.getD k 0) from inr (by omega)), ?_⟩
    ((conv => whnf); repeat (refine stepK_in ?_; (repeat (first | refine seqQ_n ?_ | refine blockQ_n ?_ | refine awp_skip ?_ | refine awp_seq ?_ | refine awp_block ?_)); (conv => whnf)))
    refine ⟨(show InR (mulA f nums (k + 1)) from inr (by omega)), ?_⟩
    ((conv => whnf); repeat (refine stepK_in ?_; (repeat (first | refine seqQ_n ?_ | refine blockQ_n ?_ | refine awp_skip ?_ | refine awp_seq ?_ | refine awp_block ?_)); (conv => whnf)))
    refine AW_draw (X := cx 48) (cx_ok 48) mixed (by kernel_rfl) ?_
    ((conv => whnf); repeat (refine stepK_in ?_; (repeat (first | refine seqQ_n ?_ | refine blockQ_n ?_ | refine awp_skip ?_ | refine awp_seq ?_ | refine awp_block ?_)); (conv => whnf)))
    refine ⟨(show (0 : Int) ≤ (k : Int) by omega), ?_⟩
    refine ⟨(show (k : Int) < (n : Int) by omega), ?_⟩
    ((conv => whnf); repeat (refine stepK_in ?_; (repeat (first | refine seqQ_n ?_ | refine blockQ_n ?_ | refine awp_skip ?_ | refine awp_seq ?_ | refine awp_block ?_)); (conv => whnf)))
    refine ⟨(show InR (den - nums.getD k 0) from inr (by omega)), ?_⟩
    ((conv => whnf); repeat (refine stepK_in ?_; (repeat (first | refine seqQ_n ?_ | refine blockQ_n ?_ | refine awp_skip ?_ | refine awp_seq ?_ | refine awp_block ?_)); (conv => whnf)))
    refine ⟨(show InR (g k * (den - nums.getD k 0)) from inr (by omega)), ?_⟩
    ((conv => whnf); repeat (refine stepK_in ?_; (repeat (first | refine seqQ_n ?_ | refine blockQ_n ?_ | refine awp_skip ?_ | refine awp_seq ?_ | refine awp_block ?_)); (conv => whnf)))
    refine ⟨(show InR (mulB g nums den (k + 1)) from inr (by omega)), ?_⟩
    ((conv => whnf); repeat (refine stepK_in ?_; (repeat (first | refine seqQ_n ?_ | refine blockQ_n ?_ | refine awp_skip ?_ | refine awp_seq ?_ | refine awp_block ?_)); (conv => whnf)))
    refine ⟨inr (by omega), ?_⟩
    ((conv => whnf); repeat (refine stepK_in ?_; (repeat (first | refine seqQ_n ?_ | refine blockQ_n ?_ | refine awp_skip ?_ | refine awp_seq ?_ | refine awp_block ?_)); (conv => whnf)))
    refine ⟨by repeat (first | exact trivial | exact rfl | exact namedD |  exact fun _ => trivial | exact fun _ _ => trivial | exact fun _ _ _ => trivial | exact fun _ _ _ _ => trivial | refine And.intro ?_ ?_), memA1 [some ⟨24, 2, 0, .one [.ints false nums, .int den]⟩, some ⟨28, 2, 0, .one [.int 0, .int 0]⟩, some ⟨28, 2, 0, .one [.int 0, .int 0]⟩] ⟨ObSub.refl _, ObSub.refl _, ObSub.refl _, trivial⟩ ⟨⟨k + 1, hk', rfl, rfl⟩, ?_⟩⟩
    simp [V.toInt, sel, Env.get]; omega
  · obtain rfl : k = n := by omega
    ((conv => whnf); repeat (refine stepK_in ?_; (repeat (first | refine seqQ_n ?_ | refine blockQ_n ?_ | refine awp_skip ?_ | refine awp_seq ?_ | refine awp_block ?_)); (conv => whnf)))
    have ha := bd8 h8 hk hd (mulA_bd hf hx k hk)
    have hb := bd8 h8 hk hd (mulB_bd hg hx k hk)
    have c1 := Lowest_pure (mulA f nums k) den (by unfold Sm; omega) (by unfold Sm; omega) hd.1
    have c2 := Lowest_pure (mulB g nums den k) den (by unfold Sm; omega) (by unfold Sm; omega) hd.1
    refine AW_draw (X := cx 48) (cx_ok 48) mixed (by kernel_rfl) ?_
    ((conv => whnf); repeat (refine stepK_in ?_; (repeat (first | refine seqQ_n ?_ | refine blockQ_n ?_ | refine awp_skip ?_ | refine awp_seq ?_ | refine awp_block ?_)); (conv => whnf)))
    refine ⟨_, c1, ?_⟩
    ((conv => whnf); repeat (refine stepK_in ?_; (repeat (first | refine seqQ_n ?_ | refine blockQ_n ?_ | refine awp_skip ?_ | refine awp_seq ?_ | refine awp_block ?_)); (conv => whnf)))
    refine ⟨_, c2, ?_⟩
    ((conv => whnf); repeat (refine stepK_in ?_; (repeat (first | refine seqQ_n ?_ | refine blockQ_n ?_ | refine awp_skip ?_ | refine awp_seq ?_ | refine awp_block ?_)); (conv => whnf)))
    refine ⟨fun q hq => ?_, fun q hq => ?_, congrArg (V.tup 2) (funext fun q => ?_)⟩
    · have hq : q < 2 := hq
      rcases (by omega : q = 0 ∨ q = 1) with rfl | rfl <;> exact trivial
    · have hq : q < 2 := hq
      rcases (by omega : q = 0 ∨ q = 1) with rfl | rfl <;> exact trivial
    match q with
    | 0 => exact congrArg (V.agg 2) (funext fun q => by
        match q with
        | 0 => rfl
        | 1 => rfl
        | _ + 2 => rfl)
    | _ + 1 => exact congrArg (V.agg 2) (funext fun q => by
        match q with
        | 0 => rfl
        | 1 => rfl
        | _ + 2 => rfl)
end Go.Tri
