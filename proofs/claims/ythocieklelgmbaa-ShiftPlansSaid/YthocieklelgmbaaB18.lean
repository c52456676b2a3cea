/-
  CONTRACTS: fits of the reference.
-/
import Derived.Test.YthocieklelgmbaaM8
import Derived.Test.YthocieklelgmbaaB10
namespace Go.Tri
open Go.Proofs

def raA (F T : Nat → Nat) (W : Nat → Int) : Nat → Nat → V := fun j k => match k with | 0 => .int (F j) | 1 => .int (T j) | _ => .int (W j)
@[reducible] def arcsV (m : Nat) (F T : Nat → Nat) (W : Nat → Int) : V := .seq false 3 m (raA F T W)
theorem nofrA {m : Nat} {F T : Nat → Nat} {W : Nat → Int} : NoFr (arcsV m F T W) := ⟨rfl, fun j k => by unfold raA; split <;> trivial⟩
theorem namedA {kp : Nat → Bool} {m : Nat} {F T : Nat → Nat} {W : Nat → Int} : Named kp (arcsV m F T W) := fun j k _ _ => by show Named kp (raA F T W j k); unfold raA; split <;> trivial
def toL (n : Nat) (s : Nat → Int) : List Int := (List.range n).map fun (v : Nat) => s v
theorem toL_len (n : Nat) (s : Nat → Int) : (toL n s).length = n := by simp [toL]
theorem toL_get {n v : Nat} {s : Nat → Int} (h : v < n) : (toL n s).getD v 0 = s v := by simp [toL, List.getD, h]
theorem toL_set {n f t : Nat} {w : Int} {s : Nat → Int} (ht : t < n) (h : s f + w > s t) : (toL n s).set t (s f + w) = toL n (stp f t w s) := by
  refine ext_getD (by rw [List.length_set, toL_len, toL_len]) (fun q hq => ?_)
  rw [List.length_set, toL_len] at hq
  rw [getD_set' _ _ _ _ (by rw [toL_len]; exact ht), toL_get hq, toL_get hq]
  unfold stp
  by_cases hq2 : q = t
  · rw [if_pos hq2, if_pos ⟨hq2, h⟩]
  · rw [if_neg hq2, if_neg fun g => hq2 g.1]
theorem stp_same {f t : Nat} {w : Int} {s : Nat → Int} (h : ¬ s f + w > s t) : stp f t w s = s := by
  funext v
  unfold stp
  rw [if_neg fun g => h g.2]
theorem rnd_bd {F T : Nat → Nat} {W : Nat → Int} {m : Nat} {B : Int} (hW : ∀ j, j < m → W j ≤ 20000) {s : Nat → Int} (hs : ∀ v, s v ≤ B) : ∀ j : Nat, j ≤ m → ∀ v, rnd F T W s j v ≤ B + 20000 * j := by
  intro j
  induction j with
  | zero => intro _ v; have := hs v; show s v ≤ _; omega
  | succ j ih =>
    intro hj v
    have h1 := ih (by omega)
    have h2 := hW j (by omega)
    have h3 := h1 (F j)
    have h4 := h1 v
    simp only [rnd]
    unfold stp
    split <;> omega
theorem rds_bd {F T : Nat → Nat} {W : Nat → Int} {m : Nat} (hW : ∀ j, j < m → W j ≤ 20000) (hm : m ≤ 100) : ∀ r v, rds F T W m r v ≤ 2000000 * r := by
  intro r
  induction r with
  | zero => intro v; exact Int.le_refl _
  | succ r ih =>
    intro v
    have := rnd_bd (F := F) (T := T) hW ih m (Nat.le_refl _) v
    show rnd F T W (rds F T W m r) m v ≤ _
    omega
/-- Does some round of the first k leave all as it was? -/
def fitB (F T : Nat → Nat) (W : Nat → Int) (m : Nat) : Nat → Bool
  | 0 => false
  | k + 1 => fitB F T W m k || !chg F T W (rds F T W m k) m
theorem fitB_iff {F T : Nat → Nat} {W : Nat → Int} {m : Nat} : ∀ k, fitB F T W m k = true ↔ ∃ r, r < k ∧ chg F T W (rds F T W m r) m = false := by
  intro k
  induction k with
  | zero => simp [fitB]
  | succ k ih =>
    simp only [fitB, Bool.or_eq_true, ih, Bool.not_eq_true']
    constructor
    · rintro (⟨r, h1, h2⟩ | h)
      · exact ⟨r, by omega, h2⟩
      · exact ⟨k, by omega, h⟩
    · rintro ⟨r, h1, h2⟩
      rcases (by omega : r < k ∨ r = k) with g | rfl
      · exact .inl ⟨r, g, h2⟩
      · exact .inr h2

set_option maxRecDepth 100000 in
theorem fits_pure (n m : Nat) (F T : Nat → Nat) (W : Nat → Int) (hn : 1 ≤ n ∧ n ≤ 100) (hm : m ≤ 100) (hT : ∀ j, j < m → F j < n ∧ T j < n) (hW : ∀ j, j < m → -20000 ≤ W j ∧ W j ≤ 20000) :
    APure Try.prog 67 [.int n, arcsV m F T W] (fun R => R = .bool (fitB F T W m (n + 1))) := by
  refine APure_of (X := cx 55) (cx_ok 55) rfl (rs := [(.tmp 4, 4)]) Try.func67 (by decide) rfl rfl rfl (by simp [cx]) (nofr2 (by trivial) nofrA) ?_
  intro hlen
  ((conv => whnf); repeat (refine stepK_in ?_; (repeat (first | refine seqQ_n ?_ | refine blockQ_n ?_ | refine awp_skip ?_ | refine awp_seq ?_ | refine awp_block ?_)); (conv => whnf)))
  refine ⟨(show (0 : Int) ≤ (n : Int) by omega), ?_⟩
  refine ⟨(show (n : Int) ≤ (n : Int) by omega), ?_⟩
  refine ⟨(show (8 : Int) * (n : Int) ≤ 140737488355328 by omega), ?_⟩
  rw [Int.toNat_natCast]
  ((conv => whnf); repeat (refine stepK_in ?_; (repeat (first | refine seqQ_n ?_ | refine blockQ_n ?_ | refine awp_skip ?_ | refine awp_seq ?_ | refine awp_block ?_)); (conv => whnf)))
  refine AW_loopA (X := cx 55) (cx_ok 55) [0, 1, 5, 6] (fun t => Nat.beq t 0) (fun vs M => ∃ r : Nat, r ≤ n + 1 ∧ fitB F T W m r = false ∧ vs = [.int n, arcsV m F T W, .sl 0 0 0 n, .int r] ∧ M = [some ⟨3, 1, 0, .il (toL n (rds F T W m r))⟩])
    (fun vs _ => n + 1 - (vs.getD 3 .any).toInt.toNat) (fun t ht => by have : t < 1 := ht; simp; omega) ?_ ?_
  · refine same0 ⟨0, Nat.zero_le _, rfl, rfl, congrArg (fun f => [some (⟨3, 1, 0, .il f⟩ : Ob)]) ?_⟩
    refine ext_getD (by rw [toL_len, List.length_replicate]) (fun q hq => ?_)
    rw [List.length_replicate] at hq
    rw [toL_get hq]
    simp [List.getD, hq, rds]
  rintro vs M ⟨r, hr, hno, rfl, rfl⟩
  ((conv => whnf); repeat (refine stepK_in ?_; (repeat (first | refine seqQ_n ?_ | refine blockQ_n ?_ | refine awp_skip ?_ | refine awp_seq ?_ | refine awp_block ?_)); (conv => whnf)))
  refine br_dec (fun hlt => ?_) (fun hge => ?_)
  · have hr' : r ≤ n := by omega
    have hfb : fitB F T W m (r + 1) = (fitB F T W m r || !chg F T W (rds F T W m r) m) := rfl
    have hrn : rds F T W m (r + 1) = rnd F T W (rds F T W m r) m := rfl
    have hnn := fun v => rds_nn (F := F) (T := T) (W := W) (m := m) v r
    have hbd := rds_bd (F := F) (T := T) (fun j hj => (hW j hj).2) hm r
    generalize rds F T W m r = s at *
    ((conv => whnf); repeat (refine stepK_in ?_; (repeat (first | refine seqQ_n ?_ | refine blockQ_n ?_ | refine awp_skip ?_ | refine awp_seq ?_ | refine awp_block ?_)); (conv => whnf)))
    refine AW_loopA (X := cx 55) (cx_ok 55) [0, 1, 5, 6, 7, 8] (fun t => Nat.beq t 0) (fun vs M => ∃ i : Nat, i ≤ m ∧ vs = [.int n, arcsV m F T W, .sl 0 0 0 n, .int r, .bool (chg F T W s i), .int i] ∧ M = [some ⟨3, 1, 0, .il (toL n (rnd F T W s i))⟩])
      (fun vs _ => m - (vs.getD 5 .any).toInt.toNat) (fun t ht => by have : t < 1 := ht; simp; omega) ?_ ?_
    · exact same0 ⟨0, Nat.zero_le _, rfl, rfl⟩
    rintro vs M ⟨i, hi, rfl, rfl⟩
    ((conv => whnf); repeat (refine stepK_in ?_; (repeat (first | refine seqQ_n ?_ | refine blockQ_n ?_ | refine awp_skip ?_ | refine awp_seq ?_ | refine awp_block ?_)); (conv => whnf)))
    refine br_dec (fun hlt2 => ?_) (fun hge2 => ?_)
    · have hi' : i < m := by omega
      have hrs : rnd F T W s (i + 1) = stp (F i) (T i) (W i) (rnd F T W s i) := rfl
      have hcs : chg F T W s (i + 1) = (chg F T W s i || decide (rnd F T W s i (F i) + W i > rnd F T W s i (T i))) := rfl
      have h0 := fun v => Int.le_trans (hnn v) (rnd_up (F := F) (T := T) (W := W) s v i)
      have hb := rnd_bd (F := F) (T := T) (fun j hj => (hW j hj).2) hbd i hi
      have hTi := hT i hi'
      have hWi := hW i hi'
      generalize rnd F T W s i = u at *
      generalize chg F T W s i = ch at *
      have htl := toL_len n u
      have hg1 : (toL n u).getD (0 + ((F i : Nat) : Int).toNat) 0 = u (F i) := by rw [Int.toNat_natCast, Nat.zero_add, toL_get hTi.1]
      have hg2 : (toL n u).getD (0 + ((T i : Nat) : Int).toNat) 0 = u (T i) := by rw [Int.toNat_natCast, Nat.zero_add, toL_get hTi.2]
      ((conv => whnf); repeat (refine stepK_in ?_; (repeat (first | refine seqQ_n ?_ | refine blockQ_n ?_ | refine awp_skip ?_ | refine awp_seq ?_ | refine awp_block ?_)); (conv => whnf)))
      refine ⟨(show (0 : Int) ≤ (i : Int) by omega), ?_⟩
      refine ⟨(show (i : Int) < (m : Int) by omega), ?_⟩
      ((conv => whnf); repeat (refine stepK_in ?_; (repeat (first | refine seqQ_n ?_ | refine blockQ_n ?_ | refine awp_skip ?_ | refine awp_seq ?_ | refine awp_block ?_)); (conv => whnf)))
      refine AW_draw (X := cx 55) (cx_ok 55) mixed (by kernel_rfl) ?_
      ((conv => whnf); repeat (refine stepK_in ?_; (repeat (first | refine seqQ_n ?_ | refine blockQ_n ?_ | refine awp_skip ?_ | refine awp_seq ?_ | refine awp_block ?_)); (conv => whnf)))
      refine ⟨(show (0 : Int) ≤ ((F i : Nat) : Int) by omega), ?_⟩
      refine ⟨(show ((F i : Nat) : Int) < (n : Int) by omega), ?_⟩
      ((conv => whnf); repeat (refine stepK_in ?_; (repeat (first | refine seqQ_n ?_ | refine blockQ_n ?_ | refine awp_skip ?_ | refine awp_seq ?_ | refine awp_block ?_)); (conv => whnf)))
      rw [show 0 + (((F (i : Int).toNat : Nat) : Int)).toNat = F i by rw [Int.toNat_natCast, Int.toNat_natCast, Nat.zero_add], toL_get hTi.1, Int.toNat_natCast]
      have h01 := h0 (F i)
      have h02 := h0 (T i)
      have hb1 := hb (F i)
      have hb2 := hb (T i)
      refine ⟨inr (by omega), ?_⟩
      ((conv => whnf); repeat (refine stepK_in ?_; (repeat (first | refine seqQ_n ?_ | refine blockQ_n ?_ | refine awp_skip ?_ | refine awp_seq ?_ | refine awp_block ?_)); (conv => whnf)))
      refine ⟨(show (0 : Int) ≤ ((T i : Nat) : Int) by omega), ?_⟩
      refine ⟨(show ((T i : Nat) : Int) < (n : Int) by omega), ?_⟩
      ((conv => whnf); repeat (refine stepK_in ?_; (repeat (first | refine seqQ_n ?_ | refine blockQ_n ?_ | refine awp_skip ?_ | refine awp_seq ?_ | refine awp_block ?_)); (conv => whnf)))
      rw [hg2]
      refine br_dec (fun hc => ?_) (fun hc => ?_)
      · rw [decide_eq_true hc, Bool.or_true] at hcs
        have hst := toL_set (n := n) (w := W i) hTi.2 hc
        ((conv => whnf); repeat (refine stepK_in ?_; (repeat (first | refine seqQ_n ?_ | refine blockQ_n ?_ | refine awp_skip ?_ | refine awp_seq ?_ | refine awp_block ?_)); (conv => whnf)))
        refine AW_draw (X := cx 55) (cx_ok 55) mixed (by kernel_rfl) ?_
        ((conv => whnf); repeat (refine stepK_in ?_; (repeat (first | refine seqQ_n ?_ | refine blockQ_n ?_ | refine awp_skip ?_ | refine awp_seq ?_ | refine awp_block ?_)); (conv => whnf)))
        refine ⟨(show (0 : Int) ≤ ((F i : Nat) : Int) by omega), ?_⟩
        refine ⟨(show ((F i : Nat) : Int) < (n : Int) by omega), ?_⟩
        ((conv => whnf); repeat (refine stepK_in ?_; (repeat (first | refine seqQ_n ?_ | refine blockQ_n ?_ | refine awp_skip ?_ | refine awp_seq ?_ | refine awp_block ?_)); (conv => whnf)))
        rw [hg1]
        refine ⟨inr (by omega), ?_⟩
        ((conv => whnf); repeat (refine stepK_in ?_; (repeat (first | refine seqQ_n ?_ | refine blockQ_n ?_ | refine awp_skip ?_ | refine awp_seq ?_ | refine awp_block ?_)); (conv => whnf)))
        refine ⟨(show (0 : Int) ≤ ((T i : Nat) : Int) by omega), ?_⟩
        refine ⟨(show ((T i : Nat) : Int) < (n : Int) by omega), ?_⟩
        ((conv => whnf); repeat (refine stepK_in ?_; (repeat (first | refine seqQ_n ?_ | refine blockQ_n ?_ | refine awp_skip ?_ | refine awp_seq ?_ | refine awp_block ?_)); (conv => whnf)))
        refine ⟨inr (by omega), ?_⟩
        ((conv => whnf); repeat (refine stepK_in ?_; (repeat (first | refine seqQ_n ?_ | refine blockQ_n ?_ | refine awp_skip ?_ | refine awp_seq ?_ | refine awp_block ?_)); (conv => whnf)))
        refine ⟨by repeat (first | exact trivial | exact rfl | exact namedA |  exact fun _ => trivial | exact fun _ _ => trivial | exact fun _ _ _ => trivial | exact fun _ _ _ _ => trivial | refine And.intro ?_ ?_), memA1 [some ⟨3, 1, 0, .il (toL n (stp (F i) (T i) (W i) u))⟩] ⟨ObSub.ii (by rw [← hst, Int.toNat_natCast, Nat.zero_add]; rfl), trivial⟩ ⟨⟨i + 1, hi', ?_, ?_⟩, ?_⟩⟩
        · rw [hcs]; rfl
        · rw [hrs]
        · simp [V.toInt, sel, Env.get]; omega
      · rw [decide_eq_false hc, Bool.or_false] at hcs
        rw [stp_same hc] at hrs
        ((conv => whnf); repeat (refine stepK_in ?_; (repeat (first | refine seqQ_n ?_ | refine blockQ_n ?_ | refine awp_skip ?_ | refine awp_seq ?_ | refine awp_block ?_)); (conv => whnf)))
        refine ⟨inr (by omega), ?_⟩
        ((conv => whnf); repeat (refine stepK_in ?_; (repeat (first | refine seqQ_n ?_ | refine blockQ_n ?_ | refine awp_skip ?_ | refine awp_seq ?_ | refine awp_block ?_)); (conv => whnf)))
        refine ⟨by repeat (first | exact trivial | exact rfl | exact namedA |  exact fun _ => trivial | exact fun _ _ => trivial | exact fun _ _ _ => trivial | exact fun _ _ _ _ => trivial | refine And.intro ?_ ?_), memA1 [some ⟨3, 1, 0, .il (toL n u)⟩] ⟨ObSub.refl _, trivial⟩ ⟨⟨i + 1, hi', ?_, ?_⟩, ?_⟩⟩
        · rw [hcs]; rfl
        · rw [hrs]
        · simp [V.toInt, sel, Env.get]; omega
    · have him : i = m := by omega
      rw [him]
      cases hch : chg F T W s m with
      | true =>
        rw [hno, hch] at hfb
        ((conv => whnf); repeat (refine stepK_in ?_; (repeat (first | refine seqQ_n ?_ | refine blockQ_n ?_ | refine awp_skip ?_ | refine awp_seq ?_ | refine awp_block ?_)); (conv => whnf)))
        refine ⟨inr (by omega), ?_⟩
        ((conv => whnf); repeat (refine stepK_in ?_; (repeat (first | refine seqQ_n ?_ | refine blockQ_n ?_ | refine awp_skip ?_ | refine awp_seq ?_ | refine awp_block ?_)); (conv => whnf)))
        refine ⟨by repeat (first | exact trivial | exact rfl | exact namedA |  exact fun _ => trivial | exact fun _ _ => trivial | exact fun _ _ _ => trivial | exact fun _ _ _ _ => trivial | refine And.intro ?_ ?_), same1 ⟨⟨r + 1, by omega, hfb, ?_, ?_⟩, ?_⟩⟩
        · rfl
        · rw [hrn]; rfl
        · simp [V.toInt, sel, Env.get]; omega
      | false =>
        rw [hch] at hfb
        have htr : fitB F T W m (n + 1) = true := by
          rw [fitB_iff]
          obtain ⟨q, h1, h2⟩ := (fitB_iff (F := F) (T := T) (W := W) (m := m) (r + 1)).1 (by rw [hfb]; simp)
          exact ⟨q, by omega, h2⟩
        ((conv => whnf); repeat (refine stepK_in ?_; (repeat (first | refine seqQ_n ?_ | refine blockQ_n ?_ | refine awp_skip ?_ | refine awp_seq ?_ | refine awp_block ?_)); (conv => whnf)))
        exact ⟨trivial, Qb htr.symm⟩
  · obtain rfl : r = n + 1 := by omega
    ((conv => whnf); repeat (refine stepK_in ?_; (repeat (first | refine seqQ_n ?_ | refine blockQ_n ?_ | refine awp_skip ?_ | refine awp_seq ?_ | refine awp_block ?_)); (conv => whnf)))
    exact ⟨trivial, Qb hno.symm⟩
end Go.Tri
