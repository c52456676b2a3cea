/-
  CONTRACTS: rounds, settled, succeeds.
-/
import Derived.Test.YthocieklelgmbaaB6
namespace Go.Tri
open Go.Proofs

theorem rdT_bd {l : List Int} {long T : Int} (h1 : 1 ≤ l.length) (hl : bet 0 1000 l l.length) (hT : 0 ≤ T) : ∀ k q, 0 ≤ rdT l long T k q ∧ rdT l long T k q ≤ 1000 * k := by
  intro k
  induction k with
  | zero => intro q; simp [rdT]
  | succ k ih =>
    intro q
    have hb : ∀ h, befT l.length T (rdT l long T k) h ≤ 1000 * k := by
      intro h
      unfold befT
      split
      · have := ih (h + l.length).toNat; omega
      · exact (ih h.toNat).2
    have q0 := ih q
    simp only [rdT]
    unfold rsT
    split
    · have a1 := hl _ (arH_lt h1 ((q : Int) - 1))
      have b1 := hb ((q : Int) - 1)
      have b2 := hb ((q : Int) - long)
      unfold ndT maxI
      split <;> split <;> omega
    · omega
theorem rdT_bdT {l : List Int} {long T : Int} (h1 : 1 ≤ l.length) (hl : bet 0 1000 l l.length) (hT : 0 ≤ T) {k : Nat} (hk : k ≤ 13) : bdT 1000000 (rdT l long T k) := fun q => by
  have := rdT_bd (long := long) h1 hl hT k q
  omega

/-- The rounds, one after another. -/
def rdF (l : List Int) (long T : Int) (q : Nat) : Int := if q < 12 * (l.length + 1) then rdT l long T (q / 12) (q % 12) else 0
@[reducible] def rdB (r : Nat → Nat → Int) (k : Nat) : Nat → Nat → V := fun j q => .int (if j = 0 ∧ q < 12 * (k + 1) then r (q / 12) (q % 12) else 0)
@[reducible] def tabsV (f : Nat → Int) : V := .agg 156 fun q => .int (f q)
theorem rdB_set {r : Nat → Nat → Int} {k : Nat} {g : Nat → V} (hg : ∀ q, q < 12 → g q = .int (r (k + 1) q)) :
    (fun j q => if j = 0 ∧ 0 + ((k : Int) + 1).toNat * 12 ≤ q ∧ q < 0 + ((k : Int) + 1).toNat * 12 + 12 then g (q - (0 + ((k : Int) + 1).toNat * 12)) else rdB r k j q) = rdB r (k + 1) := by
  funext j q
  unfold rdB
  rw [show 0 + ((k : Int) + 1).toNat * 12 = 12 * (k + 1) by omega]
  by_cases h : j = 0 ∧ 12 * (k + 1) ≤ q ∧ q < 12 * (k + 1) + 12
  · rw [if_pos h, if_pos (by omega), hg _ (by omega)]
    congr 2 <;> omega
  · rw [if_neg h]
    congr 1
    by_cases h2 : j = 0 ∧ q < 12 * (k + 1)
    · rw [if_pos h2, if_pos (by omega)]
    · rw [if_neg h2, if_neg (by omega)]

theorem rdB_get {r : Nat → Nat → Int} {k q : Nat} (hq : q < 12) : rdB r k 0 (0 + (k : Int).toNat * 12 + q) = .int (r k q) := by
  unfold rdB
  rw [if_pos (by omega)]
  congr 2 <;> omega
theorem named_ite {kp : Nat → Bool} {c : Prop} [Decidable c] {a b : V} (h : Named kp a) (h' : Named kp b) : Named kp (if c then a else b) := by split <;> assumption

set_option maxRecDepth 100000 in
theorem rounds_pure (l : List Int) (long : Nat) (T : Int) (h1 : 1 ≤ l.length) (h2 : l.length ≤ 12) (hl1 : 1 ≤ long) (hl2 : long ≤ l.length) (hl : bet 0 1000 l l.length) (hT : 0 ≤ T ∧ T ≤ 1000000) :
    APure Try.prog 70 [trialV l long T] (fun R => R = tabsV (rdF l long T)) := by
  refine APure_of (X := cx 22) (cx_ok 22) rfl (rs := [(.cell 2 80, 80)]) Try.func70 (by decide) rfl rfl rfl (by simp [cx]) (nofr1 nofrTr) ?_
  intro hlen
  ((conv => whnf); repeat (refine stepK_in ?_; (repeat (first | refine seqQ_n ?_ | refine blockQ_n ?_ | refine awp_skip ?_ | refine awp_seq ?_ | refine awp_block ?_)); (conv => whnf)))
  refine AW_loopA (X := cx 22) (cx_ok 22) [1, 2, 3, 8, 9] (fun t => Nat.blt t 3) (fun vs M => ∃ (k : Nat), k ≤ l.length ∧ vs = [.ptr 0 0 0 0, .ptr 1 0 0 0, .ptr 2 0 0 0, .int l.length, .int k] ∧
      M = [some ⟨58, 3, 0, .one [.ints false l, .int long, .int T]⟩, some ⟨80, 156, 0, .cv 1 fun _ _ => .int 0⟩, some ⟨80, 156, 0, .cv 1 (rdB (rdT l long T) k)⟩])
    (fun vs _ => l.length - (vs.getD 4 .any).toInt.toNat) (fun t ht => by simpa using ht) ?_ ?_
  · refine ⟨_, [some ⟨58, 3, 0, .one [.ints false l, .int long, .int T]⟩, some ⟨80, 156, 0, .cv 1 fun _ _ => .int 0⟩, some ⟨80, 156, 0, .cv 1 (rdB (rdT l long T) 0)⟩], SubL.refl _, ?_, 0, Nat.zero_le _, rfl, rfl⟩
    refine ⟨ObSub.refl _, ObSub_vv (fun j q hj hq => ?_), ObSub_vv (fun j q hj hq => ?_), trivial⟩
    · have hq : q < 156 := hq
      show constV ((List.replicate 156 (Value.int .i64 0)).getD q undef) = _
      rw [List.getD, List.getElem?_replicate, if_pos hq]
      rfl
    have hq : q < 156 := hq
    show constV ((List.replicate 156 (Value.int .i64 0)).getD q undef) = _
    rw [List.getD, List.getElem?_replicate, if_pos hq]
    show V.int 0 = V.int _
    congr 1
    split
    · rw [show q / 12 = 0 by omega]; rfl
    · rfl
  rintro vs M ⟨k, hk, rfl, rfl⟩
  ((conv => whnf); repeat (refine stepK_in ?_; (repeat (first | refine seqQ_n ?_ | refine blockQ_n ?_ | refine awp_skip ?_ | refine awp_seq ?_ | refine awp_block ?_)); (conv => whnf)))
  refine br_dec (fun hlt => ?_) (fun hge => ?_)
  · have hk' : k < l.length := by omega
    have c1 := raised_pure l long T (rdT l long T k) h1 h2 hl1 hl2 hl (rdT_bdT h1 hl hT.1 (by omega)) (by omega)
    have e : rsT l long T (rdT l long T k) = rdT l long T (k + 1) := rfl
    rw [e] at c1
    generalize hr : rdT l long T = r at *
    ((conv => whnf); repeat (refine stepK_in ?_; (repeat (first | refine seqQ_n ?_ | refine blockQ_n ?_ | refine awp_skip ?_ | refine awp_seq ?_ | refine awp_block ?_)); (conv => whnf)))
    refine AW_draw (X := cx 22) (cx_ok 22) mixed (by kernel_rfl) ?_
    ((conv => whnf); repeat (refine stepK_in ?_; (repeat (first | refine seqQ_n ?_ | refine blockQ_n ?_ | refine awp_skip ?_ | refine awp_seq ?_ | refine awp_block ?_)); (conv => whnf)))
    refine ⟨inr (by omega), ?_⟩
    ((conv => whnf); repeat (refine stepK_in ?_; (repeat (first | refine seqQ_n ?_ | refine blockQ_n ?_ | refine awp_skip ?_ | refine awp_seq ?_ | refine awp_block ?_)); (conv => whnf)))
    refine ⟨by omega, ?_⟩
    refine ⟨(show (k : Int) < 13 by omega), ?_⟩
    ((conv => whnf); repeat (refine stepK_in ?_; (repeat (first | refine seqQ_n ?_ | refine blockQ_n ?_ | refine awp_skip ?_ | refine awp_seq ?_ | refine awp_block ?_)); (conv => whnf)))
    refine ldak (ver := 0) (m := 0 + (k : Int).toNat * 12 + 12) (sz := 156) (by omega) ?_
    ((conv => whnf); repeat (refine stepK_in ?_; (repeat (first | refine seqQ_n ?_ | refine blockQ_n ?_ | refine awp_skip ?_ | refine awp_seq ?_ | refine awp_block ?_)); (conv => whnf)))
    refine ⟨_, APure.arg2 (subTr rfl rfl rfl) (subTb fun q hq => ?_) c1, ?_⟩
    · exact rdB_get (r := r) (k := k) hq
    ((conv => whnf); repeat (refine stepK_in ?_; (repeat (first | refine seqQ_n ?_ | refine blockQ_n ?_ | refine awp_skip ?_ | refine awp_seq ?_ | refine awp_block ?_)); (conv => whnf)))
    refine ⟨(show (0 : Int) ≤ (k : Int) + 1 by omega), ?_⟩
    refine ⟨(show (k : Int) + 1 < 13 by omega), ?_⟩
    ((conv => whnf); repeat (refine stepK_in ?_; (repeat (first | refine seqQ_n ?_ | refine blockQ_n ?_ | refine awp_skip ?_ | refine awp_seq ?_ | refine awp_block ?_)); (conv => whnf)))
    refine ldak (ver := 0) (m := 0 + ((k : Int) + 1).toNat * 12 + 12) (sz := 156) (by omega) ?_
    ((conv => whnf); repeat (refine stepK_in ?_; (repeat (first | refine seqQ_n ?_ | refine blockQ_n ?_ | refine awp_skip ?_ | refine awp_seq ?_ | refine awp_block ?_)); (conv => whnf)))
    refine ⟨inr (by omega), ?_⟩
    ((conv => whnf); repeat (refine stepK_in ?_; (repeat (first | refine seqQ_n ?_ | refine blockQ_n ?_ | refine awp_skip ?_ | refine awp_seq ?_ | refine awp_block ?_)); (conv => whnf)))
    refine ⟨by repeat (first | exact trivial | exact rfl | exact fun _ _ _ _ => named_ite trivial trivial |  exact fun _ => trivial | exact fun _ _ => trivial | exact fun _ _ _ => trivial | exact fun _ _ _ _ => trivial | refine And.intro ?_ ?_), same1 ⟨⟨k + 1, by omega, rfl, ?_⟩, ?_⟩⟩
    · exact congrArg (fun f => [some (⟨58, 3, 0, .one [.ints false l, .int long, .int T]⟩ : Ob), some ⟨80, 156, 0, .cv 1 fun _ _ => .int 0⟩, some ⟨80, 156, 0, .cv 1 f⟩]) (rdB_set (r := r) (k := k) (g := fun q => V.int (r (k + 1) q)) (fun q _ => rfl))
    · simp [V.toInt, sel, Env.get]; omega
  · obtain rfl : k = l.length := by omega
    ((conv => whnf); repeat (refine stepK_in ?_; (repeat (first | refine seqQ_n ?_ | refine blockQ_n ?_ | refine awp_skip ?_ | refine awp_seq ?_ | refine awp_block ?_)); (conv => whnf)))
    refine ⟨fun _ _ => trivial, congrArg (V.agg 156) (funext fun q => ?_)⟩
    show V.int (if 0 = 0 ∧ 0 + (0 + q) < 12 * (l.length + 1) then rdT l long T ((0 + (0 + q)) / 12) ((0 + (0 + q)) % 12) else 0) = V.int (rdF l long T q)
    unfold rdF
    rw [Nat.zero_add, Nat.zero_add]
    congr 1
    by_cases hq : q < 12 * (l.length + 1)
    · rw [if_pos ⟨rfl, hq⟩, if_pos hq]
    · rw [if_neg (fun h => hq h.2), if_neg hq]
end Go.Tri
