/-
  CONTRACTS: the tables of a trial.
-/
import Derived.Test.YthocieklelgmbaaB3
namespace Go.Tri
open Go.Proofs

@[reducible] def trialV (l : List Int) (long T : Int) : V := .agg 3 fun k => match k with | 0 => .ints false l | 1 => .int long | _ => .int T
@[reducible] def tabV (s : Nat → Int) : V := .agg 12 fun k => .int (s k)
theorem nofrTr {l : List Int} {long T : Int} : NoFr (trialV l long T) := fun k => by show NoFr (match k with | 0 => V.ints false l | 1 => .int long | _ => .int T); split <;> trivial
theorem nofrTb {s : Nat → Int} : NoFr (tabV s) := fun _ => trivial
theorem subTr {g : Nat → V} {l : List Int} {long T : Int} (h0 : g 0 = .ints false l) (h1 : g 1 = .int long) (h2 : g 2 = .int T) : Sub (.agg 3 g) (trialV l long T) := sub_agg fun i hi => by
  rcases (by omega : i = 0 ∨ i = 1 ∨ i = 2) with rfl | rfl | rfl
  · exact Sub.of h0
  · exact Sub.of h1
  · exact Sub.of h2
theorem subTb {g : Nat → V} {s : Nat → Int} (h : ∀ k, k < 12 → g k = .int (s k)) : Sub (.agg 12 g) (tabV s) := sub_agg fun i hi => Sub.of (h i hi)

/-- How many begin before an hour; how many must. -/
def befT (n : Nat) (T : Int) (s : Nat → Int) (h : Int) : Int := if h < 0 then s (h + n).toNat - T else s h.toNat
def ndT (l : List Int) (long T : Int) (s : Nat → Int) (h : Int) : Int := befT l.length T s (h - long) + l.getD (arH l.length (h - 1)) 0
/-- The sums, raised. -/
def rsT (l : List Int) (long T : Int) (s : Nat → Int) (k : Nat) : Int := if k < l.length then maxI (maxI (s k) (befT l.length T s ((k : Int) - 1))) (ndT l long T s k) else s k
def rdT (l : List Int) (long T : Int) : Nat → Nat → Int
  | 0 => fun _ => 0
  | k + 1 => rsT l long T (rdT l long T k)

def bdT (B : Int) (s : Nat → Int) : Prop := ∀ k, -B ≤ s k ∧ s k ≤ B

set_option maxRecDepth 100000 in
theorem before_pure (l : List Int) (long T h : Int) (s : Nat → Int) (h1 : 1 ≤ l.length) (h2 : l.length ≤ 12) (hh : -(l.length : Int) ≤ h ∧ h < 12) (hs : bdT 1000000 s) (hT : -1000000 ≤ T ∧ T ≤ 1000000) :
    APure Try.prog 80 [trialV l long T, tabV s, .int h] (fun R => R = .int (befT l.length T s h)) := by
  refine APure_of (X := cx 23) (cx_ok 23) rfl (rs := [(.tmp 6, 3)]) Try.func80 (by decide) rfl rfl rfl (by simp [cx]) (nofr3 nofrTr nofrTb (by trivial)) ?_
  intro hlen
  ((conv => whnf); repeat (refine stepK_in ?_; (repeat (first | refine seqQ_n ?_ | refine blockQ_n ?_ | refine awp_skip ?_ | refine awp_seq ?_ | refine awp_block ?_)); (conv => whnf)))
  refine br_dec (fun hn => ?_) (fun hn => ?_)
  · have e : befT l.length T s h = s (h + l.length).toNat - T := by unfold befT; rw [if_pos hn]
    have hb := hs (h + l.length).toNat
    ((conv => whnf); repeat (refine stepK_in ?_; (repeat (first | refine seqQ_n ?_ | refine blockQ_n ?_ | refine awp_skip ?_ | refine awp_seq ?_ | refine awp_block ?_)); (conv => whnf)))
    refine AW_draw (X := cx 23) (cx_ok 23) mixed (by kernel_rfl) ?_
    refine ⟨inr (show -9223372036854775808 ≤ h + l.length ∧ h + l.length ≤ 9223372036854775807 by omega), ?_⟩
    ((conv => whnf); repeat (refine stepK_in ?_; (repeat (first | refine seqQ_n ?_ | refine blockQ_n ?_ | refine awp_skip ?_ | refine awp_seq ?_ | refine awp_block ?_)); (conv => whnf)))
    refine ⟨(show 0 ≤ h + (l.length : Int) by omega), ?_⟩
    refine ⟨(show h + (l.length : Int) < 12 by omega), ?_⟩
    ((conv => whnf); repeat (refine stepK_in ?_; (repeat (first | refine seqQ_n ?_ | refine blockQ_n ?_ | refine awp_skip ?_ | refine awp_seq ?_ | refine awp_block ?_)); (conv => whnf)))
    refine ldk (ver := 0) (o := 0 + (h + (l.length : Int)).toNat * 1) (sz := 12) (by omega) ?_
    ((conv => whnf); repeat (refine stepK_in ?_; (repeat (first | refine seqQ_n ?_ | refine blockQ_n ?_ | refine awp_skip ?_ | refine awp_seq ?_ | refine awp_block ?_)); (conv => whnf)))
    refine ⟨inr (show -9223372036854775808 ≤ s (0 + (h + l.length).toNat * 1) - T ∧ s (0 + (h + l.length).toNat * 1) - T ≤ 9223372036854775807 by rw [Nat.mul_one, Nat.zero_add]; omega), ?_⟩
    ((conv => whnf); repeat (refine stepK_in ?_; (repeat (first | refine seqQ_n ?_ | refine blockQ_n ?_ | refine awp_skip ?_ | refine awp_seq ?_ | refine awp_block ?_)); (conv => whnf)))
    refine ⟨trivial, Qi ?_⟩
    show s (0 + (h + (l.length : Int)).toNat * 1) - T = _
    rw [e, Nat.mul_one, Nat.zero_add]
  · have e : befT l.length T s h = s h.toNat := by unfold befT; rw [if_neg hn]
    ((conv => whnf); repeat (refine stepK_in ?_; (repeat (first | refine seqQ_n ?_ | refine blockQ_n ?_ | refine awp_skip ?_ | refine awp_seq ?_ | refine awp_block ?_)); (conv => whnf)))
    refine ⟨(show 0 ≤ h by omega), ?_⟩
    refine ⟨(show h < 12 by omega), ?_⟩
    ((conv => whnf); repeat (refine stepK_in ?_; (repeat (first | refine seqQ_n ?_ | refine blockQ_n ?_ | refine awp_skip ?_ | refine awp_seq ?_ | refine awp_block ?_)); (conv => whnf)))
    refine ldk (ver := 0) (o := 0 + h.toNat * 1) (sz := 12) (by omega) ?_
    ((conv => whnf); repeat (refine stepK_in ?_; (repeat (first | refine seqQ_n ?_ | refine blockQ_n ?_ | refine awp_skip ?_ | refine awp_seq ?_ | refine awp_block ?_)); (conv => whnf)))
    refine ⟨trivial, Qi ?_⟩
    show s (0 + h.toNat * 1) = _
    rw [e, Nat.mul_one, Nat.zero_add]

theorem befT_bd {n : Nat} {T h B : Int} {s : Nat → Int} (hs : bdT B s) (hT : -B ≤ T ∧ T ≤ B) : -(2 * B) ≤ befT n T s h ∧ befT n T s h ≤ 2 * B := by
  unfold befT
  split
  · have := hs (h + n).toNat; omega
  · have := hs h.toNat; omega

set_option maxRecDepth 100000 in
theorem needed_pure (l : List Int) (long : Nat) (T : Int) (h : Nat) (s : Nat → Int) (h1 : 1 ≤ l.length) (h2 : l.length ≤ 12) (hl1 : 1 ≤ long) (hl2 : long ≤ l.length) (hl : bet 0 1000 l l.length) (hh : h < 12) (hs : bdT 1000000 s) (hT : -1000000 ≤ T ∧ T ≤ 1000000) :
    APure Try.prog 72 [trialV l long T, tabV s, .int h] (fun R => R = .int (ndT l long T s h)) := by
  refine APure_of (X := cx 26) (cx_ok 26) rfl (rs := [(.tmp 6, 3)]) Try.func72 (by decide) rfl rfl rfl (by simp [cx]) (nofr3 nofrTr nofrTb (by trivial)) ?_
  intro hlen
  have c1 := before_pure l long T ((h : Int) - long) s h1 h2 (by omega) hs hT
  have c2 := around_pure l long ((h : Int) - 1) h1 h2 (by omega)
  have b1 := befT_bd (n := l.length) (h := (h : Int) - long) hs hT
  have a1 := arH_lt h1 ((h : Int) - 1)
  have l3 := hl _ a1
  have e : ndT l long T s h = befT l.length T s ((h : Int) - long) + l.getD (arH l.length ((h : Int) - 1)) 0 := rfl
  generalize befT l.length T s ((h : Int) - long) = x at *
  generalize arH l.length ((h : Int) - 1) = q at *
  ((conv => whnf); repeat (refine stepK_in ?_; (repeat (first | refine seqQ_n ?_ | refine blockQ_n ?_ | refine awp_skip ?_ | refine awp_seq ?_ | refine awp_block ?_)); (conv => whnf)))
  refine AW_draw (X := cx 26) (cx_ok 26) mixed (by kernel_rfl) ?_
  ((conv => whnf); repeat (refine stepK_in ?_; (repeat (first | refine seqQ_n ?_ | refine blockQ_n ?_ | refine awp_skip ?_ | refine awp_seq ?_ | refine awp_block ?_)); (conv => whnf)))
  refine ⟨inr (by omega), ?_⟩
  ((conv => whnf); repeat (refine stepK_in ?_; (repeat (first | refine seqQ_n ?_ | refine blockQ_n ?_ | refine awp_skip ?_ | refine awp_seq ?_ | refine awp_block ?_)); (conv => whnf)))
  refine ⟨_, APure.arg3 (subTr rfl rfl rfl) (subTb fun k hk => (show V.int (s (0 + k)) = V.int (s k) by rw [Nat.zero_add])) (Sub.refl _) c1, ?_⟩
  ((conv => whnf); repeat (refine stepK_in ?_; (repeat (first | refine seqQ_n ?_ | refine blockQ_n ?_ | refine awp_skip ?_ | refine awp_seq ?_ | refine awp_block ?_)); (conv => whnf)))
  refine ⟨inr (by omega), ?_⟩
  ((conv => whnf); repeat (refine stepK_in ?_; (repeat (first | refine seqQ_n ?_ | refine blockQ_n ?_ | refine awp_skip ?_ | refine awp_seq ?_ | refine awp_block ?_)); (conv => whnf)))
  refine ⟨_, APure.arg2 (subCk rfl rfl) (Sub.refl _) c2, ?_⟩
  ((conv => whnf); repeat (refine stepK_in ?_; (repeat (first | refine seqQ_n ?_ | refine blockQ_n ?_ | refine awp_skip ?_ | refine awp_seq ?_ | refine awp_block ?_)); (conv => whnf)))
  repeat ((first | refine ⟨by omega, ?_⟩ | refine ⟨inr (by omega), ?_⟩ | refine ldk (by omega) ?_); ((conv => whnf); repeat (refine stepK_in ?_; (repeat (first | refine seqQ_n ?_ | refine blockQ_n ?_ | refine awp_skip ?_ | refine awp_seq ?_ | refine awp_block ?_)); (conv => whnf))))
  refine ⟨inr (show -9223372036854775808 ≤ x + l.getD (q : Int).toNat 0 ∧ x + l.getD (q : Int).toNat 0 ≤ 9223372036854775807 by rw [Int.toNat_natCast]; omega), ?_⟩
  ((conv => whnf); repeat (refine stepK_in ?_; (repeat (first | refine seqQ_n ?_ | refine blockQ_n ?_ | refine awp_skip ?_ | refine awp_seq ?_ | refine awp_block ?_)); (conv => whnf)))
  refine ⟨trivial, Qi ?_⟩
  rw [e]
  rfl

theorem ObSub_vv {e sz ver n : Nat} {f g : Nat → Nat → V} (h : ∀ j k, j < n → k < sz → f j k = g j k) : ObSub ⟨e, sz, ver, .cv n f⟩ ⟨e, sz, ver, .cv n g⟩ := ⟨rfl, rfl, rfl, rfl, ⟨rfl, rfl⟩, fun j k hj hk => Sub.of (h j k hj hk)⟩

/-- The sums while they are raised: those of the first k hours are. -/
@[reducible] def tabB (s r : Nat → Int) (k : Nat) : Nat → Nat → V := fun j q => .int (if j = 0 ∧ q < k then r q else s q)
theorem tabB_set {s r : Nat → Int} {k : Nat} {v : Int} (hv : v = r k) : (fun j q => if j = 0 ∧ q = 0 + (k : Int).toNat * 1 then V.int v else tabB s r k j q) = tabB s r (k + 1) := by
  funext j q
  unfold tabB
  rw [Int.toNat_natCast, Nat.mul_one, Nat.zero_add]
  by_cases h : j = 0 ∧ q = k
  · rw [if_pos h, if_pos (by omega), hv, h.2]
  · rw [if_neg h]
    congr 1
    by_cases h2 : j = 0 ∧ q < k
    · rw [if_pos h2, if_pos (by omega)]
    · rw [if_neg h2, if_neg (by omega)]

theorem tabB_0 (s r : Nat → Int) : (fun (_ : Nat) (q : Nat) => V.int (s (0 + q))) = tabB s r 0 := by
  funext j q
  unfold tabB
  rw [if_neg (by omega), Nat.zero_add]

set_option maxRecDepth 100000 in
theorem raised_pure (l : List Int) (long : Nat) (T : Int) (s : Nat → Int) (h1 : 1 ≤ l.length) (h2 : l.length ≤ 12) (hl1 : 1 ≤ long) (hl2 : long ≤ l.length) (hl : bet 0 1000 l l.length) (hs : bdT 1000000 s) (hT : -1000000 ≤ T ∧ T ≤ 1000000) :
    APure Try.prog 78 [trialV l long T, tabV s] (fun R => R = tabV (rsT l long T s)) := by
  refine APure_of (X := cx 32) (cx_ok 32) rfl (rs := [(.cell 4 73, 73)]) Try.func78 (by decide) rfl rfl rfl (by simp [cx]) (nofr2 nofrTr nofrTb) ?_
  intro hlen
  ((conv => whnf); repeat (refine stepK_in ?_; (repeat (first | refine seqQ_n ?_ | refine blockQ_n ?_ | refine awp_skip ?_ | refine awp_seq ?_ | refine awp_block ?_)); (conv => whnf)))
  refine AW_loop (X := cx 32) (cx_ok 32) [2, 3, 4, 5, 11, 12] (fun vs M => ∃ (k : Nat) (B : Nat → Nat → V), k ≤ l.length ∧ vs = [.ptr 0 0 0 0, .ptr 1 0 0 0, .ptr 2 0 0 0, .ptr 3 0 0 0, .int l.length, .int k] ∧
      M = [some ⟨58, 3, 0, .one [.ints false l, .int long, .int T]⟩, some ⟨73, 12, 0, .cv 1 fun _ k => .int (s k)⟩, some ⟨73, 12, 0, .cv 1 B⟩, some ⟨73, 12, 0, .cv 1 (tabB s (rsT l long T s) k)⟩])
    (fun vs _ => l.length - (vs.getD 5 .any).toInt.toNat) ?_ ?_
  · refine ⟨0, fun _ k => constV (((cx 32).T.row 73).zero.getD k undef), Nat.zero_le _, rfl, ?_⟩
    exact congrArg (fun f => [some (⟨58, 3, 0, .one [.ints false l, .int long, .int T]⟩ : Ob), some ⟨73, 12, 0, .cv 1 fun _ k => .int (s k)⟩, some ⟨73, 12, 0, .cv 1 fun _ k => constV (((cx 32).T.row 73).zero.getD k undef)⟩, some ⟨73, 12, 0, .cv 1 f⟩]) (tabB_0 s _)
  rintro vs M ⟨k, B, hk, rfl, rfl⟩
  ((conv => whnf); repeat (refine stepK_in ?_; (repeat (first | refine seqQ_n ?_ | refine blockQ_n ?_ | refine awp_skip ?_ | refine awp_seq ?_ | refine awp_block ?_)); (conv => whnf)))
  refine br_dec (fun hlt => ?_) (fun hge => ?_)
  · have hk' : k < l.length := by omega
    have c1 := before_pure l long T ((k : Int) - 1) s h1 h2 (by omega) hs hT
    have c2 := needed_pure l long T k s h1 h2 hl1 hl2 hl (by omega) hs hT
    have e : rsT l long T s k = maxI (maxI (s k) (befT l.length T s ((k : Int) - 1))) (ndT l long T s k) := by unfold rsT; rw [if_pos hk']
    ((conv => whnf); repeat (refine stepK_in ?_; (repeat (first | refine seqQ_n ?_ | refine blockQ_n ?_ | refine awp_skip ?_ | refine awp_seq ?_ | refine awp_block ?_)); (conv => whnf)))
    refine AW_draw (X := cx 32) (cx_ok 32) mixed (by kernel_rfl) ?_
    ((conv => whnf); repeat (refine stepK_in ?_; (repeat (first | refine seqQ_n ?_ | refine blockQ_n ?_ | refine awp_skip ?_ | refine awp_seq ?_ | refine awp_block ?_)); (conv => whnf)))
    refine ⟨by omega, ?_⟩
    refine ⟨(show (k : Int) < 12 by omega), ?_⟩
    ((conv => whnf); repeat (refine stepK_in ?_; (repeat (first | refine seqQ_n ?_ | refine blockQ_n ?_ | refine awp_skip ?_ | refine awp_seq ?_ | refine awp_block ?_)); (conv => whnf)))
    refine ldk (ver := 0) (o := 0 + (k : Int).toNat * 1) (sz := 12) (by omega) ?_
    ((conv => whnf); repeat (refine stepK_in ?_; (repeat (first | refine seqQ_n ?_ | refine blockQ_n ?_ | refine awp_skip ?_ | refine awp_seq ?_ | refine awp_block ?_)); (conv => whnf)))
    refine ⟨inr (by omega), ?_⟩
    ((conv => whnf); repeat (refine stepK_in ?_; (repeat (first | refine seqQ_n ?_ | refine blockQ_n ?_ | refine awp_skip ?_ | refine awp_seq ?_ | refine awp_block ?_)); (conv => whnf)))
    refine ⟨_, APure.arg3 (subTr rfl rfl rfl) (subTb fun k hk => (show V.int (s (0 + k)) = V.int (s k) by rw [Nat.zero_add])) (Sub.refl _) c1, ?_⟩
    ((conv => whnf); repeat (refine stepK_in ?_; (repeat (first | refine seqQ_n ?_ | refine blockQ_n ?_ | refine awp_skip ?_ | refine awp_seq ?_ | refine awp_block ?_)); (conv => whnf)))
    refine ⟨_, APure.arg3 (subTr rfl rfl rfl) (subTb fun k hk => (show V.int (s (0 + k)) = V.int (s k) by rw [Nat.zero_add])) (Sub.refl _) c2, ?_⟩
    ((conv => whnf); repeat (refine stepK_in ?_; (repeat (first | refine seqQ_n ?_ | refine blockQ_n ?_ | refine awp_skip ?_ | refine awp_seq ?_ | refine awp_block ?_)); (conv => whnf)))
    refine ⟨by omega, ?_⟩
    refine ⟨(show (k : Int) < 12 by omega), ?_⟩
    ((conv => whnf); repeat (refine stepK_in ?_; (repeat (first | refine seqQ_n ?_ | refine blockQ_n ?_ | refine awp_skip ?_ | refine awp_seq ?_ | refine awp_block ?_)); (conv => whnf)))
    refine ldk (ver := 0) (o := 0 + (k : Int).toNat * 1) (sz := 12) (by omega) ?_
    ((conv => whnf); repeat (refine stepK_in ?_; (repeat (first | refine seqQ_n ?_ | refine blockQ_n ?_ | refine awp_skip ?_ | refine awp_seq ?_ | refine awp_block ?_)); (conv => whnf)))
    refine ⟨inr (by omega), ?_⟩
    ((conv => whnf); repeat (refine stepK_in ?_; (repeat (first | refine seqQ_n ?_ | refine blockQ_n ?_ | refine awp_skip ?_ | refine awp_seq ?_ | refine awp_block ?_)); (conv => whnf)))
    refine ⟨⟨k + 1, B, by omega, rfl, ?_⟩, ?_⟩
    · exact congrArg (fun f => [some (⟨58, 3, 0, .one [.ints false l, .int long, .int T]⟩ : Ob), some ⟨73, 12, 0, .cv 1 fun _ k => .int (s k)⟩, some ⟨73, 12, 0, .cv 1 B⟩, some ⟨73, 12, 0, .cv 1 f⟩]) (tabB_set (s := s) (r := rsT l long T s) (k := k) (v := maxI (maxI (s (0 + (k : Int).toNat * 1)) (befT l.length T s ((k : Int) - 1))) (ndT l long T s k)) (by rw [e, Int.toNat_natCast, Nat.mul_one, Nat.zero_add]))
    · simp [V.toInt, sel, Env.get]; omega
  · obtain rfl : k = l.length := by omega
    ((conv => whnf); repeat (refine stepK_in ?_; (repeat (first | refine seqQ_n ?_ | refine blockQ_n ?_ | refine awp_skip ?_ | refine awp_seq ?_ | refine awp_block ?_)); (conv => whnf)))
    refine ⟨fun _ _ => trivial, congrArg (V.agg 12) (funext fun q => ?_)⟩
    show V.int (if 0 = 0 ∧ 0 + (0 + q) < l.length then rsT l long T s (0 + (0 + q)) else s (0 + (0 + q))) = V.int (rsT l long T s q)
    rw [Nat.zero_add, Nat.zero_add]
    unfold rsT
    by_cases hq : q < l.length
    · rw [if_pos ⟨rfl, hq⟩]
    · rw [if_neg (fun h => hq h.2), if_neg hq]
end Go.Tri
