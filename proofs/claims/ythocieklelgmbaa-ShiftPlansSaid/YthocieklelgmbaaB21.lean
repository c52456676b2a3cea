/-
  CONTRACTS: first of the reference.
-/
import Derived.Test.YthocieklelgmbaaB20
import Derived.Test.YthocieklelgmbaaA33
namespace Go.Tri
open Go.Proofs

theorem plnL_fst {l : List Int} {long : Nat} {T : Int} {p : Nat → Int} (hn : Nds l) (hl1 : 1 ≤ long) (hl : long ≤ l.length) (hT : 0 ≤ T) (h : okT l long T = true) (hp : IsFea l long T p) {k : Nat} (hk : k < l.length) (he : ∀ i, i < k → (plnL l long T).getD i 0 = p i) : (plnL l long T).getD k 0 ≤ p k := by
  have n12 := hn.2.1
  have h0 := settled_zero hn.1 hn.2.1 hl1 hl hn.wide hT h
  have hb := rdT_below (T := T) (s := sig p) hl1 hl (fun q hq => sm_nn fun i hi => hp.nn i (by omega)) (sig_meets hn.1 hl hp)
  have hg : ∀ q, q < l.length → (plnL l long T).getD q 0 = plP l.length T (rdT l long T l.length) q := fun q hq => by
    rw [plnL_get hq]
    exact plP_congr (fun q hq => stT_val (by omega)) hq
  generalize hs : rdT l long T l.length = s at *
  have tel : ∀ k, k < l.length → sm k (plP l.length T s) = s k := by
    intro k
    induction k with
    | zero => intro _; exact h0.symm
    | succ k ih =>
      intro hk
      simp only [sm]
      rw [ih (by omega)]
      unfold plP
      rw [if_pos hk]
      omega
  have e1 : sm k p = s k := by
    rw [← tel k hk]
    exact sm_congr fun i hi => by rw [← he i hi, hg i (by omega)]
  rw [hg k hk]
  unfold plP
  split
  · next h1 =>
    have := hb l.length (k + 1) h1
    rw [hs] at this
    unfold sig at this
    simp only [sm] at this
    omega
  · have hkn : l.length = k + 1 := by omega
    have := hp.size
    rw [hkn] at this
    simp only [sm] at this
    omega

/-- Each number is found as the least that can be completed. -/
theorem first_can {l : List Int} {long : Nat} {T : Int} (hn : Nds l) (hl1 : 1 ≤ long) (hl : long ≤ l.length) (hT : 0 ≤ T ∧ T ≤ 600) (h : okT l long T = true) {k : Nat} (hk : k < l.length) {x : Int} (hx : 0 ≤ x ∧ x ≤ (plnL l long T).getD k 0) :
    APure Try.prog 50 [.ints false l, .int 1, .int long, .int T, .ints false ((plnL l long T).take k ++ [x])] (fun R => R = .bool (decide (x = (plnL l long T).getD k 0))) := by
  have hpl := plnL_pl hn hl1 hl hT h
  have hfe := plnL_fea hn hl1 hl hT.1 h
  have hfst := fun (q : Nat → Int) (hq : IsFea l long T q) (he : ∀ i, i < k → (plnL l long T).getD i 0 = q i) => plnL_fst hn hl1 hl hT.1 h hq hk he
  generalize plnL l long T = P at *
  obtain ⟨hPl, hPb⟩ := hpl
  have hlen : (P.take k ++ [x]).length = k + 1 := by simp; omega
  have hget : ∀ i, i < k → (P.take k ++ [x]).getD i 0 = P.getD i 0 := fun i hi => by
    simp only [List.getD]
    rw [List.getElem?_append_left (by rw [List.length_take]; omega), List.getElem?_take_of_lt hi]
  have hlast : (P.take k ++ [x]).getD k 0 = x := by
    simp only [List.getD]
    rw [List.getElem?_append_right (by rw [List.length_take]; omega), List.length_take, Nat.min_eq_left (by omega), Nat.sub_self]
    rfl
  have hB : bet 0 10000 (P.take k ++ [x]) (P.take k ++ [x]).length := fun i hi => by
    rw [hlen] at hi
    rcases (by omega : i < k ∨ i = k) with g | rfl
    · rw [hget i g]
      have := hPb i (by omega)
      omega
    · rw [hlast]
      have := hPb i (by omega)
      omega
  have ht : bet 0 10000 (mul l 1) l.length := by rw [mul_id]; exact fun q hq => by have := hn.2.2 q hq; omega
  have h1 := can_pure l 1 long T (P.take k ++ [x]) hn.1 hn.2.1 hl1 hl ht (by omega) hB
  have e : canR l 1 long T (P.take k ++ [x]) = decide (x = P.getD k 0) := by
    rw [Bool.eq_iff_iff, canR_iff hn.1 hl1 hl ht (by omega) hB, decide_eq_true_iff, mul_id]
    constructor
    · rintro ⟨q, hq, hqB⟩
      have e1 := hfst q hq (fun i hi => by rw [hqB i (by omega) (by omega), hget i hi])
      have e2 := hqB k (by omega) hk
      rw [hlast] at e2
      omega
    · intro hxe
      refine ⟨_, hfe, fun i hi hin => ?_⟩
      rw [hlen] at hi
      rcases (by omega : i < k ∨ i = k) with g | rfl
      · rw [hget i g]
      · rw [hlast, hxe]
  rw [e] at h1
  exact h1

def OutR (P : List Int) (k : Nat) (o : V) (M : Mem) : Prop := (k = 0 ∧ o = .emp true ∧ M = []) ∨ (1 ≤ k ∧ ∃ ver, o = .sl 2 ver 0 k ∧ M = [none, none, some ⟨3, 1, ver, .il (P.take k)⟩])
set_option maxRecDepth 100000 in
theorem first_pure {l : List Int} {long : Nat} {T : Int} (hn : Nds l) (hl1 : 1 ≤ long) (hl : long ≤ l.length) (hT : 0 ≤ T ∧ T ≤ 600) (h : okT l long T = true) :
    APure Try.prog 48 [.ints false l, .int long, .int T] (fun R => R = .ints true (plnL l long T)) := by
  refine APure_of (X := cx 35) (cx_ok 35) rfl (rs := [(.tmp 6, 22)]) Try.func48 (by decide) rfl rfl rfl (by simp [cx]) (by simp [NoFr]) ?_
  intro hlen
  have hc := fun (k : Nat) (hk : k < l.length) (x : Int) (h0 : 0 ≤ x) (h1 : x ≤ (plnL l long T).getD k 0) => first_can hn hl1 hl hT h hk ⟨h0, h1⟩
  have hpl := plnL_pl hn hl1 hl hT h
  generalize plnL l long T = P at *
  obtain ⟨hPl, hPb⟩ := hpl
  have n12 := hn.2.1
  ((conv => whnf); repeat (refine stepK_in ?_; (repeat (first | refine seqQ_n ?_ | refine blockQ_n ?_ | refine awp_skip ?_ | refine awp_seq ?_ | refine awp_block ?_)); (conv => whnf)))
  refine AW_loopA (X := cx 35) (cx_ok 35) [0, 1, 2, 7] (fun t => Nat.beq t 2) (fun vs M => ∃ (k : Nat) (o : V), k ≤ l.length ∧ OutR P k o M ∧ vs = [.ints false l, .int long, .int T, o])
    (fun vs M => l.length - (match vs.getD 3 .any with | .sl _ _ _ n => n | _ => 0)) (fun t ht => absurd ht (by simp)) ?_ ?_
  · exact same0 ⟨0, .emp true, Nat.zero_le _, .inl ⟨rfl, rfl, rfl⟩, rfl⟩
  rintro vs M ⟨k, o, hk, hO, rfl⟩
  rcases hO with ⟨rfl, rfl, rfl⟩ | ⟨hk1, ver, rfl, rfl⟩
  · have hlt : 0 < l.length := hn.1
    ((conv => whnf); repeat (refine stepK_in ?_; (repeat (first | refine seqQ_n ?_ | refine blockQ_n ?_ | refine awp_skip ?_ | refine awp_seq ?_ | refine awp_block ?_)); (conv => whnf)))
    rw [decide_eq_true (show (0 : Int) < (l.length : Int) by omega)]
    ((conv => whnf); repeat (refine stepK_in ?_; (repeat (first | refine seqQ_n ?_ | refine blockQ_n ?_ | refine awp_skip ?_ | refine awp_seq ?_ | refine awp_block ?_)); (conv => whnf)))
    refine AW_loopAW (X := cx 35) (cx_ok 35) [0, 1, 2, 7, 8] (fun _ => false) (fun vs M => ∃ x : Int, 0 ≤ x ∧ x ≤ P.getD 0 0 ∧ vs = [.ints false l, .int long, .int T, .emp true, .int x] ∧ M = [])
      (fun vs _ => (P.getD 0 0 - (vs.getD 4 .any).toInt).toNat) (fun t ht => absurd ht (by simp)) ?_ ?_
    · exact same0 ⟨0, Int.le_refl _, (hPb 0 (by omega)).1, rfl, rfl⟩
    rintro vs M ⟨x, hx0, hx1, rfl, rfl⟩
    have hcx := hc 0 hlt x hx0 hx1
    have hP0 := hPb 0 (by omega)
    refine AW_seq ?_
    refine AW_seq ?_
    refine AW_regionO ?_
    refine AWo_take (X := cx 35) (cx_ok 35) 8 rfl rfl rfl ?_
    ((conv => whnf); repeat (refine stepK_in ?_; (repeat (first | refine seqQ_n ?_ | refine blockQ_n ?_ | refine awp_skip ?_ | refine awp_seq ?_ | refine awp_block ?_)); (conv => whnf)))
    refine AWo_s3e (X := cx 35) (cx_ok 35) rfl rfl rfl rfl (by decide) rfl rfl rfl rfl rfl ?_
    refine AWo_take (X := cx 35) (cx_ok 35) 5 rfl rfl rfl ?_
    ((conv => whnf); repeat (refine stepK_in ?_; (repeat (first | refine seqQ_n ?_ | refine blockQ_n ?_ | refine awp_skip ?_ | refine awp_seq ?_ | refine awp_block ?_)); (conv => whnf)))
    refine ⟨(show (0 : Int) < ((1 : Nat) : Int) by decide), ?_⟩
    refine ⟨(show (8 : Int) * (((0 : Nat) : Int) + ((1 : Nat) : Int)) ≤ 140737488355328 by decide), ?_⟩
    ((conv => whnf); repeat (refine stepK_in ?_; (repeat (first | refine seqQ_n ?_ | refine blockQ_n ?_ | refine awp_skip ?_ | refine awp_seq ?_ | refine awp_block ?_)); (conv => whnf)))
    refine APure.to hcx ?_
    ((conv => whnf); repeat (refine stepK_in ?_; (repeat (first | refine seqQ_n ?_ | refine blockQ_n ?_ | refine awp_skip ?_ | refine awp_seq ?_ | refine awp_block ?_)); (conv => whnf)))
    refine AWo_fin rfl ?_
    show AW _ _ _ _ _ _ _ _
    refine AW_of_awp (X := cx 35) (cx_ok 35) ?_
    by_cases hxe : x = P.getD 0 0
    · rw [decide_eq_true hxe]
      ((conv => whnf); repeat (refine stepK_in ?_; (repeat (first | refine seqQ_n ?_ | refine blockQ_n ?_ | refine awp_skip ?_ | refine awp_seq ?_ | refine awp_block ?_)); (conv => whnf)))
      refine ⟨(show (8 : Int) * ((1 : Nat) : Int) ≤ 140737488355328 by decide), ?_⟩
      ((conv => whnf); repeat (refine stepK_in ?_; (repeat (first | refine seqQ_n ?_ | refine blockQ_n ?_ | refine awp_skip ?_ | refine awp_seq ?_ | refine awp_block ?_)); (conv => whnf)))
      refine ⟨by repeat (first | exact trivial | exact rfl | exact fun _ => trivial | exact fun _ _ => trivial | exact fun _ _ _ => trivial | exact fun _ _ _ _ => trivial | refine And.intro ?_ ?_), memA1 [none, none, some ⟨3, 1, 0, .il (P.take 1)⟩] ⟨ObSub.ii ?_, trivial⟩ ⟨⟨1, _, by omega, .inr ⟨Nat.le_refl _, 0, rfl, rfl⟩, rfl⟩, ?_⟩⟩
      · have h1 : P.take 1 = [x] := by rw [show 1 = 0 + 1 from rfl, take_succ_getD P 0 (by omega), hxe]; rfl
        exact h1.symm
      · show l.length - 1 < l.length - 0
        omega
    · rw [decide_eq_false hxe]
      ((conv => whnf); repeat (refine stepK_in ?_; (repeat (first | refine seqQ_n ?_ | refine blockQ_n ?_ | refine awp_skip ?_ | refine awp_seq ?_ | refine awp_block ?_)); (conv => whnf)))
      refine AW_of_awp (X := cx 35) (cx_ok 35) ?_
      ((conv => whnf); repeat (refine stepK_in ?_; (repeat (first | refine seqQ_n ?_ | refine blockQ_n ?_ | refine awp_skip ?_ | refine awp_seq ?_ | refine awp_block ?_)); (conv => whnf)))
      refine ⟨inr (by omega), ?_⟩
      ((conv => whnf); repeat (refine stepK_in ?_; (repeat (first | refine seqQ_n ?_ | refine blockQ_n ?_ | refine awp_skip ?_ | refine awp_seq ?_ | refine awp_block ?_)); (conv => whnf)))
      refine ⟨by repeat (first | exact trivial | exact rfl | exact fun _ => trivial | exact fun _ _ => trivial | exact fun _ _ _ => trivial | exact fun _ _ _ _ => trivial | refine And.intro ?_ ?_), memA1 [] trivial ⟨⟨x + 1, by omega, by omega, rfl, rfl⟩, ?_⟩⟩
      show (P.getD 0 0 - (x + 1)).toNat < (P.getD 0 0 - x).toNat
      omega
  · have hPk : (P.take k).length = k := by rw [List.length_take]; omega
    have hPt : (P.take k).take k = P.take k := List.take_of_length_le (by omega)
    ((conv => whnf); repeat (refine stepK_in ?_; (repeat (first | refine seqQ_n ?_ | refine blockQ_n ?_ | refine awp_skip ?_ | refine awp_seq ?_ | refine awp_block ?_)); (conv => whnf)))
    refine eqn_self ?_
    ((conv => whnf); repeat (refine stepK_in ?_; (repeat (first | refine seqQ_n ?_ | refine blockQ_n ?_ | refine awp_skip ?_ | refine awp_seq ?_ | refine awp_block ?_)); (conv => whnf)))
    refine br_dec (fun hlt => ?_) (fun hge => ?_)
    · have hlt : k < l.length := by omega
      ((conv => whnf); repeat (refine stepK_in ?_; (repeat (first | refine seqQ_n ?_ | refine blockQ_n ?_ | refine awp_skip ?_ | refine awp_seq ?_ | refine awp_block ?_)); (conv => whnf)))
      refine AW_loopAW (X := cx 35) (cx_ok 35) [0, 1, 2, 7, 8] (fun t => Nat.blt t 3) (fun vs M => ∃ x : Int, 0 ≤ x ∧ x ≤ P.getD k 0 ∧ vs = [.ints false l, .int long, .int T, .sl 2 ver 0 k, .int x] ∧ M = [none, none, some ⟨3, 1, ver, .il (P.take k)⟩])
        (fun vs _ => (P.getD k 0 - (vs.getD 4 .any).toInt).toNat) (fun t ht => by have : t < 3 := ht; simp; omega) ?_ ?_
      · exact same0 ⟨0, Int.le_refl _, (hPb k (by omega)).1, rfl, rfl⟩
      rintro vs M ⟨x, hx0, hx1, rfl, rfl⟩
      have hcx := hc k hlt x hx0 hx1
      rw [← hPt] at hcx
      have hP0 := hPb k (by omega)
      refine AW_seq ?_
      refine AW_seq ?_
      refine AW_regionO ?_
      refine AWo_take (X := cx 35) (cx_ok 35) 8 rfl rfl rfl ?_
      ((conv => whnf); repeat (refine stepK_in ?_; (repeat (first | refine seqQ_n ?_ | refine blockQ_n ?_ | refine awp_skip ?_ | refine awp_seq ?_ | refine awp_block ?_)); (conv => whnf)))
      refine eqn_self ?_
      ((conv => whnf); repeat (refine stepK_in ?_; (repeat (first | refine seqQ_n ?_ | refine blockQ_n ?_ | refine awp_skip ?_ | refine awp_seq ?_ | refine awp_block ?_)); (conv => whnf)))
      refine eqn_self ?_
      ((conv => whnf); repeat (refine stepK_in ?_; (repeat (first | refine seqQ_n ?_ | refine blockQ_n ?_ | refine awp_skip ?_ | refine awp_seq ?_ | refine awp_block ?_)); (conv => whnf)))
      refine AWo_s3 (X := cx 35) (d := 22) (cx_ok 35) (by rfl) (by rfl) (by rfl) (by rfl) (show 22 < 35 by decide) (by rfl) (by rfl) (by rfl) (by rfl) (by rfl) (by rfl) (by rfl) ?_
      refine AWo_take (X := cx 35) (cx_ok 35) 2 rfl rfl rfl ?_
      ((conv => whnf); repeat (refine stepK_in ?_; (repeat (first | refine seqQ_n ?_ | refine blockQ_n ?_ | refine awp_skip ?_ | refine awp_seq ?_ | refine awp_block ?_)); (conv => whnf)))
      refine AWo_app3 (X := cx 35) (d2 := 25) (cx_ok 35) (by rfl) (by rfl) (by rfl) (by rfl) (by rfl) (by rfl) (by rfl) (show 25 < 35 by decide) (by rfl) (by rfl) (by rfl) (by rfl) (by rfl) (by rfl) ?_
      ((conv => whnf); repeat (refine stepK_in ?_; (repeat (first | refine seqQ_n ?_ | refine blockQ_n ?_ | refine awp_skip ?_ | refine awp_seq ?_ | refine awp_block ?_)); (conv => whnf)))
      have hPtt : ((P.take k).take k).length = k := by rw [hPt, hPk]
      refine ⟨(show (0 : Int) < ((1 : Nat) : Int) by decide), ?_⟩
      refine ⟨(show (8 : Int) * ((((P.take k).take k).length : Int) + ((1 : Nat) : Int)) ≤ 140737488355328 by omega), ?_⟩
      refine AWo_take (X := cx 35) (cx_ok 35) 2 rfl rfl rfl ?_
      ((conv => whnf); repeat (refine stepK_in ?_; (repeat (first | refine seqQ_n ?_ | refine blockQ_n ?_ | refine awp_skip ?_ | refine awp_seq ?_ | refine awp_block ?_)); (conv => whnf)))
      refine APure.to hcx ?_
      ((conv => whnf); repeat (refine stepK_in ?_; (repeat (first | refine seqQ_n ?_ | refine blockQ_n ?_ | refine awp_skip ?_ | refine awp_seq ?_ | refine awp_block ?_)); (conv => whnf)))
      refine AWo_fin rfl ?_
      show AW _ _ _ _ _ _ _ _
      refine AW_of_awp (X := cx 35) (cx_ok 35) ?_
      by_cases hxe : x = P.getD k 0
      · rw [decide_eq_true hxe]
        ((conv => whnf); repeat (refine stepK_in ?_; (repeat (first | refine seqQ_n ?_ | refine blockQ_n ?_ | refine awp_skip ?_ | refine awp_seq ?_ | refine awp_block ?_)); (conv => whnf)))
        refine eqn_self ?_
        refine ⟨(show (8 : Int) * ((k : Int) + ((1 : Nat) : Int)) ≤ 140737488355328 by omega), ?_⟩
        ((conv => whnf); repeat (refine stepK_in ?_; (repeat (first | refine seqQ_n ?_ | refine blockQ_n ?_ | refine awp_skip ?_ | refine awp_seq ?_ | refine awp_block ?_)); (conv => whnf)))
        refine ⟨by repeat (first | exact trivial | exact rfl | exact fun _ => trivial | exact fun _ _ => trivial | exact fun _ _ _ => trivial | exact fun _ _ _ _ => trivial | refine And.intro ?_ ?_), memA1 [none, none, some ⟨3, 1, ver + 1, .il (P.take (k + 1))⟩] ⟨ObSub.ii ?_, trivial⟩ ⟨⟨k + 1, _, by omega, .inr ⟨by omega, ver + 1, rfl, rfl⟩, rfl⟩, ?_⟩⟩
        · have h1 : P.take (k + 1) = (P.take k).take k ++ [x] := by rw [hPt, take_succ_getD P k (by omega), hxe]
          exact h1.symm
        · show l.length - (k + 1) < l.length - k
          omega
      · rw [decide_eq_false hxe]
        ((conv => whnf); repeat (refine stepK_in ?_; (repeat (first | refine seqQ_n ?_ | refine blockQ_n ?_ | refine awp_skip ?_ | refine awp_seq ?_ | refine awp_block ?_)); (conv => whnf)))
        refine AW_of_awp (X := cx 35) (cx_ok 35) ?_
        ((conv => whnf); repeat (refine stepK_in ?_; (repeat (first | refine seqQ_n ?_ | refine blockQ_n ?_ | refine awp_skip ?_ | refine awp_seq ?_ | refine awp_block ?_)); (conv => whnf)))
        refine ⟨inr (by omega), ?_⟩
        ((conv => whnf); repeat (refine stepK_in ?_; (repeat (first | refine seqQ_n ?_ | refine blockQ_n ?_ | refine awp_skip ?_ | refine awp_seq ?_ | refine awp_block ?_)); (conv => whnf)))
        refine ⟨by repeat (first | exact trivial | exact rfl | exact fun _ => trivial | exact fun _ _ => trivial | exact fun _ _ _ => trivial | exact fun _ _ _ _ => trivial | refine And.intro ?_ ?_), memA1 [none, none, some ⟨3, 1, ver, .il (P.take k)⟩] ⟨ObSub.refl _, trivial⟩ ⟨⟨x + 1, by omega, by omega, rfl, rfl⟩, ?_⟩⟩
        show (P.getD k 0 - (x + 1)).toNat < (P.getD k 0 - x).toNat
        omega
    · obtain rfl : k = l.length := by omega
      ((conv => whnf); repeat (refine stepK_in ?_; (repeat (first | refine seqQ_n ?_ | refine blockQ_n ?_ | refine awp_skip ?_ | refine awp_seq ?_ | refine awp_block ?_)); (conv => whnf)))
      refine eqn_self ?_
      refine ⟨rfl, Ql ?_⟩
      rw [List.take_of_length_le (l := P) (by omega)]
      simp [List.take_of_length_le, hPl]
end Go.Tri
