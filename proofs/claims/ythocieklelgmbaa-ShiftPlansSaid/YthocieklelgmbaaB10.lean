/-
  CONTRACTS: Least and Share; plan, Plan and With of the program.
-/
import Derived.Test.YthocieklelgmbaaB9
import Derived.Test.YthocieklelgmbaaA32
namespace Go.Tri
open Go.Proofs

theorem ltk {o sz : Nat} {K : Prop} (h : o < sz) (k : K) : (ltO o sz).req K := (Obl.req_iff _ _).2 ⟨ltO_holds.2 h, k⟩
theorem stT_bd {l : List Int} {long T : Int} (h1 : 1 ≤ l.length) (h2 : l.length ≤ 12) (hl : bet 0 1000 l l.length) (hT : 0 ≤ T) (q : Nat) : 0 ≤ stT l long T q ∧ stT l long T q ≤ 13000 := by
  unfold stT rdF
  split
  · have := rdT_bd (long := long) h1 hl hT ((12 * l.length + q) / 12) ((12 * l.length + q) % 12)
    omega
  · omega
/-- The plan while it is made: the first k hours are right. -/
def plL (n : Nat) (T : Int) (s : Nat → Int) (k : Nat) : List Int := (List.range n).map fun q => if q < k then plP n T s q else if q + 1 < n then s (q + 1) else T
theorem plL_len (n : Nat) (T : Int) (s : Nat → Int) (k : Nat) : (plL n T s k).length = n := by simp [plL]
theorem plL_get {n : Nat} {T : Int} {s : Nat → Int} {k q : Nat} (hq : q < n) : (plL n T s k).getD q 0 = if q < k then plP n T s q else if q + 1 < n then s (q + 1) else T := by
  simp [plL, List.getD, hq]
theorem getD_set' (l : List Int) (k q : Nat) (v : Int) (hk : k < l.length) : (l.set k v).getD q 0 = if q = k then v else l.getD q 0 := by
  rw [List.getD, List.getElem?_set]
  by_cases h : k = q
  · subst h; rw [if_pos rfl, if_pos hk, if_pos rfl]; rfl
  · rw [if_neg h, if_neg (fun e => h e.symm)]; rfl
theorem plL_set {n : Nat} {T : Int} {s : Nat → Int} {k : Nat} (hk : k < n) : (plL n T s k).set k ((plL n T s k).getD k 0 - s k) = plL n T s (k + 1) := by
  refine ext_getD (by rw [List.length_set, plL_len, plL_len]) (fun q hq => ?_)
  rw [List.length_set, plL_len] at hq
  rw [getD_set' _ _ _ _ (by rw [plL_len]; exact hk), plL_get hq, plL_get hk, plL_get hq]
  by_cases h : q = k
  · subst h
    rw [if_pos rfl, if_neg (show ¬ q < q by omega), if_pos (show q < q + 1 by omega)]
    unfold plP
    split <;> rfl
  · rw [if_neg h]
    by_cases h2 : q < k
    · rw [if_pos h2, if_pos (show q < k + 1 by omega)]
    · rw [if_neg h2, if_neg (show ¬ q < k + 1 by omega)]
theorem plL_0 {n : Nat} {T : Int} {s : Nat → Int} (hn : 1 ≤ n) {ys : List Int} (hy : ys = (List.range (n - 1)).map fun j => s (1 + j)) :
    (((List.replicate n (0 : Int)).take 0 ++ ys.take n ++ (List.replicate n (0 : Int)).drop (0 + (ys.take n).length))).set (n - 1) T = plL n T s 0 := by
  have hyl : ys.length = n - 1 := by rw [hy]; simp
  have ht : ys.take n = ys := List.take_of_length_le (by omega)
  rw [ht, List.take_zero, List.nil_append, Nat.zero_add, hyl, List.drop_replicate]
  have hlen : (ys ++ List.replicate (n - (n - 1)) (0 : Int)).length = n := by simp; omega
  refine ext_getD (by rw [List.length_set, hlen, plL_len]) (fun q hq => ?_)
  rw [List.length_set, hlen] at hq
  rw [getD_set' _ _ _ _ (by rw [hlen]; omega), plL_get hq, if_neg (show ¬ q < 0 by omega)]
  by_cases h : q = n - 1
  · rw [if_pos h, if_neg (show ¬ q + 1 < n by omega)]
  · rw [if_neg h, if_pos (show q + 1 < n by omega), List.getD, List.getElem?_append_left (by omega), hy]
    simp [show q < n - 1 by omega, Nat.add_comm]

set_option maxRecDepth 100000 in
theorem plan_pure (l : List Int) (long : Nat) (T : Int) (h1 : 1 ≤ l.length) (h2 : l.length ≤ 12) (hl1 : 1 ≤ long) (hl2 : long ≤ l.length) (hl : bet 0 1000 l l.length) (hT : 0 ≤ T ∧ T ≤ 1000000) :
    APure Try.prog 47 [trialV l long T] (fun R => R = if okT l long T = true then tup2 (.ints true (plL l.length T (stT l long T) l.length)) (.bool true) else tup2 (.ints true []) (.bool false)) := by
  have hst := settled_pure l long T h1 h2 hl1 hl2 hl hT
  have hsb := stT_bd (long := long) h1 h2 hl hT.1
  generalize stT l long T = s at *
  refine APure_ofW (X := cx 48) (cx_ok 48) rfl (rs := [(.tmp 2, 22), (.tmp 3, 4)]) Try.func47 (by decide) rfl rfl rfl (by simp [cx]) (nofr1 nofrTr) ?_
  intro _
  refine AW_seqW (X := cx 48) (cx_ok 48) ?_
  ((conv => whnf); repeat (refine stepK_in ?_; (repeat (first | refine seqQ_n ?_ | refine blockQ_n ?_ | refine awp_skip ?_ | refine awp_seq ?_ | refine awp_block ?_)); (conv => whnf)))
  refine AW_seqW (X := cx 48) (cx_ok 48) ?_
  ((conv => whnf); repeat (refine stepK_in ?_; (repeat (first | refine seqQ_n ?_ | refine blockQ_n ?_ | refine awp_skip ?_ | refine awp_seq ?_ | refine awp_block ?_)); (conv => whnf)))
  refine APure.to (APure.arg1 (subTr rfl rfl rfl) hst) ?_
  ((conv => whnf); repeat (refine stepK_in ?_; (repeat (first | refine seqQ_n ?_ | refine blockQ_n ?_ | refine awp_skip ?_ | refine awp_seq ?_ | refine awp_block ?_)); (conv => whnf)))
  refine AW_freezeL (t := 1) (ver := 0) (s := 12) (f := fun _ k => V.int (s k)) (E := 73) [1, 4, 5] [.ptr 0 0 0 0, .at_ 12 (fun k => .int (s k)) 0, .bool (okT l long T)] rfl (fun k _ => ⟨_, rfl⟩) ⟨FzP.refl _, .inr ⟨0, rfl, rfl⟩, FzP.refl _, trivial⟩ ?_
  refine AW_of_awp (X := cx 48) (cx_ok 48) ?_
  by_cases hok : okT l long T = true
  · rw [if_pos hok, hok]
    ((conv => whnf); repeat (refine stepK_in ?_; (repeat (first | refine seqQ_n ?_ | refine blockQ_n ?_ | refine awp_skip ?_ | refine awp_seq ?_ | refine awp_block ?_)); (conv => whnf)))
    repeat ((first | refine ⟨by omega, ?_⟩ | refine ⟨inr (by omega), ?_⟩ | refine eqn_self ?_); ((conv => whnf); repeat (refine stepK_in ?_; (repeat (first | refine seqQ_n ?_ | refine blockQ_n ?_ | refine awp_skip ?_ | refine awp_seq ?_ | refine awp_block ?_)); (conv => whnf))))
    refine ⟨(show (8 : Int) * (l.length : Int) ≤ 140737488355328 by omega), ?_⟩
    rw [Int.toNat_natCast]
    ((conv => whnf); repeat (refine stepK_in ?_; (repeat (first | refine seqQ_n ?_ | refine blockQ_n ?_ | refine awp_skip ?_ | refine awp_seq ?_ | refine awp_block ?_)); (conv => whnf)))
    refine ⟨(show (0 : Int) ≤ 1 by omega), ?_⟩
    refine ⟨(show (1 : Int) ≤ (l.length : Int) by omega), ?_⟩
    refine ⟨(show (l.length : Int) ≤ 12 by omega), ?_⟩
    ((conv => whnf); repeat (refine stepK_in ?_; (repeat (first | refine seqQ_n ?_ | refine blockQ_n ?_ | refine awp_skip ?_ | refine awp_seq ?_ | refine awp_block ?_)); (conv => whnf)))
    refine ⟨(show (0 : Int) < (l.length : Int) by omega), ?_⟩
    ((conv => whnf); repeat (refine stepK_in ?_; (repeat (first | refine seqQ_n ?_ | refine blockQ_n ?_ | refine awp_skip ?_ | refine awp_seq ?_ | refine awp_block ?_)); (conv => whnf)))
    repeat ((first | refine ⟨by omega, ?_⟩ | refine ⟨inr (by omega), ?_⟩ | refine eqn_self ?_ | refine ldk (by omega) ?_); ((conv => whnf); repeat (refine stepK_in ?_; (repeat (first | refine seqQ_n ?_ | refine blockQ_n ?_ | refine awp_skip ?_ | refine awp_seq ?_ | refine awp_block ?_)); (conv => whnf))))
    refine AW_loop (X := cx 48) (cx_ok 48) [4, 7, 33, 34] (fun vs M => ∃ k : Nat, k ≤ l.length ∧ vs = [.at_ 12 (fun k => .int (s k)) 0, .sl 2 0 0 l.length, .int l.length, .int k] ∧
        ∃ o0 o1, M = [o0, o1, some ⟨3, 1, 0, .il (plL l.length T s k)⟩])
      (fun vs _ => l.length - (vs.getD 3 .any).toInt.toNat) ?_ ?_
    · have hz : ∀ (ys : List Int) (i : Nat), ys = (List.range (l.length - 1)).map (fun j => s (1 + j)) → i = l.length - 1 → ((List.replicate l.length (0 : Int)).take 0 ++ ys.take l.length ++ (List.replicate l.length (0 : Int)).drop (0 + (ys.take l.length).length)).set i T = plL l.length T s 0 := fun ys i h1' h2' => by
        rw [h2']
        exact plL_0 h1 h1'
      exact ⟨0, Nat.zero_le _, rfl, some ⟨58, 3, 0, .one [.ints false l, .int long, .int T]⟩, some ⟨73, 12, 1, .cv 0 fun _ k => .int (s k)⟩, congrArg (fun f => [some (⟨58, 3, 0, .one [.ints false l, .int long, .int T]⟩ : Ob), some ⟨73, 12, 1, .cv 0 fun _ k => .int (s k)⟩, some ⟨3, 1, 0, .il f⟩])
        (hz ((List.range ((l.length : Int).toNat - (1 : Int).toNat)).map fun j => s ((1 : Int).toNat + j)) (0 + ((l.length : Int) - 1).toNat) (by rw [Int.toNat_natCast]; rfl) (by omega))⟩
    rintro vs M ⟨k, hk, rfl, o0, o1, rfl⟩
    ((conv => whnf); repeat (refine stepK_in ?_; (repeat (first | refine seqQ_n ?_ | refine blockQ_n ?_ | refine awp_skip ?_ | refine awp_seq ?_ | refine awp_block ?_)); (conv => whnf)))
    refine br_dec (fun hlt => ?_) (fun hge => ?_)
    · have hk' : k < l.length := by omega
      have hpl := plL_len l.length T s k
      have hgv : (plL l.length T s k).getD k 0 = if k + 1 < l.length then s (k + 1) else T := by rw [plL_get hk', if_neg (show ¬ k < k by omega)]
      have hgb : 0 ≤ (plL l.length T s k).getD k 0 ∧ (plL l.length T s k).getD k 0 ≤ 1000000 := by
        rw [hgv]
        have := hsb (k + 1)
        split <;> omega
      have hset := plL_set (n := l.length) (T := T) (s := s) hk'
      have hsk := hsb k
      generalize plL l.length T s k = S at *
      ((conv => whnf); repeat (refine stepK_in ?_; (repeat (first | refine seqQ_n ?_ | refine blockQ_n ?_ | refine awp_skip ?_ | refine awp_seq ?_ | refine awp_block ?_)); (conv => whnf)))
      refine AW_draw (X := cx 48) (cx_ok 48) mixed (by kernel_rfl) ?_
      ((conv => whnf); repeat (refine stepK_in ?_; (repeat (first | refine seqQ_n ?_ | refine blockQ_n ?_ | refine awp_skip ?_ | refine awp_seq ?_ | refine awp_block ?_)); (conv => whnf)))
      repeat ((first | refine ⟨by omega, ?_⟩ | refine ⟨inr (by omega), ?_⟩ | refine eqn_self ?_ | refine ldk (by omega) ?_); ((conv => whnf); repeat (refine stepK_in ?_; (repeat (first | refine seqQ_n ?_ | refine blockQ_n ?_ | refine awp_skip ?_ | refine awp_seq ?_ | refine awp_block ?_)); (conv => whnf))))
      refine ltk (o := 0 + (k : Int).toNat * 1) (sz := 12) (by omega) ?_
      ((conv => whnf); repeat (refine stepK_in ?_; (repeat (first | refine seqQ_n ?_ | refine blockQ_n ?_ | refine awp_skip ?_ | refine awp_seq ?_ | refine awp_block ?_)); (conv => whnf)))
      refine ⟨inr (show -9223372036854775808 ≤ S.getD (0 + (k : Int).toNat) 0 - s (0 + (k : Int).toNat * 1) ∧ S.getD (0 + (k : Int).toNat) 0 - s (0 + (k : Int).toNat * 1) ≤ 9223372036854775807 by rw [Int.toNat_natCast, Nat.zero_add, Nat.mul_one, Nat.zero_add]; omega), ?_⟩
      ((conv => whnf); repeat (refine stepK_in ?_; (repeat (first | refine seqQ_n ?_ | refine blockQ_n ?_ | refine awp_skip ?_ | refine awp_seq ?_ | refine awp_block ?_)); (conv => whnf)))
      repeat ((first | refine ⟨by omega, ?_⟩ | refine ⟨inr (by omega), ?_⟩ | refine eqn_self ?_ | refine ldk (by omega) ?_); ((conv => whnf); repeat (refine stepK_in ?_; (repeat (first | refine seqQ_n ?_ | refine blockQ_n ?_ | refine awp_skip ?_ | refine awp_seq ?_ | refine awp_block ?_)); (conv => whnf))))
      refine ⟨⟨k + 1, by omega, rfl, o0, o1, ?_⟩, ?_⟩
      · rw [← hset]
        exact congrArg (fun f => [o0, o1, some (⟨3, 1, 0, .il f⟩ : Ob)]) (show S.set (0 + (k : Int).toNat) (S.getD (0 + (k : Int).toNat) 0 - s (0 + (k : Int).toNat * 1)) = S.set k (S.getD k 0 - s k) by rw [Int.toNat_natCast, Nat.zero_add, Nat.mul_one, Nat.zero_add])
      · simp [V.toInt, sel, Env.get]; omega
    · obtain rfl : k = l.length := by omega
      have hpl := plL_len l.length T s l.length
      ((conv => whnf); repeat (refine stepK_in ?_; (repeat (first | refine seqQ_n ?_ | refine blockQ_n ?_ | refine awp_skip ?_ | refine awp_seq ?_ | refine awp_block ?_)); (conv => whnf)))
      refine ⟨rfl, trivial, Q2 (Ql ?_) rfl⟩
      rw [List.drop_zero, List.take_of_length_le (by omega)]
  · rw [if_neg hok, show okT l long T = false by simpa using hok]
    ((conv => whnf); repeat (refine stepK_in ?_; (repeat (first | refine seqQ_n ?_ | refine blockQ_n ?_ | refine awp_skip ?_ | refine awp_seq ?_ | refine awp_block ?_)); (conv => whnf)))
    exact ⟨rfl, trivial, rfl⟩
end Go.Tri
