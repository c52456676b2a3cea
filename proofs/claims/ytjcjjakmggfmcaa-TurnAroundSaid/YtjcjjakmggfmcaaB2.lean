/-
  CONTRACTS: Merged, the program's and the reference's.
-/
import Derived.Test.YtjcjjakmggfmcaaB1
namespace Go.Tri
open Go.Proofs

@[reducible] def tup2 (a b : V) : V := .tup 2 fun k => match k with | 0 => a | _ => b
theorem Q2 {a b a' b' : V} (h : a = a') (h' : b = b') : tup2 a b = tup2 a' b' := by rw [h, h']
theorem Ql {b : Bool} {c d : List Int} (h : c = d) : V.ints b c = V.ints b d := by rw [h]

theorem set_mid (xs : List Int) {k n : Nat} (h : xs.length = k) (hk : k < n) (v : Int) : (xs ++ List.replicate (n - k) 0).set k v = (xs ++ [v]) ++ List.replicate (n - (k + 1)) 0 := by
  subst h
  rw [show n - xs.length = (n - (xs.length + 1)) + 1 from by omega, List.replicate_succ, List.set_append_right _ _ (Nat.le_refl _)]
  simp

def mergeD (a b x : Int) : Int := if x = b then a else if x > b then x - 1 else x
def mergedE (l : List Int) (a b : Int) : Int := if l.length > 400 then 3 else if (l.all fun x => decide (0 ≤ x) && decide (x < 8)) && decide (0 ≤ a) && decide (a < b) && decide (b < 8) then 0 else 2
def mergedL (l : List Int) (a b : Int) : List Int := if mergedE l a b = 0 then l.map (mergeD a b) else []

theorem Merged_pure (l : List Int) (a b : Int) : APure Try.prog 35 [.ints false l, .int a, .int b] (fun R => R = tup2 (.ints true (mergedL l a b)) (.int (mergedE l a b))) := by
  refine APure_of (X := cx 63) (cx_ok 63) rfl (rs := [(.tmp 6, 22), (.tmp 7, 27)]) Try.func35 (by decide) rfl rfl rfl (by simp [cx]) (by simp [NoFr]) ?_
  intro hlen
  have hla : (l.length : Int) ≤ 9223372036854775807 := hlen (.ints false l) (by simp)
  conv => whnf
  refine br_dec (fun h => ?_) (fun h => ?_)
  · conv => whnf
    have e : mergedE l a b = 3 := by unfold mergedE; rw [if_pos (by omega)]
    exact ⟨rfl, trivial, Q2 (Ql (by simp [mergedL, e])) (Qi (by rw [e]))⟩
  · have h4 : ¬ l.length > 400 := by omega
    conv => whnf
    refine APure.to (areDrivers_pure l 8) ?_
    conv => whnf
    refine br_not (br_mk (fun hd => ?_) (fun hd => ?_))
    · conv => whnf
      refine br_dec (fun h1 => ?_) (fun h1 => ?_)
      · conv => whnf
        have e : mergedE l a b = 2 := by unfold mergedE; rw [if_neg h4, if_neg (by simp; omega)]
        exact ⟨rfl, trivial, Q2 (Ql (by simp [mergedL, e])) (Qi (by rw [e]))⟩
      · conv => whnf
        refine br_dec (fun h2 => ?_) (fun h2 => ?_)
        · conv => whnf
          have e : mergedE l a b = 2 := by unfold mergedE; rw [if_neg h4, if_neg (by simp; omega)]
          exact ⟨rfl, trivial, Q2 (Ql (by simp [mergedL, e])) (Qi (by rw [e]))⟩
        · conv => whnf
          refine br_dec (fun h3 => ?_) (fun h3 => ?_)
          · conv => whnf
            have e : mergedE l a b = 2 := by unfold mergedE; rw [if_neg h4, if_neg (by simp; omega)]
            exact ⟨rfl, trivial, Q2 (Ql (by simp [mergedL, e])) (Qi (by rw [e]))⟩
          · have e : mergedE l a b = 0 := by unfold mergedE; rw [if_neg h4, if_pos (by rw [hd]; simp; omega)]
            have hl : ∀ x ∈ l, 0 ≤ x ∧ x < 8 := by
              intro x hx
              have := List.all_eq_true.1 hd x hx
              simp at this
              exact this
            conv => whnf
            repeat ((first | refine ⟨by omega, ?_⟩ | refine ⟨inr (by omega), ?_⟩ | refine eqn_self ?_ | refine ⟨ms (by omega), ?_⟩ | refine ⟨ms (by simp only [Src.n]; omega), ?_⟩ | refine ⟨msk (by omega), ?_⟩ | refine ⟨ms1, ?_⟩); conv => whnf)
            refine AW_loop (X := cx 63) (cx_ok 63) [1, 2, 8, 33, 34, 35] (fun vs M => ∃ k : Nat, k ≤ l.length ∧ vs = [.int a, .int b, .sl 0 0 0 l.length, .ints false l, .int l.length, .int k] ∧ M = [some ⟨3, 1, 0, .il ((l.take k).map (mergeD a b) ++ List.replicate (l.length - k) 0)⟩])
              (fun vs _ => l.length - (vs.getD 5 .any).toInt.toNat) ?_ ?_
            · exact ⟨0, Nat.zero_le _, rfl, rfl⟩
            · rintro vs M ⟨k, hk, rfl, rfl⟩
              conv => whnf
              refine br_dec (fun hlt => ?_) (fun hge => ?_)
              · have hk' : k < l.length := by omega
                have hlk : ((l.take k).map (mergeD a b)).length = k := by rw [List.length_map, List.length_take]; omega
                have hx : 0 ≤ l.getD (k : Int).toNat 0 ∧ l.getD (k : Int).toNat 0 < 8 := hl _ (getD_mem' hk')
                have fin : ∀ v, v = mergeD a b (l.getD (k : Int).toNat 0) → ((l.take k).map (mergeD a b) ++ List.replicate (l.length - k) 0).set (0 + (k : Int).toNat) v = (l.take (k + 1)).map (mergeD a b) ++ List.replicate (l.length - (k + 1)) 0 := by
                  intro v hv
                  rw [Int.toNat_natCast, Nat.zero_add, set_mid _ hlk hk', take_succ_getD _ _ hk', List.map_append, hv]
                  rfl
                conv => whnf
                repeat ((first | refine ⟨by omega, ?_⟩ | refine ⟨inr (by omega), ?_⟩ | refine eqn_self ?_ | refine ⟨ms (by omega), ?_⟩ | refine ⟨ms (by simp only [Src.n]; omega), ?_⟩ | refine ⟨msk (by omega), ?_⟩ | refine ⟨ms1, ?_⟩); conv => whnf)
                refine br_eq (fun h1 => ?_) (fun h1 => ?_)
                · conv => whnf
                  repeat ((first | refine ⟨by omega, ?_⟩ | refine ⟨inr (by omega), ?_⟩ | refine eqn_self ?_ | refine ⟨ms (by omega), ?_⟩ | refine ⟨ms (by simp only [Src.n]; omega), ?_⟩ | refine ⟨msk (by omega), ?_⟩ | refine ⟨ms1, ?_⟩); conv => whnf)
                  refine ⟨⟨k + 1, by omega, rfl, ?_⟩, ?_⟩
                  · exact congrArg (fun q => [some (⟨3, 1, 0, .il q⟩ : Ob)]) (fin a (by unfold mergeD; rw [if_pos h1]))
                  · simp [V.toInt, sel, Env.get]; omega
                · conv => whnf
                  refine br_dec (fun h2 => ?_) (fun h2 => ?_)
                  · conv => whnf
                    repeat ((first | refine ⟨by omega, ?_⟩ | refine ⟨inr (by omega), ?_⟩ | refine eqn_self ?_ | refine ⟨ms (by omega), ?_⟩ | refine ⟨ms (by simp only [Src.n]; omega), ?_⟩ | refine ⟨msk (by omega), ?_⟩ | refine ⟨ms1, ?_⟩); conv => whnf)
                    refine ⟨⟨k + 1, by omega, rfl, ?_⟩, ?_⟩
                    · exact congrArg (fun q => [some (⟨3, 1, 0, .il q⟩ : Ob)]) (fin (l.getD (k : Int).toNat 0 - 1) (by unfold mergeD; rw [if_neg h1, if_pos h2]))
                    · simp [V.toInt, sel, Env.get]; omega
                  · conv => whnf
                    repeat ((first | refine ⟨by omega, ?_⟩ | refine ⟨inr (by omega), ?_⟩ | refine eqn_self ?_ | refine ⟨ms (by omega), ?_⟩ | refine ⟨ms (by simp only [Src.n]; omega), ?_⟩ | refine ⟨msk (by omega), ?_⟩ | refine ⟨ms1, ?_⟩); conv => whnf)
                    refine ⟨⟨k + 1, by omega, rfl, ?_⟩, ?_⟩
                    · exact congrArg (fun q => [some (⟨3, 1, 0, .il q⟩ : Ob)]) (fin (l.getD (k : Int).toNat 0) (by unfold mergeD; rw [if_neg h1, if_neg h2]))
                    · simp [V.toInt, sel, Env.get]; omega
              · conv => whnf
                refine ⟨?_, trivial, Q2 (Ql ?_) (Qi ?_)⟩
                · exact rfl
                · have hkl : k = l.length := by omega
                  subst hkl
                  simp [mergedL, e, take_len]
                · rw [e]
    · conv => whnf
      have e : mergedE l a b = 2 := by unfold mergedE; rw [if_neg h4, if_neg (by rw [hd]; simp)]
      exact ⟨rfl, trivial, Q2 (Ql (by simp [mergedL, e])) (Qi (by rw [e]))⟩
end Go.Tri
