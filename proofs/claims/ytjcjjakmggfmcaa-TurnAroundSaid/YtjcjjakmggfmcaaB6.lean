/-
  CONTRACTS: the deviation of days, the program's and the reference's.
-/
import Derived.Test.YtjcjjakmggfmcaaB5
namespace Go.Tri
open Go.Proofs

/-- How often driver i has had one of the first t days. -/
def cnt (l : List Int) (t : Nat) (i : Nat) : Int := ((l.take t).filter fun x => x == (i : Int)).length
/-- Count less due, times the total. -/
def dvx (s l : List Int) (t i : Nat) : Int := cnt l t i * sumL s - t * s.getD i 0
def max3 (m x : Int) : Int := maxI (maxI m x) (-x)
def dvI (s l : List Int) (t : Nat) (m : Int) : Nat → Int
  | 0 => m
  | k + 1 => max3 (dvI s l t m k) (dvx s l t k)
/-- The deviation of the first t days, times the total. -/
def dv (s l : List Int) : Nat → Int
  | 0 => 0
  | t + 1 => dvI s l (t + 1) (dv s l t) s.length

theorem max3_neg (m x : Int) : maxI (maxI m (-x)) x = max3 m x := by
  unfold max3 maxI
  repeat' split
  all_goals omega

theorem cnt_succ (l : List Int) (t : Nat) (h : t < l.length) (i : Nat) : cnt l (t + 1) i = cnt l t i + if l.getD t 0 = (i : Int) then 1 else 0 := by
  unfold cnt
  rw [take_succ_getD _ _ h, List.filter_append, List.length_append]
  simp only [List.filter_cons, List.filter_nil]
  by_cases hc : l.getD t 0 = (i : Int)
  · rw [if_pos hc, if_pos (by rw [hc]; simp)]
    simp
  · rw [if_neg hc, if_neg (by simpa [-List.getD_eq_getElem?_getD] using hc)]
    simp

theorem cnt_bd (l : List Int) (t i : Nat) : 0 ≤ cnt l t i ∧ cnt l t i ≤ t := by
  unfold cnt
  have h1 := List.length_filter_le (fun x => x == (i : Int)) (l.take t)
  have h2 : (l.take t).length ≤ t := by rw [List.length_take]; omega
  omega

theorem dvx_bd {s l : List Int} (hs : Shs s) {t : Nat} (ht : t ≤ 400) (i : Nat) : -100000 ≤ dvx s l t i ∧ dvx s l t i ≤ 100000 := by
  have hb := sumL_bd s hs.2.2
  have hc := cnt_bd l t i
  have h8 := hs.1
  have hsi : 0 ≤ s.getD i 0 ∧ s.getD i 0 ≤ 20 := by
    by_cases hi : i < s.length
    · have := hs.2.2 _ (getD_mem' hi); omega
    · simp [List.getD, List.getElem?_eq_none (Nat.le_of_not_lt hi)]
  have e1 : 0 ≤ cnt l t i * sumL s := Int.mul_nonneg hc.1 (by omega)
  have e2 : cnt l t i * sumL s ≤ 400 * 160 := Int.mul_le_mul (by omega) (by omega) (by omega) (by omega)
  have e3 : 0 ≤ (t : Int) * s.getD i 0 := Int.mul_nonneg (by omega) hsi.1
  have e4 : (t : Int) * s.getD i 0 ≤ 400 * 20 := Int.mul_le_mul (by omega) hsi.2 hsi.1 (by omega)
  unfold dvx
  omega

theorem max3_bd {m x : Int} (h : 0 ≤ m ∧ m ≤ 100000) (hx : -100000 ≤ x ∧ x ≤ 100000) : 0 ≤ max3 m x ∧ max3 m x ≤ 100000 := by
  unfold max3 maxI
  repeat' split
  all_goals omega

theorem dvI_bd {s l : List Int} (hs : Shs s) {t : Nat} (ht : t ≤ 400) {m : Int} (hm : 0 ≤ m ∧ m ≤ 100000) : ∀ k, 0 ≤ dvI s l t m k ∧ dvI s l t m k ≤ 100000 := by
  intro k
  induction k with
  | zero => exact hm
  | succ k ih => exact max3_bd ih (dvx_bd hs ht k)

theorem dv_bd {s l : List Int} (hs : Shs s) : ∀ t, t ≤ 400 → 0 ≤ dv s l t ∧ dv s l t ≤ 100000 := by
  intro t
  induction t with
  | zero => intro _; exact ⟨Int.le_refl 0, by show (0 : Int) ≤ 100000; decide⟩
  | succ t ih => intro ht; exact dvI_bd hs ht (ih (by omega)) _

/-- A row by its places. -/
def rw_ (n : Nat) (f : Nat → Int) : List Int := (List.range n).map f
theorem rw_len (n : Nat) (f : Nat → Int) : (rw_ n f).length = n := by simp [rw_]
theorem rw_get {n : Nat} {f : Nat → Int} {k : Nat} (h : k < n) : (rw_ n f).getD k 0 = f k := by simp [rw_, List.getD, h]
theorem rw_set {n : Nat} {f g : Nat → Int} {k : Nat} {v : Int} (hv : v = g k) (hg : ∀ i, i < n → i ≠ k → g i = f i) : (rw_ n f).set k v = rw_ n g := by
  apply List.ext_getElem
  · simp [rw_]
  · intro i h1 h2
    simp only [rw_, List.length_set, List.length_map, List.length_range] at h1
    rw [List.getElem_set]
    split
    · next h => subst h; simp [rw_, hv]
    · next h => simp [rw_, hg i h1 (Ne.symm h)]
theorem rw_rep (n : Nat) {f : Nat → Int} (h : ∀ i, i < n → f i = 0) : List.replicate n 0 = rw_ n f := by
  apply List.ext_getElem
  · simp [rw_]
  · intro i h1 h2
    simp only [List.length_replicate] at h1
    simp [rw_, h i h1]

def Dys (l : List Int) (n : Nat) : Prop := l.length ≤ 400 ∧ ∀ x ∈ l, 0 ≤ x ∧ x < n

theorem Worst_pure (s l : List Int) (hs : Shs s) (hl : Dys l s.length) : APure Try.prog 48 [.ints false s, .ints false l, .int (sumL s)] (fun R => R = .int (dv s l l.length)) := by
  have hsb := sumL_bd s hs.2.2
  have h8 := hs.1
  have h400 := hl.1
  refine APure_of (X := cx 56) (cx_ok 56) rfl (rs := [(.tmp 6, 3)]) Try.func48 (by decide) rfl rfl rfl (by simp [cx]) (by simp [NoFr]) ?_
  intro _
  conv => whnf
  repeat ((first | refine ⟨by omega, ?_⟩ | refine ⟨inr (by omega), ?_⟩ | refine eqn_self ?_ | refine ⟨ms (by omega), ?_⟩ | refine ⟨ms (by simp only [Src.n]; omega), ?_⟩ | refine ⟨msk (by omega), ?_⟩ | refine ⟨ms1, ?_⟩); conv => whnf)
  refine AW_loop (X := cx 56) (cx_ok 56) [0, 1, 2, 7, 8, 9] (fun vs M => ∃ t : Nat, t ≤ l.length ∧ vs = [.ints false s, .ints false l, .int (sumL s), .sl 0 0 0 s.length, .int (dv s l t), .int (t + 1)] ∧ M = [some ⟨3, 1, 0, .il (rw_ s.length (cnt l t))⟩])
    (fun vs _ => (l.length + 1) - (vs.getD 5 .any).toInt.toNat) ?_ ?_
  · refine ⟨0, Nat.zero_le _, rfl, ?_⟩
    exact congrArg (fun q => [some (⟨3, 1, 0, .il q⟩ : Ob)]) (rw_rep s.length (fun i _ => by simp [cnt]))
  · rintro vs M ⟨t, ht, rfl, rfl⟩
    have hdv := dv_bd (l := l) hs t (by omega)
    conv => whnf
    refine br_dec (fun hlt => ?_) (fun hge => ?_)
    · have ht' : t < l.length := by omega
      have htt : ((t : Int) + 1 - 1).toNat = t := by omega
      obtain ⟨d, hd, hdn⟩ : ∃ d : Nat, l.getD t 0 = d ∧ d < s.length := by
        have := hl.2 _ (getD_mem' ht')
        exact ⟨(l.getD t 0).toNat, by omega, by omega⟩
      have hd1 : l.getD ((t : Int) + 1 - 1).toNat 0 = d := by rw [htt]; exact hd
      have hdd : 0 ≤ l.getD ((t : Int) + 1 - 1).toNat 0 ∧ l.getD ((t : Int) + 1 - 1).toNat 0 < s.length := by rw [hd1]; omega
      have hcb := cnt_bd l t d
      have hcc : (rw_ s.length (cnt l t)).getD (0 + (l.getD ((t : Int) + 1 - 1).toNat 0).toNat) 0 = cnt l t d := by rw [hd1, Int.toNat_natCast, Nat.zero_add, rw_get hdn]
      have hst : ((rw_ s.length (cnt l t)).set (0 + (l.getD ((t : Int) + 1 - 1).toNat 0).toNat) ((rw_ s.length (cnt l t)).getD (0 + (l.getD ((t : Int) + 1 - 1).toNat 0).toNat) 0 + 1)) = rw_ s.length (cnt l (t + 1)) := by
        rw [hcc, hd1, Int.toNat_natCast, Nat.zero_add]
        refine rw_set ?_ fun i hi hne => ?_
        · rw [cnt_succ l t ht', if_pos hd]
        · rw [cnt_succ l t ht', if_neg (by rw [hd]; omega)]; omega
      conv => whnf
      repeat ((first | refine ⟨by omega, ?_⟩ | refine ⟨inr (by omega), ?_⟩ | refine ⟨inr (by rw [hcc]; omega), ?_⟩); conv => whnf)
      refine AW_loop (X := cx 56) (cx_ok 56) [0, 1, 2, 7, 8, 9, 10] (fun vs M => ∃ k : Nat, k ≤ s.length ∧ vs = [.ints false s, .ints false l, .int (sumL s), .sl 0 0 0 s.length, .int (dvI s l (t + 1) (dv s l t) k), .int (t + 1), .int k] ∧ M = [some ⟨3, 1, 0, .il (rw_ s.length (cnt l (t + 1)))⟩])
        (fun vs _ => s.length - (vs.getD 6 .any).toInt.toNat) ?_ ?_
      · refine ⟨0, Nat.zero_le _, rfl, ?_⟩
        exact congrArg (fun q => [some (⟨3, 1, 0, .il q⟩ : Ob)]) hst
      · rintro vs M ⟨k, hk, rfl, rfl⟩
        have hb1 := dvI_bd (l := l) hs (t := t + 1) (by omega) hdv k
        conv => whnf
        refine br_dec (fun hlt => ?_) (fun hge => ?_)
        · have hk' : k < s.length := by omega
          have hx := dvx_bd (l := l) hs (t := t + 1) (by omega) k
          have hsk := hs.2.2 _ (getD_mem' hk')
          have hsk' : 1 ≤ s.getD (k : Int).toNat 0 ∧ s.getD (k : Int).toNat 0 ≤ 20 := hsk
          have hcb := cnt_bd l (t + 1) k
          have hck : (rw_ s.length (cnt l (t + 1))).getD (0 + (k : Int).toNat) 0 = cnt l (t + 1) k := by rw [Int.toNat_natCast, Nat.zero_add, rw_get hk']
          have e1 : 0 ≤ cnt l (t + 1) k * sumL s := Int.mul_nonneg hcb.1 (by omega)
          have e2 : cnt l (t + 1) k * sumL s ≤ 401 * 160 := Int.mul_le_mul (by omega) (by omega) (by omega) (by omega)
          have e3 : 0 ≤ ((t : Int) + 1) * s.getD (k : Int).toNat 0 := Int.mul_nonneg (by omega) (by omega)
          have e4 : ((t : Int) + 1) * s.getD (k : Int).toNat 0 ≤ 401 * 20 := Int.mul_le_mul (by omega) hsk'.2 (by omega) (by omega)
          have hxx : cnt l (t + 1) k * sumL s - ((t : Int) + 1) * s.getD (k : Int).toNat 0 = dvx s l (t + 1) k := rfl
          conv => whnf
          refine AW_draw (X := cx 56) (cx_ok 56) mixed (by kernel_rfl) ?_
          conv => whnf
          repeat ((first | refine ⟨by omega, ?_⟩ | refine ⟨inr (by omega), ?_⟩ | refine ⟨inr (by rw [hck]; omega), ?_⟩); conv => whnf)
          refine ⟨⟨k + 1, by omega, ?_, rfl⟩, ?_⟩
          · rw [← hck] at hxx
            simp only [dvI, ← hxx]
            rfl
          · simp [V.toInt, sel, Env.get]; omega
        · conv => whnf
          have : k = s.length := by omega
          subst this
          repeat ((first | refine ⟨by omega, ?_⟩ | refine ⟨inr (by omega), ?_⟩ | refine eqn_self ?_ | refine ⟨ms (by omega), ?_⟩ | refine ⟨ms (by simp only [Src.n]; omega), ?_⟩ | refine ⟨msk (by omega), ?_⟩ | refine ⟨ms1, ?_⟩); conv => whnf)
          refine ⟨⟨t + 1, by omega, rfl, rfl⟩, ?_⟩
          simp [V.toInt, sel, Env.get]; omega
    · conv => whnf
      have : t = l.length := by omega
      subst this
      exact ⟨trivial, Qi rfl⟩
end Go.Tri
