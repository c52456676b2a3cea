/-
  CONTRACTS: Fewest, the program's and the reference's.
-/
import Derived.Test.YtnjojmjcjhcnaaaB12
import Derived.Test.YtnjojmjcjhcnaaaB13
namespace Go.Tri
open Go.Proofs

def stepF (w : List Int) (l : List Int) (p : Int) : List Int × Bool := (if w.getD p.toNat 0 < 0 then w.set p.toNat l.length else w, true)
theorem foldF_len (qs : List (List Int × Int)) : ∀ w : List Int, (foldU stepF qs w).1.length = w.length := by
  induction qs with
  | nil => intro w; rfl
  | cons q r ih =>
    obtain ⟨l, p⟩ := q
    intro w
    simp only [foldU, stepF, if_true]
    rw [ih]
    split
    · rw [List.length_set]
    · rfl
theorem foldF_get (qs : List (List Int × Int)) : ∀ (w : List Int) (j : Nat), j < w.length → (foldU stepF qs w).1.getD j 0 = if 0 ≤ w.getD j 0 then w.getD j 0 else (match qs.find? (fun q => decide (q.2.toNat = j)) with
    | some q => (q.1.length : Int)
    | none => w.getD j 0) := by
  induction qs with
  | nil => intro w j _; simp [foldU]
  | cons q r ih =>
    obtain ⟨l, p⟩ := q
    intro w j hj
    simp only [foldU, stepF, if_true, List.find?_cons]
    by_cases hneg : w.getD p.toNat 0 < 0
    · rw [if_pos hneg, ih _ _ (by rw [List.length_set]; exact hj)]
      by_cases hp : p.toNat = j
      · subst hp
        rw [show (w.set p.toNat (l.length : Int)).getD p.toNat 0 = l.length from by simp [List.getD, hj], if_pos (by omega), if_neg (by omega)]
        simp
      · rw [show (w.set p.toNat (l.length : Int)).getD j 0 = w.getD j 0 from by simp [List.getD, List.getElem?_set_ne hp]]
        simp only [hp, decide_false]
    · rw [if_neg hneg, ih _ _ hj]
      by_cases hp : p.toNat = j
      · subst hp
        rw [if_pos (by omega), if_pos (by omega)]
      · simp only [hp, decide_false]

theorem exF_some {m : Nat} {v : List Int} (hv : Vals v) {a : Int} : (exF m v a).isSome = true ↔ Sm v m a := by
  have h1 := find_ext m [] 0 a v (fun x hx => by have := hv.mem x hx; have := hv.last; omega)
  have h2 := count_ext m [] 0 a v
  rw [← cE_pos, ← h2, List.countP_pos_iff]
  have h3 : (exF m v a).isSome = ((ext m [] 0 v).find? (fun q => decide (q.2 = 0 + a))).isSome := by rw [h1]; simp
  rw [h3, List.find?_isSome]
theorem firstUp_spec {f : Nat → Option (List Int)} : ∀ (n j : Nat), (∃ l m, firstUp f n j = some l ∧ f m = some l ∧ j ≤ m ∧ m < j + n ∧ ∀ i, j ≤ i → i < m → f i = none) ∨ (firstUp f n j = none ∧ ∀ i, j ≤ i → i < j + n → f i = none) := by
  intro n
  induction n with
  | zero => intro j; exact .inr ⟨rfl, fun i h1 h2 => by omega⟩
  | succ n ih =>
    intro j
    simp only [firstUp]
    cases hf : f j with
    | some l => exact .inl ⟨l, j, rfl, hf, Nat.le_refl _, by omega, fun i h1 h2 => by omega⟩
    | none =>
      have hi : ∀ i, j ≤ i → (i = j ∨ j + 1 ≤ i) := fun i h => by omega
      rcases ih (j + 1) with ⟨l, m, h1, h2, h3, h4, h5⟩ | ⟨h1, h2⟩
      · exact .inl ⟨l, m, h1, h2, by omega, by omega, fun i g1 g2 => by
          rcases hi i g1 with rfl | g3
          · exact hf
          · exact h5 i g3 g2⟩
      · exact .inr ⟨h1, fun i g1 g2 => by
          rcases hi i g1 with rfl | g3
          · exact hf
          · exact h2 i g3 (by omega)⟩
theorem pay_few {h : Nat} {v : List Int} (hv : Vals v) (a : Int) : Few v h a (match payO h v a with
    | some l => (l.length : Int)
    | none => -1) := by
  have hn : ∀ i, exF i v a = none → ¬ Sm v i a := fun i hi hs => by
    have := (exF_some hv).2 hs
    rw [hi] at this
    cases this
  unfold payO
  rcases firstUp_spec (f := fun m => exF m v a) (h + 1) 0 with ⟨l, m, h1, h2, _, h4, h5⟩ | ⟨h1, h2⟩
  · rw [h1]
    have hl := exF_len h2
    refine .inr ⟨by simp, by simp only; omega, ?_, fun i hi => hn i (h5 i (by omega) (by simp only at hi; omega))⟩
    simp only
    rw [Int.toNat_natCast, hl]
    exact (exF_some hv).1 (by rw [h2]; rfl)
  · rw [h1]
    exact .inl ⟨rfl, fun i hi => hn i (h2 i (by omega) (by omega))⟩
theorem Few.uniq {v : List Int} {h a f g : Int} (hf : Few v h a f) (hg : Few v h a g) : f = g := by
  rcases hf with ⟨f1, f2⟩ | ⟨f1, f2, f3, f4⟩ <;> rcases hg with ⟨g1, g2⟩ | ⟨g1, g2, g3, g4⟩
  · omega
  · exact absurd g3 (f2 _ (by omega))
  · exact absurd f3 (g2 _ (by omega))
  · have h1 : ¬ f.toNat < g := fun h => g4 _ (by omega) f3
    have h2 : ¬ g.toNat < f := fun h => f4 _ (by omega) g3
    omega
theorem ext_getD {l r : List Int} (hl : l.length = r.length) (h : ∀ j, j < l.length → l.getD j 0 = r.getD j 0) : l = r := by
  apply List.ext_getElem hl
  intro i h1 h2
  have := h i h1
  simpa [List.getD, h1, h2] using this
theorem foldF_few {h : Nat} {v : List Int} (hv : Vals v) : (foldU stepF (allX h v) (List.replicate (h * lastV v + 1).toNat (-1))).1 = fewL h v := by
  have hl := hv.last
  have hn : 0 ≤ (h : Int) * lastV v := Int.mul_nonneg (by omega) (by omega)
  have hlen : (foldU stepF (allX h v) (List.replicate (h * lastV v + 1).toNat (-1))).1.length = (h * lastV v + 1).toNat := by rw [foldF_len, List.length_replicate]
  refine ext_getD (by rw [hlen, fewL_len]) (fun j hj => ?_)
  rw [hlen] at hj
  have hr : (List.replicate (h * lastV v + 1).toNat (-1 : Int)).getD j 0 = -1 := by
    simp only [List.getD, List.getElem?_replicate]
    rw [if_pos hj]
    rfl
  rw [foldF_get _ _ _ (by rw [List.length_replicate]; exact hj), hr, if_neg (by decide)]
  have hc : (allX h v).find? (fun q => decide (q.2.toNat = j)) = (allX h v).find? (fun q => decide (q.2 = (j : Int))) := by
    have : ∀ l : List (List Int × Int), (∀ q ∈ l, 0 ≤ q.2) → l.find? (fun q => decide (q.2.toNat = j)) = l.find? (fun q => decide (q.2 = (j : Int))) := by
      intro l
      induction l with
      | nil => intro _; rfl
      | cons q r ih =>
        intro hq
        have h0 := hq q List.mem_cons_self
        simp only [List.find?_cons]
        rw [ih (fun x hx => hq x (List.mem_cons_of_mem _ hx)), show decide (q.2.toNat = j) = decide (q.2 = (j : Int)) from by congr 1; simp only [eq_iff_iff]; omega]
    exact this _ (fun q hq => (allX_paid (h := h) hv.mem (by omega) q hq).1)
  rw [hc]
  have hp := pay_few (h := h) hv j
  rw [← find_all hv] at hp
  refine Few.uniq (v := v) (h := h) (a := j) ?_ (fewL_ok (by omega) hv (by omega))
  cases hq : (allX h v).find? (fun q => decide (q.2 = (j : Int))) with
  | none => rw [hq] at hp; exact hp
  | some q => rw [hq] at hp; exact hp

def wrF : List FuncId := 46 :: wrL
set_option maxRecDepth 100000 in
theorem Fewest_pure (h : Int) (v : List Int) : APure Try.prog 20 [.int h, .ints false v] (fun R => R = tup2 (.ints true (if tickE h v = 0 then fewL h v else [])) (.int (tickE h v))) := by
  refine APure_of (X := ⟨Try.prog, tab, wrF, 39, 0, false⟩) tab_ok rfl (rs := [(.tmp 4, 22), (.tmp 5, 24)]) Try.func20 (by decide) rfl rfl rfl (by simp) (by simp [NoFr]) ?_
  intro hlen
  conv => whnf
  refine APure.to (checkTicket_pure h v) ?_
  conv => whnf
  refine br_ne (fun h0 => ?_) (fun h0 => ?_)
  · conv => whnf
    exact ⟨rfl, trivial, Q2 (Ql (by rw [if_neg h0])) rfl⟩
  obtain ⟨hh, hv⟩ := tickE_inv h0
  obtain ⟨k, rfl⟩ : ∃ n : Nat, h = n := ⟨h.toNat, by omega⟩
  rw [if_pos h0]
  have hl := hv.last
  have hb := mul_bd hh hl
  conv => whnf
  refine APure.to (MaxV_pure v hv) ?_
  conv => whnf
  refine ⟨inr (by omega), ?_⟩
  conv => whnf
  refine ⟨inr (by omega), ?_⟩
  conv => whnf
  obtain ⟨n, hn⟩ : ∃ n : Nat, (k * lastV v + 1 : Int) = n := ⟨(k * lastV v + 1).toNat, by omega⟩
  rw [hn]
  refine (Repeat_cm (-1) n (by omega)).mono ?_
  rintro R M' ⟨rfl, rfl⟩
  conv => whnf
  refine (lists_cm k v _).mono ?_
  rintro R M' ⟨rfl, rfl⟩
  conv => whnf
  refine AW_rangeL (X := ⟨Try.prog, tab, wrF, 39, 0, false⟩) tab_ok rfl [7] rfl rfl (fun lp hlp hround => ?_)
  have hB : P7.BodyOk stepF (fun _ w => w.length = n) (fun l p => 0 ≤ p ∧ p < n ∧ l.length ≤ 1000) (fun _ => ⟨3, 1, 0, .kil [-1]⟩) (fun w => ⟨3, 1, 0, .il w⟩) (fun _ => ⟨22, 1, 0, .one [.sl 1 0 0 n]⟩) (fun _ => lp .ready none) := by
    refine ⟨fun w => ⟨trivial, trivial, ⟨rfl, trivial⟩, hlp.flat _ _ _ ⟨rfl, trivial⟩⟩, fun _ w _ => ⟨trivial, trivial, ⟨trivial, trivial⟩, hlp.nofr _ _ ⟨trivial, trivial⟩⟩, fun w => ⟨rfl, rfl, rfl, hlp.ver _ _⟩, ?_, ?_⟩
    · rintro _ w l p hw _
      simp only [stepF]
      split
      · rw [List.length_set]; exact hw
      · exact hw
    · rintro _ w l p ts E hw ⟨hp0, hp1, hl1⟩ _
      refine hround _ _ _ rfl rfl (fun nb => AW_of_awp (X := ⟨Try.prog, tab, wrF, 39, nb, true⟩) tab_ok ?_)
      conv => whnf
      refine ⟨rfl, ?_⟩
      conv => whnf
      refine ⟨hp0, ?_⟩
      conv => whnf
      refine ⟨hp1, ?_⟩
      conv => whnf
      rw [Nat.zero_add]
      refine br_dec (fun hneg => ?_) (fun hneg => ?_)
      · conv => whnf
        refine ⟨hp0, ?_⟩
        conv => whnf
        refine ⟨hp1, ?_⟩
        conv => whnf
        rw [forceM_eq]
        conv => whnf
        have es : stepF w l p = (w.set p.toNat l.length, true) := by unfold stepF; rw [if_pos hneg]
        rw [es]
        have e : ∀ j, j = p.toNat → P7.sp (fun _ => ⟨3, 1, 0, .kil [-1]⟩) (fun w => ⟨3, 1, 0, .il w⟩) (fun _ => ⟨22, 1, 0, .one [.sl 1 0 0 n]⟩) (fun _ => lp .ready none) (w.set j l.length) ts E =
            P7.sp (fun _ => ⟨3, 1, 0, .kil [-1]⟩) (fun w => ⟨3, 1, 0, .il w⟩) (fun _ => ⟨22, 1, 0, .one [.sl 1 0 0 n]⟩) (fun _ => lp .ready none) (w.set p.toNat l.length) ts E := by rintro j rfl; rfl
        exact ⟨rfl, rfl, e _ (Nat.zero_add _)⟩
      · conv => whnf
        have es : stepF w l p = (w, true) := by unfold stepF; rw [if_neg hneg]
        rw [es]
        exact ⟨rfl, rfl, rfl⟩
  have hP := allX_paid (h := k) hv.mem (by omega)
  have hlens : ∀ q ∈ allX k v, q.1.length ≤ 1000 := by
    intro q hq
    unfold allX fromX at hq
    rw [List.mem_flatMap] at hq
    obtain ⟨m, hm, hq⟩ := hq
    rw [List.mem_range'] at hm
    obtain ⟨i, hi, rfl⟩ := hm
    have := ext_qlen _ _ _ _ q hq
    simp only [List.length_nil] at this
    omega
  refine ACM.mono (P7.lists1_cm hB k (by omega) v (fun x hx => by have := hv.mem x hx; omega) (by have := hv.2.1; omega) (List.replicate n (-1)) (by simp) (fun q hq => by have := hP q hq; exact ⟨this.1, by omega, hlens q hq⟩)) ?_
  · rintro _ M' ⟨ts, rfl⟩
    have hff := foldF_few (h := k) hv
    rw [show (k * lastV v + 1 : Int).toNat = n from by omega] at hff
    rw [hff]
    have hfl : (fewL k v).length = n := by rw [fewL_len]; omega
    refine ⟨.ready, none, by decide, rfl, ?_⟩
    conv => whnf
    refine ⟨rfl, trivial, Q2 (Ql ?_) (Qi h0.symm)⟩
    exact List.take_of_length_le (by simp only [List.drop_zero]; omega)

theorem refFewest_pure (h : Int) (v : List Int) : APure Try.prog 21 [.int h, .ints false v] (fun R => R = tup2 (.ints true (if tickE h v = 0 then fewL h v else [])) (.int (tickE h v))) := by
  refine APure_of (X := cx 16) (cx_ok 16) rfl (rs := [(.tmp 4, 22), (.tmp 5, 24)]) Try.func21 (by decide) rfl rfl rfl (by simp [cx]) (by simp [NoFr]) ?_
  intro hlen
  conv => whnf
  refine APure.to (refTicket_pure h v) ?_
  conv => whnf
  refine br_ne (fun h0 => ?_) (fun h0 => ?_)
  · conv => whnf
    exact ⟨rfl, trivial, Q2 (Ql (by rw [if_neg h0])) rfl⟩
  · obtain ⟨hh, hv⟩ := tickE_inv h0
    conv => whnf
    refine APure.to (refFew_pure h hh v hv) ?_
    conv => whnf
    exact ⟨rfl, trivial, Q2 (Ql (by rw [if_pos h0])) (Qi h0.symm)⟩
end Go.Tri
