/-
  CONTRACTS: sorting by putting in; the rides in the order of a height.
-/
import Derived.Test.YtknpoobfecceeaaM1
namespace Go.Tri
open Go.Proofs

def wrL : List FuncId := [40, 52, 69, 78, 88, 101, 70, 84,
  67, 81, 90, 73, 76, 86, 87, 72]

@[reducible] def rideV (a b : Int) : V := .agg 2 fun k => match k with | 0 => .int a | _ => .int b
theorem nofrA {a b : Int} : NoFr (rideV a b) := fun k => by show NoFr (match k with | 0 => V.int a | _ => V.int b); split <;> trivial
theorem hillTo_pure (a b : Int) : APure Try.prog 65 [rideV a b] (fun R => R = .int b) := by
  refine APure_of (X := cx 5) (cx_ok 5) rfl (rs := [(.tmp 2, 3)]) Try.func65 (by decide) rfl rfl rfl (by simp [cx]) (nofr1 nofrA) ?_
  intro _
  ((conv => whnf); repeat (refine stepK_in ?_; (repeat (first | refine seqQ_n ?_ | refine blockQ_n ?_ | refine awp_skip ?_ | refine awp_seq ?_ | refine awp_block ?_)); (conv => whnf)))
  exact ⟨trivial, rfl⟩
theorem hillFrom_pure (a b : Int) : APure Try.prog 66 [rideV a b] (fun R => R = .int a) := by
  refine APure_of (X := cx 5) (cx_ok 5) rfl (rs := [(.tmp 2, 3)]) Try.func66 (by decide) rfl rfl rfl (by simp [cx]) (nofr1 nofrA) ?_
  intro _
  ((conv => whnf); repeat (refine stepK_in ?_; (repeat (first | refine seqQ_n ?_ | refine blockQ_n ?_ | refine awp_skip ?_ | refine awp_seq ?_ | refine awp_block ?_)); (conv => whnf)))
  exact ⟨trivial, rfl⟩
theorem isNaN_pure (a : Int) : APure Try.prog 89 [.int a] (fun R => R = .bool false) := by
  refine APure_of (X := cx 6) (cx_ok 6) rfl (rs := [(.tmp 2, 4)]) Try.func89 (by decide) rfl rfl rfl (by simp [cx]) (by simp [NoFr]) ?_
  intro _
  ((conv => whnf); repeat (refine stepK_in ?_; (repeat (first | refine seqQ_n ?_ | refine blockQ_n ?_ | refine awp_skip ?_ | refine awp_seq ?_ | refine awp_block ?_)); (conv => whnf)))
  exact ⟨trivial, Qb (by simp)⟩
def cmpI (a b : Int) : Int := if a < b then -1 else if a > b then 1 else 0
theorem cmpI_neg {a b : Int} : cmpI a b < 0 ↔ a < b := by unfold cmpI; split <;> (try split) <;> omega
theorem Compare_pure (a b : Int) : APure Try.prog 80 [.int a, .int b] (fun R => R = .int (cmpI a b)) := by
  refine APure_of (X := cx 20) (cx_ok 20) rfl (rs := [(.tmp 4, 3)]) Try.func80 (by decide) rfl rfl rfl (by simp [cx]) (by simp [NoFr]) ?_
  intro _
  ((conv => whnf); repeat (refine stepK_in ?_; (repeat (first | refine seqQ_n ?_ | refine blockQ_n ?_ | refine awp_skip ?_ | refine awp_seq ?_ | refine awp_block ?_)); (conv => whnf)))
  refine APure.to (isNaN_pure a) ?_
  ((conv => whnf); repeat (refine stepK_in ?_; (repeat (first | refine seqQ_n ?_ | refine blockQ_n ?_ | refine awp_skip ?_ | refine awp_seq ?_ | refine awp_block ?_)); (conv => whnf)))
  refine APure.to (isNaN_pure b) ?_
  ((conv => whnf); repeat (refine stepK_in ?_; (repeat (first | refine seqQ_n ?_ | refine blockQ_n ?_ | refine awp_skip ?_ | refine awp_seq ?_ | refine awp_block ?_)); (conv => whnf)))
  refine br_dec (fun h => ?_) (fun h => ?_)
  · ((conv => whnf); repeat (refine stepK_in ?_; (repeat (first | refine seqQ_n ?_ | refine blockQ_n ?_ | refine awp_skip ?_ | refine awp_seq ?_ | refine awp_block ?_)); (conv => whnf)))
    exact ⟨trivial, Qi (by unfold cmpI; rw [if_pos h])⟩
  · ((conv => whnf); repeat (refine stepK_in ?_; (repeat (first | refine seqQ_n ?_ | refine blockQ_n ?_ | refine awp_skip ?_ | refine awp_seq ?_ | refine awp_block ?_)); (conv => whnf)))
    refine br_dec (fun h2 => ?_) (fun h2 => ?_)
    · ((conv => whnf); repeat (refine stepK_in ?_; (repeat (first | refine seqQ_n ?_ | refine blockQ_n ?_ | refine awp_skip ?_ | refine awp_seq ?_ | refine awp_block ?_)); (conv => whnf)))
      exact ⟨trivial, Qi (by unfold cmpI; rw [if_neg h, if_pos h2])⟩
    · ((conv => whnf); repeat (refine stepK_in ?_; (repeat (first | refine seqQ_n ?_ | refine blockQ_n ?_ | refine awp_skip ?_ | refine awp_seq ?_ | refine awp_block ?_)); (conv => whnf)))
      exact ⟨trivial, Qi (by unfold cmpI; rw [if_neg h, if_neg h2])⟩

/-- A height: a function of the program, and what it says of each ride. -/
def KeyIs (n : Nat) (F T : Nat → Int) (g : FuncId) (κ : Nat → Int) : Prop := ∀ j, j < n → APure Try.prog g [rideV (F j) (T j)] (fun R => R = .int (κ j))
theorem keyTo (n : Nat) (F T : Nat → Int) : KeyIs n F T 65 T := fun j _ => hillTo_pure (F j) (T j)
theorem keyFrom (n : Nat) (F T : Nat → Int) : KeyIs n F T 66 F := fun j _ => hillFrom_pure (F j) (T j)
@[reducible] def cloV (g : FuncId) : V := .clo g 0 fun i => ([] : List V).getD i .any
theorem nofrC {g : FuncId} : NoFr (cloV g) := fun k => by show NoFr (([] : List V).getD k .any); rw [List.getD_nil]; trivial
theorem subRide {M : Mem} {d : Nat} {F T : Nat → Int} {j : Nat} : Sub (.agg 2 fun k => byvalN M (d + 1) (rd F T j k)) (rideV (F j) (T j)) := by
  refine sub_agg fun k hk => ?_
  rcases (by omega : k = 0 ∨ k = 1) with rfl | rfl <;> exact Sub.refl _

theorem subRide0 {M : Mem} {d : Nat} {F T : Nat → Int} {j : Nat} : Sub (.agg 2 fun k => byvalN M (d + 1) (rd F T j (0 + k))) (rideV (F j) (T j)) := by
  refine sub_agg fun k hk => ?_
  rcases (by omega : k = 0 ∨ k = 1) with rfl | rfl <;> exact Sub.refl _

theorem nofrS1 {i k : Int} {n : Nat} {F T : Nat → Int} {g : FuncId} : ∀ x ∈ [V.int i, V.int k, .at_ 1 (fun _ => cloV g) 0, .at_ 1 (fun _ => ridesV n F T) 0], NoFr x :=
  nofr4 (a := .int i) (b := .int k) (c := .at_ 1 (fun _ => cloV g) 0) (d := .at_ 1 (fun _ => ridesV n F T) 0) trivial trivial (fun _ => nofrC) (fun _ => nofrR)
theorem sorted1_pure {n : Nat} {F T : Nat → Int} {g : FuncId} {κ : Nat → Int} (hg : KeyIs n F T g κ) (i k : Nat) (hi : i < n) (hk : k < n) :
    APure Try.prog 79 [.int i, .int k, .at_ 1 (fun _ => cloV g) 0, .at_ 1 (fun _ => ridesV n F T) 0] (fun R => R = .int (cmpI (κ i) (κ k))) := by
  refine APure_of (X := cx 20) (cx_ok 20) rfl (rs := [(.tmp 6, 3)]) Try.func79 (by decide) rfl rfl rfl (by simp [cx]) (nofrS1) ?_
  intro _
  ((conv => whnf); repeat (refine stepK_in ?_; (repeat (first | refine seqQ_n ?_ | refine blockQ_n ?_ | refine awp_skip ?_ | refine awp_seq ?_ | refine awp_block ?_)); (conv => whnf)))
  refine AW_draw (X := cx 20) (cx_ok 20) mixed (by kernel_rfl) ?_
  ((conv => whnf); repeat (refine stepK_in ?_; (repeat (first | refine seqQ_n ?_ | refine blockQ_n ?_ | refine awp_skip ?_ | refine awp_seq ?_ | refine awp_block ?_)); (conv => whnf)))
  refine ⟨by omega, ?_⟩
  ((conv => whnf); repeat (refine stepK_in ?_; (repeat (first | refine seqQ_n ?_ | refine blockQ_n ?_ | refine awp_skip ?_ | refine awp_seq ?_ | refine awp_block ?_)); (conv => whnf)))
  refine ⟨by omega, ?_⟩
  ((conv => whnf); repeat (refine stepK_in ?_; (repeat (first | refine seqQ_n ?_ | refine blockQ_n ?_ | refine awp_skip ?_ | refine awp_seq ?_ | refine awp_block ?_)); (conv => whnf)))
  refine ⟨.int (κ i), APure.arg1 (show Sub (V.agg 2 fun k => byvalN [] 4 (rd F T i (0 + k))) (rideV (F i) (T i)) from subRide0) (hg i hi), ?_⟩
  ((conv => whnf); repeat (refine stepK_in ?_; (repeat (first | refine seqQ_n ?_ | refine blockQ_n ?_ | refine awp_skip ?_ | refine awp_seq ?_ | refine awp_block ?_)); (conv => whnf)))
  refine ⟨by omega, ?_⟩
  ((conv => whnf); repeat (refine stepK_in ?_; (repeat (first | refine seqQ_n ?_ | refine blockQ_n ?_ | refine awp_skip ?_ | refine awp_seq ?_ | refine awp_block ?_)); (conv => whnf)))
  refine ⟨by omega, ?_⟩
  ((conv => whnf); repeat (refine stepK_in ?_; (repeat (first | refine seqQ_n ?_ | refine blockQ_n ?_ | refine awp_skip ?_ | refine awp_seq ?_ | refine awp_block ?_)); (conv => whnf)))
  refine ⟨.int (κ k), APure.arg1 (show Sub (V.agg 2 fun k' => byvalN [] 4 (rd F T k (0 + k'))) (rideV (F k) (T k)) from subRide0) (hg k hk), ?_⟩
  ((conv => whnf); repeat (refine stepK_in ?_; (repeat (first | refine seqQ_n ?_ | refine blockQ_n ?_ | refine awp_skip ?_ | refine awp_seq ?_ | refine awp_block ?_)); (conv => whnf)))
  refine ⟨.int (cmpI (κ i) (κ k)), Compare_pure _ _, ?_⟩
  ((conv => whnf); repeat (refine stepK_in ?_; (repeat (first | refine seqQ_n ?_ | refine blockQ_n ?_ | refine awp_skip ?_ | refine awp_seq ?_ | refine awp_block ?_)); (conv => whnf)))
  exact ⟨trivial, rfl⟩

/-- The boxes of what the comparison holds. -/
@[reducible] def boxR (n : Nat) (F T : Nat → Int) : Ob := ⟨22, 1, 0, .one [ridesV n F T]⟩
@[reducible] def boxH (g : FuncId) : Ob := ⟨84, 1, 0, .one [cloV g]⟩
@[reducible] def cmpV : V := .clo 79 2 fun i => ([V.ptr 1 0 0 0, V.ptr 0 0 0 0]).getD i .any
def ltK (κ : Nat → Int) (a b : Int) : Bool := decide (κ a.toNat < κ b.toNat)

set_option maxRecDepth 100000 in
theorem insertion_cm {n : Nat} {F T : Nat → Int} {g : FuncId} {κ : Nat → Int} (hg : KeyIs n F T g κ) (xs : List Int) (hx : ∀ y ∈ xs, 0 ≤ y ∧ y < n) (h1 : 1 ≤ xs.length) (h2 : xs.length ≤ 1000) :
    ACM Try.prog 101 [.sl 2 0 0 xs.length, .int 0, .int xs.length, cmpV] [some (boxR n F T), some (boxH g), some ⟨3, 1, 0, .il xs⟩]
      (fun _ M' => M' = [some (boxR n F T), some (boxH g), some ⟨3, 1, 0, .il (sortP (ltK κ) xs xs.length)⟩]) := by
  refine ACM_of (T := tab) (wr := wrL) tab_ok Try.func101 (by decide) rfl (Nat.le_of_ble_eq_true rfl) (fun nb => ?_)
  have hm : ∀ {k}, k ≤ xs.length → ∀ y ∈ sortP (ltK κ) xs k, 0 ≤ y ∧ y < n := fun hk y hy => hx y (sortP_mem hk hy)
  have hlt : ∀ a b : Nat, a < n → b < n → APure Try.prog 79 [.int a, .int b, .at_ 1 (fun _ => cloV g) 0, .at_ 1 (fun _ => ridesV n F T) 0] (fun R => R = .int (cmpI (κ a) (κ b))) := fun a b ha hb => sorted1_pure hg a b ha hb
  ((conv => whnf); repeat (refine stepK_in ?_; (repeat (first | refine seqQ_n ?_ | refine blockQ_n ?_ | refine awp_skip ?_ | refine awp_seq ?_ | refine awp_block ?_)); (conv => whnf)))
  refine ⟨inr (by omega), ?_⟩
  ((conv => whnf); repeat (refine stepK_in ?_; (repeat (first | refine seqQ_n ?_ | refine blockQ_n ?_ | refine awp_skip ?_ | refine awp_seq ?_ | refine awp_block ?_)); (conv => whnf)))
  refine AW_loop (X := ⟨Try.prog, tab, wrL, 53, nb, false⟩) tab_ok [0, 1, 2, 3, 8] (fun vs M => ∃ k : Nat, 1 ≤ k ∧ k ≤ xs.length ∧ vs = [.sl 2 0 0 xs.length, .int 0, .int xs.length, cmpV, .int k] ∧ M = [some (boxR n F T), some (boxH g), some ⟨3, 1, 0, .il (sortP (ltK κ) xs k ++ xs.drop k)⟩])
    (fun vs _ => xs.length - (vs.getD 4 .any).toInt.toNat) ?_ ?_
  · refine ⟨1, Nat.le_refl _, h1, rfl, ?_⟩
    have : xs = sortP (ltK κ) xs 1 ++ xs.drop 1 := by
      refine ext_getD (by rw [List.length_append, sortP_len, List.length_drop]; omega) (fun j hj => ?_)
      rw [getD_app, sortP_len]
      by_cases h : j < 1
      · rw [if_pos h, show j = 0 from by omega]; rfl
      · rw [if_neg h, getD_drop]; congr 1; omega
    exact congrArg (fun q => [some (boxR n F T), some (boxH g), some (⟨3, 1, 0, .il q⟩ : Ob)]) this
  rintro vs M ⟨k, hk1, hk, rfl, rfl⟩
  ((conv => whnf); repeat (refine stepK_in ?_; (repeat (first | refine seqQ_n ?_ | refine blockQ_n ?_ | refine awp_skip ?_ | refine awp_seq ?_ | refine awp_block ?_)); (conv => whnf)))
  refine br_dec (fun hlt2 => ?_) (fun hge => ?_)
  · have hk' : k < xs.length := by omega
    have hql := sortP_len (ltK κ) xs k
    have hqm := hm hk
    have hxm := hx _ (getD_mem' hk')
    have hnx : sortP (ltK κ) xs (k + 1) = insP (ltK κ) (sortP (ltK κ) xs k) (xs.getD k 0) := rfl
    have e0 : sortP (ltK κ) xs k ++ xs.drop k = putL (sortP (ltK κ) xs k) (xs.getD k 0) (xs.drop (k + 1)) k := by
      unfold putL
      rw [List.take_of_length_le (by omega), List.drop_of_length_le (l := sortP (ltK κ) xs k) (by omega)]
      simp only [List.append_nil, List.append_assoc]
      congr 1
      rw [List.drop_eq_getElem_cons hk']
      simp [List.getD, hk']
    rw [e0]
    generalize sortP (ltK κ) xs k = q at *
    generalize xs.getD k 0 = x at *
    ((conv => whnf); repeat (refine stepK_in ?_; (repeat (first | refine seqQ_n ?_ | refine blockQ_n ?_ | refine awp_skip ?_ | refine awp_seq ?_ | refine awp_block ?_)); (conv => whnf)))
    refine AW_loop (X := ⟨Try.prog, tab, wrL, 53, nb, false⟩) tab_ok [0, 1, 2, 3, 8, 9] (fun vs M => ∃ j : Nat, j ≤ k ∧ stopJ (ltK κ) q x k = stopJ (ltK κ) q x j ∧ vs = [.sl 2 0 0 xs.length, .int 0, .int xs.length, cmpV, .int k, .int j] ∧ M = [some (boxR n F T), some (boxH g), some ⟨3, 1, 0, .il (putL q x (xs.drop (k + 1)) j)⟩])
      (fun vs _ => (vs.getD 5 .any).toInt.toNat) ?_ ?_
    · exact ⟨k, Nat.le_refl _, rfl, rfl, rfl⟩
    rintro vs M ⟨j, hj, hs, rfl, rfl⟩
    have hpl := putL_len (q := q) (x := x) (r := xs.drop (k + 1)) (j := j) (by omega)
    rw [List.length_drop] at hpl
    have fin : stopJ (ltK κ) q x j = j → putL q x (xs.drop (k + 1)) j = sortP (ltK κ) xs (k + 1) ++ xs.drop (k + 1) := fun h => by
      rw [hnx]
      unfold insP
      rw [hql, hs, h, ← putL_nil]
    ((conv => whnf); repeat (refine stepK_in ?_; (repeat (first | refine seqQ_n ?_ | refine blockQ_n ?_ | refine awp_skip ?_ | refine awp_seq ?_ | refine awp_block ?_)); (conv => whnf)))
    refine AW_draw (X := ⟨Try.prog, tab, wrL, 53, nb, false⟩) tab_ok mixed (by kernel_rfl) ?_
    ((conv => whnf); repeat (refine stepK_in ?_; (repeat (first | refine seqQ_n ?_ | refine blockQ_n ?_ | refine awp_skip ?_ | refine awp_seq ?_ | refine awp_block ?_)); (conv => whnf)))
    refine br_dec (fun hj0 => ?_) (fun hj0 => ?_)
    · obtain ⟨i, rfl⟩ : ∃ i, j = i + 1 := ⟨j - 1, by omega⟩
      have e1 : ((i + 1 : Nat) : Int) - 1 = i := by omega
      have g1 : (putL q x (xs.drop (k + 1)) (i + 1)).getD (0 + ((i + 1 : Nat) : Int).toNat) 0 = x := by
        rw [Int.toNat_natCast, Nat.zero_add, putL_get (by omega), if_neg (by omega), if_pos rfl]
      have g2 : (putL q x (xs.drop (k + 1)) (i + 1)).getD (0 + (((i + 1 : Nat) : Int) - 1).toNat) 0 = q.getD i 0 := by
        rw [e1, Int.toNat_natCast, Nat.zero_add, putL_get (by omega), if_pos (by omega)]
      have hqi := hqm _ (getD_mem' (l := q) (k := i) (by omega))
      ((conv => whnf); repeat (refine stepK_in ?_; (repeat (first | refine seqQ_n ?_ | refine blockQ_n ?_ | refine awp_skip ?_ | refine awp_seq ?_ | refine awp_block ?_)); (conv => whnf)))
      repeat ((first | refine ⟨by omega, ?_⟩ | refine ⟨inr (by omega), ?_⟩); ((conv => whnf); repeat (refine stepK_in ?_; (repeat (first | refine seqQ_n ?_ | refine blockQ_n ?_ | refine awp_skip ?_ | refine awp_seq ?_ | refine awp_block ?_)); (conv => whnf))))
      obtain ⟨a, ha, hax⟩ : ∃ a : Nat, a < n ∧ x = a := ⟨x.toNat, by omega, by omega⟩
      obtain ⟨b, hb, hbx⟩ : ∃ b : Nat, b < n ∧ q.getD i 0 = b := ⟨(q.getD i 0).toNat, by omega, by omega⟩
      have hcall : ∀ (u v : Int) (H R : Nat → V), u = x → v = q.getD i 0 → Sub (H 0) (cloV g) → Sub (R 0) (ridesV n F T) → APure Try.prog 79 [.int u, .int v, .at_ 1 (fun k => H k) 0, .at_ 1 (fun k => R k) 0] (fun R => R = .int (cmpI (κ a) (κ b))) := fun u v H R hu hv hH hR => by
        rw [hu, hv, hax, hbx]
        exact APure.arg4 (Sub.refl _) (Sub.refl _) (sub_at fun k hk => by obtain rfl : k = 0 := by omega
                                                                          exact hH) (sub_at fun k hk => by obtain rfl : k = 0 := by omega
                                                                                                           exact hR) (hlt a b ha hb)
      have hltk : ltK κ x (q.getD i 0) = decide (κ a < κ b) := by rw [hax, hbx]; rfl
      refine ⟨.int (cmpI (κ a) (κ b)), ?_, ?_⟩
      · ((conv => whnf); repeat (refine stepK_in ?_; (repeat (first | refine seqQ_n ?_ | refine blockQ_n ?_ | refine awp_skip ?_ | refine awp_seq ?_ | refine awp_block ?_)); (conv => whnf)))
        exact hcall _ _ _ _ g1 g2 (sub_clo fun j hj => absurd hj (by omega)) subR
      ((conv => whnf); repeat (refine stepK_in ?_; (repeat (first | refine seqQ_n ?_ | refine blockQ_n ?_ | refine awp_skip ?_ | refine awp_seq ?_ | refine awp_block ?_)); (conv => whnf)))
      refine br_dec (fun hc => ?_) (fun hc => ?_)
      · have hc := cmpI_neg.1 hc
        have hs' : stopJ (ltK κ) q x k = stopJ (ltK κ) q x i := by
          rw [hs]
          simp only [stopJ]
          rw [hltk, if_pos (decide_eq_true hc)]
        ((conv => whnf); repeat (refine stepK_in ?_; (repeat (first | refine seqQ_n ?_ | refine blockQ_n ?_ | refine awp_skip ?_ | refine awp_seq ?_ | refine awp_block ?_)); (conv => whnf)))
        refine AW_draw (X := ⟨Try.prog, tab, wrL, 53, nb, false⟩) tab_ok mixed (by kernel_rfl) ?_
        ((conv => whnf); repeat (refine stepK_in ?_; (repeat (first | refine seqQ_n ?_ | refine blockQ_n ?_ | refine awp_skip ?_ | refine awp_seq ?_ | refine awp_block ?_)); (conv => whnf)))
        repeat ((first | refine ⟨by omega, ?_⟩ | refine ⟨inr (by omega), ?_⟩); ((conv => whnf); repeat (refine stepK_in ?_; (repeat (first | refine seqQ_n ?_ | refine blockQ_n ?_ | refine awp_skip ?_ | refine awp_seq ?_ | refine awp_block ?_)); (conv => whnf))))
        refine ⟨⟨i, by omega, hs', ?_, ?_⟩, ?_⟩
        · rw [e1]; rfl
        · have hset : ∀ (p1 p2 : Nat) (u v : Int), p1 = i + 1 → p2 = i → u = q.getD i 0 → v = x → ((putL q x (xs.drop (k + 1)) (i + 1)).set p1 u).set p2 v = putL q x (xs.drop (k + 1)) i := by
            rintro _ _ _ _ rfl rfl rfl rfl
            exact putL_swap (by omega)
          exact congrArg (fun l => [some (boxR n F T), some (boxH g), some (⟨3, 1, 0, .il l⟩ : Ob)]) (hset _ _ _ _ (by omega) (by omega) g2 g1)
        · simp [V.toInt, sel, Env.get]
      · have hc : ¬ κ a < κ b := fun h => hc (cmpI_neg.2 h)
        have hs' : stopJ (ltK κ) q x (i + 1) = i + 1 := by
          simp only [stopJ]
          rw [hltk, if_neg (by rw [decide_eq_true_iff]; exact hc)]
        rw [fin hs']
        ((conv => whnf); repeat (refine stepK_in ?_; (repeat (first | refine seqQ_n ?_ | refine blockQ_n ?_ | refine awp_skip ?_ | refine awp_seq ?_ | refine awp_block ?_)); (conv => whnf)))
        refine ⟨inr (by omega), ?_⟩
        ((conv => whnf); repeat (refine stepK_in ?_; (repeat (first | refine seqQ_n ?_ | refine blockQ_n ?_ | refine awp_skip ?_ | refine awp_seq ?_ | refine awp_block ?_)); (conv => whnf)))
        refine ⟨⟨k + 1, by omega, by omega, rfl, rfl⟩, ?_⟩
        simp [V.toInt, sel, Env.get]; omega
    · have hj1 : j = 0 := by omega
      rw [fin (by rw [hj1]; rfl)]
      ((conv => whnf); repeat (refine stepK_in ?_; (repeat (first | refine seqQ_n ?_ | refine blockQ_n ?_ | refine awp_skip ?_ | refine awp_seq ?_ | refine awp_block ?_)); (conv => whnf)))
      refine ⟨inr (by omega), ?_⟩
      ((conv => whnf); repeat (refine stepK_in ?_; (repeat (first | refine seqQ_n ?_ | refine blockQ_n ?_ | refine awp_skip ?_ | refine awp_seq ?_ | refine awp_block ?_)); (conv => whnf)))
      refine ⟨⟨k + 1, by omega, by omega, rfl, rfl⟩, ?_⟩
      simp [V.toInt, sel, Env.get]; omega
  · obtain rfl : k = xs.length := by omega
    ((conv => whnf); repeat (refine stepK_in ?_; (repeat (first | refine seqQ_n ?_ | refine blockQ_n ?_ | refine awp_skip ?_ | refine awp_seq ?_ | refine awp_block ?_)); (conv => whnf)))
    refine ⟨_, rfl, ?_⟩
    simp
end Go.Tri
