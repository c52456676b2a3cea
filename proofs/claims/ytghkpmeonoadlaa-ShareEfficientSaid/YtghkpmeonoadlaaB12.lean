/-
  CONTRACTS: things with their rates are put in order.
-/
import Derived.Test.YtghkpmeonoadlaaB11
import Derived.Test.YtghkpmeonoadlaaM1
namespace Go.Tri
open Go.Proofs

@[reducible] def triV (x a b : Int) : V := .agg 3 fun k => [V.int x, V.int a, V.int b].getD k .any
theorem nofrT3 {x a b : Int} : NoFr (triV x a b) := fun k => by
  match k with
  | 0 => trivial
  | 1 => trivial
  | 2 => trivial
  | _ + 3 => trivial
theorem sub_tri {g : Nat → V} {x a b : Int} (h0 : g 0 = .int x) (h1 : g 1 = .int a) (h2 : g 2 = .int b) : Sub (.agg 3 g) (triV x a b) := sub_agg fun i hi => by
  rcases (by omega : i = 0 ∨ i = 1 ∨ i = 2) with rfl | rfl | rfl
  · rw [h0]; exact Sub.refl _
  · rw [h1]; exact Sub.refl _
  · rw [h2]; exact Sub.refl _
@[reducible] def cmpR : V := .clo 79 0 fun _ => .any
@[reducible] def cmpB : V := .at_ 1 (fun _ => cmpR) 0
theorem nofrCB : NoFr cmpB := fun _ => fun _ => trivial
theorem nofr3 {a b c : V} (h : NoFr a) (h' : NoFr b) (h2 : NoFr c) : ∀ x ∈ [a, b, c], NoFr x := by intro x hx; simp at hx; rcases hx with rfl | rfl | rfl <;> assumption
theorem sorted1_pure (x a b y c d : Int) (ha : in100' a) (hb : in100' b) (hc : in100' c) (hd : in100' d) : APure Try.prog 99 [triV x a b, triV y c d, cmpB] (fun R => R = .int (crI a b c d)) := by
  refine APure_of (X := cx 12) (cx_ok 12) rfl (rs := [(.tmp 5, 3)]) Try.func99 (by decide) rfl rfl rfl (by simp [cx]) (nofr3 nofrT3 nofrT3 nofrCB) ?_
  intro hlen
  ((conv => whnf); repeat (refine stepK_in ?_; (repeat (first | refine seqQ_n ?_ | refine blockQ_n ?_ | refine awp_skip ?_ | refine awp_seq ?_ | refine awp_block ?_)); (conv => whnf)))
  refine APure.to (APure.arg2 (sub_pair rfl rfl) (sub_pair rfl rfl) (compare_pure a b c d ha hb hc hd)) ?_
  ((conv => whnf); repeat (refine stepK_in ?_; (repeat (first | refine seqQ_n ?_ | refine blockQ_n ?_ | refine awp_skip ?_ | refine awp_seq ?_ | refine awp_block ?_)); (conv => whnf)))
  exact ⟨trivial, rfl⟩

/-- Things with their rates, as cells. -/
def triF (f g : Nat → Int) (L : List Int) : Nat → Nat → V := fun j q => match q with | 0 => .int (L.getD j 0) | 1 => .int (f (L.getD j 0).toNat) | _ => .int (g (L.getD j 0).toNat)
theorem tri_set {f g : Nat → Int} {L : List Int} {i i' j q : Nat} {x : Int} {c0 c1 c2 G : V} (hi' : i' = i) (hi : i < L.length) (h0 : c0 = .int x) (h1 : c1 = .int (f x.toNat)) (h2 : c2 = .int (g x.toNat)) (hG : G = triF f g L j q) (hq : q < 3) :
    (if j = i' ∧ q = 0 + 2 then c2 else if j = i' ∧ q = 0 + 1 then c1 else if j = i' ∧ q = 0 + 0 then c0 else G) = triF f g (L.set i x) j q := by
  subst hi' hG h0 h1 h2
  by_cases hj : j = i'
  · subst hj
    have hx : (L.set j x).getD j 0 = x := by rw [getD_setL, if_pos ⟨rfl, hi⟩]
    rcases (by omega : q = 0 ∨ q = 1 ∨ q = 2) with rfl | rfl | rfl
    · refine (if_neg (by omega)).trans ((if_neg (by omega)).trans ((if_pos (by omega)).trans ?_))
      show V.int x = V.int ((L.set j x).getD j 0)
      rw [hx]
    · refine (if_neg (by omega)).trans ((if_pos (by omega)).trans ?_)
      show V.int (f x.toNat) = V.int (f ((L.set j x).getD j 0).toNat)
      rw [hx]
    · refine (if_pos (by omega)).trans ?_
      show V.int (g x.toNat) = V.int (g ((L.set j x).getD j 0).toNat)
      rw [hx]
  · have hx : (L.set i' x).getD j 0 = L.getD j 0 := by rw [getD_setL, if_neg (fun h => hj h.1.symm)]
    refine (if_neg (fun h => hj h.1)).trans ((if_neg (fun h => hj h.1)).trans ((if_neg (fun h => hj h.1)).trans ?_))
    unfold triF
    rw [hx]
theorem namedTF {kp : Nat → Bool} {f g : Nat → Int} {L : List Int} {j q : Nat} : Named kp (triF f g L j q) := by
  unfold triF
  split <;> trivial
def ltR (f g : Nat → Int) (x y : Int) : Bool := decide (crI (f x.toNat) (g x.toNat) (f y.toNat) (g y.toNat) < 0)
def wrS : List FuncId := [97, 98, 116, 122]
@[reducible] def boxC : Ob := ⟨104, 1, 0, .one [cmpR]⟩
@[reducible] def cmpS : V := .clo 99 1 fun _ => .ptr 0 0 0 0
@[reducible] def lsO (f g : Nat → Int) (n : Nat) (L : List Int) : Ob := ⟨128, 3, 0, .cv n (triF f g L)⟩

theorem namedBC {kp : Nat → Bool} : NamedC kp 1 (.one [cmpR]) := ⟨fun k hk => absurd hk (Nat.not_lt_zero k), trivial⟩
set_option maxRecDepth 100000 in
theorem insert_cm {n : Nat} {f g : Nat → Int} (hf : in100 n f) (hg : in100 n g) (xs : List Int) (hx : ∀ y ∈ xs, 0 ≤ y ∧ y < n) (h1 : 1 ≤ xs.length) (h2 : xs.length ≤ 1000) :
    ACM Try.prog 122 [.sl 1 0 0 xs.length, .int 0, .int xs.length, cmpS] [some boxC, some (lsO f g xs.length xs)]
      (fun _ M' => M' = [some boxC, some (lsO f g xs.length (sortP (ltR f g) xs xs.length))]) := by
  refine ACM_of (T := tab) (wr := wrS) tab_ok Try.func122 (by decide) rfl (Nat.le_of_ble_eq_true rfl) (fun nb => ?_)
  have hm : ∀ {k}, k ≤ xs.length → ∀ y ∈ sortP (ltR f g) xs k, 0 ≤ y ∧ y < n := fun hk y hy => hx y (sortP_mem hk hy)
  have hlt : ∀ x y : Int, (0 ≤ x ∧ x < n) → (0 ≤ y ∧ y < n) → APure Try.prog 99 [triV x (f x.toNat) (g x.toNat), triV y (f y.toNat) (g y.toNat), cmpB] (fun R => R = .int (crI (f x.toNat) (g x.toNat) (f y.toNat) (g y.toNat))) := fun x y h h' => sorted1_pure _ _ _ _ _ _ (hf _ (by omega)) (hg _ (by omega)) (hf _ (by omega)) (hg _ (by omega))
  ((conv => whnf); repeat (refine stepK_in ?_; (repeat (first | refine seqQ_n ?_ | refine blockQ_n ?_ | refine awp_skip ?_ | refine awp_seq ?_ | refine awp_block ?_)); (conv => whnf)))
  refine ⟨inr (by omega), ?_⟩
  ((conv => whnf); repeat (refine stepK_in ?_; (repeat (first | refine seqQ_n ?_ | refine blockQ_n ?_ | refine awp_skip ?_ | refine awp_seq ?_ | refine awp_block ?_)); (conv => whnf)))
  refine AW_loopA (X := ⟨Try.prog, tab, wrS, 53, nb, false⟩) tab_ok [0, 1, 2, 3, 8] (fun t => Nat.blt t 2) (fun vs M => ∃ k : Nat, 1 ≤ k ∧ k ≤ xs.length ∧ vs = [.sl 1 0 0 xs.length, .int 0, .int xs.length, cmpS, .int k] ∧ M = [some boxC, some (lsO f g xs.length (sortP (ltR f g) xs k ++ xs.drop k))])
    (fun vs _ => xs.length - (vs.getD 4 .any).toInt.toNat) (fun t ht => by have : t < 2 := ht; simp; omega) ?_ ?_
  · refine same0 ⟨1, Nat.le_refl _, h1, rfl, ?_⟩
    have : xs = sortP (ltR f g) xs 1 ++ xs.drop 1 := by
      refine ext_getD (by rw [List.length_append, sortP_len, List.length_drop]; omega) (fun j hj => ?_)
      rw [getD_app, sortP_len]
      by_cases h : j < 1
      · rw [if_pos h, show j = 0 from by omega]; rfl
      · rw [if_neg h, getD_drop]; congr 1; omega
    exact congrArg (fun q => [some boxC, some (lsO f g xs.length q)]) this
  rintro vs M ⟨k, hk1, hk, rfl, rfl⟩
  ((conv => whnf); repeat (refine stepK_in ?_; (repeat (first | refine seqQ_n ?_ | refine blockQ_n ?_ | refine awp_skip ?_ | refine awp_seq ?_ | refine awp_block ?_)); (conv => whnf)))
  refine br_dec (fun hlt2 => ?_) (fun hge => ?_)
  · have hk' : k < xs.length := by omega
    have hql := sortP_len (ltR f g) xs k
    have hqm := hm hk
    have hxm := hx _ (getD_mem' hk')
    have hnx : sortP (ltR f g) xs (k + 1) = insP (ltR f g) (sortP (ltR f g) xs k) (xs.getD k 0) := rfl
    have e0 : sortP (ltR f g) xs k ++ xs.drop k = putL (sortP (ltR f g) xs k) (xs.getD k 0) (xs.drop (k + 1)) k := by
      unfold putL
      rw [List.take_of_length_le (by omega), List.drop_of_length_le (l := sortP (ltR f g) xs k) (by omega)]
      simp only [List.append_nil, List.append_assoc]
      congr 1
      rw [List.drop_eq_getElem_cons hk']
      simp [List.getD, hk']
    rw [e0]
    generalize sortP (ltR f g) xs k = q at *
    generalize xs.getD k 0 = x at *
    ((conv => whnf); repeat (refine stepK_in ?_; (repeat (first | refine seqQ_n ?_ | refine blockQ_n ?_ | refine awp_skip ?_ | refine awp_seq ?_ | refine awp_block ?_)); (conv => whnf)))
    refine AW_loopA (X := ⟨Try.prog, tab, wrS, 53, nb, false⟩) tab_ok [0, 1, 2, 3, 8, 9] (fun t => Nat.blt t 2) (fun vs M => ∃ j : Nat, j ≤ k ∧ stopJ (ltR f g) q x k = stopJ (ltR f g) q x j ∧ vs = [.sl 1 0 0 xs.length, .int 0, .int xs.length, cmpS, .int k, .int j] ∧ M = [some boxC, some (lsO f g xs.length (putL q x (xs.drop (k + 1)) j))])
      (fun vs _ => (vs.getD 5 .any).toInt.toNat) (fun t ht => by have : t < 2 := ht; simp; omega) ?_ ?_
    · exact same0 ⟨k, Nat.le_refl _, rfl, rfl, rfl⟩
    rintro vs M ⟨j, hj, hs, rfl, rfl⟩
    have hpl := putL_len (q := q) (x := x) (r := xs.drop (k + 1)) (j := j) (by omega)
    rw [List.length_drop] at hpl
    have fin : stopJ (ltR f g) q x j = j → putL q x (xs.drop (k + 1)) j = sortP (ltR f g) xs (k + 1) ++ xs.drop (k + 1) := fun h => by
      rw [hnx]
      unfold insP
      rw [hql, hs, h, ← putL_nil]
    ((conv => whnf); repeat (refine stepK_in ?_; (repeat (first | refine seqQ_n ?_ | refine blockQ_n ?_ | refine awp_skip ?_ | refine awp_seq ?_ | refine awp_block ?_)); (conv => whnf)))
    refine AW_draw (X := ⟨Try.prog, tab, wrS, 53, nb, false⟩) tab_ok mixed (by kernel_rfl) ?_
    ((conv => whnf); repeat (refine stepK_in ?_; (repeat (first | refine seqQ_n ?_ | refine blockQ_n ?_ | refine awp_skip ?_ | refine awp_seq ?_ | refine awp_block ?_)); (conv => whnf)))
    refine br_dec (fun hj0 => ?_) (fun hj0 => ?_)
    · obtain ⟨i, rfl⟩ : ∃ i, j = i + 1 := ⟨j - 1, by omega⟩
      have e1 : ((i + 1 : Nat) : Int) - 1 = i := by omega
      have g1 : (putL q x (xs.drop (k + 1)) (i + 1)).getD (0 + ((i + 1 : Nat) : Int).toNat) 0 = x := by
        rw [Int.toNat_natCast, Nat.zero_add, putL_get (by omega), if_neg (by omega), if_pos rfl]
      have g2 : (putL q x (xs.drop (k + 1)) (i + 1)).getD (0 + (((i + 1 : Nat) : Int) - 1).toNat) 0 = q.getD i 0 := by
        rw [e1, Int.toNat_natCast, Nat.zero_add, putL_get (by omega), if_pos (by omega)]
      have hqi := hqm _ (getD_mem' (l := q) (k := i) (by omega))
      have hltk : ltR f g x (q.getD i 0) = decide (crI (f x.toNat) (g x.toNat) (f (q.getD i 0).toNat) (g (q.getD i 0).toNat) < 0) := rfl
      have hsw := putL_swap (q := q) (x := x) (r := xs.drop (k + 1)) (j := i) (by omega)
      ((conv => whnf); repeat (refine stepK_in ?_; (repeat (first | refine seqQ_n ?_ | refine blockQ_n ?_ | refine awp_skip ?_ | refine awp_seq ?_ | refine awp_block ?_)); (conv => whnf)))
      repeat ((first | refine ⟨by omega, ?_⟩ | refine ⟨inr (by omega), ?_⟩); ((conv => whnf); repeat (refine stepK_in ?_; (repeat (first | refine seqQ_n ?_ | refine blockQ_n ?_ | refine awp_skip ?_ | refine awp_seq ?_ | refine awp_block ?_)); (conv => whnf))))
      refine ⟨.int (crI (f x.toNat) (g x.toNat) (f (q.getD i 0).toNat) (g (q.getD i 0).toNat)), ?_, ?_⟩
      · ((conv => whnf); repeat (refine stepK_in ?_; (repeat (first | refine seqQ_n ?_ | refine blockQ_n ?_ | refine awp_skip ?_ | refine awp_seq ?_ | refine awp_block ?_)); (conv => whnf)))
        exact APure.arg3 (sub_tri (congrArg V.int g1) (congrArg (fun z : Int => V.int (f z.toNat)) g1) (congrArg (fun z : Int => V.int (g z.toNat)) g1)) (sub_tri (congrArg V.int g2) (congrArg (fun z : Int => V.int (f z.toNat)) g2) (congrArg (fun z : Int => V.int (g z.toNat)) g2)) (sub_at fun k hk => by
          obtain rfl : k = 0 := by have hk : k < 1 := hk; omega
          exact sub_clo fun j hj => absurd hj (by omega)) (hlt x (q.getD i 0) hxm hqi)
      ((conv => whnf); repeat (refine stepK_in ?_; (repeat (first | refine seqQ_n ?_ | refine blockQ_n ?_ | refine awp_skip ?_ | refine awp_seq ?_ | refine awp_block ?_)); (conv => whnf)))
      refine br_dec (fun hc => ?_) (fun hc => ?_)
      · have hs' : stopJ (ltR f g) q x k = stopJ (ltR f g) q x i := by
          rw [hs]
          simp only [stopJ]
          rw [hltk, if_pos (decide_eq_true hc)]
        ((conv => whnf); repeat (refine stepK_in ?_; (repeat (first | refine seqQ_n ?_ | refine blockQ_n ?_ | refine awp_skip ?_ | refine awp_seq ?_ | refine awp_block ?_)); (conv => whnf)))
        refine AW_draw (X := ⟨Try.prog, tab, wrS, 53, nb, false⟩) tab_ok mixed (by kernel_rfl) ?_
        ((conv => whnf); repeat (refine stepK_in ?_; (repeat (first | refine seqQ_n ?_ | refine blockQ_n ?_ | refine awp_skip ?_ | refine awp_seq ?_ | refine awp_block ?_)); (conv => whnf)))
        repeat ((first | refine ⟨by omega, ?_⟩ | refine ⟨inr (by omega), ?_⟩); ((conv => whnf); repeat (refine stepK_in ?_; (repeat (first | refine seqQ_n ?_ | refine blockQ_n ?_ | refine awp_skip ?_ | refine awp_seq ?_ | refine awp_block ?_)); (conv => whnf))))
        refine ⟨⟨by repeat (first | exact trivial | exact rfl | exact fun _ _ => rfl |  exact fun _ => trivial | exact fun _ _ => trivial | exact fun _ _ _ => trivial | exact fun _ _ _ _ => trivial | refine And.intro ?_ ?_), ?_⟩, memA1 [some boxC, some (lsO f g xs.length (putL q x (xs.drop (k + 1)) i))] ⟨ObSub.refl _, ObSub_vv (fun j z hj hz => ?_), trivial⟩ ⟨⟨i, by omega, hs', by rw [e1]; rfl, rfl⟩, ?_⟩⟩
        · refine ⟨namedBC, fun j z _ hz => ?_, trivial⟩
          · have hz : z < 3 := hz
            rcases (by omega : z = 0 ∨ z = 1 ∨ z = 2) with rfl | rfl | rfl <;> repeat (first | exact trivial | exact namedTF | (show Named _ (if _ then _ else _); split))
        · have hz : z < 3 := hz
          rw [← hsw]
          exact tri_set (i := i) (x := x) (by omega) (by rw [List.length_set, hpl]; omega) (congrArg V.int g1) (congrArg (fun z : Int => V.int (f z.toNat)) g1) (congrArg (fun z : Int => V.int (g z.toNat)) g1)
            (tri_set (i := i + 1) (x := q.getD i 0) (by omega) (by rw [hpl]; omega) (congrArg V.int g2) (congrArg (fun z : Int => V.int (f z.toNat)) g2) (congrArg (fun z : Int => V.int (g z.toNat)) g2) rfl hz) hz
        · simp [V.toInt, sel, Env.get]
      · have hs' : stopJ (ltR f g) q x (i + 1) = i + 1 := by
          simp only [stopJ]
          rw [hltk, if_neg (by rw [decide_eq_true_iff]; exact hc)]
        rw [fin hs']
        ((conv => whnf); repeat (refine stepK_in ?_; (repeat (first | refine seqQ_n ?_ | refine blockQ_n ?_ | refine awp_skip ?_ | refine awp_seq ?_ | refine awp_block ?_)); (conv => whnf)))
        refine ⟨inr (by omega), ?_⟩
        ((conv => whnf); repeat (refine stepK_in ?_; (repeat (first | refine seqQ_n ?_ | refine blockQ_n ?_ | refine awp_skip ?_ | refine awp_seq ?_ | refine awp_block ?_)); (conv => whnf)))
        refine ⟨⟨by repeat (first | exact trivial | exact rfl | exact fun _ _ => rfl |  exact fun _ => trivial | exact fun _ _ => trivial | exact fun _ _ _ => trivial | exact fun _ _ _ _ => trivial | refine And.intro ?_ ?_), ?_⟩, memA1 [some boxC, some (lsO f g xs.length (sortP (ltR f g) xs (k + 1) ++ xs.drop (k + 1)))] ⟨ObSub.refl _, ObSub.refl _, trivial⟩ ⟨⟨k + 1, by omega, by omega, rfl, rfl⟩, ?_⟩⟩
        · exact ⟨namedBC, fun _ _ _ _ => namedTF, trivial⟩
        · simp [V.toInt, sel, Env.get]; omega
    · have hj1 : j = 0 := by omega
      rw [fin (by rw [hj1]; rfl)]
      ((conv => whnf); repeat (refine stepK_in ?_; (repeat (first | refine seqQ_n ?_ | refine blockQ_n ?_ | refine awp_skip ?_ | refine awp_seq ?_ | refine awp_block ?_)); (conv => whnf)))
      refine ⟨inr (by omega), ?_⟩
      ((conv => whnf); repeat (refine stepK_in ?_; (repeat (first | refine seqQ_n ?_ | refine blockQ_n ?_ | refine awp_skip ?_ | refine awp_seq ?_ | refine awp_block ?_)); (conv => whnf)))
      refine ⟨⟨by repeat (first | exact trivial | exact rfl | exact fun _ _ => rfl |  exact fun _ => trivial | exact fun _ _ => trivial | exact fun _ _ _ => trivial | exact fun _ _ _ _ => trivial | refine And.intro ?_ ?_), ?_⟩, memA1 [some boxC, some (lsO f g xs.length (sortP (ltR f g) xs (k + 1) ++ xs.drop (k + 1)))] ⟨ObSub.refl _, ObSub.refl _, trivial⟩ ⟨⟨k + 1, by omega, by omega, rfl, rfl⟩, ?_⟩⟩
      · exact ⟨namedBC, fun _ _ _ _ => namedTF, trivial⟩
      · simp [V.toInt, sel, Env.get]; omega
  · obtain rfl : k = xs.length := by omega
    ((conv => whnf); repeat (refine stepK_in ?_; (repeat (first | refine seqQ_n ?_ | refine blockQ_n ?_ | refine awp_skip ?_ | refine awp_seq ?_ | refine awp_block ?_)); (conv => whnf)))
    refine ⟨_, rfl, ?_⟩
    rw [List.drop_length, List.append_nil]
end Go.Tri
