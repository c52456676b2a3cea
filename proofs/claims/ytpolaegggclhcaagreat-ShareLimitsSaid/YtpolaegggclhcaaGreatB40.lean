/-
 CONTRACTS: slices.Values, Collect, Sort, Sorted; is a list an assignment?
-/
import Derived.Test.YtpolaegggclhcaaGreatM16
import Derived.Test.YtpolaegggclhcaaGreatB6
namespace Go.Tri
open Go.Proofs

@[reducible] def wSo : List FuncId := [61, 82, 80, 87, 81, 88, 92]
def okSo : List FuncId := [89, 102, 101]
set_option maxRecDepth 100000 in
theorem okSo_ok : okSo.all (okFn Tryz.prog (fun _ _ => none)) = true := by kernel_rfl
noncomputable def evSo : Ev := ⟨Tryz.prog, tab, [], okSo, [], (fun _ _ => none), 500, okSo_ok, [], []⟩
theorem Less_pure (a b : Int) : APure Tryz.prog 98 [.int a, .int b] (fun R => R = .bool (decide (a < b))) := by
 refine APure_of (X := cx 17) (cx_ok 17) rfl (rs := [(.tmp 4, 4)]) Tryz.func98 (by decide) rfl rfl rfl (by simp [cx]) (by simp [NoFr]) ?_
 intro _
 ((conv=>whnf);repeat (refine Wa ?_;(repeat (first|refine Wb ?_|refine Wc ?_|refine Wd ?_|refine We ?_|refine Wf ?_));(conv=>whnf)))
 refine APure.to (isNaN_pure a) ?_
 ((conv=>whnf);repeat (refine Wa ?_;(repeat (first|refine Wb ?_|refine Wc ?_|refine Wd ?_|refine We ?_|refine Wf ?_));(conv=>whnf)))
 exact ⟨trivial, rfl⟩
theorem sort_one {xs : List Int} (h1 : 1 ≤ xs.length) : xs = sortP ltI xs 1 ++ xs.drop 1 := by
 refine ext_getD (by rw [List.length_append, sortP_len, List.length_drop]; omega) (fun j hj => ?_)
 rw [getD_app, sortP_len]
 by_cases h : j < 1
 ·rw [if_pos h, show j = 0 from by omega]; rfl
 ·rw [if_neg h, getD_drop]; congr 1; omega
theorem sort_put {xs : List Int} {k : Nat} (hk' : k < xs.length) : sortP ltI xs k ++ xs.drop k = putL (sortP ltI xs k) (xs.getD k 0) (xs.drop (k + 1)) k := by
 have hql := sortP_len ltI xs k
 unfold putL
 rw [List.take_of_length_le (by omega), List.drop_of_length_le (l := sortP ltI xs k) (by omega)]
 simp only [List.append_nil, List.append_assoc]
 congr 1
 rw [List.drop_eq_getElem_cons hk']
 simp [List.getD, hk']

set_option maxRecDepth 100000 in
theorem insOrd3 (ver : Nat) (xs : List Int) (h1 : 1 ≤ xs.length) (h2 : xs.length ≤ 1000) :
  ACM Tryz.prog 92 [.sl 3 ver 0 xs.length, .int 0, .int xs.length] [none, none, none, some ⟨3, 1, ver, .il xs⟩] (fun _ M' => M' = [none, none, none, some ⟨3, 1, ver, .il (sortP ltI xs xs.length)⟩]) := by
 refine ACM_of (T := tab) (wr := wSo) tab_ok Tryz.func92 (by decide) rfl (Nat.le_of_ble_eq_true rfl) (fun nb => ?_)
 ((conv=>whnf);repeat (refine Wa ?_;(repeat (first|refine Wb ?_|refine Wc ?_|refine Wd ?_|refine We ?_|refine Wf ?_));(conv=>whnf)))
 refine ⟨inr (by omega), ?_⟩
 ((conv=>whnf);repeat (refine Wa ?_;(repeat (first|refine Wb ?_|refine Wc ?_|refine Wd ?_|refine We ?_|refine Wf ?_));(conv=>whnf)))
 refine AW_loop (X := ⟨Tryz.prog, tab, wSo, 49, nb, false⟩) tab_ok [0, 1, 2, 6] (fun vs M => ∃ k : Nat, 1 ≤ k ∧ k ≤ xs.length ∧ vs = [.sl 3 ver 0 xs.length, .int 0, .int xs.length, .int k] ∧ M = [none, none, none, some ⟨3, 1, ver, .il (sortP ltI xs k ++ xs.drop k)⟩])
  (fun vs _ => xs.length - (vs.getD 3 .any).toInt.toNat) ?_ ?_
 ·refine ⟨1, Nat.le_refl _, h1, rfl, ?_⟩
  exact congrArg (fun l => [none, none, none, some (⟨3, 1, ver, .il l⟩ : Ob)]) (sort_one h1)
 rintro vs M ⟨k, hk1, hk, rfl, rfl⟩
 ((conv=>whnf);repeat (refine Wa ?_;(repeat (first|refine Wb ?_|refine Wc ?_|refine Wd ?_|refine We ?_|refine Wf ?_));(conv=>whnf)))
 refine br_dec (fun hlt2 => ?_) (fun hge => ?_)
 ·have hk' : k < xs.length := by omega
  have hql := sortP_len ltI xs k
  have hnx : sortP ltI xs (k + 1) = insP ltI (sortP ltI xs k) (xs.getD k 0) := rfl
  have e0 : sortP ltI xs k ++ xs.drop k = putL (sortP ltI xs k) (xs.getD k 0) (xs.drop (k + 1)) k := sort_put hk'
  rw [e0]
  generalize sortP ltI xs k = q at *
  generalize xs.getD k 0 = x at *
  ((conv=>whnf);repeat (refine Wa ?_;(repeat (first|refine Wb ?_|refine Wc ?_|refine Wd ?_|refine We ?_|refine Wf ?_));(conv=>whnf)))
  refine AW_loop (X := ⟨Tryz.prog, tab, wSo, 49, nb, false⟩) tab_ok [0, 1, 2, 6, 7] (fun vs M => ∃ j : Nat, j ≤ k ∧ stopJ ltI q x k = stopJ ltI q x j ∧ vs = [.sl 3 ver 0 xs.length, .int 0, .int xs.length, .int k, .int j] ∧ M = [none, none, none, some ⟨3, 1, ver, .il (putL q x (xs.drop (k + 1)) j)⟩])
   (fun vs _ => (vs.getD 4 .any).toInt.toNat) ?_ ?_
  ·exact ⟨k, Nat.le_refl _, rfl, rfl, rfl⟩
  rintro vs M ⟨j, hj, hs, rfl, rfl⟩
  have hpl := putL_len (q := q) (x := x) (r := xs.drop (k + 1)) (j := j) (by omega)
  rw [List.length_drop] at hpl
  have fin : stopJ ltI q x j = j → putL q x (xs.drop (k + 1)) j = sortP ltI xs (k + 1) ++ xs.drop (k + 1) := fun h => by
   rw [hnx]
   unfold insP
   rw [hql, hs, h, ← putL_nil]
  ((conv=>whnf);repeat (refine Wa ?_;(repeat (first|refine Wb ?_|refine Wc ?_|refine Wd ?_|refine We ?_|refine Wf ?_));(conv=>whnf)))
  refine AW_draw (X := ⟨Tryz.prog, tab, wSo, 49, nb, false⟩) tab_ok mixed (by kernel_rfl) ?_
  ((conv=>whnf);repeat (refine Wa ?_;(repeat (first|refine Wb ?_|refine Wc ?_|refine Wd ?_|refine We ?_|refine Wf ?_));(conv=>whnf)))
  refine br_dec (fun hj0 => ?_) (fun hj0 => ?_)
  ·obtain ⟨i, rfl⟩ : ∃ i, j = i + 1 := ⟨j - 1, by omega⟩
   have e1 : ((i + 1 : Nat) : Int) - 1 = i := by omega
   have g1 : (putL q x (xs.drop (k + 1)) (i + 1)).getD (0 + ((i + 1 : Nat) : Int).toNat) 0 = x := by
    rw [Int.toNat_natCast, Nat.zero_add, putL_get (by omega), if_neg (by omega), if_pos rfl]
   have g2 : (putL q x (xs.drop (k + 1)) (i + 1)).getD (0 + (((i + 1 : Nat) : Int) - 1).toNat) 0 = q.getD i 0 := by
    rw [e1, Int.toNat_natCast, Nat.zero_add, putL_get (by omega), if_pos (by omega)]
   ((conv=>whnf);repeat (refine Wa ?_;(repeat (first|refine Wb ?_|refine Wc ?_|refine Wd ?_|refine We ?_|refine Wf ?_));(conv=>whnf)))
   repeat ((first | refine eqn_self ?_ | refine ⟨by omega, ?_⟩ | refine ⟨inr (by omega), ?_⟩); ((conv=>whnf);repeat (refine Wa ?_;(repeat (first|refine Wb ?_|refine Wc ?_|refine Wd ?_|refine We ?_|refine Wf ?_));(conv=>whnf))))
   have hltk : ltI x (q.getD i 0) = decide (x < q.getD i 0) := rfl
   have hcall : ∀ u v : Int, u = x → v = q.getD i 0 → APure Tryz.prog 98 [.int u, .int v] (fun R => R = .bool (decide (x < q.getD i 0))) := fun u v hu hv => by rw [hu, hv]; exact Less_pure _ _
   refine ⟨.bool (decide (x < q.getD i 0)), ?_, ?_⟩
   ·((conv=>whnf);repeat (refine Wa ?_;(repeat (first|refine Wb ?_|refine Wc ?_|refine Wd ?_|refine We ?_|refine Wf ?_));(conv=>whnf)))
    exact hcall _ _ g1 g2
   ((conv=>whnf);repeat (refine Wa ?_;(repeat (first|refine Wb ?_|refine Wc ?_|refine Wd ?_|refine We ?_|refine Wf ?_));(conv=>whnf)))
   refine br_dec (fun hc => ?_) (fun hc => ?_)
   ·have hs' : stopJ ltI q x k = stopJ ltI q x i := by
     rw [hs]
     simp only [stopJ]
     rw [hltk, if_pos (decide_eq_true hc)]
    ((conv=>whnf);repeat (refine Wa ?_;(repeat (first|refine Wb ?_|refine Wc ?_|refine Wd ?_|refine We ?_|refine Wf ?_));(conv=>whnf)))
    refine AW_draw (X := ⟨Tryz.prog, tab, wSo, 49, nb, false⟩) tab_ok mixed (by kernel_rfl) ?_
    ((conv=>whnf);repeat (refine Wa ?_;(repeat (first|refine Wb ?_|refine Wc ?_|refine Wd ?_|refine We ?_|refine Wf ?_));(conv=>whnf)))
    repeat ((first | refine eqn_self ?_ | refine ⟨by omega, ?_⟩ | refine ⟨inr (by omega), ?_⟩ | refine ldk (by omega) ?_); ((conv=>whnf);repeat (refine Wa ?_;(repeat (first|refine Wb ?_|refine Wc ?_|refine Wd ?_|refine We ?_|refine Wf ?_));(conv=>whnf))))
    refine ⟨⟨i, by omega, hs', ?_, ?_⟩, ?_⟩
    ·rw [e1]; rfl
    ·have hset : ∀ (p1 p2 : Nat) (u v : Int), p1 = i + 1 → p2 = i → u = q.getD i 0 → v = x → ((putL q x (xs.drop (k + 1)) (i + 1)).set p1 u).set p2 v = putL q x (xs.drop (k + 1)) i := by
      rintro _ _ _ _ rfl rfl rfl rfl
      exact putL_swap (by omega)
     exact congrArg (fun l => [none, none, none, some (⟨3, 1, ver, .il l⟩ : Ob)]) (hset _ _ _ _ (by omega) (by omega) g2 g1)
    ·simp [V.toInt, sel, Env.get]
   ·have hs' : stopJ ltI q x (i + 1) = i + 1 := by
     simp only [stopJ]
     rw [hltk, if_neg (by rw [decide_eq_true_iff]; exact hc)]
    rw [fin hs']
    ((conv=>whnf);repeat (refine Wa ?_;(repeat (first|refine Wb ?_|refine Wc ?_|refine Wd ?_|refine We ?_|refine Wf ?_));(conv=>whnf)))
    refine ⟨inr (by omega), ?_⟩
    ((conv=>whnf);repeat (refine Wa ?_;(repeat (first|refine Wb ?_|refine Wc ?_|refine Wd ?_|refine We ?_|refine Wf ?_));(conv=>whnf)))
    refine ⟨⟨k + 1, by omega, by omega, rfl, rfl⟩, ?_⟩
    simp [V.toInt, sel, Env.get]; omega
  ·have hj1 : j = 0 := by omega
   rw [fin (by rw [hj1]; rfl)]
   ((conv=>whnf);repeat (refine Wa ?_;(repeat (first|refine Wb ?_|refine Wc ?_|refine Wd ?_|refine We ?_|refine Wf ?_));(conv=>whnf)))
   refine ⟨inr (by omega), ?_⟩
   ((conv=>whnf);repeat (refine Wa ?_;(repeat (first|refine Wb ?_|refine Wc ?_|refine Wd ?_|refine We ?_|refine Wf ?_));(conv=>whnf)))
   refine ⟨⟨k + 1, by omega, by omega, rfl, rfl⟩, ?_⟩
   simp [V.toInt, sel, Env.get]; omega
 ·obtain rfl : k = xs.length := by omega
  ((conv=>whnf);repeat (refine Wa ?_;(repeat (first|refine Wb ?_|refine Wc ?_|refine Wd ?_|refine We ?_|refine Wf ?_));(conv=>whnf)))
  refine ⟨_, rfl, ?_⟩
  simp

theorem wrap_small {n : Nat} (h : n ≤ 1000) : IntKind.u64.wrap (n : Int) = n := by
 simp [IntKind.wrap, IntKind.signed, IntKind.bits]
 omega
theorem bitsLen_eval (v : Int) (c : Int) (h : evFn evSo 12 true 89 [.lit (.int .u64 v)] [] = some (.int c, [])) : APure Tryz.prog 89 [.lit (.int .u64 v)] (fun R => R = .int c) :=
 APure_eval (E := evSo) tab_ok mixed (by intro q hq; cases hq) (by simp [NoFr]) h
set_option maxRecDepth 100000 in
theorem bitsLen_pure (n : Nat) (h : n ≤ 9) (v : Int) (hv : v = n) : ∃ c : Int, APure Tryz.prog 89 [.lit (.int .u64 v)] (fun R => R = .int c) := by
 subst hv
 rcases (by omega : n = 0 ∨ n = 1 ∨ n = 2 ∨ n = 3 ∨ n = 4 ∨ n = 5 ∨ n = 6 ∨ n = 7 ∨ n = 8 ∨ n = 9) with rfl | rfl | rfl | rfl | rfl | rfl | rfl | rfl | rfl | rfl
 ·exact ⟨0, bitsLen_eval 0 0 (by kernel_rfl)⟩
 ·exact ⟨1, bitsLen_eval 1 1 (by kernel_rfl)⟩
 ·exact ⟨2, bitsLen_eval 2 2 (by kernel_rfl)⟩
 ·exact ⟨2, bitsLen_eval 3 2 (by kernel_rfl)⟩
 ·exact ⟨3, bitsLen_eval 4 3 (by kernel_rfl)⟩
 ·exact ⟨3, bitsLen_eval 5 3 (by kernel_rfl)⟩
 ·exact ⟨3, bitsLen_eval 6 3 (by kernel_rfl)⟩
 ·exact ⟨3, bitsLen_eval 7 3 (by kernel_rfl)⟩
 ·exact ⟨4, bitsLen_eval 8 4 (by kernel_rfl)⟩
 ·exact ⟨4, bitsLen_eval 9 4 (by kernel_rfl)⟩

theorem pdqOrd3 (ver : Nat) (c : Int) (xs : List Int) (h1 : 1 ≤ xs.length) (h2 : xs.length ≤ 12) :
  ACM Tryz.prog 88 [.sl 3 ver 0 xs.length, .int 0, .int xs.length, .int c] [none, none, none, some ⟨3, 1, ver, .il xs⟩] (fun _ M' => M' = [none, none, none, some ⟨3, 1, ver, .il (sortP ltI xs xs.length)⟩]) := by
 refine ACM_of (T := tab) (wr := wSo) tab_ok Tryz.func88 (by decide) rfl (Nat.le_of_ble_eq_true rfl) (fun nb => ?_)
 ((conv=>whnf);repeat (refine Wa ?_;(repeat (first|refine Wb ?_|refine Wc ?_|refine Wd ?_|refine We ?_|refine Wf ?_));(conv=>whnf)))
 refine AW_loop (X := ⟨Tryz.prog, tab, wSo, 134, nb, false⟩) tab_ok [0, 1, 2, 3, 8, 9] (fun vs M => vs = [.sl 3 ver 0 xs.length, .int 0, .int xs.length, .int c, .bool true, .bool true] ∧ M = [none, none, none, some ⟨3, 1, ver, .il xs⟩]) (fun _ _ => 0) ?_ ?_
 ·exact ⟨rfl, rfl⟩
 rintro vs M ⟨rfl, rfl⟩
 ((conv=>whnf);repeat (refine Wa ?_;(repeat (first|refine Wb ?_|refine Wc ?_|refine Wd ?_|refine We ?_|refine Wf ?_));(conv=>whnf)))
 refine ⟨inr (by omega), ?_⟩
 ((conv=>whnf);repeat (refine Wa ?_;(repeat (first|refine Wb ?_|refine Wc ?_|refine Wd ?_|refine We ?_|refine Wf ?_));(conv=>whnf)))
 refine br_dec (fun _ => ?_) (fun h => absurd (show (xs.length : Int) - 0 ≤ 12 by omega) h)
 ((conv=>whnf);repeat (refine Wa ?_;(repeat (first|refine Wb ?_|refine Wc ?_|refine Wd ?_|refine We ?_|refine Wf ?_));(conv=>whnf)))
 refine (insOrd3 ver xs h1 (by omega)).mono ?_
 rintro R M' rfl
 ((conv=>whnf);repeat (refine Wa ?_;(repeat (first|refine Wb ?_|refine Wc ?_|refine Wd ?_|refine We ?_|refine Wf ?_));(conv=>whnf)))
 exact ⟨_, rfl, rfl⟩

theorem sortI3 (ver : Nat) (xs : List Int) (h1 : 1 ≤ xs.length) (h2 : xs.length ≤ 9) :
  ACM Tryz.prog 81 [.sl 3 ver 0 xs.length] [none, none, none, some ⟨3, 1, ver, .il xs⟩] (fun R M' => R = V.un ∧ M' = [none, none, none, some ⟨3, 1, ver, .il (sortP ltI xs xs.length)⟩]) := by
 refine ACM_of (T := tab) (wr := wSo) tab_ok Tryz.func81 (by decide) rfl (Nat.le_of_ble_eq_true rfl) (fun nb => ?_)
 obtain ⟨c, hc⟩ := bitsLen_pure xs.length h2 _ (wrap_small (by omega))
 ((conv=>whnf);repeat (refine Wa ?_;(repeat (first|refine Wb ?_|refine Wc ?_|refine Wd ?_|refine We ?_|refine Wf ?_));(conv=>whnf)))
 refine eqn_self ?_
 ((conv=>whnf);repeat (refine Wa ?_;(repeat (first|refine Wb ?_|refine Wc ?_|refine Wd ?_|refine We ?_|refine Wf ?_));(conv=>whnf)))
 refine APure.to hc ?_
 ((conv=>whnf);repeat (refine Wa ?_;(repeat (first|refine Wb ?_|refine Wc ?_|refine Wd ?_|refine We ?_|refine Wf ?_));(conv=>whnf)))
 refine (pdqOrd3 ver c xs h1 (by omega)).mono ?_
 rintro R M' rfl
 ((conv=>whnf);repeat (refine Wa ?_;(repeat (first|refine Wb ?_|refine Wc ?_|refine Wd ?_|refine We ?_|refine Wf ?_));(conv=>whnf)))
 exact ⟨_, rfl, rfl, rfl⟩


/-- A loop over the values of a row. -/
theorem vals_cm (xs : List Int) (hx : (xs.length : Int) ≤ 9223372036854775807) (t : Nat) (I : Nat → Mem → Prop)
  (hy : ∀ k M, k < xs.length → I k M → YW Tryz.prog t [.int (xs.getD k 0)] M (fun R M' => R = .bool true ∧ I (k + 1) M'))
  (M : Mem) (h0 : I 0 M) : ACM Tryz.prog 82 [.yld t, .at_ 1 (fun _ => .ints false xs) 0] M (fun _ M' => I xs.length M') := by
 refine ACM_of (T := tab) (wr := wSo) tab_ok Tryz.func82 (by decide) rfl (Nat.le_of_ble_eq_true rfl) (fun nb => ?_)
 ((conv=>whnf);repeat (refine Wa ?_;(repeat (first|refine Wb ?_|refine Wc ?_|refine Wd ?_|refine We ?_|refine Wf ?_));(conv=>whnf)))
 refine AW_loop (X := ⟨Tryz.prog, tab, wSo, 16, nb, false⟩) tab_ok [0, 5, 6, 7] (fun vs M => ∃ k : Nat, k ≤ xs.length ∧ I k M ∧ vs = [.yld t, .ints false xs, .int xs.length, .int k]) (fun vs _ => (xs.length - (vs.getD 3 .any).toInt).toNat) ?_ ?_
 ·exact ⟨0, Nat.zero_le _, h0, rfl⟩
 rintro vs M ⟨k, hk, hI, rfl⟩
 ((conv=>whnf);repeat (refine Wa ?_;(repeat (first|refine Wb ?_|refine Wc ?_|refine Wd ?_|refine We ?_|refine Wf ?_));(conv=>whnf)))
 refine br_dec (fun hlt => ?_) (fun hge => ?_)
 ·have hk' : k < xs.length := by omega
  ((conv=>whnf);repeat (refine Wa ?_;(repeat (first|refine Wb ?_|refine Wc ?_|refine Wd ?_|refine We ?_|refine Wf ?_));(conv=>whnf)))
  repeat ((first | refine ⟨by omega, ?_⟩ | refine ⟨inr (by omega), ?_⟩ | refine eqn_self ?_ | refine ⟨ms (by omega), ?_⟩ | refine ⟨ms (by simp only [Src.n]; omega), ?_⟩ | refine ⟨msk (by omega), ?_⟩ | refine ⟨ms1, ?_⟩); ((conv=>whnf);repeat (refine Wa ?_;(repeat (first|refine Wb ?_|refine Wc ?_|refine Wd ?_|refine We ?_|refine Wf ?_));(conv=>whnf))))
  refine (hy k M hk' hI).mono ?_
  rintro R M' ⟨rfl, hI'⟩
  ((conv=>whnf);repeat (refine Wa ?_;(repeat (first|refine Wb ?_|refine Wc ?_|refine Wd ?_|refine We ?_|refine Wf ?_));(conv=>whnf)))
  repeat ((first | refine ⟨by omega, ?_⟩ | refine ⟨inr (by omega), ?_⟩ | refine eqn_self ?_ | refine ⟨ms (by omega), ?_⟩ | refine ⟨ms (by simp only [Src.n]; omega), ?_⟩ | refine ⟨msk (by omega), ?_⟩ | refine ⟨ms1, ?_⟩); ((conv=>whnf);repeat (refine Wa ?_;(repeat (first|refine Wb ?_|refine Wc ?_|refine Wd ?_|refine We ?_|refine Wf ?_));(conv=>whnf))))
  refine ⟨⟨k + 1, hk', hI', rfl⟩, ?_⟩
  simp [V.toInt, sel, Env.get]
  omega
 ·obtain rfl : k = xs.length := by omega
  ((conv=>whnf);repeat (refine Wa ?_;(repeat (first|refine Wb ?_|refine Wc ?_|refine Wd ?_|refine We ?_|refine Wf ?_));(conv=>whnf)))
  exact ⟨_, rfl, hI⟩
end Go.Tri
