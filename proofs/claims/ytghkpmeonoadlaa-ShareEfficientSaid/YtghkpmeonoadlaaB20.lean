/-
  CONTRACTS: the reference's Winner.
-/
import Derived.Test.YtghkpmeonoadlaaB21
namespace Go.Tri
open Go.Proofs

theorem ldR_sf {f g : Nat → Int} {L : List Int} : ∀ k, ldR f g L k = 100 - sfL f L k - sfL g L k
  | 0 => by simp [ldR, sfL]
  | k + 1 => by
    simp only [ldR, sfL]
    rw [ldR_sf k]
    unfold toR
    omega
theorem setW_scale {n : Nat} {L : List Int} {d : Int} : ∀ k i, (setW n L 1 k).getD i 0 * d = (setW n L d k).getD i 0
  | 0, i => by
    simp only [setW, List.getD]
    by_cases h : i < n <;> simp [h]
  | k + 1, i => by
    simp only [setW]
    rw [getD_setL, getD_setL, setW_len, setW_len]
    by_cases h : (L.getD k 0).toNat = i ∧ i < n
    · rw [if_pos h, if_pos h, Int.one_mul]
    · rw [if_neg h, if_neg h, setW_scale k i]
theorem sf_bd {n : Nat} {f : Nat → Int} {L : List Int} (hf : in100 n f) (hm : ∀ j, j < n → 0 ≤ L.getD j 0 ∧ L.getD j 0 < n) : ∀ k, k ≤ n → 0 ≤ sfL f L k ∧ sfL f L k ≤ 100 * k
  | 0, _ => by simp [sfL]
  | k + 1, h => by
    have h1 := sf_bd hf hm k (by omega)
    have h2 := hm k (by omega)
    have h3 := hf (L.getD k 0).toNat (by omega)
    simp only [sfL]
    omega
theorem score_is {a b : List Int} (ha : Pts a) (hb : Pts b) (hl : a.length = b.length) : ratP (sfL (fA a) (ordR (fA a) (fA b) a.length) (wR a b) * wDen a b + (fA a) ((ordR (fA a) (fA b) a.length).getD (wR a b) 0).toNat * ldR (fA a) (fA b) (ordR (fA a) (fA b) a.length) (wR a b)) (wDen a b) = ratP (mulA (fA a) (wN a b) a.length) (wD a b) := by
  obtain ⟨w1, w2, w3⟩ := wR_spec ha hb hl
  obtain ⟨h1, h2, h3, h4⟩ := wNum_bd ha hb hl
  have hm : ∀ j, j < a.length → 0 ≤ (ordR (fA a) (fA b) a.length).getD j 0 ∧ (ordR (fA a) (fA b) a.length).getD j 0 < a.length := fun j hj => ordR_mem _ (getD_memI (by rw [ordR_len]; exact hj))
  rw [← mulA_winN hm (fun i j => ord_inj) w1]
  have e1 : mulA (fA a) (wN a b) a.length * gP (wNum a b) (wDen a b) = mulA (fA a) (wNum a b) a.length := mulA_low _ (by omega)
  have e2 : wD a b * gP (wNum a b) (wDen a b) = wDen a b := Int.tdiv_mul_cancel gP_dvd
  have hb1 := wN_bd ha hb hl
  rw [← ratP_mul (gP_pos (nums := wNum a b) h1) hb1.1.1, e1, e2]
  rfl
@[reducible] noncomputable def O24 : Ob := ⟨24, ((cx 173).T.row 24).sz, 0, newCon ((cx 173).T.row 24)⟩
@[reducible] noncomputable def O28 : Ob := ⟨28, ((cx 173).T.row 28).sz, 0, newCon ((cx 173).T.row 28)⟩
def OutW (l : List Int) (o : V) (R : Mem) : Prop := (l = [] ∧ o = .emp true ∧ R = [some O24, some O28]) ∨ ∃ ver, o = .sl 3 ver 0 l.length ∧ R = [some O24, some O28, none, some ⟨3, 1, ver, .il l⟩]
set_option maxRecDepth 100000 in
theorem refWinner_pure (a b : List Int) : APure Try.prog 22 [.ints false a, .ints false b] (fun R => R = wiV a b) := by
  refine APure_of (X := cx 173) (cx_ok 173) rfl (rs := [(.cell 4 24, 24), (.cell 5 28, 28), (.tmp 6, 29)]) Try.func22 (by decide) rfl rfl rfl (by simp [cx]) (by simp [NoFr]) ?_
  intro hlen
  have c2 : boE a b = 0 → tup3 (parV true (wN a b) (wD a b)) (ratP (mulA (fA a) (wN a b) a.length) (wD a b)) (.int 0) = wiV a b := fun h => by unfold wiV; rw [if_pos h]
  have c1 : boE a b ≠ 0 → tup3 (.agg 2 fun k => [V.emp true, V.int 0].getD k .any) (pairV 0 0) (.int (boE a b)) = wiV a b := fun h => by unfold wiV; rw [if_neg h]
  ((conv => whnf); repeat (refine stepK_in ?_; (repeat (first | refine seqQ_n ?_ | refine blockQ_n ?_ | refine awp_skip ?_ | refine awp_seq ?_ | refine awp_block ?_)); (conv => whnf)))
  refine APure.to (Points_pure a b) ?_
  ((conv => whnf); repeat (refine stepK_in ?_; (repeat (first | refine seqQ_n ?_ | refine blockQ_n ?_ | refine awp_skip ?_ | refine awp_seq ?_ | refine awp_block ?_)); (conv => whnf)))
  refine br_ne (fun h => ?_) (fun h => ?_)
  · ((conv => whnf); repeat (refine stepK_in ?_; (repeat (first | refine seqQ_n ?_ | refine blockQ_n ?_ | refine awp_skip ?_ | refine awp_seq ?_ | refine awp_block ?_)); (conv => whnf)))
    exact ⟨fr2 trivial trivial, fr2 trivial trivial, trivial, (Q3 (agg2_eq rfl rfl fun _ => rfl) (agg2_eq rfl rfl fun _ => rfl) rfl).trans (c1 h)⟩
  obtain ⟨ha, hb, hl⟩ := boE_inv h
  have hfa := pts_in ha
  have hfb := pts_in hb
  rw [← hl] at hfb
  have hn := ha.1
  have h8 := ha.2.1
  ((conv => whnf); repeat (refine stepK_in ?_; (repeat (first | refine seqQ_n ?_ | refine blockQ_n ?_ | refine awp_skip ?_ | refine awp_seq ?_ | refine awp_block ?_)); (conv => whnf)))
  refine AW_loopA (X := cx 173) (cx_ok 173) [0, 1, 4, 5, 8, 9] (fun t => Nat.blt t 2 || Nat.beq t 3) (fun vs M => ∃ (k : Nat) (o : V), k ≤ a.length ∧ OutW (sortP (ltR (fA a) (fA b)) (idx a.length) k) o M ∧ vs = [.ints false a, .ints false b, .ptr 0 0 0 0, .ptr 1 0 0 0, o, .int k])
    (fun vs _ => a.length - (vs.getD 5 .any).toInt.toNat) (fun t ht => by have : t < 2 := ht; simp; omega) ?_ ?_
  · exact same0 ⟨0, .emp true, Nat.zero_le _, .inl ⟨rfl, rfl, rfl⟩, rfl⟩
  rintro vs M ⟨k, o, hk, hO, rfl⟩
  have hql := sortP_len (ltR (fA a) (fA b)) (idx a.length) k
  ((conv => whnf); repeat (refine stepK_in ?_; (repeat (first | refine seqQ_n ?_ | refine blockQ_n ?_ | refine awp_skip ?_ | refine awp_seq ?_ | refine awp_block ?_)); (conv => whnf)))
  refine br_dec (fun hlt => ?_) (fun hge => ?_)
  · have hk' : k < a.length := by omega
    have hqm := sortP_idx (lt := ltR (fA a) (fA b)) k hk
    have hnx : sortP (ltR (fA a) (fA b)) (idx a.length) (k + 1) = insP (ltR (fA a) (fA b)) (sortP (ltR (fA a) (fA b)) (idx a.length) k) k := by
      show insP _ _ ((idx a.length).getD k 0) = _
      rw [idx_get hk']
    generalize sortP (ltR (fA a) (fA b)) (idx a.length) k = q at *
    rcases hO with ⟨rfl, rfl, rfl⟩ | ⟨ver, rfl, rfl⟩
    · obtain rfl : k = 0 := by simpa using hql.symm
      ((conv => whnf); repeat (refine stepK_in ?_; (repeat (first | refine seqQ_n ?_ | refine blockQ_n ?_ | refine awp_skip ?_ | refine awp_seq ?_ | refine awp_block ?_)); (conv => whnf)))
      repeat ((first | refine ⟨by omega, ?_⟩ | refine ⟨inr (by omega), ?_⟩ | refine eqn_self ?_ | refine ⟨ms (by omega), ?_⟩ | refine ⟨ms (by simp only [Src.n]; omega), ?_⟩ | refine ⟨msk (by omega), ?_⟩ | refine ⟨ms1, ?_⟩); ((conv => whnf); repeat (refine stepK_in ?_; (repeat (first | refine seqQ_n ?_ | refine blockQ_n ?_ | refine awp_skip ?_ | refine awp_seq ?_ | refine awp_block ?_)); (conv => whnf))))
      refine AW_loop (X := cx 173) (cx_ok 173) [0, 1, 4, 5, 8, 9, 10] (fun vs M => vs = [.ints false a, .ints false b, .ptr 0 0 0 0, .ptr 1 0 0 0, .sl 3 0 0 1, .int 0, .int 0] ∧ M = [some O24, some O28, some ⟨3, 1, 0, .kil [0]⟩, some ⟨3, 1, 0, .il [0]⟩]) (fun _ _ => 0) ?_ ?_
      · exact ⟨rfl, rfl⟩
      rintro vs M ⟨rfl, rfl⟩
      ((conv => whnf); repeat (refine stepK_in ?_; (repeat (first | refine seqQ_n ?_ | refine blockQ_n ?_ | refine awp_skip ?_ | refine awp_seq ?_ | refine awp_block ?_)); (conv => whnf)))
      refine AW_draw (X := cx 173) (cx_ok 173) mixed (by kernel_rfl) ?_
      ((conv => whnf); repeat (refine stepK_in ?_; (repeat (first | refine seqQ_n ?_ | refine blockQ_n ?_ | refine awp_skip ?_ | refine awp_seq ?_ | refine awp_block ?_)); (conv => whnf)))
      refine ⟨inr (by omega), ?_⟩
      ((conv => whnf); repeat (refine stepK_in ?_; (repeat (first | refine seqQ_n ?_ | refine blockQ_n ?_ | refine awp_skip ?_ | refine awp_seq ?_ | refine awp_block ?_)); (conv => whnf)))
      refine ⟨by repeat (first | exact trivial | exact rfl | exact fun _ => trivial | exact fun _ _ => trivial | exact fun _ _ _ => trivial | exact fun _ _ _ _ => trivial | refine And.intro ?_ ?_), memA1 [some O24, some O28, none, some ⟨3, 1, 0, .il (sortP (ltR (fA a) (fA b)) (idx a.length) (0 + 1))⟩] ⟨ObSub.refl _, ObSub.refl _, ObSub.ii (by rw [hnx]; rfl), trivial⟩ ⟨⟨0 + 1, _, by omega, .inr ⟨0, rfl, rfl⟩, ?_⟩, ?_⟩⟩
      · rw [hnx]; rfl
      · simp [V.toInt, sel, Env.get]; omega
    · ((conv => whnf); repeat (refine stepK_in ?_; (repeat (first | refine seqQ_n ?_ | refine blockQ_n ?_ | refine awp_skip ?_ | refine awp_seq ?_ | refine awp_block ?_)); (conv => whnf)))
      repeat ((first | refine ⟨by omega, ?_⟩ | refine ⟨inr (by omega), ?_⟩ | refine eqn_self ?_ | refine ⟨ms (by omega), ?_⟩ | refine ⟨ms (by simp only [Src.n]; omega), ?_⟩ | refine ⟨msk (by omega), ?_⟩ | refine ⟨ms1, ?_⟩); ((conv => whnf); repeat (refine stepK_in ?_; (repeat (first | refine seqQ_n ?_ | refine blockQ_n ?_ | refine awp_skip ?_ | refine awp_seq ?_ | refine awp_block ?_)); (conv => whnf))))
      refine AW_loop (X := cx 173) (cx_ok 173) [0, 1, 4, 5, 8, 9, 10] (fun vs M => ∃ j : Nat, j ≤ k ∧ stopJ (ltR (fA a) (fA b)) q k k = stopJ (ltR (fA a) (fA b)) q k j ∧ vs = [.ints false a, .ints false b, .ptr 0 0 0 0, .ptr 1 0 0 0, .sl 3 (ver + 1) 0 (q.length + 1), .int k, .int j] ∧ M = [some O24, some O28, none, some ⟨3, 1, ver + 1, .il (putL q k [] j)⟩, some ⟨3, 1, 0, .kil [k]⟩])
        (fun vs _ => (vs.getD 6 .any).toInt.toNat) ?_ ?_
      · refine ⟨k, Nat.le_refl _, rfl, rfl, ?_⟩
        have e0 : q.take q.length ++ [(k : Int)] = putL q k [] k := by
          unfold putL
          rw [List.take_of_length_le (l := q) (by omega), List.take_of_length_le (l := q) (by omega), List.drop_of_length_le (by omega)]
          simp
        exact congrArg (fun l => [some O24, some O28, none, some (⟨3, 1, ver + 1, .il l⟩ : Ob), some (⟨3, 1, 0, .kil [(k : Int)]⟩ : Ob)]) e0
      rintro vs M ⟨j, hj, hs, rfl, rfl⟩
      have hpl := putL_len (q := q) (x := k) (r := []) (j := j) (by omega)
      have fin : stopJ (ltR (fA a) (fA b)) q k j = j → putL q k [] j = sortP (ltR (fA a) (fA b)) (idx a.length) (k + 1) := fun h => by
        rw [hnx]
        unfold insP
        rw [hql, hs, h]
      ((conv => whnf); repeat (refine stepK_in ?_; (repeat (first | refine seqQ_n ?_ | refine blockQ_n ?_ | refine awp_skip ?_ | refine awp_seq ?_ | refine awp_block ?_)); (conv => whnf)))
      refine AW_draw (X := cx 173) (cx_ok 173) mixed (by kernel_rfl) ?_
      ((conv => whnf); repeat (refine stepK_in ?_; (repeat (first | refine seqQ_n ?_ | refine blockQ_n ?_ | refine awp_skip ?_ | refine awp_seq ?_ | refine awp_block ?_)); (conv => whnf)))
      refine br_dec (fun hj0 => ?_) (fun hj0 => ?_)
      · obtain ⟨i, rfl⟩ : ∃ i, j = i + 1 := ⟨j - 1, by omega⟩
        have e1 : ((i + 1 : Nat) : Int) - 1 = i := by omega
        have g1 : (putL q k [] (i + 1)).getD (0 + ((i + 1 : Nat) : Int).toNat) 0 = k := by
          rw [Int.toNat_natCast, Nat.zero_add, putL_get (by omega), if_neg (by omega), if_pos rfl]
        have g2 : (putL q k [] (i + 1)).getD (0 + (((i + 1 : Nat) : Int) - 1).toNat) 0 = q.getD i 0 := by
          rw [e1, Int.toNat_natCast, Nat.zero_add, putL_get (by omega), if_pos (by omega)]
        have hqi := hqm _ (getD_mem' (l := q) (k := i) (by omega))
        obtain ⟨c, hc0, hcx⟩ : ∃ c : Nat, c < k ∧ q.getD i 0 = c := ⟨(q.getD i 0).toNat, by omega, by omega⟩
        have hb0 := before_pure a b k c hfa hfb hl hk' (by omega)
        have f1 := hfa k hk'
        have f2 := hfb k hk'
        have f3 := hfa c (by omega)
        have f4 := hfb c (by omega)
        rw [decide_eq_false (show ¬ (k : Int) < c by omega), bef_cr f1.1 f2.1 f3.1 f4.1] at hb0
        have hltk : ltR (fA a) (fA b) k (q.getD i 0) = decide (crI (a.getD k 0) (b.getD k 0) (a.getD c 0) (b.getD c 0) < 0) := by rw [hcx]; rfl
        ((conv => whnf); repeat (refine stepK_in ?_; (repeat (first | refine seqQ_n ?_ | refine blockQ_n ?_ | refine awp_skip ?_ | refine awp_seq ?_ | refine awp_block ?_)); (conv => whnf)))
        repeat ((first | refine eqn_self ?_ | refine ⟨by omega, ?_⟩ | refine ⟨inr (by omega), ?_⟩); ((conv => whnf); repeat (refine stepK_in ?_; (repeat (first | refine seqQ_n ?_ | refine blockQ_n ?_ | refine awp_skip ?_ | refine awp_seq ?_ | refine awp_block ?_)); (conv => whnf))))
        refine ⟨.bool (decide (crI (a.getD k 0) (b.getD k 0) (a.getD c 0) (b.getD c 0) < 0)), APure.arg4 (Sub.refl _) (Sub.refl _) (Sub.of (congrArg V.int g1)) (Sub.of (congrArg V.int (g2.trans hcx))) hb0, ?_⟩
        ((conv => whnf); repeat (refine stepK_in ?_; (repeat (first | refine seqQ_n ?_ | refine blockQ_n ?_ | refine awp_skip ?_ | refine awp_seq ?_ | refine awp_block ?_)); (conv => whnf)))
        refine br_dec (fun hc => ?_) (fun hc => ?_)
        · have hs' : stopJ (ltR (fA a) (fA b)) q k k = stopJ (ltR (fA a) (fA b)) q k i := by
            rw [hs]
            simp only [stopJ]
            rw [hltk, if_pos (decide_eq_true hc)]
          ((conv => whnf); repeat (refine stepK_in ?_; (repeat (first | refine seqQ_n ?_ | refine blockQ_n ?_ | refine awp_skip ?_ | refine awp_seq ?_ | refine awp_block ?_)); (conv => whnf)))
          repeat ((first | refine eqn_self ?_ | refine ⟨by omega, ?_⟩ | refine ⟨inr (by omega), ?_⟩ | refine ldk (by omega) ?_); ((conv => whnf); repeat (refine stepK_in ?_; (repeat (first | refine seqQ_n ?_ | refine blockQ_n ?_ | refine awp_skip ?_ | refine awp_seq ?_ | refine awp_block ?_)); (conv => whnf))))
          refine ⟨⟨i, by omega, hs', ?_, ?_⟩, ?_⟩
          · show [V.ints false a, V.ints false b, .ptr 0 0 0 0, .ptr 1 0 0 0, .sl 3 (ver + 1) 0 (q.length + 1), .int k, .int (((i + 1 : Nat) : Int) - 1)] = _
            rw [e1]
          · have hset : ∀ (p1 p2 : Nat) (u v : Int), p1 = i + 1 → p2 = i → u = q.getD i 0 → v = k → ((putL q k [] (i + 1)).set p1 u).set p2 v = putL q k [] i := by
              rintro _ _ _ _ rfl rfl rfl rfl
              exact putL_swap (by omega)
            exact congrArg (fun l => [some O24, some O28, none, some (⟨3, 1, ver + 1, .il l⟩ : Ob), some (⟨3, 1, 0, .kil [(k : Int)]⟩ : Ob)]) (hset _ _ _ _ (by omega) (by omega) g2 g1)
          · simp [V.toInt, sel, Env.get]
        · have hs' : stopJ (ltR (fA a) (fA b)) q k (i + 1) = i + 1 := by
            simp only [stopJ]
            rw [hltk, if_neg (by rw [decide_eq_true_iff]; exact hc)]
          ((conv => whnf); repeat (refine stepK_in ?_; (repeat (first | refine seqQ_n ?_ | refine blockQ_n ?_ | refine awp_skip ?_ | refine awp_seq ?_ | refine awp_block ?_)); (conv => whnf)))
          refine ⟨inr (by omega), ?_⟩
          ((conv => whnf); repeat (refine stepK_in ?_; (repeat (first | refine seqQ_n ?_ | refine blockQ_n ?_ | refine awp_skip ?_ | refine awp_seq ?_ | refine awp_block ?_)); (conv => whnf)))
          refine ⟨by repeat (first | exact trivial | exact rfl | exact fun _ => trivial | exact fun _ _ => trivial | exact fun _ _ _ => trivial | exact fun _ _ _ _ => trivial | refine And.intro ?_ ?_), memA1 [some O24, some O28, none, some ⟨3, 1, ver + 1, .il (sortP (ltR (fA a) (fA b)) (idx a.length) (k + 1))⟩] ⟨ObSub.refl _, ObSub.refl _, ObSub.ii (fin hs'), trivial⟩ ⟨⟨k + 1, _, by omega, .inr ⟨ver + 1, rfl, rfl⟩, ?_⟩, ?_⟩⟩
          · rw [sortP_len, hql]; rfl
          · simp [V.toInt, sel, Env.get]; omega
      · have hj1 : j = 0 := by omega
        ((conv => whnf); repeat (refine stepK_in ?_; (repeat (first | refine seqQ_n ?_ | refine blockQ_n ?_ | refine awp_skip ?_ | refine awp_seq ?_ | refine awp_block ?_)); (conv => whnf)))
        refine ⟨inr (by omega), ?_⟩
        ((conv => whnf); repeat (refine stepK_in ?_; (repeat (first | refine seqQ_n ?_ | refine blockQ_n ?_ | refine awp_skip ?_ | refine awp_seq ?_ | refine awp_block ?_)); (conv => whnf)))
        refine ⟨by repeat (first | exact trivial | exact rfl | exact fun _ => trivial | exact fun _ _ => trivial | exact fun _ _ _ => trivial | exact fun _ _ _ _ => trivial | refine And.intro ?_ ?_), memA1 [some O24, some O28, none, some ⟨3, 1, ver + 1, .il (sortP (ltR (fA a) (fA b)) (idx a.length) (k + 1))⟩] ⟨ObSub.refl _, ObSub.refl _, ObSub.ii (fin (by rw [hj1]; rfl)), trivial⟩ ⟨⟨k + 1, _, by omega, .inr ⟨ver + 1, rfl, rfl⟩, ?_⟩, ?_⟩⟩
        · rw [sortP_len, hql]; rfl
        · simp [V.toInt, sel, Env.get]; omega
  · obtain rfl : k = a.length := by omega
    rcases hO with ⟨hl0, rfl, rfl⟩ | ⟨ver, rfl, rfl⟩
    · rw [hl0] at hql; simp at hql; omega
    · have hw0 := wR_spec ha hb hl
      have hpos := fun (j : Nat) (hj : j < wR a b) => whole_pos ha hb hl hw0 hj
      obtain ⟨w1, w2, w3⟩ := hw0
      have hsc := score_is ha hb hl
      obtain ⟨nb1, nb2, nb3, nb4⟩ := wNum_bd ha hb hl
      have c3 := refLowest_pure (wNum a b) (wDen a b) (by omega) (by omega) (fun j _ => by have := nb4 j; unfold Sm; omega) (by unfold Sm; omega) nb1
      rw [show lowN (wNum a b) (wDen a b) = wN a b from rfl, show (wDen a b).tdiv (gP (wNum a b) (wDen a b)) = wD a b from rfl] at c3
      have c2 := c2 h
      have hWN : wNum a b = winN a.length (ordR (fA a) (fA b) a.length) (wDen a b) (ldR (fA a) (fA b) (ordR (fA a) (fA b) a.length) (wR a b)) (wR a b) := rfl
      have hWD : wDen a b = toR (fA a) (fA b) ((ordR (fA a) (fA b) a.length).getD (wR a b) 0) := rfl
      have hm : ∀ j, j < a.length → 0 ≤ (ordR (fA a) (fA b) a.length).getD j 0 ∧ (ordR (fA a) (fA b) a.length).getD j 0 < a.length := fun j hj => ordR_mem _ (getD_memI (by rw [ordR_len]; exact hj))
      rw [show sortP (ltR (fA a) (fA b)) (idx a.length) a.length = ordR (fA a) (fA b) a.length from rfl] at *
      generalize ordR (fA a) (fA b) a.length = L at *
      generalize wR a b = w at *
      generalize wD a b = D1 at *
      generalize wN a b = N1 at *
      generalize wNum a b = NN at *
      generalize wDen a b = den at *
      have hlr := ldR_sf (f := fA a) (g := fA b) (L := L)
      have sb1 : ∀ k, k ≤ a.length → 0 ≤ sfL (fA a) L k ∧ sfL (fA a) L k ≤ 100 * k := sf_bd hfa hm
      have sb2 : ∀ k, k ≤ a.length → 0 ≤ sfL (fA b) L k ∧ sfL (fA b) L k ≤ 100 * k := sf_bd hfb hm
      ((conv => whnf); repeat (refine stepK_in ?_; (repeat (first | refine seqQ_n ?_ | refine blockQ_n ?_ | refine awp_skip ?_ | refine awp_seq ?_ | refine awp_block ?_)); (conv => whnf)))
      refine ⟨(show (0 : Int) ≤ (a.length : Int) by omega), ?_⟩
      refine ⟨Int.le_refl _, ?_⟩
      refine ⟨(show (8 : Int) * (a.length : Int) ≤ 140737488355328 by omega), ?_⟩
      rw [Int.toNat_natCast]
      ((conv => whnf); repeat (refine stepK_in ?_; (repeat (first | refine seqQ_n ?_ | refine blockQ_n ?_ | refine awp_skip ?_ | refine awp_seq ?_ | refine awp_block ?_)); (conv => whnf)))
      refine AW_loopA (X := cx 173) (cx_ok 173) [0, 1, 4, 5, 8, 12, 13, 14, 15] (fun t => Nat.blt t 5) (fun vs M => ∃ k : Nat, k ≤ w ∧ vs = [.ints false a, .ints false b, .ptr 0 0 0 0, .ptr 1 0 0 0, .sl 3 ver 0 a.length, .int (sfL (fA a) L k), .int (100 - sfL (fA b) L k), .sl 4 0 0 a.length, .int k] ∧ M = [some O24, some O28, none, some ⟨3, 1, ver, .il L⟩, some ⟨3, 1, 0, .il (setW a.length L 1 k)⟩])
        (fun vs _ => w - (vs.getD 8 .any).toInt.toNat) (fun t ht => by have : t < 5 := ht; simp; omega) ?_ ?_
      · rw [hql]
        exact same0 ⟨0, Nat.zero_le _, rfl, rfl⟩
      rintro vs M ⟨k, hk2, rfl, rfl⟩
      have hkn : k < a.length := by omega
      obtain ⟨hm1, hm2⟩ := hm k hkn
      obtain ⟨c, hc, hcx⟩ : ∃ c : Nat, c < a.length ∧ L.getD k 0 = c := ⟨(L.getD k 0).toNat, by omega, by omega⟩
      have ec : (L.getD k 0).toNat = c := by omega
      have s1 := sb1 k (by omega)
      have s2 := sb2 k (by omega)
      have s3 := sb1 (k + 1) (by omega)
      have s4 := sb2 (k + 1) (by omega)
      have q1 := hfa c hc
      have q2 := hfb c hc
      have t1 : sfL (fA a) L (k + 1) = sfL (fA a) L k + a.getD c 0 := by simp only [sfL]; rw [ec]
      have t2 : sfL (fA b) L (k + 1) = sfL (fA b) L k + b.getD c 0 := by simp only [sfL]; rw [ec]
      have t3 : toR (fA a) (fA b) (L.getD k 0) = a.getD c 0 + b.getD c 0 := by unfold toR; rw [ec]
      have t4 := hlr k
      have q1 : 0 ≤ a.getD c 0 ∧ a.getD c 0 ≤ 100 := q1
      have q2 : 0 ≤ b.getD c 0 ∧ b.getD c 0 ≤ 100 := q2
      ((conv => whnf); repeat (refine stepK_in ?_; (repeat (first | refine seqQ_n ?_ | refine blockQ_n ?_ | refine awp_skip ?_ | refine awp_seq ?_ | refine awp_block ?_)); (conv => whnf)))
      refine eqn_self (x := ver) ?_
      ((conv => whnf); repeat (refine stepK_in ?_; (repeat (first | refine seqQ_n ?_ | refine blockQ_n ?_ | refine awp_skip ?_ | refine awp_seq ?_ | refine awp_block ?_)); (conv => whnf)))
      refine br_dec (fun _ => ?_) (fun hge2 => absurd (show (k : Int) < (a.length : Int) by omega) hge2)
      ((conv => whnf); repeat (refine stepK_in ?_; (repeat (first | refine seqQ_n ?_ | refine blockQ_n ?_ | refine awp_skip ?_ | refine awp_seq ?_ | refine awp_block ?_)); (conv => whnf)))
      repeat ((first | refine eqn_self ?_ | refine ⟨(show (0 : Int) ≤ (k : Int) by omega), ?_⟩ | refine ⟨(show (k : Int) < (a.length : Int) by omega), ?_⟩ | refine ldk (by omega) ?_); ((conv => whnf); repeat (refine stepK_in ?_; (repeat (first | refine seqQ_n ?_ | refine blockQ_n ?_ | refine awp_skip ?_ | refine awp_seq ?_ | refine awp_block ?_)); (conv => whnf))))
      rw [show L.getD (0 + (k : Int).toNat) 0 = (c : Int) by rw [Int.toNat_natCast, Nat.zero_add, hcx]]
      refine AW_draw (X := cx 173) (cx_ok 173) mixed (by kernel_rfl) ?_
      ((conv => whnf); repeat (refine stepK_in ?_; (repeat (first | refine seqQ_n ?_ | refine blockQ_n ?_ | refine awp_skip ?_ | refine awp_seq ?_ | refine awp_block ?_)); (conv => whnf)))
      repeat ((first | refine ⟨(show (0 : Int) ≤ (c : Int) by omega), ?_⟩ | refine ⟨(show (c : Int) < (a.length : Int) by omega), ?_⟩ | refine ⟨(show (c : Int) < (b.length : Int) by omega), ?_⟩ | refine ⟨(show InR (sfL (fA a) L k + a.getD c 0) from inr (by omega)), ?_⟩ | refine ⟨(show InR (100 - sfL (fA b) L k - b.getD c 0) from inr (by omega)), ?_⟩); ((conv => whnf); repeat (refine stepK_in ?_; (repeat (first | refine seqQ_n ?_ | refine blockQ_n ?_ | refine awp_skip ?_ | refine awp_seq ?_ | refine awp_block ?_)); (conv => whnf))))
      refine br_dec (fun hle => ?_) (fun hgt => ?_)
      · have hle : sfL (fA a) L k + a.getD c 0 ≤ 100 - sfL (fA b) L k - b.getD c 0 := hle
        have hkw : k < w := by
          rcases (by omega : k < w ∨ k = w) with h1 | rfl
          · exact h1
          · omega
        have hp := hpos k hkw
        ((conv => whnf); repeat (refine stepK_in ?_; (repeat (first | refine seqQ_n ?_ | refine blockQ_n ?_ | refine awp_skip ?_ | refine awp_seq ?_ | refine awp_block ?_)); (conv => whnf)))
        repeat ((first | refine ⟨(show (0 : Int) ≤ (c : Int) by omega), ?_⟩ | refine ⟨(show (c : Int) < (a.length : Int) by omega), ?_⟩ | refine ⟨(show (c : Int) < (b.length : Int) by omega), ?_⟩ | refine ⟨(show InR (sfL (fA a) L k + a.getD c 0) from inr (by omega)), ?_⟩ | refine ⟨(show InR (100 - sfL (fA b) L k - b.getD c 0) from inr (by omega)), ?_⟩); ((conv => whnf); repeat (refine stepK_in ?_; (repeat (first | refine seqQ_n ?_ | refine blockQ_n ?_ | refine awp_skip ?_ | refine awp_seq ?_ | refine awp_block ?_)); (conv => whnf))))
        refine AW_draw (X := cx 173) (cx_ok 173) mixed (by kernel_rfl) ?_
        ((conv => whnf); repeat (refine stepK_in ?_; (repeat (first | refine seqQ_n ?_ | refine blockQ_n ?_ | refine awp_skip ?_ | refine awp_seq ?_ | refine awp_block ?_)); (conv => whnf)))
        repeat ((first | refine ⟨(show (0 : Int) ≤ (c : Int) by omega), ?_⟩ | refine ⟨(show (c : Int) < (a.length : Int) by omega), ?_⟩ | refine ⟨(show (c : Int) < (b.length : Int) by omega), ?_⟩ | refine ⟨(show InR (a.getD c 0 + b.getD c 0) from inr (by omega)), ?_⟩); ((conv => whnf); repeat (refine stepK_in ?_; (repeat (first | refine seqQ_n ?_ | refine blockQ_n ?_ | refine awp_skip ?_ | refine awp_seq ?_ | refine awp_block ?_)); (conv => whnf))))
        refine br_dec (fun _ => ?_) (fun hn0 => absurd (show a.getD c 0 + b.getD c 0 > 0 by omega) hn0)
        ((conv => whnf); repeat (refine stepK_in ?_; (repeat (first | refine seqQ_n ?_ | refine blockQ_n ?_ | refine awp_skip ?_ | refine awp_seq ?_ | refine awp_block ?_)); (conv => whnf)))
        repeat ((first | refine ⟨(show (0 : Int) ≤ (c : Int) by omega), ?_⟩ | refine ⟨(show (c : Int) < (a.length : Int) by omega), ?_⟩ | refine ⟨inr (by omega), ?_⟩); ((conv => whnf); repeat (refine stepK_in ?_; (repeat (first | refine seqQ_n ?_ | refine blockQ_n ?_ | refine awp_skip ?_ | refine awp_seq ?_ | refine awp_block ?_)); (conv => whnf))))
        refine ⟨by repeat (first | exact trivial | exact rfl | exact fun _ => trivial | exact fun _ _ => trivial | exact fun _ _ _ => trivial | exact fun _ _ _ _ => trivial | refine And.intro ?_ ?_), memA1 [some O24, some O28, none, some ⟨3, 1, ver, .il L⟩, some ⟨3, 1, 0, .il (setW a.length L 1 (k + 1))⟩] ⟨ObSub.refl _, ObSub.refl _, ObSub.refl _, ObSub.ii (by simp only [setW]; rw [ec, Nat.zero_add]; rfl), trivial⟩ ⟨⟨k + 1, hkw, by rw [t1, t2, show (100 : Int) - (sfL (fA b) L k + b.getD c 0) = 100 - sfL (fA b) L k - b.getD c 0 by omega]; rfl, rfl⟩, ?_⟩⟩
        simp [V.toInt, sel, Env.get]; omega
      · have hgt : ¬ sfL (fA a) L k + a.getD c 0 ≤ 100 - sfL (fA b) L k - b.getD c 0 := hgt
        obtain rfl : k = w := by
          rcases (by omega : k < w ∨ k = w) with h1 | h1
          · have := w2 k h1
            omega
          · exact h1
        ((conv => whnf); repeat (refine stepK_in ?_; (repeat (first | refine seqQ_n ?_ | refine blockQ_n ?_ | refine awp_skip ?_ | refine awp_seq ?_ | refine awp_block ?_)); (conv => whnf)))
        refine AW_draw (X := cx 173) (cx_ok 173) mixed (by kernel_rfl) ?_
        ((conv => whnf); repeat (refine stepK_in ?_; (repeat (first | refine seqQ_n ?_ | refine blockQ_n ?_ | refine awp_skip ?_ | refine awp_seq ?_ | refine awp_block ?_)); (conv => whnf)))
        repeat ((first | refine ⟨(show (0 : Int) ≤ (c : Int) by omega), ?_⟩ | refine ⟨(show (c : Int) < (a.length : Int) by omega), ?_⟩ | refine ⟨(show (c : Int) < (b.length : Int) by omega), ?_⟩ | refine ⟨(show InR (a.getD c 0 + b.getD c 0) from inr (by omega)), ?_⟩); ((conv => whnf); repeat (refine stepK_in ?_; (repeat (first | refine seqQ_n ?_ | refine blockQ_n ?_ | refine awp_skip ?_ | refine awp_seq ?_ | refine awp_block ?_)); (conv => whnf))))
        have hden : a.getD c 0 + b.getD c 0 = den := by rw [hWD, ← t3]
        have hl0 := ldR_nn w2
        have hlw : 100 - sfL (fA b) L k - sfL (fA a) L k = ldR (fA a) (fA b) L k := by omega
        refine AW_loopA (X := cx 173) (cx_ok 173) [0, 1, 4, 5, 12, 13, 14, 16, 17, 18] (fun t => Nat.blt t 5) (fun vs M => ∃ (j : Nat) (Z : List Int), j ≤ a.length ∧ Z.length = a.length ∧ (∀ i, i < j → Z.getD i 0 = (setW a.length L den k).getD i 0) ∧ (∀ i, j ≤ i → Z.getD i 0 = (setW a.length L 1 k).getD i 0) ∧ vs = [.ints false a, .ints false b, .ptr 0 0 0 0, .ptr 1 0 0 0, .int (sfL (fA a) L k), .int (100 - sfL (fA b) L k), .sl 4 0 0 a.length, .int c, .int den, .int j] ∧ M = [some O24, some O28, none, some ⟨3, 1, ver, .il L⟩, some ⟨3, 1, 0, .il Z⟩])
          (fun vs _ => a.length - (vs.getD 9 .any).toInt.toNat) (fun t ht => by have : t < 5 := ht; simp; omega) ?_ ?_
        · exact same0 ⟨0, _, Nat.zero_le _, setW_len k, fun i hi => absurd hi (by omega), fun i _ => rfl, by rw [← hden]; rfl, rfl⟩
        rintro vs M ⟨j, Z, hj, hZ, hz1, hz2, rfl, rfl⟩
        ((conv => whnf); repeat (refine stepK_in ?_; (repeat (first | refine seqQ_n ?_ | refine blockQ_n ?_ | refine awp_skip ?_ | refine awp_seq ?_ | refine awp_block ?_)); (conv => whnf)))
        refine br_dec (fun hlt' => ?_) (fun hge' => ?_)
        · have hj' : j < a.length := by omega
          have hzj := hz2 j (Nat.le_refl _)
          have e0 : 0 + (j : Int).toNat = j := by omega
          have hzb : 0 ≤ Z.getD j 0 * den ∧ Z.getD j 0 * den ≤ 200 := by
            rw [hzj]
            rcases setW_or (n := a.length) (L := L) (den := 1) k j with h5 | h5 <;> rw [h5] <;> omega
          ((conv => whnf); repeat (refine stepK_in ?_; (repeat (first | refine seqQ_n ?_ | refine blockQ_n ?_ | refine awp_skip ?_ | refine awp_seq ?_ | refine awp_block ?_)); (conv => whnf)))
          repeat ((first | refine ⟨(show (0 : Int) ≤ (j : Int) by omega), ?_⟩ | refine ⟨(show (j : Int) < (a.length : Int) by omega), ?_⟩ | refine ⟨(show InR (Z.getD (0 + (j : Int).toNat) 0 * den) from inr (by rw [e0]; omega)), ?_⟩ | refine ldk (by omega) ?_ | refine eqn_self ?_ | refine ⟨inr (by omega), ?_⟩); ((conv => whnf); repeat (refine stepK_in ?_; (repeat (first | refine seqQ_n ?_ | refine blockQ_n ?_ | refine awp_skip ?_ | refine awp_seq ?_ | refine awp_block ?_)); (conv => whnf))))
          refine ⟨by repeat (first | exact trivial | exact rfl | exact fun _ => trivial | exact fun _ _ => trivial | exact fun _ _ _ => trivial | exact fun _ _ _ _ => trivial | refine And.intro ?_ ?_), memA1 [some O24, some O28, none, some ⟨3, 1, ver, .il L⟩, some ⟨3, 1, 0, .il (Z.set j (Z.getD j 0 * den))⟩] ⟨ObSub.refl _, ObSub.refl _, ObSub.refl _, ObSub.ii (by rw [e0]; rfl), trivial⟩ ⟨⟨j + 1, _, hj', by rw [List.length_set, hZ], fun i hi => ?_, fun i hi => ?_, rfl, rfl⟩, ?_⟩⟩
          · rcases (by omega : i < j ∨ i = j) with h5 | rfl
            · rw [getD_setL, if_neg (fun h6 => by omega)]
              exact hz1 i h5
            · rw [getD_setL, if_pos ⟨rfl, by omega⟩, hzj, setW_scale]
          · rw [getD_setL, if_neg (fun h6 => by omega)]
            exact hz2 i (by omega)
          · simp [V.toInt, sel, Env.get]; omega
        · obtain rfl : j = a.length := by omega
          obtain rfl : Z = setW a.length L den k := ext_getD (by rw [hZ, setW_len]) fun i hi => hz1 i (by omega)
          ((conv => whnf); repeat (refine stepK_in ?_; (repeat (first | refine seqQ_n ?_ | refine blockQ_n ?_ | refine awp_skip ?_ | refine awp_seq ?_ | refine awp_block ?_)); (conv => whnf)))
          have hNN : (setW a.length L den k).set (0 + (c : Int).toNat) (100 - sfL (fA b) L k - sfL (fA a) L k) = NN := by
            rw [hWN, hlw, Nat.zero_add, Int.toNat_natCast]
            unfold winN
            rw [ec]
          have m1 := mul_bd (d := 200) q1.1 q1.2 hl0 (by omega)
          rw [← hlw] at m1
          have m2 : 0 ≤ sfL (fA a) L k * den ∧ sfL (fA a) L k * den ≤ 800 * 200 := ⟨Int.mul_nonneg s1.1 (by omega), Int.mul_le_mul (by omega) (by omega) (by omega) (by omega)⟩
          have c4 := Ratio_pure (sfL (fA a) L k * den + a.getD c 0 * (100 - sfL (fA b) L k - sfL (fA a) L k)) den (by unfold Sm; omega) (by unfold Sm; omega) nb1
          rw [ec] at hsc
          have hsc : ratP (sfL (fA a) L k * den + a.getD c 0 * (100 - sfL (fA b) L k - sfL (fA a) L k)) den = ratP (mulA (fA a) N1 a.length) D1 := by rw [hlw]; exact hsc
          rw [hsc] at c4
          repeat ((first | refine ⟨(show (0 : Int) ≤ (c : Int) by omega), ?_⟩ | refine ⟨(show (c : Int) < (a.length : Int) by omega), ?_⟩ | refine ⟨(show InR (100 - sfL (fA b) L k - sfL (fA a) L k) from inr (by omega)), ?_⟩); ((conv => whnf); repeat (refine stepK_in ?_; (repeat (first | refine seqQ_n ?_ | refine blockQ_n ?_ | refine awp_skip ?_ | refine awp_seq ?_ | refine awp_block ?_)); (conv => whnf))))
          refine AW_draw (X := cx 173) (cx_ok 173) mixed (by kernel_rfl) ?_
          ((conv => whnf); repeat (refine stepK_in ?_; (repeat (first | refine seqQ_n ?_ | refine blockQ_n ?_ | refine awp_skip ?_ | refine awp_seq ?_ | refine awp_block ?_)); (conv => whnf)))
          refine ⟨_, APure.arg2 (Sub.of (show V.ints false ((((setW a.length L den k).set (0 + (c : Int).toNat) (100 - sfL (fA b) L k - sfL (fA a) L k)).drop 0).take a.length) = V.ints false NN by
            rw [List.drop_zero, hNN, List.take_of_length_le (by omega)])) (Sub.refl _) c3, ?_⟩
          ((conv => whnf); repeat (refine stepK_in ?_; (repeat (first | refine seqQ_n ?_ | refine blockQ_n ?_ | refine awp_skip ?_ | refine awp_seq ?_ | refine awp_block ?_)); (conv => whnf)))
          refine ⟨inr (by omega), ?_⟩
          ((conv => whnf); repeat (refine stepK_in ?_; (repeat (first | refine seqQ_n ?_ | refine blockQ_n ?_ | refine awp_skip ?_ | refine awp_seq ?_ | refine awp_block ?_)); (conv => whnf)))
          repeat ((first | refine ⟨(show (0 : Int) ≤ (c : Int) by omega), ?_⟩ | refine ⟨(show (c : Int) < (a.length : Int) by omega), ?_⟩ | refine ⟨(show InR (100 - sfL (fA b) L k - sfL (fA a) L k) from inr (by omega)), ?_⟩ | refine ⟨(show InR (a.getD c 0 * (100 - sfL (fA b) L k - sfL (fA a) L k)) from inr (by omega)), ?_⟩ | refine ⟨(show InR (sfL (fA a) L k * den + a.getD c 0 * (100 - sfL (fA b) L k - sfL (fA a) L k)) from inr (by omega)), ?_⟩); ((conv => whnf); repeat (refine stepK_in ?_; (repeat (first | refine seqQ_n ?_ | refine blockQ_n ?_ | refine awp_skip ?_ | refine awp_seq ?_ | refine awp_block ?_)); (conv => whnf))))
          refine ⟨_, c4, ?_⟩
          ((conv => whnf); repeat (refine stepK_in ?_; (repeat (first | refine seqQ_n ?_ | refine blockQ_n ?_ | refine awp_skip ?_ | refine awp_seq ?_ | refine awp_block ?_)); (conv => whnf)))
          exact ⟨fr2 rfl trivial, fr2 trivial trivial, trivial, (Q3 (agg2_eq rfl rfl fun _ => rfl) (agg2_eq rfl rfl fun _ => rfl) rfl).trans c2⟩
end Go.Tri
