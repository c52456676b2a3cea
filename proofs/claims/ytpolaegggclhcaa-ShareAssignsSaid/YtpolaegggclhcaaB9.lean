/-
 CONTRACTS: the greatest of ranks; Whole.
-/
import Derived.Test.YtpolaegggclhcaaB8
namespace Go.Tri
open Go.Proofs

@[reducible] def pairV (a b : Int) : V := .agg 2 fun k => [V.int a, V.int b].getD k .any
theorem nofrP {a b : Int} : NoFr (pairV a b) := fun k => by
 match k with
 | 0 => trivial
 | 1 => trivial
 | _ + 2 => trivial
theorem cmp1_pure (a b c d : Int) : APure Try.prog 105 [pairV a b, pairV c d] (fun R => R = .int (cmpI b d)) := by
 refine APure_of (X := cx 10) (cx_ok 10) rfl (rs := [(.tmp 4, 3)]) Try.func105 (by decide) rfl rfl rfl (by simp [cx]) (nofr2 nofrP nofrP) ?_
 intro hlen
 ((conv=>whnf);repeat (refine Wa ?_;(repeat (first|refine Wb ?_|refine Wc ?_|refine Wd ?_|refine We ?_|refine Wf ?_));(conv=>whnf)))
 refine APure.to (Compare_pure b d) ?_
 ((conv=>whnf);repeat (refine Wa ?_;(repeat (first|refine Wb ?_|refine Wc ?_|refine Wd ?_|refine We ?_|refine Wf ?_));(conv=>whnf)))
 exact ⟨trivial, rfl⟩
@[reducible] def cmpC : V := .clo 105 0 fun _ => .any
theorem nofrC : NoFr cmpC := fun _ => trivial
theorem sub_pair {g : Nat → V} {a b : Int} (h0 : g 0 = .int a) (h1 : g 1 = .int b) : Sub (.agg 2 g) (pairV a b) := sub_agg fun i hi => by
 rcases (by omega : i = 0 ∨ i = 1) with rfl | rfl
 ·rw [h0]; exact Sub.refl _
 ·rw [h1]; exact Sub.refl _
theorem cmpI_pos {a b : Int} : cmpI a b > 0 ↔ a > b := by unfold cmpI; split <;> (try split) <;> omega

set_option maxRecDepth 100000 in
theorem maxFunc_pure {m : Nat} {F G : Nat → Int} (h1 : 1 ≤ m) (hm : m ≤ 256) : APure Try.prog 103 [dealV false m F G, cmpC] (fun R => R = pairV (F (mxI G m)) (G (mxI G m))) := by
 refine APure_of (X := cx 33) (cx_ok 33) rfl (rs := [(.cell 4 108, 108)]) Try.func103 (by decide) rfl rfl rfl (by simp [cx]) (nofr2 nofrD nofrC) ?_
 intro hlen
 ((conv=>whnf);repeat (refine Wa ?_;(repeat (first|refine Wb ?_|refine Wc ?_|refine Wd ?_|refine We ?_|refine Wf ?_));(conv=>whnf)))
 rw [decide_eq_false (show ¬ (m : Int) < 1 by omega)]
 ((conv=>whnf);repeat (refine Wa ?_;(repeat (first|refine Wb ?_|refine Wc ?_|refine Wd ?_|refine We ?_|refine Wf ?_));(conv=>whnf)))
 refine ⟨Int.le_refl _, ?_⟩
 refine ⟨(show (0 : Int) < (m : Int) by omega), ?_⟩
 ((conv=>whnf);repeat (refine Wa ?_;(repeat (first|refine Wb ?_|refine Wc ?_|refine Wd ?_|refine We ?_|refine Wf ?_));(conv=>whnf)))
 refine AW_loopA (X := cx 33) (cx_ok 33) [0, 1, 4, 5, 6] (fun t => Nat.blt t 2) (fun vs M => ∃ k : Nat, 1 ≤ k ∧ k ≤ m ∧ vs = [dealV false m F G, cmpC, .ptr 0 0 0 0, .ptr 1 0 0 0, .int k] ∧ M = [some ⟨108, 2, 0, .one [.int 0, .int 0]⟩, some ⟨108, 2, 0, .one [.int (F (mxI G k)), .int (G (mxI G k))]⟩])
  (fun vs _ => m - (vs.getD 4 .any).toInt.toNat) (fun t ht => by have : t < 2 := ht; simp; omega) ?_ ?_
 ·exact same0 ⟨1, Nat.le_refl _, h1, rfl, rfl⟩
 rintro vs M ⟨k, hk1, hk, rfl, rfl⟩
 have hmk : mxI G (k + 1) = if G k > G (mxI G k) then k else mxI G k := by simp only [mxI]; rw [if_neg (by omega)]
 generalize hi : mxI G k = i at *
 ((conv=>whnf);repeat (refine Wa ?_;(repeat (first|refine Wb ?_|refine Wc ?_|refine Wd ?_|refine We ?_|refine Wf ?_));(conv=>whnf)))
 refine br_dec (fun hlt => ?_) (fun hge => ?_)
 ·have hk' : k < m := by omega
  ((conv=>whnf);repeat (refine Wa ?_;(repeat (first|refine Wb ?_|refine Wc ?_|refine Wd ?_|refine We ?_|refine Wf ?_));(conv=>whnf)))
  refine AW_draw (X := cx 33) (cx_ok 33) mixed (by kernel_rfl) ?_
  ((conv=>whnf);repeat (refine Wa ?_;(repeat (first|refine Wb ?_|refine Wc ?_|refine Wd ?_|refine We ?_|refine Wf ?_));(conv=>whnf)))
  refine ⟨(show (0 : Int) ≤ (k : Int) by omega), ?_⟩
  refine ⟨(show (k : Int) < (m : Int) by omega), ?_⟩
  ((conv=>whnf);repeat (refine Wa ?_;(repeat (first|refine Wb ?_|refine Wc ?_|refine Wd ?_|refine We ?_|refine Wf ?_));(conv=>whnf)))
  refine ⟨.int (cmpI (G k) (G i)), APure.arg2 (sub_pair rfl rfl) (sub_pair rfl rfl) (cmp1_pure (F k) (G k) (F i) (G i)), ?_⟩
  ((conv=>whnf);repeat (refine Wa ?_;(repeat (first|refine Wb ?_|refine Wc ?_|refine Wd ?_|refine We ?_|refine Wf ?_));(conv=>whnf)))
  refine br_dec (fun hb => ?_) (fun hb => ?_)
  ·rw [if_pos (cmpI_pos.1 hb)] at hmk
   ((conv=>whnf);repeat (refine Wa ?_;(repeat (first|refine Wb ?_|refine Wc ?_|refine Wd ?_|refine We ?_|refine Wf ?_));(conv=>whnf)))
   refine ⟨(show (0 : Int) ≤ (k : Int) by omega), ?_⟩
   refine ⟨(show (k : Int) < (m : Int) by omega), ?_⟩
   ((conv=>whnf);repeat (refine Wa ?_;(repeat (first|refine Wb ?_|refine Wc ?_|refine Wd ?_|refine We ?_|refine Wf ?_));(conv=>whnf)))
   refine ⟨inr (by omega), ?_⟩
   ((conv=>whnf);repeat (refine Wa ?_;(repeat (first|refine Wb ?_|refine Wc ?_|refine Wd ?_|refine We ?_|refine Wf ?_));(conv=>whnf)))
   refine ⟨by repeat (first|exact trivial|exact rfl|exact namedD|exact fun _=>trivial|exact fun _ _=>trivial|exact fun _ _ _=>trivial|exact fun _ _ _ _=>trivial|refine And.intro ?_ ?_), memA1 [some ⟨108, 2, 0, .one [.int 0, .int 0]⟩, some ⟨108, 2, 0, .one [.int (F k), .int (G k)]⟩] ⟨ObSub.refl _, ObSub.refl _, trivial⟩ ⟨⟨k + 1, by omega, by omega, rfl, by rw [hmk]⟩, ?_⟩⟩
   simp [V.toInt, sel, Env.get]; omega
  ·rw [if_neg (fun h => hb (cmpI_pos.2 h))] at hmk
   ((conv=>whnf);repeat (refine Wa ?_;(repeat (first|refine Wb ?_|refine Wc ?_|refine Wd ?_|refine We ?_|refine Wf ?_));(conv=>whnf)))
   refine ⟨inr (by omega), ?_⟩
   ((conv=>whnf);repeat (refine Wa ?_;(repeat (first|refine Wb ?_|refine Wc ?_|refine Wd ?_|refine We ?_|refine Wf ?_));(conv=>whnf)))
   refine ⟨by repeat (first|exact trivial|exact rfl|exact namedD|exact fun _=>trivial|exact fun _ _=>trivial|exact fun _ _ _=>trivial|exact fun _ _ _ _=>trivial|refine And.intro ?_ ?_), memA1 [some ⟨108, 2, 0, .one [.int 0, .int 0]⟩, some ⟨108, 2, 0, .one [.int (F i), .int (G i)]⟩] ⟨ObSub.refl _, ObSub.refl _, trivial⟩ ⟨⟨k + 1, by omega, by omega, rfl, by rw [hmk]⟩, ?_⟩⟩
   simp [V.toInt, sel, Env.get]; omega
 ·obtain rfl : k = m := by omega
  subst hi
  ((conv=>whnf);repeat (refine Wa ?_;(repeat (first|refine Wb ?_|refine Wc ?_|refine Wd ?_|refine We ?_|refine Wf ?_));(conv=>whnf)))
  refine ⟨fun q hq => ?_, congrArg (V.agg 2) (funext fun q => ?_)⟩
  ·have hq : q < 2 := hq
   rcases (by omega : q = 0 ∨ q = 1) with rfl | rfl <;> exact trivial
  ·match q with
   | 0 => rfl
   | 1 => rfl
   | _ + 2 => rfl

theorem sub_bnd {f n : Nat} {g g' : Nat → V} (h : ∀ i, i < n → Sub (g i) (g' i)) : Sub (.bnd f n g) (.bnd f n g') := by
 rintro φ base w v ⟨cs, h1, h2, h3⟩
 exact ⟨cs, h1, h2, fun i hi => by obtain ⟨c, e1, e2⟩ := h3 i hi; exact ⟨c, e1, h i hi _ _ _ _ e2⟩⟩
theorem greatest_pure {n m : Nat} {f g : Nat → Int} (hn : n ≤ 8) (h1 : 1 ≤ m) (hm : m ≤ 256) (hf : in100 n f) (hg : in100 n g) : APure Try.prog 82 [.ints false (idx m), lesO n f g] (fun R => R = pairV (upI m (fun j => (j : Int)) (mxI (upI m (les f g n)) m)) (upI m (les f g n) (mxI (upI m (les f g n)) m))) := by
 refine APure_of (X := cx 9) (cx_ok 9) rfl (rs := [(.cell 4 108, 108)]) Try.func82 (by decide) rfl rfl rfl (by simp [cx]) (nofr2 (by rfl) nofrO) ?_
 intro hlen
 have c1 := rank_pure hn hm hf hg
 have c2 := maxFunc_pure (F := upI m fun j => (j : Int)) (G := upI m (les f g n)) h1 hm
 generalize upI m (fun j => (j : Int)) = F at *
 generalize upI m (les f g n) = G at *
 ((conv=>whnf);repeat (refine Wa ?_;(repeat (first|refine Wb ?_|refine Wc ?_|refine Wd ?_|refine We ?_|refine Wf ?_));(conv=>whnf)))
 refine APure.to (APure.arg2 (Sub.refl _) (sub_bnd fun i hi => subD) c1) ?_
 ((conv=>whnf);repeat (refine Wa ?_;(repeat (first|refine Wb ?_|refine Wc ?_|refine Wd ?_|refine We ?_|refine Wf ?_));(conv=>whnf)))
 refine APure.to (APure.arg2 subD (sub_clo fun i hi => absurd hi (by omega)) c2) ?_
 ((conv=>whnf);repeat (refine Wa ?_;(repeat (first|refine Wb ?_|refine Wc ?_|refine Wd ?_|refine We ?_|refine Wf ?_));(conv=>whnf)))
 refine ⟨fun q hq => ?_, congrArg (V.agg 2) (funext fun q => ?_)⟩
 ·have hq : q < 2 := hq
  rcases (by omega : q = 0 ∨ q = 1) with rfl | rfl <;> exact trivial
 ·match q with
  | 0 => rfl
  | 1 => rfl
  | _ + 2 => rfl

/-- Of all sets the least one with the greatest lesser score. -/
def whoS (f g : Nat → Int) (n : Nat) : Nat := mxI (les f g n) (2 ^ n)
theorem mxI_up {m : Nat} {h : Nat → Int} : ∀ k, k ≤ m → mxI (upI m h) k = mxI h k := by
 intro k
 induction k with
 | zero => intro _; rfl
 | succ k ih =>
  intro hk
  simp only [mxI]
  by_cases h0 : k = 0
  ·rw [if_pos h0, if_pos h0]
  ·have hlt := (mxI_is h k (by omega)).1
   have e1 : upI m h k = h k := by unfold upI; rw [if_pos (by omega)]
   have e2 : upI m h (mxI h k) = h (mxI h k) := by unfold upI; rw [if_pos (by omega)]
   rw [if_neg h0, if_neg h0, ih (by omega), e1, e2]
theorem pow256 {n : Nat} (hn : n ≤ 8) : 1 ≤ 2 ^ n ∧ 2 ^ n ≤ 256 := ⟨Nat.one_le_two_pow, Nat.pow_le_pow_right (by decide) hn⟩
theorem shlI {n : Nat} (hn : n ≤ 8) : IntKind.i64.wrap (1 * 2 ^ (min (n : Int).toNat IntKind.i64.bits)) = ((2 ^ n : Nat) : Int) := by
 have h64 : IntKind.i64.bits = 64 := rfl
 rw [Int.toNat_natCast, h64, Nat.min_eq_left (by omega), IntKind.wrap_i64]
 have := pow256 hn
 have e : (2 : Int) ^ n = ((2 ^ n : Nat) : Int) := by simp
 rw [Int.one_mul, e]
 omega
theorem whole_pure {n : Nat} {f g : Nat → Int} (hn : n ≤ 8) (hf : in100 n f) (hg : in100 n g) : APure Try.prog 54 [dealV false n f g] (fun R => R = tup2 (.int (whoS f g n)) (.int (les f g n (whoS f g n)))) := by
 refine APure_of (X := cx 16) (cx_ok 16) rfl (rs := [(.tmp 2, 3), (.tmp 3, 3)]) Try.func54 (by decide) rfl rfl rfl (by simp [cx]) (nofr1 nofrD) ?_
 intro hlen
 have hp := pow256 hn
 have c1 := indices_pure (2 ^ n) (by omega)
 have c2 := greatest_pure (m := 2 ^ n) hn hp.1 hp.2 hf hg
 have hw := (mxI_is (les f g n) (2 ^ n) hp.1).1
 have e1 : upI (2 ^ n) (fun j => (j : Int)) (mxI (upI (2 ^ n) (les f g n)) (2 ^ n)) = whoS f g n := by
  rw [mxI_up _ (Nat.le_refl _)]
  unfold upI whoS
  rw [if_pos hw]
 have e2 : upI (2 ^ n) (les f g n) (mxI (upI (2 ^ n) (les f g n)) (2 ^ n)) = les f g n (whoS f g n) := by
  rw [mxI_up _ (Nat.le_refl _)]
  unfold upI whoS
  rw [if_pos hw]
 rw [e1, e2] at c2
 ((conv=>whnf);repeat (refine Wa ?_;(repeat (first|refine Wb ?_|refine Wc ?_|refine Wd ?_|refine We ?_|refine Wf ?_));(conv=>whnf)))
 refine ⟨(show (0 : Int) ≤ (n : Int) by omega), ?_⟩
 rw [shlI hn]
 ((conv=>whnf);repeat (refine Wa ?_;(repeat (first|refine Wb ?_|refine Wc ?_|refine Wd ?_|refine We ?_|refine Wf ?_));(conv=>whnf)))
 refine APure.to c1 ?_
 ((conv=>whnf);repeat (refine Wa ?_;(repeat (first|refine Wb ?_|refine Wc ?_|refine Wd ?_|refine We ?_|refine Wf ?_));(conv=>whnf)))
 refine APure.to (APure.arg2 (Sub.refl _) (sub_bnd fun i hi => by have hi : i < 1 := hi; rw [show i = 0 by omega]; exact subD) c2) ?_
 ((conv=>whnf);repeat (refine Wa ?_;(repeat (first|refine Wb ?_|refine Wc ?_|refine Wd ?_|refine We ?_|refine Wf ?_));(conv=>whnf)))
 refine AW_draw (X := cx 16) (cx_ok 16) mixed (by kernel_rfl) ?_
 ((conv=>whnf);repeat (refine Wa ?_;(repeat (first|refine Wb ?_|refine Wc ?_|refine Wd ?_|refine We ?_|refine Wf ?_));(conv=>whnf)))
 exact ⟨trivial, trivial, rfl⟩

noncomputable def whV (a b : List Int) : V := if boE a b = 0 then tup3 (.int (whoS (fun j => a.getD j 0) (fun j => b.getD j 0) a.length)) (.int (les (fun j => a.getD j 0) (fun j => b.getD j 0) a.length (whoS (fun j => a.getD j 0) (fun j => b.getD j 0) a.length))) (.int 0) else tup3 (.int 0) (.int 0) (.int (boE a b))
theorem pts_in {l : List Int} (h : Pts l) : in100 l.length (fun j => l.getD j 0) := fun j hj => h.2.2.1 j hj
theorem Whole_pure (a b : List Int) : APure Try.prog 24 [.ints false a, .ints false b] (fun R => R = whV a b) := by
 refine APure_of (X := cx 25) (cx_ok 25) rfl (rs := [(.tmp 4, 3), (.tmp 5, 3), (.tmp 6, 29)]) Try.func24 (by decide) rfl rfl rfl (by simp [cx]) (by simp [NoFr]) ?_
 intro hlen
 have c1 : boE a b ≠ 0 → tup3 (.int 0) (.int 0) (.int (boE a b)) = whV a b := fun h => by unfold whV; rw [if_neg h]
 have c2 : boE a b = 0 → tup3 (.int (whoS (fun j => a.getD j 0) (fun j => b.getD j 0) a.length)) (.int (les (fun j => a.getD j 0) (fun j => b.getD j 0) a.length (whoS (fun j => a.getD j 0) (fun j => b.getD j 0) a.length))) (.int 0) = whV a b := fun h => by unfold whV; rw [if_pos h]
 generalize whV a b = E at *
 ((conv=>whnf);repeat (refine Wa ?_;(repeat (first|refine Wb ?_|refine Wc ?_|refine Wd ?_|refine We ?_|refine Wf ?_));(conv=>whnf)))
 refine APure.to (checkBoth_pure a b) ?_
 ((conv=>whnf);repeat (refine Wa ?_;(repeat (first|refine Wb ?_|refine Wc ?_|refine Wd ?_|refine We ?_|refine Wf ?_));(conv=>whnf)))
 refine br_ne (fun h => ?_) (fun h => ?_)
 ·((conv=>whnf);repeat (refine Wa ?_;(repeat (first|refine Wb ?_|refine Wc ?_|refine Wd ?_|refine We ?_|refine Wf ?_));(conv=>whnf)))
  exact ⟨trivial, trivial, trivial, c1 h⟩
 obtain ⟨ha, hb, hl⟩ := boE_inv h
 have c3 := newDeal_pure a b hl ha.2.1
 have c4 := whole_pure ha.2.1 (pts_in ha) (by rw [hl]; exact pts_in hb)
 have c2 := c2 h
 generalize whoS (fun j => a.getD j 0) (fun j => b.getD j 0) a.length = s at *
 generalize les (fun j => a.getD j 0) (fun j => b.getD j 0) a.length s = m at *
 ((conv=>whnf);repeat (refine Wa ?_;(repeat (first|refine Wb ?_|refine Wc ?_|refine Wd ?_|refine We ?_|refine Wf ?_));(conv=>whnf)))
 refine APure.to c3 ?_
 ((conv=>whnf);repeat (refine Wa ?_;(repeat (first|refine Wb ?_|refine Wc ?_|refine Wd ?_|refine We ?_|refine Wf ?_));(conv=>whnf)))
 refine APure.to (APure.arg1 subD c4) ?_
 ((conv=>whnf);repeat (refine Wa ?_;(repeat (first|refine Wb ?_|refine Wc ?_|refine Wd ?_|refine We ?_|refine Wf ?_));(conv=>whnf)))
 exact ⟨trivial, trivial, trivial, c2⟩
end Go.Tri
