/-
 CONTRACTS: what assignments are worth; the greatest of them.
-/
import Derived.Test.YtpolaegggclhcaaB30
import Derived.Test.YtpolaegggclhcaaB4
namespace Go.Tri
open Go.Proofs

/-- What an assignment is worth. -/
def wrS (W : Nat → List Int) (l : List Int) : Nat → Int
 | 0 => 0
 | k + 1 => wrS W l k + (W k).getD (l.getD k 0).toNat 0
/-- An assignment of n. -/
def Asg (n : Nat) (l : List Int) : Prop := l.length = n ∧ ∀ j, j < n → 0 ≤ l.getD j 0 ∧ l.getD j 0 < n
theorem wrS_bd {n : Nat} {W : Nat → List Int} {l : List Int} (hW : Wis n W) (hl : Asg n l) : ∀ k, k ≤ n → 0 ≤ wrS W l k ∧ wrS W l k ≤ 1000 * k
 | 0, _ => by simp [wrS]
 | k + 1, h => by
  have h1 := wrS_bd hW hl k (by omega)
  have h2 := hl.2 k (by omega)
  have h3 := (hW.2.2 k (by omega)).2.1 (l.getD k 0).toNat (by omega)
  simp only [wrS]
  omega
theorem worth_pure {n : Nat} {W : Nat → List Int} {l : List Int} (hW : Wis n W) (hl : Asg n l) : APure Try.prog 88 [tabV n W, .ints false l] (fun R => R = .int (wrS W l n)) := by
 refine APure_of (X := cx 26) (cx_ok 26) rfl (rs := [(.tmp 4, 3)]) Try.func88 (by decide) rfl rfl rfl (by simp [cx]) (nofr2 nofrT (by rfl)) ?_
 intro hlen
 have hn := hl.1
 have h5 := hW.2.1
 ((conv=>whnf);repeat (refine Wa ?_;(repeat (first|refine Wb ?_|refine Wc ?_|refine Wd ?_|refine We ?_|refine Wf ?_));(conv=>whnf)))
 refine AW_loop (X := cx 26) (cx_ok 26) [0, 5, 8, 9, 10] (fun vs M => ∃ k : Nat, k ≤ n ∧ vs = [tabV n W, .int (wrS W l k), .ints false l, .int l.length, .int k] ∧ M = []) (fun vs _ => n - (vs.getD 4 .any).toInt.toNat) ?_ ?_
 ·exact ⟨0, Nat.zero_le _, rfl, rfl⟩
 rintro vs M ⟨k, hk, rfl, rfl⟩
 have hb := wrS_bd hW hl k hk
 ((conv=>whnf);repeat (refine Wa ?_;(repeat (first|refine Wb ?_|refine Wc ?_|refine Wd ?_|refine We ?_|refine Wf ?_));(conv=>whnf)))
 refine br_dec (fun hlt => ?_) (fun hge => ?_)
 ·have hk' : k < n := by omega
  have hlk := hl.2 k hk'
  have hWk := hW.2.2 k hk'
  have he := hWk.2.1 (l.getD k 0).toNat (by omega)
  ((conv=>whnf);repeat (refine Wa ?_;(repeat (first|refine Wb ?_|refine Wc ?_|refine Wd ?_|refine We ?_|refine Wf ?_));(conv=>whnf)))
  refine ⟨(show (0 : Int) ≤ (k : Int) by omega), ?_⟩
  refine ⟨(show (k : Int) < (l.length : Int) by omega), ?_⟩
  ((conv=>whnf);repeat (refine Wa ?_;(repeat (first|refine Wb ?_|refine Wc ?_|refine Wd ?_|refine We ?_|refine Wf ?_));(conv=>whnf)))
  refine ⟨(show (0 : Int) ≤ (k : Int) by omega), ?_⟩
  refine ⟨(show (k : Int) < (n : Int) by omega), ?_⟩
  ((conv=>whnf);repeat (refine Wa ?_;(repeat (first|refine Wb ?_|refine Wc ?_|refine Wd ?_|refine We ?_|refine Wf ?_));(conv=>whnf)))
  refine ⟨(show (0 : Int) ≤ l.getD k 0 by omega), ?_⟩
  refine ⟨(show l.getD k 0 < ((W k).length : Int) by omega), ?_⟩
  ((conv=>whnf);repeat (refine Wa ?_;(repeat (first|refine Wb ?_|refine Wc ?_|refine Wd ?_|refine We ?_|refine Wf ?_));(conv=>whnf)))
  refine ⟨(show InR (wrS W l (k + 1)) from inr (by simp only [wrS]; omega)), ?_⟩
  ((conv=>whnf);repeat (refine Wa ?_;(repeat (first|refine Wb ?_|refine Wc ?_|refine Wd ?_|refine We ?_|refine Wf ?_));(conv=>whnf)))
  refine ⟨inr (by omega), ?_⟩
  ((conv=>whnf);repeat (refine Wa ?_;(repeat (first|refine Wb ?_|refine Wc ?_|refine Wd ?_|refine We ?_|refine Wf ?_));(conv=>whnf)))
  refine ⟨⟨k + 1, hk', rfl, rfl⟩, ?_⟩
  simp [V.toInt, sel, Env.get]; omega
 ·obtain rfl : k = n := by omega
  ((conv=>whnf);repeat (refine Wa ?_;(repeat (first|refine Wb ?_|refine Wc ?_|refine Wd ?_|refine We ?_|refine Wf ?_));(conv=>whnf)))
  exact ⟨trivial, rfl⟩

@[reducible] def worO (n : Nat) (W : Nat → List Int) : V := .bnd 88 1 fun _ => tabV n W
/-- Rows with their orders. -/
def rkF (L : List (List Int)) (h : Nat → Int) : Nat → Nat → V := fun j q => match q with | 0 => .ints true (L.getD j []) | _ => .int (h j)
def rkP (L : List (List Int)) (h : Nat → Int) (k : Nat) : Nat → Nat → V := fun j q => if j < k ∨ L.length ≤ j then rkF L h j q else match q with | 0 => .emp true | _ => .int 0
theorem rkP_all {L : List (List Int)} {h : Nat → Int} : rkP L h L.length = rkF L h := funext fun j => funext fun q => by
 unfold rkP
 rw [if_pos (by omega)]
theorem subT {M : Mem} {d n : Nat} {W : Nat → List Int} : Sub (.seq false 1 n fun j _ => byvalN M (d + 1) (.ints false (W j))) (tabV n W) := sub_seq fun _ _ _ _ => Sub.refl _
@[reducible] def O114 : Ob := ⟨114, 2, 0, .one [.emp true, .int 0]⟩
theorem namedTb {kp : Nat → Bool} {n : Nat} {W : Nat → List Int} {fr : Bool} : Named kp (.seq fr 1 n fun j _ => .ints false (W j)) := fun _ _ _ _ => trivial
theorem namedRw {kp : Nat → Bool} {L : List (List Int)} : Named kp (rowsV L) := fun _ _ _ _ => trivial
theorem namedRk {kp : Nat → Bool} {L : List (List Int)} {h : Nat → Int} {k j q : Nat} : Named kp (rkP L h k j q) := by
 unfold rkP rkF
 split <;> split <;> trivial
theorem put_rk {L : List (List Int)} {h : Nat → Int} {i k j q : Nat} {va vb : V} (hk : k < L.length) (hi : i = k) (ha : va = .ints true (L.getD k [])) (hb : vb = .int (h k)) (hq : q < 2) : (if j = i ∧ q = 0 + 1 then vb else if j = i ∧ q = 0 + 0 then va else rkP L h k j q) = rkP L h (k + 1) j q := by
 subst hi
 by_cases hji : j = i
 ·subst hji
  rcases (by omega : q = 0 ∨ q = 1) with rfl | rfl
  ·rw [if_neg (by omega), if_pos (by omega), ha]
   unfold rkP
   rw [if_pos (by omega)]
   rfl
  ·rw [if_pos (by omega), hb]
   unfold rkP
   rw [if_pos (by omega)]
   rfl
 ·rw [if_neg (fun h => hji h.1), if_neg (fun h => hji h.1)]
  unfold rkP
  by_cases hjk : j < i ∨ L.length ≤ j
  ·rw [if_pos hjk, if_pos (by omega)]
  ·rw [if_neg hjk, if_neg (by omega)]
@[reducible] noncomputable def xR : Cx := ⟨Try.prog, tab, [], 28, 0, false⟩
set_option maxRecDepth 100000 in
theorem rank2_cm {n : Nat} {W : Nat → List Int} {L : List (List Int)} {h : Nat → Int} (hm : L.length ≤ 100000) (ho : ∀ j, j < L.length → APure Try.prog 88 [tabV n W, .ints false (L.getD j [])] (fun R => R = .int (h j))) :
  ACM Try.prog 108 [rowsV L, worO n W] [some O114] (fun R M' => R = .sl 1 0 0 L.length ∧ M' = [some O114, some ⟨114, 2, 0, .cv L.length (rkF L h)⟩]) (some 0) := by
 refine ACM_ofW (T := tab) tab_ok Try.func108 (by decide) rfl (Nat.le_of_ble_eq_true rfl) ?_
 refine AW_of_awp (X := xR) tab_ok ?_
 ((conv=>whnf);repeat (refine Wa ?_;(repeat (first|refine Wb ?_|refine Wc ?_|refine Wd ?_|refine We ?_|refine Wf ?_));(conv=>whnf)))
 refine ⟨(show (0 : Int) ≤ (L.length : Int) by omega), ?_⟩
 refine ⟨Int.le_refl _, ?_⟩
 refine ⟨(show (32 : Int) * (L.length : Int) ≤ 140737488355328 by omega), ?_⟩
 rw [Int.toNat_natCast]
 ((conv=>whnf);repeat (refine Wa ?_;(repeat (first|refine Wb ?_|refine Wc ?_|refine Wd ?_|refine We ?_|refine Wf ?_));(conv=>whnf)))
 refine AW_loopA (X := xR) tab_ok [1, 5, 11, 12, 13] (fun t => Nat.blt t 2) (fun vs M => ∃ k : Nat, k ≤ L.length ∧ vs = [worO n W, .sl 1 0 0 L.length, rowsV L, .int L.length, .int k] ∧ M = [some O114, some ⟨114, 2, 0, .cv L.length (rkP L h k)⟩])
  (fun vs _ => L.length - (vs.getD 4 .any).toInt.toNat) (fun t ht => by have : t < 2 := ht; simp; omega) ?_ ?_
 ·refine memA0 [some O114, some ⟨114, 2, 0, .cv L.length (rkP L h 0)⟩] ⟨ObSub.refl _, ObSub_vv (fun j q hj hq => ?_), trivial⟩ ⟨0, Nat.zero_le _, rfl, rfl⟩
  have hq : q < 2 := hq
  unfold rkP
  rw [if_neg (by omega)]
  rcases (by omega : q = 0 ∨ q = 1) with rfl | rfl <;> rfl
 rintro vs M ⟨k, hk, rfl, rfl⟩
 ((conv=>whnf);repeat (refine Wa ?_;(repeat (first|refine Wb ?_|refine Wc ?_|refine Wd ?_|refine We ?_|refine Wf ?_));(conv=>whnf)))
 refine br_dec (fun hlt => ?_) (fun hge => ?_)
 ·have hk' : k < L.length := by omega
  have hck := ho k hk'
  ((conv=>whnf);repeat (refine Wa ?_;(repeat (first|refine Wb ?_|refine Wc ?_|refine Wd ?_|refine We ?_|refine Wf ?_));(conv=>whnf)))
  refine ⟨(show (0 : Int) ≤ (k : Int) by omega), ?_⟩
  refine ⟨(show (k : Int) < (L.length : Int) by omega), ?_⟩
  ((conv=>whnf);repeat (refine Wa ?_;(repeat (first|refine Wb ?_|refine Wc ?_|refine Wd ?_|refine We ?_|refine Wf ?_));(conv=>whnf)))
  refine APure.to (APure.arg2 subT (Sub.refl _) hck) ?_
  ((conv=>whnf);repeat (refine Wa ?_;(repeat (first|refine Wb ?_|refine Wc ?_|refine Wd ?_|refine We ?_|refine Wf ?_));(conv=>whnf)))
  refine ⟨(show (0 : Int) ≤ (k : Int) by omega), ?_⟩
  refine ⟨(show (k : Int) < (L.length : Int) by omega), ?_⟩
  ((conv=>whnf);repeat (refine Wa ?_;(repeat (first|refine Wb ?_|refine Wc ?_|refine Wd ?_|refine We ?_|refine Wf ?_));(conv=>whnf)))
  refine ⟨inr (by omega), ?_⟩
  ((conv=>whnf);repeat (refine Wa ?_;(repeat (first|refine Wb ?_|refine Wc ?_|refine Wd ?_|refine We ?_|refine Wf ?_));(conv=>whnf)))
  refine ⟨?_, memA1 [some O114, some ⟨114, 2, 0, .cv L.length (rkP L h (k + 1))⟩] ⟨ObSub.refl _, ObSub_vv (fun j q hj hq => ?_), trivial⟩ ⟨⟨k + 1, hk', rfl, rfl⟩, ?_⟩⟩
  ·refine ⟨by repeat (first|exact trivial|exact rfl|exact namedRw|exact fun _ _=>namedTb|exact fun _=>trivial|exact fun _ _=>trivial|exact fun _ _ _=>trivial|exact fun _ _ _ _=>trivial|refine And.intro ?_ ?_), ?_⟩
   refine ⟨⟨trivial, trivial, trivial⟩, fun j q _ hq => ?_, trivial⟩
   have hq : q < 2 := hq
   rcases (by omega : q = 0 ∨ q = 1) with rfl | rfl <;> repeat (first | exact trivial | exact namedRk | (show Named _ (if _ then _ else _); split))
  ·exact put_rk hk' (show 0 + (k : Int).toNat = k by omega) rfl rfl hq
  ·simp [V.toInt, sel, Env.get]; omega
 ·obtain rfl : k = L.length := by omega
  rw [rkP_all]
  ((conv=>whnf);repeat (refine Wa ?_;(repeat (first|refine Wb ?_|refine Wc ?_|refine Wd ?_|refine We ?_|refine Wf ?_));(conv=>whnf)))
  exact ⟨_, rfl, rfl, rfl⟩

@[reducible] def rkV (fr : Bool) (l : List Int) (x : Int) : V := .agg 2 fun k => [V.ints fr l, V.int x].getD k .any
theorem nofrRk {l : List Int} {x : Int} : NoFr (rkV false l x) := fun k => by
 match k with
 | 0 => rfl
 | 1 => trivial
 | _ + 2 => trivial
theorem cmp2_pure (l m : List Int) (b d : Int) : APure Try.prog 109 [rkV false l b, rkV false m d] (fun R => R = .int (cmpI b d)) := by
 refine APure_of (X := cx 10) (cx_ok 10) rfl (rs := [(.tmp 4, 3)]) Try.func109 (by decide) rfl rfl rfl (by simp [cx]) (nofr2 nofrRk nofrRk) ?_
 intro hlen
 ((conv=>whnf);repeat (refine Wa ?_;(repeat (first|refine Wb ?_|refine Wc ?_|refine Wd ?_|refine We ?_|refine Wf ?_));(conv=>whnf)))
 refine APure.to (Compare_pure b d) ?_
 ((conv=>whnf);repeat (refine Wa ?_;(repeat (first|refine Wb ?_|refine Wc ?_|refine Wd ?_|refine We ?_|refine Wf ?_));(conv=>whnf)))
 exact ⟨trivial, rfl⟩
@[reducible] def cmpC2 : V := .clo 109 0 fun _ => .any
theorem sub_rk {g : Nat → V} {l : List Int} {b : Int} (h0 : g 0 = .ints false l) (h1 : g 1 = .int b) : Sub (.agg 2 g) (rkV false l b) := sub_agg fun i hi => by
 rcases (by omega : i = 0 ∨ i = 1) with rfl | rfl
 ·rw [h0]; exact Sub.refl _
 ·rw [h1]; exact Sub.refl _
theorem namedRf {kp : Nat → Bool} {L : List (List Int)} {h : Nat → Int} {j q : Nat} : Named kp (rkF L h j q) := by
 unfold rkF
 split <;> trivial
theorem agg2_eq' {F : Nat → V} {x y : V} (h0 : F 0 = x) (h1 : F 1 = y) (h2 : ∀ q, F (q + 2) = .any) : V.agg 2 F = .agg 2 fun k => [x, y].getD k .any := congrArg (V.agg 2) (funext fun q => by
 match q with
 | 0 => exact h0
 | 1 => exact h1
 | q + 2 => exact h2 q)
@[reducible] noncomputable def xM : Cx := ⟨Try.prog, tab, [], 33, 0, false⟩
set_option maxRecDepth 100000 in
theorem maxFunc2_cm {L : List (List Int)} {h : Nat → Int} (h1 : 1 ≤ L.length) (hm : L.length ≤ 100000) :
  ACM Try.prog 107 [.sl 1 0 0 L.length, cmpC2] [some O114, some ⟨114, 2, 0, .cv L.length (rkF L h)⟩]
   (fun R M' => R = rkV true (L.getD (mxI h L.length) []) (h (mxI h L.length)) ∧ ∃ o2 o3 o4, M' = [some O114, some o2, some o3, some o4]) (some 0) := by
 refine ACM_ofW (T := tab) tab_ok Try.func107 (by decide) rfl (Nat.le_of_ble_eq_true rfl) ?_
 refine AW_of_awp (X := xM) tab_ok ?_
 ((conv=>whnf);repeat (refine Wa ?_;(repeat (first|refine Wb ?_|refine Wc ?_|refine Wd ?_|refine We ?_|refine Wf ?_));(conv=>whnf)))
 rw [decide_eq_false (show ¬ (L.length : Int) < 1 by omega)]
 ((conv=>whnf);repeat (refine Wa ?_;(repeat (first|refine Wb ?_|refine Wc ?_|refine Wd ?_|refine We ?_|refine Wf ?_));(conv=>whnf)))
 refine ⟨Int.le_refl _, ?_⟩
 refine ⟨(show (0 : Int) < (L.length : Int) by omega), ?_⟩
 ((conv=>whnf);repeat (refine Wa ?_;(repeat (first|refine Wb ?_|refine Wc ?_|refine Wd ?_|refine We ?_|refine Wf ?_));(conv=>whnf)))
 refine AW_loopA (X := xM) tab_ok [0, 1, 4, 5, 6] (fun t => Nat.blt t 4) (fun vs M => ∃ k : Nat, 1 ≤ k ∧ k ≤ L.length ∧ vs = [.sl 1 0 0 L.length, cmpC2, .ptr 2 0 0 0, .ptr 3 0 0 0, .int k] ∧ M = [some O114, some ⟨114, 2, 0, .cv L.length (rkF L h)⟩, some O114, some ⟨114, 2, 0, .one [.ints true (L.getD (mxI h k) []), .int (h (mxI h k))]⟩])
  (fun vs _ => L.length - (vs.getD 4 .any).toInt.toNat) (fun t ht => by have : t < 4 := ht; simp; omega) ?_ ?_
 ·exact same0 ⟨1, Nat.le_refl _, h1, rfl, rfl⟩
 rintro vs M ⟨k, hk1, hk, rfl, rfl⟩
 have hmk : mxI h (k + 1) = if h k > h (mxI h k) then k else mxI h k := by simp only [mxI]; rw [if_neg (by omega)]
 generalize hi : mxI h k = i at *
 ((conv=>whnf);repeat (refine Wa ?_;(repeat (first|refine Wb ?_|refine Wc ?_|refine Wd ?_|refine We ?_|refine Wf ?_));(conv=>whnf)))
 refine br_dec (fun hlt => ?_) (fun hge => ?_)
 ·have hk' : k < L.length := by omega
  ((conv=>whnf);repeat (refine Wa ?_;(repeat (first|refine Wb ?_|refine Wc ?_|refine Wd ?_|refine We ?_|refine Wf ?_));(conv=>whnf)))
  refine AW_draw (X := xM) tab_ok mixed (by kernel_rfl) ?_
  ((conv=>whnf);repeat (refine Wa ?_;(repeat (first|refine Wb ?_|refine Wc ?_|refine Wd ?_|refine We ?_|refine Wf ?_));(conv=>whnf)))
  refine ⟨(show (0 : Int) ≤ (k : Int) by omega), ?_⟩
  refine ⟨(show (k : Int) < (L.length : Int) by omega), ?_⟩
  ((conv=>whnf);repeat (refine Wa ?_;(repeat (first|refine Wb ?_|refine Wc ?_|refine Wd ?_|refine We ?_|refine Wf ?_));(conv=>whnf)))
  refine ⟨.int (cmpI (h k) (h i)), APure.arg2 (sub_rk (by exact congrArg (fun z => V.ints false (L.getD z [])) (Nat.zero_add k)) (by exact congrArg (fun z => V.int (h z)) (Nat.zero_add k))) (sub_rk rfl rfl) (cmp2_pure (L.getD k []) (L.getD i []) (h k) (h i)), ?_⟩
  ((conv=>whnf);repeat (refine Wa ?_;(repeat (first|refine Wb ?_|refine Wc ?_|refine Wd ?_|refine We ?_|refine Wf ?_));(conv=>whnf)))
  refine br_dec (fun hb => ?_) (fun hb => ?_)
  ·rw [if_pos (cmpI_pos.1 hb)] at hmk
   ((conv=>whnf);repeat (refine Wa ?_;(repeat (first|refine Wb ?_|refine Wc ?_|refine Wd ?_|refine We ?_|refine Wf ?_));(conv=>whnf)))
   refine ⟨(show (0 : Int) ≤ (k : Int) by omega), ?_⟩
   refine ⟨(show (k : Int) < (L.length : Int) by omega), ?_⟩
   ((conv=>whnf);repeat (refine Wa ?_;(repeat (first|refine Wb ?_|refine Wc ?_|refine Wd ?_|refine We ?_|refine Wf ?_));(conv=>whnf)))
   refine ⟨inr (by omega), ?_⟩
   ((conv=>whnf);repeat (refine Wa ?_;(repeat (first|refine Wb ?_|refine Wc ?_|refine Wd ?_|refine We ?_|refine Wf ?_));(conv=>whnf)))
   refine ⟨?_, memA1 [some O114, some ⟨114, 2, 0, .cv L.length (rkF L h)⟩, some O114, some ⟨114, 2, 0, .one [.ints true (L.getD k []), .int (h k)]⟩] ⟨ObSub.refl _, ObSub.refl _, ObSub.refl _, ?_, trivial⟩ ⟨⟨k + 1, by omega, by omega, rfl, by rw [hmk]⟩, ?_⟩⟩
   ·exact ⟨by repeat (first|exact trivial|exact rfl|exact fun _=>trivial|exact fun _ _=>trivial|exact fun _ _ _=>trivial|exact fun _ _ _ _=>trivial|refine And.intro ?_ ?_), ⟨trivial, trivial, trivial⟩, fun _ _ _ _ => namedRf, ⟨trivial, trivial, trivial⟩, ⟨trivial, trivial, trivial⟩, trivial⟩
   ·exact ObSub.of (congrArg (fun z => (⟨114, 2, 0, .one [.ints true (L.getD z []), .int (h z)]⟩ : Ob)) (Nat.zero_add k))
   simp [V.toInt, sel, Env.get]; omega
  ·rw [if_neg (fun h => hb (cmpI_pos.2 h))] at hmk
   ((conv=>whnf);repeat (refine Wa ?_;(repeat (first|refine Wb ?_|refine Wc ?_|refine Wd ?_|refine We ?_|refine Wf ?_));(conv=>whnf)))
   refine ⟨inr (by omega), ?_⟩
   ((conv=>whnf);repeat (refine Wa ?_;(repeat (first|refine Wb ?_|refine Wc ?_|refine Wd ?_|refine We ?_|refine Wf ?_));(conv=>whnf)))
   refine ⟨?_, memA1 [some O114, some ⟨114, 2, 0, .cv L.length (rkF L h)⟩, some O114, some ⟨114, 2, 0, .one [.ints true (L.getD i []), .int (h i)]⟩] ⟨ObSub.refl _, ObSub.refl _, ObSub.refl _, ObSub.refl _, trivial⟩ ⟨⟨k + 1, by omega, by omega, rfl, by rw [hmk]⟩, ?_⟩⟩
   ·exact ⟨by repeat (first|exact trivial|exact rfl|exact fun _=>trivial|exact fun _ _=>trivial|exact fun _ _ _=>trivial|exact fun _ _ _ _=>trivial|refine And.intro ?_ ?_), ⟨trivial, trivial, trivial⟩, fun _ _ _ _ => namedRf, ⟨trivial, trivial, trivial⟩, ⟨trivial, trivial, trivial⟩, trivial⟩
   simp [V.toInt, sel, Env.get]; omega
 ·obtain rfl : k = L.length := by omega
  subst hi
  ((conv=>whnf);repeat (refine Wa ?_;(repeat (first|refine Wb ?_|refine Wc ?_|refine Wd ?_|refine We ?_|refine Wf ?_));(conv=>whnf)))
  exact ⟨_, rfl, agg2_eq' rfl rfl (fun _ => rfl), _, _, _, rfl⟩
end Go.Tri
