/-
  NEEDS THAT ARE TURNED, OR READ BACKWARDS, have the same Least and Share.
-/
import Derived.Test.YtciefpkelgjboaaM5
import Derived.Test.YtciefpkelgjboaaL2
import Derived.Test.YtciefpkelgjboaaB14
namespace Go.Tri
open Go.Proofs

/-- l' says at y what l says at f y, and a plan of l is one of l'. -/
structure Img (l l' : List Int) : Prop where
  len : l'.length = l.length
  get : ∃ f : Nat → Nat, ∀ y, y < l.length → f y < l.length ∧ l'.getD y 0 = l.getD (f y) 0
  fea : ∀ (d : Nat) (long : Nat) (T : Int), 1 ≤ l.length → long ≤ l.length → Fea (mul l d) long T → Fea (mul l' d) long T

def Rot (l l' : List Int) (b : Int) : Prop := l'.length = l.length ∧ ∀ y, y < l.length → l'.getD y 0 = l.getD (arH l.length (y + b)) 0
def Rev (l l' : List Int) : Prop := l'.length = l.length ∧ ∀ y, y < l.length → l'.getD y 0 = l.getD (l.length - 1 - y) 0

theorem rot_back {l l' : List Int} {b : Int} (hn : 1 ≤ l.length) (h : Rot l l' b) : Rot l' l (-b) := by
  obtain ⟨h1, h2⟩ := h
  refine ⟨h1.symm, fun y hy => ?_⟩
  rw [h1] at hy ⊢
  rw [h2 _ (arH_lt hn _)]
  rw [show ((arH l.length ((y : Int) + -b) : Nat) : Int) + b = b + (arH l.length ((y : Int) + -b) : Nat) by omega, arH_shift hn, show b + ((y : Int) + -b) = (y : Int) by omega, arH_small hy]
theorem rev_back {l l' : List Int} (h : Rev l l') : Rev l' l := by
  obtain ⟨h1, h2⟩ := h
  refine ⟨h1.symm, fun y hy => ?_⟩
  rw [h1] at hy ⊢
  rw [h2 _ (by omega), show l.length - 1 - (l.length - 1 - y) = y by omega]

theorem rot_img {l l' : List Int} {b : Int} (h : Rot l l' b) (hn : 1 ≤ l.length) : Img l l' := by
  obtain ⟨h1, h2⟩ := h
  refine ⟨h1, ⟨fun y => arH l.length (y + b), fun y hy => ⟨arH_lt hn _, h2 y hy⟩⟩, ?_⟩
  rintro d long T _ hl ⟨p, hp⟩
  have m1 := mul_len l (d : Int)
  have m2 := mul_len l' (d : Int)
  have p1 := hp.nn
  have p2 := hp.size
  have p3 := hp.enough
  rw [m1] at p1 p2 p3
  refine ⟨fun y => p (arH l.length (y + b)), ⟨fun i hi => p1 _ (arH_lt hn _), ?_, ?_⟩⟩
  · rw [m2, h1, sm_rotI p hn]
    exact p2
  · intro y hy
    rw [m2, h1] at hy ⊢
    rw [mul_get _ _ (by omega), h2 y hy, ← mul_get l _ (arH_lt hn _)]
    refine Int.le_trans (p3 _ (arH_lt hn _)) (Int.le_of_eq ?_)
    rw [cov_eq hn hl, cov_eq hn hl]
    refine sm_congr fun k hk => ?_
    rw [show ((arH l.length ((y : Int) + b) : Nat) : Int) - (k : Int) = -(k : Int) + (arH l.length ((y : Int) + b) : Nat) by omega, arH_shift hn]
    rw [show ((arH l.length ((y : Int) - k) : Nat) : Int) + b = b + (arH l.length ((y : Int) - k) : Nat) by omega, arH_shift hn]
    congr 2
    omega
theorem rev_img {l l' : List Int} (h : Rev l l') (hn : 1 ≤ l.length) : Img l l' := by
  obtain ⟨h1, h2⟩ := h
  refine ⟨h1, ⟨fun y => l.length - 1 - y, fun y hy => ⟨by show l.length - 1 - y < l.length; omega, h2 y hy⟩⟩, ?_⟩
  rintro d long T _ hl ⟨p, hp⟩
  have m1 := mul_len l (d : Int)
  have m2 := mul_len l' (d : Int)
  have p1 := hp.nn
  have p2 := hp.size
  have p3 := hp.enough
  rw [m1] at p1 p2 p3
  refine ⟨fun y => p (arH l.length (-(long : Int) - y)), ⟨fun i hi => p1 _ (arH_lt hn _), ?_, ?_⟩⟩
  · rw [m2, h1, sm_ref p hn]
    exact p2
  · intro y hy
    rw [m2, h1] at hy ⊢
    rw [mul_get _ _ (by omega), h2 y hy, ← mul_get l _ (by omega)]
    refine Int.le_trans (p3 _ (by omega)) (Int.le_of_eq ?_)
    rw [cov_eq hn hl, cov_eq hn hl, ← sm_rev (fun k => p (arH l.length (((l.length - 1 - y : Nat) : Int) - k)))]
    refine sm_congr fun k hk => ?_
    rw [arH_shift' hn]
    rw [← arH_per hn (-(long : Int) - ((y : Int) - k))]
    congr 2
    omega

theorem img_leL {l l' : List Int} (hn : Nds l) (hn' : Nds l') (i1 : Img l l') (i2 : Img l' l) {d long : Nat} (hd : d ≤ 12) (hl1 : 1 ≤ long) (hl : long ≤ l.length) : leL (mul l' d) long = leL (mul l d) long := by
  have e := i1.len
  have h1 : (leL (mul l' d) long : Int) ≤ leL (mul l d) long := (leM_iff hn' hl1 (by omega) hd).1 (i1.fea d long _ hn.1 hl ((leM_iff hn hl1 hl hd).2 (Int.le_refl _)))
  have h2 : (leL (mul l d) long : Int) ≤ leL (mul l' d) long := (leM_iff hn hl1 hl hd).1 (i2.fea d long _ hn'.1 (by omega) ((leM_iff hn' hl1 (by omega) hd).2 (Int.le_refl _)))
  omega
theorem img_le1 {l l' : List Int} (hn : Nds l) (hn' : Nds l') (i1 : Img l l') (i2 : Img l' l) {long : Nat} (hl1 : 1 ≤ long) (hl : long ≤ l.length) : leL l' long = leL l long := by
  have := img_leL hn hn' i1 i2 (d := 1) (by omega) hl1 hl
  rwa [show ((1 : Nat) : Int) = 1 from rfl, mul_id, mul_id] at this
theorem img_shR {l l' : List Int} (hn : Nds l) (hn' : Nds l') (i1 : Img l l') (i2 : Img l' l) {long : Nat} (hl1 : 1 ≤ long) (hl : long ≤ l.length) : ∀ k, k ≤ 13 → shR l' long k = shR l long k := by
  intro k
  induction k with
  | zero => intro _; rfl
  | succ k ih =>
    intro hk
    rcases (by omega : k = 0 ∨ k = 1 ∨ 2 ≤ k) with rfl | rfl | h2
    · rfl
    · show ((leL l' long : Int), (1 : Int)) = ((leL l long : Int), (1 : Int))
      rw [img_le1 hn hn' i1 i2 hl1 hl]
    · rw [shR_succ _ _ h2, shR_succ _ _ h2, ih (by omega), img_leL hn hn' i1 i2 (by omega) hl1 hl]
theorem img_nds {l l' : List Int} (hn : Nds l) (i : Img l l') : Nds l' := by
  obtain ⟨f, hf⟩ := i.get
  refine ⟨by rw [i.len]; exact hn.1, by rw [i.len]; exact hn.2.1, fun q hq => ?_⟩
  rw [i.len] at hq
  rw [(hf q hq).2]
  exact hn.2.2 _ (hf q hq).1
theorem img_leV {l l' : List Int} {long : Int} (h : dayE l long = 0) (i1 : Img l l') (i2 : Img l' l) : leV l' long = leV l long := by
  obtain ⟨hn, hl1, hl2⟩ := dayE_inv h
  have hn' := img_nds hn i1
  obtain ⟨n, rfl⟩ : ∃ n : Nat, long = n := ⟨long.toNat, by omega⟩
  rw [leV_ok h, leV_ok (dayE_ok hn' hl1 (by rw [i1.len]; exact hl2)), img_le1 hn hn' i1 i2 (by omega) (by omega)]
theorem img_shV {l l' : List Int} {long : Int} (h : dayE l long = 0) (i1 : Img l l') (i2 : Img l' l) : shV l' long = shV l long := by
  obtain ⟨hn, hl1, hl2⟩ := dayE_inv h
  have hn' := img_nds hn i1
  obtain ⟨n, rfl⟩ : ∃ n : Nat, long = n := ⟨long.toNat, by omega⟩
  have n12 := hn.2.1
  unfold shV
  rw [if_pos h, if_pos (dayE_ok hn' hl1 (by rw [i1.len]; exact hl2)), Int.toNat_natCast, img_shR hn hn' i1 i2 (by omega) (by omega) _ (by omega)]

theorem tuL_rot {l : List Int} (hn : 1 ≤ l.length) (b : Int) : Rot l (tuL l b) b := by
  have hq := arH_lt hn b
  have hs : ∀ y : Nat, arH l.length ((y : Int) + b) = arH l.length ((y : Int) + arH l.length b) := fun y => (arH_shift hn _ _).symm
  unfold tuL
  constructor
  · rw [List.length_append, List.length_drop, List.length_take]; omega
  · intro y hy
    rw [hs y]
    generalize arH l.length b = q at *
    rcases Nat.lt_or_ge y (l.length - q) with h | h
    · rw [List.getD, List.getElem?_append_left (by rw [List.length_drop]; exact h), arH_uniq (q := y + q) (by omega) 0 (by omega)]
      simp [List.getD, Nat.add_comm]
    · rw [List.getD, List.getElem?_append_right (by rw [List.length_drop]; exact h), arH_uniq (q := y + q - l.length) (by omega) 1 (by omega), List.length_drop]
      simp only [List.getD]
      rw [List.getElem?_take_of_lt (by omega), show y - (l.length - q) = y + q - l.length by omega]
theorem tuL_all {l : List Int} (hn : 1 ≤ l.length) : tuL l l.length = l := by
  unfold tuL
  rw [arH_uniq (q := 0) (by omega) 1 (by omega)]
  simp
theorem revL_rev (l : List Int) : Rev l l.reverse := ⟨List.length_reverse, fun y hy => by
  simp only [List.getD]
  rw [List.getElem?_reverse hy]⟩
end Go.Tri
