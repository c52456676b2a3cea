/-
  CONTRACTS: can of the reference.
-/
import Derived.Test.YthocieklelgmbaaB18
import Derived.Test.YthocieklelgmbaaM9
namespace Go.Tri
open Go.Proofs

def raL (L : List Arc) : Nat → Nat → V := raA (fA L) (tA L) (wA L)
theorem raL_app {L M : List Arc} {j k : Nat} : raL (L ++ M) j k = if j < L.length then raL L j k else raL M (j - L.length) k := by
  unfold raL raA fA tA wA
  by_cases h : j < L.length
  · rw [if_pos h]
    simp only [List.getD_eq_getElem?_getD, List.getElem?_append_left h]
  · rw [if_neg h]
    simp only [List.getD_eq_getElem?_getD, List.getElem?_append_right (Nat.le_of_not_lt h)]
def AgreeTo (n sz : Nat) (f h : Nat → Nat → V) : Prop := ∀ j k, j < n → k < sz → f j k = h j k
theorem agree_app {m n sz : Nat} {f g h : Nat → Nat → V} (h1 : AgreeTo m sz f h) (h2 : ∀ i k, i < n → k < sz → g i k = h (m + i) k) : AgreeTo (m + n) sz (fun j k => if j < m then f j k else g (j - m) k) h := fun j k hj hk => by
  show (if j < m then f j k else g (j - m) k) = h j k
  by_cases h : j < m
  · rw [if_pos h]; exact h1 j k h hk
  · rw [if_neg h, h2 (j - m) k (by omega) hk, show m + (j - m) = j by omega]
theorem ObSub_ag {e sz ver n : Nat} {f g : Nat → Nat → V} (h : AgreeTo n sz f g) : ObSub ⟨e, sz, ver, .cv n f⟩ ⟨e, sz, ver, .cv n g⟩ := ObSub_vv h
theorem named_ag {kp : Nat → Bool} {n sz : Nat} {f : Nat → Nat → V} (L : List Arc) (h : AgreeTo n sz f (raL L)) : NamedC kp sz (.cv n f) := fun j k hj hk => by
  rw [h j k hj hk]
  show Named kp (raA _ _ _ j k)
  unfold raA
  split <;> trivial
theorem raL_at {L H : List Arc} {c q : Nat} : raL (L ++ H) (L.length + c) q = raL H c q := by
  rw [raL_app, if_neg (by omega), show L.length + c - L.length = c by omega]
theorem raL_left {L H : List Arc} {sz : Nat} : AgreeTo L.length sz (raL L) (raL (L ++ H)) := fun j q hj _ => by rw [raL_app, if_pos hj]
/-- Is there a plan of the size that begins so? -/
def canR (l : List Int) (times : Int) (long : Nat) (size : Int) (B : List Int) : Bool := fitB (fA (arcL l times long size B l.length)) (tA (arcL l times long size B l.length)) (wA (arcL l times long size B l.length)) (arcL l times long size B l.length).length (l.length + 2)

set_option maxRecDepth 100000 in
theorem can_pure (l : List Int) (t : Int) (long : Nat) (size : Int) (B : List Int) (h1 : 1 ≤ l.length) (h2 : l.length ≤ 12) (hl1 : 1 ≤ long) (hl : long ≤ l.length) (ht : bet 0 10000 (mul l t) l.length) (hs : 0 ≤ size ∧ size ≤ 10000) (hB : bet 0 10000 B B.length) :
    APure Try.prog 50 [.ints false l, .int t, .int long, .int size, .ints false B] (fun R => R = .bool (canR l t long size B)) := by
  refine APure_of (X := cx 101) (cx_ok 101) rfl (rs := [(.tmp 10, 4)]) Try.func50 (by decide) rfl rfl rfl (by simp [cx]) (by simp [NoFr]) ?_
  intro hlen
  have hok := arcL_ok hl1 hl ht hs hB
  have hln := arcL_len (l := l) (times := t) (long := long) (size := size) (B := B)
  have fin := fits_pure (l.length + 1) (arcL l t long size B l.length).length (fA (arcL l t long size B l.length)) (tA (arcL l t long size B l.length)) (wA (arcL l t long size B l.length)) (by omega) (by have := hln l.length; omega)
    (fun j hj => (ok_list (hok _ (Nat.le_refl _)) hj).1) (fun j hj => (ok_list (hok _ (Nat.le_refl _)) hj).2)
  ((conv => whnf); repeat (refine stepK_in ?_; (repeat (first | refine seqQ_n ?_ | refine blockQ_n ?_ | refine awp_skip ?_ | refine awp_seq ?_ | refine awp_block ?_)); (conv => whnf)))
  refine ⟨inr (by omega), ?_⟩
  ((conv => whnf); repeat (refine stepK_in ?_; (repeat (first | refine seqQ_n ?_ | refine blockQ_n ?_ | refine awp_skip ?_ | refine awp_seq ?_ | refine awp_block ?_)); (conv => whnf)))
  refine AW_loopA (X := cx 101) (cx_ok 101) [0, 1, 2, 3, 4, 11, 12, 13] (fun t => Nat.beq t 0) (fun vs M => ∃ k ver : Nat, k ≤ l.length ∧ vs = [.ints false l, .int t, .int long, .int size, .ints false B, .int l.length, .sl 0 ver 0 (arcL l t long size B k).length, .int k] ∧ M = [some ⟨77, 3, ver, .cv (arcL l t long size B k).length (raL (arcL l t long size B k))⟩])
    (fun vs _ => l.length - (vs.getD 7 .any).toInt.toNat) (fun t ht => by have : t < 1 := ht; simp; omega) ?_ ?_
  · refine memA0 [some ⟨77, 3, 0, .cv 2 (raL (arcB l.length size))⟩] ⟨ObSub_vv (fun j k hj hk => ?_), trivial⟩ ⟨0, 0, Nat.zero_le _, rfl, rfl⟩
    have hk : k < 3 := hk
    rcases (by omega : j = 0 ∨ j = 1) with rfl | rfl <;> rcases (by omega : k = 0 ∨ k = 1 ∨ k = 2) with rfl | rfl | rfl <;> rfl
  rintro vs M ⟨k, ver, hk, rfl, rfl⟩
  have hLk : arcL l t long size B (k + 1) = arcL l t long size B k ++ arcH l t long size B k := rfl
  have hlk := hln k
  ((conv => whnf); repeat (refine stepK_in ?_; (repeat (first | refine seqQ_n ?_ | refine blockQ_n ?_ | refine awp_skip ?_ | refine awp_seq ?_ | refine awp_block ?_)); (conv => whnf)))
  refine br_dec (fun hlt => ?_) (fun hge => ?_)
  · have hk' : k < l.length := by omega
    generalize arcL l t long size B k = L at *
    ((conv => whnf); repeat (refine stepK_in ?_; (repeat (first | refine seqQ_n ?_ | refine blockQ_n ?_ | refine awp_skip ?_ | refine awp_seq ?_ | refine awp_block ?_)); (conv => whnf)))
    refine ⟨inr (by omega), ?_⟩
    ((conv => whnf); repeat (refine stepK_in ?_; (repeat (first | refine seqQ_n ?_ | refine blockQ_n ?_ | refine awp_skip ?_ | refine awp_seq ?_ | refine awp_block ?_)); (conv => whnf)))
    refine eqn_self ?_
    refine ⟨(show (24 : Int) * ((L.length : Int) + 1) ≤ 140737488355328 by omega), ?_⟩
    ((conv => whnf); repeat (refine stepK_in ?_; (repeat (first | refine seqQ_n ?_ | refine blockQ_n ?_ | refine awp_skip ?_ | refine awp_seq ?_ | refine awp_block ?_)); (conv => whnf)))
    have hmk : -9223372036854775808 ≤ t * l.getD k 0 ∧ t * l.getD k 0 ≤ 9223372036854775807 := by
      have := ht k hk'
      rw [mul_get l t hk', Int.mul_comm] at this
      omega
    have hmk2 : 0 ≤ t * l.getD k 0 ∧ t * l.getD k 0 ≤ 10000 := by
      have := ht k hk'
      rw [mul_get l t hk', Int.mul_comm] at this
      exact this
    refine br_dec (fun hB1 => ?_) (fun hB1 => ?_)
    · have hBk := hB k (by omega)
      ((conv => whnf); repeat (refine stepK_in ?_; (repeat (first | refine seqQ_n ?_ | refine blockQ_n ?_ | refine awp_skip ?_ | refine awp_seq ?_ | refine awp_block ?_)); (conv => whnf)))
      refine AW_draw (X := cx 101) (cx_ok 101) mixed (by kernel_rfl) ?_
      ((conv => whnf); repeat (refine stepK_in ?_; (repeat (first | refine seqQ_n ?_ | refine blockQ_n ?_ | refine awp_skip ?_ | refine awp_seq ?_ | refine awp_block ?_)); (conv => whnf)))
      refine ⟨inr (by omega), ?_⟩
      ((conv => whnf); repeat (refine stepK_in ?_; (repeat (first | refine seqQ_n ?_ | refine blockQ_n ?_ | refine awp_skip ?_ | refine awp_seq ?_ | refine awp_block ?_)); (conv => whnf)))
      refine ⟨(show (0 : Int) ≤ (k : Int) by omega), ?_⟩
      refine ⟨(show (k : Int) < (B.length : Int) by omega), ?_⟩
      ((conv => whnf); repeat (refine stepK_in ?_; (repeat (first | refine seqQ_n ?_ | refine blockQ_n ?_ | refine awp_skip ?_ | refine awp_seq ?_ | refine awp_block ?_)); (conv => whnf)))
      refine ⟨inr (by omega), ?_⟩
      ((conv => whnf); repeat (refine stepK_in ?_; (repeat (first | refine seqQ_n ?_ | refine blockQ_n ?_ | refine awp_skip ?_ | refine awp_seq ?_ | refine awp_block ?_)); (conv => whnf)))
      refine ⟨(show (0 : Int) ≤ (k : Int) by omega), ?_⟩
      refine ⟨(show (k : Int) < (B.length : Int) by omega), ?_⟩
      ((conv => whnf); repeat (refine stepK_in ?_; (repeat (first | refine seqQ_n ?_ | refine blockQ_n ?_ | refine awp_skip ?_ | refine awp_seq ?_ | refine awp_block ?_)); (conv => whnf)))
      refine ⟨inr (show -9223372036854775808 ≤ -(B.getD k 0) ∧ -(B.getD k 0) ≤ 9223372036854775807 by omega), ?_⟩
      ((conv => whnf); repeat (refine stepK_in ?_; (repeat (first | refine seqQ_n ?_ | refine blockQ_n ?_ | refine awp_skip ?_ | refine awp_seq ?_ | refine awp_block ?_)); (conv => whnf)))
      refine eqn_self ?_
      refine ⟨(show (24 : Int) * (((L.length + 1 : Nat) : Int) + 2) ≤ 140737488355328 by omega), ?_⟩
      ((conv => whnf); repeat (refine stepK_in ?_; (repeat (first | refine seqQ_n ?_ | refine blockQ_n ?_ | refine awp_skip ?_ | refine awp_seq ?_ | refine awp_block ?_)); (conv => whnf)))
      refine ⟨(show (0 : Int) ≤ (k : Int) by omega), ?_⟩
      refine ⟨(show (k : Int) < (l.length : Int) by omega), ?_⟩
      ((conv => whnf); repeat (refine stepK_in ?_; (repeat (first | refine seqQ_n ?_ | refine blockQ_n ?_ | refine awp_skip ?_ | refine awp_seq ?_ | refine awp_block ?_)); (conv => whnf)))
      refine ⟨inr hmk, ?_⟩
      ((conv => whnf); repeat (refine stepK_in ?_; (repeat (first | refine seqQ_n ?_ | refine blockQ_n ?_ | refine awp_skip ?_ | refine awp_seq ?_ | refine awp_block ?_)); (conv => whnf)))
      refine ⟨inr (by omega), ?_⟩
      ((conv => whnf); repeat (refine stepK_in ?_; (repeat (first | refine seqQ_n ?_ | refine blockQ_n ?_ | refine awp_skip ?_ | refine awp_seq ?_ | refine awp_block ?_)); (conv => whnf)))
      refine br_dec (fun hlo => ?_) (fun hlo => ?_)
      · have hH : arcH l t long size B k = [(k, k + 1, 0), (k, k + 1, B.getD k 0), (k + 1, k, -(B.getD k 0)), (k + 1 - long, k + 1, t * l.getD k 0)] := by unfold arcH arcG arcN; rw [if_pos (by omega), if_pos (by omega)]; rfl
        generalize arcH l t long size B k = H at *
        ((conv => whnf); repeat (refine stepK_in ?_; (repeat (first | refine seqQ_n ?_ | refine blockQ_n ?_ | refine awp_skip ?_ | refine awp_seq ?_ | refine awp_block ?_)); (conv => whnf)))
        repeat ((first | refine ⟨inr (by omega), ?_⟩ | refine ⟨inr (show -9223372036854775808 ≤ t * l.getD k 0 - size ∧ t * l.getD k 0 - size ≤ 9223372036854775807 by omega), ?_⟩); ((conv => whnf); repeat (refine stepK_in ?_; (repeat (first | refine seqQ_n ?_ | refine blockQ_n ?_ | refine awp_skip ?_ | refine awp_seq ?_ | refine awp_block ?_)); (conv => whnf))))
        refine eqn_self ?_
        refine ⟨(show (24 : Int) * (((L.length + 1 + 2 : Nat) : Int) + 1) ≤ 140737488355328 by omega), ?_⟩
        ((conv => whnf); repeat (refine stepK_in ?_; (repeat (first | refine seqQ_n ?_ | refine blockQ_n ?_ | refine awp_skip ?_ | refine awp_seq ?_ | refine awp_block ?_)); (conv => whnf)))
        repeat (refine ⟨inr (by omega), ?_⟩; ((conv => whnf); repeat (refine stepK_in ?_; (repeat (first | refine seqQ_n ?_ | refine blockQ_n ?_ | refine awp_skip ?_ | refine awp_seq ?_ | refine awp_block ?_)); (conv => whnf))))
        refine ⟨?_, memA1 [some ⟨77, 3, ver + 1 + 1 + 1, .cv (L.length + 1 + 2 + 1) (raL (L ++ H))⟩] ⟨ObSub_ag ?_, trivial⟩ ⟨⟨k + 1, ver + 1 + 1 + 1, hk', ?_, ?_⟩, ?_⟩⟩
        · refine ⟨?_, ?_⟩
          · exact by repeat (first | exact trivial | exact rfl | exact fun _ => trivial | exact fun _ _ => trivial | exact fun _ _ _ => trivial | exact fun _ _ _ _ => trivial | refine And.intro ?_ ?_)
          · refine ⟨named_ag (L ++ H) ?_, trivial⟩
            intro j q hj hq
            have hq : q < 3 := hq
            have hj : j < L.length + 1 + 2 + 1 := hj
            dsimp only [Src.n]
            rcases (by omega : j < L.length ∨ j = L.length + 0 ∨ j = L.length + 1 ∨ j = L.length + 2 ∨ j = L.length + 3) with hjl | rfl | rfl | rfl | rfl
            · refine (if_pos (show j < L.length + 1 + 2 by omega)).trans ?_; refine (if_pos (show j < L.length + 1 by omega)).trans ?_; refine (if_pos (show j < L.length by omega)).trans ?_; exact raL_left (sz := 3) j q hjl hq
            · refine (if_pos (show L.length + 0 < L.length + 1 + 2 by omega)).trans ?_; refine (if_pos (show L.length + 0 < L.length + 1 by omega)).trans ?_; refine (if_neg (show ¬ L.length + 0 < L.length by omega)).trans ?_; rw [raL_at, hH, show L.length + 0 - (L.length) = 0 by omega]
              rcases (by omega : q = 0 ∨ q = 1 ∨ q = 2) with rfl | rfl | rfl
              · first | rfl | exact congrArg V.int (by show _ = (((k : Nat)) : Int); omega)
              · first | rfl | exact congrArg V.int (by show _ = (((k + 1 : Nat)) : Int); omega)
              · rfl
            · refine (if_pos (show L.length + 1 < L.length + 1 + 2 by omega)).trans ?_; refine (if_neg (show ¬ L.length + 1 < L.length + 1 by omega)).trans ?_; rw [raL_at, hH, show L.length + 1 - (L.length + 1) = 0 by omega]
              rcases (by omega : q = 0 ∨ q = 1 ∨ q = 2) with rfl | rfl | rfl
              · first | rfl | exact congrArg V.int (by show _ = (((k : Nat)) : Int); omega)
              · first | rfl | exact congrArg V.int (by show _ = (((k + 1 : Nat)) : Int); omega)
              · rfl
            · refine (if_pos (show L.length + 2 < L.length + 1 + 2 by omega)).trans ?_; refine (if_neg (show ¬ L.length + 2 < L.length + 1 by omega)).trans ?_; rw [raL_at, hH, show L.length + 2 - (L.length + 1) = 1 by omega]
              rcases (by omega : q = 0 ∨ q = 1 ∨ q = 2) with rfl | rfl | rfl
              · first | rfl | exact congrArg V.int (by show _ = (((k + 1 : Nat)) : Int); omega)
              · first | rfl | exact congrArg V.int (by show _ = (((k : Nat)) : Int); omega)
              · rfl
            · refine (if_neg (show ¬ L.length + 3 < L.length + 1 + 2 by omega)).trans ?_; rw [raL_at, hH, show L.length + 3 - (L.length + 1 + 2) = 0 by omega]
              rcases (by omega : q = 0 ∨ q = 1 ∨ q = 2) with rfl | rfl | rfl
              · first | rfl | exact congrArg V.int (by show _ = (((k + 1 - long : Nat)) : Int); omega)
              · first | rfl | exact congrArg V.int (by show _ = (((k + 1 : Nat)) : Int); omega)
              · rfl
        · intro j q hj hq
          have hq : q < 3 := hq
          have hj : j < L.length + 1 + 2 + 1 := hj
          dsimp only [Src.n]
          rcases (by omega : j < L.length ∨ j = L.length + 0 ∨ j = L.length + 1 ∨ j = L.length + 2 ∨ j = L.length + 3) with hjl | rfl | rfl | rfl | rfl
          · refine (if_pos (show j < L.length + 1 + 2 by omega)).trans ?_; refine (if_pos (show j < L.length + 1 by omega)).trans ?_; refine (if_pos (show j < L.length by omega)).trans ?_; exact raL_left (sz := 3) j q hjl hq
          · refine (if_pos (show L.length + 0 < L.length + 1 + 2 by omega)).trans ?_; refine (if_pos (show L.length + 0 < L.length + 1 by omega)).trans ?_; refine (if_neg (show ¬ L.length + 0 < L.length by omega)).trans ?_; rw [raL_at, hH, show L.length + 0 - (L.length) = 0 by omega]
            rcases (by omega : q = 0 ∨ q = 1 ∨ q = 2) with rfl | rfl | rfl
            · first | rfl | exact congrArg V.int (by show _ = (((k : Nat)) : Int); omega)
            · first | rfl | exact congrArg V.int (by show _ = (((k + 1 : Nat)) : Int); omega)
            · rfl
          · refine (if_pos (show L.length + 1 < L.length + 1 + 2 by omega)).trans ?_; refine (if_neg (show ¬ L.length + 1 < L.length + 1 by omega)).trans ?_; rw [raL_at, hH, show L.length + 1 - (L.length + 1) = 0 by omega]
            rcases (by omega : q = 0 ∨ q = 1 ∨ q = 2) with rfl | rfl | rfl
            · first | rfl | exact congrArg V.int (by show _ = (((k : Nat)) : Int); omega)
            · first | rfl | exact congrArg V.int (by show _ = (((k + 1 : Nat)) : Int); omega)
            · rfl
          · refine (if_pos (show L.length + 2 < L.length + 1 + 2 by omega)).trans ?_; refine (if_neg (show ¬ L.length + 2 < L.length + 1 by omega)).trans ?_; rw [raL_at, hH, show L.length + 2 - (L.length + 1) = 1 by omega]
            rcases (by omega : q = 0 ∨ q = 1 ∨ q = 2) with rfl | rfl | rfl
            · first | rfl | exact congrArg V.int (by show _ = (((k + 1 : Nat)) : Int); omega)
            · first | rfl | exact congrArg V.int (by show _ = (((k : Nat)) : Int); omega)
            · rfl
          · refine (if_neg (show ¬ L.length + 3 < L.length + 1 + 2 by omega)).trans ?_; rw [raL_at, hH, show L.length + 3 - (L.length + 1 + 2) = 0 by omega]
            rcases (by omega : q = 0 ∨ q = 1 ∨ q = 2) with rfl | rfl | rfl
            · first | rfl | exact congrArg V.int (by show _ = (((k + 1 - long : Nat)) : Int); omega)
            · first | rfl | exact congrArg V.int (by show _ = (((k + 1 : Nat)) : Int); omega)
            · rfl
        · rw [hLk, List.length_append, hH]; rfl
        · rw [hLk, List.length_append, hH]; rfl
        · simp [V.toInt, sel, Env.get]; omega
      · have hH : arcH l t long size B k = [(k, k + 1, 0), (k, k + 1, B.getD k 0), (k + 1, k, -(B.getD k 0)), (k + 1 + l.length - long, k + 1, t * l.getD k 0 - size)] := by unfold arcH arcG arcN; rw [if_pos (by omega), if_neg (by omega)]; rfl
        generalize arcH l t long size B k = H at *
        ((conv => whnf); repeat (refine stepK_in ?_; (repeat (first | refine seqQ_n ?_ | refine blockQ_n ?_ | refine awp_skip ?_ | refine awp_seq ?_ | refine awp_block ?_)); (conv => whnf)))
        repeat ((first | refine ⟨inr (by omega), ?_⟩ | refine ⟨inr (show -9223372036854775808 ≤ t * l.getD k 0 - size ∧ t * l.getD k 0 - size ≤ 9223372036854775807 by omega), ?_⟩); ((conv => whnf); repeat (refine stepK_in ?_; (repeat (first | refine seqQ_n ?_ | refine blockQ_n ?_ | refine awp_skip ?_ | refine awp_seq ?_ | refine awp_block ?_)); (conv => whnf))))
        refine eqn_self ?_
        refine ⟨(show (24 : Int) * (((L.length + 1 + 2 : Nat) : Int) + 1) ≤ 140737488355328 by omega), ?_⟩
        ((conv => whnf); repeat (refine stepK_in ?_; (repeat (first | refine seqQ_n ?_ | refine blockQ_n ?_ | refine awp_skip ?_ | refine awp_seq ?_ | refine awp_block ?_)); (conv => whnf)))
        repeat (refine ⟨inr (by omega), ?_⟩; ((conv => whnf); repeat (refine stepK_in ?_; (repeat (first | refine seqQ_n ?_ | refine blockQ_n ?_ | refine awp_skip ?_ | refine awp_seq ?_ | refine awp_block ?_)); (conv => whnf))))
        refine ⟨?_, memA1 [some ⟨77, 3, ver + 1 + 1 + 1, .cv (L.length + 1 + 2 + 1) (raL (L ++ H))⟩] ⟨ObSub_ag ?_, trivial⟩ ⟨⟨k + 1, ver + 1 + 1 + 1, hk', ?_, ?_⟩, ?_⟩⟩
        · refine ⟨?_, ?_⟩
          · exact by repeat (first | exact trivial | exact rfl | exact fun _ => trivial | exact fun _ _ => trivial | exact fun _ _ _ => trivial | exact fun _ _ _ _ => trivial | refine And.intro ?_ ?_)
          · refine ⟨named_ag (L ++ H) ?_, trivial⟩
            intro j q hj hq
            have hq : q < 3 := hq
            have hj : j < L.length + 1 + 2 + 1 := hj
            dsimp only [Src.n]
            rcases (by omega : j < L.length ∨ j = L.length + 0 ∨ j = L.length + 1 ∨ j = L.length + 2 ∨ j = L.length + 3) with hjl | rfl | rfl | rfl | rfl
            · refine (if_pos (show j < L.length + 1 + 2 by omega)).trans ?_; refine (if_pos (show j < L.length + 1 by omega)).trans ?_; refine (if_pos (show j < L.length by omega)).trans ?_; exact raL_left (sz := 3) j q hjl hq
            · refine (if_pos (show L.length + 0 < L.length + 1 + 2 by omega)).trans ?_; refine (if_pos (show L.length + 0 < L.length + 1 by omega)).trans ?_; refine (if_neg (show ¬ L.length + 0 < L.length by omega)).trans ?_; rw [raL_at, hH, show L.length + 0 - (L.length) = 0 by omega]
              rcases (by omega : q = 0 ∨ q = 1 ∨ q = 2) with rfl | rfl | rfl
              · first | rfl | exact congrArg V.int (by show _ = (((k : Nat)) : Int); omega)
              · first | rfl | exact congrArg V.int (by show _ = (((k + 1 : Nat)) : Int); omega)
              · rfl
            · refine (if_pos (show L.length + 1 < L.length + 1 + 2 by omega)).trans ?_; refine (if_neg (show ¬ L.length + 1 < L.length + 1 by omega)).trans ?_; rw [raL_at, hH, show L.length + 1 - (L.length + 1) = 0 by omega]
              rcases (by omega : q = 0 ∨ q = 1 ∨ q = 2) with rfl | rfl | rfl
              · first | rfl | exact congrArg V.int (by show _ = (((k : Nat)) : Int); omega)
              · first | rfl | exact congrArg V.int (by show _ = (((k + 1 : Nat)) : Int); omega)
              · rfl
            · refine (if_pos (show L.length + 2 < L.length + 1 + 2 by omega)).trans ?_; refine (if_neg (show ¬ L.length + 2 < L.length + 1 by omega)).trans ?_; rw [raL_at, hH, show L.length + 2 - (L.length + 1) = 1 by omega]
              rcases (by omega : q = 0 ∨ q = 1 ∨ q = 2) with rfl | rfl | rfl
              · first | rfl | exact congrArg V.int (by show _ = (((k + 1 : Nat)) : Int); omega)
              · first | rfl | exact congrArg V.int (by show _ = (((k : Nat)) : Int); omega)
              · rfl
            · refine (if_neg (show ¬ L.length + 3 < L.length + 1 + 2 by omega)).trans ?_; rw [raL_at, hH, show L.length + 3 - (L.length + 1 + 2) = 0 by omega]
              rcases (by omega : q = 0 ∨ q = 1 ∨ q = 2) with rfl | rfl | rfl
              · first | rfl | exact congrArg V.int (by show _ = (((k + 1 + l.length - long : Nat)) : Int); omega)
              · first | rfl | exact congrArg V.int (by show _ = (((k + 1 : Nat)) : Int); omega)
              · rfl
        · intro j q hj hq
          have hq : q < 3 := hq
          have hj : j < L.length + 1 + 2 + 1 := hj
          dsimp only [Src.n]
          rcases (by omega : j < L.length ∨ j = L.length + 0 ∨ j = L.length + 1 ∨ j = L.length + 2 ∨ j = L.length + 3) with hjl | rfl | rfl | rfl | rfl
          · refine (if_pos (show j < L.length + 1 + 2 by omega)).trans ?_; refine (if_pos (show j < L.length + 1 by omega)).trans ?_; refine (if_pos (show j < L.length by omega)).trans ?_; exact raL_left (sz := 3) j q hjl hq
          · refine (if_pos (show L.length + 0 < L.length + 1 + 2 by omega)).trans ?_; refine (if_pos (show L.length + 0 < L.length + 1 by omega)).trans ?_; refine (if_neg (show ¬ L.length + 0 < L.length by omega)).trans ?_; rw [raL_at, hH, show L.length + 0 - (L.length) = 0 by omega]
            rcases (by omega : q = 0 ∨ q = 1 ∨ q = 2) with rfl | rfl | rfl
            · first | rfl | exact congrArg V.int (by show _ = (((k : Nat)) : Int); omega)
            · first | rfl | exact congrArg V.int (by show _ = (((k + 1 : Nat)) : Int); omega)
            · rfl
          · refine (if_pos (show L.length + 1 < L.length + 1 + 2 by omega)).trans ?_; refine (if_neg (show ¬ L.length + 1 < L.length + 1 by omega)).trans ?_; rw [raL_at, hH, show L.length + 1 - (L.length + 1) = 0 by omega]
            rcases (by omega : q = 0 ∨ q = 1 ∨ q = 2) with rfl | rfl | rfl
            · first | rfl | exact congrArg V.int (by show _ = (((k : Nat)) : Int); omega)
            · first | rfl | exact congrArg V.int (by show _ = (((k + 1 : Nat)) : Int); omega)
            · rfl
          · refine (if_pos (show L.length + 2 < L.length + 1 + 2 by omega)).trans ?_; refine (if_neg (show ¬ L.length + 2 < L.length + 1 by omega)).trans ?_; rw [raL_at, hH, show L.length + 2 - (L.length + 1) = 1 by omega]
            rcases (by omega : q = 0 ∨ q = 1 ∨ q = 2) with rfl | rfl | rfl
            · first | rfl | exact congrArg V.int (by show _ = (((k + 1 : Nat)) : Int); omega)
            · first | rfl | exact congrArg V.int (by show _ = (((k : Nat)) : Int); omega)
            · rfl
          · refine (if_neg (show ¬ L.length + 3 < L.length + 1 + 2 by omega)).trans ?_; rw [raL_at, hH, show L.length + 3 - (L.length + 1 + 2) = 0 by omega]
            rcases (by omega : q = 0 ∨ q = 1 ∨ q = 2) with rfl | rfl | rfl
            · first | rfl | exact congrArg V.int (by show _ = (((k + 1 + l.length - long : Nat)) : Int); omega)
            · first | rfl | exact congrArg V.int (by show _ = (((k + 1 : Nat)) : Int); omega)
            · rfl
        · rw [hLk, List.length_append, hH]; rfl
        · rw [hLk, List.length_append, hH]; rfl
        · simp [V.toInt, sel, Env.get]; omega
    · ((conv => whnf); repeat (refine stepK_in ?_; (repeat (first | refine seqQ_n ?_ | refine blockQ_n ?_ | refine awp_skip ?_ | refine awp_seq ?_ | refine awp_block ?_)); (conv => whnf)))
      refine ⟨(show (0 : Int) ≤ (k : Int) by omega), ?_⟩
      refine ⟨(show (k : Int) < (l.length : Int) by omega), ?_⟩
      ((conv => whnf); repeat (refine stepK_in ?_; (repeat (first | refine seqQ_n ?_ | refine blockQ_n ?_ | refine awp_skip ?_ | refine awp_seq ?_ | refine awp_block ?_)); (conv => whnf)))
      refine ⟨inr hmk, ?_⟩
      ((conv => whnf); repeat (refine stepK_in ?_; (repeat (first | refine seqQ_n ?_ | refine blockQ_n ?_ | refine awp_skip ?_ | refine awp_seq ?_ | refine awp_block ?_)); (conv => whnf)))
      refine ⟨inr (by omega), ?_⟩
      ((conv => whnf); repeat (refine stepK_in ?_; (repeat (first | refine seqQ_n ?_ | refine blockQ_n ?_ | refine awp_skip ?_ | refine awp_seq ?_ | refine awp_block ?_)); (conv => whnf)))
      refine br_dec (fun hlo => ?_) (fun hlo => ?_)
      · have hH : arcH l t long size B k = [(k, k + 1, 0), (k + 1 - long, k + 1, t * l.getD k 0)] := by unfold arcH arcG arcN; rw [if_neg (by omega), if_pos (by omega)]; rfl
        generalize arcH l t long size B k = H at *
        ((conv => whnf); repeat (refine stepK_in ?_; (repeat (first | refine seqQ_n ?_ | refine blockQ_n ?_ | refine awp_skip ?_ | refine awp_seq ?_ | refine awp_block ?_)); (conv => whnf)))
        repeat ((first | refine ⟨inr (by omega), ?_⟩ | refine ⟨inr (show -9223372036854775808 ≤ t * l.getD k 0 - size ∧ t * l.getD k 0 - size ≤ 9223372036854775807 by omega), ?_⟩); ((conv => whnf); repeat (refine stepK_in ?_; (repeat (first | refine seqQ_n ?_ | refine blockQ_n ?_ | refine awp_skip ?_ | refine awp_seq ?_ | refine awp_block ?_)); (conv => whnf))))
        refine eqn_self ?_
        refine ⟨(show (24 : Int) * (((L.length + 1 : Nat) : Int) + 1) ≤ 140737488355328 by omega), ?_⟩
        ((conv => whnf); repeat (refine stepK_in ?_; (repeat (first | refine seqQ_n ?_ | refine blockQ_n ?_ | refine awp_skip ?_ | refine awp_seq ?_ | refine awp_block ?_)); (conv => whnf)))
        repeat (refine ⟨inr (by omega), ?_⟩; ((conv => whnf); repeat (refine stepK_in ?_; (repeat (first | refine seqQ_n ?_ | refine blockQ_n ?_ | refine awp_skip ?_ | refine awp_seq ?_ | refine awp_block ?_)); (conv => whnf))))
        refine ⟨?_, memA1 [some ⟨77, 3, ver + 1 + 1, .cv (L.length + 1 + 1) (raL (L ++ H))⟩] ⟨ObSub_ag ?_, trivial⟩ ⟨⟨k + 1, ver + 1 + 1, hk', ?_, ?_⟩, ?_⟩⟩
        · refine ⟨?_, ?_⟩
          · exact by repeat (first | exact trivial | exact rfl | exact fun _ => trivial | exact fun _ _ => trivial | exact fun _ _ _ => trivial | exact fun _ _ _ _ => trivial | refine And.intro ?_ ?_)
          · refine ⟨named_ag (L ++ H) ?_, trivial⟩
            intro j q hj hq
            have hq : q < 3 := hq
            have hj : j < L.length + 1 + 1 := hj
            dsimp only [Src.n]
            rcases (by omega : j < L.length ∨ j = L.length + 0 ∨ j = L.length + 1) with hjl | rfl | rfl
            · refine (if_pos (show j < L.length + 1 by omega)).trans ?_; refine (if_pos (show j < L.length by omega)).trans ?_; exact raL_left (sz := 3) j q hjl hq
            · refine (if_pos (show L.length + 0 < L.length + 1 by omega)).trans ?_; refine (if_neg (show ¬ L.length + 0 < L.length by omega)).trans ?_; rw [raL_at, hH, show L.length + 0 - (L.length) = 0 by omega]
              rcases (by omega : q = 0 ∨ q = 1 ∨ q = 2) with rfl | rfl | rfl
              · first | rfl | exact congrArg V.int (by show _ = (((k : Nat)) : Int); omega)
              · first | rfl | exact congrArg V.int (by show _ = (((k + 1 : Nat)) : Int); omega)
              · rfl
            · refine (if_neg (show ¬ L.length + 1 < L.length + 1 by omega)).trans ?_; rw [raL_at, hH, show L.length + 1 - (L.length + 1) = 0 by omega]
              rcases (by omega : q = 0 ∨ q = 1 ∨ q = 2) with rfl | rfl | rfl
              · first | rfl | exact congrArg V.int (by show _ = (((k + 1 - long : Nat)) : Int); omega)
              · first | rfl | exact congrArg V.int (by show _ = (((k + 1 : Nat)) : Int); omega)
              · rfl
        · intro j q hj hq
          have hq : q < 3 := hq
          have hj : j < L.length + 1 + 1 := hj
          dsimp only [Src.n]
          rcases (by omega : j < L.length ∨ j = L.length + 0 ∨ j = L.length + 1) with hjl | rfl | rfl
          · refine (if_pos (show j < L.length + 1 by omega)).trans ?_; refine (if_pos (show j < L.length by omega)).trans ?_; exact raL_left (sz := 3) j q hjl hq
          · refine (if_pos (show L.length + 0 < L.length + 1 by omega)).trans ?_; refine (if_neg (show ¬ L.length + 0 < L.length by omega)).trans ?_; rw [raL_at, hH, show L.length + 0 - (L.length) = 0 by omega]
            rcases (by omega : q = 0 ∨ q = 1 ∨ q = 2) with rfl | rfl | rfl
            · first | rfl | exact congrArg V.int (by show _ = (((k : Nat)) : Int); omega)
            · first | rfl | exact congrArg V.int (by show _ = (((k + 1 : Nat)) : Int); omega)
            · rfl
          · refine (if_neg (show ¬ L.length + 1 < L.length + 1 by omega)).trans ?_; rw [raL_at, hH, show L.length + 1 - (L.length + 1) = 0 by omega]
            rcases (by omega : q = 0 ∨ q = 1 ∨ q = 2) with rfl | rfl | rfl
            · first | rfl | exact congrArg V.int (by show _ = (((k + 1 - long : Nat)) : Int); omega)
            · first | rfl | exact congrArg V.int (by show _ = (((k + 1 : Nat)) : Int); omega)
            · rfl
        · rw [hLk, List.length_append, hH]; rfl
        · rw [hLk, List.length_append, hH]; rfl
        · simp [V.toInt, sel, Env.get]; omega
      · have hH : arcH l t long size B k = [(k, k + 1, 0), (k + 1 + l.length - long, k + 1, t * l.getD k 0 - size)] := by unfold arcH arcG arcN; rw [if_neg (by omega), if_neg (by omega)]; rfl
        generalize arcH l t long size B k = H at *
        ((conv => whnf); repeat (refine stepK_in ?_; (repeat (first | refine seqQ_n ?_ | refine blockQ_n ?_ | refine awp_skip ?_ | refine awp_seq ?_ | refine awp_block ?_)); (conv => whnf)))
        repeat ((first | refine ⟨inr (by omega), ?_⟩ | refine ⟨inr (show -9223372036854775808 ≤ t * l.getD k 0 - size ∧ t * l.getD k 0 - size ≤ 9223372036854775807 by omega), ?_⟩); ((conv => whnf); repeat (refine stepK_in ?_; (repeat (first | refine seqQ_n ?_ | refine blockQ_n ?_ | refine awp_skip ?_ | refine awp_seq ?_ | refine awp_block ?_)); (conv => whnf))))
        refine eqn_self ?_
        refine ⟨(show (24 : Int) * (((L.length + 1 : Nat) : Int) + 1) ≤ 140737488355328 by omega), ?_⟩
        ((conv => whnf); repeat (refine stepK_in ?_; (repeat (first | refine seqQ_n ?_ | refine blockQ_n ?_ | refine awp_skip ?_ | refine awp_seq ?_ | refine awp_block ?_)); (conv => whnf)))
        repeat (refine ⟨inr (by omega), ?_⟩; ((conv => whnf); repeat (refine stepK_in ?_; (repeat (first | refine seqQ_n ?_ | refine blockQ_n ?_ | refine awp_skip ?_ | refine awp_seq ?_ | refine awp_block ?_)); (conv => whnf))))
        refine ⟨?_, memA1 [some ⟨77, 3, ver + 1 + 1, .cv (L.length + 1 + 1) (raL (L ++ H))⟩] ⟨ObSub_ag ?_, trivial⟩ ⟨⟨k + 1, ver + 1 + 1, hk', ?_, ?_⟩, ?_⟩⟩
        · refine ⟨?_, ?_⟩
          · exact by repeat (first | exact trivial | exact rfl | exact fun _ => trivial | exact fun _ _ => trivial | exact fun _ _ _ => trivial | exact fun _ _ _ _ => trivial | refine And.intro ?_ ?_)
          · refine ⟨named_ag (L ++ H) ?_, trivial⟩
            intro j q hj hq
            have hq : q < 3 := hq
            have hj : j < L.length + 1 + 1 := hj
            dsimp only [Src.n]
            rcases (by omega : j < L.length ∨ j = L.length + 0 ∨ j = L.length + 1) with hjl | rfl | rfl
            · refine (if_pos (show j < L.length + 1 by omega)).trans ?_; refine (if_pos (show j < L.length by omega)).trans ?_; exact raL_left (sz := 3) j q hjl hq
            · refine (if_pos (show L.length + 0 < L.length + 1 by omega)).trans ?_; refine (if_neg (show ¬ L.length + 0 < L.length by omega)).trans ?_; rw [raL_at, hH, show L.length + 0 - (L.length) = 0 by omega]
              rcases (by omega : q = 0 ∨ q = 1 ∨ q = 2) with rfl | rfl | rfl
              · first | rfl | exact congrArg V.int (by show _ = (((k : Nat)) : Int); omega)
              · first | rfl | exact congrArg V.int (by show _ = (((k + 1 : Nat)) : Int); omega)
              · rfl
            · refine (if_neg (show ¬ L.length + 1 < L.length + 1 by omega)).trans ?_; rw [raL_at, hH, show L.length + 1 - (L.length + 1) = 0 by omega]
              rcases (by omega : q = 0 ∨ q = 1 ∨ q = 2) with rfl | rfl | rfl
              · first | rfl | exact congrArg V.int (by show _ = (((k + 1 + l.length - long : Nat)) : Int); omega)
              · first | rfl | exact congrArg V.int (by show _ = (((k + 1 : Nat)) : Int); omega)
              · rfl
        · intro j q hj hq
          have hq : q < 3 := hq
          have hj : j < L.length + 1 + 1 := hj
          dsimp only [Src.n]
          rcases (by omega : j < L.length ∨ j = L.length + 0 ∨ j = L.length + 1) with hjl | rfl | rfl
          · refine (if_pos (show j < L.length + 1 by omega)).trans ?_; refine (if_pos (show j < L.length by omega)).trans ?_; exact raL_left (sz := 3) j q hjl hq
          · refine (if_pos (show L.length + 0 < L.length + 1 by omega)).trans ?_; refine (if_neg (show ¬ L.length + 0 < L.length by omega)).trans ?_; rw [raL_at, hH, show L.length + 0 - (L.length) = 0 by omega]
            rcases (by omega : q = 0 ∨ q = 1 ∨ q = 2) with rfl | rfl | rfl
            · first | rfl | exact congrArg V.int (by show _ = (((k : Nat)) : Int); omega)
            · first | rfl | exact congrArg V.int (by show _ = (((k + 1 : Nat)) : Int); omega)
            · rfl
          · refine (if_neg (show ¬ L.length + 1 < L.length + 1 by omega)).trans ?_; rw [raL_at, hH, show L.length + 1 - (L.length + 1) = 0 by omega]
            rcases (by omega : q = 0 ∨ q = 1 ∨ q = 2) with rfl | rfl | rfl
            · first | rfl | exact congrArg V.int (by show _ = (((k + 1 + l.length - long : Nat)) : Int); omega)
            · first | rfl | exact congrArg V.int (by show _ = (((k + 1 : Nat)) : Int); omega)
            · rfl
        · rw [hLk, List.length_append, hH]; rfl
        · rw [hLk, List.length_append, hH]; rfl
        · simp [V.toInt, sel, Env.get]; omega
  · obtain rfl : k = l.length := by omega
    ((conv => whnf); repeat (refine stepK_in ?_; (repeat (first | refine seqQ_n ?_ | refine blockQ_n ?_ | refine awp_skip ?_ | refine awp_seq ?_ | refine awp_block ?_)); (conv => whnf)))
    refine ⟨inr (by omega), ?_⟩
    ((conv => whnf); repeat (refine stepK_in ?_; (repeat (first | refine seqQ_n ?_ | refine blockQ_n ?_ | refine awp_skip ?_ | refine awp_seq ?_ | refine awp_block ?_)); (conv => whnf)))
    refine eqn_self ?_
    refine APure.to (APure.arg2 (Sub.of (congrArg V.int (by omega))) (sub_seq fun j q hj hq => Sub.of ?_) fin) ?_
    · show byvalN _ _ (raA _ _ _ (0 + j) q) = raA _ _ _ j q
      rw [Nat.zero_add]
      unfold raA
      split <;> rfl
    ((conv => whnf); repeat (refine stepK_in ?_; (repeat (first | refine seqQ_n ?_ | refine blockQ_n ?_ | refine awp_skip ?_ | refine awp_seq ?_ | refine awp_block ?_)); (conv => whnf)))
    exact ⟨trivial, rfl⟩
/-- What it says. -/
theorem canR_iff {l : List Int} {t : Int} {long : Nat} {size : Int} {B : List Int} (h1 : 1 ≤ l.length) (hl1 : 1 ≤ long) (hl : long ≤ l.length) (ht : bet 0 10000 (mul l t) l.length) (hs : 0 ≤ size ∧ size ≤ 10000) (hB : bet 0 10000 B B.length) :
    canR l t long size B = true ↔ ∃ q, IsFea (mul l t) long size q ∧ ∀ i, i < B.length → i < l.length → q i = B.getD i 0 := by
  have hok := arcL_ok hl1 hl ht hs hB l.length (Nat.le_refl _)
  unfold canR
  rw [fitB_iff, ← arc_fea h1 hl1 hl]
  have := fits_iff (F := fA (arcL l t long size B l.length)) (T := tA (arcL l t long size B l.length)) (W := wA (arcL l t long size B l.length)) (m := (arcL l t long size B l.length).length) (n := l.length + 1) (fun j hj => (ok_list hok hj).1)
  constructor
  · rintro ⟨r, h3, h4⟩
    obtain ⟨p, hp⟩ := this.1 ⟨r, by omega, h4⟩
    exact ⟨p, fit_list.1 hp⟩
  · rintro ⟨p, hp⟩
    obtain ⟨r, h3, h4⟩ := this.2 ⟨p, fit_list.2 hp⟩
    exact ⟨r, by omega, h4⟩
end Go.Tri
