/-
  THE WINNER'S LEAD: sums over the order; where it ends.
-/
import Derived.Test.YtghkpmeonoadlaaB14
namespace Go.Tri
open Go.Proofs

def suL (h : Int → Int) : List Int → Int
  | [] => 0
  | x :: r => h x + suL h r
theorem suL_app (h : Int → Int) (a b : List Int) : suL h (a ++ b) = suL h a + suL h b := by
  induction a with
  | nil => simp [suL]
  | cons x r ih => simp only [List.cons_append, suL, ih]; omega
theorem suL_one (h : Int → Int) (x : Int) : suL h [x] = h x := by simp [suL]
theorem suL_putL (h : Int → Int) (q : List Int) (x : Int) (j : Nat) : suL h (putL q x [] j) = suL h q + h x := by
  have e : suL h (q.take j) + suL h (q.drop j) = suL h q := by rw [← suL_app, List.take_append_drop]
  unfold putL
  rw [suL_app, suL_app, suL_app, suL_one]
  simp only [suL]
  omega
theorem suL_sortP (h : Int → Int) (lt : Int → Int → Bool) (xs : List Int) : ∀ k, k ≤ xs.length → suL h (sortP lt xs k) = suL h (xs.take k) := by
  intro k
  induction k with
  | zero => intro _; simp [sortP, suL]
  | succ k ih =>
    intro hk
    simp only [sortP, insP]
    rw [suL_putL, ih (by omega), take_succ_getD _ _ (by omega), suL_app, suL_one]
theorem suL_idx (a : List Int) : ∀ n, suL (fun x => a.getD x.toNat 0) (idx n) = sumL a n := by
  intro n
  induction n with
  | zero => simp [idx, suL, sumL]
  | succ n ih =>
    have e : idx (n + 1) = idx n ++ [(n : Int)] := by simp [idx, List.range_succ]
    rw [e, suL_app, suL_one, ih]
    simp [sumL]
theorem suL_add (h k : Int → Int) (l : List Int) : suL (fun x => h x + k x) l = suL h l + suL k l := by
  induction l with
  | nil => simp [suL]
  | cons x r ih => simp only [suL, ih]; omega

/-- What a thing is worth to both; B's lead when A has the first k of the order. -/
def toR (f g : Nat → Int) (x : Int) : Int := f x.toNat + g x.toNat
def ldR (f g : Nat → Int) (L : List Int) : Nat → Int
  | 0 => 100
  | k + 1 => ldR f g L k - toR f g (L.getD k 0)
theorem ldR_su {f g : Nat → Int} {L : List Int} : ∀ k, k ≤ L.length → ldR f g L k = 100 - suL (toR f g) (L.take k) := by
  intro k
  induction k with
  | zero => intro _; simp [ldR, suL]
  | succ k ih =>
    intro hk
    simp only [ldR]
    rw [ih (by omega), take_succ_getD _ _ (by omega), suL_app, suL_one]
    omega
/-- Somewhere the next thing is too much. -/
theorem lead_ends {a b : List Int} (ha : Pts a) (hb : Pts b) (hl : a.length = b.length) : ∃ w, w < a.length ∧ (∀ j, j < w → toR (fun j => a.getD j 0) (fun j => b.getD j 0) ((ordR (fun j => a.getD j 0) (fun j => b.getD j 0) a.length).getD j 0) ≤ ldR (fun j => a.getD j 0) (fun j => b.getD j 0) (ordR (fun j => a.getD j 0) (fun j => b.getD j 0) a.length) j) ∧
    ldR (fun j => a.getD j 0) (fun j => b.getD j 0) (ordR (fun j => a.getD j 0) (fun j => b.getD j 0) a.length) w < toR (fun j => a.getD j 0) (fun j => b.getD j 0) ((ordR (fun j => a.getD j 0) (fun j => b.getD j 0) a.length).getD w 0) := by
  have hn := ha.1
  have hlen := ordR_len (fun j => a.getD j 0) (fun j => b.getD j 0) a.length
  have hsum : suL (toR (fun j => a.getD j 0) (fun j => b.getD j 0)) (ordR (fun j => a.getD j 0) (fun j => b.getD j 0) a.length) = 200 := by
    unfold ordR
    rw [suL_sortP _ _ _ _ (by rw [idx_len]; exact Nat.le_refl _), List.take_of_length_le (by rw [idx_len]; exact Nat.le_refl _)]
    have e : toR (fun j => a.getD j 0) (fun j => b.getD j 0) = fun x => a.getD x.toNat 0 + b.getD x.toNat 0 := rfl
    rw [e, suL_add, suL_idx, suL_idx, ha.2.2.2]
    have := hb.2.2.2
    rw [← hl] at this
    rw [this]
    rfl
  generalize ordR (fun j => a.getD j 0) (fun j => b.getD j 0) a.length = L at *
  generalize (fun j => a.getD j 0) = f at *
  generalize (fun j => b.getD j 0) = g at *
  have hend : ldR f g L a.length = -100 := by
    rw [ldR_su _ (by omega), List.take_of_length_le (by omega), hsum]
    rfl
  -- the first place where it fails
  have key : ∀ m, m ≤ a.length → (∀ j, j < m → toR f g (L.getD j 0) ≤ ldR f g L j) ∨ ∃ w, w < m ∧ (∀ j, j < w → toR f g (L.getD j 0) ≤ ldR f g L j) ∧ ldR f g L w < toR f g (L.getD w 0) := by
    intro m
    induction m with
    | zero => intro _; exact .inl fun j hj => absurd hj (by omega)
    | succ m ih =>
      intro hm
      rcases ih (by omega) with h | ⟨w, h1, h2, h3⟩
      · rcases (by omega : toR f g (L.getD m 0) ≤ ldR f g L m ∨ ldR f g L m < toR f g (L.getD m 0)) with h4 | h4
        · exact .inl fun j hj => by
            rcases (by omega : j < m ∨ j = m) with h5 | rfl
            · exact h j h5
            · exact h4
        · exact .inr ⟨m, by omega, h, h4⟩
      · exact .inr ⟨w, by omega, h2, h3⟩
  rcases key a.length (Nat.le_refl _) with h | h
  · exfalso
    obtain ⟨m, hm⟩ : ∃ m, a.length = m + 1 := ⟨a.length - 1, by omega⟩
    have h1 := h m (by omega)
    rw [hm] at hend
    simp only [ldR] at hend
    omega
  · exact h
end Go.Tri
