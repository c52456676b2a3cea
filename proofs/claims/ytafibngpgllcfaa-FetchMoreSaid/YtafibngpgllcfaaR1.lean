/-
 ROWS OF ROWS in a memory that is not known: their values, appends, masks.
-/
import Derived.Test.YtafibngpgllcfaaB15
import Derived.Test.YtafibngpgllcfaaB7
namespace Go.Tri
open Go.Proofs

def rowF (P : List Nat) : Nat → Nat → V := fun j _ => .ints true (mbL (P.getD j 0) 14)
@[reducible] def ptOb (ver : Nat) (P : List Nat) : Ob := ⟨25, 1, ver, .cv P.length (rowF P)⟩
@[reducible] def rowsV (P : List Nat) : V := .seq true 1 P.length (rowF P)
theorem namedRow {kp : Nat → Bool} {P : List Nat} {j o : Nat} : Named kp (rowF P j o) := by
 unfold rowF
 trivial
@[reducible] def quT1 (n m : Nat) (A B : Nat → Int) : Ob := ⟨57, 2, 0, .one [.int n, stV true m A B]⟩
theorem rowF_new {P : List Nat} {x j o : Nat} (hj : j < P.length + 1) : (if j < P.length then rowF P j o else .ints true (mbL x 14)) = rowF (P ++ [x]) j o := by
 unfold rowF
 split
 ·next h => rw [show (P ++ [x]).getD j 0 = P.getD j 0 by simp [List.getD, List.getElem?_append_left h]]
 ·next h =>
  obtain rfl : j = P.length := by omega
  rw [show (P ++ [x]).getD P.length 0 = x by simp [List.getD]]
theorem ownRow {M : Mem} {k : Nat} {P : List Nat} {j o : Nat} : ownvalN M (k + 1) (rowF P (0 + j) o) = rowF P j o := by
 rw [Nat.zero_add]
 unfold rowF
 rfl
theorem frRow {M : Mem} {k : Nat} {P : List Nat} {j o : Nat} : Fr (ownvalN M (k + 1) (rowF P (0 + j) o)) := by
 rw [ownRow]
 exact rfl
theorem mask_eq {kp : Nat → Bool} : ∀ {M M0 : Mem} {k : Nat}, (∀ t, kp (k + t) = true → M.get t = M0.get t) → maskM kp k M = maskM kp k M0 := by
 intro M
 induction M with
 | nil =>
  intro M0
  induction M0 with
  | nil => intro k _; rfl
  | cons o r ih =>
   intro k h
   have h0 := h 0
   have h1 := ih (k := k + 1) (fun t ht => by
    have := h (t + 1) (by rwa [show k + (t + 1) = k + 1 + t by omega])
    exact this)
   simp only [maskM] at h1 ⊢
   rw [← h1]
   rw [Nat.add_zero] at h0
   cases hk : kp k with
   | false => rfl
   | true =>
    have h2 : none = o := h0 hk
    subst h2
    rfl
 | cons o r ih =>
  intro M0
  cases M0 with
  | nil =>
   intro k h
   have h0 := h 0
   have h1 := ih (M0 := []) (k := k + 1) (fun t ht => by
    have := h (t + 1) (by rwa [show k + (t + 1) = k + 1 + t by omega])
    exact this)
   simp only [maskM] at h1 ⊢
   rw [h1]
   rw [Nat.add_zero] at h0
   cases hk : kp k with
   | false => rfl
   | true =>
    have h2 : o = none := h0 hk
    subst h2
    rfl
  | cons o' r' =>
   intro k h
   have h0 := h 0
   have h1 := ih (M0 := r') (k := k + 1) (fun t ht => by
    have := h (t + 1) (by rwa [show k + (t + 1) = k + 1 + t by omega])
    exact this)
   simp only [maskM]
   rw [h1]
   rw [Nat.add_zero] at h0
   cases hk : kp k with
   | false => rfl
   | true =>
    have h2 : o = o' := h0 hk
    rw [h2]
theorem app_cv {T : Tab} {nm e t ver len n m sz : Nat} {M : Mem} {f g : Nat → Nat → V} {p : Obl} {x : V} (hsz : (T.row e).sz = sz) (h1 : (knownT (T.row e) && Nat.blt 0 (T.row e).sz && Nat.blt 0 (T.row e).bs) = true) (hx : srcV M (T.row e).sz (isI64T (T.row e)) x = some (p, .cells m g)) (hM : M.get t = some ⟨e, sz, ver, .cv n f⟩) :
  aAppend T nm e (.sl t ver 0 len) x M = some (.and p (.and (eqnO ver ver) (.and (eqnO 0 0) (.le ((T.row e).bs * (len + m)) 140737488355328))), .sl t (ver + 1) 0 (len + m), M.put t ⟨e, sz, ver + 1, .cv (len + m) fun j k => if j < len then f j k else g (j - len) k⟩) := by
 subst hsz
 simp only [aAppend, h1, hx, hM, cond_true, Nat.beq_refl, Bool.and_self, kilApp, kilNew, appCon, Src.n]
theorem srcV_cv {M : Mem} {e sz ver n nm v off len : Nat} {f : Nat → Nat → V} {int : Bool} (hM : M.get nm = some ⟨e, sz, ver, .cv n f⟩) : srcV M sz int (.sl nm v off len) = some (eqnO v ver, .cells len fun j k => f (off + j) k) := by
 simp only [srcV, hM, Nat.beq_refl, cond_true, Con.f]
theorem ACM.arg1 {P : Program} {f : FuncId} {x y : V} {M : Mem} {Q : V → Mem → Prop} {nb0 : Option Nat} (h : Sub x y) (hy : ACM P f [y] M Q nb0) : ACM P f [x] M Q nb0 := by
 unfold ACM at hy ⊢
 refine ⟨hy.1, fun nb base φ w args hn hm hs ha => hy.2 nb base φ w args hn hm hs fun i => ?_⟩
 have h1 := ha i
 match i with
 | 0 => exact h _ _ _ _ h1
 | i + 1 => simpa using h1
theorem subQF {fr : Bool} {n m : Nat} {A B : Nat → Int} {g : Nat → V} (h0 : g 0 = .int n) (h1 : g 1 = stV fr m A B) : Sub (.agg 2 g) (quF fr n m A B) := sub_agg fun i hi => by
 rcases (by omega : i = 0 ∨ i = 1) with rfl | rfl
 ·exact Sub.of h0
 ·exact Sub.of h1
theorem evA_c {i j : Nat} {x : V} {e : Env} (h : Nat.beq i j = false) : evA ((i, x) :: e) (.tmp j) = evA e (.tmp j) := by
 show Env.get _ _ = Env.get _ _
 simp only [Env.get]
 rw [if_neg (by intro hh; rw [hh, Nat.beq_refl] at h; cases h)]
theorem aop_addc {T : Tab} {nm t t2 : Nat} {x : Operand} {ev : Operand → V} {M : Mem} {k c : Int} (h : ev x = .int k) (hc : ev (.const (.int .i64 c)) = .int c) : aop T nm (.binOp .add t x (.const (.int .i64 c)) t2) ev M = some (.inr (k + c), .int (k + c), M) := by
 simp only [aop, h, hc]
 rfl
theorem sel6 {e : Env} (v1 v3 v4 v5 v13 v14 : V) (h1 : Env.get e 1 = v1) (h3 : Env.get e 3 = v3) (h4 : Env.get e 4 = v4) (h5 : Env.get e 5 = v5) (h13 : Env.get e 13 = v13) (h14 : Env.get e 14 = v14) : sel [1, 3, 4, 5, 13, 14] e = [v1, v3, v4, v5, v13, v14] := by
 simp only [sel, List.map, h1, h3, h4, h5, h13, h14]
theorem allI_one {i : Nat} {f : Nat → Prop} (h : f i) : allI [i] f := h
end Go.Tri
