/-
  LOOPS WHOSE ROUNDS LEAVE LITTER: names that are wanted no more are let go.
-/
import Derived.Test.YtjcjjakmggfmcaaA20
namespace Go.Tri
open Go.RowKit

/-- All names in it are kept. -/
def Named (kp : Nat → Bool) : V → Prop
  | .seq _ _ _ f => ∀ j k, Named kp (f j k)
  | .sl t _ _ _ => kp t = true
  | .ptr t _ _ _ => kp t = true
  | .at_ _ g _ => ∀ k, Named kp (g k)
  | .agg _ g => ∀ k, Named kp (g k)
  | .tup _ g => ∀ k, Named kp (g k)
  | .clo _ _ g => ∀ k, Named kp (g k)
  | _ => True

def NamedL (kp : Nat → Bool) : List V → Prop
  | [] => True
  | v :: r => Named kp v ∧ NamedL kp r

def NamedC (kp : Nat → Bool) : Con → Prop
  | .cv _ f => ∀ j k, Named kp (f j k)
  | .one cs => NamedL kp cs
  | _ => True

def NamedM (kp : Nat → Bool) : Mem → Prop
  | [] => True
  | some ob :: r => NamedC kp ob.c ∧ NamedM kp r
  | none :: r => NamedM kp r

def consM : Option Ob → Mem → Mem
  | none, [] => []
  | o, r => o :: r

/-- What is kept of a memory. -/
def maskM (kp : Nat → Bool) : Nat → Mem → Mem
  | _, [] => []
  | i, o :: r => consM (bif kp i then o else none) (maskM kp (i + 1) r)

def restr (kp : Nat → Bool) (φ : Phi) : Phi := fun t => if kp t = true then φ t else none

theorem consM_get (o : Option Ob) (r : Mem) (t : Nat) : (consM o r).get t = Mem.get (o :: r) t := by
  cases o with
  | some o => cases r <;> rfl
  | none =>
    cases r with
    | nil => cases t <;> simp [consM, Mem.get, List.getD]
    | cons => rfl

theorem maskM_get (kp : Nat → Bool) : ∀ (M : Mem) (i t : Nat), (maskM kp i M).get t = if kp (i + t) = true then M.get t else none := by
  intro M
  induction M with
  | nil => intro i t; simp [maskM, Mem.get, List.getD]
  | cons o r ih =>
    intro i t
    simp only [maskM]
    rw [consM_get]
    cases t with
    | zero =>
      simp only [Mem.get, List.getD_cons_zero, Nat.add_zero]
      cases kp i <;> simp
    | succ t =>
      have := ih (i + 1) t
      simp only [Mem.get, List.getD_cons_succ] at this ⊢
      rw [this, show i + 1 + t = i + (t + 1) from by omega]

theorem notLive_restr {kp : Nat → Bool} {φ : Phi} {b : Nat} (h : notLive φ b) : notLive (restr kp φ) b := by
  intro t r ht hc
  unfold restr at ht
  split at ht
  · exact h t r ht hc
  · cases ht

theorem Rep_restr {kp : Nat → Bool} {φ : Phi} {base : Nat} {w : World} : ∀ {x : V} {v : Value}, Named kp x → Rep φ base w x v → Rep (restr kp φ) base w x v := by
  intro x
  induction x with
  | ints fr xs =>
    rintro v _ ⟨A, cap, rfl, h1, h2, h4⟩
    refine ⟨A, cap, rfl, h1, h2, fun h => ?_⟩
    obtain ⟨b, off, rfl, g1, g2, g3⟩ := h4 h
    exact ⟨b, off, rfl, notLive_restr g1, g2, g3⟩
  | seq fr sz n f ih =>
    rintro v hn ⟨A, cap, rfl, h1, h2, h3, h4⟩
    refine ⟨A, cap, rfl, h1, h2, h3, fun h => ?_⟩
    obtain ⟨b, off, rfl, g1, g2, g3⟩ := h4 h
    refine ⟨b, off, rfl, notLive_restr g1, g2, fun j o hj ho => ?_⟩
    obtain ⟨c, e1, e2, e3⟩ := g3 j o hj ho
    exact ⟨c, e1, e2, ih j o (hn j o) e3⟩
  | sl t ver off len =>
    rintro v hn ⟨r, hr, h⟩
    have hn : kp t = true := hn
    exact ⟨r, by unfold restr; rw [if_pos hn]; exact hr, h⟩
  | ptr t ver i o =>
    rintro v hn ⟨r, hr, h⟩
    have hn : kp t = true := hn
    exact ⟨r, by unfold restr; rw [if_pos hn]; exact hr, h⟩
  | at_ sz g o ih =>
    rintro v hn ⟨b, off, rfl, h0, h1, h2⟩
    refine ⟨b, off, rfl, h0, notLive_restr h1, fun k hk => ?_⟩
    obtain ⟨c, e1, e2, e3⟩ := h2 k hk
    exact ⟨c, e1, e2, ih k (hn k) e3⟩
  | agg n g ih =>
    rintro v hn ⟨cs, rfl, h1, h2⟩
    exact ⟨cs, rfl, h1, fun i hi => by obtain ⟨c, e1, e2, e3⟩ := h2 i hi; exact ⟨c, e1, e2, ih i (hn i) e3⟩⟩
  | tup n g ih =>
    rintro v hn ⟨cs, rfl, h1, h2⟩
    exact ⟨cs, rfl, h1, fun i hi => by obtain ⟨c, e1, e2⟩ := h2 i hi; exact ⟨c, e1, ih i (hn i) e2⟩⟩
  | clo f n g ih =>
    rintro v hn ⟨cs, rfl, h1, h2⟩
    exact ⟨cs, rfl, h1, fun i hi => by obtain ⟨c, e1, e2⟩ := h2 i hi; exact ⟨c, e1, ih i (hn i) e2⟩⟩
  | _ => exact fun _ h => h

theorem NamedL.get {kp : Nat → Bool} : ∀ {vs : List V}, NamedL kp vs → ∀ i, Named kp (vs.getD i .any)
  | [], _, i => by simp [Named]
  | v :: r, h, 0 => by simpa using h.1
  | v :: r, h, i + 1 => by have := NamedL.get h.2 i; simpa using this

theorem NamedM.get {kp : Nat → Bool} : ∀ {M : Mem}, NamedM kp M → ∀ t ob, M.get t = some ob → NamedC kp ob.c
  | [], _, t, ob, h => by simp [Mem.get, List.getD] at h
  | some ob :: r, h, 0, ob', he => by simp [Mem.get] at he; subst he; exact h.1
  | none :: r, h, 0, ob', he => by simp [Mem.get] at he
  | some ob :: r, h, t + 1, ob', he => NamedM.get h.2 t ob' (by simpa [Mem.get] using he)
  | none :: r, h, t + 1, ob', he => NamedM.get (M := r) h t ob' (by simpa [Mem.get] using he)

theorem NamedC.f {kp : Nat → Bool} {c : Con} (h : NamedC kp c) (j k : Nat) : Named kp (c.f j k) := by
  cases c with
  | cv n f => exact h j k
  | one cs => exact NamedL.get h k
  | _ => exact trivial

theorem MemRel.mask {kp : Nat → Bool} {nb base : Nat} {φ : Phi} {w : World} {M : Mem} (h : MemRel nb base φ w M) (hn : NamedM kp (maskM kp 0 M)) : MemRel nb base (restr kp φ) w (maskM kp 0 M) := by
  refine ⟨fun t r ht => ?_, fun t t' r r' ht ht' => ?_, fun t r ht => ?_, h.le⟩
  · unfold restr at ht
    split at ht
    · next hk =>
      obtain ⟨o, h1, h2⟩ := h.obj t r ht
      have hg : (maskM kp 0 M).get t = some o := by rw [maskM_get, Nat.zero_add, if_pos hk]; exact h1
      refine ⟨o, hg, h2.n, h2.ver, h2.sz, h2.e, h2.pos, h2.le, h2.max, fun hp => ?_⟩
      obtain ⟨cur, e1, e2, e3⟩ := h2.row hp
      refine ⟨cur, e1, e2, fun j k hj hk => ?_⟩
      obtain ⟨c, f1, f2, f3⟩ := e3 j k hj hk
      exact ⟨c, f1, f2, Rep_restr ((hn.get t o hg).f j k) f3⟩
    · cases ht
  · unfold restr at ht ht'
    split at ht
    · split at ht'
      · exact h.inj t t' r r' ht ht'
      · cases ht'
    · cases ht
  · unfold restr at ht
    split at ht
    · exact h.own t r ht
    · cases ht

theorem Evo.restr {kp : Nat → Bool} {w w' : World} {φ φ' : Phi} (h : Evo w φ w' φ') (hk : ∀ t r, φ t = some r → kp t = true) : Evo w φ w' (restr kp φ') := by
  refine ⟨h.os, h.tape, h.output, h.size, h.block, fun t r ht => ?_, fun t r ht => ?_⟩
  · unfold Tri.restr at ht
    split at ht
    · exact h.live t r ht
    · cases ht
  · obtain ⟨r', h1, h2⟩ := h.names t r ht
    exact ⟨r', by unfold Tri.restr; rw [if_pos (hk t r ht)]; exact h1, h2⟩

theorem St.mask {kp : Nat → Bool} {nt nb base : Nat} {φ : Phi} {w : World} {M : Mem} {keys : List Nat} {vs : List V} {a : Act} (h : St nt nb base φ w M (keys.zip vs) a) (hv : NamedL kp vs) (hn : NamedM kp (maskM kp 0 M)) : St nt nb base (restr kp φ) w (maskM kp 0 M) (keys.zip vs) a := by
  refine ⟨h.mem.mask hn, h.dfr, h.size, fun i => Rep_restr ?_ (h.slots i)⟩
  clear h
  induction keys generalizing vs with
  | nil => exact trivial
  | cons k r ih =>
    cases vs with
    | nil => exact trivial
    | cons v vs =>
      simp only [List.zip_cons_cons, Env.get]
      split
      · exact hv.1
      · exact ih hv.2

def loopQK (keys : List Nat) (kp : Nat → Bool) (I : List V → Mem → Prop) (mu : List V → Mem → Nat) (n : Nat) (Q : Exit → Env → Mem → Prop) : Exit → Env → Mem → Prop
  | .normal, e, M => (NamedL kp (sel keys e) ∧ NamedM kp (maskM kp 0 M)) ∧ I (sel keys e) (maskM kp 0 M) ∧ mu (sel keys e) (maskM kp 0 M) < n
  | x, e, M => Q x e M

section
variable {X : Cx}
/-- A LOOP; at each round's end only the names that 'kp' says are kept: all that were there ahead of the loop, and some more. -/
theorem AW_loopK (hT : TabOk X.P X.T) (keys : List Nat) (kp : Nat → Bool) (I : List V → Mem → Prop) (mu : List V → Mem → Nat) {c : Code} {Q : Exit → Env → Mem → Prop} {e : Env} {M : Mem} (hk : ∀ t, t < M.length → kp t = true) (h0 : I (sel keys e) M)
    (round : ∀ vs M', I vs M' → awp X c (loopQK keys kp I mu (mu vs M') Q) (keys.zip vs) M') : AW X.P X.nt X.nb (.loop c) Q e M := by
  rw [AW_def]
  intro base φ w a hst
  have hdom : ∀ t r, φ t = some r → kp t = true := by
    intro t r ht
    obtain ⟨o, ho, _⟩ := hst.mem.obj t r ht
    refine hk t ?_
    rcases Nat.lt_or_ge t M.length with h | h
    · exact h
    · simp [Mem.get, List.getD, List.getElem?_eq_none h] at ho
  refine wp_loop_ghost (fun n a' w' => ∃ vs M' φ', mu vs M' = n ∧ I vs M' ∧ St X.nt X.nb base φ' w' M' (keys.zip vs) a' ∧ Evo w φ w' φ') (mu (sel keys e) M)
    ⟨_, M, φ, rfl, h0, hst.sel keys, Evo.refl w φ⟩ ?_
  rintro n a' w' ⟨vs, M', φ', rfl, hI, hst', hv⟩
  refine wp_mono (awp_ok hT c _ base φ' w' M' _ a' hst' (round vs M' hI)) ?_
  rintro x a₁ w₁ ⟨hx, e₁, M₁, φ₁, hq, hst₁, hv₁⟩
  cases x with
  | normal => exact ⟨_, hq.2.2, _, _, _, rfl, hq.2.1, (hst₁.sel keys).mask hq.1.1 hq.1.2, (hv.trans hv₁).restr hdom⟩
  | panic c => exact hx.elim
  | outgrown => exact hx.elim
  | _ => exact ⟨trivial, e₁, M₁, φ₁, hq, hst₁, hv.trans hv₁⟩
end
end Go.Tri
