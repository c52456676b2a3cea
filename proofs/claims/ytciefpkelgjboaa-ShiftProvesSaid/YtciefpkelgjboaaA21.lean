/-
  LOOPS WHOSE ROUNDS LEAVE LITTER: names that are wanted no more are let go.
-/
import Derived.Test.YtciefpkelgjboaaA20
namespace Go.Tri
variable {lo : Nat}
open Go.RowKit

/-- All names in it are kept. -/
def Named (kp : Nat → Bool) : V → Prop
  | .seq _ sz n f => ∀ j k, j < n → k < sz → Named kp (f j k)
  | .sl t _ _ _ => kp t = true
  | .ptr t _ _ _ => kp t = true
  | .at_ sz g _ => ∀ k, k < sz → Named kp (g k)
  | .agg n g => ∀ k, k < n → Named kp (g k)
  | .tup n g => ∀ k, k < n → Named kp (g k)
  | .clo _ n g => ∀ k, k < n → Named kp (g k)
  | .bnd _ n g => ∀ k, k < n → Named kp (g k)
  | .ifc _ x => Named kp x
  | .yld t => kp t = true
  | _ => True

def NamedE (kp : Nat → Bool) : Env → Prop
  | [] => True
  | (_, v) :: r => Named kp v ∧ NamedE kp r

def NamedL (kp : Nat → Bool) : List V → Prop
  | [] => True
  | v :: r => Named kp v ∧ NamedL kp r

def NamedC (kp : Nat → Bool) (sz : Nat) : Con → Prop
  | .cv n f => ∀ j k, j < n → k < sz → Named kp (f j k)
  | .one cs => NamedL kp cs
  | .loop _ _ e _ _ _ _ _ => NamedE kp e
  | _ => True

def NamedM (kp : Nat → Bool) : Mem → Prop
  | [] => True
  | some ob :: r => NamedC kp ob.sz ob.c ∧ NamedM kp r
  | none :: r => NamedM kp r

def consM : Option Ob → Mem → Mem
  | none, [] => []
  | o, r => o :: r

/-- What is kept of a memory. -/
def maskM (kp : Nat → Bool) : Nat → Mem → Mem
  | _, [] => []
  | i, o :: r => consM (bif kp i then o else none) (maskM kp (i + 1) r)

def restr (kp : Nat → Bool) (φ : Phi) : Phi := fun t => if kp t = true then φ t else none

theorem consM_get (o : Option Ob) (r : Mem) (t : Nat) : (consM o r).get t = Mem.get (o :: r) t := by
  cases o with
  | some o => cases r <;> rfl
  | none =>
    cases r with
    | nil => cases t <;> simp [consM, Mem.get, List.getD]
    | cons => rfl

theorem maskM_get (kp : Nat → Bool) : ∀ (M : Mem) (i t : Nat), (maskM kp i M).get t = if kp (i + t) = true then M.get t else none := by
  intro M
  induction M with
  | nil => intro i t; simp [maskM, Mem.get, List.getD]
  | cons o r ih =>
    intro i t
    simp only [maskM]
    rw [consM_get]
    cases t with
    | zero =>
      simp only [Mem.get, List.getD_cons_zero, Nat.add_zero]
      cases kp i <;> simp
    | succ t =>
      have := ih (i + 1) t
      simp only [Mem.get, List.getD_cons_succ] at this ⊢
      rw [this, show i + 1 + t = i + (t + 1) from by omega]

theorem notLive_restr {kp : Nat → Bool} {φ : Phi} {b : Nat} (h : notLive φ b) : notLive (restr kp φ) b := by
  intro t r ht hc
  unfold restr at ht
  split at ht
  · exact h t r ht hc
  · cases ht

theorem Rep_restr {kp : Nat → Bool} {φ : Phi} {base : Nat} {w : World} : ∀ {x : V} {v : Value}, Named kp x → Rep φ base w x v → Rep (restr kp φ) base w x v := by
  intro x
  induction x with
  | ints fr xs =>
    rintro v _ ⟨A, cap, rfl, h1, h2, h4⟩
    refine ⟨A, cap, rfl, h1, h2, fun h => ?_⟩
    obtain ⟨b, off, rfl, g1, g2, g3⟩ := h4 h
    exact ⟨b, off, rfl, notLive_restr g1, g2, g3⟩
  | full xs =>
    rintro v _ ⟨A, rfl, h1, h4⟩
    refine ⟨A, rfl, h1, fun h => ?_⟩
    obtain ⟨b, off, rfl, g1, g3⟩ := h4 h
    exact ⟨b, off, rfl, notLive_restr g1, g3⟩
  | seq fr sz n f ih =>
    rintro v hn ⟨A, cap, rfl, h1, h2, h3, h4⟩
    refine ⟨A, cap, rfl, h1, h2, h3, fun h => ?_⟩
    obtain ⟨b, off, rfl, g1, g2, g3⟩ := h4 h
    refine ⟨b, off, rfl, notLive_restr g1, g2, fun j o hj ho => ?_⟩
    obtain ⟨c, e1, e2, e3⟩ := g3 j o hj ho
    exact ⟨c, e1, e2, ih j o (hn j o hj ho) e3⟩
  | sl t ver off len =>
    rintro v hn ⟨r, hr, h⟩
    have hn : kp t = true := hn
    exact ⟨r, by unfold restr; rw [if_pos hn]; exact hr, h⟩
  | ptr t ver i o =>
    rintro v hn ⟨r, hr, h⟩
    have hn : kp t = true := hn
    exact ⟨r, by unfold restr; rw [if_pos hn]; exact hr, h⟩
  | at_ sz g o ih =>
    rintro v hn ⟨b, off, rfl, h0, h1, h2⟩
    refine ⟨b, off, rfl, h0, notLive_restr h1, fun k hk => ?_⟩
    obtain ⟨c, e1, e2, e3⟩ := h2 k hk
    exact ⟨c, e1, e2, ih k (hn k hk) e3⟩
  | agg n g ih =>
    rintro v hn ⟨cs, rfl, h1, h2⟩
    exact ⟨cs, rfl, h1, fun i hi => by obtain ⟨c, e1, e2, e3⟩ := h2 i hi; exact ⟨c, e1, e2, ih i (hn i hi) e3⟩⟩
  | tup n g ih =>
    rintro v hn ⟨cs, rfl, h1, h2⟩
    exact ⟨cs, rfl, h1, fun i hi => by obtain ⟨c, e1, e2⟩ := h2 i hi; exact ⟨c, e1, ih i (hn i hi) e2⟩⟩
  | clo f n g ih =>
    rintro v hn ⟨cs, rfl, h1, h2⟩
    exact ⟨cs, rfl, h1, fun i hi => by obtain ⟨c, e1, e2⟩ := h2 i hi; exact ⟨c, e1, ih i (hn i hi) e2⟩⟩
  | bnd f n g ih =>
    rintro v hn ⟨cs, rfl, h1, h2⟩
    exact ⟨cs, rfl, h1, fun i hi => by obtain ⟨c, e1, e2⟩ := h2 i hi; exact ⟨c, e1, ih i (hn i hi) e2⟩⟩
  | ifc ty x ih =>
    rintro v hn ⟨u, rfl, h1⟩
    exact ⟨u, rfl, ih hn h1⟩
  | yld t =>
    rintro v hn ⟨r, hr, h⟩
    have hn : kp t = true := hn
    exact ⟨r, by unfold restr; rw [if_pos hn]; exact hr, h⟩
  | _ => exact fun _ h => h

theorem NamedE.get {kp : Nat → Bool} : ∀ {e : Env}, NamedE kp e → ∀ i, Named kp (Env.get e i)
  | [], _, i => trivial
  | (j, v) :: r, h, i => by
    simp only [Env.get]
    split
    · exact h.1
    · exact NamedE.get h.2 i

theorem Dfr_restr {kp : Nat → Bool} {φ : Phi} {w : World} : ∀ {ds : List Deferred}, Dfr lo φ w ds → Dfr lo (restr kp φ) w ds
  | [], _ => trivial
  | _ :: _, ⟨⟨D, h1, h2, h3, h4, h5⟩, h6⟩ => ⟨⟨D, h1, h2, h3, notLive_restr h4, h5⟩, Dfr_restr h6⟩

theorem NamedL.get {kp : Nat → Bool} : ∀ {vs : List V}, NamedL kp vs → ∀ i, Named kp (vs.getD i .any)
  | [], _, i => by simp [Named]
  | v :: r, h, 0 => by simpa using h.1
  | v :: r, h, i + 1 => by have := NamedL.get h.2 i; simpa using this

theorem NamedM.get {kp : Nat → Bool} : ∀ {M : Mem}, NamedM kp M → ∀ t ob, M.get t = some ob → NamedC kp ob.sz ob.c
  | [], _, t, ob, h => by simp [Mem.get, List.getD] at h
  | some ob :: r, h, 0, ob', he => by simp [Mem.get] at he; subst he; exact h.1
  | none :: r, h, 0, ob', he => by simp [Mem.get] at he
  | some ob :: r, h, t + 1, ob', he => NamedM.get h.2 t ob' (by simpa [Mem.get] using he)
  | none :: r, h, t + 1, ob', he => NamedM.get (M := r) h t ob' (by simpa [Mem.get] using he)

theorem NamedC.f {kp : Nat → Bool} {sz : Nat} {c : Con} (h : NamedC kp sz c) (j k : Nat) (hj : j < c.n) (hk : k < sz) : Named kp (c.f j k) := by
  cases c with
  | cv n f => exact h j k hj hk
  | one cs => exact NamedL.get h k
  | _ => exact trivial

theorem MemRel.mask {kp : Nat → Bool} {nb base : Nat} {φ : Phi} {w : World} {M : Mem} (h : MemRel nb base φ w M) (hn : NamedM kp (maskM kp 0 M)) : MemRel nb base (restr kp φ) w (maskM kp 0 M) := by
  refine ⟨fun t r ht => ?_, fun t t' r r' ht ht' => ?_, fun t r ht => ?_, h.le⟩
  · unfold restr at ht
    split at ht
    · next hk =>
      obtain ⟨o, h1, h2⟩ := h.obj t r ht
      have hg : (maskM kp 0 M).get t = some o := by rw [maskM_get, Nat.zero_add, if_pos hk]; exact h1
      refine ⟨o, hg, h2.n, h2.ver, h2.sz, h2.e, h2.pos, h2.le, h2.max, h2.dom, ?_, fun hC hp => ?_⟩
      · have hs := h2.spec
        have hnm := hn.get t o hg
        cases hc : o.c with
        | loop st pend e' nt' ps as bd inf =>
          rw [hc] at hs hnm
          obtain ⟨k1, k2, L, g1, g2, g3, g4, g5, g6, g7, g8⟩ := hs
          exact ⟨k1, k2, L, g1, g2, g3, g4, g5, g6, g7, fun i => Rep_restr (NamedE.get hnm i) (g8 i)⟩
        | kil => rw [hc] at hs; exact hs
        | _ => exact trivial
      obtain ⟨cur, e1, e2, e3⟩ := h2.row hC hp
      refine ⟨cur, e1, e2, fun j k hj hk => ?_⟩
      obtain ⟨c, f1, f2, f3⟩ := e3 j k hj hk
      exact ⟨c, f1, f2, Rep_restr ((hn.get t o hg).f j k (by rw [h2.n]; exact hj) (by rw [h2.sz]; exact hk)) f3⟩
    · cases ht
  · unfold restr at ht ht'
    split at ht
    · split at ht'
      · exact h.inj t t' r r' ht ht'
      · cases ht'
    · cases ht
  · unfold restr at ht
    split at ht
    · exact h.own t r ht
    · cases ht

theorem Evo.restr {kp : Nat → Bool} {w w' : World} {φ φ' : Phi} (h : Evo w φ w' φ') (hk : ∀ t r, φ t = some r → kp t = true) : Evo w φ w' (restr kp φ') := by
  refine ⟨h.os, h.tape, h.output, h.size, h.block, fun t r ht => ?_, fun t r ht => ?_⟩
  · unfold Tri.restr at ht
    split at ht
    · exact h.live t r ht
    · cases ht
  · obtain ⟨r', h1, h2⟩ := h.names t r ht
    exact ⟨r', by unfold Tri.restr; rw [if_pos (hk t r ht)]; exact h1, h2⟩

theorem St.mask {kp : Nat → Bool} {nt nb base : Nat} {φ : Phi} {w : World} {M : Mem} {keys : List Nat} {vs : List V} {a : Act} (h : St lo nt nb base φ w M (keys.zip vs) a) (hv : NamedL kp vs) (hn : NamedM kp (maskM kp 0 M)) : St lo nt nb base (restr kp φ) w (maskM kp 0 M) (keys.zip vs) a := by
  refine ⟨h.mem.mask hn, Dfr_restr h.dfr, h.low, h.size, fun i => Rep_restr ?_ (h.slots i)⟩
  clear h
  induction keys generalizing vs with
  | nil => exact trivial
  | cons k r ih =>
    cases vs with
    | nil => exact trivial
    | cons v vs =>
      simp only [List.zip_cons_cons, Env.get]
      split
      · exact hv.1
      · exact ih hv.2

/-- A CALL; behind it only what was there ahead of it is kept. -/
theorem ACM_mask {P : Program} {f : FuncId} {xs : List V} {M M0 : Mem} {R0 : V} {kp : Nat → Bool} {nb0 : Option Nat} (h : ACM P f xs M (fun R M' => R = R0 ∧ M' = M0) nb0) (hk : ∀ t, t < M.length → kp t = true) (hR : Named kp R0) (hM : NamedM kp (maskM kp 0 M0)) :
    ACM P f xs M (fun R M' => R = R0 ∧ M' = maskM kp 0 M0) nb0 := by
  unfold ACM at h ⊢
  refine ⟨h.1, fun nb base φ w args hnb hm hs ha => ?_⟩
  refine (h.2 nb base φ w args hnb hm hs ha).mono ?_
  rintro e w' ⟨v, R, M', φ', rfl, ⟨rfl, rfl⟩, h2, h3, h4⟩
  refine ⟨v, R, _, restr kp φ', rfl, ⟨rfl, rfl⟩, h2.mask hM, Rep_restr hR h3, h4.restr fun t r ht => ?_⟩
  obtain ⟨o, ho, _⟩ := hm.obj t r ht
  refine hk t ?_
  rcases Nat.lt_or_ge t M.length with h | h
  · exact h
  · simp [Mem.get, List.getD, List.getElem?_eq_none h] at ho

/-! ## The same by evaluation -/

def namedB (kp : Nat → Bool) : V → Bool
  | .seq _ sz n f => (List.range n).all fun j => (List.range sz).all fun k => namedB kp (f j k)
  | .sl t _ _ _ => kp t
  | .ptr t _ _ _ => kp t
  | .at_ sz g _ => (List.range sz).all fun k => namedB kp (g k)
  | .agg n g => (List.range n).all fun k => namedB kp (g k)
  | .tup n g => (List.range n).all fun k => namedB kp (g k)
  | .clo _ n g => (List.range n).all fun k => namedB kp (g k)
  | .bnd _ n g => (List.range n).all fun k => namedB kp (g k)
  | .ifc _ x => namedB kp x
  | .yld t => kp t
  | _ => true

theorem namedB_ok {kp : Nat → Bool} : ∀ {x : V}, namedB kp x = true → Named kp x := by
  intro x
  induction x with
  | seq fr sz n f ih =>
    intro h j k hj hk
    exact ih j k (List.all_eq_true.1 (List.all_eq_true.1 h j (List.mem_range.2 hj)) k (List.mem_range.2 hk))
  | sl => exact fun h => h
  | ptr => exact fun h => h
  | at_ sz g o ih => exact fun h k hk => ih k (List.all_eq_true.1 h k (List.mem_range.2 hk))
  | agg n g ih => exact fun h k hk => ih k (List.all_eq_true.1 h k (List.mem_range.2 hk))
  | tup n g ih => exact fun h k hk => ih k (List.all_eq_true.1 h k (List.mem_range.2 hk))
  | clo f n g ih => exact fun h k hk => ih k (List.all_eq_true.1 h k (List.mem_range.2 hk))
  | bnd f n g ih => exact fun h k hk => ih k (List.all_eq_true.1 h k (List.mem_range.2 hk))
  | ifc ty x ih => exact fun h => ih h
  | yld t => exact fun h => h
  | _ => exact fun _ => trivial

def namedEB (kp : Nat → Bool) : Env → Bool
  | [] => true
  | (_, v) :: r => namedB kp v && namedEB kp r
def namedLB (kp : Nat → Bool) : List V → Bool
  | [] => true
  | v :: r => namedB kp v && namedLB kp r
def namedCB (kp : Nat → Bool) (sz : Nat) : Con → Bool
  | .cv n f => (List.range n).all fun j => (List.range sz).all fun k => namedB kp (f j k)
  | .one cs => namedLB kp cs
  | .loop _ _ e _ _ _ _ _ => namedEB kp e
  | _ => true
def namedMB (kp : Nat → Bool) : Mem → Bool
  | [] => true
  | some ob :: r => namedCB kp ob.sz ob.c && namedMB kp r
  | none :: r => namedMB kp r

theorem namedEB_ok {kp : Nat → Bool} : ∀ {e : Env}, namedEB kp e = true → NamedE kp e
  | [], _ => trivial
  | (_, v) :: r, h => by
    simp only [namedEB, Bool.and_eq_true] at h
    exact ⟨namedB_ok h.1, namedEB_ok h.2⟩
theorem namedLB_ok {kp : Nat → Bool} : ∀ {e : List V}, namedLB kp e = true → NamedL kp e
  | [], _ => trivial
  | v :: r, h => by
    simp only [namedLB, Bool.and_eq_true] at h
    exact ⟨namedB_ok h.1, namedLB_ok h.2⟩
theorem namedMB_ok {kp : Nat → Bool} : ∀ {M : Mem}, namedMB kp M = true → NamedM kp M
  | [], _ => trivial
  | none :: r, h => namedMB_ok (M := r) h
  | some ob :: r, h => by
    simp only [namedMB, Bool.and_eq_true] at h
    refine ⟨?_, namedMB_ok h.2⟩
    have h := h.1
    cases hc : ob.c with
    | cv n f =>
      rw [hc] at h
      exact fun j k hj hk => namedB_ok (List.all_eq_true.1 (List.all_eq_true.1 h j (List.mem_range.2 hj)) k (List.mem_range.2 hk))
    | one cs => rw [hc] at h; exact namedLB_ok h
    | loop => rw [hc] at h; exact namedEB_ok h
    | _ => exact trivial

/-- What a call leaves: what was there ahead of it, where nothing tells of more. -/
def gcE (n : Nat) (R : V) (M : Mem) : Mem := bif namedB (fun t => Nat.blt t n) R && namedMB (fun t => Nat.blt t n) (maskM (fun t => Nat.blt t n) 0 M) then maskM (fun t => Nat.blt t n) 0 M else M

theorem ACM_gc {P : Program} {f : FuncId} {xs : List V} {M M0 : Mem} {R0 : V} {nb0 : Option Nat} (h : ACM P f xs M (fun R M' => R = R0 ∧ M' = M0) nb0) : ACM P f xs M (fun R M' => R = R0 ∧ M' = gcE M.length R0 M0) nb0 := by
  unfold gcE
  cases hb : (namedB (fun t => Nat.blt t M.length) R0 && namedMB (fun t => Nat.blt t M.length) (maskM (fun t => Nat.blt t M.length) 0 M0)) with
  | false => exact h
  | true =>
    simp only [Bool.and_eq_true] at hb
    exact ACM_mask h (fun t ht => by simpa using ht) (namedB_ok hb.1) (namedMB_ok hb.2)

def loopQK (keys : List Nat) (kp : Nat → Bool) (I : List V → Mem → Prop) (mu : List V → Mem → Nat) (n : Nat) (Q : Exit → Env → Mem → Prop) : Exit → Env → Mem → Prop
  | .normal, e, M => (NamedL kp (sel keys e) ∧ NamedM kp (maskM kp 0 M)) ∧ I (sel keys e) (maskM kp 0 M) ∧ mu (sel keys e) (maskM kp 0 M) < n
  | x, e, M => Q x e M

section
variable {X : Cx}
/-- A LOOP; at each round's end only the names that 'kp' says are kept: all that were there ahead of the loop, and some more. -/
theorem AW_loopK (hT : TabOk X.P X.T) (keys : List Nat) (kp : Nat → Bool) (I : List V → Mem → Prop) (mu : List V → Mem → Nat) {c : Code} {Q : Exit → Env → Mem → Prop} {e : Env} {M : Mem} (hk : ∀ t, t < M.length → kp t = true) (h0 : I (sel keys e) M)
    (round : ∀ vs M', I vs M' → awp X c (loopQK keys kp I mu (mu vs M') Q) (keys.zip vs) M') : AW X.P X.nt X.nb X.rd (.loop c) Q e M := by
  rw [AW_def]
  intro ro lo base φ w a hro hst
  have hdom : ∀ t r, φ t = some r → kp t = true := by
    intro t r ht
    obtain ⟨o, ho, _⟩ := hst.mem.obj t r ht
    refine hk t ?_
    rcases Nat.lt_or_ge t M.length with h | h
    · exact h
    · simp [Mem.get, List.getD, List.getElem?_eq_none h] at ho
  refine wpIn_loop_ghost (fun n a' w' => ∃ vs M' φ', mu vs M' = n ∧ I vs M' ∧ St lo X.nt X.nb base φ' w' M' (keys.zip vs) a' ∧ Evo w φ w' φ') (mu (sel keys e) M)
    ⟨_, M, φ, rfl, h0, hst.sel keys, Evo.refl w φ⟩ ?_
  rintro n a' w' ⟨vs, M', φ', rfl, hI, hst', hv⟩
  refine wpIn_mono (awp_ok hT hro c _ base φ' w' M' _ a' hst' (round vs M' hI)) ?_
  rintro x a₁ w₁ ⟨hx, e₁, M₁, φ₁, hq, hst₁, hv₁⟩
  cases x with
  | normal => exact ⟨_, hq.2.2, _, _, _, rfl, hq.2.1, (hst₁.sel keys).mask hq.1.1 hq.1.2, (hv.trans hv₁).restr hdom⟩
  | panic c => exact hx.elim
  | outgrown => exact hx.elim
  | _ => exact ⟨trivial, e₁, M₁, φ₁, hq, hst₁, hv.trans hv₁⟩
end
end Go.Tri
