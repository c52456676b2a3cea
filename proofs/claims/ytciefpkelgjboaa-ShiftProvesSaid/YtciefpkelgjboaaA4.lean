/-
  SOUNDNESS, FIRST PART: memory steps (a new object, a store), operands.
-/
import Derived.Test.YtciefpkelgjboaaA3
namespace Go.Tri
variable {lo : Nat}

theorem Mem.get_put_same (M : Mem) (t : Nat) (o : Ob) : (M.put t o).get t = some o := by
  induction t generalizing M with
  | zero => cases M <;> simp [Mem.put, Mem.get]
  | succ t ih =>
    cases M with
    | nil => have := ih []; simpa [Mem.put, Mem.get] using this
    | cons x r => have := ih r; simpa [Mem.put, Mem.get] using this

theorem Mem.get_put_other (M : Mem) {t s : Nat} (h : s ≠ t) (o : Ob) : (M.put t o).get s = M.get s := by
  induction t generalizing M s with
  | zero =>
    cases s with
    | zero => exact absurd rfl h
    | succ s => cases M <;> simp [Mem.put, Mem.get]
  | succ t ih =>
    cases s with
    | zero => cases M <;> simp [Mem.put, Mem.get]
    | succ s =>
      have hs : s ≠ t := fun e => h (by rw [e])
      cases M with
      | nil => have := ih [] hs; simpa [Mem.put, Mem.get] using this
      | cons x r => have := ih r hs; simpa [Mem.put, Mem.get] using this

def Phi.upd (φ : Phi) (t : Nat) (r : Row) : Phi := fun s => if s = t then some r else φ s

theorem Phi.upd_same (φ : Phi) (t : Nat) (r : Row) : φ.upd t r t = some r := by simp [Phi.upd]
theorem Phi.upd_other (φ : Phi) {t s : Nat} (r : Row) (h : s ≠ t) : φ.upd t r s = φ s := by simp [Phi.upd, h]

theorem ORel.evo {φ φ' : Phi} {base : Nat} {w w' : World} {r : Row} {o : Ob} (h : ORel φ base w r o) (hv : Evo w φ w' φ') (hb : 0 < r.cap → w'.heap[r.g]? = w.heap[r.g]?) : ORel φ' base w' r o := by
  obtain ⟨h1, h2, h3, h4, h5, h6, h7, h8, h9, hrow⟩ := h
  refine ⟨h1, h2, h3, h4, h5, h6, h7, fun hp => Nat.lt_of_lt_of_le (h8 hp) hv.size, Con.Spec_evo hv hb h9, fun hC hp => ?_⟩
  obtain ⟨cur, g1, g2, g3⟩ := hrow hC hp
  refine ⟨cur, (hb hp).trans g1, g2, fun j k hj hk => ?_⟩
  obtain ⟨c, e1, e2, e3⟩ := g3 j k hj hk
  exact ⟨c, e1, e2, Rep.evo hv e3⟩

/-- What an operation comes to. -/
structure Step (nb base nm : Nat) (φ : Phi) (w : World) (v : V) (M' : Mem) (cv : Value) (w' : World) (φ' : Phi) : Prop where
  mem : MemRel nb base φ' w' M'
  rep : Rep φ' base w' v cv
  evo : Evo w φ w' φ'
  dom : ∀ t r, φ' t = some r → (∃ r0, φ t = some r0) ∨ t = nm

theorem Step.same {nb base nm : Nat} {φ : Phi} {w : World} {M : Mem} {v : V} {cv : Value} (hm : MemRel nb base φ w M) (hr : Rep φ base w v cv) : Step nb base nm φ w v M cv w φ :=
  ⟨hm, hr, Evo.refl w φ, fun _ r h => .inl ⟨r, h⟩⟩

/-- A NEW OBJECT. -/
theorem step_new {nb base nm : Nat} {φ : Phi} {w : World} {M : Mem} (hm : MemRel nb base φ w M) (hn : φ nm = none) (e : TypeId) (cur : Array Value) (cap sz : Nat) (o : Ob)
    (hpos : 0 < sz) (hle : o.c.n ≤ cap) (hmax : cap ≤ maxLen) (hsz : o.sz = sz) (he : o.e = e) (hver : o.ver = 0) (hcur : cur.size = cap * sz)
    (hc : ∀ j k, j < o.c.n → k < sz → ∃ c, cur[j * sz + k]? = some c ∧ c.oneCell' = true ∧ Rep φ base w (o.c.f j k) c)
    (hC : o.c.isC = true := by first | rfl | (simp only []; split <;> rfl) | (apply Con.isC_of_n; omega)) (hkc : o.c.kc = true → cap = o.c.n := by first | exact fun h => nomatch h | (simp only []; split <;> exact fun h => nomatch h)) :
    MemRel nb base (φ.upd nm ⟨w.heap.size, cap, o.c.n, sz, e, 0⟩) (w.alloc (.cells cur e)) (M.put nm o) ∧ Evo w φ (w.alloc (.cells cur e)) (φ.upd nm ⟨w.heap.size, cap, o.c.n, sz, e, 0⟩) ∧
      (∀ t r, φ.upd nm ⟨w.heap.size, cap, o.c.n, sz, e, 0⟩ t = some r → (∃ r0, φ t = some r0) ∨ t = nm) := by
  have hevo : Evo w φ (w.alloc (.cells cur e)) (φ.upd nm ⟨w.heap.size, cap, o.c.n, sz, e, 0⟩) := by
    refine ⟨rfl, rfl, rfl, by simp, fun b hb _ => heap_alloc_old w _ hb, fun t r ht hcp hlt hnl => ?_, fun t r ht => ?_⟩
    · by_cases h : t = nm
      · subst h
        rw [Phi.upd_same] at ht
        cases ht
        exact absurd hlt (by simp)
      · rw [Phi.upd_other _ _ h] at ht
        exact hnl t r ht hcp rfl
    · have h : t ≠ nm := fun h => by subst h; rw [hn] at ht; cases ht
      exact ⟨r, by rw [Phi.upd_other _ _ h]; exact ht, rfl, rfl, Nat.le_refl _, fun _ => rfl⟩
  refine ⟨⟨fun t r ht => ?_, fun t t' r r' ht ht' hp hp' hg => ?_, fun t r ht hnb hp => ?_, by have := hm.le; simp; omega⟩, hevo, fun t r ht => ?_⟩
  · by_cases h : t = nm
    · subst h
      rw [Phi.upd_same] at ht
      cases ht
      refine ⟨o, Mem.get_put_same M t o, rfl, hver, hsz, he, hpos, hle, hmax, fun _ => by simp, Con.Spec_of hC hkc, fun _ _ => ⟨cur, heap_alloc_new w _, hcur, fun j k hj hk => ?_⟩⟩
      obtain ⟨c, e1, e2, e3⟩ := hc j k hj hk
      exact ⟨c, e1, e2, Rep.evo hevo e3⟩
    · rw [Phi.upd_other _ _ h] at ht
      obtain ⟨o', h1, h2⟩ := hm.obj t r ht
      exact ⟨o', by rw [Mem.get_put_other M h]; exact h1, h2.evo hevo (fun hp => heap_alloc_old w _ (hm.lt ht hp))⟩
  · by_cases h : t = nm <;> by_cases h' : t' = nm
    · rw [h, h']
    · subst h
      rw [Phi.upd_same] at ht
      rw [Phi.upd_other _ _ h'] at ht'
      cases ht
      have := hm.lt ht' hp'
      simp only at hg
      omega
    · subst h'
      rw [Phi.upd_same] at ht'
      rw [Phi.upd_other _ _ h] at ht
      cases ht'
      have := hm.lt ht hp
      simp only at hg
      omega
    · rw [Phi.upd_other _ _ h] at ht
      rw [Phi.upd_other _ _ h'] at ht'
      exact hm.inj t t' r r' ht ht' hp hp' hg
  · by_cases h : t = nm
    · subst h
      rw [Phi.upd_same] at ht
      cases ht
      exact hm.le
    · rw [Phi.upd_other _ _ h] at ht
      exact hm.own t r ht hnb hp
  · by_cases h : t = nm
    · exact .inr h
    · rw [Phi.upd_other _ _ h] at ht
      exact .inl ⟨r, ht⟩

/-- ONE CELL OF AN OBJECT WRITTEN. -/
theorem step_set {nb base : Nat} {φ : Phi} {w : World} {M : Mem} (hm : MemRel nb base φ w M) {t : Nat} {r : Row} {o : Ob} (ht : φ t = some r) (ho : M.get t = some o) {i k : Nat} (hi : i < r.n) (hk : k < r.sz)
    {x : V} {c : Value} (hx : Rep φ base w x c) (h1 : c.oneCell' = true) (c' : Con) (hn : c'.n = o.c.n) (hkc : c'.kc = o.c.kc)
    (hc : ∀ j l, j < r.n → l < r.sz → (j = i ∧ l = k → c'.f j l = x) ∧ (¬(j = i ∧ l = k) → c'.f j l = o.c.f j l)) :
    MemRel nb base φ (w.setCell ⟨r.g, i * r.sz + k, none⟩ c) (M.put t { o with c := c' }) ∧ Evo w φ (w.setCell ⟨r.g, i * r.sz + k, none⟩ c) φ := by
  have hcp : 0 < r.cap := by
    obtain ⟨o', g1, g2⟩ := hm.obj t r ht
    have := g2.le
    omega
  have hevo : Evo w φ (w.setCell ⟨r.g, i * r.sz + k, none⟩ c) φ := by
    refine ⟨rfl, rfl, rfl, by simp, fun b _ hnl => heap_setCell_other w _ b c (fun e => hnl t r ht hcp e.symm), fun t r ht hcp _ hnl => hnl t r ht hcp rfl, fun t r ht => ⟨r, ht, rfl, rfl, Nat.le_refl _, fun _ => rfl⟩⟩
  refine ⟨⟨fun s r' hs => ?_, hm.inj, hm.own, by simpa using hm.le⟩, hevo⟩
  by_cases h : s = t
  · subst h
    rw [ht] at hs
    cases hs
    obtain ⟨o', g1, g2⟩ := hm.obj s r ht
    rw [ho] at g1
    cases g1
    obtain ⟨k1, k2, k3, k4, k5, k6, k7, k8, k9, krow⟩ := g2
    obtain ⟨cur, q1, q2, q3⟩ := krow (Con.isC_of_n (by omega)) hcp
    have hin : i * r.sz + k < cur.size := by
      rw [q2]
      calc i * r.sz + k < i * r.sz + r.sz := by omega
        _ = (i + 1) * r.sz := by rw [Nat.succ_mul]
        _ ≤ r.cap * r.sz := Nat.mul_le_mul_right _ (by omega)
    refine ⟨_, Mem.get_put_same M s _, hn.trans k1, k2, k3, k4, k5, k6, k7, fun hp => by simpa using k8 hp, Con.Spec_of (Con.isC_of_n (by show 0 < c'.n; omega)) (fun h => by
      have h : o.c.kc = true := by rw [← hkc]; exact h
      cases hoc : o.c with
      | kil => rw [hoc] at k9; exact k9
      | _ => rw [hoc] at h; cases h), fun _ _ => ⟨cur.setIfInBounds (i * r.sz + k) c, ?_, by simpa using q2, fun j l hj hl => ?_⟩⟩
    · exact heap_setCell_same w r.g (i * r.sz + k) cur r.e c q1
    · obtain ⟨c0, e1, e2, e3⟩ := q3 j l hj hl
      by_cases hjl : j = i ∧ l = k
      · obtain ⟨rfl, rfl⟩ := hjl
        refine ⟨c, by simp [hin], h1, ?_⟩
        rw [show ({ o with c := c' } : Ob).c.f j l = x from (hc j l hj hl).1 ⟨rfl, rfl⟩]
        exact Rep.evo hevo hx
      · have hne : i * r.sz + k ≠ j * r.sz + l := by
          intro he
          have a1 : (i * r.sz + k) / r.sz = i := by rw [Nat.mul_comm, Nat.mul_add_div k5, Nat.div_eq_of_lt hk]; rfl
          have a2 : (j * r.sz + l) / r.sz = j := by rw [Nat.mul_comm, Nat.mul_add_div k5, Nat.div_eq_of_lt hl]; rfl
          have e : i = j := by rw [← a1, ← a2, he]
          subst e
          exact hjl ⟨rfl, by omega⟩
        refine ⟨c0, by rw [Array.getElem?_setIfInBounds_ne hne]; exact e1, e2, ?_⟩
        rw [show ({ o with c := c' } : Ob).c.f j l = o.c.f j l from (hc j l hj hl).2 hjl]
        exact Rep.evo hevo e3
  · obtain ⟨o', g1, g2⟩ := hm.obj s r' hs
    refine ⟨o', by rw [Mem.get_put_other M h]; exact g1, g2.evo hevo (fun hp => heap_setCell_other w _ _ c (fun e => h (hm.inj s t r' r hs ht hp hcp e)))⟩

/-! ## Operands -/

theorem Rep.constV (φ : Phi) (base : Nat) (w : World) (v : Value) : Rep φ base w (constV v) v := by
  unfold Tri.constV
  split
  · exact ⟨none, rfl, fun _ => rfl⟩
  · rfl

theorem St.eval {nt nb base : Nat} {φ : Phi} {w : World} {M : Mem} {e : Env} {a : Act} (h : St lo nt nb base φ w M e a) (x : Operand) : Rep φ base w (evA e x) (a.eval x) := by
  cases x with
  | tmp t => exact h.slots t
  | const v => exact Rep.constV φ base w v
  | global g => rfl
  | func f => exact ⟨#[], rfl, rfl, fun i hi => absurd hi (by omega)⟩

theorem St.put {nt nb base nm : Nat} {φ φ' : Phi} {w w' : World} {M M' : Mem} {e : Env} {a : Act} {v : V} {cv : Value} (h : St lo nt nb base φ w M e a) (hs : Step nb base nm φ w v M' cv w' φ') (d : Tmp) (hd : d < nt) :
    St lo nt nb base φ' w' M' ((d, v) :: e) (a.put (some d) cv) := by
  refine ⟨hs.mem, h.dfr.evo hs.evo, Nat.le_trans h.low hs.evo.size, by simp [Act.put, h.size], fun i => ?_⟩
  by_cases hi : d = i
  · subst hi
    simp only [Env.get, if_true, Act.put]
    rw [show (a.tmps.setIfInBounds d cv).getD d undef = cv from by simp [Array.getD, h.size, hd]]
    exact hs.rep
  · simp only [Env.get, if_neg hi, Act.put]
    rw [show (a.tmps.setIfInBounds d cv).getD i undef = a.tmps.getD i undef from by
      simp only [Array.getD, Array.size_setIfInBounds]
      split
      · rw [Array.getInternal_eq_getElem, Array.getElem_setIfInBounds_ne _ hi]; rfl
      · rfl]
    exact Rep.evo hs.evo (h.slots i)

theorem St.put_none {nt nb base nm : Nat} {φ φ' : Phi} {w w' : World} {M M' : Mem} {e : Env} {a : Act} {v : V} {cv : Value} (h : St lo nt nb base φ w M e a) (hs : Step nb base nm φ w v M' cv w' φ') :
    St lo nt nb base φ' w' M' e (a.put none cv) := h.evo hs.evo hs.mem

end Go.Tri
