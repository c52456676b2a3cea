/-
  SOUNDNESS, THIRD PART: stores and what makes memory.
-/
import Derived.Test.YtciefpkelgjboaaA5
namespace Go.Tri
variable {lo : Nat}
open Go.RowKit

theorem leaf_one {φ : Phi} {base : Nat} {w : World} {x : V} {c : Value} (hl : x.leaf = true) (h : Rep φ base w x c) : c.oneCell' = true := by
  cases x with
  | lit v => cases h; exact hl
  | ints fr xs => obtain ⟨A, cap, rfl, _⟩ := h; rfl
  | seq fr sz n f => obtain ⟨A, cap, rfl, _⟩ := h; rfl
  | sl t ver off len => obtain ⟨r, _, h1, _⟩ := h; exact h1
  | ptr t ver i o => obtain ⟨r, _, h1, _⟩ := h; exact h1
  | at_ sz g o => obtain ⟨b, off, rfl, _⟩ := h; rfl
  | clo f n g => obtain ⟨cs, rfl, _⟩ := h; rfl
  | emp nl => obtain ⟨A, rfl, _⟩ := h; rfl
  | agg n g => cases hl
  | tup n g => cases hl
  | any => cases hl
  | yld t => obtain ⟨r, _, h1, _⟩ := h; exact h1
  | ifc ty x => obtain ⟨u, rfl, _⟩ := h; rfl
  | bnd f n g => obtain ⟨cs, rfl, _⟩ := h; rfl
  | full xs => obtain ⟨A, rfl, _⟩ := h; rfl

theorem isI64_eq {x : V} (h : x.isI64 = true) : x = .int x.toInt := by
  cases x with
  | lit v => cases v with
    | int k n => cases k <;> first | rfl | cases h
    | _ => cases h
  | _ => cases h
theorem isBool_eq {x : V} (h : x.isBool = true) : x = .bool x.toBool := by
  cases x with
  | lit v => cases v with
    | bool b => rfl
    | _ => cases h
  | _ => cases h

theorem bif_some {α : Type} {b : Bool} {x : Option α} {y : α} (h : (bif b then x else none) = some y) : x = some y := by cases b <;> first | exact h | cases h

theorem Con.set_kc {c c' : Con} {sz i o : Nat} {v : V} (h : c.set sz i o v = some c') : c'.kc = c.kc := by
  cases c <;> simp only [Con.set] at h
  case loop => cases h
  all_goals
    have h := bif_some h
    cases h
    rfl

theorem Con.set_ok {c c' : Con} {sz i o : Nat} {v : V} (h : c.set sz i o v = some c') (hi : i < c.n) :
    c'.n = c.n ∧ v.leaf = true ∧ ∀ j l, j < c.n → l < sz → (j = i ∧ l = o → c'.f j l = v) ∧ (¬(j = i ∧ l = o) → c'.f j l = c.f j l) := by
  cases c with
  | loop => cases h
  | kil xs =>
    simp only [Con.set] at h
    cases hb : (v.isI64 && Nat.beq o 0 && Nat.beq sz 1) with
    | false => rw [hb] at h; cases h
    | true =>
      rw [hb] at h
      simp only [cond_true, Option.some.injEq] at h
      subst h
      simp only [Bool.and_eq_true] at hb
      obtain ⟨⟨h1, h2⟩, h3⟩ := hb
      have h2 : o = 0 := Nat.eq_of_beq_eq_true h2
      have h3 : sz = 1 := Nat.eq_of_beq_eq_true h3
      subst h2 h3
      have hv := isI64_eq h1
      simp only [Con.n] at hi
      refine ⟨by simp [Con.n], by rw [hv]; rfl, fun j l hj hl => ⟨fun ⟨e, _⟩ => ?_, fun hne => ?_⟩⟩
      · subst e
        simp only [Con.f]
        rw [show (xs.set j v.toInt).getD j 0 = v.toInt from by simp [List.getD, hi]]
        exact hv.symm
      · have : j ≠ i := fun e => hne ⟨e, by omega⟩
        simp only [Con.f]
        rw [show (xs.set i v.toInt).getD j 0 = xs.getD j 0 from by simp [List.getD, List.getElem?_set_ne (Ne.symm this)]]
  | il xs =>
    simp only [Con.set] at h
    cases hb : (v.isI64 && Nat.beq o 0 && Nat.beq sz 1) with
    | false => rw [hb] at h; cases h
    | true =>
      rw [hb] at h
      simp only [cond_true, Option.some.injEq] at h
      subst h
      simp only [Bool.and_eq_true] at hb
      obtain ⟨⟨h1, h2⟩, h3⟩ := hb
      have h2 : o = 0 := Nat.eq_of_beq_eq_true h2
      have h3 : sz = 1 := Nat.eq_of_beq_eq_true h3
      subst h2 h3
      have hv := isI64_eq h1
      simp only [Con.n] at hi
      refine ⟨by simp [Con.n], by rw [hv]; rfl, fun j l hj hl => ⟨fun ⟨e, _⟩ => ?_, fun hne => ?_⟩⟩
      · subst e
        simp only [Con.f]
        rw [show (xs.set j v.toInt).getD j 0 = v.toInt from by simp [List.getD, hi]]
        exact hv.symm
      · have : j ≠ i := fun e => hne ⟨e, by omega⟩
        simp only [Con.f]
        rw [show (xs.set i v.toInt).getD j 0 = xs.getD j 0 from by simp [List.getD, List.getElem?_set_ne (Ne.symm this)]]
  | bl xs =>
    simp only [Con.set] at h
    cases hb : (v.isBool && Nat.beq o 0 && Nat.beq sz 1) with
    | false => rw [hb] at h; cases h
    | true =>
      rw [hb] at h
      simp only [cond_true, Option.some.injEq] at h
      subst h
      simp only [Bool.and_eq_true] at hb
      obtain ⟨⟨h1, h2⟩, h3⟩ := hb
      have h2 : o = 0 := Nat.eq_of_beq_eq_true h2
      have h3 : sz = 1 := Nat.eq_of_beq_eq_true h3
      subst h2 h3
      have hv := isBool_eq h1
      simp only [Con.n] at hi
      refine ⟨by simp [Con.n], by rw [hv]; rfl, fun j l hj hl => ⟨fun ⟨e, _⟩ => ?_, fun hne => ?_⟩⟩
      · subst e
        simp only [Con.f]
        rw [show (xs.set j v.toBool).getD j false = v.toBool from by simp [List.getD, hi]]
        exact hv.symm
      · have : j ≠ i := fun e => hne ⟨e, by omega⟩
        simp only [Con.f]
        rw [show (xs.set i v.toBool).getD j false = xs.getD j false from by simp [List.getD, List.getElem?_set_ne (Ne.symm this)]]
  | ci n f =>
    simp only [Con.set] at h
    cases hb : v.isI64 with
    | false => rw [hb] at h; cases h
    | true =>
      rw [hb] at h
      simp only [cond_true, Option.some.injEq] at h
      subst h
      have hv := isI64_eq hb
      refine ⟨rfl, by rw [hv]; rfl, fun j l _ _ => ⟨fun e => ?_, fun e => ?_⟩⟩
      · simp only [Con.f, if_pos e]; exact hv.symm
      · simp only [Con.f, if_neg e]
  | cv n f =>
    simp only [Con.set] at h
    cases hb : v.leaf with
    | false => rw [hb] at h; cases h
    | true =>
      rw [hb] at h
      simp only [cond_true, Option.some.injEq] at h
      subst h
      refine ⟨rfl, rfl, fun j l _ _ => ⟨fun e => ?_, fun e => ?_⟩⟩
      · simp only [Con.f, if_pos e]
      · simp only [Con.f, if_neg e]
  | one cs =>
    simp only [Con.set] at h
    cases hb : (v.leaf && Nat.blt o cs.length) with
    | false => rw [hb] at h; cases h
    | true =>
      rw [hb] at h
      simp only [cond_true, Option.some.injEq] at h
      subst h
      simp only [Bool.and_eq_true] at hb
      have h2 : o < cs.length := by simpa using hb.2
      simp only [Con.n] at hi
      refine ⟨rfl, hb.1, fun j l hj _ => ⟨fun ⟨_, e⟩ => ?_, fun hne => ?_⟩⟩
      · subst e
        simp only [Con.f]
        simp [List.getD, h2]
      · simp only [Con.n] at hj
        have : l ≠ o := fun e => hne ⟨by omega, e⟩
        simp only [Con.f]
        simp [List.getD, List.getElem?_set_ne (Ne.symm this)]

section
variable {P : Program} {T : Tab}

theorem run_storeCells_snoc (a : Addr) (l : List Value) (x : Value) (i : Nat) (w : World) :
    (storeCells a (l ++ [x]) i).run P w = ((storeCells a l i).run P w).andThen fun _ w' => (store (a.add (i + l.length)) x).run P w' := by
  induction l generalizing i w with
  | nil => simp [storeCells]
  | cons y l ih =>
    simp only [List.cons_append, storeCells, Sem.run_bind, ih, List.length_cons]
    cases (store (a.add i) y).run P w with
    | ok u w1 => simp only [Result.andThen_ok]; rw [show i + 1 + l.length = i + (l.length + 1) from by omega]
    | halt h w1 => rfl

/-- SEVERAL CELLS OF AN OBJECT WRITTEN. -/
theorem storeCells_ok {nb base : Nat} {φ : Phi} {t : Nat} {r : Row} {g : Nat → V} {i o : Nat} (ht : φ t = some r) (hi : i < r.n) :
    ∀ (n : Nat) (w : World) (M : Mem) (ob : Ob) (c' : Con) (cs : List Value), MemRel nb base φ w M → M.get t = some ob → cs.length = n → o + n ≤ r.sz →
      (∀ k, k < n → ∃ c, cs[k]? = some c ∧ c.oneCell' = true ∧ Rep φ base w (g k) c) → storeCellsV ob.c ob.sz i o g n = some c' →
      ∃ w', (storeCells ⟨r.g, i * r.sz + o, none⟩ cs).run P w = .ok () w' ∧ MemRel nb base φ w' (M.put t { ob with c := c' }) ∧ Evo w φ w' φ ∧ c'.n = ob.c.n := by
  intro n
  induction n with
  | zero =>
    intro w M ob c' cs hm ho hl _ _ hc
    simp only [storeCellsV, Option.some.injEq] at hc
    subst hc
    have : cs = [] := List.eq_nil_of_length_eq_zero hl
    subst this
    refine ⟨w, rfl, ?_, Evo.refl w φ, rfl⟩
    refine ⟨fun s r' hs => ?_, hm.inj, hm.own, hm.le⟩
    by_cases h : s = t
    · subst h
      obtain ⟨o', g1, g2⟩ := hm.obj s r' hs
      rw [ho] at g1
      cases g1
      exact ⟨_, Mem.get_put_same M s _, g2⟩
    · rw [Mem.get_put_other M h]
      exact hm.obj s r' hs
  | succ n ih =>
    intro w M ob c' cs hm ho hl hsz hrep hc
    simp only [storeCellsV] at hc
    cases h1 : storeCellsV ob.c ob.sz i o g n with
    | none => rw [h1] at hc; cases hc
    | some c1 =>
      rw [h1] at hc
      simp only at hc
      obtain ⟨x, hx1, hx2, hx3⟩ := hrep n (by omega)
      have hcs : cs = cs.take n ++ [x] := by
        apply List.ext_getElem?
        intro j
        rcases Nat.lt_trichotomy j n with hj | hj | hj
        · rw [List.getElem?_append_left (by simp; omega), List.getElem?_take_of_lt hj]
        · subst hj; rw [hx1, List.getElem?_append_right (by simp; omega)]; simp [hl]
        · rw [List.getElem?_eq_none (by omega), List.getElem?_eq_none (by simp; omega)]
      obtain ⟨w1, r1, m1, e1, n1⟩ := ih w M ob c1 (cs.take n) hm ho (by simp [hl]) (by omega) (fun k hk => by
        obtain ⟨c, a1, a2, a3⟩ := hrep k (by omega)
        exact ⟨c, by rw [List.getElem?_take_of_lt hk]; exact a1, a2, a3⟩) h1
      obtain ⟨ob0, q1, q2⟩ := m1.obj t r ht
      rw [Mem.get_put_same] at q1
      cases q1
      have hin : i < c1.n := by have := q2.n; simp only at this; omega
      obtain ⟨s1, s2, s3⟩ := Con.set_ok hc hin
      have hszz : ob.sz = r.sz := q2.sz
      obtain ⟨cell, y1, y2, _⟩ := q2.cell hi (show o + n < r.sz by omega)
      have hst := step_set m1 ht (Mem.get_put_same M t _) hi (show o + n < r.sz by omega) (Rep.evo e1 hx3) hx2 c' (by simpa using s1) (Con.set_kc hc) (fun j l hj hl => by
        have := s3 j l (by have := q2.n; simp only at this; omega) (by rw [hszz]; exact hl)
        exact this)
      refine ⟨_, ?_, ?_, e1.trans hst.2, s1.trans n1⟩
      · rw [hcs, run_storeCells_snoc, r1]
        simp only [Result.andThen_ok, List.length_take, hl, Nat.zero_add, addr_add]
        rw [show min n (n + 1) = n from by omega, Nat.add_assoc, run_store P w1 _ x .plain hx2, y1]
        simp only [q2.frozen (by have := q2.le; omega)]
        rfl
      · have := hst.1
        refine ⟨fun s r' hs => ?_, this.inj, this.own, this.le⟩
        obtain ⟨o', z1, z2⟩ := this.obj s r' hs
        by_cases h : s = t
        · subst h
          rw [Mem.get_put_same] at z1
          cases z1
          exact ⟨_, Mem.get_put_same M s _, z2⟩
        · rw [Mem.get_put_other _ h, Mem.get_put_other _ h] at z1
          exact ⟨o', by rw [Mem.get_put_other _ h]; exact z1, z2⟩

/-- The same for a content that is known after each cell. -/
theorem storeArr_ok {nb base : Nat} {φ : Phi} {t : Nat} {r : Row} {g : Nat → V} {i o : Nat} (ht : φ t = some r) (hi : i < r.n) {c0 : Con} (hcv : c0.isCv = true) :
    ∀ (n : Nat) (w : World) (M : Mem) (ob : Ob) (cs : List Value), ob.c = c0 → MemRel nb base φ w M → M.get t = some ob → cs.length = n → o + n ≤ r.sz →
      (∀ k, k < n → ∃ c, cs[k]? = some c ∧ c.oneCell' = true ∧ Rep φ base w (g k) c) →
      ∃ w', (storeCells ⟨r.g, i * r.sz + o, none⟩ cs).run P w = .ok () w' ∧ MemRel nb base φ w' (M.put t { ob with c := .cv c0.n fun j k => if j = i ∧ o ≤ k ∧ k < o + n then g (k - o) else c0.f j k }) ∧ Evo w φ w' φ := by
  intro n
  induction n with
  | zero =>
    intro w M ob cs hob hm ho hl _ _
    have : cs = [] := List.eq_nil_of_length_eq_zero hl
    subst this
    refine ⟨w, rfl, ?_, Evo.refl w φ⟩
    have hc : (Con.cv c0.n fun j k => if j = i ∧ o ≤ k ∧ k < o + 0 then g (k - o) else c0.f j k) = c0 := by
      cases c0 with
      | cv m f =>
        simp only [Con.n, Con.f]
        congr 1
        funext j k
        rw [if_neg (by omega)]
      | _ => cases hcv
    rw [hc, ← hob]
    refine ⟨fun s r' hs => ?_, hm.inj, hm.own, hm.le⟩
    by_cases h : s = t
    · subst h
      obtain ⟨o', g1, g2⟩ := hm.obj s r' hs
      rw [ho] at g1
      cases g1
      exact ⟨_, Mem.get_put_same M s _, g2⟩
    · rw [Mem.get_put_other M h]
      exact hm.obj s r' hs
  | succ n ih =>
    intro w M ob cs hob hm ho hl hsz hrep
    obtain ⟨x, hx1, hx2, hx3⟩ := hrep n (by omega)
    have hcs : cs = cs.take n ++ [x] := by
      apply List.ext_getElem?
      intro j
      rcases Nat.lt_trichotomy j n with hj | hj | hj
      · rw [List.getElem?_append_left (by simp; omega), List.getElem?_take_of_lt hj]
      · subst hj; rw [hx1, List.getElem?_append_right (by simp; omega)]; simp [hl]
      · rw [List.getElem?_eq_none (by omega), List.getElem?_eq_none (by simp; omega)]
    obtain ⟨w1, r1, m1, e1⟩ := ih w M ob (cs.take n) hob hm ho (by simp [hl]) (by omega) (fun k hk => by
      obtain ⟨c, a1, a2, a3⟩ := hrep k (by omega)
      exact ⟨c, by rw [List.getElem?_take_of_lt hk]; exact a1, a2, a3⟩)
    obtain ⟨ob0, q1, q2⟩ := m1.obj t r ht
    rw [Mem.get_put_same] at q1
    cases q1
    obtain ⟨cell, y1, y2, _⟩ := q2.cell hi (show o + n < r.sz by omega)
    have hst := step_set m1 ht (Mem.get_put_same M t _) hi (show o + n < r.sz by omega) (Rep.evo e1 hx3) hx2 (.cv c0.n fun j k => if j = i ∧ o ≤ k ∧ k < o + (n + 1) then g (k - o) else c0.f j k) rfl rfl (fun j l hj hl => by
      simp only [Con.f]
      refine ⟨fun ⟨h1, h2⟩ => ?_, fun hne => ?_⟩
      · rw [if_pos (by omega)]; congr 1; omega
      · by_cases hh : j = i ∧ o ≤ l ∧ l < o + n
        · rw [if_pos hh, if_pos (by omega)]
        · rw [if_neg hh, if_neg (by omega)])
    refine ⟨_, ?_, ?_, e1.trans hst.2⟩
    · rw [hcs, run_storeCells_snoc, r1]
      simp only [Result.andThen_ok, List.length_take, hl, Nat.zero_add, addr_add]
      rw [show min n (n + 1) = n from by omega, Nat.add_assoc, run_store P w1 _ x .plain hx2, y1]
      simp only [q2.frozen (by have := q2.le; omega)]
      rfl
    · have := hst.1
      refine ⟨fun s r' hs => ?_, this.inj, this.own, this.le⟩
      obtain ⟨o', z1, z2⟩ := this.obj s r' hs
      by_cases h : s = t
      · subst h
        rw [Mem.get_put_same] at z1
        cases z1
        exact ⟨_, Mem.get_put_same M s _, z2⟩
      · rw [Mem.get_put_other _ h, Mem.get_put_other _ h] at z1
        exact ⟨o', by rw [Mem.get_put_other _ h]; exact z1, z2⟩

theorem setArr_n (c : Con) (sz i o m : Nat) (g : Nat → V) : (setArr c sz i o m g).n = c.n := by
  unfold setArr
  cases h : (Nat.beq m sz && Nat.beq c.n 1 && Nat.beq i 0 && Nat.beq o 0) with
  | true => simp only [Bool.and_eq_true] at h; simp only [cond_true, Con.n]; exact (Nat.eq_of_beq_eq_true h.1.1.2).symm
  | false => rfl
theorem setArr_f (c : Con) (sz i o m : Nat) (g : Nat → V) (j k : Nat) (hj : j < c.n) (hk : k < sz) : (setArr c sz i o m g).f j k = if j = i ∧ o ≤ k ∧ k < o + m then g (k - o) else c.f j k := by
  unfold setArr
  cases h : (Nat.beq m sz && Nat.beq c.n 1 && Nat.beq i 0 && Nat.beq o 0) with
  | true =>
    simp only [Bool.and_eq_true] at h
    have h4 := Nat.eq_of_beq_eq_true h.1.1.1
    have h1 := Nat.eq_of_beq_eq_true h.1.1.2
    have h2 := Nat.eq_of_beq_eq_true h.1.2
    have h3 := Nat.eq_of_beq_eq_true h.2
    simp only [cond_true, Con.f]
    rw [if_pos (by omega)]
    congr 1
    omega
  | false => rfl
theorem setArr_isC (c : Con) (sz i o m : Nat) (g : Nat → V) : (setArr c sz i o m g).isC = true := by
  unfold setArr
  cases (Nat.beq m sz && Nat.beq c.n 1 && Nat.beq i 0 && Nat.beq o 0) <;> rfl
theorem setArr_kc (c : Con) (sz i o m : Nat) (g : Nat → V) : (setArr c sz i o m g).kc = false := by
  unfold setArr
  cases (Nat.beq m sz && Nat.beq c.n 1 && Nat.beq i 0 && Nat.beq o 0) <;> rfl
/-- A content that reads alike. -/
theorem MemRel.recon {nb base : Nat} {φ : Phi} {w : World} {M : Mem} {t : Nat} {ob : Ob} {c c' : Con} (h : MemRel nb base φ w (M.put t { ob with c := c })) (hn : c'.n = c.n) (hC : c.isC = true) (hC' : c'.isC = true) (hk' : c'.kc = false)
    (hf : ∀ j k, j < c.n → k < ob.sz → c'.f j k = c.f j k) : MemRel nb base φ w (M.put t { ob with c := c' }) := by
  refine ⟨fun s r hs => ?_, h.inj, h.own, h.le⟩
  obtain ⟨o, g1, g2⟩ := h.obj s r hs
  by_cases he : s = t
  · subst he
    rw [Mem.get_put_same] at g1
    cases g1
    refine ⟨_, Mem.get_put_same M s _, by rw [← g2.n]; exact hn, g2.ver, g2.sz, g2.e, g2.pos, g2.le, g2.max, g2.dom, Con.Spec_of hC' (fun h => by rw [hk'] at h; cases h), fun _ hp => ?_⟩
    obtain ⟨cur, q1, q2, q3⟩ := g2.row hC hp
    refine ⟨cur, q1, q2, fun j k hj hk => ?_⟩
    obtain ⟨x, e1, e2, e3⟩ := q3 j k hj hk
    exact ⟨x, e1, e2, by rw [show ({ ob with c := c' } : Ob).c.f j k = c.f j k from hf j k (by have := g2.n; simp only at this; omega) (by have := g2.sz; simp only at this; omega)]; exact e3⟩
  · rw [Mem.get_put_other _ he] at g1
    exact ⟨o, by rw [Mem.get_put_other _ he]; exact g1, g2⟩

theorem storeV_ok (hT : TabOk P T) {nb base nm : Nat} {φ : Phi} {w : World} {M M' : Mem} (hm : MemRel nb base φ w M) {t : TypeId} {x y v : V} {cx cy : Value} {p : Obl} (hx : Rep φ base w x cx) (hy : Rep φ base w y cy)
    (h : storeV T M t x y = some (p, v, M')) (hp : p.holds) : ∃ w' φ', (Instr.storeAt t cx cy).run P w = .ok () w' ∧ Step nb base nm φ w v M' undef w' φ' := by
  have hk : knownT (T.row t) = true := by
    cases hk : knownT (T.row t) with
    | true => rfl
    | false => simp [storeV, hk] at h
  have hd := knownT_ne hk
  simp only [storeV, hk, cond_true] at h
  obtain ⟨i, z, hr⟩ := hT.is hd
  cases x with
  | ptr n ver i' o =>
    obtain ⟨r, hrr, _, hle, hv⟩ := hx
    obtain ⟨ob, ho, hrel⟩ := hm.obj n r hrr
    simp only [ho] at h
    cases ha : isAggT (T.row t) with
    | true =>
      simp only [ha, cond_true] at h
      cases y with
      | agg m g =>
        simp only at h
        cases har : (isArrT (T.row t) && ob.c.isCv) with
        | true =>
          simp only [har, cond_true] at h
          cases hb : Nat.beq m (T.row t).sz with
          | false => simp [hb] at h
          | true =>
            simp only [hb, cond_true, Option.some.injEq, Prod.mk.injEq] at h
            obtain ⟨rfl, rfl, rfl⟩ := h
            have hb1 : m = (T.row t).sz := Nat.eq_of_beq_eq_true hb
            obtain ⟨hver, hb2⟩ := ldaO_holds.1 hp
            obtain ⟨rfl, hi⟩ := hv (by rw [← hrel.ver, hver])
            obtain ⟨cs, rfl, hcs, hcr⟩ := hy
            simp only [Bool.and_eq_true] at har
            obtain ⟨w', q1, q2, q3⟩ := storeArr_ok (P := P) hrr hi har.2 m w M ob cs.toList rfl hm ho (by simpa using hcs) (by rw [← hrel.sz]; exact hb2) (fun k hk => by
              obtain ⟨c, a1, a2, a3⟩ := hcr k hk
              exact ⟨c, by simpa using a1, a2, a3⟩)
            refine ⟨w', φ, ?_, q2.recon (setArr_n ..) rfl (setArr_isC ..) (setArr_kc ..) (fun j k hj hk => setArr_f _ _ _ _ _ _ j k hj hk), trivial, q3, fun t r h => .inl ⟨r, h⟩⟩
            have hsz : cs.size = i.size := by rw [hcs, hb1, hr.sz]
            simp [Instr.storeAt, Instr.sureAddr, storeVar, sizeOf, typeInfo, hr.info, Value.cells, hsz, q1]
        | false =>
        simp only [har, cond_false] at h
        cases hb : (Nat.beq m (T.row t).sz && Nat.ble (o + m) ob.sz) with
        | false => simp [hb] at h
        | true =>
          simp only [hb, cond_true] at h
          cases hc : storeCellsV ob.c ob.sz i' o g m with
          | none => simp [hc] at h
          | some c' =>
            simp only [hc, Option.some.injEq, Prod.mk.injEq] at h
            obtain ⟨rfl, rfl, rfl⟩ := h
            simp only [Bool.and_eq_true] at hb
            have hb1 : m = (T.row t).sz := Nat.eq_of_beq_eq_true hb.1
            have hb2 : o + m ≤ ob.sz := Nat.le_of_ble_eq_true hb.2
            have hver : ver = ob.ver := eqnO_holds.1 hp
            obtain ⟨rfl, hi⟩ := hv (by rw [← hrel.ver, hver])
            obtain ⟨cs, rfl, hcs, hcr⟩ := hy
            obtain ⟨w', q1, q2, q3, _⟩ := storeCells_ok (P := P) hrr hi m w M ob c' cs.toList hm ho (by simpa using hcs) (by rw [← hrel.sz]; exact hb2) (fun k hk => by
              obtain ⟨c, a1, a2, a3⟩ := hcr k hk
              exact ⟨c, by simpa using a1, a2, a3⟩) hc
            refine ⟨w', φ, ?_, q2, trivial, q3, fun t r h => .inl ⟨r, h⟩⟩
            have hsz : cs.size = i.size := by rw [hcs, hb1, hr.sz]
            simp [Instr.storeAt, Instr.sureAddr, storeVar, sizeOf, typeInfo, hr.info, Value.cells, hsz, q1]
      | _ => simp at h
    | false =>
      simp only [ha, cond_false] at h
      cases hb : Nat.beq (T.row t).sz 1 with
      | false => simp [hb] at h
      | true =>
        simp only [hb, cond_true] at h
        cases hc : ob.c.set ob.sz i' o y with
        | none => simp [hc] at h
        | some c' =>
          simp only [hc, Option.some.injEq, Prod.mk.injEq] at h
          obtain ⟨rfl, rfl, rfl⟩ := h
          have hb2 : (T.row t).sz = 1 := Nat.eq_of_beq_eq_true hb
          obtain ⟨hver, hb1⟩ := ldO_holds.1 hp
          obtain ⟨rfl, hi⟩ := hv (by rw [← hrel.ver, hver])
          obtain ⟨s1, s2, s3⟩ := Con.set_ok hc (by rw [hrel.n]; exact hi)
          have hl := leaf_one s2 hy
          obtain ⟨cell, y1, y2, _⟩ := hrel.cell hi (show o < r.sz by rw [← hrel.sz]; exact hb1)
          have hst := step_set hm hrr ho hi (show o < r.sz by rw [← hrel.sz]; exact hb1) hy hl c' s1 (Con.set_kc hc) (fun j l hj hl => s3 j l (by rw [hrel.n]; exact hj) (by rw [hrel.sz]; exact hl))
          refine ⟨_, φ, ?_, hst.1, trivial, hst.2, fun t r h => .inl ⟨r, h⟩⟩
          have hone : cy.cells = #[cy] := by
            cases cy <;> first | rfl | cases hl
          have hsz : i.size = 1 := by rw [← hr.sz]; exact hb2
          simp only [Instr.storeAt, Instr.sureAddr, storeVar, sizeOf, typeInfo, Sem.run_bind, Sem.run_pure, Result.andThen_ok, run_program, hr.info, hone, hsz]
          simp only [List.size_toArray, List.length_cons, List.length_nil, Nat.zero_add, ne_eq, not_true_eq_false, if_false, storeCells, Sem.run_bind, Sem.run_pure]
          rw [addr_add, Nat.add_zero, run_store P w _ cy .plain hl, y1]
          simp only [hrel.frozen (by have := hrel.le; omega)]
          rfl
  | _ => simp at h

end
end Go.Tri
