/-
  SOUNDNESS, SEVENTH PART: builtins, calls, regions in the text's order, code, functions.
-/
import Derived.Test.YtciefpkelgjboaaA9
import Derived.Deep.LoopGhost
import Derived.Laws.Cover1
namespace Go.Tri
variable {lo : Nat}
open Go.RowKit

section
variable {P : Program} {T : Tab}

theorem St.evalAll {nt nb base : Nat} {φ : Phi} {w : World} {M : Mem} {e : Env} {a : Act} (h : St lo nt nb base φ w M e a) (x : Operand) : Rep φ base w (evA e x) (a.eval x) := h.eval x

/-! ## Readings as immutable values -/

theorem view_ok {nb base base' : Nat} {φ : Phi} {w : World} {M : Mem} (hm : MemRel nb base φ w M) {t ver off len : Nat} {ob : Ob} {v : Value} (hx : Rep φ base w (.sl t ver off len) v) (ho : M.get t = some ob) (hver : ver = ob.ver)
    (fr : Bool) (hfr : fr = true → ∀ r, φ t = some r → 0 < r.cap → base' ≤ r.g) {F : V → V} (hF : ∀ x c, Rep φ base w x c → Rep (fun _ => none) base' w (F x) c) :
    Rep (fun _ => none) base' w (view fr ob off len F) v := by
  obtain ⟨r, hrr, _, hle, hv⟩ := hx
  obtain ⟨ob', ho', hrel⟩ := hm.obj t r hrr
  rw [ho] at ho'
  cases ho'
  obtain ⟨g1, A, rfl, g2⟩ := hv (by rw [← hrel.ver, hver])
  have hcap := hrel.le
  have hmax := hrel.max
  have hnl : notLive (fun _ => none) r.g := fun t r h => nomatch h
  have cell : ∀ j o, j < len → o < r.sz → ∃ c, w.cell? ⟨r.g, off * r.sz + (j * r.sz + o), none⟩ = some c ∧ c.oneCell' = true ∧ Rep φ base w (ob.c.f (off + j) o) c := by
    intro j o hj hoo
    obtain ⟨c, e1, e2, e3⟩ := hrel.cell (j := off + j) (k := o) (by omega) hoo
    exact ⟨c, by rw [← e1, Nat.add_mul, Nat.add_assoc], e2, e3⟩
  unfold view
  split
  · next xs hc =>
    have hn := hrel.n
    rw [hc] at hn
    simp only [Con.n] at hn
    have hlen : ((xs.drop off).take len).length = len := by rw [List.length_take, List.length_drop]; omega
    cases hz : Nat.beq ob.sz 1 with
    | false => simp only [cond_false]; trivial
    | true =>
      simp only [cond_true]
      have hz : r.sz = 1 := by rw [← hrel.sz]; exact Nat.eq_of_beq_eq_true hz
      refine ⟨A, r.cap - off, by rw [hlen], by rw [hlen]; omega, by omega, fun h0 => ?_⟩
      rw [hlen] at h0
      refine ⟨r.g, off * r.sz, g2 (by omega), hnl, fun hf => hfr hf r hrr (by omega), fun j hj => ?_⟩
      rw [hlen] at hj
      obtain ⟨c, e1, _, e3⟩ := cell j 0 hj (by omega)
      rw [hc] at e3
      rw [hz] at e1 ⊢
      simp only [Nat.mul_one, Nat.add_zero] at e1 ⊢
      have e3 : c = .int .i64 (xs.getD (off + j) 0) := e3
      rw [e1, e3]
      simp [List.getD, List.getElem?_take_of_lt hj]
  · next xs hc =>
    have hn := hrel.n
    rw [hc] at hn
    simp only [Con.n] at hn
    have hlen : ((xs.drop off).take len).length = len := by rw [List.length_take, List.length_drop]; omega
    cases hz : Nat.beq ob.sz 1 with
    | false => simp only [cond_false]; trivial
    | true =>
      simp only [cond_true]
      have hz : r.sz = 1 := by rw [← hrel.sz]; exact Nat.eq_of_beq_eq_true hz
      refine ⟨A, r.cap - off, by rw [hlen], by rw [hlen]; omega, by omega, fun h0 => ?_⟩
      rw [hlen] at h0
      refine ⟨r.g, off * r.sz, g2 (by omega), hnl, fun hf => hfr hf r hrr (by omega), fun j hj => ?_⟩
      rw [hlen] at hj
      obtain ⟨c, e1, _, e3⟩ := cell j 0 hj (by omega)
      rw [hc] at e3
      rw [hz] at e1 ⊢
      simp only [Nat.mul_one, Nat.add_zero] at e1 ⊢
      have e3 : c = .int .i64 (xs.getD (off + j) 0) := e3
      rw [e1, e3]
      simp [List.getD, List.getElem?_take_of_lt hj]
  · refine ⟨A, r.cap - off, rfl, by omega, by omega, by rw [hrel.sz]; exact hrel.pos, fun h0 => ⟨r.g, off * r.sz, g2 (by omega), hnl, fun hf => hfr hf r hrr (by omega), fun j o hj hoo => ?_⟩⟩
    rw [hrel.sz] at hoo ⊢
    obtain ⟨c, e1, e2, e3⟩ := cell j o hj hoo
    exact ⟨c, e1, e2, hF _ _ e3⟩

theorem notLive_none (b : Nat) : notLive (fun _ => none) b := fun _ _ h => nomatch h

def Mem.le (M M' : Mem) : Prop := ∀ t o, M.get t = some o → M'.get t = some o

theorem byvalN_ok {nb base : Nat} {φ : Phi} {w : World} {M' M : Mem} (hm : MemRel nb base φ w M') (hle' : M.le M') : ∀ (d : Nat) (x : V) (v : Value), Rep φ base w x v → Rep (fun _ => none) 0 w (byvalN M d x) v := by
  intro d
  induction d with
  | zero => exact fun x v _ => trivial
  | succ d ih =>
    intro x v hx
    cases x with
    | lit u => exact hx
    | ints fr xs =>
      obtain ⟨A, cap, rfl, h1, h2, h4⟩ := hx
      refine ⟨A, cap, rfl, h1, h2, fun hn => ?_⟩
      obtain ⟨b, off, rfl, g1, g2, g3⟩ := h4 hn
      exact ⟨b, off, rfl, notLive_none b, fun _ => Nat.zero_le b, g3⟩
    | seq fr sz n f =>
      obtain ⟨A, cap, rfl, h1, h2, h3, h4⟩ := hx
      refine ⟨A, cap, rfl, h1, h2, h3, fun hn => ?_⟩
      obtain ⟨b, off, rfl, g1, g2, g3⟩ := h4 hn
      refine ⟨b, off, rfl, notLive_none b, fun _ => Nat.zero_le b, fun j o hj ho => ?_⟩
      obtain ⟨c, e1, e2, e3⟩ := g3 j o hj ho
      exact ⟨c, e1, e2, ih _ _ e3⟩
    | sl t ver off len =>
      simp only [byvalN]
      cases ho : M.get t with
      | none => trivial
      | some ob =>
        cases hv : Nat.beq ver ob.ver with
        | false => simp only [hv, cond_false]; trivial
        | true => simp only [hv, cond_true]; exact view_ok hm hx (hle' t ob ho) (Nat.eq_of_beq_eq_true hv) false (fun h => nomatch h) (fun x c h => ih x c h)
    | ptr t ver i o =>
      simp only [byvalN]
      cases ho : M.get t with
      | none => trivial
      | some ob =>
        cases hv : Nat.beq ver ob.ver with
        | false => simp only [hv, cond_false]; trivial
        | true =>
          simp only [hv, cond_true]
          obtain ⟨r, hrr, _, hle, hvv⟩ := hx
          obtain ⟨ob', ho', hrel⟩ := hm.obj t r hrr
          rw [hle' t ob ho] at ho'
          cases ho'
          obtain ⟨rfl, hi⟩ := hvv (by rw [← hrel.ver, Nat.eq_of_beq_eq_true hv])
          obtain ⟨c0, e0, _⟩ := hrel.cell hi hrel.pos
          refine ⟨r.g, i * r.sz, rfl, World.block_lt_of_cell? w _ e0, notLive_none _, fun k hk => ?_⟩
          obtain ⟨c, e1, e2, e3⟩ := hrel.cell hi (show k < r.sz by rw [← hrel.sz]; exact hk)
          exact ⟨c, e1, e2, ih _ _ e3⟩
    | at_ sz g o =>
      obtain ⟨b, off, rfl, h0, h1, h2⟩ := hx
      refine ⟨b, off, rfl, h0, notLive_none b, fun k hk => ?_⟩
      obtain ⟨c, e1, e2, e3⟩ := h2 k hk
      exact ⟨c, e1, e2, ih _ _ e3⟩
    | agg n g =>
      obtain ⟨cs, rfl, h1, h2⟩ := hx
      exact ⟨cs, rfl, h1, fun i hi => by obtain ⟨c, e1, e2, e3⟩ := h2 i hi; exact ⟨c, e1, e2, ih _ _ e3⟩⟩
    | tup n g =>
      obtain ⟨cs, rfl, h1, h2⟩ := hx
      exact ⟨cs, rfl, h1, fun i hi => by obtain ⟨c, e1, e2⟩ := h2 i hi; exact ⟨c, e1, ih _ _ e2⟩⟩
    | clo f n g =>
      obtain ⟨cs, rfl, h1, h2⟩ := hx
      exact ⟨cs, rfl, h1, fun i hi => by obtain ⟨c, e1, e2⟩ := h2 i hi; exact ⟨c, e1, ih _ _ e2⟩⟩
    | emp => exact hx
    | any => trivial
    | yld t => trivial
    | full xs =>
      obtain ⟨A, rfl, h2, h4⟩ := hx
      refine ⟨A, xs.length, rfl, Nat.le_refl _, h2, fun hn => ?_⟩
      obtain ⟨b, off, rfl, g1, g3⟩ := h4 hn
      exact ⟨b, off, rfl, notLive_none b, fun _ => Nat.zero_le b, g3⟩
    | ifc ty x =>
      obtain ⟨u, rfl, h1⟩ := hx
      exact ⟨u, rfl, ih _ _ h1⟩
    | bnd f n g =>
      obtain ⟨cs, rfl, h1, h2⟩ := hx
      exact ⟨cs, rfl, h1, fun i hi => by obtain ⟨c, e1, e2⟩ := h2 i hi; exact ⟨c, e1, ih _ _ e2⟩⟩

theorem byval_ok {nb base : Nat} {φ : Phi} {w : World} {M' M : Mem} (hm : MemRel nb base φ w M') (hle' : M.le M') (d : Nat) {x : V} {v : Value} (hx : Rep φ base w x v) (hv : (verOk M x).holds) : Rep (fun _ => none) 0 w (byval M d x) v := by
  cases x with
  | sl t ver off len =>
    simp only [byval]
    simp only [verOk] at hv
    cases ho : M.get t with
    | none => trivial
    | some ob =>
      rw [ho] at hv
      exact view_ok hm hx (hle' t ob ho) (eqnO_holds.1 hv) false (fun h => nomatch h) (fun x c h => byvalN_ok hm hle' d x c h)
  | ptr t ver i o =>
    simp only [byval]
    simp only [verOk] at hv
    cases ho : M.get t with
    | none => trivial
    | some ob =>
      rw [ho] at hv
      obtain ⟨r, hrr, _, hle, hvv⟩ := hx
      obtain ⟨ob', ho', hrel⟩ := hm.obj t r hrr
      rw [hle' t ob ho] at ho'
      cases ho'
      obtain ⟨rfl, hi⟩ := hvv (by rw [← hrel.ver, eqnO_holds.1 hv])
      obtain ⟨c0, e0, _⟩ := hrel.cell hi hrel.pos
      refine ⟨r.g, i * r.sz, rfl, World.block_lt_of_cell? w _ e0, notLive_none _, fun k hk => ?_⟩
      obtain ⟨c, e1, e2, e3⟩ := hrel.cell hi (show k < r.sz by rw [← hrel.sz]; exact hk)
      exact ⟨c, e1, e2, byvalN_ok hm hle' d _ _ e3⟩
  | _ => exact byvalN_ok hm hle' (d + 1) _ _ hx

theorem asInts_ok {φ : Phi} {base : Nat} {w : World} {t : TypeId} {x : V} {v : Value} (hx : Rep φ base w x v) : Rep φ base w (asInts T t x) v := by
  cases x with
  | emp =>
    obtain ⟨A, rfl, hnl⟩ := hx
    simp only [asInts]
    split
    · split
      · exact ⟨A, 0, rfl, Nat.le_refl _, by rw [maxLen_val]; omega, fun h => absurd h (by simp)⟩
      · exact ⟨A, rfl, hnl⟩
    · exact ⟨A, rfl, hnl⟩
  | _ => exact hx

theorem ownvalN_ok {base : Nat} {φ : Phi} {w : World} {M : Mem} (hm : MemRel 0 base φ w M) : ∀ (d : Nat) (x : V) (v : Value), Rep φ base w x v → Rep (fun _ => none) base w (ownvalN M d x) v := by
  intro d
  induction d with
  | zero => exact fun x v _ => trivial
  | succ d ih =>
    intro x v hx
    cases x with
    | lit u => exact hx
    | ints fr xs =>
      obtain ⟨A, cap, rfl, h1, h2, h4⟩ := hx
      refine ⟨A, cap, rfl, h1, h2, fun hn => ?_⟩
      obtain ⟨b, off, rfl, g1, g2, g3⟩ := h4 hn
      exact ⟨b, off, rfl, notLive_none b, g2, g3⟩
    | seq fr sz n f =>
      obtain ⟨A, cap, rfl, h1, h2, h3, h4⟩ := hx
      refine ⟨A, cap, rfl, h1, h2, h3, fun hn => ?_⟩
      obtain ⟨b, off, rfl, g1, g2, g3⟩ := h4 hn
      refine ⟨b, off, rfl, notLive_none b, g2, fun j o hj ho => ?_⟩
      obtain ⟨c, e1, e2, e3⟩ := g3 j o hj ho
      exact ⟨c, e1, e2, ih _ _ e3⟩
    | sl t ver off len =>
      simp only [ownvalN]
      cases ho : M.get t with
      | none => trivial
      | some ob =>
        cases hv : Nat.beq ver ob.ver with
        | false => simp only [hv, cond_false]; trivial
        | true => simp only [hv, cond_true]; exact view_ok hm hx ho (Nat.eq_of_beq_eq_true hv) true (fun _ r hr hp => hm.own t r hr (Nat.zero_le _) hp) (fun x c h => ih x c h)
    | ptr t ver i o => trivial
    | at_ sz g o => trivial
    | agg n g =>
      obtain ⟨cs, rfl, h1, h2⟩ := hx
      exact ⟨cs, rfl, h1, fun i hi => by obtain ⟨c, e1, e2, e3⟩ := h2 i hi; exact ⟨c, e1, e2, ih _ _ e3⟩⟩
    | tup n g =>
      obtain ⟨cs, rfl, h1, h2⟩ := hx
      exact ⟨cs, rfl, h1, fun i hi => by obtain ⟨c, e1, e2⟩ := h2 i hi; exact ⟨c, e1, ih _ _ e2⟩⟩
    | clo f n g => trivial
    | emp => exact hx
    | any => trivial
    | yld t => trivial
    | full xs => trivial
    | bnd f n g => trivial
    | ifc ty x =>
      obtain ⟨u, rfl, h1⟩ := hx
      exact ⟨u, rfl, ih _ _ h1⟩

theorem ownval_ok {base : Nat} {φ : Phi} {w : World} {M : Mem} (hm : MemRel 0 base φ w M) (d : Nat) {x : V} {v : Value} (hx : Rep φ base w x v) (hv : (verOk M x).holds) : Rep (fun _ => none) base w (ownval M d x) v := by
  cases x with
  | sl t ver off len =>
    simp only [ownval]
    simp only [verOk] at hv
    cases ho : M.get t with
    | none => trivial
    | some ob =>
      rw [ho] at hv
      exact view_ok hm hx ho (eqnO_holds.1 hv) true (fun _ r hr hp => hm.own t r hr (Nat.zero_le _) hp) (fun x c h => ownvalN_ok hm d x c h)
  | _ => exact ownvalN_ok hm (d + 1) _ _ hx

/-- What lies in memory of the callee's own is an immutable value for the caller. -/
theorem Rep_fresh {φ : Phi} {base s : Nat} {w : World} (hφ : ∀ t r, φ t = some r → 0 < r.cap → r.g < s) (hb : base ≤ s) : ∀ (x : V) (v : Value), Fr x → Rep (fun _ => none) s w x v → Rep φ base w x v := by
  have nl : ∀ b, s ≤ b → notLive φ b := fun b hb t r h hp e => by have := hφ t r h hp; omega
  intro x
  induction x with
  | lit u => exact fun v _ h => h
  | ints fr xs =>
    intro v hf hx
    have hf : fr = true := hf
    obtain ⟨A, cap, rfl, h1, h2, h4⟩ := hx
    refine ⟨A, cap, rfl, h1, h2, fun hn => ?_⟩
    obtain ⟨b, off, rfl, g1, g2, g3⟩ := h4 hn
    exact ⟨b, off, rfl, nl b (g2 hf), fun h => Nat.le_trans hb (g2 h), g3⟩
  | seq fr sz n f ih =>
    intro v hf hx
    obtain ⟨hf, hff⟩ := hf
    obtain ⟨A, cap, rfl, h1, h2, h3, h4⟩ := hx
    refine ⟨A, cap, rfl, h1, h2, h3, fun hn => ?_⟩
    obtain ⟨b, off, rfl, g1, g2, g3⟩ := h4 hn
    refine ⟨b, off, rfl, nl b (g2 hf), fun h => Nat.le_trans hb (g2 h), fun j o hj ho => ?_⟩
    obtain ⟨c, e1, e2, e3⟩ := g3 j o hj ho
    exact ⟨c, e1, e2, ih j o c (hff j o hj ho) e3⟩
  | sl t ver off len => exact fun v hf _ => hf.elim
  | ptr t ver i o => exact fun v hf _ => hf.elim
  | at_ sz g o _ => exact fun v hf _ => hf.elim
  | agg n g ih =>
    intro v hf hx
    obtain ⟨cs, rfl, h1, h2⟩ := hx
    exact ⟨cs, rfl, h1, fun i hi => by obtain ⟨c, e1, e2, e3⟩ := h2 i hi; exact ⟨c, e1, e2, ih i c (hf i hi) e3⟩⟩
  | tup n g ih =>
    intro v hf hx
    obtain ⟨cs, rfl, h1, h2⟩ := hx
    exact ⟨cs, rfl, h1, fun i hi => by obtain ⟨c, e1, e2⟩ := h2 i hi; exact ⟨c, e1, ih i c (hf i hi) e2⟩⟩
  | clo f n g _ =>
    intro v hf hx
    have hf : n = 0 := hf
    obtain ⟨cs, rfl, h1, _⟩ := hx
    exact ⟨cs, rfl, h1, fun i hi => by omega⟩
  | emp => exact fun v _ h => h
  | any => exact fun v _ _ => trivial
  | yld t => exact fun v hf _ => hf.elim
  | full xs => exact fun v hf _ => hf.elim
  | bnd f n g _ => exact fun v hf _ => hf.elim
  | ifc ty x ih =>
    intro v hf hx
    obtain ⟨u, rfl, h1⟩ := hx
    exact ⟨u, rfl, ih u hf h1⟩

end
end Go.Tri
