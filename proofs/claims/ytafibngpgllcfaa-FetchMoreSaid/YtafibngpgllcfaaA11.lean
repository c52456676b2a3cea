/-
  SOUNDNESS, SIXTH PART: append and the other builtins.
-/
import Derived.Deep.LoopGhost
import Derived.Laws.Cover1
import Derived.Test.YtafibngpgllcfaaA8
namespace Go.Tri
variable {lo : Nat}
open Go.RowKit

section
variable {P : Program} {T : Tab}

/-- A ROW TURNED: a new one, or one that lies where it lay, or in a new block. -/
theorem step_row {nb base : Nat} {φ : Phi} {w w' : World} {M : Mem} (hm : MemRel nb base φ w M) {t : Nat} {r' : Row} {o' : Ob}
    (hold : φ t = none ∨ ∃ r, φ t = some r ∧ r.ver < r'.ver ∧ r'.sz = r.sz ∧ r'.e = r.e)
    (hg : (∃ r, φ t = some r ∧ 0 < r.cap ∧ r'.g = r.g) ∨ w.heap.size ≤ r'.g ∨ r'.cap = 0)
    (hos : w'.os = w.os) (htape : w'.tape = w.tape) (hout : w'.output = w.output) (hsize : w.heap.size ≤ w'.heap.size)
    (hblk : ∀ b, b < w.heap.size → (∀ r, φ t = some r → 0 < r.cap → b ≠ r.g) → w'.heap[b]? = w.heap[b]?)
    (hrel : Evo w φ w' (φ.upd t r') → ORel (φ.upd t r') base w' r' o') (hdrw : w.drawn ≤ w'.drawn := by first | exact Nat.le_refl _ | exact Nat.le_succ _ | assumption) :
    MemRel nb base (φ.upd t r') w' (M.put t o') ∧ Evo w φ w' (φ.upd t r') ∧ (∀ s r, φ.upd t r' s = some r → (∃ r0, φ s = some r0) ∨ s = t) := by
  have hevo : Evo w φ w' (φ.upd t r') := by
    refine ⟨hos, htape, hout, hsize, fun b hb hn => hblk b hb (fun r hr hp e => hn t r hr hp e.symm), fun s r hs hp hlt hn => ?_, fun s r hs => ?_, hdrw⟩
    · by_cases h : s = t
      · subst h
        rw [Phi.upd_same] at hs
        cases hs
        rcases hg with ⟨r0, h0, hp0, e⟩ | hge | hz
        · exact hn s r0 h0 hp0 e.symm
        · omega
        · omega
      · rw [Phi.upd_other _ _ h] at hs
        exact hn s r hs hp rfl
    · by_cases h : s = t
      · subst h
        rcases hold with h0 | ⟨r0, h0, h1, h2, h3⟩
        · rw [h0] at hs; cases hs
        · rw [h0] at hs
          cases hs
          exact ⟨r', Phi.upd_same _ _ _, h2, h3, Nat.le_of_lt h1, fun e => by omega⟩
      · exact ⟨r, by rw [Phi.upd_other _ _ h]; exact hs, rfl, rfl, Nat.le_refl _, fun _ => rfl⟩
  refine ⟨⟨fun s r hs => ?_, fun s s' r r2 hs hs' hp hp' he => ?_, fun s r hs hnb hp => ?_, Nat.le_trans hm.le hsize⟩, hevo, fun s r hs => ?_⟩
  · by_cases h : s = t
    · subst h
      rw [Phi.upd_same] at hs
      cases hs
      exact ⟨o', Mem.get_put_same M s o', hrel hevo⟩
    · rw [Phi.upd_other _ _ h] at hs
      obtain ⟨o, h1, h2⟩ := hm.obj s r hs
      refine ⟨o, by rw [Mem.get_put_other M h]; exact h1, h2.evo hevo (fun hp => hblk r.g (hm.lt hs hp) (fun r0 h0 hp0 e => h (hm.inj s t r r0 hs h0 hp hp0 e)))⟩
  · have far : ∀ s r, s ≠ t → φ s = some r → 0 < r.cap → 0 < r'.cap → r.g ≠ r'.g := by
      intro s r hne hs hp hp' e
      rcases hg with ⟨r0, h0, hp0, e0⟩ | hge | hz
      · exact hne (hm.inj s t r r0 hs h0 hp hp0 (e.trans e0))
      · have := hm.lt hs hp; omega
      · omega
    by_cases h : s = t <;> by_cases h' : s' = t
    · rw [h, h']
    · subst h
      rw [Phi.upd_same] at hs
      rw [Phi.upd_other _ _ h'] at hs'
      cases hs
      exact absurd he.symm (far s' r2 h' hs' hp' hp)
    · subst h'
      rw [Phi.upd_same] at hs'
      rw [Phi.upd_other _ _ h] at hs
      cases hs'
      exact absurd he (far s r h hs hp hp')
    · rw [Phi.upd_other _ _ h] at hs
      rw [Phi.upd_other _ _ h'] at hs'
      exact hm.inj s s' r r2 hs hs' hp hp' he
  · by_cases h : s = t
    · subst h
      rw [Phi.upd_same] at hs
      cases hs
      rcases hg with ⟨r0, h0, hp0, e0⟩ | hge | hz
      · rw [e0]; exact hm.own s r0 h0 hnb hp0
      · exact Nat.le_trans hm.le hge
      · omega
    · rw [Phi.upd_other _ _ h] at hs
      exact hm.own s r hs hnb hp
  · by_cases h : s = t
    · exact .inr h
    · rw [Phi.upd_other _ _ h] at hs
      exact .inl ⟨r, hs⟩

theorem srcCon_isC (s : Src) : (srcCon s).isC = true := by cases s <;> rfl
theorem appCon_isC {c c' : Con} {len : Nat} {s : Src} (h : appCon c len s = some c') : c.isC = true ∧ c'.isC = true := by
  cases s with
  | ints ys =>
    cases c <;> simp only [appCon] at h <;> first | (cases h; exact ⟨rfl, rfl⟩) | cases h
  | cells m g =>
    cases c <;> simp only [appCon] at h <;> first | (cases h; exact ⟨rfl, rfl⟩) | cases h

theorem appCon_kc {c c' : Con} {len : Nat} {s : Src} (h : appCon c len s = some c') : c'.kc = false := by
  cases s with
  | ints ys =>
    cases c <;> simp only [appCon] at h <;> first | (cases h; rfl) | cases h
  | cells m g =>
    cases c <;> simp only [appCon] at h <;> first | (cases h; rfl) | cases h

/-- A row that lies where it lay, its cells turned. -/
theorem step_keep {nb base : Nat} {φ : Phi} {w w' : World} {M : Mem} (hm : MemRel nb base φ w M) {t : Nat} {r : Row} {o' : Ob} (ht : φ t = some r) (hcp : 0 < r.cap)
    (hos : w'.os = w.os) (htape : w'.tape = w.tape) (hout : w'.output = w.output) (hsize : w.heap.size ≤ w'.heap.size)
    (hblk : ∀ b, b < w.heap.size → b ≠ r.g → w'.heap[b]? = w.heap[b]?) (hrel : Evo w φ w' φ → ORel φ base w' r o') (hdrw : w.drawn ≤ w'.drawn := by first | exact Nat.le_refl _ | exact Nat.le_succ _ | assumption) :
    MemRel nb base φ w' (M.put t o') ∧ Evo w φ w' φ := by
  have hevo : Evo w φ w' φ := ⟨hos, htape, hout, hsize, fun b hb hn => hblk b hb (fun e => hn t r ht hcp e.symm), fun s r hs hp _ hn => hn s r hs hp rfl, fun s r hs => ⟨r, hs, rfl, rfl, Nat.le_refl _, fun _ => rfl⟩, hdrw⟩
  refine ⟨⟨fun s r' hs => ?_, hm.inj, hm.own, Nat.le_trans hm.le hsize⟩, hevo⟩
  by_cases h : s = t
  · subst h
    rw [ht] at hs
    cases hs
    exact ⟨o', Mem.get_put_same M s o', hrel hevo⟩
  · obtain ⟨o, h1, h2⟩ := hm.obj s r' hs
    exact ⟨o, by rw [Mem.get_put_other M h]; exact h1, h2.evo hevo (fun hp => hblk r'.g (hm.lt hs hp) (fun e => h (hm.inj s t r' r hs ht hp hcp e)))⟩

/-- A source, as the model reads it: a list of cells. -/
structure SrcIs (φ : Phi) (base : Nat) (w : World) (sz : Nat) (src : Src) (cx : Value) : Prop where
  ex : ∃ A c, cx = .slice A src.n c ∧ (0 < src.n → ∃ b off, A = some ⟨b, off, none⟩ ∧ ∀ j o, j < src.n → o < sz → ∃ u, w.cell? ⟨b, off + (j * sz + o), none⟩ = some u ∧ u.oneCell' = true ∧ Rep φ base w (src.f j o) u)

theorem srcV_ok {nb base : Nat} {φ : Phi} {w : World} {M : Mem} (hm : MemRel nb base φ w M) {sz : Nat} {int : Bool} {x : V} {cx : Value} {p : Obl} {src : Src} (hx : Rep φ base w x cx) (h : srcV M sz int x = some (p, src)) (hp : p.holds) :
    SrcIs φ base w sz src cx := by
  cases x with
  | ints fr xs =>
    simp only [srcV] at h
    cases hz : Nat.beq sz 1 with
    | false => rw [hz] at h; cases h
    | true =>
      rw [hz] at h
      simp only [cond_true, Option.some.injEq, Prod.mk.injEq] at h
      obtain ⟨rfl, rfl⟩ := h
      have hz := Nat.eq_of_beq_eq_true hz
      subst hz
      obtain ⟨A, cap, rfl, h1, h2, h4⟩ := hx
      refine ⟨A, cap, rfl, fun hn => ?_⟩
      obtain ⟨b, off, rfl, g1, g2, g3⟩ := h4 hn
      refine ⟨b, off, rfl, fun j o hj ho => ⟨_, ?_, rfl, rfl⟩⟩
      have : o = 0 := by omega
      subst this
      rw [Nat.mul_one, Nat.add_zero]
      exact g3 j hj
  | seq fr s n f =>
    simp only [srcV] at h
    cases hz : Nat.beq s sz with
    | false => rw [hz] at h; cases h
    | true =>
      rw [hz] at h
      simp only [cond_true, Option.some.injEq, Prod.mk.injEq] at h
      obtain ⟨rfl, rfl⟩ := h
      have hz := Nat.eq_of_beq_eq_true hz
      subst hz
      obtain ⟨A, cap, rfl, h1, h2, h3, h4⟩ := hx
      refine ⟨A, cap, rfl, fun hn => ?_⟩
      obtain ⟨b, off, rfl, g1, g2, g3⟩ := h4 hn
      exact ⟨b, off, rfl, g3⟩
  | sl nm ver off len =>
    obtain ⟨r, hrr, _, hle, hv⟩ := hx
    obtain ⟨ob, ho, hrel⟩ := hm.obj nm r hrr
    simp only [srcV, ho] at h
    cases hz : Nat.beq ob.sz sz with
    | false => rw [hz] at h; cases h
    | true =>
      rw [hz] at h
      simp only [cond_true] at h
      have hz := Nat.eq_of_beq_eq_true hz
      have key : ver = ob.ver → ∀ src : Src, src.n = len → (∀ j o, j < len → o < sz → src.f j o = ob.c.f (off + j) o) → SrcIs φ base w sz src cx := by
        intro hver src hn hf
        obtain ⟨g1, A, rfl, g2⟩ := hv (by rw [← hrel.ver, hver])
        have hcap := hrel.le
        refine ⟨A, r.cap - off, by rw [hn], fun h0 => ⟨r.g, off * r.sz, g2 (by omega), fun j o hj hoo => ?_⟩⟩
        rw [hn] at hj
        obtain ⟨c, e1, e2, e3⟩ := hrel.cell (j := off + j) (k := o) (by omega) (by rw [← hrel.sz, hz]; exact hoo)
        refine ⟨c, ?_, e2, by rw [hf j o hj hoo]; exact e3⟩
        rw [← e1, ← hz, hrel.sz, Nat.add_mul]
        simp only [Nat.add_assoc]
      cases hc : ob.c with
      | il xs =>
        simp only [hc, Option.some.injEq, Prod.mk.injEq] at h
        obtain ⟨rfl, rfl⟩ := h
        have hver := eqnO_holds.1 hp
        obtain ⟨g1, _⟩ := hv (by rw [← hrel.ver, hver])
        have hn := hrel.n
        rw [hc] at hn
        simp only [Con.n] at hn
        have hlen : ((xs.drop off).take len).length = len := by rw [List.length_take, List.length_drop]; omega
        refine key hver _ hlen (fun j o hj _ => ?_)
        rw [hc]
        simp [Src.f, Con.f, List.getD, List.getElem?_take_of_lt hj]
      | kil xs =>
        simp only [hc, Option.some.injEq, Prod.mk.injEq] at h
        obtain ⟨rfl, rfl⟩ := h
        have hver := eqnO_holds.1 hp
        obtain ⟨g1, _⟩ := hv (by rw [← hrel.ver, hver])
        have hn := hrel.n
        rw [hc] at hn
        simp only [Con.n] at hn
        have hlen : ((xs.drop off).take len).length = len := by rw [List.length_take, List.length_drop]; omega
        refine key hver _ hlen (fun j o hj _ => ?_)
        rw [hc]
        simp [Src.f, Con.f, List.getD, List.getElem?_take_of_lt hj]
      | _ =>
        simp only [hc, Option.some.injEq, Prod.mk.injEq] at h
        obtain ⟨rfl, rfl⟩ := h
        exact key (eqnO_holds.1 hp) _ rfl (fun j o _ _ => by rw [hc]; rfl)
  | emp =>
    simp only [srcV, Option.some.injEq, Prod.mk.injEq] at h
    obtain ⟨rfl, rfl⟩ := h
    obtain ⟨A, rfl, _⟩ := hx
    cases int
    · exact ⟨A, 0, rfl, fun h0 => absurd h0 (by simp [Src.n])⟩
    · exact ⟨A, 0, rfl, fun h0 => absurd h0 (by simp [Src.n])⟩
  | _ => simp [srcV] at h

/-- The source's cells, as one list. -/
theorem src_list {φ : Phi} {base : Nat} {w : World} {m sz b off : Nat} {f : Nat → Nat → V} (hsz : 0 < sz)
    (h : ∀ j o, j < m → o < sz → ∃ u, w.cell? ⟨b, off + (j * sz + o), none⟩ = some u ∧ u.oneCell' = true ∧ Rep φ base w (f j o) u) :
    ∃ news : List Value, news.length = m * sz ∧ (∀ j u, news[j]? = some u → w.cell? ((⟨b, off, none⟩ : Addr).add j) = some u) ∧ (∀ u ∈ news, u.oneCell' = true) ∧
      ∀ j o, j < m → o < sz → ∃ u, news[j * sz + o]? = some u ∧ u.oneCell' = true ∧ Rep φ base w (f j o) u := by
  obtain ⟨cs, h1, h2, h3⟩ := cells_list (φ := φ) (base := base) (w := w) (b := b) (off := off) (m := m * sz) (g := fun k => f (k / sz) (k % sz)) (fun k hk => by
    have hk1 : k / sz < m := Nat.div_lt_of_lt_mul (by rw [Nat.mul_comm]; exact hk)
    obtain ⟨u, e1, e2, e3⟩ := h (k / sz) (k % sz) hk1 (Nat.mod_lt _ hsz)
    refine ⟨u, ?_, e2, e3⟩
    rw [← e1, show k / sz * sz + k % sz = k from by rw [Nat.mul_comm]; exact Nat.div_add_mod k sz])
  refine ⟨cs, h1, fun j u hj => by rw [addr_add]; exact h2 j u hj, fun u hu => ?_, fun j o hj ho => ?_⟩
  · obtain ⟨k, hk, rfl⟩ := List.getElem_of_mem hu
    obtain ⟨c, e1, e2, _⟩ := h3 k (by omega)
    rw [List.getElem?_eq_getElem hk] at e1
    cases e1
    exact e2
  · have hk : j * sz + o < m * sz := by
      calc j * sz + o < j * sz + sz := by omega
        _ = (j + 1) * sz := by rw [Nat.succ_mul]
        _ ≤ m * sz := Nat.mul_le_mul_right _ (by omega)
    obtain ⟨c, e1, e2, e3⟩ := h3 _ hk
    refine ⟨c, e1, e2, ?_⟩
    have a1 : (j * sz + o) / sz = j := by rw [Nat.mul_comm, Nat.mul_add_div hsz, Nat.div_eq_of_lt ho]; rfl
    have a2 : (j * sz + o) % sz = o := by rw [Nat.mul_comm, Nat.mul_add_mod, Nat.mod_eq_of_lt ho]
    simpa [a1, a2] using e3

/-- WHAT APPEND COMES TO, whatever lies there. -/
theorem run_append_all {t ty e : TypeId} {i : TypeInfo} {z : Value} (ht : P.underlying t = some (.slice e)) (hi : P.info? e = some i) (hz : i.zero = some z) (hzs : z.cells.size = i.size) (_hpos : 0 < i.size) (w : World)
    (A : Option Addr) (n cap : Nat) (g : Nat) (cur : Array Value) (hA : 0 < cap → A = some ⟨g, 0, none⟩ ∧ w.heap[g]? = some (.cells cur e (0, 0)) ∧ cur.size = cap * i.size) (hn : n ≤ cap)
    (B : Option Addr) (m c : Nat) (news : List Value) (hl : news.length = m * i.size) (hB : 0 < m → ∃ b, B = some b ∧ ∀ j u, news[j]? = some u → w.cell? (b.add j) = some u) (h1 : ∀ u ∈ news, u.oneCell' = true)
    (hbytes : (n + m) * i.bytes ≤ 140737488355328) (hmax : n + m ≤ maxLen) :
    ∃ v' w' g' cap' cur', (Builtin.append_ #[t, t] ty #[.slice A n cap, .slice B m c]).run P w = .ok v' w' ∧ w'.os = w.os ∧ w'.tape = w.tape ∧ w'.output = w.output ∧ w.heap.size ≤ w'.heap.size ∧
      n + m ≤ cap' ∧ (cap ≤ maxLen → cap' ≤ maxLen) ∧ (∃ A', v' = .slice A' (n + m) cap' ∧ (0 < cap' → A' = some ⟨g', 0, none⟩)) ∧ (0 < cap' → w'.heap[g']? = some (.cells cur' e (0, 0)) ∧ cur'.size = cap' * i.size ∧
        cur'.toList.take ((n + m) * i.size) = cur.toList.take (n * i.size) ++ news) ∧
      ((0 < cap ∧ g' = g) ∨ w.heap.size ≤ g' ∨ cap' = 0) ∧ (∀ b, b < w.heap.size → (0 < cap → b ≠ g) → w'.heap[b]? = w.heap[b]?) ∧
      (0 < cap → n + m ≤ cap → g' = g ∧ cap' = cap ∧ cur'.toList = cur.toList.take (n * i.size) ++ news ++ cur.toList.drop ((n + m) * i.size)) ∧
      ((cap < n + m → w.heap.size ≤ g' ∧ ∀ b, b < w.heap.size → w'.heap[b]? = w.heap[b]?) ∧ w.drawn ≤ w'.drawn) := by
  by_cases hm : m = 0
  · subst hm
    have hnil : news = [] := List.eq_nil_of_length_eq_zero (by simpa using hl)
    subst hnil
    have hrun : (Builtin.append_ #[t, t] ty #[.slice A n cap, .slice B 0 c]).run P w = .ok (.slice A n cap) w := by
      cases A with
      | none => cases B <;> simp [Builtin.append_, run_underlying ht, sizeOf, typeInfo, hi, Builtin.lenOf, hn, Builtin.firstCells, loadCells, loadCellsFrom]
      | some a => cases B <;> simp [Builtin.append_, run_underlying ht, sizeOf, typeInfo, hi, Builtin.lenOf, hn, Builtin.firstCells, loadCells, loadCellsFrom, storeCells]
    refine ⟨_, w, g, cap, cur, hrun, rfl, rfl, rfl, Nat.le_refl _, by omega, fun h => h, ⟨A, rfl, fun h => (hA h).1⟩, fun h => ⟨(hA h).2.1, (hA h).2.2, by simp⟩, ?_, fun _ _ _ => rfl, fun _ _ => ⟨rfl, rfl, by simp⟩, fun h => by omega, Nat.le_refl _⟩
    by_cases hc : cap = 0
    · exact .inr (.inr hc)
    · exact .inl ⟨by omega, rfl⟩
  · obtain ⟨b, rfl, hb⟩ := hB (by omega)
    by_cases hroom : n + m ≤ cap
    · obtain ⟨rfl, hg, hcs⟩ := hA (by omega)
      have hfit : n * i.size + news.length ≤ cur.size := by rw [hl, hcs, ← Nat.add_mul]; exact Nat.mul_le_mul_right _ hroom
      have hrun := run_append_room (P := P) w t ty e i ht hi g n cap cur hg b m c news hl hb h1 hroom hfit
      refine ⟨_, _, g, cap, _, hrun, rfl, rfl, rfl, by simp, hroom, fun h => h, ⟨_, rfl, fun _ => rfl⟩, fun _ => ⟨setRow_heap w g cur _ e _ hg, ?_, ?_⟩, .inl ⟨by omega, rfl⟩, fun b' hb' hne => setRow_other w g b' _ (hne (by omega)), fun _ _ => ⟨rfl, rfl, ?_⟩, fun h => by omega, Nat.le_refl _⟩
      · simp only [List.size_toArray, List.length_append, List.length_take, List.length_drop, Array.length_toList]
        omega
      · have hlen : (cur.toList.take (n * i.size) ++ news).length = (n + m) * i.size := by
          rw [List.length_append, List.length_take, Array.length_toList, hl, Nat.add_mul]
          omega
        rw [← hlen]
        exact List.take_left
      · rw [hl, ← Nat.add_mul]
    · have hh : (n + m : Nat) ≤ 9223372036854775807 := by rw [maxLen_val] at hmax; exact hmax
      have fin : ∀ old : Nat, (maxLen < maxLen → False) → ∃ cap', cap' = grownCap w (n + m) old e ∧ n + m ≤ cap' ∧ cap' ≤ maxLen := fun old _ => ⟨_, rfl, grownCap_ge w (n + m) old e, grownCap_le_maxLen w (n + m) old e hmax⟩
      obtain ⟨cap', hc', hge, hle⟩ := fin cap (fun h => absurd h (Nat.lt_irrefl _))
      have post : ∀ olds : List Value, olds.length = n * i.size → olds = cur.toList.take (n * i.size) →
          (Builtin.append_ #[t, t] ty #[.slice A n cap, .slice (some b) m c]).run P w = .ok (.slice (some ⟨w.heap.size, 0, none⟩) (n + m) cap') (w.drew.alloc (.cells (olds.toArray ++ news.toArray ++ Builtin.zeroCells z.cells (cap' - (n + m))) e)) →
          ∃ v' w' g' cap' cur', (Builtin.append_ #[t, t] ty #[.slice A n cap, .slice (some b) m c]).run P w = .ok v' w' ∧ w'.os = w.os ∧ w'.tape = w.tape ∧ w'.output = w.output ∧ w.heap.size ≤ w'.heap.size ∧
            n + m ≤ cap' ∧ (cap ≤ maxLen → cap' ≤ maxLen) ∧ (∃ A', v' = .slice A' (n + m) cap' ∧ (0 < cap' → A' = some ⟨g', 0, none⟩)) ∧ (0 < cap' → w'.heap[g']? = some (.cells cur' e (0, 0)) ∧ cur'.size = cap' * i.size ∧
              cur'.toList.take ((n + m) * i.size) = cur.toList.take (n * i.size) ++ news) ∧
            ((0 < cap ∧ g' = g) ∨ w.heap.size ≤ g' ∨ cap' = 0) ∧ (∀ b, b < w.heap.size → (0 < cap → b ≠ g) → w'.heap[b]? = w.heap[b]?) ∧
            (0 < cap → n + m ≤ cap → g' = g ∧ cap' = cap ∧ cur'.toList = cur.toList.take (n * i.size) ++ news ++ cur.toList.drop ((n + m) * i.size)) ∧
            ((cap < n + m → w.heap.size ≤ g' ∧ ∀ b, b < w.heap.size → w'.heap[b]? = w.heap[b]?) ∧ w.drawn ≤ w'.drawn) := by
        intro olds ho hoe hrun
        refine ⟨_, _, w.heap.size, cap', _, hrun, rfl, rfl, rfl, by simp, hge, fun _ => hle, ⟨_, rfl, fun _ => rfl⟩, fun _ => ⟨heap_alloc_new w.drew _, ?_, ?_⟩, .inr (.inl (Nat.le_refl _)), fun b' hb' _ => heap_alloc_old w.drew _ hb', fun _ h => absurd h hroom, fun _ => ⟨Nat.le_refl _, fun b' hb' => heap_alloc_old w.drew _ hb'⟩, Nat.le_succ _⟩
        · simp only [Array.size_append, List.size_toArray, size_zeroCells, hzs, ho, hl, ← Nat.add_mul]
          congr 1
          omega
        · simp only [Array.toList_append, List.append_assoc]
          rw [← hoe, ← List.append_assoc]
          have hlen : (olds ++ news).length = (n + m) * i.size := by rw [List.length_append, ho, hl, Nat.add_mul]
          rw [← hlen]
          exact List.take_left
      cases A with
      | none =>
        have hcap : cap = 0 := by
          rcases Nat.eq_zero_or_pos cap with h | h
          · exact h
          · exact nomatch (hA h).1
        subst hcap
        have hn0 : n = 0 := by omega
        subst hn0
        have hrun := run_append_nil (P := P) w t ty e i z ht hi hz b m c news hl hb (by omega) (by omega) (by simp only [Nat.zero_add] at hbytes; omega)
        refine post [] (by simp) (by simp) ?_
        simp only [Nat.zero_add] at hc' ⊢
        rw [hc', hrun]
        simp
      | some a =>
        have holds : ∃ olds : List Value, olds.length = n * i.size ∧ olds = cur.toList.take (n * i.size) ∧ ∀ j v, olds[j]? = some v → w.cell? (a.add j) = some v := by
          rcases Nat.eq_zero_or_pos cap with h | h
          · subst h
            have hn0 : n = 0 := by omega
            subst hn0
            exact ⟨[], by simp, by simp, fun j v hv => by simp at hv⟩
          · obtain ⟨ha, hg, hcs⟩ := hA h
            cases ha
            refine ⟨cur.toList.take (n * i.size), ?_, rfl, fun j v hv => ?_⟩
            · rw [List.length_take, Array.length_toList, hcs]
              exact Nat.min_eq_left (Nat.mul_le_mul_right _ hn)
            · rw [addr_add, Nat.zero_add, cell_of_row w g j cur e (0, 0) hg]
              have hj : j < (cur.toList.take (n * i.size)).length := (List.getElem?_eq_some_iff.1 hv).1
              rw [List.length_take] at hj
              rw [List.getElem?_take_of_lt (by omega)] at hv
              simpa using hv
        obtain ⟨olds, o1, o2, o3⟩ := holds
        have hrun := run_append_grow (P := P) w t ty e i z ht hi hz a n cap olds o1 o3 b m c news hl hb (by omega) (by omega) (growslice_fits (by omega) hbytes)
        exact post olds o1 o2 (by rw [hc']; exact hrun)

theorem srcCon_n (src : Src) : (srcCon src).n = src.n := by cases src <;> rfl
theorem srcCon_f (src : Src) (j o : Nat) : (srcCon src).f j o = src.f j o := by cases src <;> rfl

theorem appCon_ok {c c' : Con} {len : Nat} {src : Src} (h : appCon c len src = some c') (hlen : len ≤ c.n) : c'.n = len + src.n ∧ ∀ j o, c'.f j o = if j < len then c.f j o else src.f (j - len) o := by
  cases src with
  | ints ys =>
    cases c with
    | il xs =>
      simp only [appCon, Option.some.injEq] at h
      subst h
      simp only [Con.n] at hlen
      refine ⟨by simp [Con.n, Src.n]; omega, fun j o => ?_⟩
      by_cases hj : j < len
      · rw [if_pos hj]
        simp only [Con.f, List.getD]
        rw [List.getElem?_append_left (by simp; omega), List.getElem?_take_of_lt hj]
      · rw [if_neg hj]
        simp only [Con.f, Src.f, List.getD]
        rw [List.getElem?_append_right (by simp; omega)]
        rw [List.length_take, Nat.min_eq_left hlen]
    | _ => simp [appCon] at h
  | cells m g =>
    cases c with
    | cv n f =>
      simp only [appCon, Option.some.injEq] at h
      subst h
      exact ⟨rfl, fun j o => by
        by_cases hj : j < len
        · simp only [Con.f, if_pos hj]
        · simp only [Con.f, Src.f, if_neg hj]⟩
    | _ => simp [appCon] at h

theorem bytes_len {bs n : Nat} (hbs : 0 < bs) (h : (bs : Int) * ((n : Nat) : Int) ≤ 140737488355328) : n * bs ≤ 140737488355328 ∧ n ≤ maxLen := by
  have h1 : ((n * bs : Nat) : Int) ≤ 140737488355328 := by rw [Int.natCast_mul, Int.mul_comm]; exact h
  have h2 : n * bs ≤ 140737488355328 := by omega
  have h3 : n ≤ n * bs := Nat.le_mul_of_pos_right n hbs
  exact ⟨h2, by rw [maxLen_val]; omega⟩

theorem aAppend_ok (hT : TabOk P T) {nb base nm : Nat} {φ : Phi} {w : World} {M M' : Mem} (hm : MemRel nb base φ w M) (hn : φ nm = none) {t e ty : TypeId} (hd : (T.row t).d = .slice e) {s x v : V} {cs cx : Value}
    (hs : Rep φ base w s cs) (hx : Rep φ base w x cx) {p : Obl} (h : aAppend T nm e s x M = some (p, v, M')) (hp : p.holds) :
    ∃ cv w' φ', (Builtin.append_ #[t, t] ty #[cs, cx]).run P w = .ok cv w' ∧ Step nb base nm φ w v M' cv w' φ' := by
  obtain ⟨it, z, hr⟩ := hT.is (t := t) (by rw [hd]; exact fun h => nomatch h)
  have hu := und_slice (hr.d.symm.trans hd)
  simp only [aAppend] at h
  cases hb : (knownT (T.row e) && Nat.blt 0 (T.row e).sz && Nat.blt 0 (T.row e).bs) with
  | false => rw [hb] at h; cases h
  | true =>
    rw [hb] at h
    simp only [cond_true] at h
    simp only [Bool.and_eq_true] at hb
    obtain ⟨⟨hke, hsz⟩, hbs⟩ := hb
    have hsz : 0 < (T.row e).sz := by simpa using hsz
    have hbs : 0 < (T.row e).bs := by simpa using hbs
    obtain ⟨ie, ze, hre⟩ := hT.is (knownT_ne hke)
    cases hsrc : srcV M (T.row e).sz (isI64T (T.row e)) x with
    | none => rw [hsrc] at h; cases h
    | some q =>
      obtain ⟨p0, src⟩ := q
      rw [hsrc] at h
      simp only at h
      have key : p0.holds → ∃ A c, cx = .slice A src.n c ∧ ∃ news : List Value, news.length = src.n * ie.size ∧ (0 < src.n → ∃ b, A = some b ∧ ∀ j u, news[j]? = some u → w.cell? (b.add j) = some u) ∧ (∀ u ∈ news, u.oneCell' = true) ∧
          ∀ j o, j < src.n → o < ie.size → ∃ u, news[j * ie.size + o]? = some u ∧ u.oneCell' = true ∧ Rep φ base w (src.f j o) u := by
        intro hp0
        obtain ⟨A, c, rfl, h1⟩ := (srcV_ok hm hx hsrc hp0).ex
        refine ⟨A, c, rfl, ?_⟩
        rcases Nat.eq_zero_or_pos src.n with h0 | h0
        · exact ⟨[], by rw [h0]; simp, fun h => by omega, fun u hu => (by cases hu), fun j o hj => by omega⟩
        · obtain ⟨b, off, rfl, h2⟩ := h1 h0
          obtain ⟨news, q1, q2, q3, q4⟩ := src_list hsz h2
          rw [hre.sz] at q1 q4
          exact ⟨news, q1, fun _ => ⟨_, rfl, q2⟩, q3, q4⟩
      cases s with
      | emp =>
        simp only [Option.some.injEq, Prod.mk.injEq] at h
        obtain ⟨rfl, rfl, rfl⟩ := h
        obtain ⟨hp0, hp1⟩ := hp
        obtain ⟨A, rfl, _⟩ := hs
        obtain ⟨B, c, rfl, news, n1, n2, n3, n4⟩ := key hp0
        obtain ⟨hb1, hb2⟩ := bytes_len (n := src.n) hbs hp1
        obtain ⟨v', w', g', cap', cur', r1, r2, r3, r4, r5, r6, r7, ⟨A', rfl, r8⟩, r9, r10, r11, r12, r14, r17⟩ := run_append_all (P := P) (ty := ty) hu hre.info hre.zero hre.zsz (by rw [← hre.sz]; exact hsz) w A 0 0 0 #[] (fun h => absurd h (Nat.lt_irrefl 0)) (Nat.le_refl 0) B src.n c news n1 n2 n3
          (by rw [Nat.zero_add, ← hre.bs]; exact hb1) (by rw [Nat.zero_add]; exact hb2)
        rw [Nat.zero_add] at r1 r6 r9
        have hs := step_row (w' := w') hm (t := nm) (r' := ⟨g', cap', src.n, (T.row e).sz, e, 0⟩) (o' := ⟨e, (T.row e).sz, 0, srcCon src⟩) (.inl hn)
          (by rcases r10 with h | h | h
              · exact absurd h.1 (Nat.lt_irrefl 0)
              · exact .inr (.inl h)
              · exact .inr (.inr h)) r2 r3 r4 r5 (fun b hb _ => r11 b hb (fun h => absurd h (Nat.lt_irrefl 0)))
          (fun hev => ⟨srcCon_n src, rfl, rfl, rfl, hsz, r6, r7 (Nat.zero_le _), fun hc => (Array.getElem?_eq_some_iff.1 (r9 hc).1).1, Con.Spec_of (srcCon_isC src) (fun h => by cases src <;> cases h), fun _ hc => by
            obtain ⟨c1, c2, c3⟩ := r9 hc
            refine ⟨cur', c1, by rw [c2, hre.sz], fun j k hj hk => ?_⟩
            obtain ⟨u, e1, e2, e3⟩ := n4 j k hj (by rw [← hre.sz]; exact hk)
            refine ⟨u, ?_, e2, Rep.evo hev (by rw [srcCon_f]; exact e3)⟩
            simp only [Nat.zero_mul, List.take_zero, List.nil_append] at c3
            rw [← c3, ← hre.sz] at e1
            have hlt := (List.getElem?_eq_some_iff.1 e1).1
            rw [List.length_take] at hlt
            rw [List.getElem?_take_of_lt (by omega)] at e1
            simpa using e1⟩)
        refine ⟨_, w', _, r1, hs.1, ?_, hs.2.1, hs.2.2⟩
        exact ⟨_, Phi.upd_same _ _ _, rfl, Nat.le_refl _, fun _ => ⟨by simp, A', by simp, fun h => by simpa using r8 h⟩⟩
      | sl t' ver off len =>
        obtain ⟨r, hrr, _, hle, hv⟩ := hs
        obtain ⟨ob, ho, hrel⟩ := hm.obj t' r hrr
        simp only [ho] at h
        cases hbb : (Nat.beq ob.sz (T.row e).sz && Nat.beq ob.e e) with
        | false => rw [hbb] at h; cases h
        | true =>
          rw [hbb] at h
          simp only [cond_true] at h
          simp only [Bool.and_eq_true] at hbb
          have z1 := Nat.eq_of_beq_eq_true hbb.1
          have z2 := Nat.eq_of_beq_eq_true hbb.2
          cases hk : kilApp ob.c (T.row e).sz off len src with
          | some con =>
            rw [hk] at h
            simp only [Option.some.injEq, Prod.mk.injEq] at h
            obtain ⟨rfl, rfl, rfl⟩ := h
            obtain ⟨hp0, hver, hp1⟩ := hp
            have hver := eqnO_holds.1 hver
            unfold kilApp at hk
            cases src with
            | cells m g => cases hk
            | ints ys =>
            simp only at hk
            cases hobc : ob.c with
            | kil xs =>
              rw [hobc] at hk
              simp only at hk
              cases hb4 : (Nat.beq (T.row e).sz 1 && Nat.beq off 0 && Nat.blt 0 xs.length && Nat.ble (len + ys.length) xs.length) with
              | false => rw [hb4] at hk; cases hk
              | true =>
                rw [hb4] at hk
                simp only [cond_true, Option.some.injEq] at hk
                subst hk
                simp only [Bool.and_eq_true] at hb4
                have k1 := Nat.eq_of_beq_eq_true hb4.1.1.1
                have k2 := Nat.eq_of_beq_eq_true hb4.1.1.2
                have k3 : 0 < xs.length := by simpa using hb4.1.2
                have k4 := Nat.le_of_ble_eq_true hb4.2
                subst k2
                obtain ⟨g1, A, rfl, g2⟩ := hv (by rw [← hrel.ver, hver])
                rw [Nat.zero_add] at g1
                simp only [Nat.sub_zero, Nat.zero_mul] at g2 ⊢
                obtain ⟨B, c, rfl, news, n1, n2, n3, n4⟩ := key hp0
                simp only [Src.n] at n1 n2 n4 hp1 ⊢
                have hp1 : ((T.row e).bs : Int) * ((len + ys.length : Nat) : Int) ≤ 140737488355328 := by
                  have : ((T.row e).bs : Int) * ((len : Int) + (ys.length : Int)) ≤ 140737488355328 := hp1
                  rw [Int.natCast_add]; exact this
                obtain ⟨hb1, hb2⟩ := bytes_len (n := len + ys.length) hbs hp1
                have hn := hrel.n
                rw [hobc] at hn
                simp only [Con.n] at hn
                have hspec := hrel.spec
                rw [hobc] at hspec
                have hcapn : r.cap = r.n := hspec
                have hszr : r.sz = ie.size := by rw [← hrel.sz, z1, hre.sz]
                have hs1 : ie.size = 1 := by rw [← hre.sz]; exact k1
                have her : r.e = e := by rw [← hrel.e, z2]
                have hcp : 0 < r.cap := by omega
                obtain ⟨cur, q1, q2, q3⟩ := hrel.row (by rw [hobc]; rfl) hcp
                obtain ⟨v', w', g', cap', cur', r1, r2, r3, r4, r5, r6, r7, ⟨A', rfl, r8⟩, r9, r10, r11, r12, r14, r17⟩ := run_append_all (P := P) (ty := ty) hu hre.info hre.zero hre.zsz (by rw [← hre.sz]; exact hsz) w A len r.cap r.g cur
                  (fun h => ⟨g2 h, by rw [← her]; exact q1, by rw [← hszr]; exact q2⟩) (by omega) B ys.length c news n1 n2 n3 (by rw [← hre.bs]; exact hb1) hb2
                obtain ⟨rfl, rfl, r13⟩ := r12 hcp (by omega)
                obtain ⟨c1, c2, _⟩ := r9 hcp
                have hs := step_keep (w' := w') hm (o' := { ob with c := .kil (xs.take len ++ ys ++ xs.drop (len + ys.length)) }) hrr hcp r2 r3 r4 r5 (fun b hb hne => r11 b hb (fun _ => hne))
                  (fun hev => ⟨by simp only [Con.n, List.length_append, List.length_take, List.length_drop]; omega, hrel.ver, hrel.sz, hrel.e, hrel.pos, hrel.le, hrel.max, fun _ => (Array.getElem?_eq_some_iff.1 c1).1, hcapn, fun _ _ => by
                    refine ⟨cur', by rw [c1, her], by rw [c2, hszr], fun j k hj hk => ?_⟩
                    have hk0 : k = 0 := by omega
                    subst hk0
                    have hsz1 : r.sz = 1 := by omega
                    rw [hs1, Nat.mul_one, Nat.mul_one] at r13
                    have hcl : cur.toList.length = r.cap := by rw [Array.length_toList, q2, hsz1, Nat.mul_one]
                    have hidx : cur'[j * r.sz + 0]? = (cur.toList.take len ++ news ++ cur.toList.drop (len + ys.length))[j]? := by
                      rw [← r13, hsz1]
                      simp
                    have hnl : news.length = ys.length := by rw [n1, hs1, Nat.mul_one]
                    rw [hidx]
                    have old : (xs.take len ++ ys ++ xs.drop (len + ys.length)).getD j 0 = xs.getD j 0 → (cur.toList.take len ++ news ++ cur.toList.drop (len + ys.length))[j]? = cur.toList[j]? → ∃ c, (cur.toList.take len ++ news ++ cur.toList.drop (len + ys.length))[j]? = some c ∧ c.oneCell' = true ∧ Rep φ base w' ((Con.kil (xs.take len ++ ys ++ xs.drop (len + ys.length))).f j 0) c := by
                      intro h1 h2
                      obtain ⟨u, e1, e2, e3⟩ := q3 j 0 hj (by omega)
                      refine ⟨u, ?_, e2, ?_⟩
                      · rw [h2, ← e1, hsz1]; simp
                      · rw [hobc] at e3
                        simp only [Con.f] at e3 ⊢
                        rw [h1]
                        exact Rep.evo hev e3
                    by_cases hj1 : j < len
                    · refine old ?_ ?_
                      · simp only [List.getD]
                        rw [List.append_assoc, List.getElem?_append_left (by rw [List.length_take]; omega), List.getElem?_take_of_lt hj1]
                      · rw [List.append_assoc, List.getElem?_append_left (by rw [List.length_take]; omega), List.getElem?_take_of_lt hj1]
                    · by_cases hj2 : j < len + ys.length
                      · obtain ⟨u, e1, e2, e3⟩ := n4 (j - len) 0 (by omega) (by omega)
                        rw [hs1, Nat.mul_one, Nat.add_zero] at e1
                        refine ⟨u, ?_, e2, ?_⟩
                        · rw [List.append_assoc, List.getElem?_append_right (by rw [List.length_take]; omega), List.length_take, Nat.min_eq_left (by omega), List.getElem?_append_left (by omega)]
                          exact e1
                        · simp only [Con.f]
                          have : (xs.take len ++ ys ++ xs.drop (len + ys.length)).getD j 0 = ys.getD (j - len) 0 := by
                            simp only [List.getD]
                            rw [List.append_assoc, List.getElem?_append_right (by rw [List.length_take]; omega), List.length_take, Nat.min_eq_left (by omega), List.getElem?_append_left (by omega)]
                          rw [this]
                          exact Rep.evo hev e3
                      · refine old ?_ ?_
                        · simp only [List.getD]
                          rw [List.getElem?_append_right (by rw [List.length_append, List.length_take]; omega), List.length_append, List.length_take, Nat.min_eq_left (by omega), List.getElem?_drop]
                          congr 2
                          omega
                        · rw [List.getElem?_append_right (by rw [List.length_append, List.length_take]; omega), List.length_append, List.length_take, Nat.min_eq_left (by omega), List.getElem?_drop]
                          congr 1
                          omega⟩)
                refine ⟨_, w', φ, r1, hs.1, ?_, hs.2, fun t r h => .inl ⟨r, h⟩⟩
                exact ⟨r, hrr, rfl, by rw [← hrel.ver, hver]; exact Nat.le_refl _, fun _ => ⟨by rw [Nat.zero_add]; omega, A', by simp, fun h => by simpa using r8 (by simpa using h)⟩⟩
            | _ => rw [hobc] at hk; cases hk
          | none =>
          rw [hk] at h
          simp only at h
          cases hk2 : kilNew ob.c (T.row e).sz off len src with
          | some con =>
            rw [hk2] at h
            simp only [Option.some.injEq, Prod.mk.injEq] at h
            obtain ⟨rfl, rfl, rfl⟩ := h
            obtain ⟨hp0, hver, hp1⟩ := hp
            have hver := eqnO_holds.1 hver
            unfold kilNew at hk2
            cases src with
            | cells m g => cases hk2
            | ints ys =>
            simp only at hk2
            cases hobc : ob.c with
            | kil xs =>
              rw [hobc] at hk2
              simp only at hk2
              cases hb4 : (Nat.beq (T.row e).sz 1 && Nat.beq off 0 && Nat.blt xs.length (len + ys.length)) with
              | false => rw [hb4] at hk2; cases hk2
              | true =>
                rw [hb4] at hk2
                simp only [cond_true, Option.some.injEq] at hk2
                subst hk2
                simp only [Bool.and_eq_true] at hb4
                have k1 := Nat.eq_of_beq_eq_true hb4.1.1
                have k2 := Nat.eq_of_beq_eq_true hb4.1.2
                have k4 : xs.length < len + ys.length := by simpa using hb4.2
                subst k2
                obtain ⟨g1, A, rfl, g2⟩ := hv (by rw [← hrel.ver, hver])
                rw [Nat.zero_add] at g1
                simp only [Nat.sub_zero, Nat.zero_mul] at g2 ⊢
                obtain ⟨B, c, rfl, news, n1, n2, n3, n4⟩ := key hp0
                simp only [Src.n] at n1 n2 n4 hp1 ⊢
                have hp1 : ((T.row e).bs : Int) * ((len + ys.length : Nat) : Int) ≤ 140737488355328 := by
                  have : ((T.row e).bs : Int) * ((len : Int) + (ys.length : Int)) ≤ 140737488355328 := hp1
                  rw [Int.natCast_add]; exact this
                obtain ⟨hb1, hb2⟩ := bytes_len (n := len + ys.length) hbs hp1
                have hn0 := hn
                have hn := hrel.n
                rw [hobc] at hn
                simp only [Con.n] at hn
                have hspec := hrel.spec
                rw [hobc] at hspec
                have hcapn : r.cap = r.n := hspec
                have hszr : r.sz = ie.size := by rw [← hrel.sz, z1, hre.sz]
                have hs1 : ie.size = 1 := by rw [← hre.sz]; exact k1
                have her : r.e = e := by rw [← hrel.e, z2]
                have hcur : ∃ cur, 0 < r.cap → w.heap[r.g]? = some (.cells cur r.e (0, 0)) ∧ cur.size = r.cap * r.sz ∧ ∀ j k, j < r.n → k < r.sz → ∃ c, cur[j * r.sz + k]? = some c ∧ c.oneCell' = true ∧ Rep φ base w (ob.c.f j k) c := by
                  rcases Nat.eq_zero_or_pos r.cap with h0 | h0
                  · exact ⟨#[], fun h => by omega⟩
                  · obtain ⟨cur, q⟩ := hrel.row (by rw [hobc]; rfl) h0
                    exact ⟨cur, fun _ => q⟩
                obtain ⟨cur, hcur⟩ := hcur
                obtain ⟨v', w', g', cap', cur', r1, r2, r3, r4, r5, r6, r7, ⟨A', rfl, r8⟩, r9, r10, r11, r12, r14, r17⟩ := run_append_all (P := P) (ty := ty) hu hre.info hre.zero hre.zsz (by rw [← hre.sz]; exact hsz) w A len r.cap r.g cur
                  (fun h => ⟨g2 h, by rw [← her]; exact (hcur h).1, by rw [← hszr]; exact (hcur h).2.1⟩) (by omega) B ys.length c news n1 n2 n3 (by rw [← hre.bs]; exact hb1) hb2
                obtain ⟨r15, r16⟩ := r14 (by omega)
                have hs := step_row (w' := w') hm (t := nm) (r' := ⟨g', cap', len + ys.length, (T.row e).sz, e, 0⟩) (o' := ⟨e, (T.row e).sz, 0, .il (xs.take len ++ ys)⟩) (.inl hn0) (.inr (.inl r15)) r2 r3 r4 r5 (fun b hb _ => r16 b hb)
                  (fun hev => ⟨by simp only [Con.n, List.length_append, List.length_take]; omega, rfl, rfl, rfl, hsz, r6, r7 hrel.max, fun hc => (Array.getElem?_eq_some_iff.1 (r9 hc).1).1, trivial, fun _ hc => by
                    obtain ⟨c1, c2, c3⟩ := r9 hc
                    refine ⟨cur', c1, by rw [c2, hre.sz], fun j k hj hk => ?_⟩
                    have hk0 : k = 0 := by simp only at hk; omega
                    subst hk0
                    simp only at hj
                    rw [hs1, Nat.mul_one, Nat.mul_one] at c3
                    have hnl : news.length = ys.length := by rw [n1, hs1, Nat.mul_one]
                    have hidx : cur'[j * (T.row e).sz + 0]? = (cur.toList.take len ++ news)[j]? := by
                      rw [← c3, k1, Nat.mul_one, Nat.add_zero, List.getElem?_take_of_lt hj]
                      simp
                    rw [hidx]
                    by_cases hj1 : j < len
                    · obtain ⟨q1, q2, q3⟩ := hcur (by omega)
                      obtain ⟨u, e1, e2, e3⟩ := q3 j 0 (by omega) (by omega)
                      have hcl : cur.toList.length = r.cap := by rw [Array.length_toList, q2, show r.sz = 1 by omega, Nat.mul_one]
                      refine ⟨u, ?_, e2, ?_⟩
                      · rw [List.getElem?_append_left (by rw [List.length_take]; omega), List.getElem?_take_of_lt hj1]
                        rw [show j * r.sz + 0 = j by rw [show r.sz = 1 by omega]; omega] at e1
                        simpa using e1
                      · rw [hobc] at e3
                        simp only [Con.f] at e3 ⊢
                        rw [show (xs.take len ++ ys).getD j 0 = xs.getD j 0 from by
                          simp only [List.getD]
                          rw [List.getElem?_append_left (by rw [List.length_take]; omega), List.getElem?_take_of_lt hj1]]
                        exact Rep.evo hev e3
                    · obtain ⟨u, e1, e2, e3⟩ := n4 (j - len) 0 (by omega) (by omega)
                      rw [hs1, Nat.mul_one, Nat.add_zero] at e1
                      have hlt : (cur.toList.take len).length = len := by
                        rcases Nat.eq_zero_or_pos len with h0 | h0
                        · rw [h0]; simp
                        · obtain ⟨q1, q2, q3⟩ := hcur (by omega)
                          rw [List.length_take, Array.length_toList, q2, show r.sz = 1 by omega, Nat.mul_one]
                          omega
                      refine ⟨u, ?_, e2, ?_⟩
                      · rw [List.getElem?_append_right (by omega), hlt]
                        exact e1
                      · simp only [Con.f]
                        rw [show (xs.take len ++ ys).getD j 0 = ys.getD (j - len) 0 from by
                          simp only [List.getD]
                          rw [List.getElem?_append_right (by rw [List.length_take]; omega), List.length_take, Nat.min_eq_left (by omega)]]
                        exact Rep.evo hev e3⟩)
                refine ⟨_, w', _, r1, hs.1, ?_, hs.2.1, hs.2.2⟩
                exact ⟨_, Phi.upd_same _ _ _, rfl, Nat.le_refl _, fun _ => ⟨by simp, A', by simp, fun h => by simpa using r8 h⟩⟩
            | _ => rw [hobc] at hk2; cases hk2
          | none =>
          rw [hk2] at h
          simp only at h
          cases hc : appCon ob.c len src with
          | none => rw [hc] at h; cases h
          | some con =>
            rw [hc] at h
            simp only [Option.some.injEq, Prod.mk.injEq] at h
            obtain ⟨rfl, rfl, rfl⟩ := h
            obtain ⟨hp0, hver, hoff, hp1⟩ := hp
            have hver := eqnO_holds.1 hver
            have hoff := eqnO_holds.1 hoff
            subst hoff
            obtain ⟨g1, A, rfl, g2⟩ := hv (by rw [← hrel.ver, hver])
            rw [Nat.zero_add] at g1
            simp only [Nat.sub_zero, Nat.zero_mul] at g2 ⊢
            obtain ⟨B, c, rfl, news, n1, n2, n3, n4⟩ := key hp0
            have hp1 : ((T.row e).bs : Int) * ((len + src.n : Nat) : Int) ≤ 140737488355328 := by
              have : ((T.row e).bs : Int) * ((len : Int) + (src.n : Int)) ≤ 140737488355328 := hp1
              rw [Int.natCast_add]; exact this
            obtain ⟨hb1, hb2⟩ := bytes_len (n := len + src.n) hbs hp1
            have hcap := hrel.le
            have hszr : r.sz = ie.size := by rw [← hrel.sz, z1, hre.sz]
            have her : r.e = e := by rw [← hrel.e, z2]
            have hcur : ∃ cur, 0 < r.cap → w.heap[r.g]? = some (.cells cur r.e (0, 0)) ∧ cur.size = r.cap * r.sz ∧ ∀ j k, j < r.n → k < r.sz → ∃ c, cur[j * r.sz + k]? = some c ∧ c.oneCell' = true ∧ Rep φ base w (ob.c.f j k) c := by
              rcases Nat.eq_zero_or_pos r.cap with h0 | h0
              · exact ⟨#[], fun h => by omega⟩
              · obtain ⟨cur, q⟩ := hrel.row (appCon_isC hc).1 h0
                exact ⟨cur, fun _ => q⟩
            obtain ⟨cur, hcur⟩ := hcur
            obtain ⟨v', w', g', cap', cur', r1, r2, r3, r4, r5, r6, r7, ⟨A', rfl, r8⟩, r9, r10, r11, r12, r14, r17⟩ := run_append_all (P := P) (ty := ty) hu hre.info hre.zero hre.zsz (by rw [← hre.sz]; exact hsz) w A len r.cap r.g cur
              (fun h => ⟨g2 h, by rw [← her]; exact (hcur h).1, by rw [← hszr]; exact (hcur h).2.1⟩) (by omega) B src.n c news n1 n2 n3 (by rw [← hre.bs]; exact hb1) hb2
            obtain ⟨con1, con2⟩ := appCon_ok hc (by rw [hrel.n]; exact g1)
            have hs := step_row (w' := w') hm (t := t') (r' := ⟨g', cap', len + src.n, r.sz, r.e, r.ver + 1⟩) (o' := { ob with ver := ver + 1, c := con }) (.inr ⟨r, hrr, Nat.lt_succ_self _, rfl, rfl⟩)
              (by rcases r10 with h | h | h
                  · exact .inl ⟨r, hrr, h.1, h.2⟩
                  · exact .inr (.inl h)
                  · exact .inr (.inr h)) r2 r3 r4 r5 (fun b hb hne => r11 b hb (fun h => hne r hrr h))
              (fun hev => ⟨con1, by simp only [hver, hrel.ver], hrel.sz, hrel.e, hrel.pos, r6, r7 hrel.max, fun hcp => (Array.getElem?_eq_some_iff.1 (r9 hcp).1).1, Con.Spec_of (appCon_isC hc).2 (fun h => by rw [appCon_kc hc] at h; cases h), fun _ hcp => by
                obtain ⟨c1, c2, c3⟩ := r9 hcp
                refine ⟨cur', by rw [c1, her], by rw [c2, hszr], fun j k hj hk => ?_⟩
                have hget : ∀ u, (cur.toList.take (len * ie.size) ++ news)[j * r.sz + k]? = some u → cur'[j * r.sz + k]? = some u := by
                  intro u hu'
                  rw [← c3] at hu'
                  have hlt := (List.getElem?_eq_some_iff.1 hu').1
                  rw [List.length_take] at hlt
                  rw [List.getElem?_take_of_lt (by omega)] at hu'
                  simpa using hu'
                have hlcur : 0 < len → (cur.toList.take (len * ie.size)).length = len * ie.size := by
                  intro h0
                  rw [List.length_take, Array.length_toList, (hcur (by omega)).2.1, hszr]
                  exact Nat.min_eq_left (Nat.mul_le_mul_right _ (by omega))
                simp only at hj hk
                simp only [con2]
                by_cases hjl : j < len
                · rw [if_pos hjl]
                  obtain ⟨u, e1, e2, e3⟩ := (hcur (by omega)).2.2 j k (by omega) hk
                  refine ⟨u, hget u ?_, e2, Rep.evo hev e3⟩
                  have hlt : j * r.sz + k < len * ie.size := by
                    rw [← hszr]
                    calc j * r.sz + k < j * r.sz + r.sz := by omega
                      _ = (j + 1) * r.sz := by rw [Nat.succ_mul]
                      _ ≤ len * r.sz := Nat.mul_le_mul_right _ (by omega)
                  rw [List.getElem?_append_left (by rw [hlcur (by omega)]; exact hlt), List.getElem?_take_of_lt hlt]
                  simpa using e1
                · rw [if_neg hjl]
                  obtain ⟨u, e1, e2, e3⟩ := n4 (j - len) k (by omega) (by rw [← hszr]; exact hk)
                  refine ⟨u, hget u ?_, e2, Rep.evo hev e3⟩
                  have hl0 : (cur.toList.take (len * ie.size)).length = len * ie.size := by
                    rcases Nat.eq_zero_or_pos len with h0 | h0
                    · rw [h0]; simp
                    · exact hlcur h0
                  have hidx : j * r.sz + k = len * ie.size + ((j - len) * ie.size + k) := by
                    rw [hszr, ← Nat.add_assoc, ← Nat.add_mul]
                    congr 2
                    omega
                  rw [List.getElem?_append_right (by rw [hl0, hidx]; omega), hl0, hidx, Nat.add_sub_cancel_left]
                  exact e1⟩)
            refine ⟨_, w', _, r1, hs.1, ?_, hs.2.1, fun s r h => (hs.2.2 s r h).elim .inl (fun e => by subst e; exact .inl ⟨_, hrr⟩)⟩
            exact ⟨_, Phi.upd_same _ _ _, rfl, by simp only; rw [← hrel.ver, hver]; exact Nat.le_refl _, fun _ => ⟨by simp, A', by simp, fun h => by simpa using r8 h⟩⟩
      | _ => simp at h

end
section
variable {P : Program} {T : Tab}
theorem aCopy_ok (hT : TabOk P T) {nb base nm : Nat} {φ : Phi} {w : World} {M M' : Mem} (hm : MemRel nb base φ w M) {t t' e ty : TypeId} (hd : (T.row t).d = .slice e) {s x v : V} {cs cx : Value}
    (hs : Rep φ base w s cs) (hx : Rep φ base w x cx) {p : Obl} (h : aCopy T e s x M = some (p, v, M')) (hp : p.holds) :
    ∃ cv w', (Builtin.copy_ #[t, t'] ty #[cs, cx]).run P w = .ok cv w' ∧ Step nb base nm φ w v M' cv w' φ := by
  obtain ⟨it, z, hr⟩ := hT.is (t := t) (by rw [hd]; exact fun h => nomatch h)
  have hu := und_slice (hr.d.symm.trans hd)
  simp only [aCopy] at h
  cases hb : (knownT (T.row e) && Nat.beq (T.row e).sz 1) with
  | false => rw [hb] at h; cases h
  | true =>
    rw [hb] at h
    simp only [cond_true] at h
    simp only [Bool.and_eq_true] at hb
    obtain ⟨hke, hsz1⟩ := hb
    have hsz1 : (T.row e).sz = 1 := Nat.eq_of_beq_eq_true hsz1
    obtain ⟨ie, ze, hre⟩ := hT.is (knownT_ne hke)
    have hs1 : ie.size = 1 := by rw [← hre.sz]; exact hsz1
    cases s with
    | sl nmS ver off len =>
      simp only at h
      obtain ⟨r, hrr, hone, hle, hv⟩ := hs
      obtain ⟨ob, hob, hrel⟩ := hm.obj _ r hrr
      rw [hob] at h
      simp only at h
      cases hz : Nat.beq ob.sz 1 with
      | false => rw [hz] at h; cases h
      | true =>
        rw [hz] at h
        simp only [cond_true] at h
        have hz : ob.sz = 1 := Nat.eq_of_beq_eq_true hz
        split at h
        · next p0 ys hsrc =>
          split at h
          · next con hcon =>
            simp only [Option.some.injEq, Prod.mk.injEq] at h
            obtain ⟨rfl, rfl, rfl⟩ := h
            obtain ⟨hp0, hver, hlen⟩ := hp
            have hver := eqnO_holds.1 hver
            have hlen : (0 : Int) < len := hlen
            obtain ⟨g1, A, rfl, g2⟩ := hv (by rw [← hrel.ver]; exact hver.symm)
            have hszr : r.sz = 1 := by rw [← hrel.sz, hz]
            have hcp : 0 < r.cap := by have := hrel.le; omega
            have hAe := g2 (by have := hrel.le; omega)
            rw [hszr, Nat.mul_one] at hAe
            subst hAe
            obtain ⟨A2, c2, rfl, h1⟩ := (srcV_ok hm hx hsrc hp0).ex
            by_cases hys : ¬ (0 : Int) < ys.length
            · -- nothing to copy
              have hy0 : ys = [] := List.eq_nil_of_length_eq_zero (by omega)
              subst hy0
              have hcc : con = ob.c := by
                cases hc : ob.c with
                | il xs => rw [hc] at hcon; simp only [cpyCon, Option.some.injEq] at hcon; subst hcon; simp
                | kil xs => rw [hc] at hcon; simp only [cpyCon, Option.some.injEq] at hcon; subst hcon; simp
                | _ => rw [hc] at hcon; cases hcon
              subst hcc
              refine ⟨.int .i64 0, w, ?_, ?_, ?_, Evo.refl w φ, fun t r h => .inl ⟨r, h⟩⟩
              · simp [Builtin.copy_, run_underlying hu, Src.n, Builtin.lenOf, Builtin.firstCells, sizeOf, typeInfo, hre.info, goInt]
                cases A2 <;> simp [loadCells, loadCellsFrom, storeCells]
              · refine ⟨fun s r' hs => ?_, hm.inj, hm.own, hm.le⟩
                by_cases h : s = nmS
                · subst h
                  obtain ⟨o', g1, g2⟩ := hm.obj s r' hs
                  rw [hob] at g1
                  cases g1
                  exact ⟨_, Mem.get_put_same M s _, g2⟩
                · rw [Mem.get_put_other M h]
                  exact hm.obj s r' hs
              · simp [Rep]
            have hys : (0 : Int) < ys.length := by omega
            obtain ⟨b, off2, rfl, h2⟩ := h1 (by simp only [Src.n]; omega)
            obtain ⟨news, n1, n2, n3, n4⟩ := src_list (by omega) h2
            simp only [Src.n] at n1 n4
            rw [hsz1, Nat.mul_one] at n1
            have hisC : ob.c.isC = true := by cases hc : ob.c <;> rw [hc] at hcon <;> first | rfl | cases hcon
            obtain ⟨cur, q1, q2, q3⟩ := hrel.row hisC hcp
            rw [hszr, Nat.mul_one] at q2
            have hcl : cur.toList.length = r.cap := by rw [Array.length_toList, q2]
            have hn := hrel.n
            have hrle := hrel.le
            obtain ⟨m, hmd⟩ : ∃ m, m = Nat.min ys.length len := ⟨_, rfl⟩
            have hmin : m ≤ ys.length ∧ m ≤ len := by rw [hmd]; exact ⟨Nat.min_le_left _ _, Nat.min_le_right _ _⟩
            have hyl : (ys.take len).length = m := by rw [List.length_take, hmd, Nat.min_comm]
            have hnl : (news.take m).length = m := by rw [List.length_take]; omega
            have hrun := run_copy_row (P := P) w t t' ty e r.g off len (r.cap - off) ⟨b, off2, none⟩ ys.length c2 cur r.e (news.take m) hu (by rw [hre.info]; simp [hs1]) q1 (by rw [hnl, hmd])
              (fun j u hj => n2 j u (by
                rw [List.getElem?_take] at hj
                split at hj
                · exact hj
                · cases hj)) (by rw [hnl]; omega) (fun u hu => n3 u (List.mem_of_mem_take hu))
            rw [hnl] at hrun
            have hlt : r.g < w.heap.size := hrel.dom hcp
            have hgh : (w.setRow r.g (cur.toList.take off ++ news.take m ++ cur.toList.drop (off + m)).toArray).heap[r.g]? = some (.cells (cur.toList.take off ++ news.take m ++ cur.toList.drop (off + m)).toArray r.e (0, 0)) := setRow_heap w r.g cur _ r.e (0, 0) q1
            have hcn : con.n = ob.c.n ∧ con.isC = true ∧ (con.kc = ob.c.kc) ∧ ∀ j, j < r.n → con.f j 0 = if off ≤ j ∧ j < off + m then .int (ys.getD (j - off) 0) else ob.c.f j 0 := by
              have gen : ∀ xs : List Int, xs.length = r.n → (xs.take off ++ ys.take len ++ xs.drop (off + (ys.take len).length)).length = xs.length ∧
                  ∀ j, j < r.n → (xs.take off ++ ys.take len ++ xs.drop (off + (ys.take len).length)).getD j 0 = if off ≤ j ∧ j < off + m then ys.getD (j - off) 0 else xs.getD j 0 := by
                intro xs hxl
                have hto : (xs.take off).length = off := by rw [List.length_take]; omega
                refine ⟨by simp only [List.length_append, List.length_drop, hto, hyl]; omega, fun j hj => ?_⟩
                simp only [List.getD]
                by_cases hj1 : j < off
                · rw [if_neg (by omega), List.append_assoc, List.getElem?_append_left (by omega), List.getElem?_take_of_lt hj1]
                · by_cases hj2 : j < off + m
                  · rw [if_pos (by omega), List.append_assoc, List.getElem?_append_right (by omega), hto, List.getElem?_append_left (by omega), List.getElem?_take_of_lt (by omega)]
                  · rw [if_neg (by omega), List.getElem?_append_right (by rw [List.length_append]; omega), List.length_append, hto, hyl, List.getElem?_drop]
                    rw [show off + m + (j - (off + m)) = j from by omega]
              cases hc : ob.c with
              | il xs =>
                rw [hc] at hcon hn
                simp only [cpyCon, Option.some.injEq] at hcon
                subst hcon
                obtain ⟨e1, e2⟩ := gen xs hn
                exact ⟨e1, rfl, rfl, fun j hj => by simp only [Con.f, e2 j hj]; split <;> rfl⟩
              | kil xs =>
                rw [hc] at hcon hn
                simp only [cpyCon, Option.some.injEq] at hcon
                subst hcon
                obtain ⟨e1, e2⟩ := gen xs hn
                exact ⟨e1, rfl, rfl, fun j hj => by simp only [Con.f, e2 j hj]; split <;> rfl⟩
              | _ => rw [hc] at hcon; cases hcon
            have hspec := hrel.spec
            have hst := step_keep (w' := w.setRow r.g (cur.toList.take off ++ news.take m ++ cur.toList.drop (off + m)).toArray) hm (o' := { ob with c := con }) hrr hcp rfl rfl rfl (by simp [World.setRow])
              (fun b hb hne => by simp only [World.setRow]; rw [Array.getElem?_modify]; rw [if_neg (fun e => hne e.symm)])
              (fun hev => ⟨by rw [← hn]; exact hcn.1, hrel.ver, hrel.sz, hrel.e, hrel.pos, hrel.le, hrel.max, fun _ => by simp [World.setRow]; exact hlt, Con.Spec_of hcn.2.1 (fun hk => by
                  simp only at hk
                  rw [hcn.2.2.1] at hk
                  cases hc : ob.c with
                  | kil => rw [hc] at hspec; exact hspec
                  | _ => rw [hc] at hk; cases hk), fun _ _ => by
                refine ⟨_, hgh, ?_, fun j k hj hk => ?_⟩
                · rw [List.size_toArray, hszr, Nat.mul_one, List.length_append, List.length_append, List.length_take, List.length_drop, hnl, hcl]
                  omega
                have hk0 : k = 0 := by omega
                subst hk0
                have hto : (cur.toList.take off).length = off := by rw [List.length_take]; omega
                rw [hszr, Nat.mul_one, Nat.add_zero, List.getElem?_toArray]
                simp only
                rw [hcn.2.2.2 j hj]
                have old : ∃ c, cur.toList[j]? = some c ∧ c.oneCell' = true ∧ Rep φ base (w.setRow r.g (cur.toList.take off ++ news.take m ++ cur.toList.drop (off + m)).toArray) (ob.c.f j 0) c := by
                  obtain ⟨u, e1, e2, e3⟩ := q3 j 0 hj (by omega)
                  refine ⟨u, ?_, e2, Rep.evo hev e3⟩
                  rw [← e1, hszr]
                  simp
                by_cases hj1 : j < off
                · have i1 : (cur.toList.take off ++ news.take m ++ cur.toList.drop (off + m))[j]? = cur.toList[j]? := by
                    rw [List.append_assoc, List.getElem?_append_left (by omega), List.getElem?_take_of_lt hj1]
                  rw [if_neg (by omega), i1]
                  exact old
                · by_cases hj2 : j < off + m
                  · have i2 : (cur.toList.take off ++ news.take m ++ cur.toList.drop (off + m))[j]? = news[j - off]? := by
                      rw [List.append_assoc, List.getElem?_append_right (by omega), hto, List.getElem?_append_left (by omega), List.getElem?_take_of_lt (by omega)]
                    rw [if_pos (by omega), i2]
                    obtain ⟨u, e1, e2, e3⟩ := n4 (j - off) 0 (by omega) (by omega)
                    rw [hsz1, Nat.mul_one, Nat.add_zero] at e1
                    exact ⟨u, e1, e2, Rep.evo hev e3⟩
                  · rw [if_neg (by omega), List.getElem?_append_right (by rw [List.length_append]; omega), List.length_append, hto, hnl, List.getElem?_drop]
                    rw [show off + m + (j - (off + m)) = j from by omega]
                    exact old⟩)
            refine ⟨_, _, hrun, hst.1, ?_, hst.2, fun t r h => .inl ⟨r, h⟩⟩
            rw [hyl]
            rfl
          · cases h
        · cases h
    | _ => cases h

theorem zeroCells_get (z : Array Value) (n j k : Nat) (hj : j < n) (hk : k < z.size) : (Builtin.zeroCells z n)[j * z.size + k]? = z[k]? := by
  have h1 : j * z.size + k < n * z.size := by
    have := Nat.mul_le_mul_right z.size (show j + 1 ≤ n from hj)
    rw [Nat.add_mul] at this
    omega
  have h2 : (j * z.size + k) % z.size = k := by rw [Nat.mul_comm, Nat.mul_add_mod, Nat.mod_eq_of_lt hk]
  simp [Builtin.zeroCells, h1, h2, hk]
theorem zeroCells_one (z : Array Value) (u : Value) (hz : z = #[u]) (n j : Nat) (hj : j < n) : (Builtin.zeroCells z n)[j]? = some u := by
  subst hz
  simp [Builtin.zeroCells, hj, Nat.mod_one]
theorem aMake_ok (hT : TabOk P T) {nb base nm : Nat} {φ : Phi} {w : World} {M M' : Mem} (hm : MemRel nb base φ w M) (hn : φ nm = none) {t t' ty : TypeId} {s x v : V} {cs cx : Value}
    (hs : Rep φ base w s cs) (hx : Rep φ base w x cx) {p : Obl} (h : aMake T nm t t' s x M = some (p, v, M')) (hp : p.holds) :
    ∃ cv w' φ', (Builtin.append_ #[t, t'] ty #[cs, cx]).run P w = .ok cv w' ∧ Step nb base nm φ w v M' cv w' φ' := by
  unfold aMake at h
  split at h
  · next e k n hd hd' =>
    cases hb : (knownT (T.row e) && Nat.blt 0 (T.row e).sz && Nat.blt 0 (T.row e).bs) with
    | false => rw [hb] at h; cases h
    | true =>
      rw [hb] at h
      simp only [cond_true, Option.some.injEq, Prod.mk.injEq] at h
      obtain ⟨rfl, rfl, rfl⟩ := h
      simp only [Bool.and_eq_true] at hb
      obtain ⟨⟨hke, hsz⟩, hbs⟩ := hb
      have hsz : 0 < (T.row e).sz := by simpa using hsz
      have hbs : 0 < (T.row e).bs := by simpa using hbs
      obtain ⟨it, z, hr⟩ := hT.is (t := t) (by rw [hd]; exact fun h => nomatch h)
      obtain ⟨it', z', hr'⟩ := hT.is (t := t') (by rw [hd']; exact fun h => nomatch h)
      have hu := und_slice (hr.d.symm.trans hd)
      have hu' := und_int (hr'.d.symm.trans hd')
      obtain ⟨ie, ze, hre⟩ := hT.is (knownT_ne hke)
      have hzs : ze.cells.size = (T.row e).sz := by rw [hre.zsz, hre.sz]
      obtain ⟨h1, h2⟩ := hp
      have h1 : 0 < n := h1
      have h2 : ((T.row e).bs : Int) * n ≤ 140737488355328 := h2
      obtain ⟨m, rfl⟩ : ∃ m : Nat, n = m := ⟨n.toNat, by omega⟩
      obtain ⟨A, rfl, hA⟩ := hs
      obtain rfl := hA rfl
      have hx : cx = .int .i64 m := hx
      subst hx
      rw [Int.toNat_natCast]
      · obtain ⟨hb1, hb2⟩ := bytes_len (n := m) hbs h2
        have hrun := Lib.run_append_nil_zeros (P := P) w t t' ty e ie ze .i64 k hu hu' hre.info hre.zero m (by omega) (by rw [← hre.sz]; exact hsz) (by rw [maxLen_val] at hb2; omega) (by rw [← hre.bs]; omega)
        have hge := grownCap_ge w m 0 e
        have hle := grownCap_le_maxLen w m 0 e hb2
        have hs := step_row (w' := w.drew.alloc (.cells (Builtin.zeroCells ze.cells m ++ Builtin.zeroCells ze.cells (grownCap w m 0 e - m)) e)) hm (t := nm) (r' := ⟨w.heap.size, grownCap w m 0 e, m, (T.row e).sz, e, 0⟩) (o' := ⟨e, (T.row e).sz, 0, madeCon (T.row e) m⟩) (.inl hn) (.inr (.inl (Nat.le_refl _)))
          rfl rfl rfl (by simp) (fun b hb _ => heap_alloc_old w.drew _ hb)
          (fun hev => ⟨madeCon_n _ _, rfl, rfl, rfl, hsz, hge, hle, fun _ => (by have := heap_alloc_new w.drew (.cells (Builtin.zeroCells ze.cells m ++ Builtin.zeroCells ze.cells (grownCap w m 0 e - m)) e); exact (Array.getElem?_eq_some_iff.1 this).1), Con.Spec_of (madeCon_isC _ _) (fun h => by rw [madeCon_kc] at h; cases h), fun _ _ => by
            refine ⟨_, heap_alloc_new w.drew _, ?_, fun j k hj hk => ?_⟩
            · rw [Array.size_append, size_zeroCells, size_zeroCells, hzs, ← Nat.add_mul]
              rw [show m + (grownCap w m 0 e - m) = grownCap w m 0 e by omega]
            · have hk : k < (T.row e).sz := hk
              have hj : j < m := hj
              have hkz : k < ze.cells.size := by omega
              have hj1 : j * (T.row e).sz + k < (Builtin.zeroCells ze.cells m).size := by
                rw [size_zeroCells, hzs]
                have := Nat.mul_le_mul_right (T.row e).sz (show j + 1 ≤ m from hj)
                rw [Nat.add_mul] at this
                omega
              have hzl : (T.row e).zero.length = (T.row e).sz := by rw [hre.zs, Array.length_toList, hzs]
              refine ⟨ze.cells[k], ?_, hre.one _ (Array.getElem_mem hkz), ?_⟩
              · rw [Array.getElem?_append_left hj1, ← hzs, zeroCells_get _ m j k hj hkz]
                simp [hkz]
              · show Rep _ _ _ ((madeCon (T.row e) m).f j k) _
                rw [madeCon_f _ _ _ _ hj (by omega), hre.zs]
                rw [show ze.cells.toList.getD k undef = ze.cells[k] by simp [List.getD, hkz]]
                exact Rep.constV _ _ _ _⟩)
        refine ⟨_, _, _, hrun, hs.1, ?_, hs.2.1, hs.2.2⟩
        exact ⟨_, Phi.upd_same _ _ _, rfl, Nat.le_refl _, fun _ => ⟨by simp, some ⟨w.heap.size, 0, none⟩, by simp, fun _ => by simp⟩⟩
  · cases h

theorem isFull_eq {x : V} {ys : List Int} (h : x.isFull = some ys) : x = .full ys := by
  unfold V.isFull at h
  split at h
  · cases h; rfl
  · cases h

/-- 'append(s, x...)' onto ints of which the room is as long. -/
theorem fullApp_ok (hT : TabOk P T) {nb base nm : Nat} {φ : Phi} {w : World} {M : Mem} (hm : MemRel nb base φ w M) {t e ty : TypeId} (hd : (T.row t).d = .slice e) {ys : List Int} {x v : V} {cs cx : Value}
    (hs : Rep φ base w (.full ys) cs) (hx : Rep φ base w x cx) {p : Obl} (h : fullApp T e ys x M = some (p, v)) (hp : p.holds) :
    ∃ cv w', (Builtin.append_ #[t, t] ty #[cs, cx]).run P w = .ok cv w' ∧ Step nb base nm φ w v M cv w' φ := by
  obtain ⟨it, z0, hr⟩ := hT.is (t := t) (by rw [hd]; exact fun h => nomatch h)
  have hu := und_slice (hr.d.symm.trans hd)
  unfold fullApp at h
  cases hb : (knownT (T.row e) && Nat.beq (T.row e).sz 1 && Nat.blt 0 (T.row e).bs && isI64T (T.row e)) with
  | false => rw [hb] at h; cases h
  | true =>
    rw [hb] at h
    simp only [cond_true] at h
    simp only [Bool.and_eq_true] at hb
    obtain ⟨⟨⟨hke, hsz⟩, hbs⟩, _⟩ := hb
    have hsz := Nat.eq_of_beq_eq_true hsz
    have hbs : 0 < (T.row e).bs := by simpa using hbs
    obtain ⟨ie, ze, hre⟩ := hT.is (knownT_ne hke)
    have hs1 : ie.size = 1 := by rw [← hre.sz]; exact hsz
    split at h
    · next p0 zs hsrc =>
      simp only [Option.some.injEq, Prod.mk.injEq] at h
      obtain ⟨rfl, rfl⟩ := h
      obtain ⟨hp0, hp1, hp2⟩ := hp
      have hp1 : (0 : Int) < (zs.length : Int) := hp1
      have hp2 : ((T.row e).bs : Int) * ((ys.length : Int) + (zs.length : Int)) ≤ 140737488355328 := hp2
      have hp2' : ((T.row e).bs : Int) * ((ys.length + zs.length : Nat) : Int) ≤ 140737488355328 := by rw [Int.natCast_add]; exact hp2
      obtain ⟨hb1, hb2⟩ := bytes_len (n := ys.length + zs.length) hbs hp2'
      have hmx : maxLen = 9223372036854775807 := maxLen_val
      obtain ⟨B, c, rfl, h1⟩ := (srcV_ok hm hx hsrc hp0).ex
      simp only [Src.n] at h1
      obtain ⟨b, off, rfl, h2⟩ := h1 (by omega)
      obtain ⟨news, q1, q2, q3, q4⟩ := src_list (by omega) h2
      rw [Nat.mul_one] at q1
      obtain ⟨A, rfl, g1, g2⟩ := hs
      obtain ⟨cap', hcap'⟩ : ∃ cap', cap' = grownCap w (ys.length + zs.length) ys.length e := ⟨_, rfl⟩
      have hge : ys.length + zs.length ≤ cap' := by rw [hcap']; exact grownCap_ge w _ _ e
      have hle : cap' ≤ maxLen := by rw [hcap']; exact grownCap_le_maxLen w _ _ e hb2
      have old : ∃ olds : List Value, olds.length = ys.length ∧ (∀ j, j < ys.length → olds[j]? = some (.int .i64 (ys.getD j 0))) ∧
          (Builtin.append_ #[t, t] ty #[.slice A ys.length ys.length, .slice (some ⟨b, off, none⟩) zs.length c]).run P w = .ok (.slice (some ⟨w.heap.size, 0, none⟩) (ys.length + zs.length) cap') (w.drew.alloc (.cells (olds.toArray ++ news.toArray ++ Builtin.zeroCells ze.cells (cap' - (ys.length + zs.length))) e)) := by
        obtain ⟨olds, ho⟩ : ∃ olds, olds = ys.map fun n => Value.int .i64 n := ⟨_, rfl⟩
        have hol : olds.length = ys.length := by rw [ho, List.length_map]
        have hog : ∀ j, j < ys.length → olds[j]? = some (.int .i64 (ys.getD j 0)) := fun j hj => by
          rw [ho, List.getElem?_map]
          simp [List.getD, hj]
        refine ⟨olds, hol, hog, ?_⟩
        cases A with
        | none =>
          have h0 : ys.length = 0 := by
            rcases Nat.eq_zero_or_pos ys.length with h | h
            · exact h
            · obtain ⟨_, _, h3, _⟩ := g2 h; cases h3
          have hy : ys = [] := List.eq_nil_of_length_eq_zero h0
          subst hy
          have hrun := run_append_nil (P := P) w t ty e ie ze hu hre.info hre.zero ⟨b, off, none⟩ zs.length c news (by rw [hs1, Nat.mul_one]; exact q1) q2 (by omega) (by omega) (by rw [← hre.bs]; simp only [List.length_nil, Nat.zero_add] at hb1; omega)
          have he : olds = [] := List.eq_nil_of_length_eq_zero hol
          simp only [List.length_nil, Nat.zero_add] at hcap' ⊢
          rw [he, hcap']
          simpa using hrun
        | some a =>
          have hrun := run_append_grow (P := P) w t ty e ie ze hu hre.info hre.zero a ys.length ys.length olds (by rw [hs1, Nat.mul_one]; exact hol) (fun j u hj => by
            have hjl : j < ys.length := by rw [← hol]; exact (List.getElem?_eq_some_iff.1 hj).1
            obtain ⟨b', off', ea, _, g3⟩ := g2 (by omega)
            cases ea
            rw [addr_add]
            rw [hog j hjl] at hj
            rw [← hj]
            exact g3 j hjl) ⟨b, off, none⟩ zs.length c news (by rw [hs1, Nat.mul_one]; exact q1) q2 (by omega) (by omega) (growslice_fits (by omega) (by rw [← hre.bs]; exact hb1))
          rw [hcap']
          exact hrun
      obtain ⟨olds, o1, o2, hrun⟩ := old
      obtain ⟨w', hw'⟩ : ∃ w', w' = w.drew.alloc (.cells (olds.toArray ++ news.toArray ++ Builtin.zeroCells ze.cells (cap' - (ys.length + zs.length))) e) := ⟨_, rfl⟩
      have hevo : Evo w φ w' φ := by
        rw [hw']
        exact ⟨rfl, rfl, rfl, by simp, fun b hb _ => heap_alloc_old w.drew _ hb, fun t r ht hp _ hn => hn t r ht hp rfl, fun _ r h => ⟨r, h, rfl, rfl, Nat.le_refl _, fun _ => rfl⟩, (by first | exact Nat.le_refl _ | exact Nat.le_succ _)⟩
      refine ⟨_, w', by rw [hw']; exact hrun, hm.evo hevo (fun t r ht hp => by rw [hw']; exact heap_alloc_old w.drew _ (hm.lt ht hp)), ?_, hevo, fun t r h => .inl ⟨r, h⟩⟩
      have hl : (ys ++ zs).length = ys.length + zs.length := List.length_append
      refine ⟨_, cap', by rw [hl], by rw [hl]; exact hge, hle, fun _ => ⟨w.heap.size, 0, rfl, hm.fresh (Nat.le_refl _), fun _ => hm.le, fun j hj => ?_⟩⟩
      rw [hl] at hj
      have hrow : w'.heap[w.heap.size]? = some (.cells (olds.toArray ++ news.toArray ++ Builtin.zeroCells ze.cells (cap' - (ys.length + zs.length))) e (0, 0)) := by rw [hw']; exact heap_alloc_new w.drew _
      rw [cell_of_row w' w.heap.size (0 + j) _ e (0, 0) hrow, Nat.zero_add, Array.append_assoc]
      by_cases hj1 : j < ys.length
      · rw [Array.getElem?_append_left (by simp; omega)]
        have := o2 j hj1
        simp only [List.getElem?_toArray, this]
        congr 2
        simp [List.getD, List.getElem?_append_left hj1]
      · rw [Array.getElem?_append_right (by simp; omega), Array.getElem?_append_left (by simp; omega)]
        obtain ⟨u, e1, _, e3⟩ := q4 (j - ys.length) 0 (by omega) (by omega)
        rw [Nat.mul_one, Nat.add_zero] at e1
        have e3 : u = .int .i64 (zs.getD (j - ys.length) 0) := e3
        simp only [List.size_toArray, List.getElem?_toArray, o1, e1, e3]
        congr 2
        simp [List.getD, List.getElem?_append_right (show ys.length ≤ j by omega)]
    · cases h


/-! Maps from int to int. -/
theorem isMapI_und (hT : TabOk P T) {t : Nat} (h : isMapI T t = true) : ∃ k e, P.underlying t = some (.map k e) ∧ P.underlying k = some (.int .i64) ∧ ∀ w, (zeroValue e).run P w = .ok (.int .i64 0) w := by
  unfold isMapI at h
  cases hd : (T.row t).d with
  | map k e =>
    rw [hd] at h
    simp only at h
    cases hk : (T.row k).d with
    | int q =>
      cases he : (T.row e).d with
      | int q' =>
        rw [hk, he] at h
        cases q <;> cases q' <;> first | cases h | skip
        obtain ⟨i1, z1, r1⟩ := hT.is (t := t) (by rw [hd]; exact fun h => nomatch h)
        obtain ⟨i2, z2, r2⟩ := hT.is (t := k) (by rw [hk]; exact fun h => nomatch h)
        obtain ⟨i3, z3, r3⟩ := hT.is (t := e) (by rw [he]; exact fun h => nomatch h)
        refine ⟨k, e, und_map (r1.d.symm.trans hd), und_int (r2.d.symm.trans hk), fun w => ?_⟩
        have hz := r3.zint .i64 (r3.d.symm.trans he)
        have hz2 := r3.zero
        rw [hz] at hz2
        simp [zeroValue, typeInfo, r3.info, hz2]
      | _ => rw [hk, he] at h; cases q <;> cases h
    | _ => rw [hk] at h; cases h
  | _ => rw [hd] at h; cases h
theorem mapIs_find {x : Int} : ∀ (es : List (Int × Int)) (A : List MapEntry) (i : Nat), MapIs es A → match lookM es x with
    | none => Instr.findNow (.int .i64) (.int .i64 x) A i = some none ∧ putM es x = fun y => es ++ [(x, y)]
    | some v => ∃ j, j < A.length ∧ Instr.findNow (.int .i64) (.int .i64 x) A i = some (some (i + j, .int .i64 v)) ∧ (A[j]?.map (·.key)) = some (.int .i64 x) ∧ ∀ (y : Int), MapIs (putM es x y) (A.modify j fun e => { e with key := .int .i64 x, val := .int .i64 y })
  | [], [], i, _ => ⟨rfl, rfl⟩
  | [], _ :: _, _, h => by cases h
  | _ :: _, [], _, h => by cases h
  | (k, v) :: r, e :: A, i, h => by
    unfold MapIs at h
    simp only [List.map_cons, List.cons.injEq, Prod.mk.injEq] at h
    obtain ⟨⟨h1, h2⟩, h3⟩ := h
    have ih := mapIs_find (x := x) r A (i + 1) h3
    simp only [lookM, putM]
    have hs : Instr.sameNow (.int .i64) (.int .i64 x) e.key = some (x == k) := by rw [h1]; simp [Instr.sameNow]
    cases hx : (x == k) with
    | true =>
      simp only [cond_true]
      refine ⟨0, by simp, ?_, ?_, fun y => ?_⟩
      · simp [Instr.findNow, hs, hx, h2]
      · have hxk : x = k := by simpa using hx
        simp [h1, hxk]
      · unfold MapIs
        simp only [List.modify_zero_cons, List.map_cons, List.cons.injEq, true_and]
        exact h3
    | false =>
      simp only [cond_false]
      cases hl : lookM r x with
      | none =>
        rw [hl] at ih
        simp only at ih ⊢
        refine ⟨by simp [Instr.findNow, hs, hx, ih.1], ?_⟩
        funext y
        rw [ih.2]
        rfl
      | some u =>
        rw [hl] at ih
        simp only at ih ⊢
        obtain ⟨j, g1, g2, g3, g4⟩ := ih
        refine ⟨j + 1, by simp; omega, ?_, by simpa using g3, fun y => ?_⟩
        · simp only [Instr.findNow, hs, hx, g2]
          congr 3
          omega
        · have := g4 y
          unfold MapIs at this ⊢
          simp only [List.modify_succ_cons, List.map_cons, List.cons.injEq, Prod.mk.injEq]
          exact ⟨⟨h1, h2⟩, this⟩
theorem checkKey_int {k : TypeId} (hk : P.underlying k = some (.int .i64)) (em : Bool) (n : Nat) (x : Int) (w : World) : (Instr.checkKey em (n + 1) k (.int .i64 x)).run P w = .ok () w := by
  unfold Instr.checkKey
  simp [run_underlying hk]

theorem findKey_int {k : TypeId} (hk : P.underlying k = some (.int .i64)) {x : Int} {A : List MapEntry} {r : Option (Nat × Value)} (h : Instr.findNow (.int .i64) (.int .i64 x) A 0 = some r) (w : World) : (Instr.findKey k (.int .i64 x) A).run P w = .ok r w := by
  unfold Instr.findKey
  simp [run_underlying hk, h]
theorem getObj_map {w : World} {r : Nat} {A : Array MapEntry} {c : Nat} (hb : w.heap[r]? = some (.map A c)) : (getObj r).run P w = .ok (.map A c) w := by simp [getObj, Sem.run, hb]
theorem setObj_map {w : World} {r : Nat} {A : Array MapEntry} {c : Nat} (o : Obj) (hb : w.heap[r]? = some (.map A c)) : (setObj r o).run P w = .ok () (w.putObj r o) := by simp [setObj, Sem.run, hb, World.putObj]
theorem stays_int (x : Int) (w : World) : (Instr.keyThatStays (.int .i64 x) (.int .i64 x)).run P w = .ok (.int .i64 x) w := by
  unfold Instr.keyThatStays
  rw [show Instr.sameBits 10000 (.int .i64 x) (.int .i64 x) = true from by
    show (IntKind.i64 == IntKind.i64 && x == x) = true
    simp]
  rfl

theorem new_map {nb base nm : Nat} {φ : Phi} {w : World} {M : Mem} (hm : MemRel nb base φ w M) (hn : φ nm = none) (t : TypeId) :
    Step nb base nm φ w (.mp nm) (M.put nm ⟨t, 1, 0, .mpi []⟩) (.map (some w.heap.size)) (w.alloc (.map #[] 0)) (φ.upd nm ⟨w.heap.size, 1, 0, 1, t, 0⟩) := by
  have hevo : Evo w φ (w.alloc (.map #[] 0)) (φ.upd nm ⟨w.heap.size, 1, 0, 1, t, 0⟩) := by
    refine ⟨rfl, rfl, rfl, by simp, fun b hb _ => heap_alloc_old w _ hb, fun t r ht hcp hlt hnl => ?_, fun t r ht => ?_, (by first | exact Nat.le_refl _ | exact Nat.le_succ _)⟩
    · by_cases h : t = nm
      · subst h
        rw [Phi.upd_same] at ht
        cases ht
        exact absurd hlt (by simp)
      · rw [Phi.upd_other _ _ h] at ht
        exact hnl t r ht hcp rfl
    · have h : t ≠ nm := fun h => by subst h; rw [hn] at ht; cases ht
      exact ⟨r, by rw [Phi.upd_other _ _ h]; exact ht, rfl, rfl, Nat.le_refl _, fun _ => rfl⟩
  refine ⟨⟨fun t r ht => ?_, fun t t' r r' ht ht' hp hp' hg => ?_, fun t r ht hnb hp => ?_, by have := hm.le; simp; omega⟩, ⟨_, Phi.upd_same _ _ _, rfl, fun _ => ⟨Nat.le_refl _, rfl⟩⟩, hevo, fun s r h => ?_⟩
  · by_cases h : t = nm
    · subst h
      rw [Phi.upd_same] at ht
      cases ht
      refine ⟨_, Mem.get_put_same M t _, rfl, rfl, rfl, rfl, Nat.le_refl _, Nat.zero_le _, (by decide : 1 ≤ maxLen), fun _ => by simp, ?_, fun hC => nomatch hC⟩
      exact ⟨Nat.le_refl _, rfl, #[], 0, heap_alloc_new w _, rfl⟩
    · rw [Phi.upd_other _ _ h] at ht
      obtain ⟨o', k1, k2⟩ := hm.obj t r ht
      exact ⟨o', by rw [Mem.get_put_other M h]; exact k1, k2.evo hevo (fun hp => heap_alloc_old w _ (hm.lt ht hp))⟩
  · by_cases h : t = nm <;> by_cases h' : t' = nm
    · rw [h, h']
    · subst h
      rw [Phi.upd_same] at ht
      rw [Phi.upd_other _ _ h'] at ht'
      cases ht
      have := hm.lt ht' hp'
      simp only at hg
      omega
    · subst h'
      rw [Phi.upd_same] at ht'
      rw [Phi.upd_other _ _ h] at ht
      cases ht'
      have := hm.lt ht hp
      simp only at hg
      omega
    · rw [Phi.upd_other _ _ h] at ht
      rw [Phi.upd_other _ _ h'] at ht'
      exact hm.inj t t' r r' ht ht' hp hp' hg
  · by_cases h : t = nm
    · subst h
      rw [Phi.upd_same] at ht
      cases ht
      exact hm.le
    · rw [Phi.upd_other _ _ h] at ht
      exact hm.own t r ht hnb hp
  · by_cases hs : s = nm
    · exact .inr hs
    · rw [Phi.upd_other _ _ hs] at h
      exact .inl ⟨r, h⟩

/-- A map's entries, and what comes of others in their place. -/
theorem step_map {nb base : Nat} {φ : Phi} {w : World} {M : Mem} (hm : MemRel nb base φ w M) {t : Nat} {r : Row} (ht : φ t = some r) {e : TypeId} {s ver : Nat} {es : List (Int × Int)} (ho : M.get t = some ⟨e, s, ver, .mpi es⟩) :
    0 < r.cap ∧ r.ver = 0 ∧ ∃ A c, w.heap[r.g]? = some (.map A c) ∧ MapIs es A.toList ∧ ∀ (es' : List (Int × Int)) (A' : Array MapEntry) (c' : Nat), MapIs es' A'.toList →
      MemRel nb base φ (w.putObj r.g (.map A' c')) (M.put t ⟨e, s, ver, .mpi es'⟩) ∧ Evo w φ (w.putObj r.g (.map A' c')) φ := by
  obtain ⟨ob, h1, h2⟩ := hm.obj t r ht
  rw [ho] at h1
  cases h1
  obtain ⟨k1, k2, A, c, hA, hes⟩ := h2.spec
  refine ⟨k1, k2, A, c, hA, hes, fun es' A' c' he' => ?_⟩
  have hevo : Evo w φ (w.putObj r.g (.map A' c')) φ :=
    ⟨rfl, rfl, rfl, by simp, fun b _ hn => World.putObj_heap_other (fun e => hn t r ht k1 e.symm), fun s r' hs hp _ hn => hn s r' hs hp rfl, fun s r' hs => ⟨r', hs, rfl, rfl, Nat.le_refl _, fun _ => rfl⟩, (by first | exact Nat.le_refl _ | exact Nat.le_succ _)⟩
  refine ⟨⟨fun s r' hs => ?_, hm.inj, hm.own, by simpa using hm.le⟩, hevo⟩
  by_cases h : s = t
  · subst h
    rw [ht] at hs
    cases hs
    exact ⟨_, Mem.get_put_same M s _, h2.n, h2.ver, h2.sz, h2.e, h2.pos, h2.le, h2.max, fun hp => by simpa using h2.dom hp, ⟨k1, k2, _, _, World.putObj_heap_same (h2.dom k1), he'⟩, fun hC => nomatch hC⟩
  · obtain ⟨o', g1, g2⟩ := hm.obj s r' hs
    exact ⟨o', by rw [Mem.get_put_other M h]; exact g1, g2.evo hevo (fun hp => World.putObj_heap_other (fun e => h (hm.inj s t r' r hs ht hp k1 e)))⟩

theorem aMap_ok (hT : TabOk P T) {nb base nm : Nat} {φ : Phi} {w : World} {M M' : Mem} (hm : MemRel nb base φ w M) (hn : φ nm = none) {o : Oper} {ev : Operand → V} {ρ : Operand → Value} (hev : ∀ x, Rep φ base w (ev x) (ρ x)) {v : V} (h : aMap T nm o.op ev M = some (v, M')) :
    Runs nb base nm φ w v M' ((execOp ρ o).run P w) := by
  unfold aMap at h
  unfold execOp
  split at h
  · next t hop =>
    rw [hop]
    cases hb : isMapI T t with
    | false => rw [hb] at h; cases h
    | true =>
      rw [hb] at h
      cases h
      exact ⟨_, _, _, .inl (by simp [Instr.makeMap]), new_map hm hn t⟩
  · next t x i ok hop =>
    rw [hop]
    split at h
    · next n k hx hi =>
      split at h
      · next te sz ver es hM =>
        cases hb : isMapI T t with
        | false => rw [hb] at h; cases h
        | true =>
          rw [hb] at h
          cases h
          obtain ⟨kt, et, u1, u2, u3⟩ := isMapI_und hT hb
          have rx := hev x
          have ri := hev i
          rw [hx] at rx
          rw [hi] at ri
          obtain ⟨r, hr, _, hv⟩ := rx
          have ri : ρ i = .int .i64 k := ri
          obtain ⟨k1, k2, A, c, hA, hes, _⟩ := step_map hm hr hM
          obtain ⟨_, hv⟩ := hv k2
          have hf := mapIs_find (x := k) es A.toList 0 hes
          have fin : ∀ (z : Value), Rep φ base w (lookV es k ok) z → (Instr.lookup t (ρ x) (ρ i) ok).run P w = .ok z w → Runs nb base nm φ w (lookV es k ok) M ((do pure (.value (← Instr.lookup t (ρ x) (ρ i) ok)) : Sem Next).run P w) := fun z hz hr => Runs.val hm hr hz
          have ck := checkKey_int (P := P) u2 A.isEmpty 9999 k w
          cases hl : lookM es k with
          | none =>
            rw [hl] at hf
            refine fin (if ok then .tuple #[.int .i64 0, .bool false] else .int .i64 0) ?_ ?_
            · cases ok with
              | true =>
                refine ⟨_, rfl, rfl, fun q hq => ?_⟩
                rcases (by omega : q = 0 ∨ q = 1) with rfl | rfl
                · exact ⟨_, rfl, by rw [hl]; rfl⟩
                · exact ⟨_, rfl, by rw [hl]; rfl⟩
              | false =>
                show _ = Value.int .i64 ((lookM es k).getD 0)
                rw [hl]
                rfl
            · unfold Instr.lookup
              simp [run_underlying u1, hv, ri, getObj_map hA, ck, findKey_int u2 hf.1, u3]
          | some u =>
            rw [hl] at hf
            obtain ⟨j, g1, g2, g3, _⟩ := hf
            refine fin (if ok then .tuple #[.int .i64 u, .bool true] else .int .i64 u) ?_ ?_
            · cases ok with
              | true =>
                refine ⟨_, rfl, rfl, fun q hq => ?_⟩
                rcases (by omega : q = 0 ∨ q = 1) with rfl | rfl
                · exact ⟨_, rfl, by rw [hl]; rfl⟩
                · exact ⟨_, rfl, by rw [hl]; rfl⟩
              | false =>
                show _ = Value.int .i64 ((lookM es k).getD 0)
                rw [hl]
                rfl
            · unfold Instr.lookup
              simp [run_underlying u1, hv, ri, getObj_map hA, ck, findKey_int u2 g2]
      · cases h
    · cases h
  · next t m k x hop =>
    rw [hop]
    split at h
    · next n kk y hx hi hy =>
      split at h
      · next te sz ver es hM =>
        cases hb : isMapI T t with
        | false => rw [hb] at h; cases h
        | true =>
          rw [hb] at h
          cases h
          obtain ⟨kt, et, u1, u2, u3⟩ := isMapI_und hT hb
          have rx := hev m
          have ri := hev k
          have ry := hev x
          rw [hx] at rx
          rw [hi] at ri
          rw [hy] at ry
          obtain ⟨r, hr, _, hv⟩ := rx
          have ri : ρ k = .int .i64 kk := ri
          have ry : ρ x = .int .i64 y := ry
          obtain ⟨k1, k2, A, c, hA, hes, hst⟩ := step_map hm hr hM
          obtain ⟨_, hv⟩ := hv k2
          have hf := mapIs_find (x := kk) es A.toList 0 hes
          have ck := checkKey_int (P := P) u2 false 9999 kk w
          have fin : ∀ (A' : Array MapEntry) (c' : Nat), MapIs (putM es kk y) A'.toList → (Instr.mapUpdate t (ρ m) (ρ k) (ρ x)).run P w = .ok () (w.putObj r.g (.map A' c')) → Runs nb base nm φ w .any (M.put n ⟨te, sz, ver, .mpi (putM es kk y)⟩) ((do Instr.mapUpdate t (ρ m) (ρ k) (ρ x); pure .skip : Sem Next).run P w) := by
            intro A' c' h1 h2
            obtain ⟨q1, q2⟩ := hst _ A' c' h1
            exact ⟨undef, _, φ, .inr ⟨by simp [h2], rfl⟩, q1, trivial, q2, fun _ r h => .inl ⟨r, h⟩⟩
          cases hl : lookM es kk with
          | none =>
            rw [hl] at hf
            refine fin (A.push { key := .int .i64 kk, val := .int .i64 y, born := c }) (c + 1) ?_ ?_
            · unfold MapIs at hes ⊢
              rw [hf.2]
              simp only [Array.toList_push, List.map_append, hes]
              rfl
            · unfold Instr.mapUpdate
              simp [run_underlying u1, hv, ri, ry, getObj_map hA, ck, findKey_int u2 hf.1, setObj_map _ hA]
          | some u =>
            rw [hl] at hf
            obtain ⟨j, g1, g2, g3, g4⟩ := hf
            have g3' : ((A[j]?).map (·.key)).getD (.int .i64 kk) = .int .i64 kk := by
              rw [← Array.getElem?_toList, g3]
              rfl
            refine fin (A.modify j fun e => { e with key := .int .i64 kk, val := .int .i64 y }) c ?_ ?_
            · rw [Array.toList_modify]
              exact g4 y
            · unfold Instr.mapUpdate
              rw [Nat.zero_add] at g2
              simp [run_underlying u1, hv, ri, ry, getObj_map hA, ck, findKey_int u2 g2, g3', stays_int, setObj_map _ hA]
      · cases h
    · cases h
  · cases h


end
end Go.Tri

/-
  SOUNDNESS, SEVENTH PART: builtins, calls, regions in the text's order, code, functions.
-/
namespace Go.Tri
variable {lo : Nat}
open Go.RowKit

section
variable {P : Program} {T : Tab}

theorem St.evalAll {nt nb base : Nat} {φ : Phi} {w : World} {M : Mem} {e : Env} {a : Act} (h : St lo nt nb base φ w M e a) (x : Operand) : Rep φ base w (evA e x) (a.eval x) := h.eval x

/-! ## Readings as immutable values -/

theorem view_ok {nb base base' : Nat} {φ : Phi} {w : World} {M : Mem} (hm : MemRel nb base φ w M) {t ver off len : Nat} {ob : Ob} {v : Value} (hx : Rep φ base w (.sl t ver off len) v) (ho : M.get t = some ob) (hver : ver = ob.ver)
    (fr : Bool) (hfr : fr = true → ∀ r, φ t = some r → 0 < r.cap → base' ≤ r.g) {F : V → V} (hF : ∀ x c, Rep φ base w x c → Rep (fun _ => none) base' w (F x) c) :
    Rep (fun _ => none) base' w (view fr ob off len F) v := by
  obtain ⟨r, hrr, _, hle, hv⟩ := hx
  obtain ⟨ob', ho', hrel⟩ := hm.obj t r hrr
  rw [ho] at ho'
  cases ho'
  obtain ⟨g1, A, rfl, g2⟩ := hv (by rw [← hrel.ver, hver])
  have hcap := hrel.le
  have hmax := hrel.max
  have hnl : notLive (fun _ => none) r.g := fun t r h => nomatch h
  have cell : ∀ j o, j < len → o < r.sz → ∃ c, w.cell? ⟨r.g, off * r.sz + (j * r.sz + o), none⟩ = some c ∧ c.oneCell' = true ∧ Rep φ base w (ob.c.f (off + j) o) c := by
    intro j o hj hoo
    obtain ⟨c, e1, e2, e3⟩ := hrel.cell (j := off + j) (k := o) (by omega) hoo
    exact ⟨c, by rw [← e1, Nat.add_mul, Nat.add_assoc], e2, e3⟩
  unfold view
  split
  · next xs hc =>
    have hn := hrel.n
    rw [hc] at hn
    simp only [Con.n] at hn
    have hlen : ((xs.drop off).take len).length = len := by rw [List.length_take, List.length_drop]; omega
    cases hz : Nat.beq ob.sz 1 with
    | false => simp only [cond_false]; trivial
    | true =>
      simp only [cond_true]
      have hz : r.sz = 1 := by rw [← hrel.sz]; exact Nat.eq_of_beq_eq_true hz
      refine ⟨A, r.cap - off, by rw [hlen], by rw [hlen]; omega, by omega, fun h0 => ?_⟩
      rw [hlen] at h0
      refine ⟨r.g, off * r.sz, g2 (by omega), hnl, fun hf => hfr hf r hrr (by omega), fun j hj => ?_⟩
      rw [hlen] at hj
      obtain ⟨c, e1, _, e3⟩ := cell j 0 hj (by omega)
      rw [hc] at e3
      rw [hz] at e1 ⊢
      simp only [Nat.mul_one, Nat.add_zero] at e1 ⊢
      have e3 : c = .int .i64 (xs.getD (off + j) 0) := e3
      rw [e1, e3]
      simp [List.getD, List.getElem?_take_of_lt hj]
  · next xs hc =>
    have hn := hrel.n
    rw [hc] at hn
    simp only [Con.n] at hn
    have hlen : ((xs.drop off).take len).length = len := by rw [List.length_take, List.length_drop]; omega
    cases hz : Nat.beq ob.sz 1 with
    | false => simp only [cond_false]; trivial
    | true =>
      simp only [cond_true]
      have hz : r.sz = 1 := by rw [← hrel.sz]; exact Nat.eq_of_beq_eq_true hz
      refine ⟨A, r.cap - off, by rw [hlen], by rw [hlen]; omega, by omega, fun h0 => ?_⟩
      rw [hlen] at h0
      refine ⟨r.g, off * r.sz, g2 (by omega), hnl, fun hf => hfr hf r hrr (by omega), fun j hj => ?_⟩
      rw [hlen] at hj
      obtain ⟨c, e1, _, e3⟩ := cell j 0 hj (by omega)
      rw [hc] at e3
      rw [hz] at e1 ⊢
      simp only [Nat.mul_one, Nat.add_zero] at e1 ⊢
      have e3 : c = .int .i64 (xs.getD (off + j) 0) := e3
      rw [e1, e3]
      simp [List.getD, List.getElem?_take_of_lt hj]
  · refine ⟨A, r.cap - off, rfl, by omega, by omega, by rw [hrel.sz]; exact hrel.pos, fun h0 => ⟨r.g, off * r.sz, g2 (by omega), hnl, fun hf => hfr hf r hrr (by omega), fun j o hj hoo => ?_⟩⟩
    rw [hrel.sz] at hoo ⊢
    obtain ⟨c, e1, e2, e3⟩ := cell j o hj hoo
    exact ⟨c, e1, e2, hF _ _ e3⟩

theorem notLive_none (b : Nat) : notLive (fun _ => none) b := fun _ _ h => nomatch h

def Mem.le (M M' : Mem) : Prop := ∀ t o, M.get t = some o → M'.get t = some o

theorem byvalN_ok {nb base : Nat} {φ : Phi} {w : World} {M' M : Mem} (hm : MemRel nb base φ w M') (hle' : M.le M') : ∀ (d : Nat) (x : V) (v : Value), Rep φ base w x v → Rep (fun _ => none) 0 w (byvalN M d x) v := by
  intro d
  induction d with
  | zero => exact fun x v _ => trivial
  | succ d ih =>
    intro x v hx
    cases x with
    | lit u => exact hx
    | ints fr xs =>
      obtain ⟨A, cap, rfl, h1, h2, h4⟩ := hx
      refine ⟨A, cap, rfl, h1, h2, fun hn => ?_⟩
      obtain ⟨b, off, rfl, g1, g2, g3⟩ := h4 hn
      exact ⟨b, off, rfl, notLive_none b, fun _ => Nat.zero_le b, g3⟩
    | seq fr sz n f =>
      obtain ⟨A, cap, rfl, h1, h2, h3, h4⟩ := hx
      refine ⟨A, cap, rfl, h1, h2, h3, fun hn => ?_⟩
      obtain ⟨b, off, rfl, g1, g2, g3⟩ := h4 hn
      refine ⟨b, off, rfl, notLive_none b, fun _ => Nat.zero_le b, fun j o hj ho => ?_⟩
      obtain ⟨c, e1, e2, e3⟩ := g3 j o hj ho
      exact ⟨c, e1, e2, ih _ _ e3⟩
    | sl t ver off len =>
      simp only [byvalN]
      cases ho : M.get t with
      | none => trivial
      | some ob =>
        cases hv : Nat.beq ver ob.ver with
        | false => simp only [hv, cond_false]; trivial
        | true => simp only [hv, cond_true]; exact view_ok hm hx (hle' t ob ho) (Nat.eq_of_beq_eq_true hv) false (fun h => nomatch h) (fun x c h => ih x c h)
    | ptr t ver i o =>
      simp only [byvalN]
      cases ho : M.get t with
      | none => trivial
      | some ob =>
        cases hv : Nat.beq ver ob.ver with
        | false => simp only [hv, cond_false]; trivial
        | true =>
          simp only [hv, cond_true]
          obtain ⟨r, hrr, _, hle, hvv⟩ := hx
          obtain ⟨ob', ho', hrel⟩ := hm.obj t r hrr
          rw [hle' t ob ho] at ho'
          cases ho'
          obtain ⟨rfl, hi⟩ := hvv (by rw [← hrel.ver, Nat.eq_of_beq_eq_true hv])
          obtain ⟨c0, e0, _⟩ := hrel.cell hi hrel.pos
          refine ⟨r.g, i * r.sz, rfl, World.block_lt_of_cell? w _ e0, notLive_none _, fun k hk => ?_⟩
          obtain ⟨c, e1, e2, e3⟩ := hrel.cell hi (show k < r.sz by rw [← hrel.sz]; exact hk)
          exact ⟨c, e1, e2, ih _ _ e3⟩
    | at_ sz g o =>
      obtain ⟨b, off, rfl, h0, h1, h2⟩ := hx
      refine ⟨b, off, rfl, h0, notLive_none b, fun k hk => ?_⟩
      obtain ⟨c, e1, e2, e3⟩ := h2 k hk
      exact ⟨c, e1, e2, ih _ _ e3⟩
    | agg n g =>
      obtain ⟨cs, rfl, h1, h2⟩ := hx
      exact ⟨cs, rfl, h1, fun i hi => by obtain ⟨c, e1, e2, e3⟩ := h2 i hi; exact ⟨c, e1, e2, ih _ _ e3⟩⟩
    | tup n g =>
      obtain ⟨cs, rfl, h1, h2⟩ := hx
      exact ⟨cs, rfl, h1, fun i hi => by obtain ⟨c, e1, e2⟩ := h2 i hi; exact ⟨c, e1, ih _ _ e2⟩⟩
    | clo f n g =>
      obtain ⟨cs, rfl, h1, h2⟩ := hx
      exact ⟨cs, rfl, h1, fun i hi => by obtain ⟨c, e1, e2⟩ := h2 i hi; exact ⟨c, e1, ih _ _ e2⟩⟩
    | emp => exact hx
    | any => trivial
    | yld t => trivial
    | mp t => trivial
    | full xs =>
      obtain ⟨A, rfl, h2, h4⟩ := hx
      refine ⟨A, xs.length, rfl, Nat.le_refl _, h2, fun hn => ?_⟩
      obtain ⟨b, off, rfl, g1, g3⟩ := h4 hn
      exact ⟨b, off, rfl, notLive_none b, fun _ => Nat.zero_le b, g3⟩
    | ifc ty x =>
      obtain ⟨u, rfl, h1⟩ := hx
      exact ⟨u, rfl, ih _ _ h1⟩
    | bnd f n g =>
      obtain ⟨cs, rfl, h1, h2⟩ := hx
      exact ⟨cs, rfl, h1, fun i hi => by obtain ⟨c, e1, e2⟩ := h2 i hi; exact ⟨c, e1, ih _ _ e2⟩⟩

theorem byval_ok {nb base : Nat} {φ : Phi} {w : World} {M' M : Mem} (hm : MemRel nb base φ w M') (hle' : M.le M') (d : Nat) {x : V} {v : Value} (hx : Rep φ base w x v) (hv : (verOk M x).holds) : Rep (fun _ => none) 0 w (byval M d x) v := by
  cases x with
  | sl t ver off len =>
    simp only [byval]
    simp only [verOk] at hv
    cases ho : M.get t with
    | none => trivial
    | some ob =>
      rw [ho] at hv
      exact view_ok hm hx (hle' t ob ho) (eqnO_holds.1 hv) false (fun h => nomatch h) (fun x c h => byvalN_ok hm hle' d x c h)
  | ptr t ver i o =>
    simp only [byval]
    simp only [verOk] at hv
    cases ho : M.get t with
    | none => trivial
    | some ob =>
      rw [ho] at hv
      obtain ⟨r, hrr, _, hle, hvv⟩ := hx
      obtain ⟨ob', ho', hrel⟩ := hm.obj t r hrr
      rw [hle' t ob ho] at ho'
      cases ho'
      obtain ⟨rfl, hi⟩ := hvv (by rw [← hrel.ver, eqnO_holds.1 hv])
      obtain ⟨c0, e0, _⟩ := hrel.cell hi hrel.pos
      refine ⟨r.g, i * r.sz, rfl, World.block_lt_of_cell? w _ e0, notLive_none _, fun k hk => ?_⟩
      obtain ⟨c, e1, e2, e3⟩ := hrel.cell hi (show k < r.sz by rw [← hrel.sz]; exact hk)
      exact ⟨c, e1, e2, byvalN_ok hm hle' d _ _ e3⟩
  | _ => exact byvalN_ok hm hle' (d + 1) _ _ hx

theorem asInts_ok {φ : Phi} {base : Nat} {w : World} {t : TypeId} {x : V} {v : Value} (hx : Rep φ base w x v) : Rep φ base w (asInts T t x) v := by
  cases x with
  | emp =>
    obtain ⟨A, rfl, hnl⟩ := hx
    simp only [asInts]
    split
    · split
      · exact ⟨A, 0, rfl, Nat.le_refl _, by rw [maxLen_val]; omega, fun h => absurd h (by simp)⟩
      · exact ⟨A, rfl, hnl⟩
    · exact ⟨A, rfl, hnl⟩
  | _ => exact hx

theorem ownvalN_ok {base : Nat} {φ : Phi} {w : World} {M : Mem} (hm : MemRel 0 base φ w M) : ∀ (d : Nat) (x : V) (v : Value), Rep φ base w x v → Rep (fun _ => none) base w (ownvalN M d x) v := by
  intro d
  induction d with
  | zero => exact fun x v _ => trivial
  | succ d ih =>
    intro x v hx
    cases x with
    | lit u => exact hx
    | ints fr xs =>
      obtain ⟨A, cap, rfl, h1, h2, h4⟩ := hx
      refine ⟨A, cap, rfl, h1, h2, fun hn => ?_⟩
      obtain ⟨b, off, rfl, g1, g2, g3⟩ := h4 hn
      exact ⟨b, off, rfl, notLive_none b, g2, g3⟩
    | seq fr sz n f =>
      obtain ⟨A, cap, rfl, h1, h2, h3, h4⟩ := hx
      refine ⟨A, cap, rfl, h1, h2, h3, fun hn => ?_⟩
      obtain ⟨b, off, rfl, g1, g2, g3⟩ := h4 hn
      refine ⟨b, off, rfl, notLive_none b, g2, fun j o hj ho => ?_⟩
      obtain ⟨c, e1, e2, e3⟩ := g3 j o hj ho
      exact ⟨c, e1, e2, ih _ _ e3⟩
    | sl t ver off len =>
      simp only [ownvalN]
      cases ho : M.get t with
      | none => trivial
      | some ob =>
        cases hv : Nat.beq ver ob.ver with
        | false => simp only [hv, cond_false]; trivial
        | true => simp only [hv, cond_true]; exact view_ok hm hx ho (Nat.eq_of_beq_eq_true hv) true (fun _ r hr hp => hm.own t r hr (Nat.zero_le _) hp) (fun x c h => ih x c h)
    | ptr t ver i o => trivial
    | at_ sz g o => trivial
    | agg n g =>
      obtain ⟨cs, rfl, h1, h2⟩ := hx
      exact ⟨cs, rfl, h1, fun i hi => by obtain ⟨c, e1, e2, e3⟩ := h2 i hi; exact ⟨c, e1, e2, ih _ _ e3⟩⟩
    | tup n g =>
      obtain ⟨cs, rfl, h1, h2⟩ := hx
      exact ⟨cs, rfl, h1, fun i hi => by obtain ⟨c, e1, e2⟩ := h2 i hi; exact ⟨c, e1, ih _ _ e2⟩⟩
    | clo f n g => trivial
    | emp => exact hx
    | any => trivial
    | yld t => trivial
    | mp t => trivial
    | full xs => trivial
    | bnd f n g => trivial
    | ifc ty x =>
      obtain ⟨u, rfl, h1⟩ := hx
      exact ⟨u, rfl, ih _ _ h1⟩

theorem ownval_ok {base : Nat} {φ : Phi} {w : World} {M : Mem} (hm : MemRel 0 base φ w M) (d : Nat) {x : V} {v : Value} (hx : Rep φ base w x v) (hv : (verOk M x).holds) : Rep (fun _ => none) base w (ownval M d x) v := by
  cases x with
  | sl t ver off len =>
    simp only [ownval]
    simp only [verOk] at hv
    cases ho : M.get t with
    | none => trivial
    | some ob =>
      rw [ho] at hv
      exact view_ok hm hx ho (eqnO_holds.1 hv) true (fun _ r hr hp => hm.own t r hr (Nat.zero_le _) hp) (fun x c h => ownvalN_ok hm d x c h)
  | _ => exact ownvalN_ok hm (d + 1) _ _ hx

/-- What lies in memory of the callee's own is an immutable value for the caller. -/
theorem Rep_fresh {φ : Phi} {base s : Nat} {w : World} (hφ : ∀ t r, φ t = some r → 0 < r.cap → r.g < s) (hb : base ≤ s) : ∀ (x : V) (v : Value), Fr x → Rep (fun _ => none) s w x v → Rep φ base w x v := by
  have nl : ∀ b, s ≤ b → notLive φ b := fun b hb t r h hp e => by have := hφ t r h hp; omega
  intro x
  induction x with
  | lit u => exact fun v _ h => h
  | ints fr xs =>
    intro v hf hx
    have hf : fr = true := hf
    obtain ⟨A, cap, rfl, h1, h2, h4⟩ := hx
    refine ⟨A, cap, rfl, h1, h2, fun hn => ?_⟩
    obtain ⟨b, off, rfl, g1, g2, g3⟩ := h4 hn
    exact ⟨b, off, rfl, nl b (g2 hf), fun h => Nat.le_trans hb (g2 h), g3⟩
  | seq fr sz n f ih =>
    intro v hf hx
    obtain ⟨hf, hff⟩ := hf
    obtain ⟨A, cap, rfl, h1, h2, h3, h4⟩ := hx
    refine ⟨A, cap, rfl, h1, h2, h3, fun hn => ?_⟩
    obtain ⟨b, off, rfl, g1, g2, g3⟩ := h4 hn
    refine ⟨b, off, rfl, nl b (g2 hf), fun h => Nat.le_trans hb (g2 h), fun j o hj ho => ?_⟩
    obtain ⟨c, e1, e2, e3⟩ := g3 j o hj ho
    exact ⟨c, e1, e2, ih j o c (hff j o hj ho) e3⟩
  | sl t ver off len => exact fun v hf _ => hf.elim
  | ptr t ver i o => exact fun v hf _ => hf.elim
  | at_ sz g o _ => exact fun v hf _ => hf.elim
  | agg n g ih =>
    intro v hf hx
    obtain ⟨cs, rfl, h1, h2⟩ := hx
    exact ⟨cs, rfl, h1, fun i hi => by obtain ⟨c, e1, e2, e3⟩ := h2 i hi; exact ⟨c, e1, e2, ih i c (hf i hi) e3⟩⟩
  | tup n g ih =>
    intro v hf hx
    obtain ⟨cs, rfl, h1, h2⟩ := hx
    exact ⟨cs, rfl, h1, fun i hi => by obtain ⟨c, e1, e2⟩ := h2 i hi; exact ⟨c, e1, ih i c (hf i hi) e2⟩⟩
  | clo f n g _ =>
    intro v hf hx
    have hf : n = 0 := hf
    obtain ⟨cs, rfl, h1, _⟩ := hx
    exact ⟨cs, rfl, h1, fun i hi => by omega⟩
  | emp => exact fun v _ h => h
  | any => exact fun v _ _ => trivial
  | yld t => exact fun v hf _ => hf.elim
  | mp t => exact fun v hf _ => hf.elim
  | full xs => exact fun v hf _ => hf.elim
  | bnd f n g _ => exact fun v hf _ => hf.elim
  | ifc ty x ih =>
    intro v hf hx
    obtain ⟨u, rfl, h1⟩ := hx
    exact ⟨u, rfl, ih u hf h1⟩

end
end Go.Tri

/-
  SOUNDNESS, EIGHTH PART: builtins, calls, regions in the text's order.
-/
namespace Go.Tri
variable {lo : Nat}
open Go.RowKit

section
variable {P : Program} {T : Tab}

theorem eval_list {ev : Operand → V} {l : List Operand} {x : V} {r : List V} (h : l.map ev = x :: r) : ∃ o l', l = o :: l' ∧ ev o = x ∧ l'.map ev = r := by
  cases l with
  | nil => cases h
  | cons o l' => cases h; exact ⟨o, l', rfl, rfl, rfl⟩

theorem aBuiltin_ok (hT : TabOk P T) {nb base : Nat} {φ : Phi} {w : World} {M M' : Mem} (hm : MemRel nb base φ w M) {ev : Operand → V} {ρ : Operand → Value} (hev : ∀ x, Rep φ base w (ev x) (ρ x))
    {b : Builtin} {ts : Array TypeId} {ty : TypeId} {cs : Array Bool} {args : Array Operand} {p : Obl} {v : V} (h : aBuiltin T b ts.toList (args.toList.map ev) M = some (p, v, M')) (hp : p.holds) :
    M' = M ∧ ∃ cv, (builtin b ts ty cs (args.map ρ)).run P w = .ok (.value cv) w ∧ Rep φ base w v cv := by
  unfold aBuiltin at h
  split at h
  · next x t he ht =>
    obtain ⟨o, l', hl, ho, hl'⟩ := eval_list he
    have hl' : l' = [] := by simpa using hl'
    subst hl'
    have harr : args.map ρ = #[ρ o] := by apply Array.toList_inj.1; rw [Array.toList_map, hl]; rfl
    have htt : ts = #[t] := by apply Array.toList_inj.1; exact ht
    subst htt
    have hx := hev o
    rw [ho] at hx
    rw [harr]
    cases hd : (T.row t).d with
    | slice e =>
      obtain ⟨it, z, hr⟩ := hT.is (t := t) (by rw [hd]; exact fun h => nomatch h)
      have hu := und_slice (hr.d.symm.trans hd)
      rw [hd] at h
      simp only at h
      cases hq : lenV M x with
      | none => rw [hq] at h; cases h
      | some q =>
        obtain ⟨p', n⟩ := q
        rw [hq] at h
        simp only [Option.some.injEq, Prod.mk.injEq] at h
        obtain ⟨rfl, rfl, rfl⟩ := h
        have key : ∃ A len cap, ρ o = .slice A len cap ∧ n = (len : Int) := by
          cases x with
          | ints fr xs =>
            simp only [lenV, Option.some.injEq, Prod.mk.injEq] at hq
            obtain ⟨A, cap, hv, _⟩ := hx
            exact ⟨A, _, cap, hv, hq.2.symm⟩
          | seq fr sz m f =>
            simp only [lenV, Option.some.injEq, Prod.mk.injEq] at hq
            obtain ⟨A, cap, hv, _⟩ := hx
            exact ⟨A, _, cap, hv, hq.2.symm⟩
          | sl nm ver off len =>
            obtain ⟨r, hrr, _, hle, hv⟩ := hx
            obtain ⟨ob, hob, hrel⟩ := hm.obj nm r hrr
            simp only [lenV, hob, Option.some.injEq, Prod.mk.injEq] at hq
            obtain ⟨rfl, rfl⟩ := hq
            have hver := eqnO_holds.1 hp
            obtain ⟨_, A, hv, _⟩ := hv (by rw [← hrel.ver, hver])
            exact ⟨A, _, _, hv, rfl⟩
          | emp =>
            simp only [lenV, Option.some.injEq, Prod.mk.injEq] at hq
            obtain ⟨A, hv, _⟩ := hx
            exact ⟨A, 0, 0, hv, hq.2.symm⟩
          | _ => simp [lenV] at hq
        obtain ⟨A, len, cap, hv, rfl⟩ := key
        refine ⟨rfl, .int .i64 len, ?_, rfl⟩
        rw [hv]
        simp [builtin, Builtin.len_, run_underlying hu, goInt]
    | string =>
      obtain ⟨it, z, hr⟩ := hT.is (t := t) (by rw [hd]; exact fun h => nomatch h)
      have hu : P.underlying t = some .string := by
        have := hr.d.symm.trans hd
        unfold convD at this
        split at this <;> cases this
        assumption
      rw [hd] at h
      cases x with
      | lit u =>
        cases u with
        | string s =>
          simp only [Option.some.injEq, Prod.mk.injEq] at h
          obtain ⟨rfl, rfl, rfl⟩ := h
          have hx : ρ o = .string s := hx
          refine ⟨rfl, .int .i64 s.size, ?_, rfl⟩
          rw [hx]
          simp [builtin, Builtin.len_, run_underlying hu, goInt]
        | _ => simp at h
      | _ => simp at h
    | _ => rw [hd] at h; simp at h
  · next nl t he ht =>
    obtain ⟨o, l', hl, ho, hl'⟩ := eval_list he
    have hl' : l' = [] := by simpa using hl'
    subst hl'
    have harr : args.map ρ = #[ρ o] := by apply Array.toList_inj.1; rw [Array.toList_map, hl]; rfl
    have htt : ts = #[t] := by apply Array.toList_inj.1; exact ht
    subst htt
    have hx := hev o
    rw [ho] at hx
    rw [harr]
    cases hd : (T.row t).d with
    | slice e =>
      obtain ⟨it, z, hr⟩ := hT.is (t := t) (by rw [hd]; exact fun h => nomatch h)
      have hu := und_slice (hr.d.symm.trans hd)
      rw [hd] at h
      simp only [Option.some.injEq, Prod.mk.injEq] at h
      obtain ⟨rfl, rfl, rfl⟩ := h
      obtain ⟨A, hv, _⟩ := hx
      refine ⟨rfl, .int .i64 0, ?_, rfl⟩
      rw [hv]
      simp [builtin, Builtin.cap_, run_underlying hu, goInt]
    | _ => rw [hd] at h; cases h
  · next x y he =>
    obtain ⟨o1, l1, hl, ho1, hl1⟩ := eval_list he
    obtain ⟨o2, l2, rfl, ho2, hl2⟩ := eval_list hl1
    have hl2 : l2 = [] := by simpa using hl2
    subst hl2
    have harr : args.map ρ = #[ρ o1, ρ o2] := by apply Array.toList_inj.1; rw [Array.toList_map, hl]; rfl
    have h1 := hev o1
    have h2 := hev o2
    rw [ho1] at h1
    rw [ho2] at h2
    have h1 : ρ o1 = .int .i64 x := h1
    have h2 : ρ o2 = .int .i64 y := h2
    simp only [Option.some.injEq, Prod.mk.injEq] at h
    obtain ⟨rfl, rfl, rfl⟩ := h
    refine ⟨rfl, .int .i64 (maxI x y), ?_, rfl⟩
    rw [harr, h1, h2]
    simp [builtin, run_max_int2, maxI]
  · next x y z he =>
    obtain ⟨o1, l1, hl, ho1, hl1⟩ := eval_list he
    obtain ⟨o2, l2, rfl, ho2, hl2⟩ := eval_list hl1
    obtain ⟨o3, l3, rfl, ho3, hl3⟩ := eval_list hl2
    have hl3 : l3 = [] := by simpa using hl3
    subst hl3
    have harr : args.map ρ = #[ρ o1, ρ o2, ρ o3] := by apply Array.toList_inj.1; rw [Array.toList_map, hl]; rfl
    have h1 := hev o1
    have h2 := hev o2
    have h3 := hev o3
    rw [ho1] at h1
    rw [ho2] at h2
    rw [ho3] at h3
    have h1 : ρ o1 = .int .i64 x := h1
    have h2 : ρ o2 = .int .i64 y := h2
    have h3 : ρ o3 = .int .i64 z := h3
    simp only [Option.some.injEq, Prod.mk.injEq] at h
    obtain ⟨rfl, rfl, rfl⟩ := h
    refine ⟨rfl, .int .i64 (maxI (maxI x y) z), ?_, rfl⟩
    rw [harr, h1, h2, h3]
    simp [builtin, run_max_int3, maxI]
  · next x y he =>
    obtain ⟨o1, l1, hl, ho1, hl1⟩ := eval_list he
    obtain ⟨o2, l2, rfl, ho2, hl2⟩ := eval_list hl1
    have hl2 : l2 = [] := by simpa using hl2
    subst hl2
    have harr : args.map ρ = #[ρ o1, ρ o2] := by apply Array.toList_inj.1; rw [Array.toList_map, hl]; rfl
    have h1 := hev o1
    have h2 := hev o2
    rw [ho1] at h1
    rw [ho2] at h2
    have h1 : ρ o1 = .int .i64 x := h1
    have h2 : ρ o2 = .int .i64 y := h2
    simp only [Option.some.injEq, Prod.mk.injEq] at h
    obtain ⟨rfl, rfl, rfl⟩ := h
    refine ⟨rfl, .int .i64 (minI x y), ?_, rfl⟩
    rw [harr, h1, h2]
    simp [builtin, run_min_int2, minI]
  · cases h

theorem run_callFunc {f : FuncId} (h : FnOk P f) (args : Array Value) (w : World) : (callFunc f args).run P w = .ok (.enter f args) w := by
  obtain ⟨fn, h1, h2, h3⟩ := h
  have h2' : ¬ fn.name = "runtime.NumGoroutine" := by simpa using h2
  have h3' : ¬ fn.body = none := by intro e; rw [e] at h3; cases h3
  simp [callFunc, h1, h2', h3']

/-- What an operation leaves, calls too. -/
def Left (X : Cx) (base : Nat) (φ : Phi) (w : World) (o : Oper) (a : Act) (K : V → Mem → Prop) : Act → World → Prop := fun a' w' =>
  ∃ v M' φ' cv, K v M' ∧ MemRel X.nb base φ' w' M' ∧ Rep φ' base w' v cv ∧ Evo w φ w' φ' ∧ a' = a.put o.dst cv

theorem callsIn_FZ {ro : Option Nat} {n : Nat} {P : Program} {f : FuncId} {args : Array Value} {w : World} {R : Ending → World → Prop} (h : Calls P f args w R) : CallsIn (FZ ro) n P f args w R :=
  (callsIn_wide (n := n)).2 h
theorem roundIn_FZ {ro : Option Nat} {n l : Nat} {P : Program} {f : FuncId} {tmps : Array Value} {as bd : Code} {w : World} {R : Ending → World → Prop} (h : RoundIn Fence.wide 0 P l f tmps as bd w R) : RoundIn (FZ ro) n P l f tmps as bd w R :=
  ⟨trivial, fun c cs _ => h.2 c cs (room_wide _)⟩
theorem FZ_depth {ro : Option Nat} {p : Prop} : (FZ ro).depth.isSome = true → p := fun h => nomatch h

theorem Runs.left {X : Cx} {ro : Option Nat} {base nm : Nat} {φ : Phi} {w : World} {v : V} {M' : Mem} {o : Oper} {a : Act} {K : V → Mem → Prop} {Q : Exit → Act → World → Prop} (hd : ∀ c, o.op ≠ .defer c) (h : Runs X.nb base nm φ w v M' ((execOp a.eval o).run X.P w)) (hK : K v M') :
    o.wpIn (FZ ro) 0 X.P a w (Left X base φ w o a K) Q := by
  obtain ⟨cv, w', φ', hr, hs⟩ := h
  unfold Oper.wpIn
  refine ⟨fun _ _ => trivial, ?_⟩
  rw [Oper.semAt_eq _ _ _ hd]
  rcases hr with hr | ⟨hr, rfl⟩
  · rw [hr]
    exact ⟨v, M', φ', cv, hK, hs.mem, hs.rep, hs.evo, rfl⟩
  · rw [hr]
    exact ⟨v, M', φ', undef, hK, hs.mem, hs.rep, hs.evo, rfl⟩

theorem callV_ok {X : Cx} {base : Nat} {φ : Phi} {w : World} {M : Mem} (hm : MemRel X.nb base φ w M) {f : FuncId} {ts : List TypeId} {xs : List V} {args : Array Value} (hl : xs.length = ts.length) (hs : args.size = xs.length)
    (hargs : ∀ i, Rep φ base w (xs.getD i .any) (args.getD i undef)) {K : V → Mem → Prop} (h : callV X f ts xs M K) :
    FnOk X.P f ∧ Calls X.P f args w fun e w' => ∃ cv, e = .returned cv ∧ ∃ v M' φ', K v M' ∧ MemRel X.nb base φ' w' M' ∧ Rep φ' base w' v cv ∧ Evo w φ w' φ' := by
  unfold callV at h
  cases hb : X.wr.contains f with
  | true =>
    rw [hb] at h
    simp only [cond_true] at h
    unfold ACM at h
    obtain ⟨h0, h1⟩ := h
    refine ⟨h0, (h1 X.nb base φ w args (fun k hk => by cases hk; rfl) hm hs hargs).mono fun e w' hq => ?_⟩
    obtain ⟨v, R, M', φ', he, hK, hm', hR, hev⟩ := hq
    exact ⟨v, he, R, M', φ', hK, hm', hR, hev⟩
  | false =>
    rw [hb] at h
    simp only [cond_false] at h
    rw [Obl.req_iff] at h
    obtain ⟨hv, h⟩ := h
    unfold APure at h
    obtain ⟨h0, h1⟩ := h
    have hvs : ∀ l : List V, (verOks M l).holds → ∀ i, (verOk M (l.getD i .any)).holds := by
      intro l
      induction l with
      | nil => intro _ i; simp [verOk, Obl.holds]
      | cons x r ih =>
        rintro ⟨a, b⟩ i
        cases i with
        | zero => exact a
        | succ i => simpa using ih b i
    refine ⟨h0, (h1 w args (by simp [hs, hl]) (fun i => ?_)).mono fun e w' hq => ?_⟩
    · by_cases hi : i < xs.length
      · have hi2 : i < ts.length := by omega
        have e1 : ((xs.zip ts).map fun (x, t) => byval M 4 (asInts X.T t x)).getD i .any = byval M 4 (asInts X.T ts[i] xs[i]) := by
          simp only [List.getD, List.getElem?_map]
          rw [List.getElem?_eq_getElem (by simp; omega)]
          simp
        rw [e1]
        have hx := hargs i
        have e2 : xs.getD i .any = xs[i] := by simp [List.getD, hi]
        rw [e2] at hx
        have hvi := hvs xs hv i
        rw [e2] at hvi
        have hva : (verOk M (asInts X.T ts[i] xs[i])).holds := by
          cases hxx : xs[i] with
          | emp =>
            simp only [asInts]
            split
            · split <;> trivial
            · trivial
          | _ => rw [hxx] at hvi; exact hvi
        exact byval_ok hm (fun _ _ h => h) 4 (asInts_ok hx) hva
      · have e1 : ((xs.zip ts).map fun (x, t) => byval M 4 (asInts X.T t x)).getD i .any = .any := by
          simp only [List.getD]
          rw [List.getElem?_eq_none (by simp; omega)]
          rfl
        rw [e1]
        trivial
    · obtain ⟨v, R, he, hK, hF, hR, hev⟩ := hq
      have hmw : ∀ t r, φ t = some r → 0 < r.cap → w'.heap[r.g]? = w.heap[r.g]? := fun t r ht hp => hev.block r.g (hm.lt ht hp) (notLive_none _)
      have hevo : Evo w φ w' φ := ⟨hev.os, hev.tape, hev.output, hev.size, fun b hb _ => hev.block b hb (notLive_none b), fun t r ht hp _ hn => hn t r ht hp rfl, fun _ r h => ⟨r, h, rfl, rfl, Nat.le_refl _, fun _ => rfl⟩, hev.drawn⟩
      exact ⟨v, he, R, M, φ, hK, hm.evo hevo hmw, Rep_fresh (fun t r ht hp => hm.lt ht hp) hm.le R v hF hR, hevo⟩

/-- The call comes to this function, with this. -/
structure CalleeIs (P : Program) (c : Call) (ev : Operand → V) (g : FuncId) (ts : List TypeId) (xs : List V) : Prop where
  len : xs.length = ts.length
  run : FnOk P g → ∀ (φ : Phi) (base : Nat) (w : World) (ρ : Operand → Value) (ty : TypeId), (∀ x ∈ c.operands, Rep φ base w (ev x) (ρ x)) →
    ∃ args : Array Value, args.size = xs.length ∧ (∀ i, Rep φ base w (xs.getD i .any) (args.getD i undef)) ∧ ((do let d ← resolve ρ c ty; invoke d.target d.args) : Sem Next).run P w = .ok (.enter g args) w

theorem callV_fn {X : Cx} {f : FuncId} {ts : List TypeId} {xs : List V} {M : Mem} {K : V → Mem → Prop} (h : callV X f ts xs M K) : FnOk X.P f := by
  unfold callV at h
  cases hb : X.wr.contains f with
  | true => rw [hb] at h; simp only [cond_true] at h; unfold ACM at h; exact h.1
  | false =>
    rw [hb] at h
    simp only [cond_false] at h
    rw [Obl.req_iff] at h
    have h := h.2
    unfold APure at h
    exact h.1

theorem calleeW_ok {P : Program} {ev : Operand → V} {c : Call} {K : FuncId → List TypeId → List V → Prop} (h : calleeW P ev c K) : ∃ g ts xs, K g ts xs ∧ CalleeIs P c ev g ts xs := by
  unfold calleeW at h
  have marg : ∀ x ∈ c.args.toList, x ∈ c.operands := by
    intro x hx
    simp only [Call.operands, Array.mem_append]
    exact .inr (by simpa using hx)
  cases hcal : c.callee with
  | builtin b => rw [hcal] at h; exact h.elim
  | value f =>
    rw [hcal] at h
    simp only at h
    have mf : f ∈ c.operands := by simp [Call.operands, hcal]
    cases hff : ev f with
    | clo g n cap =>
      rw [hff] at h
      simp only at h
      cases hb : Nat.beq c.args.size c.argTypes.size with
      | false => rw [hb] at h; exact h.elim
      | true =>
        rw [hb] at h
        simp only [cond_true] at h
        have hb := Nat.eq_of_beq_eq_true hb
        refine ⟨g, _, _, h, by simp [hb], fun h0 φ base w ρ ty hev => ?_⟩
        have hf := hev f mf
        rw [hff] at hf
        obtain ⟨cs, hv, hcs1, hcs2⟩ := hf
        refine ⟨c.args.map ρ ++ cs, by simp [hcs1], fun i => ?_, ?_⟩
        · by_cases hi : i < c.args.size
          · have e1 : (c.args.toList.map ev ++ (List.range n).map cap).getD i .any = ev c.args[i] := by
              simp only [List.getD]
              rw [List.getElem?_append_left (by simpa using hi)]
              simp [hi]
            have e2 : (c.args.map ρ ++ cs).getD i undef = ρ c.args[i] := by
              simp [Array.getD, hi]
              omega
            rw [e1, e2]
            exact hev _ (marg _ (by simp))
          · by_cases hi2 : i < c.args.size + n
            · have e1 : (c.args.toList.map ev ++ (List.range n).map cap).getD i .any = cap (i - c.args.size) := by
                simp only [List.getD]
                rw [List.getElem?_append_right (by simp; omega)]
                simp [show i - c.args.size < n from by omega]
              obtain ⟨u, q1, q2⟩ := hcs2 (i - c.args.size) (by omega)
              have e2 : (c.args.map ρ ++ cs).getD i undef = u := by
                rw [Array.getD_eq_getD_getElem?, Array.getElem?_append_right (by simp; omega)]
                simp [q1]
              rw [e1, e2]
              exact q2
            · have e1 : (c.args.toList.map ev ++ (List.range n).map cap).getD i .any = .any := by
                simp only [List.getD]
                rw [List.getElem?_eq_none (by simp; omega)]
                rfl
              rw [e1]
              trivial
        · simp only [resolve, hcal, hv, Deferred.ofValue, Sem.run_bind, Sem.run_pure, Result.andThen_ok, invoke]
          rw [Array.empty_append]
          exact run_callFunc h0 _ w
    | bnd g n cap =>
      rw [hff] at h
      simp only at h
      cases hb : Nat.beq c.args.size c.argTypes.size with
      | false => rw [hb] at h; exact h.elim
      | true =>
        rw [hb] at h
        simp only [cond_true] at h
        have hb := Nat.eq_of_beq_eq_true hb
        refine ⟨g, _, _, h, by simp [hb], fun h0 φ base w ρ ty hev => ?_⟩
        have hf := hev f mf
        rw [hff] at hf
        obtain ⟨cs, hv, hcs1, hcs2⟩ := hf
        refine ⟨cs ++ c.args.map ρ, by simp [hcs1], fun i => ?_, ?_⟩
        · by_cases hi : i < n
          · have e1 : ((List.range n).map cap ++ c.args.toList.map ev).getD i .any = cap i := by
              simp only [List.getD]
              rw [List.getElem?_append_left (by simpa using hi)]
              simp [hi]
            obtain ⟨u, q1, q2⟩ := hcs2 i hi
            have e2 : (cs ++ c.args.map ρ).getD i undef = u := by
              rw [Array.getD_eq_getD_getElem?, Array.getElem?_append_left (by omega), q1]
              rfl
            rw [e1, e2]
            exact q2
          · by_cases hi2 : i < n + c.args.size
            · have e1 : ((List.range n).map cap ++ c.args.toList.map ev).getD i .any = ev c.args[i - n] := by
                simp only [List.getD]
                rw [List.getElem?_append_right (by simp; omega)]
                simp [show i - n < c.args.size from by omega]
              have e2 : (cs ++ c.args.map ρ).getD i undef = ρ c.args[i - n] := by
                rw [Array.getD_eq_getD_getElem?, Array.getElem?_append_right (by omega)]
                simp [hcs1, show i - n < c.args.size from by omega]
              rw [e1, e2]
              exact hev _ (marg _ (by simp))
            · have e1 : ((List.range n).map cap ++ c.args.toList.map ev).getD i .any = .any := by
                simp only [List.getD]
                rw [List.getElem?_eq_none (by simp; omega)]
                rfl
              rw [e1]
              trivial
        · simp only [resolve, hcal, hv, Deferred.ofValue, Sem.run_bind, Sem.run_pure, Result.andThen_ok, invoke]
          rw [Array.append_empty]
          exact run_callFunc h0 _ w
    | _ => rw [hff] at h; exact h.elim
  | invoke r m =>
    rw [hcal] at h
    simp only at h
    have mr : r ∈ c.operands := by simp [Call.operands, hcal]
    cases hff : ev r with
    | ifc ty x =>
      rw [hff] at h
      simp only at h
      cases hb : Nat.beq c.args.size c.argTypes.size with
      | false => rw [hb] at h; exact h.elim
      | true =>
        rw [hb] at h
        simp only [cond_true] at h
        have hb := Nat.eq_of_beq_eq_true hb
        obtain ⟨f, hm, h⟩ := h
        unfold MethodIs at hm
        refine ⟨f, _, _, h, by simp [hb], fun h0 φ base w ρ ty2 hev => ?_⟩
        have hf := hev r mr
        rw [hff] at hf
        obtain ⟨u, hv, hx⟩ := hf
        refine ⟨#[u] ++ c.args.map ρ, by simp; omega, fun i => ?_, ?_⟩
        · cases i with
          | zero =>
            rw [show (#[u] ++ c.args.map ρ).getD 0 undef = u from by simp [Array.getD]]
            exact hx
          | succ i =>
            by_cases hi : i < c.args.size
            · have e1 : (x :: c.args.toList.map ev).getD (i + 1) .any = ev c.args[i] := by simp [List.getD, hi]
              have e2 : (#[u] ++ c.args.map ρ).getD (i + 1) undef = ρ c.args[i] := by
                rw [Array.getD_eq_getD_getElem?, Array.getElem?_append_right (by simp)]
                simp [hi]
              rw [e1, e2]
              exact hev _ (marg _ (by simp))
            · have e1 : (x :: c.args.toList.map ev).getD (i + 1) .any = .any := by
                simp only [List.getD]
                rw [List.getElem?_eq_none (by simp; omega)]
                rfl
              rw [e1]
              trivial
        · simp only [resolve, hcal, hv, Sem.run_bind, Sem.run_pure, Result.andThen_ok, invoke]
          have e0 : (#[Value.iface ty u] ++ c.args.map ρ)[0]? = some (Value.iface ty u) := by
            rw [Array.getElem?_append_left (by simp)]
            rfl
          have e1 : (#[Value.iface ty u] ++ c.args.map ρ).extract 1 (#[Value.iface ty u] ++ c.args.map ρ).size = c.args.map ρ := by
            apply Array.ext_getElem?
            intro i
            rw [Array.getElem?_extract]
            have hsz : (#[Value.iface ty u] ++ c.args.map ρ).size = c.args.size + 1 := by rw [Array.size_append, Array.size_map]; show 1 + _ = _; omega
            rw [hsz]
            by_cases hi : i < c.args.size
            · rw [if_pos (by omega), Array.getElem?_append_right (by show 1 ≤ 1 + i; omega)]
              congr 1
              show 1 + i - 1 = i
              omega
            · rw [if_neg (by omega), Array.getElem?_eq_none (by rw [Array.size_map]; omega)]
          have e2 : (program : Sem Program).run P w = .ok P w := by simp
          simp only [e0, e1, callMethod, Sem.run_bind, e2, Result.andThen_ok, hm]
          exact run_callFunc h0 _ w
    | _ => rw [hff] at h; exact h.elim

theorem opW_ok {X : Cx} {ro : Option Nat} (hT : TabOk X.P X.T) {base nm : Nat} {φ : Phi} {w : World} {M : Mem} {e : Env} {a : Act} (hst : St lo X.nt X.nb base φ w M e a) (hn : φ nm = none) {o : Oper} {K : V → Mem → Prop} {Q : Exit → Act → World → Prop}
    (h : opW X nm o e M K) : o.wpIn (FZ ro) 0 X.P a w (Left X base φ w o a K) Q := by
  have hev := fun x => hst.eval x
  have plain : (∀ c, o.op ≠ .call c) → (∀ c, o.op ≠ .defer c) → (match aop X.T nm o.op (evA e) M with
      | some (p, v, M') => p.req (forceV v fun v => K v M')
      | none => match aMap X.T nm o.op (evA e) M with
        | some (v, M') => forceV v fun v => K v M'
        | none => False) → o.wpIn (FZ ro) 0 X.P a w (Left X base φ w o a K) Q := by
    intro hc hdf h
    cases hq : aop X.T nm o.op (evA e) M with
    | none =>
      rw [hq] at h
      simp only at h
      cases hq2 : aMap X.T nm o.op (evA e) M with
      | none => rw [hq2] at h; exact h.elim
      | some q =>
        obtain ⟨v, M'⟩ := q
        rw [hq2] at h
        simp only at h
        rw [forceV_eq] at h
        exact Runs.left hdf (aMap_ok hT hst.mem hn hev hq2) h
    | some q =>
      obtain ⟨p, v, M'⟩ := q
      rw [hq] at h
      simp only at h
      rw [Obl.req_iff, forceV_eq] at h
      exact Runs.left hdf (aop_ok hT hst.mem hn hev (fun _ => rfl) hc hq h.1) h.2
  unfold opW at h
  cases ho : o.op with
  | call c =>
    rw [ho] at h
    simp only at h
    unfold Oper.wpIn
    refine ⟨fun _ _ => trivial, ?_⟩
    rw [Oper.semAt_eq _ _ _ (by rw [ho]; exact fun _ h => nomatch h)]
    have hex : (execOp a.eval o).run X.P w = ((do let d ← resolve a.eval c o.type; invoke d.target d.args) : Sem Next).run X.P w := by
      unfold execOp; rw [ho]
    have callee : calleeW X.P (evA e) c (fun f ts xs => callV X f ts xs M K) → o.uponIn (FZ ro) 0 X.P a (Left X base φ w o a K) Q (((do let d ← resolve a.eval c o.type; invoke d.target d.args) : Sem Next).run X.P w) := by
      intro h
      obtain ⟨g, ts, xs, hK, hC⟩ := calleeW_ok h
      obtain ⟨args, s1, s2, s3⟩ := hC.run (callV_fn hK) φ base w a.eval o.type (fun x _ => hev x)
      rw [s3]
      obtain ⟨_, h1⟩ := callV_ok hst.mem hC.len s1 s2 hK
      refine ⟨FZ_depth, callsIn_FZ (h1.mono fun e' w' hq => ?_)⟩
      obtain ⟨cv, rfl, v, M', φ', hK, q1, q2, q3⟩ := hq
      exact ⟨v, M', φ', cv, hK, q1, q2, q3, rfl⟩
    rw [hex]
    cases hcal : c.callee with
    | value f =>
      rw [hcal] at h
      simp only at h
      have hf := hev f
      cases hff : evA e f with
      | yld t =>
        rw [hff] at h hf
        simp only at h
        unfold YW at h
        obtain ⟨r, hr1, _, hq3⟩ := hf
        obtain ⟨hr2, f', tmps', as', bd', hr4, hr5⟩ := h X.nb base φ w (c.args.map a.eval) r hr1 hst.mem (by simp) (fun i => by
          by_cases hi : i < c.args.size
          · have e1 : (c.args.toList.map (evA e)).getD i .any = evA e c.args[i] := by simp [List.getD, hi]
            have e2 : (c.args.map a.eval).getD i undef = a.eval c.args[i] := by simp [Array.getD, hi]
            rw [e1, e2]
            exact hev _
          · have e1 : (c.args.toList.map (evA e)).getD i .any = .any := by
              simp only [List.getD]
              rw [List.getElem?_eq_none (by simp; omega)]
              rfl
            rw [e1]
            trivial)
        obtain ⟨_, hv⟩ := hq3 hr2
        have hr : ((do let d ← resolve a.eval c o.type; invoke d.target d.args) : Sem Next).run X.P w = .ok (.round r.g f' tmps' as' bd') w := by
          simp only [resolve, hcal, hv, Deferred.ofValue, Sem.run_bind, Sem.run_pure, Result.andThen_ok, invoke]
          rw [Array.empty_append]
          exact hr4
        rw [hr]
        refine ⟨FZ_depth, roundIn_FZ (hr5.mono fun e' w' hq => ?_)⟩
        obtain ⟨cv, v, M', φ', rfl, hK, q1, q2, q3⟩ := hq
        exact ⟨v, M', φ', cv, hK, q1, q2, q3, rfl⟩
      | _ => rw [hff] at h; exact callee h
    | invoke r m => rw [hcal] at h; exact callee h
    | builtin b =>
      rw [hcal] at h
      have hres : ((do let d ← resolve a.eval c o.type; invoke d.target d.args) : Sem Next).run X.P w = (builtin b c.argTypes o.type (c.args.map fun | .const _ => true | _ => false) (c.args.map a.eval)).run X.P w := by
        simp only [resolve, hcal, Sem.run_bind, Sem.run_pure, Result.andThen_ok, invoke]
        rfl
      rw [hres]
      have gen : (match aBuiltin X.T b c.argTypes.toList (c.args.toList.map (evA e)) M with
          | some (p, v, M') => p.req (forceV v fun v => K v M')
          | none => False) → o.uponIn (FZ ro) 0 X.P a (Left X base φ w o a K) Q ((builtin b c.argTypes o.type (c.args.map fun | .const _ => true | _ => false) (c.args.map a.eval)).run X.P w) := by
        intro hg
        cases hq : aBuiltin X.T b c.argTypes.toList (c.args.toList.map (evA e)) M with
        | none => rw [hq] at hg; exact hg.elim
        | some q =>
          obtain ⟨p, v, M'⟩ := q
          rw [hq] at hg
          simp only at hg
          rw [Obl.req_iff, forceV_eq] at hg
          obtain ⟨rfl, cv, r1, r2⟩ := aBuiltin_ok (ty := o.type) (cs := c.args.map fun | .const _ => true | _ => false) hT hst.mem hev hq hg.1
          rw [r1]
          exact ⟨v, M', φ, cv, hg.2, hst.mem, r2, Evo.refl w φ, rfl⟩
      cases b with
      | append =>
        simp only at h
        split at h
        · next s x t t' he ht =>
          have harr : c.args.map a.eval = #[a.eval s, a.eval x] := by apply Array.toList_inj.1; rw [Array.toList_map, he]; rfl
          have htt : c.argTypes = #[t, t'] := by apply Array.toList_inj.1; exact ht
          cases hb : Nat.beq t t' with
          | false =>
            rw [hb] at h
            simp only [cond_false] at h
            cases hq : aMake X.T nm t t' (evA e s) (evA e x) M with
            | none => rw [hq] at h; exact h.elim
            | some q =>
              obtain ⟨p, v, M'⟩ := q
              rw [hq] at h
              simp only at h
              rw [Obl.req_iff, forceV_eq] at h
              obtain ⟨cv, w', φ', r1, r2⟩ := aMake_ok (P := X.P) (ty := o.type) hT hst.mem hn (hev s) (hev x) hq h.1
              rw [harr, htt]
              simp only [builtin, Sem.run_bind, r1, Result.andThen_ok, Sem.run_pure]
              exact ⟨v, M', φ', cv, h.2, r2.mem, r2.rep, r2.evo, rfl⟩
          | true =>
            rw [hb] at h
            simp only [cond_true] at h
            have hb := Nat.eq_of_beq_eq_true hb
            subst hb
            cases hd : (X.T.row t).d with
            | slice el =>
              rw [hd] at h
              simp only at h
              cases hf : (evA e s).isFull with
              | some ys =>
                rw [hf] at h
                simp only at h
                cases hq : fullApp X.T el ys (evA e x) M with
                | none => rw [hq] at h; exact h.elim
                | some q =>
                  obtain ⟨p, v⟩ := q
                  rw [hq] at h
                  simp only at h
                  rw [Obl.req_iff, forceV_eq] at h
                  have hs := hev s
                  rw [isFull_eq hf] at hs
                  obtain ⟨cv, w', r1, r2⟩ := fullApp_ok (P := X.P) (ty := o.type) (nm := nm) hT hst.mem hd hs (hev x) hq h.1
                  rw [harr, htt]
                  simp only [builtin, Sem.run_bind, r1, Result.andThen_ok, Sem.run_pure]
                  exact ⟨v, M, φ, cv, h.2, r2.mem, r2.rep, r2.evo, rfl⟩
              | none =>
              rw [hf] at h
              simp only at h
              cases hq : aAppend X.T nm el (evA e s) (evA e x) M with
              | none => rw [hq] at h; exact h.elim
              | some q =>
                obtain ⟨p, v, M'⟩ := q
                rw [hq] at h
                simp only at h
                rw [Obl.req_iff, forceV_eq] at h
                obtain ⟨cv, w', φ', r1, r2⟩ := aAppend_ok (P := X.P) (ty := o.type) hT hst.mem hn hd (hev s) (hev x) hq h.1
                rw [harr, htt]
                simp only [builtin, Sem.run_bind, r1, Result.andThen_ok, Sem.run_pure]
                exact ⟨v, M', φ', cv, h.2, r2.mem, r2.rep, r2.evo, rfl⟩
            | _ => rw [hd] at h; exact h.elim
        · exact h.elim
      | copy =>
        simp only at h
        split at h
        · next s x t t' he ht =>
          have harr : c.args.map a.eval = #[a.eval s, a.eval x] := by apply Array.toList_inj.1; rw [Array.toList_map, he]; rfl
          have htt : c.argTypes = #[t, t'] := by apply Array.toList_inj.1; exact ht
          cases hd : (X.T.row t).d with
          | slice el =>
            rw [hd] at h
            simp only at h
            cases hq : aCopy X.T el (evA e s) (evA e x) M with
            | none => rw [hq] at h; exact h.elim
            | some q =>
              obtain ⟨p, v, M'⟩ := q
              rw [hq] at h
              simp only at h
              rw [Obl.req_iff, forceV_eq] at h
              obtain ⟨cv, w', r1, r2⟩ := aCopy_ok (P := X.P) (t' := t') (ty := o.type) (nm := nm) hT hst.mem hd (hev s) (hev x) hq h.1
              rw [harr, htt]
              simp only [builtin, Sem.run_bind, r1, Result.andThen_ok, Sem.run_pure]
              exact ⟨v, M', φ, cv, h.2, r2.mem, r2.rep, r2.evo, rfl⟩
          | _ => rw [hd] at h; exact h.elim
        · exact h.elim
      | _ => exact gen h
  | binOp op t x y t2 =>
    rw [ho] at h
    simp only at h
    cases hq : aop X.T nm (.binOp op t x y t2) (evA e) M with
    | some q =>
      rw [hq] at h
      refine plain (fun c hc => ?_) (fun c hc => ?_) ?_
      · rw [ho] at hc; cases hc
      · rw [ho] at hc; cases hc
      · rw [ho, hq]; exact h
    | none =>
      rw [hq] at h
      simp only at h
      cases hb : (isNilC y && isSliceT (X.T.row t) && isEqB op && mayNil (evA e x)) with
      | false => rw [hb] at h; exact h.elim
      | true =>
        rw [hb] at h
        simp only [Bool.and_eq_true] at hb
        obtain ⟨b, hr⟩ := nilAny_ok (P := X.P) hT (ρ := a.eval) (fun _ => rfl) (hev x) x hb.1.1.1 hb.1.1.2 hb.1.2 hb.2
        refine Runs.left (v := .bool b) (M' := M) (nm := nm) (fun c hc => by rw [ho] at hc; cases hc) ?_ (match b with | true => h.1 | false => h.2)
        have := Runs.val (nm := nm) (v := .bool b) hst.mem hr rfl
        unfold execOp
        rw [ho]
        exact this
  | _ =>
    first
      | (refine plain (fun c hc => ?_) (fun c hc => ?_) ?_
         · rw [ho] at hc; cases hc
         · rw [ho] at hc; cases hc
         · rw [ho] at h ⊢; exact h)
      | (rw [ho] at h; exact h.elim)

end
end Go.Tri
