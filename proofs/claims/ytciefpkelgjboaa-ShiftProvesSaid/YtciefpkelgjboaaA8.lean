/-
  SOUNDNESS, FIFTH PART: make, slice literals; every operation without a call in one theorem.
-/
import Derived.Test.YtciefpkelgjboaaA7
namespace Go.Tri
variable {lo : Nat}
open Go.RowKit

section
variable {P : Program} {T : Tab}

theorem madeCon_isC (i : TI) (n : Nat) : (madeCon i n).isC = true := by
  unfold madeCon
  split <;> rfl
theorem madeCon_kc (i : TI) (n : Nat) : (madeCon i n).kc = false := by
  unfold madeCon
  split <;> rfl
theorem madeCon_n (i : TI) (n : Nat) : (madeCon i n).n = n := by
  unfold madeCon
  split <;> simp [Con.n]

theorem madeCon_f (i : TI) (n j k : Nat) (hj : j < n) (hk : k < i.zero.length) : (madeCon i n).f j k = constV (i.zero.getD k undef) := by
  unfold madeCon
  split
  · next h =>
    rw [h] at hk ⊢
    have : k = 0 := by simpa using hk
    subst this
    simp [Con.f, hj, List.getD, constV]
  · next h =>
    rw [h] at hk ⊢
    have : k = 0 := by simpa using hk
    subst this
    simp [Con.f, hj, List.getD, constV]
  · rfl

theorem maxLen_val : maxLen = 9223372036854775807 := by decide

theorem makeSlice_con (hT : TabOk P T) {nb base nm : Nat} {φ : Phi} {w : World} {M : Mem} (hm : MemRel nb base φ w M) (hn : φ nm = none) {t e : TypeId} (hd : (T.row t).d = .slice e) (hke : knownT (T.row e) = true)
    (hsz : 0 < (T.row e).sz) (hbs : 0 < (T.row e).bs) {kl kc : IntKind} {l c : Int} (h0 : 0 ≤ l) (h1 : l ≤ c) (h2 : ((T.row e).bs : Int) * c ≤ 140737488355328)
    {con : Con} (hcn1 : l.toNat ≤ con.n) (hcn2 : con.n ≤ c.toNat) (hcf : ∀ j k, j < con.n → k < (T.row e).zero.length → con.f j k = constV ((T.row e).zero.getD k undef)) (hcC : con.isC = true) (hck : con.kc = true → c.toNat = con.n) :
    ∃ cv w' φ', (Instr.makeSlice t (.int kl l) (.int kc c)).run P w = .ok cv w' ∧ Step nb base nm φ w (.sl nm 0 0 l.toNat) (M.put nm ⟨e, (T.row e).sz, 0, con⟩) cv w' φ' := by
  obtain ⟨it, z, hr⟩ := hT.is (by rw [hd]; exact fun h => nomatch h)
  have hu := und_slice (hr.d.symm.trans hd)
  obtain ⟨ie, ze, hre⟩ := hT.is (knownT_ne hke)
  have hc : c ≤ 140737488355328 := by
    have : c ≤ ((T.row e).bs : Int) * c := by
      have hb : (1 : Int) ≤ ((T.row e).bs : Int) := by omega
      have := Int.mul_le_mul_of_nonneg_right hb (show 0 ≤ c by omega)
      omega
    omega
  have hrun := run_make (P := P) w t e ie ze hu hre.info hre.zero kl kc l c h0 h1 (by rw [← hre.bs]; omega) (by omega)
  have hs := step_new (hC := hcC) (hkc := hck) hm hn e (madeCells ze.cells (c.toNat * ie.size)) c.toNat (T.row e).sz ⟨e, (T.row e).sz, 0, con⟩ hsz hcn2 (by rw [maxLen_val]; omega) rfl rfl rfl
    (by rw [size_madeCells, hre.sz]) (by
      intro j k hj hk
      have hlen : k < (T.row e).zero.length := by rw [hre.zs]; simpa [hre.zsz, ← hre.sz] using hk
      have e1 := zero_cells hre hre.zsz k (by rw [← hre.sz]; exact hk)
      refine ⟨(T.row e).zero.getD k undef, ?_, hre.one _ (Array.mem_of_getElem? e1), ?_⟩
      · have hlt : j * (T.row e).sz + k < c.toNat * ie.size := by
          rw [← hre.sz]
          have hj : j < con.n := hj
          calc j * (T.row e).sz + k < j * (T.row e).sz + (T.row e).sz := by omega
            _ = (j + 1) * (T.row e).sz := by rw [Nat.succ_mul]
            _ ≤ c.toNat * (T.row e).sz := Nat.mul_le_mul_right _ (by omega)
        have hmod : (j * (T.row e).sz + k) % ze.cells.size = k := by
          rw [hre.zsz, ← hre.sz, Nat.mul_comm, Nat.mul_add_mod, Nat.mod_eq_of_lt hk]
        simp only [madeCells, Array.getElem?_map, Array.getElem?_range, if_pos hlt, Option.map_some, hmod]
        have hks : k < ze.cells.size := by rw [hre.zsz, ← hre.sz]; exact hk
        rw [getElem!_pos ze.cells k hks]
        rw [← e1, Array.getElem?_eq_getElem hks]
      · rw [show (⟨e, (T.row e).sz, 0, con⟩ : Ob).c.f j k = constV ((T.row e).zero.getD k undef) from hcf _ _ hj hlen]
        exact Rep.constV φ base w _)
  refine ⟨_, _, _, hrun, hs.1, ?_, hs.2.1, hs.2.2⟩
  refine ⟨_, Phi.upd_same _ _ _, rfl, Nat.le_refl _, fun _ => ⟨by show 0 + l.toNat ≤ con.n; omega, some ⟨w.heap.size, 0, none⟩, by simp, fun _ => by simp⟩⟩

theorem makeSlice_ok (hT : TabOk P T) {nb base nm : Nat} {φ : Phi} {w : World} {M : Mem} (hm : MemRel nb base φ w M) (hn : φ nm = none) {t e : TypeId} (hd : (T.row t).d = .slice e) (hke : knownT (T.row e) = true)
    (hsz : 0 < (T.row e).sz) (hbs : 0 < (T.row e).bs) {kl kc : IntKind} {l c : Int} (h0 : 0 ≤ l) (h1 : l ≤ c) (h2 : ((T.row e).bs : Int) * c ≤ 140737488355328) (b : Bool) :
    ∃ cv w' φ', (Instr.makeSlice t (.int kl l) (.int kc c)).run P w = .ok cv w' ∧ Step nb base nm φ w (.sl nm 0 0 l.toNat) (M.put nm ⟨e, (T.row e).sz, 0, bif b then madeCon (T.row e) l.toNat else madeKil (T.row e) l.toNat c.toNat⟩) cv w' φ' := by
  have plain := makeSlice_con (P := P) hT hm hn hd hke hsz hbs (kl := kl) (kc := kc) h0 h1 h2 (con := madeCon (T.row e) l.toNat) (by rw [madeCon_n]; omega) (by rw [madeCon_n]; omega) (fun j k hj hk => madeCon_f _ _ _ _ (by rw [madeCon_n] at hj; exact hj) hk) (madeCon_isC _ _) (fun h => by rw [madeCon_kc] at h; cases h)
  cases b with
  | true => exact plain
  | false =>
    simp only [cond_false]
    unfold madeKil
    split
    · next hz =>
      refine makeSlice_con (P := P) hT hm hn hd hke hsz hbs (kl := kl) (kc := kc) h0 h1 h2 (con := .kil (List.replicate c.toNat 0)) (by simp only [Con.n, List.length_replicate]; omega) (by simp [Con.n]) (fun j k hj hk => ?_) rfl (fun _ => by simp [Con.n])
      rw [hz] at hk ⊢
      simp only [Con.n, List.length_replicate] at hj
      have hk0 : k = 0 := by simp at hk; exact hk
      subst hk0
      simp [Con.f, hj, List.getD, constV]
    · exact plain

theorem fill_row : ∀ (vs : List Value) (s : Nat) (cells : Array Value), (∀ v ∈ vs, v.oneCell' = true) → s + vs.length ≤ cells.size →
    ∃ cells', Instr.fill (fun i => some (i * 1, 1)) cells ((List.range' s vs.length).zip vs) = some cells' ∧ cells'.size = cells.size ∧
      ∀ k, cells'[k]? = if s ≤ k ∧ k < s + vs.length then vs[k - s]? else cells[k]? := by
  intro vs
  induction vs with
  | nil => intro s cells _ _; exact ⟨cells, rfl, rfl, fun k => by rw [if_neg (by simp only [List.length_nil]; omega)]⟩
  | cons v vs ih =>
    intro s cells h1 h2
    have hv := cells_one (h1 v (by simp))
    simp only [List.length_cons] at h2
    obtain ⟨cells', e1, e2, e3⟩ := ih (s + 1) (writeCells cells (s * 1) v.cells) (fun u hu => h1 u (by simp [hu])) (by rw [writeCells_size]; omega)
    refine ⟨cells', ?_, by rw [e2, writeCells_size], fun k => ?_⟩
    · rw [List.length_cons, List.range'_succ, List.zip_cons_cons, fill_cons _ cells s v _ (s * 1) 1 rfl (by rw [hv]; rfl) (by rw [hv]; simp; omega)]
      exact e1
    · rw [e3, writeCells_get, hv]
      simp only [List.size_toArray, List.length_cons, List.length_nil, Nat.zero_add, Nat.mul_one]
      by_cases hk : k = s
      · subst hk
        rw [if_neg (by omega), if_pos (by omega), if_pos (by omega)]
        simp
      · by_cases hc : s + 1 ≤ k ∧ k < s + 1 + vs.length
        · rw [if_pos hc, if_pos (by omega), show k - s = (k - (s + 1)) + 1 from by omega]
          rfl
        · rw [if_neg hc, if_neg (by omega), if_neg (by omega)]

theorem run_buildSlice {t e : TypeId} {ie : TypeInfo} {ze : Value} (hu : P.underlying t = some (.slice e)) (hi : P.info? e = some ie) (hz : ie.zero = some ze) (hp : 0 < ie.size) (w : World) (n : Nat) (hn : n * ie.size ≤ 16777216) (h0 : 0 < n)
    (parts : Array (Nat × Value)) (cells : Array Value) (hf : Instr.fill (fun i => some (i * ie.size, ie.size)) ((Array.range (n * ie.size)).map (ze.cells[· % ze.cells.size]!)) parts.toList = some cells) :
    (Instr.buildSlice t n parts).run P w = .ok (.slice (some ⟨w.heap.size, 0, none⟩) n n) (w.alloc (.cells cells e)) := by
  have h1 : ¬ (16777216 < n * ie.size) := by omega
  have h2 : ¬ (n * ie.size = 0) := fun h => by rcases Nat.mul_eq_zero.1 h with h | h <;> omega
  simp [Instr.buildSlice, run_underlying hu, sizeOf, typeInfo, hi, zeroValue, hz, h1, h2, hf, newRow]

theorem run_buildSlice_none {t e : TypeId} {ie : TypeInfo} (hu : P.underlying t = some (.slice e)) (hi : P.info? e = some ie) (w : World) :
    (Instr.buildSlice t 0 #[]).run P w = .ok (.slice (some ⟨w.heap.size, 0, none⟩) 0 0) (w.alloc (.cells #[] e)) := by
  have h0 : Array.range 0 = #[] := rfl
  simp [Instr.buildSlice, run_underlying hu, sizeOf, typeInfo, hi, Instr.fill, newRow, h0]

/-- An allocation that is not named. -/
theorem evo_alloc (w : World) (φ : Phi) (o : Obj) : Evo w φ (w.alloc o) φ :=
  ⟨rfl, rfl, rfl, by simp, fun _ hb _ => heap_alloc_old w _ hb, fun t r ht hp _ hn => hn t r ht hp rfl, fun _ r h => ⟨r, h, rfl, rfl, Nat.le_refl _, fun _ => rfl⟩⟩

theorem MemRel.evo {nb base : Nat} {φ : Phi} {w w' : World} {M : Mem} (h : MemRel nb base φ w M) (hv : Evo w φ w' φ) (hb : ∀ t r, φ t = some r → 0 < r.cap → w'.heap[r.g]? = w.heap[r.g]?) : MemRel nb base φ w' M :=
  ⟨fun t r ht => by obtain ⟨o, h1, h2⟩ := h.obj t r ht; exact ⟨o, h1, h2.evo hv (hb t r ht)⟩, h.inj, h.own, Nat.le_trans h.le hv.size⟩

/-- A slice literal of one element. -/
theorem buildSlice_one (hT : TabOk P T) {nb base nm : Nat} {φ : Phi} {w : World} {M : Mem} (hm : MemRel nb base φ w M) (hn : φ nm = none) {t e : TypeId} (hd : (T.row t).d = .slice e) (hke : knownT (T.row e) = true)
    (hsz : 0 < (T.row e).sz) (hmax : (T.row e).sz ≤ 16777216) {cx : Value} (hc : cx.cells.size = (T.row e).sz) (con : Con) (hcn : con.n = 1)
    (hcells : ∀ k, k < (T.row e).sz → ∃ c, cx.cells[k]? = some c ∧ c.oneCell' = true ∧ Rep φ base w (con.f 0 k) c) :
    ∃ cv w' φ', (Instr.buildSlice t 1 #[(0, cx)]).run P w = .ok cv w' ∧ Step nb base nm φ w (.sl nm 0 0 1) (M.put nm ⟨e, (T.row e).sz, 0, con⟩) cv w' φ' := by
  obtain ⟨it, z, hr⟩ := hT.is (by rw [hd]; exact fun h => nomatch h)
  have hu := und_slice (hr.d.symm.trans hd)
  obtain ⟨ie, ze, hre⟩ := hT.is (knownT_ne hke)
  have hfill : Instr.fill (fun i => some (i * ie.size, ie.size)) ((Array.range (1 * ie.size)).map (ze.cells[· % ze.cells.size]!)) [(0, cx)] = some (writeCells ((Array.range (1 * ie.size)).map (ze.cells[· % ze.cells.size]!)) (0 * ie.size) cx.cells) := by
    rw [fill_cons _ _ 0 cx [] (0 * ie.size) ie.size rfl (by rw [hc, hre.sz]) (by simp [hc, hre.sz])]
    rfl
  have hrun := run_buildSlice (P := P) hu hre.info hre.zero (by rw [← hre.sz]; exact hsz) w 1 (by rw [← hre.sz]; omega) (by omega) #[(0, cx)] _ hfill
  have hs := step_new (hC := Con.isC_of_n (by show 0 < con.n; omega)) (hkc := fun _ => hcn.symm) hm hn e (writeCells ((Array.range (1 * ie.size)).map (ze.cells[· % ze.cells.size]!)) (0 * ie.size) cx.cells) 1 (T.row e).sz ⟨e, (T.row e).sz, 0, con⟩ hsz (by simp only [hcn]; exact Nat.le_refl 1) (by decide) rfl rfl rfl
    (by rw [writeCells_size, hre.sz]; simp) (by
      intro j k hj hk
      simp only [hcn] at hj
      have : j = 0 := by omega
      subst this
      obtain ⟨c, e1, e2, e3⟩ := hcells k hk
      refine ⟨c, ?_, e2, e3⟩
      rw [writeCells_get, if_pos (by simp only [hc, Array.size_map, Array.size_range, ← hre.sz]; omega)]
      simpa using e1)
  exact ⟨_, _, _, hrun, hs.1, ⟨_, Phi.upd_same _ _ _, rfl, Nat.le_refl _, fun _ => ⟨by simp only [hcn]; omega, some ⟨w.heap.size, 0, none⟩, by simp, fun _ => by simp⟩⟩, hs.2.1, hs.2.2⟩

/-- A slice literal of several elements of one cell. -/
theorem buildSlice_row (hT : TabOk P T) {nb base nm : Nat} {φ : Phi} {w : World} {M : Mem} (hm : MemRel nb base φ w M) (hn : φ nm = none) {t e : TypeId} (hd : (T.row t).d = .slice e) (hke : knownT (T.row e) = true)
    (hsz : (T.row e).sz = 1) (vs : List Value) (h0 : 0 < vs.length) (hmax : vs.length ≤ 1000) (con : Con) (hcn : con.n = vs.length)
    (hcells : ∀ j, j < vs.length → ∃ c, vs[j]? = some c ∧ c.oneCell' = true ∧ Rep φ base w (con.f j 0) c) :
    ∃ cv w' φ', (Instr.buildSlice t vs.length ((List.range vs.length).zip vs).toArray).run P w = .ok cv w' ∧ Step nb base nm φ w (.sl nm 0 0 vs.length) (M.put nm ⟨e, 1, 0, con⟩) cv w' φ' := by
  obtain ⟨it, z, hr⟩ := hT.is (by rw [hd]; exact fun h => nomatch h)
  have hu := und_slice (hr.d.symm.trans hd)
  obtain ⟨ie, ze, hre⟩ := hT.is (knownT_ne hke)
  have h1 : ie.size = 1 := by rw [← hre.sz]; exact hsz
  obtain ⟨cells', f1, f2, f3⟩ := fill_row vs 0 ((Array.range (vs.length * 1)).map (ze.cells[· % ze.cells.size]!)) (fun v hv => by
    obtain ⟨j, hj, rfl⟩ := List.getElem_of_mem hv
    obtain ⟨c, e1, e2, _⟩ := hcells j hj
    rw [List.getElem?_eq_getElem hj] at e1
    cases e1
    exact e2) (by simp)
  have hfill : Instr.fill (fun i => some (i * ie.size, ie.size)) ((Array.range (vs.length * ie.size)).map (ze.cells[· % ze.cells.size]!)) ((List.range vs.length).zip vs).toArray.toList = some cells' := by
    rw [h1, List.range_eq_range']
    exact f1
  have hrun := run_buildSlice (P := P) hu hre.info hre.zero (by omega) w vs.length (by rw [h1]; omega) h0 _ _ hfill
  have hs := step_new (hC := Con.isC_of_n (by show 0 < con.n; omega)) (hkc := fun _ => hcn.symm) hm hn e cells' vs.length 1 ⟨e, 1, 0, con⟩ (by omega) (by simp only [hcn]; exact Nat.le_refl _) (by rw [maxLen_val]; omega) rfl rfl rfl
    (by rw [f2]; simp) (by
      intro j k hj hk
      simp only [hcn] at hj
      have : k = 0 := by omega
      subst this
      obtain ⟨c, e1, e2, e3⟩ := hcells j hj
      refine ⟨c, ?_, e2, e3⟩
      rw [f3, if_pos (by omega)]
      simpa using e1)
  exact ⟨_, _, _, hrun, hs.1, ⟨_, Phi.upd_same _ _ _, rfl, Nat.le_refl _, fun _ => ⟨by simp only [hcn]; omega, some ⟨w.heap.size, 0, none⟩, by simp, fun _ => by simp⟩⟩, hs.2.1, hs.2.2⟩

theorem fill_rows (sz : Nat) : ∀ (vs : List Value) (s : Nat) (cells : Array Value), (∀ v ∈ vs, v.cells.size = sz) → (s + vs.length) * sz ≤ cells.size →
    ∃ cells', Instr.fill (fun i => some (i * sz, sz)) cells ((List.range' s vs.length).zip vs) = some cells' ∧ cells'.size = cells.size ∧
      ∀ j k, k < sz → j < vs.length → ∃ v, vs[j]? = some v ∧ cells'[(s + j) * sz + k]? = v.cells[k]? := by
  intro vs
  induction vs with
  | nil => intro s cells _ _; exact ⟨cells, rfl, rfl, fun j k _ hj => absurd hj (by simp)⟩
  | cons v vs ih =>
    intro s cells h1 h2
    have hv := h1 v (by simp)
    simp only [List.length_cons] at h2
    have h3 : (s + 1 + vs.length) * sz ≤ cells.size := by rw [show s + 1 + vs.length = s + (vs.length + 1) from by omega]; exact h2
    have h4 : s * sz + sz ≤ cells.size := by
      have : (s + 1) * sz ≤ (s + 1 + vs.length) * sz := Nat.mul_le_mul_right _ (by omega)
      rw [Nat.add_mul, Nat.one_mul] at this
      omega
    have keep : ∀ (vs : List Value) (s : Nat) (cells cells' : Array Value), (∀ v ∈ vs, v.cells.size = sz) → (s + vs.length) * sz ≤ cells.size → Instr.fill (fun i => some (i * sz, sz)) cells ((List.range' s vs.length).zip vs) = some cells' → ∀ k, k < s * sz → cells'[k]? = cells[k]? := by
      intro vs
      induction vs with
      | nil => intro s cells cells' _ _ h k _; simp [Instr.fill] at h; rw [h]
      | cons v vs ih =>
        intro s cells cells' h1 h2 h k hk
        have hv := h1 v (by simp)
        simp only [List.length_cons] at h2
        have h3 : (s + 1 + vs.length) * sz ≤ cells.size := by rw [show s + 1 + vs.length = s + (vs.length + 1) from by omega]; exact h2
        have h4 : s * sz + sz ≤ cells.size := by
          have : (s + 1) * sz ≤ (s + 1 + vs.length) * sz := Nat.mul_le_mul_right _ (by omega)
          rw [Nat.add_mul, Nat.one_mul] at this
          omega
        rw [List.length_cons, List.range'_succ, List.zip_cons_cons, fill_cons _ cells s v _ (s * sz) sz rfl hv (by rw [hv]; exact h4)] at h
        have := ih (s + 1) _ cells' (fun u hu => h1 u (by simp [hu])) (by rw [writeCells_size]; exact h3) h k (by rw [Nat.add_mul, Nat.one_mul]; omega)
        rw [this, writeCells_get, if_neg (by omega)]
    obtain ⟨cells', e1, e2, e3⟩ := ih (s + 1) (writeCells cells (s * sz) v.cells) (fun u hu => h1 u (by simp [hu])) (by rw [writeCells_size]; exact h3)
    refine ⟨cells', ?_, by rw [e2, writeCells_size], fun j k hk hj => ?_⟩
    · rw [List.length_cons, List.range'_succ, List.zip_cons_cons, fill_cons _ cells s v _ (s * sz) sz rfl hv (by rw [hv]; exact h4)]
      exact e1
    · cases j with
      | zero =>
        refine ⟨v, rfl, ?_⟩
        rw [Nat.add_zero, keep vs (s + 1) _ cells' (fun u hu => h1 u (by simp [hu])) (by rw [writeCells_size]; exact h3) e1 _ (by rw [Nat.add_mul, Nat.one_mul]; omega), writeCells_get, if_pos (by rw [hv]; omega)]
        congr 1
        omega
      | succ j =>
        obtain ⟨u, g1, g2⟩ := e3 j k hk (by simpa using hj)
        exact ⟨u, by simpa using g1, by rw [← g2, show s + (j + 1) = s + 1 + j from by omega]⟩

/-- A slice literal of several structs. -/
theorem buildSlice_rows (hT : TabOk P T) {nb base nm : Nat} {φ : Phi} {w : World} {M : Mem} (hm : MemRel nb base φ w M) (hn : φ nm = none) {t e : TypeId} (hd : (T.row t).d = .slice e) (hke : knownT (T.row e) = true)
    (hsz : 0 < (T.row e).sz) (hszm : (T.row e).sz ≤ 1000) (vs : List Value) (h0 : 0 < vs.length) (hmax : vs.length ≤ 1000) (con : Con) (hcn : con.n = vs.length) (hvs : ∀ v ∈ vs, v.cells.size = (T.row e).sz)
    (hcells : ∀ j k v, vs[j]? = some v → k < (T.row e).sz → ∃ c, v.cells[k]? = some c ∧ c.oneCell' = true ∧ Rep φ base w (con.f j k) c) :
    ∃ cv w' φ', (Instr.buildSlice t vs.length ((List.range vs.length).zip vs).toArray).run P w = .ok cv w' ∧ Step nb base nm φ w (.sl nm 0 0 vs.length) (M.put nm ⟨e, (T.row e).sz, 0, con⟩) cv w' φ' := by
  obtain ⟨it, z, hr⟩ := hT.is (by rw [hd]; exact fun h => nomatch h)
  have hu := und_slice (hr.d.symm.trans hd)
  obtain ⟨ie, ze, hre⟩ := hT.is (knownT_ne hke)
  have hes := hre.sz
  obtain ⟨cells', f1, f2, f3⟩ := fill_rows (T.row e).sz vs 0 ((Array.range (vs.length * (T.row e).sz)).map (ze.cells[· % ze.cells.size]!)) hvs (by simp)
  have hfill : Instr.fill (fun i => some (i * ie.size, ie.size)) ((Array.range (vs.length * ie.size)).map (ze.cells[· % ze.cells.size]!)) ((List.range vs.length).zip vs).toArray.toList = some cells' := by
    rw [← hes, List.range_eq_range']
    exact f1
  have hbig : vs.length * ie.size ≤ 16777216 := by rw [← hes]; exact Nat.le_trans (Nat.mul_le_mul hmax hszm) (by decide)
  have hrun := run_buildSlice (P := P) hu hre.info hre.zero (by omega) w vs.length hbig h0 _ _ hfill
  have hs := step_new (hC := Con.isC_of_n (by show 0 < con.n; omega)) (hkc := fun _ => hcn.symm) hm hn e cells' vs.length (T.row e).sz ⟨e, (T.row e).sz, 0, con⟩ hsz (by simp only [hcn]; exact Nat.le_refl _) (by rw [maxLen_val]; omega) rfl rfl rfl
    (by rw [f2]; simp) (by
      intro j k hj hk
      simp only [hcn] at hj
      obtain ⟨v, g1, g2⟩ := f3 j k hk hj
      obtain ⟨c, e1, e2, e3⟩ := hcells j k v g1 hk
      refine ⟨c, ?_, e2, e3⟩
      rw [Nat.zero_add] at g2
      rw [g2, e1])
  exact ⟨_, _, _, hrun, hs.1, ⟨_, Phi.upd_same _ _ _, rfl, Nat.le_refl _, fun _ => ⟨by simp only [hcn]; omega, some ⟨w.heap.size, 0, none⟩, by simp, fun _ => by simp⟩⟩, hs.2.1, hs.2.2⟩

theorem allI64_get {l : List V} (h : l.all V.isI64 = true) (j : Nat) (hj : j < l.length) : l.getD j .any = .int ((l.map V.toInt).getD j 0) := by
  have := List.all_eq_true.1 h (l[j]) (List.getElem_mem hj)
  simp only [List.getD, List.getElem?_map, List.getElem?_eq_getElem hj, Option.map_some, Option.getD_some]
  exact isI64_eq this

theorem buildSlice_ok (hT : TabOk P T) {nb base nm : Nat} {φ : Phi} {w : World} {M M' : Mem} (hm : MemRel nb base φ w M) (hn : φ nm = none) {ev : Operand → V} {ρ : Operand → Value} (hev : ∀ x, Rep φ base w (ev x) (ρ x))
    {t n : Nat} {parts : Array (Nat × Operand)} {p : Obl} {v : V} (h : aop T nm (.buildSlice t n parts) ev M = some (p, v, M')) (hp : p.holds) :
    Runs nb base nm φ w v M' ((do pure (Next.value (← Instr.buildSlice t n (parts.map fun (i, x) => (i, ρ x)))) : Sem Next).run P w) := by
  simp only [aop] at h
  cases hd : (T.row t).d with
  | slice e =>
    obtain ⟨it, z, hr⟩ := hT.is (t := t) (by rw [hd]; exact fun h => nomatch h)
    have hu := und_slice (hr.d.symm.trans hd)
    simp only [hd] at h
    cases hke : knownT (T.row e) with
    | false => rw [hke] at h; cases h
    | true =>
      obtain ⟨ie, ze, hre⟩ := hT.is (knownT_ne hke)
      rw [hke] at h
      simp only [cond_true] at h
      cases hb : (Nat.beq n 0 && parts.isEmpty) with
      | true =>
        rw [hb] at h
        simp only [cond_true, Option.some.injEq, Prod.mk.injEq] at h
        obtain ⟨rfl, rfl, rfl⟩ := h
        simp only [Bool.and_eq_true] at hb
        have h0 : n = 0 := Nat.eq_of_beq_eq_true hb.1
        have h1 : parts = #[] := by simpa using hb.2
        subst h0 h1
        have hrun := run_buildSlice_none (P := P) hu hre.info w
        have hevo := evo_alloc w φ (.cells #[] e)
        refine ⟨_, w.alloc (.cells #[] e), φ, .inl (by simp [hrun]; rfl), hm.evo hevo (fun t r ht hp => heap_alloc_old w _ (hm.lt ht hp)), ⟨_, rfl, fun h => nomatch h⟩, hevo, fun t r h => .inl ⟨r, h⟩⟩
      | false =>
        rw [hb] at h
        simp only [cond_false] at h
        have hrow : ∀ ps : List (Nat × Operand), parts.toList = ps → (bif Nat.beq (ps.map fun p => ev p.2).length n && Nat.beq (T.row e).sz 1 && Nat.blt 0 n && Nat.ble n 1000 && (ps.map fun p => ev p.2).all V.leaf && (ps.map (·.1) == List.range n) then
            (bif (ps.map fun p => ev p.2).all V.isI64 then some (Obl.tt, V.sl nm 0 0 n, M.put nm ⟨e, 1, 0, .kil ((ps.map fun p => ev p.2).map V.toInt)⟩)
            else some (.tt, .sl nm 0 0 n, M.put nm ⟨e, 1, 0, .cv n fun j _ => (ps.map fun p => ev p.2).getD j .any⟩))
            else bif Nat.beq (ps.map fun p => ev p.2).length n && Nat.blt 0 (T.row e).sz && Nat.ble (T.row e).sz 1000 && Nat.blt 0 n && Nat.ble n 1000 && (ps.map fun p => ev p.2).all (V.isAgg (T.row e).sz) && (ps.map (·.1) == List.range n) then
              some (.tt, .sl nm 0 0 n, M.put nm ⟨e, (T.row e).sz, 0, .cv n fun j k => ((ps.map fun p => ev p.2).getD j .any).cellAt k⟩) else none) = some (p, v, M') →
            Runs nb base nm φ w v M' ((do pure (Next.value (← Instr.buildSlice t n (parts.map fun (i, x) => (i, ρ x)))) : Sem Next).run P w) := by
          intro ps hps h
          cases hc : (Nat.beq (ps.map fun p => ev p.2).length n && Nat.beq (T.row e).sz 1 && Nat.blt 0 n && Nat.ble n 1000 && (ps.map fun p => ev p.2).all V.leaf && (ps.map (·.1) == List.range n)) with
          | false =>
            rw [hc] at h
            simp only [cond_false] at h
            cases hc2 : (Nat.beq (ps.map fun p => ev p.2).length n && Nat.blt 0 (T.row e).sz && Nat.ble (T.row e).sz 1000 && Nat.blt 0 n && Nat.ble n 1000 && (ps.map fun p => ev p.2).all (V.isAgg (T.row e).sz) && (ps.map (·.1) == List.range n)) with
            | false => rw [hc2] at h; cases h
            | true =>
              rw [hc2] at h
              simp only [cond_true, Option.some.injEq, Prod.mk.injEq] at h
              obtain ⟨rfl, rfl, rfl⟩ := h
              simp only [Bool.and_eq_true] at hc2
              obtain ⟨⟨⟨⟨⟨⟨c1, c2⟩, c7⟩, c3⟩, c4⟩, c5⟩, c6⟩ := hc2
              have c1 : ps.length = n := by have := Nat.eq_of_beq_eq_true c1; simpa using this
              have c2 : 0 < (T.row e).sz := by simpa using c2
              have c7 := Nat.le_of_ble_eq_true c7
              have c3 : 0 < n := by simpa using c3
              have c4 := Nat.le_of_ble_eq_true c4
              have c6 : ps.map (·.1) = List.range n := by simpa using c6
              have harr : parts.map (fun (i, x) => (i, ρ x)) = ((List.range (ps.map fun p => ρ p.2).length).zip (ps.map fun p => ρ p.2)).toArray := by
                apply Array.toList_inj.1
                rw [Array.toList_map, hps, List.length_map, c1, ← c6]
                simp [List.zip_map']
              have hlen : (ps.map fun p => ρ p.2).length = n := by simp [c1]
              have hag : ∀ q ∈ ps, ∃ g, ev q.2 = .agg (T.row e).sz g := fun q hq => by
                have := List.all_eq_true.1 c5 (ev q.2) (List.mem_map.2 ⟨q, hq, rfl⟩)
                cases hx : ev q.2 with
                | agg m g => rw [hx] at this; exact ⟨g, by rw [Nat.eq_of_beq_eq_true this]⟩
                | _ => rw [hx] at this; cases this
              have hcs : ∀ q ∈ ps, ∃ cs : Array Value, ρ q.2 = .agg cs ∧ cs.size = (T.row e).sz ∧ ∀ i, i < (T.row e).sz → ∃ c, cs[i]? = some c ∧ c.oneCell' = true ∧ Rep φ base w ((ev q.2).cellAt i) c := fun q hq => by
                obtain ⟨g, hg⟩ := hag q hq
                have := hev q.2
                rw [hg] at this ⊢
                exact this
              obtain ⟨cv, w', φ', r1, r2⟩ := buildSlice_rows (P := P) hT hm hn hd hke c2 c7 (ps.map fun p => ρ p.2) (by omega) (by omega) (.cv n fun j k => ((ps.map fun p => ev p.2).getD j .any).cellAt k) (by rw [hlen]; rfl) (fun u hu => by
                obtain ⟨q, hq, rfl⟩ := List.mem_map.1 hu
                obtain ⟨cs, h1, h2, _⟩ := hcs q hq
                rw [h1]; exact h2) (fun j k u hu hk => by
                rw [List.getElem?_map] at hu
                cases hj : ps[j]? with
                | none => rw [hj] at hu; cases hu
                | some q =>
                  rw [hj] at hu
                  simp only [Option.map_some, Option.some.injEq] at hu
                  subst hu
                  obtain ⟨cs, h1, h2, h3⟩ := hcs q (List.mem_of_getElem? hj)
                  obtain ⟨c, g1, g2, g3⟩ := h3 k hk
                  refine ⟨c, by rw [h1]; exact g1, g2, ?_⟩
                  show Rep φ base w (((ps.map fun p => ev p.2).getD j .any).cellAt k) c
                  rw [show (ps.map fun p => ev p.2).getD j .any = ev q.2 from by simp [List.getD, hj]]
                  exact g3)
              rw [hlen] at r1 r2
              exact ⟨cv, w', φ', .inl (by rw [harr, hlen]; simp [r1]), r2⟩
          | true =>
            rw [hc] at h
            simp only [cond_true] at h
            simp only [Bool.and_eq_true] at hc
            obtain ⟨⟨⟨⟨⟨c1, c2⟩, c3⟩, c4⟩, c5⟩, c6⟩ := hc
            have c1 : ps.length = n := by have := Nat.eq_of_beq_eq_true c1; simpa using this
            have c2 := Nat.eq_of_beq_eq_true c2
            have c3 : 0 < n := by simpa using c3
            have c4 := Nat.le_of_ble_eq_true c4
            have c6 : ps.map (·.1) = List.range n := by simpa using c6
            have harr : parts.map (fun (i, x) => (i, ρ x)) = ((List.range (ps.map fun p => ρ p.2).length).zip (ps.map fun p => ρ p.2)).toArray := by
              apply Array.toList_inj.1
              rw [Array.toList_map, hps, List.length_map, c1, ← c6]
              simp [List.zip_map']
            have hlen : (ps.map fun p => ρ p.2).length = n := by simp [c1]
            have run : ∀ con : Con, con.n = n → (∀ j, j < n → con.f j 0 = (ps.map fun p => ev p.2).getD j .any) →
                Runs nb base nm φ w (.sl nm 0 0 n) (M.put nm ⟨e, 1, 0, con⟩) ((do pure (Next.value (← Instr.buildSlice t n (parts.map fun (i, x) => (i, ρ x)))) : Sem Next).run P w) := by
              intro con hcn hcf
              obtain ⟨cv, w', φ', r1, r2⟩ := buildSlice_row (P := P) hT hm hn hd hke c2 (ps.map fun p => ρ p.2) (by omega) (by omega) con (by rw [hcn, hlen]) (fun j hj => by
                rw [hlen] at hj
                have hj' : j < ps.length := by omega
                have hl := List.all_eq_true.1 c5 (ev ps[j].2) (List.mem_map.2 ⟨ps[j], List.getElem_mem hj', rfl⟩)
                refine ⟨ρ ps[j].2, by simp [hj'], leaf_one hl (hev _), ?_⟩
                rw [hcf j hj]
                simpa [List.getD, hj'] using hev ps[j].2)
              rw [hlen] at r1 r2
              exact ⟨cv, w', φ', .inl (by rw [harr, hlen]; simp [r1]), r2⟩
            cases hi : (ps.map fun p => ev p.2).all V.isI64 with
            | true =>
              rw [hi] at h
              simp only [cond_true, Option.some.injEq, Prod.mk.injEq] at h
              obtain ⟨rfl, rfl, rfl⟩ := h
              refine run _ (by simp [Con.n, c1]) (fun j hj => ?_)
              rw [allI64_get hi j (by simp; omega)]
              rfl
            | false =>
              rw [hi] at h
              simp only [cond_false, Option.some.injEq, Prod.mk.injEq] at h
              obtain ⟨rfl, rfl, rfl⟩ := h
              exact run _ rfl (fun j hj => rfl)
        split at h
        · next x hpx =>
          cases hc : Nat.beq n 1 with
          | false => rw [hc] at h; cases h
          | true =>
            rw [hc] at h
            simp only [cond_true] at h
            have hn1 := Nat.eq_of_beq_eq_true hc
            subst hn1
            have harr : parts.map (fun (i, x) => (i, ρ x)) = #[(0, ρ x)] := by
              apply Array.toList_inj.1
              rw [Array.toList_map, hpx]
              rfl
            rw [harr]
            have hx := hev x
            have one : ∀ con : Con, con.n = 1 → (T.row e).sz = 1 → (ev x).leaf = true → con.f 0 0 = ev x →
                Runs nb base nm φ w (.sl nm 0 0 1) (M.put nm ⟨e, 1, 0, con⟩) ((do pure (Next.value (← Instr.buildSlice t 1 #[(0, ρ x)])) : Sem Next).run P w) := by
              intro con hcn hsz hl hcf
              have h1 := leaf_one hl hx
              obtain ⟨cv, w', φ', r1, r2⟩ := buildSlice_one (P := P) hT hm hn hd hke (by omega) (by omega) (cx := ρ x) (by rw [cells_one h1, hsz]; rfl) con hcn (fun k hk => by
                have : k = 0 := by omega
                subst this
                exact ⟨ρ x, by rw [cells_one h1]; rfl, h1, by rw [hcf]; exact hx⟩)
              rw [hsz] at r2
              exact ⟨cv, w', φ', .inl (by simp [r1]), r2⟩
            by_cases hag : ∃ m g, ev x = .agg m g
            · obtain ⟨m, g, hg⟩ := hag
              rw [hg] at h hx
              simp only at h
              cases hc2 : (Nat.beq m (T.row e).sz && Nat.blt 0 m && Nat.ble m 1000) with
              | false => rw [hc2] at h; cases h
              | true =>
                rw [hc2] at h
                simp only [cond_true, Option.some.injEq, Prod.mk.injEq] at h
                obtain ⟨rfl, rfl, rfl⟩ := h
                simp only [Bool.and_eq_true] at hc2
                have d1 := Nat.eq_of_beq_eq_true hc2.1.1
                have d2 : 0 < m := by simpa using hc2.1.2
                have d3 := Nat.le_of_ble_eq_true hc2.2
                obtain ⟨cs, hv, q1, q2⟩ := hx
                obtain ⟨cv, w', φ', r1, r2⟩ := buildSlice_one (P := P) hT hm hn hd hke (by omega) (by omega) (cx := ρ x) (by rw [hv]; simp [Value.cells, q1, d1]) (.cv 1 fun _ k => g k) rfl (fun k hk => by
                  rw [hv]
                  exact q2 k (by omega))
                rw [← d1] at r2
                exact ⟨cv, w', φ', .inl (by simp [r1]), r2⟩
            · have h' : (bif (ev x).leaf && Nat.beq (T.row e).sz 1 then some (Obl.tt, V.sl nm 0 0 1, M.put nm ⟨e, 1, 0, bif (ev x).isI64 then .kil [(ev x).toInt] else bif (ev x).isBool then .bl [(ev x).toBool] else .cv 1 fun _ _ => ev x⟩) else none) = some (p, v, M') := by
                cases hxx : ev x with
                | agg n g => exact absurd ⟨n, g, hxx⟩ hag
                | _ => rw [hxx] at h; exact h
              cases hc2 : ((ev x).leaf && Nat.beq (T.row e).sz 1) with
              | false => rw [hc2] at h'; cases h'
              | true =>
                rw [hc2] at h'
                simp only [cond_true, Option.some.injEq, Prod.mk.injEq] at h'
                obtain ⟨rfl, rfl, rfl⟩ := h'
                simp only [Bool.and_eq_true] at hc2
                refine one _ ?_ (Nat.eq_of_beq_eq_true hc2.2) hc2.1 ?_
                · cases (ev x).isI64 <;> cases (ev x).isBool <;> rfl
                · cases hi : (ev x).isI64 with
                  | true => exact (isI64_eq hi).symm
                  | false =>
                    cases hbb : (ev x).isBool with
                    | true => exact (isBool_eq hbb).symm
                    | false => rfl
        · exact hrow _ rfl h
  | _ => simp [hd] at h

/-- EVERY OPERATION WITHOUT A CALL runs as the evaluator foresees. -/
theorem aop_ok (hT : TabOk P T) {nb base nm : Nat} {φ : Phi} {w : World} {M M' : Mem} (hm : MemRel nb base φ w M) (hn : φ nm = none) {o : Oper} {ev : Operand → V} {ρ : Operand → Value} (hev : ∀ x, Rep φ base w (ev x) (ρ x)) (hρ : ∀ v, ρ (.const v) = v)
    {p : Obl} {v : V} (hc : ∀ c, o.op ≠ .call c) (h : aop T nm o.op ev M = some (p, v, M')) (hp : p.holds) : Runs nb base nm φ w v M' ((execOp ρ o).run P w) := by
  unfold execOp
  cases ho : o.op with
  | move x =>
    simp only [ho, aop, Option.some.injEq, Prod.mk.injEq] at h
    obtain ⟨rfl, rfl, rfl⟩ := h
    exact ⟨_, w, φ, .inl rfl, Step.same hm (hev x)⟩
  | assign x =>
    simp only [ho, aop, Option.some.injEq, Prod.mk.injEq] at h
    obtain ⟨rfl, rfl, rfl⟩ := h
    exact ⟨_, w, φ, .inl rfl, Step.same hm (hev x)⟩
  | pick c a b =>
    simp only [ho, aop] at h
    have hcv := hev c
    cases hcc : ev c with
    | lit u =>
      rw [hcc] at h hcv
      have hcv : ρ c = u := hcv
      cases u with
      | bool t =>
        cases t with
        | true =>
          simp only [Option.some.injEq, Prod.mk.injEq] at h
          obtain ⟨rfl, rfl, rfl⟩ := h
          exact ⟨_, w, φ, .inl (by simp [hcv, asBool]), Step.same hm (hev a)⟩
        | false =>
          simp only [Option.some.injEq, Prod.mk.injEq] at h
          obtain ⟨rfl, rfl, rfl⟩ := h
          exact ⟨_, w, φ, .inl (by simp [hcv, asBool]), Step.same hm (hev b)⟩
      | _ => simp at h
    | _ => rw [hcc] at h; simp at h
  | alloc t =>
    simp only [ho, aop] at h
    cases hb : (knownT (T.row t) && Nat.blt 0 (T.row t).sz) with
    | false => simp [hb] at h
    | true =>
      simp only [hb, cond_true, Option.some.injEq, Prod.mk.injEq] at h
      obtain ⟨rfl, rfl, rfl⟩ := h
      simp only [Bool.and_eq_true] at hb
      obtain ⟨a, w', φ', h1, h2⟩ := alloc_ok hT hm hn hb.1 (by simpa using hb.2)
      exact ⟨a, w', φ', .inl (by simp [h1]), h2⟩
  | box t x =>
    simp only [ho, aop] at h
    have hx := hev x
    by_cases hag : ∃ n g, ev x = .agg n g
    · obtain ⟨n, g, hg⟩ := hag
      rw [hg] at h hx
      simp only at h
      cases hb : Nat.blt 0 n with
      | false => simp [hb] at h
      | true =>
        simp only [hb, cond_true, Option.some.injEq, Prod.mk.injEq] at h
        obtain ⟨rfl, rfl, rfl⟩ := h
        cases har : isArrT (T.row t) with
        | true =>
          obtain ⟨a, w', φ', h1, h2⟩ := box_arr_ok (P := P) hm hn t hx (by simpa using hb)
          exact ⟨a, w', φ', .inl (by simp [h1]), h2⟩
        | false =>
          obtain ⟨a, w', φ', h1, h2⟩ := box_agg_ok (P := P) hm hn t hx (by simpa using hb)
          exact ⟨a, w', φ', .inl (by simp [h1]), h2⟩
    · have h' : (bif (ev x).leaf then some (Obl.tt, V.ptr nm 0 0 0, M.put nm ⟨t, 1, 0, .one [ev x]⟩) else none) = some (p, v, M') := by
        cases hxx : ev x with
        | agg n g => exact absurd ⟨n, g, hxx⟩ hag
        | _ => rw [hxx] at h; exact h
      cases hb : (ev x).leaf with
      | false => simp [hb] at h'
      | true =>
        simp only [hb, cond_true, Option.some.injEq, Prod.mk.injEq] at h'
        obtain ⟨rfl, rfl, rfl⟩ := h'
        obtain ⟨a, w', φ', h1, h2⟩ := box_leaf_ok (P := P) hm hn t hx hb
        exact ⟨a, w', φ', .inl (by simp [h1]), h2⟩
  | build t parts =>
    simp only [ho, aop] at h
    cases hd : (T.row t).d with
    | struct fs =>
      simp only [hd] at h
      cases hb : (fs.all (fun q => knownT (T.row q.1)) && parts.toList.all (fun (i, x) => partOk T fs (T.row t).sz i (ev x))) with
      | false => rw [hb] at h; cases h
      | true =>
        rw [hb] at h
        simp only [cond_true, Option.some.injEq, Prod.mk.injEq] at h
        obtain ⟨rfl, rfl, rfl⟩ := h
        obtain ⟨cv, h1, h2⟩ := build_ok (w := w) hT hd ev ρ hev parts hb
        exact Runs.val hm h1 h2
    | _ => simp [hd] at h
  | buildSlice t n parts =>
    simp only [ho, aop] at h
    exact buildSlice_ok hT hm hn hev h hp
  | load t x =>
    simp only [ho, aop] at h
    cases hl : loadV T M t (ev x) with
    | none => simp [hl] at h
    | some q =>
      obtain ⟨p', v'⟩ := q
      simp only [hl, Option.some.injEq, Prod.mk.injEq] at h
      obtain ⟨rfl, rfl, rfl⟩ := h
      obtain ⟨cv, h1, h2⟩ := loadV_ok (P := P) hT hm (hev x) hl hp
      exact Runs.val hm h1 h2
  | store t x y =>
    simp only [ho, aop] at h
    obtain ⟨w', φ', h1, h2⟩ := storeV_ok (P := P) (nm := nm) hT hm (hev x) (hev y) h hp
    exact ⟨undef, w', φ', .inr ⟨by simp [h1], rfl⟩, h2⟩
  | nilCheck x =>
    simp only [ho, aop] at h
    have hx := hev x
    cases hxx : ev x with
    | ptr a b c d =>
      rw [hxx] at h hx
      obtain ⟨r, hrr, h1c, hle, hv⟩ := hx
      obtain ⟨ob, hob, hrel⟩ := hm.obj a r hrr
      simp only [hob, Option.some.injEq, Prod.mk.injEq] at h
      obtain ⟨rfl, rfl, rfl⟩ := h
      have hver := eqnO_holds.1 hp
      obtain ⟨hv1, hv2⟩ := hv (by rw [← hrel.ver, hver])
      exact ⟨ρ x, w, φ, .inl (by simp [hv1]), Step.same hm ⟨r, hrr, h1c, hle, hv⟩⟩
    | at_ a b c =>
      rw [hxx] at h hx
      simp only [Option.some.injEq, Prod.mk.injEq] at h
      obtain ⟨rfl, rfl, rfl⟩ := h
      obtain ⟨b', off, hv, rest⟩ := hx
      exact ⟨ρ x, w, φ, .inl (by simp [hv]), Step.same hm ⟨b', off, hv, rest⟩⟩
    | clo f n g =>
      rw [hxx] at h hx
      simp only [Option.some.injEq, Prod.mk.injEq] at h
      obtain ⟨rfl, rfl, rfl⟩ := h
      obtain ⟨cs, hv, rest⟩ := hx
      exact ⟨ρ x, w, φ, .inl (by simp [hv]), Step.same hm ⟨cs, hv, rest⟩⟩
    | bnd f n g =>
      rw [hxx] at h hx
      simp only [Option.some.injEq, Prod.mk.injEq] at h
      obtain ⟨rfl, rfl, rfl⟩ := h
      obtain ⟨cs, hv, rest⟩ := hx
      exact ⟨ρ x, w, φ, .inl (by simp [hv]), Step.same hm ⟨cs, hv, rest⟩⟩
    | _ => rw [hxx] at h; simp at h
  | binOp op t x y t2 =>
    simp only [ho, aop] at h
    cases hnl : isNilC y with
    | true =>
      rw [hnl] at h
      simp only [cond_true] at h
      cases hb : nilV T op t M (ev x) with
      | none => rw [hb] at h; cases h
      | some q =>
        obtain ⟨p', v'⟩ := q
        rw [hb] at h
        simp only [Option.some.injEq, Prod.mk.injEq] at h
        obtain ⟨rfl, rfl, rfl⟩ := h
        obtain ⟨cv, h1, h2⟩ := nilV_ok hT hm hρ (hev x) x hnl hb hp
        exact Runs.val hm h1 h2
    | false =>
      rw [hnl] at h
      simp only [cond_false] at h
      cases hb : binV T op t (ev x) (ev y) with
      | none => rw [hb] at h; cases h
      | some q =>
        obtain ⟨p', v'⟩ := q
        rw [hb] at h
        simp only [Option.some.injEq, Prod.mk.injEq] at h
        obtain ⟨rfl, rfl, rfl⟩ := h
        obtain ⟨cv, h1, h2⟩ := binV_ok hT (hev x) (hev y) x y hb hp
        exact Runs.val hm h1 h2
  | unOp op t x =>
    simp only [ho, aop] at h
    have hx := hev x
    cases op with
    | neg =>
      cases hxx : ev x with
      | lit a =>
        rw [hxx] at h hx
        have hx : ρ x = a := hx
        cases a with
        | int k n =>
          cases k with
          | i64 =>
            simp only [Option.some.injEq, Prod.mk.injEq] at h
            obtain ⟨rfl, rfl, rfl⟩ := h
            have hp : InR (-n) := hp
            unfold InR at hp
            refine ⟨.int .i64 (-n), w, φ, .inl ?_, Step.same hm rfl⟩
            have : IntKind.i64.wrap (-n) = -n := IntWalk.i64_in (-n) ⟨hp.1, hp.2⟩
            simp [hx, Op.unary, Op.intArith, this]
          | _ => simp at h
        | _ => simp at h
      | _ => rw [hxx] at h; simp at h
    | not =>
      cases hxx : ev x with
      | lit a =>
        rw [hxx] at h hx
        have hx : ρ x = a := hx
        cases a with
        | bool b =>
          simp only [Option.some.injEq, Prod.mk.injEq] at h
          obtain ⟨rfl, rfl, rfl⟩ := h
          exact ⟨.bool (!b), w, φ, .inl (by simp [hx, Op.unary]), Step.same hm rfl⟩
        | _ => simp at h
      | _ => rw [hxx] at h; simp at h
    | _ => simp at h
  | convert s d x =>
    simp only [ho, aop] at h
    have hx := hev x
    cases hd : (T.row d).d with
    | int k =>
      cases hxx : ev x with
      | lit a =>
        rw [hxx] at hx
        have hx : ρ x = a := hx
        cases a with
        | int k' n =>
          obtain ⟨it, z, hr⟩ := hT.is (t := d) (by rw [hd]; exact fun h => nomatch h)
          have hu := und_int (hr.d.symm.trans hd)
          cases hks : knownT (T.row s) with
          | false => rw [hd, hxx, hks] at h; cases k <;> cases h
          | true =>
            obtain ⟨is, zs, hrs⟩ := hT.is (knownT_ne hks)
            have hus : ∃ ds, P.underlying s = some ds := by
              cases hq : P.underlying s with
              | some ds => exact ⟨ds, rfl⟩
              | none =>
                have := hrs.d
                unfold convD at this
                rw [hq] at this
                exact absurd this (knownT_ne hks)
            obtain ⟨ds, hus⟩ := hus
            have hrun : (convert s d (.int k' n)).run P w = .ok (.int k (k.wrap n)) w := by
              simp [convert, run_underlying hu, run_underlying hus, Conv.intToInt]
            have key : ∀ q : Obl × V, q.2 = .lit (.int k (k.wrap n)) → some (q.1, q.2, M) = some (p, v, M') → Runs nb base nm φ w v M' ((do pure (Next.value (← convert s d (ρ x))) : Sem Next).run P w) := by
              intro q hq he
              simp only [Option.some.injEq, Prod.mk.injEq] at he
              obtain ⟨_, rfl, rfl⟩ := he
              rw [hx, hq]
              exact Runs.val hm hrun rfl
            rw [hd, hxx, hks] at h
            cases k with
            | i64 =>
              simp only [Option.some.injEq, Prod.mk.injEq] at h
              obtain ⟨rfl, rfl, rfl⟩ := h
              have hp : InR n := hp
              unfold InR at hp
              have hw : IntKind.i64.wrap n = n := IntWalk.i64_in n ⟨hp.1, hp.2⟩
              exact key (.inr n, .int n) (by rw [hw]) rfl
            | _ => exact key (.tt, .lit (.int _ _)) rfl h
        | _ => rw [hd, hxx] at h; cases k <;> simp at h
      | _ => rw [hd, hxx] at h; cases k <;> simp at h
    | _ => simp [hd] at h
  | makeFunc fn first captured =>
    cases fn with
    | func f =>
      simp only [ho, aop] at h
      cases hb : first.isEmpty with
      | false =>
        rw [hb] at h
        simp only [cond_false] at h
        cases hb2 : captured.isEmpty with
        | false => rw [hb2] at h; cases h
        | true =>
          rw [hb2] at h
          simp only [cond_true, Option.some.injEq, Prod.mk.injEq] at h
          obtain ⟨rfl, rfl, rfl⟩ := h
          have hf : captured = #[] := by simpa using hb2
          subst hf
          show Runs nb base nm φ w _ _ ((do pure (Next.value (← Instr.makeFunc (.func f) (first.map ρ) (#[].map ρ))) : Sem Next).run P w)
          refine Runs.val (cv := .func (.func f) (first.map ρ) #[]) hm (by simp [Instr.makeFunc]) ⟨_, rfl, by simp, fun i hi => ?_⟩
          refine ⟨ρ first[i], by simp [Array.getElem?_eq_getElem hi], ?_⟩
          simpa [List.getD, hi] using hev first[i]
      | true =>
        rw [hb] at h
        simp only [cond_true, Option.some.injEq, Prod.mk.injEq] at h
        obtain ⟨rfl, rfl, rfl⟩ := h
        have hf : first = #[] := by simpa using hb
        subst hf
        show Runs nb base nm φ w _ _ ((do pure (Next.value (← Instr.makeFunc (.func f) (#[].map ρ) (captured.map ρ))) : Sem Next).run P w)
        refine Runs.val (cv := .func (.func f) #[] (captured.map ρ)) hm (by simp [Instr.makeFunc]) ⟨_, rfl, by simp, fun i hi => ?_⟩
        refine ⟨ρ captured[i], by simp [Array.getElem?_eq_getElem hi], ?_⟩
        simpa [List.getD, hi] using hev captured[i]
    | _ => simp [ho, aop] at h
  | makeInterface t x =>
    simp only [ho, aop] at h
    cases hk : concT (T.row t) with
    | false => rw [hk] at h; cases h
    | true =>
      rw [hk] at h
      simp only [cond_true, Option.some.injEq, Prod.mk.injEq] at h
      obtain ⟨rfl, rfl, rfl⟩ := h
      have hd : (T.row t).d ≠ .other := fun e => by simp [concT, e] at hk
      obtain ⟨i, z, hr⟩ := hT.is (t := t) hd
      have hd2 : (T.row t).d ≠ .iface := fun e => by simp [concT, e] at hk
      rw [hr.d] at hd hd2
      show Runs nb base nm φ w _ _ ((do pure (Next.value (← Instr.makeInterface t (ρ x))) : Sem Next).run P w)
      refine Runs.val (cv := .iface t (ρ x)) hm ?_ ⟨_, rfl, hev x⟩
      unfold convD at hd hd2
      cases hu : P.underlying t with
      | none => rw [hu] at hd; exact absurd rfl hd
      | some d =>
        cases d <;> first | (simp [Instr.makeInterface, run_underlying hu]; done) | (rw [hu] at hd; exact absurd rfl hd) | (rw [hu] at hd2; exact absurd rfl hd2)
  | makeSlice t l c =>
    simp only [ho, aop] at h
    have hl := hev l
    have hcc := hev c
    cases hd : (T.row t).d with
    | slice e =>
      cases hll : ev l with
      | lit a =>
        cases a with
        | int kl l' =>
          cases hccc : ev c with
          | lit a =>
            cases a with
            | int kc c' =>
              rw [hd, hll, hccc] at h
              rw [hll] at hl
              rw [hccc] at hcc
              have hl : ρ l = .int kl l' := hl
              have hcc : ρ c = .int kc c' := hcc
              simp only at h
              cases hb : (knownT (T.row e) && Nat.blt 0 (T.row e).sz && Nat.blt 0 (T.row e).bs) with
              | false => rw [hb] at h; cases h
              | true =>
                rw [hb] at h
                simp only [cond_true, Option.some.injEq, Prod.mk.injEq] at h
                obtain ⟨rfl, rfl, rfl⟩ := h
                simp only [Bool.and_eq_true] at hb
                obtain ⟨h0, h1, h2⟩ := hp
                obtain ⟨cv, w', φ', q1, q2⟩ := makeSlice_ok (P := P) hT hm hn hd hb.1.1 (by simpa using hb.1.2) (by simpa using hb.2) (kl := kl) (kc := kc) h0 h1 h2 (sameOp l c)
                exact ⟨cv, w', φ', .inl (by simp [hl, hcc, q1]), q2⟩
            | _ => rw [hd, hll, hccc] at h; simp at h
          | _ => rw [hd, hll, hccc] at h; simp at h
        | _ => rw [hd, hll] at h; simp at h
      | _ => rw [hd, hll] at h; simp at h
    | _ => simp [hd] at h
  | slice t x lo hi mx =>
    simp only [ho, aop] at h
    cases hd : (T.row t).d with
    | slice e =>
      cases mx with
      | some m =>
        cases hl : optInt ev lo with
        | none => simp [hd, hl] at h
        | some l =>
          cases hh : optInt ev hi with
          | none => simp [hd, hl, hh] at h
          | some hh' =>
            cases l with
            | some _ => simp [hd, hl, hh] at h
            | none =>
              cases hh' with
              | none => simp [hd, hl, hh] at h
              | some hv =>
                simp only [hd, hl, hh] at h
                cases hk : (knownT (T.row e) && Nat.beq (T.row e).sz 1) with
                | false => rw [hk] at h; cases h
                | true =>
                  rw [hk] at h
                  simp only [cond_true] at h
                  simp only [Bool.and_eq_true] at hk
                  split at h
                  · next fr xs k mv hxx hyy =>
                    simp only [Option.some.injEq, Prod.mk.injEq] at h
                    obtain ⟨rfl, rfl, rfl⟩ := h
                    obtain ⟨p1, p2, p3, p4⟩ := hp
                    have hx := hev x
                    have hy := hev m
                    rw [hxx] at hx
                    rw [hyy] at hy
                    have hy : ρ m = .int k mv := hy
                    rcases opt_eval hev hl with ⟨rfl, _⟩ | ⟨o1, k1, i1, _, h1, _⟩
                    · rcases opt_eval hev hh with ⟨_, h2⟩ | ⟨o2, k2, i2, rfl, h2, hρ⟩
                      · cases h2
                      · cases h2
                        obtain ⟨cv, q1, q2⟩ := slice3_ok (P := P) hT hd hk.1 (Nat.eq_of_beq_eq_true hk.2) hx (kh := k2) (km := k) p1 p2 p3 p4
                        refine Runs.val hm ?_ q2
                        simp only [Option.map_none, Option.map_some, hρ, hy]
                        exact q1
                    · cases h1
                  · cases h
      | none =>
        cases hl : optInt ev lo with
        | none => simp [hd, hl] at h
        | some l =>
          cases hh : optInt ev hi with
          | none => simp [hd, hl, hh] at h
          | some hh' =>
            simp only [hd, hl, hh] at h
            cases hk : knownT (T.row e) with
            | false => rw [hk] at h; cases h
            | true =>
              rw [hk] at h
              simp only [cond_true] at h
              cases hs : sliceV M (T.row e).sz (ev x) l hh' with
              | none => rw [hs] at h; cases h
              | some q =>
                obtain ⟨p', v'⟩ := q
                rw [hs] at h
                simp only [Option.some.injEq, Prod.mk.injEq] at h
                obtain ⟨rfl, rfl, rfl⟩ := h
                obtain ⟨cv, h1, h2⟩ := sliceV_ok (P := P) hT hm hd hk hev hl hh (hev x) hs hp
                exact Runs.val hm h1 h2
    | array n e =>
      cases mx with
      | some m => simp [hd] at h
      | none =>
        cases hl : optInt ev lo with
        | none => simp [hd, hl] at h
        | some l =>
          cases hh : optInt ev hi with
          | none => simp [hd, hl, hh] at h
          | some hh' =>
            simp only [hd, hl, hh] at h
            cases hk : (knownT (T.row e) && Nat.beq (T.row e).sz 1) with
            | false => rw [hk] at h; cases h
            | true =>
              rw [hk] at h
              simp only [cond_true] at h
              simp only [Bool.and_eq_true] at hk
              have hx := hev x
              cases hxx : ev x with
              | at_ sz g o =>
                rw [hxx] at h hx
                simp only at h
                cases hc : (Nat.beq sz n && Nat.beq o 0 && Nat.ble n 1000 && (List.range n).all (fun k => (g k).isI64)) with
                | false => rw [hc] at h; cases h
                | true =>
                  rw [hc] at h
                  simp only [cond_true, Option.some.injEq, Prod.mk.injEq] at h
                  obtain ⟨rfl, rfl, rfl⟩ := h
                  simp only [Bool.and_eq_true] at hc
                  have e1 := Nat.eq_of_beq_eq_true hc.1.1.1
                  have e2 := Nat.eq_of_beq_eq_true hc.1.1.2
                  subst e1 e2
                  obtain ⟨p1, p2, p3⟩ := hp
                  obtain ⟨cv, h1, h2⟩ := sliceArr_ok (P := P) hT hd hk.1 (Nat.eq_of_beq_eq_true hk.2) hx (Nat.le_of_ble_eq_true hc.1.2) hc.2 hev hl hh p1 p2 p3
                  exact Runs.val hm h1 h2
              | _ => rw [hxx] at h; cases h
    | _ => simp [hd] at h
  | fieldAddr s x f =>
    simp only [ho, aop] at h
    have hx := hev x
    cases hd : (T.row s).d with
    | struct fs =>
      simp only [hd] at h
      cases hb : (Nat.blt f fs.length && knownT (T.row (fs.getD f (0, 0)).1) && Nat.blt 0 (T.row (fs.getD f (0, 0)).1).sz) with
      | false => rw [hb] at h; cases h
      | true =>
        rw [hb] at h
        simp only [cond_true] at h
        simp only [Bool.and_eq_true] at hb
        obtain ⟨⟨b1, b2⟩, b3⟩ := hb
        have b1 : f < fs.length := by simpa using b1
        have b3 : 0 < (T.row (fs.getD f (0, 0)).1).sz := by simpa using b3
        cases hxx : ev x with
        | ptr n ver i o' =>
          rw [hxx] at h hx
          obtain ⟨r, hrr, h1c, hle, hv⟩ := hx
          obtain ⟨ob, hob, hrel⟩ := hm.obj n r hrr
          simp only [hob, Option.some.injEq, Prod.mk.injEq] at h
          obtain ⟨rfl, rfl, rfl⟩ := h
          have hver := eqnO_holds.1 hp
          obtain ⟨hv1, hv2⟩ := hv (by rw [← hrel.ver, hver])
          show Runs nb base nm φ w _ _ ((do pure (Next.value (← Instr.fieldAt s (ρ x) f)) : Sem Next).run P w)
          rw [hv1]
          refine Runs.val hm (fieldAt_ok hT hd b1 b2 b3) ⟨r, hrr, rfl, hle, fun _ => ⟨by rw [Nat.add_assoc], hv2⟩⟩
        | at_ sz g o' =>
          rw [hxx] at h hx
          simp only [Option.some.injEq, Prod.mk.injEq] at h
          obtain ⟨rfl, rfl, rfl⟩ := h
          obtain ⟨b', off, hv, rest⟩ := hx
          show Runs nb base nm φ w _ _ ((do pure (Next.value (← Instr.fieldAt s (ρ x) f)) : Sem Next).run P w)
          rw [hv]
          exact Runs.val hm (fieldAt_ok hT hd b1 b2 b3) ⟨b', off, by rw [Nat.add_assoc], rest⟩
        | _ => rw [hxx] at h; simp at h
    | _ => simp [hd] at h
  | field t x f =>
    simp only [ho, aop] at h
    have hx := hev x
    cases hd : (T.row t).d with
    | struct fs =>
      cases hxx : ev x with
      | agg n g =>
        rw [hd, hxx] at h
        rw [hxx] at hx
        obtain ⟨cs, hv, q1, q2⟩ := hx
        simp only at h
        cases hb : (Nat.blt f fs.length && knownT (T.row (fs.getD f (0, 0)).1) && Nat.ble ((fs.getD f (0, 0)).2 + (T.row (fs.getD f (0, 0)).1).sz) n) with
        | false => rw [hb] at h; cases h
        | true =>
          rw [hb] at h
          simp only [cond_true] at h
          simp only [Bool.and_eq_true] at hb
          obtain ⟨⟨b1, b2⟩, b3⟩ := hb
          have b1 : f < fs.length := by simpa using b1
          have b3 := Nat.le_of_ble_eq_true b3
          obtain ⟨it, z, hr⟩ := hT.is (t := t) (by rw [hd]; exact fun h => nomatch h)
          obtain ⟨g', hg, hfs⟩ := und_struct (hr.d.symm.trans hd)
          have hlen : f < g'.size := by rw [← hfs] at b1; simpa using b1
          have e1 : g'[f]? = some g'[f] := Array.getElem?_eq_getElem hlen
          have e2 : fs.getD f (0, 0) = (g'[f].type, g'[f].offset) := by rw [← hfs]; simp [List.getD, hlen]
          rw [e2] at h b2 b3
          simp only at h b2 b3
          show Runs nb base nm φ w _ _ ((do pure (Next.value (← Instr.field t (ρ x) f)) : Sem Next).run P w)
          have hfr : ∀ cv, (part g'[f].type cs g'[f].offset).run P w = .ok cv w → (Instr.field t (ρ x) f).run P w = .ok cv w := by
            intro cv hcv
            rw [hv]
            simp [Instr.field, run_underlying hg, e1, asAgg, hcv]
          cases ha : isAggT (T.row g'[f].type) with
          | true =>
            rw [ha] at h
            simp only [cond_true, Option.some.injEq, Prod.mk.injEq] at h
            obtain ⟨rfl, rfl, rfl⟩ := h
            refine Runs.val hm (hfr _ (run_part_agg hT b2 ha cs _)) ⟨_, rfl, by simp; omega, fun k hk => ?_⟩
            obtain ⟨c, z1, z2, z3⟩ := q2 (g'[f].offset + k) (by omega)
            refine ⟨c, ?_, z2, z3⟩
            rw [Array.getElem?_extract]
            rw [if_pos (by omega)]
            exact z1
          | false =>
            rw [ha] at h
            simp only [cond_false] at h
            cases hz : Nat.beq (T.row g'[f].type).sz 1 with
            | false => rw [hz] at h; cases h
            | true =>
              rw [hz] at h
              simp only [cond_true, Option.some.injEq, Prod.mk.injEq] at h
              obtain ⟨rfl, rfl, rfl⟩ := h
              have hz := Nat.eq_of_beq_eq_true hz
              obtain ⟨c, z1, z2, z3⟩ := q2 g'[f].offset (by omega)
              exact Runs.val hm (hfr _ (run_part_leaf hT b2 ha cs _ z1)) z3
      | _ => rw [hd, hxx] at h; simp at h
    | _ => simp [hd] at h
  | indexAddr t x i =>
    simp only [ho, aop] at h
    have hi := hev i
    cases hii : ev i with
    | lit a =>
      cases a with
      | int k n =>
        rw [hii] at h hi
        have hi : ρ i = .int k n := hi
        simp only at h
        cases hs : indexV T M t (ev x) n with
        | none => rw [hs] at h; cases h
        | some q =>
          obtain ⟨p', v'⟩ := q
          rw [hs] at h
          simp only [Option.some.injEq, Prod.mk.injEq] at h
          obtain ⟨rfl, rfl, rfl⟩ := h
          obtain ⟨cv, h1, h2⟩ := indexV_ok (P := P) hT hm (k := k) (hev x) hs hp
          show Runs nb base nm φ w _ _ ((do pure (Next.value (← Instr.indexAt t (ρ x) (ρ i))) : Sem Next).run P w)
          rw [hi]
          exact Runs.val hm h1 h2
      | _ => rw [hii] at h; simp at h
    | _ => rw [hii] at h; simp at h
  | index t x i =>
    simp only [ho, aop] at h
    split at h
    · next s k iv hd hxx hii =>
      simp only [Option.some.injEq, Prod.mk.injEq] at h
      obtain ⟨rfl, rfl, rfl⟩ := h
      obtain ⟨p1, p2⟩ := hp
      have p1 : 0 ≤ iv := p1
      have p2 : iv < (s.size : Int) := p2
      have hx := hev x
      have hy := hev i
      rw [hxx] at hx
      rw [hii] at hy
      have hx : ρ x = .string s := hx
      have hy : ρ i = .int k iv := hy
      obtain ⟨it, z, hr⟩ := hT.is (t := t) (by rw [hd]; exact fun h => nomatch h)
      have hu := und_string (hr.d.symm.trans hd)
      refine Runs.val (cv := .int .u8 ((s[iv.toNat]'(by omega)).toNat : Int)) hm ?_ ?_
      · rw [hx, hy, run_index_string _ _ _ _ _ hu, dif_pos ⟨p1, p2⟩]
      · show Value.int .u8 _ = _
        congr 2
        have h3 : iv.toNat < s.data.size := by have : s.size = s.data.size := rfl; omega
        simp only [Array.getD, h3, dif_pos]
        rfl
    · cases h
  | extract x i =>
    simp only [ho, aop] at h
    have hx := hev x
    cases hxx : ev x with
    | tup n g =>
      rw [hxx] at h hx
      obtain ⟨cs, hv, h1, h2⟩ := hx
      simp only at h
      cases hb : Nat.blt i n with
      | false => rw [hb] at h; cases h
      | true =>
        rw [hb] at h
        simp only [cond_true, Option.some.injEq, Prod.mk.injEq] at h
        obtain ⟨rfl, rfl, rfl⟩ := h
        obtain ⟨c, e1, e2⟩ := h2 i (by simpa using hb)
        show Runs nb base nm φ w _ _ ((do pure (Next.value (← Instr.extract (ρ x) i)) : Sem Next).run P w)
        refine Runs.val (cv := c) hm ?_ e2
        rw [hv]
        simp [Instr.extract, e1]
    | _ => rw [hxx] at h; simp at h
  | call c => exact absurd ho (hc c)
  | _ => simp [ho, aop] at h

end
end Go.Tri
