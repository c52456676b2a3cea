/-
  THE LIBRARY's SORT, as a contract of this framework: the shelf's theorem on slices.SortFunc (whatever length, elements of one cell), over a named row of rows of ints that lie in memory that nobody writes, compared by a function that has a contract.
-/
import Derived.Test.YtafibngpgllcfaaA36
import Derived.Shelf.SlSortCmp.Whole1
namespace Go.Tri
open Go.RowKit Go.Shelf Go.Lib Go.Sort Go.Proofs

/-- A world with the same past, more blocks and more draws. -/
theorem grown_of {W w' : World} (h1 : w'.os = W.os) (h2 : w'.tape = W.tape) (h3 : w'.output = W.output) (h4 : W.heap.size ≤ w'.heap.size) (h5 : ∀ b, b < W.heap.size → w'.heap[b]? = W.heap[b]?) (h6 : W.drawn ≤ w'.drawn) : ∃ q os', w' = grow (W.drewN q) os' := by
  have e : W.heap ++ w'.heap.extract W.heap.size w'.heap.size = w'.heap := by
    apply Array.ext_getElem?
    intro k
    by_cases hk : k < W.heap.size
    · rw [Array.getElem?_append_left hk]
      exact (h5 k hk).symm
    · rw [Array.getElem?_append_right (by omega), Array.getElem?_extract]
      by_cases hk2 : k < w'.heap.size
      · rw [if_pos (by omega), show W.heap.size + (k - W.heap.size) = k by omega]
      · rw [if_neg (by omega), Array.getElem?_eq_none (by omega)]
  refine ⟨w'.drawn - W.drawn, w'.heap.extract W.heap.size w'.heap.size, ?_⟩
  cases w' with
  | mk heap tape drawn os output =>
    cases W with
    | mk heap0 tape0 drawn0 os0 output0 =>
      simp only at h1 h2 h3 h6 e
      subst h1 h2 h3
      simp only [grow, World.drewN, e]
      congr 1
      omega
theorem swo_comap {α β : Type} {lt : β → β → Bool} (h : SWO lt) (f : α → β) : SWO fun x y => lt (f x) (f y) := ⟨fun _ => h.irrefl _, fun _ _ _ => h.trans _ _ _, fun _ _ _ => h.ntrans _ _ _⟩
theorem sortWorld_heap (enc : Nat → Value) (w : World) (blk m : Nat) (dk : Array Nat) (os : Array Obj) {b : Nat} (hb : b < w.heap.size) : (sortWorld enc w blk 0 m dk os).heap[b]? = if b = blk then (w.heap[b]?).map (onCells (putCells enc 0 dk)) else w.heap[b]? := by
  unfold sortWorld
  rw [heap_grow_old _ _ (by rw [Go.Proofs.size_putRow]; exact hb)]
  show ((w.heap.modify blk (onCells (putCells enc 0 dk)))[b]?) = _
  rw [Array.getElem?_modify]
  by_cases h : blk = b
  · rw [if_pos h, if_pos h.symm]
  · rw [if_neg h, if_neg (Ne.symm h)]
theorem sortWorld_size (enc : Nat → Value) (w : World) (blk m : Nat) (dk : Array Nat) (os : Array Obj) : w.heap.size ≤ (sortWorld enc w blk 0 m dk os).heap.size := by
  unfold sortWorld
  rw [size_grow, Go.Proofs.size_putRow]
  exact Nat.le_add_right _ _
theorem perm_range {n : Nat} {d' : Array Nat} (h : PermIn 0 n (Array.range n) d') (hs : d'.size = n) : ((List.range n).map fun j => d'[j]!).Perm (List.range n) ∧ ∀ j, j < n → d'[j]! < n := by
  obtain ⟨_, _, h3⟩ := h
  have e1 : (d'.extract 0 n).toList = (List.range n).map fun j => d'[j]! := by
    apply List.ext_getElem?
    intro j
    rw [Array.getElem?_toList, Array.getElem?_extract, List.getElem?_map]
    by_cases hj : j < n
    · rw [if_pos (by omega), Nat.zero_add, List.getElem?_range hj, Array.getElem?_eq_getElem (by omega)]
      simp only [Option.map_some]
      rw [getElem!_pos d' j (by omega)]
    · rw [if_neg (by omega), List.getElem?_eq_none (by simp; omega)]
      rfl
  have e2 : ((Array.range n).extract 0 n).toList = List.range n := by
    simp
  rw [e1, e2] at h3
  refine ⟨h3, fun j hj => ?_⟩
  have : d'[j]! ∈ (List.range n).map fun j => d'[j]! := List.mem_map.2 ⟨j, List.mem_range.2 hj, rfl⟩
  exact List.mem_range.1 (h3.mem_iff.1 this)
set_option maxHeartbeats 1000000 in
/-- slices.SortFunc over rows of ints. -/
theorem ACM_sortRows {P : Program} {ρ : Ren} (L : SlLaysF.n6 P ρ) (hk : FnOk P (ρ.f 6)) {M : Mem} {t ver : Nat} {e : TypeId} {n : Nat} {R : Nat → List Int} {fn : FuncId} {gc : Nat → V} {f : Nat → Nat → V} (hM : M.get t = some ⟨e, 1, ver, .cv n f⟩) (hf : ∀ j, j < n → f j 0 = .ints true (R j)) (hn0 : 0 < n) (hn : n < 4611686018427387904)
    (eg : ∀ args w, (callFunc fn args).run P w = .ok (.enter fn args) w) (c : List Int → List Int → Int) (hO : SWO (ltOf c)) (hcmp : ∀ xs ys, APure P fn [.ints false xs, .ints false ys] (fun r => r = .int (c xs ys))) :
    ACM P (ρ.f 6) [.sl t ver 0 n, .clo fn 0 gc] M (fun r M' => r = V.un ∧ ∃ σ : Nat → Nat, (∀ j, j < n → σ j < n) ∧ ((List.range n).map σ).Perm (List.range n) ∧ (∀ i j, i < j → j < n → ltOf c (R (σ j)) (R (σ i)) = false) ∧ M' = M.put t ⟨e, 1, ver, .cv n fun j _ => .ints true (R (σ j))⟩) := by
  unfold ACM
  refine ⟨hk, fun nb base φ w args _ hm hs ha => ?_⟩
  obtain ⟨a0, a1, rfl⟩ : ∃ a0 a1, args = #[a0, a1] := by
    have h2 : args.size = 2 := hs
    refine ⟨args[0], args[1], ?_⟩
    apply Array.ext_getElem?
    intro k
    match k with
    | 0 => simp
    | 1 => simp
    | k + 2 => simp; omega
  obtain ⟨r, hr, _, hle, hv⟩ := ha 0
  obtain ⟨cs, rfl, hcs, _⟩ := ha 1
  obtain rfl : cs = #[] := Array.eq_empty_of_size_eq_zero hcs
  obtain ⟨o, ho, hrel⟩ := hm.obj t r hr
  rw [hM] at ho
  cases ho
  have hver : ver = r.ver := hrel.ver
  have hrn : n = r.n := hrel.n
  have hsz : 1 = r.sz := hrel.sz
  have hcp : 0 < r.cap := by have := hrel.le; omega
  obtain ⟨_, A, rfl, hA⟩ := hv hver.symm
  have hA := hA hcp
  rw [Nat.zero_mul] at hA
  subst hA
  obtain ⟨cur, hcur, hcsz, hcell⟩ := hrel.row rfl hcp
  have hblk : r.g < w.heap.size := hrel.dom hcp
  have cl : ∀ j, j < n → ∃ u, cur[j]? = some u ∧ u.oneCell' = true ∧ Rep φ base w (.ints true (R j)) u := fun j hj => by
    obtain ⟨u, h1, h2, h3⟩ := hcell j 0 (by omega) (by omega)
    rw [← hsz, Nat.mul_one, Nat.add_zero] at h1
    have h3 : Rep φ base w (f j 0) u := h3
    rw [hf j hj] at h3
    exact ⟨u, h1, h2, h3⟩
  let enc : Nat → Value := fun i => cur.getD (i % n) undef
  have encE : ∀ i, cur[i % n]? = some (enc i) ∧ (enc i).oneCell' = true ∧ Rep φ base w (.ints true (R (i % n))) (enc i) := fun i => by
    obtain ⟨u, h1, h2, h3⟩ := cl (i % n) (Nat.mod_lt _ hn0)
    have : enc i = u := by
      show cur.getD (i % n) undef = u
      rw [Array.getD_eq_getD_getElem?, h1]
      rfl
    rw [this]
    exact ⟨h1, h2, h3⟩
  have hH : Holds enc w r.g 0 (Array.range n) := fun j hj => by
    rw [Array.size_range] at hj
    have hd : (Array.range n)[j]! = j := by rw [getElem!_pos _ j (by simpa using hj)]; simp
    have h1 := (encE j).1
    rw [Nat.mod_eq_of_lt hj] at h1
    rw [hd]
    refine ⟨?_, ?_⟩
    · simp only [World.cell?, hcur, Nat.zero_add]
      exact h1
    · simp [World.frozen?, hcur]
  have hcl : CmpLays1 P fn #[] enc (fun x y => c (R (x % n)) (R (y % n))) r.g 0 (Array.range n).size w := by
    intro m os dk hsd x y
    have hp := hcmp (R (x % n)) (R (y % n))
    unfold APure at hp
    have rd : ∀ i, Rep (fun _ => none) 0 (sortWorld enc w r.g 0 m dk os) (.ints false (R (i % n))) (enc i) := fun i => by
      obtain ⟨A, cap, h1, h2, h3, h4⟩ := (encE i).2.2
      refine ⟨A, cap, h1, h2, h3, fun h => ?_⟩
      obtain ⟨b, off, h5, h6, _, h7⟩ := h4 h
      refine ⟨b, off, h5, fun _ _ h => (nomatch h), fun h => (nomatch h), fun j hj => ?_⟩
      have h8 := h7 j hj
      have hb : b < w.heap.size := World.block_lt_of_cell? w _ h8
      have hne : b ≠ r.g := fun he => h6 t r hr hcp he.symm
      rw [← h8]
      simp only [World.cell?, sortWorld_heap enc w r.g m dk os hb, if_neg hne]
    refine (hp.2 (sortWorld enc w r.g 0 m dk os) #[enc x, enc y] rfl (fun i => ?_)).mono ?_
    · match i with
      | 0 => exact rd x
      | 1 => exact rd y
      | i + 2 => exact trivial
    · rintro e' w' ⟨v, Rr, rfl, rfl, _, hv, hev⟩
      have hv : v = .int .i64 (c (R (x % n)) (R (y % n))) := hv
      subst hv
      exact ⟨rfl, grown_of hev.os hev.tape hev.output hev.size (fun b hb => hev.block b hb (fun _ _ h => (nomatch h))) hev.drawn⟩
  have hsw : SWO (ltOf fun x y => c (R (x % n)) (R (y % n))) := swo_comap (lt := ltOf c) hO (fun x => R (x % n))
  have hcon := Any.slices_SortFunc L enc (fun x => (encE x).2.1) (fun x y => c (R (x % n)) (R (y % n))) hsw fn #[] r.g 0 (r.cap - 0) (Array.range n) w eg hcl hH hblk (by rw [Array.size_range]; exact hn)
  rw [Array.size_range] at hcon
  refine hcon.mono ?_
  rintro e' w' ⟨rfl, d', n', os', hperm, hsorted, rfl⟩
  have hds : d'.size = n := by have := hperm.1; rwa [Array.size_range] at this
  obtain ⟨hp1, hp2⟩ := perm_range hperm hds
  have hw0 : ∀ b, b < w.heap.size → b ≠ r.g → (sortWorld enc w r.g 0 n' d' os').heap[b]? = w.heap[b]? := fun b hb hne => by rw [sortWorld_heap enc w r.g n' d' os' hb, if_neg hne]
  have hrow : (sortWorld enc w r.g 0 n' d' os').heap[r.g]? = some (.cells (putCells enc 0 d' cur) r.e (0, 0)) := by
    rw [sortWorld_heap enc w r.g n' d' os' hblk, if_pos rfl, hcur]
    rfl
  have hst := step_keep (w' := sortWorld enc w r.g 0 n' d' os') hm (o' := ⟨e, 1, ver, .cv n fun j _ => .ints true (R (d'[j]!))⟩) hr hcp rfl rfl rfl (sortWorld_size enc w r.g n' d' os') hw0 (fun hev => by
    refine ⟨hrn, hver, hsz, hrel.e, hrel.pos, hrel.le, hrel.max, fun _ => Nat.lt_of_lt_of_le hblk (sortWorld_size enc w r.g n' d' os'), trivial, fun _ _ => ⟨putCells enc 0 d' cur, hrow, ?_, fun j k hj hk => ?_⟩⟩
    · unfold putCells
      rw [Array.size_mapIdx]
      exact hcsz
    · have hk0 : k = 0 := by omega
      subst hk0
      have hj' : j < n := by omega
      have hjc : j < cur.size := by rw [hcsz, ← hsz, Nat.mul_one]; have := hrel.le; omega
      obtain ⟨_, h2, h3⟩ := encE (d'[j]!)
      rw [Nat.mod_eq_of_lt (hp2 j hj')] at h3
      refine ⟨enc (d'[j]!), ?_, h2, Rep.evo hev h3⟩
      rw [← hsz, Nat.mul_one, Nat.add_zero]
      unfold putCells
      rw [Array.getElem?_mapIdx, Array.getElem?_eq_getElem hjc]
      simp only [Option.map_some]
      rw [if_pos (by omega), Nat.sub_zero]) (by
    show w.drawn ≤ w.drawn + n'
    omega)
  refine ⟨.tuple #[], V.un, _, φ, rfl, ⟨rfl, fun j => d'[j]!, hp2, hp1, fun i j hij hj => ?_, rfl⟩, hst.1, rfl, hst.2⟩
  have h1 := hsorted i j (Nat.zero_le _) hij hj
  have h2 := hp2 i (by omega)
  have h3 := hp2 j hj
  have h1 : decide (c (R (d'[j]! % n)) (R (d'[i]! % n)) < 0) = false := h1
  show decide (c (R (d'[j]!)) (R (d'[i]!)) < 0) = false
  rwa [Nat.mod_eq_of_lt h2, Nat.mod_eq_of_lt h3] at h1
end Go.Tri
