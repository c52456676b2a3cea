/-
  CONTRACTS: extend, over a memory with a loop's record, the ticket and what the loop's body writes.
-/
import Derived.Test.YtnjojmjcjhcnaaaB3
namespace Go.Tri
open Go.Proofs

def revTo : Nat → List Nat
  | 0 => []
  | k + 1 => k :: revTo k
/-- All that extend yields, in its order. -/
def ext : Nat → List Int → Int → List Int → List (List Int × Int)
  | 0, list, paid, _ => [(list, paid)]
  | m + 1, list, paid, vals => (revTo vals.length).flatMap fun k => ext m (list ++ [vals.getD k 0]) (paid + vals.getD k 0) (vals.drop k)
/-- A walk over what is yielded: the state behind it, and whether it goes on. -/
def foldU {S : Type} (step : S → List Int → Int → S × Bool) : List (List Int × Int) → S → S × Bool
  | [], s => (s, true)
  | (l, p) :: r, s => if (step s l p).2 = true then foldU step r (step s l p).1 else ((step s l p).1, false)
theorem foldU_append {S : Type} (step : S → List Int → Int → S × Bool) (a b : List (List Int × Int)) (s : S) : foldU step (a ++ b) s = if (foldU step a s).2 = true then foldU step b (foldU step a s).1 else ((foldU step a s).1, false) := by
  induction a generalizing s with
  | nil => simp [foldU]
  | cons q r ih =>
    obtain ⟨l, p⟩ := q
    simp only [List.cons_append, foldU]
    split
    · exact ih _
    · simp

@[reducible] def tkOb (ts : List Int) : Ob := ⟨3, 1, 0, .kil ts⟩
/-- Which names a call of extend sees. -/
def kpL : List Bool → Nat → Bool
  | [], _ => false
  | b :: _, 0 => b
  | _ :: r, t + 1 => kpL r t

section
variable {S : Type} (step : S → List Int → Int → S × Bool) (G : Nat → S → Prop) (Pq : List Int → Int → Prop) (c0 c1 c4 : S → Ob)
/-- What extend sees. -/
@[reducible] def sp (s : S) (ts : List Int) (E : Mem) : Mem := some (c0 s) :: some (c1 s) :: none :: none :: some (c4 s) :: some (tkOb ts) :: E
@[reducible] def K6 : Nat → Bool := kpL [true, true, false, false, true, true]

/-- What is asked of the loop's body. -/
structure BodyOk : Prop where
  flat : ∀ s, FlatC K6 (c0 s).sz (c0 s).c ∧ FlatC K6 (c1 s).sz (c1 s).c ∧ FlatC K6 (c4 s).sz (c4 s).c
  nofr : ∀ n s, G n s → NoFrC (c0 s).c ∧ NoFrC (c1 s).c ∧ NoFrC (c4 s).c
  ver : ∀ s, (c0 s).ver = 0 ∧ (c1 s).ver = 0 ∧ (c4 s).ver = 0
  good : ∀ n s l p, G (n + 1) s → (step s l p).2 = true → G n (step s l p).1
  yld : ∀ n s l p ts E, G (n + 1) s → Pq l p → ts.take l.length = l → YW Try.prog 4 [.sl 5 0 0 l.length, .int p] (sp c0 c1 c4 s ts E) (fun R M' => R = .bool (step s l p).2 ∧ M' = sp c0 c1 c4 (step s l p).1 ts E)

theorem foldU_good {step : S → List Int → Int → S × Bool} {G : Nat → S → Prop} (h : ∀ n s l p, G (n + 1) s → (step s l p).2 = true → G n (step s l p).1) (r : Nat) : ∀ (a : List (List Int × Int)) (s : S), G (a.length + r) s → (foldU step a s).2 = true → G r (foldU step a s).1 := by
  intro a
  induction a with
  | nil => exact fun s hs _ => by simpa [foldU] using hs
  | cons q t ih =>
    obtain ⟨l, p⟩ := q
    intro s hs
    simp only [foldU]
    rw [List.length_cons, Nat.add_right_comm] at hs
    split
    · next h1 => exact ih _ (h _ s l p hs h1)
    · exact fun h => nomatch h

variable {step G Pq c0 c1 c4}
/-- The postcondition of a call of extend. -/
def extQ (step : S → List Int → Int → S × Bool) (c0 c1 c4 : S → Ob) (s : S) (ts list : List Int) (qs : List (List Int × Int)) (R : V) (M : Mem) : Prop :=
  ∃ ts', ts'.length = ts.length ∧ ts'.take list.length = list ∧ R = .bool (foldU step qs s).2 ∧ M = sp c0 c1 c4 (foldU step qs s).1 ts' []
def extF (step : S → List Int → Int → S × Bool) (c0 c1 c4 : S → Ob) (s : S) (ts list : List Int) (qs : List (List Int × Int)) (R : V) (M' : Mem) : Prop :=
  Flat K6 R ∧ FlatM K6 (maskM K6 0 M') ∧ vers (maskM K6 0 M') = vers (sp c0 c1 c4 s ts []) ∧ extQ step c0 c1 c4 s ts list qs R (maskM K6 0 M')

theorem extF_of (hB : BodyOk step G Pq c0 c1 c4) {s s' : S} {ts ts' list : List Int} {qs : List (List Int × Int)} {b : Bool} {E : Mem} (h : foldU step qs s = (s', b)) (h1 : ts'.length = ts.length) (h2 : ts'.take list.length = list) :
    extF step c0 c1 c4 s ts list qs (.bool b) (sp c0 c1 c4 s' ts' E) := by
  have hE : ∀ (E : Mem) i, 6 ≤ i → maskM K6 i E = [] := by
    intro E
    induction E with
    | nil => intro i _; rfl
    | cons o r ih =>
      intro i hi
      have hk : K6 i = false := by
        match i, hi with
        | i + 6, _ => simp [K6, kpL]
      simp only [maskM, hk, cond_false, ih (i + 1) (by omega)]
      rfl
  have hm : maskM K6 0 (sp c0 c1 c4 s' ts' E) = sp c0 c1 c4 s' ts' [] := by
    simp only [sp, maskM, hE E 6 (Nat.le_refl _)]
    rfl
  have hf := hB.flat s'
  have hv := hB.ver s'
  have hv0 := hB.ver s
  refine ⟨trivial, ?_, ?_, ts', h1, h2, by rw [h], by rw [h, hm]⟩
  · rw [hm]
    exact ⟨hf.1, hf.2.1, hf.2.2, trivial, trivial⟩
  · rw [hm]
    simp only [vers, hv.1, hv.2.1, hv.2.2, hv0.1, hv0.2.1, hv0.2.2]

theorem mem_revTo {k n : Nat} (h : k < n) : k ∈ revTo n := by
  induction n with
  | zero => omega
  | succ n ih =>
    simp only [revTo, List.mem_cons]
    rcases (by omega : k = n ∨ k < n) with h1 | h1
    · exact .inl h1
    · exact .inr (ih h1)
theorem K6_lt {t : Nat} (h : K6 t = true) : t < 6 := by
  match t, h with
  | 0, _ | 1, _ | 4, _ | 5, _ => omega
  | 2, h | 3, h => cases h
  | t + 6, h => simp [K6, kpL] at h
/-- The memory in a call of extend. -/
@[reducible] def memX (c0 c1 c4 : S → Ob) (s : S) (ts list : List Int) (paid : Int) (m : Int) (vals : List Int) (res : Bool) (ld : Ob) (E : Mem) : Mem :=
  sp c0 c1 c4 s ts (some ⟨22, 1, 0, .one [.sl 5 0 0 list.length]⟩ :: some ⟨3, 1, 0, .one [.int paid]⟩ :: some ⟨3, 1, 0, .one [.int m]⟩ :: some ⟨22, 1, 0, .one [.ints false vals]⟩ ::
    some ⟨44, 1, 0, .one [.yld 4]⟩ :: some ⟨4, 1, 0, .one [.bool res]⟩ :: some (boxOb vals) :: some ld :: E)
/-- What is left to yield. -/
def restX (m : Nat) (list : List Int) (paid : Int) (vals : List Int) (k : Nat) : List (List Int × Int) := (revTo k).flatMap fun k => ext m (list ++ [vals.getD k 0]) (paid + vals.getD k 0) (vals.drop k)

set_option maxRecDepth 100000 in
theorem extend_cm (hB : BodyOk step G Pq c0 c1 c4) : ∀ (m : Nat) (list : List Int) (paid : Int) (vals ts : List Int) (s : S) (r : Nat), G ((ext m list paid vals).length + r) s → list.length + m ≤ ts.length → 0 < ts.length → ts.length ≤ 1000 → ts.take list.length = list → (∀ x ∈ vals, 1 ≤ x ∧ x ≤ 200) → 0 ≤ paid → paid + 200 * m ≤ 1000000 →
    vals.length ≤ 1000 → (∀ q ∈ ext m list paid vals, Pq q.1 q.2) →
    ACM Try.prog 64 [.sl 5 0 0 list.length, .int paid, .int m, .ints false vals, .yld 4] (sp c0 c1 c4 s ts []) (extF step c0 c1 c4 s ts list (ext m list paid vals)) := by
  intro m
  induction m with
  | zero =>
    intro list paid vals ts s r hG hlen h0 hts htk hv hp hp2 hvl hP
    refine ACM_of (T := tab) (wr := wrL) tab_ok Try.func64 (by decide) rfl (Nat.le_of_ble_eq_true rfl) (fun nb => ?_)
    conv => whnf
    refine (hB.yld r s list paid ts _ (by simpa [ext, Nat.add_comm] using hG) (hP (list, paid) (by simp [ext])) htk).mono ?_
    rintro R M' ⟨rfl, rfl⟩
    conv => whnf
    refine ⟨_, rfl, extF_of hB ?_ rfl htk⟩
    simp only [ext, foldU]
    split
    · next h => rw [h]
    · next h => rw [Bool.not_eq_true] at h; rw [h]
  | succ m ih =>
    intro list paid vals ts s r hG hlen h0 hts htk hv hp hp2 hvl hP
    refine ACM_of (T := tab) (wr := wrL) tab_ok Try.func64 (by decide) rfl (Nat.le_of_ble_eq_true rfl) (fun nb => ?_)
    conv => whnf
    refine (back_cm vals _).mono ?_
    rintro R M' ⟨rfl, rfl⟩
    conv => whnf
    refine AW_rangeL (X := ⟨Try.prog, tab, wrL, 38, nb, false⟩) tab_ok rfl [5, 6, 7, 8, 9, 10] rfl rfl (fun lp hlp hround => ?_)
    refine ACM.mono (backs_cm vals (by omega) 12 13
      (fun k M => ∃ s1 ts1, G ((restX m list paid vals k).length + r) s1 ∧ ts1.length = ts.length ∧ ts1.take list.length = list ∧ foldU step (ext (m + 1) list paid vals) s = foldU step (restX m list paid vals k) s1 ∧ M = memX c0 c1 c4 s1 ts1 list paid (m + 1 : Nat) vals false (lp .ready none) [])
      (fun M => ∃ s1 ts1, ts1.length = ts.length ∧ ts1.take list.length = list ∧ foldU step (ext (m + 1) list paid vals) s = (s1, false) ∧ M = memX c0 c1 c4 s1 ts1 list paid (m + 1 : Nat) vals false (lp .done (some .ret)) [])
      ?hb ?hy (memX c0 c1 c4 s ts list paid (m + 1 : Nat) vals false (lp .ready none) []) ?h0) ?post
    case hb => rintro k M ⟨s1, ts1, _, _, _, _, rfl⟩; rfl
    case h0 => exact ⟨s, ts, by simpa [ext, restX] using hG, rfl, htk, rfl, rfl⟩
    case post =>
      rintro _ M' (⟨s1, ts1, hG1, hl1, ht1, hf1, rfl⟩ | ⟨s1, ts1, hl1, ht1, hf1, rfl⟩)
      · refine ⟨.ready, none, by decide, rfl, ?_⟩
        conv => whnf
        exact ⟨_, rfl, extF_of hB hf1 hl1 ht1⟩
      · refine ⟨.done, some .ret, by decide, rfl, ?_⟩
        conv => whnf
        exact ⟨_, rfl, extF_of hB hf1 hl1 ht1⟩
    case hy =>
      rintro k M hk ⟨s1, ts1, hG1, hl1, ht1, hf1, rfl⟩
      have hvk := hv _ (getD_mem' hk)
      refine YW_maskQ (kp := cutN 14) (fun t ht => by rw [cutN_iff]; exact ht) ?_
      refine hround _ _ _ rfl rfl (fun nb => AW_of_awp (X := ⟨Try.prog, tab, wrL, 38, nb, true⟩) tab_ok ?_)
      conv => whnf
      refine ⟨rfl, ?_⟩
      conv => whnf
      refine AW_drawC (X := ⟨Try.prog, tab, wrL, 38, nb, true⟩) tab_ok mixed 13 (by decide) (by kernel_rfl) ?_
      conv => whnf
      have h8 : (8 : Int) * ((list.length : Int) + 1) ≤ 140737488355328 := by omega
      have htl : (ts1.take list.length ++ [vals.getD k 0] ++ ts1.drop (list.length + 1)).length = ts.length := by simp only [List.length_append, List.length_take, List.length_drop, List.length_cons, List.length_nil]; omega
      have hsl : (vals.drop (k : Int).toNat).take ((vals.length : Int).toNat - (k : Int).toNat) = vals.drop k := by
        rw [Int.toNat_natCast, Int.toNat_natCast, List.take_of_length_le]
        rw [List.length_drop]; omega
      refine stepO (by
        refine aApp_kil (p := .tt) (len := list.length) (ts := ts1) (ys := [vals.getD k 0]) ?h1 ?h2 ?h3 ?h4 (by omega) (by simp; omega)
        case h1 => rfl
        case h2 => rfl
        case h4 => rfl
        case h3 => rfl) ?_
      conv => whnf
      refine ⟨h8, ?_⟩
      conv => whnf
      refine ⟨inr (by omega), ?_⟩
      conv => whnf
      refine ⟨inr (by omega), ?_⟩
      conv => whnf
      refine ⟨(show (0 : Int) ≤ (k : Int) by omega), ?_⟩
      conv => whnf
      refine ⟨(show (k : Int) ≤ (vals.length : Int) by omega), ?_⟩
      conv => whnf
      refine ⟨(show (vals.length : Int) ≤ (vals.length : Int) by omega), ?_⟩
      conv => whnf
      generalize hts2 : ts1.take list.length ++ [vals.getD k 0] ++ ts1.drop (list.length + 1) = ts2 at htl
      have hll : (list ++ [vals.getD k 0]).length = list.length + 1 := by simp
      have ht2 : ts2.take (list ++ [vals.getD k 0]).length = list ++ [vals.getD k 0] := by
        rw [← hts2, ht1, List.take_left']
        rfl
      have hG2 : G ((ext m (list ++ [vals.getD k 0]) (paid + vals.getD k 0) (vals.drop k)).length + ((restX m list paid vals k).length + r)) s1 := by
        have : (restX m list paid vals (k + 1)).length = (ext m (list ++ [vals.getD k 0]) (paid + vals.getD k 0) (vals.drop k)).length + (restX m list paid vals k).length := by
          simp only [restX, revTo, List.flatMap_cons, List.length_append]
        rw [this, Nat.add_assoc] at hG1
        exact hG1
      have IH := ih (list ++ [vals.getD k 0]) (paid + vals.getD k 0) (vals.drop k) ts2 s1 _ hG2 (by omega) (by omega) (by omega) ht2 (fun x hx => hv x (List.mem_of_mem_drop hx)) (by omega) (by omega) (by rw [List.length_drop]; omega)
        (fun q hq => hP q (by simp only [ext, List.mem_flatMap]; exact ⟨k, mem_revTo hk, hq⟩))
      have hfl := hB.flat s1
      have hnf := hB.nofr _ s1 hG1
      refine ACM_xs (ys := [.sl 5 0 0 (list ++ [vals.getD k 0]).length, .int (paid + vals.getD k 0), .int m, .ints false (vals.drop k), .yld 4]) ?_ ?_
      · show [V.sl 5 0 0 (list.length + 1), .int (paid + vals.getD k 0), .int ((m + 1 : Nat) - 1), .ints false ((vals.drop (k : Int).toNat).take ((vals.length : Int).toNat - (k : Int).toNat)), .yld 4] = _
        rw [hsl, hll, show (((m + 1 : Nat) : Int) - 1) = m from by omega]
      refine ACM.mono (ACM_frame K6 ?ha ?hx ?hxf ?hm ?hmf (by exact IH)) ?hpost
      case ha => exact fun t h => Nat.lt_of_lt_of_le (K6_lt h) (show 6 ≤ 17 by decide)
      case hx => exact ⟨rfl, trivial, trivial, trivial, rfl, trivial⟩
      case hxf => exact ⟨trivial, trivial, trivial, rfl, trivial, trivial⟩
      case hm => exact (show NamedM K6 (sp c0 c1 c4 s1 ts2 []) from ⟨hfl.1.named, hfl.2.1.named, hfl.2.2.named, trivial, trivial⟩)
      case hmf => exact (show NoFrM (sp c0 c1 c4 s1 ts2 []) from ⟨hnf.1, hnf.2.1, hnf.2.2, trivial, trivial⟩)
      case hpost =>
        rintro R M'' ⟨M1, ⟨ts3, hl3, ht3, rfl, rfl⟩, rfl⟩
        have hts3 : ts3.take list.length = list := by
          have := congrArg (List.take list.length) ht3
          rw [hll, List.take_take, List.take_left'] at this
          · rwa [Nat.min_eq_left (by omega)] at this
          · rfl
        have hfo : foldU step (restX m list paid vals (k + 1)) s1 = foldU step (ext m (list ++ [vals.getD k 0]) (paid + vals.getD k 0) (vals.drop k) ++ restX m list paid vals k) s1 := by
          simp only [restX, revTo, List.flatMap_cons]
        rw [foldU_append] at hfo
        have hgd := foldU_good hB.good _ (ext m (list ++ [vals.getD k 0]) (paid + vals.getD k 0) (vals.drop k)) s1 hG2
        generalize foldU step (ext m (list ++ [vals.getD k 0]) (paid + vals.getD k 0) (vals.drop k)) s1 = q at hfo hgd
        obtain ⟨s2, b⟩ := q
        have hfl2 := hB.flat s2
        have hup : ∀ t, K6 t = true → cutN 14 t = true := fun t h => cutN_iff.2 (by have := K6_lt h; omega)
        cases b with
        | true =>
          simp only [if_true] at hfo
          conv => whnf
          refine ⟨rfl, trivial, ?_, .inl ⟨rfl, s2, ts3, hgd rfl, by omega, hts3, by rw [hf1, hfo], rfl⟩⟩
          exact (show NamedM (cutN 14) (memX c0 c1 c4 s2 ts3 list paid (m + 1 : Nat) vals false (lp .ready none) []) from
            ⟨(hfl2.1.up hup).named, (hfl2.2.1.up hup).named, (hfl2.2.2.up hup).named, trivial, ⟨rfl, trivial⟩, ⟨trivial, trivial⟩, ⟨trivial, trivial⟩, ⟨trivial, trivial⟩, ⟨rfl, trivial⟩, ⟨trivial, trivial⟩, ⟨trivial, trivial⟩, hlp.named _ _ _ ⟨rfl, rfl, rfl, rfl, rfl, rfl, trivial⟩, trivial⟩)
        | false =>
          simp only [Bool.false_eq_true, if_false] at hfo
          conv => whnf
          refine ⟨rfl, trivial, ?_, .inr ⟨rfl, s2, ts3, by omega, hts3, by rw [hf1, hfo], rfl⟩⟩
          exact (show NamedM (cutN 14) (memX c0 c1 c4 s2 ts3 list paid (m + 1 : Nat) vals false (lp .done (some .ret)) []) from
            ⟨(hfl2.1.up hup).named, (hfl2.2.1.up hup).named, (hfl2.2.2.up hup).named, trivial, ⟨rfl, trivial⟩, ⟨trivial, trivial⟩, ⟨trivial, trivial⟩, ⟨trivial, trivial⟩, ⟨rfl, trivial⟩, ⟨trivial, trivial⟩, ⟨trivial, trivial⟩, hlp.named _ _ _ ⟨rfl, rfl, rfl, rfl, rfl, rfl, trivial⟩, trivial⟩)
end
end Go.Tri
