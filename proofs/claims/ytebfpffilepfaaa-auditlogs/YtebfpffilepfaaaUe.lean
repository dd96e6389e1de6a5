/- Layer 18: what Acks knows of the acks so far. -/
import Derived.Test.YtebfpffilepfaaaUd
namespace Go.Proofs.Ytebfpffilepfaaa
open Go.RowKit Go.Maps
set_option linter.unusedVariables false
set_option maxRecDepth 20000

/-- A slice tells acks. -/
def AIn (w : World) (a : Option Addr) (L : List Ak) : Prop := ∀ i x, L[i]? = some x → ∃ b off, a = some ⟨b, off, none⟩ ∧ b < w.heap.size ∧ w.cell? ⟨b, off + i * 6, none⟩ = some (.int .i64 x.step) ∧ w.cell? ⟨b, off + i * 6 + 1, none⟩ = some (.int .i64 x.prod) ∧ w.cell? ⟨b, off + i * 6 + 2, none⟩ = some (.int .i64 x.seq) ∧ w.cell? ⟨b, off + i * 6 + 3, none⟩ = some (.int .i64 x.err) ∧ w.cell? ⟨b, off + i * 6 + 4, none⟩ = some (.int .i64 x.base) ∧ w.cell? ⟨b, off + i * 6 + 5, none⟩ = some (.int .i64 x.cnt)
theorem AIn.below {w w' : World} {a : Option Addr} {L : List Ak} {B : Nat} (h : AIn w a L) (hb : Below B w w') (hB : w.heap.size ≤ B) : AIn w' a L := fun i x hx => by
  obtain ⟨b, off, e, hlt, h1, h2, h3, h4, h5, h6⟩ := h i x hx
  exact ⟨b, off, e, Nat.lt_of_lt_of_le hlt hb.size, by rw [cell_below hb (by omega)]; exact h1, by rw [cell_below hb (by omega)]; exact h2, by rw [cell_below hb (by omega)]; exact h3, by rw [cell_below hb (by omega)]; exact h4, by rw [cell_below hb (by omega)]; exact h5, by rw [cell_below hb (by omega)]; exact h6⟩
theorem AIn.take {w : World} {a : Option Addr} {L : List Ak} (h : AIn w a L) (k : Nat) : AIn w a (L.take k) := fun i x hx => by
  rw [List.getElem?_take] at hx
  split at hx
  · exact h i x hx
  · cases hx
def AOk (L : List Ak) : Prop := ∀ a ∈ L, isInt a.prod ∧ isInt a.seq
def atId (x : Int × Int) (b : Ak) : Bool := b.goodB && (decide (b.prod = x.1) && decide (b.seq = x.2))
def spanOf (P : List Ak) (x : Int × Int) : Option (Int × Int) := (P.filter (atId x)).getLast?.map fun b => (b.base, b.cnt)
def covers (o : Nat) (b : Ak) : Bool := b.goodB && (decide (b.base ≤ (o : Nat)) && decide ((o : Int) < b.base + b.cnt))
def taken (P : List Ak) (o : Nat) : Bool := P.any (covers o)
theorem spanOf_snoc (P : List Ak) (a : Ak) (x : Int × Int) : spanOf (P ++ [a]) x = if atId x a then some (a.base, a.cnt) else spanOf P x := by
  unfold spanOf
  rw [List.filter_append]
  by_cases h : atId x a = true
  · rw [if_pos h]; simp [h]
  · rw [if_neg h]; simp [h]
theorem taken_snoc (P : List Ak) (a : Ak) (o : Nat) : taken (P ++ [a]) o = (taken P o || covers o a) := by simp [taken]
theorem spanOf_some {P : List Ak} {x f : Int × Int} (h : spanOf P x = some f) : ∃ b ∈ P, b.goodB = true ∧ b.prod = x.1 ∧ b.seq = x.2 ∧ f = (b.base, b.cnt) := by
  unfold spanOf at h
  rw [Option.map_eq_some_iff] at h
  obtain ⟨b, hb, rfl⟩ := h
  have hm := List.mem_of_getLast? hb
  rw [List.mem_filter] at hm
  obtain ⟨h1, h2⟩ := hm
  unfold atId at h2
  simp only [Bool.and_eq_true, decide_eq_true_eq] at h2
  exact ⟨b, h1, h2.1, h2.2.1, h2.2.2, rfl⟩
theorem spanOf_none {P : List Ak} {x : Int × Int} (h : spanOf P x = none) : ∀ b ∈ P, b.goodB = true → ¬ (b.prod = x.1 ∧ b.seq = x.2) := fun b hb hg e => by
  unfold spanOf at h
  rw [Option.map_eq_none_iff, List.getLast?_eq_none_iff, List.filter_eq_nil_iff] at h
  refine h b hb ?_
  unfold atId
  simp [hg, e.1, e.2]
theorem sameId_iff (a b : Ak) : sameId a b = true ↔ a.prod = b.prod ∧ a.seq = b.seq := by
  unfold sameId
  simp only [Bool.and_eq_true, decide_eq_true_eq]
theorem meet_iff (a b : Ak) : meetB a b = true ↔ a.base < b.base + b.cnt ∧ b.base < a.base + a.cnt := by
  unfold meetB
  simp only [Bool.and_eq_true, decide_eq_true_eq]
theorem bad_err {P : List Ak} {a : Ak} (h : a.err ≠ 0) : badA P a = false := by simp [badA, h]
theorem bad_notgood {P : List Ak} {a : Ak} (h : a.err = 0) (hg : a.goodB = false) : badA P a = true := by simp [badA, h, hg]
theorem bad_good {P : List Ak} {a : Ak} (hg : a.goodB = true) : badA P a = P.any fun b => b.goodB && clash b a := by
  have := ((good_iff a).1 hg).1
  simp [badA, this, hg]
theorem bad_one {P : List Ak} {a b : Ak} (hg : a.goodB = true) (hb : b ∈ P) (hgb : b.goodB = true) (h : clash b a = true) : badA P a = true := by
  rw [bad_good hg, List.any_eq_true]
  exact ⟨b, hb, by rw [hgb, h]; rfl⟩
theorem bad_no {P : List Ak} {a : Ak} (hg : a.goodB = true) (h : ∀ b ∈ P, b.goodB = true → clash b a = false) : badA P a = false := by
  rw [bad_good hg, List.any_eq_false]
  intro b hb
  cases hgb : b.goodB with
  | false => simp
  | true => rw [h b hb hgb]; simp
theorem clash_of {P : List Ak} {a : Ak} (hg : a.goodB = true) (h : badA P a = false) : ∀ b ∈ P, b.goodB = true → clash b a = false := fun b hb hgb => by
  cases hc : clash b a with
  | false => rfl
  | true => rw [bad_one hg hb hgb hc] at h; cases h
theorem fbad_yes {P R : List Ak} {a : Ak} (h : badA P a = true) : fbad P (a :: R) = some P.length := by simp [fbad, h]
theorem fbad_no {P R : List Ak} {a : Ak} (h : badA P a = false) : fbad P (a :: R) = fbad (P ++ [a]) R := by simp [fbad, h]
/-- Acks that go together. -/
structure Goes (P : List Ak) : Prop where
  uni : ∀ b ∈ P, b.goodB = true → spanOf P (b.prod, b.seq) = some (b.base, b.cnt)
  apart : ∀ b ∈ P, ∀ c ∈ P, b.goodB = true → c.goodB = true → sameId b c = false → meetB b c = false
theorem Goes.nil : Goes [] := ⟨fun b h => by simp at h, fun b h => by simp at h⟩
theorem meet_symm (a b : Ak) : meetB a b = meetB b a := by unfold meetB; rw [Bool.and_comm]
theorem sameId_symm (a b : Ak) : sameId a b = sameId b a := by
  rw [Bool.eq_iff_iff, sameId_iff, sameId_iff]
  constructor <;> exact fun h => ⟨h.1.symm, h.2.symm⟩
theorem Goes.skip {P : List Ak} {a : Ak} (h : Goes P) (hg : a.goodB = false) : Goes (P ++ [a]) ∧ (∀ x, spanOf (P ++ [a]) x = spanOf P x) ∧ (∀ o, taken (P ++ [a]) o = taken P o) := by
  have e1 : ∀ x, spanOf (P ++ [a]) x = spanOf P x := fun x => by rw [spanOf_snoc, if_neg]; simp [atId, hg]
  refine ⟨⟨fun b hb hgb => ?_, fun b hb c hc hgb hgc => ?_⟩, e1, fun o => by rw [taken_snoc]; simp [covers, hg]⟩
  · rw [List.mem_append, List.mem_singleton] at hb
    rcases hb with hb | rfl
    · rw [e1]; exact h.uni b hb hgb
    · rw [hg] at hgb; cases hgb
  · rw [List.mem_append, List.mem_singleton] at hb hc
    rcases hb with hb | rfl
    · rcases hc with hc | rfl
      · exact h.apart b hb c hc hgb hgc
      · rw [hg] at hgc; cases hgc
    · rw [hg] at hgb; cases hgb
theorem Goes.snoc {P : List Ak} {a : Ak} (h : Goes P) (hg : a.goodB = true) (hc : ∀ b ∈ P, b.goodB = true → clash b a = false) : Goes (P ++ [a]) := by
  refine ⟨fun b hb hgb => ?_, fun b hb c hc' hgb hgc => ?_⟩
  · rw [spanOf_snoc]
    rw [List.mem_append, List.mem_singleton] at hb
    by_cases e : atId (b.prod, b.seq) a = true
    · rw [if_pos e]
      rcases hb with hb | rfl
      · have hcl := hc b hb hgb
        unfold atId at e
        simp only [Bool.and_eq_true, decide_eq_true_eq] at e
        have hs : sameId b a = true := (sameId_iff b a).2 ⟨e.2.1.symm, e.2.2.symm⟩
        unfold clash at hcl
        rw [if_pos hs] at hcl
        simp at hcl
        rw [hcl.1, hcl.2]
      · rfl
    · rw [if_neg e]
      rcases hb with hb | rfl
      · exact h.uni b hb hgb
      · simp [atId, hg] at e
  · rw [List.mem_append, List.mem_singleton] at hb hc'
    intro hs
    rcases hb with hb | rfl
    · rcases hc' with hc' | rfl
      · exact h.apart b hb c hc' hgb hgc hs
      · have hcl := hc b hb hgb
        unfold clash at hcl
        rw [if_neg (by rw [hs]; simp)] at hcl
        exact hcl
    · rcases hc' with hc' | rfl
      · have hcl := hc c hc' hgc
        unfold clash at hcl
        rw [if_neg (by rw [sameId_symm, hs]; simp)] at hcl
        rw [meet_symm]
        exact hcl
      · simp [sameId] at hs
/-- Told at another span: it may not be. -/
theorem bad_other {P : List Ak} {a : Ak} {f : Int × Int} (hg : a.goodB = true) (h : spanOf P (a.prod, a.seq) = some f) (hf : f ≠ (a.base, a.cnt)) : badA P a = true := by
  obtain ⟨b, hb, hgb, e1, e2, rfl⟩ := spanOf_some h
  refine bad_one hg hb hgb ?_
  unfold clash
  rw [if_pos ((sameId_iff b a).2 ⟨e1, e2⟩)]
  by_cases e : b.base = a.base
  · by_cases e' : b.cnt = a.cnt
    · exact absurd (by rw [e, e']) hf
    · simp [e']
  · simp [e]
theorem no_same {P : List Ak} {a : Ak} (G : Goes P) (hg : a.goodB = true) (h : spanOf P (a.prod, a.seq) = some (a.base, a.cnt)) : ∀ b ∈ P, b.goodB = true → clash b a = false := fun b hb hgb => by
  obtain ⟨c, hc, hgc, e1, e2, e3⟩ := spanOf_some h
  have e3' : a.base = c.base ∧ a.cnt = c.cnt := by simpa using e3
  unfold clash
  by_cases hs : sameId b a = true
  · rw [if_pos hs]
    have hs' := (sameId_iff b a).1 hs
    have hu := G.uni b hb hgb
    rw [hs'.1, hs'.2, h] at hu
    have hu' : a.base = b.base ∧ a.cnt = b.cnt := by simpa using hu
    simp [hu'.1, hu'.2]
  · rw [if_neg hs]
    have hbc : sameId b c = false := by
      cases e : sameId b c with
      | false => rfl
      | true =>
        have := (sameId_iff b c).1 e
        exact absurd ((sameId_iff b a).2 ⟨this.1.trans e1, this.2.trans e2⟩) hs
    have := G.apart b hb c hc hgb hgc hbc
    unfold meetB at this ⊢
    rw [e3'.1, e3'.2]
    exact this
theorem no_new {P : List Ak} {a : Ak} {B C : Nat} (hg : a.goodB = true) (hB : a.base = (B : Nat)) (hC : a.cnt = (C : Nat)) (h : spanOf P (a.prod, a.seq) = none) (hf : ∀ o, B ≤ o → o < B + C → taken P o = false) : ∀ b ∈ P, b.goodB = true → clash b a = false := fun b hb hgb => by
  unfold clash
  rw [if_neg (fun hs => spanOf_none h b hb hgb ((sameId_iff b a).1 hs))]
  cases hm : meetB b a with
  | false => rfl
  | true =>
    have hm' := (meet_iff b a).1 hm
    obtain ⟨_, g1, _, g3, _⟩ := (good_iff b).1 hgb
    obtain ⟨_, a1, _, a3, _⟩ := (good_iff a).1 hg
    obtain ⟨o, ho1, ho2⟩ : ∃ o : Nat, (o : Int) = max a.base b.base ∧ True := ⟨(max a.base b.base).toNat, by omega, trivial⟩
    have hc : taken P o = true := by
      unfold taken
      rw [List.any_eq_true]
      refine ⟨b, hb, ?_⟩
      unfold covers
      simp only [hgb, Bool.true_and, Bool.and_eq_true, decide_eq_true_eq]
      omega
    rw [hf o (by omega) (by omega)] at hc
    cases hc
theorem bad_met {P : List Ak} {a : Ak} {B C o : Nat} (hg : a.goodB = true) (hB : a.base = (B : Nat)) (hC : a.cnt = (C : Nat)) (h : spanOf P (a.prod, a.seq) = none) (h1 : B ≤ o) (h2 : o < B + C) (ht : taken P o = true) : badA P a = true := by
  unfold taken at ht
  rw [List.any_eq_true] at ht
  obtain ⟨b, hb, hc⟩ := ht
  unfold covers at hc
  simp only [Bool.and_eq_true, decide_eq_true_eq] at hc
  obtain ⟨hgb, hc1, hc2⟩ := hc
  refine bad_one hg hb hgb ?_
  unfold clash
  rw [if_neg (fun hs => spanOf_none h b hb hgb ((sameId_iff b a).1 hs)), meet_iff]
  omega
/-- What lies in memory: the spans by their ids, the offsets that are taken. -/
structure AM (w wr : World) (P : List Ak) : Prop where
  ids : IdMap wr w.heap.size P.length (spanOf P)
  offs : OffS wr (w.heap.size + 1) (P.length * 256) (taken P)
  goes : Goes P
  bel : Below w.heap.size w wr
theorem AM.skip {w wr w' : World} {P : List Ak} {a : Ak} (h : AM w wr P) (hg : a.goodB = false) (hb : Below wr.heap.size wr w') : AM w w' (P ++ [a]) := by
  obtain ⟨g, e1, e2⟩ := h.goes.skip hg
  have hl : P.length ≤ (P ++ [a]).length := by simp
  refine ⟨?_, ?_, g, h.bel.trans (hb.mono h.bel.size)⟩
  · rw [show spanOf (P ++ [a]) = spanOf P from funext e1]; exact (h.ids.below hb).mono hl
  · rw [show taken (P ++ [a]) = taken P from funext e2]; exact (h.offs.block (hb.block _ h.offs.lt)).mono (by omega)
end Go.Proofs.Ytebfpffilepfaaa
