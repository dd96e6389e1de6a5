/- Layer 15: batches in a map by their ids; a table lies in memory. -/
import Derived.Test.YtpjjenhimnkdcaaV07
import Derived.Maps.OwnSet
import Derived.Maps.OwnOps
import Derived.DeepKeys4
import Derived.LaidEqlPtr
import Derived.ProofKit
namespace Go.Proofs.Ytpjjenhimnkdcaa
open Go.RowKit Go.Maps
set_option linter.unusedVariables false
set_option maxRecDepth 20000

/-- A batch without records. -/
structure Bt where
  base : Int
  cnt : Int
  view : Int
  prod : Int
  seq : Int
abbrev Bt.v (b : Bt) : Value := .agg #[.int .i64 b.base, .int .i64 b.cnt, .int .i64 b.view, .int .i64 b.prod, .int .i64 b.seq, .slice none 0 0]
def bt0 : Bt := ⟨0, 0, 0, 0, 0⟩
def Bt.fin (b : Bt) : Int := b.base + b.cnt
structure Bt.OK (b : Bt) : Prop where
  b0 : 0 ≤ b.base
  b1 : b.base ≤ 1099511627520
  c0 : 1 ≤ b.cnt
  c1 : b.cnt ≤ 256
  v0 : 0 ≤ b.view
  v1 : b.view ≤ 2147483647
  p0 : 0 ≤ b.prod
  p1 : b.prod ≤ 2147483647
  s0 : 0 ≤ b.seq
  s1 : b.seq ≤ 2147483647
def isB (p s : Int) (b : Bt) : Bool := decide (b.prod = p) && decide (b.seq = s)
def fnd (L : List Bt) (p s : Int) : Option Bt := L.find? (isB p s)
def fb (L : List Bt) (p s : Int) : Bt := (fnd L p s).getD bt0
def endL (L : List Bt) : Int := (L.getLast?.map Bt.fin).getD 0
/-- Who waits. -/
structure Wt where
  p : Int
  s : Int
  who : Int
abbrev idV (p s : Int) : Value := .agg #[.int .i64 p, .int .i64 s]
def ics (L : List Bt) : List Value := L.flatMap fun b => [.int .i64 b.prod, .int .i64 b.seq]
def wcs (V : List Wt) : List Value := V.flatMap fun x => [.int .i64 x.p, .int .i64 x.s, .int .i64 x.who]
theorem flat_length {α : Type} (f : α → List Value) (k : Nat) (hf : ∀ x, (f x).length = k) : ∀ L : List α, (L.flatMap f).length = L.length * k
  | [] => by simp
  | x :: L => by rw [List.flatMap_cons, List.length_append, hf, flat_length f k hf L, List.length_cons, Nat.add_mul]; omega
theorem flat_get {α : Type} (f : α → List Value) (k : Nat) (hf : ∀ x, (f x).length = k) : ∀ (L : List α) (i : Nat) (x : α), L[i]? = some x → ∀ j, j < k → (L.flatMap f)[i * k + j]? = (f x)[j]?
  | [], i, x, h, j, hj => by simp at h
  | y :: L, 0, x, h, j, hj => by
    have e : y = x := by simpa using h
    subst e
    rw [List.flatMap_cons, Nat.zero_mul, Nat.zero_add, List.getElem?_append_left (by rw [hf]; exact hj)]
  | y :: L, i + 1, x, h, j, hj => by
    have e : L[i]? = some x := by simpa using h
    rw [List.flatMap_cons, List.getElem?_append_right (by rw [hf, Nat.add_mul]; omega), hf, show (i + 1) * k + j - k = i * k + j by rw [Nat.add_mul]; omega]
    exact flat_get f k hf L i x e j hj
theorem ics_length (L : List Bt) : (ics L).length = L.length * 2 := flat_length _ 2 (fun _ => rfl) L
theorem wcs_length (V : List Wt) : (wcs V).length = V.length * 3 := flat_length _ 3 (fun _ => rfl) V
theorem ics_append (L M : List Bt) : ics (L ++ M) = ics L ++ ics M := by simp [ics]
theorem wcs_append (L M : List Wt) : wcs (L ++ M) = wcs L ++ wcs M := by simp [wcs]

theorem fnd_some {L : List Bt} {p s : Int} {b : Bt} (h : fnd L p s = some b) : b ∈ L ∧ b.prod = p ∧ b.seq = s := by
  refine ⟨List.mem_of_find?_eq_some h, ?_⟩
  have := List.find?_some h
  simpa [isB] using this
theorem fnd_none {L : List Bt} {p s : Int} (h : fnd L p s = none) : ∀ b ∈ L, ¬ (b.prod = p ∧ b.seq = s) := fun b hb e => by
  have := List.find?_eq_none.1 h b hb
  simp [isB, e.1, e.2] at this
theorem fnd_append (L M : List Bt) (p s : Int) : fnd (L ++ M) p s = (fnd L p s).or (fnd M p s) := by simp [fnd, List.find?_append]
theorem fnd_one (b : Bt) (p s : Int) : fnd [b] p s = if b.prod = p ∧ b.seq = s then some b else none := by
  unfold fnd isB
  by_cases h : b.prod = p
  · by_cases h' : b.seq = s <;> simp [h, h']
  · simp [h]
theorem fnd_of_none {L : List Bt} {p s : Int} (h : ∀ b ∈ L, ¬ (b.prod = p ∧ b.seq = s)) : fnd L p s = none := List.find?_eq_none.2 fun b hb => by
  have := h b hb
  simpa [isB] using this

/-- How a map's element reads: a batch without records. -/
def bD (b : Bt) : DataW Unit := .agg [.lit (.int .i64 b.base), .lit (.int .i64 b.cnt), .lit (.int .i64 b.view), .lit (.int .i64 b.prod), .lit (.int .i64 b.seq)]
def bE : Value → Option (DataW Unit × List MemPlace)
  | .agg cs => match cs.toList with
    | [.int .i64 a, .int .i64 b, .int .i64 c, .int .i64 d, .int .i64 e, .slice none 0 0] => some (bD ⟨a, b, c, d, e⟩, [])
    | _ => none
  | _ => none
theorem bE_v (b : Bt) : bE b.v = some (bD b, []) := rfl
theorem bE_inv {v : Value} {y : DataW Unit × List MemPlace} (h : bE v = some y) : ∃ b : Bt, v = b.v ∧ y = (bD b, []) := by
  unfold bE at h
  split at h
  · rename_i cs
    split at h
    · rename_i a b c d e hcs
      cases h
      refine ⟨⟨a, b, c, d, e⟩, ?_, rfl⟩
      obtain ⟨l⟩ := cs
      simp only at hcs
      rw [hcs]
    · cases h
  · cases h
theorem bD_inj {a b : Bt} (h : bD a = bD b) : a = b := by
  obtain ⟨a1, a2, a3, a4, a5⟩ := a
  obtain ⟨b1, b2, b3, b4, b5⟩ := b
  simp [bD] at h
  obtain ⟨h1, h2, h3, h4, h5⟩ := h
  subst h1 h2 h3 h4 h5
  rfl
theorem laidOutI : laidOutB Try.prog = true := by kernel_rfl
theorem rowI : 30 < Try.prog.types.size := of_decide_eq_true (by kernel_rfl)
theorem wideI : (match Try.prog.underlying 30 with | some (.array _ _) | some (.struct _) => true | _ => false) = true := by kernel_rfl
theorem lawI : Keyed Try.prog 30 := Keyed.of_law (deep_law_laid laidOutI (m := 2) (by omega) rowI (by kernel_rfl) wideI)
theorem zeroB (w : World) : (zeroValue 33).run Try.prog w = .ok bt0.v w := by kernel_rfl
theorem cellsI : Try.prog.cellsOf 30 = 2 := by kernel_rfl
theorem cellsN : Try.prog.cellsOf 3 = 1 := by kernel_rfl
theorem sizeI : ∃ n, Try.prog.types.size + 1 = n + 2 := ⟨Try.prog.types.size - 1, by have := rowI; omega⟩
theorem wfI (x : Int) (h0 : 0 ≤ x) (h1 : x ≤ 2147483647) : (Lit.int .i64 x).wf = true := by
  have h1 : IntKind.i64.min = -9223372036854775808 := rfl
  have h2 : IntKind.i64.max = 9223372036854775807 := rfl
  simp [Lit.wf, h1, h2]; omega
theorem keyI (p s : Int) (p0 : 0 ≤ p) (p1 : p ≤ 2147483647) (s0 : 0 ≤ s) (s1 : s ≤ 2147483647) : ∃ kl, keyOf Try.prog 30 (idV p s) = some kl := by
  have hk : Try.prog.keyType 30 = true := by kernel_rfl
  obtain ⟨n, hn⟩ := sizeI
  unfold keyOf idV
  rw [Try.underlying30]
  simp only [hk, Bool.true_and]
  rw [hn]
  have hf : (Value.agg #[.int .i64 p, .int .i64 s]).formed Try.prog 30 = true := by simp [Value.formed, Try.underlying30, cellsI]
  rw [if_pos hf]
  simp [Program.keyLits, Try.underlying30, Try.underlying3, cellsI, cellsN, Value.cells, wfI p p0 p1, wfI s s0 s1]
theorem idV_inj {p s p' s' : Int} (h : idV p s = idV p' s') : p = p' ∧ s = s' := by
  simpa [idV] using h
/-- What a map knows of batches. -/
def MK (D : DataW Unit) (L : List Bt) : Prop :=
  ∀ p s kl, keyOf Try.prog 30 (idV p s) = some kl → Maps.has D kl = (fnd L p s).isSome ∧ ∀ b, fnd L p s = some b → D.atKey kl (bD bt0) = bD b
theorem MK.nil : MK (.map []) [] := fun p s kl _ => ⟨rfl, fun b h => by simp [fnd] at h⟩
theorem MK.put {D : DataW Unit} {L : List Bt} {b : Bt} {kl : Lit} (h : MK D L) (hD : Maps.IsMap D) (hk : keyOf Try.prog 30 (idV b.prod b.seq) = some kl) (hn : fnd L b.prod b.seq = none) : MK (D.put kl (bD b)) (L ++ [b]) := by
  intro p s kl' hk'
  rw [fnd_append, fnd_one]
  by_cases e : b.prod = p ∧ b.seq = s
  · obtain ⟨rfl, rfl⟩ := e
    rw [hk] at hk'
    cases hk'
    rw [hn]
    refine ⟨?_, fun c hc => ?_⟩
    · rw [Maps.has_put_same hD (lawI.key hk)]; simp
    · rw [Maps.atKey_put_same hD (lawI.key hk)]
      simp at hc
      rw [hc]
  · have hne : kl' ≠ kl := fun h => by
      subst h
      have := idV_inj (lawI.inj hk' hk)
      exact e ⟨this.1.symm, this.2.symm⟩
    rw [if_neg e, Maps.has_put_other hne, Maps.atKey_put_other hne]
    simp only [Option.or_none]
    exact h p s kl' hk'
theorem MK.del {D : DataW Unit} {L : List Bt} {b : Bt} {kl : Lit} (h : MK D (L ++ [b])) (hk : keyOf Try.prog 30 (idV b.prod b.seq) = some kl) (hn : fnd L b.prod b.seq = none) : MK (D.del kl) L := by
  intro p s kl' hk'
  by_cases e : b.prod = p ∧ b.seq = s
  · obtain ⟨rfl, rfl⟩ := e
    rw [hk] at hk'
    cases hk'
    rw [hn]
    exact ⟨by rw [Maps.has_del_same]; rfl, fun c hc => by cases hc⟩
  · have hne : kl' ≠ kl := fun h => by
      subst h
      have := idV_inj (lawI.inj hk' hk)
      exact e ⟨this.1.symm, this.2.symm⟩
    have h1 := h p s kl' hk'
    rw [fnd_append, fnd_one, if_neg e] at h1
    simp only [Option.or_none] at h1
    rw [Maps.has_del_other hne, Maps.atKey_del_other hne]
    exact h1
/-- Block mb is the map of these batches. -/
def MO (w : World) (mb : Nat) (L : List Bt) : Prop := ∃ D : DataW Unit, w.ownsMap Try.prog 30 bE mb L.length D ∧ MK D L ∧ Maps.size D = L.length
theorem ownsMap_block {w w' : World} {P : Program} {k : TypeId} {R : Value → Option (DataW Unit × List MemPlace)} {b n : Nat} {D : DataW Unit} (h : w.ownsMap P k R b n D) (hb : w'.heap[b]? = w.heap[b]?) : w'.ownsMap P k R b n D := by
  obtain ⟨es, clock, h1, h2⟩ := h
  exact ⟨es, clock, hb.trans h1, h2⟩
theorem ownsMap_tight {w : World} {P : Program} {k : TypeId} {R : Value → Option (DataW Unit × List MemPlace)} {b n n' : Nat} {D : DataW Unit} (h : w.ownsMap P k R b n D) (hn : Maps.size D ≤ n') : w.ownsMap P k R b n' D := by
  obtain ⟨es, clock, h1, h2, h3, rfl⟩ := h
  refine ⟨es, clock, h1, h2, ?_, rfl⟩
  simpa [Maps.size, length_sorted] using hn
theorem MO.block {w w' : World} {mb : Nat} {L : List Bt} (h : MO w mb L) (hb : w'.heap[mb]? = w.heap[mb]?) : MO w' mb L := by
  obtain ⟨D, h1, h2⟩ := h
  exact ⟨D, ownsMap_block h1 hb, h2⟩
theorem MO.blk {w : World} {mb : Nat} {L : List Bt} (h : MO w mb L) : ∃ es c, w.heap[mb]? = some (.map es c) := by
  obtain ⟨D, ⟨es, c, h1, _⟩, _⟩ := h
  exact ⟨es, c, h1⟩
theorem MO.lt {w : World} {mb : Nat} {L : List Bt} (h : MO w mb L) : mb < w.heap.size := by
  obtain ⟨es, c, h⟩ := h.blk
  exact lt_of_block h
theorem look_m {W : World} {mb : Nat} {L : List Bt} (h : MO W mb L) (p s : Int) (p0 : 0 ≤ p) (p1 : p ≤ 2147483647) (s0 : 0 ≤ s) (s1 : s ≤ 2147483647) :
    (Instr.lookup 52 (.map (some mb)) (idV p s) true).run Try.prog W = .ok (.tuple #[(fb L p s).v, .bool (fnd L p s).isSome]) W ∧
    (Instr.lookup 52 (.map (some mb)) (idV p s) false).run Try.prog W = .ok (fb L p s).v W := by
  obtain ⟨kl, hkl⟩ := keyI p s p0 p1 s0 s1
  obtain ⟨D, hown, hM, _⟩ := h
  obtain ⟨h1, h2⟩ := hM p s kl hkl
  have key : ∀ v ps, bE v = some (D.atKey kl (bD bt0), ps) → v = (fb L p s).v := fun v ps hv => by
    obtain ⟨b, rfl, hy⟩ := bE_inv hv
    have hy1 : D.atKey kl (bD bt0) = bD b := congrArg Prod.fst hy
    unfold fb
    cases hf : fnd L p s with
    | none =>
      rw [hf] at h1
      rw [Maps.atKey_of_not_has h1] at hy1
      rw [← bD_inj hy1]; rfl
    | some c =>
      rw [h2 c hf] at hy1
      rw [← bD_inj hy1]; rfl
  constructor
  · obtain ⟨v, ps, hrun, hv⟩ := hown.look_ok lawI Try.underlying52 (zeroB W) (zd := bD bt0) (zp := []) (bE_v bt0) hkl
    rw [hrun, key v ps hv, h1]
  · obtain ⟨v, ps, hrun, hv⟩ := hown.lookup lawI Try.underlying52 (zeroB W) (zd := bD bt0) (zp := []) (bE_v bt0) hkl
    rw [hrun, key v ps hv]
theorem MO.put {W : World} {mb : Nat} {L : List Bt} (h : MO W mb L) (b : Bt) (ok : b.OK) (hn : fnd L b.prod b.seq = none) (hl : L.length ≤ 1000) :
    ∃ w', (Instr.mapUpdate 52 (.map (some mb)) (idV b.prod b.seq) b.v).run Try.prog W = .ok () w' ∧ MO w' mb (L ++ [b]) ∧ W.grownBy w' (some mb) := by
  obtain ⟨kl, hkl⟩ := keyI b.prod b.seq ok.p0 ok.p1 ok.s0 ok.s1
  obtain ⟨D, hown, hM, hs⟩ := h
  have hh : Maps.has D kl = false := by rw [(hM _ _ kl hkl).1, hn]; rfl
  obtain ⟨w', hrun, h1, h2⟩ := hown.update lawI Try.underlying52 (by unfold maxLen; omega) hkl (bE_v b)
  refine ⟨w', hrun, ⟨_, by rw [List.length_append]; exact h1, hM.put hown.isMap hkl hn, ?_⟩, h2⟩
  rw [Maps.size_put (hown.tidy lawI), hh, hs, List.length_append]
  rfl
theorem MO.del {W : World} {mb : Nat} {L : List Bt} {b : Bt} (h : MO W mb (L ++ [b])) (ok : b.OK) (hn : fnd L b.prod b.seq = none) (ty : TypeId) :
    ∃ w', (Builtin.delete_ #[52, 30] ty #[.map (some mb), idV b.prod b.seq]).run Try.prog W = .ok (.tuple #[]) w' ∧ MO w' mb L ∧ W.grownBy w' (some mb) := by
  obtain ⟨kl, hkl⟩ := keyI b.prod b.seq ok.p0 ok.p1 ok.s0 ok.s1
  obtain ⟨D, hown, hM, hs⟩ := h
  have hh : Maps.has D kl = true := by
    rw [(hM _ _ kl hkl).1, fnd_append, fnd_one, hn]; simp
  obtain ⟨w', hrun, h1, h2⟩ := hown.drop lawI Try.underlying52 hkl ty
  have hsz : Maps.size (D.del kl) = L.length := by
    have := Maps.size_del (k := kl) (hown.tidy lawI)
    rw [hh, hs, List.length_append] at this
    simpa using this
  exact ⟨w', hrun, ⟨_, ownsMap_tight h1 (Nat.le_of_eq hsz), hM.del hkl hn, hsz⟩, h2.grown⟩
end Go.Proofs.Ytpjjenhimnkdcaa
