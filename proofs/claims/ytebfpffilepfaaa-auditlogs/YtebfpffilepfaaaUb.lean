/- Layer 18: maps as functions of their keys. -/
import Derived.Test.YtebfpffilepfaaaUa
namespace Go.Proofs.Ytebfpffilepfaaa
open Go.RowKit Go.Maps
set_option linter.unusedVariables false
set_option maxRecDepth 20000

theorem ownsMap_block {w w' : World} {P : Program} {k : TypeId} {R : Value → Option (DataW Unit × List MemPlace)} {b n : Nat} {D : DataW Unit} (h : w.ownsMap P k R b n D) (hb : w'.heap[b]? = w.heap[b]?) : w'.ownsMap P k R b n D := by
  obtain ⟨es, clock, h1, h2⟩ := h
  exact ⟨es, clock, hb.trans h1, h2⟩
/-- The closed facts of a kind of maps. -/
structure MKind {κ β : Type} (k t e : TypeId) (kv : κ → Value) (ev : β → Value) (eD : β → DataW Unit) (R : Value → Option (DataW Unit × List MemPlace)) (z : β) : Prop where
  law : Keyed Try.prog k
  ty : Try.prog.underlying t = some (.map k e)
  zero : ∀ w, (zeroValue e).run Try.prog w = .ok (ev z) w
  reads : ∀ b, R (ev b) = some (eD b, [])
  inv : ∀ v y, R v = some y → ∃ b, v = ev b ∧ y = (eD b, [])
  inj : ∀ a b, eD a = eD b → a = b
  kinj : ∀ x y, kv x = kv y → x = y
/-- Block mb is a map that tells g, and has at most n keys. -/
def MT {κ β : Type} (k : TypeId) (kv : κ → Value) (eD : β → DataW Unit) (R : Value → Option (DataW Unit × List MemPlace)) (z : β) (w : World) (mb n : Nat) (g : κ → Option β) : Prop :=
  ∃ D : DataW Unit, w.ownsMap Try.prog k R mb n D ∧ ∀ x kl, keyOf Try.prog k (kv x) = some kl → Maps.has D kl = (g x).isSome ∧ ∀ b, g x = some b → D.atKey kl (eD z) = eD b
theorem MT.nil {κ β : Type} (k : TypeId) (kv : κ → Value) (eD : β → DataW Unit) (R : Value → Option (DataW Unit × List MemPlace)) (z : β) (w : World) : MT k kv eD R z (w.alloc (.map #[] 0)) w.heap.size 0 (fun _ => none) :=
  ⟨.map [], World.ownsMap_made w _ _ _, fun x kl _ => ⟨rfl, fun b h => by cases h⟩⟩
theorem MT.block {κ β : Type} {k : TypeId} {kv : κ → Value} {eD : β → DataW Unit} {R : Value → Option (DataW Unit × List MemPlace)} {z : β} {w w' : World} {mb n : Nat} {g : κ → Option β} (h : MT k kv eD R z w mb n g) (hb : w'.heap[mb]? = w.heap[mb]?) : MT k kv eD R z w' mb n g := by
  obtain ⟨D, h1, h2⟩ := h
  exact ⟨D, ownsMap_block h1 hb, h2⟩
theorem MT.lt {κ β : Type} {k : TypeId} {kv : κ → Value} {eD : β → DataW Unit} {R : Value → Option (DataW Unit × List MemPlace)} {z : β} {w : World} {mb n : Nat} {g : κ → Option β} (h : MT k kv eD R z w mb n g) : mb < w.heap.size := by
  obtain ⟨D, ⟨es, c, h1, _⟩, _⟩ := h
  exact lt_of_block h1
theorem MT.below {κ β : Type} {k : TypeId} {kv : κ → Value} {eD : β → DataW Unit} {R : Value → Option (DataW Unit × List MemPlace)} {z : β} {w w' : World} {mb n : Nat} {g : κ → Option β} (h : MT k kv eD R z w mb n g) (hb : Below w.heap.size w w') : MT k kv eD R z w' mb n g := h.block (hb.block mb h.lt)
theorem MT.mono {κ β : Type} {k : TypeId} {kv : κ → Value} {eD : β → DataW Unit} {R : Value → Option (DataW Unit × List MemPlace)} {z : β} {w : World} {mb n n' : Nat} {g : κ → Option β} (h : MT k kv eD R z w mb n g) (hn : n ≤ n') : MT k kv eD R z w mb n' g := by
  obtain ⟨D, h1, h2⟩ := h
  exact ⟨D, h1.mono hn, h2⟩
theorem MT.look {κ β : Type} {k t e : TypeId} {kv : κ → Value} {ev : β → Value} {eD : β → DataW Unit} {R : Value → Option (DataW Unit × List MemPlace)} {z : β} (M : MKind k t e kv ev eD R z) {W : World} {mb n : Nat} {g : κ → Option β} (h : MT k kv eD R z W mb n g) (x : κ) (hx : ∃ kl, keyOf Try.prog k (kv x) = some kl) :
    (Instr.lookup t (.map (some mb)) (kv x) true).run Try.prog W = .ok (.tuple #[ev ((g x).getD z), .bool (g x).isSome]) W ∧
    (Instr.lookup t (.map (some mb)) (kv x) false).run Try.prog W = .ok (ev ((g x).getD z)) W := by
  obtain ⟨kl, hkl⟩ := hx
  obtain ⟨D, hown, hM⟩ := h
  obtain ⟨h1, h2⟩ := hM x kl hkl
  have key : ∀ v ps, R v = some (D.atKey kl (eD z), ps) → v = ev ((g x).getD z) := fun v ps hv => by
    obtain ⟨b, rfl, hy⟩ := M.inv v _ hv
    have hy1 : D.atKey kl (eD z) = eD b := congrArg Prod.fst hy
    cases hf : g x with
    | none =>
      rw [hf] at h1
      rw [Maps.atKey_of_not_has h1] at hy1
      rw [← M.inj _ _ hy1]; rfl
    | some c =>
      rw [h2 c hf] at hy1
      rw [← M.inj _ _ hy1]; rfl
  constructor
  · obtain ⟨v, ps, hrun, hv⟩ := hown.look_ok M.law M.ty (M.zero W) (zd := eD z) (zp := []) (M.reads z) hkl
    rw [hrun, key v ps hv, h1]
  · obtain ⟨v, ps, hrun, hv⟩ := hown.lookup M.law M.ty (M.zero W) (zd := eD z) (zp := []) (M.reads z) hkl
    rw [hrun, key v ps hv]
theorem MT.put {κ β : Type} {k t e : TypeId} {kv : κ → Value} {ev : β → Value} {eD : β → DataW Unit} {R : Value → Option (DataW Unit × List MemPlace)} {z : β} (M : MKind k t e kv ev eD R z) {W : World} {mb n : Nat} {g : κ → Option β} (h : MT k kv eD R z W mb n g) (x : κ) (b : β) (hx : ∃ kl, keyOf Try.prog k (kv x) = some kl) (hn : n < maxLen) (g' : κ → Option β) (g1 : g' x = some b) (g2 : ∀ y, y ≠ x → g' y = g y) :
    ∃ w', (Instr.mapUpdate t (.map (some mb)) (kv x) (ev b)).run Try.prog W = .ok () w' ∧ MT k kv eD R z w' mb (n + 1) g' ∧ W.grownBy w' (some mb) := by
  obtain ⟨kl, hkl⟩ := hx
  obtain ⟨D, hown, hM⟩ := h
  obtain ⟨w', hrun, h1, h2⟩ := hown.update M.law M.ty hn hkl (M.reads b)
  refine ⟨w', hrun, ⟨_, h1, fun y kl' hk' => ?_⟩, h2⟩
  by_cases e : kl' = kl
  · subst e
    have ey : y = x := M.kinj _ _ (M.law.inj hk' hkl)
    subst ey
    rw [g1]
    refine ⟨?_, fun c hc => ?_⟩
    · rw [Maps.has_put_same hown.isMap (M.law.key hkl)]; rfl
    · rw [Maps.atKey_put_same hown.isMap (M.law.key hkl)]
      cases hc; rfl
  · have ey : y ≠ x := fun h => by
      subst h
      rw [hkl] at hk'
      cases hk'
      exact e rfl
    rw [g2 y ey, Maps.has_put_other e, Maps.atKey_put_other e]
    exact hM y kl' hk'

/-- The map of batches' ids. -/
abbrev idV (x : Int × Int) : Value := .agg #[.int .i64 x.1, .int .i64 x.2]
def spD (b : Int × Int) : DataW Unit := .agg [.lit (.int .i64 b.1), .lit (.int .i64 b.2)]
def spR : Value → Option (DataW Unit × List MemPlace)
  | .agg cs => match cs.toList with
    | [.int .i64 a, .int .i64 b] => some (spD (a, b), [])
    | _ => none
  | _ => none
theorem spR_inv (v : Value) (y : DataW Unit × List MemPlace) (h : spR v = some y) : ∃ b : Int × Int, v = idV b ∧ y = (spD b, []) := by
  unfold spR at h
  split at h
  · rename_i cs
    split at h
    · rename_i a b hcs
      cases h
      refine ⟨(a, b), ?_, rfl⟩
      obtain ⟨l⟩ := cs
      simp only at hcs
      rw [hcs]
    · cases h
  · cases h
theorem laidOut18 : laidOutB Try.prog = true := by kernel_rfl
theorem rowI : 28 < Try.prog.types.size := of_decide_eq_true (by kernel_rfl)
theorem wideI : (match Try.prog.underlying 28 with | some (.array _ _) | some (.struct _) => true | _ => false) = true := by kernel_rfl
theorem lawI : Keyed Try.prog 28 := Keyed.of_law (deep_law_laid laidOut18 (m := 2) (by omega) rowI (by kernel_rfl) wideI)
theorem kindI : MKind 28 49 54 idV idV spD spR (0, 0) where
  law := lawI
  ty := Try.underlying49
  zero := fun w => by kernel_rfl
  reads := fun b => rfl
  inv := spR_inv
  inj := fun a b h => by
    obtain ⟨a1, a2⟩ := a
    obtain ⟨b1, b2⟩ := b
    simp [spD] at h
    rw [h.1, h.2]
  kinj := fun a b h => by
    obtain ⟨a1, a2⟩ := a
    obtain ⟨b1, b2⟩ := b
    simp [idV] at h
    rw [h.1, h.2]
theorem cellsI : Try.prog.cellsOf 28 = 2 := by kernel_rfl
theorem cellsN : Try.prog.cellsOf 3 = 1 := by kernel_rfl
def isInt (x : Int) : Prop := -9223372036854775808 ≤ x ∧ x ≤ 9223372036854775807
theorem wfI {x : Int} (h : isInt x) : (Lit.int .i64 x).wf = true := by
  have h1 : IntKind.i64.min = -9223372036854775808 := rfl
  have h2 : IntKind.i64.max = 9223372036854775807 := rfl
  obtain ⟨h3, h4⟩ := h
  simp [Lit.wf, h1, h2]; omega
theorem keyI {p s : Int} (hp : isInt p) (hs : isInt s) : ∃ kl, keyOf Try.prog 28 (idV (p, s)) = some kl := by
  have hk : Try.prog.keyType 28 = true := by kernel_rfl
  obtain ⟨n, hn⟩ : ∃ n, Try.prog.types.size + 1 = n + 2 := ⟨Try.prog.types.size - 1, by have := rowI; omega⟩
  unfold keyOf idV
  rw [Try.underlying28]
  simp only [hk, Bool.true_and]
  rw [hn]
  have hf : (Value.agg #[.int .i64 p, .int .i64 s]).formed Try.prog 28 = true := by simp [Value.formed, Try.underlying28, cellsI]
  rw [if_pos hf]
  simp [Program.keyLits, Try.underlying28, Try.underlying3, cellsI, cellsN, Value.cells, wfI hp, wfI hs]
abbrev IdMap (w : World) (mb n : Nat) (g : Int × Int → Option (Int × Int)) : Prop := MT 28 idV spD spR (0, 0) w mb n g

/-- The map of offsets: 64 of them a word. -/
abbrev inV (x : Int) : Value := .int .i64 x
abbrev woV (x : Int) : Value := .int .u64 x
def woD (b : Int) : DataW Unit := .lit (.int .u64 b)
def woR : Value → Option (DataW Unit × List MemPlace)
  | .int .u64 a => some (woD a, [])
  | _ => none
theorem woR_inv (v : Value) (y : DataW Unit × List MemPlace) (h : woR v = some y) : ∃ b : Int, v = woV b ∧ y = (woD b, []) := by
  unfold woR at h
  split at h
  · cases h; exact ⟨_, rfl, rfl⟩
  · cases h
theorem kindO : MKind 3 51 68 inV woV woD woR 0 where
  law := int_keyed Try.underlying3
  ty := Try.underlying51
  zero := fun w => by kernel_rfl
  reads := fun b => rfl
  inv := woR_inv
  inj := fun a b h => by simpa [woD] using h
  kinj := fun a b h => by simpa [inV] using h
theorem keyN {p : Int} (hp : isInt p) : ∃ kl, keyOf Try.prog 3 (inV p) = some kl := ⟨_, keyOf_int_mk Try.underlying3 (wfI hp)⟩
abbrev WoMap (w : World) (mb n : Nat) (g : Int → Option Int) : Prop := MT 3 inV woD woR 0 w mb n g
end Go.Proofs.Ytebfpffilepfaaa
