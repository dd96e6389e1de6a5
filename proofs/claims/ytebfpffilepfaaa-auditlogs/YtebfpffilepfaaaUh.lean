/- Layer 18: records and fetches in memory; maps of records. -/
import Derived.Test.YtebfpffilepfaaaUf
namespace Go.Proofs.Ytebfpffilepfaaa
open Go.RowKit Go.Maps
set_option linter.unusedVariables false
set_option maxRecDepth 20000

/-- A record. -/
structure Rec where
  off : Int
  key : ByteArray
  val : ByteArray
  gone : Bool
abbrev Rec.v (r : Rec) : Value := .agg #[.int .i64 r.off, .string r.key, .string r.val, .bool r.gone]
def Rec.ok (r : Rec) : Prop := isInt r.off ∧ r.key.size ≤ 9223372036854775807 ∧ r.val.size ≤ 9223372036854775807
def ROk (L : List Rec) : Prop := ∀ r ∈ L, r.ok
/-- A slice tells records. -/
def RIn (w : World) (a : Option Addr) (L : List Rec) : Prop :=
  ∀ i r, L[i]? = some r → ∃ b off, a = some ⟨b, off, none⟩ ∧ b < w.heap.size ∧ w.cell? ⟨b, off + i * 4, none⟩ = some (.int .i64 r.off) ∧ w.cell? ⟨b, off + i * 4 + 1, none⟩ = some (.string r.key) ∧ w.cell? ⟨b, off + i * 4 + 2, none⟩ = some (.string r.val) ∧ w.cell? ⟨b, off + i * 4 + 3, none⟩ = some (.bool r.gone)
theorem RIn.below {w w' : World} {a : Option Addr} {L : List Rec} {B : Nat} (h : RIn w a L) (hb : Below B w w') (hB : w.heap.size ≤ B) : RIn w' a L := fun i r hr => by
  obtain ⟨b, off, e, hlt, h1, h2, h3, h4⟩ := h i r hr
  exact ⟨b, off, e, Nat.lt_of_lt_of_le hlt hb.size, by rw [cell_below hb (by omega)]; exact h1, by rw [cell_below hb (by omega)]; exact h2, by rw [cell_below hb (by omega)]; exact h3, by rw [cell_below hb (by omega)]; exact h4⟩
theorem RIn.bel {w w' : World} {a : Option Addr} {L : List Rec} (h : RIn w a L) (hb : Below w.heap.size w w') : RIn w' a L := h.below hb (Nat.le_refl _)
/-- A fetch. -/
structure Fe where
  step : Int
  node : Int
  from' : Int
  err : Int
  rec' : List Rec
/-- A slice tells fetches. -/
def FIn (w : World) (a : Option Addr) (L : List Fe) : Prop :=
  ∀ i x, L[i]? = some x → ∃ b off ra rc, a = some ⟨b, off, none⟩ ∧ b < w.heap.size ∧ w.cell? ⟨b, off + i * 5, none⟩ = some (.int .i64 x.step) ∧ w.cell? ⟨b, off + i * 5 + 1, none⟩ = some (.int .i64 x.node) ∧ w.cell? ⟨b, off + i * 5 + 2, none⟩ = some (.int .i64 x.from') ∧ w.cell? ⟨b, off + i * 5 + 3, none⟩ = some (.int .i64 x.err) ∧ w.cell? ⟨b, off + i * 5 + 4, none⟩ = some (.slice ra x.rec'.length rc) ∧ RIn w ra x.rec'
theorem FIn.below {w w' : World} {a : Option Addr} {L : List Fe} {B : Nat} (h : FIn w a L) (hb : Below B w w') (hB : w.heap.size ≤ B) : FIn w' a L := fun i x hx => by
  obtain ⟨b, off, ra, rc, e, hlt, h1, h2, h3, h4, h5, h6⟩ := h i x hx
  exact ⟨b, off, ra, rc, e, Nat.lt_of_lt_of_le hlt hb.size, by rw [cell_below hb (by omega)]; exact h1, by rw [cell_below hb (by omega)]; exact h2, by rw [cell_below hb (by omega)]; exact h3, by rw [cell_below hb (by omega)]; exact h4, by rw [cell_below hb (by omega)]; exact h5, h6.below hb hB⟩
theorem FIn.take {w : World} {a : Option Addr} {L : List Fe} (h : FIn w a L) (k : Nat) : FIn w a (L.take k) := fun i x hx => by
  rw [List.getElem?_take] at hx
  split at hx
  · exact h i x hx
  · cases hx
/-- What was said of an id. -/
structure Sd where
  prod : Int
  seq : Int
  rec' : List Rec
def SIn (w : World) (a : Option Addr) (L : List Sd) : Prop :=
  ∀ i x, L[i]? = some x → ∃ b off ra rc, a = some ⟨b, off, none⟩ ∧ b < w.heap.size ∧ w.cell? ⟨b, off + i * 3, none⟩ = some (.int .i64 x.prod) ∧ w.cell? ⟨b, off + i * 3 + 1, none⟩ = some (.int .i64 x.seq) ∧ w.cell? ⟨b, off + i * 3 + 2, none⟩ = some (.slice ra x.rec'.length rc) ∧ RIn w ra x.rec'
theorem SIn.below {w w' : World} {a : Option Addr} {L : List Sd} {B : Nat} (h : SIn w a L) (hb : Below B w w') (hB : w.heap.size ≤ B) : SIn w' a L := fun i x hx => by
  obtain ⟨b, off, ra, rc, e, hlt, h1, h2, h3, h4⟩ := h i x hx
  exact ⟨b, off, ra, rc, e, Nat.lt_of_lt_of_le hlt hb.size, by rw [cell_below hb (by omega)]; exact h1, by rw [cell_below hb (by omega)]; exact h2, by rw [cell_below hb (by omega)]; exact h3, h4.below hb hB⟩
def FOk (L : List Fe) : Prop := ∀ f ∈ L, ROk f.rec' ∧ f.rec'.length ≤ 9223372036854775807
def SOk (L : List Sd) : Prop := ∀ s ∈ L, ROk s.rec' ∧ s.rec'.length ≤ 9223372036854775807
/-- How many records there are. -/
def fsum : List Fe → Nat
  | [] => 0
  | f :: L => f.rec'.length + fsum L
def ssum : List Sd → Nat
  | [] => 0
  | s :: L => s.rec'.length + ssum L
theorem ssum_append (L M : List Sd) : ssum (L ++ M) = ssum L + ssum M := by
  induction L with
  | nil => simp [ssum]
  | cons s L ih => simp only [List.cons_append, ssum, ih]; omega
theorem fsum_append (L M : List Fe) : fsum (L ++ M) = fsum L + fsum M := by
  induction L with
  | nil => simp [fsum]
  | cons s L ih => simp only [List.cons_append, fsum, ih]; omega

theorem Rec.v_inj {a b : Rec} (h : a.v = b.v) : a = b := by
  obtain ⟨a1, a2, a3, a4⟩ := a
  obtain ⟨b1, b2, b3, b4⟩ := b
  simp [Rec.v] at h
  obtain ⟨rfl, rfl, rfl, rfl⟩ := h
  rfl
theorem rowR : 36 < Try.prog.types.size := of_decide_eq_true (by kernel_rfl)
theorem wideR : (match Try.prog.underlying 36 with | some (.array _ _) | some (.struct _) => true | _ => false) = true := by kernel_rfl
theorem lawR : Keyed Try.prog 36 := Keyed.of_law (deep_law_laid laidOut18 (m := 2) (by omega) rowR (by kernel_rfl) wideR)
theorem cellsR : Try.prog.cellsOf 36 = 4 := by kernel_rfl
theorem cellsS : Try.prog.cellsOf 9 = 1 := by kernel_rfl
theorem cellsB : Try.prog.cellsOf 4 = 1 := by kernel_rfl
theorem keyR {r : Rec} (h : r.ok) : ∃ kl, keyOf Try.prog 36 r.v = some kl := by
  obtain ⟨o, k, v, g⟩ := r
  obtain ⟨h1, h2, h3⟩ := h
  simp only at h1 h2 h3
  have hk : Try.prog.keyType 36 = true := by kernel_rfl
  obtain ⟨n, hn⟩ : ∃ n, Try.prog.types.size + 1 = n + 2 := ⟨Try.prog.types.size - 1, by have := rowR; omega⟩
  unfold keyOf Rec.v
  rw [Try.underlying36]
  simp only [hk, Bool.true_and]
  rw [hn]
  have hf : (Value.agg #[.int .i64 o, .string k, .string v, .bool g]).formed Try.prog 36 = true := by simp [Value.formed, Try.underlying36, cellsR]
  rw [if_pos hf]
  have h2' : k.size ≤ maxLen := h2
  have h3' : v.size ≤ maxLen := h3
  simp [Program.keyLits, Try.underlying36, Try.underlying3, Try.underlying9, Try.underlying4, cellsR, cellsN, cellsS, cellsB, Value.cells, wfI h1, h2', h3']
theorem kindT : MKind 36 57 69 Rec.v (fun _ : Unit => .agg #[]) (fun _ => .agg []) unitElem () where
  law := lawR
  ty := Try.underlying57
  zero := fun w => by kernel_rfl
  reads := fun b => unitElem_mk
  inv := fun v y h => ⟨(), (unitElem_inv h).1, (unitElem_inv h).2⟩
  inj := fun a b _ => rfl
  kinj := fun a b h => Rec.v_inj h
abbrev TxMap (w : World) (mb n : Nat) (g : Rec → Option Unit) : Prop := MT 36 Rec.v (fun _ : Unit => .agg []) unitElem () w mb n g
def reD (r : Rec) : DataW Unit := .agg [.lit (.int .i64 r.off), .lit (.string r.key.data.toList), .lit (.string r.val.data.toList), .lit (.bool r.gone)]
def reR : Value → Option (DataW Unit × List MemPlace)
  | .agg cs => match cs.toList with
    | [.int .i64 a, .string k, .string v, .bool g] => some (reD ⟨a, k, v, g⟩, [])
    | _ => none
  | _ => none
theorem reR_inv (v : Value) (y : DataW Unit × List MemPlace) (h : reR v = some y) : ∃ b : Rec, v = b.v ∧ y = (reD b, []) := by
  unfold reR at h
  split at h
  · rename_i cs
    split at h
    · rename_i a k v g hcs
      cases h
      refine ⟨⟨a, k, v, g⟩, ?_, rfl⟩
      obtain ⟨l⟩ := cs
      simp only at hcs
      rw [hcs]
    · cases h
  · cases h
def rec0 : Rec := ⟨0, ⟨#[]⟩, ⟨#[]⟩, false⟩
theorem ba_ext {a b : ByteArray} (h : a.data.toList = b.data.toList) : a = b := by
  obtain ⟨⟨a⟩⟩ := a
  obtain ⟨⟨b⟩⟩ := b
  simp only at h
  rw [h]
theorem kindM : MKind 3 59 36 inV Rec.v reD reR rec0 where
  law := int_keyed Try.underlying3
  ty := Try.underlying59
  zero := fun w => by kernel_rfl
  reads := fun b => rfl
  inv := reR_inv
  inj := fun a b h => by
    obtain ⟨a1, a2, a3, a4⟩ := a
    obtain ⟨b1, b2, b3, b4⟩ := b
    simp only [reD, DataW.agg.injEq, List.cons.injEq, DataW.lit.injEq, Lit.int.injEq, Lit.string.injEq, Lit.bool.injEq, true_and, and_true] at h
    obtain ⟨h1, h2, h3, h4⟩ := h
    rw [h1, ba_ext h2, ba_ext h3, h4]
  kinj := fun a b h => by simpa [inV] using h
abbrev AtMap (w : World) (mb n : Nat) (g : Int → Option Rec) : Prop := MT 3 inV reD reR rec0 w mb n g
theorem cells4 {w : World} {b : Nat} {t : TypeId} {a0 a1 a2 a3 : Value} (h : w.heap[b]? = some (.cells #[a0, a1, a2, a3] t (0, 0))) :
    w.cell? ⟨b, 0, none⟩ = some a0 ∧ w.cell? ⟨b, 1, none⟩ = some a1 ∧ w.cell? ⟨b, 2, none⟩ = some a2 ∧ w.cell? ⟨b, 3, none⟩ = some a3 :=
  ⟨by simp [World.cell?, h], by simp [World.cell?, h], by simp [World.cell?, h], by simp [World.cell?, h]⟩
theorem cells5 {w : World} {b : Nat} {t : TypeId} {a0 a1 a2 a3 a4 : Value} (h : w.heap[b]? = some (.cells #[a0, a1, a2, a3, a4] t (0, 0))) :
    w.cell? ⟨b, 0, none⟩ = some a0 ∧ w.cell? ⟨b, 1, none⟩ = some a1 ∧ w.cell? ⟨b, 2, none⟩ = some a2 ∧ w.cell? ⟨b, 3, none⟩ = some a3 ∧ w.cell? ⟨b, 4, none⟩ = some a4 :=
  ⟨by simp [World.cell?, h], by simp [World.cell?, h], by simp [World.cell?, h], by simp [World.cell?, h], by simp [World.cell?, h]⟩
theorem cells3 {w : World} {b : Nat} {t : TypeId} {a0 a1 a2 : Value} (h : w.heap[b]? = some (.cells #[a0, a1, a2] t (0, 0))) :
    w.cell? ⟨b, 0, none⟩ = some a0 ∧ w.cell? ⟨b, 1, none⟩ = some a1 ∧ w.cell? ⟨b, 2, none⟩ = some a2 :=
  ⟨by simp [World.cell?, h], by simp [World.cell?, h], by simp [World.cell?, h]⟩
end Go.Proofs.Ytebfpffilepfaaa
