/- Layer 18: of each key the highest offset; a record noted. -/
import Derived.Test.YtebfpffilepfaaaKm
namespace Go.Proofs.Ytebfpffilepfaaa
open Go.RowKit Go.Maps Go.Shelf
set_option linter.unusedVariables false
set_option maxRecDepth 20000

def inD (b : Int) : DataW Unit := .lit (.int .i64 b)
def inR : Value → Option (DataW Unit × List MemPlace)
  | .int .i64 a => some (inD a, [])
  | _ => none
theorem inR_inv (v : Value) (y : DataW Unit × List MemPlace) (h : inR v = some y) : ∃ b : Int, v = inV b ∧ y = (inD b, []) := by
  unfold inR at h
  split at h
  · cases h; exact ⟨_, rfl, rfl⟩
  · cases h
abbrev stV (x : ByteArray) : Value := .string x
theorem kindL : MKind 9 80 3 stV inV inD inR 0 where
  law := string_keyed Try.underlying9
  ty := Try.underlying80
  zero := fun w => by kernel_rfl
  reads := fun b => rfl
  inv := inR_inv
  inj := fun a b h => by simpa [inD] using h
  kinj := fun a b h => by simpa [stV] using h
theorem keyS {x : ByteArray} (h : x.size ≤ 9223372036854775807) : ∃ kl, keyOf Try.prog 9 (stV x) = some kl := ⟨_, WideMaps.keyOf_string_mk (P := Try.prog) Try.underlying9 (by unfold maxLen; omega)⟩
abbrev LaMap (w : World) (mb n : Nat) (g : ByteArray → Option Int) : Prop := MT 9 stV inD inR 0 w mb n g
def up1 (k : ByteArray) (acc : Option Int) (r : Rec) : Option Int := if r.key = k then (match acc with | none => some r.off | some o => some (if o < r.off then r.off else o)) else acc
/-- Of a key the highest offset. -/
def hiO (N : List Rec) (k : ByteArray) : Option Int := N.foldl (up1 k) none
theorem hiO_snoc (N : List Rec) (r : Rec) (k : ByteArray) : hiO (N ++ [r]) k = up1 k (hiO N k) r := by simp [hiO]
theorem hiO_same {N : List Rec} {r : Rec} {k : ByteArray} (h : r.key ≠ k) : hiO (N ++ [r]) k = hiO N k := by rw [hiO_snoc]; unfold up1; rw [if_neg h]
theorem snocInd {α : Type} {p : List α → Prop} (h0 : p []) (h1 : ∀ L x, p L → p (L ++ [x])) : ∀ L, p L := by
  have key : ∀ n (L : List α), L.length = n → p L := by
    intro n
    induction n with
    | zero => intro L h; rw [List.length_eq_zero_iff] at h; subst h; exact h0
    | succ n ih =>
      intro L h
      rcases List.eq_nil_or_concat L with e | ⟨M, x, e⟩
      · subst e; simp at h
      · rw [List.concat_eq_append] at e
        subst e
        exact h1 M x (ih M (by simpa using h))
  exact fun L => key _ L rfl
theorem hiO_spec (k : ByteArray) : ∀ N : List Rec, match hiO N k with
    | none => ∀ r ∈ N, r.key ≠ k
    | some o => (∃ r ∈ N, r.key = k ∧ r.off = o) ∧ ∀ r ∈ N, r.key = k → r.off ≤ o := by
  refine snocInd ?_ ?_
  · simp [hiO]
  · intro N r ih
    by_cases hk : r.key = k
    · rw [hiO_snoc]
      unfold up1
      rw [if_pos hk]
      cases e : hiO N k with
      | none =>
        rw [e] at ih
        refine ⟨⟨r, by simp, hk, rfl⟩, fun q hq hqk => ?_⟩
        rw [List.mem_append, List.mem_singleton] at hq
        rcases hq with hq | rfl
        · exact absurd hqk (ih q hq)
        · exact Int.le_refl _
      | some o =>
        rw [e] at ih
        obtain ⟨⟨q, hq, hqk, hqo⟩, hle⟩ := ih
        show (∃ r' ∈ N ++ [r], r'.key = k ∧ r'.off = if o < r.off then r.off else o) ∧ ∀ r' ∈ N ++ [r], r'.key = k → r'.off ≤ if o < r.off then r.off else o
        refine ⟨?_, fun q hq hqk => ?_⟩
        · by_cases h : o < r.off
          · rw [if_pos h]; exact ⟨r, by simp, hk, rfl⟩
          · rw [if_neg h]; exact ⟨q, by simp [hq], hqk, hqo⟩
        · rw [List.mem_append, List.mem_singleton] at hq
          rcases hq with hq | rfl
          · have := hle q hq hqk
            split <;> omega
          · split <;> omega
    · rw [hiO_same hk]
      cases e : hiO N k with
      | none =>
        rw [e] at ih
        intro q hq
        rw [List.mem_append, List.mem_singleton] at hq
        rcases hq with hq | rfl
        · exact ih q hq
        · exact hk
      | some o =>
        rw [e] at ih
        obtain ⟨⟨q, hq, hqk, hqo⟩, hle⟩ := ih
        refine ⟨⟨q, by simp [hq], hqk, hqo⟩, fun q' hq' hqk' => ?_⟩
        rw [List.mem_append, List.mem_singleton] at hq'
        rcases hq' with hq' | rfl
        · exact hle q' hq' hqk'
        · exact absurd hqk' hk
/-- What lastOffsets knows of the records so far. -/
structure LO (w wr : World) (N : List Rec) : Prop where
  map : LaMap wr w.heap.size N.length (hiO N)
  cell : wr.heap[w.heap.size + 1]? = some (.cells #[.map (some w.heap.size)] 80 (0, 0))
  bel : Below w.heap.size w wr
theorem LO.below {w wr w' : World} {N : List Rec} (h : LO w wr N) (hb : Below wr.heap.size wr w') : LO w w' N :=
  ⟨h.map.below hb, (hb.block _ (lt_of_block h.cell)).trans h.cell, h.bel.trans (hb.mono h.bel.size)⟩
set_option maxHeartbeats 4000000 in
theorem note_ok (w W : World) (N : List Rec) (r : Rec) (h : LO w W N) (hr : r.ok) (hn : N.length < 1000000) :
    Calls Try.prog 28 #[r.v, .pointer (some ⟨w.heap.size + 1, 0, none⟩)] W fun e w' => e = .returned (.tuple #[]) ∧ LO w w' (N ++ [r]) := by
  obtain ⟨o, k, v, g⟩ := r
  have HL : Hid (LO w W N) := h
  have HR : Hid ((⟨o, k, v, g⟩ : Rec).ok) := hr
  clear h hr
  simp only [Rec.v]
  obtain ⟨U, hU⟩ : ∃ U, W.heap.size = U := ⟨_, rfl⟩
  have HB : Hid (Below W.heap.size W (W.alloc (.cells #[.int .i64 o, .string k, .string v, .bool g] 36)) ∧ (W.alloc (.cells #[.int .i64 o, .string k, .string v, .bool g] 36)).heap[U]? = some (.cells #[.int .i64 o, .string k, .string v, .bool g] 36 (0, 0))) := by
    rw [← hU]; exact ⟨below_a _ _, heap_alloc_new _ _⟩
  go_enter Try.func28, Try.ntmps28
  go_upto_region 1 with fail
  clear hU
  generalize (W.alloc (.cells #[.int .i64 o, .string k, .string v, .bool g] 36)) = w1 at HB
  have HL1 : Hid (LO w w1 N) := HL.out.below HB.out.1
  obtain ⟨d0, d1, d2, d3⟩ := cells4 HB.out.2
  have c0 : w1.cell? ⟨w.heap.size + 1, 0, none⟩ = some (.map (some w.heap.size)) := by simp [World.cell?, HL1.out.cell]
  have hl := (HL1.out.map.look kindL k (keyS HR.out.2.1)).1
  have HSN : Hid (∀ q, k ≠ q → hiO (N ++ [⟨o, k, v, g⟩]) q = hiO N q) := fun q hq => hiO_same hq
  have hsk : hiO (N ++ [⟨o, k, v, g⟩]) k = (match hiO N k with | none => some o | some x => some (if x < o then o else x)) := by
    rw [hiO_snoc]; unfold up1; rw [if_pos rfl]
  cases hf : hiO N k with
  | none =>
    rw [hf] at hl hsk
    simp only [Option.getD_none, Option.isSome_none] at hl
    obtain ⟨w', hup, hm', hg'⟩ := HL1.out.map.put kindL k o (keyS HR.out.2.1) (by unfold maxLen; omega) (hiO (N ++ [⟨o, k, v, g⟩])) hsk (fun y hy => HSN.out y (fun e => hy e.symm))
    have HE : Hid (LO w w' (N ++ [⟨o, k, v, g⟩])) := ⟨by rw [List.length_append]; exact hm', (hg'.block _ (lt_of_block HL1.out.cell) (fun e => by have := Option.some.inj e; omega)).trans HL1.out.cell, bl_grown (Nat.le_refl _) HL1.out.bel hg' (Nat.le_refl _)⟩
    clear hm' hg' hsk hf
    go_wp2_with fail
    refine bodyPost_end (v := .tuple #[]) ?_ rfl ⟨rfl, HE.out⟩
    simp [results, Try.results28]
  | some x =>
    rw [hf] at hl hsk
    simp only [Option.getD_some, Option.isSome_some] at hl
    by_cases hxo : x < o
    · have hsk' : hiO (N ++ [⟨o, k, v, g⟩]) k = some o := by rw [hsk]; show some (if x < o then o else x) = _; rw [if_pos hxo]
      obtain ⟨w', hup, hm', hg'⟩ := HL1.out.map.put kindL k o (keyS HR.out.2.1) (by unfold maxLen; omega) (hiO (N ++ [⟨o, k, v, g⟩])) hsk' (fun y hy => HSN.out y (fun e => hy e.symm))
      have HE : Hid (LO w w' (N ++ [⟨o, k, v, g⟩])) := ⟨by rw [List.length_append]; exact hm', (hg'.block _ (lt_of_block HL1.out.cell) (fun e => by have := Option.some.inj e; omega)).trans HL1.out.cell, bl_grown (Nat.le_refl _) HL1.out.bel hg' (Nat.le_refl _)⟩
      clear hm' hg' hsk hsk' hf
      go_wp2_with fail
      refine bodyPost_end (v := .tuple #[]) ?_ rfl ⟨rfl, HE.out⟩
      simp [results, Try.results28]
    · have HE : Hid (LO w w1 (N ++ [⟨o, k, v, g⟩])) := by
        refine ⟨?_, HL1.out.cell, HL1.out.bel⟩
        have e : hiO (N ++ [⟨o, k, v, g⟩]) = hiO N := by
          funext q
          by_cases hq : k = q
          · subst hq
            rw [hsk, hf]
            show some (if x < o then o else x) = _
            rw [if_neg hxo]
          · exact HSN.out q hq
        rw [e, List.length_append]
        exact HL1.out.map.mono (by simp)
      clear hsk hf
      go_wp2_with fail
      refine bodyPost_end (v := .tuple #[]) ?_ rfl ⟨rfl, HE.out⟩
      simp [results, Try.results28]
end Go.Proofs.Ytebfpffilepfaaa
