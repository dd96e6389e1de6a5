/- An unpacker's symbols, lengths and distances. -/
/- How long a copy is, and from how far. -/
/- A copy, byte by byte. -/
/- Symbols up to a block's end. -/
/- Symbols up to a block's end: the walk. -/
/- The fixed codes. -/
/- The fixed codes, made once. -/
/- One block. -/
/- Blocks, one behind the other. -/
/- Inflate. -/
/- Told codes: whether lengths are whole; a run of lengths. -/
/- Told codes: a run of lengths, the walk. -/
/- Told codes: lengths, the mathematics. -/
/- Told codes: lengths, the walk. -/
import Derived.Test.YtlbadjfcffoakaaDoorV25
import Derived.Test.YtlbadjfcffoakaaDoorV23
import Derived.Deep.RegionWith
import Derived.Test.YtlbadjfcffoakaaDoorV21
namespace Go.Proofs.YtlbadjfcffoakaaDoor
open Go.RowKit
set_option linter.unusedVariables false
set_option maxRecDepth 20000

theorem way_ends {G : Prop} (a : Act) (w : World) (h : G) : wpAny Tryd.prog .any #[] (fun _ _ _ => True) 0 #[] a w → G := fun _ => h
theorem wrapN (T : Nat) (h : T ≤ 4611686018427387904) : IntKind.i64.wrap (T : Int) = (T : Int) := by rw [IntKind.wrap_i64]; omega
theorem wrapN64 (T : Nat) (h : T ≤ 4611686018427387904) : wrap64 (T : Int) = (T : Int) := by unfold wrap64; omega
def ub (s : ByteArray) (p n : Nat) : Nat × Nat × Nat := if 8 * s.size < p + n then (5, p, 0) else (0, p + n, num s p n)
def TabK (w : World) (K : Nat → Prop) (t : Nat) (ns : List Nat) : Prop := ∃ lo hi R, Tab w lo hi t ns R ∧ (∀ k, lo ≤ k → k < hi → K k) ∧ ns.length ≤ 288 ∧ ew ns 15 ≤ 32768
theorem TabK.keep {w w' : World} {K : Nat → Prop} {t : Nat} {ns : List Nat} (h : TabK w K t ns) (hf : UF K w w') : TabK w' K t ns := by
  obtain ⟨lo, hi, R, h1, h2, h3⟩ := h
  exact ⟨lo, hi, R, h1.keep (fun k a c => hf.block k (h2 k a c)), h2, h3⟩
theorem TabK.more {w : World} {K K' : Nat → Prop} {t : Nat} {ns : List Nat} (h : TabK w K t ns) (hk : ∀ k, K k → K' k) : TabK w K' t ns := by
  obtain ⟨lo, hi, R, h1, h2, h3⟩ := h
  exact ⟨lo, hi, R, h1, fun k a c => hk k (h2 k a c), h3⟩
def usym (ns : List Nat) (s : ByteArray) (p : Nat) : Nat × Nat × Nat :=
  if (rd ns s p).2.2 = 30 then (40, p, 0) else if (rd ns s p).2.2 = 0 then (0, p + (rd ns s p).2.1, (rd ns s p).1) else ((rd ns s p).2.2, p, 0)
def ustep (s : ByteArray) (p y st : Nat) : Nat × Nat × Nat :=
  if y < st then (0, p, y) else ((ub s p (y / st - 1)).1, (ub s p (y / st - 1)).2.1, (st + y % st) * 2 ^ (y / st - 1) + (ub s p (y / st - 1)).2.2)
end Go.Proofs.YtlbadjfcffoakaaDoor
namespace Go.Proofs.YtlbadjfcffoakaaDoor
open Go.RowKit
set_option linter.unusedVariables false
set_option maxRecDepth 20000

theorem ustep_le (s : ByteArray) (p y st : Nat) (hy : y < 32) (h2 : 2 ≤ st) (h4 : st ≤ 4) : (ustep s p y st).2.2 ≤ 400000 := by
  unfold ustep
  by_cases hlt : y < st
  · rw [if_pos hlt]; show y ≤ _; omega
  · rw [if_neg hlt]
    have hqb : y / st ≤ 16 := Nat.le_trans (Nat.div_le_div_left h2 (by omega)) (by omega)
    obtain ⟨m, hm⟩ : ∃ m, y / st - 1 = m := ⟨_, rfl⟩
    have hmb : m ≤ 15 := by omega
    have hmd : y % st < st := Nat.mod_lt _ (by omega)
    rw [hm]
    show (st + y % st) * 2 ^ m + (ub s p m).2.2 ≤ 400000
    have hx : (ub s p m).2.2 ≤ 65536 := by
      unfold ub
      split
      · exact Nat.zero_le _
      · exact Nat.le_of_lt (Nat.lt_of_lt_of_le (num_lt s p m) (Nat.pow_le_pow_right (by decide) (show m ≤ 16 by omega)))
    have hP : (st + y % st) * 2 ^ m ≤ 262144 := Nat.le_trans (Nat.mul_le_mul (show st + y % st ≤ 8 by omega) (Nat.pow_le_pow_right (by decide) hmb)) (by decide)
    exact Nat.le_trans (Nat.add_le_add hP hx) (by decide)
def ulen (s : ByteArray) (p y : Nat) : Nat × Nat × Nat :=
  if 285 < y then (40, p, 0) else if y = 285 then (0, p, 258) else ((ustep s p (y - 257) 4).1, (ustep s p (y - 257) 4).2.1, 3 + (ustep s p (y - 257) 4).2.2)
def udist (ns : List Nat) (s : ByteArray) (p : Nat) : Nat × Nat × Nat :=
  if (usym ns s p).1 ≠ 0 then usym ns s p else if 29 < (usym ns s p).2.2 then (40, p, 0) else
    ((ustep s (usym ns s p).2.1 (usym ns s p).2.2 2).1, (ustep s (usym ns s p).2.1 (usym ns s p).2.2 2).2.1, 1 + (ustep s (usym ns s p).2.1 (usym ns s p).2.2 2).2.2)
end Go.Proofs.YtlbadjfcffoakaaDoor
namespace Go.Proofs.YtlbadjfcffoakaaDoor
open Go.RowKit
set_option linter.unusedVariables false
set_option maxRecDepth 20000

def copyL (d : Nat) : Nat → List Nat → List Nat
  | 0, l => l
  | n + 1, l => copyL d n (l ++ [l.getD (l.length - d) 0])
theorem copyL_succ (d : Nat) : ∀ (n : Nat) (l : List Nat), copyL d (n + 1) l = copyL d n l ++ [(copyL d n l).getD ((copyL d n l).length - d) 0]
  | 0, l => rfl
  | n + 1, l => by
    have := copyL_succ d n (l ++ [l.getD (l.length - d) 0])
    exact this
theorem copyL_length (d : Nat) : ∀ (n : Nat) (l : List Nat), (copyL d n l).length = l.length + n
  | 0, l => rfl
  | n + 1, l => by
    show (copyL d n (l ++ [l.getD (l.length - d) 0])).length = _
    rw [copyL_length d n, List.length_append, List.length_singleton]; omega
def repF (p : Nat) (l : List Nat) (most n d : Nat) : Nat × Nat × List Nat :=
  if l.length < d then (40, p, l) else if most < l.length + n then (4, p, l) else (0, p, copyL d n l)
theorem newB (W : World) (p : Value) (t : TypeId) : ∀ j u, [p][j]? = some u → (W.alloc (.cells #[p] t)).cell? ((⟨W.heap.size, 0, none⟩ : Addr).add j) = some u := news1 W p t
theorem oneB (x : Int) : ∀ u ∈ [Value.int .u8 x], u.oneCell' = true := by
  intro u hu; simp at hu; subst hu; rfl
end Go.Proofs.YtlbadjfcffoakaaDoor
namespace Go.Proofs.YtlbadjfcffoakaaDoor
open Go.RowKit
set_option linter.unusedVariables false
set_option maxRecDepth 20000

theorem symW_le (ns : List Nat) (l x : Nat) (h : ns.length ≤ 288) : symW ns l x < 288 := by
  unfold symW
  by_cases hi : x - fstW ns l < (symsOf ns l ns.length).length
  · have hm : (symsOf ns l ns.length).getD (x - fstW ns l) 0 ∈ symsOf ns l ns.length := by
      rw [List.getD_eq_getElem?_getD, List.getElem?_eq_getElem hi]; exact List.getElem_mem hi
    obtain ⟨z, hz⟩ : ∃ z, (symsOf ns l ns.length).getD (x - fstW ns l) 0 = z := ⟨_, rfl⟩
    rw [hz] at hm ⊢
    unfold symsOf at hm
    have := (List.mem_range.1 (List.mem_filter.1 hm).1)
    omega
  · rw [List.getD_eq_getElem?_getD, List.getElem?_eq_none (by omega)]; simp
theorem rdS_ok (ns : List Nat) (s : ByteArray) (p : Nat) (hn : ns.length ≤ 288) : ∀ (k l x : Nat), (rdS ns s p k l x).2.2 = 0 → (rdS ns s p k l x).1 < 288 ∧ l ≤ (rdS ns s p k l x).2.1 ∧ 1 ≤ (rdS ns s p k l x).2.1 ∧ (p + l ≤ 8 * s.size → p + (rdS ns s p k l x).2.1 ≤ 8 * s.size)
  | 0, l, x, h => by simp [rdS] at h
  | k + 1, l, x, h => by
    unfold rdS at h ⊢
    by_cases h1 : x < ew ns l
    · rw [if_pos h1] at h ⊢
      refine ⟨symW_le ns l x hn, Nat.le_refl _, ?_, fun h => h⟩
      cases l with
      | zero => simp [ew] at h1
      | succ l => simp
    · rw [if_neg h1] at h ⊢
      by_cases h2 : ew ns 15 ≤ x * 2 ^ (15 - l)
      · rw [if_pos h2] at h; simp at h
      · rw [if_neg h2] at h ⊢
        by_cases h3 : 8 * s.size ≤ p + l
        · rw [if_pos h3] at h; simp at h
        · rw [if_neg h3] at h ⊢
          obtain ⟨a1, a2, a3, a4⟩ := rdS_ok ns s p hn k (l + 1) (2 * x + bitAt s (p + l)) h
          exact ⟨a1, by omega, a3, fun _ => a4 (by omega)⟩
theorem usym_ok' {ns : List Nat} {s : ByteArray} {p : Nat} (hn : ns.length ≤ 288) (h : (usym ns s p).1 = 0) : (usym ns s p).2.2 < 288 ∧ p < (usym ns s p).2.1 ∧ (p ≤ 8 * s.size → (usym ns s p).2.1 ≤ 8 * s.size) := by
  unfold usym at h ⊢
  by_cases h1 : (rd ns s p).2.2 = 30
  · rw [if_pos h1] at h; simp at h
  · rw [if_neg h1] at h ⊢
    by_cases h2 : (rd ns s p).2.2 = 0
    · rw [if_pos h2] at h ⊢
      obtain ⟨a1, a2, a3, a4⟩ := rdS_ok ns s p hn 16 0 0 h2
      refine ⟨a1, ?_, ?_⟩
      · show p < p + (rd ns s p).2.1
        unfold rd; omega
      · intro hp; exact a4 (by omega)
    · rw [if_neg h2] at h; exact (h2 h).elim
theorem ub_le {s : ByteArray} {p n : Nat} (h : (ub s p n).1 = 0) : p ≤ (ub s p n).2.1 ∧ (p ≤ 8 * s.size → (ub s p n).2.1 ≤ 8 * s.size) := by
  unfold ub at h ⊢
  split at h
  · simp at h
  · rename_i h1; rw [if_neg h1]; exact ⟨by show p ≤ p + n; omega, fun _ => by show p + n ≤ _; omega⟩
theorem ustep_mono {s : ByteArray} {p y st : Nat} (h : (ustep s p y st).1 = 0) : p ≤ (ustep s p y st).2.1 ∧ (p ≤ 8 * s.size → (ustep s p y st).2.1 ≤ 8 * s.size) := by
  unfold ustep at h ⊢
  by_cases h1 : y < st
  · rw [if_pos h1]; exact ⟨Nat.le_refl _, fun h => h⟩
  · rw [if_neg h1] at h ⊢; exact ub_le h
theorem ulen_mono {s : ByteArray} {p y : Nat} (h : (ulen s p y).1 = 0) : p ≤ (ulen s p y).2.1 ∧ (p ≤ 8 * s.size → (ulen s p y).2.1 ≤ 8 * s.size) := by
  unfold ulen at h ⊢
  by_cases h1 : 285 < y
  · rw [if_pos h1] at h; simp at h
  · rw [if_neg h1] at h ⊢
    by_cases h2 : y = 285
    · rw [if_pos h2]; exact ⟨Nat.le_refl p, fun h => h⟩
    · rw [if_neg h2] at h ⊢
      have hm := ustep_mono (s := s) (p := p) (y := y - 257) (st := 4)
      obtain ⟨⟨a, c, x⟩, hu⟩ : ∃ r, ustep s p (y - 257) 4 = r := ⟨_, rfl⟩
      rw [hu] at h hm ⊢
      exact hm h
theorem udist_mono {ns : List Nat} {s : ByteArray} {p : Nat} (hn : ns.length ≤ 288) (h : (udist ns s p).1 = 0) : p ≤ (udist ns s p).2.1 ∧ (p ≤ 8 * s.size → (udist ns s p).2.1 ≤ 8 * s.size) := by
  unfold udist at h ⊢
  by_cases h1 : (usym ns s p).1 ≠ 0
  · rw [if_pos h1] at h; exact (h1 h).elim
  · rw [if_neg h1] at h ⊢
    have h1' : (usym ns s p).1 = 0 := by omega
    obtain ⟨a1, a2, a3⟩ := usym_ok' hn h1'
    by_cases h2 : 29 < (usym ns s p).2.2
    · rw [if_pos h2] at h; simp at h
    · rw [if_neg h2] at h ⊢
      obtain ⟨b1, b2⟩ := ustep_mono h
      exact ⟨Nat.le_trans (Nat.le_of_lt a2) b1, fun hp => b2 (a3 hp)⟩
theorem udist_pos {ns : List Nat} {s : ByteArray} {p : Nat} (h : (udist ns s p).1 = 0) : 1 ≤ (udist ns s p).2.2 ∧ (udist ns s p).2.2 ≤ 400003 := by
  unfold udist at h ⊢
  by_cases h1 : (usym ns s p).1 ≠ 0
  · rw [if_pos h1] at h; exact (h1 h).elim
  · rw [if_neg h1] at h ⊢
    by_cases h2 : 29 < (usym ns s p).2.2
    · rw [if_pos h2] at h; simp at h
    · rw [if_neg h2]
      have := ustep_le s (usym ns s p).2.1 (usym ns s p).2.2 2 (by omega) (by omega) (by omega)
      show 1 ≤ 1 + (ustep s (usym ns s p).2.1 (usym ns s p).2.2 2).2.2 ∧ 1 + (ustep s (usym ns s p).2.1 (usym ns s p).2.2 2).2.2 ≤ 400003
      omega
theorem ulen_le {s : ByteArray} {p y : Nat} (hy : 256 < y) : (ulen s p y).2.2 ≤ 400003 := by
  unfold ulen
  by_cases h1 : 285 < y
  · rw [if_pos h1]; exact Nat.zero_le _
  · rw [if_neg h1]
    by_cases h2 : y = 285
    · rw [if_pos h2]; show 258 ≤ 400003; omega
    · rw [if_neg h2]
      have := ustep_le s p (y - 257) 4 (by omega) (by omega) (by omega)
      show 3 + (ustep s p (y - 257) 4).2.2 ≤ 400003
      omega
theorem repF_len {p : Nat} {l : List Nat} {most n d : Nat} (h : (repF p l most n d).1 = 0) : (repF p l most n d).2.2.length ≤ most ∧ (repF p l most n d).2.1 = p := by
  unfold repF at h ⊢
  by_cases h1 : l.length < d
  · rw [if_pos h1] at h; simp at h
  · rw [if_neg h1] at h ⊢
    by_cases h2 : most < l.length + n
    · rw [if_pos h2] at h; simp at h
    · rw [if_neg h2]; exact ⟨by show (copyL d n l).length ≤ most; rw [copyL_length]; omega, rfl⟩
def packF (c d : List Nat) (s : ByteArray) (most : Nat) : Nat → Nat → List Nat → Nat × Nat × List Nat
  | 0, p, l => (99, p, l)
  | k + 1, p, l =>
    if (usym c s p).1 ≠ 0 then ((usym c s p).1, p, l)
    else if (usym c s p).2.2 < 256 then (if most < l.length + 1 then (4, p, l) else packF c d s most k (usym c s p).2.1 (l ++ [(usym c s p).2.2]))
    else if (usym c s p).2.2 = 256 then (0, (usym c s p).2.1, l)
    else if (ulen s (usym c s p).2.1 (usym c s p).2.2).1 ≠ 0 then ((ulen s (usym c s p).2.1 (usym c s p).2.2).1, p, l)
    else if (udist d s (ulen s (usym c s p).2.1 (usym c s p).2.2).2.1).1 ≠ 0 then ((udist d s (ulen s (usym c s p).2.1 (usym c s p).2.2).2.1).1, p, l)
    else if (repF 0 l most (ulen s (usym c s p).2.1 (usym c s p).2.2).2.2 (udist d s (ulen s (usym c s p).2.1 (usym c s p).2.2).2.1).2.2).1 ≠ 0 then
      ((repF 0 l most (ulen s (usym c s p).2.1 (usym c s p).2.2).2.2 (udist d s (ulen s (usym c s p).2.1 (usym c s p).2.2).2.1).2.2).1, p, l)
    else packF c d s most k (udist d s (ulen s (usym c s p).2.1 (usym c s p).2.2).2.1).2.1 (repF 0 l most (ulen s (usym c s p).2.1 (usym c s p).2.2).2.2 (udist d s (ulen s (usym c s p).2.1 (usym c s p).2.2).2.1).2.2).2.2
theorem packF_fuel (c d : List Nat) (s : ByteArray) (most : Nat) (hc : c.length ≤ 288) (hd : d.length ≤ 288) : ∀ (k k' p : Nat) (l : List Nat), p ≤ 8 * s.size → 8 * s.size + 1 - p ≤ k → 8 * s.size + 1 - p ≤ k' → packF c d s most k p l = packF c d s most k' p l
  | 0, k', p, l, h, h1, h2 => by omega
  | k + 1, 0, p, l, h, h1, h2 => by omega
  | k + 1, k' + 1, p, l, h, h1, h2 => by
    unfold packF
    by_cases a1 : (usym c s p).1 ≠ 0
    · rw [if_pos a1, if_pos a1]
    · rw [if_neg a1, if_neg a1]
      obtain ⟨b1, b2, b3⟩ := usym_ok' hc (by omega : (usym c s p).1 = 0)
      have b3 := b3 h
      obtain ⟨⟨e1, p1, y⟩, hu⟩ : ∃ r, usym c s p = r := ⟨_, rfl⟩
      rw [hu] at b1 b2 b3 ⊢
      by_cases a2 : y < 256
      · rw [if_pos a2, if_pos a2]
        by_cases a3 : most < l.length + 1
        · rw [if_pos a3, if_pos a3]
        · rw [if_neg a3, if_neg a3]
          have b2 : p < p1 := b2
          exact packF_fuel c d s most hc hd k k' _ _ b3 (by show 8 * s.size + 1 - p1 ≤ k; omega) (by show 8 * s.size + 1 - p1 ≤ k'; omega)
      · rw [if_neg a2, if_neg a2]
        by_cases a4 : y = 256
        · rw [if_pos a4, if_pos a4]
        · rw [if_neg a4, if_neg a4]
          have b2 : p < p1 := b2
          have b3 : p1 ≤ 8 * s.size := b3
          show (if (ulen s p1 y).1 ≠ 0 then _ else _) = (if (ulen s p1 y).1 ≠ 0 then _ else _)
          by_cases a5 : (ulen s p1 y).1 ≠ 0
          · rw [if_pos a5, if_pos a5]
          · rw [if_neg a5, if_neg a5]
            obtain ⟨c1, c2⟩ := ulen_mono (s := s) (p := p1) (y := y) (by omega)
            have c2 := c2 b3
            by_cases a6 : (udist d s (ulen s p1 y).2.1).1 ≠ 0
            · rw [if_pos a6, if_pos a6]
            · rw [if_neg a6, if_neg a6]
              obtain ⟨d1, d2⟩ := udist_mono (s := s) (p := (ulen s p1 y).2.1) hd (by omega)
              have d2 := d2 c2
              split
              · rfl
              · exact packF_fuel c d s most hc hd k k' _ _ d2 (by show 8 * s.size + 1 - (udist d s (ulen s p1 y).2.1).2.1 ≤ k; omega) (by show 8 * s.size + 1 - (udist d s (ulen s p1 y).2.1).2.1 ≤ k'; omega)
def placeOf (w : World) (b : Nat) : Nat := match w.cell? ⟨b, 2, none⟩ with | some v => (intOf v).toNat | none => 0
end Go.Proofs.YtlbadjfcffoakaaDoor
namespace Go.Proofs.YtlbadjfcffoakaaDoor
open Go.RowKit
set_option linter.unusedVariables false
set_option maxRecDepth 20000

theorem repF_at (p : Nat) (l : List Nat) (most n d : Nat) : repF p l most n d = ((repF 0 l most n d).1, p, (repF 0 l most n d).2.2) := by
  unfold repF
  by_cases h1 : l.length < d
  · rw [if_pos h1, if_pos h1]
  · rw [if_neg h1, if_neg h1]
    by_cases h2 : most < l.length + n
    · rw [if_pos h2, if_pos h2]
    · rw [if_neg h2, if_neg h2]
section
variable {c d : List Nat} {s : ByteArray} {most p : Nat} {l : List Nat} {er p1 y e2 p2 n e3 p3 x e4 p4 : Nat} {m : List Nat}
theorem pack_open (hp : p ≤ 8 * s.size) : ∃ k, 8 * s.size + 1 - p = k + 1 := ⟨8 * s.size - p, by omega⟩
theorem pack_bad (hp : p ≤ 8 * s.size) (hu : usym c s p = (er, p1, y)) (h : er ≠ 0) : packF c d s most (8 * s.size + 1 - p) p l = (er, p, l) := by
  obtain ⟨k, hk⟩ := pack_open hp
  rw [hk]; unfold packF; rw [hu, if_pos h]
theorem pack_full (hp : p ≤ 8 * s.size) (hu : usym c s p = (0, p1, y)) (hy : y < 256) (h : most < l.length + 1) : packF c d s most (8 * s.size + 1 - p) p l = (4, p, l) := by
  obtain ⟨k, hk⟩ := pack_open hp
  rw [hk]; unfold packF; rw [hu, if_neg (by simp), if_pos hy, if_pos h]
theorem pack_byte (hp : p ≤ 8 * s.size) (hc : c.length ≤ 288) (hd : d.length ≤ 288) (hu : usym c s p = (0, p1, y)) (hy : y < 256) (h : ¬ most < l.length + 1) : packF c d s most (8 * s.size + 1 - p) p l = packF c d s most (8 * s.size + 1 - p1) p1 (l ++ [y]) := by
  have hb := usym_ok' (s := s) (p := p) hc (by rw [hu])
  rw [hu] at hb
  obtain ⟨_, b2, b3⟩ := hb
  have b2 : p < p1 := b2
  have b3 : p1 ≤ 8 * s.size := b3 hp
  obtain ⟨k, hk⟩ := pack_open hp
  rw [hk]; conv => lhs; unfold packF
  rw [hu, if_neg (by simp), if_pos hy, if_neg h]
  exact packF_fuel c d s most hc hd k _ p1 _ b3 (by omega) (by omega)
theorem pack_end (hp : p ≤ 8 * s.size) (hu : usym c s p = (0, p1, 256)) : packF c d s most (8 * s.size + 1 - p) p l = (0, p1, l) := by
  obtain ⟨k, hk⟩ := pack_open hp
  rw [hk]; unfold packF; rw [hu, if_neg (by simp), if_neg (by simp), if_pos rfl]
theorem pack_len (hp : p ≤ 8 * s.size) (hu : usym c s p = (0, p1, y)) (hy : 256 < y) (hn : ulen s p1 y = (e2, p2, n)) (h : e2 ≠ 0) : packF c d s most (8 * s.size + 1 - p) p l = (e2, p, l) := by
  obtain ⟨k, hk⟩ := pack_open hp
  rw [hk]; unfold packF; rw [hu, if_neg (by simp), if_neg (by show ¬ y < 256; omega), if_neg (by show ¬ y = 256; omega), hn, if_pos h]
theorem pack_dist (hp : p ≤ 8 * s.size) (hu : usym c s p = (0, p1, y)) (hy : 256 < y) (hn : ulen s p1 y = (0, p2, n)) (ht : udist d s p2 = (e3, p3, x)) (h : e3 ≠ 0) : packF c d s most (8 * s.size + 1 - p) p l = (e3, p, l) := by
  obtain ⟨k, hk⟩ := pack_open hp
  rw [hk]; unfold packF; rw [hu, if_neg (by simp), if_neg (by show ¬ y < 256; omega), if_neg (by show ¬ y = 256; omega), hn, if_neg (by simp), ht, if_pos h]
theorem pack_rep (hp : p ≤ 8 * s.size) (hu : usym c s p = (0, p1, y)) (hy : 256 < y) (hn : ulen s p1 y = (0, p2, n)) (ht : udist d s p2 = (0, p3, x)) (hr : repF p3 l most n x = (e4, p4, m)) (h : e4 ≠ 0) : packF c d s most (8 * s.size + 1 - p) p l = (e4, p, l) := by
  obtain ⟨k, hk⟩ := pack_open hp
  rw [repF_at] at hr
  have hr1 : (repF 0 l most n x).1 = e4 := congrArg Prod.fst hr
  rw [hk]; unfold packF; rw [hu, if_neg (by simp), if_neg (by show ¬ y < 256; omega), if_neg (by show ¬ y = 256; omega), hn, if_neg (by simp), ht, if_neg (by simp)]
  show (if (repF 0 l most n x).1 ≠ 0 then _ else _) = _
  rw [if_pos (by rw [hr1]; exact h), ← hr1]
theorem pack_copy (hp : p ≤ 8 * s.size) (hc : c.length ≤ 288) (hd : d.length ≤ 288) (hu : usym c s p = (0, p1, y)) (hy : 256 < y) (hn : ulen s p1 y = (0, p2, n)) (ht : udist d s p2 = (0, p3, x)) (hr : repF p3 l most n x = (0, p4, m)) : packF c d s most (8 * s.size + 1 - p) p l = packF c d s most (8 * s.size + 1 - p3) p3 m := by
  have hb := usym_ok' (s := s) (p := p) hc (by rw [hu])
  rw [hu] at hb
  obtain ⟨_, b2, b3⟩ := hb
  have b2 : p < p1 := b2
  have b3 : p1 ≤ 8 * s.size := b3 hp
  have hb := ulen_mono (s := s) (p := p1) (y := y) (by rw [hn])
  rw [hn] at hb
  obtain ⟨b4, b5⟩ := hb
  have b4 : p1 ≤ p2 := b4
  have b5 : p2 ≤ 8 * s.size := b5 b3
  have hb := udist_mono (s := s) (p := p2) hd (by rw [ht])
  rw [ht] at hb
  obtain ⟨b6, b7⟩ := hb
  have b6 : p2 ≤ p3 := b6
  have b7 : p3 ≤ 8 * s.size := b7 b5
  obtain ⟨k, hk⟩ := pack_open hp
  rw [repF_at] at hr
  have hr1 : (repF 0 l most n x).1 = 0 := congrArg Prod.fst hr
  have hr2 : (repF 0 l most n x).2.2 = m := congrArg (fun r => r.2.2) hr
  rw [hk]; conv => lhs; unfold packF
  rw [hu, if_neg (by simp), if_neg (by show ¬ y < 256; omega), if_neg (by show ¬ y = 256; omega), hn, if_neg (by simp), ht, if_neg (by simp)]
  show (if (repF 0 l most n x).1 ≠ 0 then _ else packF c d s most k p3 (repF 0 l most n x).2.2) = _
  rw [if_neg (by rw [hr1]; simp), hr2]
  exact packF_fuel c d s most hc hd k _ p3 _ b7 (by omega) (by omega)
end
def KX (K : Nat → Prop) (lo hi : Nat) : Nat → Prop := fun k => K k ∨ (lo ≤ k ∧ k < hi)
theorem UF.below {w w' : World} {K : Nat → Prop} (hb : Below w.heap.size w w') (hk : ∀ k, K k → k < w.heap.size) : UF K w w' := ⟨hb.os, hb.tape, hb.output, hb.size, fun k a => hb.block k (hk k a)⟩
theorem KX.in {K : Nat → Prop} {lo hi : Nat} : ∀ k, K k → KX K lo hi k := fun k h => .inl h
end Go.Proofs.YtlbadjfcffoakaaDoor
namespace Go.Proofs.YtlbadjfcffoakaaDoor
open Go.RowKit
set_option linter.unusedVariables false
set_option maxRecDepth 20000

def fixL (i : Nat) : Nat := if i < 144 then 8 else if i < 256 then 9 else if i < 280 then 7 else 8
def upTo (f : Nat → Nat) (k i : Nat) : Nat := if i < k then f i else 0
theorem LB.next {w : World} {L n k x : Nat} {f : Nat → Nat} (h : LB w L n (upTo f k)) (hx : f k = x) : LB (w.setCell ⟨L, k, none⟩ (.int .i64 (x : Nat))) L n (upTo f (k + 1)) :=
  (h.set k x).congr (fun i _ => by
    unfold upTo
    by_cases e : i = k
    · subst e; rw [if_pos rfl, if_pos (by omega), hx]
    · rw [if_neg e]
      by_cases c : i < k
      · rw [if_pos c, if_pos (by omega)]
      · rw [if_neg c, if_neg (by omega)])
theorem LB.zero {w : World} {L n : Nat} {f : Nat → Nat} (h : LB w L n (fun _ => 0)) : LB w L n (upTo f 0) := h.congr (fun i _ => by unfold upTo; rw [if_neg (by omega)])
theorem LB.all {w : World} {L n : Nat} {f : Nat → Nat} (h : LB w L n (upTo f n)) : LB w L n f := h.congr (fun i hi => by unfold upTo; rw [if_pos hi])
theorem LB.row {w : World} {L n : Nat} {f : Nat → Nat} (h : LB w L n f) : IRow w (some ⟨L, 0, none⟩) ((List.range n).map fun i => (f i : Int)) := by
  refine .inr ⟨L, 0, rfl, lt_heap h, fun i hi => ?_⟩
  have hi' : i < n := by simpa using hi
  rw [Nat.zero_add, (h.cell hi').1]
  simp [hi']
theorem nsOf_range (f : Nat → Nat) (n : Nat) : nsOf ((List.range n).map fun i => (f i : Int)) = (List.range n).map f := by
  unfold nsOf
  rw [List.map_map]
  exact List.map_congr_left (fun i _ => by simp)
def fixS : List Nat := (List.range 288).map fixL
def fixD : List Nat := (List.range 32).map fun _ => 5
set_option maxRecDepth 20000 in
theorem fixS_code : isCode0 ((List.range 288).map fun i => (fixL i : Int)) := by
  unfold isCode0
  rw [nsOf_range]
  decide +kernel
set_option maxRecDepth 20000 in
theorem fixD_code : isCode0 ((List.range 32).map fun i => (((fun _ => 5 : Nat → Nat) i : Nat) : Int)) := by
  unfold isCode0
  rw [nsOf_range]
  decide +kernel
end Go.Proofs.YtlbadjfcffoakaaDoor
namespace Go.Proofs.YtlbadjfcffoakaaDoor
open Go.RowKit
set_option linter.unusedVariables false
set_option maxRecDepth 20000

def Fix (w : World) (K : Nat → Prop) (f1 f2 : Value) : Prop := (f1 = .pointer none ∧ f2 = .pointer none) ∨ ∃ t1 t2, f1 = .pointer (some ⟨t1, 0, none⟩) ∧ f2 = .pointer (some ⟨t2, 0, none⟩) ∧ TabK w K t1 fixS ∧ TabK w K t2 fixD
end Go.Proofs.YtlbadjfcffoakaaDoor
namespace Go.Proofs.YtlbadjfcffoakaaDoor
open Go.RowKit
set_option linter.unusedVariables false
set_option maxRecDepth 20000

theorem Fix.keep {w w' : World} {K K' : Nat → Prop} {f1 f2 : Value} (h : Fix w K f1 f2) (hf : UF K w w') (hk : ∀ k, K k → K' k) : Fix w' K' f1 f2 := by
  rcases h with h | ⟨t1, t2, h1, h2, h3, h4⟩
  · exact .inl h
  · exact .inr ⟨t1, t2, h1, h2, (h3.keep hf).more hk, (h4.keep hf).more hk⟩
def blockF (told : Nat → Nat × Nat × List Nat × List Nat) (s : ByteArray) (most p : Nat) (l : List Nat) : Nat × Nat × List Nat :=
  if 8 * s.size < p + 1 then (5, p, l) else if 8 * s.size < p + 3 then (5, p, l)
  else if num s (p + 1) 2 = 0 then storedF s (p + 3) l most
  else if num s (p + 1) 2 = 1 then packF fixS fixD s most (8 * s.size + 1 - (p + 3)) (p + 3) l
  else if num s (p + 1) 2 = 2 then (if (told (p + 3)).1 ≠ 0 then ((told (p + 3)).1, p, l) else packF (told (p + 3)).2.2.1 (told (p + 3)).2.2.2 s most (8 * s.size + 1 - (told (p + 3)).2.1) (told (p + 3)).2.1 l)
  else (40, p, l)
end Go.Proofs.YtlbadjfcffoakaaDoor
namespace Go.Proofs.YtlbadjfcffoakaaDoor
open Go.RowKit
set_option linter.unusedVariables false
set_option maxRecDepth 20000

theorem packF_mono (c d : List Nat) (s : ByteArray) (most : Nat) (hc : c.length ≤ 288) (hd : d.length ≤ 288) : ∀ (k p : Nat) (l : List Nat), p ≤ 8 * s.size → l.length ≤ most → (packF c d s most k p l).1 = 0 → p ≤ (packF c d s most k p l).2.1 ∧ (packF c d s most k p l).2.1 ≤ 8 * s.size ∧ (packF c d s most k p l).2.2.length ≤ most
  | 0, p, l, hp, hl, h => by simp [packF] at h
  | k + 1, p, l, hp, hl, h => by
    unfold packF at h ⊢
    by_cases a1 : (usym c s p).1 ≠ 0
    · rw [if_pos a1] at h; exact (a1 h).elim
    · rw [if_neg a1] at h ⊢
      obtain ⟨b1, b2, b3⟩ := usym_ok' hc (by omega : (usym c s p).1 = 0)
      have b3 := b3 hp
      obtain ⟨⟨e1, p1, y⟩, hu⟩ : ∃ r, usym c s p = r := ⟨_, rfl⟩
      rw [hu] at b1 b2 b3 h ⊢
      have b2 : p < p1 := b2
      have b3 : p1 ≤ 8 * s.size := b3
      by_cases a2 : y < 256
      · rw [if_pos a2] at h ⊢
        by_cases a3 : most < l.length + 1
        · rw [if_pos a3] at h; simp at h
        · rw [if_neg a3] at h ⊢
          obtain ⟨g1, g2, g3⟩ := packF_mono c d s most hc hd k p1 (l ++ [y]) b3 (by rw [List.length_append, List.length_singleton]; omega) h
          exact ⟨Nat.le_trans (Nat.le_of_lt b2) g1, g2, g3⟩
      · rw [if_neg a2] at h ⊢
        by_cases a4 : y = 256
        · rw [if_pos a4]; exact ⟨Nat.le_of_lt b2, b3, hl⟩
        · rw [if_neg a4] at h ⊢
          have hum := ulen_mono (s := s) (p := p1) (y := y)
          obtain ⟨⟨e2, p2, n⟩, hn⟩ : ∃ r, ulen s p1 y = r := ⟨_, rfl⟩
          have hn' : ulen s (e1, p1, y).2.1 (e1, p1, y).2.2 = (e2, p2, n) := hn
          rw [hn'] at h ⊢
          rw [hn] at hum
          by_cases a5 : e2 ≠ 0
          · rw [if_pos a5] at h; exact (a5 h).elim
          · rw [if_neg a5] at h ⊢
            obtain ⟨c1, c2⟩ := hum (by show e2 = 0; omega)
            have c1 : p1 ≤ p2 := c1
            have c2 : p2 ≤ 8 * s.size := c2 b3
            have hdm := udist_mono (s := s) (p := p2) hd
            obtain ⟨⟨e3, p3, x⟩, ht⟩ : ∃ r, udist d s p2 = r := ⟨_, rfl⟩
            have ht' : udist d s (e2, p2, n).2.1 = (e3, p3, x) := ht
            rw [ht'] at h ⊢
            rw [ht] at hdm
            by_cases a6 : e3 ≠ 0
            · rw [if_pos a6] at h; exact (a6 h).elim
            · rw [if_neg a6] at h ⊢
              obtain ⟨d1, d2⟩ := hdm (by show e3 = 0; omega)
              have d1 : p2 ≤ p3 := d1
              have d2 : p3 ≤ 8 * s.size := d2 c2
              have hrl := repF_len (p := 0) (l := l) (most := most) (n := n) (d := x)
              obtain ⟨⟨e4, p4, m⟩, hr⟩ : ∃ r, repF 0 l most n x = r := ⟨_, rfl⟩
              have hr' : repF 0 l most (e2, p2, n).2.2 (e3, p3, x).2.2 = (e4, p4, m) := hr
              rw [hr'] at h ⊢
              rw [hr] at hrl
              by_cases a7 : e4 ≠ 0
              · rw [if_pos a7] at h; exact (a7 h).elim
              · rw [if_neg a7] at h ⊢
                obtain ⟨g1, g2, g3⟩ := packF_mono c d s most hc hd k p3 m d2 (hrl (by show e4 = 0; omega)).1 h
                exact ⟨by show p ≤ _; exact Nat.le_trans (by omega) g1, g2, g3⟩
theorem storedF_mono {s : ByteArray} {p most : Nat} {l : List Nat} (h : (storedF s p l most).1 = 0) : p ≤ (storedF s p l most).2.1 ∧ (storedF s p l most).2.1 ≤ 8 * s.size ∧ (storedF s p l most).2.2.length ≤ most := by
  unfold storedF at h ⊢
  simp only at h ⊢
  obtain ⟨q, hq⟩ : ∃ q, (p + 7) / 8 * 8 = q := ⟨_, rfl⟩
  rw [hq] at h ⊢
  by_cases a1 : 8 * s.size < q + 16
  · rw [if_pos a1] at h; simp at h
  · rw [if_neg a1] at h ⊢
    by_cases a2 : 8 * s.size < q + 32
    · rw [if_pos a2] at h; simp at h
    · rw [if_neg a2] at h ⊢
      split at h
      · simp at h
      · rename_i a3
        rw [if_neg a3]
        split at h
        · simp at h
        · rename_i a4
          rw [if_neg a4]
          split at h
          · simp at h
          · rename_i a5
            rw [if_neg a5]
            refine ⟨by show p ≤ q + 32 + 8 * num s q 16; omega, by show q + 32 + 8 * num s q 16 ≤ 8 * s.size; omega, ?_⟩
            show (l ++ _).length ≤ most
            rw [List.length_append, List.length_map]
            have : (s.extract ((q + 32) / 8) ((q + 32) / 8 + num s q 16)).data.toList.length = num s q 16 := by
              show (s.extract ((q + 32) / 8) ((q + 32) / 8 + num s q 16)).size = _
              rw [ByteArray.size_extract]; omega
            rw [this]; omega
theorem fixS_len : fixS.length = 288 := by simp [fixS]
theorem fixD_len : fixD.length = 32 := by simp [fixD]
def ToldOK (told : Nat → Nat × Nat × List Nat × List Nat) (s : ByteArray) : Prop := ∀ p, p ≤ 8 * s.size → (told p).1 = 0 → p ≤ (told p).2.1 ∧ (told p).2.1 ≤ 8 * s.size ∧ (told p).2.2.1.length ≤ 288 ∧ (told p).2.2.2.length ≤ 288
theorem blockF_mono {told : Nat → Nat × Nat × List Nat × List Nat} {s : ByteArray} (ht : ToldOK told s) {most p : Nat} {l : List Nat} (hl : l.length ≤ most) (h : (blockF told s most p l).1 = 0) : p < (blockF told s most p l).2.1 ∧ (blockF told s most p l).2.1 ≤ 8 * s.size ∧ (blockF told s most p l).2.2.length ≤ most := by
  unfold blockF at h ⊢
  by_cases a1 : 8 * s.size < p + 1
  · rw [if_pos a1] at h; simp at h
  · rw [if_neg a1] at h ⊢
    by_cases a2 : 8 * s.size < p + 3
    · rw [if_pos a2] at h; simp at h
    · rw [if_neg a2] at h ⊢
      by_cases a3 : num s (p + 1) 2 = 0
      · rw [if_pos a3] at h ⊢
        obtain ⟨b1, b2, b3⟩ := storedF_mono h
        exact ⟨by omega, b2, b3⟩
      · rw [if_neg a3] at h ⊢
        by_cases a4 : num s (p + 1) 2 = 1
        · rw [if_pos a4] at h ⊢
          obtain ⟨b1, b2, b3⟩ := packF_mono fixS fixD s most (by rw [fixS_len]; omega) (by rw [fixD_len]; omega) _ (p + 3) l (by omega) hl h
          exact ⟨by omega, b2, b3⟩
        · rw [if_neg a4] at h ⊢
          by_cases a5 : num s (p + 1) 2 = 2
          · rw [if_pos a5] at h ⊢
            by_cases a6 : (told (p + 3)).1 ≠ 0
            · rw [if_pos a6] at h; exact (a6 h).elim
            · rw [if_neg a6] at h ⊢
              obtain ⟨c1, c2, c3, c4⟩ := ht (p + 3) (by omega) (by omega)
              obtain ⟨b1, b2, b3⟩ := packF_mono _ _ s most c3 c4 _ (told (p + 3)).2.1 l c2 hl h
              exact ⟨by omega, b2, b3⟩
          · rw [if_neg a5] at h; simp at h
def blocksF (told : Nat → Nat × Nat × List Nat × List Nat) (s : ByteArray) (most : Nat) : Nat → Nat → List Nat → Nat × Nat × List Nat
  | 0, p, l => (99, p, l)
  | k + 1, p, l => if (blockF told s most p l).1 ≠ 0 then ((blockF told s most p l).1, p, l) else if num s p 1 = 1 then (0, (blockF told s most p l).2.1, (blockF told s most p l).2.2) else blocksF told s most k (blockF told s most p l).2.1 (blockF told s most p l).2.2
theorem blocksF_fuel {told : Nat → Nat × Nat × List Nat × List Nat} {s : ByteArray} (ht : ToldOK told s) (most : Nat) : ∀ (k k' p : Nat) (l : List Nat), l.length ≤ most → p ≤ 8 * s.size → 8 * s.size + 1 - p ≤ k → 8 * s.size + 1 - p ≤ k' → blocksF told s most k p l = blocksF told s most k' p l
  | 0, k', p, l, hl, hp, h1, h2 => by omega
  | k + 1, 0, p, l, hl, hp, h1, h2 => by omega
  | k + 1, k' + 1, p, l, hl, hp, h1, h2 => by
    unfold blocksF
    by_cases a1 : (blockF told s most p l).1 ≠ 0
    · rw [if_pos a1, if_pos a1]
    · rw [if_neg a1, if_neg a1]
      by_cases a2 : num s p 1 = 1
      · rw [if_pos a2, if_pos a2]
      · rw [if_neg a2, if_neg a2]
        obtain ⟨b1, b2, b3⟩ := blockF_mono ht hl (by omega : (blockF told s most p l).1 = 0)
        exact blocksF_fuel ht most k k' _ _ b3 b2 (by omega) (by omega)
section
variable {told : Nat → Nat × Nat × List Nat × List Nat} {s : ByteArray} {most p : Nat} {l : List Nat}
theorem blocks_bad (hp : p ≤ 8 * s.size) (h : (blockF told s most p l).1 ≠ 0) : blocksF told s most (8 * s.size + 1 - p) p l = ((blockF told s most p l).1, p, l) := by
  obtain ⟨k, hk⟩ := pack_open hp
  rw [hk]; unfold blocksF; rw [if_pos h]
theorem blocks_end (hp : p ≤ 8 * s.size) (h : (blockF told s most p l).1 = 0) (h1 : num s p 1 = 1) : blocksF told s most (8 * s.size + 1 - p) p l = (0, (blockF told s most p l).2.1, (blockF told s most p l).2.2) := by
  obtain ⟨k, hk⟩ := pack_open hp
  rw [hk]; unfold blocksF; rw [if_neg (by omega), if_pos h1]
theorem blocks_more (ht : ToldOK told s) (hl : l.length ≤ most) (hp : p ≤ 8 * s.size) (h : (blockF told s most p l).1 = 0) (h1 : num s p 1 ≠ 1) : blocksF told s most (8 * s.size + 1 - p) p l = blocksF told s most (8 * s.size + 1 - (blockF told s most p l).2.1) (blockF told s most p l).2.1 (blockF told s most p l).2.2 := by
  obtain ⟨k, hk⟩ := pack_open hp
  obtain ⟨b1, b2, b3⟩ := blockF_mono ht hl h
  rw [hk]; conv => lhs; unfold blocksF
  rw [if_neg (by omega), if_neg h1]
  exact blocksF_fuel ht most k _ _ _ b3 b2 (by omega) (by omega)
end
end Go.Proofs.YtlbadjfcffoakaaDoor
namespace Go.Proofs.YtlbadjfcffoakaaDoor
open Go.RowKit
set_option linter.unusedVariables false
set_option maxRecDepth 20000

def Bytes (l : List Nat) : Prop := ∀ x ∈ l, x < 256
theorem copyL_bytes {d : Nat} : ∀ (n : Nat) {l : List Nat}, Bytes l → Bytes (copyL d n l)
  | 0, l, h => h
  | n + 1, l, h => copyL_bytes n (fun x hx => by
    rcases List.mem_append.1 hx with h1 | h1
    · exact h x h1
    · rw [List.mem_singleton.1 h1, List.getD_eq_getElem?_getD]
      by_cases hi : l.length - d < l.length
      · rw [List.getElem?_eq_getElem hi]; exact h _ (List.getElem_mem hi)
      · rw [List.getElem?_eq_none (by omega)]; simp)
theorem repF_bytes {p : Nat} {l : List Nat} {most n d : Nat} (h : Bytes l) : Bytes (repF p l most n d).2.2 := by
  unfold repF
  split
  · exact h
  · split
    · exact h
    · exact copyL_bytes n h
theorem packF_bytes (c d : List Nat) (s : ByteArray) (most : Nat) : ∀ (k p : Nat) (l : List Nat), Bytes l → Bytes (packF c d s most k p l).2.2
  | 0, p, l, h => h
  | k + 1, p, l, h => by
    unfold packF
    split
    · exact h
    · split
      · rename_i hy
        split
        · exact h
        · exact packF_bytes c d s most k _ _ (fun x hx => by
            rcases List.mem_append.1 hx with h1 | h1
            · exact h x h1
            · rw [List.mem_singleton.1 h1]; exact hy)
      · split
        · exact h
        · split
          · exact h
          · split
            · exact h
            · split
              · exact h
              · exact packF_bytes c d s most k _ _ (repF_bytes h)
theorem storedF_bytes {s : ByteArray} {p : Nat} {l : List Nat} {most : Nat} (h : Bytes l) : Bytes (storedF s p l most).2.2 := by
  unfold storedF
  simp only
  split
  · exact h
  · split
    · exact h
    · split
      · exact h
      · split
        · exact h
        · split
          · exact h
          · intro x hx
            rcases List.mem_append.1 hx with h1 | h1
            · exact h x h1
            · obtain ⟨y, _, rfl⟩ := List.mem_map.1 h1
              exact UInt8.toNat_lt y
theorem blockF_bytes {told : Nat → Nat × Nat × List Nat × List Nat} {s : ByteArray} {most p : Nat} {l : List Nat} (h : Bytes l) : Bytes (blockF told s most p l).2.2 := by
  unfold blockF
  split
  · exact h
  · split
    · exact h
    · split
      · exact storedF_bytes h
      · split
        · exact packF_bytes _ _ _ _ _ _ _ h
        · split
          · split
            · exact h
            · exact packF_bytes _ _ _ _ _ _ _ h
          · exact h
theorem blocksF_bytes {told : Nat → Nat × Nat × List Nat × List Nat} {s : ByteArray} {most : Nat} : ∀ (k p : Nat) (l : List Nat), Bytes l → Bytes (blocksF told s most k p l).2.2
  | 0, p, l, h => h
  | k + 1, p, l, h => by
    unfold blocksF
    split
    · exact h
    · split
      · exact blockF_bytes h
      · exact blocksF_bytes k _ _ (blockF_bytes h)
def infR (r : Nat × Nat × List Nat) : Value := if r.1 = 0 then .tuple #[.string (toBA r.2.2), .int .i64 (((r.2.1 + 7) / 8 : Nat) : Int), .int .i64 0] else .tuple #[.string ⟨#[]⟩, .int .i64 0, .int .i64 ((r.1 : Nat) : Int)]
end Go.Proofs.YtlbadjfcffoakaaDoor
namespace Go.Proofs.YtlbadjfcffoakaaDoor
open Go.RowKit
set_option linter.unusedVariables false
set_option maxRecDepth 20000

def wholeB (xs : List Int) : Bool := may xs && decide (ew (nsOf xs) 15 = 32768)
def sumTo (c : Nat → Nat) : Nat → Nat
  | 0 => 0
  | k + 1 => sumTo c k + c k
theorem sumTo_le (c : Nat → Nat) (hc : ∀ i, c i ≤ 15) : ∀ k, sumTo c k ≤ 15 * k
  | 0 => Nat.le_refl _
  | k + 1 => by have := sumTo_le c hc k; have := hc k; simp only [sumTo]; omega
def runF (ns : List Nat) (s : ByteArray) (p : Nat) (L : List Nat) : Nat × Nat × Nat × Nat :=
  if (usym ns s p).1 ≠ 0 then ((usym ns s p).1, p, 0, 0)
  else if (usym ns s p).2.2 = 16 then (if L = [] then (40, p, 0, 0) else ((ub s (usym ns s p).2.1 2).1, (ub s (usym ns s p).2.1 2).2.1, L.getLastD 0, 3 + (ub s (usym ns s p).2.1 2).2.2))
  else if (usym ns s p).2.2 = 17 then ((ub s (usym ns s p).2.1 3).1, (ub s (usym ns s p).2.1 3).2.1, 0, 3 + (ub s (usym ns s p).2.1 3).2.2)
  else if (usym ns s p).2.2 = 18 then ((ub s (usym ns s p).2.1 7).1, (ub s (usym ns s p).2.1 7).2.1, 0, 11 + (ub s (usym ns s p).2.1 7).2.2)
  else (0, (usym ns s p).2.1, (usym ns s p).2.2, 1)
theorem ub_lt (s : ByteArray) (p n : Nat) (hn : n ≤ 16) : (ub s p n).2.2 < 65536 := by
  unfold ub
  split
  · show 0 < 65536; omega
  · exact Nat.lt_of_lt_of_le (num_lt s p n) (Nat.pow_le_pow_right (by decide) hn)
end Go.Proofs.YtlbadjfcffoakaaDoor
namespace Go.Proofs.YtlbadjfcffoakaaDoor
open Go.RowKit
set_option linter.unusedVariables false
set_option maxRecDepth 20000

end Go.Proofs.YtlbadjfcffoakaaDoor
namespace Go.Proofs.YtlbadjfcffoakaaDoor
open Go.RowKit
set_option linter.unusedVariables false
set_option maxRecDepth 20000

theorem runF_ok {ns : List Nat} {s : ByteArray} {p : Nat} {L : List Nat} (hn : ns.length ≤ 288) (h : (runF ns s p L).1 = 0) : p ≤ (runF ns s p L).2.1 ∧ (p ≤ 8 * s.size → (runF ns s p L).2.1 ≤ 8 * s.size) ∧ 1 ≤ (runF ns s p L).2.2.2 ∧ (runF ns s p L).2.2.2 ≤ 70000 := by
  unfold runF at h ⊢
  by_cases h1 : (usym ns s p).1 ≠ 0
  · rw [if_pos h1] at h; exact (h1 h).elim
  · rw [if_neg h1] at h ⊢
    obtain ⟨_, b2, b3⟩ := usym_ok' hn (by omega : (usym ns s p).1 = 0)
    obtain ⟨⟨er, p1, y⟩, hu⟩ : ∃ r, usym ns s p = r := ⟨_, rfl⟩
    rw [hu] at h b2 b3 ⊢
    have b2 : p < p1 := b2
    have key : ∀ m c, m ≤ 16 → 1 ≤ c → c ≤ 11 → (ub s p1 m).1 = 0 → p ≤ (ub s p1 m).2.1 ∧ (p ≤ 8 * s.size → (ub s p1 m).2.1 ≤ 8 * s.size) ∧ 1 ≤ c + (ub s p1 m).2.2 ∧ c + (ub s p1 m).2.2 ≤ 70000 := fun m c hm hc1 hc2 h0 => by
      obtain ⟨c1, c2⟩ := ub_le h0
      have := ub_lt s p1 m hm
      exact ⟨by omega, fun hp => c2 (b3 hp), by omega, by omega⟩
    by_cases y16 : y = 16
    · rw [if_pos y16] at h ⊢
      by_cases hL : L = []
      · rw [if_pos hL] at h; simp at h
      · rw [if_neg hL] at h ⊢
        exact key 2 3 (by omega) (by omega) (by omega) h
    · rw [if_neg y16] at h ⊢
      by_cases y17 : y = 17
      · rw [if_pos y17] at h ⊢
        exact key 3 3 (by omega) (by omega) (by omega) h
      · rw [if_neg y17] at h ⊢
        by_cases y18 : y = 18
        · rw [if_pos y18] at h ⊢
          exact key 7 11 (by omega) (by omega) (by omega) h
        · rw [if_neg y18]
          exact ⟨Nat.le_of_lt b2, fun hp => b3 hp, by show 1 ≤ 1; omega, by show 1 ≤ 70000; omega⟩
def lensF (ns : List Nat) (s : ByteArray) (n : Nat) : Nat → Nat → List Nat → Nat × Nat × List Nat
  | 0, p, L => (99, p, L)
  | k + 1, p, L => if n ≤ L.length then (0, p, L) else if (runF ns s p L).1 ≠ 0 then ((runF ns s p L).1, p, L) else if n - L.length < (runF ns s p L).2.2.2 then (40, p, L) else lensF ns s n k (runF ns s p L).2.1 (L ++ List.replicate (runF ns s p L).2.2.2 (runF ns s p L).2.2.1)
theorem lensF_fuel (ns : List Nat) (s : ByteArray) (n : Nat) (hn : ns.length ≤ 288) : ∀ (k k' p : Nat) (L : List Nat), n + 1 - L.length ≤ k → n + 1 - L.length ≤ k' → L.length ≤ n → lensF ns s n k p L = lensF ns s n k' p L
  | 0, k', p, L, h1, h2, h3 => by omega
  | k + 1, 0, p, L, h1, h2, h3 => by omega
  | k + 1, k' + 1, p, L, h1, h2, h3 => by
    unfold lensF
    by_cases a1 : n ≤ L.length
    · rw [if_pos a1, if_pos a1]
    · rw [if_neg a1, if_neg a1]
      by_cases a2 : (runF ns s p L).1 ≠ 0
      · rw [if_pos a2, if_pos a2]
      · rw [if_neg a2, if_neg a2]
        obtain ⟨_, _, b3, _⟩ := runF_ok (s := s) (p := p) (L := L) hn (by omega)
        by_cases a3 : n - L.length < (runF ns s p L).2.2.2
        · rw [if_pos a3, if_pos a3]
        · rw [if_neg a3, if_neg a3]
          exact lensF_fuel ns s n hn k k' _ _ (by rw [List.length_append, List.length_replicate]; omega) (by rw [List.length_append, List.length_replicate]; omega) (by rw [List.length_append, List.length_replicate]; omega)
section
variable {ns : List Nat} {s : ByteArray} {n p : Nat} {L : List Nat} {er p1 x y : Nat}
theorem lens_end (h : L.length = n) : lensF ns s n (n + 1 - L.length) p L = (0, p, L) := by
  rw [show n + 1 - L.length = 0 + 1 by omega]; unfold lensF; rw [if_pos (by omega)]
theorem lens_bad (h : L.length < n) (hr : runF ns s p L = (er, p1, x, y)) (he : er ≠ 0) : lensF ns s n (n + 1 - L.length) p L = (er, p, L) := by
  rw [show n + 1 - L.length = (n - L.length) + 1 by omega]; unfold lensF; rw [if_neg (by omega), hr, if_pos he]
theorem lens_full (h : L.length < n) (hr : runF ns s p L = (0, p1, x, y)) (he : n - L.length < y) : lensF ns s n (n + 1 - L.length) p L = (40, p, L) := by
  rw [show n + 1 - L.length = (n - L.length) + 1 by omega]; unfold lensF; rw [if_neg (by omega), hr, if_neg (by simp), if_pos he]
theorem lens_more (hn : ns.length ≤ 288) (h : L.length < n) (hr : runF ns s p L = (0, p1, x, y)) (he : ¬ n - L.length < y) : lensF ns s n (n + 1 - L.length) p L = lensF ns s n (n + 1 - (L ++ List.replicate y x).length) p1 (L ++ List.replicate y x) := by
  have b := runF_ok (s := s) (p := p) (L := L) hn (by rw [hr])
  rw [hr] at b
  have b3 : 1 ≤ y := b.2.2.1
  have hl : (L ++ List.replicate y x).length = L.length + y := by rw [List.length_append, List.length_replicate]
  rw [show n + 1 - L.length = (n - L.length) + 1 by omega]; conv => lhs; unfold lensF
  rw [if_neg (by omega), hr, if_neg (by simp), if_neg he]
  show lensF ns s n (n - L.length) p1 (L ++ List.replicate y x) = _
  exact lensF_fuel ns s n hn _ _ _ _ (by omega) (by omega) (by omega)
end
end Go.Proofs.YtlbadjfcffoakaaDoor
namespace Go.Proofs.YtlbadjfcffoakaaDoor
open Go.RowKit
set_option linter.unusedVariables false
set_option maxRecDepth 20000

def sliceLen : Value → Nat
  | .slice _ n _ => n
  | _ => 0
theorem owned_form {w : World} {B : Nat} {E : TypeId} {V : Value} {n : Nat} {xs : List Value} (h : w.ownsRow B E 1 V n xs) : ∃ ao cp, V = .slice ao n cp := by
  rcases h.2 with ⟨e, h0⟩ | ⟨g, cp, cur, e, _⟩
  · exact ⟨none, 0, by rw [e, h0]⟩
  · exact ⟨_, _, e⟩
end Go.Proofs.YtlbadjfcffoakaaDoor
