/- Layer 18: what AuditTells' three calls of Keeps answer. -/
import Derived.Test.YtebfpffilepfaaaKr
namespace Go.Proofs.Ytebfpffilepfaaa
open Go.RowKit Go.Maps Go.Shelf
set_option linter.unusedVariables false
set_option maxRecDepth 20000

def keyA (i : Nat) : ByteArray := ⟨#[UInt8.ofNat (65 + i)]⟩
def recA (i : Nat) : Rec := ⟨i, keyA i, ⟨#[]⟩, false⟩
def bodyN (n : Nat) : List Rec := (List.range n).map recA
def lN (k n : Nat) : List Rec := ((List.range n).filter fun i => decide (i ≠ k)).map recA
theorem bodyN_succ (n : Nat) : bodyN (n + 1) = bodyN n ++ [recA n] := by simp [bodyN, List.range_succ]
theorem bodyN_length (n : Nat) : (bodyN n).length = n := by simp [bodyN]
theorem lN_same (k : Nat) : lN k (k + 1) = lN k k := by simp [lN, List.range_succ]
theorem lN_succ {k n : Nat} (h : n ≠ k) : lN k (n + 1) = lN k n ++ [recA n] := by simp [lN, List.range_succ, h]
theorem lN_length (k n : Nat) : (lN k n).length ≤ n := by
  unfold lN
  rw [List.length_map]
  have := List.length_filter_le (fun i => decide (i ≠ k)) (List.range n)
  simpa using this
theorem lN_below {k n : Nat} (h : n ≤ k) : lN k n = bodyN n := by
  unfold lN bodyN
  congr 1
  rw [List.filter_eq_self]
  intro i hi
  have := List.mem_range.1 hi
  exact decide_eq_true (by omega)
def tailN (k j : Nat) : List Rec := (List.range j).map fun i => recA (k + 1 + i)
theorem lN_split (k : Nat) : ∀ j, lN k (k + 1 + j) = bodyN k ++ tailN k j
  | 0 => by rw [Nat.add_zero, lN_same, lN_below (Nat.le_refl _)]; simp [tailN]
  | j + 1 => by
    rw [show k + 1 + (j + 1) = (k + 1 + j) + 1 by omega, lN_succ (by omega), lN_split k j, List.append_assoc]
    simp [tailN, List.range_succ]
theorem keyA_inj {i j : Nat} (hi : i < 100) (hj : j < 100) (h : keyA i = keyA j) : i = j := by
  have h1 : UInt8.ofNat (65 + i) = UInt8.ofNat (65 + j) := by
    unfold keyA at h
    have := congrArg ByteArray.data h
    simpa using this
  have h2 := congrArg UInt8.toNat h1
  simp at h2
  omega
theorem recA_ok {i : Nat} (h : i < 100) : (recA i).ok := ⟨show isInt ((i : Nat) : Int) from ⟨by omega, by omega⟩, by show (1 : Nat) ≤ _; omega, by show (0 : Nat) ≤ _; omega⟩
def duN (n : Nat) : List Due := (List.range n).map fun i => ⟨recA i, 1⟩
theorem duN_mem {n : Nat} {d : Due} (h : d ∈ duN n) : ∃ i, i < n ∧ d = ⟨recA i, 1⟩ := by
  simp only [duN, List.mem_map, List.mem_range] at h
  obtain ⟨i, hi, rfl⟩ := h
  exact ⟨i, hi, rfl⟩
theorem duN_up (n : Nat) : DUp (duN n) := by
  unfold DUp duN
  rw [List.pairwise_map]
  refine List.pairwise_lt_range.imp ?_
  intro i j h
  show ((i : Nat) : Int) < (j : Nat)
  omega
def akN (n : Nat) : Ak := ⟨1, 0, 0, 0, 0, (n : Nat)⟩
theorem duesOf_one (n : Nat) : duesOf [akN n] [⟨0, 0, bodyN n⟩] = duN n := by
  show oneD (akN n) (bodyN n) ++ [] = duN n
  rw [List.append_nil]
  unfold oneD duN
  apply List.ext_getElem
  · simp [bodyN]
  · intro i h1 h2
    have hi : i < n := by simpa using h2
    simp [bodyN, recA, akN]
theorem keep_all {n : Nat} (hn : n ≤ 34) {N : List Rec} (hN : ∀ r ∈ N, ∃ j, j < 100 ∧ r = recA j) : (duN n).filter (keepB N) = duN n := by
  rw [List.filter_eq_self]
  intro d hd
  obtain ⟨i, hi, rfl⟩ := duN_mem hd
  refine decide_eq_true ?_
  have hs := hiO_spec (keyA i) N
  show ¬ (hiO N (keyA i)).getD 0 > ((i : Nat) : Int)
  cases e : hiO N (keyA i) with
  | none => show ¬ (0 : Int) > _; omega
  | some o =>
    rw [e] at hs
    obtain ⟨⟨r, hr, hk, ho⟩, _⟩ := hs
    obtain ⟨j, hj, rfl⟩ := hN r hr
    have := keyA_inj hj (by omega) hk
    subst this
    show ¬ o > _
    have : ((j : Nat) : Int) = o := ho
    omega
theorem mem_lN {k n : Nat} {r : Rec} (h : r ∈ lN k n) : ∃ j, j < n ∧ j ≠ k ∧ r = recA j := by
  simp only [lN, List.mem_map, List.mem_filter, List.mem_range, decide_eq_true_eq] at h
  obtain ⟨j, ⟨h1, h2⟩, rfl⟩ := h
  exact ⟨j, h1, h2, rfl⟩
theorem lk_whole {k n : Nat} (hk1 : 1 ≤ k) (hk2 : k + 2 ≤ n) (hn : n ≤ 34) : Lk (duN n) ⟨2, 0, 0, 0, lN k n⟩ := by
  refine ⟨fun d hd => ?_, recA (n - 1), ?_, ⟨recA k, 1⟩, ?_, ?_, ?_, ?_⟩
  · obtain ⟨i, _, rfl⟩ := duN_mem hd
    show (1 : Int) < 2
    omega
  · have : n = (n - 1) + 1 := by omega
    show (lN k n).getLast? = _
    rw [this, lN_succ (by omega)]
    simp
  · exact List.mem_map.2 ⟨k, List.mem_range.2 (by omega), rfl⟩
  · show (0 : Int) ≤ ((k : Nat) : Int); omega
  · show ((k : Nat) : Int) ≤ ((n - 1 : Nat) : Int); omega
  · intro h
    obtain ⟨j, h1, h2, h3⟩ := mem_lN h
    have h4 : ((k : Nat) : Int) = (j : Nat) := congrArg Rec.off h3
    omega
theorem lk_rest {k n : Nat} (hk2 : k + 2 ≤ n) (hn : n ≤ 34) : ¬ Lk (duN n) ⟨2, 0, (k : Nat) + 1, 0, (lN k n).drop k⟩ := by
  rintro ⟨_, z, hz, d, hd, h1, h2, h3⟩
  obtain ⟨i, hi, rfl⟩ := duN_mem hd
  have h1' : ((k : Nat) : Int) + 1 ≤ ((i : Nat) : Int) := h1
  apply h3
  have e : n = k + 1 + (n - (k + 1)) := by omega
  show recA i ∈ (lN k n).drop k
  rw [e, lN_split]
  have hl : (bodyN k).length = k := bodyN_length k
  rw [List.drop_append_of_le_length (by omega), List.drop_eq_nil_of_le (by omega), List.nil_append]
  exact List.mem_map.2 ⟨i - (k + 1), List.mem_range.2 (by omega), by congr 1; omega⟩
theorem ain_one {w : World} {g n : Nat} {t : TypeId} (h : w.heap[g]? = some (.cells #[.int .i64 1, .int .i64 0, .int .i64 0, .int .i64 0, .int .i64 0, .int .i64 (n : Nat)] t (0, 0))) : AIn w (some ⟨g, 0, none⟩) [akN n] := by
  intro i x hx
  match i, hx with
  | 0, hx =>
    have e : akN n = x := by simpa using hx
    subst e
    obtain ⟨c0, c1, c2, c3, c4, c5⟩ := cells6 h
    exact ⟨g, 0, rfl, lt_of_block h, by simpa [akN] using c0, by simpa [akN] using c1, by simpa [akN] using c2, by simpa [akN] using c3, by simpa [akN] using c4, by simpa [akN] using c5⟩
  | i + 1, hx => simp at hx
theorem sin_one {w : World} {g c : Nat} {t : TypeId} {ra : Option Addr} {M : List Rec} (h : w.heap[g]? = some (.cells #[.int .i64 0, .int .i64 0, .slice ra M.length c] t (0, 0))) (hc : M.length ≤ c) (hr : RIn w ra M) : SInC w (some ⟨g, 0, none⟩) [⟨0, 0, M⟩] := by
  intro i x hx
  match i, hx with
  | 0, hx =>
    have e : (⟨0, 0, M⟩ : Sd) = x := by simpa using hx
    subst e
    obtain ⟨c0, c1, c2⟩ := cells3 h
    exact ⟨g, 0, ra, c, rfl, lt_of_block h, by simpa using c0, by simpa using c1, by simpa using c2, hc, hr⟩
  | i + 1, hx => simp at hx
theorem fin_one {w : World} {g c : Nat} {t : TypeId} {ra : Option Addr} {f : Fe} (h : w.heap[g]? = some (.cells #[.int .i64 f.step, .int .i64 f.node, .int .i64 f.from', .int .i64 f.err, .slice ra f.rec'.length c] t (0, 0))) (hr : RIn w ra f.rec') : FIn w (some ⟨g, 0, none⟩) [f] := by
  intro i x hx
  match i, hx with
  | 0, hx =>
    have e : f = x := by simpa using hx
    subst e
    obtain ⟨c0, c1, c2, c3, c4⟩ := cells5 h
    exact ⟨g, 0, ra, c, rfl, lt_of_block h, by simpa using c0, by simpa using c1, by simpa using c2, by simpa using c3, by simpa using c4, hr⟩
  | i + 1, hx => simp at hx
/-- A call of Keeps of the law's. -/
theorem tell_ok (n : Nat) (hn1 : 1 ≤ n) (hn : n ≤ 34) (a s : Option Addr) (ra : Option Addr) (c : Nat) (f : Fe) (w W : World) (hin : AIn w a [akN n]) (hsin : SInC w s [⟨0, 0, bodyN n⟩]) (hb : Below w.heap.size w W) (hri : RIn W ra f.rec') (hrs : ∀ r ∈ f.rec', ∃ j, j < 100 ∧ r = recA j) (hl : f.rec'.length ≤ 100) (he : f.err = 0) (hst : f.step = 1 ∨ f.step = 2) :
    Calls Try.prog 7 #[.slice a 1 1, .slice (some ⟨W.heap.size, 0, none⟩) 1 1, .slice s 1 1] (W.alloc (.cells #[.int .i64 f.step, .int .i64 f.node, .int .i64 f.from', .int .i64 f.err, .slice ra f.rec'.length c] 40)) fun e w' => KeepsE (duN n) [f] w e w' := by
  have hb2 := hb.trans ((below_a W (.cells #[.int .i64 f.step, .int .i64 f.node, .int .i64 f.from', .int .i64 f.err, .slice ra f.rec'.length c] 40)).mono hb.size)
  have hfin := fin_one (heap_alloc_new W (.cells #[.int .i64 f.step, .int .i64 f.node, .int .i64 f.from', .int .i64 f.err, .slice ra f.rec'.length c] 40)) (hri.bel (below_a W _))
  have hdo : ∀ d ∈ duN n, d.rec'.ok := fun d hd => by
    obtain ⟨i, hi, rfl⟩ := duN_mem hd
    exact recA_ok (by omega)
  have hro : ROk f.rec' := fun r hr => by
    obtain ⟨j, hj, rfl⟩ := hrs r hr
    exact recA_ok hj
  have h := keeps_ok a 1 [akN n] (some ⟨W.heap.size, 0, none⟩) 1 [f] s 1 [⟨0, 0, bodyN n⟩] (duN n) (duN n) _ (hin.below hb2 (Nat.le_refl _)) (fun x hx => by rw [List.mem_singleton] at hx; subst hx; exact ⟨⟨by show (_ : Int) ≤ 0; omega, by show (0 : Int) ≤ _; omega⟩, ⟨by show (_ : Int) ≤ 0; omega, by show (0 : Int) ≤ _; omega⟩⟩)
    (fun x hx => by rw [List.mem_singleton] at hx; subst hx; exact (good_iff _).2 ⟨rfl, show (0 : Int) ≤ 0 by omega, show (0 : Int) ≤ 1099511627776 by omega, show (1 : Int) ≤ (n : Nat) by omega, show ((n : Nat) : Int) ≤ 256 by omega⟩)
    (List.pairwise_singleton _ _) hfin (fun x hx => by rw [List.mem_singleton] at hx; subst hx; exact ⟨hro, by omega⟩) (hsin.bel hb2) ⟨⟨rfl, rfl, by show ((n : Nat) : Int) = ((bodyN n).length : Nat); rw [bodyN_length]⟩, trivial⟩ (duesOf_one n)
    (keep_all hn (fun r hr => by
      rw [List.mem_append] at hr
      rcases hr with hr | hr
      · rw [List.mem_map] at hr
        obtain ⟨d, hd, rfl⟩ := hr
        obtain ⟨i, hi, rfl⟩ := duN_mem hd
        exact ⟨i, by omega, rfl⟩
      · simp only [noted, List.flatMap_cons, List.flatMap_nil, List.append_nil, he, if_true] at hr
        exact hrs r hr))
    (duN_up n) hdo (fun x hx => by
      rw [List.mem_singleton] at hx
      subst hx
      refine ⟨he, by rcases hst with e | e <;> rw [e] <;> omega, by omega, ?_⟩
      rcases hst with e | e
      · refine .inr fun d hd => ?_
        obtain ⟨i, _, rfl⟩ := duN_mem hd
        rw [e]
        show (1 : Int) ≤ 1
        omega
      · refine .inl fun d hd => ?_
        obtain ⟨i, _, rfl⟩ := duN_mem hd
        rw [e]
        show (1 : Int) < 2
        omega)
    (by simp only [duN, List.length_map, List.length_range, fsum]; omega) (by simp) (by simp) (by simp)
  exact h.mono fun e w' hk => ⟨hk.1, hb2.trans (hk.2.mono hb2.size)⟩
theorem keeps_one {D : List Due} {f : Fe} {w w' : World} {e : Ending} (h : KeepsE D [f] w e w') (hl : Lk D f) : e = .returned (.tuple #[.int .i64 120, .int .i64 0]) ∧ Below w.heap.size w w' := by
  refine ⟨?_, h.2⟩
  rcases h.1 with ⟨_, h2⟩ | ⟨P, x, R, h1, h2, h3, h4⟩
  · exact absurd hl (h2 f (by simp))
  · cases P with
    | nil => exact h3
    | cons p P => simp at h1
theorem keeps_none {D : List Due} {f : Fe} {w w' : World} {e : Ending} (h : KeepsE D [f] w e w') (hl : ¬ Lk D f) : e = .returned (.tuple #[.int .i64 0, .int .i64 0]) ∧ Below w.heap.size w w' := by
  refine ⟨?_, h.2⟩
  rcases h.1 with ⟨h1, _⟩ | ⟨P, x, R, h1, h2, h3, h4⟩
  · exact h1
  · have : x ∈ [f] := by rw [h1]; simp
    rw [List.mem_singleton] at this
    subst this
    exact absurd h2 hl
theorem RIn.drop {w : World} {g off : Nat} {M : List Rec} (h : RIn w (some ⟨g, off, none⟩) M) (k : Nat) : RIn w (some ⟨g, off + k * 4, none⟩) (M.drop k) := by
  intro i x hx
  rw [List.getElem?_drop] at hx
  obtain ⟨b, o, e, hl, c0, c1, c2, c3⟩ := h _ _ hx
  cases e
  have e0 : off + k * 4 + i * 4 = off + (k + i) * 4 := by omega
  refine ⟨g, off + k * 4, rfl, hl, ?_, ?_, ?_, ?_⟩ <;> rw [e0] <;> assumption
theorem lN_len {k n : Nat} (hk2 : k + 2 ≤ n) : (lN k n).length + 1 = n := by
  have e : n = k + 1 + (n - (k + 1)) := by omega
  rw [e, lN_split, List.length_append, bodyN_length]
  simp [tailN]
  omega
end Go.Proofs.Ytebfpffilepfaaa
