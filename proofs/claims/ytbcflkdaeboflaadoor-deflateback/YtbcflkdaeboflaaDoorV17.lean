/- Layer 5: tokens in a row of the call's own; the state of tokensOf. -/
/- The document's Symbol: the mathematics of bits that are taken one by one. -/
/- The document's Bit, and one bit of a reader. -/
/- The document's Bits and Aligned. -/
/- The document's Symbol: the walk. -/
import Derived.Test.YtbcflkdaeboflaaDoorV12
import Derived.Carry
import Derived.Test.YtbcflkdaeboflaaDoorV08
import Derived.Test.YtbcflkdaeboflaaDoorV07
namespace Go.Proofs.YtbcflkdaeboflaaDoor.D5
open Go.RowKit Go.Maps
set_option linter.unusedVariables false
set_option maxRecDepth 20000

theorem info32 : (Tryd.prog.info? 21).map (fun i => (i.zero, i.size, i.bytes)) = some (some (.int .i32 0), 1, 4) := by kernel_rfl
theorem tokInfo : (Tryd.prog.info? 57).map (fun i => (i.zero, i.size, i.bytes)) = some (some (.agg #[.int .u8 0, .int .u16 0, .int .u16 0]), 3, 6) := by kernel_rfl
theorem info_split {t : TypeId} {z : Option Value} {n m : Nat} (h : (Tryd.prog.info? t).map (fun i => (i.zero, i.size, i.bytes)) = some (z, n, m)) : ∃ i, Tryd.prog.info? t = some i ∧ i.zero = z ∧ i.size = n ∧ i.bytes = m := by
  cases e : Tryd.prog.info? t with
  | none => rw [e] at h; simp at h
  | some i => rw [e] at h; simp at h; exact ⟨i, rfl, h.1, h.2.1, h.2.2⟩
/-- A token's cells. -/
def tc (t : Nat × Nat × Nat) : List Value := [.int .u8 (t.1 : Nat), .int .u16 (t.2.1 : Nat), .int .u16 (t.2.2 : Nat)]
def tcs : List (Nat × Nat × Nat) → List Value
  | [] => []
  | t :: T => tc t ++ tcs T
theorem tcs_append (L M : List (Nat × Nat × Nat)) : tcs (L ++ M) = tcs L ++ tcs M := by
  induction L with
  | nil => rfl
  | cons x L ih => simp [tcs, ih]
theorem tcs_length (L : List (Nat × Nat × Nat)) : (tcs L).length = L.length * 3 := by
  induction L with
  | nil => rfl
  | cons x L ih => simp only [tcs, List.length_append, ih, List.length_cons]; show 3 + _ = _; omega
theorem tcs_get (L : List (Nat × Nat × Nat)) (i : Nat) (r : Nat × Nat × Nat) (h : L[i]? = some r) (j : Nat) (hj : j < 3) : (tcs L)[i * 3 + j]? = (tc r)[j]? := by
  induction L generalizing i with
  | nil => simp at h
  | cons x L ih =>
    cases i with
    | zero =>
      simp at h
      subst h
      rw [tcs, List.getElem?_append_left (by show 0 * 3 + j < 3; omega)]
      simp
    | succ i =>
      simp at h
      rw [tcs, List.getElem?_append_right (by show 3 ≤ _; omega), show (i + 1) * 3 + j - (tc x).length = i * 3 + j by show (i + 1) * 3 + j - 3 = _; omega]
      exact ih i h
theorem owns_below {w w' : World} {B : Nat} {E : TypeId} {size n : Nat} {v : Value} {xs : List Value} (h : w.ownsRow B E size v n xs) (hb : Below w.heap.size w w') : w'.ownsRow B E size v n xs := by
  refine ⟨h.1, ?_⟩
  rcases h.2 with hn | ⟨g, cap, cur, hv, hg, hh, r⟩
  · exact .inl hn
  · exact .inr ⟨g, cap, cur, hv, hg, (hb.block g (lt_of_block hh)).trans hh, r⟩
theorem owns_kept {w w' : World} {B : Nat} {E : TypeId} {size n : Nat} {v : Value} {xs : List Value} (h : w.ownsRow B E size v n xs) (hb : ∀ g, v.ownBlock = some g → w'.heap[g]? = w.heap[g]?) : w'.ownsRow B E size v n xs := by
  refine ⟨h.1, ?_⟩
  rcases h.2 with hn | ⟨g, cap, cur, hv, hg, hh, r⟩
  · exact .inl hn
  · exact .inr ⟨g, cap, cur, hv, hg, (hb g (by rw [hv]; rfl)).trans hh, r⟩
theorem owns_form {w : World} {B : Nat} {E : TypeId} {size n : Nat} {v : Value} {xs : List Value} (h : w.ownsRow B E size v n xs) : ∃ ao cap, v = .slice ao n cap := by
  rcases h.2 with ⟨rfl, h0⟩ | ⟨g, cap, cur, rfl, _⟩
  · subst h0; exact ⟨_, _, rfl⟩
  · exact ⟨_, _, rfl⟩
def TokB (w : World) (b x n d : Nat) : Prop := w.heap[b]? = some (.cells #[.int .u8 (x : Nat), .int .u16 (n : Nat), .int .u16 (d : Nat)] 57 (0, 0))
theorem TokB.cells {w : World} {b x n d : Nat} (h : TokB w b x n d) : (w.cell? ⟨b, 0, none⟩ = some (.int .u8 (x : Nat)) ∧ w.cell? ⟨b, 1, none⟩ = some (.int .u16 (n : Nat)) ∧ w.cell? ⟨b, 2, none⟩ = some (.int .u16 (d : Nat))) ∧ w.frozen? ⟨b, 0, none⟩ = false ∧ w.frozen? ⟨b, 1, none⟩ = false ∧ w.frozen? ⟨b, 2, none⟩ = false := by
  unfold TokB at h
  exact ⟨⟨by simp [World.cell?, h], by simp [World.cell?, h], by simp [World.cell?, h]⟩, by simp [World.frozen?, h], by simp [World.frozen?, h], by simp [World.frozen?, h]⟩
/-- The state of tokensOf: a finder (blocks h, h + 1, h + 2) that has met the first m places, tokens T in a row, the copy that is at hand in block b. -/
structure TS (w0 w : World) (h : Nat) (s : ByteArray) (m : Nat) (T : List (Nat × Nat × Nat)) (v : Value) (b n d : Nat) : Prop where
  fs : FS w (h + 2) h (h + 1) s (met s m)
  own : w.ownsRow (h + 3) 57 3 v T.length (tcs T)
  here : TokB w b 0 n d
  apart : v.ownBlock ≠ some b
  lo : h + 3 ≤ b
  bel : Below h w0 w
variable {w0 w w' : World} {h : Nat} {s : ByteArray} {m : Nat} {T : List (Nat × Nat × Nat)} {v : Value} {b n d : Nat}
theorem TS.quiet (p : TS w0 w h s m T v b n d) (hb : Below w.heap.size w w') : TS w0 w' h s m T v b n d :=
  ⟨p.fs.below hb, owns_below p.own hb, (hb.block b (lt_of_block p.here)).trans p.here, p.apart, p.lo, p.bel.trans (hb.mono (by have := p.fs.lt; omega))⟩
theorem TS.met' (p : TS w0 w h s m T v b n d) {m' : Nat} (hf : FS w' (h + 2) h (h + 1) s (met s m')) (ht : TF h (h + 1) w w') : TS w0 w' h s m' T v b n d :=
  ⟨hf, owns_kept p.own (fun g hg => ht.block g (p.own.lt g hg).2 (by have := (p.own.lt g hg).1; omega) (by have := (p.own.lt g hg).1; omega)), (ht.block b (lt_of_block p.here) (by have := p.lo; omega) (by have := p.lo; omega)).trans p.here, p.apart, p.lo, p.bel.trans ⟨ht.os, ht.tape, ht.output, ht.size, fun k hk => ht.block k (by have := p.fs.lt; omega) (by omega) (by omega)⟩⟩
theorem TS.alloc (p : TS w0 w h s m T v b n d) (o : Obj) : TS w0 (w.alloc o) h s m T v b n d := p.quiet ((Below.refl _ _).alloc (Nat.le_refl _) _)
/-- The copy at hand is another one. -/
theorem TS.hand (p : TS w0 w h s m T v b n d) (n' d' : Nat) : TS w0 (((w.setCell ⟨b, 0, none⟩ (.int .u8 (0 : Nat))).setCell ⟨b, 1, none⟩ (.int .u16 (n' : Nat))).setCell ⟨b, 2, none⟩ (.int .u16 (d' : Nat))) h s m T v b n' d' := by
  have lo := p.lo
  have hne : ∀ k, k ≠ b → (((w.setCell ⟨b, 0, none⟩ (.int .u8 (0 : Nat))).setCell ⟨b, 1, none⟩ (.int .u16 (n' : Nat))).setCell ⟨b, 2, none⟩ (.int .u16 (d' : Nat))).heap[k]? = w.heap[k]? := fun k hk => by
    rw [Below.heap_setCell _ _ _ _ hk, Below.heap_setCell _ _ _ _ hk, Below.heap_setCell _ _ _ _ hk]
  refine ⟨p.fs.kept (hne _ (by omega)) (hne _ (by omega)) (hne _ (by omega)), owns_kept p.own (fun g hg => hne g (fun e => p.apart (by rw [hg, e]))), ?_, p.apart, lo, ?_⟩
  · exact block_setCell (i := 2) (block_setCell (i := 1) (block_setCell (i := 0) p.here))
  · exact ((p.bel.trans (Below.setCell' _ _ (by omega))).trans (Below.setCell' _ _ (by omega))).trans (Below.setCell' _ _ (by omega))
/-- A token more. -/
theorem TS.more (p : TS w0 w h s m T v b n d) {t : Nat × Nat × Nat} {g cap : Nat} (hown : w'.ownsRow (h + 3) 57 3 (.slice (some ⟨g, 0, none⟩) (T.length + 1) cap) (T.length + 1) (tcs T ++ tc t)) (hg : w.grownBy w' v.ownBlock) (hat : v.ownBlock = some g ∨ g = w.heap.size) :
    TS w0 w' h s m (T ++ [t]) (.slice (some ⟨g, 0, none⟩) (T.length + 1) cap) b n d := by
  have hl := p.fs.lt
  have hlo : ∀ k, v.ownBlock = some k → h + 3 ≤ k := fun k hk => (p.own.lt k hk).1
  refine ⟨p.fs.kept (hg.block _ hl.1 (fun e => ?_)) (hg.block _ hl.2.1 (fun e => ?_)) (hg.block _ hl.2.2 (fun e => ?_)), ?_, (hg.block b (lt_of_block p.here) (fun e => p.apart e.symm)).trans p.here, ?_, p.lo, p.bel.trans ⟨hg.os, hg.tape, hg.output, hg.size, fun k hk => hg.block k (by omega) (fun e => ?_)⟩⟩
  · have := hlo _ e.symm; omega
  · have := hlo _ e.symm; omega
  · have := hlo _ e.symm; omega
  · rw [List.length_append, List.length_singleton, tcs_append]
    have : tcs [t] = tc t := by simp [tcs]
    rw [this]; exact hown
  · intro e
    have e' : g = b := by simpa [Value.ownBlock] using e
    rcases hat with h1 | h1
    · exact p.apart (by rw [h1, e'])
    · have := lt_of_block p.here; omega
  · have := hlo _ e.symm; omega
theorem ts_start (w : World) (s : ByteArray) (hs : s.size ≤ 1048576) : FS (((w.alloc (.map #[] 0)).alloc (.cells (madeCells #[.int .i32 0] s.size) 21)).alloc (.cells #[.string s, .map (some w.heap.size), .slice (some ⟨w.heap.size + 1, 0, none⟩) s.size s.size] 54)) (w.heap.size + 2) w.heap.size (w.heap.size + 1) s 0 ∧ Below w.heap.size w (((w.alloc (.map #[] 0)).alloc (.cells (madeCells #[.int .i32 0] s.size) 21)).alloc (.cells #[.string s, .map (some w.heap.size), .slice (some ⟨w.heap.size + 1, 0, none⟩) s.size s.size] 54)) := by
  obtain ⟨w1, e1⟩ : ∃ w1, w.alloc (.map #[] 0) = w1 := ⟨_, rfl⟩
  have s1 : w1.heap.size = w.heap.size + 1 := by rw [← e1]; simp
  have m1 : w1.ownsMap Tryd.prog 78 (plainElem Tryd.prog 21) w.heap.size 0 (.map [] : DataW Unit) := by rw [← e1]; exact World.ownsMap_made w _ _ _
  have b1 : Below w.heap.size w w1 := by rw [← e1]; exact (Below.refl _ _).alloc (Nat.le_refl _) _
  rw [e1]
  obtain ⟨w2, e2⟩ : ∃ w2, w1.alloc (.cells (madeCells #[.int .i32 0] s.size) 21) = w2 := ⟨_, rfl⟩
  have s2 : w2.heap.size = w.heap.size + 2 := by rw [← e2]; simp [s1]
  have o2 : w2.heap[w.heap.size + 1]? = some (.cells (madeCells #[.int .i32 0] s.size) 21 (0, 0)) := by rw [← e2, ← s1]; exact heap_alloc_new _ _
  have m2 : w2.ownsMap Tryd.prog 78 (plainElem Tryd.prog 21) w.heap.size 0 (.map [] : DataW Unit) := by rw [← e2]; exact m1.alloc _
  have b2 : Below w.heap.size w w2 := by rw [← e2]; exact b1.alloc (by omega) _
  rw [e2]
  refine ⟨⟨?_, ⟨_, m2.alloc _, mapOK_nil s, isMap_empty⟩, ⟨madeCells #[.int .i32 0] s.size, ?_, ?_, fun i hi => by omega⟩, hs⟩, b2.alloc (by omega) _⟩
  · rw [← s2]; exact heap_alloc_new _ _
  · rw [heap_alloc_old _ _ (by omega)]; exact o2
  · simp [madeCells]
theorem newsTok (W : World) (t : Nat × Nat × Nat) : ∀ j u, (tc t)[j]? = some u → (W.alloc (.cells #[.int .u8 (t.1 : Nat), .int .u16 (t.2.1 : Nat), .int .u16 (t.2.2 : Nat)] 57)).cell? ((⟨W.heap.size, 0, none⟩ : Addr).add j) = some u := by
  intro j u h
  rw [add_zero_addr]
  unfold World.cell?
  rw [heap_alloc_new]
  match j, h with
  | 0, h => simpa [tc] using h
  | 1, h => simpa [tc] using h
  | 2, h => simpa [tc] using h
  | j + 3, h => simp [tc] at h
theorem oneTok (t : Nat × Nat × Nat) : ∀ u ∈ tc t, u.oneCell' = true := by
  intro u hu
  simp only [tc, List.mem_cons, List.not_mem_nil, or_false] at hu
  rcases hu with rfl | rfl | rfl <;> rfl
end Go.Proofs.YtbcflkdaeboflaaDoor.D5
namespace Go.Proofs.YtbcflkdaeboflaaDoor
open Go.RowKit
set_option linter.unusedVariables false
set_option maxRecDepth 20000

theorem ew_endW (ns : List Nat) (l : Nat) (h : 1 ≤ l) : ew ns l = endW ns l := by
  obtain ⟨k, rfl⟩ : ∃ k, l = k + 1 := ⟨l - 1, by omega⟩
  rw [ew_succ]
  unfold endW
  rw [fstW_ew ns (k + 1) (by omega)]
  simp only [Nat.add_sub_cancel]
  omega
theorem cw_code (ns : List Nat) (i : Nat) (h : 1 ≤ ns.getD i 0) : cw ns i = codeW ns i := by unfold cw; rw [if_neg (by omega)]
/-- Ends of words, each length's, in parts of 2^15. -/
theorem ew_grows (ns : List Nat) (m : Nat) (h : m ≤ 15) : ew ns m * 2 ^ (15 - m) ≤ ew ns 15 := by
  have key : ∀ d, m + d ≤ 15 → ew ns m * 2 ^ d ≤ ew ns (m + d) := by
    intro d
    induction d with
    | zero => intro _; simp
    | succ d ih =>
      intro hd
      have h1 := ih (by omega)
      rw [show m + (d + 1) = (m + d) + 1 by omega, ew_succ, Nat.pow_succ, ← Nat.mul_assoc]
      omega
  have := key (15 - m) (by omega)
  rw [show m + (15 - m) = 15 by omega] at this
  exact this
/-- A symbol whose word is just what was taken. -/
theorem hit_iff (ns : List Nat) (l x : Nat) (hl : 1 ≤ l) (hx : 2 * ew ns (l - 1) ≤ x) : (∃ i, i < ns.length ∧ ns.getD i 0 = l ∧ cw ns i = x) ↔ x < ew ns l := by
  constructor
  · rintro ⟨i, hi, h1, h2⟩
    rw [cw_code ns i (by omega)] at h2
    have := codeW_end ns i hi
    rw [h1, ← ew_endW ns l hl] at this
    omega
  · intro h
    obtain ⟨h1, h2, h3⟩ := symW_ok ns l x (by omega) (by rw [fstW_ew ns l hl]; exact hx) (by rw [← ew_endW ns l hl]; exact h)
    exact ⟨symW ns l x, h1, h2, by rw [cw_code ns _ (by omega)]; exact h3⟩
theorem hit_sym (ns : List Nat) (l x i : Nat) (hl : 1 ≤ l) (hx : 2 * ew ns (l - 1) ≤ x) (hi : i < ns.length) (h1 : ns.getD i 0 = l) (h2 : cw ns i = x) : i = symW ns l x := by
  have h := (hit_iff ns l x hl hx).1 ⟨i, hi, h1, h2⟩
  obtain ⟨e1, e2, e3⟩ := symW_ok ns l x (by omega) (by rw [fstW_ew ns l hl]; exact hx) (by rw [← ew_endW ns l hl]; exact h)
  rw [cw_code ns i (by omega)] at h2
  exact codeW_inj ns i _ hi e1 (by rw [h1, e2]) (by rw [h2, e3])
/-- A symbol whose word begins with what was taken. -/
def Beg (ns : List Nat) (l x i : Nat) : Prop := l < ns.getD i 0 ∧ cw ns i / 2 ^ (ns.getD i 0 - l) = x
theorem least_from {P : Nat → Prop} (a : Nat) : ∀ n, P (a + n) → ¬ P a → ∃ m, a < m ∧ m ≤ a + n ∧ P m ∧ ¬ P (m - 1)
  | 0, h, hn => absurd h hn
  | n + 1, h, hn => by
    by_cases h1 : P (a + n)
    · obtain ⟨m, h2, h3, h4, h5⟩ := least_from a n h1 hn
      exact ⟨m, h2, by omega, h4, h5⟩
    · exact ⟨a + (n + 1), by omega, Nat.le_refl _, h, by rw [show a + (n + 1) - 1 = a + n by omega]; exact h1⟩
theorem beg_iff (ns : List Nat) (l x : Nat) (hl : l ≤ 15) (h15 : ∀ i, ns.getD i 0 ≤ 15) (hx : ew ns l ≤ x) : (∃ i, i < ns.length ∧ Beg ns l x i) ↔ x * 2 ^ (15 - l) < ew ns 15 := by
  constructor
  · rintro ⟨i, hi, h1, h2⟩
    have hm := h15 i
    obtain ⟨m, hmm⟩ : ∃ m, ns.getD i 0 = m := ⟨_, rfl⟩
    rw [hmm] at h1 h2 hm
    rw [cw_code ns i (by rw [hmm]; omega)] at h2
    have hc := codeW_end ns i hi
    rw [hmm, ← ew_endW ns m (by omega)] at hc
    have h3 : x * 2 ^ (m - l) ≤ codeW ns i := by rw [← h2]; exact Nat.div_mul_le_self _ _
    have h4 := ew_grows ns m hm
    have h5 : x * 2 ^ (15 - l) = x * 2 ^ (m - l) * 2 ^ (15 - m) := by rw [Nat.mul_assoc, ← Nat.pow_add]; congr 2; omega
    rw [h5]
    have hpos : 0 < 2 ^ (15 - m) := Nat.pos_of_ne_zero (by simp)
    have h6 : x * 2 ^ (m - l) * 2 ^ (15 - m) < ew ns m * 2 ^ (15 - m) := Nat.mul_lt_mul_of_pos_right (by omega) hpos
    omega
  · intro h
    obtain ⟨m, h1, h2, h3, h4⟩ := least_from (P := fun m => x * 2 ^ (m - l) < ew ns m) l (15 - l) (by rw [show l + (15 - l) = 15 by omega]; exact h) (by rw [Nat.sub_self]; simp; exact hx)
    have h4' : ew ns (m - 1) ≤ x * 2 ^ (m - 1 - l) := by simpa using h4
    have h5 : x * 2 ^ (m - l) = 2 * (x * 2 ^ (m - 1 - l)) := by
      rw [show m - l = (m - 1 - l) + 1 by omega, Nat.pow_succ, ← Nat.mul_assoc]
      omega
    obtain ⟨i, hi, e1, e2⟩ := (hit_iff ns m (x * 2 ^ (m - l)) (by omega) (by omega)).2 h3
    exact ⟨i, hi, by rw [e1]; exact h1, by rw [e1, e2]; exact Nat.mul_div_cancel _ (Nat.pos_of_ne_zero (by simp))⟩
/-- What the document's Symbol tells: l bits were taken: x; k lengths are left. -/
def rsS (ns : List Nat) (s : ByteArray) (p : Nat) : Nat → Nat → Nat → Nat × Nat × Nat
  | 0, l, x => (0, 0, 30)
  | k + 1, l, x => if 8 * s.size ≤ p + l then (0, 0, 5)
      else if 2 * x + bitAt s (p + l) < ew ns (l + 1) then (symW ns (l + 1) (2 * x + bitAt s (p + l)), p + (l + 1), 0)
      else if ew ns 15 ≤ (2 * x + bitAt s (p + l)) * 2 ^ (15 - (l + 1)) then (0, 0, 30)
      else rsS ns s p k (l + 1) (2 * x + bitAt s (p + l))
/-- It is what the table tells, where there are words. -/
def asRef (p : Nat) (r : Nat × Nat × Nat) : Nat × Nat × Nat := if r.2.2 = 0 then (r.1, p + r.2.1, 0) else (0, 0, r.2.2)
theorem rsS_rd (ns : List Nat) (s : ByteArray) (p : Nat) : ∀ (k l x : Nat), ew ns l ≤ x → x * 2 ^ (15 - l) < ew ns 15 → l + k = 15 → rsS ns s p k l x = asRef p (rdS ns s p (k + 1) l x)
  | 0, l, x, h1, h2, h3 => by
    have : l = 15 := by omega
    subst this
    simp at h2
    omega
  | k + 1, l, x, h1, h2, h3 => by
    simp only [rsS]
    rw [show rdS ns s p (k + 1 + 1) l x = if x < ew ns l then (symW ns l x, l, 0) else if ew ns 15 ≤ x * 2 ^ (15 - l) then (0, l, 30) else if 8 * s.size ≤ p + l then (0, l, 5) else rdS ns s p (k + 1) (l + 1) (2 * x + bitAt s (p + l)) from rfl]
    rw [if_neg (show ¬ x < ew ns l by omega), if_neg (show ¬ ew ns 15 ≤ x * 2 ^ (15 - l) by omega)]
    by_cases a1 : 8 * s.size ≤ p + l
    · rw [if_pos a1, if_pos a1]; rfl
    · rw [if_neg a1, if_neg a1]
      obtain ⟨y, hy⟩ : ∃ y, 2 * x + bitAt s (p + l) = y := ⟨_, rfl⟩
      rw [hy]
      rw [show rdS ns s p (k + 1) (l + 1) y = if y < ew ns (l + 1) then (symW ns (l + 1) y, l + 1, 0) else if ew ns 15 ≤ y * 2 ^ (15 - (l + 1)) then (0, l + 1, 30) else if 8 * s.size ≤ p + (l + 1) then (0, l + 1, 5) else rdS ns s p k (l + 1 + 1) (2 * y + bitAt s (p + (l + 1))) from rfl]
      by_cases a2 : y < ew ns (l + 1)
      · rw [if_pos a2, if_pos a2]; rfl
      · rw [if_neg a2, if_neg a2]
        by_cases a3 : ew ns 15 ≤ y * 2 ^ (15 - (l + 1))
        · rw [if_pos a3, if_pos a3]; rfl
        · rw [if_neg a3, if_neg a3]
          have ih := rsS_rd ns s p k (l + 1) y (by omega) (by omega) (by omega)
          rw [ih]
          rw [show rdS ns s p (k + 1) (l + 1) y = if y < ew ns (l + 1) then (symW ns (l + 1) y, l + 1, 0) else if ew ns 15 ≤ y * 2 ^ (15 - (l + 1)) then (0, l + 1, 30) else if 8 * s.size ≤ p + (l + 1) then (0, l + 1, 5) else rdS ns s p k (l + 1 + 1) (2 * y + bitAt s (p + (l + 1))) from rfl]
          rw [if_neg a2, if_neg a3]
theorem rs_rd (ns : List Nat) (s : ByteArray) (p : Nat) (h : 0 < ew ns 15) : rsS ns s p 15 0 0 = asRef p (rd ns s p) := by
  unfold rd
  exact rsS_rd ns s p 15 0 0 (Nat.le_refl _) (by simp; exact h) rfl
end Go.Proofs.YtbcflkdaeboflaaDoor
namespace Go.Proofs.YtbcflkdaeboflaaDoor
open Go.RowKit
set_option linter.unusedVariables false
set_option maxRecDepth 20000

theorem refBit_eq (y m : Nat) (hy : y < 256) : bits .and .i64 (wrap64 ((y : Int) / 2 ^ m)) 1 = ((y / 2 ^ m % 2 : Nat) : Int) := by
  have e : (y : Int) / 2 ^ m = ((y / 2 ^ m : Nat) : Int) := by simp
  have hl : y / 2 ^ m ≤ y := Nat.div_le_self _ _
  rw [e]
  generalize y / 2 ^ m = z at *
  rw [IntWalk.wrap64_in _ ⟨by omega, by omega⟩]
  have h := i64_mask 1 (by omega) (z : Int)
  rw [show ((2 ^ 1 - 1 : Nat) : Int) = 1 from rfl] at h
  rw [h]
  simp
theorem refBit (s : ByteArray) (i : Nat) (w : World) (hi : i < 8 * s.size) (hs : s.size ≤ 281474976710656) :
    Calls Tryd.prog 56 #[.string s, .int .i64 i] w fun e w' => e = .returned (.int .i64 (bitAt s i : Nat)) ∧ w' = w := by
  have hix : i / 8 < s.size := by omega
  go_enter Tryd.func56, Tryd.ntmps56
  go_wp2
  go_ret
  refine ⟨ret_int ?_, rfl⟩
  rw [bitAt_eq s i hix]
  exact refBit_eq _ _ (UInt8.toNat_lt _)
end Go.Proofs.YtbcflkdaeboflaaDoor
namespace Go.Proofs.YtbcflkdaeboflaaDoor
open Go.RowKit
set_option linter.unusedVariables false
set_option maxRecDepth 20000

theorem refAligned (p : Int) (w : World) (h0 : 0 ≤ p) (h1 : p ≤ 1152921504606846976) :
    Calls Tryd.prog 25 #[.int .i64 p] w fun e w' => e = .returned (.int .i64 ((p + 7) / 8 * 8)) ∧ w' = w := by
  go_enter Tryd.func25, Tryd.ntmps25
  go_wp2
  go_ret
  exact ⟨ret_int (by omega), rfl⟩
theorem refBits_short (s : ByteArray) (p n : Nat) (w : World) (hn : n ≤ 57) (hp : p ≤ 8 * s.size) (hq : 8 * s.size < p + n) (hs : s.size ≤ 281474976710656) :
    Calls Tryd.prog 34 #[.string s, .int .i64 p, .int .i64 n] w fun e w' => e = .returned (.tuple #[.int .i64 0, .bool false]) ∧ w' = w := by
  go_enter Tryd.func34, Tryd.ntmps34
  go_wp2
  go_ret2
  exact ⟨rfl, rfl⟩
theorem add_bit (x c k : Nat) (hx : x < 2 ^ k) (hc : c < 2) (hk : k ≤ 56) : wrap64 ((x : Int) + wrap64 ((c : Int) * 2 ^ k)) = ((x + c * 2 ^ k : Nat) : Int) := by
  have h56 := pow_le k 56 hk
  have hm : c * 2 ^ k ≤ 1 * 2 ^ k := Nat.mul_le_mul_right _ (by omega)
  have e2 : (c : Int) * 2 ^ k = ((c * 2 ^ k : Nat) : Int) := by simp
  obtain ⟨z, hz⟩ : ∃ z, z = c * 2 ^ k := ⟨_, rfl⟩
  rw [e2, ← hz]
  rw [← hz] at hm
  rw [IntWalk.wrap64_in (z : Int) ⟨by omega, by omega⟩, IntWalk.wrap64_in _ ⟨by omega, by omega⟩]
  omega
set_option maxHeartbeats 400000 in
theorem refBits (s : ByteArray) (p n : Nat) (w : World) (hn : n ≤ 57) (hp : p + n ≤ 8 * s.size) (hs : s.size ≤ 281474976710656) :
    Calls Tryd.prog 34 #[.string s, .int .i64 p, .int .i64 n] w fun e w' => e = .returned (.tuple #[.int .i64 (num s p n : Nat), .bool true]) ∧ w' = w := by
  go_enter Tryd.func34, Tryd.ntmps34
  go_wp2
  go_loop [8, 9] (fun x i => ∃ k : Nat, k ≤ n ∧ i = .int .i64 k ∧ x = .int .i64 (num s p k : Nat)) (fun _ i => n - (intOf i).toNat)
  case atStart => exact ⟨0, Nat.zero_le _, rfl, rfl⟩
  case round =>
    obtain ⟨k, hk, rfl, rfl⟩ := hrel
    by_cases hlt : k < n
    · have hcb : ∀ w, Calls Tryd.prog 56 #[.string s, .int .i64 ((p : Int) + (k : Int))] w fun e w' => e = .returned (.int .i64 (bitAt s (p + k) : Nat)) ∧ w' = w := fun w => refBit s (p + k) w (by omega) hs
      have hbl := bitAt_lt s (p + k)
      go_wp2_with (go_at_call 56; refine (hcb _).mono ?_; rintro e w' ⟨rfl, rfl⟩)
      go_round
      case rel =>
        refine ⟨k + 1, by omega, by go_num, congrArg (Value.int .i64) ?_⟩
        exact add_bit (num s p k) (bitAt s (p + k)) k (num_lt s p k) hbl (by omega)
      case measure => simp [intOf]; omega
    · obtain rfl : n = k := by omega
      go_wp2
      go_ret2
      exact ⟨rfl, rfl⟩
end Go.Proofs.YtbcflkdaeboflaaDoor
namespace Go.Proofs.YtbcflkdaeboflaaDoor
open Go.RowKit
set_option linter.unusedVariables false
set_option maxRecDepth 20000

/-- Numbers as ints. -/
def inN (ns : List Nat) : List Int := ns.map fun (n : Nat) => (n : Int)
theorem inN_length (ns : List Nat) : (inN ns).length = ns.length := by simp [inN]
theorem inN_get (ns : List Nat) (i : Nat) : (inN ns).getD i 0 = ((ns.getD i 0 : Nat) : Int) := by
  unfold inN
  rw [List.getD_eq_getElem?_getD, List.getD_eq_getElem?_getD, List.getElem?_map]
  cases ns[i]? <;> rfl
def cwL (ns : List Nat) : List Nat := (List.range ns.length).map (cw ns)
theorem cwL_length (ns : List Nat) : (cwL ns).length = ns.length := by simp [cwL]
theorem cwL_get (ns : List Nat) (i : Nat) (h : i < ns.length) : (cwL ns).getD i 0 = cw ns i := by
  unfold cwL
  rw [List.getD_eq_getElem?_getD, List.getElem?_map, List.getElem?_range h]
  rfl
/-- Does one of the first j words begin with x, l bits long? -/
def begB (ns : List Nat) (l x : Nat) : Nat → Bool
  | 0 => false
  | j + 1 => begB ns l x j || (decide (l < ns.getD j 0) && decide (cw ns j / 2 ^ (ns.getD j 0 - l) = x))
theorem begB_iff (ns : List Nat) (l x : Nat) : ∀ j, begB ns l x j = true ↔ ∃ i, i < j ∧ Beg ns l x i
  | 0 => by simp [begB]
  | j + 1 => by
    simp only [begB, Bool.or_eq_true, Bool.and_eq_true, decide_eq_true_eq, begB_iff ns l x j]
    constructor
    · rintro (⟨i, hi, hb⟩ | hb)
      · exact ⟨i, by omega, hb⟩
      · exact ⟨j, by omega, hb⟩
    · rintro ⟨i, hi, hb⟩
      by_cases e : i = j
      · subst e; exact Or.inr hb
      · exact Or.inl ⟨i, by omega, hb⟩
theorem below_dr' {B : Nat} {w w' : World} (h : Below B w w') (k : Nat) : Below B w (w'.drewN k) := ⟨h.os, h.tape, h.output, h.size, h.block⟩
/-- What Symbol answers. -/
def symV (r : Nat × Nat × Nat) : Value := .tuple #[.int .i64 (r.1 : Nat), .int .i64 (r.2.1 : Nat), .int .i64 (r.2.2 : Nat)]
set_option maxRecDepth 20000 in
set_option maxHeartbeats 4000000 in
theorem rsym_ok (ns : List Nat) (N : Nat) (a c : Option Addr) (ca cc : Nat) (s : ByteArray) (p : Nat) (w : World) (hN : ns.length = N) (hN2 : N ≤ 288) (h15 : ∀ i, ns.getD i 0 ≤ 15) (hcb : ∀ i, i < ns.length → cw ns i ≤ 32768)
    (ha : IRow w a (inN ns)) (hc : IRow w c (inN (cwL ns))) (hp : p ≤ 8 * s.size) (hs : s.size ≤ 281474976710656) :
    Calls Tryd.prog 58 #[.slice a N ca, .slice c N cc, .string s, .int .i64 p] w fun e w' => e = .returned (symV (rsS ns s p 15 0 0)) ∧ Below w.heap.size w w' := by
  have HA : Hid (IRow w a (inN ns)) := ha
  have HC : Hid (IRow w c (inN (cwL ns))) := hc
  have HN : Hid (ns.length = N) := hN
  have HCB : Hid (∀ i, i < ns.length → cw ns i ≤ 32768) := hcb
  have H15 : Hid (∀ i, ns.getD i 0 ≤ 15) := h15
  obtain ⟨res, hres⟩ : ∃ res, rsS ns s p 15 0 0 = res := ⟨_, rfl⟩
  rw [hres]
  have HR0 : Hid (rsS ns s p 15 0 0 = res) := hres
  obtain ⟨rv, hrv⟩ : ∃ rv, symV res = rv := ⟨_, rfl⟩
  rw [hrv]
  have HRV : Hid (symV res = rv) := hrv
  clear ha hc hN h15 hcb hres hrv
  go_enter Tryd.func58, Tryd.ntmps58
  go_wp2
  go_loopw [11, 12] (fun xv lv wr => ∃ (x l L k : Nat), xv = .int .i64 (x : Nat) ∧ lv = .int .i64 (L : Nat) ∧ l + 1 = L ∧ l + k = 15 ∧ x < 2 ^ l ∧ ew ns l ≤ x ∧ rsS ns s p k l x = res ∧ p + l ≤ 8 * s.size ∧ Below w.heap.size w wr) (fun _ lv _ => 17 - (intOf lv).toNat)
  case atStart => exact ⟨0, 0, 1, 15, rfl, rfl, rfl, rfl, by simp, Nat.le_refl _, HR0.out, by omega, Below.refl _ _⟩
  case round =>
    obtain ⟨x, l, L, k, rfl, rfl, hL, hlk, hx2, hxe, hr, hpl, hbel⟩ := hrel
    have HBE : Hid (Below w.heap.size w wr) := hbel
    have hsw := hbel.size
    cases k with
    | zero =>
      have hl : L = 16 := by omega
      subst hl
      have HE : Hid (res = (0, 0, 30)) := hr.symm
      clear hr hxe hx2 hbel
      go_wp2
      go_ret3
      exact ⟨by rw [← HRV.out, HE.out]; rfl, HBE.out⟩
    | succ k =>
      have hli : (L : Int) ≤ 15 := by omega
      have hl15 : L ≤ 15 := by omega
      have hx15 : x < 32768 := Nat.lt_of_lt_of_le hx2 (Nat.pow_le_pow_right (by decide) (show l ≤ 15 by omega))
      obtain ⟨at_, hat⟩ : ∃ at_, p + l = at_ := ⟨_, rfl⟩
      have hati : (p : Int) + (L : Int) - 1 = (at_ : Nat) := by omega
      by_cases hsh : 8 * s.size ≤ p + l
      · have HB1 : Hid (∀ W, Calls Tryd.prog 34 #[.string s, .int .i64 (at_ : Nat), .int .i64 1] W fun e w' => e = .returned (.tuple #[.int .i64 0, .bool false]) ∧ w' = W) := fun W => refBits_short s at_ 1 W (by omega) (by omega) (by omega) hs
        have HE : Hid (res = (0, 0, 5)) := by
          show res = _
          rw [← hr]; simp only [rsS]; rw [if_pos hsh]
        clear hr hxe hx2 hbel
        go_wp2_with (go_at_call 34; refine (HB1.out _).mono ?_; rintro e w1 ⟨rfl, hw⟩; obtain rfl := hw.symm)
        go_ret3
        exact ⟨by rw [← HRV.out, HE.out]; rfl, HBE.out⟩
      · obtain ⟨bt, hbt⟩ : ∃ bt, bitAt s at_ = bt := ⟨_, rfl⟩
        have hb2 : bt < 2 := by rw [← hbt]; exact bitAt_lt _ _
        have HB1 : Hid (∀ W, Calls Tryd.prog 34 #[.string s, .int .i64 (at_ : Nat), .int .i64 1] W fun e w' => e = .returned (.tuple #[.int .i64 (bt : Nat), .bool true]) ∧ w' = W) := fun W => by
          have h := refBits s at_ 1 W (by omega) (by omega) hs
          rw [show num s at_ 1 = bt by simp [num, hbt]] at h
          exact h
        obtain ⟨y, hy⟩ : ∃ y, 2 * x + bt = y := ⟨_, rfl⟩
        have hyi : 2 * (x : Int) + (bt : Int) = (y : Nat) := by omega
        have hr2 : rsS ns s p (k + 1) l x = if y < ew ns L then (symW ns L y, p + L, 0) else if ew ns 15 ≤ y * 2 ^ (15 - L) then (0, 0, 30) else rsS ns s p k L y := by
          simp only [rsS]
          rw [if_neg hsh, hat, hbt, hy, hL]
        rw [hr] at hr2
        have hxy : 2 * ew ns (L - 1) ≤ y := by rw [← hL, Nat.add_sub_cancel]; omega
        have hy2 : y < 2 ^ L := by rw [← hL, Nat.pow_succ]; omega
        have HR2 : Hid (res = if y < ew ns L then (symW ns L y, p + L, 0) else if ew ns 15 ≤ y * 2 ^ (15 - L) then (0, 0, 30) else rsS ns s p k L y) := hr2
        have HXY : Hid (2 * ew ns (L - 1) ≤ y ∧ y < 2 ^ L) := ⟨hxy, hy2⟩
        have hy15 : y < 65536 := Nat.lt_of_lt_of_le hy2 (Nat.pow_le_pow_right (by decide) (show L ≤ 16 by omega))
        clear hr2 hr hxe hx2 hbel hbt hxy hy2 hy
        go_wp2_with (go_at_call 34; refine (HB1.out _).mono ?_; rintro e w1 ⟨rfl, hw⟩; obtain rfl := hw.symm)
        go_loopw [15, 16] (fun bv iv wq => ∃ (j : Nat), iv = .int .i64 (j : Nat) ∧ bv = .bool (begB ns L y j) ∧ j ≤ N ∧ (∀ i, i < j → ¬ (ns.getD i 0 = L ∧ cw ns i = y)) ∧ Below w.heap.size w wq) (fun _ iv _ => N - (intOf iv).toNat)
        case atStart => exact ⟨0, rfl, rfl, by omega, fun i hi => by omega, HBE.out⟩
        case round =>
          obtain ⟨j, rfl, rfl, hj, hno, hbq⟩ := hrel
          have HBQ : Hid (Below w.heap.size w wr) := hbq
          have HNO : Hid (∀ i, i < j → ¬ (ns.getD i 0 = L ∧ cw ns i = y)) := hno
          by_cases hlt : j < N
          · have hlti : (j : Int) < (N : Int) := by omega
            obtain ⟨b1, o1, rfl, c1, _⟩ := (HA.out.below hbq).at (show j < (inN ns).length by rw [inN_length, HN.out]; exact hlt)
            obtain ⟨b2, o2, rfl, c2, _⟩ := (HC.out.below hbq).at (show j < (inN (cwL ns)).length by rw [inN_length, cwL_length, HN.out]; exact hlt)
            rw [inN_get] at c1
            rw [inN_get, cwL_get ns j (by rw [HN.out]; exact hlt)] at c2
            have ha15 := H15.out j
            have hcb : cw ns j ≤ 32768 := HCB.out j (by rw [HN.out]; exact hlt)
            have HBN : Hid (begB ns L y (j + 1) = (begB ns L y j || (decide (L < ns.getD j 0) && decide (cw ns j / 2 ^ (ns.getD j 0 - L) = y)))) := rfl
            obtain ⟨A, hA⟩ : ∃ A, ns.getD j 0 = A := ⟨_, rfl⟩
            obtain ⟨C, hC⟩ : ∃ C, cw ns j = C := ⟨_, rfl⟩
            obtain ⟨bv, hbv⟩ : ∃ bv, begB ns L y j = bv := ⟨_, rfl⟩
            have HAC : Hid (ns.getD j 0 = A ∧ cw ns j = C) := ⟨hA, hC⟩
            rw [hA, hC, hbv] at HBN
            rw [hA] at c1 ha15
            rw [hC] at c2 hcb
            rw [hbv]
            clear hA hC hno hbq
            have HEND : ∀ (T : Bool), ((begB ns L y (j + 1)) = T) → ¬ (A = L ∧ C = y) → Hid (.bool T = Value.bool (begB ns L y (j + 1)) ∧ (∀ i, i < j + 1 → ¬ (ns.getD i 0 = L ∧ cw ns i = y))) := by
              intro T hT hn
              refine ⟨by rw [hT], fun i hi => ?_⟩
              by_cases e : i = j
              · subst e; rw [HAC.out.1, HAC.out.2]; exact hn
              · exact HNO.out i (by omega)
            by_cases hAL : A = L
            · subst hAL
              by_cases hCy : C = y
              · subst hCy
                have HE : Hid (res = (j, p + A, 0)) := by
                  show res = _
                  have h1 := (hit_iff ns A C (by omega) HXY.out.1).1 ⟨j, by rw [HN.out]; exact hlt, HAC.out⟩
                  rw [HR2.out, if_pos h1, ← hit_sym ns A C j (by omega) HXY.out.1 (by rw [HN.out]; exact hlt) HAC.out.1 HAC.out.2]
                clear HEND
                go_wp2
                go_ret3
                exact ⟨by rw [← HRV.out, HE.out]; simp [symV], HBQ.out⟩
              · have hCb : ((C : Int) == (y : Int)) = false := by simp; omega
                have hCi : ¬ (C : Int) = (y : Int) := by omega
                have hself : ¬ (A : Int) < (A : Int) := by omega
                cases bv with
                | true =>
                  have H2 := HEND true (by rw [HBN.out]; simp) (fun h => hCy h.2)
                  clear HEND
                  go_wp2_with fail
                  go_region
                  all_goals
                    go_wp2
                    exact ⟨⟨j + 1, by go_num, H2.out.1, by omega, H2.out.2, below_dr' HBQ.out 1⟩, by simp [intOf]; omega⟩
                | false =>
                  have H2 := HEND false (by rw [HBN.out]; simp; try omega) (fun h => hCy h.2)
                  clear HEND
                  go_wp2_with fail
                  go_region
                  all_goals
                    go_wp2
                    exact ⟨⟨j + 1, by go_num, H2.out.1, by omega, H2.out.2, below_dr' HBQ.out 1⟩, by simp [intOf]; omega⟩
            · have hALi : ¬ (A : Int) = (L : Int) := by omega
              have hALb : ((A : Int) == (L : Int)) = false := by simp; omega
              by_cases hgt : L < A
              · have hgti : (L : Int) < (A : Int) := by omega
                obtain ⟨d, hd⟩ : ∃ d, A - L = d := ⟨_, rfl⟩
                have hdi : (A : Int) - (L : Int) = (d : Nat) := by omega
                have hd15 : d ≤ 15 := by omega
                obtain ⟨q, hq⟩ : ∃ q, C / 2 ^ d = q := ⟨_, rfl⟩
                have hqi : (C : Int) / 2 ^ d = (q : Nat) := by rw [← hq]; simp
                have hq15 : q ≤ 32768 := by rw [← hq]; exact Nat.le_trans (Nat.div_le_self _ _) hcb
                rw [hd, hq, decide_eq_true hgt] at HBN
                clear hd hq
                by_cases hqy : q = y
                · subst hqy
                  cases bv with
                  | true =>
                    have H2 := HEND true (by rw [HBN.out]; simp) (fun h => hAL h.1)
                    clear HEND
                    go_wp2_with fail
                    go_region
                    all_goals
                      go_wp2
                      exact ⟨⟨j + 1, by go_num, H2.out.1, by omega, H2.out.2, below_dr' HBQ.out 1⟩, by simp [intOf]; omega⟩
                  | false =>
                    have H2 := HEND true (by rw [HBN.out]; simp) (fun h => hAL h.1)
                    clear HEND
                    go_wp2_with fail
                    go_region
                    all_goals
                      go_wp2
                      exact ⟨⟨j + 1, by go_num, H2.out.1, by omega, H2.out.2, below_dr' HBQ.out 1⟩, by simp [intOf]; omega⟩
                · have hqb : ((q : Int) == (y : Int)) = false := by simp; omega
                  have hqn : ¬ (q : Int) = (y : Int) := by omega
                  cases bv with
                  | true =>
                    have H2 := HEND true (by rw [HBN.out]; simp) (fun h => hAL h.1)
                    clear HEND
                    go_wp2_with fail
                    go_region
                    all_goals
                      go_wp2
                      exact ⟨⟨j + 1, by go_num, H2.out.1, by omega, H2.out.2, below_dr' HBQ.out 1⟩, by simp [intOf]; omega⟩
                  | false =>
                    have H2 := HEND false (by rw [HBN.out]; simp; omega) (fun h => hAL h.1)
                    clear HEND
                    go_wp2_with fail
                    go_region
                    all_goals
                      go_wp2
                      exact ⟨⟨j + 1, by go_num, H2.out.1, by omega, H2.out.2, below_dr' HBQ.out 1⟩, by simp [intOf]; omega⟩
              · have hgti : ¬ (L : Int) < (A : Int) := by omega
                rw [decide_eq_false hgt] at HBN
                cases bv with
                | true =>
                  have H2 := HEND true (by rw [HBN.out]; simp) (fun h => hAL h.1)
                  clear HEND
                  go_wp2_with fail
                  go_region
                  all_goals
                    go_wp2
                    exact ⟨⟨j + 1, by go_num, H2.out.1, by omega, H2.out.2, below_dr' HBQ.out 1⟩, by simp [intOf]; omega⟩
                | false =>
                  have H2 := HEND false (by rw [HBN.out]; simp; try omega) (fun h => hAL h.1)
                  clear HEND
                  go_wp2_with fail
                  go_region
                  all_goals
                    go_wp2
                    exact ⟨⟨j + 1, by go_num, H2.out.1, by omega, H2.out.2, below_dr' HBQ.out 1⟩, by simp [intOf]; omega⟩
          · obtain rfl : j = N := by omega
            have hnot : ¬ y < ew ns L := fun h => by
              obtain ⟨i, hi, h1⟩ := (hit_iff ns L y (by omega) HXY.out.1).2 h
              exact HNO.out i (by rw [← HN.out]; exact hi) h1
            have hbg0 := beg_iff ns L y (by omega) H15.out (by omega)
            rw [HN.out] at hbg0
            have hbg := (begB_iff ns L y j).trans hbg0
            clear hbg0
            obtain ⟨bv, hbv⟩ : ∃ bv, begB ns L y j = bv := ⟨_, rfl⟩
            rw [hbv] at hbg ⊢
            cases bv with
            | true =>
              have h3 := hbg.1 rfl
              have HE : Hid (rsS ns s p k L y = res ∧ ew ns L ≤ y ∧ y < 2 ^ L) := by
                refine ⟨?_, by omega, HXY.out.2⟩
                rw [HR2.out, if_neg hnot, if_neg (by omega)]
              clear h3 hbg hnot hno hbq
              go_wp2
              exact ⟨⟨y, L, L + 1, k, rfl, by go_num, rfl, by omega, HE.out.2.2, HE.out.2.1, HE.out.1, by omega, HBQ.out⟩, by simp [intOf]; omega⟩
            | false =>
              have h3 : ew ns 15 ≤ y * 2 ^ (15 - L) := by
                rcases Nat.lt_or_ge (y * 2 ^ (15 - L)) (ew ns 15) with h | h
                · have := hbg.2 h
                  simp at this
                · exact h
              have HE : Hid (res = (0, 0, 30)) := by
                show res = _
                rw [HR2.out, if_neg hnot, if_pos h3]
              clear h3 hbg hnot hno hbq
              go_wp2
              go_ret3
              exact ⟨by rw [← HRV.out, HE.out]; rfl, HBQ.out⟩
end Go.Proofs.YtbcflkdaeboflaaDoor
