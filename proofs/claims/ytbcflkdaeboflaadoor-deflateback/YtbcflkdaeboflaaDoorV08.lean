/- What a table tells: the mathematics of reading a symbol. -/
/- A symbol is read by a table. -/
/- Plain mathematics of packing: bits as bytes, the lowest bit of a byte first. -/
/- A writer's state in memory, and the frame of its calls. -/
/- A writer's step: one bit more. -/
/- Writer.Bits: the bits of a number behind those that were written. -/
/- Bytes as a text: what string(b) gives of a row of bytes that the call owns. Bits of a text, and noughts up to a byte's end. -/
import Derived.Test.YtbcflkdaeboflaaDoorV07
import Derived.Deep.AppendLies
import Derived.Laws.IdiomStrings
import Derived.Lib.AppendStr
namespace Go.Proofs.YtbcflkdaeboflaaDoor
open Go.RowKit
set_option linter.unusedVariables false
set_option maxRecDepth 20000

theorem symsOf_length (ns : List Nat) (l : Nat) (hl : 0 < l) : ∀ i, (symsOf ns l i).length = lcnt ns l i
  | 0 => rfl
  | i + 1 => by
    rw [symsOf_succ]
    simp only [lcnt]
    by_cases e : ns.getD i 0 = l
    · rw [if_pos ⟨e, hl⟩, if_pos e, List.length_append, symsOf_length ns l hl i]; rfl
    · rw [if_neg (fun h => e h.1), if_neg e, symsOf_length ns l hl i]; rfl
theorem symsOf_zero (ns : List Nat) (i : Nat) : symsOf ns 0 i = [] := by
  unfold symsOf
  rw [List.filter_eq_nil_iff]
  intro a _
  simp
/-- The symbol at a place of its length's row has as many of its length ahead. -/
theorem symsOf_at (ns : List Nat) (l : Nat) (hl : 0 < l) : ∀ (i j : Nat), j < lcnt ns l i → ∃ s, (symsOf ns l i)[j]? = some s ∧ s < i ∧ ns.getD s 0 = l ∧ lcnt ns l s = j
  | 0, j, h => by simp [lcnt] at h
  | i + 1, j, h => by
    rw [symsOf_succ]
    simp only [lcnt] at h
    by_cases e : ns.getD i 0 = l
    · rw [if_pos ⟨e, hl⟩]
      rw [if_pos e] at h
      by_cases hj : j < lcnt ns l i
      · obtain ⟨s, h1, h2, h3, h4⟩ := symsOf_at ns l hl i j hj
        refine ⟨s, ?_, by omega, h3, h4⟩
        rw [List.getElem?_append_left (by rw [symsOf_length ns l hl]; exact hj)]; exact h1
      · have hj' : j = lcnt ns l i := by omega
        refine ⟨i, ?_, by omega, e, hj'.symm⟩
        rw [List.getElem?_append_right (by rw [symsOf_length ns l hl]; omega), symsOf_length ns l hl, hj']; simp
    · rw [if_neg (fun h => e h.1)]
      rw [if_neg e] at h
      obtain ⟨s, h1, h2, h3, h4⟩ := symsOf_at ns l hl i j (by omega)
      exact ⟨s, h1, by omega, h3, h4⟩
/-- The symbol whose word of length l is x. -/
def symW (ns : List Nat) (l x : Nat) : Nat := (symsOf ns l ns.length).getD (x - fstW ns l) 0
theorem symW_ok (ns : List Nat) (l x : Nat) (hl : 0 < l) (h1 : fstW ns l ≤ x) (h2 : x < endW ns l) : symW ns l x < ns.length ∧ ns.getD (symW ns l x) 0 = l ∧ codeW ns (symW ns l x) = x := by
  unfold endW at h2
  obtain ⟨s, e1, e2, e3, e4⟩ := symsOf_at ns l hl ns.length (x - fstW ns l) (by omega)
  have : symW ns l x = s := by unfold symW; rw [List.getD_eq_getElem?_getD, e1]; rfl
  rw [this]
  refine ⟨e2, e3, ?_⟩
  unfold codeW
  rw [e3, e4]; omega
/-- Two symbols of one length and one word are one. -/
theorem codeW_inj (ns : List Nat) (i k : Nat) (hi : i < ns.length) (hk : k < ns.length) (hl : ns.getD i 0 = ns.getD k 0) (hw : codeW ns i = codeW ns k) : i = k := by
  unfold codeW at hw
  rw [hl] at hw
  rcases Nat.lt_trichotomy i k with h | h | h
  · have := lcnt_lt ns (ns.getD k 0) i k h hl; omega
  · exact h
  · have := lcnt_lt ns (ns.getD k 0) k i h rfl; omega
/-- What is read: a symbol (err 0) and how many bits its word has, or why there is none. k lengths are left, l bits were taken: x. -/
def rdS (ns : List Nat) (s : ByteArray) (p : Nat) : Nat → Nat → Nat → Nat × Nat × Nat
  | 0, l, x => (0, l, 30)
  | k + 1, l, x => if x < ew ns l then (symW ns l x, l, 0) else if ew ns 15 ≤ x * 2 ^ (15 - l) then (0, l, 30) else if 8 * s.size ≤ p + l then (0, l, 5) else rdS ns s p k (l + 1) (2 * x + bitAt s (p + l))
def rd (ns : List Nat) (s : ByteArray) (p : Nat) : Nat × Nat × Nat := rdS ns s p 16 0 0
end Go.Proofs.YtbcflkdaeboflaaDoor
namespace Go.Proofs.YtbcflkdaeboflaaDoor
open Go.RowKit
set_option linter.unusedVariables false
set_option maxRecDepth 20000

theorem Tab.cell {w : World} {lo hi t : Nat} {ns : List Nat} {R : Nat → Value} (h : Tab w lo hi t ns R) {k : Nat} (hk : k < 18) : w.cell? ⟨t, k + 1, none⟩ = some (R k) := by
  have h1 := h.blk
  have h2 := tcs_get t (ew ns 15) R (k + 1) (by omega)
  rw [if_neg (by omega), if_neg (by omega), Nat.add_sub_cancel] at h2
  unfold World.cell?
  rw [h1]; exact h2
theorem Tab.self {w : World} {lo hi t : Nat} {ns : List Nat} {R : Nat → Value} (h : Tab w lo hi t ns R) : w.cell? ⟨t, 0, none⟩ = some (.pointer (some ⟨t, 0, none⟩)) := by
  have h1 := h.blk
  have h2 := tcs_get t (ew ns 15) R 0 (by omega)
  unfold World.cell?
  rw [h1]; exact h2
theorem Tab.share {w : World} {lo hi t : Nat} {ns : List Nat} {R : Nat → Value} (h : Tab w lo hi t ns R) : w.cell? ⟨t, 19, none⟩ = some (.int .i64 (ew ns 15 : Nat)) := by
  have h1 := h.blk
  have h2 := tcs_get t (ew ns 15) R 19 (by omega)
  unfold World.cell?
  rw [h1]; exact h2
theorem eqSelfT (a : Addr) (w : World) : (binOp .eql 122 (.pointer (some a)) (.pointer (some a))).run Tryd.prog w = .ok (.bool true) w := by
  obtain ⟨j, hj⟩ : ∃ j, Tryd.prog.info? 141 = some j := Option.isSome_iff_exists.1 (by kernel_rfl)
  exact run_eql_ptr_same w a Tryd.underlying122 hj
theorem eqNilT (a : Addr) (w : World) : (binOp .eql 122 (.pointer none) (.pointer (some a))).run Tryd.prog w = .ok (.bool false) w :=
  eql_nil_ptr w a Tryd.underlying122
theorem tgiven_yes (b : Nat) (w : World) (h0 : w.cell? ⟨b, 0, none⟩ = some (.pointer (some ⟨b, 0, none⟩))) :
    Calls Tryd.prog 82 #[.pointer (some ⟨b, 0, none⟩)] w fun e w' => e = .returned (.bool true) ∧ w' = w := by
  have e1 := eqSelfT ⟨b, 0, none⟩
  go_enter Tryd.func82, Tryd.ntmps82
  go_wp2
  go_ret
  exact ⟨rfl, rfl⟩
theorem tgiven_zero (b : Nat) (w : World) (h0 : w.cell? ⟨b, 0, none⟩ = some (.pointer none)) :
    Calls Tryd.prog 82 #[.pointer (some ⟨b, 0, none⟩)] w fun e w' => e = .returned (.bool false) ∧ w' = w := by
  have e1 := eqNilT ⟨b, 0, none⟩
  go_enter Tryd.func82, Tryd.ntmps82
  go_wp2
  go_ret
  exact ⟨rfl, rfl⟩
theorem tgiven_nil (w : World) :
    Calls Tryd.prog 82 #[.pointer none] w fun e w' => e = .returned (.bool false) ∧ w' = w := by
  go_enter Tryd.func82, Tryd.ntmps82
  go_wp2
  go_ret
  exact ⟨rfl, rfl⟩

theorem sym_len (ns : List Nat) (l : Nat) : fstW ns l + (symsOf ns l ns.length).length = ew ns l := by
  cases l with
  | zero => rw [symsOf_zero]; rfl
  | succ l => rw [symsOf_length ns (l + 1) (by omega)]; rfl
end Go.Proofs.YtbcflkdaeboflaaDoor
namespace Go.Proofs.YtbcflkdaeboflaaDoor
open Go.RowKit

/-- The number whose bits are f 0, f 1, .. -/
def bsum (f : Nat → Nat) : Nat → Nat
  | 0 => 0
  | n + 1 => bsum f n + f n * 2 ^ n
theorem bsum_congr {f g : Nat → Nat} {n : Nat} (h : ∀ i, i < n → f i = g i) : bsum f n = bsum g n := by
  induction n with
  | zero => rfl
  | succ n ih => simp only [bsum]; rw [ih (fun i hi => h i (by omega)), h n (by omega)]
theorem bsum_lt {f : Nat → Nat} {n : Nat} (h : ∀ i, i < n → f i < 2) : bsum f n < 2 ^ n := by
  induction n with
  | zero => simp [bsum]
  | succ n ih =>
    have h1 := h n (by omega)
    have h2 := ih (fun i hi => h i (by omega))
    have : f n * 2 ^ n ≤ 1 * 2 ^ n := Nat.mul_le_mul_right _ (by omega)
    simp only [bsum, Nat.pow_succ]; omega
theorem num_bsum (s : ByteArray) (p n : Nat) : num s p n = bsum (fun i => bitAt s (p + i)) n := by
  induction n with
  | zero => rfl
  | succ n ih => simp only [num, bsum, ih]
/-- f turned at one place. -/
theorem bsum_add {f g : Nat → Nat} {n k c : Nat} (hk : k < n) (h0 : f k = 0) (h1 : g k = c) (h : ∀ i, i < n → i ≠ k → g i = f i) : bsum g n = bsum f n + c * 2 ^ k := by
  induction n with
  | zero => omega
  | succ n ih =>
    simp only [bsum]
    by_cases e : k = n
    · subst e
      rw [bsum_congr (f := g) (g := f) (fun i hi => h i (by omega) (by omega)), h0, h1]; omega
    · rw [ih (by omega) (fun i hi hne => h i (by omega) hne), h n (by omega) (fun e' => e e'.symm)]; omega
/-- The bits of a number of which all from some place on are noughts. -/
theorem bsum_high {f : Nat → Nat} {m n : Nat} (hm : m ≤ n) (h : ∀ i, m ≤ i → i < n → f i = 0) : bsum f n = bsum f m := by
  induction n with
  | zero => rw [show m = 0 by omega]
  | succ n ih =>
    by_cases e : m = n + 1
    · rw [e]
    · simp only [bsum]; rw [ih (by omega) (fun i h1 h2 => h i h1 (by omega)), h n (by omega) (by omega)]; omega

/-- Byte j of a list of bits. -/
def byteOf (L : List Nat) (j : Nat) : Nat := bsum (fun i => L.getD (8 * j + i) 0) 8
/-- Bits as bytes: the last one with noughts behind its bits. -/
def pack (L : List Nat) : List Nat := (List.range ((L.length + 7) / 8)).map (byteOf L)
theorem pack_length (L : List Nat) : (pack L).length = (L.length + 7) / 8 := by simp [pack]
theorem pack_get (L : List Nat) (j : Nat) (h : j < (L.length + 7) / 8) : (pack L)[j]? = some (byteOf L j) := by
  simp [pack, List.getElem?_range h]
def Bits01 (L : List Nat) : Prop := ∀ x ∈ L, x < 2
theorem Bits01.getD {L : List Nat} (h : Bits01 L) (i : Nat) : L.getD i 0 < 2 := by
  rw [List.getD_eq_getElem?_getD]
  cases e : L[i]? with
  | none => simp
  | some x => exact h x (List.mem_of_getElem? e)
theorem Bits01.snoc {L : List Nat} (h : Bits01 L) {c : Nat} (hc : c < 2) : Bits01 (L ++ [c]) := by
  intro x hx; rcases List.mem_append.1 hx with hx | hx
  · exact h x hx
  · simp at hx; omega
theorem byteOf_lt {L : List Nat} (h : Bits01 L) (j : Nat) : byteOf L j < 256 := bsum_lt (n := 8) (fun _ _ => h.getD _)
/-- The byte in which the next bit comes: what is there lies below that bit. -/
theorem byteOf_last {L : List Nat} (h : Bits01 L) : byteOf L (L.length / 8) < 2 ^ (L.length % 8) := by
  unfold byteOf
  rw [bsum_high (m := L.length % 8) (by omega) (fun i h1 h2 => by
    rw [List.getD_eq_getElem?_getD, List.getElem?_eq_none (by omega)]; rfl)]
  exact bsum_lt (fun _ _ => h.getD _)
theorem byteOf_snoc (L : List Nat) (c j : Nat) : byteOf (L ++ [c]) j = if j = L.length / 8 then byteOf L j + c * 2 ^ (L.length % 8) else byteOf L j := by
  unfold byteOf
  split
  · next e =>
    subst e
    refine bsum_add (k := L.length % 8) (by omega) ?_ ?_ ?_
    · rw [List.getD_eq_getElem?_getD, List.getElem?_eq_none (by omega)]; rfl
    · rw [List.getD_eq_getElem?_getD, show 8 * (L.length / 8) + L.length % 8 = L.length by omega]; simp
    · intro i hi hne
      rw [List.getD_eq_getElem?_getD, List.getD_eq_getElem?_getD]
      by_cases hl : 8 * (L.length / 8) + i < L.length
      · rw [List.getElem?_append_left hl]
      · rw [List.getElem?_eq_none (by simp; omega), List.getElem?_eq_none (by omega)]
  · next e =>
    refine bsum_congr (fun i hi => ?_)
    rw [List.getD_eq_getElem?_getD, List.getD_eq_getElem?_getD]
    by_cases hl : 8 * j + i < L.length
    · rw [List.getElem?_append_left hl]
    · rw [List.getElem?_eq_none (by simp; omega), List.getElem?_eq_none (by omega)]
/-- A bit more, within a byte. -/
theorem pack_snoc {L : List Nat} (c : Nat) (h : L.length % 8 ≠ 0) : pack (L ++ [c]) = (pack L).set (L.length / 8) (byteOf L (L.length / 8) + c * 2 ^ (L.length % 8)) := by
  refine List.ext_getElem? (fun j => ?_)
  by_cases hj : j < (L.length + 7) / 8
  · rw [pack_get _ _ (by simp; omega), byteOf_snoc]
    by_cases e : j = L.length / 8
    · subst e
      rw [if_pos rfl, List.getElem?_set_self (by rw [pack_length]; omega)]
    · rw [if_neg e, List.getElem?_set_ne (by omega), pack_get _ _ hj]
  · rw [List.getElem?_eq_none (by rw [pack_length]; simp; omega), List.getElem?_eq_none (by rw [List.length_set, pack_length]; omega)]
/-- A bit more, the first of a byte. -/
theorem pack_snoc0 {L : List Nat} (c : Nat) (h : L.length % 8 = 0) : pack (L ++ [c]) = (pack L ++ [0]).set (L.length / 8) c := by
  have hn : (L.length + 7) / 8 = L.length / 8 := by omega
  refine List.ext_getElem? (fun j => ?_)
  by_cases hj : j < L.length / 8
  · rw [pack_get _ _ (by simp; omega), byteOf_snoc, if_neg (by omega), List.getElem?_set_ne (by omega), List.getElem?_append_left (by rw [pack_length]; omega), pack_get _ _ (by omega)]
  · by_cases e : j = L.length / 8
    · subst e
      rw [pack_get _ _ (by simp; omega), byteOf_snoc, if_pos rfl, List.getElem?_set_self (by simp [pack_length]; omega), h]
      have : byteOf L (L.length / 8) = 0 := by
        unfold byteOf
        rw [bsum_high (m := 0) (by omega) (fun i _ _ => by rw [List.getD_eq_getElem?_getD, List.getElem?_eq_none (by omega)]; rfl)]; rfl
      rw [this]; simp
    · rw [List.getElem?_eq_none (by rw [pack_length]; simp; omega), List.getElem?_eq_none (by rw [List.length_set, List.length_append, pack_length]; simp; omega)]
end Go.Proofs.YtbcflkdaeboflaaDoor
namespace Go.Proofs.YtbcflkdaeboflaaDoor
open Go.RowKit

/-- w' is w but for block b, for rows of element type E from block B on, for draws and for new blocks. -/
structure Fr (E : TypeId) (B b : Nat) (w w' : World) : Prop where
  os : w'.os = w.os
  tape : w'.tape = w.tape
  output : w'.output = w.output
  size : w.heap.size ≤ w'.heap.size
  block : ∀ k, k < w.heap.size → k ≠ b → (k < B ∨ ∀ cur m, w.heap[k]? ≠ some (.cells cur E m)) → w'.heap[k]? = w.heap[k]?
theorem Fr.refl (E : TypeId) (B b : Nat) (w : World) : Fr E B b w w := ⟨rfl, rfl, rfl, Nat.le_refl _, fun _ _ _ _ => rfl⟩
theorem Fr.trans {E : TypeId} {B b : Nat} {u v w : World} (h : Fr E B b u v) (k : Fr E B b v w) : Fr E B b u w :=
  ⟨k.os.trans h.os, k.tape.trans h.tape, k.output.trans h.output, Nat.le_trans h.size k.size, fun i hl hi hc =>
    have e := h.block i hl hi hc
    (k.block i (Nat.lt_of_lt_of_le hl h.size) hi (by rw [e]; exact hc)).trans e⟩
theorem Fr.drewN {E : TypeId} {B b : Nat} {w w' : World} (h : Fr E B b w w') (n : Nat) : Fr E B b w (w'.drewN n) := ⟨h.os, h.tape, h.output, h.size, h.block⟩
theorem Fr.drew {E : TypeId} {B b : Nat} {w w' : World} (h : Fr E B b w w') : Fr E B b w w'.drew := ⟨h.os, h.tape, h.output, h.size, h.block⟩
theorem Fr.only {E : TypeId} {B b : Nat} {w w' : World} (h : Only b w w') : Fr E B b w w' := ⟨h.os, h.tape, h.output, h.size, fun k hl hk _ => h.block k hl hk⟩
theorem Fr.alloc (E : TypeId) (B b : Nat) (w : World) (o : Obj) : Fr E B b w (w.alloc o) :=
  Fr.only (Only.of_below ((Below.refl _ _).alloc (Nat.le_refl _) _))
/-- A store into a row of element type E from B on. -/
theorem Fr.setRow {E : TypeId} {B b g i : Nat} {w : World} {cur : Array Value} {m : Nat × Nat} (hg : w.heap[g]? = some (.cells cur E m)) (hB : B ≤ g) (u : Value) : Fr E B b w (w.setCell ⟨g, i, none⟩ u) :=
  ⟨rfl, rfl, rfl, by simp [World.setCell], fun k _ _ hc => Below.heap_setCell _ _ _ _ (fun e => by
    have e' : k = g := e
    subst e'
    rcases hc with hc | hc
    · omega
    · exact hc _ _ hg)⟩
theorem Fr.grown {E : TypeId} {B b : Nat} {w w' : World} {v : Value} {n size : Nat} {xs : List Value} (ho : w.ownsRow B E size v n xs) (hg : w.grownBy w' v.ownBlock) : Fr E B b w w' :=
  ⟨hg.os, hg.tape, hg.output, hg.size, fun k hl _ hc => hg.block k hl (fun e => by
    rcases ho.2 with ⟨rfl, _⟩ | ⟨g, cap, cur, rfl, hB, hh, _⟩
    · simp [Value.ownBlock] at e
    · have e' : k = g := by simpa [Value.ownBlock] using e
      subst e'
      rcases hc with hc | hc
      · omega
      · exact hc _ _ hh)⟩
theorem Fr.below {E : TypeId} {B b : Nat} {w w' : World} (h : Fr E B b w w') (hb : B ≤ b) (hB : B ≤ w.heap.size) : Below B w w' :=
  ⟨h.os, h.tape, h.output, h.size, fun k hk => h.block k (by omega) (by omega) (.inl hk)⟩

theorem Fr.below_of {E : TypeId} {B B0 b : Nat} {w w' : World} (h : Fr E B b w w') (hb : B0 ≤ b) (hB0 : B0 ≤ B) (hB : B0 ≤ w.heap.size) : Below B0 w w' :=
  ⟨h.os, h.tape, h.output, h.size, fun k hk => h.block k (by omega) (by omega) (.inl (by omega))⟩
/-- The cells of packed bits. -/
def pcells (L : List Nat) : List Value := (pack L).map fun x => Value.int .u8 (x : Nat)
theorem pcells_length (L : List Nat) : (pcells L).length = (L.length + 7) / 8 := by simp [pcells, pack_length]
theorem pcells_get (L : List Nat) (j : Nat) (h : j < (L.length + 7) / 8) : (pcells L)[j]? = some (.int .u8 (byteOf L j : Nat)) := by simp [pcells, pack_get L j h]

/-- Block b is a writer that NewWriter gave, into which the bits L were written; its bytes lie from block B on. -/
def WS (w : World) (B b : Nat) (L : List Nat) : Prop :=
  ∃ v, w.heap[b]? = some (.cells #[.pointer (some ⟨b, 0, none⟩), v, .int .i64 (L.length : Nat)] 84 (0, 0)) ∧ w.ownsRow B 5 1 v ((L.length + 7) / 8) (pcells L) ∧ Bits01 L ∧ L.length ≤ 1125899906842624

theorem cells3 {w : World} {b : Nat} {x y z : Value} {t : TypeId} (h : w.heap[b]? = some (.cells #[x, y, z] t (0, 0))) :
    w.cell? ⟨b, 0, none⟩ = some x ∧ w.cell? ⟨b, 1, none⟩ = some y ∧ w.cell? ⟨b, 2, none⟩ = some z ∧ w.frozen? ⟨b, 1, none⟩ = false ∧ w.frozen? ⟨b, 2, none⟩ = false :=
  ⟨by simp [World.cell?, h], by simp [World.cell?, h], by simp [World.cell?, h], by simp [World.frozen?, h], by simp [World.frozen?, h]⟩
end Go.Proofs.YtbcflkdaeboflaaDoor
namespace Go.Proofs.YtbcflkdaeboflaaDoor
open Go.RowKit
set_option linter.unusedVariables false
set_option maxRecDepth 20000

/-- The n lowest bits of a number, the lowest first. -/
def bitsOf (x : Nat) : Nat → List Nat
  | 0 => []
  | n + 1 => bitsOf x n ++ [x / 2 ^ n % 2]
theorem bitsOf_length (x n : Nat) : (bitsOf x n).length = n := by
  induction n with
  | zero => rfl
  | succ n ih => simp [bitsOf, ih]
theorem wrap_pow (n : Nat) (h : n ≤ 57) : wrap64 ((2 : Int) ^ n) = 2 ^ n := by
  have h1 := pow_le n 57 h
  have h2 : ((2 ^ n : Nat) : Int) = 2 ^ n := by simp
  rw [← h2]
  generalize 2 ^ n = y at h1 ⊢
  exact IntWalk.wrap64_in _ ⟨by omega, by omega⟩
theorem bit_x (x k : Nat) (hx : x < 18446744073709551616) : bits .and .u64 ((x : Int) / 2 ^ k) 1 = ((x / 2 ^ k % 2 : Nat) : Int) := by
  have e : (x : Int) / 2 ^ k = ((x / 2 ^ k : Nat) : Int) := by simp
  have hl : x / 2 ^ k ≤ x := Nat.div_le_self _ _
  have h := u64_and_nat (x / 2 ^ k) 1 (by omega) (by omega)
  rw [e, show (1 : Int) = ((1 : Nat) : Int) from rfl, h, nat_mask1]
theorem or_u8 (y c q : Nat) (hq : q < 8) (hy : y < 2 ^ q) (hc : c < 2) : bits .or .u8 (y : Int) ((c : Int) % 256 * 2 ^ q % 256) = ((y + c * 2 ^ q : Nat) : Int) := by
  have h7 := pow_le q 7 (by omega)
  have hm : c * 2 ^ q ≤ 1 * 2 ^ q := Nat.mul_le_mul_right _ (by omega)
  have e0 : (c : Int) % 256 = (c : Int) := by omega
  have e2 : (c : Int) * 2 ^ q = ((c * 2 ^ q : Nat) : Int) := by simp
  have e3 : ((c * 2 ^ q : Nat) : Int) % 256 = ((c * 2 ^ q : Nat) : Int) := by generalize c * 2 ^ q = z at *; omega
  rw [e0, e2, e3, u8_or_nat _ _ (by omega) (by omega), Nat.or_comm, nat_join q (c * 2 ^ q) y (by simp) hy]
  omega
theorem step_y (x k y q : Nat) (hx : x < 18446744073709551616) (hq : q < 8) (hy : y < 2 ^ q) :
    bits .or .u8 (y : Int) (bits .and .u64 ((x : Int) / 2 ^ k) 1 % 256 * 2 ^ q % 256) = ((y + x / 2 ^ k % 2 * 2 ^ q : Nat) : Int) := by
  rw [bit_x x k hx]
  exact or_u8 y (x / 2 ^ k % 2) q hq hy (Nat.mod_lt _ (by omega))

theorem step_0 (x k : Nat) (hx : x < 18446744073709551616) : bits .or .u8 (0 : Int) (bits .and .u64 ((x : Int) / 2 ^ k) 1 % 256) = ((x / 2 ^ k % 2 : Nat) : Int) := by
  have h := step_y x k 0 0 hx (by omega) (by simp)
  have h2 : x / 2 ^ k % 2 < 2 := Nat.mod_lt _ (by omega)
  rw [bit_x x k hx] at h ⊢
  generalize x / 2 ^ k % 2 = c at *
  have e : (c : Int) % 256 * 2 ^ 0 % 256 = (c : Int) % 256 := by omega
  rw [e] at h
  rw [show (0 : Int) = ((0 : Nat) : Int) from rfl, h]
  omega
theorem pcells_snoc {M : List Nat} (c : Nat) (h : M.length % 8 ≠ 0) : (pcells M).set (M.length / 8) (.int .u8 (byteOf M (M.length / 8) + c * 2 ^ (M.length % 8) : Nat)) = pcells (M ++ [c]) := by
  unfold pcells
  rw [pack_snoc c h, List.map_set]
theorem pcells_snoc0 {M : List Nat} (c : Nat) (h : M.length % 8 = 0) : (pcells M ++ [Value.int .u8 0]).set (M.length / 8) (.int .u8 (c : Nat)) = pcells (M ++ [c]) := by
  unfold pcells
  rw [pack_snoc0 c h, List.map_set, List.map_append]
  rfl
theorem ownsRow_block {w w' : World} {B : Nat} {E : TypeId} {size g n cap : Nat} {xs : List Value} (h : w.ownsRow B E size (.slice (some ⟨g, 0, none⟩) n cap) n xs) (e : w'.heap[g]? = w.heap[g]?) : w'.ownsRow B E size (.slice (some ⟨g, 0, none⟩) n cap) n xs := by
  refine ⟨h.1, .inr ?_⟩
  rcases h.2 with ⟨he, _⟩ | ⟨g', cap', cur, he, hB, hh, r⟩
  · cases he
  · cases he
    exact ⟨g, cap, cur, rfl, hB, e.trans hh, r⟩
theorem ownsRow_heap {w : World} {B : Nat} {E : TypeId} {size g n cap : Nat} {xs : List Value} (h : w.ownsRow B E size (.slice (some ⟨g, 0, none⟩) n cap) n xs) : B ≤ g ∧ ∃ cur, w.heap[g]? = some (.cells cur E (0, 0)) := by
  rcases h.2 with ⟨he, _⟩ | ⟨g', cap', cur, he, hB, hh, r⟩
  · cases he
  · cases he
    exact ⟨hB, cur, hh⟩
/-- One bit more: the byte is written, then the place. -/
theorem step_store {w : World} {B b g cap m p : Nat} {M : List Nat} {xs : List Value} (c : Nat)
    (hbl : w.heap[b]? = some (.cells #[.pointer (some ⟨b, 0, none⟩), .slice (some ⟨g, 0, none⟩) m cap, .int .i64 (p : Nat)] 84 (0, 0)))
    (hown : w.ownsRow B 5 1 (.slice (some ⟨g, 0, none⟩) m cap) m xs) (hp : p = M.length) (hm : m = ((M ++ [c]).length + 7) / 8) (h01 : Bits01 M) (hc : c < 2) (hlen : p < 1125899906842624)
    (u : Value) (hu : xs.set (p / 8) u = pcells (M ++ [c])) (q : Value) (hq : q = .int .i64 ((p : Int) + 1)) :
    WS ((w.setCell ⟨g, p / 8, none⟩ u).setCell ⟨b, 2, none⟩ q) B b (M ++ [c]) ∧ Fr 5 B b w ((w.setCell ⟨g, p / 8, none⟩ u).setCell ⟨b, 2, none⟩ q) := by
  obtain ⟨hBg, cur, hh⟩ := ownsRow_heap hown
  have hgb : g ≠ b := by rintro rfl; rw [hbl] at hh; cases hh
  subst hq
  have hb1 : (w.setCell ⟨g, p / 8, none⟩ u).heap[b]? = w.heap[b]? := Below.heap_setCell _ _ _ _ (fun e => hgb e.symm)
  constructor
  · have hL : (((M ++ [c]).length : Nat) : Int) = (p : Int) + 1 := by simp [hp]
    refine ⟨.slice (some ⟨g, 0, none⟩) m cap, ?_, ?_, h01.snoc hc, by simp; omega⟩
    · rw [hL]; exact block_setCell (i := 2) (hb1.trans hbl)
    have h2 := (hown.stored (p / 8) u).1
    rw [hu] at h2
    rw [← hm]
    refine ownsRow_block h2 (Below.heap_setCell _ _ _ _ hgb)
  · exact (Fr.setRow hh hBg u).trans (Fr.only (Only.setCell b 2 _ _))
end Go.Proofs.YtbcflkdaeboflaaDoor
namespace Go.Proofs.YtbcflkdaeboflaaDoor
open Go.RowKit
set_option linter.unusedVariables false
set_option maxRecDepth 20000

theorem Tryd.infoU8 : (Tryd.prog.info? 5).map (fun i => (i.zero, i.size, i.bytes)) = some (some (.int .u8 0), 1, 1) := by kernel_rfl
set_option maxHeartbeats 1000000 in
theorem wbits (B b : Nat) (L : List Nat) (x n : Nat) (w : World) (hn : n ≤ 57) (hx : x < 2 ^ n) (hL : L.length + n ≤ 1125899906842624) (hw : WS w B b L) (hB : B ≤ w.heap.size) :
    Calls Tryd.prog 54 #[.pointer (some ⟨b, 0, none⟩), .int .i64 x, .int .i64 n] w fun e w' => e = .returned (.int .i64 0) ∧ WS w' B b (L ++ bitsOf x n) ∧ Fr 5 B b w w' := by
  have HW : Hid (WS w B b L) := hw
  have hx64 : x < 18446744073709551616 := by have := pow_le n 57 hn; omega
  obtain ⟨v, hb, _⟩ := hw
  obtain ⟨h0, _⟩ := cells3 hb
  clear hb
  go_enter Tryd.func54, Tryd.ntmps54
  go_wp2_with (go_at_call 50; refine (wgiven_yes _ _ h0).mono ?_; rintro e w' ⟨rfl, rfl⟩)
  · exfalso
    have hh : (((n : Int) < 0 ∨ 57 < (n : Int)) ∨ (x : Int) < 0) ∨ wrap64 (2 ^ n) ≤ (x : Int) := by assumption
    rw [wrap_pow n hn] at hh
    have : ((2 ^ n : Nat) : Int) = 2 ^ n := by simp
    omega
  go_loopw [31] (fun i wr => ∃ k : Nat, k ≤ n ∧ i = .int .i64 k ∧ WS wr B b (L ++ bitsOf x k) ∧ Fr 5 B b w' wr) (fun i _ => n - (intOf i).toNat)
  case atStart => exact ⟨0, Nat.zero_le _, rfl, by simpa [bitsOf] using HW.out, Fr.refl _ _ _ _⟩
  case round =>
    obtain ⟨k, hk, rfl, hws, hfr⟩ := hrel
    by_cases hlt : k < n
    · have HF : Hid (Fr 5 B b w' wr) := hfr
      have HWS : Hid (WS wr B b (L ++ bitsOf x k)) := hws
      obtain ⟨v, hbl, hown, h01, hlen⟩ := hws
      obtain ⟨p, hp⟩ : ∃ p, p = (L ++ bitsOf x k).length := ⟨_, rfl⟩
      rw [← hp] at hbl hown hlen
      have HP : Hid (p = (L ++ bitsOf x k).length) := hp
      obtain ⟨M, hM⟩ : ∃ M, M = L ++ bitsOf x k := ⟨_, rfl⟩
      rw [← hM] at hp hown h01
      have hpn : p < 1125899906842624 := by rw [HP.out]; simp [bitsOf_length]; omega
      clear hp hfr
      obtain ⟨_, c1, c2, f1, f2⟩ := cells3 hbl
      by_cases h8 : p % 8 = 0
      · have hHP := HP.out
        have HMM : Hid (M = L ++ bitsOf x k) := hM
        obtain ⟨m, hm⟩ : ∃ m, m = (p + 7) / 8 := ⟨_, rfl⟩
        rw [← hm] at hown
        have HM : Hid (m = (p + 7) / 8) := hm
        have hmb : m ≤ 1125899906842624 := by omega
        have hBw : B ≤ wr.heap.size := by have := HF.out.size; omega
        clear hm hHP hM
        obtain ⟨i0, hi, hz0, hz1, hz2⟩ := info_parts Tryd.infoU8
        go_wp2_with (at_builtin; refine wpList_append_lies _ rfl _ _ 28 rfl B 5 i0 (.int .u8 0) 1 1 Tryd.underlying28 hi hz0 hz1 hz2 rfl (by decide) v m (pcells M) rfl (hown.alloc _) ⟨wr.heap.size, 0, none⟩ 1 1 [.int .u8 0] rfl rfl ?c1 ?c2 (by decide) ?c3 ?c4 ?c5 (wr.heap.size + 1) ?c6 ?_)
        case c1 =>
          intro j u hj
          match j, hj with
          | 0, hj => simp at hj; subst hj; simp [Addr.add]
        case c2 => intro u hu; simp at hu; subst hu; rfl
        case c3 => unfold maxLen; omega
        case c4 => have := HM.out; omega
        case c5 => simp; omega
        case c6 => simp
        intro g cap w1 hown1 hgrow hat hgl
        have hml := HM.out
        have hML : p = M.length := by rw [HP.out, HMM.out]
        have hg1 := ownsRow_heap hown1
        have hblA : (wr.alloc (.cells #[Value.int .u8 0] 5)).heap[b]? = wr.heap[b]? := Below.heap_alloc _ _ _ (lt_of_block hbl)
        have hFr : Fr 5 B b wr w1 := (Fr.alloc _ _ _ _ _).trans (Fr.grown (hown.alloc _) hgrow)
        have hbl1 : w1.heap[b]? = some (.cells #[.pointer (some ⟨b, 0, none⟩), v, .int .i64 (p : Nat)] 84 (0, 0)) :=
          (hgrow.block b (by simp; have := lt_of_block hbl; omega) (fun e => by
            rcases hown.2 with ⟨rfl, _⟩ | ⟨g', cap', cur, rfl, _, hh, _⟩
            · simp [Value.ownBlock] at e
            · have e' : b = g' := by simpa [Value.ownBlock] using e
              subst e'; rw [hbl] at hh; cases hh)).trans (hblA.trans hbl)
        obtain ⟨_, _, c2', f1', f2'⟩ := cells3 hbl1
        have hgb : g ≠ b := by
          rintro rfl
          obtain ⟨_, cur, hh⟩ := hg1
          rw [hbl1] at hh; cases hh
        have hy : w1.cell? ⟨g, p / 8, none⟩ = some (.int .u8 0) := by
          rw [hown1.cellAt (p / 8) (by omega), List.getElem?_append_right (by rw [pcells_length, ← hML]; omega), pcells_length, ← hML, show p / 8 - (p + 7) / 8 = 0 by omega]; rfl
        have fy := hown1.frozenAt (p / 8)
        have hpm : p / 8 < m + 1 := by omega
        have HS : Hid (WS _ B b (M ++ [x / 2 ^ k % 2]) ∧ Fr 5 B b _ _) := step_store (w := w1.setCell ⟨b, 1, none⟩ (.slice (some ⟨g, 0, none⟩) (m + 1) cap)) (g := g) (cap := cap) (m := m + 1) (p := p) (M := M) (x / 2 ^ k % 2)
          (block_setCell (i := 1) hbl1) (ownsRow_block hown1 (Below.heap_setCell _ _ _ _ hgb)) hML (by simp; omega) h01 (Nat.mod_lt _ (by omega)) hpn
          (.int .u8 (bits BinOp.or IntKind.u8 0 (bits BinOp.and IntKind.u64 (↑x / 2 ^ k) 1 % 256)))
          (by rw [step_0 x k hx64, hML]; exact pcells_snoc0 (x / 2 ^ k % 2) (by rw [← hML]; exact h8)) _ rfl
        have HFr : Hid (Fr 5 B b wr w1) := hFr
        clear hat hown1 hgrow hg1 hblA hFr hbl1 hml hML hown c1 c2 f1 f2 hbl
        go_wp2
        go_region
        go_wp2
        go_roundw
        case rel =>
          exact ⟨k + 1, by omega, by go_num, by rw [bitsOf, ← List.append_assoc, ← HMM.out]; exact HS.out.1, HF.out.trans (HFr.out.trans ((Fr.only (Only.setCell b 1 _ _)).trans HS.out.2)).drew⟩
        case measure => simp [intOf]; omega
      · obtain ⟨g, cap, rfl, hBg, hgl⟩ := hown.form (by omega)
        have hHP := HP.out
        have hpm : p / 8 < (p + 7) / 8 := by omega
        obtain ⟨m, hm⟩ : ∃ m, m = (p + 7) / 8 := ⟨_, rfl⟩
        rw [← hm] at c1 hown hpm hbl
        have hy : wr.cell? ⟨g, p / 8, none⟩ = some (.int .u8 (byteOf M (p / 8) : Nat)) := by
          rw [hown.cellAt (p / 8) (by omega), pcells_get M (p / 8) (by rw [hM, ← hHP]; omega)]
        have fy := hown.frozenAt (p / 8)
        have hgb : g ≠ b := by
          rintro rfl
          rcases hown.2 with ⟨he, _⟩ | ⟨g', cap', cur, he, _, hh, _⟩
          · cases he
          · cases he; rw [hbl] at hh; cases hh
        have HM : Hid (m = (p + 7) / 8) := hm
        have HMM : Hid (M = L ++ bitsOf x k) := hM
        clear hm hHP hM
        go_wp2
        go_region
        go_wp2
        go_roundw
        case rel =>
          have hP := HP.out
          have hml := HM.out
          have hML : p = M.length := by rw [hP, HMM.out]
          have hbL : (bitsOf x k).length = k := bitsOf_length x k
          have hyq : byteOf M (p / 8) < 2 ^ (p % 8) := by rw [hML]; exact byteOf_last h01
          have S := step_store (x / 2 ^ k % 2) hbl hown hML (by simp; omega) h01 (Nat.mod_lt _ (by omega)) hpn
            (.int .u8 (bits BinOp.or IntKind.u8 (↑(byteOf M (p / 8))) (bits BinOp.and IntKind.u64 (↑x / 2 ^ k) 1 % 256 * 2 ^ (p % 8) % 256)))
            (by rw [step_y x k _ _ hx64 (by omega) hyq, hML]; exact pcells_snoc _ (by rw [← hML]; exact h8)) _ rfl
          exact ⟨k + 1, by omega, by go_num, by rw [bitsOf, ← List.append_assoc, ← HMM.out]; exact S.1, (HF.out.trans S.2).drew⟩
        case measure => simp [intOf]; omega
    · obtain rfl : k = n := by omega
      go_wp2
      go_ret
      exact ⟨rfl, hws, hfr⟩
end Go.Proofs.YtbcflkdaeboflaaDoor
namespace Go.Proofs.YtbcflkdaeboflaaDoor
open Go.RowKit
set_option linter.unusedVariables false
set_option maxRecDepth 20000

/-- Numbers below 256 as a text. -/
def toBA (l : List Nat) : ByteArray := ⟨(l.map UInt8.ofNat).toArray⟩
def u8cells (l : List Nat) : List Value := l.map fun x => Value.int .u8 (x : Nat)
theorem conv_row {P : Program} (w : World) (src dst e : TypeId) (B : Nat) (v : Value) (l : List Nat) (hs : P.underlying src = some (.slice e)) (he : P.underlying e = some (.int .u8)) (hd : P.underlying dst = some .string)
    (hown : w.ownsRow B e 1 v l.length (u8cells l)) (hl : ∀ x ∈ l, x < 256) : (convert src dst v).run P w = .ok (.string (toBA l)) w := by
  rcases hown.2 with ⟨rfl, h0⟩ | ⟨g, cap, cur, rfl, hB, hh, hnc, hcm, hcs, htk⟩
  · have : l = [] := List.length_eq_zero_iff.1 h0
    subst this
    rw [run_convert_bytes_string w src dst e none 0 0 hs he hd]
    simp [Conv.bytesToString]
    rfl
  · have hlen : (l.map UInt8.ofNat).length = l.length := by simp
    have := run_convert_bytes_back (P := P) w src dst e ⟨g, 0, none⟩ cap (l.map UInt8.ofNat) hs he hd (fun j hj => by
      have hj' : j < l.length := by simpa using hj
      have hx := hl l[j] (List.getElem_mem hj')
      refine hown.cells (g := g) rfl j _ ?_
      simp [u8cells, List.getElem?_eq_getElem hj']
      omega)
    rw [hlen] at this
    exact this
/-- The bits of a text. -/
def textBits (s : ByteArray) : List Nat := (List.range (8 * s.size)).map (bitAt s)
theorem textBits_length (s : ByteArray) : (textBits s).length = 8 * s.size := by simp [textBits]
theorem textBits_01 (s : ByteArray) : Bits01 (textBits s) := by
  intro x hx
  simp only [textBits, List.mem_map] at hx
  obtain ⟨i, _, rfl⟩ := hx
  exact bitAt_lt s i
theorem Bits01.append {L M : List Nat} (h : Bits01 L) (k : Bits01 M) : Bits01 (L ++ M) := by
  intro x hx; rcases List.mem_append.1 hx with hx | hx
  · exact h x hx
  · exact k x hx
theorem bitsOf_01 (x n : Nat) : Bits01 (bitsOf x n) := by
  induction n with
  | zero => intro y hy; cases hy
  | succ n ih => exact ih.snoc (Nat.mod_lt _ (by omega))
theorem bitsOf_get (x n i : Nat) (h : i < n) : (bitsOf x n)[i]? = some (x / 2 ^ i % 2) := by
  induction n with
  | zero => omega
  | succ n ih =>
    unfold bitsOf
    by_cases e : i = n
    · subst e; rw [List.getElem?_append_right (by rw [bitsOf_length]; exact Nat.le_refl _), bitsOf_length]; simp
    · rw [List.getElem?_append_left (by rw [bitsOf_length]; omega)]; exact ih (by omega)
theorem bsum_bits (y n : Nat) (hy : y < 2 ^ n) : bsum (fun i => y / 2 ^ i % 2) n = y := by
  have h : ∀ n, bsum (fun i => y / 2 ^ i % 2) n = y % 2 ^ n := by
    intro n
    induction n with
    | zero => simp [bsum, Nat.mod_one]
    | succ n ih => simp only [bsum]; rw [ih, Nat.mod_pow_succ, Nat.mul_comm (2 ^ n)]
  rw [h, Nat.mod_eq_of_lt hy]
theorem byteOf_text (L : List Nat) (s : ByteArray) (j : Nat) (h8 : L.length % 8 = 0) (hj : j < s.size) : byteOf (L ++ textBits s) (L.length / 8 + j) = (s.data.toList.getD j 0).toNat := by
  have e : byteOf (L ++ textBits s) (L.length / 8 + j) = bsum (fun i => (s.data.toList.getD j 0).toNat / 2 ^ i % 2) 8 := by
    refine bsum_congr (fun i hi => ?_)
    rw [List.getD_eq_getElem?_getD, List.getElem?_append_right (by omega), show 8 * (L.length / 8 + j) + i - L.length = 8 * j + i by omega]
    simp only [textBits]
    rw [List.getElem?_map, List.getElem?_range (by omega)]
    simp only [Option.map_some, Option.getD_some, bitAt]
    rw [show (8 * j + i) / 8 = j by omega, show (8 * j + i) % 8 = i by omega]
  rw [e]
  exact bsum_bits _ 8 (UInt8.toNat_lt _)
theorem byteOf_left (L M : List Nat) (j : Nat) (h : 8 * j + 8 ≤ L.length) : byteOf (L ++ M) j = byteOf L j := by
  refine bsum_congr (fun i hi => ?_)
  rw [List.getD_eq_getElem?_getD, List.getD_eq_getElem?_getD, List.getElem?_append_left (by omega)]
/-- Whole bytes behind whole bytes. -/
theorem pack_text (L : List Nat) (s : ByteArray) (h8 : L.length % 8 = 0) : pack (L ++ textBits s) = pack L ++ s.data.toList.map UInt8.toNat := by
  have hl := textBits_length s
  have hs : s.data.toList.length = s.size := by simp
  refine List.ext_getElem? (fun j => ?_)
  by_cases hj : j < L.length / 8
  · rw [pack_get _ _ (by rw [List.length_append]; omega), byteOf_left _ _ _ (by omega), List.getElem?_append_left (by rw [pack_length]; omega), pack_get _ _ (by omega)]
  · by_cases hj2 : j < L.length / 8 + s.size
    · rw [pack_get _ _ (by rw [List.length_append]; omega), List.getElem?_append_right (by rw [pack_length]; omega), pack_length, show j - (L.length + 7) / 8 = j - L.length / 8 by omega]
      have := byteOf_text L s (j - L.length / 8) h8 (by omega)
      rw [show L.length / 8 + (j - L.length / 8) = j by omega] at this
      rw [this, List.getElem?_map, List.getD_eq_getElem?_getD, List.getElem?_eq_getElem (by omega)]
      rfl
    · rw [List.getElem?_eq_none (by rw [pack_length, List.length_append]; omega), List.getElem?_eq_none (by rw [List.length_append, pack_length, List.length_map]; omega)]
/-- How many noughts there are up to a byte's end. -/
def padOf (n : Nat) : Nat := (n + 7) / 8 * 8 - n
def padded (L : List Nat) : List Nat := L ++ List.replicate (padOf L.length) 0
theorem padded_length (L : List Nat) : (padded L).length = (L.length + 7) / 8 * 8 := by simp [padded, padOf]; omega
theorem padded_01 {L : List Nat} (h : Bits01 L) : Bits01 (padded L) := h.append (fun x hx => by have := (List.mem_replicate.1 hx).2; omega)
theorem pack_padded (L : List Nat) : pack (padded L) = pack L := by
  refine List.ext_getElem? (fun j => ?_)
  have hl := padded_length L
  by_cases hj : j < (L.length + 7) / 8
  · rw [pack_get _ _ (by rw [hl]; omega), pack_get _ _ hj]
    refine congrArg some (bsum_congr (fun i hi => ?_))
    rw [List.getD_eq_getElem?_getD, List.getD_eq_getElem?_getD]
    by_cases hi2 : 8 * j + i < L.length
    · rw [padded, List.getElem?_append_left hi2]
    · rw [padded, List.getElem?_append_right (by omega), List.getElem?_eq_none (l := L) (by omega), List.getElem?_replicate]
      split <;> rfl
  · rw [List.getElem?_eq_none (by rw [pack_length, hl]; omega), List.getElem?_eq_none (by rw [pack_length]; omega)]
end Go.Proofs.YtbcflkdaeboflaaDoor
