/- A writer's state in memory, and the frame of its calls. -/
/- A writer's step: one bit more. -/
/- Writer.Bits: the bits of a number behind those that were written. -/
/- Bytes as a text: what string(b) gives of a row of bytes that the call owns. Bits of a text, and noughts up to a byte's end. -/
/- The writer's other calls: refusals, Align, Bytes, Place, Done. -/
/- PutVar, the program's and the document's: a number as groups of seven bits. -/
/- Plain mathematics of numbers as so many bytes. -/
/- Plain mathematics of numbers as groups of seven bits. -/
/- Nothing of its own: layer 9's texts stand on the texts of layer 1 that speak of numbers as bytes. -/
/- Var, the program's. -/
/- Var, the document's. -/
/- The walk of BitsVars. -/
/- Records: what may be, their bytes; the small functions of package record. -/
/- A record's bytes are written into a builder: putNumber, put. -/
import Derived.Test.YtcjlcieheepegaaGreatDoorV09
import Derived.Test.YtcjlcieheepegaaGreatDoorV01
import Derived.Deep.AppendLies
import Derived.Laws.IdiomStrings
import Derived.Lib.AppendStr
namespace Go.Proofs.YtcjlcieheepegaaGreatDoor
open Go.RowKit

/-- w' is w but for block b, for rows of element type E from block B on, for draws and for new blocks. -/
structure Fr (E : TypeId) (B b : Nat) (w w' : World) : Prop where
  os : w'.os = w.os
  tape : w'.tape = w.tape
  output : w'.output = w.output
  size : w.heap.size ≤ w'.heap.size
  block : ∀ k, k < w.heap.size → k ≠ b → (k < B ∨ ∀ cur m, w.heap[k]? ≠ some (.cells cur E m)) → w'.heap[k]? = w.heap[k]?
theorem Fr.refl (E : TypeId) (B b : Nat) (w : World) : Fr E B b w w := ⟨rfl, rfl, rfl, Nat.le_refl _, fun _ _ _ _ => rfl⟩
theorem Fr.trans {E : TypeId} {B b : Nat} {u v w : World} (h : Fr E B b u v) (k : Fr E B b v w) : Fr E B b u w :=
  ⟨k.os.trans h.os, k.tape.trans h.tape, k.output.trans h.output, Nat.le_trans h.size k.size, fun i hl hi hc =>
    have e := h.block i hl hi hc
    (k.block i (Nat.lt_of_lt_of_le hl h.size) hi (by rw [e]; exact hc)).trans e⟩
theorem Fr.drewN {E : TypeId} {B b : Nat} {w w' : World} (h : Fr E B b w w') (n : Nat) : Fr E B b w (w'.drewN n) := ⟨h.os, h.tape, h.output, h.size, h.block⟩
theorem Fr.drew {E : TypeId} {B b : Nat} {w w' : World} (h : Fr E B b w w') : Fr E B b w w'.drew := ⟨h.os, h.tape, h.output, h.size, h.block⟩
theorem Fr.only {E : TypeId} {B b : Nat} {w w' : World} (h : Only b w w') : Fr E B b w w' := ⟨h.os, h.tape, h.output, h.size, fun k hl hk _ => h.block k hl hk⟩
theorem Fr.alloc (E : TypeId) (B b : Nat) (w : World) (o : Obj) : Fr E B b w (w.alloc o) :=
  Fr.only (Only.of_below ((Below.refl _ _).alloc (Nat.le_refl _) _))
/-- A store into a row of element type E from B on. -/
theorem Fr.setRow {E : TypeId} {B b g i : Nat} {w : World} {cur : Array Value} {m : Nat × Nat} (hg : w.heap[g]? = some (.cells cur E m)) (hB : B ≤ g) (u : Value) : Fr E B b w (w.setCell ⟨g, i, none⟩ u) :=
  ⟨rfl, rfl, rfl, by simp [World.setCell], fun k _ _ hc => Below.heap_setCell _ _ _ _ (fun e => by
    have e' : k = g := e
    subst e'
    rcases hc with hc | hc
    · omega
    · exact hc _ _ hg)⟩
theorem Fr.grown {E : TypeId} {B b : Nat} {w w' : World} {v : Value} {n size : Nat} {xs : List Value} (ho : w.ownsRow B E size v n xs) (hg : w.grownBy w' v.ownBlock) : Fr E B b w w' :=
  ⟨hg.os, hg.tape, hg.output, hg.size, fun k hl _ hc => hg.block k hl (fun e => by
    rcases ho.2 with ⟨rfl, _⟩ | ⟨g, cap, cur, rfl, hB, hh, _⟩
    · simp [Value.ownBlock] at e
    · have e' : k = g := by simpa [Value.ownBlock] using e
      subst e'
      rcases hc with hc | hc
      · omega
      · exact hc _ _ hh)⟩
theorem Fr.below {E : TypeId} {B b : Nat} {w w' : World} (h : Fr E B b w w') (hb : B ≤ b) (hB : B ≤ w.heap.size) : Below B w w' :=
  ⟨h.os, h.tape, h.output, h.size, fun k hk => h.block k (by omega) (by omega) (.inl hk)⟩

theorem Fr.below_of {E : TypeId} {B B0 b : Nat} {w w' : World} (h : Fr E B b w w') (hb : B0 ≤ b) (hB0 : B0 ≤ B) (hB : B0 ≤ w.heap.size) : Below B0 w w' :=
  ⟨h.os, h.tape, h.output, h.size, fun k hk => h.block k (by omega) (by omega) (.inl (by omega))⟩
/-- The cells of packed bits. -/
def pcells (L : List Nat) : List Value := (pack L).map fun x => Value.int .u8 (x : Nat)
theorem pcells_length (L : List Nat) : (pcells L).length = (L.length + 7) / 8 := by simp [pcells, pack_length]
theorem pcells_get (L : List Nat) (j : Nat) (h : j < (L.length + 7) / 8) : (pcells L)[j]? = some (.int .u8 (byteOf L j : Nat)) := by simp [pcells, pack_get L j h]

/-- Block b is a writer that NewWriter gave, into which the bits L were written; its bytes lie from block B on. -/
def WS (w : World) (B b : Nat) (L : List Nat) : Prop :=
  ∃ v, w.heap[b]? = some (.cells #[.pointer (some ⟨b, 0, none⟩), v, .int .i64 (L.length : Nat)] 264 (0, 0)) ∧ w.ownsRow B 5 1 v ((L.length + 7) / 8) (pcells L) ∧ Bits01 L ∧ L.length ≤ 1125899906842624

theorem cells3 {w : World} {b : Nat} {x y z : Value} {t : TypeId} (h : w.heap[b]? = some (.cells #[x, y, z] t (0, 0))) :
    w.cell? ⟨b, 0, none⟩ = some x ∧ w.cell? ⟨b, 1, none⟩ = some y ∧ w.cell? ⟨b, 2, none⟩ = some z ∧ w.frozen? ⟨b, 1, none⟩ = false ∧ w.frozen? ⟨b, 2, none⟩ = false :=
  ⟨by simp [World.cell?, h], by simp [World.cell?, h], by simp [World.cell?, h], by simp [World.frozen?, h], by simp [World.frozen?, h]⟩
end Go.Proofs.YtcjlcieheepegaaGreatDoor
namespace Go.Proofs.YtcjlcieheepegaaGreatDoor
open Go.RowKit
set_option linter.unusedVariables false
set_option maxRecDepth 20000

/-- The n lowest bits of a number, the lowest first. -/
def bitsOf (x : Nat) : Nat → List Nat
  | 0 => []
  | n + 1 => bitsOf x n ++ [x / 2 ^ n % 2]
theorem bitsOf_length (x n : Nat) : (bitsOf x n).length = n := by
  induction n with
  | zero => rfl
  | succ n ih => simp [bitsOf, ih]
theorem wrap_pow (n : Nat) (h : n ≤ 57) : wrap64 ((2 : Int) ^ n) = 2 ^ n := by
  have h1 := pow_le n 57 h
  have h2 : ((2 ^ n : Nat) : Int) = 2 ^ n := by simp
  rw [← h2]
  generalize 2 ^ n = y at h1 ⊢
  exact IntWalk.wrap64_in _ ⟨by omega, by omega⟩
theorem bit_x (x k : Nat) (hx : x < 18446744073709551616) : bits .and .u64 ((x : Int) / 2 ^ k) 1 = ((x / 2 ^ k % 2 : Nat) : Int) := by
  have e : (x : Int) / 2 ^ k = ((x / 2 ^ k : Nat) : Int) := by simp
  have hl : x / 2 ^ k ≤ x := Nat.div_le_self _ _
  have h := u64_and_nat (x / 2 ^ k) 1 (by omega) (by omega)
  rw [e, show (1 : Int) = ((1 : Nat) : Int) from rfl, h, nat_mask1]
theorem or_u8 (y c q : Nat) (hq : q < 8) (hy : y < 2 ^ q) (hc : c < 2) : bits .or .u8 (y : Int) ((c : Int) % 256 * 2 ^ q % 256) = ((y + c * 2 ^ q : Nat) : Int) := by
  have h7 := pow_le q 7 (by omega)
  have hm : c * 2 ^ q ≤ 1 * 2 ^ q := Nat.mul_le_mul_right _ (by omega)
  have e0 : (c : Int) % 256 = (c : Int) := by omega
  have e2 : (c : Int) * 2 ^ q = ((c * 2 ^ q : Nat) : Int) := by simp
  have e3 : ((c * 2 ^ q : Nat) : Int) % 256 = ((c * 2 ^ q : Nat) : Int) := by generalize c * 2 ^ q = z at *; omega
  rw [e0, e2, e3, u8_or_nat _ _ (by omega) (by omega), Nat.or_comm, nat_join q (c * 2 ^ q) y (by simp) hy]
  omega
theorem step_y (x k y q : Nat) (hx : x < 18446744073709551616) (hq : q < 8) (hy : y < 2 ^ q) :
    bits .or .u8 (y : Int) (bits .and .u64 ((x : Int) / 2 ^ k) 1 % 256 * 2 ^ q % 256) = ((y + x / 2 ^ k % 2 * 2 ^ q : Nat) : Int) := by
  rw [bit_x x k hx]
  exact or_u8 y (x / 2 ^ k % 2) q hq hy (Nat.mod_lt _ (by omega))

theorem step_0 (x k : Nat) (hx : x < 18446744073709551616) : bits .or .u8 (0 : Int) (bits .and .u64 ((x : Int) / 2 ^ k) 1 % 256) = ((x / 2 ^ k % 2 : Nat) : Int) := by
  have h := step_y x k 0 0 hx (by omega) (by simp)
  have h2 : x / 2 ^ k % 2 < 2 := Nat.mod_lt _ (by omega)
  rw [bit_x x k hx] at h ⊢
  generalize x / 2 ^ k % 2 = c at *
  have e : (c : Int) % 256 * 2 ^ 0 % 256 = (c : Int) % 256 := by omega
  rw [e] at h
  rw [show (0 : Int) = ((0 : Nat) : Int) from rfl, h]
  omega
theorem pcells_snoc {M : List Nat} (c : Nat) (h : M.length % 8 ≠ 0) : (pcells M).set (M.length / 8) (.int .u8 (byteOf M (M.length / 8) + c * 2 ^ (M.length % 8) : Nat)) = pcells (M ++ [c]) := by
  unfold pcells
  rw [pack_snoc c h, List.map_set]
theorem pcells_snoc0 {M : List Nat} (c : Nat) (h : M.length % 8 = 0) : (pcells M ++ [Value.int .u8 0]).set (M.length / 8) (.int .u8 (c : Nat)) = pcells (M ++ [c]) := by
  unfold pcells
  rw [pack_snoc0 c h, List.map_set, List.map_append]
  rfl
theorem ownsRow_block {w w' : World} {B : Nat} {E : TypeId} {size g n cap : Nat} {xs : List Value} (h : w.ownsRow B E size (.slice (some ⟨g, 0, none⟩) n cap) n xs) (e : w'.heap[g]? = w.heap[g]?) : w'.ownsRow B E size (.slice (some ⟨g, 0, none⟩) n cap) n xs := by
  refine ⟨h.1, .inr ?_⟩
  rcases h.2 with ⟨he, _⟩ | ⟨g', cap', cur, he, hB, hh, r⟩
  · cases he
  · cases he
    exact ⟨g, cap, cur, rfl, hB, e.trans hh, r⟩
theorem ownsRow_heap {w : World} {B : Nat} {E : TypeId} {size g n cap : Nat} {xs : List Value} (h : w.ownsRow B E size (.slice (some ⟨g, 0, none⟩) n cap) n xs) : B ≤ g ∧ ∃ cur, w.heap[g]? = some (.cells cur E (0, 0)) := by
  rcases h.2 with ⟨he, _⟩ | ⟨g', cap', cur, he, hB, hh, r⟩
  · cases he
  · cases he
    exact ⟨hB, cur, hh⟩
/-- One bit more: the byte is written, then the place. -/
theorem step_store {w : World} {B b g cap m p : Nat} {M : List Nat} {xs : List Value} (c : Nat)
    (hbl : w.heap[b]? = some (.cells #[.pointer (some ⟨b, 0, none⟩), .slice (some ⟨g, 0, none⟩) m cap, .int .i64 (p : Nat)] 264 (0, 0)))
    (hown : w.ownsRow B 5 1 (.slice (some ⟨g, 0, none⟩) m cap) m xs) (hp : p = M.length) (hm : m = ((M ++ [c]).length + 7) / 8) (h01 : Bits01 M) (hc : c < 2) (hlen : p < 1125899906842624)
    (u : Value) (hu : xs.set (p / 8) u = pcells (M ++ [c])) (q : Value) (hq : q = .int .i64 ((p : Int) + 1)) :
    WS ((w.setCell ⟨g, p / 8, none⟩ u).setCell ⟨b, 2, none⟩ q) B b (M ++ [c]) ∧ Fr 5 B b w ((w.setCell ⟨g, p / 8, none⟩ u).setCell ⟨b, 2, none⟩ q) := by
  obtain ⟨hBg, cur, hh⟩ := ownsRow_heap hown
  have hgb : g ≠ b := by rintro rfl; rw [hbl] at hh; cases hh
  subst hq
  have hb1 : (w.setCell ⟨g, p / 8, none⟩ u).heap[b]? = w.heap[b]? := Below.heap_setCell _ _ _ _ (fun e => hgb e.symm)
  constructor
  · have hL : (((M ++ [c]).length : Nat) : Int) = (p : Int) + 1 := by simp [hp]
    refine ⟨.slice (some ⟨g, 0, none⟩) m cap, ?_, ?_, h01.snoc hc, by simp; omega⟩
    · rw [hL]; exact block_setCell (i := 2) (hb1.trans hbl)
    have h2 := (hown.stored (p / 8) u).1
    rw [hu] at h2
    rw [← hm]
    refine ownsRow_block h2 (Below.heap_setCell _ _ _ _ hgb)
  · exact (Fr.setRow hh hBg u).trans (Fr.only (Only.setCell b 2 _ _))
end Go.Proofs.YtcjlcieheepegaaGreatDoor
namespace Go.Proofs.YtcjlcieheepegaaGreatDoor
open Go.RowKit
set_option linter.unusedVariables false
set_option maxRecDepth 20000

theorem Tryz.infoU8 : (Tryz.prog.info? 5).map (fun i => (i.zero, i.size, i.bytes)) = some (some (.int .u8 0), 1, 1) := by kernel_rfl
end Go.Proofs.YtcjlcieheepegaaGreatDoor
namespace Go.Proofs.YtcjlcieheepegaaGreatDoor
open Go.RowKit
set_option linter.unusedVariables false
set_option maxRecDepth 20000

/-- Numbers below 256 as a text. -/
def toBA (l : List Nat) : ByteArray := ⟨(l.map UInt8.ofNat).toArray⟩
def u8cells (l : List Nat) : List Value := l.map fun x => Value.int .u8 (x : Nat)
theorem conv_row {P : Program} (w : World) (src dst e : TypeId) (B : Nat) (v : Value) (l : List Nat) (hs : P.underlying src = some (.slice e)) (he : P.underlying e = some (.int .u8)) (hd : P.underlying dst = some .string)
    (hown : w.ownsRow B e 1 v l.length (u8cells l)) (hl : ∀ x ∈ l, x < 256) : (convert src dst v).run P w = .ok (.string (toBA l)) w := by
  rcases hown.2 with ⟨rfl, h0⟩ | ⟨g, cap, cur, rfl, hB, hh, hnc, hcm, hcs, htk⟩
  · have : l = [] := List.length_eq_zero_iff.1 h0
    subst this
    rw [run_convert_bytes_string w src dst e none 0 0 hs he hd]
    simp [Conv.bytesToString]
    rfl
  · have hlen : (l.map UInt8.ofNat).length = l.length := by simp
    have := run_convert_bytes_back (P := P) w src dst e ⟨g, 0, none⟩ cap (l.map UInt8.ofNat) hs he hd (fun j hj => by
      have hj' : j < l.length := by simpa using hj
      have hx := hl l[j] (List.getElem_mem hj')
      refine hown.cells (g := g) rfl j _ ?_
      simp [u8cells, List.getElem?_eq_getElem hj']
      omega)
    rw [hlen] at this
    exact this
/-- The bits of a text. -/
def textBits (s : ByteArray) : List Nat := (List.range (8 * s.size)).map (bitAt s)
theorem textBits_length (s : ByteArray) : (textBits s).length = 8 * s.size := by simp [textBits]
theorem textBits_01 (s : ByteArray) : Bits01 (textBits s) := by
  intro x hx
  simp only [textBits, List.mem_map] at hx
  obtain ⟨i, _, rfl⟩ := hx
  exact bitAt_lt s i
theorem Bits01.append {L M : List Nat} (h : Bits01 L) (k : Bits01 M) : Bits01 (L ++ M) := by
  intro x hx; rcases List.mem_append.1 hx with hx | hx
  · exact h x hx
  · exact k x hx
theorem bitsOf_01 (x n : Nat) : Bits01 (bitsOf x n) := by
  induction n with
  | zero => intro y hy; cases hy
  | succ n ih => exact ih.snoc (Nat.mod_lt _ (by omega))
theorem bitsOf_get (x n i : Nat) (h : i < n) : (bitsOf x n)[i]? = some (x / 2 ^ i % 2) := by
  induction n with
  | zero => omega
  | succ n ih =>
    unfold bitsOf
    by_cases e : i = n
    · subst e; rw [List.getElem?_append_right (by rw [bitsOf_length]; exact Nat.le_refl _), bitsOf_length]; simp
    · rw [List.getElem?_append_left (by rw [bitsOf_length]; omega)]; exact ih (by omega)
theorem bsum_bits (y n : Nat) (hy : y < 2 ^ n) : bsum (fun i => y / 2 ^ i % 2) n = y := by
  have h : ∀ n, bsum (fun i => y / 2 ^ i % 2) n = y % 2 ^ n := by
    intro n
    induction n with
    | zero => simp [bsum, Nat.mod_one]
    | succ n ih => simp only [bsum]; rw [ih, Nat.mod_pow_succ, Nat.mul_comm (2 ^ n)]
  rw [h, Nat.mod_eq_of_lt hy]
theorem byteOf_text (L : List Nat) (s : ByteArray) (j : Nat) (h8 : L.length % 8 = 0) (hj : j < s.size) : byteOf (L ++ textBits s) (L.length / 8 + j) = (s.data.toList.getD j 0).toNat := by
  have e : byteOf (L ++ textBits s) (L.length / 8 + j) = bsum (fun i => (s.data.toList.getD j 0).toNat / 2 ^ i % 2) 8 := by
    refine bsum_congr (fun i hi => ?_)
    rw [List.getD_eq_getElem?_getD, List.getElem?_append_right (by omega), show 8 * (L.length / 8 + j) + i - L.length = 8 * j + i by omega]
    simp only [textBits]
    rw [List.getElem?_map, List.getElem?_range (by omega)]
    simp only [Option.map_some, Option.getD_some, bitAt]
    rw [show (8 * j + i) / 8 = j by omega, show (8 * j + i) % 8 = i by omega]
  rw [e]
  exact bsum_bits _ 8 (UInt8.toNat_lt _)
theorem byteOf_left (L M : List Nat) (j : Nat) (h : 8 * j + 8 ≤ L.length) : byteOf (L ++ M) j = byteOf L j := by
  refine bsum_congr (fun i hi => ?_)
  rw [List.getD_eq_getElem?_getD, List.getD_eq_getElem?_getD, List.getElem?_append_left (by omega)]
/-- Whole bytes behind whole bytes. -/
theorem pack_text (L : List Nat) (s : ByteArray) (h8 : L.length % 8 = 0) : pack (L ++ textBits s) = pack L ++ s.data.toList.map UInt8.toNat := by
  have hl := textBits_length s
  have hs : s.data.toList.length = s.size := by simp
  refine List.ext_getElem? (fun j => ?_)
  by_cases hj : j < L.length / 8
  · rw [pack_get _ _ (by rw [List.length_append]; omega), byteOf_left _ _ _ (by omega), List.getElem?_append_left (by rw [pack_length]; omega), pack_get _ _ (by omega)]
  · by_cases hj2 : j < L.length / 8 + s.size
    · rw [pack_get _ _ (by rw [List.length_append]; omega), List.getElem?_append_right (by rw [pack_length]; omega), pack_length, show j - (L.length + 7) / 8 = j - L.length / 8 by omega]
      have := byteOf_text L s (j - L.length / 8) h8 (by omega)
      rw [show L.length / 8 + (j - L.length / 8) = j by omega] at this
      rw [this, List.getElem?_map, List.getD_eq_getElem?_getD, List.getElem?_eq_getElem (by omega)]
      rfl
    · rw [List.getElem?_eq_none (by rw [pack_length, List.length_append]; omega), List.getElem?_eq_none (by rw [List.length_append, pack_length, List.length_map]; omega)]
/-- How many noughts there are up to a byte's end. -/
def padOf (n : Nat) : Nat := (n + 7) / 8 * 8 - n
def padded (L : List Nat) : List Nat := L ++ List.replicate (padOf L.length) 0
theorem padded_length (L : List Nat) : (padded L).length = (L.length + 7) / 8 * 8 := by simp [padded, padOf]; omega
theorem padded_01 {L : List Nat} (h : Bits01 L) : Bits01 (padded L) := h.append (fun x hx => by have := (List.mem_replicate.1 hx).2; omega)
theorem pack_padded (L : List Nat) : pack (padded L) = pack L := by
  refine List.ext_getElem? (fun j => ?_)
  have hl := padded_length L
  by_cases hj : j < (L.length + 7) / 8
  · rw [pack_get _ _ (by rw [hl]; omega), pack_get _ _ hj]
    refine congrArg some (bsum_congr (fun i hi => ?_))
    rw [List.getD_eq_getElem?_getD, List.getD_eq_getElem?_getD]
    by_cases hi2 : 8 * j + i < L.length
    · rw [padded, List.getElem?_append_left hi2]
    · rw [padded, List.getElem?_append_right (by omega), List.getElem?_eq_none (l := L) (by omega), List.getElem?_replicate]
      split <;> rfl
  · rw [List.getElem?_eq_none (by rw [pack_length, hl]; omega), List.getElem?_eq_none (by rw [pack_length]; omega)]
end Go.Proofs.YtcjlcieheepegaaGreatDoor
namespace Go.Proofs.YtcjlcieheepegaaGreatDoor
open Go.RowKit
set_option linter.unusedVariables false
set_option maxRecDepth 20000

/-- A block of another type than a row's is as it was when the row grows. -/
theorem row_kept {w w' : World} {B b size n : Nat} {E T : TypeId} {v : Value} {xs : List Value} {cs : Array Value} {mk : Nat × Nat} (hbl : w.heap[b]? = some (.cells cs T mk)) (hT : T ≠ E) (hown : w.ownsRow B E size v n xs) (hg : w.grownBy w' v.ownBlock) : w'.heap[b]? = w.heap[b]? :=
  hg.block b (lt_of_block hbl) (fun e => by
    rcases hown.2 with ⟨rfl, _⟩ | ⟨g', cap', cur, rfl, _, hh, _⟩
    · simp [Value.ownBlock] at e
    · have e' : b = g' := by simpa [Value.ownBlock] using e
      subst e'; rw [hbl] at hh; cases hh; exact hT rfl)
end Go.Proofs.YtcjlcieheepegaaGreatDoor
namespace Go.Proofs.YtcjlcieheepegaaGreatDoor
open Go.RowKit
set_option linter.unusedVariables false
set_option maxRecDepth 20000

/-- A number as groups of seven bits, the lowest first (so many groups at most). -/
def varB : Nat → Nat → List Nat
  | 0, _ => []
  | f + 1, x => if x < 128 then [x] else (x % 128 + 128) :: varB f (x / 128)
theorem varB_lt (f x : Nat) : ∀ y ∈ varB f x, y < 256 := by
  induction f generalizing x with
  | zero => intro y hy; cases hy
  | succ f ih =>
    intro y hy
    unfold varB at hy
    split at hy
    · simp at hy; omega
    · rcases List.mem_cons.1 hy with rfl | hy
      · omega
      · exact ih _ y hy
theorem varB_length (f x : Nat) : (varB f x).length ≤ f := by
  induction f generalizing x with
  | zero => simp [varB]
  | succ f ih => unfold varB; split; simp; have := ih (x / 128); simp; omega
theorem varB_step (f x : Nat) (h : 128 ≤ x) : varB (f + 1) x = (x % 128 + 128) :: varB f (x / 128) := by
  rw [varB, if_neg (by omega)]
theorem varB_last (f x : Nat) (h : x < 128) : varB (f + 1) x = [x] := by rw [varB, if_pos h]
theorem or128 (x : Nat) : bits .or .u8 ((x : Int) % 256) 128 = ((x % 128 + 128 : Nat) : Int) := by
  have e : (x : Int) % 256 = ((x % 256 : Nat) : Int) := by omega
  rw [e, show (128 : Int) = ((128 : Nat) : Int) from rfl, u8_or_nat _ _ (by omega) (by omega)]
  have h2 : x % 256 ||| 128 = x % 128 + 128 := by
    by_cases h : x % 256 < 128
    · rw [Nat.or_comm, nat_join 7 128 (x % 256) (by decide) (by omega)]; omega
    · have e1 : x % 256 = 128 + x % 128 := by omega
      rw [e1, ← nat_join 7 128 (x % 128) (by decide) (by omega), Nat.or_comm 128 (x % 128), Nat.or_assoc, Nat.or_self, Nat.or_comm, nat_join 7 128 (x % 128) (by decide) (by omega)]; omega
  rw [h2]
theorem u8c_snoc (l : List Nat) (x : Nat) : u8cells l ++ [Value.int .u8 (x : Nat)] = u8cells (l ++ [x]) := by simp [u8cells]
theorem refPutVar_neg (n : Int) (w : World) (h : n < 0) :
    Calls Tryz.prog 71 #[.int .i64 n] w fun e w' => e = .returned (.tuple #[.string ⟨#[]⟩, .int .i64 1]) ∧ w' = w := by
  go_enter Tryz.func71, Tryz.ntmps71
  go_wp2
  go_ret2
  exact ⟨rfl, rfl⟩
/-- What a round of either loop keeps. -/
structure VRel (w wr : World) (n : Nat) (v : Value) (acc : List Nat) (X : Nat) : Prop where
  own : wr.ownsRow w.heap.size 5 1 v acc.length (u8cells acc)
  len : acc.length ≤ 9
  lt : X < 2 ^ (63 - 7 * acc.length)
  eq : acc ++ varB (10 - acc.length) X = varB 10 n
  bel : Below w.heap.size w wr
theorem VRel.start (w : World) (n : Nat) (hn : n < 2 ^ 63) : VRel w w n (.slice none 0 0) [] n :=
  ⟨World.ownsRow_nil _ _ _ _, by simp, hn, rfl, Below.refl _ _⟩
theorem VRel.more {w wr w1 : World} {n X g cap : Nat} {v : Value} {acc : List Nat} {o : Obj} {xs : List Value} (h : VRel w wr n v acc X) (hX : 128 ≤ X) (hxs : xs = [.int .u8 ((X % 128 + 128 : Nat) : Int)])
    (ho : w1.ownsRow w.heap.size 5 1 (.slice (some ⟨g, 0, none⟩) (acc.length + 1) cap) (acc.length + 1) (u8cells acc ++ xs))
    (hg : (wr.alloc o).grownBy w1 v.ownBlock) : VRel w w1 n (.slice (some ⟨g, 0, none⟩) (acc.length + 1) cap) (acc ++ [X % 128 + 128]) (X / 128) := by
  subst hxs
  have h7 : acc.length ≤ 7 := by
    rcases Nat.lt_or_ge 7 acc.length with hl | hl
    · have : 2 ^ (63 - 7 * acc.length) ≤ 2 ^ 7 := pow_le _ _ (by omega)
      have := h.lt; omega
    · exact hl
  refine ⟨by rw [← u8c_snoc, List.length_append]; exact ho, by simp; omega, ?_, ?_, ?_⟩
  · have e : 63 - 7 * acc.length = (63 - 7 * (acc.length + 1)) + 7 := by omega
    have hl := h.lt
    rw [e, Nat.pow_add] at hl
    rw [List.length_append]
    exact Nat.div_lt_of_lt_mul (by rw [Nat.mul_comm]; exact hl)
  · have e := h.eq
    rw [show 10 - acc.length = (9 - acc.length) + 1 by omega, varB_step _ _ hX] at e
    rw [List.length_append, List.append_assoc, ← e, show 10 - (acc.length + [X % 128 + 128].length) = 9 - acc.length by simp <;> omega]
    rfl
  · refine (h.bel.alloc h.bel.size _).grown hg (by have := h.bel.size; simp; omega) (fun k hk => ?_)
    exact ((h.own.alloc o).lt k hk).1
theorem VRel.last {w wr : World} {n X : Nat} {v : Value} {acc : List Nat} (h : VRel w wr n v acc X) (hX : X < 128) : acc ++ [X] = varB 10 n := by
  rw [← h.eq, show 10 - acc.length = (9 - acc.length) + 1 by have := h.len; omega, varB_last _ _ hX]
set_option maxHeartbeats 400000 in
set_option maxRecDepth 100000 in
theorem refPutVar (n : Nat) (w : World) (hn : n ≤ 9223372036854775807) :
    Calls Tryz.prog 71 #[.int .i64 n] w fun e w' => e = .returned (.tuple #[.string (toBA (varB 10 n)), .int .i64 0]) ∧ Below w.heap.size w w' := by
  obtain ⟨i0, hi, hz0, hz1, hz2⟩ := info_parts Tryz.infoU8
  have hst : Hid (VRel w w n (.slice none 0 0) [] n) := VRel.start w n (by omega)
  go_enter Tryz.func71, Tryz.ntmps71
  go_wp2
  go_loopw [0, 4] (fun x v wr => ∃ V acc X, V = v ∧ x = .int .i64 (X : Nat) ∧ VRel w wr n V acc X) (fun x _ _ => (intOf x).toNat)
  case atStart => exact ⟨_, [], n, rfl, rfl, hst.out⟩
  case round =>
    obtain ⟨v, acc, X, rfl, rfl, hr⟩ := hrel
    have hlen := hr.len
    have hBw : w.heap.size ≤ wr.heap.size := hr.bel.size
    have hX64 : X < 9223372036854775808 := by have := pow_le (63 - 7 * acc.length) 63 (by omega); have := hr.lt; omega
    have HR : Hid (VRel w wr n v acc X) := hr
    have hown := hr.own
    clear hr
    obtain ⟨m, hm⟩ : ∃ m, m = acc.length := ⟨_, rfl⟩
    rw [← hm] at hown hlen
    have HM : Hid (m = acc.length) := hm
    clear hm
    by_cases hlt : 128 ≤ X
    · go_wp2_with (at_builtin; refine wpList_append_lies _ rfl _ _ 47 rfl w.heap.size 5 i0 (.int .u8 0) 1 1 Tryz.underlying47 hi hz0 hz1 hz2 rfl (by decide) v m (u8cells acc) rfl (hown.alloc _) ⟨wr.heap.size, 0, none⟩ 1 1 [.int .u8 ((X : Int) % 128 + 128)] rfl rfl ?c1 ?c2 (by decide) ?c3 ?c4 ?c5 (wr.heap.size + 1) ?c6 ?_)
      case c1 =>
        intro j u hj
        match j, hj with
        | 0, hj => simp at hj; subst hj; simp [Addr.add]
      case c2 => intro u hu; simp at hu; subst hu; rfl
      case c3 => unfold maxLen; omega
      case c4 => omega
      case c5 => simp; omega
      case c6 => simp
      intro g cap w1 hown1 hgrow hat hgl
      rw [HM.out] at hown1
      have hN : Hid _ := HR.out.more hlt (by congr 2) hown1 hgrow
      rw [← HM.out] at hN
      clear hown1 hgrow hat hown
      go_wp2
      go_roundw
      case rel =>
        exact ⟨_, _, X / 128, rfl, congrArg (Value.int .i64) (by omega), hN.out⟩
      case measure => simp [intOf]; omega
    · go_wp2_with (at_builtin; refine wpList_append_lies _ rfl _ _ 47 rfl w.heap.size 5 i0 (.int .u8 0) 1 1 Tryz.underlying47 hi hz0 hz1 hz2 rfl (by decide) v m (u8cells acc) rfl (hown.alloc _) ⟨wr.heap.size, 0, none⟩ 1 1 [.int .u8 (X : Nat)] rfl rfl ?d1 ?d2 (by decide) ?d3 ?d4 ?d5 (wr.heap.size + 1) ?d6 ?_)
      case d1 =>
        intro j u hj
        match j, hj with
        | 0, hj => simp at hj; subst hj; simp [Addr.add]
      case d2 => intro u hu; simp at hu; subst hu; rfl
      case d3 => unfold maxLen; omega
      case d4 => omega
      case d5 => simp; omega
      case d6 => simp
      intro g cap w1 hown1 hgrow hat hgl
      have hX : X < 128 := by omega
      have hlast := HR.out.last hX
      have e1 : u8cells acc ++ [Value.int .u8 (X : Nat)] = u8cells (varB 10 n) := by rw [← hlast, ← u8c_snoc]
      have e2 : m + 1 = (varB 10 n).length := by rw [← hlast, HM.out]; simp
      have hcv : (convert 47 9 (.slice (some ⟨g, 0, none⟩) (m + 1) cap)).run Tryz.prog w1 = .ok (.string (toBA (varB 10 n))) w1 := by
        refine conv_row w1 _ _ 5 w.heap.size _ (varB 10 n) Tryz.underlying47 Tryz.underlying5 Tryz.underlying9 ?_ (varB_lt 10 n)
        rw [← e1, ← e2]; exact hown1
      have hB : Hid (Below w.heap.size w w1) := (HR.out.bel.alloc hBw _).grown hgrow (by simp; omega) (fun k hk => (hown.lt k hk).1)
      clear hown1 hgrow hat hown e1 e2 hlast
      go_wp2
      go_ret2
      exact ⟨rfl, hB.out⟩
end Go.Proofs.YtcjlcieheepegaaGreatDoor
namespace Go.Proofs.YtcjlcieheepegaaGreatDoor
open Go.RowKit
set_option linter.unusedVariables false
set_option maxRecDepth 20000

theorem i64_and_nat (a b : Nat) (ha : a < 9223372036854775808) (hb : b < 9223372036854775808) : bits .and .i64 (a : Int) (b : Int) = ((a &&& b : Nat) : Int) := by
  have hx : a &&& b < 2 ^ 63 := Nat.and_lt_two_pow _ (by omega)
  show IntKind.i64.wrap ((BitVec.ofInt 64 (a : Int) &&& BitVec.ofInt 64 (b : Int)).toNat : Int) = _
  rw [BitVec.toNat_and, ofInt_u64 a (by omega), ofInt_u64 b (by omega), IntKind.wrap_i64]
  omega
/-- A number as so many bytes, the lowest first. -/
def fixB (n k : Nat) : List Nat := (List.range k).map fun i => n / 2 ^ (8 * i) % 256
theorem fixB_length (n k : Nat) : (fixB n k).length = k := by simp [fixB]
theorem fixB_lt (n k : Nat) : ∀ x ∈ fixB n k, x < 256 := by
  intro x hx
  simp only [fixB, List.mem_map] at hx
  obtain ⟨i, _, rfl⟩ := hx
  omega
theorem fixB_succ (n k : Nat) : fixB n (k + 1) = fixB n k ++ [n / 2 ^ (8 * k) % 256] := by simp [fixB, List.range_succ]
/-- The number of the first bytes of a text. -/
def fixN (s : ByteArray) : Nat → Nat
  | 0 => 0
  | i + 1 => fixN s i + (s.data.toList.getD i 0).toNat * 2 ^ (8 * i)
theorem byte_lt (s : ByteArray) (i : Nat) : (s.data.toList.getD i 0).toNat < 256 := UInt8.toNat_lt _
theorem byte_eq (s : ByteArray) (i : Nat) (h : i < s.size) : s[i].toNat = (s.data.toList.getD i 0).toNat := by
  have : s.data.toList.getD i 0 = s[i] := by
    have h' : i < s.data.size := h
    rw [List.getD_eq_getElem?_getD, Array.getElem?_toList, Array.getElem?_eq_getElem h']; rfl
  rw [this]
theorem fixN_lt (s : ByteArray) (k : Nat) : fixN s k < 2 ^ (8 * k) := by
  induction k with
  | zero => simp [fixN]
  | succ k ih =>
    have hb := byte_lt s k
    have hm : (s.data.toList.getD k 0).toNat * 2 ^ (8 * k) ≤ 255 * 2 ^ (8 * k) := Nat.mul_le_mul_right _ (by omega)
    have e : 2 ^ (8 * (k + 1)) = 256 * 2 ^ (8 * k) := by rw [show 8 * (k + 1) = 8 * k + 8 by omega, Nat.pow_add]; omega
    simp only [fixN]; omega
theorem or_byte (x y k : Nat) (hx : x < 2 ^ (8 * k)) (hy : y < 256) (hk : k ≤ 7) :
    bits .or .u64 (x : Int) (IntKind.u64.wrap ((y : Int) * 2 ^ (8 * k))) = ((x + y * 2 ^ (8 * k) : Nat) : Int) := by
  have h56 := pow_le (8 * k) 56 (by omega)
  have hm : y * 2 ^ (8 * k) ≤ 255 * 2 ^ (8 * k) := Nat.mul_le_mul_right _ (by omega)
  have e2 : (y : Int) * 2 ^ (8 * k) = ((y * 2 ^ (8 * k) : Nat) : Int) := by simp
  rw [e2, wrap_u64_nat _ (by omega), u64_or_nat _ _ (by omega) (by omega), Nat.or_comm, nat_join (8 * k) (y * 2 ^ (8 * k)) x (by simp) hx]
  omega
theorem fixN_top (s : ByteArray) : 2 ^ 63 ≤ fixN s 8 ↔ 127 < (s.data.toList.getD 7 0).toNat := by
  have h := fixN_lt s 7
  have e : fixN s 8 = fixN s 7 + (s.data.toList.getD 7 0).toNat * 2 ^ (8 * 7) := rfl
  rw [e]
  omega
theorem fixN_le (s : ByteArray) (i k : Nat) (h : i ≤ k) : fixN s i ≤ fixN s k := by
  induction k with
  | zero => rw [show i = 0 by omega]; exact Nat.le_refl _
  | succ k ih =>
    by_cases e : i = k + 1
    · rw [e]; exact Nat.le_refl _
    · exact Nat.le_trans (ih (by omega)) (by simp only [fixN]; omega)
/-- Its bytes, then whatever: the number. -/
theorem fixN_fixB (n k : Nat) (s : ByteArray) (h : n < 2 ^ (8 * k)) : fixN (toBA (fixB n k) ++ s) k = n := by
  have hg : ∀ i, i < k → ((toBA (fixB n k) ++ s).data.toList.getD i 0).toNat = n / 2 ^ (8 * i) % 256 := by
    intro i hi
    have hl : (fixB n k).length = k := fixB_length n k
    rw [List.getD_eq_getElem?_getD]
    have e : (toBA (fixB n k) ++ s).data.toList = (fixB n k).map UInt8.ofNat ++ s.data.toList := by
      rw [ByteArray.data_append, Array.toList_append]; rfl
    rw [e, List.getElem?_append_left (by simp [hl]; exact hi)]
    simp [fixB, hi]
  have hm : ∀ j, j ≤ k → fixN (toBA (fixB n k) ++ s) j = n % 2 ^ (8 * j) := by
    intro j hj
    induction j with
    | zero => simp [fixN, Nat.mod_one]
    | succ j ih =>
      simp only [fixN]
      rw [ih (by omega), hg j (by omega), show 8 * (j + 1) = 8 * j + 8 by omega, Nat.pow_add, Nat.mod_mul, Nat.mul_comm (2 ^ (8 * j))]
  rw [hm k (Nat.le_refl _), Nat.mod_eq_of_lt h]
theorem rep_set (l : List Nat) (m x : Nat) : (l ++ List.replicate (m + 1) 0).set l.length x = (l ++ [x]) ++ List.replicate m 0 := by
  rw [List.set_append_right _ _ (Nat.le_refl _), Nat.sub_self, List.replicate_succ, List.set_cons_zero, List.append_assoc]; rfl
theorem fix_store (n i k : Nat) (h : i < k) : (u8cells (fixB n i ++ List.replicate (k - i) 0)).set i (.int .u8 (n / 2 ^ (8 * i) % 256 : Nat)) = u8cells (fixB n (i + 1) ++ List.replicate (k - (i + 1)) 0) := by
  unfold u8cells
  rw [← List.map_set, show k - i = (k - (i + 1)) + 1 by omega]
  congr 1
  have := rep_set (fixB n i) (k - (i + 1)) (n / 2 ^ (8 * i) % 256)
  rw [fixB_length] at this
  rw [this, fixB_succ]
theorem made_u8 (n k : Nat) : (madeCells #[Value.int .u8 0] k).toList = u8cells (fixB n 0 ++ List.replicate (k - 0) 0) := by
  rw [toList_madeCells_one (.int .u8 0) k]
  simp [u8cells, fixB]
end Go.Proofs.YtcjlcieheepegaaGreatDoor
namespace Go.Proofs.YtcjlcieheepegaaGreatDoor
open Go.RowKit
set_option linter.unusedVariables false
set_option maxRecDepth 20000

/-- Byte i of a text. -/
def byteN (s : ByteArray) (i : Nat) : Nat := (s.data.toList.getD i 0).toNat
theorem byteN_lt (s : ByteArray) (i : Nat) : byteN s i < 256 := byte_lt s i
theorem byteN_eq (s : ByteArray) (i : Nat) (h : i < s.size) : s[i].toNat = byteN s i := byte_eq s i h
/-- The number of the first groups of a text. -/
def varN (s : ByteArray) : Nat → Nat
  | 0 => 0
  | i + 1 => varN s i + byteN s i % 128 * 2 ^ (7 * i)
theorem varN_lt (s : ByteArray) (k : Nat) : varN s k < 2 ^ (7 * k) := by
  induction k with
  | zero => simp [varN]
  | succ k ih =>
    have hm : byteN s k % 128 * 2 ^ (7 * k) ≤ 127 * 2 ^ (7 * k) := Nat.mul_le_mul_right _ (by omega)
    have e : 2 ^ (7 * (k + 1)) = 128 * 2 ^ (7 * k) := by rw [show 7 * (k + 1) = 7 * k + 7 by omega, Nat.pow_add]; omega
    simp only [varN]; omega
theorem varN_63 (s : ByteArray) (k : Nat) (h : k ≤ 9) : varN s k ≤ 9223372036854775807 := by
  have h1 := varN_lt s k
  have h2 := pow_le (7 * k) 63 (by omega)
  omega
theorem andNot128 (b : Nat) (h : b < 256) : bits .andNot .u8 (b : Int) 128 = ((b % 128 : Nat) : Int) := by
  have h2 := u8_andNot_nat b 128 h (by omega)
  rw [show (128 : Int) = ((128 : Nat) : Int) from rfl, h2, show 255 - 128 = 127 from rfl, nat_mask7]
theorem and127 (b : Nat) (h : b < 256) : bits .and .u8 (b : Int) 127 = ((b % 128 : Nat) : Int) := by
  have h2 := u8_and_nat b 127 h (by omega)
  rw [show (127 : Int) = ((127 : Nat) : Int) from rfl, h2, nat_mask7]
theorem or_group (x y k : Nat) (hx : x < 2 ^ (7 * k)) (hy : y < 128) (hk : k ≤ 8) :
    bits .or .u64 (x : Int) (IntKind.u64.wrap ((y : Int) * 2 ^ (7 * k))) = ((x + y * 2 ^ (7 * k) : Nat) : Int) := by
  have h56 := pow_le (7 * k) 56 (by omega)
  have hm : y * 2 ^ (7 * k) ≤ 127 * 2 ^ (7 * k) := Nat.mul_le_mul_right _ (by omega)
  have e2 : (y : Int) * 2 ^ (7 * k) = ((y * 2 ^ (7 * k) : Nat) : Int) := by simp
  rw [e2, wrap_u64_nat _ (by omega), u64_or_nat _ _ (by omega) (by omega), Nat.or_comm, nat_join (7 * k) (y * 2 ^ (7 * k)) x (by simp) hx]
  omega
theorem or_zero (x : Nat) (hx : x < 9223372036854775808) : bits .or .u64 (x : Int) 0 = (x : Int) := by
  have h := u64_or_nat x 0 (by omega) (by omega)
  rw [Nat.or_zero] at h
  exact h
theorem varN_zero (s : ByteArray) (j : Nat) (h : ((byteN s j : Nat) : Int) % 128 = 0) : varN s (j + 1) = varN s j := by
  have : byteN s j % 128 = 0 := by omega
  rw [varN, this]; omega
theorem add_group (x y k : Nat) (hx : x < 2 ^ (7 * k)) (hy : y < 128) (hk : k ≤ 8) :
    wrap64 ((x : Int) + wrap64 ((y : Int) * 2 ^ (7 * k))) = ((x + y * 2 ^ (7 * k) : Nat) : Int) := by
  have h56 := pow_le (7 * k) 56 (by omega)
  have hm : y * 2 ^ (7 * k) ≤ 127 * 2 ^ (7 * k) := Nat.mul_le_mul_right _ (by omega)
  have e2 : (y : Int) * 2 ^ (7 * k) = ((y * 2 ^ (7 * k) : Nat) : Int) := by simp
  obtain ⟨z, hz⟩ : ∃ z, z = y * 2 ^ (7 * k) := ⟨_, rfl⟩
  rw [e2, ← hz]
  rw [← hz] at hm
  rw [IntWalk.wrap64_in (z : Int) ⟨by omega, by omega⟩, IntWalk.wrap64_in _ ⟨by omega, by omega⟩]
  omega
/-- The least one of those that there are. -/
theorem least {P : Nat → Prop} (m : Nat) (h : ∃ i, i < m ∧ P i) : ∃ i, i < m ∧ P i ∧ ∀ j, j < i → ¬ P j := by
  induction m with
  | zero => obtain ⟨i, hi, _⟩ := h; omega
  | succ m ih =>
    by_cases h2 : ∃ i, i < m ∧ P i
    · obtain ⟨i, h3, h4, h5⟩ := ih h2
      exact ⟨i, by omega, h4, h5⟩
    · obtain ⟨i, h3, h4⟩ := h
      have : i = m := by
        rcases Nat.lt_or_ge i m with h5 | h5
        · exact absurd ⟨i, h5, h4⟩ h2
        · omega
      subst this
      exact ⟨i, by omega, h4, fun j hj hP => h2 ⟨j, hj, hP⟩⟩
def gsum : List Nat → Nat
  | [] => 0
  | b :: r => b % 128 + 128 * gsum r
theorem gsum_snoc (L : List Nat) (b : Nat) : gsum (L ++ [b]) = gsum L + b % 128 * 2 ^ (7 * L.length) := by
  induction L with
  | nil => simp [gsum]
  | cons a r ih =>
    simp only [List.cons_append, gsum, ih, List.length_cons]
    rw [show 7 * (r.length + 1) = 7 * r.length + 7 by omega, Nat.pow_add, Nat.mul_add, ← Nat.mul_assoc (b % 128), Nat.mul_comm 128 (b % 128 * _)]
    omega
theorem varN_gsum (s : ByteArray) (L : List Nat) (h : ∀ i, i < L.length → byteN s i = L.getD i 0) : ∀ j, j ≤ L.length → varN s j = gsum (L.take j) := by
  intro j hj
  induction j with
  | zero => simp [varN, gsum]
  | succ j ih =>
    have e : L.getD j 0 = L[j] := by rw [List.getD_eq_getElem?_getD, List.getElem?_eq_getElem (by omega)]; rfl
    rw [varN, ih (by omega), h j (by omega), List.take_succ_eq_append_getElem (by omega), gsum_snoc, List.length_take, Nat.min_eq_left (by omega), e]
theorem varB_fuel (f x : Nat) (hf : 0 < f) (hx : x < 2 ^ (7 * f)) : varB (f + 1) x = varB f x := by
  induction f generalizing x with
  | zero => omega
  | succ f ih =>
    by_cases h : x < 128
    · rw [varB_last _ _ h, varB_last _ _ h]
    · have hf1 : 0 < f := by
        rcases Nat.eq_zero_or_pos f with e | e
        · subst e; simp at hx; omega
        · exact e
      rw [varB_step (f + 1) x (by omega), varB_step f x (by omega), ih (x / 128) hf1]
      rw [show 7 * (f + 1) = 7 * f + 7 by omega, Nat.pow_add] at hx
      exact Nat.div_lt_of_lt_mul (by rw [Nat.mul_comm]; exact hx)
theorem varB_shape (f x : Nat) (hf : 0 < f) (hx : x < 2 ^ (7 * f)) : ∃ k, (varB f x).length = k + 1 ∧ k < f ∧ (∀ j, j < k → 128 ≤ (varB f x).getD j 0) ∧ (varB f x).getD k 0 < 128 ∧ (0 < k → (varB f x).getD k 0 ≠ 0) ∧ gsum (varB f x) = x := by
  induction f generalizing x with
  | zero => omega
  | succ f ih =>
    by_cases h : x < 128
    · rw [varB_last _ _ h]
      exact ⟨0, rfl, by omega, (fun j hj => by omega), by simpa using h, (fun h => by omega), by simp [gsum]; omega⟩
    · have hf1 : 0 < f := by
        rcases Nat.eq_zero_or_pos f with e | e
        · subst e; simp at hx; omega
        · exact e
      rw [show 7 * (f + 1) = 7 * f + 7 by omega, Nat.pow_add] at hx
      obtain ⟨k, h1, h2, h3, h4, h5, h6⟩ := ih (x / 128) hf1 (Nat.div_lt_of_lt_mul (by rw [Nat.mul_comm]; exact hx))
      rw [varB_step _ _ (by omega)]
      refine ⟨k + 1, by simp [h1], by omega, ?_, by simpa using h4, ?_, ?_⟩
      · intro j hj
        cases j with
        | zero => simp
        | succ j => simpa using h3 j (by omega)
      · intro _
        by_cases hk : 0 < k
        · simpa using h5 hk
        · have hk0 : k = 0 := by omega
          subst hk0
          intro h0
          have h0' : (varB f (x / 128)).getD 0 0 = 0 := by simpa using h0
          match e : varB f (x / 128), h1 with
          | [y], _ =>
            rw [e] at h0' h6
            simp [gsum] at h0' h6
            omega
      · simp only [gsum, h6]; omega
/-- The bytes of a text that begins with others. -/
theorem byteN_append (l : List Nat) (s : ByteArray) (i : Nat) (hi : i < l.length) (hl : ∀ x ∈ l, x < 256) : byteN (toBA l ++ s) i = l.getD i 0 := by
  unfold byteN
  have e : (toBA l ++ s).data.toList = l.map UInt8.ofNat ++ s.data.toList := by
    rw [ByteArray.data_append, Array.toList_append]; rfl
  have hx := hl l[i] (List.getElem_mem hi)
  rw [e, List.getD_eq_getElem?_getD, List.getElem?_append_left (by simpa using hi), List.getElem?_map, List.getElem?_eq_getElem hi, List.getD_eq_getElem?_getD, List.getElem?_eq_getElem hi]
  simp
  omega
end Go.Proofs.YtcjlcieheepegaaGreatDoor

namespace Go.Proofs.YtcjlcieheepegaaGreatDoor
open Go.RowKit
set_option linter.unusedVariables false
set_option maxRecDepth 20000

theorem ret3 {a b c d : Int} (h : a = b) : Ending.returned (.tuple #[.int .i64 a, .int .i64 c, .int .i64 d]) = .returned (.tuple #[.int .i64 b, .int .i64 c, .int .i64 d]) := by rw [h]
set_option maxHeartbeats 400000 in
theorem var_ok (s : ByteArray) (k : Nat) (w : World) (hk : k < 9) (hs : k < s.size) (hall : ∀ j, j < k → 128 ≤ byteN s j) (hb : byteN s k < 128) (hz : byteN s k = 0 → k = 0) (hsz : s.size ≤ 9223372036854775807) :
    Calls Tryz.prog 150 #[.string s] w fun e w' => e = .returned (.tuple #[.int .i64 (varN s (k + 1) : Nat), .int .i64 ((k : Int) + 1), .int .i64 0]) ∧ w' = w := by
  have HA : Hid (∀ j, j < k → 128 ≤ byteN s j) := hall
  clear hall
  have HZ : Hid (byteN s k = 0 → k = 0) := hz
  clear hz
  go_enter Tryz.func150, Tryz.ntmps150
  go_wp2
  go_loop [5, 11] (fun x i => ∃ j : Nat, j ≤ k ∧ i = .int .i64 j ∧ x = .int .u64 (varN s j : Nat)) (fun _ i => k + 1 - (intOf i).toNat)
  case atStart => exact ⟨0, Nat.zero_le _, rfl, rfl⟩
  case round =>
    obtain ⟨j, hj, rfl, rfl⟩ := hrel
    by_cases hlt : j < k
    · have hix : j < s.size := by omega
      have h128 := HA.out j hlt
      have hby := byteN_eq s j hix
      have hbl := byteN_lt s j
      have hg := andNot128 (byteN s j) hbl
      go_wp2
      go_round
      case rel =>
        refine ⟨j + 1, by omega, by go_num, congrArg (Value.int .u64) ?_⟩
        have e : ((byteN s j : Nat) : Int) % 128 = ((byteN s j % 128 : Nat) : Int) := by simp
        rw [e, or_group (varN s j) (byteN s j % 128) j (varN_lt s j) (by omega) (by omega)]
        rfl
      case measure => simp [intOf]; omega
    · obtain rfl : j = k := by omega
      have hby := byteN_eq s j hs
      have hbl := byteN_lt s j
      have hg := andNot128 (byteN s j) hbl
      have hX := varN_63 s (j + 1) (by omega)
      have hX0 := varN_63 s j (by omega)
      have HE : Hid (bits .or .u64 (varN s j : Nat) (IntKind.u64.wrap ((byteN s j : Int) % 128 * 2 ^ (7 * j))) = ((varN s (j + 1) : Nat) : Int)) := by
        have e : ((byteN s j : Nat) : Int) % 128 = ((byteN s j % 128 : Nat) : Int) := by simp
        have h := or_group (varN s j) (byteN s j % 128) j (varN_lt s j) (by omega) (by omega)
        rw [← e] at h
        exact h
      by_cases h0 : 0 < j
      · have hne : byteN s j ≠ 0 := fun h => by have := HZ.out h; omega
        go_wp2
        go_ret3
        exact ⟨ret3 (by rw [HE.out]; exact IntWalk.wrap64_in _ ⟨by omega, by omega⟩), rfl⟩
      · go_wp2
        all_goals
          go_ret3
          first | (exact ⟨ret3 (by rw [HE.out]; exact IntWalk.wrap64_in _ ⟨by omega, by omega⟩), rfl⟩) | (exact ⟨ret3 (by rw [or_zero _ (by omega), varN_zero s j (by assumption)]; exact IntWalk.wrap64_in _ ⟨by omega, by omega⟩), rfl⟩)
set_option maxHeartbeats 400000 in
theorem var_zero (s : ByteArray) (k : Nat) (w : World) (hk : k < 9) (hs : k < s.size) (hall : ∀ j, j < k → 128 ≤ byteN s j) (hb : byteN s k = 0) (hz : 0 < k) (hsz : s.size ≤ 9223372036854775807) :
    Calls Tryz.prog 150 #[.string s] w fun e w' => e = .returned (.tuple #[.int .i64 0, .int .i64 0, .int .i64 10]) ∧ w' = w := by
  have HA : Hid (∀ j, j < k → 128 ≤ byteN s j) := hall
  clear hall
  have HZ : Hid (byteN s k = 0) := hb
  clear hb
  go_enter Tryz.func150, Tryz.ntmps150
  go_wp2
  go_loop [5, 11] (fun x i => ∃ j : Nat, j ≤ k ∧ i = .int .i64 j ∧ x = .int .u64 (varN s j : Nat)) (fun _ i => k + 1 - (intOf i).toNat)
  case atStart => exact ⟨0, Nat.zero_le _, rfl, rfl⟩
  case round =>
    obtain ⟨j, hj, rfl, rfl⟩ := hrel
    by_cases hlt : j < k
    · have hix : j < s.size := by omega
      have h128 := HA.out j hlt
      have hby := byteN_eq s j hix
      have hbl := byteN_lt s j
      have hg := andNot128 (byteN s j) hbl
      go_wp2
      go_round
      case rel =>
        refine ⟨j + 1, by omega, by go_num, congrArg (Value.int .u64) ?_⟩
        have e : ((byteN s j : Nat) : Int) % 128 = ((byteN s j % 128 : Nat) : Int) := by simp
        rw [e, or_group (varN s j) (byteN s j % 128) j (varN_lt s j) (by omega) (by omega)]
        rfl
      case measure => simp [intOf]; omega
    · obtain rfl : j = k := by omega
      have hby := byteN_eq s j hs
      have hb0 := HZ.out
      rw [hb0] at hby
      have hg := andNot128 0 (by omega)
      go_wp2
      go_ret3
      exact ⟨rfl, rfl⟩
set_option maxHeartbeats 400000 in
theorem var_short (s : ByteArray) (w : World) (hs : s.size < 9) (hall : ∀ j, j < s.size → 128 ≤ byteN s j) :
    Calls Tryz.prog 150 #[.string s] w fun e w' => e = .returned (.tuple #[.int .i64 0, .int .i64 0, .int .i64 5]) ∧ w' = w := by
  have HA : Hid (∀ j, j < s.size → 128 ≤ byteN s j) := hall
  clear hall
  go_enter Tryz.func150, Tryz.ntmps150
  go_wp2
  go_loop [5, 11] (fun x i => ∃ j : Nat, j ≤ s.size ∧ i = .int .i64 j ∧ x = .int .u64 (varN s j : Nat)) (fun _ i => s.size + 1 - (intOf i).toNat)
  case atStart => exact ⟨0, Nat.zero_le _, rfl, rfl⟩
  case round =>
    obtain ⟨j, hj, rfl, rfl⟩ := hrel
    by_cases hlt : j < s.size
    · have hix : j < s.size := by omega
      have h128 := HA.out j hlt
      have hby := byteN_eq s j hix
      have hbl := byteN_lt s j
      have hg := andNot128 (byteN s j) hbl
      go_wp2
      go_round
      case rel =>
        refine ⟨j + 1, by omega, by go_num, congrArg (Value.int .u64) ?_⟩
        have e : ((byteN s j : Nat) : Int) % 128 = ((byteN s j % 128 : Nat) : Int) := by simp
        rw [e, or_group (varN s j) (byteN s j % 128) j (varN_lt s j) (by omega) (by omega)]
        rfl
      case measure => simp [intOf]; omega
    · obtain rfl : j = s.size := by omega
      go_wp2
      go_ret3
      exact ⟨rfl, rfl⟩
set_option maxHeartbeats 400000 in
theorem var_long (s : ByteArray) (w : World) (hs : 9 ≤ s.size) (hall : ∀ j, j < 9 → 128 ≤ byteN s j) (hsz : s.size ≤ 9223372036854775807) :
    Calls Tryz.prog 150 #[.string s] w fun e w' => e = .returned (.tuple #[.int .i64 0, .int .i64 0, .int .i64 10]) ∧ w' = w := by
  have HA : Hid (∀ j, j < 9 → 128 ≤ byteN s j) := hall
  clear hall
  go_enter Tryz.func150, Tryz.ntmps150
  go_wp2
  go_loop [5, 11] (fun x i => ∃ j : Nat, j ≤ 9 ∧ i = .int .i64 j ∧ x = .int .u64 (varN s j : Nat)) (fun _ i => 10 - (intOf i).toNat)
  case atStart => exact ⟨0, Nat.zero_le _, rfl, rfl⟩
  case round =>
    obtain ⟨j, hj, rfl, rfl⟩ := hrel
    by_cases hlt : j < 9
    · have hix : j < s.size := by omega
      have h128 := HA.out j hlt
      have hby := byteN_eq s j hix
      have hbl := byteN_lt s j
      have hg := andNot128 (byteN s j) hbl
      go_wp2
      go_round
      case rel =>
        refine ⟨j + 1, by omega, by go_num, congrArg (Value.int .u64) ?_⟩
        have e : ((byteN s j : Nat) : Int) % 128 = ((byteN s j % 128 : Nat) : Int) := by simp
        rw [e, or_group (varN s j) (byteN s j % 128) j (varN_lt s j) (by omega) (by omega)]
        rfl
      case measure => simp [intOf]; omega
    · obtain rfl : j = 9 := by omega
      go_wp2
      go_ret3
      exact ⟨rfl, rfl⟩
end Go.Proofs.YtcjlcieheepegaaGreatDoor
namespace Go.Proofs.YtcjlcieheepegaaGreatDoor
open Go.RowKit
set_option linter.unusedVariables false
set_option maxRecDepth 20000

theorem varN_nil (s : ByteArray) (j : Nat) (h : byteN s j = 0) : varN s (j + 1) = varN s j := varN_zero s j (by omega)
end Go.Proofs.YtcjlcieheepegaaGreatDoor
namespace Go.Proofs.YtcjlcieheepegaaGreatDoor
open Go.RowKit
set_option linter.unusedVariables false
set_option maxRecDepth 20000

theorem toBA_len (l : List Nat) : (toBA l).size = l.length := by
  show ((l.map UInt8.ofNat).toArray).size = _
  simp
/-- What PutVar gave, with whatever behind it, is read as the number. -/
theorem var_back (n : Nat) (s : ByteArray) (hn : n ≤ 9223372036854775807) (hs : s.size ≤ 140737488351232) (w : World) :
    Calls Tryz.prog 150 #[.string (toBA (varB 10 n) ++ s)] w fun r w' => r = .returned (.tuple #[.int .i64 n, .int .i64 (toBA (varB 10 n)).size, .int .i64 0]) ∧ w' = w := by
  have e9 : varB 10 n = varB 9 n := varB_fuel 9 n (by omega) (by omega)
  rw [e9]
  obtain ⟨k, h1, h2, h3, h4, h5, h6⟩ := varB_shape 9 n (by omega) (by omega)
  have hlt := varB_lt 9 n
  have hb : ∀ i, i < (varB 9 n).length → byteN (toBA (varB 9 n) ++ s) i = (varB 9 n).getD i 0 := fun i hi => byteN_append _ _ _ hi hlt
  have hsize : (toBA (varB 9 n) ++ s).size = k + 1 + s.size := by rw [ByteArray.size_append, toBA_len, h1]
  have hv : varN (toBA (varB 9 n) ++ s) (k + 1) = n := by
    rw [varN_gsum _ (varB 9 n) hb (k + 1) (by omega), ← h1, List.take_length, h6]
  have h := var_ok (toBA (varB 9 n) ++ s) k w (by omega) (by omega) (fun j hj => by rw [hb j (by omega)]; exact h3 j hj) (by rw [hb k (by omega)]; exact h4)
    (fun hz => by
      rw [hb k (by omega)] at hz
      rcases Nat.eq_zero_or_pos k with e | e
      · exact e
      · exact absurd hz (h5 e)) (by omega)
  rw [hv] at h
  have e2 : ((toBA (varB 9 n)).size : Int) = (k : Int) + 1 := by rw [toBA_len, h1]; omega
  rw [e2]
  exact h
end Go.Proofs.YtcjlcieheepegaaGreatDoor
namespace Go.Proofs.YtcjlcieheepegaaGreatDoor
open Go.RowKit
set_option linter.unusedVariables false
set_option maxRecDepth 20000

/-- A record. -/
structure Rec where
  off : Int
  key : ByteArray
  val : ByteArray
  gone : Bool
def Rec.cs (r : Rec) : List Value := [.int .i64 r.off, .string r.key, .string r.val, .bool r.gone]
def Rec.v (r : Rec) : Value := .agg #[.int .i64 r.off, .string r.key, .string r.val, .bool r.gone]
/-- May it be? -/
def mayB (r : Rec) : Bool := decide (0 ≤ r.off) && decide (r.off < 1099511627776) && decide (r.key.size ≤ 64) && decide (r.val.size ≤ 4096) && (!r.gone || decide (r.val.size = 0))
def errN (b : Bool) : Int := if b then 0 else 90
def offB (n : Int) : Bool := decide (0 ≤ n) && decide (n < 1099511627776)
theorem isOffset_ok (n : Int) (w : World) :
    Calls Tryz.prog 101 #[.int .i64 n] w fun e w' => e = .returned (.bool (offB n)) ∧ w' = w := by
  by_cases h : 0 ≤ n
  · have e : offB n = decide (n < 1099511627776) := by unfold offB; rw [decide_eq_true h]; rfl
    rw [e]
    clear e
    go_enter Tryz.func101, Tryz.ntmps101
    go_wp2
    go_ret
    exact ⟨rfl, rfl⟩
  · have e : offB n = false := by unfold offB; rw [decide_eq_false h]; rfl
    rw [e]
    clear e
    go_enter Tryz.func101, Tryz.ntmps101
    go_wp2
    go_ret
    exact ⟨rfl, rfl⟩
theorem mayB_false {r : Rec} (h : ¬ mayB r = true) : mayB r = false := by simpa using h
theorem mayB_iff (r : Rec) : mayB r = true ↔ offB r.off = true ∧ r.key.size ≤ 64 ∧ r.val.size ≤ 4096 ∧ (r.gone = true → r.val.size = 0) := by
  obtain ⟨off, key, val, gone⟩ := r
  unfold mayB offB
  simp only [Bool.and_eq_true, decide_eq_true_eq, Bool.or_eq_true, Bool.not_eq_true']
  cases gone
  · simp only [true_or, and_true]; constructor
    · intro h; exact ⟨h.1.1, h.1.2, h.2, fun h => absurd h (by decide)⟩
    · intro h; exact ⟨⟨h.1, h.2.1⟩, h.2.2.1⟩
  · simp only [Bool.true_eq_false, false_or]; constructor
    · intro h; exact ⟨h.1.1.1, h.1.1.2, h.1.2, fun _ => h.2⟩
    · intro h; exact ⟨⟨⟨h.1, h.2.1⟩, h.2.2.1⟩, h.2.2.2 trivial⟩
theorem check_ok (off : Int) (key val : ByteArray) (gone : Bool) (w : World) (hk : key.size ≤ 9223372036854775807) (hv : val.size ≤ 9223372036854775807) :
    Calls Tryz.prog 154 #[.agg #[.int .i64 off, .string key, .string val, .bool gone]] w fun e w' => e = .returned (.int .i64 (errN (mayB ⟨off, key, val, gone⟩))) ∧ Below w.heap.size w w' := by
  have HB : Hid (Below w.heap.size w (w.alloc (.cells #[.int .i64 off, .string key, .string val, .bool gone] 49))) := (Below.refl _ _).alloc (Nat.le_refl _) _
  have HM : Hid (mayB ⟨off, key, val, gone⟩ = true ↔ offB off = true ∧ key.size ≤ 64 ∧ val.size ≤ 4096 ∧ (gone = true → val.size = 0)) := mayB_iff ⟨off, key, val, gone⟩
  have HO := isOffset_ok off
  obtain ⟨m, hm⟩ : ∃ m, mayB ⟨off, key, val, gone⟩ = m := ⟨_, rfl⟩
  rw [hm] at HM ⊢
  clear hm
  generalize offB off = ob at HO HM
  have ht : errN true = 0 := rfl
  have hf : errN false = 90 := rfl
  cases ob
  · obtain rfl : m = false := by cases m; rfl; exact absurd (HM.out.1 rfl).1 (by decide)
    go_enter Tryz.func154, Tryz.ntmps154
    cases gone
    all_goals
      go_wp2_with (go_at_call 101; refine (HO _).mono ?_; rintro e w' ⟨rfl, rfl⟩)
      go_ret
      exact ⟨rfl, HB.out⟩
  · by_cases h3 : key.size ≤ 64
    · cases gone
      · by_cases h4 : val.size ≤ 4096
        · obtain rfl : m = true := HM.out.2 ⟨rfl, h3, h4, fun h => absurd h (by decide)⟩
          go_enter Tryz.func154, Tryz.ntmps154
          go_wp2_with (go_at_call 101; refine (HO _).mono ?_; rintro e w' ⟨rfl, rfl⟩)
          go_ret
          exact ⟨rfl, HB.out⟩
        · obtain rfl : m = false := by cases m; rfl; exact absurd (HM.out.1 rfl).2.2.1 h4
          go_enter Tryz.func154, Tryz.ntmps154
          go_wp2_with (go_at_call 101; refine (HO _).mono ?_; rintro e w' ⟨rfl, rfl⟩)
          go_ret
          exact ⟨rfl, HB.out⟩
      · by_cases h4 : 0 < val.size
        · obtain rfl : m = false := by cases m; rfl; exact absurd ((HM.out.1 rfl).2.2.2 rfl) (by omega)
          go_enter Tryz.func154, Tryz.ntmps154
          go_wp2_with (go_at_call 101; refine (HO _).mono ?_; rintro e w' ⟨rfl, rfl⟩)
          go_ret
          exact ⟨rfl, HB.out⟩
        · obtain rfl : m = true := HM.out.2 ⟨rfl, h3, by omega, fun _ => by omega⟩
          go_enter Tryz.func154, Tryz.ntmps154
          go_wp2_with (go_at_call 101; refine (HO _).mono ?_; rintro e w' ⟨rfl, rfl⟩)
          go_ret
          exact ⟨rfl, HB.out⟩
    · obtain rfl : m = false := by cases m; rfl; exact absurd (HM.out.1 rfl).2.1 h3
      go_enter Tryz.func154, Tryz.ntmps154
      cases gone
      all_goals
        go_wp2_with (go_at_call 101; refine (HO _).mono ?_; rintro e w' ⟨rfl, rfl⟩)
        go_ret
        exact ⟨rfl, HB.out⟩
end Go.Proofs.YtcjlcieheepegaaGreatDoor
namespace Go.Proofs.YtcjlcieheepegaaGreatDoor
open Go.RowKit
set_option linter.unusedVariables false
set_option maxRecDepth 20000

/-- Block b is a builder of the bytes l; its own row lies from block B on. -/
def BS (w : World) (B b : Nat) (l : List UInt8) : Prop := Lib.IsBuilderF 138 5 B b (Lib.byteCells l) w
theorem atF_below {T e : TypeId} {B b : Nat} {p : Value} {bs : List Value} {w w' : World} (h : Lib.BuilderAtF T e B b p bs w) (hb : Below w.heap.size w w') : Lib.BuilderAtF T e B b p bs w' := by
  obtain ⟨h1, v, h2, h3, h4⟩ := h
  refine ⟨h1, v, (hb.block b (lt_of_block h2)).trans h2, ⟨h3.1, ?_⟩, h4⟩
  rcases h3.2 with hn | ⟨g, cap, cur, fz, hv, hg, hh, r⟩
  · exact .inl hn
  · exact .inr ⟨g, cap, cur, fz, hv, hg, (hb.block g (lt_of_block hh)).trans hh, r⟩
theorem BS.below {w w' : World} {B b : Nat} {l : List UInt8} (h : BS w B b l) (hb : Below w.heap.size w w') : BS w' B b l :=
  h.elim (fun x => .inl (atF_below x hb)) (fun x => .inr (atF_below x hb))
theorem BS.lt {w : World} {B b : Nat} {l : List UInt8} (h : BS w B b l) : b < w.heap.size := by
  rcases h with h | h <;> exact h.lt
theorem BS.new (w : World) : BS (w.alloc (.cells #[.pointer none, .slice none 0 0] 138)) w.heap.size w.heap.size [] := Lib.IsBuilderF.of (Lib.fresh_isBuilder _ _ w)
theorem BS.size {w : World} {B b : Nat} {l : List UInt8} (h : BS w B b l) : B ≤ b := by
  rcases h with h | h <;> exact h.1
theorem kept_of_below {e : TypeId} {b : Option Nat} {w w' : World} (h : Below w.heap.size w w') : Lib.OthersKept e b w w' :=
  fun k o hk _ _ => (h.block k (by rcases Nat.lt_or_ge k w.heap.size with hl | hl; exact hl; simp [Array.getElem?_eq_none hl] at hk)).trans hk
/-- What a call that writes into the builder keeps. -/
structure BF (B b : Nat) (w w' : World) : Prop where
  below : Below B w w'
  kept : Lib.OthersKept 5 (some b) w w'
theorem BF.refl (B b : Nat) (w : World) : BF B b w w := ⟨Below.refl _ _, Lib.OthersKept.refl _ _ _⟩
theorem BF.trans {B b : Nat} {u v w : World} (h : BF B b u v) (k : BF B b v w) : BF B b u w := ⟨h.below.trans k.below, h.kept.trans k.kept⟩
theorem BF.of_below {B b : Nat} {w w' : World} (h : Below w.heap.size w w') (hB : B ≤ w.heap.size) : BF B b w w' := ⟨h.mono hB, kept_of_below h⟩
theorem BF.size {B b : Nat} {w w' : World} (h : BF B b w w') : w.heap.size ≤ w'.heap.size := h.below.size
/-- A number's bytes. -/
def vb (n : Nat) : List UInt8 := (varB 10 n).map UInt8.ofNat
theorem vb_length (n : Nat) : (vb n).length ≤ 10 := by simp only [vb, List.length_map]; exact varB_length 10 n
def mk (l : List UInt8) : ByteArray := ⟨l.toArray⟩
theorem mk_size (l : List UInt8) : (mk l).size = l.length := by show l.toArray.size = _; simp
theorem mk_toList (l : List UInt8) : (mk l).data.toList = l := by simp [mk]
theorem toBA_vb (n : Nat) : toBA (varB 10 n) = mk (vb n) := rfl
theorem write_ok (B b : Nat) (l : List UInt8) (s : ByteArray) (w : World) (h : BS w B b l) (hlen : l.length + s.size ≤ 140737488355328) (hB : B ≤ w.heap.size) :
    Calls Tryz.prog 82 #[.pointer (some ⟨b, 0, none⟩), .string s] w fun e w' => e = .returned (.tuple #[.int .i64 s.size, .nilIface]) ∧ BS w' B b (l ++ s.data.toList) ∧ BF B b w w' := by
  refine (Tryz.Builder_WriteString_k B b (Lib.byteCells l) s w h (by rw [Lib.byteCells_length]; exact hlen) hB).mono ?_
  rintro e w' ⟨rfl, h1, h2, h3⟩
  refine ⟨rfl, .inr ?_, h2, h3⟩
  rw [Lib.byteCells_append, ← Lib.strCells_eq]
  exact h1
end Go.Proofs.YtcjlcieheepegaaGreatDoor
