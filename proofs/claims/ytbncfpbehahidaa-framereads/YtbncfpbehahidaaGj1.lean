/- Layer 7: what a frame's unpacker holds; the pieces of a frame, as plain functions. -/
/- Layer 7: next and number of a frame's unpacker. -/
/- Layer 7: numbers, flags and sums of a frame's unpacker. -/
import Derived.Test.YtbncfpbehahidaaYc2
import Derived.Test.YtbncfpbehahidaaYb
import Derived.Test.YtbncfpbehahidaaGx1
import Derived.Test.YtbncfpbehahidaaGs3
namespace Go.Proofs.Ytbncfpbehahidaa
open Go.RowKit
set_option linter.unusedVariables false
set_option maxRecDepth 20000

/-- What an unpacker of frames holds. -/
structure FD where
  s : ByteArray
  pos : Nat
  most : Nat
  flags : Nat
  bm : Nat
  size : Nat
  block : Nat
  held : ByteArray
  plain : List Nat
def FD.cells (d : FD) (v : Value) : Array Value := #[.string d.s, .int .i64 (d.pos : Nat), .int .i64 (d.most : Nat), .int .i64 (d.flags : Nat), .int .i64 (d.bm : Nat), .int .i64 (d.size : Nat), .int .i64 (d.block : Nat), .string d.held, v]
/-- Block u is an unpacker of frames that holds d (its plain bytes lie from block B on). -/
structure FU (w : World) (B u : Nat) (d : FD) (v : Value) : Prop where
  blk : w.heap[u]? = some (.cells (d.cells v) 36 (0, 0))
  own : w.ownsRow B 5 1 v d.plain.length (bcells d.plain)
  le : d.pos ≤ d.s.size
  small : d.s.size ≤ 140737488351232
  hB : B ≤ u
  hbm : d.bm ≤ 4194304
  hmost : d.most ≤ 1048576
  hfl : d.flags < 256
  hsz : d.size ≤ 4611686018427387904
  hblk : d.block < 4294967296
  hheld : d.held.size ≤ 2147483648
  bytes : Bytes d.plain
/-- Nothing below B turned, and no block but such of bytes and of unpackers. -/
def FF (B : Nat) (w w' : World) : Prop :=
  Below B w w' ∧ ∀ (k : Nat) (cs : Array Value) (T : TypeId) (mk : Nat × Nat), w.heap[k]? = some (.cells cs T mk) → T ≠ 5 → T ≠ 36 → w'.heap[k]? = w.heap[k]?
theorem FF.refl (B : Nat) (w : World) : FF B w w := ⟨Below.refl _ _, fun _ _ _ _ _ _ _ => rfl⟩
theorem FF.trans {B : Nat} {a b c : World} (h : FF B a b) (k : FF B b c) : FF B a c :=
  ⟨h.1.trans k.1, fun i cs T mk h1 h2 h3 => by rw [k.2 i cs T mk (by rw [h.2 i cs T mk h1 h2 h3]; exact h1) h2 h3, h.2 i cs T mk h1 h2 h3]⟩
theorem FF.call {B : Nat} {w w' : World} (h : Below w.heap.size w w') (hB : B ≤ w.heap.size) : FF B w w' := ⟨h.mono hB, fun i cs T mk h1 _ _ => h.block i (lt_of_block h1)⟩
theorem FF.drewN (B : Nat) (w : World) (k : Nat) : FF B w (w.drewN k) := ⟨⟨rfl, rfl, rfl, Nat.le_refl _, fun _ _ => rfl⟩, fun _ _ _ _ _ _ _ => rfl⟩
theorem FU.sizeB {w : World} {B u : Nat} {d : FD} {v : Value} (h : FU w B u d v) : B ≤ w.heap.size := Nat.le_trans h.hB (Nat.le_of_lt (lt_of_block h.blk))
theorem FU.drewN {w : World} {B u : Nat} {d : FD} {v : Value} (h : FU w B u d v) (k : Nat) : FU (w.drewN k) B u d v := ⟨h.blk, h.own, h.le, h.small, h.hB, h.hbm, h.hmost, h.hfl, h.hsz, h.hblk, h.hheld, h.bytes⟩
theorem FU.call {w w' : World} {B u : Nat} {d : FD} {v : Value} (h : FU w B u d v) (hb : Below w.heap.size w w') : FU w' B u d v := by
  refine ⟨(hb.block u (lt_of_block h.blk)).trans h.blk, ?_, h.le, h.small, h.hB, h.hbm, h.hmost, h.hfl, h.hsz, h.hblk, h.hheld, h.bytes⟩
  refine ⟨h.own.1, ?_⟩
  rcases h.own.2 with e | ⟨g, cap, cur, e1, e2, e3, e4⟩
  · exact .inl e
  · exact .inr ⟨g, cap, cur, e1, e2, (hb.block g (lt_of_block e3)).trans e3, e4⟩
theorem FU.form {w : World} {B u : Nat} {d : FD} {v : Value} (h : FU w B u d v) : ∃ ao cp, v = .slice ao d.plain.length cp := by
  rcases h.own.2 with ⟨e, h0⟩ | ⟨g, cap, cur, e, _⟩
  · exact ⟨none, 0, by rw [e, h0]⟩
  · exact ⟨_, _, e⟩
theorem FU.cell {w : World} {B u : Nat} {d : FD} {v : Value} (h : FU w B u d v) (i : Nat) (x : Value) (hx : (d.cells v)[i]? = some x) : w.cell? ⟨u, i, none⟩ = some x ∧ w.frozen? ⟨u, i, none⟩ = false := by
  have h1 := h.blk
  exact ⟨by simp [World.cell?, h1, hx], by simp [World.frozen?, h1]⟩
theorem FU.cs {w : World} {B u : Nat} {s : ByteArray} {pos most flags bm size block : Nat} {held : ByteArray} {plain : List Nat} {v : Value} (h : FU w B u ⟨s, pos, most, flags, bm, size, block, held, plain⟩ v) :
    w.cell? ⟨u, 0, none⟩ = some (.string s) ∧ w.cell? ⟨u, 1, none⟩ = some (.int .i64 (pos : Nat)) ∧ w.cell? ⟨u, 2, none⟩ = some (.int .i64 (most : Nat)) ∧ w.cell? ⟨u, 3, none⟩ = some (.int .i64 (flags : Nat)) ∧ w.cell? ⟨u, 4, none⟩ = some (.int .i64 (bm : Nat)) ∧ w.cell? ⟨u, 5, none⟩ = some (.int .i64 (size : Nat)) ∧
      w.cell? ⟨u, 6, none⟩ = some (.int .i64 (block : Nat)) ∧ w.cell? ⟨u, 7, none⟩ = some (.string held) ∧ w.cell? ⟨u, 8, none⟩ = some v :=
  ⟨(h.cell 0 _ rfl).1, (h.cell 1 _ rfl).1, (h.cell 2 _ rfl).1, (h.cell 3 _ rfl).1, (h.cell 4 _ rfl).1, (h.cell 5 _ rfl).1, (h.cell 6 _ rfl).1, (h.cell 7 _ rfl).1, (h.cell 8 _ rfl).1⟩
theorem FU.fz {w : World} {B u : Nat} {d : FD} {v : Value} (h : FU w B u d v) (i : Nat) : w.frozen? ⟨u, i, none⟩ = false := by
  have h1 := h.blk
  simp [World.frozen?, h1]
/-- One field was stored. -/
theorem FU.store {w : World} {B u : Nat} {d d' : FD} {v : Value} (h : FU w B u d v) (i : Nat) (x : Value) (hc : (d.cells v).setIfInBounds i x = d'.cells v) (h1 : d'.plain = d.plain) (h2 : d'.pos ≤ d'.s.size) (h3 : d'.s = d.s) (h4 : d'.bm ≤ 4194304) (h5 : d'.most ≤ 1048576) (h6 : d'.flags < 256)
    (h7 : d'.size ≤ 4611686018427387904) (h8 : d'.block < 4294967296) (h9 : d'.held.size ≤ 2147483648) : FU (w.setCell ⟨u, i, none⟩ x) B u d' v ∧ FF B w (w.setCell ⟨u, i, none⟩ x) := by
  refine ⟨⟨?_, ?_, h2, by rw [h3]; exact h.small, h.hB, h4, h5, h6, h7, h8, h9, by rw [h1]; exact h.bytes⟩, Below.setCell' w _ h.hB, fun k cs T mk e _ e2 => ?_⟩
  · rw [block_setCell (i := i) h.blk, hc]
  · rw [h1]; exact ownsRow_set h.own h.blk (by decide)
  · refine Below.heap_setCell _ _ _ _ ?_
    show k ≠ u
    rintro rfl
    rw [h.blk] at e; cases e; exact e2 rfl
/-- What a call of an unpacker leaves. -/
def Ends (B u : Nat) (w : World) (d' : FD) (val : Value) (e : Ending) (w' : World) : Prop := e = .returned val ∧ (∃ v', FU w' B u d' v') ∧ FF B w w'
/-- The number of so many bytes from a place on. -/
def nF (s : ByteArray) (a : Nat) : Nat → Nat
  | 0 => 0
  | k + 1 => nF s a k + bt s (a + k) * 2 ^ (8 * k)
theorem bt_extract (s : ByteArray) (a k i : Nat) (hi : i < k) (h : a + k ≤ s.size) : bt (s.extract a (a + k)) i = bt s (a + i) := by
  have hs : i < (s.extract a (a + k)).size := by rw [ByteArray.size_extract]; omega
  have h1 : (s.extract a (a + k)).data[i]? = s.data[a + i]? := by
    rw [ByteArray.data_extract, Array.getElem?_extract]
    have : i < min (a + k) s.data.size - a := by have : s.data.size = s.size := rfl; omega
    rw [if_pos this]
  unfold bt
  rw [List.getD_eq_getElem?_getD, List.getD_eq_getElem?_getD, Array.getElem?_toList, Array.getElem?_toList, h1]
theorem fixN_extract (s : ByteArray) (a k : Nat) (h : a + k ≤ s.size) : ∀ j, j ≤ k → B1.fixN (s.extract a (a + k)) j = nF s a j
  | 0, _ => rfl
  | j + 1, hj => by
    show B1.fixN (s.extract a (a + k)) j + bt (s.extract a (a + k)) j * 2 ^ (8 * j) = _
    rw [fixN_extract s a k h j (by omega), bt_extract s a k j (by omega) h]; rfl
theorem nF_lt (s : ByteArray) (a : Nat) : ∀ k, nF s a k < 2 ^ (8 * k)
  | 0 => by simp [nF]
  | k + 1 => by
    have h1 := nF_lt s a k
    have h2 := bt_lt s (a + k)
    have e : 2 ^ (8 * (k + 1)) = 256 * 2 ^ (8 * k) := by rw [show 8 * (k + 1) = 8 + 8 * k by omega, Nat.pow_add]
    unfold nF
    rw [e]
    have h3 : bt s (a + k) * 2 ^ (8 * k) ≤ 255 * 2 ^ (8 * k) := Nat.mul_le_mul_right _ (by omega)
    omega
end Go.Proofs.Ytbncfpbehahidaa
namespace Go.Proofs.Ytbncfpbehahidaa
open Go.RowKit
set_option linter.unusedVariables false
set_option maxRecDepth 20000

set_option maxHeartbeats 1000000 in
theorem fnext_short (w : World) (B u : Nat) (d : FD) (v : Value) (h : FU w B u d v) (n : Nat) (hn : n ≤ 4294967296) (hs : d.s.size < d.pos + n) :
    Calls Try.prog 31 #[.pointer (some ⟨u, 0, none⟩), .int .i64 (n : Nat)] w fun e w' => Ends B u w d (.tuple #[.string ⟨#[]⟩, .int .i64 5]) e w' := by
  have HU : Hid (FU w B u d v) := h
  obtain ⟨s, pos, most, flags, bm, size, block, held, plain⟩ := d
  obtain ⟨c0, c1, -⟩ := h.cs
  have hle : pos ≤ s.size := h.le
  have hsm : s.size ≤ 140737488351232 := h.small
  simp only at hs
  clear h
  obtain ⟨R, hR⟩ : ∃ R, s.size - pos = R := ⟨_, rfl⟩
  have hRi : (s.size : Int) - (pos : Int) = (R : Int) := by omega
  have hRw := wrapN R (by omega)
  have ht : (R : Int) < (n : Int) := by omega
  clear hR
  go_enter Try.func31, Try.ntmps31
  go_wp2_with fail
  go_quiet (fail)
  go_wp2
  go_ret2
  exact ⟨rfl, ⟨v, HU.out.drewN nq⟩, FF.drewN _ _ _⟩
set_option maxHeartbeats 1000000 in
theorem fnext_ok (w : World) (B u : Nat) (d : FD) (v : Value) (h : FU w B u d v) (n : Nat) (hn : n ≤ 4294967296) (hs : d.pos + n ≤ d.s.size) :
    Calls Try.prog 31 #[.pointer (some ⟨u, 0, none⟩), .int .i64 (n : Nat)] w fun e w' => Ends B u w { d with pos := d.pos + n } (.tuple #[.string (d.s.extract d.pos (d.pos + n)), .int .i64 0]) e w' := by
  have HU : Hid (FU w B u d v) := h
  obtain ⟨s, pos, most, flags, bm, size, block, held, plain⟩ := d
  obtain ⟨c0, c1, -⟩ := h.cs
  have f1 := h.fz 1
  have hle : pos ≤ s.size := h.le
  have hsm : s.size ≤ 140737488351232 := h.small
  simp only at hs ⊢
  clear h
  obtain ⟨R, hR⟩ : ∃ R, s.size - pos = R := ⟨_, rfl⟩
  have hRi : (s.size : Int) - (pos : Int) = (R : Int) := by omega
  have hRw := wrapN R (by omega)
  have ht : ¬ (R : Int) < (n : Int) := by omega
  clear hR
  obtain ⟨P, hP⟩ : ∃ P, pos + n = P := ⟨_, rfl⟩
  have hPi : (pos : Int) + (n : Int) = (P : Int) := by omega
  have hPw := wrapN64 P (by omega)
  have hPb : (P : Int) - (n : Int) = (pos : Int) := by omega
  have hpw := wrapN64 pos (by omega)
  rw [hP]
  have h1 : pos ≤ P := by omega
  have h2 : P ≤ s.size := by omega
  have HF : Hid (∀ k, FU ((w.drewN k).setCell ⟨u, 1, none⟩ (.int .i64 (P : Nat))) B u ⟨s, P, most, flags, bm, size, block, held, plain⟩ v ∧ FF B w ((w.drewN k).setCell ⟨u, 1, none⟩ (.int .i64 (P : Nat)))) := fun k => by
    have hh := (HU.out.drewN k).store (d' := ⟨s, P, most, flags, bm, size, block, held, plain⟩) 1 (.int .i64 (P : Nat)) rfl rfl h2 rfl HU.out.hbm HU.out.hmost HU.out.hfl HU.out.hsz HU.out.hblk HU.out.hheld
    exact ⟨hh.1, (FF.drewN _ _ _).trans hh.2⟩
  clear hP
  go_enter Try.func31, Try.ntmps31
  go_wp2_with fail
  go_quiet (fail)
  go_wp2_with fail
  have H2 := HF.out nq
  obtain ⟨w2, hw2⟩ : ∃ w2, (w.drewN nq).setCell ⟨u, 1, none⟩ (.int .i64 (P : Nat)) = w2 := ⟨_, rfl⟩
  rw [hw2] at H2 ⊢
  clear hw2 HF c0 c1 f1
  obtain ⟨hU2, hF2⟩ := H2
  obtain ⟨c0, c1, -⟩ := hU2.cs
  have HU2 : Hid (FU w2 B u ⟨s, P, most, flags, bm, size, block, held, plain⟩ v ∧ FF B w w2) := ⟨hU2, hF2⟩
  clear hU2 hF2
  go_quiet (fail)
  go_wp2
  go_ret2
  exact ⟨rfl, ⟨v, HU2.out.1.drewN _⟩, HU2.out.2.trans (FF.drewN _ _ _)⟩
end Go.Proofs.Ytbncfpbehahidaa
namespace Go.Proofs.Ytbncfpbehahidaa
open Go.RowKit
set_option linter.unusedVariables false
set_option maxRecDepth 20000

theorem andNot31 (x : Nat) (h : x < 4294967296) : bits .andNot .i64 (x : Int) 2147483648 = ((x % 2147483648 : Nat) : Int) := by
  show IntKind.i64.wrap ((BitVec.ofInt 64 (x : Int) &&& ~~~ BitVec.ofInt 64 2147483648).toNat : Int) = _
  have e : (BitVec.ofInt 64 (x : Int) &&& ~~~ BitVec.ofInt 64 2147483648).toNat = x % 2147483648 := by
    have e1 : BitVec.toNat (BitVec.ofInt 64 (x : Int)) = x := by rw [BitVec.toNat_ofInt]; omega
    have e2 : (~~~ BitVec.ofInt 64 2147483648).toNat = 18446744071562067967 := by decide +kernel
    rw [BitVec.toNat_and, e1, e2]
    refine Nat.eq_of_testBit_eq fun i => ?_
    rw [Nat.testBit_and, show (2147483648 : Nat) = 2 ^ 31 from rfl, Nat.testBit_mod_two_pow]
    by_cases h1 : i < 31
    · have h2 : Nat.testBit 18446744071562067967 i = true := by
        have : ∀ j : Fin 31, Nat.testBit 18446744071562067967 j.val = true := by decide +kernel
        exact this ⟨i, h1⟩
      rw [h2]; simp [h1]
    · by_cases h3 : i = 31
      · subst h3
        have h2 : Nat.testBit 18446744071562067967 31 = false := by decide +kernel
        rw [h2]; simp
      · have h4 : x.testBit i = false := Nat.testBit_lt_two_pow (Nat.lt_of_lt_of_le h (Nat.pow_le_pow_right (n := 2) (by omega) (show 32 ≤ i by omega)))
        rw [h4]; simp
  rw [e, IntKind.wrap_i64]
  omega
theorem and31 (x : Nat) (h : x < 4294967296) : bits .and .i64 (x : Int) 2147483648 = if 2147483648 ≤ x then 2147483648 else 0 := by
  have h1 := B1.i64_and_nat x 2147483648 (by omega) (by omega)
  rw [show ((2147483648 : Nat) : Int) = 2147483648 from rfl] at h1
  have e : x &&& 2147483648 = if 2147483648 ≤ x then 2147483648 else 0 := by
    refine Nat.eq_of_testBit_eq fun i => ?_
    rw [Nat.testBit_and, show (2147483648 : Nat) = 2 ^ 31 from rfl, Nat.testBit_two_pow]
    by_cases h2 : 2 ^ 31 ≤ x
    · rw [if_pos h2, Nat.testBit_two_pow]
      by_cases h3 : 31 = i
      · subst h3
        have h4 : x.testBit 31 = true := by
          rw [Nat.testBit_eq_decide_div_mod_eq]
          simp; omega
        rw [h4]; rfl
      · simp [h3]
    · rw [if_neg h2, Nat.zero_testBit]
      by_cases h3 : 31 = i
      · subst h3
        rw [Nat.testBit_lt_two_pow (by omega)]; rfl
      · simp [h3]
  rw [h1, e]
  split <;> rfl
theorem has_and (f : Nat) (h : f < 256) : (bits .and .i64 (f : Int) 4 != 0) = decide (f / 4 % 2 = 1) ∧ (bits .and .i64 (f : Int) 8 != 0) = decide (f / 8 % 2 = 1) ∧ (bits .and .i64 (f : Int) 16 != 0) = decide (f / 16 % 2 = 1) := by
  have : ∀ j : Fin 256, (bits .and .i64 (j.val : Int) 4 != 0) = decide (j.val / 4 % 2 = 1) ∧ (bits .and .i64 (j.val : Int) 8 != 0) = decide (j.val / 8 % 2 = 1) ∧ (bits .and .i64 (j.val : Int) 16 != 0) = decide (j.val / 16 % 2 = 1) := by decide +kernel
  exact this ⟨f, h⟩
theorem flags_ok (f : Nat) (h : f < 256) : (bits .andNot .i64 (f : Int) 28 != 96) = !decide (f / 32 = 3 ∧ f % 4 = 0) := by
  have : ∀ j : Fin 256, (bits .andNot .i64 (j.val : Int) 28 != 96) = !decide (j.val / 32 = 3 ∧ j.val % 4 = 0) := by decide +kernel
  exact this ⟨f, h⟩
set_option maxHeartbeats 1000000 in
theorem fnumber_short (w : World) (B u : Nat) (d : FD) (v : Value) (h : FU w B u d v) (k : Nat) (hk : 1 ≤ k) (hk8 : k ≤ 8) (hs : d.s.size < d.pos + k) :
    Calls Try.prog 32 #[.pointer (some ⟨u, 0, none⟩), .int .i64 (k : Nat)] w fun e w' => Ends B u w d (.tuple #[.int .i64 0, .int .i64 5]) e w' := by
  have HQ : Hid (∀ _ : Unit, Calls Try.prog 31 #[.pointer (some ⟨u, 0, none⟩), .int .i64 (k : Nat)] w fun e w' => Ends B u w d (.tuple #[.string ⟨#[]⟩, .int .i64 5]) e w') := fun _ => fnext_short w B u d v h k (by omega) hs
  clear h hs
  go_enter Try.func32, Try.ntmps32
  go_wp2_with fail
  refine (HQ.out ()).mono ?_
  rintro e w1 ⟨rfl, hU, hF⟩
  go_wp2
  go_ret2
  exact ⟨rfl, hU, hF⟩
set_option maxHeartbeats 1000000 in
theorem fnumber_ok (w : World) (B u : Nat) (d : FD) (v : Value) (h : FU w B u d v) (k : Nat) (hk : 1 ≤ k) (hk8 : k ≤ 8) (hs : d.pos + k ≤ d.s.size) (hb : nF d.s d.pos k ≤ 9223372036854775807) :
    Calls Try.prog 32 #[.pointer (some ⟨u, 0, none⟩), .int .i64 (k : Nat)] w fun e w' => Ends B u w { d with pos := d.pos + k } (.tuple #[.int .i64 (nF d.s d.pos k : Nat), .int .i64 0]) e w' := by
  have HQ : Hid (∀ _ : Unit, Calls Try.prog 31 #[.pointer (some ⟨u, 0, none⟩), .int .i64 (k : Nat)] w fun e w' => Ends B u w { d with pos := d.pos + k } (.tuple #[.string (d.s.extract d.pos (d.pos + k)), .int .i64 0]) e w') := fun _ => fnext_ok w B u d v h k (by omega) hs
  have e1 := fixN_extract d.s d.pos k hs k (Nat.le_refl _)
  have HX : Hid (∀ W, Calls Try.prog 48 #[.string (d.s.extract d.pos (d.pos + k)), .int .i64 (k : Nat)] W fun e w' => e = .returned (.tuple #[.int .i64 (nF d.s d.pos k : Nat), .int .i64 0]) ∧ w' = W) := fun W => by
    have hx := B1.fixed (d.s.extract d.pos (d.pos + k)) k W hk hk8 (by rw [ByteArray.size_extract]; omega) (by rw [e1]; exact hb)
    rw [e1] at hx
    exact hx
  obtain ⟨X, hX⟩ : ∃ X, d.s.extract d.pos (d.pos + k) = X := ⟨_, rfl⟩
  obtain ⟨Z, hZ⟩ : ∃ Z, nF d.s d.pos k = Z := ⟨_, rfl⟩
  rw [hX] at HQ HX
  rw [hZ] at HX ⊢
  clear h hs e1 hb hX hZ
  go_enter Try.func32, Try.ntmps32
  go_wp2_with fail
  refine (HQ.out ()).mono ?_
  rintro e w1 ⟨rfl, hU, hF⟩
  go_wp2_with fail
  refine (HX.out _).mono ?_
  rintro e w2 ⟨rfl, rfl⟩
  go_wp2
  go_ret2
  exact ⟨rfl, hU, hF⟩
set_option maxHeartbeats 1000000 in
theorem fnumber_big (w : World) (B u : Nat) (d : FD) (v : Value) (h : FU w B u d v) (k : Nat) (hk : 1 ≤ k) (hk8 : k ≤ 8) (hs : d.pos + k ≤ d.s.size) (hb : 9223372036854775807 < nF d.s d.pos k) :
    Calls Try.prog 32 #[.pointer (some ⟨u, 0, none⟩), .int .i64 (k : Nat)] w fun e w' => Ends B u w { d with pos := d.pos + k } (.tuple #[.int .i64 0, .int .i64 10]) e w' := by
  have HQ : Hid (∀ _ : Unit, Calls Try.prog 31 #[.pointer (some ⟨u, 0, none⟩), .int .i64 (k : Nat)] w fun e w' => Ends B u w { d with pos := d.pos + k } (.tuple #[.string (d.s.extract d.pos (d.pos + k)), .int .i64 0]) e w') := fun _ => fnext_ok w B u d v h k (by omega) hs
  have e1 := fixN_extract d.s d.pos k hs k (Nat.le_refl _)
  have HX : Hid (∀ W, Calls Try.prog 48 #[.string (d.s.extract d.pos (d.pos + k)), .int .i64 (k : Nat)] W fun e w' => e = .returned (.tuple #[.int .i64 0, .int .i64 10]) ∧ w' = W) := fun W =>
    B1.fixed_big (d.s.extract d.pos (d.pos + k)) k W hk hk8 (by rw [ByteArray.size_extract]; omega) (by rw [e1]; exact hb)
  obtain ⟨X, hX⟩ : ∃ X, d.s.extract d.pos (d.pos + k) = X := ⟨_, rfl⟩
  rw [hX] at HQ HX
  clear h hs e1 hb hX
  go_enter Try.func32, Try.ntmps32
  go_wp2_with fail
  refine (HQ.out ()).mono ?_
  rintro e w1 ⟨rfl, hU, hF⟩
  go_wp2_with fail
  refine (HX.out _).mono ?_
  rintro e w2 ⟨rfl, rfl⟩
  go_wp2
  go_ret2
  exact ⟨rfl, hU, hF⟩
def hsum (s : ByteArray) : Nat := S2.hashOf (S2.BL s) 0
theorem hsum_lt (s : ByteArray) : hsum s < 4294967296 := S2.hashOf_lt _ _
theorem sumOf_ok (s : ByteArray) (w : World) (hs : s.size ≤ 140737488351232) :
    Calls Try.prog 30 #[.string s] w fun e w' => e = .returned (.int .i64 (hsum s : Nat)) ∧ Below w.heap.size w w' := by
  have HQ : Hid (∀ W, Calls Try.prog 47 #[.string s, .int .i64 0] W fun e w' => e = .returned (.int .i64 (hsum s : Nat)) ∧ Below W.heap.size W w') := fun W => S2.hash s 0 0 W hs rfl
  go_enter Try.func30, Try.ntmps30
  go_wp2_with fail
  refine (HQ.out _).mono ?_
  rintro e w1 ⟨rfl, hb⟩
  go_wp2
  go_ret
  exact ⟨rfl, hb⟩
theorem byte2 (x : Nat) (h : x < 4294967296) : bits .and .i64 ((x / 256 : Nat) : Int) 255 = ((x / 256 % 256 : Nat) : Int) := by
  have h1 := B1.i64_and_nat (x / 256) 255 (by omega) (by omega)
  rw [show ((255 : Nat) : Int) = 255 from rfl] at h1
  rw [h1, nat_mask8]
theorem headSum_ok (s : ByteArray) (w : World) (hs : s.size ≤ 140737488351232) :
    Calls Try.prog 34 #[.string s] w fun e w' => e = .returned (.int .i64 (hsum s / 256 % 256 : Nat)) ∧ Below w.heap.size w w' := by
  have HQ : Hid (∀ W, Calls Try.prog 30 #[.string s] W fun e w' => e = .returned (.int .i64 (hsum s : Nat)) ∧ Below W.heap.size W w') := fun W => sumOf_ok s W hs
  have hl := hsum_lt s
  obtain ⟨x, hx⟩ : ∃ x, hsum s = x := ⟨_, rfl⟩
  rw [hx] at HQ hl ⊢
  clear hx
  have hb2 := byte2 x hl
  obtain ⟨y, hy⟩ : ∃ y, x / 256 = y := ⟨_, rfl⟩
  obtain ⟨z, hz⟩ : ∃ z, x / 256 % 256 = z := ⟨_, rfl⟩
  rw [hz] at hb2 ⊢
  rw [hy] at hb2
  have hyi : (x : Int) / 256 = (y : Int) := by omega
  have HY : Hid (bits .and .i64 (y : Int) 255 = (z : Int)) := hb2
  clear hb2 hz hy
  go_enter Try.func34, Try.ntmps34
  go_wp2_with fail
  refine (HQ.out _).mono ?_
  rintro e w1 ⟨rfl, hb⟩
  go_wp2
  rw [HY.out]
  go_ret
  exact ⟨rfl, hb⟩
end Go.Proofs.Ytbncfpbehahidaa
