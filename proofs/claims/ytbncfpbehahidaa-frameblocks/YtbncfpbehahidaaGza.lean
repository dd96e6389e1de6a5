/- Layer 7: a frame's blocks, one by one; FrameBlocks' walk. -/
import Derived.Test.YtbncfpbehahidaaGj6
import Derived.Test.YtbncfpbehahidaaGyzf
namespace Go.Proofs.Ytbncfpbehahidaa
open Go.RowKit
set_option linter.unusedVariables false
set_option maxRecDepth 20000

theorem fixN_ext (S : ByteArray) (a b : Nat) (hb : b ≤ S.size) : ∀ j, a + j ≤ b → B1.fixN (S.extract a b) j = nF S a j
  | 0, _ => rfl
  | j + 1, hj => by
    have h := bt_extract S a (b - a) j (by omega) (by omega)
    rw [show a + (b - a) = b by omega] at h
    show B1.fixN (S.extract a b) j + bt (S.extract a b) j * 2 ^ (8 * j) = _
    rw [fixN_ext S a b hb j (by omega), h]; rfl
theorem and31m (x : Nat) (h : x < 4294967296) : bits .and .i64 (x : Int) 2147483647 = ((x % 2147483648 : Nat) : Int) := by
  have h1 := B1.i64_and_nat x 2147483647 (by omega) (by omega)
  rw [show ((2147483647 : Nat) : Int) = 2147483647 from rfl] at h1
  rw [h1, show (2147483647 : Nat) = 2 ^ 31 - 1 from rfl, Nat.and_two_pow_sub_one_eq_mod]
/-- A place where a block's number stands: how many blocks are ahead. -/
def At (T : ByteArray) (i a : Nat) : Prop := ∃ A k, packFr T = A ++ (blksL T k (65536 * i) ++ (le4 0 ++ le4 (hsum T))) ∧ A.length = a ∧ T.size - 65536 * i < k ∧ (i = 0 ∨ 65536 * (i - 1) < T.size)
theorem at_start (T : ByteArray) : At T 0 7 := ⟨frHead, T.size + 1, by unfold packFr; simp [List.append_assoc], rfl, by omega, .inl rfl⟩
theorem at_end {T : ByteArray} {i a : Nat} (h : At T i a) (hi : T.size ≤ 65536 * i) : nF (toBA (packFr T)) a 4 = 0 ∧ a + 8 = (packFr T).length ∧ i = (T.size + 65535) / 65536 := by
  obtain ⟨A, k, h1, h2, h3, h4⟩ := h
  rw [blksL_end T k _ hi] at h1
  refine ⟨?_, ?_, by omega⟩
  · rw [h1, List.nil_append]
    exact le4_read A _ 0 a h2.symm (by omega)
  · rw [h1]; simp only [List.length_append, le4_length, List.length_nil]; omega
theorem at_next {T : ByteArray} {i a : Nat} (h : At T i a) (hi : 65536 * i < T.size) : ∃ N, nF (toBA (packFr T)) a 4 = N ∧ N < 4294967296 ∧ N ≠ 0 ∧ At T (i + 1) (a + 8 + N % 2147483648) ∧ a + 8 + N % 2147483648 ≤ (packFr T).length := by
  obtain ⟨A, k, h1, h2, h3, h4⟩ := h
  obtain ⟨k, rfl⟩ : ∃ k', k = k' + 1 := ⟨k - 1, by omega⟩
  unfold blksL at h1
  rw [if_neg (by omega)] at h1
  obtain ⟨p, hp⟩ : ∃ p, T.extract (65536 * i) (min (65536 * i + 65536) T.size) = p := ⟨_, rfl⟩
  have hps : p.size = min (65536 * i + 65536) T.size - 65536 * i := by rw [← hp, ByteArray.size_extract]; omega
  rw [hp] at h1
  obtain ⟨b1, b2, b3, b4, b5, b6⟩ := blk_facts p (by omega) (by omega)
  have hbl : (blockL p).length = (blkX p).size + 8 := by rw [blockL_raw, rawL_length]
  refine ⟨blkN p, ?_, b1, b2, ⟨A ++ blockL p, k, ?_, ?_, by omega, .inr (by omega)⟩, ?_⟩
  · rw [h1, blockL_raw]
    unfold rawL
    simp only [List.append_assoc]
    exact le4_read A _ _ a h2.symm b1
  · rw [h1, show 65536 * (i + 1) = 65536 * i + 65536 by omega]; simp only [List.append_assoc]
  · rw [List.length_append, hbl, b4]; omega
  · rw [h1, b4]; simp only [List.length_append, hbl]; omega
/-- The first bytes of a row, as a text. -/
theorem conv_first (w : World) (B L n : Nat) (l : List Nat) (ao : Option Addr) (cp : Nat) (hown : w.ownsRow B 5 1 (.slice ao L cp) L (bcells l)) (hl : l.length = L) (hB : Bytes l) (hn : n ≤ L) :
    (convert 30 9 (.slice ao n cp)).run Try.prog w = .ok (.string (toBA (l.take n))) w ∧ (n : Int) ≤ (cp : Int) ∧ ((ao = none ∧ cp = 0 ∧ n = 0 ∧ L = 0) ∨ ∃ g, ao = some ⟨g, 0, none⟩) := by
  rcases hown.2 with ⟨e, h0⟩ | ⟨g, cap, cur, e, hBg, hh, hnc, hcm, hcs, htk⟩
  · cases e
    have hn0 : n = 0 := by omega
    subst hn0
    refine ⟨?_, by omega, .inl ⟨rfl, rfl, rfl, rfl⟩⟩
    rw [run_convert_bytes_string w 30 9 5 none 0 0 Try.underlying30 Try.underlying5 Try.underlying9]
    simp [Conv.bytesToString, toBA]
    rfl
  · cases e
    refine ⟨?_, by omega, .inr ⟨g, rfl⟩⟩
    have hlen : ((l.take n).map UInt8.ofNat).length = n := by simp; omega
    have := run_convert_bytes_back (P := Try.prog) w 30 9 5 ⟨g, 0, none⟩ cp ((l.take n).map UInt8.ofNat) Try.underlying30 Try.underlying5 Try.underlying9 (fun j hj => by
      rw [hlen] at hj
      have hj' : j < l.length := by omega
      have hx := hB l[j] (List.getElem_mem hj')
      refine hown.cells (g := g) rfl j _ ?_
      simp [bcells, List.getElem?_eq_getElem hj']
      omega)
    rw [hlen] at this
    exact this
theorem ownsRow_keep {w w' : World} {B n : Nat} {E : TypeId} {v : Value} {xs : List Value} (h : w.ownsRow B E 1 v n xs) (hb : Below w.heap.size w w') : w'.ownsRow B E 1 v n xs := by
  refine ⟨h.1, ?_⟩
  rcases h.2 with e | ⟨g, cap, cur, e1, e2, e3, e4⟩
  · exact .inl e
  · exact .inr ⟨g, cap, cur, e1, e2, (hb.block g (lt_of_block e3)).trans e3, e4⟩
def lenOf (v : Value) : Nat := match v with | .slice _ n _ => n | _ => 0
theorem and18 (x : Int) : ∃ a : Nat, a ≤ 262143 ∧ bits .and .i64 x 262143 = (a : Int) := by
  have h : (BitVec.ofInt 64 x &&& BitVec.ofInt 64 262143).toNat ≤ 262143 := by
    rw [BitVec.toNat_and]
    exact Nat.le_trans Nat.and_le_right (by decide)
  refine ⟨_, h, ?_⟩
  show IntKind.i64.wrap ((BitVec.ofInt 64 x &&& BitVec.ofInt 64 262143).toNat : Int) = _
  rw [IntKind.wrap_i64]
  omega
theorem refNum (T : ByteArray) (hT : T.size ≤ 1048576) (a : Nat) (ha : a + 4 ≤ (packFr T).length) (W : World) : Calls Try.prog 13 #[.string ((toBA (packFr T)).extract a (toBA (packFr T)).size), .int .i64 4] W fun e w' => e = .returned (.tuple #[.int .i64 (nF (toBA (packFr T)) a 4 : Nat), .int .i64 0]) ∧ w' = W := by
  have hs : (toBA (packFr T)).size = (packFr T).length := toBA_size _
  have e1 := fixN_ext (toBA (packFr T)) a (toBA (packFr T)).size (Nat.le_refl _) 4 (by omega)
  have hl := nF4_lt (toBA (packFr T)) a
  have h := B1.refFixed ((toBA (packFr T)).extract a (toBA (packFr T)).size) 4 W (by omega) (by omega) (by rw [ByteArray.size_extract]; omega) (by rw [e1]; omega) (fun h => by omega)
  rw [e1] at h
  exact h
end Go.Proofs.Ytbncfpbehahidaa
