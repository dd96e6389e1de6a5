/- Layer 7: reading what was written. -/
/- Layer 7: there and back. -/
/- Layer 7: awake. -/
import Derived.Test.YtbncfpbehahidaaGj4
import Derived.Test.YtbncfpbehahidaaGj5
namespace Go.Proofs.Ytbncfpbehahidaa
open Go.RowKit
set_option linter.unusedVariables false
set_option maxRecDepth 20000

theorem toBA_extract (l : List Nat) (a b : Nat) : (toBA l).extract a b = toBA ((l.drop a).take (b - a)) := by
  apply ByteArray.ext
  rw [ByteArray.data_extract]
  apply Array.toList_inj.1
  rw [Array.toList_extract, List.extract_eq_take_drop]
  simp [toBA]
theorem mid_extract (A X R : List Nat) (a b : Nat) (ha : a = A.length) (hb : b = A.length + X.length) : (toBA (A ++ (X ++ R))).extract a b = toBA X := by
  subst ha hb
  rw [toBA_extract]
  congr 1
  rw [List.drop_left, Nat.add_sub_cancel_left, List.take_left]
theorem le4_read (A R : List Nat) (n a : Nat) (ha : a = A.length) (hn : n < 4294967296) : nF (toBA (A ++ (le4 n ++ R))) a 4 = n := by
  have hs : a + 4 ≤ (toBA (A ++ (le4 n ++ R))).size := by rw [toBA_size, List.length_append, List.length_append, le4_length]; omega
  rw [← fixN_extract _ a 4 hs 4 (Nat.le_refl _), mid_extract A (le4 n) R a (a + 4) ha (by rw [le4_length, ha])]
  have h := B1.fixN_fixB n 4 ⟨#[]⟩ hn
  have e : B1.toBA (B1.fixB n 4) ++ ⟨#[]⟩ = toBA (le4 n) := ByteArray.append_empty
  rw [e] at h
  exact h
theorem bn_eq (d : FD) (N : Nat) (h : d.pos + 4 ≤ d.s.size) (hN : nF d.s d.pos 4 = N) (hv : ¬ (N = 2147483648 ∨ d.bm < N % 2147483648)) : gBn d = (0, { d with pos := d.pos + 4, block := N }) := by
  unfold gBn; rw [if_neg (by omega), hN, if_neg hv]
theorem bn_bad (d : FD) (N : Nat) (h : d.pos + 4 ≤ d.s.size) (hN : nF d.s d.pos 4 = N) (hv : N = 2147483648 ∨ d.bm < N % 2147483648) : (gBn d).1 = 70 := by
  unfold gBn; rw [if_neg (by omega), hN, if_pos hv]
theorem bn_short (d : FD) (h : d.s.size < d.pos + 4) : (gBn d).1 = 5 := by unfold gBn; rw [if_pos h]
theorem held_eq (d : FD) (n : Nat) (X : ByteArray) (hn : d.block % 2147483648 = n) (h : d.pos + n ≤ d.s.size) (hX : d.s.extract d.pos (d.pos + n) = X) : gHeld d = (0, { d with pos := d.pos + n, held := X }) := by
  unfold gHeld; rw [hn, if_neg (by omega), hX]
theorem held_short (d : FD) (n : Nat) (hn : d.block % 2147483648 = n) (h : d.s.size < d.pos + n) : (gHeld d).1 = 5 := by
  unfold gHeld; rw [hn, if_pos h]
theorem sum_eq (t : ByteArray) (d : FD) (h : d.pos + 4 ≤ d.s.size) (hN : nF d.s d.pos 4 = hsum t) : gSum t d = (0, { d with pos := d.pos + 4 }) := by
  unfold gSum; rw [if_neg (by omega), if_pos hN]
theorem sum_bad (t : ByteArray) (d : FD) (h : d.pos + 4 ≤ d.s.size) (hN : nF d.s d.pos 4 ≠ hsum t) : (gSum t d).1 = 71 := by
  unfold gSum; rw [if_neg (by omega), if_neg hN]
theorem sum_short (t : ByteArray) (d : FD) (h : d.s.size < d.pos + 4) : (gSum t d).1 = 5 := by unfold gSum; rw [if_pos h]
theorem heldSum_is (d : FD) (h : d.flags = 116) : gHeldSum d = gSum d.held d := by unfold gHeldSum; rw [h, if_pos (by decide)]
theorem all_is (d : FD) (h : d.flags = 116) : gAll d = gSum (toBA d.plain) d := by unfold gAll; rw [h, if_pos (by decide)]
theorem size_is (d : FD) (h : d.flags = 116) : gSize d = (0, d) := by
  unfold gSize; rw [if_neg]; rw [h]; intro hh; exact absurd hh.1 (by decide)
theorem turn_one (p : Piece) (d : FD) : turnF [p] d = p.2.2 d := by
  unfold turnF turnF
  split
  · rename_i h; rw [← h]
  · rfl
theorem turn_append (ps : List Piece) (p : Piece) : ∀ d, turnF (ps ++ [p]) d = if (turnF ps d).1 = 0 then p.2.2 (turnF ps d).2 else turnF ps d := by
  induction ps with
  | nil => intro d; rw [List.nil_append, turn_one]; simp [turnF]
  | cons q ps ih =>
    intro d
    rw [List.cons_append]
    conv => lhs; unfold turnF
    conv => rhs; unfold turnF
    by_cases h : (q.2.2 d).1 = 0
    · simp only [if_pos h]; exact ih _
    · simp only [if_neg h]
/-- A block behind its number. -/
def fourP : List Piece := [(35, fun _ => True, gHeld), (36, fun _ => True, gHeldSum), (37, fun d => d.plain.length ≤ 1048576, gUnp), (38, fun _ => True, gMost)]
theorem five_is (d : FD) : turnF five d = if (turnF fourP d).1 = 0 then gBn (turnF fourP d).2 else turnF fourP d := turn_append fourP _ d
def goB (k : Nat) (d : FD) : Nat × FD := blkF k (gBn d)
theorem goB_step (k : Nat) (d : FD) : goB (k + 1) d = if (gBn d).1 = 0 ∧ (gBn d).2.block ≠ 0 then (if (turnF fourP (gBn d).2).1 = 0 then goB k (turnF fourP (gBn d).2).2 else turnF fourP (gBn d).2) else gBn d := by
  unfold goB
  conv => lhs; unfold blkF
  split
  · rw [five_is]
    split
    · rfl
    · rename_i h; exact blkF_bad k _ h
  · rfl
theorem goB_bad (k : Nat) (d : FD) (h : (gBn d).1 ≠ 0) : goB (k + 1) d = gBn d := by rw [goB_step, if_neg (fun hh => h hh.1)]
theorem goB_end (k : Nat) (d : FD) (h : (gBn d).2.block = 0) : goB (k + 1) d = gBn d := by rw [goB_step, if_neg (fun hh => hh.2 h)]
theorem goB_more (k : Nat) (d d1 d2 : FD) (h1 : gBn d = (0, d1)) (h2 : d1.block ≠ 0) (h3 : turnF fourP d1 = (0, d2)) : goB (k + 1) d = goB k d2 := by
  rw [goB_step, h1, if_pos ⟨rfl, h2⟩, h3, if_pos rfl]
theorem goB_stop (k : Nat) (d d1 : FD) (h1 : gBn d = (0, d1)) (h2 : d1.block ≠ 0) (h3 : (turnF fourP d1).1 ≠ 0) : goB (k + 1) d = turnF fourP d1 := by
  rw [goB_step, h1, if_pos ⟨rfl, h2⟩, if_neg h3]
/-- What is behind a head. -/
def tail3 : List Piece := [(20, fun d => d.plain.length ≤ 1048576, gBlocks), (21, fun _ => True, gSize), (22, fun d => d.plain.length ≤ 16777216, gAll)]
def dH (S : ByteArray) (most : Nat) : FD := ⟨S, 7, most, 116, 65536, 0, 0, ⟨#[]⟩, []⟩
theorem head_turn (S : ByteArray) (most : Nat) (h0 : 7 ≤ S.size) (hb : (S.extract 0 4).toList = [4, 34, 77, 24]) (h4 : bt S 4 = 116) (h5 : bt S 5 = 64) (h6 : bt S 6 = hsum hd2 / 256 % 256) (hx : S.extract 4 6 = hd2) : turnF eight (d0 S most) = turnF tail3 (dH S most) := by
  have e1 : gBeg (d0 S most) = (0, ⟨S, 4, most, 0, 0, 0, 0, ⟨#[]⟩, []⟩) := by
    unfold gBeg d0
    rw [if_neg (by simp only; omega), if_pos hb]
  have e2 : gFl ⟨S, 4, most, 0, 0, 0, 0, ⟨#[]⟩, []⟩ = (0, ⟨S, 5, most, 116, 0, 0, 0, ⟨#[]⟩, []⟩) := by
    unfold gFl
    rw [if_neg (by simp only; omega), h4, if_pos (by decide)]
  have e3 : gBm ⟨S, 5, most, 116, 0, 0, 0, ⟨#[]⟩, []⟩ = (0, ⟨S, 6, most, 116, 65536, 0, 0, ⟨#[]⟩, []⟩) := by
    unfold gBm
    rw [if_neg (by simp only; omega), h5, if_pos (by decide)]
  have e4 : gSz ⟨S, 6, most, 116, 65536, 0, 0, ⟨#[]⟩, []⟩ = (0, ⟨S, 6, most, 116, 65536, 0, 0, ⟨#[]⟩, []⟩) := by
    unfold gSz
    rw [if_neg (show ¬ (116 / 8 % 2 = 1) by decide)]
  have e5 : gHs ⟨S, 6, most, 116, 65536, 0, 0, ⟨#[]⟩, []⟩ = (0, dH S most) := by
    unfold gHs
    simp only
    rw [if_neg (by omega), h6, hx, if_pos rfl]
    rfl
  have t : ∀ (p : Piece) (ps : List Piece) (d d' : FD), p.2.2 d = (0, d') → turnF (p :: ps) d = turnF ps d' := fun p ps d d' h => by
    conv => lhs; unfold turnF
    rw [h, if_pos rfl]
  unfold eight
  rw [t _ _ _ _ e1, t _ _ _ _ e2, t _ _ _ _ e3, t _ _ _ _ e4, t _ _ _ _ e5]
  rfl
theorem tail_good (d d1 : FD) (h : gBlocks d = (0, d1)) (hf : d1.flags = 116) : turnF tail3 d = gSum (toBA d1.plain) d1 := by
  unfold tail3 turnF
  simp only [h, if_pos]
  unfold turnF
  simp only [size_is d1 hf, if_pos]
  rw [turn_one]
  exact all_is d1 hf
theorem tail_bad (d : FD) (h : (gBlocks d).1 ≠ 0) : turnF tail3 d = gBlocks d := by
  unfold tail3 turnF
  simp only [if_neg h]
end Go.Proofs.Ytbncfpbehahidaa
namespace Go.Proofs.Ytbncfpbehahidaa
open Go.RowKit
set_option linter.unusedVariables false
set_option maxRecDepth 20000

theorem turn_cons (p : Piece) (ps : List Piece) (d d' : FD) (h : p.2.2 d = (0, d')) : turnF (p :: ps) d = turnF ps d' := by
  conv => lhs; unfold turnF
  rw [h, if_pos rfl]
theorem turn_fail (p : Piece) (ps : List Piece) (d : FD) (h : (p.2.2 d).1 ≠ 0) : turnF (p :: ps) d = p.2.2 d := by
  conv => lhs; unfold turnF
  rw [if_neg h]
def twoP : List Piece := [(37, fun d => d.plain.length ≤ 1048576, gUnp), (38, fun _ => True, gMost)]
/-- A block as it stands in a frame: its number, its bytes, their sum. -/
def rawL (N : Nat) (X : ByteArray) : List Nat := le4 N ++ bytesOf X ++ le4 (hsum X)
theorem rawL_length (N : Nat) (X : ByteArray) : (rawL N X).length = X.size + 8 := by
  unfold rawL; simp [le4_length, bytesOf_length]; omega
theorem raw_read (A R : List Nat) (N : Nat) (X : ByteArray) (d : FD) (hs : d.s = toBA (A ++ (rawL N X ++ R))) (hpos : d.pos = A.length) (hf : d.flags = 116) (hbm : d.bm = 65536) (hN : N < 4294967296) (hN0 : N ≠ 2147483648) (hNX : N % 2147483648 = X.size) (hX : X.size ≤ 65536) :
    gBn d = (0, { d with pos := A.length + 4, block := N }) ∧ turnF fourP { d with pos := A.length + 4, block := N } = turnF twoP { d with pos := A.length + (X.size + 8), block := N, held := X } := by
  have hsz : d.s.size = A.length + (X.size + 8) + R.length := by rw [hs, toBA_size, List.length_append, List.length_append, rawL_length]; omega
  have h1 : nF d.s d.pos 4 = N := by
    rw [hs, hpos]
    unfold rawL
    rw [List.append_assoc, List.append_assoc]
    exact le4_read A _ N _ rfl hN
  have h2 : d.s.extract (A.length + 4) (A.length + 4 + X.size) = X := by
    rw [hs]
    have e : A ++ (rawL N X ++ R) = (A ++ le4 N) ++ (bytesOf X ++ (le4 (hsum X) ++ R)) := by unfold rawL; simp [List.append_assoc]
    rw [e, mid_extract _ _ _ _ _ (by rw [List.length_append, le4_length]) (by rw [List.length_append, le4_length, bytesOf_length]), toBA_bytesOf]
  have h3 : nF d.s (A.length + 4 + X.size) 4 = hsum X := by
    rw [hs]
    have e : A ++ (rawL N X ++ R) = (A ++ le4 N ++ bytesOf X) ++ (le4 (hsum X) ++ R) := by unfold rawL; simp [List.append_assoc]
    rw [e]
    exact le4_read _ _ _ _ (by rw [List.length_append, List.length_append, le4_length, bytesOf_length]) (hsum_lt X)
  have e1 := bn_eq d N (by omega) h1 (by rw [hbm]; omega)
  rw [hpos] at e1
  refine ⟨e1, ?_⟩
  have e2 := held_eq { d with pos := A.length + 4, block := N } X.size X hNX (by simp only; omega) h2
  have e3 := sum_eq X { d with pos := A.length + 4 + X.size, block := N, held := X } (by simp only; omega) h3
  have e3' : gHeldSum { d with pos := A.length + 4 + X.size, block := N, held := X } = (0, { d with pos := A.length + (X.size + 8), block := N, held := X }) := by
    rw [heldSum_is { d with pos := A.length + 4 + X.size, block := N, held := X } hf]
    simp only
    rw [e3]
    simp only
    rw [show A.length + 4 + X.size + 4 = A.length + (X.size + 8) by omega]
  unfold fourP
  rw [turn_cons _ _ _ _ e2, turn_cons _ _ _ _ e3']
  rfl
/-- The number of a block, and what it holds. -/
def blkN (p : ByteArray) : Nat := if (packL p).length < p.size then (packL p).length else 2147483648 + p.size
def blkX (p : ByteArray) : ByteArray := if (packL p).length < p.size then toBA (packL p) else p
theorem blockL_raw (p : ByteArray) : blockL p = rawL (blkN p) (blkX p) := by
  unfold blockL blkN blkX rawL
  split
  · rw [bytesOf_toBA _ (packL_bytes p)]
  · rfl
theorem packL_pos (p : ByteArray) : 1 ≤ (packL p).length := by
  have h := unpack_pack p p.size (Nat.le_refl _)
  rcases Nat.eq_zero_or_pos (packL p).length with h0 | h0
  · have e : packL p = [] := List.length_eq_zero_iff.1 h0
    rw [e] at h
    have : (unpack (toBA []) p.size).1 = 5 := by
      unfold unpack
      show (unpF (toBA []) p.size 1 0 []).1 = 5
      have e5 : (seqF (toBA []) p.size 0 []).1 = 5 := by unfold seqF; rw [if_pos (show (toBA []).size ≤ 0 by decide)]
      unfold unpF
      rw [if_pos (by rw [e5]; decide)]
      exact e5
    rw [h] at this
    simp at this
  · exact h0
theorem blk_facts (p : ByteArray) (h1 : 1 ≤ p.size) (h2 : p.size ≤ 65536) : blkN p < 4294967296 ∧ blkN p ≠ 0 ∧ blkN p ≠ 2147483648 ∧ blkN p % 2147483648 = (blkX p).size ∧ 1 ≤ (blkX p).size ∧ (blkX p).size ≤ 65536 := by
  have hp := packL_pos p
  unfold blkN blkX
  by_cases h : (packL p).length < p.size
  · rw [if_pos h, if_pos h, toBA_size]
    refine ⟨by omega, by omega, by omega, Nat.mod_eq_of_lt (by omega), by omega, by omega⟩
  · rw [if_neg h, if_neg h]
    refine ⟨by omega, by omega, by omega, by omega, by omega, by omega⟩
theorem unp_is (p : ByteArray) (d : FD) (h1 : 1 ≤ p.size) (h2 : p.size ≤ 65536) (hb : d.block = blkN p) (hx : d.held = blkX p) (hbm : d.bm = 65536) (hm : d.plain.length + p.size ≤ d.most) : turnF twoP d = (0, { d with plain := d.plain ++ bytesOf p }) := by
  have e1 : gUnp d = (0, { d with plain := d.plain ++ bytesOf p }) := by
    unfold gUnp
    unfold blkN at hb
    unfold blkX at hx
    by_cases h : (packL p).length < p.size
    · rw [if_pos h] at hb hx
      rw [if_neg (by omega), hx, hbm]
      have hu := unpack_pack p (min 65536 1048576) (by simpa using h2)
      rw [hu, if_neg (by simp), if_pos rfl]
    · rw [if_neg h] at hb hx
      rw [if_pos (by omega), hx]
  have e2 : gMost { d with plain := d.plain ++ bytesOf p } = (0, { d with plain := d.plain ++ bytesOf p }) := by
    unfold gMost
    rw [if_neg]
    simp only [List.length_append, bytesOf_length]
    omega
  unfold twoP
  rw [turn_cons _ _ _ _ e1, turn_one]
  exact e2
/-- A block that was written is read. -/
theorem block_read (A R : List Nat) (p : ByteArray) (d : FD) (hs : d.s = toBA (A ++ (blockL p ++ R))) (hpos : d.pos = A.length) (hf : d.flags = 116) (hbm : d.bm = 65536) (hp1 : 1 ≤ p.size) (hp2 : p.size ≤ 65536) (hm : d.plain.length + p.size ≤ d.most) (k : Nat) :
    goB (k + 1) d = goB k { d with pos := A.length + (blockL p).length, block := blkN p, held := blkX p, plain := d.plain ++ bytesOf p } := by
  obtain ⟨b1, b2, b3, b4, b5, b6⟩ := blk_facts p hp1 hp2
  rw [blockL_raw] at hs ⊢
  obtain ⟨e1, e2⟩ := raw_read A R (blkN p) (blkX p) d hs hpos hf hbm b1 b3 b4 b6
  have e3 := unp_is p { d with pos := A.length + ((blkX p).size + 8), block := blkN p, held := blkX p } hp1 hp2 rfl rfl hbm hm
  rw [goB_more k d _ _ e1 b2 (e2.trans e3), rawL_length]
theorem sub_one (s : ByteArray) (a : Nat) (h : a ≤ s.size) : bytesOf (s.extract a (min (a + 65536) s.size)) ++ bytesOf (s.extract (a + 65536) s.size) = bytesOf (s.extract a s.size) := by
  rw [bytesOf_extract, bytesOf_extract, bytesOf_extract]
  have hl := bytesOf_length s
  by_cases hc : a + 65536 ≤ s.size
  · rw [Nat.min_eq_left hc, Nat.add_sub_cancel_left]
    have e : (List.drop (a + 65536) (bytesOf s)).take (s.size - (a + 65536)) = (List.drop a (bytesOf s)).drop 65536 := by
      rw [List.drop_drop, List.take_of_length_le (by rw [List.length_drop, hl]; omega)]
    rw [e, List.take_append_drop, List.take_of_length_le (by rw [List.length_drop, hl]; omega)]
  · have e : List.drop (a + 65536) (bytesOf s) = [] := List.drop_eq_nil_of_le (by rw [hl]; omega)
    rw [Nat.min_eq_right (by omega), e]
    simp
/-- Blocks that were written are read. -/
theorem blocks_read (s : ByteArray) (R : List Nat) : ∀ (k a : Nat) (A : List Nat) (d : FD) (K : Nat), d.s = toBA (A ++ (blksL s k a ++ R)) → d.pos = A.length → d.flags = 116 → d.bm = 65536 → s.size - a < k → d.plain.length + (s.size - a) ≤ d.most → (blksL s k a).length < K →
    ∃ K' blk hd, (0 < K') ∧ goB K d = goB K' { d with pos := A.length + (blksL s k a).length, block := blk, held := hd, plain := d.plain ++ bytesOf (s.extract a s.size) }
  | 0, a, A, d, K, _, _, _, _, h, _, _ => by omega
  | k + 1, a, A, d, K, hs, hpos, hf, hbm, hk, hm, hK => by
    unfold blksL at hs hK ⊢
    by_cases ha : s.size ≤ a
    · rw [if_pos ha]
      refine ⟨K, d.block, d.held, by omega, ?_⟩
      have e : bytesOf (s.extract a s.size) = [] := by
        rw [bytesOf_extract, List.drop_eq_nil_of_le (by rw [bytesOf_length]; exact ha)]; simp
      rw [e]
      simp only [List.length_nil, Nat.add_zero, List.append_nil]
      rw [← hpos]
    · rw [if_neg ha, List.length_append] at hK
      rw [if_neg ha] at hs ⊢
      obtain ⟨K, rfl⟩ : ∃ K', K = K' + 1 := ⟨K - 1, by omega⟩
      obtain ⟨p, hp⟩ : ∃ p, s.extract a (min (a + 65536) s.size) = p := ⟨_, rfl⟩
      rw [hp, blockL_raw p, rawL_length] at hK
      have hps : p.size = min (a + 65536) s.size - a := by rw [← hp, ByteArray.size_extract]; omega
      rw [hp] at hs ⊢
      have e1 := block_read A (blksL s k (a + 65536) ++ R) p d (by rw [hs, List.append_assoc]) hpos hf hbm (by omega) (by omega) (by omega) K
      have hpl : (d.plain ++ bytesOf p).length = d.plain.length + p.size := by rw [List.length_append, bytesOf_length]
      obtain ⟨K', blk, hd, h0, e2⟩ := blocks_read s R k (a + 65536) (A ++ blockL p) { d with pos := A.length + (blockL p).length, block := blkN p, held := blkX p, plain := d.plain ++ bytesOf p } K (by simp only; rw [hs, List.append_assoc, List.append_assoc]) (by simp only; rw [List.length_append]) hf hbm (by omega) (by simp only; rw [hpl]; omega) (by omega)
      refine ⟨K', blk, hd, h0, ?_⟩
      rw [e1, e2]
      simp only
      rw [List.length_append, List.length_append, List.append_assoc, ← hp, sub_one s a (by omega), Nat.add_assoc]
theorem end_read (A R : List Nat) (d : FD) (K : Nat) (hs : d.s = toBA (A ++ (le4 0 ++ R))) (hpos : d.pos = A.length) : goB (K + 1) d = (0, { d with pos := A.length + 4, block := 0 }) := by
  have hsz : A.length + 4 ≤ d.s.size := by rw [hs, toBA_size, List.length_append, List.length_append, le4_length]; omega
  have e1 := bn_eq d 0 (by omega) (by rw [hs, hpos]; exact le4_read A R 0 _ rfl (by omega)) (by omega)
  rw [hpos] at e1
  rw [goB_end K d (by rw [e1]), e1]
theorem head_of (R : List Nat) (hR : Bytes R) (most : Nat) : turnF eight (d0 (toBA (frHead ++ R)) most) = turnF tail3 (dH (toBA (frHead ++ R)) most) := by
  have hB : Bytes (frHead ++ R) := frHead_bytes.append hR
  refine head_turn _ most (by rw [toBA_size, List.length_append]; simp [frHead]) ?_ ?_ ?_ ?_ ?_
  · rw [show frHead ++ R = [] ++ ([4, 34, 77, 24] ++ ([116, 64, hsum hd2 / 256 % 256] ++ R)) from rfl, mid_extract [] _ _ 0 4 rfl rfl]
    decide +kernel
  · rw [bt_toBA _ hB]; rfl
  · rw [bt_toBA _ hB]; rfl
  · rw [bt_toBA _ hB]; rfl
  · rw [show frHead ++ R = [4, 34, 77, 24] ++ ([116, 64] ++ ([hsum hd2 / 256 % 256] ++ R)) from rfl, mid_extract _ _ _ 4 6 rfl rfl]
    rfl
/-- What was packed is unpacked as it was, whatever stands behind. -/
theorem frame_back (s : ByteArray) (R : List Nat) (hR : Bytes R) (most : Nat) (hm : s.size ≤ most) : unpackF (toBA (packFr s ++ R)) most = (0, bytesOf s, (packFr s).length) := by
  obtain ⟨Q, hQ⟩ : ∃ Q, blksL s (s.size + 1) 0 = Q := ⟨_, rfl⟩
  have hQB : Bytes Q := by rw [← hQ]; exact blksL_bytes s _ _
  have e0 : packFr s ++ R = frHead ++ (Q ++ (le4 0 ++ (le4 (hsum s) ++ R))) := by unfold packFr; rw [hQ]; simp [List.append_assoc]
  have hlen : (packFr s).length = frHead.length + Q.length + 4 + 4 := by unfold packFr; rw [hQ]; simp [le4_length]; omega
  unfold unpackF
  rw [e0, head_of _ (hQB.append ((le4_bytes _).append ((le4_bytes _).append hR)))]
  obtain ⟨S, hS⟩ : ∃ S, toBA (frHead ++ (Q ++ (le4 0 ++ (le4 (hsum s) ++ R)))) = S := ⟨_, rfl⟩
  rw [hS]
  have hsz : S.size = frHead.length + Q.length + 4 + 4 + R.length := by rw [← hS, toBA_size]; simp [le4_length]; omega
  obtain ⟨K', blk, hd, h0, e1⟩ := blocks_read s (le4 0 ++ (le4 (hsum s) ++ R)) (s.size + 1) 0 frHead (dH S most) (S.size + 1) (by rw [hQ]; exact hS.symm) rfl rfl rfl (by omega) (by simp [dH]; exact hm) (by rw [hQ]; omega)
  obtain ⟨K', rfl⟩ : ∃ K'', K' = K'' + 1 := ⟨K' - 1, by omega⟩
  have hall : bytesOf (s.extract 0 s.size) = bytesOf s := by rw [bytesOf_extract, List.drop_zero, Nat.sub_zero, List.take_of_length_le (by rw [bytesOf_length]; exact Nat.le_refl _)]
  rw [hQ, hall] at e1
  have e2 := end_read (frHead ++ Q) (le4 (hsum s) ++ R) { dH S most with pos := frHead.length + Q.length, block := blk, held := hd, plain := (dH S most).plain ++ bytesOf s } K' (by simp only [dH]; rw [← hS, List.append_assoc]) (by simp only; rw [List.length_append])
  have e3 : gBlocks (dH S most) = (0, { dH S most with pos := (frHead ++ Q).length + 4, block := 0, held := hd, plain := [] ++ bytesOf s }) := e1.trans e2
  have e4 := sum_eq (toBA (bytesOf s)) { dH S most with pos := (frHead ++ Q).length + 4, block := 0, held := hd, plain := [] ++ bytesOf s } (by simp only [dH]; rw [hsz, List.length_append]; omega) (by
    simp only [dH]
    rw [toBA_bytesOf, ← hS]
    have e : frHead ++ (Q ++ (le4 0 ++ (le4 (hsum s) ++ R))) = (frHead ++ Q ++ le4 0) ++ (le4 (hsum s) ++ R) := by simp [List.append_assoc]
    rw [e]
    exact le4_read _ _ _ _ (by simp only [List.length_append, le4_length]) (hsum_lt s))
  rw [tail_good _ _ e3 rfl]
  simp only [List.nil_append] at e4 ⊢
  rw [e4, if_pos rfl, hlen]
  simp only [List.length_append]
end Go.Proofs.Ytbncfpbehahidaa
namespace Go.Proofs.Ytbncfpbehahidaa
open Go.RowKit
set_option linter.unusedVariables false
set_option maxRecDepth 20000

theorem packFr_length (s : ByteArray) (hs : s.size ≤ 1048576) : (packFr s).length ≤ 16777216 := by
  have h : ∀ k a, (blksL s k a).length ≤ 9 * (s.size - a) := by
    intro k
    induction k with
    | zero => intro a; simp [blksL]
    | succ k ih =>
      intro a
      unfold blksL
      split
      · simp
      · rename_i ha
        have h1 := blockL_length (s.extract a (min (a + 65536) s.size))
        have h2 := ih (a + 65536)
        rw [ByteArray.size_extract] at h1
        rw [List.length_append]
        omega
  have := h (s.size + 1) 0
  unfold packFr
  simp only [List.length_append, le4_length]
  have hh : frHead.length = 7 := rfl
  omega
theorem pk (s : ByteArray) (hs : s.size ≤ 1048576) (W : World) : Calls Try.prog 12 #[.string s] W fun e w' => e = .returned (.tuple #[.string (toBA (packFr s)), .int .i64 0]) ∧ Below W.heap.size W w' := fpack_ok s W hs
theorem back (s : ByteArray) (R : List Nat) (hR : Bytes R) (hRl : R.length ≤ 16777216) (most : Nat) (hs : s.size ≤ most) (hm : most ≤ 1048576) (W : World) : Calls Try.prog 9 #[.string (toBA (packFr s ++ R)), .int .i64 (most : Nat)] W fun e w' => e = .returned (.tuple #[.string s, .int .i64 ((packFr s).length : Nat), .int .i64 0]) ∧ Below W.heap.size W w' := by
  have hl := packFr_length s (by omega)
  have h := funpack_ok (toBA (packFr s ++ R)) most W hm (by rw [toBA_size, List.length_append]; omega)
  rw [frame_back s R hR most hs] at h
  have e : frR (0, bytesOf s, (packFr s).length) = .tuple #[.string s, .int .i64 ((packFr s).length : Nat), .int .i64 0] := by
    unfold frR
    simp only
    rw [toBA_bytesOf]
    rfl
  rw [e] at h
  exact h
theorem pf0 : packFr ⟨#[]⟩ = [4, 34, 77, 24, 116, 64, 189, 0, 0, 0, 0, 5, 93, 204, 2] := by decide +kernel
def z0 : ByteArray := ⟨#[4, 34, 77, 24, 116, 64, 189, 0, 0, 0, 0, 5, 93, 204, 2]⟩
def hello : ByteArray := ⟨#[104, 101, 108, 108, 111]⟩
theorem pf0' : toBA (packFr ⟨#[]⟩) = z0 := by rw [pf0]; rfl
set_option maxHeartbeats 2000000 in
theorem awake_ok (w : World) : Calls Try.prog 11 #[] w fun e w' => e = .returned (.bool true) ∧ Below w.heap.size w w' := by
  have A1 : Hid (∀ W, Calls Try.prog 12 #[.string ⟨#[]⟩] W fun e w' => e = .returned (.tuple #[.string ⟨#[4, 34, 77, 24, 116, 64, 189, 0, 0, 0, 0, 5, 93, 204, 2]⟩, .int .i64 0]) ∧ Below W.heap.size W w') := fun W => by
    have h := pk ⟨#[]⟩ (by decide) W
    rw [pf0'] at h
    exact h
  have A2 : Hid (∀ W, Calls Try.prog 9 #[.string ⟨#[4, 34, 77, 24, 116, 64, 189, 0, 0, 0, 0, 5, 93, 204, 2]⟩, .int .i64 0] W fun e w' => e = .returned (.tuple #[.string ⟨#[]⟩, .int .i64 15, .int .i64 0]) ∧ Below W.heap.size W w') := fun W => by
    have h := back ⟨#[]⟩ [] (fun x hx => by simp at hx) (by simp) 0 (by decide) (by decide) W
    rw [List.append_nil, pf0', pf0] at h
    exact h
  obtain ⟨T, hT⟩ : ∃ T, toBA (packFr hello) = T := ⟨_, rfl⟩
  obtain ⟨N, hN⟩ : ∃ N, (packFr hello).length = N := ⟨_, rfl⟩
  have A3 : Hid (∀ W, Calls Try.prog 12 #[.string ⟨#[104, 101, 108, 108, 111]⟩] W fun e w' => e = .returned (.tuple #[.string T, .int .i64 0]) ∧ Below W.heap.size W w') := fun W => by
    have h := pk hello (by decide) W
    rw [hT] at h
    exact h
  have A4 : Hid (∀ W, Calls Try.prog 9 #[.string T, .int .i64 9] W fun e w' => e = .returned (.tuple #[.string ⟨#[104, 101, 108, 108, 111]⟩, .int .i64 (N : Nat), .int .i64 0]) ∧ Below W.heap.size W w') := fun W => by
    have h := back hello [] (fun x hx => by simp at hx) (by simp) 9 (by decide) (by decide) W
    rw [List.append_nil, hT, hN] at h
    exact h
  clear hT hN
  go_enter Try.func11, Try.ntmps11
  go_wp2_with fail
  refine (A1.out _).mono ?_
  rintro e w1 ⟨rfl, b1⟩
  have B1 : Hid (Below w.heap.size w w1) := b1
  clear b1
  go_wp2_with fail
  refine (A2.out _).mono ?_
  rintro e w2 ⟨rfl, b1⟩
  have B2 : Hid (Below w.heap.size w w2) := B1.out.trans (b1.mono B1.out.size)
  clear b1 B1
  go_wp2_with fail
  refine (A3.out _).mono ?_
  rintro e w3 ⟨rfl, b1⟩
  have B3 : Hid (Below w.heap.size w w3) := B2.out.trans (b1.mono B2.out.size)
  clear b1 B2
  go_wp2_with fail
  refine (A4.out _).mono ?_
  rintro e w4 ⟨rfl, b1⟩
  have B4 : Hid (Below w.heap.size w w4) := B3.out.trans (b1.mono B3.out.size)
  clear b1 B3 A1 A2 A3 A4
  have x1 : ((⟨#[4, 34, 77, 24, 116, 64, 189, 0, 0, 0, 0, 5, 93, 204, 2]⟩ : ByteArray).extract 0 6).toList = [4, 34, 77, 24, 116, 64] := by decide +kernel
  have x2 : ((⟨#[4, 34, 77, 24, 116, 64, 189, 0, 0, 0, 0, 5, 93, 204, 2]⟩ : ByteArray).extract 7 15).toList = [0, 0, 0, 0, 5, 93, 204, 2] := by decide +kernel
  go_wp2
  go_ret
  exact ⟨rfl, B4.out⟩
end Go.Proofs.Ytbncfpbehahidaa
