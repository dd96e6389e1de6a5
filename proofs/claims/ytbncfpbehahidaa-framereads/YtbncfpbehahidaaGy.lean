/- Layer 7: a frame in which one byte is another one. -/
/- Layer 7: a frame in which one byte is another one is refused. -/
import Derived.Test.YtbncfpbehahidaaGj6
namespace Go.Proofs.Ytbncfpbehahidaa
open Go.RowKit
set_option linter.unusedVariables false
set_option maxRecDepth 20000

/-- Two texts that are alike but at place k. -/
structure Dif (S S' : ByteArray) (k : Nat) : Prop where
  sz : S'.size = S.size
  lt : k < S.size
  other : bt S' k ≠ bt S k
  same : ∀ i, i ≠ k → bt S' i = bt S i
theorem nF4 (S : ByteArray) (a : Nat) : nF S a 4 = bt S a + bt S (a + 1) * 256 + bt S (a + 2) * 65536 + bt S (a + 3) * 16777216 := by
  simp [nF]
theorem Dif.nF_same {S S' : ByteArray} {k : Nat} (h : Dif S S' k) (a : Nat) (ha : k < a ∨ a + 4 ≤ k) : nF S' a 4 = nF S a 4 := by
  rw [nF4, nF4, h.same a (by omega), h.same (a + 1) (by omega), h.same (a + 2) (by omega), h.same (a + 3) (by omega)]
theorem Dif.nF_other {S S' : ByteArray} {k : Nat} (h : Dif S S' k) (a : Nat) (h1 : a ≤ k) (h2 : k < a + 4) : nF S' a 4 ≠ nF S a 4 := by
  intro e
  rw [nF4, nF4] at e
  have l0 := bt_lt S a
  have l1 := bt_lt S (a + 1)
  have l2 := bt_lt S (a + 2)
  have l3 := bt_lt S (a + 3)
  have r0 := bt_lt S' a
  have r1 := bt_lt S' (a + 1)
  have r2 := bt_lt S' (a + 2)
  have r3 := bt_lt S' (a + 3)
  have ho := h.other
  rcases (show k = a ∨ k = a + 1 ∨ k = a + 2 ∨ k = a + 3 by omega) with rfl | rfl | rfl | rfl <;> omega
theorem bytesOf_ext {S S' : ByteArray} (h : S'.size = S.size) (h2 : ∀ i, i < S.size → bt S' i = bt S i) : S' = S := by
  rw [← toBA_bytesOf S', ← toBA_bytesOf S]
  congr 1
  apply List.ext_getElem?
  intro i
  by_cases hi : i < S.size
  · have e1 := bt_eq S' i
    have e2 := bt_eq S i
    have := h2 i hi
    rw [e1, e2, List.getD_eq_getElem?_getD, List.getD_eq_getElem?_getD] at this
    rw [List.getElem?_eq_getElem (by rw [bytesOf_length, h]; exact hi), List.getElem?_eq_getElem (by rw [bytesOf_length]; exact hi)] at this ⊢
    simpa using this
  · rw [List.getElem?_eq_none (by rw [bytesOf_length, h]; omega), List.getElem?_eq_none (by rw [bytesOf_length]; omega)]
theorem bt_ext (S : ByteArray) (a b i : Nat) (hi : a + i < b) (hb : b ≤ S.size) : bt (S.extract a b) i = bt S (a + i) := by
  have h := bt_extract S a (b - a) i (by omega) (by omega)
  rw [show a + (b - a) = b by omega] at h
  exact h
theorem Dif.ext_same {S S' : ByteArray} {k : Nat} (h : Dif S S' k) (a b : Nat) (hb : b ≤ S.size) (hk : k < a ∨ b ≤ k) : S'.extract a b = S.extract a b := by
  refine bytesOf_ext (by rw [ByteArray.size_extract, ByteArray.size_extract, h.sz]) fun i hi => ?_
  rw [ByteArray.size_extract] at hi
  rw [bt_ext S' a b i (by omega) (by rw [h.sz]; exact hb), bt_ext S a b i (by omega) hb, h.same _ (by omega)]
theorem BL_getD' (s : ByteArray) (i : Nat) : (S2.BL s).getD i 0 = bt s i := (bt_eq s i).symm
theorem Dif.ext_other {S S' : ByteArray} {k : Nat} (h : Dif S S' k) (a b : Nat) (hb : b ≤ S.size) (h1 : a ≤ k) (h2 : k < b) : hsum (S'.extract a b) ≠ hsum (S.extract a b) := by
  have hz : (S.extract a b).size = b - a := by rw [ByteArray.size_extract]; omega
  have hz' : (S'.extract a b).size = b - a := by rw [ByteArray.size_extract, h.sz]; omega
  refine S2.hashOf_other (k := k - a) ⟨by rw [S2.BL_length, S2.BL_length, hz, hz'], by rw [S2.BL_length, hz']; omega, fun i hi => ?_, ?_, S2.BL_lt _, S2.BL_lt _⟩ 0
  · rw [BL_getD', BL_getD']
    by_cases hib : a + i < b
    · rw [bt_ext S' a b i hib (by rw [h.sz]; exact hb), bt_ext S a b i hib hb, h.same _ (by omega)]
    · have e : ∀ T : ByteArray, T.size ≤ i → bt T i = 0 := fun T hT => by
        rw [bt_eq, List.getD_eq_getElem?_getD, List.getElem?_eq_none (by rw [bytesOf_length]; exact hT)]; rfl
      rw [e _ (by omega), e _ (by omega)]
  · rw [BL_getD', BL_getD', bt_ext S' a b _ (by omega) (by rw [h.sz]; exact hb), bt_ext S a b _ (by omega) hb, show a + (k - a) = k by omega]
    exact h.other
/-- A number that is not 0 where four bytes are left behind it is refused. -/
theorem last_num (d : FD) (K : Nat) (hsz : d.s.size = d.pos + 8) (hn : nF d.s d.pos 4 ≠ 0) (hf : d.flags = 116) : (goB (K + 1) d).1 ≠ 0 := by
  obtain ⟨N, hN⟩ : ∃ N, nF d.s d.pos 4 = N := ⟨_, rfl⟩
  have hl := nF4_lt d.s d.pos
  rw [hN] at hn hl
  by_cases hv : N = 2147483648 ∨ d.bm < N % 2147483648
  · have e := bn_bad d N (by omega) hN hv
    rw [goB_bad K d (by rw [e]; decide), e]
    decide
  · have e1 := bn_eq d N (by omega) hN hv
    obtain ⟨n, hnn⟩ : ∃ n, N % 2147483648 = n := ⟨_, rfl⟩
    have hn1 : 1 ≤ n := by omega
    by_cases h4 : 4 < n
    · have e2 := held_short { d with pos := d.pos + 4, block := N } n hnn (by simp only; omega)
      have e3 : (turnF fourP { d with pos := d.pos + 4, block := N }).1 = 5 := by
        unfold fourP
        rw [turn_fail _ _ _ (by rw [e2]; decide)]
        exact e2
      rw [goB_stop K d _ e1 hn (by rw [e3]; decide), e3]
      decide
    · obtain ⟨X, hX⟩ : ∃ X, d.s.extract (d.pos + 4) (d.pos + 4 + n) = X := ⟨_, rfl⟩
      have e2 := held_eq { d with pos := d.pos + 4, block := N } n X hnn (by simp only; omega) hX
      have e3 : (gHeldSum { d with pos := d.pos + 4 + n, block := N, held := X }).1 = 5 := by
        rw [heldSum_is { d with pos := d.pos + 4 + n, block := N, held := X } hf]
        exact sum_short _ _ (by simp only; omega)
      have e4 : (turnF fourP { d with pos := d.pos + 4, block := N }).1 = 5 := by
        unfold fourP
        rw [turn_cons _ _ _ _ e2, turn_fail _ _ _ (by rw [e3]; decide)]
        exact e3
      rw [goB_stop K d _ e1 hn (by rw [e4]; decide), e4]
      decide
/-- What stands at the end of a frame: no number but 0, then the sum of all. -/
theorem last_two (S : ByteArray) (most K : Nat) (d d0 : FD) (hK : goB (S.size + 1) d0 = goB (K + 1) d) (hs : d.s = S) (hsz : S.size = d.pos + 8) (hf : d.flags = 116) (hbad : nF S d.pos 4 ≠ 0 ∨ nF S (d.pos + 4) 4 ≠ hsum (toBA d.plain)) (hd0 : d0.s = S) : (turnF tail3 d0).1 ≠ 0 := by
  have e0 : gBlocks d0 = goB (K + 1) d := by
    unfold gBlocks
    rw [hd0]
    exact hK
  by_cases h0 : nF S d.pos 4 = 0
  · have e1 := bn_eq d 0 (by rw [hs]; omega) (by rw [hs]; exact h0) (by omega)
    have e2 : gBlocks d0 = (0, { d with pos := d.pos + 4, block := 0 }) := by rw [e0, goB_end K d (by rw [e1]), e1]
    rw [tail_good _ _ e2 hf]
    have e3 := sum_bad (toBA d.plain) { d with pos := d.pos + 4, block := 0 } (by simp only; rw [hs]; omega) (by
      simp only; rw [hs]
      rcases hbad with h | h
      · exact (h h0).elim
      · exact h)
    simp only at e3 ⊢
    rw [e3]
    decide
  · have e1 := last_num d K (by rw [hs]; exact hsz) (by rw [hs]; exact h0) hf
    rw [← e0] at e1
    rw [tail_bad _ e1]
    exact e1
end Go.Proofs.Ytbncfpbehahidaa
namespace Go.Proofs.Ytbncfpbehahidaa
open Go.RowKit
set_option linter.unusedVariables false
set_option maxRecDepth 20000

theorem head_dif (R : List Nat) (hR : Bytes R) (S' : ByteArray) (k most : Nat) (h : Dif (toBA (frHead ++ R)) S' k) (h7 : 7 ≤ k) : turnF eight (d0 S' most) = turnF tail3 (dH S' most) := by
  have hB : Bytes (frHead ++ R) := frHead_bytes.append hR
  have hsz : 7 ≤ (toBA (frHead ++ R)).size := by rw [toBA_size, List.length_append]; simp [frHead]
  refine head_turn _ most (by rw [h.sz]; exact hsz) ?_ ?_ ?_ ?_ ?_
  · rw [h.ext_same 0 4 (by omega) (by omega), show frHead ++ R = [] ++ ([4, 34, 77, 24] ++ ([116, 64, hsum hd2 / 256 % 256] ++ R)) from rfl, mid_extract [] _ _ 0 4 rfl rfl]
    decide +kernel
  · rw [h.same 4 (by omega), bt_toBA _ hB]; rfl
  · rw [h.same 5 (by omega), bt_toBA _ hB]; rfl
  · rw [h.same 6 (by omega), bt_toBA _ hB]; rfl
  · rw [h.ext_same 4 6 (by omega) (by omega), show frHead ++ R = [4, 34, 77, 24] ++ ([116, 64] ++ ([hsum hd2 / 256 % 256] ++ R)) from rfl, mid_extract _ _ _ 4 6 rfl rfl]
    rfl
theorem one_block (s : ByteArray) (h1 : 1 ≤ s.size) (h2 : s.size ≤ 65536) : blksL s (s.size + 1) 0 = blockL s := by
  have e : s.extract 0 s.size = s := by
    rw [← toBA_bytesOf (s.extract 0 s.size), bytesOf_extract, List.drop_zero, Nat.sub_zero, List.take_of_length_le (by rw [bytesOf_length]; exact Nat.le_refl _), toBA_bytesOf]
  unfold blksL
  rw [if_neg (by omega), Nat.min_eq_right (by omega), e, blksL_end s _ _ (by omega), List.append_nil]
theorem empty_of (s : ByteArray) (h : s.size = 0) : s = toBA [] := by
  rw [← toBA_bytesOf s]
  congr 1
  exact List.length_eq_zero_iff.1 (by rw [bytesOf_length]; exact h)
/-- A frame of Pack in which one byte behind the head, but for the number of a block, is another one is refused. -/
theorem frame_tells (s : ByteArray) (hs : s.size ≤ 4096) (S' : ByteArray) (k : Nat) (h : Dif (toBA (packFr s)) S' k) (h7 : 7 ≤ k) (h11 : 0 < s.size → 11 ≤ k) : (turnF eight (d0 S' 1048576)).1 ≠ 0 := by
  have hh : frHead.length = 7 := rfl
  by_cases h0 : s.size = 0
  · have e0 : packFr s = frHead ++ (le4 0 ++ (le4 (hsum s) ++ [])) := by
      unfold packFr
      rw [blksL_end s _ _ (by omega)]
      simp
    rw [e0] at h
    have hsz : (toBA (frHead ++ (le4 0 ++ (le4 (hsum s) ++ [])))).size = 15 := by rw [toBA_size]; simp only [List.length_append, le4_length, List.length_nil, hh]
    have n1 : nF (toBA (frHead ++ (le4 0 ++ (le4 (hsum s) ++ [])))) 7 4 = 0 := le4_read _ _ _ _ hh.symm (by omega)
    have n2 : nF (toBA (frHead ++ (le4 0 ++ (le4 (hsum s) ++ [])))) 11 4 = hsum s := by
      rw [← List.append_assoc]
      exact le4_read _ _ _ _ (by rw [List.length_append, le4_length, hh]) (hsum_lt s)
    have hk := h.lt
    rw [hsz] at hk
    rw [head_dif _ (by exact (le4_bytes _).append ((le4_bytes _).append (fun x hx => by simp at hx))) S' k 1048576 h h7]
    refine last_two S' 1048576 S'.size (dH S' 1048576) (dH S' 1048576) rfl rfl (by rw [h.sz, hsz]; rfl) rfl ?_ rfl
    by_cases hk2 : k < 11
    · exact .inl (fun e => h.nF_other 7 h7 (by omega) (e.trans n1.symm))
    · right
      show nF S' 11 4 ≠ hsum (toBA [])
      rw [← empty_of s h0]
      exact fun e => h.nF_other 11 (by omega) (by omega) (e.trans n2.symm)
  · obtain ⟨b1, b2, b3, b4, b5, b6⟩ := blk_facts s (by omega) (by omega)
    have hbl : (blockL s).length = (blkX s).size + 8 := by rw [blockL_raw, rawL_length]
    have e0 : packFr s = frHead ++ (blockL s ++ (le4 0 ++ (le4 (hsum s) ++ []))) := by
      unfold packFr
      rw [one_block s (by omega) (by omega)]
      simp [List.append_assoc]
    have e1 : packFr s = frHead ++ (le4 (blkN s) ++ (bytesOf (blkX s) ++ (le4 (hsum (blkX s)) ++ (le4 0 ++ (le4 (hsum s) ++ []))))) := by
      rw [e0, blockL_raw]; unfold rawL; simp only [List.append_assoc]
    have hRB : Bytes (blockL s ++ (le4 0 ++ (le4 (hsum s) ++ []))) := (blockL_bytes s).append ((le4_bytes _).append ((le4_bytes _).append (fun x hx => by simp at hx)))
    obtain ⟨S, hS⟩ : ∃ S, toBA (packFr s) = S := ⟨_, rfl⟩
    have hdif := h
    rw [e0] at hdif
    rw [head_dif _ hRB S' k 1048576 hdif h7]
    rw [hS] at h
    obtain ⟨N, hN⟩ : ∃ N, blkN s = N := ⟨_, rfl⟩
    obtain ⟨X, hX⟩ : ∃ X, blkX s = X := ⟨_, rfl⟩
    rw [hN] at b1 b2 b3 b4 e1
    rw [hX] at b4 b5 b6 e1 hbl
    have hsz : S.size = X.size + 23 := by rw [← hS, e1, toBA_size]; simp only [List.length_append, le4_length, List.length_nil, hh, bytesOf_length]; omega
    have n1 : nF S 7 4 = N := by rw [← hS, e1]; exact le4_read _ _ _ _ hh.symm b1
    have n2 : S.extract 11 (11 + X.size) = X := by
      rw [← hS, e1, ← List.append_assoc, mid_extract _ _ _ _ _ (by rw [List.length_append, le4_length, hh]) (by rw [List.length_append, le4_length, hh, bytesOf_length]), toBA_bytesOf]
    have n3 : nF S (11 + X.size) 4 = hsum X := by
      rw [← hS, e1, ← List.append_assoc, ← List.append_assoc]
      exact le4_read _ _ _ _ (by simp only [List.length_append, le4_length, hh, bytesOf_length]) (hsum_lt X)
    have n4 : nF S (15 + X.size) 4 = 0 := by
      rw [← hS, e1, ← List.append_assoc, ← List.append_assoc, ← List.append_assoc]
      exact le4_read _ _ _ _ (by simp only [List.length_append, le4_length, hh, bytesOf_length]; omega) (by omega)
    have n5 : nF S (19 + X.size) 4 = hsum s := by
      rw [← hS, e1, ← List.append_assoc, ← List.append_assoc, ← List.append_assoc, ← List.append_assoc]
      exact le4_read _ _ _ _ (by simp only [List.length_append, le4_length, hh, bytesOf_length]; omega) (hsum_lt s)
    have hk := h.lt
    have hk11 := h11 (by omega)
    by_cases hk15 : k < 15 + X.size
    · have m1 : nF S' 7 4 = N := (h.nF_same 7 (by omega)).trans n1
      obtain ⟨X', hX'⟩ : ∃ X', S'.extract 11 (11 + X.size) = X' := ⟨_, rfl⟩
      have m2 : nF S' (11 + X.size) 4 ≠ hsum X' := by
        by_cases hk2 : k < 11 + X.size
        · have h5 := h.ext_other 11 (11 + X.size) (by omega) (by omega) hk2
          rw [hX', n2] at h5
          rw [h.nF_same _ (by omega), n3]
          exact fun e => h5 e.symm
        · have h5 := h.ext_same 11 (11 + X.size) (by omega) (by omega)
          rw [hX', n2] at h5
          rw [h5]
          have h6 := h.nF_other (11 + X.size) (by omega) (by omega)
          rw [n3] at h6
          exact h6
      have hsz' : S'.size = X.size + 23 := h.sz.trans hsz
      have g1 := bn_eq (dH S' 1048576) N (by show 7 + 4 ≤ S'.size; omega) m1 (by show ¬ (N = 2147483648 ∨ 65536 < N % 2147483648); omega)
      have g2 := held_eq { dH S' 1048576 with pos := 11, block := N } X.size X' b4 (by show 11 + X.size ≤ S'.size; omega) hX'
      have g3 : (gHeldSum { dH S' 1048576 with pos := 11 + X.size, block := N, held := X' }).1 = 71 := by
        rw [heldSum_is { dH S' 1048576 with pos := 11 + X.size, block := N, held := X' } rfl]
        exact sum_bad _ _ (by show 11 + X.size + 4 ≤ S'.size; omega) m2
      have g4 : (turnF fourP { dH S' 1048576 with pos := 11, block := N }).1 = 71 := by
        unfold fourP
        rw [turn_cons _ _ _ _ g2, turn_fail _ _ _ (by rw [g3]; decide)]
        exact g3
      have g5 : (gBlocks (dH S' 1048576)).1 = 71 := by
        show (goB (S'.size + 1) (dH S' 1048576)).1 = 71
        have g1' : gBn (dH S' 1048576) = (0, { dH S' 1048576 with pos := 11, block := N }) := g1
        rw [goB_stop S'.size (dH S' 1048576) _ g1' b2 (by rw [g4]; decide)]
        exact g4
      rw [tail_bad _ (by rw [g5]; decide), g5]
      decide
    · have hsz' : S'.size = X.size + 23 := h.sz.trans hsz
      have hpre : (bytesOf S').take (15 + X.size) = frHead ++ blockL s := by
        have h5 := h.ext_same 0 (15 + X.size) (by omega) (by omega)
        have h6 : bytesOf (S'.extract 0 (15 + X.size)) = bytesOf (S.extract 0 (15 + X.size)) := by rw [h5]
        rw [bytesOf_extract, bytesOf_extract, List.drop_zero, List.drop_zero, Nat.sub_zero] at h6
        rw [h6, ← hS, bytesOf_toBA _ (packFr_bytes s), e0, ← List.append_assoc, List.take_left' (by rw [List.length_append, hbl, hh]; omega)]
      have hS2 : S' = toBA (frHead ++ (blockL s ++ (bytesOf S').drop (15 + X.size))) := by
        rw [← List.append_assoc, ← hpre, List.take_append_drop, toBA_bytesOf]
      have g1 := block_read frHead ((bytesOf S').drop (15 + X.size)) s (dH S' 1048576) hS2 rfl rfl rfl (by omega) (by omega) (by show 0 + s.size ≤ 1048576; omega) S'.size
      obtain ⟨K, hK⟩ : ∃ K, S'.size = K + 1 := ⟨S'.size - 1, by omega⟩
      refine last_two S' 1048576 K { dH S' 1048576 with pos := frHead.length + (blockL s).length, block := blkN s, held := blkX s, plain := (dH S' 1048576).plain ++ bytesOf s } (dH S' 1048576) (by rw [g1, ← hK]) rfl (by show S'.size = frHead.length + (blockL s).length + 8; rw [hbl, hh]; omega) rfl ?_ rfl
      show nF S' (frHead.length + (blockL s).length) 4 ≠ 0 ∨ nF S' (frHead.length + (blockL s).length + 4) 4 ≠ hsum (toBA ([] ++ bytesOf s))
      rw [hbl, hh, List.nil_append, toBA_bytesOf, show 7 + (X.size + 8) = 15 + X.size by omega, show 15 + X.size + 4 = 19 + X.size by omega]
      by_cases hk19 : k < 19 + X.size
      · exact .inl (fun e => h.nF_other (15 + X.size) (by omega) (by omega) (e.trans n4.symm))
      · exact .inr (fun e => h.nF_other (19 + X.size) (by omega) (by omega) (e.trans n5.symm))
end Go.Proofs.Ytbncfpbehahidaa
