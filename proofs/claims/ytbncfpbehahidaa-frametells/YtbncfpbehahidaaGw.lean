/- Layer 7: a frame that lacks bytes. -/
import Derived.Test.YtbncfpbehahidaaGj6
namespace Go.Proofs.Ytbncfpbehahidaa
open Go.RowKit
set_option linter.unusedVariables false
set_option maxRecDepth 20000

theorem take_past (X Y : List Nat) (m : Nat) (h : X.length ≤ m) : (X ++ Y).take m = X ++ Y.take (m - X.length) := by
  rw [List.take_append, List.take_of_length_le h]
theorem goB_stop1 (k : Nat) (d d1 : FD) (e : Nat) (he : e ≠ 0) (h1 : gBn d = (0, d1)) (h2 : d1.block ≠ 0) (h3 : (turnF fourP d1).1 = e) : (goB (k + 1) d).1 = e := by
  rw [goB_stop k d d1 h1 h2 (by rw [h3]; exact he), h3]
theorem raw_cut (A R : List Nat) (N : Nat) (X : ByteArray) (d : FD) (m K : Nat) (hs : d.s = toBA (A ++ (rawL N X ++ R).take m)) (hm : m < X.size + 8) (hpos : d.pos = A.length) (hf : d.flags = 116) (hbm : d.bm = 65536) (hN : N < 4294967296) (hN0 : N ≠ 0) (hN1 : N ≠ 2147483648) (hNX : N % 2147483648 = X.size) (hX : X.size ≤ 65536) : (goB (K + 1) d).1 = 5 := by
  have hsz : d.s.size = A.length + m := by rw [hs, toBA_size, List.length_append, List.length_take, List.length_append, rawL_length]; omega
  by_cases h4 : m < 4
  · have e := bn_short d (by omega)
    rw [goB_bad K d (by rw [e]; decide), e]
  · have e0 : (rawL N X ++ R).take m = le4 N ++ (bytesOf X ++ (le4 (hsum X) ++ R)).take (m - 4) := by
      have : rawL N X ++ R = le4 N ++ (bytesOf X ++ (le4 (hsum X) ++ R)) := by unfold rawL; simp [List.append_assoc]
      rw [this, take_past _ _ _ (by rw [le4_length]; omega), le4_length]
    rw [e0] at hs
    have h1 : nF d.s d.pos 4 = N := by rw [hs, hpos]; exact le4_read A _ N _ rfl hN
    have e1 := bn_eq d N (by omega) h1 (by rw [hbm]; omega)
    rw [hpos] at e1
    refine goB_stop1 K d _ 5 (by decide) e1 hN0 ?_
    by_cases hx : m - 4 < X.size
    · have e2 := held_short { d with pos := A.length + 4, block := N } X.size hNX (by simp only; omega)
      unfold fourP
      rw [turn_fail _ _ _ (by rw [e2]; decide)]
      exact e2
    · rw [take_past _ _ _ (by rw [bytesOf_length]; omega)] at hs
      have h2 : d.s.extract (A.length + 4) (A.length + 4 + X.size) = X := by
        rw [hs, ← List.append_assoc, mid_extract _ _ _ _ _ (by rw [List.length_append, le4_length]) (by rw [List.length_append, le4_length, bytesOf_length]), toBA_bytesOf]
      have e2 := held_eq { d with pos := A.length + 4, block := N } X.size X hNX (by simp only; omega) h2
      have e3 : (gHeldSum { d with pos := A.length + 4 + X.size, block := N, held := X }).1 = 5 := by
        rw [heldSum_is { d with pos := A.length + 4 + X.size, block := N, held := X } hf]
        exact sum_short _ _ (by simp only; omega)
      unfold fourP
      rw [turn_cons _ _ _ _ e2, turn_fail _ _ _ (by rw [e3]; decide)]
      exact e3
theorem blocks_cut (s : ByteArray) (R : List Nat) : ∀ (k a : Nat) (A : List Nat) (d : FD) (K m : Nat), d.s = toBA (A ++ (blksL s k a ++ (le4 0 ++ R)).take m) → m < (blksL s k a).length + 4 → d.pos = A.length → d.flags = 116 → d.bm = 65536 → s.size - a < k → d.plain.length + (s.size - a) ≤ d.most → m < K → (goB K d).1 = 5
  | 0, a, A, d, K, m, _, _, _, _, _, h, _, _ => by omega
  | k + 1, a, A, d, K, m, hs, hml, hpos, hf, hbm, hk, hm, hK => by
    obtain ⟨K, rfl⟩ : ∃ K', K = K' + 1 := ⟨K - 1, by omega⟩
    unfold blksL at hs hml
    by_cases ha : s.size ≤ a
    · rw [if_pos ha] at hs hml
      have hsz : d.s.size < d.pos + 4 := by
        rw [hs, toBA_size, List.length_append, List.length_take, hpos]
        simp only [List.length_nil] at hml
        omega
      have e := bn_short d hsz
      rw [goB_bad K d (by rw [e]; decide), e]
    · rw [if_neg ha] at hs hml
      obtain ⟨p, hp⟩ : ∃ p, s.extract a (min (a + 65536) s.size) = p := ⟨_, rfl⟩
      have hps : p.size = min (a + 65536) s.size - a := by rw [← hp, ByteArray.size_extract]; omega
      rw [hp] at hs hml
      obtain ⟨b1, b2, b3, b4, b5, b6⟩ := blk_facts p (by omega) (by omega)
      rw [List.length_append] at hml
      by_cases hc : m < (blkX p).size + 8
      · rw [blockL_raw p, List.append_assoc] at hs
        exact raw_cut A _ (blkN p) (blkX p) d m K hs hc hpos hf hbm b1 b2 b3 b4 b6
      · have hbl : (blockL p).length = (blkX p).size + 8 := by rw [blockL_raw, rawL_length]
        rw [List.append_assoc, take_past _ _ _ (by omega)] at hs
        have e1 := block_read A _ p d hs hpos hf hbm (by omega) (by omega) (by omega) K
        rw [e1]
        refine blocks_cut s R k (a + 65536) (A ++ blockL p) { d with pos := A.length + (blockL p).length, block := blkN p, held := blkX p, plain := d.plain ++ bytesOf p } K (m - (blockL p).length) ?_ (by omega) ?_ hf hbm (by omega) ?_ (by omega)
        · simp only; rw [hs, List.append_assoc]
        · simp only; rw [List.length_append]
        · simp only; rw [List.length_append, bytesOf_length]; omega
theorem head_cut (k most : Nat) (hk : k < 7) : (turnF eight (d0 (toBA (frHead.take k)) most)).1 = 5 := by
  have hbig : 4 ≤ k → k = 4 ∨ k = 5 ∨ k = 6 := by omega
  by_cases h4 : k < 4
  · have h : k = 0 ∨ k = 1 ∨ k = 2 ∨ k = 3 := by omega
    rcases h with rfl | rfl | rfl | rfl <;> rfl
  · have hk2 := hbig (by omega)
    obtain ⟨S, hS⟩ : ∃ S, toBA (frHead.take k) = S := ⟨_, rfl⟩
    have hsz : S.size = k := by rw [← hS, toBA_size, List.length_take]; simp [frHead]; omega
    have hb : (S.extract 0 4).toList = [4, 34, 77, 24] := by
      have e : frHead.take k = [] ++ ([4, 34, 77, 24] ++ ([116, 64, hsum hd2 / 256 % 256] : List Nat).take (k - 4)) := by
        rcases hk2 with rfl | rfl | rfl <;> rfl
      rw [← hS, e, mid_extract [] _ _ 0 4 rfl rfl]
      decide +kernel
    have hB : Bytes (frHead.take k) := fun x hx => frHead_bytes x (List.mem_of_mem_take hx)
    have e1 : gBeg (d0 S most) = (0, ⟨S, 4, most, 0, 0, 0, 0, ⟨#[]⟩, []⟩) := by
      unfold gBeg d0
      rw [if_neg (by simp only; omega), if_pos hb]
    rw [hS]
    unfold eight
    rw [turn_cons _ _ _ _ e1]
    rcases hk2 with rfl | rfl | rfl
    · have e : (gFl ⟨S, 4, most, 0, 0, 0, 0, ⟨#[]⟩, []⟩).1 = 5 := by unfold gFl; rw [if_pos (by simp only; omega)]
      rw [turn_fail _ _ _ (by rw [e]; decide)]
      exact e
    · have h4' : bt S 4 = 116 := by rw [← hS, bt_toBA _ hB]; rfl
      have e2 : gFl ⟨S, 4, most, 0, 0, 0, 0, ⟨#[]⟩, []⟩ = (0, ⟨S, 5, most, 116, 0, 0, 0, ⟨#[]⟩, []⟩) := by
        unfold gFl
        rw [if_neg (by simp only; omega), h4', if_pos (by decide)]
      have e : (gBm ⟨S, 5, most, 116, 0, 0, 0, ⟨#[]⟩, []⟩).1 = 5 := by unfold gBm; rw [if_pos (by simp only; omega)]
      rw [turn_cons _ _ _ _ e2, turn_fail _ _ _ (by rw [e]; decide)]
      exact e
    · have h4' : bt S 4 = 116 := by rw [← hS, bt_toBA _ hB]; rfl
      have h5' : bt S 5 = 64 := by rw [← hS, bt_toBA _ hB]; rfl
      have e2 : gFl ⟨S, 4, most, 0, 0, 0, 0, ⟨#[]⟩, []⟩ = (0, ⟨S, 5, most, 116, 0, 0, 0, ⟨#[]⟩, []⟩) := by
        unfold gFl
        rw [if_neg (by simp only; omega), h4', if_pos (by decide)]
      have e3 : gBm ⟨S, 5, most, 116, 0, 0, 0, ⟨#[]⟩, []⟩ = (0, ⟨S, 6, most, 116, 65536, 0, 0, ⟨#[]⟩, []⟩) := by
        unfold gBm
        rw [if_neg (by simp only; omega), h5', if_pos (by decide)]
      have e4 : gSz ⟨S, 6, most, 116, 65536, 0, 0, ⟨#[]⟩, []⟩ = (0, ⟨S, 6, most, 116, 65536, 0, 0, ⟨#[]⟩, []⟩) := by
        unfold gSz
        rw [if_neg (show ¬ (116 / 8 % 2 = 1) by decide)]
      have e : (gHs ⟨S, 6, most, 116, 65536, 0, 0, ⟨#[]⟩, []⟩).1 = 5 := by unfold gHs; rw [if_pos (by simp only; omega)]
      rw [turn_cons _ _ _ _ e2, turn_cons _ _ _ _ e3, turn_cons _ _ _ _ e4, turn_fail _ _ _ (by rw [e]; decide)]
      exact e
/-- A frame that lacks bytes is too short. -/
theorem frame_cut (s : ByteArray) (m most : Nat) (hm : m < (packFr s).length) (hs : s.size ≤ most) : unpackF (toBA ((packFr s).take m)) most = (5, [], 0) := by
  have key : (turnF eight (d0 (toBA ((packFr s).take m)) most)).1 = 5 := by
    obtain ⟨Q, hQ⟩ : ∃ Q, blksL s (s.size + 1) 0 = Q := ⟨_, rfl⟩
    have hQB : Bytes Q := by rw [← hQ]; exact blksL_bytes s _ _
    have e0 : packFr s = frHead ++ (Q ++ (le4 0 ++ le4 (hsum s))) := by unfold packFr; rw [hQ]; simp [List.append_assoc]
    have hh : frHead.length = 7 := rfl
    by_cases h7 : m < 7
    · rw [e0, List.take_append_of_le_length (by omega)]
      exact head_cut m most h7
    · have hRB : Bytes ((Q ++ (le4 0 ++ le4 (hsum s))).take (m - 7)) := fun x hx => (hQB.append ((le4_bytes _).append (le4_bytes _))) x (List.mem_of_mem_take hx)
      have hlen : (packFr s).length = 7 + Q.length + 8 := by rw [e0]; simp only [List.length_append, le4_length]; omega
      rw [e0, take_past _ _ _ (by omega), hh, head_of _ hRB]
      obtain ⟨S, hS⟩ : ∃ S, toBA (frHead ++ (Q ++ (le4 0 ++ le4 (hsum s))).take (m - 7)) = S := ⟨_, rfl⟩
      rw [hS]
      have hsz : S.size = m := by rw [← hS, toBA_size, List.length_append, List.length_take]; simp only [List.length_append, le4_length]; omega
      by_cases hc : m - 7 < Q.length + 4
      · have e1 : (gBlocks (dH S most)).1 = 5 := blocks_cut s (le4 (hsum s)) (s.size + 1) 0 frHead (dH S most) (S.size + 1) (m - 7) (by rw [hQ]; exact hS.symm) (by rw [hQ]; exact hc) rfl rfl rfl (by omega) (by simp [dH]; exact hs) (by omega)
        rw [tail_bad _ (by rw [e1]; decide), e1]
      · rw [take_past _ _ _ (by omega), take_past _ _ _ (by rw [le4_length]; omega)] at hS
        obtain ⟨R, hR⟩ : ∃ R, (le4 (hsum s)).take (m - 7 - Q.length - (le4 0).length) = R := ⟨_, rfl⟩
        rw [hR] at hS
        obtain ⟨K', blk, hd, h0, e1⟩ := blocks_read s (le4 0 ++ R) (s.size + 1) 0 frHead (dH S most) (S.size + 1) (by rw [hQ]; exact hS.symm) rfl rfl rfl (by omega) (by simp [dH]; exact hs) (by rw [hQ]; omega)
        obtain ⟨K', rfl⟩ : ∃ K'', K' = K'' + 1 := ⟨K' - 1, by omega⟩
        rw [hQ] at e1
        have e2 := end_read (frHead ++ Q) R { dH S most with pos := frHead.length + Q.length, block := blk, held := hd, plain := (dH S most).plain ++ bytesOf (s.extract 0 s.size) } K' (by simp only [dH]; rw [← hS, List.append_assoc]) (by simp only; rw [List.length_append])
        have e3 : gBlocks (dH S most) = (0, { dH S most with pos := (frHead ++ Q).length + 4, block := 0, held := hd, plain := [] ++ bytesOf (s.extract 0 s.size) }) := e1.trans e2
        rw [tail_good _ _ e3 rfl]
        exact sum_short _ _ (by simp only [dH, List.length_append]; omega)
  unfold unpackF
  rw [key, if_neg (by decide)]
end Go.Proofs.Ytbncfpbehahidaa
