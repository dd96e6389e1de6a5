/- Layer 6: what was packed is unpacked as it was. -/
import Derived.Test.YtbncfpbehahidaaYv
import Derived.Test.YtbncfpbehahidaaYc2
namespace Go.Proofs.Ytbncfpbehahidaa
open Go.RowKit
set_option linter.unusedVariables false
set_option maxRecDepth 20000

theorem getD_mid (A B : List Nat) (j : Nat) : (A ++ B).getD (A.length + j) 0 = B.getD j 0 := by
  rw [List.getD_eq_getElem?_getD, List.getD_eq_getElem?_getD, List.getElem?_append_right (by omega)]
  congr 2
  omega
theorem bytesOf_extract (t : ByteArray) (a b : Nat) : bytesOf (t.extract a b) = ((bytesOf t).drop a).take (b - a) := by
  have h : (t.extract a b).data.toList = (t.data.toList.drop a).take (b - a) := by
    rw [ByteArray.data_extract, Array.toList_extract, List.extract_eq_take_drop]
  unfold bytesOf
  rw [h, List.map_take, List.map_drop]
theorem sub_eq (s : ByteArray) (a b : Nat) : sub s a b = ((bytesOf s).drop a).take (b - a) := bytesOf_extract s a b
theorem bt_eq (s : ByteArray) (i : Nat) : bt s i = (bytesOf s).getD i 0 := by
  unfold bt bytesOf
  rw [List.getD_eq_getElem?_getD, List.getD_eq_getElem?_getD, List.getElem?_map]
  cases s.data.toList[i]? <;> simp
/-- A number that was written is read. -/
theorem numW_full (Z : List Nat) (hZ : Bytes Z) (R : List Nat) : ∀ (q : Nat) (A : List Nat) (r n : Nat), Z = A ++ (List.replicate q 255 ++ [r]) ++ R → r < 255 → numW (toBA Z) A.length n = (0, n + 255 * q + r, A.length + q + 1)
  | 0, A, r, n, h, hr => by
    have hb : bt (toBA Z) A.length = r := by
      rw [bt_toBA Z hZ, h, List.append_assoc]
      exact getD_mid A _ 0
    have hs : (toBA Z).size = A.length + 1 + R.length := by rw [toBA_size, h]; simp; omega
    rw [numW_step _ _ _ (by omega), hb, if_pos hr]
    simp
  | q + 1, A, r, n, h, hr => by
    have hb : bt (toBA Z) A.length = 255 := by
      rw [bt_toBA Z hZ, h, List.append_assoc]
      exact getD_mid A _ 0
    have hs : (toBA Z).size = A.length + (q + 2) + R.length := by rw [toBA_size, h]; simp; omega
    have ih := numW_full Z hZ R q (A ++ [255]) r (n + 255) (by rw [h, List.replicate_succ]; simp) hr
    rw [numW_step _ _ _ (by omega), hb, if_neg (by omega)]
    rw [List.length_append, List.length_singleton] at ih
    rw [ih]
    simp only [Prod.mk.injEq, true_and]
    constructor <;> omega
theorem num_read (Z A R : List Nat) (n : Nat) (hZ : Bytes Z) (h : Z = A ++ moreL n ++ R) : numB (toBA Z) A.length (min n 15) = (0, n, A.length + (moreL n).length) := by
  unfold numB
  by_cases h15 : n < 15
  · rw [Nat.min_eq_left (by omega), if_pos h15]
    unfold moreL
    rw [if_pos h15]
    simp
  · rw [Nat.min_eq_right (by omega), if_neg (by omega)]
    have e : moreL n = List.replicate ((n - 15) / 255) 255 ++ [(n - 15) % 255] := by unfold moreL fullL; rw [if_neg h15]
    have h1 := numW_full Z hZ R ((n - 15) / 255) A ((n - 15) % 255) 15 (by rw [h, e]) (by omega)
    rw [h1, e]
    simp only [List.length_append, List.length_replicate, List.length_singleton, Prod.mk.injEq, true_and]
    constructor <;> omega
/-- A sequence's plain bytes are read. -/
theorem plain_read (Z A R p m : List Nat) (c most : Nat) (hZ : Bytes Z) (h : Z = A ++ headL p c ++ R) (hm : m.length + p.length ≤ most) :
    A.length < (toBA Z).size ∧ bt (toBA Z) A.length % 16 = min c 15 ∧ plainF (toBA Z) most (A.length + 1) m (bt (toBA Z) A.length / 16) = (0, A.length + (headL p c).length, m ++ p) := by
  have hb : bt (toBA Z) A.length = 16 * min p.length 15 + min c 15 := by
    rw [bt_toBA Z hZ, h, List.append_assoc]
    exact getD_mid A _ 0
  have hl : (headL p c).length = 1 + (moreL p.length).length + p.length := by unfold headL; simp; omega
  have hs : (toBA Z).size = A.length + (1 + (moreL p.length).length + p.length) + R.length := by rw [toBA_size, h, List.length_append, List.length_append, hl]
  have e1 : Z = (A ++ [16 * min p.length 15 + min c 15]) ++ moreL p.length ++ (p ++ R) := by
    rw [h]; unfold headL; simp only [List.append_assoc]
  have h1 := num_read Z _ _ p.length hZ e1
  rw [List.length_append, List.length_singleton] at h1
  have hd : bt (toBA Z) A.length / 16 = min p.length 15 := by rw [hb]; omega
  refine ⟨by omega, by rw [hb]; omega, ?_⟩
  rw [hd, plain_good h1 (by omega) (by omega)]
  have e2 : bytesOf ((toBA Z).extract (A.length + 1 + (moreL p.length).length) (A.length + 1 + (moreL p.length).length + p.length)) = p := by
    rw [bytesOf_extract, bytesOf_toBA Z hZ]
    have e3 : Z = (A ++ [16 * min p.length 15 + min c 15] ++ moreL p.length) ++ (p ++ R) := by rw [e1, List.append_assoc]
    have e4 : A.length + 1 + (moreL p.length).length = (A ++ [16 * min p.length 15 + min c 15] ++ moreL p.length).length := by simp; omega
    rw [e4, e3, List.drop_left, Nat.add_sub_cancel_left, List.take_left]
  rw [e2, hl]
  simp only [Prod.mk.injEq, and_true, true_and]
  omega
/-- A sequence with its copy is read. -/
theorem copy_read (Z A R p m : List Nat) (d n most : Nat) (hZ : Bytes Z) (h : Z = A ++ copyS p d n ++ R) (hn : 4 ≤ n) (hd1 : 1 ≤ d) (hd2 : d ≤ m.length + p.length) (hd3 : d ≤ 65535) (hm : m.length + p.length + n ≤ most) :
    seqF (toBA Z) most A.length m = (0, false, A.length + (copyS p d n).length, copyL d n (m ++ p)) := by
  have e1 : Z = A ++ headL p (n - 4) ++ ([d % 256, d / 256] ++ moreL (n - 4) ++ R) := by
    rw [h]; unfold copyS; simp only [List.append_assoc]
  obtain ⟨g1, g2, g3⟩ := plain_read Z A _ p m (n - 4) most hZ e1 (by omega)
  obtain ⟨M, hM⟩ : ∃ M, A.length + (headL p (n - 4)).length = M := ⟨_, rfl⟩
  rw [hM] at g3
  have hML : (A ++ headL p (n - 4)).length = M := by rw [List.length_append, hM]
  have hs : (toBA Z).size = M + 2 + (moreL (n - 4)).length + R.length := by rw [toBA_size, e1, List.length_append, hML]; simp; omega
  have b0 : bt (toBA Z) M = d % 256 := by
    rw [bt_toBA Z hZ, ← hML, e1]
    exact getD_mid (A ++ headL p (n - 4)) ([d % 256, d / 256] ++ moreL (n - 4) ++ R) 0
  have b1 : bt (toBA Z) (M + 1) = d / 256 := by
    rw [bt_toBA Z hZ, ← hML, e1]
    exact getD_mid (A ++ headL p (n - 4)) ([d % 256, d / 256] ++ moreL (n - 4) ++ R) 1
  have hd : bt (toBA Z) M + 256 * bt (toBA Z) (M + 1) = d := by rw [b0, b1]; omega
  have hdist := dist_good (s := toBA Z) (a := M) (l := m ++ p) (by omega) (by rw [hd, List.length_append]; omega)
  rw [hd] at hdist
  have e2 : Z = (A ++ headL p (n - 4) ++ [d % 256, d / 256]) ++ moreL (n - 4) ++ R := by rw [e1]; simp only [List.append_assoc]
  have h2 := num_read Z _ _ (n - 4) hZ e2
  rw [List.length_append, hML] at h2
  have hc := copy_good (most := most) hdist (n := min (n - 4) 15) h2 (by rw [List.length_append]; omega)
  rw [← g2] at hc
  rw [seq_good g1 g3 (by omega) hc]
  have e3 : (copyS p d n).length = (headL p (n - 4)).length + 2 + (moreL (n - 4)).length := by unfold copyS; simp; omega
  rw [e3, show n - 4 + 4 = n by omega]
  simp only [Prod.mk.injEq, and_true, true_and]
  simp only [List.length_cons, List.length_nil]
  omega
theorem last_read (Z A p m : List Nat) (most : Nat) (hZ : Bytes Z) (h : Z = A ++ headL p 0) (hm : m.length + p.length ≤ most) :
    seqF (toBA Z) most A.length m = (0, true, (toBA Z).size, m ++ p) := by
  obtain ⟨g1, g2, g3⟩ := plain_read Z A [] p m 0 most hZ (by rw [h]; simp) hm
  have hs : A.length + (headL p 0).length = (toBA Z).size := by rw [toBA_size, h, List.length_append]
  rw [hs] at g3
  exact seq_last g1 g3
/-- A copy of what stands there tells it. -/
theorem copyL_take (S : List Nat) (k d : Nat) (hd : 1 ≤ d) (hk : d ≤ k) : ∀ n, k + n ≤ S.length → (∀ i, i < n → S.getD (k - d + i) 0 = S.getD (k + i) 0) → copyL d n (S.take k) = S.take (k + n)
  | 0, _, _ => rfl
  | n + 1, h, he => by
    have ih := copyL_take S k d hd hk n (by omega) (fun i hi => he i (by omega))
    rw [copyL_succ, ih]
    have hl : (S.take (k + n)).length = k + n := by rw [List.length_take]; omega
    have e1 := he n (by omega)
    have e2 : (S.take (k + n)).getD (k + n - d) 0 = S.getD (k + n) 0 := by
      rw [← e1, List.getD_eq_getElem?_getD, List.getD_eq_getElem?_getD, List.getElem?_take, if_pos (by omega)]
      congr 2
      omega
    rw [hl, e2, show k + (n + 1) = (k + n) + 1 by omega, List.take_add_one, List.getD_eq_getElem?_getD, List.getElem?_eq_getElem (by omega)]
    rfl
end Go.Proofs.Ytbncfpbehahidaa
