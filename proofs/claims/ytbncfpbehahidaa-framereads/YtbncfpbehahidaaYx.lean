/- Layer 6: what was packed is unpacked as it was, whole. -/
import Derived.Test.YtbncfpbehahidaaYw
namespace Go.Proofs.Ytbncfpbehahidaa
open Go.RowKit
set_option linter.unusedVariables false
set_option maxRecDepth 20000

theorem packF_more (s : ByteArray) : ∀ (F k told : Nat) (l : List Nat), ∃ R, packF s F k told l = l ++ R
  | 0, k, told, l => ⟨_, rfl⟩
  | F + 1, k, told, l => by
    unfold packF
    split
    · exact ⟨_, rfl⟩
    · split
      · exact packF_more s F _ _ _
      · obtain ⟨R, hR⟩ := packF_more s F (k + (copyAt s k).1) (k + (copyAt s k).1) (l ++ copyS (sub s told k) (copyAt s k).2 (copyAt s k).1)
        exact ⟨_, by rw [hR, List.append_assoc]⟩
theorem take_sub (s : ByteArray) (a b : Nat) (h : a ≤ b) : (bytesOf s).take a ++ sub s a b = (bytesOf s).take b := by
  rw [sub_eq]
  have : b = a + (b - a) := by omega
  conv => rhs; rw [this, List.take_add]
/-- The plain bytes that come of what is packed from a place on. -/
theorem unp_pack (s : ByteArray) (most : Nat) (hm : s.size ≤ most) (Z : List Nat) (hZ : Bytes Z) : ∀ (F k told : Nat) (l : List Nat), told ≤ k → k ≤ s.size → s.size - k ≤ F → packF s F k told l = Z → ∀ K, Z.length - l.length < K → unpF (toBA Z) most K l.length ((bytesOf s).take told) = (0, bytesOf s) := by
  have hend : ∀ (told : Nat) (l : List Nat), told ≤ s.size → l ++ headL (sub s told s.size) 0 = Z → ∀ K, Z.length - l.length < K → unpF (toBA Z) most K l.length ((bytesOf s).take told) = (0, bytesOf s) := fun told l ht h K hK => by
    obtain ⟨K, rfl⟩ : ∃ K', K = K' + 1 := ⟨K - 1, by omega⟩
    have h1 := last_read Z l (sub s told s.size) ((bytesOf s).take told) most hZ h.symm (by rw [List.length_take, bytesOf_length, sub_length s told s.size (Nat.le_refl _)]; omega)
    rw [unp_last h1, take_sub s told s.size ht]
    rw [List.take_of_length_le (by rw [bytesOf_length]; exact Nat.le_refl _)]
  intro F
  induction F with
  | zero => intro k told l h1 h2 h3 h4; exact hend told l (by omega) h4
  | succ F ih =>
    intro k told l h1 h2 h3 h4 K hK
    unfold packF at h4
    split at h4
    · exact hend told l (by omega) h4 K hK
    · rename_i h12
      split at h4
      · exact ih (k + 1) told l (by omega) (by omega) (by omega) h4 K hK
      · rename_i hn0
        obtain ⟨q1, q2, q3, q4, q5, q6⟩ := (copyAt_spec (s := s) (k := k) (by omega)).resolve_left hn0
        obtain ⟨R, hR⟩ := packF_more s F (k + (copyAt s k).1) (k + (copyAt s k).1) (l ++ copyS (sub s told k) (copyAt s k).2 (copyAt s k).1)
        obtain ⟨n, hn⟩ : ∃ n, (copyAt s k).1 = n := ⟨_, rfl⟩
        obtain ⟨d, hd⟩ : ∃ d, (copyAt s k).2 = d := ⟨_, rfl⟩
        rw [hn, hd] at h4 hR
        rw [hn] at q1 q2 q6
        rw [hd] at q3 q4 q5 q6
        have ht : ((bytesOf s).take told).length = told := by rw [List.length_take, bytesOf_length]; omega
        have hp : (sub s told k).length = k - told := sub_length s told k h2
        have hcl : 1 ≤ (copyS (sub s told k) d n).length := by unfold copyS headL; simp
        have hZl : Z.length = l.length + (copyS (sub s told k) d n).length + R.length := by rw [← h4, hR]; simp; omega
        have hseq := copy_read Z l R (sub s told k) ((bytesOf s).take told) d n most hZ (by rw [← h4, hR]) q1 q3 (by omega) q5 (by omega)
        rw [take_sub s told k h1, copyL_take (bytesOf s) k d q3 q4 n (by rw [bytesOf_length]; omega) (fun i hi => by rw [← bt_eq, ← bt_eq]; exact q6 i hi)] at hseq
        obtain ⟨K, rfl⟩ : ∃ K', K = K' + 1 := ⟨K - 1, by omega⟩
        rw [unp_more hseq]
        have := ih (k + n) (k + n) (l ++ copyS (sub s told k) d n) (Nat.le_refl _) (by omega) (by omega) h4 K (by rw [List.length_append]; omega)
        rw [List.length_append] at this
        exact this
def packL (s : ByteArray) : List Nat := packF s s.size 0 0 []
theorem packL_bytes (s : ByteArray) : Bytes (packL s) := packF_bytes s _ _ _ _ (fun x hx => by simp at hx) trivial
/-- What was packed is unpacked as it was. -/
theorem unpack_pack (s : ByteArray) (most : Nat) (hm : s.size ≤ most) : unpack (toBA (packL s)) most = (0, bytesOf s) := by
  have h := unp_pack s most hm (packL s) (packL_bytes s) s.size 0 0 [] (Nat.le_refl _) (Nat.zero_le _) (by omega) rfl ((toBA (packL s)).size + 1) (by rw [toBA_size]; simp)
  exact h
theorem packF_length (s : ByteArray) : ∀ (F k told : Nat) (l : List Nat), told ≤ k → k ≤ s.size → l.length ≤ told + told / 255 → (packF s F k told l).length ≤ s.size + s.size / 255 + 2 := by
  have hend : ∀ (told : Nat) (l : List Nat), told ≤ s.size → l.length ≤ told + told / 255 → (l ++ headL (sub s told s.size) 0).length ≤ s.size + s.size / 255 + 2 := fun told l ht hl => by
    have h1 := headL_cost (sub s told s.size) 0
    rw [sub_length s told s.size (Nat.le_refl _)] at h1
    rw [List.length_append]
    omega
  intro F
  induction F with
  | zero => intro k told l h1 h2 h3; exact hend told l (by omega) h3
  | succ F ih =>
    intro k told l h1 h2 h3
    unfold packF
    split
    · exact hend told l (by omega) h3
    · split
      · exact ih (k + 1) told l (by omega) (by omega) h3
      · rename_i hn0
        obtain ⟨q1, q2, q3, q4, q5, q6⟩ := (copyAt_spec (s := s) (k := k) (by omega)).resolve_left hn0
        have hc := copyS_cost (sub s told k) (copyAt s k).2 (copyAt s k).1 q1
        rw [sub_length s told k h2] at hc
        exact ih _ _ _ (Nat.le_refl _) (by omega) (by rw [List.length_append]; omega)
theorem packL_length (s : ByteArray) : (packL s).length ≤ s.size + s.size / 255 + 2 := packF_length s s.size 0 0 [] (Nat.le_refl _) (Nat.zero_le _) (by simp)
end Go.Proofs.Ytbncfpbehahidaa
