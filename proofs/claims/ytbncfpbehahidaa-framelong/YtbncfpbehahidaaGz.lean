/- Layer 7: many noughts are packed into little; FrameLong's walk. -/
import Derived.Test.YtbncfpbehahidaaGj6
import Derived.Test.YtbncfpbehahidaaGyzf
namespace Go.Proofs.Ytbncfpbehahidaa
open Go.RowKit
set_option linter.unusedVariables false
set_option maxRecDepth 20000

theorem copyS_len7 (q : List Nat) (d n : Nat) (hn : n ≤ 65536) : (copyS q d n).length ≤ q.length + q.length / 255 + 266 := by
  unfold copyS headL
  simp only [List.length_append, List.length_cons, List.length_nil, moreL_len]
  split
  · split <;> omega
  · split <;> omega
section
variable {s : ByteArray} {p : Nat}
theorem pack_late7 (hper : ∀ i, p ≤ i → i < s.size → bt s i = bt s (i - p)) (hp1 : 1 ≤ p) (hp : p ≤ 100) (hs : s.size ≤ 65536) (F k told : Nat) (l : List Nat) (hk : p ≤ k) (hks : k ≤ s.size) (ht : told ≤ k) (htk : k ≤ told + 100) (hF : s.size - k ≤ F) : (packF s F k told l).length ≤ l.length + (k - told) + 300 := by
  by_cases hend : s.size < k + 12
  · rw [packF_end s F k told l hend, List.length_append]
    have h1 := headL_cost (sub s told s.size) 0
    rw [sub_length s told s.size (Nat.le_refl _)] at h1
    omega
  · obtain ⟨F, rfl⟩ : ∃ F', F = F' + 1 := ⟨F - 1, by omega⟩
    have hc := copyAt_full hper hp1 hp hk (by omega)
    unfold packF
    rw [if_neg hend, if_neg (by omega), packF_end s F _ _ _ (by omega), List.length_append, List.length_append]
    have h1 := headL_cost (sub s (k + (copyAt s k).1) s.size) 0
    rw [sub_length s _ s.size (Nat.le_refl _)] at h1
    have h2 := copyS_len7 (sub s told k) (copyAt s k).2 (copyAt s k).1 (by omega)
    rw [sub_length s told k hks] at h2
    omega
theorem zero_len (hper : ∀ i, 1 ≤ i → i < s.size → bt s i = bt s (i - 1)) (hs : s.size ≤ 65536) (hs2 : 200 ≤ s.size) : (packL s).length ≤ 600 := by
  unfold packL
  obtain ⟨F, hF⟩ : ∃ F, s.size = F + 1 := ⟨s.size - 1, by omega⟩
  rw [hF]
  unfold packF
  rw [if_neg (by omega)]
  by_cases hn : (copyAt s 0).1 = 0
  · rw [if_pos hn]
    have := pack_late7 hper (Nat.le_refl 1) (by omega) hs F (0 + 1) 0 [] (by omega) (by omega) (by omega) (by omega) (by omega)
    simp only [List.length_nil] at this
    omega
  · rw [if_neg hn]
    obtain ⟨q1, q2, q3, q4, q5, q6⟩ := (copyAt_spec (s := s) (k := 0) (by omega)).resolve_left hn
    omega
end
theorem zeros_small (n : Nat) (h1 : 700 ≤ n) (h2 : n ≤ 65536) : (blockL (toBA (List.replicate n 0))).length ≤ 608 := by
  have hB : Bytes (List.replicate n 0) := fun x hx => by rw [List.eq_of_mem_replicate hx]; decide
  have hz : (toBA (List.replicate n 0)).size = n := by rw [toBA_size, List.length_replicate]
  have h := zero_len (s := toBA (List.replicate n 0)) (fun i hi hi2 => by
    rw [hz] at hi2
    rw [bt_toBA _ hB, bt_toBA _ hB]
    simp only [List.getD_eq_getElem?_getD, List.getElem?_replicate]
    rw [if_pos (by omega), if_pos (by omega)]) (by omega) (by omega)
  unfold blockL
  rw [if_pos (by omega)]
  simp only [List.length_append, le4_length]
  omega
def zer : ByteArray := toBA (List.replicate 1048576 0)
theorem zer_size : zer.size = 1048576 := by unfold zer; rw [toBA_size, List.length_replicate]
theorem zer_block (a : Nat) (h : a + 65536 ≤ 1048576) : (blockL (zer.extract a (min (a + 65536) zer.size))).length ≤ 608 := by
  have e : zer.extract a (min (a + 65536) zer.size) = toBA (List.replicate 65536 0) := by
    rw [zer_size, Nat.min_eq_left h]
    unfold zer
    rw [toBA_extract, List.drop_replicate, List.take_replicate]
    congr 2
    omega
  rw [e]
  exact zeros_small _ (by omega) (by omega)
theorem zer_blocks : ∀ (j k : Nat), j ≤ 16 → (blksL zer k (1048576 - 65536 * j)).length ≤ 608 * j
  | 0, k, _ => by
    rw [blksL_end zer k _ (by rw [zer_size]; omega)]; simp
  | j + 1, 0, _ => by simp [blksL]
  | j + 1, k + 1, h => by
    unfold blksL
    rw [if_neg (by rw [zer_size]; omega), List.length_append]
    have h1 := zer_block (1048576 - 65536 * (j + 1)) (by omega)
    have h2 := zer_blocks j k (by omega)
    rw [show 1048576 - 65536 * (j + 1) + 65536 = 1048576 - 65536 * j by omega] at h1 ⊢
    omega
theorem zer_pack : (packFr zer).length < 65536 := by
  have h := zer_blocks 16 (zer.size + 1) (by omega)
  unfold packFr
  simp only [List.length_append, le4_length]
  have hh : frHead.length = 7 := rfl
  rw [show 1048576 - 65536 * 16 = 0 from rfl] at h
  omega
theorem made0 (n : Nat) : (madeCells #[Value.int .u8 0] n).toList = bcells (List.replicate n 0) := by
  rw [toList_madeCells_one (.int .u8 0) n]
  simp [bcells]
theorem and15 (x : Int) : ∃ a : Nat, a ≤ 15 ∧ bits .and .i64 x 15 = (a : Int) := by
  have h : (BitVec.ofInt 64 x &&& BitVec.ofInt 64 15).toNat ≤ 15 := by
    rw [BitVec.toNat_and]
    exact Nat.le_trans Nat.and_le_right (by decide)
  refine ⟨_, h, ?_⟩
  show IntKind.i64.wrap ((BitVec.ofInt 64 x &&& BitVec.ofInt 64 15).toNat : Int) = _
  rw [IntKind.wrap_i64]
  omega
set_option maxHeartbeats 2000000 in
theorem frameLong_walk (more : Int) (w : World) (hmore : (Lit.int .i64 more).wf = true) :
    Calls Try.prog 7 #[.int .i64 more] w fun e w' => e = .returned (.bool true) ∧ Below w.heap.size w w' := by
  obtain ⟨x, hx, hand⟩ := and15 more
  obtain ⟨n, hn⟩ : ∃ n, 1048576 + x = n := ⟨_, rfl⟩
  have hni : (1048576 : Int) + (x : Int) = (n : Int) := by clear hand; omega
  have hnw := wrapN n (by clear hand; omega)
  have hn1 : 1048576 ≤ n := by clear hand; omega
  have hn2 : n ≤ 1048591 := by clear hand; omega
  have hTs : (toBA (List.replicate n 0)).size = n := by rw [toBA_size, List.length_replicate]
  have HPL : Hid (1048576 < n → ∀ W, Calls Try.prog 12 #[.string (toBA (List.replicate n 0))] W fun e w' => e = .returned (.tuple #[.string ⟨#[]⟩, .int .i64 4]) ∧ Below W.heap.size W w') := fun h W => fpack_long _ W (by clear hand; omega)
  have HPS : Hid (n = 1048576 → ∀ W, Calls Try.prog 12 #[.string (toBA (List.replicate n 0))] W fun e w' => e = .returned (.tuple #[.string (toBA (packFr zer)), .int .i64 0]) ∧ Below W.heap.size W w') := fun h W => by
    have h1 := pk zer (by rw [zer_size]; exact Nat.le_refl _) W
    rw [h]
    exact h1
  have hB : ∀ q ∈ List.replicate n 0, q < 256 := fun q hq => by rw [List.eq_of_mem_replicate hq]; decide
  obtain ⟨i0, hi, hz0, hz1, hz2⟩ := info_parts infoB
  have HI : Hid (_ ∧ _ ∧ _ ∧ _) := ⟨hi, hz0, hz1, hz2⟩
  have HB : Hid _ := hB
  obtain ⟨T, hT⟩ : ∃ T, toBA (List.replicate n 0) = T := ⟨_, rfl⟩
  rw [hT] at HPL HPS
  have HT : Hid (toBA (List.replicate n 0) = T) := hT
  clear hn hx hTs hB hi hz0 hz1 hz2 hT
  go_enter Try.func7, Try.ntmps7
  go_wp2_with (at_make; refine wpList_make_full _ rfl _ _ 30 rfl w.heap.size 5 i0 (.int .u8 0) 1 Try.underlying30 HI.out.1 HI.out.2.1 HI.out.2.2.1 .i64 .i64 _ _ n rfl rfl rfl rfl ?c1 ?c2 (Nat.le_refl _) ?_)
  case c1 => rw [HI.out.2.2.2]; omega
  case c2 => unfold maxLen; omega
  intro w1 hown hgrow
  rw [made0 n] at hown
  have hcv : (convert 30 9 (.slice (some ⟨w.heap.size, 0, none⟩) n n)).run Try.prog w1 = .ok (.string T) w1 := by
    rw [← HT.out]
    refine conv_row w1 _ _ 5 w.heap.size _ _ Try.underlying30 Try.underlying5 Try.underlying9 ?_ HB.out
    rw [List.length_replicate]; exact hown
  have H1 : Hid (Below w.heap.size w w1) := (Go.RowKit.Below.refl w.heap.size w).grown hgrow (Nat.le_refl _) (fun k hk => by cases hk)
  clear hown hgrow
  by_cases h20 : n = 1048576
  · have h20i : decide ((1048576 : Int) < (n : Int)) = false := decide_eq_false (by clear hand; omega)
    have hzs : (toBA (packFr zer)).size < 65536 := by rw [toBA_size]; exact zer_pack
    obtain ⟨Z, hZ⟩ : ∃ Z, toBA (packFr zer) = Z := ⟨_, rfl⟩
    have HP := HPS.out h20
    rw [hZ] at HP hzs
    have HP' : Hid _ := HP
    have hzi : (Z.size : Int) < 65536 := by clear hand; omega
    have hzb : decide ((Z.size : Int) < 65536) = true := by simpa using hzi
    clear hZ hzs HP h20 HPL HPS hand hni hnw hn1 hn2
    go_wp2_with fail
    refine (HP'.out _).mono ?_
    rintro e w2 ⟨rfl, hb2⟩
    have H2 : Hid (Below w.heap.size w w2) := H1.out.trans (hb2.mono H1.out.size)
    clear hb2 hcv
    go_wp2_with fail
    refine (awake_ok _).mono ?_
    rintro e w3 ⟨rfl, hb3⟩
    have H3 : Hid (Below w.heap.size w w3) := H2.out.trans (hb3.mono H2.out.size)
    clear hb3
    go_wp2
    go_ret
    exact ⟨rfl, H3.out⟩
  · have h20i : (1048576 : Int) < (n : Int) := by clear hand; omega
    have HP' : Hid _ := HPL.out (by clear hand; omega)
    clear h20 HPL HPS hand hni hnw hn1 hn2
    go_wp2_with fail
    refine (HP'.out _).mono ?_
    rintro e w2 ⟨rfl, hb2⟩
    have H2 : Hid (Below w.heap.size w w2) := H1.out.trans (hb2.mono H1.out.size)
    clear hb2 hcv
    go_wp2_with fail
    refine (awake_ok _).mono ?_
    rintro e w3 ⟨rfl, hb3⟩
    have H3 : Hid (Below w.heap.size w w3) := H2.out.trans (hb3.mono H2.out.size)
    clear hb3
    go_wp2
    go_ret
    exact ⟨rfl, H3.out⟩
end Go.Proofs.Ytbncfpbehahidaa
