/- CRC-32C of the program (Crc, CrcMore) and of the document (more, Crc, CrcMore): contracts. -/
import Derived.Test.YtofjkopfldgkcabSb
namespace Go.Proofs.Ytofjkopfldgkcab
open Go.RowKit
set_option linter.unusedVariables false

theorem take_BL (s : ByteArray) (i : Nat) (h : i < s.size) : (BL s).take (i + 1) = (BL s).take i ++ [s[i].toNat] := by
  rw [List.take_add_one, BL_get? s i h]; rfl
theorem take_all (s : ByteArray) : (BL s).take s.size = BL s := List.take_of_length_le (by rw [BL_length]; exact Nat.le_refl _)
/-- A byte by the table. -/
theorem tab_step (c b : Nat) (hb : b < 256) : c / 256 ^^^ cTn 8 ((c % 256) ^^^ b) = cB c b := by
  unfold cB
  have hc : c = (c / 256) * 2 ^ 8 ^^^ c % 256 := by
    rw [xor_join 8 _ _ (by simp) (by omega)]
    omega
  have e : c ^^^ b = ((c % 256) ^^^ b) ^^^ (c / 256) * 2 ^ 8 := by
    conv => lhs; rw [hc]
    rw [Nat.xor_comm ((c / 256) * 2 ^ 8), Nat.xor_assoc, Nat.xor_assoc, Nat.xor_comm b]
  rw [e, cT_high 8 _ _ ⟨c / 256, rfl⟩, Nat.mul_div_cancel _ (by decide), Nat.xor_comm]
theorem u32_not (c : Nat) (hc : c < 4294967296) : bits .xor .u32 IntKind.u32.max (c : Int) = ((4294967295 ^^^ c : Nat) : Int) := by
  have hm : IntKind.u32.max = ((4294967295 : Nat) : Int) := by decide
  rw [hm]
  exact u32_xor_nat 4294967295 c (by omega) hc
theorem u32_unsigned : IntKind.u32.signed = false := rfl
set_option maxRecDepth 100000 in
set_option maxHeartbeats 1000000 in
theorem crcMore (c : Nat) (s : ByteArray) (w : World) (hc : c < 4294967296) (hs : s.size ≤ 140737488351232) :
    Calls Try.prog 8 #[.int .u32 c, .string s] w fun e w' => e = .returned (.int .u32 (crcFrom c (BL s) : Nat)) ∧ Below w.heap.size w w' := by
  obtain ⟨hz, hi⟩ := zero_of_info info256
  go_enter Try.func8, Try.ntmps8
  go_wp2_with fail
  refine (byteShares _).mono ?_
  rintro e w1 ⟨rfl, hb1⟩
  have HB : Hid (Below w.heap.size w (w1.alloc (.cells tab 34))) := hb1.alloc hb1.size _
  have hsc := run_storeCells_new (P := Try.prog) w1 34 (Array.replicate 256 (.int .u32 0)) tab (by rw [tab_size]; exact hi) (by simp [tab_size]) tab_one
  have hts := tab_size
  clear hb1
  have hsg := u32_unsigned
  have hn := u32_not c hc
  go_wp2
  clear hsc hts hz hi hn
  go_loop [6, 13] (fun x i => ∃ j y : Nat, j ≤ s.size ∧ i = .int .i64 j ∧ x = .int .u32 (y : Nat) ∧ y = cM (4294967295 ^^^ c) ((BL s).take j)) (fun _ i => s.size - (intOf i).toNat)
  case atStart => exact ⟨0, _, Nat.zero_le _, rfl, rfl, rfl⟩
  case round =>
    obtain ⟨j, y, hj, rfl, rfl, hy⟩ := hrel
    have hyl : y < 4294967296 := by rw [hy]; exact cM_lt _ _ (xor32_lt (by omega) hc) (fun x hx => BL_lt s x (List.mem_of_mem_take hx))
    have HY : Hid (y = cM (4294967295 ^^^ c) ((BL s).take j)) := hy
    clear hy
    by_cases hlt : j < s.size
    · have hb := UInt8.toNat_lt s[j]
      obtain ⟨b, hbe⟩ : ∃ b, s[j].toNat = b := ⟨_, rfl⟩
      rw [hbe] at hb
      have h8 : bits .xor .u8 ((y : Int) % 256) (b : Int) = ((y % 256 ^^^ b : Nat) : Int) := u8_xor_nat (y % 256) b (by omega) hb
      have hin : y % 256 ^^^ b < 256 := Nat.xor_lt_two_pow (n := 8) (by omega) (by omega)
      have hcell := tab_get _ hin
      have hx : bits .xor .u32 ((y : Int) / 256) ((cTn 8 (y % 256 ^^^ b) : Nat) : Int) = ((cB y b : Nat) : Int) := by
        rw [← tab_step y b hb]
        exact u32_xor_nat (y / 256) _ (by omega) (cTn_lt _ _ (by omega))
      have HX : Hid (s[j].toNat = b) := hbe
      obtain ⟨z, hz⟩ : ∃ z, y % 256 ^^^ b = z := ⟨_, rfl⟩
      rw [hz] at h8 hin hcell hx
      clear hz
      go_wp2
      go_round
      case rel =>
        refine ⟨j + 1, cB y b, by omega, by go_num, rfl, ?_⟩
        rw [take_BL s j hlt, HX.out, cM_append, HY.out]
        rfl
      case measure => simp [intOf]; omega
    · obtain rfl : j = s.size := by omega
      have hn := u32_not y hyl
      have HR : Hid (4294967295 ^^^ y = crcFrom c (BL s)) := by
        show _ = _
        rw [HY.out, take_all]
        rfl
      go_wp2
      go_ret
      exact ⟨ret_int (by rw [← HR.out]), HB.out⟩
end Go.Proofs.Ytofjkopfldgkcab
