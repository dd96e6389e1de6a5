/- Crc and CrcMore, the program's and the document's. -/
import Derived.Test.YtofjkopfldgkcaaSc
namespace Go.Proofs.Ytofjkopfldgkcaa
open Go.RowKit
set_option linter.unusedVariables false

theorem crc (s : ByteArray) (w : World) (hs : s.size ≤ 140737488351232) :
    Calls Try.prog 9 #[.string s] w fun e w' => e = .returned (.int .i64 (crcOf (BL s) : Nat)) ∧ Below w.heap.size w w' := by
  have hl := crcFrom_lt 0 (BL s) (by omega) (BL_lt s)
  go_enter Try.func9, Try.ntmps9
  go_wp2_with fail
  refine (crcMore 0 s _ (by omega) hs).mono ?_
  rintro e w1 ⟨rfl, hb1⟩
  have HB : Hid (Below w.heap.size w w1) := hb1
  clear hb1
  go_wp2
  go_ret
  exact ⟨ret_int (by rw [crcOf_zero]), HB.out⟩
theorem crcMore_arg (c : Int) (s : ByteArray) (w : World) (h : c < 0 ∨ 4294967295 < c) :
    Calls Try.prog 14 #[.int .i64 c, .string s] w fun e w' => e = .returned (.tuple #[.int .i64 0, .int .i64 1]) ∧ w' = w := by
  go_enter Try.func14, Try.ntmps14
  go_wp2_with fail
  refine (isWord_no c _ h).mono ?_
  rintro e w1 ⟨rfl, rfl⟩
  go_wp2
  go_ret2
  exact ⟨rfl, rfl⟩
theorem crcMore_ok (c : Nat) (s : ByteArray) (w : World) (hc : c < 4294967296) (hs : s.size ≤ 140737488351232) :
    Calls Try.prog 14 #[.int .i64 c, .string s] w fun e w' => e = .returned (.tuple #[.int .i64 (crcFrom c (BL s) : Nat), .int .i64 0]) ∧ Below w.heap.size w w' := by
  have hl := crcFrom_lt c (BL s) hc (BL_lt s)
  go_enter Try.func14, Try.ntmps14
  go_wp2_with fail
  refine (isWord_yes c _ (by omega) (by omega)).mono ?_
  rintro e w1 ⟨rfl, rfl⟩
  go_wp2_with fail
  refine (crcMore c s _ hc hs).mono ?_
  rintro e w1 ⟨rfl, hb1⟩
  have HB : Hid (Below _ _ w1) := hb1
  clear hb1
  go_wp2
  go_ret2
  exact ⟨rfl, HB.out⟩
theorem rem2 (y : Nat) : ((y : Int).tmod 2 == 1) = decide (y % 2 = 1) := by
  have e : (y : Int).tmod 2 = ((y % 2 : Nat) : Int) := by rw [Int.tmod_eq_emod_of_nonneg (by omega)]; omega
  rw [e]
  rcases Nat.mod_two_eq_zero_or_one y with h | h <;> rw [h] <;> rfl
set_option maxRecDepth 20000 in
theorem refMore (c : Nat) (s : ByteArray) (w : World) (hc : c < 4294967296) (hs : s.size ≤ 140737488351232) :
    Calls Try.prog 20 #[.int .i64 c, .string s] w fun e w' => e = .returned (.int .i64 (cM c (BL s) : Nat)) ∧ w' = w := by
  go_enter Try.func20, Try.ntmps20
  go_wp2
  go_loop [0, 5] (fun x i => ∃ j y : Nat, j ≤ s.size ∧ i = .int .i64 j ∧ x = .int .i64 (y : Nat) ∧ y = cM c ((BL s).take j)) (fun _ i => s.size - (intOf i).toNat)
  case atStart => exact ⟨0, _, Nat.zero_le _, rfl, rfl, rfl⟩
  case round =>
    obtain ⟨j, y, hj, rfl, rfl, hy⟩ := hrel
    have hyl : y < 4294967296 := by rw [hy]; exact cM_lt _ _ hc (fun x hx => BL_lt s x (List.mem_of_mem_take hx))
    have HY : Hid (y = cM c ((BL s).take j)) := hy
    clear hy
    by_cases hlt : j < s.size
    · have hb := UInt8.toNat_lt s[j]
      have hw : wrap64 (s[j].toNat : Int) = (s[j].toNat : Int) := IntWalk.wrap64_in _ ⟨by omega, by omega⟩
      have hx := i64_xor_nat y s[j].toNat (by omega) (by omega)
      have hz : y ^^^ s[j].toNat < 4294967296 := xor32_lt hyl (by omega)
      have HX : Hid ((BL s).take (j + 1) = (BL s).take j ++ [s[j].toNat]) := take_BL s j hlt
      obtain ⟨z, hze⟩ : ∃ z, y ^^^ s[j].toNat = z := ⟨_, rfl⟩
      have HZ : Hid (cTn 8 z = cB y s[j].toNat) := by show _ = _; rw [← hze]; rfl
      rw [hze] at hx hz
      clear hze
      go_wp2
      go_loop [0, 6] (fun x i => ∃ k y : Nat, k ≤ 8 ∧ i = .int .i64 k ∧ x = .int .i64 (y : Nat) ∧ cTn k z = y ∧ y < 4294967296) (fun _ i => 8 - (intOf i).toNat)
      case atStart => exact ⟨0, _, Nat.zero_le _, rfl, rfl, rfl, hz⟩
      case round =>
        obtain ⟨k, v, hk, rfl, rfl, hv, hvl⟩ := hrel
        have HV : Hid (cTn (k + 1) z = cT v) := by
          show _ = _
          rw [cTn_add k 1, hv]
          rfl
        have HV0 : Hid (cTn k z = v) := hv
        clear hv
        by_cases hk8 : k < 8
        · have hr := rem2 v
          have hvt := cT_lt v hvl
          by_cases hp : v % 2 = 1
          · rw [decide_eq_true hp] at hr
            have hxx := i64_xor_nat (v / 2) 2197175160 (by omega) (by omega)
            have HC : Hid (cT v = v / 2 ^^^ 2197175160) := by show _ = _; unfold cT; rw [if_pos hp]
            go_wp2
            go_round
            case rel => exact ⟨k + 1, cT v, by omega, by go_num, congrArg (Value.int .i64) (by rw [HC.out]; exact hxx), HV.out, hvt⟩
            case measure => simp [intOf]; omega
          · rw [decide_eq_false hp] at hr
            have HC : Hid (cT v = v / 2) := by show _ = _; unfold cT; rw [if_neg hp]
            go_wp2
            go_round
            case rel => exact ⟨k + 1, cT v, by omega, by go_num, congrArg (Value.int .i64) (by rw [HC.out]; omega), HV.out, hvt⟩
            case measure => simp [intOf]; omega
        · obtain rfl : k = 8 := by omega
          go_wp2
          refine ⟨⟨j + 1, v, by omega, by go_num, rfl, ?_⟩, by simp [intOf]; omega⟩
          rw [HX.out, cM_append, ← HY.out, ← HV0.out, HZ.out]
          rfl
    · obtain rfl : j = s.size := by omega
      have HR : Hid (y = cM c (BL s)) := by
        show _ = _
        rw [HY.out, take_all]
      go_wp2
      go_ret
      exact ⟨ret_int (by rw [← HR.out]), rfl⟩
theorem refCrc (s : ByteArray) (w : World) (hs : s.size ≤ 140737488351232) :
    Calls Try.prog 10 #[.string s] w fun e w' => e = .returned (.int .i64 (crcOf (BL s) : Nat)) ∧ w' = w := by
  have hl := cM_lt (BL s) 4294967295 (by omega) (BL_lt s)
  have hx := i64_xor_nat 4294967295 (cM 4294967295 (BL s)) (by omega) (by omega)
  go_enter Try.func10, Try.ntmps10
  go_wp2_with fail
  refine (refMore 4294967295 s _ (by omega) hs).mono ?_
  rintro e w1 ⟨rfl, rfl⟩
  go_wp2
  go_ret
  exact ⟨ret_int hx, rfl⟩
theorem refCrcMore_arg (c : Int) (s : ByteArray) (w : World) (h : c < 0 ∨ 4294967295 < c) :
    Calls Try.prog 15 #[.int .i64 c, .string s] w fun e w' => e = .returned (.tuple #[.int .i64 0, .int .i64 1]) ∧ w' = w := by
  rcases h with h | h
  · go_enter Try.func15, Try.ntmps15
    go_wp2
    go_ret2
    exact ⟨rfl, rfl⟩
  · have h0 : ¬ c < 0 := by omega
    go_enter Try.func15, Try.ntmps15
    go_wp2
    go_ret2
    exact ⟨rfl, rfl⟩
theorem refCrcMore_aux (c y z v : Nat) (s : ByteArray) (w : World) (hc : c < 4294967296) (hs : s.size ≤ 140737488351232) (hy : y < 4294967296) (hz : cM y (BL s) = z) (hx0 : bits .xor .i64 4294967295 (c : Int) = (y : Int)) (hx : bits .xor .i64 4294967295 (z : Int) = (v : Int)) :
    Calls Try.prog 15 #[.int .i64 c, .string s] w fun e w' => e = .returned (.tuple #[.int .i64 (v : Nat), .int .i64 0]) ∧ w' = w := by
  have HZ : Hid (cM y (BL s) = z) := hz
  clear hz
  have h0 : ¬ ((c : Int) < 0) := by omega
  have h1 : ¬ (4294967295 < (c : Int)) := by omega
  go_enter Try.func15, Try.ntmps15
  go_wp2_with fail
  refine (refMore y s _ hy hs).mono ?_
  rintro e w1 ⟨rfl, rfl⟩
  rw [HZ.out]
  go_wp2
  go_ret2
  exact ⟨rfl, rfl⟩
theorem refCrcMore_ok (c : Nat) (s : ByteArray) (w : World) (hc : c < 4294967296) (hs : s.size ≤ 140737488351232) :
    Calls Try.prog 15 #[.int .i64 c, .string s] w fun e w' => e = .returned (.tuple #[.int .i64 (crcFrom c (BL s) : Nat), .int .i64 0]) ∧ w' = w := by
  have hcx : 4294967295 ^^^ c < 4294967296 := xor32_lt (by decide) hc
  have hl := cM_lt (BL s) (4294967295 ^^^ c) hcx (BL_lt s)
  exact refCrcMore_aux c _ _ _ s w hc hs hcx rfl (i64_xor_nat 4294967295 c (by decide) (Nat.lt_trans hc (by decide))) (i64_xor_nat 4294967295 _ (by decide) (Nat.lt_trans hl (by decide)))
end Go.Proofs.Ytofjkopfldgkcaa
