/- SumsLinear: the law's walk where the second text is the shorter one. -/
import Derived.Test.YtofjkopfldgkcabLa1
namespace Go.Proofs.Ytofjkopfldgkcab
open Go.RowKit
set_option linter.unusedVariables false

set_option maxRecDepth 20000 in
set_option maxHeartbeats 40000000 in
theorem sumsLinear_lt (s t : ByteArray) (n : Nat) (w : World) (hs : s.size ≤ 140737488351232) (ht : t.size ≤ 140737488351232) (hlt0 : n < s.size) (hsz : t.size = n) (hn : n ≤ 8192) :
    Calls Try.prog 3 #[.string s, .string t] w fun e w' => e = .returned (.bool true) ∧ Below w.heap.size w w' := by
  have hns : n ≤ s.size := by omega
  have hnt : n ≤ t.size := by omega
  have hB1 := BL_length s
  have hB2 := BL_length t
  have hlx := xup_lt (BL s) (BL t) n n (BL_lt s) (BL_lt t)
  obtain ⟨lx, hlxe⟩ : ∃ lx, xup (BL s) (BL t) n n = lx := ⟨_, rfl⟩
  rw [hlxe] at hlx
  have hlxl : lx.length = n := by rw [← hlxe, xup_length]
  have hxs := toBA_size lx
  have hzs := toBA_size (List.replicate n 0)
  have hlin := crcOf_linear ((BL s).take n) ((BL t).take n) (by simp; omega)
  rw [← xup_full _ _ _ (by omega) (by omega), hlxe, show ((BL s).take n).length = n by simp; omega] at hlin
  have hCX := fun w1 : World => crc (toBA lx) w1 (by omega)
  have hCS := fun w1 : World => crc (s.extract 0 n) w1 (by simp; omega)
  have hCT := fun w1 : World => crc (t.extract 0 n) w1 (by simp; omega)
  have hCZ := fun w1 : World => crc (toBA (List.replicate n 0)) w1 (by rw [hzs]; simp; omega)
  simp only [BL_toBA lx hlx] at hCX
  simp only [BL_front] at hCS hCT
  simp only [BL_toBA (List.replicate n 0) (fun x hx => by rw [List.eq_of_mem_replicate hx]; omega)] at hCZ
  have l1 := crcOf_lt ((BL s).take n) (fun x hx => BL_lt s x (List.mem_of_mem_take hx))
  have l2 := crcOf_lt ((BL t).take n) (fun x hx => BL_lt t x (List.mem_of_mem_take hx))
  have l3 := crcOf_lt (List.replicate n 0) (fun x hx => by rw [List.eq_of_mem_replicate hx]; omega)
  obtain ⟨cx, hcx⟩ : ∃ c, crcOf lx = c := ⟨_, rfl⟩
  obtain ⟨cs, hcs⟩ : ∃ c, crcOf ((BL s).take n) = c := ⟨_, rfl⟩
  obtain ⟨ct, hct⟩ : ∃ c, crcOf ((BL t).take n) = c := ⟨_, rfl⟩
  obtain ⟨cz0, hcz⟩ : ∃ c, crcOf (List.replicate n 0) = c := ⟨_, rfl⟩
  simp only [hcx] at hCX
  simp only [hcs] at hCS
  simp only [hct] at hCT
  simp only [hcz] at hCZ
  rw [hcx, hcs, hct, hcz] at hlin
  rw [hcs] at l1
  rw [hct] at l2
  rw [hcz] at l3
  obtain ⟨q, hq⟩ : ∃ q, cs ^^^ ct = q := ⟨_, rfl⟩
  have lq : q < 4294967296 := by rw [← hq]; exact xor32_lt l1 l2
  have x1 := i64_xor_nat cs ct (Nat.lt_trans l1 (by decide)) (Nat.lt_trans l2 (by decide))
  have x2 := i64_xor_nat q cz0 (Nat.lt_trans lq (by decide)) (Nat.lt_trans l3 (by decide))
  rw [hq] at x1 hlin
  rw [← hlin] at x2
  have HCX : Hid _ := hCX
  have HCS : Hid _ := hCS
  have HCT : Hid _ := hCT
  have HCZ : Hid _ := hCZ
  have HLX : Hid (xup (BL s) (BL t) n n = lx ∧ lx.length = n ∧ (∀ x ∈ lx, x < 256)) := ⟨hlxe, hlxl, hlx⟩
  obtain ⟨w1, hmk, htb, hbel, hlt0⟩ := make_row n w hn
  have H1 : Hid (TB w1 w.heap.size (xup (BL s) (BL t) n 0) ∧ Below w.heap.size w w1 ∧ w.heap.size < w1.heap.size) := ⟨by rw [xup_zero]; exact htb, hbel, hlt0⟩
  have HB12 : Hid ((BL s).length = s.size ∧ (BL t).length = t.size) := ⟨hB1, hB2⟩
  clear htb hbel hlt0 hCX hCS hCT hCZ hcx hcs hct hcz hlin hq l1 l2 l3 lq hlx hlxe hlxl hxs hzs hB1 hB2
  have hn8 : ¬ ((8192 : Int) < (n : Int)) := by omega
  go_enter Try.func3, Try.ntmps3
  go_wp2
  clear hmk
  go_loopw [7] (fun i wr => ∃ j : Nat, j ≤ n ∧ i = .int .i64 j ∧ TB wr w.heap.size (xup (BL s) (BL t) n j) ∧ Below w.heap.size w wr ∧ w.heap.size < wr.heap.size) (fun i _ => n - (intOf i).toNat)
  case atStart => exact ⟨0, Nat.zero_le _, rfl, H1.out.1, H1.out.2.1, H1.out.2.2⟩
  case round =>
    obtain ⟨j, hj, rfl, htb, hbel, hgl⟩ := hrel
    by_cases hlt : j < n
    · have hjs : j < s.size := by omega
      have hjt : j < t.size := by omega
      have hcf := htb j (by rw [xup_length]; exact hlt)
      rw [xup_getD _ _ _ _ _ hlt, if_neg (by omega)] at hcf
      obtain ⟨hcell, hfree⟩ := hcf
      obtain ⟨x, hx⟩ : ∃ x, s[j].toNat = x := ⟨_, rfl⟩
      obtain ⟨y, hy⟩ : ∃ y, t[j].toNat = y := ⟨_, rfl⟩
      have hxl : x < 256 := by rw [← hx]; exact UInt8.toNat_lt _
      have hyl : y < 256 := by rw [← hy]; exact UInt8.toNat_lt _
      obtain ⟨z, hz⟩ : ∃ z, x ^^^ y = z := ⟨_, rfl⟩
      have hxy := u8_xor_nat x y hxl hyl
      rw [hz] at hxy
      have hjn : (j : Int) < (n : Int) := by omega
      have HN : Hid (TB (wr.setCell ⟨w.heap.size, j, none⟩ (.int .u8 (z : Nat))).drew w.heap.size (xup (BL s) (BL t) n (j + 1)) ∧ Below w.heap.size w (wr.setCell ⟨w.heap.size, j, none⟩ (.int .u8 (z : Nat))).drew ∧ w.heap.size < (wr.setCell ⟨w.heap.size, j, none⟩ (.int .u8 (z : Nat))).drew.heap.size) := by
        refine ⟨?_, (hbel.setCell (Nat.le_refl _) (p := ⟨w.heap.size, j, none⟩) _).drew, by simpa [World.setCell] using hgl⟩
        have := htb.set j z (by rw [xup_length]; exact hlt)
        rw [xup_set _ _ _ _ _ hlt (by rw [← BL_getD s j hjs, ← BL_getD t j hjt, hx, hy, hz])] at this
        exact this
      clear htb hbel hgl hz
      go_wp2
      go_region
      generalize (wr.setCell ⟨w.heap.size, j, none⟩ (.int .u8 (z : Nat))).drew = W2 at HN ⊢
      clear hcell hfree hxy hjn
      go_wp2
      exact ⟨⟨j + 1, by omega, by go_num, HN.out.1, HN.out.2.1, HN.out.2.2⟩, by simp [intOf]; omega⟩
    · obtain rfl : n = j := by omega
      have rx : RowIn wr.drew w.heap.size lx := ⟨by rw [← HLX.out.1]; exact htb, hgl⟩
      have cx0 := conv_x rx HLX.out.2.1 HLX.out.2.2
      have HB0 : Below w.heap.size w wr.drew := hbel.drew
      obtain ⟨M0, mk0, tb0, bl0, lt0⟩ := make_row n wr.drew hn
      have HBM0 := below_on HB0 bl0
      have mk0 : (Instr.makeSlice 23 (.int .i64 (n : Int)) (.int .i64 (n : Int))).run Try.prog wr.drew = .ok (.slice (some ⟨wr.heap.size, 0, none⟩) n n) M0 := mk0
      have rz0 : RowIn M0 wr.heap.size (List.replicate n 0) := ⟨tb0, lt0⟩
      have cz00 := conv_zero rz0.1 rz0.2
      have cxM := conv_x (rx.on bl0) HLX.out.2.1 HLX.out.2.2
      have hnsi : (n : Int) ≤ (s.size : Int) := by omega
      clear htb hbel hgl tb0 lt0 bl0 rx
      go_wp2
      go_region_with (first
          | (go_at_call_of 6 (Value.string (toBA lx)); refine (HCX.out _).mono ?_; rintro e V ⟨rfl, hb⟩; have HB := below_on (by assumption) hb; obtain ⟨M, mk, tb, bl, lt⟩ := make_row n V hn; have HBM := below_on HB bl; have rz : RowIn M V.heap.size (List.replicate n 0) := ⟨tb, lt⟩; have cz := conv_zero tb lt; (try (have rzz := RowIn.on (l := List.replicate n 0) (by assumption) hb; have czz := conv_zero rzz.1 rzz.2)); clear hb bl tb lt)
          | (go_at_call_of 6 (Value.string (s.extract 0 n)); refine (HCS.out _).mono ?_; rintro e V ⟨rfl, hb⟩; have HB := below_on (by assumption) hb; obtain ⟨M, mk, tb, bl, lt⟩ := make_row n V hn; have HBM := below_on HB bl; have rz : RowIn M V.heap.size (List.replicate n 0) := ⟨tb, lt⟩; have cz := conv_zero tb lt; (try (have rzz := RowIn.on (l := List.replicate n 0) (by assumption) hb; have czz := conv_zero rzz.1 rzz.2)); clear hb bl tb lt)
          | (go_at_call_of 6 (Value.string (t.extract 0 n)); refine (HCT.out _).mono ?_; rintro e V ⟨rfl, hb⟩; have HB := below_on (by assumption) hb; obtain ⟨M, mk, tb, bl, lt⟩ := make_row n V hn; have HBM := below_on HB bl; have rz : RowIn M V.heap.size (List.replicate n 0) := ⟨tb, lt⟩; have cz := conv_zero tb lt; (try (have rzz := RowIn.on (l := List.replicate n 0) (by assumption) hb; have czz := conv_zero rzz.1 rzz.2)); clear hb bl tb lt)
          | (go_at_call_of 6 (Value.string (toBA (List.replicate n 0))); refine (HCZ.out _).mono ?_; rintro e V ⟨rfl, hb⟩; have HB := below_on (by assumption) hb; obtain ⟨M, mk, tb, bl, lt⟩ := make_row n V hn; have HBM := below_on HB bl; have rz : RowIn M V.heap.size (List.replicate n 0) := ⟨tb, lt⟩; have cz := conv_zero tb lt; (try (have rzz := RowIn.on (l := List.replicate n 0) (by assumption) hb; have czz := conv_zero rzz.1 rzz.2)); clear hb bl tb lt)
          | (go_at_call 5; refine (awake _).mono ?_; rintro e V ⟨rfl, hb⟩; have H6 : Hid (Below w.heap.size w V) := below_on (by assumption) hb; clear hb))
      all_goals
        go_wp2
        go_ret
        exact ⟨rfl, H6.out⟩
end Go.Proofs.Ytofjkopfldgkcab
