/- mix: a whole stripe goes into the lanes. -/
import Derived.Test.YtofjkopfldgkcabSe
namespace Go.Proofs.Ytofjkopfldgkcab
open Go.RowKit
set_option linter.unusedVariables false

theorem addr_add (b o i : Nat) : (⟨b, o, none⟩ : Addr).add i = ⟨b, o + i, none⟩ := by unfold Addr.add; split <;> simp_all
theorem slice_low (b o q : Nat) (hq : q < 16) (w : World) : (Instr.sliceAt 38 (.pointer (some ⟨b, o, none⟩)) (some (.int .i64 (q : Nat))) none none).run Try.prog w = .ok (.slice (some ⟨b, o + q, none⟩) (16 - q) (16 - q)) w := by
  have h2 : ¬ 16 = q := by omega
  simp [Instr.sliceAt, run_underlying Try.underlying38, Instr.sureAddr, Instr.sliceBounds, Instr.sliceBound, asIntOf, h2, addr_add]
  intro h; omega
theorem slice_hm (b o q : Nat) (hq : q ≤ 16) (w : World) : (Instr.sliceAt 38 (.pointer (some ⟨b, o, none⟩)) none (some (.int .i64 (q : Nat))) (some (.int .i64 (q : Nat)))).run Try.prog w = .ok (.slice (some ⟨b, o, none⟩) q q) w := by
  simp [Instr.sliceAt, run_underlying Try.underlying38, Instr.sureAddr, Instr.sliceBounds, Instr.sliceBound, asIntOf, addr_add]
  intro h; omega
/-- The lanes when j of them took their words. -/
def mixed (v L : Nat → Nat) (j : Nat) : Nat → Nat := fun i => if i < j then hstep 2246822519 13 2654435761 (v i) (wdN (fun k => L (4 * i + k)) 4) else v i
theorem mixed_zero (v L : Nat → Nat) : mixed v L 0 = v := by funext i; simp [mixed]
theorem mixed_succ (v L : Nat → Nat) (j x : Nat) (hx : hstep 2246822519 13 2654435761 (v j) (wdN (fun k => L (4 * j + k)) 4) = x) : (fun k => if k = j then x else mixed v L j k) = mixed v L (j + 1) := by
  funext i
  unfold mixed
  by_cases h : i = j
  · subst h
    rw [if_pos rfl, if_pos (by omega), hx]
  · rw [if_neg h]
    by_cases h2 : i < j
    · rw [if_pos h2, if_pos (by omega)]
    · rw [if_neg h2, if_neg (by omega)]
set_option maxRecDepth 20000 in
set_option maxHeartbeats 1000000 in
theorem mix (b : Nat) (p : Value) (seed : Nat) (v : Nat → Nat) (n : Nat) (L : Nat → Nat) (w : World) (h : HB w b p seed v n L) (hv : ∀ i, v i < 4294967296) (hL : ∀ i, L i < 256) :
    Calls Try.prog 13 #[.pointer (some ⟨b, 0, none⟩)] w fun e w' => e = .returned (.tuple #[]) ∧ HB w' b p seed (mixed v L 4) n L ∧ Only b w w' := by
  have HH : Hid (HB w b p seed (mixed v L 0) n L ∧ (∀ i, v i < 4294967296) ∧ (∀ i, L i < 256)) := ⟨by rw [mixed_zero]; exact h, hv, hL⟩
  clear h hv hL
  go_enter Try.func13, Try.ntmps13
  go_wp2
  go_loopw [4] (fun i wr => ∃ j : Nat, j ≤ 4 ∧ i = .int .i64 j ∧ HB wr b p seed (mixed v L j) n L ∧ Only b w wr) (fun i _ => 4 - (intOf i).toNat)
  case atStart => exact ⟨0, Nat.zero_le _, rfl, HH.out.1, Only.refl _ _⟩
  case round =>
    obtain ⟨j, hj, rfl, hb, ho⟩ := hrel
    by_cases hlt : j < 4
    · have hl : wr.cell? ⟨b, 2 + j, none⟩ = some (.int .u32 (v j : Nat)) := by
        rw [hb.lane j hlt]
        simp [mixed]
      have hf := hb.free (2 + j)
      have hvj := HH.out.2.1 j
      obtain ⟨q, hq⟩ : ∃ q, q = 4 * j := ⟨_, rfl⟩
      have hq1 : q ≤ 12 := by omega
      have hw4 : IntKind.i64.wrap ((j : Int) * 4) = (q : Int) := by rw [IntKind.wrap_i64]; omega
      have hword := fun m => word b (7 + q) (16 - q) (16 - q) (fun k => L (4 * j + k)) (wr.drewN m) (by omega) (fun k => HH.out.2.2 _) (fun k hk => by
        rw [hq, Nat.add_assoc]; exact (hb.drewN m).left (4 * j + k) (by omega))
      clear hq
      have hwl := wdN_lt (fun k => L (4 * j + k)) (fun k => HH.out.2.2 _) 4
      have HR : Hid (hstep 2246822519 13 2654435761 (v j) (wdN (fun k => L (4 * j + k)) 4) = hmul (rot 13 ((v j + hmul (wdN (fun k => L (4 * j + k)) 4) 2246822519) % 4294967296)) 2654435761) := by
        show _ = _
        rfl
      obtain ⟨x, hx⟩ : ∃ x, wdN (fun k => L (4 * j + k)) 4 = x := ⟨_, rfl⟩
      have HXX : Hid (wdN (fun k => L (4 * j + k)) 4 = x) := hx
      rw [hx] at hwl
      simp only [hx] at hword
      clear hx
      have HW : Hid _ := hword
      have hsl := slice_low b 7 q (by omega)
      have HX : Hid (HB wr b p seed (mixed v L j) n L ∧ Only b w wr) := ⟨hb, ho⟩
      clear hb ho hword
      obtain ⟨y, hye⟩ : ∃ y, (v j + hmul x 2246822519) % 4294967296 = y := ⟨_, rfl⟩
      have hyl : y < 4294967296 := by rw [← hye]; exact Nat.mod_lt _ (by omega)
      have hy : ((v j : Int) + (x : Int) * 2246822519 % 4294967296) % 4294967296 = (y : Int) := by
        have := hmul_bits x 2246822519
        simp only [Int.cast_ofNat_Int] at this
        rw [this]
        omega
      obtain ⟨r, hr⟩ : ∃ r, rot 13 y = r := ⟨_, rfl⟩
      obtain ⟨z, hz⟩ : ∃ z, hmul r 2654435761 = z := ⟨_, rfl⟩
      have hzz : (r : Int) * 2654435761 % 4294967296 = (z : Int) := by
        rw [← hz]
        have := hmul_bits r 2654435761
        simpa only [Int.cast_ofNat_Int] using this
      have HZ : Hid (hstep 2246822519 13 2654435761 (v j) (wdN (fun k => L (4 * j + k)) 4) = z) := by
        show _ = _
        rw [HR.out, HXX.out, hye, hr, hz]
      have hrot := fun w : World => rotate y 13 w hyl (by omega) (by omega)
      simp only [hr] at hrot
      have HRT : Hid _ := hrot
      clear hye hr hz hrot HR HXX
      go_wp2
      go_quiet (first | (go_at_call 16; refine Calls.quiet_of_same (HW.out _)))
      go_wp2
      rw [hy]
      clear hsl HW hy hw4
      go_region_with (go_at_call 15; refine (HRT.out _).mono ?_; rintro e w1 ⟨rfl, rfl⟩)
      have hwz : IntKind.u32.wrap ((r : Int) * 2654435761) = (z : Int) := by rw [IntKind.wrap_u32']; exact hzz
      rw [hwz]
      have HN : Hid (HB ((wr.drewN (nq + 1)).setCell ⟨b, 2 + j, none⟩ (.int .u32 (z : Nat))) b p seed (mixed v L (j + 1)) n L ∧ Only b w ((wr.drewN (nq + 1)).setCell ⟨b, 2 + j, none⟩ (.int .u32 (z : Nat)))) := by
        constructor
        · have := (HX.out.1.drewN (nq + 1)).setLane j z hlt
          rw [mixed_succ v L j z HZ.out] at this
          exact this
        · exact (HX.out.2.drewN (nq + 1)).trans (Only.setCell _ _ _ _)
      clear HX HZ
      generalize (wr.drewN (nq + 1)).setCell ⟨b, 2 + j, none⟩ (.int .u32 (z : Nat)) = w2 at HN ⊢
      go_wp2
      go_roundw
      case rel => exact ⟨j + 1, by omega, by go_num, HN.out.1, HN.out.2⟩
      case measure => simp [intOf]; omega
    · obtain rfl : j = 4 := by omega
      have HX : Hid (HB wr b p seed (mixed v L 4) n L ∧ Only b w wr) := ⟨hb, ho⟩
      clear hb ho
      go_wp2
      go_end0
      exact ⟨rfl, HX.out⟩
end Go.Proofs.Ytofjkopfldgkcab
