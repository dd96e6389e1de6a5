/- The document's Same, of two slices that hold the same records. -/
import Derived.Test.YtalpbnkmppdgdaaV09
namespace Go.Proofs.Ytalpbnkmppdgdaa
open Go.RowKit
set_option linter.unusedVariables false

set_option maxHeartbeats 1000000 in
theorem same_ok (a b : Option Addr) (ca cb : Nat) (L : List Rec) (w : World) (ha : RIn w a L) (hb : RIn w b L) (hlen : L.length ≤ 9223372036854775807) :
    Calls Try.prog 32 #[.slice a L.length ca, .slice b L.length cb] w fun e w' => e = .returned (.bool true) ∧ Below w.heap.size w w' := by
  have HA : Hid (RIn w a L) := ha
  have HB : Hid (RIn w b L) := hb
  obtain ⟨len, hl⟩ : ∃ len, L.length = len := ⟨_, rfl⟩
  rw [hl] at hlen ⊢
  have HL : Hid (L.length = len) := hl
  have hneq := run_neqR
  have hgd : Try.prog.eqGuardType Try.prog.depth 56 = false := by kernel_rfl
  clear ha hb hl
  go_enter Try.func32, Try.ntmps32
  go_wp2
  go_loopw [5] (fun i wr => ∃ (j : Nat), i = .int .i64 (j : Nat) ∧ j ≤ len ∧ Below w.heap.size w wr) (fun i _ => len - (intOf i).toNat)
  case atStart => exact ⟨0, rfl, Nat.zero_le _, Below.refl _ _⟩
  case round =>
    obtain ⟨j, rfl, hj, hbel⟩ := hrel
    have HBE : Hid (Below w.heap.size w wr) := hbel
    by_cases hlt : j < len
    · have hlti : (j : Int) < (len : Int) := by omega
      obtain ⟨r, hr⟩ : ∃ r, L[j]? = some r := ⟨L[j]'(by rw [HL.out]; exact hlt), List.getElem?_eq_getElem _⟩
      obtain ⟨ab, ao, rfl, _, c0, c1, c2, c3⟩ := (HA.out.below hbel (Nat.le_refl _)) _ _ hr
      obtain ⟨bb, bo, rfl, _, d0, d1, d2, d3⟩ := (HB.out.below hbel (Nat.le_refl _)) _ _ hr
      obtain ⟨off, key, val, gone⟩ := r
      simp only at c0 c1 c2 c3 d0 d1 d2 d3
      have he := eqR_self off key val gone
      clear hr hbel
      go_wp2_with fail
      go_region
      go_wp2
      go_roundw
      case rel => exact ⟨j + 1, by go_num, by omega, HBE.out.drew⟩
      case measure => simp [intOf]; omega
    · obtain rfl : j = len := by omega
      clear hbel
      go_wp2
      go_ret
      exact ⟨rfl, HBE.out⟩
end Go.Proofs.Ytalpbnkmppdgdaa
