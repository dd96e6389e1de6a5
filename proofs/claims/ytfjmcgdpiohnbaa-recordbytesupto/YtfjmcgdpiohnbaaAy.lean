/- The walk of RecordBytes. -/
import Derived.Test.YtfjmcgdpiohnbaaAx
import Derived.Test.YtfjmcgdpiohnbaaAo
import Derived.Deep.RegionHeldLaw
namespace Go.Proofs.Ytfjmcgdpiohnbaa
open Go.RowKit
set_option linter.unusedVariables false

set_option maxHeartbeats 2000000 in
theorem bytesLaw_walk (a : Option Addr) (cap : Nat) (L : List Rec) (base : Int) (w : World) (hin : RIn w a L) (hsz : Sized L) (hlen : L.length ≤ 1048576) :
    Calls Try.prog 3 #[.slice a L.length cap, .int .i64 base] w fun e w' => e = .returned (.bool true) ∧ Below w.heap.size w w' := by
  have HB : Hid (∀ W, RIn W a L → Calls Try.prog 9 #[.slice a L.length cap, .int .i64 base] W fun e w' => e = .returned (bytesV L base) ∧ Below W.heap.size W w') := fun W h => bytes_ok a cap L base W h hsz (by omega)
  have HR : Hid (∀ W, RIn W a L → Calls Try.prog 10 #[.slice a L.length cap, .int .i64 base] W fun e w' => e = .returned (bytesV L base) ∧ Below W.heap.size W w') := fun W h => rbytes_ok a cap L base W h hsz hlen
  obtain ⟨va, ea, hva⟩ : ∃ va ea, bytesV L base = .tuple #[.string va, .int .i64 ea] := by unfold bytesV; split <;> exact ⟨_, _, rfl⟩
  rw [hva] at HB HR
  have HIN : Hid (RIn w a L) := hin
  have HSZ : Hid (Sized L) := hsz
  obtain ⟨len, hl⟩ : ∃ len, L.length = len := ⟨_, rfl⟩
  rw [hl] at HB HR hlen ⊢
  have HL : Hid (L.length = len) := hl
  clear hl hin hsz hva
  go_enter Try.func3, Try.ntmps3
  go_wp2_with fail
  refine (HB.out _ HIN.out).mono ?_
  rintro e w1 ⟨rfl, hb1⟩
  have HB1 : Hid (Below w.heap.size w w1) := hb1
  clear hb1
  go_wp2_with fail
  refine (HR.out _ (HIN.out.below HB1.out (Nat.le_refl _))).mono ?_
  rintro e w2 ⟨rfl, hb2⟩
  have HB2 : Hid (Below w.heap.size w w2) := HB1.out.trans (hb2.mono HB1.out.size)
  clear hb2
  go_wp2
  go_loopw [9] (fun i wr => ∃ (j : Nat), i = .int .i64 (j : Nat) ∧ j ≤ len ∧ Below w.heap.size w wr) (fun i _ => len - (intOf i).toNat)
  case atStart => exact ⟨0, rfl, Nat.zero_le _, HB2.out⟩
  case round =>
    obtain ⟨j, rfl, hj, hbel⟩ := hrel
    have HBE : Hid (Below w.heap.size w wr) := hbel
    have hsw := hbel.size
    by_cases hlt : j < len
    · have hlti : (j : Int) < (len : Int) := by omega
      obtain ⟨r, hr⟩ : ∃ r, L[j]? = some r := ⟨L[j]'(by rw [HL.out]; exact hlt), List.getElem?_eq_getElem _⟩
      obtain ⟨hrk, hrv⟩ := HSZ.out r (List.mem_of_getElem? hr)
      obtain ⟨sb, so, rfl, hsb, c0, c1, c2, c3⟩ := (HIN.out.below hbel (Nat.le_refl _)) _ _ hr
      obtain ⟨off, key, val, gone⟩ := r
      simp only at c0 c1 c2 c3 hrk hrv
      have HC1 : Hid (∀ W, Calls Try.prog 11 #[.agg #[.int .i64 off, .string key, .string val, .bool gone]] W fun e w' => e = .returned (.int .i64 (errN (mayB ⟨off, key, val, gone⟩))) ∧ Below W.heap.size W w') := fun W => check_ok off key val gone W hrk hrv
      have HC2 : Hid (∀ W, Calls Try.prog 12 #[.agg #[.int .i64 off, .string key, .string val, .bool gone]] W fun e w' => e = .returned (.int .i64 (errN (mayB ⟨off, key, val, gone⟩))) ∧ Below W.heap.size W w') := fun W => rcheck_ok off key val gone W hrk hrv
      generalize errN (mayB ⟨off, key, val, gone⟩) = en at HC1 HC2
      clear hr hbel hrk hrv
      go_wp2_with fail
      go_region_held_law (fun w' => w'.cell? ⟨sb, so + j * 4, none⟩ = some (.int .i64 off) ∧ w'.cell? ⟨sb, so + j * 4 + 1, none⟩ = some (.string key) ∧ w'.cell? ⟨sb, so + j * 4 + 2, none⟩ = some (.string val) ∧ w'.cell? ⟨sb, so + j * 4 + 3, none⟩ = some (.bool gone))
        (first | assumption | go_keep)
        (first
          | (go_at_call 11; refine (HC1.out _).mono ?_; rintro e w3 ⟨rfl, hb3'⟩; have hb3 : Below wr.heap.size wr w3 := ⟨hb3'.os, hb3'.tape, hb3'.output, hb3'.size, hb3'.block⟩; have KS := (⟨by rw [cell_below hb3 hsb]; exact c0, by rw [cell_below hb3 hsb]; exact c1, by rw [cell_below hb3 hsb]; exact c2, by rw [cell_below hb3 hsb]; exact c3⟩ : w3.cell? ⟨sb, so + j * 4, none⟩ = some (.int .i64 off) ∧ w3.cell? ⟨sb, so + j * 4 + 1, none⟩ = some (.string key) ∧ w3.cell? ⟨sb, so + j * 4 + 2, none⟩ = some (.string val) ∧ w3.cell? ⟨sb, so + j * 4 + 3, none⟩ = some (.bool gone)); have HB3 : Hid (Below wr.heap.size wr w3) := hb3; clear hb3 hb3')
          | (go_at_call 12; refine (HC2.out _).mono ?_; rintro e w4 ⟨rfl, hb4'⟩; have hb4 : Below wr.heap.size wr w4 := HB3.out.trans (hb4'.mono HB3.out.size); have KS4 := (⟨by rw [cell_below hb4 hsb]; exact c0, by rw [cell_below hb4 hsb]; exact c1, by rw [cell_below hb4 hsb]; exact c2, by rw [cell_below hb4 hsb]; exact c3⟩ : w4.cell? ⟨sb, so + j * 4, none⟩ = some (.int .i64 off) ∧ w4.cell? ⟨sb, so + j * 4 + 1, none⟩ = some (.string key) ∧ w4.cell? ⟨sb, so + j * 4 + 2, none⟩ = some (.string val) ∧ w4.cell? ⟨sb, so + j * 4 + 3, none⟩ = some (.bool gone)); have HB4 : Hid (Below w.heap.size w w4) := HBE.out.trans (hb4.mono hsw); clear hb4 hb4'))
      go_wp2
      go_roundw
      case rel => exact ⟨j + 1, by go_num, by omega, HB4.out⟩
      case measure => simp [intOf]; omega
    · obtain rfl : j = len := by omega
      clear hbel
      go_wp2_with fail
      refine (awake_ok _).mono ?_
      rintro e w6 ⟨rfl, hb6⟩
      have HB6 : Hid (Below w.heap.size w w6) := HBE.out.trans (hb6.mono HBE.out.size)
      clear hb6
      go_wp2
      go_ret
      exact ⟨rfl, HB6.out⟩
end Go.Proofs.Ytfjmcgdpiohnbaa
