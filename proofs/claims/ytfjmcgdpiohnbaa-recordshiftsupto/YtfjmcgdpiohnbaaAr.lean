/- The walk of RecordBack. -/
import Derived.Test.YtfjmcgdpiohnbaaAp
import Derived.Test.YtfjmcgdpiohnbaaAq
namespace Go.Proofs.Ytfjmcgdpiohnbaa
open Go.RowKit
set_option linter.unusedVariables false

theorem Own.slice {w : World} {B : Nat} {v : Value} {L : List Rec} (h : Own w B v L) : ∃ a c, v = .slice a L.length c ∧ RIn w a L := by
  cases L with
  | nil =>
    rcases h.2 with ⟨rfl, _⟩ | ⟨g, cap, cur, rfl, _, _⟩
    · exact ⟨none, 0, rfl, RIn.nil _ _⟩
    · exact ⟨_, cap, rfl, RIn.nil _ _⟩
  | cons r L =>
    obtain ⟨g, cap, rfl, _, _, hin⟩ := h.row
    exact ⟨_, cap, rfl, hin⟩
theorem append_x (S : List UInt8) : mk S ++ ⟨#[120]⟩ = mk (S ++ [120]) := by
  apply ByteArray.ext
  rw [ByteArray.data_append]
  simp [mk]
/-- What Of answers where there are records. -/
theorem of_some (S : List UInt8) (base n : Int) (L : List Rec) (w : World) (hn : n ≤ 9223372036854775807) (hS : S.length ≤ 140737488355328) (h : ofO S base n = some L) :
    Calls Try.prog 14 #[.string (mk S), .int .i64 base, .int .i64 n] w fun e w' => ∃ a c, e = .returned (.tuple #[.slice a L.length c, .int .i64 0]) ∧ RIn w' a L ∧ Below w.heap.size w w' := by
  refine (of_ok S base n w hn hS).mono ?_
  rw [h]
  rintro e w' (⟨M, v, h1, rfl, h3, h4⟩ | ⟨h1, _⟩)
  · cases h1
    obtain ⟨a, c, rfl, hin⟩ := h3.slice
    exact ⟨a, c, rfl, hin, h4⟩
  · cases h1
theorem of_none (S : List UInt8) (base n : Int) (w : World) (hn : n ≤ 9223372036854775807) (hS : S.length ≤ 140737488355328) (h : ofO S base n = none) :
    Calls Try.prog 14 #[.string (mk S), .int .i64 base, .int .i64 n] w fun e w' => e = .returned (.tuple #[.slice none 0 0, .int .i64 90]) ∧ Below w.heap.size w w' := by
  refine (of_ok S base n w hn hS).mono ?_
  rw [h]
  rintro e w' (⟨M, v, h1, _⟩ | ⟨_, rfl, h4⟩)
  · cases h1
  · exact ⟨rfl, h4⟩
set_option maxHeartbeats 1000000 in
theorem back_walk (a : Option Addr) (cap : Nat) (L : List Rec) (base : Int) (w : World) (hin : RIn w a L) (hsz : Sized L) (hlen : L.length ≤ 1048576) :
    Calls Try.prog 5 #[.slice a L.length cap, .int .i64 base] w fun e w' => e = .returned (.bool true) ∧ Below w.heap.size w w' := by
  have HB : Hid (∀ W, RIn W a L → Calls Try.prog 9 #[.slice a L.length cap, .int .i64 base] W fun e w' => e = .returned (bytesV L base) ∧ Below W.heap.size W w') := fun W h => bytes_ok a cap L base W h hsz (by omega)
  have HR : Hid (∀ W, RIn W a L → Calls Try.prog 17 #[.slice a L.length cap, .int .i64 base] W fun e w' => e = .returned (.bool (offB base && comes L base)) ∧ Below W.heap.size W w') := fun W h => rise_ok a cap L base W h hsz (by omega)
  have HIN : Hid (RIn w a L) := hin
  have HSM : Hid (∀ W a' c', RIn W a' L → RIn W a L → Calls Try.prog 16 #[.slice a' L.length c', .slice a L.length cap] W fun e w' => e = .returned (.bool true) ∧ Below W.heap.size W w') := fun W a' c' h1 h2 => same_ok a' a c' cap L W h1 h2 (by omega)
  by_cases hg : (offB base && comes L base) = true
  · rw [bytesV_good hg] at HB
    rw [Bool.and_eq_true] at hg
    obtain ⟨hg1, hg2⟩ := hg
    have hb0 : 0 ≤ base := by unfold offB at hg1; simp at hg1; exact hg1.1
    have hlr := recsL_len base L (comes_mem L base hg2)
    have o1 : ofO (recsL base L) base (L.length : Nat) = some L := by
      unfold ofO; rw [if_pos ⟨hg1, by omega⟩]; exact ofL_recsL base L hg2 hb0
    have o2 : ofO (recsL base L ++ [120]) base (L.length : Nat) = none := by
      unfold ofO; rw [if_pos ⟨hg1, by omega⟩]; exact ofL_behind base L 120 [] hg2 hb0
    have o3 : ofO (recsL base L) base ((L.length : Nat) + 1) = none := by
      unfold ofO; rw [if_pos ⟨hg1, by omega⟩]
      exact ofL_one_more base L hg2 hb0
    have HO1 : Hid (∀ W, Calls Try.prog 14 #[.string (mk (recsL base L)), .int .i64 base, .int .i64 (L.length : Nat)] W fun e w' => ∃ a c, e = .returned (.tuple #[.slice a L.length c, .int .i64 0]) ∧ RIn w' a L ∧ Below W.heap.size W w') := fun W => of_some _ _ _ L W (by omega) (by omega) o1
    have HO2 : Hid (∀ W, Calls Try.prog 14 #[.string (mk (recsL base L) ++ ⟨#[120]⟩), .int .i64 base, .int .i64 (L.length : Nat)] W fun e w' => e = .returned (.tuple #[.slice none 0 0, .int .i64 90]) ∧ Below W.heap.size W w') := fun W => by
      rw [append_x]
      exact of_none _ _ _ W (by omega) (by rw [List.length_append]; simp; omega) o2
    have HO3 : Hid (∀ W, Calls Try.prog 14 #[.string (mk (recsL base L)), .int .i64 base, .int .i64 ((L.length : Nat) + 1)] W fun e w' => e = .returned (.tuple #[.slice none 0 0, .int .i64 90]) ∧ Below W.heap.size W w') := fun W => of_none _ _ _ W (by omega) (by omega) o3
    have hms := mk_size (recsL base L)
    have hmz : (mk (recsL base L)).size ≤ 140737488355328 := by omega
    generalize mk (recsL base L) = z at HB HO1 HO2 HO3 hmz
    obtain ⟨len, hl⟩ : ∃ len, L.length = len := ⟨_, rfl⟩
    rw [hl] at HB HO1 HO2 HO3 HSM hlen ⊢
    clear hl hin HR o1 o2 o3 hlr hms
    go_enter Try.func5, Try.ntmps5
    go_wp2_with fail
    refine (HB.out _ HIN.out).mono ?_
    rintro e w1 ⟨rfl, hb1⟩
    have HB1 : Hid (Below w.heap.size w w1) := hb1
    clear hb1
    go_wp2_with fail
    refine (HO1.out _).mono ?_
    rintro e w2 ⟨a', c', rfl, hi2, hb2⟩
    have HB2 : Hid (Below w.heap.size w w2) := HB1.out.trans (hb2.mono HB1.out.size)
    have HI2 : Hid (RIn w2 a' L) := hi2
    clear hb2 hi2
    go_wp2_with fail
    refine (HO2.out _).mono ?_
    rintro e w3 ⟨rfl, hb3⟩
    have HB3 : Hid (Below w.heap.size w w3) := HB2.out.trans (hb3.mono HB2.out.size)
    have HI3 : Hid (RIn w3 a' L) := HI2.out.below hb3 (Nat.le_refl _)
    clear hb3 HI2
    go_wp2_with fail
    refine (HO3.out _).mono ?_
    rintro e w4 ⟨rfl, hb4⟩
    have HB4 : Hid (Below w.heap.size w w4) := HB3.out.trans (hb4.mono HB3.out.size)
    have HI4 : Hid (RIn w4 a' L) := HI3.out.below hb4 (Nat.le_refl _)
    have HJ4 : Hid (RIn w4 a L) := HIN.out.below HB4.out (Nat.le_refl _)
    clear hb4 HI3
    go_wp2_with fail
    refine (HSM.out _ _ _ HI4.out HJ4.out).mono ?_
    rintro e w5 ⟨rfl, hb5⟩
    have HB5 : Hid (Below w.heap.size w w5) := HB4.out.trans (hb5.mono HB4.out.size)
    clear hb5
    go_wp2_with fail
    refine (awake_ok _).mono ?_
    rintro e w6 ⟨rfl, hb6⟩
    have HB6 : Hid (Below w.heap.size w w6) := HB5.out.trans (hb6.mono HB5.out.size)
    clear hb6
    go_wp2
    go_ret
    exact ⟨rfl, HB6.out⟩
  · have hg' : (offB base && comes L base) = false := by simpa using hg
    rw [bytesV_bad hg'] at HB
    rw [hg'] at HR
    clear hg hg' hin HSM
    obtain ⟨len, hl⟩ : ∃ len, L.length = len := ⟨_, rfl⟩
    rw [hl] at HB HR hlen ⊢
    clear hl
    go_enter Try.func5, Try.ntmps5
    go_wp2_with fail
    refine (HB.out _ HIN.out).mono ?_
    rintro e w1 ⟨rfl, hb1⟩
    have HB1 : Hid (Below w.heap.size w w1) := hb1
    have HI1 : Hid (RIn w1 a L) := HIN.out.below hb1 (Nat.le_refl _)
    clear hb1
    go_wp2_with fail
    refine (HR.out _ HI1.out).mono ?_
    rintro e w2 ⟨rfl, hb2⟩
    have HB2 : Hid (Below w.heap.size w w2) := HB1.out.trans (hb2.mono HB1.out.size)
    clear hb2
    go_wp2_with fail
    refine (awake_ok _).mono ?_
    rintro e w3 ⟨rfl, hb3⟩
    have HB3 : Hid (Below w.heap.size w w3) := HB2.out.trans (hb3.mono HB2.out.size)
    clear hb3
    go_wp2
    go_ret
    exact ⟨rfl, HB3.out⟩
end Go.Proofs.Ytfjmcgdpiohnbaa
