/- Layer 18: a row that rises is sorted: nothing is turned. -/
import Derived.Test.YtebfpffilepfaaaKc
namespace Go.Proofs.Ytebfpffilepfaaa
open Go.RowKit Go.Maps Go.Shelf
set_option linter.unusedVariables false
set_option maxRecDepth 20000

set_option maxHeartbeats 4000000 in
theorem stable_ok (a : Option Addr) (cap : Nat) (L : List Due) (w : World) (hin : DIn w a L) (hup : DUp L) (hlen : L.length ≤ 1000000000000000) :
    Calls Try.prog 26 #[.slice a L.length cap, .int .i64 (L.length : Nat), cmpF] w fun e w' => e = .returned (.tuple #[]) ∧ Below w.heap.size w w' := by
  have HI : Hid (∀ (lo hi : Nat) (W : World), Below w.heap.size w W → lo ≤ L.length → hi ≤ L.length → Calls Try.prog 31 #[.slice a L.length cap, .int .i64 (lo : Nat), .int .i64 (hi : Nat), cmpF] W fun e w' => e = .returned (.tuple #[]) ∧ Below W.heap.size W w') := fun lo hi W hW h1 h2 => ins_ok a cap L lo hi W (hin.bel hW) hup h2 (by omega) h1
  have HM : Hid (∀ (lo m hi : Nat) (W : World), Below w.heap.size w W → lo < m → m < hi → hi ≤ L.length → Calls Try.prog 32 #[.slice a L.length cap, .int .i64 (lo : Nat), .int .i64 (m : Nat), .int .i64 (hi : Nat), cmpF] W fun e w' => e = .returned (.tuple #[]) ∧ Below W.heap.size W w') := fun lo m hi W hW h1 h2 h3 => merge_ok a cap L w hin hup (by omega) (L.length + 1) lo m hi W hW h1 h2 h3 (by omega)
  -- a merge whose second part is empty turns nothing either
  obtain ⟨len, hl⟩ : ∃ len, L.length = len := ⟨_, rfl⟩
  rw [hl] at HI HM hlen ⊢
  clear hin hup hl
  go_enter Try.func26, Try.ntmps26
  go_wp2_with fail
  go_loopw [7, 8] (fun x y wr => ∃ A : Nat, x = .int .i64 (A : Nat) ∧ y = .int .i64 ((A + 20 : Nat) : Int) ∧ A ≤ len ∧ Below w.heap.size w wr) (fun x _ _ => len + 1 - (intOf x).toNat)
  case atStart => exact ⟨0, rfl, rfl, by omega, Below.refl _ _⟩
  case round =>
    obtain ⟨A, rfl, rfl, hA, hB⟩ := hrel
    have HB : Hid (Below w.heap.size w wr) := hB
    have hwr : w.heap.size ≤ wr.heap.size := hB.size
    clear hB
    obtain ⟨Y, hY⟩ : ∃ Y, A + 20 = Y := ⟨_, rfl⟩
    rw [hY]
    by_cases hlt : Y ≤ len
    · have hlti : (Y : Int) ≤ (len : Int) := by omega
      have HC : Hid (Calls Try.prog 31 #[.slice a len cap, .int .i64 (A : Nat), .int .i64 (Y : Nat), cmpF] wr fun e w' => e = .returned (.tuple #[]) ∧ Below wr.heap.size wr w') := HI.out A Y wr HB.out hA hlt
      go_wp2_with fail
      refine HC.out.mono ?_
      rintro e w1 ⟨rfl, hb1⟩
      have HB1 : Hid (Below w.heap.size w w1) := HB.out.trans (hb1.mono hwr)
      clear hb1
      go_wp2_with fail
      exact ⟨⟨Y, rfl, by go_num, by omega, HB1.out⟩, by simp [intOf]; omega⟩
    · have hlti : ¬ (Y : Int) ≤ (len : Int) := by omega
      have HC : Hid (Calls Try.prog 31 #[.slice a len cap, .int .i64 (A : Nat), .int .i64 (len : Nat), cmpF] wr fun e w' => e = .returned (.tuple #[]) ∧ Below wr.heap.size wr w') := HI.out A len wr HB.out hA (Nat.le_refl _)
      go_wp2_with fail
      refine HC.out.mono ?_
      rintro e w1 ⟨rfl, hb1⟩
      have HB1 : Hid (Below w.heap.size w w1) := HB.out.trans (hb1.mono hwr)
      clear hb1 HC hlti hlt hY
      go_wp2_with fail
      go_loopw [6] (fun x wr => ∃ B : Nat, x = .int .i64 (B : Nat) ∧ 20 ≤ B ∧ B ≤ 2 * len + 20 ∧ Below w.heap.size w wr) (fun x _ => 2 * len + 21 - (intOf x).toNat)
      case atStart => exact ⟨20, rfl, by omega, by omega, HB1.out⟩
      case round =>
        obtain ⟨B, rfl, hB1, hB2, hB⟩ := hrel
        have HB : Hid (Below w.heap.size w wr) := hB
        have hwr : w.heap.size ≤ wr.heap.size := hB.size
        clear hB
        by_cases hlt : B < len
        · have hlti : (B : Int) < (len : Int) := by omega
          go_wp2_with fail
          go_loopw [7, 8] (fun x y wr => ∃ A : Nat, x = .int .i64 (A : Nat) ∧ y = .int .i64 ((A + 2 * B : Nat) : Int) ∧ A ≤ len ∧ Below w.heap.size w wr) (fun x _ _ => len + 1 - (intOf x).toNat)
          case atStart => exact ⟨0, rfl, by go_num, by omega, HB.out⟩
          case round =>
            obtain ⟨A, rfl, rfl, hA, hB⟩ := hrel
            have HB : Hid (Below w.heap.size w wr) := hB
            have hwr : w.heap.size ≤ wr.heap.size := hB.size
            clear hB
            obtain ⟨Y, hY⟩ : ∃ Y, A + 2 * B = Y := ⟨_, rfl⟩
            obtain ⟨m, hm⟩ : ∃ m, A + B = m := ⟨_, rfl⟩
            have hmi : (A : Int) + (B : Int) = (m : Int) := by omega
            rw [hY]
            by_cases hlt2 : Y ≤ len
            · have hlti2 : (Y : Int) ≤ (len : Int) := by omega
              have HC : Hid (Calls Try.prog 32 #[.slice a len cap, .int .i64 (A : Nat), .int .i64 (m : Nat), .int .i64 (Y : Nat), cmpF] wr fun e w' => e = .returned (.tuple #[]) ∧ Below wr.heap.size wr w') := HM.out A m Y wr HB.out (by omega) (by omega) hlt2
              go_wp2_with fail
              refine HC.out.mono ?_
              rintro e w1 ⟨rfl, hb1⟩
              have HB1 : Hid (Below w.heap.size w w1) := HB.out.trans (hb1.mono hwr)
              clear hb1
              go_wp2_with fail
              exact ⟨⟨Y, rfl, by go_num, by omega, HB1.out⟩, by simp [intOf]; omega⟩
            · have hlti2 : ¬ (Y : Int) ≤ (len : Int) := by omega
              by_cases hml : m < len
              · have hmli : (m : Int) < (len : Int) := by omega
                have HC : Hid (Calls Try.prog 32 #[.slice a len cap, .int .i64 (A : Nat), .int .i64 (m : Nat), .int .i64 (len : Nat), cmpF] wr fun e w' => e = .returned (.tuple #[]) ∧ Below wr.heap.size wr w') := HM.out A m len wr HB.out (by omega) hml (Nat.le_refl _)
                go_wp2_with fail
                refine HC.out.mono ?_
                rintro e w1 ⟨rfl, hb1⟩
                have HB1 : Hid (Below w.heap.size w w1) := HB.out.trans (hb1.mono hwr)
                clear hb1
                go_wp2_with fail
                exact ⟨⟨2 * B, by go_num, by omega, by omega, HB1.out⟩, by simp [intOf]; omega⟩
              · have hmli : ¬ (m : Int) < (len : Int) := by omega
                go_wp2_with fail
                exact ⟨⟨2 * B, by go_num, by omega, by omega, HB.out⟩, by simp [intOf]; omega⟩
        · have hlti : ¬ (B : Int) < (len : Int) := by omega
          go_wp2_with fail
          go_end0
          exact ⟨rfl, HB.out⟩
theorem sort_ok (a : Option Addr) (cap : Nat) (L : List Due) (w : World) (hin : DIn w a L) (hup : DUp L) (hlen : L.length ≤ 1000000000000000) :
    Calls Try.prog 19 #[.slice a L.length cap, cmpF] w fun e w' => e = .returned (.tuple #[]) ∧ Below w.heap.size w w' := by
  have HS : Hid (∀ W, W = w → Calls Try.prog 26 #[.slice a L.length cap, .int .i64 (L.length : Nat), cmpF] W fun e w' => e = .returned (.tuple #[]) ∧ Below W.heap.size W w') := fun W e => by subst e; exact stable_ok a cap L W hin hup hlen
  obtain ⟨len, hl⟩ : ∃ len, L.length = len := ⟨_, rfl⟩
  rw [hl] at HS ⊢
  clear hin hup hlen hl
  go_enter Try.func19, Try.ntmps19
  go_wp2_with fail
  refine (HS.out _ rfl).mono ?_
  rintro e w1 ⟨rfl, hb1⟩
  have HB1 : Hid (Below w.heap.size w w1) := hb1
  clear hb1
  go_wp2_with fail
  go_end0
  exact ⟨rfl, HB1.out⟩
end Go.Proofs.Ytebfpffilepfaaa
