/- awake: what must come, whatever the arguments are, does come; nothing that was there has turned. -/
import Derived.Test.YtjjbbfiogkpodaaVa
import Derived.Test.YtjjbbfiogkpodaaRc
namespace Go.Proofs.Ytjjbbfiogkpodaa
open Go.RowKit
set_option linter.unusedVariables false

theorem aw1 : toBA (pack (([] ++ bitsOf 5 3) ++ bitsOf 1 1)) = ⟨#[13]⟩ := by decide +kernel
theorem aw2 : toBA (varB 10 300) = ⟨#[172, 2]⟩ := by decide +kernel
theorem aw3 : num ⟨#[13]⟩ 0 3 = 5 := by decide +kernel
theorem aw_bits (B b : Nat) (w : World) (hw : WS w B b []) (hB : B ≤ b) :
    Calls Try.prog 18 #[.pointer (some ⟨b, 0, none⟩), .int .i64 5, .int .i64 3] w fun e w' => e = .returned (.int .i64 0) ∧ WS w' B b ([] ++ bitsOf 5 3) ∧ Fr 5 B b w w' :=
  wbits B b [] 5 3 w (by omega) (by omega) (by simp) hw (Nat.le_of_lt (Nat.lt_of_le_of_lt hB hw.lt))
theorem aw_bits2 (B b : Nat) (w : World) (hw : WS w B b ([] ++ bitsOf 5 3)) (hB : B ≤ b) :
    Calls Try.prog 18 #[.pointer (some ⟨b, 0, none⟩), .int .i64 1, .int .i64 1] w fun e w' => e = .returned (.int .i64 0) ∧ WS w' B b (([] ++ bitsOf 5 3) ++ bitsOf 1 1) ∧ Fr 5 B b w w' :=
  wbits B b ([] ++ bitsOf 5 3) 1 1 w (by omega) (by omega) (by simp [bitsOf_length]) hw (Nat.le_of_lt (Nat.lt_of_le_of_lt hB hw.lt))
theorem aw_done (B b : Nat) (w : World) (hw : WS w B b (([] ++ bitsOf 5 3) ++ bitsOf 1 1)) :
    Calls Try.prog 16 #[.pointer (some ⟨b, 0, none⟩)] w fun e w' => e = .returned (.string ⟨#[13]⟩) ∧ w' = w := by
  have h := wdone B b _ w hw
  rw [aw1] at h; exact h
theorem aw_put (w : World) : Calls Try.prog 24 #[.int .i64 300] w fun e w' => e = .returned (.tuple #[.string ⟨#[172, 2]⟩, .int .i64 0]) ∧ Below w.heap.size w w' := by
  have h := putVar 300 w (by omega)
  rw [aw2] at h; exact h
theorem aw_read (b : Nat) (w : World) (hr : RS w b ⟨#[13]⟩ 0) :
    Calls Try.prog 21 #[.pointer (some ⟨b, 0, none⟩), .int .i64 3] w fun e w' => e = .returned (.tuple #[.int .i64 5, .int .i64 0]) ∧ RS w' b ⟨#[13]⟩ (0 + 3) ∧ Only b w w' := by
  have h := rbits b ⟨#[13]⟩ 0 3 w (by omega) (by decide) (by decide) hr
  rw [aw3] at h; exact h
set_option maxHeartbeats 400000 in
theorem awake (w : World) : Calls Try.prog 12 #[] w fun e w' => e = .returned (.bool true) ∧ Below w.heap.size w w' := by
  go_enter Try.func12, Try.ntmps12
  go_wp2_with fail
  refine (newWriter _).mono ?_
  rintro e w1 ⟨rfl, hw1⟩
  have hws1 : Hid (WS w1 w.heap.size w.heap.size []) := by rw [hw1]; exact WS.new w w.heap.size
  have hb1 : Hid (Below w.heap.size w w1) := by rw [hw1]; exact (Below.refl _ _).alloc (Nat.le_refl _) _
  clear hw1
  go_wp2_with fail
  refine (aw_bits w.heap.size w.heap.size _ hws1.out (Nat.le_refl _)).mono ?_
  rintro e w2 ⟨rfl, hws2, hf2⟩
  have HW2 : Hid (WS w2 w.heap.size w.heap.size ([] ++ bitsOf 5 3)) := hws2
  have hb2 : Hid (Below w.heap.size w w2) := hb1.out.trans (hf2.below (Nat.le_refl _) hb1.out.size)
  clear hws2 hf2
  go_wp2_with fail
  refine (aw_bits2 w.heap.size w.heap.size _ HW2.out (Nat.le_refl _)).mono ?_
  rintro e w3 ⟨rfl, hws3, hf3⟩
  have HW3 : Hid (WS w3 w.heap.size w.heap.size (([] ++ bitsOf 5 3) ++ bitsOf 1 1)) := hws3
  have hb3 : Hid (Below w.heap.size w w3) := hb2.out.trans (hf3.below (Nat.le_refl _) hb2.out.size)
  clear hws3 hf3
  go_wp2_with fail
  refine (aw_done w.heap.size w.heap.size _ HW3.out).mono ?_
  rintro e w4 ⟨rfl, hw4⟩
  subst hw4
  go_wp2_with fail
  refine (newReader _ _ (by decide)).mono ?_
  rintro e w5 ⟨b, rfl, hbl, hbs, hrs, hb5⟩
  have HRS : Hid (RS w5 b ⟨#[13]⟩ 0) := hrs
  have hB5 : Hid (Below w.heap.size w w5) := hb3.out.trans (hb5.mono hb3.out.size)
  have hbw : Hid (w.heap.size ≤ b) := Nat.le_trans hb3.out.size hbl
  clear hrs hb5 hbl hbs
  go_wp2_with fail
  refine (aw_read _ _ HRS.out).mono ?_
  rintro e w6 ⟨rfl, _, ho6⟩
  have hB6 : Hid (Below w.heap.size w w6) := hB5.out.trans (ho6.below hbw.out hB5.out.size)
  clear ho6
  go_wp2_with fail
  refine (aw_put _).mono ?_
  rintro e w7 ⟨rfl, hb7⟩
  have hB7 : Hid (Below w.heap.size w w7) := hB6.out.trans (hb7.mono hB6.out.size)
  clear hb7
  go_wp2
  go_ret
  exact ⟨rfl, hB7.out⟩
end Go.Proofs.Ytjjbbfiogkpodaa
