/- What must come, whatever the arguments are. -/
import Derived.Test.YtchjnfckcfikkaaDoorZn
namespace Go.Proofs.YtchjnfckcfikkaaDoor
open Go.RowKit
set_option linter.unusedVariables false

/-- No codes are told. -/
def noTold : Nat → Nat × Nat × List Nat × List Nat := fun p => (40, p, [], [])
theorem noTold_ok (s : ByteArray) : ToldOK noTold s := fun p hp h => by simp [noTold] at h
def txt1 : ByteArray := ⟨#[1, 2, 0, 253, 255, 104, 105, 33]⟩
def txt2 : ByteArray := ⟨#[75, 4, 0]⟩
def txt3 : ByteArray := ⟨#[7]⟩
set_option maxRecDepth 100000 in
theorem pure1 : blocksF noTold txt1 9 (8 * txt1.size + 1) 0 [] = (0, 56, [104, 105]) := by decide +kernel
set_option maxRecDepth 100000 in
theorem pure3 : blocksF noTold txt3 9 (8 * txt3.size + 1) 0 [] = (40, 0, []) := by decide +kernel
set_option maxRecDepth 100000 in
theorem pure2 : blocksF noTold txt2 9 (8 * txt2.size + 1) 0 [] = (0, 18, [97]) := by decide +kernel
theorem UF.toBelow {w w' : World} (h : UF (fun k => k < w.heap.size) w w') : Below w.heap.size w w' := ⟨h.os, h.tape, h.output, h.size, h.block⟩
/-- A text whose first block is the last, and of kind 0, 1 or 3. -/
theorem inflate_one (s : ByteArray) (most : Nat) (w : World) (hm : most ≤ 1048576) (hs : s.size ≤ 281474976710656) (h1 : num s 0 1 = 1) (h2 : num s 1 2 ≠ 2) :
    Calls Tryd.prog 10 #[.string s, .int .i64 most] w fun e w' => e = .returned (infR (blocksF noTold s most (8 * s.size + 1) 0 [])) ∧ Below w.heap.size w w' :=
  (inflate_ok noTold (fun p _ => p = 0) (fun k => k < w.heap.size) s most w hm hs (noTold_ok s) rfl (fun k hk => hk) (fun p l hJ _ _ _ h => by subst hJ; exact (h h1).elim) (fun p l hJ hn => by subst hJ; exact (h2 hn).elim)).mono fun e w' h => ⟨h.1, h.2.toBelow⟩
set_option maxRecDepth 20000 in
set_option maxHeartbeats 4000000 in
theorem awake_ok (w : World) : Calls Tryd.prog 9 #[] w fun e w' => e = .returned (.bool true) ∧ Below w.heap.size w w' := by
  have A1 : Hid (∀ W, Calls Tryd.prog 10 #[.string ⟨#[1, 2, 0, 253, 255, 104, 105, 33]⟩, .int .i64 9] W fun e w' => e = .returned (.tuple #[.string ⟨#[104, 105]⟩, .int .i64 7, .int .i64 0]) ∧ Below W.heap.size W w') := fun W => (inflate_one txt1 9 W (by omega) (by decide) (by decide +kernel) (by decide +kernel)).mono fun e w' h => by
    rw [pure1] at h
    exact h
  have A2 : Hid (∀ W, Calls Tryd.prog 10 #[.string ⟨#[75, 4, 0]⟩, .int .i64 9] W fun e w' => e = .returned (.tuple #[.string ⟨#[97]⟩, .int .i64 3, .int .i64 0]) ∧ Below W.heap.size W w') := fun W => (inflate_one txt2 9 W (by omega) (by decide) (by decide +kernel) (by decide +kernel)).mono fun e w' h => by
    rw [pure2] at h
    exact h
  have A3 : Hid (∀ W, Calls Tryd.prog 10 #[.string ⟨#[7]⟩, .int .i64 9] W fun e w' => e = .returned (.tuple #[.string ⟨#[]⟩, .int .i64 0, .int .i64 40]) ∧ Below W.heap.size W w') := fun W => (inflate_one txt3 9 W (by omega) (by decide) (by decide +kernel) (by decide +kernel)).mono fun e w' h => by
    rw [pure3] at h
    exact h
  go_enter Tryd.func9, Tryd.ntmps9
  go_wp2_with fail
  refine (A1.out w).mono ?_
  rintro e w1 ⟨rfl, b1⟩
  have B1 : Hid (Below w.heap.size w w1) := b1
  clear b1
  go_wp2_with fail
  refine (A2.out w1).mono ?_
  rintro e w2 ⟨rfl, b1⟩
  have B2 : Hid (Below w.heap.size w w2) := B1.out.trans (b1.mono B1.out.size)
  clear b1
  go_wp2_with fail
  refine (A3.out w2).mono ?_
  rintro e w3 ⟨rfl, b1⟩
  have B3 : Hid (Below w.heap.size w w3) := B2.out.trans (b1.mono B2.out.size)
  clear b1 A1 A2 A3
  go_wp2
  go_ret
  exact ⟨rfl, B3.out⟩
end Go.Proofs.YtchjnfckcfikkaaDoor
