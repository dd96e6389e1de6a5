/- The walk of BitsNobody. -/
import Derived.Test.YtjjbbfiogkpodaaNa
namespace Go.Proofs.Ytjjbbfiogkpodaa
open Go.RowKit
set_option linter.unusedVariables false

theorem Nobody.nil (w : World) : Nobody w none := .inl rfl
set_option maxHeartbeats 1000000 in
set_option maxRecDepth 100000 in
theorem nobody_walk (n : Int) (s : ByteArray) (w : World) :
    Calls Try.prog 8 #[.int .i64 n, .string s] w fun e w' => e = .returned (.bool true) ∧ Below w.heap.size w w' := by
  go_enter Try.func8, Try.ntmps8
  go_wp2
  go_loopw [7] (fun i wr => ∃ k : Nat, k ≤ 2 ∧ i = .int .i64 k ∧ wr.cell? ⟨w.heap.size + 1, 0, none⟩ = some (.pointer none) ∧ wr.cell? ⟨w.heap.size + 1, 1, none⟩ = some (.pointer (some ⟨w.heap.size, 0, none⟩)) ∧
      wr.cell? ⟨w.heap.size + 1 + 1 + 1, 0, none⟩ = some (.pointer none) ∧ wr.cell? ⟨w.heap.size + 1 + 1 + 1, 1, none⟩ = some (.pointer (some ⟨w.heap.size + 1 + 1, 0, none⟩)) ∧
      wr.cell? ⟨w.heap.size, 0, none⟩ = some (.pointer none) ∧ wr.cell? ⟨w.heap.size + 1 + 1, 0, none⟩ = some (.pointer none) ∧ Below w.heap.size w wr) (fun i _ => 2 - (intOf i).toNat)
  case atStart =>
    refine ⟨0, by omega, rfl, ?_, ?_, ?_, ?_, ?_, ?_, ((((Below.refl _ _).alloc (Nat.le_refl _) _).alloc (by simp) _).alloc (by simp; omega) _).alloc (by simp; omega) _⟩
    all_goals simp [go_sem]
  case round =>
    obtain ⟨k, hk, rfl, r0, r1, s0, s1, z0, z1, hb⟩ := hrel
    have hN0 := Nobody.nil wr
    have hNr : Nobody wr (some ⟨w.heap.size, 0, none⟩) := .inr ⟨_, rfl, z0⟩
    have hNw : Nobody wr (some ⟨w.heap.size + 1 + 1, 0, none⟩) := .inr ⟨_, rfl, z1⟩
    rcases (show k = 0 ∨ k = 1 ∨ k = 2 from by omega) with rfl | rfl | rfl
    · go_wp2_with (first | (go_at_call 21; refine (no_rBits _ _ _ hN0).mono ?_; rintro e w' ⟨rfl, hw'⟩; subst hw') | (go_at_call 23; refine (no_rBytes _ _ _ hN0).mono ?_; rintro e w' ⟨rfl, hw'⟩; subst hw') | (go_at_call 22; refine (no_rAlign _ _ hN0).mono ?_; rintro e w' ⟨rfl, hw'⟩; subst hw') | (go_at_call 11; refine (no_rPlace _ _ hN0).mono ?_; rintro e w' ⟨rfl, hw'⟩; subst hw') | (go_at_call 18; refine (no_wBits _ _ _ _ hN0).mono ?_; rintro e w' ⟨rfl, hw'⟩; subst hw') | (go_at_call 20; refine (no_wBytes _ _ _ hN0).mono ?_; rintro e w' ⟨rfl, hw'⟩; subst hw') | (go_at_call 19; refine (no_wAlign _ _ hN0).mono ?_; rintro e w' ⟨rfl, hw'⟩; subst hw') | (go_at_call 15; refine (no_wPlace _ _ hN0).mono ?_; rintro e w' ⟨rfl, hw'⟩; subst hw') | (go_at_call 16; refine (no_wDone _ _ hN0).mono ?_; rintro e w' ⟨rfl, hw'⟩; subst hw'))
      go_roundw
      case rel => exact ⟨1, by omega, rfl, r0, r1, s0, s1, z0, z1, hb⟩
      case measure => simp [intOf]
    · go_wp2_with (first | (go_at_call 21; refine (no_rBits _ _ _ hNr).mono ?_; rintro e w' ⟨rfl, hw'⟩; subst hw') | (go_at_call 23; refine (no_rBytes _ _ _ hNr).mono ?_; rintro e w' ⟨rfl, hw'⟩; subst hw') | (go_at_call 22; refine (no_rAlign _ _ hNr).mono ?_; rintro e w' ⟨rfl, hw'⟩; subst hw') | (go_at_call 11; refine (no_rPlace _ _ hNr).mono ?_; rintro e w' ⟨rfl, hw'⟩; subst hw') | (go_at_call 18; refine (no_wBits _ _ _ _ hNw).mono ?_; rintro e w' ⟨rfl, hw'⟩; subst hw') | (go_at_call 20; refine (no_wBytes _ _ _ hNw).mono ?_; rintro e w' ⟨rfl, hw'⟩; subst hw') | (go_at_call 19; refine (no_wAlign _ _ hNw).mono ?_; rintro e w' ⟨rfl, hw'⟩; subst hw') | (go_at_call 15; refine (no_wPlace _ _ hNw).mono ?_; rintro e w' ⟨rfl, hw'⟩; subst hw') | (go_at_call 16; refine (no_wDone _ _ hNw).mono ?_; rintro e w' ⟨rfl, hw'⟩; subst hw'))
      go_roundw
      case rel => exact ⟨2, by omega, rfl, r0, r1, s0, s1, z0, z1, hb⟩
      case measure => simp [intOf]
    · go_wp2_with fail
      refine (awake _).mono ?_
      rintro e w1 ⟨rfl, hb1⟩
      go_wp2
      go_ret
      exact ⟨rfl, hb.trans (hb1.mono hb.size)⟩
theorem nobody_any (n : Int) (s : ByteArray) (w : World) (_ : (Lit.int .i64 n).wf = true) (_ : s.size ≤ 140737488351232) :
    Calls Try.prog 8 #[.int .i64 n, .string s] w fun e w' => e = .returned (.bool true) ∧ Below w.heap.size w w' := nobody_walk n s w
end Go.Proofs.Ytjjbbfiogkpodaa
