/- SumsHash: the law's walk. -/
import Derived.Test.YtofjkopfldgkcaaHb
namespace Go.Proofs.Ytofjkopfldgkcaa
open Go.RowKit
set_option linter.unusedVariables false

theorem refHash (s : ByteArray) (seed : Int) (sd : Nat) (w : World) (hs : s.size ≤ 140737488351232) (hsd : (sd : Int) = seed % 4294967296) :
    Calls Try.prog 13 #[.string s, .int .i64 seed] w fun e w' => e = .returned (.int .i64 (hashOf (BL s) sd : Nat)) ∧ Below w.heap.size w w' := by
  by_cases h : s.size < 16
  · exact refHash_short s seed sd w hs hsd h
  · exact refHash_long s seed sd w hs hsd (by omega)
theorem sumsHash_any (s : ByteArray) (seed : Int) (w : World) (hs : s.size ≤ 140737488351232) (w1 : (Lit.int .i64 seed).wf = true) :
    Calls Try.prog 4 #[.string s, .int .i64 seed] w fun e w' => e = .returned (.bool true) ∧ Below w.heap.size w w' := by
  obtain ⟨sd, hsd⟩ : ∃ sd : Nat, (sd : Int) = seed % 4294967296 := ⟨(seed % 4294967296).toNat, by omega⟩
  obtain ⟨H, hH⟩ : ∃ H, hashOf (BL s) sd = H := ⟨_, rfl⟩
  have hp := fun w : World => hash s seed sd w hs hsd
  have hr := fun w : World => refHash s seed sd w hs hsd
  simp only [hH] at hp hr
  have HP : Hid _ := hp
  have HR : Hid _ := hr
  clear hp hr hH hsd w1
  go_enter Try.func4, Try.ntmps4
  go_wp2_with fail
  refine (HP.out _).mono ?_
  rintro e w1 ⟨rfl, hb1⟩
  have H1 : Hid (Below w.heap.size w w1) := hb1
  clear hb1
  go_wp2_with fail
  refine (HR.out _).mono ?_
  rintro e w2 ⟨rfl, hb2⟩
  have H2 : Hid (Below w.heap.size w w2) := H1.out.trans (hb2.mono H1.out.size)
  clear hb2
  go_wp2_with fail
  refine (awake _).mono ?_
  rintro e w3 ⟨rfl, hb3⟩
  have H3 : Hid (Below w.heap.size w w3) := H2.out.trans (hb3.mono H2.out.size)
  clear hb3
  go_wp2
  go_ret
  exact ⟨rfl, H3.out⟩
end Go.Proofs.Ytofjkopfldgkcaa
