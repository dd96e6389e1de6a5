/- The walk of InflateMost. -/
import Derived.Test.YtchjnfckcfikkaaDoorVH
namespace Go.Proofs.YtchjnfckcfikkaaDoor
open Go.RowKit
set_option linter.unusedVariables false

set_option maxRecDepth 20000 in
set_option maxHeartbeats 4000000 in
theorem most_walk (s : ByteArray) (less : Int) (w : World) (hs : s.size ≤ 140737488351232) (hless : (Lit.int .i64 less).wf = true) (ho : OrdAt w) :
    Calls Tryd.prog 5 #[.string s, .int .i64 less] w fun e w' => e = .returned (.bool true) ∧ Below w.heap.size w w' := by
  have HI : Hid (∀ W (t : ByteArray) (m : Int), t.size ≤ 281474976710656 → OrdAt W → Calls Tryd.prog 10 #[.string t, .int .i64 m] W fun e w' => e = .returned (.tuple #[.string (infA t m).1, .int .i64 ((infA t m).2.1 : Nat), .int .i64 ((infA t m).2.2 : Nat)]) ∧ Below W.heap.size W w') := fun W t m ht ho => inflate_any t m W ht ho
  have H1 : Hid (∀ _ : Unit, Calls Tryd.prog 10 #[.string s, .int .i64 1048576] w fun e w' => e = .returned (.tuple #[.string (infA s ((1048576 : Nat) : Int)).1, .int .i64 ((infA s ((1048576 : Nat) : Int)).2.1 : Nat), .int .i64 ((infA s ((1048576 : Nat) : Int)).2.2 : Nat)]) ∧ Below w.heap.size w w') := fun _ => HI.out w s 1048576 (by omega) ho
  have H2 : Hid (∀ W, Calls Tryd.prog 11 #[.string s, .int .i64 1048576] W fun e w' => e = .returned (.tuple #[.string (infA s ((1048576 : Nat) : Int)).1, .int .i64 ((infA s ((1048576 : Nat) : Int)).2.1 : Nat), .int .i64 ((infA s ((1048576 : Nat) : Int)).2.2 : Nat)]) ∧ Below W.heap.size W w') := fun W => ref_any s 1048576 W (by omega)
  have HO : Hid (OrdAt w) := ho
  obtain ⟨⟨a, n, e0⟩, hA⟩ : ∃ z, infA s ((1048576 : Nat) : Int) = z := ⟨_, rfl⟩
  rw [hA] at H1 H2
  have HA : Hid (infA s ((1048576 : Nat) : Int) = (a, n, e0)) := hA
  clear hA ho
  by_cases hl : 8192 < s.size
  · have hli : (8192 : Int) < (s.size : Int) := by omega
    go_enter Tryd.func5, Tryd.ntmps5
    go_wp2_with fail
    refine (awake_ok _).mono ?_
    rintro e w3 ⟨rfl, hb⟩
    have H3 : Hid (Below w.heap.size w w3) := hb
    clear hb
    go_wp2
    go_ret
    exact ⟨rfl, H3.out⟩
  · have hli : ¬ (8192 : Int) < (s.size : Int) := by omega
    by_cases h0 : e0 = 0
    · subst h0
      have hg := infA_good (by omega) HA.out
      have HB : Hid (∀ W, Below w.heap.size w W → Calls Tryd.prog 10 #[.string s, .int .i64 (a.size : Nat)] W fun e w' => e = .returned (.tuple #[.string a, .int .i64 (n : Nat), .int .i64 0]) ∧ Below W.heap.size W w') := fun W hW => by
        have := HI.out W s ((a.size : Nat) : Int) (by omega) (HO.out.below hW)
        rw [infA_room HA.out] at this
        exact this
      have hab : a.size ≤ 1048576 := hg.2.2.2.2.2
      clear hg
      by_cases ha0 : a.size = 0
      · have h0b : ((a.size : Int) == 0) = true := by simp [ha0]
        have h0i : (a.size : Int) = 0 := by omega
        have HB0 : Hid (∀ W, Below w.heap.size w W → Calls Tryd.prog 10 #[.string s, .int .i64 0] W fun e w' => e = .returned (.tuple #[.string a, .int .i64 (n : Nat), .int .i64 0]) ∧ Below W.heap.size W w') := fun W hW => by
          have := HB.out W hW
          rw [ha0] at this
          exact this
        clear ha0
        go_enter Tryd.func5, Tryd.ntmps5
        go_wp2_with fail
        refine (H1.out ()).mono ?_
        rintro e w1 ⟨rfl, hb⟩
        have H1 : Hid (Below w.heap.size w w1) := hb
        clear hb
        go_wp2_with fail
        refine (HB0.out w1 H1.out).mono ?_
        rintro e w2 ⟨rfl, hb⟩
        have H2 : Hid (Below w.heap.size w w2) := H1.out.trans (hb.mono H1.out.size)
        clear hb
        go_wp2_with fail
        refine (awake_ok _).mono ?_
        rintro e w3 ⟨rfl, hb⟩
        have H3 : Hid (Below w.heap.size w w3) := H2.out.trans (hb.mono H2.out.size)
        clear hb
        go_wp2
        go_ret
        exact ⟨rfl, H3.out⟩
      · have h0b : ((a.size : Int) == 0) = false := beq_eq_false_iff_ne.2 (by omega)
        have h0i : ¬ (a.size : Int) = 0 := by omega
        obtain ⟨M, hM⟩ : ∃ M, less.tmod (a.size : Int) = M := ⟨_, rfl⟩
        have hMb := tmod_in less a.size (by omega)
        rw [hM] at hMb
        obtain ⟨k, hk⟩ : ∃ k, M.natAbs = k := ⟨_, rfl⟩
        have hkn : k < a.size := by clear hM; omega
        have HC : Hid (∀ W, Below w.heap.size w W → Calls Tryd.prog 10 #[.string s, .int .i64 (k : Nat)] W fun e w' => e = .returned (.tuple #[.string ⟨#[]⟩, .int .i64 0, .int .i64 4]) ∧ Below W.heap.size W w') := fun W hW => by
          have := HI.out W s ((k : Nat) : Int) (by omega) (HO.out.below hW)
          rw [infA_less HA.out hkn] at this
          exact this
        have hMw : IntKind.i64.wrap M = M := by rw [IntKind.wrap_i64]; omega
        by_cases hneg : M < 0
        · have hMk : 0 - M = (k : Int) := by omega
          have hMk2 : -M = (k : Int) := by omega
          have hkw := wrapN k (by omega)
          have hMi : decide (M < 0) = true := by simpa using hneg
          go_enter Tryd.func5, Tryd.ntmps5
          go_wp2_with fail
          refine (H1.out ()).mono ?_
          rintro e w1 ⟨rfl, hb⟩
          have H1 : Hid (Below w.heap.size w w1) := hb
          clear hb
          go_wp2_with fail
          refine (HB.out w1 H1.out).mono ?_
          rintro e w2 ⟨rfl, hb⟩
          have H2 : Hid (Below w.heap.size w w2) := H1.out.trans (hb.mono H1.out.size)
          clear hb
          go_wp2_with fail
          refine (HC.out w2 H2.out).mono ?_
          rintro e w3 ⟨rfl, hb⟩
          have H3 : Hid (Below w.heap.size w w3) := H2.out.trans (hb.mono H2.out.size)
          clear hb
          go_wp2_with fail
          refine (awake_ok _).mono ?_
          rintro e w4 ⟨rfl, hb⟩
          have H4 : Hid (Below w.heap.size w w4) := H3.out.trans (hb.mono H3.out.size)
          clear hb
          go_wp2
          go_ret
          exact ⟨rfl, H4.out⟩
        · have hMk : M = (k : Int) := by omega
          subst hMk
          go_enter Tryd.func5, Tryd.ntmps5
          go_wp2_with fail
          refine (H1.out ()).mono ?_
          rintro e w1 ⟨rfl, hb⟩
          have H1 : Hid (Below w.heap.size w w1) := hb
          clear hb
          go_wp2_with fail
          refine (HB.out w1 H1.out).mono ?_
          rintro e w2 ⟨rfl, hb⟩
          have H2 : Hid (Below w.heap.size w w2) := H1.out.trans (hb.mono H1.out.size)
          clear hb
          go_wp2_with fail
          refine (HC.out w2 H2.out).mono ?_
          rintro e w3 ⟨rfl, hb⟩
          have H3 : Hid (Below w.heap.size w w3) := H2.out.trans (hb.mono H2.out.size)
          clear hb
          go_wp2_with fail
          refine (awake_ok _).mono ?_
          rintro e w4 ⟨rfl, hb⟩
          have H4 : Hid (Below w.heap.size w w4) := H3.out.trans (hb.mono H3.out.size)
          clear hb
          go_wp2
          go_ret
          exact ⟨rfl, H4.out⟩
    · have he : ¬ (e0 : Int) = 0 := by omega
      have heb : ((e0 : Int) == 0) = false := by simp; omega
      have heb2 : ((e0 : Int) != 0) = true := by simp; omega
      go_enter Tryd.func5, Tryd.ntmps5
      go_wp2_with fail
      refine (H1.out ()).mono ?_
      rintro e w1 ⟨rfl, hb⟩
      have H1 : Hid (Below w.heap.size w w1) := hb
      clear hb
      go_wp2_with fail
      refine (H2.out w1).mono ?_
      rintro e w2 ⟨rfl, hb⟩
      have H2 : Hid (Below w.heap.size w w2) := H1.out.trans (hb.mono H1.out.size)
      clear hb
      go_wp2_with fail
      refine (awake_ok _).mono ?_
      rintro e w3 ⟨rfl, hb⟩
      have H3 : Hid (Below w.heap.size w w3) := H2.out.trans (hb.mono H2.out.size)
      clear hb
      go_wp2
      go_ret
      exact ⟨rfl, H3.out⟩
end Go.Proofs.YtchjnfckcfikkaaDoor
