/- LzCuts: the law's walk. -/
import Derived.Test.YtejdlmpbapcgcabYza
namespace Go.Proofs.Ytejdlmpbapcgcab
open Go.RowKit
set_option linter.unusedVariables false

theorem tmodB (x : Int) (n : Nat) (h : 0 < n) : -(n : Int) < x.tmod (n : Int) ∧ x.tmod (n : Int) < (n : Int) := by
  by_cases hx : x < 0
  · have h1 := Int.tmod_lt_of_pos (-x) (b := (n : Int)) (by omega)
    have h2 := Int.tmod_nonneg (n : Int) (a := -x) (by omega)
    rw [Int.neg_tmod] at h1 h2
    omega
  · have h1 := Int.tmod_lt_of_pos x (b := (n : Int)) (by omega)
    have h2 := Int.tmod_nonneg (n : Int) (a := x) (by omega)
    omega
/-- What Unpack answers of a beginning of what was packed: too short (5), or a beginning of the text. -/
theorem cut_is (s : ByteArray) (hs : s.size ≤ 1048576) (k : Nat) (hk : k < (toBA (packL s)).size) : ∃ (T : ByteArray) (E : Nat), (E = 5 ∧ T = ⟨#[]⟩ ∨ E = 0 ∧ T.size ≤ s.size ∧ s.extract 0 T.size = T) ∧ ∀ W, Calls Try.prog 6 #[.string ((toBA (packL s)).extract 0 k), .int .i64 (s.size : Nat)] W fun e w' => e = .returned (.tuple #[.string T, .int .i64 (E : Nat)]) ∧ Below W.heap.size W w' := by
  have hl := packL_length s
  rw [← toBA_size] at hl
  have h := fun W => unpack_ok ((toBA (packL s)).extract 0 k) s.size W hs (by rw [cut_size (by omega)]; omega)
  rcases cut_pack s k hk with e | ⟨n, hn, e⟩
  · rw [e, lzR_bad rfl (by decide)] at h
    exact ⟨⟨#[]⟩, 5, .inl ⟨rfl, rfl⟩, h⟩
  · rw [e, lzR_good rfl, toBA_bytesOf] at h
    have hz : (s.extract 0 n).size = n := by rw [ByteArray.size_extract]; omega
    exact ⟨s.extract 0 n, 0, .inr ⟨rfl, by omega, by rw [hz]⟩, h⟩
theorem packL_pos (s : ByteArray) : 0 < (toBA (packL s)).size := by
  have h1 : ∀ (F k told : Nat) (l : List Nat), 0 < (packF s F k told l).length := by
    intro F
    induction F with
    | zero => intro k told l; unfold packF headL; simp; omega
    | succ F ih =>
      intro k told l
      unfold packF
      split
      · unfold headL; simp; omega
      · split
        · exact ih _ _ _
        · exact ih _ _ _
  rw [toBA_size]
  exact h1 _ _ _ _
set_option maxRecDepth 20000 in
set_option maxHeartbeats 1000000 in
theorem lzCuts_walk (s : ByteArray) (cut : Int) (w : World) (hs0 : s.size ≤ 140737488351232) (hcut : (Lit.int .i64 cut).wf = true) :
    Calls Try.prog 3 #[.string s, .int .i64 cut] w fun e w' => e = .returned (.bool true) ∧ Below w.heap.size w w' := by
  by_cases hbig : 4096 < s.size
  · have hbi : (4096 : Int) < (s.size : Int) := by omega
    go_enter Try.func3, Try.ntmps3
    go_wp2_with fail
    refine (awake_ok _).mono ?_
    rintro e w3 ⟨rfl, hb3⟩
    have H3 : Hid (Below w.heap.size w w3) := hb3
    clear hb3
    go_wp2
    go_ret
    exact ⟨rfl, H3.out⟩
  · have hbi : ¬ (4096 : Int) < (s.size : Int) := by omega
    have hs : s.size ≤ 1048576 := by omega
    have HP : Hid (∀ W, Calls Try.prog 5 #[.string s] W fun e w' => e = .returned (.tuple #[.string (toBA (packL s)), .int .i64 0]) ∧ Below W.heap.size W w') := fun W => pack_ok s W hs
    have hpos := packL_pos s
    have hl := packL_length s
    rw [← toBA_size] at hl
    obtain ⟨M, hM⟩ : ∃ M, cut.tmod ((toBA (packL s)).size : Int) = M := ⟨_, rfl⟩
    have hMb := tmodB cut (toBA (packL s)).size hpos
    rw [hM] at hMb
    have hC := cut_is s hs M.natAbs (by clear hM; omega)
    obtain ⟨k, hk⟩ : ∃ k, M.natAbs = k := ⟨_, rfl⟩
    rw [hk] at hC
    obtain ⟨Z, hZ⟩ : ∃ Z, toBA (packL s) = Z := ⟨_, rfl⟩
    rw [hZ] at HP hC hpos hl hM hMb
    obtain ⟨T, E, hTE, hC⟩ := hC
    have hkZ : k < Z.size := by clear hM hTE; omega
    obtain ⟨X, hX⟩ : ∃ X, Z.extract 0 k = X := ⟨_, rfl⟩
    rw [hX] at hC
    have HK : Hid _ := hC
    have hMw : IntKind.i64.wrap M = M := by rw [IntKind.wrap_i64]; omega
    have hz0 : ((Z.size : Int) == 0) = false := beq_eq_false_iff_ne.2 (by omega)
    have hz1 : ¬ (Z.size : Int) = 0 := by omega
    have hki : (k : Int) ≤ (Z.size : Int) := by omega
    have hMk : M = (k : Int) ∨ (M < 0 ∧ 0 - M = (k : Int) ∧ -M = (k : Int)) := by clear hM hTE; omega
    have hkw := wrapN k (by omega)
    clear hZ hC hk hMb hl hpos
    rcases hTE with ⟨rfl, rfl⟩ | ⟨rfl, hTs, hT⟩
    · rcases hMk with rfl | ⟨hneg, hMk, hMk2⟩
      · have hkz : (k : Int) ≤ (Z.size : Int) := hki
        go_enter Try.func3, Try.ntmps3
        go_wp2_with fail
        refine (HP.out _).mono ?_
        rintro e w1 ⟨rfl, hb1⟩
        have H1 : Hid (Below w.heap.size w w1) := hb1
        clear hb1
        go_wp2_with fail
        refine (HK.out _).mono ?_
        rintro e w2 ⟨rfl, hb2⟩
        have H2 : Hid (Below w.heap.size w w2) := H1.out.trans (hb2.mono H1.out.size)
        clear hb2
        go_wp2_with fail
        refine (awake_ok _).mono ?_
        rintro e w4 ⟨rfl, hb4⟩
        have H4 : Hid (Below w.heap.size w w4) := H2.out.trans (hb4.mono H2.out.size)
        clear hb4
        go_wp2
        go_ret
        exact ⟨rfl, H4.out⟩
      · have hMi : decide (M < 0) = true := by simpa using hneg
        go_enter Try.func3, Try.ntmps3
        go_wp2_with fail
        refine (HP.out _).mono ?_
        rintro e w1 ⟨rfl, hb1⟩
        have H1 : Hid (Below w.heap.size w w1) := hb1
        clear hb1
        go_wp2_with fail
        refine (HK.out _).mono ?_
        rintro e w2 ⟨rfl, hb2⟩
        have H2 : Hid (Below w.heap.size w w2) := H1.out.trans (hb2.mono H1.out.size)
        clear hb2
        go_wp2_with fail
        refine (awake_ok _).mono ?_
        rintro e w4 ⟨rfl, hb4⟩
        have H4 : Hid (Below w.heap.size w w4) := H2.out.trans (hb4.mono H2.out.size)
        clear hb4
        go_wp2
        go_ret
        exact ⟨rfl, H4.out⟩
    · have hTsi : (T.size : Int) ≤ (s.size : Int) := by omega
      have hTsb : decide ((T.size : Int) ≤ (s.size : Int)) = true := by simpa using hTsi
      rcases hMk with rfl | ⟨hneg, hMk, hMk2⟩
      · have hkz : (k : Int) ≤ (Z.size : Int) := hki
        go_enter Try.func3, Try.ntmps3
        go_wp2_with fail
        refine (HP.out _).mono ?_
        rintro e w1 ⟨rfl, hb1⟩
        have H1 : Hid (Below w.heap.size w w1) := hb1
        clear hb1
        go_wp2_with fail
        refine (HK.out _).mono ?_
        rintro e w2 ⟨rfl, hb2⟩
        have H2 : Hid (Below w.heap.size w w2) := H1.out.trans (hb2.mono H1.out.size)
        clear hb2
        go_wp2_with fail
        refine (awake_ok _).mono ?_
        rintro e w4 ⟨rfl, hb4⟩
        have H4 : Hid (Below w.heap.size w w4) := H2.out.trans (hb4.mono H2.out.size)
        clear hb4
        go_wp2
        go_ret
        exact ⟨rfl, H4.out⟩
      · have hMi : decide (M < 0) = true := by simpa using hneg
        go_enter Try.func3, Try.ntmps3
        go_wp2_with fail
        refine (HP.out _).mono ?_
        rintro e w1 ⟨rfl, hb1⟩
        have H1 : Hid (Below w.heap.size w w1) := hb1
        clear hb1
        go_wp2_with fail
        refine (HK.out _).mono ?_
        rintro e w2 ⟨rfl, hb2⟩
        have H2 : Hid (Below w.heap.size w w2) := H1.out.trans (hb2.mono H1.out.size)
        clear hb2
        go_wp2_with fail
        refine (awake_ok _).mono ?_
        rintro e w4 ⟨rfl, hb4⟩
        have H4 : Hid (Below w.heap.size w w4) := H2.out.trans (hb4.mono H2.out.size)
        clear hb4
        go_wp2
        go_ret
        exact ⟨rfl, H4.out⟩
end Go.Proofs.Ytejdlmpbapcgcab
