/- The walk of RecordCuts. -/
import Derived.Test.YtfjmcgdpiohnbaaAn
import Derived.Test.YtfjmcgdpiohnbaaAo
namespace Go.Proofs.Ytfjmcgdpiohnbaa
open Go.RowKit
set_option linter.unusedVariables false

theorem bytesV_bad {L : List Rec} {base : Int} (h : (offB base && comes L base) = false) : bytesV L base = .tuple #[.string ⟨#[]⟩, .int .i64 90] := by unfold bytesV; rw [h]; rfl
theorem bytesV_good {L : List Rec} {base : Int} (h : (offB base && comes L base) = true) : bytesV L base = .tuple #[.string (mk (recsL base L)), .int .i64 0] := by unfold bytesV; rw [h]; rfl
theorem vb_pos (n : Nat) : 0 < (vb n).length := by
  unfold vb
  rw [List.length_map]
  show 0 < (varB (9 + 1) n).length
  unfold varB
  split <;> simp
theorem recL_pos (base : Int) (r : Rec) : 0 < (recL base r).length := by
  unfold recL
  have := vb_pos (r.off - base).toNat
  simp only [List.length_append]
  omega
set_option maxHeartbeats 1000000 in
theorem cuts_walk (a : Option Addr) (cap : Nat) (L : List Rec) (base cut : Int) (w : World) (hin : RIn w a L) (hsz : Sized L) (hlen : L.length ≤ 1048576) (hc0 : -9223372036854775808 ≤ cut) (hc1 : cut ≤ 9223372036854775807) :
    Calls Try.prog 8 #[.slice a L.length cap, .int .i64 base, .int .i64 cut] w fun e w' => e = .returned (.bool true) ∧ Below w.heap.size w w' := by
  have HB : Hid (∀ W, RIn W a L → Calls Try.prog 9 #[.slice a L.length cap, .int .i64 base] W fun e w' => e = .returned (bytesV L base) ∧ Below W.heap.size W w') := fun W h => bytes_ok a cap L base W h hsz (by omega)
  have HR : Hid (∀ W, RIn W a L → Calls Try.prog 17 #[.slice a L.length cap, .int .i64 base] W fun e w' => e = .returned (.bool (offB base && comes L base)) ∧ Below W.heap.size W w') := fun W h => rise_ok a cap L base W h hsz (by omega)
  have HIN : Hid (RIn w a L) := hin
  have HO : Hid (∀ W S, S.length ≤ 140737488355328 → Calls Try.prog 14 #[.string (mk S), .int .i64 base, .int .i64 (L.length : Nat)] W fun e w' => OfEnd W (ofO S base (L.length : Nat)) e w') := fun W S hS => of_ok S base _ W (by omega) hS
  by_cases hg : (offB base && comes L base) = true
  · rw [bytesV_good hg] at HB
    rw [hg] at HR
    rw [Bool.and_eq_true] at hg
    obtain ⟨hg1, hg2⟩ := hg
    have hb0 : 0 ≤ base := by unfold offB at hg1; simp at hg1; exact hg1.1
    have hlr := recsL_len base L (comes_mem L base hg2)
    have HCUT : Hid (∀ k, k < (recsL base L).length → ofO ((recsL base L).take k) base (L.length : Nat) = none) := fun k hk => by
      unfold ofO
      rw [if_pos ⟨hg1, by omega⟩]
      exact ofL_cut base L k hg2 hb0 hk
    obtain ⟨S, hS⟩ : ∃ S, recsL base L = S := ⟨_, rfl⟩
    rw [hS] at HB HCUT hlr
    clear hS
    obtain ⟨len, hl⟩ : ∃ len, L.length = len := ⟨_, rfl⟩
    rw [hl] at HB HR HO HCUT hlr hlen ⊢
    clear hl hin
    have hms := mk_size S
    rcases Nat.eq_zero_or_pos S.length with h0 | h0
    · have hm0 : (mk S).size = 0 := by omega
      generalize mk S = z at HB hm0 hms
      go_enter Try.func8, Try.ntmps8
      go_wp2_with fail
      refine (HB.out _ HIN.out).mono ?_
      rintro e w1 ⟨rfl, hb1⟩
      have HB1 : Hid (Below w.heap.size w w1) := hb1
      clear hb1
      go_wp2_with fail
      refine (awake_ok _).mono ?_
      rintro e w2 ⟨rfl, hb2⟩
      have HB2 : Hid (Below w.heap.size w w2) := HB1.out.trans (hb2.mono HB1.out.size)
      clear hb2
      go_wp2
      go_ret
      exact ⟨rfl, HB2.out⟩
    · have hn0 : ¬ (mk S).size = 0 := by omega
      obtain ⟨n, hn⟩ : ∃ n, (mk S).size = n := ⟨_, rfl⟩
      obtain ⟨k, hk, hkt⟩ : ∃ k : Nat, k < n ∧ ((Int.tmod cut (n : Int) = -((k : Nat) : Int) ∧ 0 < k) ∨ Int.tmod cut (n : Int) = ((k : Nat) : Int)) := by
        have h1 := Int.tmod_lt_of_pos cut (show (0 : Int) < n by omega)
        have h2 : -(n : Int) < Int.tmod cut n := Int.lt_tmod_of_pos cut (show (0 : Int) < n by omega)
        by_cases hs : Int.tmod cut n < 0
        · exact ⟨(0 - Int.tmod cut n).toNat, by omega, .inl ⟨by omega, by omega⟩⟩
        · exact ⟨(Int.tmod cut n).toNat, by omega, .inr (by omega)⟩
      have HOF : Hid (∀ W, Calls Try.prog 14 #[.string ((mk S).extract 0 k), .int .i64 base, .int .i64 (len : Nat)] W fun e w' => e = .returned (.tuple #[.slice none 0 0, .int .i64 90]) ∧ Below W.heap.size W w') := fun W => by
        rw [extract_take]
        refine (HO.out W (S.take k) (by rw [List.length_take]; omega)).mono ?_
        rw [HCUT.out k (by omega)]
        rintro e w' (⟨_, _, h1, _⟩ | ⟨_, rfl, hb⟩)
        · cases h1
        · exact ⟨rfl, hb⟩
      generalize mk S = z at HB hn hn0 hms HOF
      clear HO HCUT
      rcases hkt with ⟨hkt, hk0⟩ | hkt
      all_goals
        go_enter Try.func8, Try.ntmps8
        go_wp2_with fail
        refine (HB.out _ HIN.out).mono ?_
        rintro e w1 ⟨rfl, hb1⟩
        have HB1 : Hid (Below w.heap.size w w1) := hb1
        clear hb1
        go_wp2_with fail
        refine (HOF.out _).mono ?_
        rintro e w2 ⟨rfl, hb2⟩
        have HB2 : Hid (Below w.heap.size w w2) := HB1.out.trans (hb2.mono HB1.out.size)
        clear hb2
        go_wp2_with fail
        refine (awake_ok _).mono ?_
        rintro e w3 ⟨rfl, hb3⟩
        have HB3 : Hid (Below w.heap.size w w3) := HB2.out.trans (hb3.mono HB2.out.size)
        clear hb3
        go_wp2
        go_ret
        exact ⟨rfl, HB3.out⟩
  · have hg' : (offB base && comes L base) = false := by simpa using hg
    rw [bytesV_bad hg'] at HB
    rw [hg'] at HR
    clear hg hg' HO hin
    obtain ⟨len, hl⟩ : ∃ len, L.length = len := ⟨_, rfl⟩
    rw [hl] at HB HR hlen ⊢
    clear hl
    go_enter Try.func8, Try.ntmps8
    go_wp2_with fail
    refine (HB.out _ HIN.out).mono ?_
    rintro e w1 ⟨rfl, hb1⟩
    have HB1 : Hid (Below w.heap.size w w1) := hb1
    have HI1 : Hid (RIn w1 a L) := HIN.out.below hb1 (Nat.le_refl _)
    clear hb1
    go_wp2_with fail
    refine (HR.out _ HI1.out).mono ?_
    rintro e w2 ⟨rfl, hb2⟩
    have HB2 : Hid (Below w.heap.size w w2) := HB1.out.trans (hb2.mono HB1.out.size)
    clear hb2
    go_wp2_with fail
    refine (awake_ok _).mono ?_
    rintro e w3 ⟨rfl, hb3⟩
    have HB3 : Hid (Below w.heap.size w w3) := HB2.out.trans (hb3.mono HB2.out.size)
    clear hb3
    go_wp2
    go_ret
    exact ⟨rfl, HB3.out⟩
theorem wf_int {n : Int} (h : (Lit.int .i64 n).wf = true) : -9223372036854775808 ≤ n ∧ n ≤ 9223372036854775807 := by
  have h1 : IntKind.i64.min = -9223372036854775808 := rfl
  have h2 : IntKind.i64.max = 9223372036854775807 := rfl
  simp only [Lit.wf, Bool.and_eq_true, decide_eq_true_eq] at h
  omega
end Go.Proofs.Ytfjmcgdpiohnbaa
