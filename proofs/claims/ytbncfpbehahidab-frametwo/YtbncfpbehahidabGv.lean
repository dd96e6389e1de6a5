/- FrameTwo: the law's walk. -/
import Derived.Test.YtbncfpbehahidabGj6
namespace Go.Proofs.Ytbncfpbehahidab
open Go.RowKit
set_option linter.unusedVariables false
set_option maxRecDepth 20000

theorem toBA_append (l m : List Nat) : toBA l ++ toBA m = toBA (l ++ m) := by
  apply ByteArray.ext
  rw [ByteArray.data_append]
  simp [toBA]
set_option maxHeartbeats 2000000 in
theorem frameTwo_walk (s t : ByteArray) (w : World) (hs0 : s.size ≤ 140737488351232) (ht0 : t.size ≤ 140737488351232) :
    Calls Try.prog 3 #[.string s, .string t] w fun e w' => e = .returned (.bool true) ∧ Below w.heap.size w w' := by
  by_cases hbig : 4096 < s.size
  · have hbi : (4096 : Int) < (s.size : Int) := by omega
    have hbb : decide ((4096 : Int) < (s.size : Int)) = true := by simpa using hbi
    go_enter Try.func3, Try.ntmps3
    go_wp2_with fail
    refine (awake_ok _).mono ?_
    rintro e w3 ⟨rfl, hb3⟩
    have H3 : Hid (Below w.heap.size w w3) := hb3
    clear hb3
    go_wp2
    go_ret
    exact ⟨rfl, H3.out⟩
  · have hbi : ¬ (4096 : Int) < (s.size : Int) := by omega
    have hbb : decide ((4096 : Int) < (s.size : Int)) = false := by simpa using hbi
    by_cases hbig2 : 4096 < t.size
    · have hbi2 : (4096 : Int) < (t.size : Int) := by omega
      have hbb2 : decide ((4096 : Int) < (t.size : Int)) = true := by simpa using hbi2
      go_enter Try.func3, Try.ntmps3
      go_wp2_with fail
      refine (awake_ok _).mono ?_
      rintro e w3 ⟨rfl, hb3⟩
      have H3 : Hid (Below w.heap.size w w3) := hb3
      clear hb3
      go_wp2
      go_ret
      exact ⟨rfl, H3.out⟩
    · have hbi2 : ¬ (4096 : Int) < (t.size : Int) := by omega
      have hbb2 : decide ((4096 : Int) < (t.size : Int)) = false := by simpa using hbi2
      have hs : s.size ≤ 1048576 := by omega
      have ht : t.size ≤ 1048576 := by omega
      have hsl := packFr_length s hs
      have htl := packFr_length t ht
      have HP : Hid (∀ W, Calls Try.prog 5 #[.string s] W fun e w' => e = .returned (.tuple #[.string (toBA (packFr s)), .int .i64 0]) ∧ Below W.heap.size W w') := fun W => pk s hs W
      have HP2 : Hid (∀ W, Calls Try.prog 5 #[.string t] W fun e w' => e = .returned (.tuple #[.string (toBA (packFr t)), .int .i64 0]) ∧ Below W.heap.size W w') := fun W => pk t ht W
      have HU : Hid (∀ W, Calls Try.prog 6 #[.string (toBA (packFr s ++ packFr t)), .int .i64 (s.size : Nat)] W fun e w' => e = .returned (.tuple #[.string s, .int .i64 ((packFr s).length : Nat), .int .i64 0]) ∧ Below W.heap.size W w') := fun W => back s (packFr t) (packFr_bytes t) htl s.size (Nat.le_refl _) hs W
      have HU2 : Hid (∀ W, Calls Try.prog 6 #[.string (toBA (packFr t)), .int .i64 (t.size : Nat)] W fun e w' => e = .returned (.tuple #[.string t, .int .i64 ((packFr t).length : Nat), .int .i64 0]) ∧ Below W.heap.size W w') := fun W => by
        have h := back t [] (fun x hx => by simp at hx) (by simp) t.size (Nat.le_refl _) ht W
        rw [List.append_nil] at h
        exact h
      have hAs : (toBA (packFr s)).size = (packFr s).length := toBA_size _
      have hBs : (toBA (packFr t)).size = (packFr t).length := toBA_size _
      have hcat := toBA_append (packFr s) (packFr t)
      have hCs : (toBA (packFr s ++ packFr t)).size = (packFr s).length + (packFr t).length := by rw [toBA_size, List.length_append]
      have hcut : (toBA (packFr s ++ packFr t)).extract (packFr s).length (toBA (packFr s ++ packFr t)).size = toBA (packFr t) := by
        rw [hCs, toBA_extract, List.drop_left, Nat.add_sub_cancel_left, List.take_of_length_le (Nat.le_refl _)]
      obtain ⟨A, hA⟩ : ∃ A, toBA (packFr s) = A := ⟨_, rfl⟩
      obtain ⟨B, hB⟩ : ∃ B, toBA (packFr t) = B := ⟨_, rfl⟩
      obtain ⟨C, hC⟩ : ∃ C, toBA (packFr s ++ packFr t) = C := ⟨_, rfl⟩
      obtain ⟨n, hn⟩ : ∃ n, (packFr s).length = n := ⟨_, rfl⟩
      obtain ⟨m, hm⟩ : ∃ m, (packFr t).length = m := ⟨_, rfl⟩
      rw [hA] at HP hAs hcat
      rw [hB] at HP2 HU2 hBs hcat hcut
      rw [hC] at HU hcat hCs hcut
      rw [hn] at HU hAs hCs hcut hsl
      rw [hm] at HU2 hBs hCs htl
      clear hA hB hC hn hm
      have hsz1 : ¬ (9223372036854775807 : Int) < (A.size : Int) + (B.size : Int) := by omega
      have hnA : ((n : Int) == (A.size : Int)) = true := by rw [hAs]; simp
      have hnA' : ((n : Int) != (A.size : Int)) = false := by rw [hAs]; simp
      have hmB : ((m : Int) == (B.size : Int)) = true := by rw [hBs]; simp
      have hnC : (n : Int) ≤ (C.size : Int) := by omega
      have HS : Hid (A.size = n ∧ B.size = m ∧ C.size = n + m) := ⟨hAs, hBs, hCs⟩
      clear hAs hBs hCs hsl htl
      go_enter Try.func3, Try.ntmps3
      go_wp2_with fail
      refine (HP.out _).mono ?_
      rintro e w1 ⟨rfl, hb1⟩
      have H1 : Hid (Below w.heap.size w w1) := hb1
      clear hb1
      go_wp2_with fail
      refine (HP2.out _).mono ?_
      rintro e w2 ⟨rfl, hb2⟩
      have H2 : Hid (Below w.heap.size w w2) := H1.out.trans (hb2.mono H1.out.size)
      clear hb2
      go_wp2_with fail
      refine (HU.out _).mono ?_
      rintro e w3 ⟨rfl, hb3⟩
      have H3 : Hid (Below w.heap.size w w3) := H2.out.trans (hb3.mono H2.out.size)
      clear hb3
      go_wp2_with fail
      refine (HU2.out _).mono ?_
      rintro e w4 ⟨rfl, hb4⟩
      have H4 : Hid (Below w.heap.size w w4) := H3.out.trans (hb4.mono H3.out.size)
      clear hb4
      go_wp2_with fail
      refine (awake_ok _).mono ?_
      rintro e w5 ⟨rfl, hb5⟩
      have H5 : Hid (Below w.heap.size w w5) := H4.out.trans (hb5.mono H4.out.size)
      clear hb5
      go_wp2
      go_ret
      exact ⟨rfl, H5.out⟩
end Go.Proofs.Ytbncfpbehahidab
