/- The walks of InflateTail, InflateCuts, InflateMost. -/
import Derived.Test.YtchjnfckcfikkaaDoorVG
namespace Go.Proofs.YtchjnfckcfikkaaDoor
open Go.RowKit
set_option linter.unusedVariables false

theorem toBA_long (l : List Nat) : (toBA l).size = l.length := by simp [toBA, ByteArray.size]
theorem tmod_in (x : Int) (n : Nat) (h : 0 < n) : -(n : Int) < x.tmod (n : Int) ∧ x.tmod (n : Int) < (n : Int) := by
  by_cases hx : x < 0
  · have h1 := Int.tmod_lt_of_pos (-x) (b := (n : Int)) (by omega)
    have h2 := Int.tmod_nonneg (n : Int) (a := -x) (by omega)
    rw [Int.neg_tmod] at h1 h2
    omega
  · have h1 := Int.tmod_lt_of_pos x (b := (n : Int)) (by omega)
    have h2 := Int.tmod_nonneg (n : Int) (a := x) (by omega)
    omega
/-- What a good answer is. -/
theorem infA_good {s a : ByteArray} {m n : Nat} (hm : m ≤ 1048576) (h : infA s (m : Int) = (a, n, 0)) : (infF s m).1 = 0 ∧ a = toBA (infF s m).2.2 ∧ n = ((infF s m).2.1 + 7) / 8 ∧ n ≤ s.size ∧ 1 ≤ n ∧ a.size ≤ m := by
  unfold infA at h
  rw [if_neg (by omega), Int.toNat_natCast] at h
  by_cases e : (infF s m).1 = 0
  · rw [if_pos e] at h
    have hle := infF_le s m e
    cases h
    exact ⟨e, rfl, rfl, by omega, by omega, by rw [toBA_long]; exact hle.2.2⟩
  · rw [if_neg e] at h
    injection h with h1 h2
    injection h2 with h3 h4
    exact absurd h4 e
theorem infA_ok {s : ByteArray} {m : Nat} (hm : m ≤ 1048576) (h : (infF s m).1 = 0) : infA s (m : Int) = (toBA (infF s m).2.2, ((infF s m).2.1 + 7) / 8, 0) := by
  unfold infA; rw [if_neg (by omega), Int.toNat_natCast, if_pos h]
theorem infA_bad {s : ByteArray} {m : Nat} (hm : m ≤ 1048576) (h : (infF s m).1 ≠ 0) : infA s (m : Int) = (⟨#[]⟩, 0, (infF s m).1) := by
  unfold infA; rw [if_neg (by omega), Int.toNat_natCast, if_neg h]
theorem bit_ext (s t : ByteArray) (k i : Nat) (hk : k ≤ s.size) (hi : i < 8 * k) : bitAt (s.extract 0 k ++ t) i = bitAt s i := by
  unfold bitAt
  have h1 : (s.extract 0 k ++ t).data.toList.getD (i / 8) 0 = s.data.toList.getD (i / 8) 0 := by
    have hj : i / 8 < k := by omega
    have hs : k ≤ s.data.size := hk
    simp only [ByteArray.data_append, ByteArray.data_extract, Array.toList_append, Array.toList_extract, List.getD_eq_getElem?_getD]
    rw [List.getElem?_append_left (by simp; omega)]
    simp [List.getElem?_take_of_lt hj]
  rw [h1]
theorem alike_ext (s t : ByteArray) (k : Nat) (hk : k ≤ s.size) : Alike s (s.extract 0 k ++ t) (8 * k) :=
  ⟨by omega, by rw [ByteArray.size_append, ByteArray.size_extract]; omega, fun i hi => bit_ext s t k i hk hi⟩
theorem ext_nil (s : ByteArray) (k : Nat) : s.extract 0 k ++ (⟨#[]⟩ : ByteArray) = s.extract 0 k := by
  apply ByteArray.ext; simp
/-- What stands behind is not looked at. -/
theorem infA_tail {s a : ByteArray} {n : Nat} (t : ByteArray) (h : infA s ((1048576 : Nat) : Int) = (a, n, 0)) : infA (s.extract 0 n ++ t) ((1048576 : Nat) : Int) = (a, n, 0) := by
  obtain ⟨h1, h2, h3, h4, h5, _⟩ := infA_good (by omega) h
  have hL := (infF_loc (alike_ext s t n h4) 1048576 h1).1 (by omega)
  rw [infA_ok (by omega) (by rw [hL]; exact h1), hL, h2, h3]
/-- What lacks bytes is too short. -/
theorem infA_cut {s a : ByteArray} {n k : Nat} (h : infA s ((1048576 : Nat) : Int) = (a, n, 0)) (hk : k < n) : infA (s.extract 0 k) ((1048576 : Nat) : Int) = (⟨#[]⟩, 0, 5) := by
  obtain ⟨h1, h2, h3, h4, h5, _⟩ := infA_good (by omega) h
  have hA := alike_ext s ⟨#[]⟩ k (by omega)
  rw [ext_nil] at hA
  have hL := (infF_loc hA 1048576 h1).2 (by omega) (by rw [ByteArray.size_extract]; omega)
  rw [infA_bad (by omega) (by rw [hL]; simp), hL]
/-- With as much room as there are plain bytes. -/
theorem infA_room {s a : ByteArray} {n : Nat} (h : infA s ((1048576 : Nat) : Int) = (a, n, 0)) : infA s ((a.size : Nat) : Int) = (a, n, 0) := by
  obtain ⟨h1, h2, h3, h4, h5, h6⟩ := infA_good (by omega) h
  have hsz : a.size = (infF s 1048576).2.2.length := by rw [h2, toBA_long]
  have hR := (infF_room s 1048576 a.size h1).1 (by omega)
  rw [infA_ok h6 (by rw [hR]; exact h1), hR, ← h2, ← h3]
/-- With less. -/
theorem infA_less {s a : ByteArray} {n k : Nat} (h : infA s ((1048576 : Nat) : Int) = (a, n, 0)) (hk : k < a.size) : infA s ((k : Nat) : Int) = (⟨#[]⟩, 0, 4) := by
  obtain ⟨h1, h2, h3, h4, h5, h6⟩ := infA_good (by omega) h
  have hsz : a.size = (infF s 1048576).2.2.length := by rw [h2, toBA_long]
  have hR := (infF_room s 1048576 k h1).2 (by omega)
  rw [infA_bad (by omega) (by rw [hR]; simp), hR]
set_option maxRecDepth 20000 in
set_option maxHeartbeats 4000000 in
theorem tail_walk (s t : ByteArray) (w : World) (hs : s.size ≤ 140737488351232) (ht : t.size ≤ 140737488351232) (ho : OrdAt w) :
    Calls Tryd.prog 4 #[.string s, .string t] w fun e w' => e = .returned (.bool true) ∧ Below w.heap.size w w' := by
  have HI : Hid (∀ W (t : ByteArray) (m : Int), t.size ≤ 281474976710656 → OrdAt W → Calls Tryd.prog 10 #[.string t, .int .i64 m] W fun e w' => e = .returned (.tuple #[.string (infA t m).1, .int .i64 ((infA t m).2.1 : Nat), .int .i64 ((infA t m).2.2 : Nat)]) ∧ Below W.heap.size W w') := fun W t m ht ho => inflate_any t m W ht ho
  have H1 : Hid (∀ _ : Unit, Calls Tryd.prog 10 #[.string s, .int .i64 1048576] w fun e w' => e = .returned (.tuple #[.string (infA s ((1048576 : Nat) : Int)).1, .int .i64 ((infA s ((1048576 : Nat) : Int)).2.1 : Nat), .int .i64 ((infA s ((1048576 : Nat) : Int)).2.2 : Nat)]) ∧ Below w.heap.size w w') := fun _ => HI.out w s 1048576 (by omega) ho
  have H2 : Hid (∀ W, Calls Tryd.prog 11 #[.string s, .int .i64 1048576] W fun e w' => e = .returned (.tuple #[.string (infA s ((1048576 : Nat) : Int)).1, .int .i64 ((infA s ((1048576 : Nat) : Int)).2.1 : Nat), .int .i64 ((infA s ((1048576 : Nat) : Int)).2.2 : Nat)]) ∧ Below W.heap.size W w') := fun W => ref_any s 1048576 W (by omega)
  have HO : Hid (OrdAt w) := ho
  obtain ⟨⟨a, n, e0⟩, hA⟩ : ∃ z, infA s ((1048576 : Nat) : Int) = z := ⟨_, rfl⟩
  rw [hA] at H1 H2
  have HA : Hid (infA s ((1048576 : Nat) : Int) = (a, n, e0)) := hA
  clear hA ho
  by_cases hl : 8192 < s.size
  · have hli : (8192 : Int) < (s.size : Int) := by omega
    go_enter Tryd.func4, Tryd.ntmps4
    go_wp2_with fail
    refine (awake_ok _).mono ?_
    rintro e w3 ⟨rfl, hb⟩
    have H3 : Hid (Below w.heap.size w w3) := hb
    clear hb
    go_wp2
    go_ret
    exact ⟨rfl, H3.out⟩
  · have hli : ¬ (8192 : Int) < (s.size : Int) := by omega
    by_cases hl2 : 8192 < t.size
    · have hl2i : (8192 : Int) < (t.size : Int) := by omega
      go_enter Tryd.func4, Tryd.ntmps4
      go_wp2_with fail
      refine (awake_ok _).mono ?_
      rintro e w3 ⟨rfl, hb⟩
      have H3 : Hid (Below w.heap.size w w3) := hb
      clear hb
      go_wp2
      go_ret
      exact ⟨rfl, H3.out⟩
    · have hl2i : ¬ (8192 : Int) < (t.size : Int) := by omega
      by_cases h0 : e0 = 0
      · subst h0
        have hg := infA_good (by omega) HA.out
        have hn : (n : Int) ≤ (s.size : Int) := by have := hg.2.2.2.1; omega
        have hn2 : ¬ (s.size : Int) < (n : Int) := by omega
        have hnn : n ≤ s.size := hg.2.2.2.1
        have HT : Hid (infA (s.extract 0 n ++ t) ((1048576 : Nat) : Int) = (a, n, 0)) := infA_tail t HA.out
        have HI2 : Hid (∀ W, Below w.heap.size w W → Calls Tryd.prog 10 #[.string (s.extract 0 n ++ t), .int .i64 1048576] W fun e w' => e = .returned (.tuple #[.string a, .int .i64 (n : Nat), .int .i64 0]) ∧ Below W.heap.size W w') := fun W hW => by
          have := HI.out W (s.extract 0 n ++ t) ((1048576 : Nat) : Int) (by rw [ByteArray.size_append, ByteArray.size_extract]; omega) (HO.out.below hW)
          rw [HT.out] at this
          exact this
        clear hg HT
        go_enter Tryd.func4, Tryd.ntmps4
        go_wp2_with fail
        refine (H1.out ()).mono ?_
        rintro e w1 ⟨rfl, hb⟩
        have H1 : Hid (Below w.heap.size w w1) := hb
        clear hb
        go_wp2_with fail
        refine (HI2.out w1 H1.out).mono ?_
        rintro e w2 ⟨rfl, hb⟩
        have H2 : Hid (Below w.heap.size w w2) := H1.out.trans (hb.mono H1.out.size)
        clear hb
        go_wp2_with fail
        refine (awake_ok _).mono ?_
        rintro e w3 ⟨rfl, hb⟩
        have H3 : Hid (Below w.heap.size w w3) := H2.out.trans (hb.mono H2.out.size)
        clear hb
        go_wp2
        go_ret
        exact ⟨rfl, H3.out⟩
      · have he : ¬ (e0 : Int) = 0 := by omega
        have heb : ((e0 : Int) == 0) = false := by simp; omega
        have heb2 : ((e0 : Int) != 0) = true := by simp; omega
        go_enter Tryd.func4, Tryd.ntmps4
        go_wp2_with fail
        refine (H1.out ()).mono ?_
        rintro e w1 ⟨rfl, hb⟩
        have H1 : Hid (Below w.heap.size w w1) := hb
        clear hb
        go_wp2_with fail
        refine (H2.out w1).mono ?_
        rintro e w2 ⟨rfl, hb⟩
        have H2 : Hid (Below w.heap.size w w2) := H1.out.trans (hb.mono H1.out.size)
        clear hb
        go_wp2_with fail
        refine (awake_ok _).mono ?_
        rintro e w3 ⟨rfl, hb⟩
        have H3 : Hid (Below w.heap.size w w3) := H2.out.trans (hb.mono H2.out.size)
        clear hb
        go_wp2
        go_ret
        exact ⟨rfl, H3.out⟩
set_option maxRecDepth 20000 in
set_option maxHeartbeats 4000000 in
theorem cuts_walk (s : ByteArray) (cut : Int) (w : World) (hs : s.size ≤ 140737488351232) (hcut : (Lit.int .i64 cut).wf = true) (ho : OrdAt w) :
    Calls Tryd.prog 8 #[.string s, .int .i64 cut] w fun e w' => e = .returned (.bool true) ∧ Below w.heap.size w w' := by
  have HI : Hid (∀ W (t : ByteArray) (m : Int), t.size ≤ 281474976710656 → OrdAt W → Calls Tryd.prog 10 #[.string t, .int .i64 m] W fun e w' => e = .returned (.tuple #[.string (infA t m).1, .int .i64 ((infA t m).2.1 : Nat), .int .i64 ((infA t m).2.2 : Nat)]) ∧ Below W.heap.size W w') := fun W t m ht ho => inflate_any t m W ht ho
  have H1 : Hid (∀ _ : Unit, Calls Tryd.prog 10 #[.string s, .int .i64 1048576] w fun e w' => e = .returned (.tuple #[.string (infA s ((1048576 : Nat) : Int)).1, .int .i64 ((infA s ((1048576 : Nat) : Int)).2.1 : Nat), .int .i64 ((infA s ((1048576 : Nat) : Int)).2.2 : Nat)]) ∧ Below w.heap.size w w') := fun _ => HI.out w s 1048576 (by omega) ho
  have H2 : Hid (∀ W, Calls Tryd.prog 11 #[.string s, .int .i64 1048576] W fun e w' => e = .returned (.tuple #[.string (infA s ((1048576 : Nat) : Int)).1, .int .i64 ((infA s ((1048576 : Nat) : Int)).2.1 : Nat), .int .i64 ((infA s ((1048576 : Nat) : Int)).2.2 : Nat)]) ∧ Below W.heap.size W w') := fun W => ref_any s 1048576 W (by omega)
  have HO : Hid (OrdAt w) := ho
  obtain ⟨⟨a, n, e0⟩, hA⟩ : ∃ z, infA s ((1048576 : Nat) : Int) = z := ⟨_, rfl⟩
  rw [hA] at H1 H2
  have HA : Hid (infA s ((1048576 : Nat) : Int) = (a, n, e0)) := hA
  clear hA ho
  by_cases hl : 8192 < s.size
  · have hli : (8192 : Int) < (s.size : Int) := by omega
    go_enter Tryd.func8, Tryd.ntmps8
    go_wp2_with fail
    refine (awake_ok _).mono ?_
    rintro e w3 ⟨rfl, hb⟩
    have H3 : Hid (Below w.heap.size w w3) := hb
    clear hb
    go_wp2
    go_ret
    exact ⟨rfl, H3.out⟩
  · have hli : ¬ (8192 : Int) < (s.size : Int) := by omega
    by_cases h0 : e0 = 0
    · subst h0
      have hg := infA_good (by omega) HA.out
      have hn : ¬ (s.size : Int) < (n : Int) := by have := hg.2.2.2.1; omega
      have hn1 : ¬ (n : Int) < 1 := by have := hg.2.2.2.2.1; omega
      have hnz : ¬ (n : Int) = 0 := by omega
      have hnb : ((n : Int) == 0) = false := by simp; omega
      obtain ⟨M, hM⟩ : ∃ M, cut.tmod (n : Int) = M := ⟨_, rfl⟩
      have hMb := tmod_in cut n (by omega)
      rw [hM] at hMb
      obtain ⟨k, hk⟩ : ∃ k, M.natAbs = k := ⟨_, rfl⟩
      have hkn : k < n := by clear hM; omega
      have hks : k ≤ s.size := by have := hg.2.2.2.1; omega
      have hksi : (k : Int) ≤ (s.size : Int) := by omega
      have HT : Hid (infA (s.extract 0 k) ((1048576 : Nat) : Int) = (⟨#[]⟩, 0, 5)) := infA_cut HA.out hkn
      have HI2 : Hid (∀ W, Below w.heap.size w W → Calls Tryd.prog 10 #[.string (s.extract 0 k), .int .i64 1048576] W fun e w' => e = .returned (.tuple #[.string ⟨#[]⟩, .int .i64 0, .int .i64 5]) ∧ Below W.heap.size W w') := fun W hW => by
        have := HI.out W (s.extract 0 k) ((1048576 : Nat) : Int) (by rw [ByteArray.size_extract]; omega) (HO.out.below hW)
        rw [HT.out] at this
        exact this
      have hMw : IntKind.i64.wrap M = M := by rw [IntKind.wrap_i64]; omega
      clear hg HT
      obtain ⟨X, hX⟩ : ∃ X, s.extract 0 k = X := ⟨_, rfl⟩
      rw [hX] at HI2
      by_cases hneg : M < 0
      · have hMk : 0 - M = (k : Int) := by omega
        have hMk2 : -M = (k : Int) := by omega
        have hkw := wrapN k (by omega)
        have hMi : decide (M < 0) = true := by simpa using hneg
        go_enter Tryd.func8, Tryd.ntmps8
        go_wp2_with fail
        refine (H1.out ()).mono ?_
        rintro e w1 ⟨rfl, hb⟩
        have H1 : Hid (Below w.heap.size w w1) := hb
        clear hb
        go_wp2_with fail
        refine (HI2.out w1 H1.out).mono ?_
        rintro e w2 ⟨rfl, hb⟩
        have H2 : Hid (Below w.heap.size w w2) := H1.out.trans (hb.mono H1.out.size)
        clear hb
        go_wp2_with fail
        refine (awake_ok _).mono ?_
        rintro e w3 ⟨rfl, hb⟩
        have H3 : Hid (Below w.heap.size w w3) := H2.out.trans (hb.mono H2.out.size)
        clear hb
        go_wp2
        go_ret
        exact ⟨rfl, H3.out⟩
      · have hMk : M = (k : Int) := by omega
        subst hMk
        go_enter Tryd.func8, Tryd.ntmps8
        go_wp2_with fail
        refine (H1.out ()).mono ?_
        rintro e w1 ⟨rfl, hb⟩
        have H1 : Hid (Below w.heap.size w w1) := hb
        clear hb
        go_wp2_with fail
        refine (HI2.out w1 H1.out).mono ?_
        rintro e w2 ⟨rfl, hb⟩
        have H2 : Hid (Below w.heap.size w w2) := H1.out.trans (hb.mono H1.out.size)
        clear hb
        go_wp2_with fail
        refine (awake_ok _).mono ?_
        rintro e w3 ⟨rfl, hb⟩
        have H3 : Hid (Below w.heap.size w w3) := H2.out.trans (hb.mono H2.out.size)
        clear hb
        go_wp2
        go_ret
        exact ⟨rfl, H3.out⟩
    · have he : ¬ (e0 : Int) = 0 := by omega
      have heb : ((e0 : Int) == 0) = false := by simp; omega
      have heb2 : ((e0 : Int) != 0) = true := by simp; omega
      go_enter Tryd.func8, Tryd.ntmps8
      go_wp2_with fail
      refine (H1.out ()).mono ?_
      rintro e w1 ⟨rfl, hb⟩
      have H1 : Hid (Below w.heap.size w w1) := hb
      clear hb
      go_wp2_with fail
      refine (H2.out w1).mono ?_
      rintro e w2 ⟨rfl, hb⟩
      have H2 : Hid (Below w.heap.size w w2) := H1.out.trans (hb.mono H1.out.size)
      clear hb
      go_wp2_with fail
      refine (awake_ok _).mono ?_
      rintro e w3 ⟨rfl, hb⟩
      have H3 : Hid (Below w.heap.size w w3) := H2.out.trans (hb.mono H2.out.size)
      clear hb
      go_wp2
      go_ret
      exact ⟨rfl, H3.out⟩
end Go.Proofs.YtchjnfckcfikkaaDoor
