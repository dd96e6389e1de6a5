/- SumsParts: the law's walk. -/
import Derived.Test.YtofjkopfldgkcaaMa2
import Derived.Test.YtofjkopfldgkcaaHc
namespace Go.Proofs.Ytofjkopfldgkcaa
open Go.RowKit
set_option linter.unusedVariables false

set_option maxRecDepth 20000 in
theorem sumsParts_arg (a : Option Addr) (len cap : Nat) (seed : Int) (w : World) (hseed : seed < 0 ∨ 4294967295 < seed) :
    Calls Try.prog 6 #[.slice a len cap, .int .i64 seed] w fun e w' => e = .returned (.bool true) ∧ Below w.heap.size w w' := by
  by_cases h0 : seed < 0
  · have h1 : ¬ (0 ≤ seed) := by omega
    have hd : decide (0 ≤ seed) = false := by rw [decide_eq_false_iff_not]; omega
    go_enter Try.func6, Try.ntmps6
    go_wp2_with fail
    refine (newHasher_arg seed _ hseed).mono ?_
    rintro e w1 ⟨rfl, rfl⟩
    clear hseed
    go_wp2_with fail
    refine (awake _).mono ?_
    rintro e w2 ⟨rfl, hb2⟩
    go_wp2
    go_ret
    exact ⟨rfl, hb2⟩
  · have h1 : 0 ≤ seed := by omega
    have hd : decide (seed < 4294967296) = false := by rw [decide_eq_false_iff_not]; omega
    go_enter Try.func6, Try.ntmps6
    go_wp2_with fail
    refine (newHasher_arg seed _ hseed).mono ?_
    rintro e w1 ⟨rfl, rfl⟩
    clear hseed
    go_wp2_with fail
    refine (awake _).mono ?_
    rintro e w2 ⟨rfl, hb2⟩
    go_wp2
    go_ret
    exact ⟨rfl, hb2⟩
theorem HS.isLt {w : World} {b : Nat} {p : Value} {l : List Nat} {seed : Nat} (h : HS w b p l seed) : b < w.heap.size := World.block_lt_of_cell? w ⟨b, 0, none⟩ h.self
theorem Only.below_of {b : Nat} {w0 w w' : World} (h : Below w0.heap.size w0 w) (ho : Only b w w') (hb : w0.heap.size ≤ b) : Below w0.heap.size w0 w' := h.trans (ho.below hb h.size)
set_option maxRecDepth 20000 in
set_option maxHeartbeats 1000000 in
theorem sumsParts_ok (a : Option Addr) (b off len cap : Nat) (f : Nat → ByteArray) (seed : Nat) (w : World) (hseed : seed < 4294967296) (hlen : len ≤ 9223372036854775807) (hst : len = 0 ∨ (a = some ⟨b, off, none⟩ ∧ StrsAt w b off len f)) :
    Calls Try.prog 6 #[.slice a len cap, .int .i64 (seed : Nat)] w fun e w' => e = .returned (.bool true) ∧ Below w.heap.size w w' := by
  have HST : Hid (len = 0 ∨ (a = some ⟨b, off, none⟩ ∧ StrsAt w b off len f)) := hst
  clear hst
  have hs0 : (seed : Int) < 4294967296 := by omega
  go_enter Try.func6, Try.ntmps6
  go_wp2_with fail
  refine (newHasher_ok seed _ hseed).mono ?_
  rintro e w1 ⟨rfl, hS1, hz1, hb1⟩
  have H1 : Hid (HS w1 w.heap.size (.pointer (some ⟨w.heap.size, 0, none⟩)) [] seed ∧ Below w.heap.size w w1) := ⟨hS1, hb1⟩
  clear hS1 hz1 hb1
  go_wp2
  go_loopw [7, 8] (fun all i wr => ∃ (j : Nat) (t : ByteArray), j ≤ len ∧ i = .int .i64 j ∧ all = .string t ∧ t.size ≤ 8192 ∧ HS wr w.heap.size (.pointer (some ⟨w.heap.size, 0, none⟩)) (BL t) seed ∧ Below w.heap.size w wr) (fun _ i _ => len - (intOf i).toNat)
  case atStart => exact ⟨0, ⟨#[]⟩, Nat.zero_le _, rfl, rfl, by decide, H1.out.1, H1.out.2⟩
  case round =>
    obtain ⟨j, t, hj, rfl, rfl, ht, hS, hbel⟩ := hrel
    have HBE : Hid (HS wr w.heap.size (.pointer (some ⟨w.heap.size, 0, none⟩)) (BL t) seed ∧ Below w.heap.size w wr) := ⟨hS, hbel⟩
    clear hS hbel
    by_cases hlt : j < len
    · obtain ⟨hA, hS⟩ : a = some ⟨b, off, none⟩ ∧ StrsAt w b off len f := by
        rcases HST.out with h | h
        · omega
        · exact h
      subst hA
      have hcell := hS.below HBE.out.2 j hlt
      obtain ⟨p, hp⟩ : ∃ p, f j = p := ⟨_, rfl⟩
      rw [hp] at hcell
      have hpb : p.size ≤ 4611686018427387904 := by rw [← hp]; exact hS.2.2 j hlt
      clear hS hp
      by_cases hbig : 8192 < t.size + p.size
      · have hbi : (8192 : Int) < (t.size : Int) + (p.size : Int) := by omega
        go_wp2_with fail
        refine (awake _).mono ?_
        rintro e w4 ⟨rfl, hb4⟩
        have H4 : Hid (Below w.heap.size w w4) := HBE.out.2.trans (hb4.mono HBE.out.2.size)
        clear hb4
        go_wp2
        go_ret
        exact ⟨rfl, H4.out⟩
      · have hbi : ¬ ((8192 : Int) < (t.size : Int) + (p.size : Int)) := by omega
        have hBt := BL_length t
        obtain ⟨H, hH⟩ : ∃ H, hashOf (BL (t ++ p)) seed = H := ⟨_, rfl⟩
        have hR := fun w1 : World => refHash (t ++ p) seed seed w1 (by simp; omega) (by omega)
        simp only [hH] at hR
        have HR : Hid _ := hR
        have HHH : Hid (hashOf (BL (t ++ p)) seed = H) := hH
        clear hR hH
        go_wp2_with fail
        refine (hwrite w.heap.size (BL t) seed p _ HBE.out.1 (by omega)).mono ?_
        rintro e w4 ⟨rfl, hS4, ho4⟩
        have H4 : Hid (HS w4 w.heap.size (.pointer (some ⟨w.heap.size, 0, none⟩)) (BL (t ++ p)) seed ∧ Below w.heap.size w w4) := ⟨by rw [BL_append]; exact hS4, Only.below_of HBE.out.2 ho4 (Nat.le_refl _)⟩
        clear hS4 ho4 hBt
        go_wp2_with fail
        refine (hsum w.heap.size (BL (t ++ p)) seed _ H4.out.1 (by rw [BL_length]; simp; omega) hseed (BL_lt _)).mono ?_
        rintro e w5 ⟨rfl, k5, hw5⟩
        have H5 : Hid (HS w5 w.heap.size (.pointer (some ⟨w.heap.size, 0, none⟩)) (BL (t ++ p)) seed ∧ Below w.heap.size w w5) := by rw [hw5]; exact ⟨H4.out.1.drewN k5, below_drewN H4.out.2 k5⟩
        clear hw5
        rw [HHH.out]
        go_wp2_with fail
        refine (HR.out _).mono ?_
        rintro e w6 ⟨rfl, hb6⟩
        have H6 : Hid (HS w6 w.heap.size (.pointer (some ⟨w.heap.size, 0, none⟩)) (BL (t ++ p)) seed ∧ Below w.heap.size w w6) := ⟨H5.out.1.below hb6 H5.out.1.isLt, H5.out.2.trans (hb6.mono H5.out.2.size)⟩
        clear hb6
        go_wp2
        exact ⟨⟨j + 1, t ++ p, by omega, by go_num, rfl, by simp; omega, H6.out.1, H6.out.2⟩, by simp [intOf]; omega⟩
    · obtain rfl : j = len := by omega
      obtain ⟨H, hH⟩ : ∃ H, hashOf (BL t) seed = H := ⟨_, rfl⟩
      have hP := fun w1 : World => hash t seed seed w1 (by omega) (by omega)
      simp only [hH] at hP
      have HP : Hid _ := hP
      have HHH : Hid (hashOf (BL t) seed = H) := hH
      clear hP hH
      go_wp2_with fail
      refine (hsum w.heap.size (BL t) seed _ HBE.out.1 (by rw [BL_length]; omega) hseed (BL_lt _)).mono ?_
      rintro e w5 ⟨rfl, k5, hw5⟩
      have H5 : Hid (Below w.heap.size w w5) := by rw [hw5]; exact below_drewN HBE.out.2 k5
      clear hw5
      rw [HHH.out]
      go_wp2_with fail
      refine (HP.out _).mono ?_
      rintro e w6 ⟨rfl, hb6⟩
      have H6 : Hid (Below w.heap.size w w6) := H5.out.trans (hb6.mono H5.out.size)
      clear hb6
      go_wp2_with fail
      refine (awake _).mono ?_
      rintro e w7 ⟨rfl, hb7⟩
      have H7 : Hid (Below w.heap.size w w7) := H6.out.trans (hb7.mono H6.out.size)
      clear hb7
      go_wp2
      go_ret
      exact ⟨rfl, H7.out⟩
theorem sumsParts_walk (a : Option Addr) (b off len cap : Nat) (f : Nat → ByteArray) (seed : Int) (w : World) (hlen : len ≤ 9223372036854775807) (hst : len = 0 ∨ (a = some ⟨b, off, none⟩ ∧ StrsAt w b off len f)) :
    Calls Try.prog 6 #[.slice a len cap, .int .i64 seed] w fun e w' => e = .returned (.bool true) ∧ Below w.heap.size w w' := by
  by_cases h : seed < 0 ∨ 4294967295 < seed
  · exact sumsParts_arg a len cap seed w h
  · obtain ⟨n, rfl⟩ : ∃ n : Nat, seed = (n : Int) := ⟨seed.toNat, by omega⟩
    exact sumsParts_ok a b off len cap f n w (by omega) hlen hst
end Go.Proofs.Ytofjkopfldgkcaa
