/- Hash, NewHasher, Write, Sum; awake. -/
import Derived.Test.YtofjkopfldgkcaaSh
namespace Go.Proofs.Ytofjkopfldgkcaa
open Go.RowKit
set_option linter.unusedVariables false

theorem HS.start {w : World} {b : Nat} {p : Value} {seed : Nat} (h : HB w b p seed (fun i => ini seed i) 0 (fun _ => 0)) : HS w b p [] seed :=
  ⟨fun _ => 0, h, fun k hk => by simp at hk, fun _ => by show 0 < 256; omega⟩
theorem HS.drewN {w : World} {b : Nat} {p : Value} {l : List Nat} {seed : Nat} (h : HS w b p l seed) (k : Nat) : HS (w.drewN k) b p l seed := h
theorem HS.below {w w' : World} {b B : Nat} {p : Value} {l : List Nat} {seed : Nat} (h : HS w b p l seed) (hb : Below B w w') (hlt : b < B) : HS w' b p l seed := by
  obtain ⟨L, h1, h2, h3⟩ := h
  exact ⟨L, h1.below hb hlt, h2, h3⟩
theorem HS.self {w : World} {b : Nat} {p : Value} {l : List Nat} {seed : Nat} (h : HS w b p l seed) : w.cell? ⟨b, 0, none⟩ = some p := by
  obtain ⟨L, h1, h2, h3⟩ := h
  exact h1.self
set_option maxHeartbeats 400000 in
theorem hash (s : ByteArray) (seed : Int) (sd : Nat) (w : World) (hs : s.size ≤ 140737488351232) (hsd : (sd : Int) = seed % 4294967296) :
    Calls Try.prog 12 #[.string s, .int .i64 seed] w fun e w' => e = .returned (.int .i64 (hashOf (BL s) sd : Nat)) ∧ Below w.heap.size w w' := by
  have hsl : sd < 4294967296 := by omega
  have hhl := hashOf_lt (BL s) sd
  obtain ⟨H, hH⟩ : ∃ H, hashOf (BL s) sd = H := ⟨_, rfl⟩
  rw [hH] at hhl
  rw [hH]
  have HHH : Hid (hashOf (BL s) sd = H) := hH
  clear hH
  have hcv : seed % 4294967296 = (sd : Int) := hsd.symm
  have HSD : Hid ((sd : Int) = seed % 4294967296) := hsd
  clear hsd
  go_enter Try.func12, Try.ntmps12
  go_wp2_with fail
  refine (newHasher sd _ hsl).mono ?_
  rintro e w1 ⟨rfl, hb1, hz1, hbel1⟩
  have H1 : Hid (HS w1 w.heap.size (.pointer none) [] sd ∧ Below w.heap.size w w1) := ⟨HS.start hb1, hbel1⟩
  clear hb1 hz1 hbel1 hcv
  go_wp2_with fail
  refine (take w.heap.size (.pointer none) [] sd s _ H1.out.1 (by simp; omega)).mono ?_
  rintro e w2 ⟨rfl, hb2, ho2⟩
  have H2 : Hid (HS w2 w.heap.size (.pointer none) (BL s) sd ∧ Below w.heap.size w w2) := ⟨hb2, H1.out.2.trans (ho2.below (Nat.le_refl _) H1.out.2.size)⟩
  clear hb2 ho2 H1
  go_wp2_with fail
  refine (sum w.heap.size (.pointer none) (BL s) sd _ H2.out.1 (by rw [BL_length]; omega) hsl (BL_lt s)).mono ?_
  rintro e w3 ⟨rfl, k, rfl⟩
  rw [HHH.out]
  go_wp2
  go_ret
  exact ⟨rfl, below_drewN H2.out.2 k⟩
theorem newHasher_arg (seed : Int) (w : World) (h : seed < 0 ∨ 4294967295 < seed) :
    Calls Try.prog 16 #[.int .i64 seed] w fun e w' => e = .returned (.tuple #[.pointer none, .int .i64 1]) ∧ w' = w := by
  go_enter Try.func16, Try.ntmps16
  go_wp2_with fail
  refine (isWord_no seed _ h).mono ?_
  rintro e w1 ⟨rfl, rfl⟩
  go_wp2
  go_ret2
  exact ⟨rfl, rfl⟩
theorem newHasher_ok (seed : Nat) (w : World) (hs : seed < 4294967296) :
    Calls Try.prog 16 #[.int .i64 seed] w fun e w' => e = .returned (.tuple #[.pointer (some ⟨w.heap.size, 0, none⟩), .int .i64 0]) ∧ HS w' w.heap.size (.pointer (some ⟨w.heap.size, 0, none⟩)) [] seed ∧ w'.heap.size = w.heap.size + 1 ∧ Below w.heap.size w w' := by
  have hsm : (seed : Int) % 4294967296 = (seed : Int) := by omega
  go_enter Try.func16, Try.ntmps16
  go_wp2_with fail
  refine (isWord_yes seed _ (by omega) (by omega)).mono ?_
  rintro e w1 ⟨rfl, rfl⟩
  go_wp2_with fail
  refine (newHasher seed _ hs).mono ?_
  rintro e w2 ⟨rfl, hb2, hz2, hbel2⟩
  have h0 := hb2.self
  have hf := hb2.free 0
  have H2 : Hid _ := (⟨hb2, hz2, hbel2⟩ : _ ∧ _ ∧ _)
  clear hb2 hz2 hbel2
  go_wp2
  go_ret2
  obtain ⟨q1, q2, q3⟩ := H2.out
  refine ⟨rfl, HS.start (q1.setSelf _), by simpa [World.setCell] using q2, q3.setCell (Nat.le_refl _) (p := ⟨_, 0, none⟩) _⟩
theorem hwrite (b : Nat) (l : List Nat) (seed : Nat) (s : ByteArray) (w : World) (h : HS w b (.pointer (some ⟨b, 0, none⟩)) l seed) (hlen : l.length + s.size ≤ 4611686018427387904) :
    Calls Try.prog 17 #[.pointer (some ⟨b, 0, none⟩), .string s] w fun e w' => e = .returned (.int .i64 0) ∧ HS w' b (.pointer (some ⟨b, 0, none⟩)) (l ++ BL s) seed ∧ Only b w w' := by
  have HH : Hid (HS w b (.pointer (some ⟨b, 0, none⟩)) l seed) := h
  have HL : Hid (l.length + s.size ≤ 4611686018427387904) := hlen
  clear h hlen
  go_enter Try.func17, Try.ntmps17
  go_wp2_with fail
  refine (given_yes b _ HH.out.self).mono ?_
  rintro e w1 ⟨rfl, rfl⟩
  go_wp2_with fail
  refine (take b _ l seed s _ HH.out HL.out).mono ?_
  rintro e w2 ⟨rfl, hb2, ho2⟩
  have H2 : Hid _ := (⟨hb2, ho2⟩ : _ ∧ _)
  clear hb2 ho2 HH
  go_wp2
  go_ret
  exact ⟨rfl, H2.out⟩
theorem hsum (b : Nat) (l : List Nat) (seed : Nat) (w : World) (h : HS w b (.pointer (some ⟨b, 0, none⟩)) l seed) (hlen : l.length ≤ 4611686018427387904) (hseed : seed < 4294967296) (hl : ∀ x ∈ l, x < 256) :
    Calls Try.prog 18 #[.pointer (some ⟨b, 0, none⟩)] w fun e w' => e = .returned (.int .i64 (hashOf l seed : Nat)) ∧ ∃ k, w' = w.drewN k := by
  have hhl := hashOf_lt l seed
  obtain ⟨H, hH⟩ : ∃ H, hashOf l seed = H := ⟨_, rfl⟩
  rw [hH] at hhl
  rw [hH]
  have HHH : Hid (hashOf l seed = H) := hH
  clear hH
  have HH : Hid (HS w b (.pointer (some ⟨b, 0, none⟩)) l seed) := h
  have HL : Hid (l.length ≤ 4611686018427387904) := hlen
  have HLL : Hid (∀ x ∈ l, x < 256) := hl
  clear h hlen hl
  go_enter Try.func18, Try.ntmps18
  go_wp2_with fail
  refine (given_yes b _ HH.out.self).mono ?_
  rintro e w1 ⟨rfl, hw1⟩
  obtain rfl := hw1.symm
  go_wp2_with fail
  refine (sum b _ l seed _ HH.out HL.out hseed HLL.out).mono ?_
  rintro e w2 ⟨rfl, k, rfl⟩
  rw [HHH.out]
  go_wp2
  go_ret
  exact ⟨rfl, k, rfl⟩
theorem crc9 : crcOf [49, 50, 51, 52, 53, 54, 55, 56, 57] = 3808858755 := by decide +kernel
theorem hash0 : hashOf [] 0 = 46947589 := by decide +kernel
end Go.Proofs.Ytofjkopfldgkcaa
