/- Hash, NewHasher, Write, Sum; awake. -/
import Derived.Test.YtofjkopfldgkcabSh
namespace Go.Proofs.Ytofjkopfldgkcab
open Go.RowKit
set_option linter.unusedVariables false

theorem HS.start {w : World} {b : Nat} {p : Value} {seed : Nat} (h : HB w b p seed (fun i => ini seed i) 0 (fun _ => 0)) : HS w b p [] seed :=
  ⟨fun _ => 0, h, fun k hk => by simp at hk, fun _ => by show 0 < 256; omega⟩
theorem HS.drewN {w : World} {b : Nat} {p : Value} {l : List Nat} {seed : Nat} (h : HS w b p l seed) (k : Nat) : HS (w.drewN k) b p l seed := h
theorem HS.below {w w' : World} {b B : Nat} {p : Value} {l : List Nat} {seed : Nat} (h : HS w b p l seed) (hb : Below B w w') (hlt : b < B) : HS w' b p l seed := by
  obtain ⟨L, h1, h2, h3⟩ := h
  exact ⟨L, h1.below hb hlt, h2, h3⟩
theorem HS.self {w : World} {b : Nat} {p : Value} {l : List Nat} {seed : Nat} (h : HS w b p l seed) : w.cell? ⟨b, 0, none⟩ = some p := by
  obtain ⟨L, h1, h2, h3⟩ := h
  exact h1.self
set_option maxHeartbeats 400000 in
theorem hash (s : ByteArray) (seed : Int) (sd : Nat) (w : World) (hs : s.size ≤ 140737488351232) (hsd : (sd : Int) = seed % 4294967296) :
    Calls Try.prog 7 #[.string s, .int .i64 seed] w fun e w' => e = .returned (.int .i64 (hashOf (BL s) sd : Nat)) ∧ Below w.heap.size w w' := by
  have hsl : sd < 4294967296 := by omega
  have hhl := hashOf_lt (BL s) sd
  obtain ⟨H, hH⟩ : ∃ H, hashOf (BL s) sd = H := ⟨_, rfl⟩
  rw [hH] at hhl
  rw [hH]
  have HHH : Hid (hashOf (BL s) sd = H) := hH
  clear hH
  have hcv : seed % 4294967296 = (sd : Int) := hsd.symm
  have HSD : Hid ((sd : Int) = seed % 4294967296) := hsd
  clear hsd
  go_enter Try.func7, Try.ntmps7
  go_wp2_with fail
  refine (newHasher sd _ hsl).mono ?_
  rintro e w1 ⟨rfl, hb1, hz1, hbel1⟩
  have H1 : Hid (HS w1 w.heap.size (.pointer none) [] sd ∧ Below w.heap.size w w1) := ⟨HS.start hb1, hbel1⟩
  clear hb1 hz1 hbel1 hcv
  go_wp2_with fail
  refine (take w.heap.size (.pointer none) [] sd s _ H1.out.1 (by simp; omega)).mono ?_
  rintro e w2 ⟨rfl, hb2, ho2⟩
  have H2 : Hid (HS w2 w.heap.size (.pointer none) (BL s) sd ∧ Below w.heap.size w w2) := ⟨hb2, H1.out.2.trans (ho2.below (Nat.le_refl _) H1.out.2.size)⟩
  clear hb2 ho2 H1
  go_wp2_with fail
  refine (sum w.heap.size (.pointer none) (BL s) sd _ H2.out.1 (by rw [BL_length]; omega) hsl (BL_lt s)).mono ?_
  rintro e w3 ⟨rfl, k, rfl⟩
  rw [HHH.out]
  go_wp2
  go_ret
  exact ⟨rfl, below_drewN H2.out.2 k⟩
theorem crc9 : crcOf [49, 50, 51, 52, 53, 54, 55, 56, 57] = 3808858755 := by decide +kernel
theorem hash0 : hashOf [] 0 = 46947589 := by decide +kernel
end Go.Proofs.Ytofjkopfldgkcab
