/- A slice of texts that came in: what its cells hold; SumsMore's walk. -/
import Derived.Test.YtofjkopfldgkcaaSj
import Derived.SliceStrings
import Derived.ProofKit
import Derived.Deep.Slices
import Derived.Laws.Strings
namespace Go.Proofs.Ytofjkopfldgkcaa
open Go.RowKit
set_option linter.unusedVariables false

/-- The texts of a row that came in. -/
def StrsAt (W : World) (b off len : Nat) (f : Nat → ByteArray) : Prop := (∀ i, i < len → W.cell? ⟨b, off + i, none⟩ = some (.string (f i))) ∧ b < W.heap.size ∧ (∀ i, i < len → (f i).size ≤ 4611686018427387904)
theorem StrsAt.below {W w : World} {b off len : Nat} {f : Nat → ByteArray} (h : StrsAt W b off len f) (hb : Below W.heap.size W w) (i : Nat) (hi : i < len) : w.cell? ⟨b, off + i, none⟩ = some (.string (f i)) := by
  rw [hb.cell h.2.1]
  exact h.1 i hi
theorem BL_append (a b : ByteArray) : BL (a ++ b) = BL a ++ BL b := by simp [BL]
set_option maxRecDepth 20000 in
set_option maxHeartbeats 1000000 in
theorem sumsMore_walk (a : Option Addr) (b off len cap : Nat) (f : Nat → ByteArray) (crc0 : Int) (w : World) (hlen : len ≤ 9223372036854775807) (hst : len = 0 ∨ (a = some ⟨b, off, none⟩ ∧ StrsAt w b off len f)) :
    Calls Try.prog 5 #[.slice a len cap, .int .i64 crc0] w fun e w' => e = .returned (.bool true) ∧ Below w.heap.size w w' := by
  have HST : Hid (len = 0 ∨ (a = some ⟨b, off, none⟩ ∧ StrsAt w b off len f)) := hst
  clear hst
  obtain ⟨va, ve, hv1, hv2⟩ : ∃ (va ve : Nat), (∀ w1, Calls Try.prog 14 #[.int .i64 crc0, .string ⟨#[109, 111, 114, 101]⟩] w1 fun e w' => e = .returned (.tuple #[.int .i64 (va : Nat), .int .i64 (ve : Nat)]) ∧ Below w1.heap.size w1 w') ∧ (∀ w1, Calls Try.prog 15 #[.int .i64 crc0, .string ⟨#[109, 111, 114, 101]⟩] w1 fun e w' => e = .returned (.tuple #[.int .i64 (va : Nat), .int .i64 (ve : Nat)]) ∧ w' = w1) := by
    by_cases h : crc0 < 0 ∨ 4294967295 < crc0
    · exact ⟨0, 1, fun w1 => (crcMore_arg crc0 _ w1 h).mono fun e w' ⟨h1, h2⟩ => ⟨h1, by rw [h2]; exact Below.refl _ _⟩, fun w1 => refCrcMore_arg crc0 _ w1 h⟩
    · obtain ⟨c, hc⟩ : ∃ c : Nat, (c : Int) = crc0 := ⟨crc0.toNat, by omega⟩
      rw [← hc]
      exact ⟨_, 0, fun w1 => crcMore_ok c _ w1 (by omega) (by decide), fun w1 => refCrcMore_ok c _ w1 (by omega) (by decide)⟩
  have HV1 : Hid _ := hv1
  have HV2 : Hid _ := hv2
  clear hv1 hv2
  have h00 := fun w1 : World => crc ⟨#[]⟩ w1 (by decide)
  rw [show BL ⟨#[]⟩ = [] from rfl, show crcOf [] = 0 from by decide +kernel] at h00
  have H00 : Hid _ := h00
  clear h00
  go_enter Try.func5, Try.ntmps5
  go_wp2_with fail
  refine (HV1.out _).mono ?_
  rintro e w1 ⟨rfl, hb1⟩
  have H1 : Hid (Below w.heap.size w w1) := hb1
  clear hb1 HV1
  go_wp2_with fail
  refine (HV2.out _).mono ?_
  rintro e w2 ⟨rfl, hw2⟩
  obtain rfl := hw2.symm
  clear HV2
  go_wp2_with fail
  refine (H00.out _).mono ?_
  rintro e w3 ⟨rfl, hb3⟩
  have H3 : Hid (Below w.heap.size w w3) := H1.out.trans (hb3.mono H1.out.size)
  clear hb3 H00
  go_wp2
  go_loopw [9, 10, 11] (fun all c i wr => ∃ (j cc : Nat) (t : ByteArray), j ≤ len ∧ i = .int .i64 j ∧ all = .string t ∧ c = .int .i64 (cc : Nat) ∧ cc = crcOf (BL t) ∧ t.size ≤ 16384 ∧ Below w.heap.size w wr) (fun _ _ i _ => len - (intOf i).toNat)
  case atStart => exact ⟨0, 0, ⟨#[]⟩, Nat.zero_le _, rfl, rfl, rfl, by decide +kernel, by decide, H3.out⟩
  case round =>
    obtain ⟨j, cc, t, hj, rfl, rfl, rfl, hcc, ht, hbel⟩ := hrel
    have HCC : Hid (cc = crcOf (BL t)) := hcc
    have hccl : cc < 4294967296 := by rw [hcc]; exact crcOf_lt _ (BL_lt t)
    have HBE : Hid (Below w.heap.size w wr) := hbel
    clear hcc hbel
    by_cases hlt : j < len
    · obtain ⟨hA, hS⟩ : a = some ⟨b, off, none⟩ ∧ StrsAt w b off len f := by
        rcases HST.out with h | h
        · omega
        · exact h
      subst hA
      have hcell := hS.below HBE.out j hlt
      obtain ⟨p, hp⟩ : ∃ p, f j = p := ⟨_, rfl⟩
      rw [hp] at hcell
      have hpb : p.size ≤ 4611686018427387904 := by rw [← hp]; exact hS.2.2 j hlt
      clear hS hp
      by_cases hbig : 16384 < t.size + p.size
      · have hbi : (16384 : Int) < (t.size : Int) + (p.size : Int) := by omega
        go_wp2_with fail
        refine (awake _).mono ?_
        rintro e w4 ⟨rfl, hb4⟩
        have H4 : Hid (Below w.heap.size w w4) := HBE.out.trans (hb4.mono HBE.out.size)
        clear hb4
        go_wp2
        go_ret
        exact ⟨rfl, H4.out⟩
      · have hbi : ¬ ((16384 : Int) < (t.size : Int) + (p.size : Int)) := by omega
        have hM := fun w1 : World => crcMore_ok cc p w1 hccl (by omega)
        obtain ⟨c2, hc2⟩ : ∃ c2, crcFrom cc (BL p) = c2 := ⟨_, rfl⟩
        simp only [hc2] at hM
        have HM : Hid _ := hM
        have HC2 : Hid (c2 = crcOf (BL (t ++ p))) := by
          show _ = _
          rw [← hc2, HCC.out, crcFrom_append, BL_append]
        clear hM hc2
        go_wp2_with fail
        refine (HM.out _).mono ?_
        rintro e w4 ⟨rfl, hb4⟩
        have H4 : Hid (Below w.heap.size w w4) := HBE.out.trans (hb4.mono HBE.out.size)
        clear hb4
        go_wp2
        exact ⟨⟨j + 1, c2, t ++ p, by omega, by go_num, rfl, rfl, HC2.out, by simp; omega, H4.out⟩, by simp [intOf]; omega⟩
    · obtain rfl : j = len := by omega
      have hC := fun w1 : World => crc t w1 (by omega)
      rw [← HCC.out] at hC
      have HC : Hid _ := hC
      clear hC
      go_wp2_with fail
      refine (HC.out _).mono ?_
      rintro e w4 ⟨rfl, hb4⟩
      have H4 : Hid (Below w.heap.size w w4) := HBE.out.trans (hb4.mono HBE.out.size)
      clear hb4
      go_wp2_with fail
      refine (awake _).mono ?_
      rintro e w5 ⟨rfl, hb5⟩
      have H5 : Hid (Below w.heap.size w w5) := H4.out.trans (hb5.mono H4.out.size)
      clear hb5
      go_wp2
      go_ret
      exact ⟨rfl, H5.out⟩
theorem weightsAll_mem {H : Type} {P : Program} {e : TypeId} {l : List (DataW H)} {d : DataW H} {n : Nat} (hd : d ∈ l) (hn : n ∈ d.weights P e) : n ∈ DataW.weightsAll P e l := by
  induction l with
  | nil => cases hd
  | cons x r ih =>
    simp only [DataW.weightsAll]
    rcases List.mem_cons.1 hd with h | h
    · subst h; exact List.mem_append_left _ hn
    · exact List.mem_append_right _ (ih h)
theorem cellsStr : Try.prog.cellsOf 9 = 1 := by kernel_rfl
open Go.ChangeShapes in
theorem open_texts {H : Type} {enc : TypeId × Value → H} {W : World} {fuel : Nat} {a0 : Option Addr} {len cap : Nat} {x : DataW H × List MemPlace} (h : DataW.trod enc Try.prog W 0 (fun _ => true) true fuel 27 [.slice a0 len cap] = some x) (hwt : ∀ n ∈ x.1.weights Try.prog 27, n ≤ 140737488351232) :
    ∃ b off f, len ≤ 9223372036854775807 ∧ (len = 0 ∨ (a0 = some ⟨b, off, none⟩ ∧ StrsAt W b off len f)) := by
  rcases open_strings Try.underlying27 Try.underlying9 cellsStr h with ⟨hcs, hx⟩ | ⟨a, len', cap', ss, hcs, _, hl, hm, hz, hx, hcell, hws⟩
  · cases hcs; exact ⟨0, 0, fun _ => ⟨#[]⟩, by omega, .inl rfl⟩
  · cases hcs
    have hle : len ≤ ss.length := by rw [hz]; simp; exact hl
    have hlm : len ≤ 9223372036854775807 := by unfold maxLen at hm; omega
    rcases Nat.eq_zero_or_pos len with h0 | hpos
    · exact ⟨0, 0, fun _ => ⟨#[]⟩, hlm, .inl h0⟩
    · obtain ⟨b, off, spot⟩ := a
      have h0 := hcell 0 (by omega)
      have hsp : spot = none := World.cell?_spot (w := W) (a := ⟨b, off, spot⟩) (v := .string (ss.getD 0 ByteArray.empty)) (by simpa [Addr.add] using h0)
      subst hsp
      refine ⟨b, off, fun i => ss.getD i ByteArray.empty, hlm, .inr ⟨rfl, ?_, ?_, ?_⟩⟩
      · intro i hi
        have := hcell i (by omega)
        rw [addr_add] at this
        exact this
      · exact World.block_lt_of_cell? W ⟨b, off, none⟩ (u := .string (ss.getD 0 ByteArray.empty)) (by simpa [Addr.add] using h0)
      · intro i hi
        have hi' : i < ss.length := by omega
        have hmem : (ss[i].size : Nat) ∈ x.1.weights Try.prog 27 := by
          rw [hx]
          simp only [DataW.weights, Try.underlying27]
          refine List.mem_cons_of_mem _ (List.mem_append_left _ ?_)
          refine weightsAll_mem (d := .lit (.string ss[i].data.toList)) ?_ (by simp [DataW.weights])
          unfold strs
          exact List.mem_map_of_mem (List.mem_take_iff_getElem.2 ⟨i, by omega, rfl⟩)
        have := hwt _ hmem
        show (ss.getD i ByteArray.empty).size ≤ _
        rw [List.getD_eq_getElem?_getD, List.getElem?_eq_getElem hi']
        show ss[i].size ≤ _
        omega
end Go.Proofs.Ytofjkopfldgkcaa
