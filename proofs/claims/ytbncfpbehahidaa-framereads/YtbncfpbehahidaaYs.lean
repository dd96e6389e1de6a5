/- Layer 6: the longest copy that tells what stands at a place. -/
import Derived.Test.YtbncfpbehahidaaYr
namespace Go.Proofs.Ytbncfpbehahidaa
open Go.RowKit
set_option linter.unusedVariables false
set_option maxRecDepth 20000

/-- Places are tried, so many, from one on: the longest copy and how far back. -/
def chain (s : ByteArray) (k most : Nat) : Nat → Option Nat → Nat → Nat → Nat × Nat
  | 0, _, len, dist => (len, dist)
  | _ + 1, none, len, dist => (len, dist)
  | t + 1, some p, len, dist =>
    if 65535 < k - p then (len, dist) else
    if len < alikeF s p k len most then
      if alikeF s p k len most = most then (alikeF s p k len most, k - p) else chain s k most t (lastP s p (four s p)) (alikeF s p k len most) (k - p)
    else chain s k most t (lastP s p (four s p)) len dist
def copyAt (s : ByteArray) (k : Nat) : Nat × Nat := chain s k (s.size - 5 - k) 100 (lastP s k (four s k)) 0 0
theorem enc_b (o : Option Nat) {k : Nat} (h : ∀ p, o = some p → p < k) : -1 ≤ enc32 o ∧ enc32 o < (k : Int) ∨ enc32 o = -1 := by
  cases o with
  | none => right; rfl
  | some p => left; have := h p rfl; simp [enc32]; omega
theorem alikeF_le (s : ByteArray) (a b fl most : Nat) : alikeF s a b fl most ≤ most := by
  unfold alikeF
  split
  · have := (runL_le s a b most 0).2.1; omega
  · omega
theorem chain_none (s : ByteArray) (k most len dist : Nat) : ∀ t, chain s k most t none len dist = (len, dist)
  | 0 => rfl
  | _ + 1 => rfl
theorem chain_far (s : ByteArray) (k most p len dist : Nat) (h : 65535 < k - p) : ∀ t, chain s k most t (some p) len dist = (len, dist)
  | 0 => rfl
  | t + 1 => by unfold chain; rw [if_pos h]
theorem FS.oldAt {w : World} {f mb ob : Nat} {s : ByteArray} {k i : Nat} (h : FS w f mb ob s k) (hi : i < k) : w.cell? ⟨ob, i, none⟩ = some (.int .i32 (enc32 (lastP s i (four s i)))) := by
  obtain ⟨cs, hc, hz, h1⟩ := h.old
  simp [World.cell?, hc, h1 i hi]
set_option maxRecDepth 20000 in
set_option maxHeartbeats 1000000 in
theorem copyAt_ok (w : World) (f mb ob : Nat) (s : ByteArray) (k : Nat) (h : FS w f mb ob s k) (hk : k + 12 ≤ s.size) :
    Calls Try.prog 54 #[.pointer (some ⟨f, 0, none⟩), .int .i64 k] w fun e w' => e = .returned (.tuple #[.int .i64 ((copyAt s k).1 : Nat), .int .i64 ((copyAt s k).2 : Nat)]) ∧ Below w.heap.size w w' := by
  obtain ⟨r, hr⟩ : ∃ r, copyAt s k = r := ⟨_, rfl⟩
  rw [hr]
  unfold copyAt at hr
  have hs := h.small
  obtain ⟨most, hmost⟩ : ∃ m, s.size - 5 - k = m := ⟨_, rfl⟩
  rw [hmost] at hr
  have HR : Hid (chain s k most 100 (lastP s k (four s k)) 0 0 = r) := hr
  have H : Hid (FS w f mb ob s k) := h
  have HF4 : Hid (∀ _ : Unit, Calls Try.prog 63 #[.pointer (some ⟨f, 0, none⟩), .int .i64 k] w fun e w' => e = .returned (fourV s k) ∧ Below w.heap.size w w') := fun _ => fourAt_ok w f s k h.cells.1 (by omega) hs
  obtain ⟨c0, c1, c2⟩ := h.cells
  have hmi : (s.size : Int) - 5 - (k : Int) = (most : Int) := by omega
  have hm7 : 7 ≤ most := by omega
  have hmb : k + most ≤ s.size := by omega
  clear h hr
  go_enter Try.func54, Try.ntmps54
  go_wp2_with fail
  refine (HF4.out ()).mono ?_
  rintro e w1 ⟨rfl, hb1⟩
  obtain ⟨o, ho⟩ : ∃ o, lastP s k (four s k) = o := ⟨_, rfl⟩
  have hop : ∀ p, o = some p → p < k := fun p hp => (lastP_some (ho.trans hp)).1
  have HLM : Hid (∀ _ : Unit, Calls Try.prog 62 #[.pointer (some ⟨f, 0, none⟩), fourV s k] w1 fun e w' => e = .returned (.int .i32 (enc32 o)) ∧ Below w1.heap.size w1 w') := fun _ => by
    have h1 := lastMet_ok w1 f mb ob s k k (H.out.below hb1)
    rw [ho] at h1
    exact h1
  obtain ⟨E, hE⟩ : ∃ E, enc32 o = E := ⟨_, rfl⟩
  rw [hE] at HLM
  have hEb := enc_b o (k := k) hop
  rw [hE] at hEb
  have hkb : k ≤ 1048576 := by omega
  have hEw : wrap64 E = E := by unfold wrap64; omega
  have HO : Hid (enc32 o = E ∧ (∀ p, o = some p → p < k) ∧ chain s k most 100 o 0 0 = r) := ⟨hE, hop, by rw [← ho]; exact HR.out⟩
  have HB1 : Hid (Below w.heap.size w w1) := hb1
  clear ho hop hE hb1 HF4 HR c0 c1 c2
  go_wp2_with fail
  refine (HLM.out ()).mono ?_
  rintro e w2 ⟨rfl, hb2⟩
  have HB2 : Hid (Below w.heap.size w w2) := HB1.out.trans (hb2.mono HB1.out.size)
  clear hb2 HLM
  go_wp2_with fail
  clear hmi hEw hEb hmost
  go_loopw [4, 5, 7, 8] (fun x4 x5 x7 x8 wr => ∃ (len dist t : Nat) (o : Option Nat), x4 = .int .i64 (len : Nat) ∧ x5 = .int .i64 (dist : Nat) ∧ x7 = .int .i64 (enc32 o) ∧ x8 = .int .i64 (t : Nat) ∧ t ≤ 100 ∧ len < most ∧ Hid ((∀ p, o = some p → p < k) ∧ chain s k most (100 - t) o len dist = r ∧ Below w.heap.size w wr)) (fun _ _ _ x8 _ => 100 - (intOf x8).toNat)
  case atStart => exact ⟨0, 0, 0, o, rfl, rfl, by rw [HO.out.1], rfl, by omega, by omega, HO.out.2.1, HO.out.2.2, HB2.out⟩
  case round =>
    obtain ⟨len, dist, t, o', rfl, rfl, rfl, rfl, ht, hlen, HS⟩ := hrel
    cases o' with
    | none =>
      have hch := HS.out.2.1
      rw [chain_none] at hch
      have HE : Hid (r = (len, dist)) := hch.symm
      have hen : enc32 none = -1 := rfl
      clear hch
      rw [hen]
      go_wp2
      go_ret2
      rw [HE.out]
      exact ⟨rfl, HS.out.2.2⟩
    | some p =>
      have hpk := HS.out.1 p rfl
      have hen : enc32 (some p) = (p : Int) := rfl
      rw [hen]
      have hp1 : ((p : Int) != -1) = true := by simp
      obtain ⟨d, hd⟩ : ∃ d, k - p = d := ⟨_, rfl⟩
      have hdi : (k : Int) - (p : Int) = (d : Int) := by omega
      have hdw := wrapN d (by omega)
      clear hen
      by_cases hfar : 65535 < d
      · have hch := HS.out.2.1
        rw [chain_far _ _ _ _ _ _ (by rw [hd]; exact hfar)] at hch
        have HE : Hid (r = (len, dist)) := hch.symm
        have hfi : decide ((d : Int) ≤ 65535) = false := by simp; omega
        have hfj : ¬ (d : Int) ≤ 65535 := by omega
        clear hch
        go_wp2
        go_ret2
        rw [HE.out]
        exact ⟨rfl, HS.out.2.2⟩
      · have hfi : decide ((d : Int) ≤ 65535) = true := by simp; omega
        have hfj : (d : Int) ≤ 65535 := by omega
        by_cases h100 : t < 100
        · have hti : decide ((t : Int) < 100) = true := by simp; omega
          have htj : (t : Int) < 100 := by omega
          have hFS : FS wr f mb ob s k := H.out.below HS.out.2.2
          have HA : Hid (∀ _ : Unit, Calls Try.prog 64 #[.pointer (some ⟨f, 0, none⟩), .int .i64 p, .int .i64 k, .int .i64 len, .int .i64 most] wr fun e w' => e = .returned (.int .i64 (alikeF s p k len most : Nat)) ∧ ∃ j, w' = wr.drewN j) := fun _ => alike_ok wr f s p k len most hFS.cells.1 (by omega) hlen hmb hs
          have hal := alikeF_le s p k len most
          have hch := HS.out.2.1
          rw [show 100 - t = (100 - (t + 1)) + 1 by omega, chain, hd, if_neg (by omega)] at hch
          obtain ⟨n, hn⟩ : ∃ n, alikeF s p k len most = n := ⟨_, rfl⟩
          rw [hn] at HA hal hch
          have HCH : Hid (_ = r) := hch
          have hold := hFS.oldAt hpk
          have hE2 := enc_b (lastP s p (four s p)) (k := k) (fun q hq => by have := (lastP_some hq).1; omega)
          obtain ⟨E2, hE2'⟩ : ∃ E, enc32 (lastP s p (four s p)) = E := ⟨_, rfl⟩
          rw [hE2'] at hold hE2
          have hE2w : wrap64 E2 = E2 := by unfold wrap64; omega
          have HE2 : Hid (enc32 (lastP s p (four s p)) = E2 ∧ ∀ q, lastP s p (four s p) = some q → q < k) := ⟨hE2', fun q hq => by have := (lastP_some hq).1; omega⟩
          obtain ⟨c0, c1, c2⟩ := hFS.cells
          have hpi : (p : Int) < (s.size : Int) := by omega
          have hps : p < s.size := by omega
          clear hch hn hE2' hFS hE2
          go_wp2_with fail
          refine (HA.out ()).mono ?_
          rintro e w3 ⟨rfl, j, rfl⟩
          have HB3 : Hid (Below w.heap.size w (wr.drewN j)) := HS.out.2.2.trans (Below.drewN' _ _ _)
          by_cases hgt : len < n
          · have hgi : (len : Int) < (n : Int) := by omega
            have hch := HCH.out
            rw [if_pos hgt] at hch
            by_cases hmx : n = most
            · rw [if_pos hmx] at hch
              have HE : Hid (r = (most, d)) := by show _ = _; rw [← hmx]; exact hch.symm
              have hmb : ((n : Int) == (most : Int)) = true := by simp [hmx]
              clear hch HCH
              go_wp2
              go_ret2
              rw [HE.out]
              exact ⟨rfl, HB3.out⟩
            · rw [if_neg hmx] at hch
              have HN : Hid ((∀ q, lastP s p (four s p) = some q → q < k) ∧ chain s k most (100 - (t + 1)) (lastP s p (four s p)) n d = r ∧ Below w.heap.size w (wr.drewN j)) := ⟨HE2.out.2, hch, HB3.out⟩
              have hmb : ((n : Int) == (most : Int)) = false := by simp; omega
              clear hch HCH
              go_wp2
              exact ⟨⟨n, d, t + 1, lastP s p (four s p), rfl, rfl, by rw [HE2.out.1, hE2w], by go_num, by omega, by omega, HN⟩, by simp [intOf]; omega⟩
          · have hgi : ¬ (len : Int) < (n : Int) := by omega
            have hch := HCH.out
            rw [if_neg hgt] at hch
            have HN : Hid ((∀ q, lastP s p (four s p) = some q → q < k) ∧ chain s k most (100 - (t + 1)) (lastP s p (four s p)) len dist = r ∧ Below w.heap.size w (wr.drewN j)) := ⟨HE2.out.2, hch, HB3.out⟩
            have hmb : ((len : Int) == (most : Int)) = false := by simp; omega
            clear hch HCH
            go_wp2
            exact ⟨⟨len, dist, t + 1, lastP s p (four s p), rfl, rfl, by rw [HE2.out.1, hE2w], by go_num, by omega, by omega, HN⟩, by simp [intOf]; omega⟩
        · obtain rfl : t = 100 := by omega
          have hch := HS.out.2.1
          have hch2 : (len, dist) = r := hch
          have HE : Hid (r = (len, dist)) := hch2.symm
          clear hch hch2
          go_wp2
          go_ret2
          rw [HE.out]
          exact ⟨rfl, HS.out.2.2⟩
end Go.Proofs.Ytbncfpbehahidaa
