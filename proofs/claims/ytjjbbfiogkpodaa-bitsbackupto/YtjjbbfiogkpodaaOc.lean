/- The walk of BitsReads. -/
import Derived.Test.YtjjbbfiogkpodaaOb
namespace Go.Proofs.Ytjjbbfiogkpodaa
open Go.RowKit
set_option linter.unusedVariables false

/-- A row of operations in memory: what each one's four cells hold. -/
structure OpsAt (w : World) (b off len : Nat) (fk fx fn : Nat → Int) (ft : Nat → ByteArray) : Prop where
  kind : ∀ i, i < len → w.cell? ⟨b, off + i * 4, none⟩ = some (.int .i64 (fk i))
  x : ∀ i, i < len → w.cell? ⟨b, off + i * 4 + 1, none⟩ = some (.int .i64 (fx i))
  n : ∀ i, i < len → w.cell? ⟨b, off + i * 4 + 2, none⟩ = some (.int .i64 (fn i))
  text : ∀ i, i < len → w.cell? ⟨b, off + i * 4 + 3, none⟩ = some (.string (ft i))
  lt : b < w.heap.size
set_option maxHeartbeats 1000000 in
theorem reads_walk (s : ByteArray) (bo off len cap : Nat) (fk fx fn : Nat → Int) (ft : Nat → ByteArray) (w : World) (hs : s.size ≤ 140737488351232) (hl : len ≤ 9223372036854775807) (ho : OpsAt w bo off len fk fx fn ft) :
    Calls Try.prog 3 #[.string s, .slice (some ⟨bo, off, none⟩) len cap] w fun e w' => e = .returned (.bool true) ∧ Below w.heap.size w w' := by
  have Hs : Hid (s.size ≤ 281474976710656) := by unfold Hid; omega
  have HO : Hid (OpsAt w bo off len fk fx fn ft) := ho
  clear ho
  go_enter Try.func3, Try.ntmps3
  go_wp2_with fail
  refine (newReader _ _ Hs.out).mono ?_
  rintro e w1 ⟨b, rfl, hl1, hs1, hr1, hb1⟩
  have HR1 : Hid (RS w1 b s 0 ∧ w.heap.size ≤ b ∧ Below w.heap.size w w1) := ⟨hr1, hl1, hb1⟩
  clear hl1 hs1 hr1 hb1
  go_wp2
  go_loopw [6, 7] (fun a i wr => ∃ (p j : Nat), j ≤ len ∧ p ≤ 8 * s.size ∧ a = .int .i64 p ∧ i = .int .i64 j ∧ Hid (RS wr b s p ∧ Below w.heap.size w wr)) (fun _ i _ => len - (intOf i).toNat)
  case atStart => exact ⟨0, 0, Nat.zero_le _, Nat.zero_le _, rfl, rfl, HR1.out.1, HR1.out.2.2⟩
  case round =>
    obtain ⟨p, j, hj, hp, rfl, rfl, hR⟩ := hrel
    by_cases hlt : j < len
    · have c0 : wr.cell? ⟨bo, off + j * 4, none⟩ = some (.int .i64 (fk j)) := (hR.out.2.cell (p := ⟨bo, off + j * 4, none⟩) HO.out.lt).trans (HO.out.kind j hlt)
      have c1 : wr.cell? ⟨bo, off + j * 4 + 1, none⟩ = some (.int .i64 (fx j)) := (hR.out.2.cell (p := ⟨bo, off + j * 4 + 1, none⟩) HO.out.lt).trans (HO.out.x j hlt)
      have c2 : wr.cell? ⟨bo, off + j * 4 + 2, none⟩ = some (.int .i64 (fn j)) := (hR.out.2.cell (p := ⟨bo, off + j * 4 + 2, none⟩) HO.out.lt).trans (HO.out.n j hlt)
      have c3 : wr.cell? ⟨bo, off + j * 4 + 3, none⟩ = some (.string (ft j)) := (hR.out.2.cell (p := ⟨bo, off + j * 4 + 3, none⟩) HO.out.lt).trans (HO.out.text j hlt)
      go_wp2_with fail
      refine (reads_any (fk j) (fx j) (fn j) (ft j) s b p wr hp Hs.out hR.out.1).mono ?_
      rintro e w2 ⟨nxt, rfl, hn2, hr2, ho2⟩
      have H2 : Hid (RS w2 b s nxt ∧ Below w.heap.size w w2) := ⟨hr2, hR.out.2.trans (ho2.below HR1.out.2.1 hR.out.2.size)⟩
      clear hr2 ho2
      go_wp2_with fail
      refine (rplace b nxt w2 H2.out.1.cells.1 H2.out.1.cells.2.2.1).mono ?_
      rintro e w3 ⟨rfl, hw3⟩
      subst hw3
      go_wp2
      go_roundw
      case rel => exact ⟨nxt, j + 1, by omega, hn2, rfl, by go_num, H2⟩
      case measure => simp [intOf]; omega
    · go_wp2_with fail
      refine (awake _).mono ?_
      rintro e w7 ⟨rfl, hb7⟩
      go_wp2
      go_ret
      exact ⟨rfl, hR.out.2.trans (hb7.mono hR.out.2.size)⟩
set_option maxHeartbeats 1000000 in
theorem reads_walk0 (s : ByteArray) (a : Option Addr) (cap : Nat) (w : World) (hs : s.size ≤ 140737488351232) :
    Calls Try.prog 3 #[.string s, .slice a 0 cap] w fun e w' => e = .returned (.bool true) ∧ Below w.heap.size w w' := by
  have Hs : Hid (s.size ≤ 281474976710656) := by unfold Hid; omega
  go_enter Try.func3, Try.ntmps3
  go_wp2_with fail
  refine (newReader _ _ Hs.out).mono ?_
  rintro e w1 ⟨b, rfl, hl1, hs1, hr1, hb1⟩
  have HR1 : Hid (Below w.heap.size w w1) := hb1
  clear hl1 hs1 hr1 hb1
  go_wp2
  go_loopw [6, 7] (fun a i wr => i = .int .i64 0 ∧ Hid (Below w.heap.size w wr)) (fun _ i _ => 0 - (intOf i).toNat)
  case atStart => exact ⟨rfl, HR1⟩
  case round =>
    obtain ⟨rfl, hR⟩ := hrel
    go_wp2_with fail
    refine (awake _).mono ?_
    rintro e w7 ⟨rfl, hb7⟩
    go_wp2
    go_ret
    exact ⟨rfl, hR.out.trans (hb7.mono hR.out.size)⟩
end Go.Proofs.Ytjjbbfiogkpodaa
