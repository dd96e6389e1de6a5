/- The document's functions: May, Check, number, Rise, Same. -/
import Derived.Test.YtpjjenhimnkdcaaV07
namespace Go.Proofs.Ytpjjenhimnkdcaa
open Go.RowKit
set_option linter.unusedVariables false

theorem isEmpty_eq (L : ByteArray) : L.toList.isEmpty = decide (L.size = 0) := by
  rw [ByteArray.toList_eq]
  have : L.size = L.data.toList.length := (Array.length_toList).symm
  rw [this]
  cases L.data.toList <;> simp
set_option maxHeartbeats 1000000 in
theorem may_ok (off : Int) (key val : ByteArray) (gone : Bool) (w : World) (hk : key.size ≤ 9223372036854775807) (hv : val.size ≤ 9223372036854775807) :
    Calls Try.prog 45 #[.agg #[.int .i64 off, .string key, .string val, .bool gone]] w fun e w' => e = .returned (.bool (mayB ⟨off, key, val, gone⟩)) ∧ Below w.heap.size w w' := by
  have HB : Hid (Below w.heap.size w (w.alloc (.cells #[.int .i64 off, .string key, .string val, .bool gone] 47))) := (Below.refl _ _).alloc (Nat.le_refl _) _
  have HM : Hid (mayB ⟨off, key, val, gone⟩ = true ↔ offB off = true ∧ key.size ≤ 64 ∧ val.size ≤ 4096 ∧ (gone = true → val.size = 0)) := mayB_iff ⟨off, key, val, gone⟩
  obtain ⟨m, hm⟩ : ∃ m, mayB ⟨off, key, val, gone⟩ = m := ⟨_, rfl⟩
  rw [hm] at HM ⊢
  clear hm
  have ho : offB off = true ↔ 0 ≤ off ∧ off < 1099511627776 := by unfold offB; simp
  have hie := isEmpty_eq val
  by_cases h : 0 ≤ off ∧ off < 1099511627776 ∧ key.size ≤ 64 ∧ val.size ≤ 4096 ∧ (gone = true → val.size = 0)
  · obtain rfl : m = true := HM.out.2 ⟨ho.2 ⟨h.1, h.2.1⟩, h.2.2⟩
    obtain ⟨h1, h2, h3, h4, h5⟩ := h
    cases gone
    · clear h5
      go_enter Try.func45, Try.ntmps45
      go_wp2
      go_ret
      exact ⟨rfl, HB.out⟩
    · have h6 : val.toList.isEmpty = true := by rw [hie]; exact decide_eq_true (h5 rfl)
      clear h5 hie
      go_enter Try.func45, Try.ntmps45
      go_wp2
      go_ret
      exact ⟨rfl, HB.out⟩
  · obtain rfl : m = false := by
      cases m
      · rfl
      · have h1 := HM.out.1 rfl
        exact absurd ⟨(ho.1 h1.1).1, (ho.1 h1.1).2, h1.2⟩ h
    clear ho
    by_cases h1 : 0 ≤ off
    · by_cases h2 : off < 1099511627776
      · by_cases h3 : key.size ≤ 64
        · by_cases h4 : val.size ≤ 4096
          · cases gone
            · exact absurd ⟨h1, h2, h3, h4, fun h => absurd h (by decide)⟩ h
            · have h6 : val.toList.isEmpty = false := by
                rw [hie]
                exact decide_eq_false (fun h0 => h ⟨h1, h2, h3, h4, fun _ => h0⟩)
              clear hie h
              go_enter Try.func45, Try.ntmps45
              go_wp2
              go_ret
              exact ⟨rfl, HB.out⟩
          · clear h hie
            go_enter Try.func45, Try.ntmps45
            go_wp2
            go_ret
            exact ⟨rfl, HB.out⟩
        · clear h hie
          go_enter Try.func45, Try.ntmps45
          go_wp2
          go_ret
          exact ⟨rfl, HB.out⟩
      · clear h hie
        go_enter Try.func45, Try.ntmps45
        go_wp2
        go_ret
        exact ⟨rfl, HB.out⟩
    · clear h hie
      go_enter Try.func45, Try.ntmps45
      go_wp2
      go_ret
      exact ⟨rfl, HB.out⟩
theorem rnumber_ok (n : Nat) (w : World) (hn : n ≤ 9223372036854775807) :
    Calls Try.prog 36 #[.int .i64 n] w fun e w' => e = .returned (.string (mk (vb n))) ∧ Below w.heap.size w w' := by
  have HP : Hid (∀ W, Calls Try.prog 46 #[.int .i64 n] W fun e w' => e = .returned (.tuple #[.string (mk (vb n)), .int .i64 0]) ∧ Below W.heap.size W w') := fun W => refPutVar n W hn
  generalize mk (vb n) = z at HP
  go_enter Try.func36, Try.ntmps36
  go_wp2_with fail
  refine (HP.out _).mono ?_
  rintro e w1 ⟨rfl, hb1⟩
  have HB1 : Hid (Below w.heap.size w w1) := hb1
  clear hb1
  go_wp2
  go_ret
  exact ⟨rfl, HB1.out⟩
end Go.Proofs.Ytpjjenhimnkdcaa
