/- Records: what may be, their bytes; the small functions of package record. -/
import Derived.Test.YtfjmcgdpiohnbaaVd
namespace Go.Proofs.Ytfjmcgdpiohnbaa
open Go.RowKit
set_option linter.unusedVariables false

/-- A record. -/
structure Rec where
  off : Int
  key : ByteArray
  val : ByteArray
  gone : Bool
def Rec.cs (r : Rec) : List Value := [.int .i64 r.off, .string r.key, .string r.val, .bool r.gone]
def Rec.v (r : Rec) : Value := .agg #[.int .i64 r.off, .string r.key, .string r.val, .bool r.gone]
/-- May it be? -/
def mayB (r : Rec) : Bool := decide (0 ≤ r.off) && decide (r.off < 1099511627776) && decide (r.key.size ≤ 64) && decide (r.val.size ≤ 4096) && (!r.gone || decide (r.val.size = 0))
def errN (b : Bool) : Int := if b then 0 else 90
def offB (n : Int) : Bool := decide (0 ≤ n) && decide (n < 1099511627776)
theorem isOffset_ok (n : Int) (w : World) :
    Calls Try.prog 18 #[.int .i64 n] w fun e w' => e = .returned (.bool (offB n)) ∧ w' = w := by
  by_cases h : 0 ≤ n
  · have e : offB n = decide (n < 1099511627776) := by unfold offB; rw [decide_eq_true h]; rfl
    rw [e]
    clear e
    go_enter Try.func18, Try.ntmps18
    go_wp2
    go_ret
    exact ⟨rfl, rfl⟩
  · have e : offB n = false := by unfold offB; rw [decide_eq_false h]; rfl
    rw [e]
    clear e
    go_enter Try.func18, Try.ntmps18
    go_wp2
    go_ret
    exact ⟨rfl, rfl⟩
theorem mayB_false {r : Rec} (h : ¬ mayB r = true) : mayB r = false := by simpa using h
theorem mayB_iff (r : Rec) : mayB r = true ↔ offB r.off = true ∧ r.key.size ≤ 64 ∧ r.val.size ≤ 4096 ∧ (r.gone = true → r.val.size = 0) := by
  obtain ⟨off, key, val, gone⟩ := r
  unfold mayB offB
  simp only [Bool.and_eq_true, decide_eq_true_eq, Bool.or_eq_true, Bool.not_eq_true']
  cases gone
  · simp only [true_or, and_true]; constructor
    · intro h; exact ⟨h.1.1, h.1.2, h.2, fun h => absurd h (by decide)⟩
    · intro h; exact ⟨⟨h.1, h.2.1⟩, h.2.2.1⟩
  · simp only [Bool.true_eq_false, false_or]; constructor
    · intro h; exact ⟨h.1.1.1, h.1.1.2, h.1.2, fun _ => h.2⟩
    · intro h; exact ⟨⟨⟨h.1, h.2.1⟩, h.2.2.1⟩, h.2.2.2 trivial⟩
theorem check_ok (off : Int) (key val : ByteArray) (gone : Bool) (w : World) (hk : key.size ≤ 9223372036854775807) (hv : val.size ≤ 9223372036854775807) :
    Calls Try.prog 11 #[.agg #[.int .i64 off, .string key, .string val, .bool gone]] w fun e w' => e = .returned (.int .i64 (errN (mayB ⟨off, key, val, gone⟩))) ∧ Below w.heap.size w w' := by
  have HB : Hid (Below w.heap.size w (w.alloc (.cells #[.int .i64 off, .string key, .string val, .bool gone] 28))) := (Below.refl _ _).alloc (Nat.le_refl _) _
  have HM : Hid (mayB ⟨off, key, val, gone⟩ = true ↔ offB off = true ∧ key.size ≤ 64 ∧ val.size ≤ 4096 ∧ (gone = true → val.size = 0)) := mayB_iff ⟨off, key, val, gone⟩
  have HO := isOffset_ok off
  obtain ⟨m, hm⟩ : ∃ m, mayB ⟨off, key, val, gone⟩ = m := ⟨_, rfl⟩
  rw [hm] at HM ⊢
  clear hm
  generalize offB off = ob at HO HM
  have ht : errN true = 0 := rfl
  have hf : errN false = 90 := rfl
  cases ob
  · obtain rfl : m = false := by cases m; rfl; exact absurd (HM.out.1 rfl).1 (by decide)
    go_enter Try.func11, Try.ntmps11
    cases gone
    all_goals
      go_wp2_with (go_at_call 18; refine (HO _).mono ?_; rintro e w' ⟨rfl, rfl⟩)
      go_ret
      exact ⟨rfl, HB.out⟩
  · by_cases h3 : key.size ≤ 64
    · cases gone
      · by_cases h4 : val.size ≤ 4096
        · obtain rfl : m = true := HM.out.2 ⟨rfl, h3, h4, fun h => absurd h (by decide)⟩
          go_enter Try.func11, Try.ntmps11
          go_wp2_with (go_at_call 18; refine (HO _).mono ?_; rintro e w' ⟨rfl, rfl⟩)
          go_ret
          exact ⟨rfl, HB.out⟩
        · obtain rfl : m = false := by cases m; rfl; exact absurd (HM.out.1 rfl).2.2.1 h4
          go_enter Try.func11, Try.ntmps11
          go_wp2_with (go_at_call 18; refine (HO _).mono ?_; rintro e w' ⟨rfl, rfl⟩)
          go_ret
          exact ⟨rfl, HB.out⟩
      · by_cases h4 : 0 < val.size
        · obtain rfl : m = false := by cases m; rfl; exact absurd ((HM.out.1 rfl).2.2.2 rfl) (by omega)
          go_enter Try.func11, Try.ntmps11
          go_wp2_with (go_at_call 18; refine (HO _).mono ?_; rintro e w' ⟨rfl, rfl⟩)
          go_ret
          exact ⟨rfl, HB.out⟩
        · obtain rfl : m = true := HM.out.2 ⟨rfl, h3, by omega, fun _ => by omega⟩
          go_enter Try.func11, Try.ntmps11
          go_wp2_with (go_at_call 18; refine (HO _).mono ?_; rintro e w' ⟨rfl, rfl⟩)
          go_ret
          exact ⟨rfl, HB.out⟩
    · obtain rfl : m = false := by cases m; rfl; exact absurd (HM.out.1 rfl).2.1 h3
      go_enter Try.func11, Try.ntmps11
      cases gone
      all_goals
        go_wp2_with (go_at_call 18; refine (HO _).mono ?_; rintro e w' ⟨rfl, rfl⟩)
        go_ret
        exact ⟨rfl, HB.out⟩
end Go.Proofs.Ytfjmcgdpiohnbaa
