/- HuffCodes' walk. -/
import Derived.Test.YtjambofhkophcaaGr
import Derived.Test.YtjambofhkophcaaGw
namespace Go.Proofs.Ytjambofhkophcaa
open Go.RowKit PT
set_option linter.unusedVariables false

/-- What Codes gives: no slice and 30, or the words in a new row. -/
structure CodF (w w' : World) (xs : List Int) (ao : Option Addr) (M : Nat) (q : Int) (ys : List Int) : Prop where
  len : ys.length = M
  row : IRow w' ao ys
  bel : Below w.heap.size w w'
  what : (isCode xs = true ∧ q = 0 ∧ ys = (List.range xs.length).map (fun i => ((cw (nsOf xs) i : Nat) : Int)) ∧ ∃ L, ao = some ⟨L, 0, none⟩ ∧ w.heap.size ≤ L ∧ M = xs.length ∧ LB w' L M (cw (nsOf xs))) ∨ (isCode xs = false ∧ q = 30 ∧ ys = [] ∧ ao = none)
theorem CodesEnd.form {w w' : World} {xs : List Int} {e : Ending} (h : CodesEnd w xs e w') : ∃ ao M q ys, e = .returned (.tuple #[.slice ao M M, .int .i64 q]) ∧ CodF w w' xs ao M q ys := by
  obtain ⟨h | h, hb⟩ := h
  · obtain ⟨h1, h2, L, rfl, hl, hn⟩ := h
    exact ⟨_, _, _, _, rfl, by simp, hl.irow, hb, .inl ⟨(isCode_iff xs).2 ⟨h1, h2⟩, rfl, rfl, L, rfl, hn, rfl, hl⟩⟩
  · obtain ⟨h1, rfl⟩ := h
    refine ⟨none, 0, 30, [], rfl, rfl, .inl rfl, hb, .inr ⟨?_, rfl, rfl, rfl⟩⟩
    cases e : isCode xs with
    | false => rfl
    | true => exact absurd ((isCode_iff xs).1 e) h1
theorem CodF.same {w1 w1' w2 w2' : World} {xs : List Int} {a1 a2 : Option Addr} {M1 M2 : Nat} {q1 q2 : Int} {y1 y2 : List Int} (h1 : CodF w1 w1' xs a1 M1 q1 y1) (h2 : CodF w2 w2' xs a2 M2 q2 y2) : q1 = q2 ∧ y1 = y2 := by
  rcases h1.what with ⟨c1, e1, f1, _⟩ | ⟨c1, e1, f1, _⟩ <;> rcases h2.what with ⟨c2, e2, f2, _⟩ | ⟨c2, e2, f2, _⟩
  · exact ⟨by rw [e1, e2], by rw [f1, f2]⟩
  · rw [c1] at c2; cases c2
  · rw [c1] at c2; cases c2
  · exact ⟨by rw [e1, e2], by rw [f1, f2]⟩
theorem CodF.le {w1 w1' : World} {xs : List Int} {a1 : Option Addr} {M1 : Nat} {q1 : Int} {y1 : List Int} (h1 : CodF w1 w1' xs a1 M1 q1 y1) : M1 ≤ 288 ∧ (q1 = 0 ∨ q1 = 30) ∧ (isCode xs = decide (q1 = 0)) := by
  rcases h1.what with ⟨c1, e1, f1, L, _, _, hM, _⟩ | ⟨c1, e1, f1, _⟩
  · exact ⟨by rw [hM]; exact may_len ((isCode_iff xs).1 c1).1, .inl e1, by rw [c1, e1]; rfl⟩
  · refine ⟨?_, .inr e1, by rw [c1, e1]; rfl⟩
    have := h1.len; rw [f1] at this; simp at this; omega

theorem whole_form (xs : List Int) (a : Option Addr) (c N : Nat) (w : World) (hN : xs.length = N) (hrow : IRow w a xs) (hlen : N ≤ 9223372036854775807) :
    Calls Try.prog 10 #[.slice a N c] w fun e w' => e = .returned (.tuple #[.bool (isCode xs && decide (shareV xs = 32768)), .int .i64 (if isCode xs = true then 0 else 30)]) ∧ Below w.heap.size w w' := by
  refine (whole_ok xs a c N w hN hrow hlen).mono ?_
  rintro e w' ⟨h | h, hb⟩
  · obtain ⟨h1, h2, rfl⟩ := h
    refine ⟨?_, hb⟩
    have hc := (isCode_iff xs).2 ⟨h1, h2⟩
    rw [hc, if_pos rfl]
    have hs : shareV xs = ((ew (nsOf xs) 15 : Nat) : Int) := by unfold shareV; rw [if_pos h1]
    rw [hs]
    by_cases e : ew (nsOf xs) 15 = 32768
    · rw [decide_eq_true e, decide_eq_true (by omega)]; rfl
    · rw [decide_eq_false e, decide_eq_false (by omega)]; rfl
  · obtain ⟨h1, rfl⟩ := h
    refine ⟨?_, hb⟩
    have hc : isCode xs = false := by
      cases e : isCode xs with
      | false => rfl
      | true => exact absurd ((isCode_iff xs).1 e) h1
    rw [hc]; rfl
end Go.Proofs.Ytjambofhkophcaa
