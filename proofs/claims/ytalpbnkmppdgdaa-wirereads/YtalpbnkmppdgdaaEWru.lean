/- The document's May and Check of messages. -/
import Derived.Test.YtalpbnkmppdgdaaV12
import Derived.Test.YtalpbnkmppdgdaaV14
import Derived.Test.YtalpbnkmppdgdaaV09
import Derived.Test.YtalpbnkmppdgdaaV13
namespace Go.Proofs.Ytalpbnkmppdgdaa
open Go.RowKit
set_option linter.unusedVariables false

abbrev lims : List Int := [10, 255, 255, 1099511627776, 1099511627776, 1099511627776, 1099511627776, 999, 1099511627776, 1099511627776, 1099511627776]
def okAt (m : Msg) (k : Nat) : Prop := ∀ p q, m.ns[k]? = some p → lims[k]? = some q → 0 ≤ p ∧ p ≤ q
theorem numsB_lims {m : Msg} : numsB m = true ↔ (∀ k, k < 11 → okAt m k) ∧ 1 ≤ m.kind := by
  unfold numsB offsB
  simp only [Bool.and_eq_true, inB_iff, List.all_cons, List.all_nil, and_true]
  constructor
  · rintro ⟨h1, h2, h3, h4, h5⟩
    refine ⟨fun k hk p q hp hq => ?_, h2.1⟩
    match k, hk with
    | 0, _ | 1, _ | 2, _ | 3, _ | 4, _ | 5, _ | 6, _ | 7, _ | 8, _ | 9, _ | 10, _ => simp [Msg.ns] at hp; simp at hq; subst hp hq; omega
  · rintro ⟨h, hk⟩
    have g0 := h 0 (by omega) _ _ rfl rfl
    have g1 := h 1 (by omega) _ _ rfl rfl
    have g2 := h 2 (by omega) _ _ rfl rfl
    have g3 := h 3 (by omega) _ _ rfl rfl
    have g4 := h 4 (by omega) _ _ rfl rfl
    have g5 := h 5 (by omega) _ _ rfl rfl
    have g6 := h 6 (by omega) _ _ rfl rfl
    have g7 := h 7 (by omega) _ _ rfl rfl
    have g8 := h 8 (by omega) _ _ rfl rfl
    have g9 := h 9 (by omega) _ _ rfl rfl
    have g10 := h 10 (by omega) _ _ rfl rfl
    omega
theorem mayM_nums {m : Msg} (h : ¬ numsB m = true) : mayM m = false := by
  cases hm : mayM m with
  | false => rfl
  | true => exact absurd ((mayM_iff m).1 hm).1 h
theorem mayM_log {m : Msg} (h : logB m.log = false) : mayM m = false := by unfold mayM; rw [h]; simp
theorem mayM_body {m : Msg} (h : bodyB m.body = false) : mayM m = false := by unfold mayM; rw [h]; simp
theorem logB_len {L : List ByteArray} (h : ¬ L.length ≤ 4096) : logB L = false := by unfold logB; rw [decide_eq_false h]; rfl
/-- What is known while May looks. -/
structure YS (w wr : World) (m : Msg) (s : Spot) (mb nb lb : Nat) : Prop where
  ma : MB wr mb m s
  na : NB wr nb m
  li : wr.heap[lb]? = some (.cells (lims.map (Value.int .i64 ·)).toArray 3 (0, 0))
  bel : Below w.heap.size w wr
theorem YS.drew {w wr : World} {m : Msg} {s : Spot} {mb nb lb : Nat} (h : YS w wr m s mb nb lb) : YS w wr.drew m s mb nb lb := ⟨h.ma, h.na, h.li, h.bel.drew⟩
theorem YS.below {w wr w1 : World} {m : Msg} {s : Spot} {mb nb lb : Nat} (h : YS w wr m s mb nb lb) (hb : Below wr.heap.size wr w1) : YS w w1 m s mb nb lb :=
  ⟨h.ma.below hb, (hb.block _ (lt_of_block h.na)).trans h.na, (hb.block _ (lt_of_block h.li)).trans h.li, h.bel.trans (hb.mono h.bel.size)⟩
end Go.Proofs.Ytalpbnkmppdgdaa
