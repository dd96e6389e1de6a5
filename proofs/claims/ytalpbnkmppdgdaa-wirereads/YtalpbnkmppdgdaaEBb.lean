/- How the document reads a record, held against rdRec. -/
import Derived.Test.YtalpbnkmppdgdaaEAz
namespace Go.Proofs.Ytalpbnkmppdgdaa
open Go.RowKit
set_option linter.unusedVariables false

theorem txtR_some {S : List UInt8} {a less : Nat} {p : List UInt8} {q : Nat} (h : txtR S a less = some (p, q)) : ∃ x n, varD (mk (S.drop a)) = some (x, n) ∧ less ≤ x ∧ x - less ≤ (S.drop a).length - n ∧ p = ((S.drop a).drop n).take (x - less) ∧ q = a + n + (x - less) := by
  unfold txtR at h
  cases hv : varD (mk (S.drop a)) with
  | none => rw [hv] at h; cases h
  | some z =>
    obtain ⟨x, n⟩ := z
    rw [hv] at h
    simp only at h
    by_cases hc : less ≤ x ∧ x - less ≤ (S.drop a).length - n
    · rw [if_pos hc] at h
      cases h
      exact ⟨x, n, rfl, hc.1, hc.2, rfl, rfl⟩
    · rw [if_neg hc] at h; cases h
theorem txtR_none {S : List UInt8} {a less : Nat} (h : txtR S a less = none) : varD (mk (S.drop a)) = none ∨ ∃ x n, varD (mk (S.drop a)) = some (x, n) ∧ ¬ (less ≤ x ∧ x - less ≤ (S.drop a).length - n) := by
  unfold txtR at h
  cases hv : varD (mk (S.drop a)) with
  | none => exact .inl rfl
  | some z =>
    obtain ⟨x, n⟩ := z
    rw [hv] at h
    simp only at h
    by_cases hc : less ≤ x ∧ x - less ≤ (S.drop a).length - n
    · rw [if_pos hc] at h; cases h
    · exact .inr ⟨x, n, rfl, hc⟩
theorem txtR_le {S : List UInt8} {a less : Nat} {p : List UInt8} {q : Nat} (ha : a ≤ S.length) (h : txtR S a less = some (p, q)) : q ≤ S.length := by
  obtain ⟨x, n, hv, h1, h2, rfl, rfl⟩ := txtR_some h
  have := (varD_le hv).2.2.2
  rw [mk_size] at this
  rw [List.length_drop] at this h2
  omega
theorem varD_nought (R : List UInt8) : varD (mk (0 :: R)) = some (0, 1) := by
  have hb : byteN (mk (0 :: R)) 0 = 0 := by rw [byteN_mk]; rfl
  rw [varD_good (k := 0) ⟨by omega, by rw [mk_size]; simp, fun j hj => by omega, by rw [hb]; omega, fun _ => rfl⟩]
  simp [varN, hb]
theorem varD_notNought {b : UInt8} {R : List UInt8} {x n : Nat} (h : varD (mk (b :: R)) = some (x, n)) (hb : b ≠ 0) : x ≠ 0 := by
  obtain ⟨k, hg, rfl, rfl⟩ := varD_some h
  intro h0
  simp only [varN] at h0
  have hk : byteN (mk (b :: R)) k % 128 * 2 ^ (7 * k) = 0 := by omega
  have hpos : 0 < 2 ^ (7 * k) := Nat.pow_pos (by omega)
  have hm : byteN (mk (b :: R)) k % 128 = 0 := by
    rcases Nat.mul_eq_zero.1 hk with h | h
    · exact h
    · omega
  have hb0 : byteN (mk (b :: R)) k = 0 := by have := hg.2.2.2.1; omega
  have hk0 := hg.2.2.2.2 hb0
  subst hk0
  rw [byteN_mk] at hb0
  have : b.toNat = 0 := by simpa using hb0
  exact hb (UInt8.toNat_inj.1 (by simpa using this))
theorem rd_first {base : Int} {S : List UInt8} {a : Nat} (h : varD (mk (S.drop a)) = none) : rdRec base (S.drop a) = none := by unfold rdRec; rw [h]
theorem rd_key {base : Int} {S : List UInt8} {a d n1 : Nat} (h : varD (mk (S.drop a)) = some (d, n1)) (hk : txtR S (a + n1) 0 = none) : rdRec base (S.drop a) = none := by
  unfold rdRec
  rw [h]
  simp only [List.drop_drop]
  rcases txtR_none hk with h2 | ⟨x, n, h2, h3⟩
  · rw [h2]
  · rw [h2]
    simp only
    have hle := (varD_le h2).2.2.2
    rw [mk_size] at hle
    rw [if_neg]
    rw [List.length_drop] at h3 hle ⊢
    omega
theorem rd_rest {base : Int} {S : List UInt8} {a d n1 : Nat} {p : List UInt8} {q : Nat} (h : varD (mk (S.drop a)) = some (d, n1)) (hk : txtR S (a + n1) 0 = some (p, q)) :
    rdRec base (S.drop a) = match varD (mk (S.drop q)) with
      | none => none
      | some (x3, n3) => if x3 = 0 then some (⟨IntKind.i64.wrap (base + d), mk p, ⟨#[]⟩, true⟩, S.drop (q + n3))
          else if x3 - 1 ≤ (S.drop (q + n3)).length then some (⟨IntKind.i64.wrap (base + d), mk p, mk ((S.drop (q + n3)).take (x3 - 1)), false⟩, S.drop (q + n3 + (x3 - 1))) else none := by
  obtain ⟨x, n, h2, _, h3, rfl, rfl⟩ := txtR_some hk
  have hle := (varD_le h2).2.2.2
  rw [mk_size] at hle
  unfold rdRec
  rw [h]
  simp only [List.drop_drop, Nat.sub_zero]
  rw [h2]
  simp only
  rw [if_pos (by rw [List.length_drop] at h3 hle ⊢; omega)]
  cases varD (mk (S.drop (a + n1 + n + x))) with
  | none => rfl
  | some z => rfl
theorem rd_gone {base : Int} {S : List UInt8} {a d n1 : Nat} {p R : List UInt8} {q : Nat} (h : varD (mk (S.drop a)) = some (d, n1)) (hk : txtR S (a + n1) 0 = some (p, q)) (hq : S.drop q = 0 :: R) :
    rdRec base (S.drop a) = some (⟨IntKind.i64.wrap (base + d), mk p, ⟨#[]⟩, true⟩, S.drop (q + 1)) := by
  rw [rd_rest h hk, hq, varD_nought]
  simp
theorem rd_val {base : Int} {S : List UInt8} {a d n1 : Nat} {p : List UInt8} {q : Nat} (h : varD (mk (S.drop a)) = some (d, n1)) (hk : txtR S (a + n1) 0 = some (p, q)) (hq : ∀ R, S.drop q ≠ 0 :: R) :
    rdRec base (S.drop a) = match txtR S q 1 with
      | none => none
      | some (v, en) => some (⟨IntKind.i64.wrap (base + d), mk p, mk v, false⟩, S.drop en) := by
  rw [rd_rest h hk]
  unfold txtR
  cases hv : varD (mk (S.drop q)) with
  | none => rfl
  | some z =>
    obtain ⟨x, n⟩ := z
    have hx : x ≠ 0 := by
      cases hs : S.drop q with
      | nil => rw [hs, varD_nil] at hv; cases hv
      | cons b R =>
        rw [hs] at hv
        exact varD_notNought hv (fun h0 => hq R (by rw [hs, h0]))
    have hle := (varD_le hv).2.2.2
    rw [mk_size, List.length_drop] at hle
    simp only
    rw [if_neg hx]
    by_cases hc : x - 1 ≤ (S.drop (q + n)).length
    · rw [if_pos hc, if_pos (by rw [List.length_drop] at hc ⊢; omega)]
      simp only [List.drop_drop]
    · rw [if_neg hc, if_neg (by rw [List.length_drop] at hc ⊢; omega)]
/-- A number that is too great. -/
theorem rd_big {base : Int} {S : List UInt8} {a d n1 i k : Nat} {M : List Rec} (hrd : rdN base i S = some (M, S.drop a)) (hb : offB base = true) (h : varD (mk (S.drop a)) = some (d, n1)) (hd : 1099511627776 ≤ d) : ofL base (i + (k + 1)) S = none := by
  cases hr : rdRec base (S.drop a) with
  | none => exact ofL_more hrd hr
  | some z =>
    obtain ⟨r, R2⟩ := z
    refine ofL_bad hrd hr ?_
    have hoff : r.off = IntKind.i64.wrap (base + d) := by
      cases hk : txtR S (a + n1) 0 with
      | none => rw [rd_key h hk] at hr; cases hr
      | some z =>
        obtain ⟨p, q⟩ := z
        rw [rd_rest h hk] at hr
        cases hv : varD (mk (S.drop q)) with
        | none => rw [hv] at hr; cases hr
        | some z =>
          obtain ⟨x3, n3⟩ := z
          rw [hv] at hr
          simp only at hr
          by_cases h0 : x3 = 0
          · rw [if_pos h0] at hr; cases hr; rfl
          · rw [if_neg h0] at hr
            by_cases h1 : x3 - 1 ≤ (S.drop (q + n3)).length
            · rw [if_pos h1] at hr; cases hr; rfl
            · rw [if_neg h1] at hr; cases hr
    have hm : mayB r = false := by
      cases hm : mayB r with
      | false => rfl
      | true =>
        have h1 := ((mayB_iff r).1 hm).1
        unfold offB at h1 hb
        simp only [Bool.and_eq_true, decide_eq_true_eq] at h1 hb
        have hx := (varD_le h).1
        rw [hoff, IntKind.wrap_i64] at h1
        omega
    rw [comes_append]
    simp [comes, hm]
end Go.Proofs.Ytalpbnkmppdgdaa
