/- Records out of bytes, as a plain function; what next reads by it. -/
import Derived.Test.YtfjmcgdpiohnbaaAh
namespace Go.Proofs.Ytfjmcgdpiohnbaa
open Go.RowKit
set_option linter.unusedVariables false

/-- The next record of bytes, and what is left. -/
noncomputable def rdRec (base : Int) (R : List UInt8) : Option (Rec × List UInt8) :=
  match varD (mk R) with
  | none => none
  | some (x1, n1) => match varD (mk (R.drop n1)) with
    | none => none
    | some (x2, n2) =>
      if x2 ≤ ((R.drop n1).drop n2).length then
        match varD (mk (((R.drop n1).drop n2).drop x2)) with
        | none => none
        | some (x3, n3) =>
          if x3 = 0 then some (⟨IntKind.i64.wrap (base + x1), mk (((R.drop n1).drop n2).take x2), ⟨#[]⟩, true⟩, (((R.drop n1).drop n2).drop x2).drop n3)
          else if x3 - 1 ≤ ((((R.drop n1).drop n2).drop x2).drop n3).length then
            some (⟨IntKind.i64.wrap (base + x1), mk (((R.drop n1).drop n2).take x2), mk (((((R.drop n1).drop n2).drop x2).drop n3).take (x3 - 1)), false⟩, ((((R.drop n1).drop n2).drop x2).drop n3).drop (x3 - 1))
          else none
      else none
theorem mk_data (s : ByteArray) : mk s.data.toList = s := by apply ByteArray.ext; simp [mk]
theorem mk_inj {a b : List UInt8} (h : mk a = mk b) : a = b := by rw [← mk_toList a, ← mk_toList b, h]
theorem extract_drop (R : List UInt8) (n : Nat) : (mk R).extract n (mk R).size = mk (R.drop n) := by
  apply ByteArray.ext
  rw [ByteArray.data_extract, mk_size]
  show R.toArray.extract n R.length = (R.drop n).toArray
  simp
  exact List.take_of_length_le (by simp)
theorem extract_take (R : List UInt8) (n : Nat) : (mk R).extract 0 n = mk (R.take n) := by
  apply ByteArray.ext
  rw [ByteArray.data_extract]
  show R.toArray.extract 0 n = (R.take n).toArray
  simp
/-- What next reads is what rdRec says. -/
theorem next_is (base : Int) (R : List UInt8) (off : Int) (key val : ByteArray) (gone : Bool) (t : ByteArray) (ok : Bool) (h : NextE base (mk R) off key val gone t ok) :
    (∃ R', rdRec base R = some (⟨off, key, val, gone⟩, R') ∧ t = mk R' ∧ ok = true) ∨ (rdRec base R = none ∧ ok = false) := by
  obtain ⟨x1, s1, g1, x2, s2, g2, s3, g3, x3, s4, g4, h1, h2, h3, h4, rfl, h5⟩ := h
  unfold rdRec
  have hbad : ∀ g : Bool, g = false → (g1 && g2 && g3 && g4) = false ∨ True := fun _ _ => .inr trivial
  rcases h1 with ⟨n1, a1, rfl, rfl⟩ | ⟨a1, rfl, _, rfl⟩
  · rw [a1]
    rw [extract_drop] at h2
    rcases h2 with ⟨n2, a2, rfl, rfl⟩ | ⟨a2, rfl, _, rfl⟩
    · simp only [a2]
      rw [extract_drop] at h3
      rcases h3 with ⟨a3, rfl, rfl, rfl⟩ | ⟨a3, rfl, rfl, rfl⟩
      · rw [mk_size] at a3
        rw [extract_drop] at h4
        rw [if_pos a3]
        rcases h4 with ⟨n3, a4, rfl, rfl⟩ | ⟨a4, rfl, _, rfl⟩
        · simp only [a4]
          rw [extract_drop] at h5
          rcases h5 with ⟨rfl, rfl, rfl, rfl, rfl⟩ | ⟨hx, rfl, g5, h5, rfl⟩
          · left
            rw [if_pos rfl, extract_take]
            exact ⟨_, rfl, rfl, rfl⟩
          · rw [if_neg hx]
            rcases h5 with ⟨a5, rfl, rfl, rfl⟩ | ⟨a5, rfl, rfl, rfl⟩
            · rw [mk_size] at a5
              left
              rw [if_pos a5, extract_take, extract_take, extract_drop]
              exact ⟨_, rfl, rfl, rfl⟩
            · rw [mk_size] at a5
              right
              rw [if_neg (by omega)]
              exact ⟨rfl, rfl⟩
        · right
          simp only [a4]
          rcases h5 with ⟨_, rfl, rfl, rfl, rfl⟩ | ⟨hx, rfl, g5, h5, rfl⟩
          · exact ⟨by first | rfl | trivial, by simp⟩
          · exact absurd rfl hx
      · rw [mk_size] at a3
        right
        rw [if_neg (by omega)]
        rcases h5 with ⟨_, rfl, rfl, rfl, rfl⟩ | ⟨hx, rfl, g5, h5, rfl⟩
        · exact ⟨by first | rfl | trivial, by simp⟩
        · exact ⟨by first | rfl | trivial, by simp⟩
    · right
      simp only [a2]
      rcases h5 with ⟨_, rfl, rfl, rfl, rfl⟩ | ⟨hx, rfl, g5, h5, rfl⟩
      · exact ⟨by first | rfl | trivial, by simp⟩
      · exact ⟨by first | rfl | trivial, by simp⟩
  · right
    rw [a1]
    rcases h5 with ⟨_, rfl, rfl, rfl, rfl⟩ | ⟨hx, rfl, g5, h5, rfl⟩
    · exact ⟨by first | rfl | trivial, by simp⟩
    · exact ⟨by first | rfl | trivial, by simp⟩
/-- So many records of bytes, and what is left. -/
noncomputable def rdN (base : Int) : Nat → List UInt8 → Option (List Rec × List UInt8)
  | 0, R => some ([], R)
  | n + 1, R => match rdRec base R with
    | none => none
    | some (r, R') => match rdN base n R' with
      | none => none
      | some (L, R'') => some (r :: L, R'')
theorem rdN_add (base : Int) (i k : Nat) (R : List UInt8) : rdN base (i + k) R = match rdN base i R with
    | none => none
    | some (M, R') => match rdN base k R' with
      | none => none
      | some (L, R'') => some (M ++ L, R'') := by
  induction i generalizing R with
  | zero =>
    rw [Nat.zero_add]
    simp only [rdN]
    cases rdN base k R with
    | none => rfl
    | some p => rfl
  | succ i ih =>
    rw [show i + 1 + k = (i + k) + 1 by omega]
    simp only [rdN]
    cases rdRec base R with
    | none => rfl
    | some p =>
      obtain ⟨r, R'⟩ := p
      simp only [ih R']
      cases rdN base i R' with
      | none => rfl
      | some p =>
        obtain ⟨M, R2⟩ := p
        simp only
        cases rdN base k R2 with
        | none => rfl
        | some p => rfl
theorem rdN_len {base : Int} {n : Nat} {R R' : List UInt8} {L : List Rec} (h : rdN base n R = some (L, R')) : L.length = n := by
  induction n generalizing R L with
  | zero => simp only [rdN] at h; cases h; rfl
  | succ n ih =>
    simp only [rdN] at h
    cases hr : rdRec base R with
    | none => rw [hr] at h; cases h
    | some p =>
      obtain ⟨r, R1⟩ := p
      rw [hr] at h
      simp only at h
      cases hn : rdN base n R1 with
      | none => rw [hn] at h; cases h
      | some p =>
        obtain ⟨L1, R2⟩ := p
        rw [hn] at h
        cases h
        simp [ih hn]
/-- What Of answers: the records, or none. -/
noncomputable def ofL (base : Int) (n : Nat) (R : List UInt8) : Option (List Rec) := match rdN base n R with
  | none => none
  | some (L, R') => if comes L base && R'.isEmpty then some L else none
theorem ofL_more {base : Int} {i k : Nat} {R R' : List UInt8} {M : List Rec} (h : rdN base i R = some (M, R')) (hr : rdRec base R' = none) : ofL base (i + (k + 1)) R = none := by
  unfold ofL
  rw [rdN_add, h]
  simp only [rdN, hr]
theorem ofL_bad {base : Int} {i k : Nat} {R R' R2 : List UInt8} {M : List Rec} {r : Rec} (h : rdN base i R = some (M, R')) (hr : rdRec base R' = some (r, R2)) (hc : comes (M ++ [r]) base = false) : ofL base (i + (k + 1)) R = none := by
  unfold ofL
  rw [rdN_add, h]
  simp only [rdN, hr]
  cases hk : rdN base k R2 with
  | none => rfl
  | some p =>
    obtain ⟨L, R3⟩ := p
    simp only
    rw [show M ++ r :: L = (M ++ [r]) ++ L by simp, comes_append, hc]
    rfl
theorem rdN_snoc {base : Int} {i : Nat} {R R' R2 : List UInt8} {M : List Rec} {r : Rec} (h : rdN base i R = some (M, R')) (hr : rdRec base R' = some (r, R2)) : rdN base (i + 1) R = some (M ++ [r], R2) := by
  rw [rdN_add, h]
  simp only [rdN, hr]
theorem ofL_end {base : Int} {n : Nat} {R R' : List UInt8} {M : List Rec} (h : rdN base n R = some (M, R')) (hc : comes M base = true) : ofL base n R = if R'.isEmpty then some M else none := by
  unfold ofL
  rw [h]
  simp only [hc, Bool.true_and]
theorem comes_count (M : List Rec) (base : Int) (h : comes M base = true) : (M.length : Int) ≤ lowB M base - base ∧ (M ≠ [] → lowB M base ≤ 1099511627776) := by
  induction M generalizing base with
  | nil => exact ⟨by simp [lowB], fun h => absurd rfl h⟩
  | cons r M ih =>
    simp only [comes, Bool.and_eq_true, decide_eq_true_eq] at h
    have h1 := ih (r.off + 1) h.2
    have h2 := (mayB_iff r).1 h.1.1
    have h3 : r.off < 1099511627776 := by have := h2.1; unfold offB at this; simp at this; exact this.2
    refine ⟨by simp only [lowB, List.length_cons]; have := h1.1; push_cast; omega, fun _ => ?_⟩
    simp only [lowB]
    cases M with
    | nil => simp only [lowB]; omega
    | cons x M => exact h1.2 (by simp)
theorem comes_small (M : List Rec) (base : Int) (h : comes M base = true) (hb : 0 ≤ base) : M.length ≤ 1099511627776 := by
  have h1 := comes_count M base h
  cases M with
  | nil => simp
  | cons x M => have := h1.2 (by simp); have := h1.1; omega
end Go.Proofs.Ytfjmcgdpiohnbaa
