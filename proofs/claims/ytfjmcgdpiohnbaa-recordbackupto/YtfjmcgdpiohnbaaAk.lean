/- What was written is read as it was; what lacks bytes is not read. -/
import Derived.Test.YtfjmcgdpiohnbaaAj
namespace Go.Proofs.Ytfjmcgdpiohnbaa
open Go.RowKit
set_option linter.unusedVariables false

theorem drop_len {a b : List UInt8} : (a ++ b).drop a.length = b := by simp
theorem take_len {a b : List UInt8} : (a ++ b).take a.length = a := by simp
theorem wrap_small (x : Int) (h0 : 0 ≤ x) (h1 : x < 1099511627776) : IntKind.i64.wrap x = x := by
  rw [IntWalk.i64_left]
  exact IntWalk.wrap64_in x ⟨by omega, by omega⟩
/-- A record's bytes are read as the record. -/
theorem rdRec_recL (base : Int) (r : Rec) (R : List UInt8) (hm : mayB r = true) (h0 : 0 ≤ base) (h1 : base ≤ r.off) : rdRec base (recL base r ++ R) = some (r, R) := by
  obtain ⟨h2, h3, h4, h5⟩ := (mayB_iff r).1 hm
  obtain ⟨ho1, ho2⟩ : 0 ≤ r.off ∧ r.off < 1099511627776 := by unfold offB at h2; simpa using h2
  obtain ⟨off, key, val, gone⟩ := r
  simp only at h1 h3 h4 h5 ho1 ho2
  obtain ⟨d, hd⟩ : ∃ d : Nat, off - base = d := Int.eq_ofNat_of_zero_le (by omega)
  have hkl := data_len key
  have hvl := data_len val
  unfold rdRec recL
  simp only
  rw [show (off - base).toNat = d by omega]
  simp only [List.append_assoc]
  rw [varD_vb d _ (by omega)]
  simp only
  rw [drop_len, varD_vb key.size _ (by omega)]
  simp only
  rw [drop_len]
  have e1 : (key.data.toList ++ ((if gone = true then vb 0 else vb (val.size + 1) ++ val.data.toList) ++ R)).drop key.size = (if gone = true then vb 0 else vb (val.size + 1) ++ val.data.toList) ++ R := by rw [← hkl]; exact drop_len
  have e2 : (key.data.toList ++ ((if gone = true then vb 0 else vb (val.size + 1) ++ val.data.toList) ++ R)).take key.size = key.data.toList := by rw [← hkl]; exact take_len
  rw [if_pos (by rw [List.length_append]; omega), e1, e2, mk_data]
  have ew : IntKind.i64.wrap (base + (d : Nat)) = off := by rw [show base + (d : Nat) = off by omega]; exact wrap_small off ho1 ho2
  rw [ew]
  cases gone with
  | true =>
    simp only [if_true]
    rw [varD_vb 0 _ (by omega)]
    simp only
    rw [drop_len]
    have hv : val = ⟨#[]⟩ := by
      have h6 := h5 rfl
      rw [← mk_data val]
      have : val.data.toList = [] := List.eq_nil_of_length_eq_zero (by omega)
      rw [this]
      rfl
    rw [hv]
    rfl
  | false =>
    simp only [Bool.false_eq_true, if_false, List.append_assoc]
    rw [varD_vb (val.size + 1) _ (by omega)]
    simp only
    rw [if_neg (by omega), drop_len]
    have e3 : (val.data.toList ++ R).drop (val.size + 1 - 1) = R := by rw [Nat.add_sub_cancel, ← hvl]; exact drop_len
    have e4 : (val.data.toList ++ R).take (val.size + 1 - 1) = val.data.toList := by rw [Nat.add_sub_cancel, ← hvl]; exact take_len
    rw [e3, e4, if_pos (by rw [List.length_append]; omega), mk_data]
theorem comes_low {L : List Rec} {low low' : Int} (h : comes L low = true) (hl : low' ≤ low) : comes L low' = true := by
  cases L with
  | nil => rfl
  | cons r L =>
    simp only [comes, Bool.and_eq_true, decide_eq_true_eq] at h ⊢
    exact ⟨⟨h.1.1, by omega⟩, h.2⟩
theorem rdN_recsL (base : Int) (L : List Rec) (low : Int) (R : List UInt8) (hc : comes L low = true) (h0 : 0 ≤ base) (h1 : base ≤ low) : rdN base L.length (recsL base L ++ R) = some (L, R) := by
  induction L generalizing low with
  | nil => rfl
  | cons r L ih =>
    simp only [comes, Bool.and_eq_true, decide_eq_true_eq] at hc
    simp only [recsL, List.length_cons, rdN, List.append_assoc]
    rw [rdRec_recL base r _ hc.1.1 h0 (by omega)]
    simp only
    rw [ih (r.off + 1) hc.2 (by omega)]
/-- Of of Bytes. -/
theorem ofL_recsL (base : Int) (L : List Rec) (hc : comes L base = true) (h0 : 0 ≤ base) : ofL base L.length (recsL base L) = some L := by
  have h := rdN_recsL base L base [] hc h0 (Int.le_refl _)
  rw [List.append_nil] at h
  unfold ofL
  rw [h]
  simp only [hc]
  rfl
theorem ofL_behind (base : Int) (L : List Rec) (x : UInt8) (R : List UInt8) (hc : comes L base = true) (h0 : 0 ≤ base) : ofL base L.length (recsL base L ++ x :: R) = none := by
  have h := rdN_recsL base L base (x :: R) hc h0 (Int.le_refl _)
  unfold ofL
  rw [h]
  simp
theorem rdRec_nil (base : Int) : rdRec base [] = none := by
  unfold rdRec
  rw [varD_nil]
theorem ofL_one_more (base : Int) (L : List Rec) (hc : comes L base = true) (h0 : 0 ≤ base) : ofL base (L.length + 1) (recsL base L) = none := by
  have h := rdN_recsL base L base [] hc h0 (Int.le_refl _)
  rw [List.append_nil] at h
  exact ofL_more (k := 0) h (rdRec_nil base)
/-- What is read of a text's beginning is read of the text. -/
theorem rdRec_append {base : Int} {R R' : List UInt8} {r : Rec} (h : rdRec base R = some (r, R')) (m : List UInt8) : rdRec base (R ++ m) = some (r, R' ++ m) := by
  unfold rdRec at h ⊢
  cases h1 : varD (mk R) with
  | none => rw [h1] at h; cases h
  | some p =>
    obtain ⟨x1, n1⟩ := p
    have l1 := (varD_le h1).2.2.2
    rw [mk_size] at l1
    rw [varD_append h1]
    rw [h1] at h
    simp only at h ⊢
    rw [List.drop_append_of_le_length l1]
    cases h2 : varD (mk (R.drop n1)) with
    | none => rw [h2] at h; cases h
    | some p =>
      obtain ⟨x2, n2⟩ := p
      have l2 := (varD_le h2).2.2.2
      rw [mk_size] at l2
      rw [varD_append h2]
      rw [h2] at h
      simp only at h ⊢
      rw [List.drop_append_of_le_length l2]
      generalize (R.drop n1).drop n2 = Q at h ⊢
      by_cases h3 : x2 ≤ Q.length
      · rw [if_pos h3] at h
        rw [if_pos (by rw [List.length_append]; omega), List.drop_append_of_le_length h3, List.take_append_of_le_length h3]
        cases h4 : varD (mk (Q.drop x2)) with
        | none => rw [h4] at h; cases h
        | some p =>
          obtain ⟨x3, n3⟩ := p
          have l3 := (varD_le h4).2.2.2
          rw [mk_size] at l3
          rw [varD_append h4]
          rw [h4] at h
          simp only at h ⊢
          rw [List.drop_append_of_le_length l3]
          generalize (Q.drop x2).drop n3 = U at h ⊢
          by_cases h5 : x3 = 0
          · rw [if_pos h5] at h ⊢
            cases h
            rfl
          · rw [if_neg h5] at h ⊢
            by_cases h6 : x3 - 1 ≤ U.length
            · rw [if_pos h6] at h
              rw [if_pos (by rw [List.length_append]; omega), List.drop_append_of_le_length h6, List.take_append_of_le_length h6]
              cases h
              rfl
            · rw [if_neg h6] at h; cases h
      · rw [if_neg h3] at h; cases h
theorem rdN_append {base : Int} {n : Nat} {R R' : List UInt8} {L : List Rec} (h : rdN base n R = some (L, R')) (m : List UInt8) : rdN base n (R ++ m) = some (L, R' ++ m) := by
  induction n generalizing R L R' with
  | zero => simp only [rdN] at h ⊢; cases h; rfl
  | succ n ih =>
    simp only [rdN] at h ⊢
    cases hr : rdRec base R with
    | none => rw [hr] at h; cases h
    | some p =>
      obtain ⟨r, R1⟩ := p
      rw [rdRec_append hr]
      rw [hr] at h
      simp only at h ⊢
      cases hn : rdN base n R1 with
      | none => rw [hn] at h; cases h
      | some p =>
        obtain ⟨L1, R2⟩ := p
        rw [ih hn]
        rw [hn] at h
        cases h
        rfl
/-- Bytes of records that lack some are none. -/
theorem ofL_cut (base : Int) (L : List Rec) (k : Nat) (hc : comes L base = true) (h0 : 0 ≤ base) (hk : k < (recsL base L).length) : ofL base L.length ((recsL base L).take k) = none := by
  unfold ofL
  cases h : rdN base L.length ((recsL base L).take k) with
  | none => rfl
  | some p =>
    obtain ⟨M, R'⟩ := p
    have h1 := rdN_append h ((recsL base L).drop k)
    rw [List.take_append_drop] at h1
    have h2 := rdN_recsL base L base [] hc h0 (Int.le_refl _)
    rw [List.append_nil, h1] at h2
    have h3 : R' ++ (recsL base L).drop k = [] := by
      have := Option.some.inj h2
      exact congrArg Prod.snd this
    have h4 : ((recsL base L).drop k).length = 0 := by
      have := congrArg List.length h3
      simp only [List.length_append, List.length_nil] at this
      omega
    rw [List.length_drop] at h4
    omega
/-- Records that are all higher by as much. -/
def shift (k : Int) (r : Rec) : Rec := ⟨r.off + k, r.key, r.val, r.gone⟩
theorem recL_shift (base k : Int) (r : Rec) : recL (base + k) (shift k r) = recL base r := by
  unfold recL shift
  simp only
  rw [show r.off + k - (base + k) = r.off - base by omega]
theorem recsL_shift (base k : Int) (L : List Rec) : recsL (base + k) (L.map (shift k)) = recsL base L := by
  induction L with
  | nil => rfl
  | cons r L ih => simp only [List.map_cons, recsL, ih, recL_shift]
theorem comes_shift (low k : Int) (L : List Rec) (hk : 0 ≤ k) (hl : ∀ r ∈ L, r.off + k < 1099511627776) (h : comes L low = true) : comes (L.map (shift k)) (low + k) = true := by
  induction L generalizing low with
  | nil => rfl
  | cons r L ih =>
    simp only [comes, Bool.and_eq_true, decide_eq_true_eq] at h
    simp only [List.map_cons, comes, Bool.and_eq_true, decide_eq_true_eq]
    have hr := (mayB_iff r).1 h.1.1
    refine ⟨⟨(mayB_iff _).2 ⟨?_, hr.2⟩, ?_⟩, ?_⟩
    · have h1 := hr.1
      have h2 := hl r List.mem_cons_self
      unfold offB at h1 ⊢
      simp only [Bool.and_eq_true, decide_eq_true_eq] at h1 ⊢
      exact ⟨by show 0 ≤ r.off + k; omega, by show r.off + k < _; omega⟩
    · show low + k ≤ r.off + k; omega
    · have := ih (r.off + 1) (fun x hx => hl x (List.mem_cons_of_mem _ hx)) h.2
      rw [show r.off + 1 + k = (shift k r).off + 1 by show _ = r.off + k + 1; omega] at this
      exact this
end Go.Proofs.Ytfjmcgdpiohnbaa
