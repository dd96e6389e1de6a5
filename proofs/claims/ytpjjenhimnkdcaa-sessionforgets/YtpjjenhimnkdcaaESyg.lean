/- Layer 15: SessionForgets: the mathematics, and the law's state. -/
import Derived.Test.YtpjjenhimnkdcaaESyf
import Derived.Test.YtpjjenhimnkdcaaESxl
import Derived.Test.YtpjjenhimnkdcaaESxu
import Derived.Test.YtpjjenhimnkdcaaESxo
namespace Go.Proofs.Ytpjjenhimnkdcaa
open Go.RowKit Go.Maps
set_option linter.unusedVariables false
set_option maxRecDepth 20000

def fN (LN : List Int) (j : Nat) : Nat := 1 + (bits .and .i64 (LN.getD j 0) 15).toNat
def fE (LN : List Int) : Nat → Nat
  | 0 => 0
  | k + 1 => fE LN k + fN LN k
def fB (LN : List Int) (j : Nat) : Bt := ⟨(fE LN j : Nat), (fN LN j : Nat), 0, 1, (j : Nat)⟩
def fL (LN : List Int) (k : Nat) : List Bt := (List.range k).map (fB LN)
def fV (k : Nat) : List Wt := (List.range k).map fun j : Nat => (⟨1, (j : Nat), 100⟩ : Wt)
def fS (LN : List Int) (k : Nat) : List Value := (List.range k).map fun j : Nat => Value.int .i64 (fE LN (j + 1) : Nat)
theorem fN_le (LN : List Int) (j : Nat) : 1 ≤ fN LN j ∧ fN LN j ≤ 16 := by
  obtain ⟨a, ha, he⟩ := andN (LN.getD j 0) 15 (by omega)
  have he' : bits .and .i64 (LN.getD j 0) 15 = (a : Int) := he
  unfold fN
  rw [he']
  have : ((a : Nat) : Int).toNat = a := by simp
  omega
theorem fE_le (LN : List Int) : ∀ k, fE LN k ≤ 16 * k
  | 0 => Nat.le_refl _
  | k + 1 => by have := fE_le LN k; have := (fN_le LN k).2; show fE LN k + fN LN k ≤ _; omega
theorem fE_lt (LN : List Int) (j : Nat) : fE LN j < fE LN (j + 1) := by have := (fN_le LN j).1; show _ < fE LN j + fN LN j; omega
theorem fE_mono (LN : List Int) {i : Nat} : ∀ {j : Nat}, i ≤ j → fE LN i ≤ fE LN j
  | 0, h => by rw [Nat.le_zero.1 h]; exact Nat.le_refl _
  | j + 1, h => by
    by_cases e : i = j + 1
    · rw [e]; exact Nat.le_refl _
    · exact Nat.le_trans (fE_mono LN (by omega)) (Nat.le_of_lt (fE_lt LN j))
theorem fL_succ (LN : List Int) (k : Nat) : fL LN (k + 1) = fL LN k ++ [fB LN k] := by simp [fL, List.range_succ]
theorem fV_succ (k : Nat) : fV (k + 1) = fV k ++ [⟨1, (k : Nat), 100⟩] := by simp [fV, List.range_succ]
theorem fS_succ (LN : List Int) (k : Nat) : fS LN (k + 1) = fS LN k ++ [.int .i64 (fE LN (k + 1) : Nat)] := by simp [fS, List.range_succ]
theorem fL_len (LN : List Int) (k : Nat) : (fL LN k).length = k := by simp [fL]
theorem fV_len (k : Nat) : (fV k).length = k := by simp [fV]
theorem fS_len (LN : List Int) (k : Nat) : (fS LN k).length = k := by simp [fS]
theorem fS_get (LN : List Int) {j k : Nat} (h : j < k) : (fS LN k)[j]? = some (.int .i64 (fE LN (j + 1) : Nat)) := by simp [fS, h]
theorem fL_end (LN : List Int) : ∀ k, endL (fL LN k) = (fE LN k : Nat)
  | 0 => rfl
  | k + 1 => by rw [fL_succ, endL_snoc]; show ((fE LN k : Nat) : Int) + (fN LN k : Nat) = ((fE LN k + fN LN k : Nat) : Int); omega
theorem fB_ok (LN : List Int) {j : Nat} (h : j ≤ 60) : (fB LN j).OK := by
  have h1 := fE_le LN j
  have h2 := fN_le LN j
  refine ⟨?_, ?_, ?_, ?_, ?_, ?_, ?_, ?_, ?_, ?_⟩ <;> simp only [fB] <;> omega
theorem fL_none (LN : List Int) {j k : Nat} (h : k ≤ j) : fnd (fL LN k) 1 (j : Nat) = none := fnd_of_none fun b hb e => by
  obtain ⟨i, hi, rfl⟩ := List.mem_map.1 hb
  have := List.mem_range.1 hi
  have h2 := e.2
  simp only [fB] at h2
  omega
theorem fL_some (LN : List Int) {j : Nat} : ∀ {k : Nat}, j < k → fnd (fL LN k) 1 (j : Nat) = some (fB LN j)
  | 0, h => by omega
  | k + 1, h => by
    rw [fL_succ, fnd_append]
    by_cases e : j = k
    · subst e
      rw [fL_none LN (Nat.le_refl _), fnd_one, if_pos ⟨rfl, rfl⟩]; rfl
    · rw [fL_some LN (by omega : j < k)]; rfl
theorem fV_has {k : Nat} : hasW (fV k) ⟨1, (k : Nat), 100⟩ = false := by
  cases e : hasW (fV k) ⟨1, (k : Nat), 100⟩ with
  | false => rfl
  | true =>
    have := (hasW_iff _ _).1 e
    obtain ⟨i, hi, he⟩ := List.mem_map.1 this
    have h1 := List.mem_range.1 hi
    have h2 := congrArg Wt.s he
    simp only at h2
    omega
theorem fV_wait {k : Nat} (h : k ≤ 60) : waitV 64 (fV k) ⟨1, (k : Nat), 100⟩ = fV (k + 1) ∧ waitC 64 (fV k) ⟨1, (k : Nat), 100⟩ = 0 := by
  have hl : ¬ 64 ≤ (fV k).length := by rw [fV_len]; omega
  unfold waitV waitC
  rw [fV_has, fV_succ, if_neg hl, if_neg hl]
  exact ⟨rfl, rfl⟩
/-- What is cut off stands behind what stays. -/
theorem stay_ex (LN : List Int) (c : Nat) : ∀ k, ∃ s, s ≤ k ∧ (∀ j, j < s → fE LN (j + 1) ≤ c) ∧ (∀ j, s ≤ j → j < k → c < fE LN (j + 1))
  | 0 => ⟨0, Nat.le_refl _, fun j h => by omega, fun j _ h => by omega⟩
  | k + 1 => by
    obtain ⟨s, h1, h2, h3⟩ := stay_ex LN c k
    by_cases hs : s = k
    · by_cases hc : fE LN (k + 1) ≤ c
      · refine ⟨k + 1, Nat.le_refl _, fun j hj => ?_, fun j a b => by omega⟩
        by_cases e : j = k
        · subst e; exact hc
        · exact h2 j (by omega)
      · refine ⟨s, by omega, h2, fun j a b => ?_⟩
        obtain rfl : j = k := by omega
        omega
    · refine ⟨s, by omega, h2, fun j a b => ?_⟩
      by_cases e : j = k
      · subst e
        exact Nat.lt_of_lt_of_le (h3 s (Nat.le_refl _) (by omega)) (fE_mono LN (by omega))
      · exact h3 j a (by omega)
theorem fB_fin (LN : List Int) (j : Nat) : (fB LN j).fin = (fE LN (j + 1) : Nat) := by
  show ((fE LN j : Nat) : Int) + (fN LN j : Nat) = ((fE LN j + fN LN j : Nat) : Int); omega
theorem cut_fL (LN : List Int) (c s : Nat) (h2 : ∀ j, j < s → fE LN (j + 1) ≤ c) : ∀ d, (∀ j, s ≤ j → j < s + d → c < fE LN (j + 1)) → cutB (c : Nat) (fL LN (s + d)) = fL LN s
  | 0, _ => cutB_all fun b hb => by
      obtain ⟨i, hi, rfl⟩ := List.mem_map.1 hb
      have h := h2 i (List.mem_range.1 hi)
      rw [fB_fin]; omega
  | d + 1, h3 => by
    have e : s + (d + 1) = (s + d) + 1 := by omega
    rw [e, fL_succ, cutB_snoc]
    · exact cut_fL LN c s h2 d fun j a b => h3 j a (by omega)
    · rw [fB_fin]
      have := h3 (s + d) (by omega) (by omega)
      omega
def fR (s d : Nat) : List Wt := (List.range d).map fun i : Nat => (⟨1, ((s + i : Nat) : Int), 100⟩ : Wt)
theorem fV_cut (s : Nat) : ∀ d, fV (s + d) = fV s ++ fR s d
  | 0 => by simp [fR]
  | d + 1 => by
    have e : s + (d + 1) = (s + d) + 1 := by omega
    rw [e, fV_succ, fV_cut s d]
    simp [fR, List.range_succ]
theorem fV_in (LN : List Int) (s : Nat) : ∀ x ∈ fV s, (fnd (fL LN s) x.p x.s).isSome = true := fun x hx => by
  obtain ⟨i, hi, rfl⟩ := List.mem_map.1 hx
  have := fL_some LN (List.mem_range.1 hi)
  simp only at this ⊢
  rw [this]; rfl
theorem fR_out (LN : List Int) (s d : Nat) : ∀ x ∈ fR s d, (fnd (fL LN s) x.p x.s).isSome = false := fun x hx => by
  obtain ⟨i, hi, rfl⟩ := List.mem_map.1 hx
  have := fL_none LN (j := s + i) (k := s) (by omega)
  simp only at this ⊢
  rw [this]; rfl
theorem fV_bd {k : Nat} (hk : k ≤ 60) : ∀ x ∈ fV k, 0 ≤ x.p ∧ x.p ≤ 2147483647 ∧ 0 ≤ x.s ∧ x.s ≤ 2147483647 := fun x hx => by
  obtain ⟨i, hi, rfl⟩ := List.mem_map.1 hx
  have := List.mem_range.1 hi
  simp only
  omega
/-- The law's state: its table, and the ends so far. -/
structure FO (w wr : World) (t mb : Nat) (L : List Bt) (V : List Wt) (xs : List Value) (v : Value) : Prop where
  ts : TS wr t mb 64 L V
  row : wr.ownsRow w.heap.size 3 1 v xs.length xs
  ap : ∀ g, v.ownBlock = some g → Ap wr t mb g
  lf : LF w wr t mb
theorem FO.step {w wr w' : World} {t mb : Nat} {L L' : List Bt} {V V' : List Wt} {xs : List Value} {v : Value} (h : FO w wr t mb L V xs v) (hF : TFr t mb wr w') (hT : TS w' t mb 64 L' V') : FO w w' t mb L' V' xs v :=
  ⟨hT, rowBlock h.row fun g hg => (hF.kept g (h.ap g hg)).1, fun g hg => (hF.kept g (h.ap g hg)).2, h.lf.fr hF⟩
theorem FO.below {w wr w' : World} {t mb : Nat} {L : List Bt} {V : List Wt} {xs : List Value} {v : Value} (h : FO w wr t mb L V xs v) (hb : Below wr.heap.size wr w') : FO w w' t mb L V xs v :=
  h.step (TFr.below hb h.ts.lt) (h.ts.below hb)
theorem FO.form {w wr : World} {t mb : Nat} {L : List Bt} {V : List Wt} {xs : List Value} {v : Value} (h : FO w wr t mb L V xs v) : ∃ a c, v = .slice a xs.length c := rowForm h.row
theorem FO.app {w wr w' : World} {t mb g : Nat} {L : List Bt} {V : List Wt} {xs : List Value} {v v' x : Value} (h : FO w wr t mb L V xs v) (hown : w'.ownsRow w.heap.size 3 1 v' (xs.length + 1) (xs ++ [x])) (hg : wr.grownBy w' v.ownBlock) (hv : v'.ownBlock = some g) (hat : v.ownBlock = some g ∨ g = wr.heap.size) : FO w w' t mb L V (xs ++ [x]) v' := by
  have htn : some t ≠ v.ownBlock := fun e => (h.ap t e.symm).2.1 rfl
  refine ⟨h.ts.grow hg h.ap, by rw [List.length_append]; exact hown, fun k hk => ?_, h.lf.grow hg htn h.ts.lt fun k hk => ?_⟩
  · have hkg : k = g := by rw [hv] at hk; simpa using hk.symm
    subst hkg
    rcases hat with e | e
    · exact (h.ap k e).grow hg htn h.ts.lt
    · have hl := (rowLt hown hk).1
      obtain ⟨ov, wv, h3, h4, h5⟩ := h.ts.blk
      have ht := h.ts.lt
      have hm := h.ts.map.lt
      refine ⟨hl, by omega, by omega, fun cs ty m e' => ?_⟩
      rw [hg.block t ht htn, h3] at e'
      cases e'
      refine ⟨fun e => ?_, fun e => ?_⟩
      · have := (rowLt h4 (k := k) (by simpa using e)).1; omega
      · have := (rowLt h5 (k := k) (by simpa using e)).1; omega
  · rcases h.row.2 with ⟨e, _⟩ | ⟨g', cap', cur', e1, e2, _⟩
    · rw [e] at hk; simp [Value.ownBlock] at hk
    · rw [e1] at hk
      have : g' = k := by simpa [Value.ownBlock] using hk
      omega
theorem intInfo : (Try.prog.info? 3).map (fun i => (i.zero, i.size, i.bytes)) = some (some (.int .i64 0), 1, 8) := by kernel_rfl
end Go.Proofs.Ytpjjenhimnkdcaa
