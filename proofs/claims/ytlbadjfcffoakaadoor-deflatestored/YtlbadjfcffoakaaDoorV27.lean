/- Told codes: the first code. -/
/- Told codes: what they are. -/
/- Told codes: the walk. -/
/- What must come, whatever the arguments are. -/
/- Inflate, whatever the bytes. -/
/- Layer 5: what tokens say, written by any two codes, is read as it was. -/
/- The document's reader: its state; bits, ends, symbol. -/
import Derived.Test.YtlbadjfcffoakaaDoorV26
import Derived.Test.YtlbadjfcffoakaaDoorV16
import Derived.Test.YtlbadjfcffoakaaDoorV23
import Derived.Test.YtlbadjfcffoakaaDoorV06
import Derived.Test.YtlbadjfcffoakaaDoorV24
namespace Go.Proofs.YtlbadjfcffoakaaDoor
open Go.RowKit
set_option linter.unusedVariables false
set_option maxRecDepth 20000

def ordL : List Nat := [16, 17, 18, 0, 8, 7, 9, 6, 10, 5, 11, 4, 12, 3, 13, 2, 14, 1, 15]
theorem ordL_lt (k : Nat) : ordL.getD k 0 < 19 := by
  rcases Nat.lt_or_ge k 19 with h | h
  · exact (show ∀ k : Fin 19, ordL.getD k.val 0 < 19 by decide) ⟨k, h⟩
  · rw [List.getD_eq_getElem?_getD, List.getElem?_eq_none (by show 19 ≤ k; exact h)]; simp
def OrdAt (w : World) : Prop := ∀ i, i < 19 → w.cell? ⟨0, i, none⟩ = some (.int .i64 (ordL.getD i 0 : Nat))
theorem OrdAt.keep {w w' : World} {K : Nat → Prop} (h : OrdAt w) (hK : K 0) (hf : UF K w w') : OrdAt w' := fun i hi => by
  rw [World.cell?_of_block (w := w) (hf.block 0 hK)]; exact h i hi
def fcOf (s : ByteArray) (p : Nat) : Nat → Nat → Nat
  | 0 => fun _ => 0
  | k + 1 => fun i => if i = ordL.getD k 0 then num s (p + 3 * k) 3 else fcOf s p k i
theorem fcOf_lt (s : ByteArray) (p : Nat) : ∀ k i, fcOf s p k i < 8
  | 0, i => by simp [fcOf]
  | k + 1, i => by
    unfold fcOf
    split
    · exact num_lt s _ 3
    · exact fcOf_lt s p k i
end Go.Proofs.YtlbadjfcffoakaaDoor
namespace Go.Proofs.YtlbadjfcffoakaaDoor
open Go.RowKit
set_option linter.unusedVariables false
set_option maxRecDepth 20000

theorem symW_in (ns : List Nat) (l x : Nat) : symW ns l x < ns.length ∨ symW ns l x = 0 := by
  unfold symW
  by_cases hi : x - fstW ns l < (symsOf ns l ns.length).length
  · left
    have hm : (symsOf ns l ns.length).getD (x - fstW ns l) 0 ∈ symsOf ns l ns.length := by
      rw [List.getD_eq_getElem?_getD, List.getElem?_eq_getElem hi]; exact List.getElem_mem hi
    obtain ⟨z, hz⟩ : ∃ z, (symsOf ns l ns.length).getD (x - fstW ns l) 0 = z := ⟨_, rfl⟩
    rw [hz] at hm ⊢
    unfold symsOf at hm
    exact (List.mem_range.1 (List.mem_filter.1 hm).1)
  · right
    rw [List.getD_eq_getElem?_getD, List.getElem?_eq_none (by omega)]; rfl
theorem rdS_in (ns : List Nat) (s : ByteArray) (p : Nat) : ∀ (k l x : Nat), (rdS ns s p k l x).1 < ns.length ∨ (rdS ns s p k l x).1 = 0
  | 0, l, x => .inr rfl
  | k + 1, l, x => by
    unfold rdS
    split
    · exact symW_in ns l x
    · split
      · exact .inr rfl
      · split
        · exact .inr rfl
        · exact rdS_in ns s p k _ _
theorem usym_in (ns : List Nat) (s : ByteArray) (p : Nat) : (usym ns s p).2.2 < ns.length ∨ (usym ns s p).2.2 = 0 := by
  unfold usym
  split
  · exact .inr rfl
  · split
    · exact rdS_in ns s p 16 0 0
    · exact .inr rfl
theorem runF_len {ns : List Nat} {s : ByteArray} {p : Nat} {L : List Nat} (hn : ns.length = 19) (hL : ∀ x ∈ L, x ≤ 15) : (runF ns s p L).2.2.1 ≤ 15 := by
  have hy := usym_in ns s p
  unfold runF
  split
  · exact Nat.zero_le _
  · split
    · split
      · exact Nat.zero_le _
      · rename_i h
        show L.getLastD 0 ≤ 15
        rw [List.getLastD_eq_getLast?]
        cases he : L.getLast? with
        | none => simp
        | some z => exact hL z (List.mem_of_getLast? he)
    · split
      · exact Nat.zero_le _
      · split
        · exact Nat.zero_le _
        · show (usym ns s p).2.2 ≤ 15
          rename_i h1 h2 h3
          omega
theorem lensF_len {ns : List Nat} {s : ByteArray} {n : Nat} (hn : ns.length = 19) : ∀ (k p : Nat) (L : List Nat), (∀ x ∈ L, x ≤ 15) → ∀ x ∈ (lensF ns s n k p L).2.2, x ≤ 15
  | 0, p, L, h => h
  | k + 1, p, L, h => by
    unfold lensF
    split
    · exact h
    · split
      · exact h
      · split
        · exact h
        · refine lensF_len hn k _ _ (fun x hx => ?_)
          rcases List.mem_append.1 hx with a | a
          · exact h x a
          · rw [(List.mem_replicate.1 a).2]; exact runF_len hn h
theorem lensF_size {ns : List Nat} {s : ByteArray} {n : Nat} (hn : ns.length ≤ 288) : ∀ (k p : Nat) (L : List Nat), L.length ≤ n → (lensF ns s n k p L).1 = 0 → (lensF ns s n k p L).2.2.length = n ∧ p ≤ (lensF ns s n k p L).2.1 ∧ (p ≤ 8 * s.size → (lensF ns s n k p L).2.1 ≤ 8 * s.size)
  | 0, p, L, hl, h => by simp [lensF] at h
  | k + 1, p, L, hl, h => by
    unfold lensF at h ⊢
    by_cases a1 : n ≤ L.length
    · rw [if_pos a1]; exact ⟨by show L.length = n; omega, Nat.le_refl p, fun h => h⟩
    · rw [if_neg a1] at h ⊢
      by_cases a2 : (runF ns s p L).1 ≠ 0
      · rw [if_pos a2] at h; exact (a2 h).elim
      · rw [if_neg a2] at h ⊢
        obtain ⟨b1, b2, _, _⟩ := runF_ok (s := s) (p := p) (L := L) hn (by omega)
        by_cases a3 : n - L.length < (runF ns s p L).2.2.2
        · rw [if_pos a3] at h; simp at h
        · rw [if_neg a3] at h ⊢
          obtain ⟨c1, c2, c3⟩ := lensF_size hn k _ _ (by rw [List.length_append, List.length_replicate]; omega) h
          exact ⟨c1, Nat.le_trans b1 c2, fun hp => c3 (b2 hp)⟩
end Go.Proofs.YtlbadjfcffoakaaDoor
namespace Go.Proofs.YtlbadjfcffoakaaDoor
open Go.RowKit
set_option linter.unusedVariables false
set_option maxRecDepth 20000

def fcL (s : ByteArray) (p n : Nat) : List Nat := (List.range 19).map (fcOf s p n)
def intsOf (L : List Nat) : List Int := L.map fun (x : Nat) => (x : Int)
def toldL (s : ByteArray) (p A D C : Nat) : Nat × Nat × List Nat := lensF (fcL s (p + 14) (4 + C)) s (258 + A + D) (258 + A + D + 1) (p + 14 + 3 * (4 + C)) []
def toldE (r : Nat × Nat × List Nat) (p A D : Nat) : Nat × Nat × List Nat × List Nat :=
  if r.1 ≠ 0 then (r.1, p, [], []) else if r.2.2.getD 256 0 = 0 then (40, p, [], []) else if wholeB (intsOf (r.2.2.take (257 + A))) = false then (40, p, [], [])
  else if wholeB (intsOf (r.2.2.drop (257 + A))) = false ∧ 1 < sumTo (fun i => (r.2.2.drop (257 + A)).getD i 0) (1 + D) then (40, p, [], [])
  else (0, r.2.1, r.2.2.take (257 + A), r.2.2.drop (257 + A))
def toldF (s : ByteArray) (p : Nat) : Nat × Nat × List Nat × List Nat :=
  if 8 * s.size < p + 14 then (5, p, [], []) else if 29 < num s p 5 ∨ 29 < num s (p + 5) 5 then (40, p, [], [])
  else if 8 * s.size < p + 14 + 3 * (4 + num s (p + 10) 4) then (5, p, [], [])
  else if wholeB ((List.range 19).map fun i => (fcOf s (p + 14) (4 + num s (p + 10) 4) i : Int)) = false then (40, p, [], [])
  else toldE (toldL s p (num s p 5) (num s (p + 5) 5) (num s (p + 10) 4)) p (num s p 5) (num s (p + 5) 5)
theorem intsOf_get (L : List Nat) (i : Nat) : (intsOf L).getD i 0 = ((L.getD i 0 : Nat) : Int) := by
  unfold intsOf
  rw [List.getD_eq_getElem?_getD, List.getD_eq_getElem?_getD, List.getElem?_map]
  cases L[i]? <;> rfl
theorem nsOf_ints (L : List Nat) : nsOf (intsOf L) = L := by
  unfold nsOf intsOf
  rw [List.map_map]
  conv => rhs; rw [← List.map_id L]
  exact List.map_congr_left (fun x _ => by simp)
theorem may_ints {L : List Nat} (h : ∀ x ∈ L, x ≤ 15) (hl : L.length ≤ 288) : may (intsOf L) = true := by
  refine may_yes (by simp [intsOf]; exact hl) (fun j hj => ?_)
  rw [intsOf_get]
  have hj' : j < L.length := by simpa [intsOf] using hj
  have := h (L.getD j 0) (by rw [List.getD_eq_getElem?_getD, List.getElem?_eq_getElem hj']; exact List.getElem_mem hj')
  omega
theorem shr_sum (ns : List Nat) : ∀ j, shr ns j ≤ 16384 * sumTo (fun i => ns.getD i 0) j
  | 0 => by simp [shr, sumTo]
  | j + 1 => by
    have h := shr_sum ns j
    simp only [shr, sumTo]
    by_cases e : ns.getD j 0 = 0
    · rw [if_pos e, Nat.mul_add]; omega
    · have hp : 2 ^ (15 - ns.getD j 0) ≤ 16384 := Nat.le_trans (Nat.pow_le_pow_right (by decide) (show 15 - ns.getD j 0 ≤ 14 by omega)) (by decide)
      have hm : 16384 * 1 ≤ 16384 * ns.getD j 0 := Nat.mul_le_mul_left _ (by omega)
      rw [Nat.mul_add, if_neg e]
      omega
theorem lone_code {L : List Nat} (h : ∀ x ∈ L, x ≤ 15) (hs : sumTo (fun i => L.getD i 0) L.length ≤ 1) : ew L 15 ≤ 32768 := by
  rw [← shr_ew L (fun i => by
    rw [List.getD_eq_getElem?_getD]
    cases he : L[i]? with
    | none => simp
    | some z => exact h z (List.mem_of_getElem? he))]
  have := shr_sum L L.length
  omega
end Go.Proofs.YtlbadjfcffoakaaDoor
namespace Go.Proofs.YtlbadjfcffoakaaDoor
open Go.RowKit
set_option linter.unusedVariables false
set_option maxRecDepth 20000

def noTold : Nat → Nat × Nat × List Nat × List Nat := fun p => (40, p, [], [])
theorem noTold_ok (s : ByteArray) : ToldOK noTold s := fun p hp h => by simp [noTold] at h
def txt1 : ByteArray := ⟨#[1, 2, 0, 253, 255, 104, 105, 33]⟩
def txt2 : ByteArray := ⟨#[75, 4, 0]⟩
def txt3 : ByteArray := ⟨#[7]⟩
set_option maxRecDepth 100000 in
theorem pure1 : blocksF noTold txt1 9 (8 * txt1.size + 1) 0 [] = (0, 56, [104, 105]) := by decide +kernel
set_option maxRecDepth 100000 in
theorem pure3 : blocksF noTold txt3 9 (8 * txt3.size + 1) 0 [] = (40, 0, []) := by decide +kernel
set_option maxRecDepth 100000 in
theorem pure2 : blocksF noTold txt2 9 (8 * txt2.size + 1) 0 [] = (0, 18, [97]) := by decide +kernel
theorem UF.toBelow {w w' : World} (h : UF (fun k => k < w.heap.size) w w') : Below w.heap.size w w' := ⟨h.os, h.tape, h.output, h.size, h.block⟩
end Go.Proofs.YtlbadjfcffoakaaDoor
namespace Go.Proofs.YtlbadjfcffoakaaDoor
open Go.RowKit
set_option linter.unusedVariables false
set_option maxRecDepth 20000

theorem toldF_ok (s : ByteArray) : ToldOK (toldF s) s := by
  intro p hp h
  unfold toldF at h ⊢
  by_cases a1 : 8 * s.size < p + 14
  · rw [if_pos a1] at h; simp at h
  · rw [if_neg a1] at h ⊢
    by_cases a2 : 29 < num s p 5 ∨ 29 < num s (p + 5) 5
    · rw [if_pos a2] at h; simp at h
    · rw [if_neg a2] at h ⊢
      by_cases a3 : 8 * s.size < p + 14 + 3 * (4 + num s (p + 10) 4)
      · rw [if_pos a3] at h; simp at h
      · rw [if_neg a3] at h ⊢
        split at h
        · simp at h
        · rename_i a4
          rw [if_neg a4]
          have hsz := lensF_size (ns := fcL s (p + 14) (4 + num s (p + 10) 4)) (s := s) (n := 258 + num s p 5 + num s (p + 5) 5) (by simp [fcL]) (258 + num s p 5 + num s (p + 5) 5 + 1) (p + 14 + 3 * (4 + num s (p + 10) 4)) [] (Nat.zero_le _)
          have e : lensF (fcL s (p + 14) (4 + num s (p + 10) 4)) s (258 + num s p 5 + num s (p + 5) 5) (258 + num s p 5 + num s (p + 5) 5 + 1) (p + 14 + 3 * (4 + num s (p + 10) 4)) [] = toldL s p (num s p 5) (num s (p + 5) 5) (num s (p + 10) 4) := rfl
          rw [e] at hsz
          obtain ⟨⟨le, lp, LL⟩, hl⟩ : ∃ x, toldL s p (num s p 5) (num s (p + 5) 5) (num s (p + 10) 4) = x := ⟨_, rfl⟩
          rw [hl] at h hsz ⊢
          obtain ⟨A, hA⟩ : ∃ A, num s p 5 = A := ⟨_, rfl⟩
          obtain ⟨D, hD⟩ : ∃ D, num s (p + 5) 5 = D := ⟨_, rfl⟩
          rw [hA, hD] at h a2 hsz ⊢
          unfold toldE at h ⊢
          by_cases b1 : le ≠ 0
          · rw [if_pos b1] at h; exact (b1 h).elim
          · rw [if_neg b1] at h ⊢
            obtain ⟨c1, c2, c3⟩ := hsz (by show le = 0; omega)
            have c1 : LL.length = 258 + A + D := c1
            have c2 : p + 14 + 3 * (4 + num s (p + 10) 4) ≤ lp := c2
            have c3 : lp ≤ 8 * s.size := c3 (by omega)
            split at h
            · simp at h
            · rename_i b2
              rw [if_neg b2]
              split at h
              · simp at h
              · rename_i b3
                rw [if_neg b3]
                split at h
                · simp at h
                · rename_i b4
                  rw [if_neg b4]
                  refine ⟨by show p ≤ lp; omega, c3, ?_, ?_⟩
                  · show (LL.take (257 + A)).length ≤ 288; rw [List.length_take]; omega
                  · show (LL.drop (257 + A)).length ≤ 288; rw [List.length_drop]; omega
def infF (s : ByteArray) (most : Nat) : Nat × Nat × List Nat := blocksF (toldF s) s most (8 * s.size + 1) 0 []
end Go.Proofs.YtlbadjfcffoakaaDoor
namespace Go.Proofs.YtlbadjfcffoakaaDoor
open Go.RowKit
set_option linter.unusedVariables false
set_option maxRecDepth 20000

def BitsAt (s : ByteArray) (p : Nat) (B : List Nat) : Prop := p + B.length ≤ 8 * s.size ∧ ∀ j, j < B.length → bitAt s (p + j) = B.getD j 0
theorem BitsAt.left {s : ByteArray} {p : Nat} {A B : List Nat} (h : BitsAt s p (A ++ B)) : BitsAt s p A := by
  refine ⟨by have := h.1; rw [List.length_append] at this; omega, fun j hj => ?_⟩
  rw [h.2 j (by rw [List.length_append]; omega), List.getD_eq_getElem?_getD, List.getD_eq_getElem?_getD, List.getElem?_append_left hj]
theorem BitsAt.right {s : ByteArray} {p : Nat} {A B : List Nat} (h : BitsAt s p (A ++ B)) : BitsAt s (p + A.length) B := by
  refine ⟨by have := h.1; rw [List.length_append] at this; omega, fun j hj => ?_⟩
  have := h.2 (A.length + j) (by rw [List.length_append]; omega)
  rw [Nat.add_assoc, this, List.getD_eq_getElem?_getD, List.getD_eq_getElem?_getD, List.getElem?_append_right (by omega), Nat.add_sub_cancel_left]
theorem num_at {s : ByteArray} {p x m : Nat} (h : BitsAt s p (bitsOf x m)) (hx : x < 2 ^ m) : num s p m = x := by
  rw [num_bsum, bsum_congr (g := fun i => x / 2 ^ i % 2) (fun i hi => by rw [h.2 i (by rw [bitsOf_length]; exact hi), bitsOf_getD x m i hi])]
  exact bsum_bits x m hx
theorem ub_at {s : ByteArray} {p x m : Nat} (h : BitsAt s p (bitsOf x m)) (hx : x < 2 ^ m) : ub s p m = (0, p + m, x) := by
  have h1 := h.1
  rw [bitsOf_length] at h1
  unfold ub
  rw [if_neg (by omega), num_at h hx]
theorem usym_at {ns : List Nat} {s : ByteArray} {p i l : Nat} (hi : i < ns.length) (hl : ns.getD i 0 = l) (h1 : 1 ≤ l) (h15 : l ≤ 15) (hf : cw ns i < 2 ^ l) (h : BitsAt s p (wbitsOf (cw ns i) l)) : usym ns s p = (0, p + l, i) := by
  have hc : cw ns i = codeW ns i := by unfold cw; rw [if_neg (by omega)]
  rw [hc] at h hf
  have hp := h.1
  rw [wbitsOf_length] at hp
  have hr : rd ns s p = (i, l, 0) := rd_word hi hl h1 h15 hp (fun j hj => by rw [h.2 j (by rw [wbitsOf_length]; exact hj), wbitsOf_get _ _ _ hj]) hf
  unfold usym
  rw [hr]
  rfl
def LenP (n k x b : Nat) : Prop := (n = 258 ∧ k = 285 ∧ x = 0 ∧ b = 0) ∨ (3 ≤ n ∧ n < 11 ∧ k = 254 + n ∧ x = 0 ∧ b = 0) ∨ (∃ q, n < 258 ∧ 1 ≤ b ∧ b ≤ 5 ∧ q < 4 ∧ x < 2 ^ b ∧ k = 261 + 4 * b + q ∧ n = 3 + (4 + q) * 2 ^ b + x)
theorem LenP.small {n k x b : Nat} (h : LenP n k x b) : 256 < k ∧ k < 286 ∧ x < 2 ^ b ∧ b ≤ 5 ∧ n ≤ 258 := by
  rcases h with ⟨rfl, rfl, rfl, rfl⟩ | ⟨h1, h2, rfl, rfl, rfl⟩ | ⟨q, h1, h2, h3, h4, h5, rfl, h6⟩
  · exact ⟨by omega, by omega, by simp, by omega, by omega⟩
  · exact ⟨by omega, by omega, by simp, by omega, by omega⟩
  · exact ⟨by omega, by omega, h5, h3, by omega⟩
theorem ub_zero {s : ByteArray} {p : Nat} (h : p ≤ 8 * s.size) : ub s p 0 = (0, p, 0) := by unfold ub; rw [if_neg (by omega)]; rfl
theorem ulen_at {s : ByteArray} {p n k x b : Nat} (hp : p ≤ 8 * s.size) (h : LenP n k x b) (hb : BitsAt s p (bitsOf x b)) : ulen s p k = (0, p + b, n) := by
  rcases h with ⟨rfl, rfl, rfl, rfl⟩ | ⟨h1, h2, rfl, rfl, rfl⟩ | ⟨q, h1, h2, h3, h4, h5, rfl, h6⟩
  · unfold ulen; rw [if_neg (by omega), if_pos rfl]; rfl
  · unfold ulen; rw [if_neg (by omega), if_neg (by omega)]
    unfold ustep
    by_cases h4 : 254 + n - 257 < 4
    · rw [if_pos h4]; show (0, p, 3 + (254 + n - 257)) = (0, p + 0, n); rw [show 3 + (254 + n - 257) = n by omega]; rfl
    · rw [if_neg h4, show (254 + n - 257) / 4 - 1 = 0 by omega, ub_zero hp]
      show (0, p, 3 + ((4 + (254 + n - 257) % 4) * 2 ^ 0 + 0)) = (0, p + 0, n)
      rw [show 3 + ((4 + (254 + n - 257) % 4) * 2 ^ 0 + 0) = n by omega]; rfl
  · unfold ulen; rw [if_neg (by omega), if_neg (by omega)]
    unfold ustep
    rw [if_neg (by omega), show (261 + 4 * b + q - 257) / 4 - 1 = b by omega, ub_at hb h5, show 4 + (261 + 4 * b + q - 257) % 4 = 4 + q by omega]
    show (0, p + b, 3 + ((4 + q) * 2 ^ b + x)) = (0, p + b, n)
    rw [h6, Nat.add_assoc]
def DistP (n k x b : Nat) : Prop := (1 ≤ n ∧ n < 5 ∧ k = n - 1 ∧ x = 0 ∧ b = 0) ∨ (∃ q, 1 ≤ b ∧ b ≤ 13 ∧ q < 2 ∧ x < 2 ^ b ∧ k = 2 + 2 * b + q ∧ n = 1 + (2 + q) * 2 ^ b + x)
theorem DistP.small {n k x b : Nat} (h : DistP n k x b) : k < 30 ∧ x < 2 ^ b ∧ b ≤ 13 := by
  rcases h with ⟨h1, h2, rfl, rfl, rfl⟩ | ⟨q, h2, h3, h4, h5, rfl, h6⟩
  · exact ⟨by omega, by simp, by omega⟩
  · exact ⟨by omega, h5, h3⟩
def Cod (c : List Nat) (i : Nat) : Prop := i < c.length ∧ 1 ≤ c.getD i 0 ∧ c.getD i 0 ≤ 15 ∧ cw c i < 2 ^ c.getD i 0
def symB (c : List Nat) (i : Nat) : List Nat := wbitsOf (cw c i) (c.getD i 0)
theorem symB_length (c : List Nat) (i : Nat) : (symB c i).length = c.getD i 0 := wbitsOf_length _ _
theorem symB_01 (c : List Nat) (i : Nat) : Bits01 (symB c i) := wbitsOf_01 _ _
theorem cod_at {c : List Nat} {s : ByteArray} {p i : Nat} (h : Cod c i) (hb : BitsAt s p (symB c i)) : usym c s p = (0, p + c.getD i 0, i) := usym_at h.1 rfl h.2.1 h.2.2.1 h.2.2.2 hb
theorem udist_at {d : List Nat} {s : ByteArray} {p n k x b : Nat} (h : DistP n k x b) (hc : Cod d k) (hw : BitsAt s p (symB d k)) (hb : BitsAt s (p + d.getD k 0) (bitsOf x b)) : udist d s p = (0, p + d.getD k 0 + b, n) := by
  have hk := h.small.1
  have hu := cod_at hc hw
  have hle : p + d.getD k 0 ≤ 8 * s.size := by have := hw.1; rw [symB_length] at this; exact this
  obtain ⟨q0, hq0⟩ : ∃ q, p + d.getD k 0 = q := ⟨_, rfl⟩
  rw [hq0] at hu hb hle ⊢
  unfold udist
  rw [hu, if_neg (by simp), if_neg (by show ¬ 29 < k; omega)]
  show ((ustep s q0 k 2).1, (ustep s q0 k 2).2.1, 1 + (ustep s q0 k 2).2.2) = _
  unfold ustep
  rcases h with ⟨h1, h2, rfl, rfl, rfl⟩ | ⟨q, h2, h3, h4, h5, rfl, h6⟩
  · by_cases h4 : n - 1 < 2
    · rw [if_pos h4]; show (0, q0, 1 + (n - 1)) = (0, q0 + 0, n); rw [show 1 + (n - 1) = n by omega]; rfl
    · rw [if_neg h4, show (n - 1) / 2 - 1 = 0 by omega, ub_zero hle]
      show (0, q0, 1 + ((2 + (n - 1) % 2) * 2 ^ 0 + 0)) = (0, q0 + 0, n)
      rw [show 1 + ((2 + (n - 1) % 2) * 2 ^ 0 + 0) = n by omega]; rfl
  · rw [if_neg (by omega), show (2 + 2 * b + q) / 2 - 1 = b by omega, ub_at hb h5, show 2 + (2 + 2 * b + q) % 2 = 2 + q by omega]
    show (0, q0 + b, 1 + ((2 + q) * 2 ^ b + x)) = (0, q0 + b, n)
    rw [show 1 + ((2 + q) * 2 ^ b + x) = n by rw [h6, Nat.add_assoc]]
def stp (x st : Nat) : Nat × Nat × Nat := (st * Nat.log2 (x / st) + x / 2 ^ Nat.log2 (x / st), x % 2 ^ Nat.log2 (x / st), Nat.log2 (x / st))
def lenK (n : Nat) : Nat × Nat × Nat := if n = 258 then (285, 0, 0) else ((stp (n - 3) 4).1 + 257, (stp (n - 3) 4).2.1, (stp (n - 3) 4).2.2)
def distK (d : Nat) : Nat × Nat × Nat := stp (d - 1) 2
theorem log2_spec (y : Nat) (h : 1 ≤ y) : 2 ^ Nat.log2 y ≤ y ∧ y < 2 ^ (Nat.log2 y + 1) := by
  refine ⟨Nat.log2_self_le (by omega), Nat.lt_log2_self⟩
theorem log2_small (y k : Nat) (h : y < 2 ^ (k + 1)) : Nat.log2 y ≤ k := by
  by_cases h0 : y = 0
  · subst h0; simp
  · have h1 := (log2_spec y (by omega)).1
    have h2 : 2 ^ Nat.log2 y < 2 ^ (k + 1) := by omega
    have := (Nat.pow_lt_pow_iff_right (by omega : 1 < 2)).1 h2
    omega
theorem stp_spec (x st : Nat) (hst : 0 < st) (hm : 1 ≤ Nat.log2 (x / st)) : ∃ q, q < st ∧ x / 2 ^ Nat.log2 (x / st) = st + q ∧ x = (st + q) * 2 ^ Nat.log2 (x / st) + x % 2 ^ Nat.log2 (x / st) := by
  have hy : 1 ≤ x / st := by
    rcases Nat.eq_zero_or_pos (x / st) with h | h
    · rw [h] at hm; simp at hm
    · exact h
  obtain ⟨h1, h2⟩ := log2_spec (x / st) hy
  obtain ⟨m, hmm⟩ : ∃ m, Nat.log2 (x / st) = m := ⟨_, rfl⟩
  rw [hmm] at h1 h2 ⊢
  have hp : 0 < 2 ^ m := Nat.two_pow_pos m
  have a1 : st * 2 ^ m ≤ x := by
    have := Nat.mul_le_mul_right st h1
    have h3 := Nat.div_mul_le_self x st
    rw [Nat.mul_comm st]
    omega
  have a2 : x < 2 * st * 2 ^ m := by
    rw [Nat.pow_succ] at h2
    have h3 : x < (2 ^ m * 2) * st := (Nat.div_lt_iff_lt_mul hst).1 h2
    rw [show 2 * st * 2 ^ m = 2 ^ m * 2 * st by rw [Nat.mul_comm (2 ^ m) 2, Nat.mul_assoc 2, Nat.mul_comm st, ← Nat.mul_assoc]]
    exact h3
  have b1 : st ≤ x / 2 ^ m := (Nat.le_div_iff_mul_le hp).2 a1
  have b2 : x / 2 ^ m < 2 * st := (Nat.div_lt_iff_lt_mul hp).2 a2
  refine ⟨x / 2 ^ m - st, by omega, by omega, ?_⟩
  rw [show st + (x / 2 ^ m - st) = x / 2 ^ m by omega]
  have := Nat.div_add_mod x (2 ^ m)
  rw [Nat.mul_comm] at this
  omega
theorem lenK_ok {n : Nat} (h3 : 3 ≤ n) (h : n ≤ 258) : LenP n (lenK n).1 (lenK n).2.1 (lenK n).2.2 := by
  unfold lenK
  by_cases h1 : n = 258
  · rw [if_pos h1]; exact .inl ⟨h1, rfl, rfl, rfl⟩
  · rw [if_neg h1]
    unfold stp
    obtain ⟨m, hm⟩ : ∃ m, Nat.log2 ((n - 3) / 4) = m := ⟨_, rfl⟩
    have hm5 : m ≤ 5 := by rw [← hm]; exact log2_small _ 5 (by omega)
    by_cases h0 : m = 0
    · have hl : (n - 3) / 4 < 2 := by
        rcases Nat.eq_zero_or_pos ((n - 3) / 4) with h | h
        · omega
        · have := (log2_spec _ h).2; rw [hm, h0] at this; omega
      rw [hm, h0]
      exact .inr (.inl ⟨h3, by omega, by show 4 * 0 + (n - 3) / 2 ^ 0 + 257 = 254 + n; simp; omega, by simp; omega, rfl⟩)
    · obtain ⟨q, hq, e1, e2⟩ := stp_spec (n - 3) 4 (by omega) (by rw [hm]; omega)
      rw [hm] at e1 e2 ⊢
      refine .inr (.inr ⟨q, by omega, by show 1 ≤ m; omega, hm5, hq, Nat.mod_lt _ (Nat.two_pow_pos m), ?_, ?_⟩)
      · show 4 * m + (n - 3) / 2 ^ m + 257 = 261 + 4 * m + q
        rw [e1]; omega
      · show n = 3 + (4 + q) * 2 ^ m + (n - 3) % 2 ^ m
        omega
theorem distK_ok {d : Nat} (h1 : 1 ≤ d) (h : d ≤ 32768) : DistP d (distK d).1 (distK d).2.1 (distK d).2.2 := by
  unfold distK stp
  obtain ⟨m, hm⟩ : ∃ m, Nat.log2 ((d - 1) / 2) = m := ⟨_, rfl⟩
  have hm13 : m ≤ 13 := by rw [← hm]; exact log2_small _ 13 (by omega)
  by_cases h0 : m = 0
  · have hl : (d - 1) / 2 < 2 := by
      rcases Nat.eq_zero_or_pos ((d - 1) / 2) with h | h
      · omega
      · have := (log2_spec _ h).2; rw [hm, h0] at this; omega
    rw [hm, h0]
    exact .inl ⟨h1, by omega, by show 2 * 0 + (d - 1) / 2 ^ 0 = d - 1; simp, by simp; omega, rfl⟩
  · obtain ⟨q, hq, e1, e2⟩ := stp_spec (d - 1) 2 (by omega) (by rw [hm]; omega)
    rw [hm] at e1 e2 ⊢
    refine .inr ⟨q, by show 1 ≤ m; omega, hm13, hq, Nat.mod_lt _ (Nat.two_pow_pos m), ?_, ?_⟩
    · show 2 * m + (d - 1) / 2 ^ m = 2 + 2 * m + q
      rw [e1]; omega
    · show d = 1 + (2 + q) * 2 ^ m + (d - 1) % 2 ^ m
      omega
def tokB (c d : List Nat) (t : Nat × Nat × Nat) : List Nat := if t.2.2 = 0 then symB c t.1 else symB c (lenK t.2.1).1 ++ (bitsOf (lenK t.2.1).2.1 (lenK t.2.1).2.2 ++ (symB d (distK t.2.2).1 ++ bitsOf (distK t.2.2).2.1 (distK t.2.2).2.2))
def tokBits (c d : List Nat) : List (Nat × Nat × Nat) → List Nat
  | [] => []
  | t :: T => tokB c d t ++ tokBits c d T
theorem tokBits_snoc (c d : List Nat) (t : Nat × Nat × Nat) : ∀ T, tokBits c d (T ++ [t]) = tokBits c d T ++ tokB c d t
  | [] => by simp [tokBits]
  | x :: T => by show tokB c d x ++ tokBits c d (T ++ [t]) = (tokB c d x ++ tokBits c d T) ++ tokB c d t; rw [tokBits_snoc c d t T, List.append_assoc]
def Has (c d : List Nat) (t : Nat × Nat × Nat) : Prop := if t.2.2 = 0 then Cod c t.1 else Cod c (lenK t.2.1).1 ∧ Cod d (distK t.2.2).1
def Tells (s : ByteArray) : Nat → List (Nat × Nat × Nat) → Nat → Prop
  | k, [], k' => k = k'
  | k, t :: T, k' => (t = (D5.bt s k, 0, 0) ∧ k < s.size ∧ Tells s (k + 1) T k') ∨ (∃ n d, t = (0, n, d) ∧ D5.CopyOK s k n d ∧ Tells s (k + n) T k')
def bytesL (s : ByteArray) : List Nat := s.data.toList.map UInt8.toNat
theorem bytesL_length (s : ByteArray) : (bytesL s).length = s.size := by simp [bytesL]
theorem bytesL_get (s : ByteArray) (i : Nat) : (bytesL s).getD i 0 = D5.bt s i := by
  unfold bytesL D5.bt
  rw [List.getD_eq_getElem?_getD, List.getD_eq_getElem?_getD, List.getElem?_map]
  cases s.data.toList[i]? <;> rfl
theorem bytesL_snoc {s : ByteArray} {k : Nat} (h : k < s.size) : (bytesL s).take k ++ [D5.bt s k] = (bytesL s).take (k + 1) := by
  have hl : k < (bytesL s).length := by rw [bytesL_length]; exact h
  rw [List.take_add_one, ← bytesL_get, List.getD_eq_getElem?_getD, List.getElem?_eq_getElem hl]
  rfl
theorem Tells.le {s : ByteArray} : ∀ {T : List (Nat × Nat × Nat)} {k k' : Nat}, Tells s k T k' → k ≤ k' ∧ (k ≤ s.size → k' ≤ s.size)
  | [], k, k', h => by have h : k = k' := h; subst h; exact ⟨Nat.le_refl _, fun h => h⟩
  | t :: T, k, k', h => by
    rcases h with ⟨_, h1, h2⟩ | ⟨n, d, _, h1, h2⟩
    · have := Tells.le h2; exact ⟨by omega, fun _ => this.2 (by omega)⟩
    · have := Tells.le h2; exact ⟨by omega, fun _ => this.2 h1.room⟩
theorem copyL_take (S : List Nat) (k d : Nat) (hd : 1 ≤ d) (hk : d ≤ k) : ∀ n, k + n ≤ S.length → (∀ i, i < n → S.getD (k - d + i) 0 = S.getD (k + i) 0) → copyL d n (S.take k) = S.take (k + n)
  | 0, _, _ => rfl
  | n + 1, h, he => by
    have ih := copyL_take S k d hd hk n (by omega) (fun i hi => he i (by omega))
    rw [copyL_succ, ih]
    have hl : (S.take (k + n)).length = k + n := by rw [List.length_take]; omega
    have e1 := he n (by omega)
    have e2 : (S.take (k + n)).getD (k + n - d) 0 = S.getD (k + n) 0 := by
      rw [← e1, List.getD_eq_getElem?_getD, List.getD_eq_getElem?_getD, List.getElem?_take, if_pos (by omega)]
      congr 2
      omega
    rw [hl, e2, show k + (n + 1) = (k + n) + 1 by omega, List.take_add_one, List.getD_eq_getElem?_getD, List.getElem?_eq_getElem (by omega)]
    rfl
theorem toks_read {c d : List Nat} {s z : ByteArray} {most : Nat} (hc : c.length ≤ 288) (hd : d.length ≤ 288) (hend : Cod c 256) :
    ∀ (T : List (Nat × Nat × Nat)) (k k' p : Nat), Tells s k T k' → k ≤ s.size → (∀ t ∈ T, Has c d t) → k' ≤ most → BitsAt z p (tokBits c d T ++ symB c 256) →
      packF c d z most (8 * z.size + 1 - p) p ((bytesL s).take k) = (0, p + (tokBits c d T ++ symB c 256).length, (bytesL s).take k')
  | [], k, k', p, h, hk, hh, hm, hb => by
    have h : k = k' := h
    subst h
    have hb : BitsAt z p (symB c 256) := hb
    have hp := hb.1
    rw [pack_end (by omega) (cod_at hend hb)]
    show (0, p + c.getD 256 0, _) = (0, p + (symB c 256).length, _)
    rw [symB_length]
  | t :: T, k, k', p, h, hk, hh, hm, hb => by
    have hht := hh t (List.mem_cons_self ..)
    have hhT : ∀ x ∈ T, Has c d x := fun x hx => hh x (List.mem_cons_of_mem _ hx)
    have hb0 : BitsAt z p (tokB c d t ++ (tokBits c d T ++ symB c 256)) := by
      have : tokBits c d (t :: T) ++ symB c 256 = tokB c d t ++ (tokBits c d T ++ symB c 256) := by
        show (tokB c d t ++ tokBits c d T) ++ symB c 256 = _
        rw [List.append_assoc]
      rw [← this]; exact hb
    have hlen : (tokBits c d (t :: T) ++ symB c 256).length = (tokB c d t).length + (tokBits c d T ++ symB c 256).length := by
      show ((tokB c d t ++ tokBits c d T) ++ symB c 256).length = _
      simp only [List.length_append]; omega
    have hb1 := hb0.left
    have hb2 := hb0.right
    have hp := hb1.1
    rw [hlen]
    have hmk : ((bytesL s).take k).length = k := by rw [List.length_take, bytesL_length]; omega
    rcases h with ⟨rfl, h1, h2⟩ | ⟨n, dd, rfl, h1, h2⟩
    · have hht : Cod c (D5.bt s k) := hht
      have hb1 : BitsAt z p (symB c (D5.bt s k)) := hb1
      have hle := h2.le.1
      have el : (tokB c d (D5.bt s k, 0, 0)).length = c.getD (D5.bt s k) 0 := symB_length _ _
      rw [pack_byte (by omega) hc hd (cod_at hht hb1) (D5.bt_lt s k) (by rw [hmk]; omega), bytesL_snoc h1]
      rw [el] at hb2 ⊢
      rw [toks_read hc hd hend T (k + 1) k' _ h2 (by omega) hhT hm hb2, Nat.add_assoc]
    · have hd0 : dd ≠ 0 := by have := h1.back; omega
      have hle := h2.le.1
      have e : tokB c d (0, n, dd) = symB c (lenK n).1 ++ (bitsOf (lenK n).2.1 (lenK n).2.2 ++ (symB d (distK dd).1 ++ bitsOf (distK dd).2.1 (distK dd).2.2)) := by
        unfold tokB; rw [if_neg (by exact hd0)]
      have hht : Cod c (lenK n).1 ∧ Cod d (distK dd).1 := by
        unfold Has at hht; rw [if_neg (by exact hd0)] at hht; exact hht
      have hL := lenK_ok h1.long h1.most
      have hD := distK_ok h1.back h1.far
      obtain ⟨⟨lk, lx, lb⟩, hlk⟩ : ∃ r, lenK n = r := ⟨_, rfl⟩
      obtain ⟨⟨dk, dx, db⟩, hdk⟩ : ∃ r, distK dd = r := ⟨_, rfl⟩
      rw [hlk, hdk] at e
      rw [hlk] at hL hht
      rw [hdk] at hD hht
      rw [e] at hb1 hb2 hp ⊢
      have g1 := hb1.left
      have g2 := hb1.right
      rw [symB_length] at g2
      have g3 := g2.right
      rw [bitsOf_length] at g3
      have g4 := g3.right
      rw [symB_length] at g4
      have hu := cod_at hht.1 g1
      have hul := ulen_at (by have := g2.1; omega) hL g2.left
      have hud := udist_at hD hht.2 g3.left g4
      have hrep : repF (p + c.getD lk 0 + lb + d.getD dk 0 + db) ((bytesL s).take k) most n dd = (0, p + c.getD lk 0 + lb + d.getD dk 0 + db, (bytesL s).take (k + n)) := by
        have q1 := h1.lies
        unfold repF
        rw [hmk, if_neg (by omega), if_neg (by omega), copyL_take (bytesL s) k dd h1.back q1 n (by rw [bytesL_length]; exact h1.room) (fun i hi => by rw [bytesL_get, bytesL_get]; exact h1.same i hi)]
      rw [pack_copy (by omega) hc hd hu hL.small.1 hul hud hrep]
      have el : (symB c lk ++ (bitsOf lx lb ++ (symB d dk ++ bitsOf dx db))).length = c.getD lk 0 + (lb + (d.getD dk 0 + db)) := by
        simp only [List.length_append, symB_length, bitsOf_length]
      rw [el] at hb2 ⊢
      have ep : p + c.getD lk 0 + lb + d.getD dk 0 + db = p + (c.getD lk 0 + (lb + (d.getD dk 0 + db))) := by omega
      rw [ep, toks_read hc hd hend T (k + n) k' _ h2 h1.room hhT hm hb2, Nat.add_assoc]
theorem tokF_tells (s : ByteArray) : ∀ (f k : Nat), k ≤ s.size → s.size - k < f → Tells s k (D5.tokF s f k) s.size
  | 0, k, h, hf => by omega
  | f + 1, k, h, hf => by
    unfold D5.tokF
    by_cases h1 : s.size ≤ k
    · rw [if_pos h1]; show k = s.size; omega
    · rw [if_neg h1]
      by_cases h2 : D5.plainAt s k = true
      · rw [if_pos h2]
        exact .inl ⟨rfl, by omega, tokF_tells s f (k + 1) (by omega) (by omega)⟩
      · rw [if_neg h2]
        have h3 : (D5.copyAt s k).1 ≠ 0 := fun h0 => h2 (D5.plainAt_iff.2 (.inl h0))
        have hok := (D5.copyAt_ok (s := s) (k := k)).resolve_left h3
        refine .inr ⟨_, _, rfl, hok.1, tokF_tells s f _ hok.1.room ?_⟩
        have := hok.1.long
        omega
theorem tokens_tell (s : ByteArray) : Tells s 0 (D5.tokensOf s) s.size := tokF_tells s _ 0 (Nat.zero_le _) (by omega)
end Go.Proofs.YtlbadjfcffoakaaDoor
namespace Go.Proofs.YtlbadjfcffoakaaDoor
open Go.RowKit
set_option linter.unusedVariables false
set_option maxRecDepth 20000

structure RR (w : World) (K : Nat → Prop) (r : Nat) (s : ByteArray) (p : Nat) (l : List Nat) (most e : Nat) (v : Value) : Prop where
  blk : w.heap[r]? = some (.cells #[.string s, .int .i64 (p : Nat), .int .i64 (most : Nat), v, .int .i64 (e : Nat)] 39 (0, 0))
  own : w.ownsRow 0 5 1 v l.length (bcells l)
  le : p ≤ 8 * s.size
  small : s.size ≤ 281474976710656
  kb : ∀ k, K k → k < w.heap.size
  kr : ¬ K r
  ko : ∀ g, v.ownBlock = some g → ¬ K g
variable {w w' : World} {K : Nat → Prop} {r : Nat} {s : ByteArray} {p : Nat} {l : List Nat} {most e : Nat} {v : Value}
theorem RR.cells (h : RR w K r s p l most e v) : w.cell? ⟨r, 0, none⟩ = some (.string s) ∧ w.cell? ⟨r, 1, none⟩ = some (.int .i64 (p : Nat)) ∧ w.cell? ⟨r, 2, none⟩ = some (.int .i64 (most : Nat)) ∧ w.cell? ⟨r, 3, none⟩ = some v ∧ w.cell? ⟨r, 4, none⟩ = some (.int .i64 (e : Nat)) := by
  have h1 := h.blk
  exact ⟨by simp [World.cell?, h1], by simp [World.cell?, h1], by simp [World.cell?, h1], by simp [World.cell?, h1], by simp [World.cell?, h1]⟩
theorem RR.free (h : RR w K r s p l most e v) (i : Nat) (hi : i < 5) : w.frozen? ⟨r, i, none⟩ = false := by
  have h1 := h.blk
  simp [World.frozen?, h1]
theorem RR.form (h : RR w K r s p l most e v) : ∃ ao cp, v = .slice ao l.length cp := by
  rcases h.own.2 with ⟨e, h0⟩ | ⟨g, cap, cur, e, _⟩
  · exact ⟨none, 0, by rw [e, h0]⟩
  · exact ⟨_, _, e⟩
theorem RR.drewN (h : RR w K r s p l most e v) (k : Nat) : RR (w.drewN k) K r s p l most e v := ⟨h.blk, h.own, h.le, h.small, h.kb, h.kr, h.ko⟩
theorem RR.below (h : RR w K r s p l most e v) (hb : Below w.heap.size w w') : RR w' K r s p l most e v := by
  refine ⟨by rw [hb.block r (lt_of_block h.blk)]; exact h.blk, ⟨h.own.1, ?_⟩, h.le, h.small, fun k hk => Nat.lt_of_lt_of_le (h.kb k hk) hb.size, h.kr, h.ko⟩
  rcases h.own.2 with e | ⟨g, cap, cur, e1, e2, e3, e4⟩
  · exact .inl e
  · exact .inr ⟨g, cap, cur, e1, e2, by rw [hb.block g (lt_of_block e3)]; exact e3, e4⟩
theorem RR.uf (h : RR w K r s p l most e v) (hb : Below w.heap.size w w') : UF K w w' := ⟨hb.os, hb.tape, hb.output, hb.size, fun k hk => hb.block k (h.kb k hk)⟩
theorem RR.own_set (h : RR w K r s p l most e v) (i : Nat) (u : Value) : (w.setCell ⟨r, i, none⟩ u).ownsRow 0 5 1 v l.length (bcells l) := by
  refine ⟨h.own.1, ?_⟩
  rcases h.own.2 with e | ⟨g, cap, cur, e1, e2, e3, e4⟩
  · exact .inl e
  · refine .inr ⟨g, cap, cur, e1, e2, ?_, e4⟩
    have hgu : g ≠ r := by rintro rfl; have := h.blk; rw [e3] at this; simp at this
    rw [Below.heap_setCell _ _ _ _ hgu]; exact e3
theorem RR.uf_set (h : RR w K r s p l most e v) (i : Nat) (u : Value) : UF K w (w.setCell ⟨r, i, none⟩ u) := UF.only (Only.setCell r i w u) h.kb h.kr
theorem RR.setAt (h : RR w K r s p l most e v) (q : Nat) (hq : q ≤ 8 * s.size) : RR (w.setCell ⟨r, 1, none⟩ (.int .i64 (q : Nat))) K r s q l most e v :=
  ⟨block_setCell (i := 1) h.blk, h.own_set _ _, hq, h.small, fun k hk => Nat.lt_of_lt_of_le (h.kb k hk) (Only.setCell r 1 w _).size, h.kr, h.ko⟩
theorem RR.setE (h : RR w K r s p l most e v) (q : Nat) : RR (w.setCell ⟨r, 4, none⟩ (.int .i64 (q : Nat))) K r s p l most q v :=
  ⟨block_setCell (i := 4) h.blk, h.own_set _ _, h.le, h.small, fun k hk => Nat.lt_of_lt_of_le (h.kb k hk) (Only.setCell r 4 w _).size, h.kr, h.ko⟩
def rbF (s : ByteArray) (p e n : Nat) : Nat × Nat × Nat := if e ≠ 0 then (e, p, 0) else if 8 * s.size < p + n then (5, p, 0) else (0, p + n, num s p n)
def RNum (K : Nat → Prop) (r : Nat) (s : ByteArray) (l : List Nat) (most : Nat) (v : Value) (w : World) (x : Nat × Nat × Nat) (en : Ending) (w' : World) : Prop :=
  en = .returned (.int .i64 (x.2.2 : Nat)) ∧ RR w' K r s x.2.1 l most x.1 v ∧ UF K w w'
set_option maxRecDepth 20000 in
set_option maxHeartbeats 4000000 in
theorem rbits_ok (h : RR w K r s p l most e v) (n : Nat) (hn : n ≤ 57) :
    Calls Tryd.prog 13 #[.pointer (some ⟨r, 0, none⟩), .int .i64 n] w fun en w' => RNum K r s l most v w (rbF s p e n) en w' := by
  obtain ⟨x, hx⟩ : ∃ x, rbF s p e n = x := ⟨_, rfl⟩
  rw [hx]
  unfold rbF at hx
  have H : Hid (RR w K r s p l most e v) := h
  obtain ⟨c0, c1, c2, c3, c4⟩ := h.cells
  have f1 := h.free 1 (by omega)
  have f4 := h.free 4 (by omega)
  have hpl := h.le
  have hs := h.small
  by_cases he : e = 0
  · subst he
    rw [if_neg (by simp)] at hx
    by_cases hsh : 8 * s.size < p + n
    · rw [if_pos hsh] at hx
      have HX : Hid (x = (5, p, 0)) := hx.symm
      have HB1 : Hid (∀ W, Calls Tryd.prog 28 #[.string s, .int .i64 (p : Nat), .int .i64 n] W fun e w' => e = .returned (.tuple #[.int .i64 0, .bool false]) ∧ w' = W) := fun W => refBits_short s p n W hn hpl hsh hs
      clear hx h
      go_enter Tryd.func13, Tryd.ntmps13
      go_wp2_with fail
      go_region_with (go_at_call 28; refine (HB1.out _).mono ?_; rintro e w1 ⟨rfl, hw⟩; obtain rfl := hw.symm)
      all_goals
        go_wp2
        go_ret
        exact ⟨by rw [HX.out]; rfl, by rw [HX.out]; exact (H.out.setE 5).drewN 1, (H.out.uf_set 4 _).trans (UF.drewN _ _ 1)⟩
    · rw [if_neg hsh] at hx
      have HX : Hid (x = (0, p + n, num s p n)) := hx.symm
      obtain ⟨y, hy⟩ : ∃ y, num s p n = y := ⟨_, rfl⟩
      have HB1 : Hid (∀ W, Calls Tryd.prog 28 #[.string s, .int .i64 (p : Nat), .int .i64 n] W fun e w' => e = .returned (.tuple #[.int .i64 (y : Nat), .bool true]) ∧ w' = W) := fun W => by rw [← hy]; exact refBits s p n W hn (by omega) hs
      rw [hy] at HX
      clear hx h hy
      go_enter Tryd.func13, Tryd.ntmps13
      go_wp2_with fail
      go_region_with (go_at_call 28; refine (HB1.out _).mono ?_; rintro e w1 ⟨rfl, hw⟩; obtain rfl := hw.symm)
      all_goals
        go_wp2
        go_ret
        exact ⟨by rw [HX.out]; rfl, by rw [HX.out]; have h9 := (H.out.setAt (p + n) (by omega)).drewN 1; rw [Int.natCast_add] at h9; exact h9, (H.out.uf_set 1 _).trans (UF.drewN _ _ 1)⟩
  · rw [if_pos he] at hx
    have hei : ¬ (e : Int) = 0 := by omega
    have heb : ((e : Int) != 0) = true := by simpa using he
    have HX : Hid (x = (e, p, 0)) := hx.symm
    clear hx h
    go_enter Tryd.func13, Tryd.ntmps13
    go_wp2
    go_ret
    exact ⟨by rw [HX.out]; rfl, by rw [HX.out]; exact H.out, UF.refl _ _⟩
end Go.Proofs.YtlbadjfcffoakaaDoor
