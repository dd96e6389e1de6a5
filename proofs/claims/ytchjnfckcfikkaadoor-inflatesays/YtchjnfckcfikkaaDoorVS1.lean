/- Plain mathematics of numbers as so many bytes. -/
/- A word's bits, highest first; a word that stands there is read as its symbol (plain mathematics). -/
/- Bits as a slice of numbers that the call owns, beside a writer; the document's Text. -/
/- The document's Word: a word's bits. -/
/- What a block of the fixed code says: the mathematics. -/
/- What a block of the fixed code says: put, length, distance; rows beside one another. -/
/- What a block of the fixed code says: the law's length and distance. -/
/- What a block of the fixed code says: the two rows that it is written into. -/
import Derived.Test.YtchjnfckcfikkaaDoorWn
import Derived.Test.YtchjnfckcfikkaaDoorUd
import Derived.Test.YtchjnfckcfikkaaDoorPm
import Derived.Test.YtchjnfckcfikkaaDoorZg
import Derived.Deep.OwnRows
import Derived.Test.YtchjnfckcfikkaaDoorVF
import Derived.Test.YtchjnfckcfikkaaDoorVC
namespace Go.Proofs.YtchjnfckcfikkaaDoor
open Go.RowKit
set_option linter.unusedVariables false

theorem i64_and_nat (a b : Nat) (ha : a < 9223372036854775808) (hb : b < 9223372036854775808) : bits .and .i64 (a : Int) (b : Int) = ((a &&& b : Nat) : Int) := by
  have hx : a &&& b < 2 ^ 63 := Nat.and_lt_two_pow _ (by omega)
  show IntKind.i64.wrap ((BitVec.ofInt 64 (a : Int) &&& BitVec.ofInt 64 (b : Int)).toNat : Int) = _
  rw [BitVec.toNat_and, ofInt_u64 a (by omega), ofInt_u64 b (by omega), IntKind.wrap_i64]
  omega
/-- A number as so many bytes, the lowest first. -/
def fixB (n k : Nat) : List Nat := (List.range k).map fun i => n / 2 ^ (8 * i) % 256
theorem fixB_length (n k : Nat) : (fixB n k).length = k := by simp [fixB]
theorem fixB_lt (n k : Nat) : ∀ x ∈ fixB n k, x < 256 := by
  intro x hx
  simp only [fixB, List.mem_map] at hx
  obtain ⟨i, _, rfl⟩ := hx
  omega
theorem fixB_succ (n k : Nat) : fixB n (k + 1) = fixB n k ++ [n / 2 ^ (8 * k) % 256] := by simp [fixB, List.range_succ]
/-- The number of the first bytes of a text. -/
def fixN (s : ByteArray) : Nat → Nat
  | 0 => 0
  | i + 1 => fixN s i + (s.data.toList.getD i 0).toNat * 2 ^ (8 * i)
theorem byte_lt (s : ByteArray) (i : Nat) : (s.data.toList.getD i 0).toNat < 256 := UInt8.toNat_lt _
theorem byte_eq (s : ByteArray) (i : Nat) (h : i < s.size) : s[i].toNat = (s.data.toList.getD i 0).toNat := by
  have : s.data.toList.getD i 0 = s[i] := by
    have h' : i < s.data.size := h
    rw [List.getD_eq_getElem?_getD, Array.getElem?_toList, Array.getElem?_eq_getElem h']; rfl
  rw [this]
theorem fixN_lt (s : ByteArray) (k : Nat) : fixN s k < 2 ^ (8 * k) := by
  induction k with
  | zero => simp [fixN]
  | succ k ih =>
    have hb := byte_lt s k
    have hm : (s.data.toList.getD k 0).toNat * 2 ^ (8 * k) ≤ 255 * 2 ^ (8 * k) := Nat.mul_le_mul_right _ (by omega)
    have e : 2 ^ (8 * (k + 1)) = 256 * 2 ^ (8 * k) := by rw [show 8 * (k + 1) = 8 * k + 8 by omega, Nat.pow_add]; omega
    simp only [fixN]; omega
theorem or_byte (x y k : Nat) (hx : x < 2 ^ (8 * k)) (hy : y < 256) (hk : k ≤ 7) :
    bits .or .u64 (x : Int) (IntKind.u64.wrap ((y : Int) * 2 ^ (8 * k))) = ((x + y * 2 ^ (8 * k) : Nat) : Int) := by
  have h56 := pow_le (8 * k) 56 (by omega)
  have hm : y * 2 ^ (8 * k) ≤ 255 * 2 ^ (8 * k) := Nat.mul_le_mul_right _ (by omega)
  have e2 : (y : Int) * 2 ^ (8 * k) = ((y * 2 ^ (8 * k) : Nat) : Int) := by simp
  rw [e2, wrap_u64_nat _ (by omega), u64_or_nat _ _ (by omega) (by omega), Nat.or_comm, nat_join (8 * k) (y * 2 ^ (8 * k)) x (by simp) hx]
  omega
theorem fixN_top (s : ByteArray) : 2 ^ 63 ≤ fixN s 8 ↔ 127 < (s.data.toList.getD 7 0).toNat := by
  have h := fixN_lt s 7
  have e : fixN s 8 = fixN s 7 + (s.data.toList.getD 7 0).toNat * 2 ^ (8 * 7) := rfl
  rw [e]
  omega
theorem fixN_le (s : ByteArray) (i k : Nat) (h : i ≤ k) : fixN s i ≤ fixN s k := by
  induction k with
  | zero => rw [show i = 0 by omega]; exact Nat.le_refl _
  | succ k ih =>
    by_cases e : i = k + 1
    · rw [e]; exact Nat.le_refl _
    · exact Nat.le_trans (ih (by omega)) (by simp only [fixN]; omega)
/-- Its bytes, then whatever: the number. -/
theorem fixN_fixB (n k : Nat) (s : ByteArray) (h : n < 2 ^ (8 * k)) : fixN (toBA (fixB n k) ++ s) k = n := by
  have hg : ∀ i, i < k → ((toBA (fixB n k) ++ s).data.toList.getD i 0).toNat = n / 2 ^ (8 * i) % 256 := by
    intro i hi
    have hl : (fixB n k).length = k := fixB_length n k
    rw [List.getD_eq_getElem?_getD]
    have e : (toBA (fixB n k) ++ s).data.toList = (fixB n k).map UInt8.ofNat ++ s.data.toList := by
      rw [ByteArray.data_append, Array.toList_append]; rfl
    rw [e, List.getElem?_append_left (by simp [hl]; exact hi)]
    simp [fixB, hi]
  have hm : ∀ j, j ≤ k → fixN (toBA (fixB n k) ++ s) j = n % 2 ^ (8 * j) := by
    intro j hj
    induction j with
    | zero => simp [fixN, Nat.mod_one]
    | succ j ih =>
      simp only [fixN]
      rw [ih (by omega), hg j (by omega), show 8 * (j + 1) = 8 * j + 8 by omega, Nat.pow_add, Nat.mod_mul, Nat.mul_comm (2 ^ (8 * j))]
  rw [hm k (Nat.le_refl _), Nat.mod_eq_of_lt h]
theorem rep_set (l : List Nat) (m x : Nat) : (l ++ List.replicate (m + 1) 0).set l.length x = (l ++ [x]) ++ List.replicate m 0 := by
  rw [List.set_append_right _ _ (Nat.le_refl _), Nat.sub_self, List.replicate_succ, List.set_cons_zero, List.append_assoc]; rfl
theorem fix_store (n i k : Nat) (h : i < k) : (u8cells (fixB n i ++ List.replicate (k - i) 0)).set i (.int .u8 (n / 2 ^ (8 * i) % 256 : Nat)) = u8cells (fixB n (i + 1) ++ List.replicate (k - (i + 1)) 0) := by
  unfold u8cells
  rw [← List.map_set, show k - i = (k - (i + 1)) + 1 by omega]
  congr 1
  have := rep_set (fixB n i) (k - (i + 1)) (n / 2 ^ (8 * i) % 256)
  rw [fixB_length] at this
  rw [this, fixB_succ]
theorem made_u8 (n k : Nat) : (madeCells #[Value.int .u8 0] k).toList = u8cells (fixB n 0 ++ List.replicate (k - 0) 0) := by
  rw [toList_madeCells_one (.int .u8 0) k]
  simp [u8cells, fixB]
end Go.Proofs.YtchjnfckcfikkaaDoor
namespace Go.Proofs.YtchjnfckcfikkaaDoor
open Go.RowKit
set_option linter.unusedVariables false

/-- The bits of a word of length n, highest first. -/
def wbitsOf (x : Nat) : Nat → List Nat
  | 0 => []
  | n + 1 => (x / 2 ^ n % 2) :: wbitsOf x n
theorem wbitsOf_length (x n : Nat) : (wbitsOf x n).length = n := by
  induction n with
  | zero => rfl
  | succ n ih => simp [wbitsOf, ih]
theorem wbitsOf_get (x n i : Nat) (h : i < n) : (wbitsOf x n).getD i 0 = x / 2 ^ (n - 1 - i) % 2 := by
  induction n generalizing i with
  | zero => omega
  | succ n ih =>
    cases i with
    | zero => simp [wbitsOf]
    | succ i =>
      show (wbitsOf x n).getD i 0 = _
      rw [ih i (by omega)]
      congr 3
      omega
theorem wbitsOf_01 (x n : Nat) : Bits01 (wbitsOf x n) := by
  induction n with
  | zero => intro y hy; simp [wbitsOf] at hy
  | succ n ih =>
    intro y hy
    rcases List.mem_cons.1 hy with rfl | hy
    · exact Nat.mod_lt _ (by omega)
    · exact ih y hy
theorem rv_bit (x n i : Nat) (h : i < n) : rv x n / 2 ^ i % 2 = x / 2 ^ (n - 1 - i) % 2 := by
  induction n generalizing i with
  | zero => omega
  | succ n ih =>
    simp only [rv]
    cases i with
    | zero => simp
    | succ i =>
      have := ih i (by omega)
      rw [Nat.pow_succ, Nat.mul_comm (2 ^ i) 2, ← Nat.div_div_eq_div_mul, show (2 * rv x n + x / 2 ^ n % 2) / 2 = rv x n by have := Nat.mod_lt (x / 2 ^ n) (show 0 < 2 by omega); omega, this]
      congr 3
      omega
/-- What the program writes are the word's bits. -/
theorem bitsOf_rv (x n : Nat) : bitsOf (rv x n) n = wbitsOf x n := by
  refine List.ext_getElem? (fun i => ?_)
  by_cases h : i < n
  · rw [bitsOf_get _ _ _ h, rv_bit x n i h, List.getElem?_eq_getElem (by rw [wbitsOf_length]; exact h)]
    have := wbitsOf_get x n i h
    rw [getD_in (by rw [wbitsOf_length]; exact h)] at this
    rw [this]
  · rw [List.getElem?_eq_none (by rw [bitsOf_length]; omega), List.getElem?_eq_none (by rw [wbitsOf_length]; omega)]

theorem endW_above (ns : List Nat) (l d : Nat) (h1 : 1 ≤ l) : endW ns l * 2 ^ d ≤ endW ns (l + d) := by
  cases d with
  | zero => simp
  | succ d => exact Nat.le_trans (fstW_above ns l d h1) (Nat.le_add_right _ _)
/-- A beginning of a word, shorter than it: no word yet, and more may come. -/
theorem begins {ns : List Nat} {i l k : Nat} (hi : i < ns.length) (hl : ns.getD i 0 = l) (h15 : l ≤ 15) (hk : k < l) : ew ns k ≤ codeW ns i / 2 ^ (l - k) ∧ codeW ns i / 2 ^ (l - k) * 2 ^ (15 - k) < ew ns 15 := by
  have hend := codeW_end ns i hi
  rw [hl] at hend
  have hge : fstW ns l ≤ codeW ns i := by unfold codeW; rw [hl]; exact Nat.le_add_right _ _
  refine ⟨?_, ?_⟩
  · cases k with
    | zero => simp [ew]
    | succ k =>
      rw [Nat.le_div_iff_mul_le (Nat.pos_of_ne_zero (by simp))]
      have := fstW_above ns (k + 1) (l - (k + 1) - 1) (by omega)
      rw [show k + 1 + (l - (k + 1) - 1) + 1 = l by omega, show l - (k + 1) - 1 + 1 = l - (k + 1) by omega] at this
      exact Nat.le_trans this hge
  · have h1 : codeW ns i / 2 ^ (l - k) * 2 ^ (l - k) ≤ codeW ns i := Nat.div_mul_le_self _ _
    have h2 := endW_above ns l (15 - l) (by omega)
    rw [show l + (15 - l) = 15 by omega] at h2
    have h3 : codeW ns i / 2 ^ (l - k) * 2 ^ (15 - k) = codeW ns i / 2 ^ (l - k) * 2 ^ (l - k) * 2 ^ (15 - l) := by rw [Nat.mul_assoc, ← Nat.pow_add, show l - k + (15 - l) = 15 - k by omega]
    rw [h3]
    have h4 : codeW ns i / 2 ^ (l - k) * 2 ^ (l - k) * 2 ^ (15 - l) ≤ codeW ns i * 2 ^ (15 - l) := Nat.mul_le_mul_right _ h1
    have h5 : codeW ns i * 2 ^ (15 - l) < endW ns l * 2 ^ (15 - l) := Nat.mul_lt_mul_of_pos_right hend (Nat.pos_of_ne_zero (by simp))
    have h6 : endW ns 15 = ew ns 15 := rfl
    omega
theorem rd_word {ns : List Nat} {s : ByteArray} {p i l : Nat} (hi : i < ns.length) (hl : ns.getD i 0 = l) (h1 : 1 ≤ l) (h15 : l ≤ 15) (hp : p + l ≤ 8 * s.size) (hb : ∀ j, j < l → bitAt s (p + j) = codeW ns i / 2 ^ (l - 1 - j) % 2) (hlt : codeW ns i < 2 ^ l) : rd ns s p = (i, l, 0) := by
  have key : ∀ m k, k + m = l → rdS ns s p (16 - k) k (codeW ns i / 2 ^ (l - k)) = (i, l, 0) := by
    intro m
    induction m with
    | zero =>
      intro k hk
      obtain rfl : k = l := by omega
      rw [Nat.sub_self, Nat.pow_zero, Nat.div_one, show 16 - k = (15 - k) + 1 by omega]
      simp only [rdS]
      have hend := codeW_end ns i hi
      rw [hl] at hend
      have hew : ew ns k = endW ns k := by
        cases k with
        | zero => omega
        | succ k => rfl
      rw [if_pos (by rw [hew]; exact hend)]
      have hge : fstW ns k ≤ codeW ns i := by unfold codeW; rw [hl]; exact Nat.le_add_right _ _
      obtain ⟨a1, a2, a3⟩ := symW_ok ns k (codeW ns i) (by omega) hge hend
      rw [codeW_inj ns _ i a1 hi (by rw [a2, hl]) a3]
    | succ m ih =>
      intro k hk
      rw [show 16 - k = (16 - (k + 1)) + 1 by omega]
      simp only [rdS]
      obtain ⟨b1, b2⟩ := begins hi hl h15 (show k < l by omega)
      rw [if_neg (by omega), if_neg (by omega), if_neg (by omega), hb k (by omega)]
      have e : 2 * (codeW ns i / 2 ^ (l - k)) + codeW ns i / 2 ^ (l - 1 - k) % 2 = codeW ns i / 2 ^ (l - (k + 1)) := by
        rw [show l - k = (l - 1 - k) + 1 by omega, Nat.pow_succ, ← Nat.div_div_eq_div_mul, show l - (k + 1) = l - 1 - k by omega]
        omega
      rw [e]
      exact ih (k + 1) (by omega)
  have h := key l 0 (by omega)
  rw [show l - 0 = l from rfl, Nat.div_eq_of_lt hlt] at h
  exact h
end Go.Proofs.YtchjnfckcfikkaaDoor
namespace Go.Proofs.YtchjnfckcfikkaaDoor
open Go.RowKit
set_option linter.unusedVariables false

def icells (L : List Nat) : List Value := L.map fun x => Value.int .i64 (x : Nat)
theorem icells_snoc (L : List Nat) (x : Nat) : icells L ++ [Value.int .i64 (x : Nat)] = icells (L ++ [x]) := by simp [icells]
/-- The slice of numbers L. -/
def IS (w : World) (B : Nat) (v : Value) (L : List Nat) : Prop := w.ownsRow B 3 1 v L.length (icells L)
theorem IS.nil (w : World) (B : Nat) : IS w B (.slice none 0 0) [] := World.ownsRow_nil _ _ _ _
theorem IS.form {w : World} {B : Nat} {v : Value} {L : List Nat} (h : IS w B v L) : ∃ ao cp, v = .slice ao L.length cp := by
  rcases h.2 with ⟨rfl, h0⟩ | ⟨g, cap, cur, rfl, _⟩
  · exact ⟨none, 0, by rw [h0]⟩
  · exact ⟨_, _, rfl⟩
theorem ownsRow_kept {w w' : World} {B : Nat} {E : TypeId} {size n : Nat} {v : Value} {xs : List Value} (h : w.ownsRow B E size v n xs) (hk : ∀ (g : Nat) (cur : Array Value), w.heap[g]? = some (.cells cur E (0, 0)) → w'.heap[g]? = w.heap[g]?) : w'.ownsRow B E size v n xs := by
  refine ⟨h.1, ?_⟩
  rcases h.2 with hn | ⟨g, cap, cur, hv, hg, hh, r⟩
  · exact .inl hn
  · exact .inr ⟨g, cap, cur, hv, hg, (hk g cur hh).trans hh, r⟩
/-- A writer's call keeps the slice. -/
theorem IS.below {w w' : World} {B : Nat} {v : Value} {L : List Nat} (h : IS w B v L) (hb : Below w.heap.size w w') : IS w' B v L :=
  ownsRow_kept h (fun g cur hg => hb.block g (lt_of_block hg))
theorem IS.alloc {w : World} {B : Nat} {v : Value} {L : List Nat} (h : IS w B v L) (o : Obj) : IS (w.alloc o) B v L := World.ownsRow.alloc h o
/-- An append to the slice keeps the writer. -/
theorem Fr.appended {E : TypeId} {B n size : Nat} {w w1 : World} {v : Value} {xs : List Value} {o : Obj} (h : w.ownsRow B E size v n xs) (hg : (w.alloc o).grownBy w1 v.ownBlock) : Fr E B w.heap.size w w1 :=
  (Fr.alloc _ _ _ _ _).trans (Fr.grown (h.alloc o) hg)
theorem and1_i64 (x k : Nat) (hx : x < 9223372036854775808) : bits .and .i64 ((x : Int) / 2 ^ k) 1 = ((x / 2 ^ k % 2 : Nat) : Int) := by
  have e : (x : Int) / 2 ^ k = ((x / 2 ^ k : Nat) : Int) := by simp
  have hl : x / 2 ^ k ≤ x := Nat.div_le_self _ _
  have h := i64_and_nat (x / 2 ^ k) 1 (by omega) (by omega)
  rw [e, show (1 : Int) = ((1 : Nat) : Int) from rfl, h, nat_mask1]
/-- The bytes when so many bits are in. -/
def part (L : List Nat) (m i : Nat) : List Nat := (List.range m).map (byteOf (L.take i))
theorem part_length (L : List Nat) (m i : Nat) : (part L m i).length = m := by simp [part]
theorem part_get (L : List Nat) (m i j : Nat) (h : j < m) : (part L m i)[j]? = some (byteOf (L.take i) j) := by simp [part, List.getElem?_range h]
theorem byteOf_nil (j : Nat) : byteOf [] j = 0 := by
  unfold byteOf
  rw [bsum_high (m := 0) (by omega) (fun i _ _ => by simp)]; rfl
theorem part_zero (L : List Nat) (m : Nat) : part L m 0 = List.replicate m 0 := by
  refine List.ext_getElem? (fun j => ?_)
  by_cases h : j < m
  · rw [part_get L m 0 j h, List.take_zero, byteOf_nil, List.getElem?_replicate, if_pos h]
  · rw [List.getElem?_eq_none (by rw [part_length]; omega), List.getElem?_eq_none (by rw [List.length_replicate]; omega)]
theorem part_succ (L : List Nat) (m i : Nat) (hi : i < L.length) (hm : i / 8 < m) : (part L m i).set (i / 8) (byteOf (L.take i) (i / 8) + L.getD i 0 * 2 ^ (i % 8)) = part L m (i + 1) := by
  have hl : (L.take i).length = i := by rw [List.length_take]; omega
  have e : L.getD i 0 = L[i] := by rw [List.getD_eq_getElem?_getD, List.getElem?_eq_getElem hi]; rfl
  refine List.ext_getElem? (fun j => ?_)
  by_cases h : j < m
  · rw [part_get L m (i + 1) j h, List.take_succ_eq_append_getElem hi, byteOf_snoc, hl]
    by_cases hj : j = i / 8
    · subst hj
      rw [if_pos rfl, List.getElem?_set_self (by rw [part_length]; exact h), e]
    · rw [if_neg hj, List.getElem?_set_ne (by omega), part_get L m i j h]
  · rw [List.getElem?_eq_none (by rw [List.length_set, part_length]; omega), List.getElem?_eq_none (by rw [part_length]; omega)]
theorem part_all (L : List Nat) : part L ((L.length + 7) / 8) L.length = pack L := by unfold part pack; rw [List.take_length]
theorem Bits01.take {L : List Nat} (h : Bits01 L) (i : Nat) : Bits01 (L.take i) := fun x hx => h x (List.mem_of_mem_take hx)
theorem or_u8w (y c q : Nat) (hq : q < 8) (hy : y < 2 ^ q) (hc : c < 2) : bits .or .u8 (y : Int) (wrap64 ((c : Int) * 2 ^ q) % 256) = ((y + c * 2 ^ q : Nat) : Int) := by
  have h := or_u8 y c q hq hy hc
  have h7 := pow_le q 7 (by omega)
  have hm : c * 2 ^ q ≤ 1 * 2 ^ q := Nat.mul_le_mul_right _ (by omega)
  have e0 : (c : Int) % 256 = (c : Int) := by omega
  have e2 : (c : Int) * 2 ^ q = ((c * 2 ^ q : Nat) : Int) := by simp
  rw [e0] at h
  rw [e2, IntWalk.wrap64_in _ ⟨by omega, by omega⟩, ← e2]
  exact h
set_option maxHeartbeats 1000000 in
theorem refText (B cp : Nat) (ao : Option Addr) (L : List Nat) (w : World) (h01 : Bits01 L) (hL : L.length ≤ 1073745000) (hI : IS w B (.slice ao L.length cp) L) :
    Calls Tryd.prog 17 #[.slice ao L.length cp] w fun e w' => e = .returned (.string (toBA (pack L))) ∧ Below w.heap.size w w' := by
  have HI : Hid (IS w B (.slice ao L.length cp) L) := hI
  have H01 : Hid (Bits01 L) := h01
  clear hI h01
  obtain ⟨q, hq⟩ : ∃ q, q = L.length := ⟨_, rfl⟩
  have HQ : Hid (q = L.length) := hq
  rw [← hq] at hL ⊢
  obtain ⟨m, hm⟩ : ∃ m, m = (q + 7) / 8 := ⟨_, rfl⟩
  have HM : Hid (m = (q + 7) / 8) := hm
  have hmq : ((q : Int) + 7) / 8 = (m : Int) := by omega
  clear hq hm
  obtain ⟨i0, hi, hz0, hz1, hz2⟩ := info_parts infoB
  go_enter Tryd.func17, Tryd.ntmps17
  go_wp2_with (at_make; refine wpList_make_full _ rfl _ _ 33 rfl w.heap.size 5 i0 (.int .u8 0) 1 Tryd.underlying33 hi hz0 hz1 .i64 .i64 _ _ m rfl rfl ?l1 ?l2 ?c1 ?c2 (Nat.le_refl _) ?_)
  case l1 => exact hmq
  case l2 => exact hmq
  case c1 => rw [hz2]; have := HM.out; omega
  case c2 => unfold maxLen; have := HM.out; omega
  intro w1 hown hgrow
  have hst : Hid (w1.ownsRow w.heap.size 5 1 (.slice (some ⟨w.heap.size, 0, none⟩) m m) m (u8cells (part L m 0)) ∧ Below w.heap.size w w1) := by
    refine ⟨?_, (Below.refl _ _).grown hgrow (Nat.le_refl _) (fun k hk => by cases hk)⟩
    rw [part_zero]
    have e : (madeCells #[Value.int .u8 0] m).toList = u8cells (List.replicate m 0) := by rw [toList_madeCells_one]; simp [u8cells]
    rw [← e]; exact hown
  clear hown hgrow
  go_wp2
  go_loopw [4] (fun i wr => ∃ j : Nat, j ≤ q ∧ i = .int .i64 j ∧ Hid (wr.ownsRow w.heap.size 5 1 (.slice (some ⟨w.heap.size, 0, none⟩) m m) m (u8cells (part L m j)) ∧ Below w.heap.size w wr)) (fun i _ => q - (intOf i).toNat)
  case atStart => exact ⟨0, Nat.zero_le _, rfl, hst⟩
  case round =>
    obtain ⟨j, hj, rfl, hR⟩ := hrel
    by_cases hlt : j < q
    · have hjm : j / 8 < m := by have := HM.out; omega
      have hIr := HI.out.below hR.out.2
      have hform : ∃ gl, ao = some ⟨gl, 0, none⟩ := by
        rcases HI.out.2 with ⟨h, h0⟩ | ⟨g, cap, cur, h, _⟩
        · rw [← HQ.out] at h0; omega
        · exact ⟨g, by cases h; rfl⟩
      obtain ⟨gl, hao⟩ := hform
      rw [hao] at hIr
      have cl : wr.cell? ⟨gl, j, none⟩ = some (.int .i64 (L.getD j 0 : Nat)) := by
        unfold IS at hIr
        rw [hIr.cellAt j (by rw [← HQ.out]; omega)]
        have hjL : j < L.length := by rw [← HQ.out]; exact hlt
        simp [icells, List.getElem?_eq_getElem hjL, List.getD_eq_getElem?_getD]
      have cb : wr.cell? ⟨w.heap.size, j / 8, none⟩ = some (.int .u8 (byteOf (L.take j) (j / 8) : Nat)) := by
        rw [hR.out.1.cellAt (j / 8) (by omega)]
        unfold u8cells
        rw [List.getElem?_map, part_get L m j (j / 8) hjm]; rfl
      have fb := hR.out.1.frozenAt (j / 8)
      have hne : gl ≠ w.heap.size := by
        rintro rfl
        have h1 := (ownsRow_heap hIr).2
        obtain ⟨c1, h1⟩ := h1
        obtain ⟨c2, h2⟩ := (ownsRow_heap hR.out.1).2
        rw [h1] at h2; cases h2
      rw [hao]
      clear hIr
      go_wp2
      go_region
      go_wp2
      go_roundw
      case rel =>
        have hjL : j < L.length := by rw [← HQ.out]; exact hlt
        have hlt2 : (L.take j).length = j := by rw [List.length_take]; omega
        have hy := byteOf_last (H01.out.take j)
        rw [hlt2] at hy
        have hc : L[j]?.getD 0 < 2 := by rw [← List.getD_eq_getElem?_getD]; exact H01.out.getD j
        have e : bits BinOp.or IntKind.u8 (↑(byteOf (List.take j L) (j / 8))) (wrap64 (↑(L[j]?.getD 0) * 2 ^ (j % 8)) % 256) = ((byteOf (L.take j) (j / 8) + L.getD j 0 * 2 ^ (j % 8) : Nat) : Int) := by
          rw [or_u8w _ _ _ (by omega) hy hc, List.getD_eq_getElem?_getD]
        have hs := (hR.out.1.stored (j / 8) (.int .u8 ((byteOf (L.take j) (j / 8) + L.getD j 0 * 2 ^ (j % 8) : Nat) : Int))).1
        refine ⟨j + 1, by omega, by go_num, ?_⟩
        rw [e]
        refine ⟨?_, (hR.out.2.setCell (p := ⟨w.heap.size, j / 8, none⟩) (Nat.le_refl _) _).drew⟩
        have e2 : (u8cells (part L m j)).set (j / 8) (.int .u8 ((byteOf (L.take j) (j / 8) + L.getD j 0 * 2 ^ (j % 8) : Nat) : Int)) = u8cells (part L m (j + 1)) := by
          unfold u8cells
          rw [← part_succ L m j hjL hjm, List.map_set]
        rw [e2] at hs
        exact hs
      case measure => simp [intOf]; omega
    · have hcv : (convert 33 9 (.slice (some ⟨w.heap.size, 0, none⟩) m m)).run Tryd.prog wr = .ok (.string (toBA (pack L))) wr := by
        have hjq : j = L.length := by rw [← HQ.out]; omega
        refine conv_row wr _ _ 5 w.heap.size _ (pack L) Tryd.underlying33 Tryd.underlying5 Tryd.underlying9 ?_ ?_
        · rw [pack_length, ← HQ.out, ← HM.out, ← part_all, ← HQ.out, ← HM.out]
          have h := hR.out.1
          rw [hjq, ← HQ.out] at h
          exact h
        · intro x hx
          obtain ⟨j, _, rfl⟩ := List.mem_map.1 hx
          exact byteOf_lt H01.out j
      go_wp2
      go_ret
      exact ⟨rfl, hR.out.2⟩
end Go.Proofs.YtchjnfckcfikkaaDoor
namespace Go.Proofs.YtchjnfckcfikkaaDoor
open Go.RowKit
set_option linter.unusedVariables false

theorem wtake (x n k : Nat) (h : k < n) : (wbitsOf x n).take (k + 1) = (wbitsOf x n).take k ++ [x / 2 ^ (n - 1 - k) % 2] := by
  rw [List.take_succ_eq_append_getElem (by rw [wbitsOf_length]; exact h)]
  have := wbitsOf_get x n k h
  rw [getD_in (by rw [wbitsOf_length]; exact h)] at this
  rw [this]
structure WordSt (w wr : World) (x n k : Nat) (v : Value) : Prop where
  own : wr.ownsRow w.heap.size 3 1 v k (icells ((wbitsOf x n).take k))
  bel : Below w.heap.size w wr
set_option maxRecDepth 20000 in
set_option maxHeartbeats 1000000 in
theorem word_ok (x n : Nat) (hn : n ≤ 57) (hx : x < 9223372036854775808) (w : World) :
    Calls Tryd.prog 14 #[.int .i64 n, .int .i64 x] w fun e w' => ∃ v, e = .returned v ∧ WordSt w w' x n n v := by
  obtain ⟨i0, hi, hz0, hz1, hz2⟩ := info_split intInfo
  have HI : Hid (Tryd.prog.info? 3 = some i0 ∧ i0.zero = some (.int .i64 0) ∧ i0.size = 1 ∧ i0.bytes = 8) := ⟨hi, hz0, hz1, hz2⟩
  clear hi hz0 hz1 hz2
  go_enter Tryd.func14, Tryd.ntmps14
  go_wp2
  go_loopw [5, 6] (fun v5 v6 wr => ∃ (k : Nat) (V : Value), V = v5 ∧ v6 = .int .i64 ((n : Int) - 1 - (k : Int)) ∧ k ≤ n ∧ Hid (WordSt w wr x n k V)) (fun _ v6 _ => (intOf v6 + 1).toNat)
  case atStart => exact ⟨0, _, rfl, by simp, by omega, World.ownsRow_nil _ _ _ _, Below.refl _ _⟩
  case round =>
    obtain ⟨k, V, rfl, rfl, hk, HS⟩ := hrel
    by_cases hlt : k < n
    · obtain ⟨m, hm⟩ : ∃ m : Nat, n - 1 - k = m := ⟨_, rfl⟩
      have hmi : (n : Int) - 1 - (k : Int) = (m : Int) := by omega
      have HMI : Hid ((n : Int) - 1 - (k : Int) = (m : Int)) := hmi
      rw [hmi]
      have hmn : m ≤ 57 := by omega
      have o1 := HS.out.own
      have HO : Hid (∀ o, (wr.alloc o).ownsRow w.heap.size 3 1 V k (icells ((wbitsOf x n).take k)) ∧ w.heap.size ≤ (wr.alloc o).heap.size) := fun o => ⟨o1.alloc o, by have := HS.out.bel.size; simp; omega⟩
      have HM : Hid (n - 1 - k = m) := hm
      clear o1 hm hmi
      go_wp2_with (at_builtin; refine wpList_append_lies _ rfl _ _ 29 rfl w.heap.size 3 i0 (.int .i64 0) 1 8 Tryd.underlying29 HI.out.1 HI.out.2.1 HI.out.2.2.1 HI.out.2.2.2 rfl (by decide) V k (icells ((wbitsOf x n).take k)) rfl (HO.out _).1 ⟨wr.heap.size, 0, none⟩ 1 1 [.int .i64 (bits .and .i64 ((x : Int) / 2 ^ m) 1)] rfl rfl ?c1 ?c2 (by decide) ?c3 ?c4 (HO.out _).2 _ rfl ?_)
      case c1 =>
        intro j u hj
        match j, hj with
        | 0, hj => simp at hj; subst hj; simp [Addr.add]
      case c2 => intro u hu; simp at hu; subst hu; rfl
      case c3 => unfold maxLen; omega
      case c4 => omega
      intro g cap w1 hown hgrow hat hgl
      have H2 : Hid (WordSt w w1 x n (k + 1) (.slice (some ⟨g, 0, none⟩) (k + 1) cap)) := by
        refine ⟨?_, ?_⟩
        · rw [wtake x n k hlt, ← icells_snoc, HM.out, ← and1_i64 x m hx]; exact hown
        · have hb := HS.out.bel
          exact (hb.alloc hb.size _).trans ((below_grown (HO.out _).1 hgrow (HO.out _).2).mono (Nat.le_refl _))
      clear hown hgrow hat
      go_wp2
      have hmi := HMI.out
      refine ⟨⟨k + 1, _, rfl, ?_, by omega, H2⟩, by simp [intOf]⟩
      congr 1
      omega
    · obtain rfl : k = n := by omega
      have hneg : (k : Int) - 1 - (k : Int) = -1 := by omega
      rw [hneg]
      go_wp2
      go_ret
      exact ⟨V, rfl, HS.out⟩
/-- .. as a slice whose cells are known. -/
theorem word_cells (x n : Nat) (hn : n ≤ 57) (h1 : 1 ≤ n) (hx : x < 9223372036854775808) (w : World) :
    Calls Tryd.prog 14 #[.int .i64 n, .int .i64 x] w fun e w' => ∃ g cap, e = .returned (.slice (some ⟨g, 0, none⟩) n cap) ∧ (∀ j u, (icells (wbitsOf x n))[j]? = some u → w'.cell? ((⟨g, 0, none⟩ : Addr).add j) = some u) ∧ Below w.heap.size w w' := by
  refine (word_ok x n hn hx w).mono ?_
  rintro e w' ⟨v, rfl, h⟩
  have ho := h.own
  rw [List.take_of_length_le (by rw [wbitsOf_length]; exact Nat.le_refl _)] at ho
  rcases ho.2 with ⟨_, h0⟩ | ⟨g, cap, cur, e1, _⟩
  · omega
  · exact ⟨g, cap, by rw [e1], fun j u hu => ho.cells (by rw [e1]; rfl) j u hu, h.bel⟩
theorem one_icells (l : List Nat) : ∀ u ∈ icells l, u.oneCell' = true := by
  intro u hu
  obtain ⟨x, _, rfl⟩ := List.mem_map.1 hu
  rfl
theorem icells_length (l : List Nat) : (icells l).length = l.length := by simp [icells]
end Go.Proofs.YtchjnfckcfikkaaDoor
namespace Go.Proofs.YtchjnfckcfikkaaDoor
open Go.RowKit
set_option linter.unusedVariables false

/-- The bits of s from p on are those of B. -/
def BitsAt (s : ByteArray) (p : Nat) (B : List Nat) : Prop := p + B.length ≤ 8 * s.size ∧ ∀ j, j < B.length → bitAt s (p + j) = B.getD j 0
theorem BitsAt.left {s : ByteArray} {p : Nat} {A B : List Nat} (h : BitsAt s p (A ++ B)) : BitsAt s p A := by
  refine ⟨by have := h.1; rw [List.length_append] at this; omega, fun j hj => ?_⟩
  rw [h.2 j (by rw [List.length_append]; omega), List.getD_eq_getElem?_getD, List.getD_eq_getElem?_getD, List.getElem?_append_left hj]
theorem BitsAt.right {s : ByteArray} {p : Nat} {A B : List Nat} (h : BitsAt s p (A ++ B)) : BitsAt s (p + A.length) B := by
  refine ⟨by have := h.1; rw [List.length_append] at this; omega, fun j hj => ?_⟩
  have := h.2 (A.length + j) (by rw [List.length_append]; omega)
  rw [Nat.add_assoc, this, List.getD_eq_getElem?_getD, List.getD_eq_getElem?_getD, List.getElem?_append_right (by omega), Nat.add_sub_cancel_left]
theorem num_at {s : ByteArray} {p x m : Nat} (h : BitsAt s p (bitsOf x m)) (hx : x < 2 ^ m) : num s p m = x := by
  rw [num_bsum, bsum_congr (g := fun i => x / 2 ^ i % 2) (fun i hi => by rw [h.2 i (by rw [bitsOf_length]; exact hi), bitsOf_getD x m i hi])]
  exact bsum_bits x m hx
theorem ub_at {s : ByteArray} {p x m : Nat} (h : BitsAt s p (bitsOf x m)) (hx : x < 2 ^ m) : ub s p m = (0, p + m, x) := by
  have h1 := h.1
  rw [bitsOf_length] at h1
  unfold ub
  rw [if_neg (by omega), num_at h hx]
/-- A word that stands there is read. -/
theorem usym_at {ns : List Nat} {s : ByteArray} {p i l : Nat} (hi : i < ns.length) (hl : ns.getD i 0 = l) (h1 : 1 ≤ l) (h15 : l ≤ 15) (hf : cw ns i < 2 ^ l) (h : BitsAt s p (wbitsOf (cw ns i) l)) : usym ns s p = (0, p + l, i) := by
  have hc : cw ns i = codeW ns i := by unfold cw; rw [if_neg (by omega)]
  rw [hc] at h hf
  have hp := h.1
  rw [wbitsOf_length] at hp
  have hr : rd ns s p = (i, l, 0) := rd_word hi hl h1 h15 hp (fun j hj => by rw [h.2 j (by rw [wbitsOf_length]; exact hj), wbitsOf_get _ _ _ hj]) hf
  unfold usym
  rw [hr]
  rfl
theorem fixS_fit : ∀ i, i < 288 → cw fixS i < 2 ^ fixS.getD i 0 ∧ 1 ≤ fixS.getD i 0 := fun i hi => (show ∀ k : Fin 288, cw fixS k.val < 2 ^ fixS.getD k.val 0 ∧ 1 ≤ fixS.getD k.val 0 by decide +kernel) ⟨i, hi⟩
theorem fixD_fit : ∀ i, i < 32 → cw fixD i = i ∧ fixD.getD i 0 = 5 := fun i hi => (show ∀ k : Fin 32, cw fixD k.val = k.val ∧ fixD.getD k.val 0 = 5 by decide +kernel) ⟨i, hi⟩
theorem fixS_at {s : ByteArray} {p i : Nat} (hi : i < 288) (h : BitsAt s p (wbitsOf (cw fixS i) (fixS.getD i 0))) : usym fixS s p = (0, p + fixS.getD i 0, i) :=
  usym_at (by rw [fixS_len]; exact hi) rfl (fixS_fit i hi).2 (fixS_15 i) (fixS_fit i hi).1 h
theorem fixD_at {s : ByteArray} {p i : Nat} (hi : i < 32) (h : BitsAt s p (wbitsOf i 5)) : usym fixD s p = (0, p + 5, i) := by
  obtain ⟨h1, h2⟩ := fixD_fit i hi
  refine usym_at (by rw [fixD_len]; exact hi) h2 (by omega) (by omega) (by rw [h1]; omega) (by rw [h1]; exact h)
/-- A length's symbol, its bits' number, how many. -/
def LenP (n k x b : Nat) : Prop := (n = 258 ∧ k = 285 ∧ x = 0 ∧ b = 0) ∨ (3 ≤ n ∧ n < 11 ∧ k = 254 + n ∧ x = 0 ∧ b = 0) ∨ (∃ q, n < 258 ∧ 1 ≤ b ∧ b ≤ 5 ∧ q < 4 ∧ x < 2 ^ b ∧ k = 261 + 4 * b + q ∧ n = 3 + (4 + q) * 2 ^ b + x)
theorem LenP.small {n k x b : Nat} (h : LenP n k x b) : 256 < k ∧ k < 286 ∧ x < 2 ^ b ∧ b ≤ 5 ∧ n ≤ 258 := by
  rcases h with ⟨rfl, rfl, rfl, rfl⟩ | ⟨h1, h2, rfl, rfl, rfl⟩ | ⟨q, h1, h2, h3, h4, h5, rfl, h6⟩
  · exact ⟨by omega, by omega, by simp, by omega, by omega⟩
  · exact ⟨by omega, by omega, by simp, by omega, by omega⟩
  · exact ⟨by omega, by omega, h5, h3, by omega⟩
theorem ub_zero {s : ByteArray} {p : Nat} (h : p ≤ 8 * s.size) : ub s p 0 = (0, p, 0) := by unfold ub; rw [if_neg (by omega)]; rfl
theorem ulen_at {s : ByteArray} {p n k x b : Nat} (hp : p ≤ 8 * s.size) (h : LenP n k x b) (hb : BitsAt s p (bitsOf x b)) : ulen s p k = (0, p + b, n) := by
  rcases h with ⟨rfl, rfl, rfl, rfl⟩ | ⟨h1, h2, rfl, rfl, rfl⟩ | ⟨q, h1, h2, h3, h4, h5, rfl, h6⟩
  · unfold ulen; rw [if_neg (by omega), if_pos rfl]; rfl
  · unfold ulen; rw [if_neg (by omega), if_neg (by omega)]
    unfold ustep
    by_cases h4 : 254 + n - 257 < 4
    · rw [if_pos h4]; show (0, p, 3 + (254 + n - 257)) = (0, p + 0, n); rw [show 3 + (254 + n - 257) = n by omega]; rfl
    · rw [if_neg h4, show (254 + n - 257) / 4 - 1 = 0 by omega, ub_zero hp]
      show (0, p, 3 + ((4 + (254 + n - 257) % 4) * 2 ^ 0 + 0)) = (0, p + 0, n)
      rw [show 3 + ((4 + (254 + n - 257) % 4) * 2 ^ 0 + 0) = n by omega]; rfl
  · unfold ulen; rw [if_neg (by omega), if_neg (by omega)]
    unfold ustep
    rw [if_neg (by omega), show (261 + 4 * b + q - 257) / 4 - 1 = b by omega, ub_at hb h5, show 4 + (261 + 4 * b + q - 257) % 4 = 4 + q by omega]
    show (0, p + b, 3 + ((4 + q) * 2 ^ b + x)) = (0, p + b, n)
    rw [h6, Nat.add_assoc]
def DistP (n k x b : Nat) : Prop := (1 ≤ n ∧ n < 5 ∧ k = n - 1 ∧ x = 0 ∧ b = 0) ∨ (∃ q, 1 ≤ b ∧ b ≤ 13 ∧ q < 2 ∧ x < 2 ^ b ∧ k = 2 + 2 * b + q ∧ n = 1 + (2 + q) * 2 ^ b + x)
theorem DistP.small {n k x b : Nat} (h : DistP n k x b) : k < 30 ∧ x < 2 ^ b ∧ b ≤ 13 := by
  rcases h with ⟨h1, h2, rfl, rfl, rfl⟩ | ⟨q, h2, h3, h4, h5, rfl, h6⟩
  · exact ⟨by omega, by simp, by omega⟩
  · exact ⟨by omega, h5, h3⟩
theorem udist_at {s : ByteArray} {p n k x b : Nat} (h : DistP n k x b) (hw : BitsAt s p (wbitsOf k 5)) (hb : BitsAt s (p + 5) (bitsOf x b)) : udist fixD s p = (0, p + 5 + b, n) := by
  have hk := h.small.1
  have hu := fixD_at (s := s) (p := p) (i := k) (by omega) hw
  have hle : p + 5 ≤ 8 * s.size := by have := hw.1; rw [wbitsOf_length] at this; exact this
  unfold udist
  rw [hu, if_neg (by simp), if_neg (by show ¬ 29 < k; omega)]
  show ((ustep s (p + 5) k 2).1, (ustep s (p + 5) k 2).2.1, 1 + (ustep s (p + 5) k 2).2.2) = _
  unfold ustep
  rcases h with ⟨h1, h2, rfl, rfl, rfl⟩ | ⟨q, h2, h3, h4, h5, rfl, h6⟩
  · by_cases h4 : n - 1 < 2
    · rw [if_pos h4]; show (0, p + 5, 1 + (n - 1)) = (0, p + 5 + 0, n); rw [show 1 + (n - 1) = n by omega]
    · rw [if_neg h4, show (n - 1) / 2 - 1 = 0 by omega, ub_zero hle]
      show (0, p + 5, 1 + ((2 + (n - 1) % 2) * 2 ^ 0 + 0)) = (0, p + 5 + 0, n)
      rw [show 1 + ((2 + (n - 1) % 2) * 2 ^ 0 + 0) = n by omega]
  · rw [if_neg (by omega), show (2 + 2 * b + q) / 2 - 1 = b by omega, ub_at hb h5, show 2 + (2 + 2 * b + q) % 2 = 2 + q by omega]
    show (0, p + 5 + b, 1 + ((2 + q) * 2 ^ b + x)) = (0, p + 5 + b, n)
    rw [show 1 + ((2 + q) * 2 ^ b + x) = n by rw [h6, Nat.add_assoc]]
/-- The bits O say the plain bytes V: a reader that has come past them has told just these. -/
def Wr (O V : List Nat) : Prop := ∀ s : ByteArray, BitsAt s 0 O → 3 ≤ O.length ∧ packF fixS fixD s 1048576 (8 * s.size + 1 - 3) 3 [] = packF fixS fixD s 1048576 (8 * s.size + 1 - O.length) O.length V
theorem Wr.byte {O V : List Nat} {k : Nat} (h : Wr O V) (hk : k < 256) (hV : V.length + 1 ≤ 1048576) : Wr (O ++ wbitsOf (cw fixS k) (fixS.getD k 0)) (V ++ [k]) := fun s hs => by
  obtain ⟨h3, hp⟩ := h s hs.left
  have hr := hs.right
  rw [Nat.zero_add] at hr
  have hle := hs.left.1
  have hu := fixS_at (by omega) hr
  rw [List.length_append, wbitsOf_length]
  refine ⟨by omega, ?_⟩
  rw [hp]
  exact pack_byte (by omega) (by rw [fixS_len]; omega) (by rw [fixD_len]; omega) hu hk (by omega)
theorem Wr.copy {O V : List Nat} {n k x b far j y c : Nat} (h : Wr O V) (hl : LenP n k x b) (hd : DistP far j y c) (hf : far ≤ V.length) (hV : V.length + n ≤ 1048576) :
    Wr (O ++ (wbitsOf (cw fixS k) (fixS.getD k 0) ++ (bitsOf x b ++ (wbitsOf j 5 ++ bitsOf y c)))) (copyL far n V) := fun s hs => by
  obtain ⟨h3, hp⟩ := h s hs.left
  have hr := hs.right
  rw [Nat.zero_add] at hr
  have hle := hs.left.1
  have hu := fixS_at (by have := hl.small.2.1; omega) hr.left
  have hr2 := hr.right
  rw [wbitsOf_length] at hr2
  have hr3 := hr2.right
  rw [bitsOf_length] at hr3
  have hr4 := hr3.right
  rw [wbitsOf_length] at hr4
  have hul := ulen_at (by have := hr2.1; omega) hl hr2.left
  have hud := udist_at hd hr3.left hr4
  have hrep : repF (O.length + fixS.getD k 0 + b + 5 + c) V 1048576 n far = (0, O.length + fixS.getD k 0 + b + 5 + c, copyL far n V) := by
    unfold repF; rw [if_neg (by omega), if_neg (by omega)]
  rw [List.length_append, List.length_append, List.length_append, List.length_append, wbitsOf_length, bitsOf_length, wbitsOf_length, bitsOf_length]
  refine ⟨by omega, ?_⟩
  rw [hp, pack_copy (by omega) (by rw [fixS_len]; omega) (by rw [fixD_len]; omega) hu hl.small.1 hul hud hrep]
  rw [show O.length + (fixS.getD k 0 + (b + (5 + c))) = O.length + fixS.getD k 0 + b + 5 + c by omega]
theorem Wr.nil : Wr [1, 1, 0] [] := fun s hs => ⟨by simp, rfl⟩
/-- The end: what Inflate answers of the text. -/
theorem Wr.text {O V : List Nat} (h : Wr O V) (h01 : Bits01 O) (h0 : O.take 3 = [1, 1, 0]) (hV : V.length ≤ 1048576) : infF (toBA (pack (O ++ wbitsOf (cw fixS 256) (fixS.getD 256 0)))) 1048576 = (0, (O ++ wbitsOf (cw fixS 256) (fixS.getD 256 0)).length, V) := by
  obtain ⟨T, hT⟩ : ∃ T, O ++ wbitsOf (cw fixS 256) (fixS.getD 256 0) = T := ⟨_, rfl⟩
  rw [hT]
  have hT01 : Bits01 T := by rw [← hT]; exact h01.append (wbitsOf_01 _ _)
  have hsz : (toBA (pack T)).size = (T.length + 7) / 8 := by rw [show (toBA (pack T)).size = (pack T).length by simp [toBA, ByteArray.size], pack_length]
  have hall : BitsAt (toBA (pack T)) 0 T := ⟨by rw [hsz]; omega, fun j hj => by rw [Nat.zero_add]; exact bitAt_pack hT01 j (by omega)⟩
  obtain ⟨s, hs⟩ : ∃ s, toBA (pack T) = s := ⟨_, rfl⟩
  rw [hs] at hall hsz ⊢
  have hO : BitsAt s 0 O := by rw [← hT] at hall; exact hall.left
  obtain ⟨h3, hp⟩ := h s hO
  have hr : BitsAt s O.length (wbitsOf (cw fixS 256) (fixS.getD 256 0)) := by rw [← hT] at hall; have := hall.right; rw [Nat.zero_add] at this; exact this
  have hu := fixS_at (by omega) hr
  have hlen : T.length = O.length + fixS.getD 256 0 := by rw [← hT, List.length_append, wbitsOf_length]
  have hle := hO.1
  have b0 : bitAt s 0 = 1 ∧ bitAt s 1 = 1 ∧ bitAt s 2 = 0 := by
    have e : ∀ j, j < 3 → O.getD j 0 = ([1, 1, 0] : List Nat).getD j 0 := fun j hj => by rw [← h0, List.getD_eq_getElem?_getD, List.getD_eq_getElem?_getD, List.getElem?_take_of_lt hj]
    have g := fun j (hj : j < 3) => (hO.2 j (by omega)).trans (e j hj)
    exact ⟨g 0 (by omega), g 1 (by omega), g 2 (by omega)⟩
  have n1 : num s 0 1 = 1 := by show 0 + bitAt s (0 + 0) * 2 ^ 0 = 1; rw [Nat.add_zero, b0.1]
  have n2 : num s 1 2 = 1 := by show 0 + bitAt s (1 + 0) * 2 ^ 0 + bitAt s (1 + 1) * 2 ^ 1 = 1; rw [Nat.add_zero, b0.2.1, b0.2.2]
  have hb : blockF (toldF s) s 1048576 0 [] = (0, T.length, V) := by
    unfold blockF
    rw [if_neg (by omega), if_neg (by omega)]
    show (if num s 1 2 = 0 then _ else if num s 1 2 = 1 then packF fixS fixD s 1048576 (8 * s.size + 1 - 3) 3 [] else _) = _
    rw [n2, if_neg (by omega), if_pos rfl, hp, pack_end (by omega) hu, hlen]
  have := blocks_end (told := toldF s) (s := s) (most := 1048576) (p := 0) (l := []) (by omega) (by rw [hb]) n1
  rw [hb] at this
  unfold infF
  rw [show 8 * s.size + 1 = 8 * s.size + 1 - 0 by omega]
  exact this
end Go.Proofs.YtchjnfckcfikkaaDoor
namespace Go.Proofs.YtchjnfckcfikkaaDoor
open Go.RowKit
set_option linter.unusedVariables false

variable {w w' : World} {K : Nat → Prop}
theorem bitsOf_snoc (x n : Nat) : bitsOf x (n + 1) = bitsOf x n ++ [x / 2 ^ n % 2] := by
  apply List.ext_getElem?
  intro i
  by_cases h : i < n
  · rw [bitsOf_get x (n + 1) i (by omega), List.getElem?_append_left (by rw [bitsOf_length]; exact h), bitsOf_get x n i h]
  · by_cases h2 : i = n
    · subst h2
      rw [bitsOf_get x (i + 1) i (by omega), List.getElem?_append_right (by rw [bitsOf_length]; omega), bitsOf_length, Nat.sub_self]; rfl
    · rw [List.getElem?_eq_none (by rw [bitsOf_length]; omega), List.getElem?_eq_none (by rw [List.length_append, bitsOf_length]; simp; omega)]
set_option maxRecDepth 20000 in
set_option maxHeartbeats 1000000 in
theorem put_ok (xs : List Nat) (v : Value) (x n : Nat) (h : RI w K v xs) (hn : xs.length + n ≤ 100000000) (hn2 : n ≤ 57) (hx : x < 4611686018427387904) :
    Calls Tryd.prog 13 #[v, .int .i64 x, .int .i64 n] w fun en w' => ∃ v', en = .returned v' ∧ RI w' K v' (xs ++ bitsOf x n) ∧ UF K w w' := by
  have H : Hid (RI w K v xs) := h
  clear h
  go_enter Tryd.func13, Tryd.ntmps13
  go_wp2_with fail
  go_loopw [0, 7] (fun v0 v5 wr => ∃ i : Nat, v5 = .int .i64 i ∧ i ≤ n ∧ Hid (RI wr K v0 (xs ++ bitsOf x i) ∧ UF K w wr)) (fun _ v5 _ => n - (intOf v5).toNat)
  case atStart => exact ⟨0, rfl, Nat.zero_le _, by simpa [bitsOf] using H.out, UF.refl _ _⟩
  case round =>
    obtain ⟨i, rfl, hi, HS⟩ := hrel
    obtain ⟨ao, cp, hv⟩ := HS.out.1.form
    subst hv
    by_cases hlt : i < n
    · have hlti : (i : Int) < (n : Int) := by omega
      have hi57 : i ≤ 57 := by omega
      obtain ⟨ys, hys⟩ : ∃ ys, xs ++ bitsOf x i = ys := ⟨_, rfl⟩
      obtain ⟨c, hc⟩ : ∃ c, x / 2 ^ i % 2 = c := ⟨_, rfl⟩
      have HY : Hid (xs ++ bitsOf x (i + 1) = ys ++ [c]) := by
        show _ = _
        rw [← hys, bitsOf_snoc, ← hc, List.append_assoc]
      have hyl : ys.length ≤ 100000000 := by rw [← hys, List.length_append, bitsOf_length]; omega
      have hand := and1_i64 x i (by omega)
      rw [hc] at hand
      rw [hys] at HS ⊢
      clear hys hc
      obtain ⟨Y, hY⟩ : ∃ Y, ys.length = Y := ⟨_, rfl⟩
      have HYL : Hid (ys.length = Y) := hY
      rw [hY] at HS hyl ⊢
      clear hY
      obtain ⟨i0, hi0, hz0, hz1, hz2⟩ := info_parts infoN
      have HI : Hid (_ ∧ _ ∧ _ ∧ _) := ⟨hi0, hz0, hz1, hz2⟩
      have HA : Hid (∀ o, RI (wr.alloc o) K (.slice ao Y cp) ys) := fun o => HS.out.1.alloc o
      have HO : Hid (∀ o, (wr.alloc o).ownsRow 0 3 1 (.slice ao Y cp) Y (icl ys)) := fun o => by have := (HA.out o).own; rw [HYL.out] at this; exact this
      have HAND : Hid (bits .and .i64 ((x : Int) / 2 ^ i) 1 = (c : Int)) := hand
      clear hi0 hz0 hz1 hz2 hand
      have h1 := HAND.out
      go_wp2_with (at_builtin; refine wpList_append_lies _ rfl _ _ 29 rfl 0 3 i0 (.int .i64 0) 1 8 Tryd.underlying29 HI.out.1 HI.out.2.1 HI.out.2.2.1 HI.out.2.2.2 rfl (by decide) (.slice ao Y cp) Y (icl ys) rfl (HO.out _) ⟨wr.heap.size, 0, none⟩ 1 1 [.int .i64 (c : Nat)] rfl rfl (newB wr _ _) (one1 _) (by decide) (by unfold maxLen; omega) (by omega) (Nat.zero_le _) _ rfl ?_; intro g3 cap3 wc hown hgrow hat hgl; have HZ : Hid (RI wc K (.slice (some ⟨g3, 0, none⟩) (Y + 1) cap3) (ys ++ [c]) ∧ UF K w wc) := (by have hz := (HA.out (.cells #[.int .i64 (c : Nat)] 3)).grow1 (x := c) (g := g3) (cap := cap3) (by rw [HYL.out]; exact hown) hgrow hat rfl; rw [HYL.out] at hz; exact ⟨hz.1, (HS.out.2.trans (UF.below ((Below.refl _ _).alloc (Nat.le_refl _) _) HS.out.1.kb)).trans hz.2⟩); clear hown hgrow hat hgl)
      exact ⟨⟨i + 1, by go_num, by omega, by rw [HY.out]; exact HZ.out⟩, by simp [intOf]; omega⟩
    · have hlti : ¬ (i : Int) < (n : Int) := by omega
      obtain rfl : i = n := by omega
      have HE : Hid (RI wr K (.slice ao (xs.length + i) cp) (xs ++ bitsOf x i) ∧ UF K w wr) := by
        have := HS.out
        rw [List.length_append, bitsOf_length] at this
        exact this
      rw [List.length_append, bitsOf_length]
      go_wp2
      go_ret
      exact ⟨_, rfl, HE.out⟩
end Go.Proofs.YtchjnfckcfikkaaDoor
namespace Go.Proofs.YtchjnfckcfikkaaDoor
open Go.RowKit
set_option linter.unusedVariables false

theorem and_low (x m : Nat) (hx : x < 9223372036854775808) (hm : m ≤ 20) : bits .and .i64 (x : Int) ((2 ^ m - 1 : Nat) : Int) = ((x % 2 ^ m : Nat) : Int) := by
  have h2 : 2 ^ m ≤ 2 ^ 20 := Nat.pow_le_pow_right (by decide) hm
  rw [i64_and_nat x (2 ^ m - 1) hx (by have : (2 : Nat) ^ 20 = 1048576 := by decide
                                       omega), Nat.and_two_pow_sub_one_eq_mod]
set_option maxRecDepth 20000 in
set_option maxHeartbeats 4000000 in
theorem length_ok (n : Nat) (h3 : 3 ≤ n) (h : n ≤ 258) (w : World) : Calls Tryd.prog 15 #[.int .i64 n] w fun e w' => ∃ k x b : Nat, e = .returned (.tuple #[.int .i64 (k : Nat), .int .i64 (x : Nat), .int .i64 (b : Nat)]) ∧ LenP n k x b ∧ ∃ q, w' = w.drewN q := by
  go_enter Tryd.func15, Tryd.ntmps15
  by_cases h258 : n = 258
  · subst h258
    go_wp2
    go_ret3
    exact ⟨285, 0, 0, rfl, .inl ⟨rfl, rfl, rfl, rfl⟩, 0, rfl⟩
  · have h1 : ¬ (n : Int) = 258 := by omega
    have h1b : ((n : Int) == 258) = false := by simp; omega
    by_cases hc : n < 11
    · have hci : (n : Int) < 11 := by omega
      obtain ⟨KK, hKK⟩ : ∃ z, 254 + n = z := ⟨_, rfl⟩
      have HL : Hid (LenP n KK 0 0) := .inr (.inl ⟨h3, hc, hKK.symm, rfl, rfl⟩)
      have hKi : (254 : Int) + (n : Int) = (KK : Int) := by omega
      clear hKK
      go_wp2
      go_ret3
      exact ⟨KK, 0, 0, by first | rfl | rw [hKi]; rfl, HL.out, 0, rfl⟩
    · have hci : ¬ (n : Int) < 11 := by omega
      go_wp2_with fail
      go_loopw [5] (fun v5 wr => ∃ b : Nat, v5 = .int .i64 b ∧ 1 ≤ b ∧ b ≤ 5 ∧ 3 + 4 * 2 ^ b ≤ n ∧ wr = w) (fun v5 _ => 6 - (intOf v5).toNat)
      case atStart => exact ⟨1, rfl, by omega, by omega, by omega, rfl⟩
      case round =>
        obtain ⟨b, rfl, hb1, hb5, hbn, rfl⟩ := hrel
        rcases (show b = 1 ∨ b = 2 ∨ b = 3 ∨ b = 4 ∨ b = 5 by omega) with rfl | rfl | rfl | rfl | rfl
        · replace hbn : 11 ≤ n := hbn
          by_cases hc : 19 ≤ n
          · have hcc : (19 : Int) ≤ (n : Int) := by omega
            go_wp2
            exact ⟨⟨2, rfl, by omega, by omega, hc, (by first | rfl | trivial)⟩, by simp [intOf]⟩
          · have hcc : ¬ (19 : Int) ≤ (n : Int) := by omega
            obtain ⟨X, hX⟩ : ∃ X, n - 11 = X := ⟨_, rfl⟩
            have hX0 : (n : Int) - 3 - 8 = (X : Int) := by omega
            have hXb : X < 8 := by omega
            have hq : (X : Int) / 2 ^ 1 = ((X / 2 : Nat) : Int) := by simp
            have hq2 : (X : Int) / 2 = ((X / 2 : Nat) : Int) := by omega
            have hand : bits .and .i64 (X : Int) 1 = ((X % 2 : Nat) : Int) := and_low X 1 (by omega) (by omega)
            obtain ⟨Q, hQ⟩ : ∃ Q, X / 2 = Q := ⟨_, rfl⟩
            obtain ⟨R, hR⟩ : ∃ R, X % 2 = R := ⟨_, rfl⟩
            rw [hQ] at hq hq2
            rw [hR] at hand
            have hQb : Q < 4 := by omega
            obtain ⟨KK, hKK⟩ : ∃ z, 265 + Q = z := ⟨_, rfl⟩
            have HL : Hid (LenP n KK R 1) := .inr (.inr ⟨Q, by omega, by omega, by omega, hQb, by show R < 2; omega, by omega, by show n = 3 + (4 + Q) * 2 + R; omega⟩)
            have hKi : (265 : Int) + (Q : Int) = (KK : Int) := by omega
            clear hX hQ hR hKK
            go_wp2_with fail
            go_quiet (fail)
            go_wp2
            go_ret3
            exact ⟨KK, R, 1, by first | rfl | rw [hKi]; rfl, HL.out, _, rfl⟩
        · replace hbn : 19 ≤ n := hbn
          by_cases hc : 35 ≤ n
          · have hcc : (35 : Int) ≤ (n : Int) := by omega
            go_wp2
            exact ⟨⟨3, rfl, by omega, by omega, hc, (by first | rfl | trivial)⟩, by simp [intOf]⟩
          · have hcc : ¬ (35 : Int) ≤ (n : Int) := by omega
            obtain ⟨X, hX⟩ : ∃ X, n - 19 = X := ⟨_, rfl⟩
            have hX0 : (n : Int) - 3 - 16 = (X : Int) := by omega
            have hXb : X < 16 := by omega
            have hq : (X : Int) / 2 ^ 2 = ((X / 4 : Nat) : Int) := by simp
            have hq2 : (X : Int) / 4 = ((X / 4 : Nat) : Int) := by omega
            have hand : bits .and .i64 (X : Int) 3 = ((X % 4 : Nat) : Int) := and_low X 2 (by omega) (by omega)
            obtain ⟨Q, hQ⟩ : ∃ Q, X / 4 = Q := ⟨_, rfl⟩
            obtain ⟨R, hR⟩ : ∃ R, X % 4 = R := ⟨_, rfl⟩
            rw [hQ] at hq hq2
            rw [hR] at hand
            have hQb : Q < 4 := by omega
            obtain ⟨KK, hKK⟩ : ∃ z, 269 + Q = z := ⟨_, rfl⟩
            have HL : Hid (LenP n KK R 2) := .inr (.inr ⟨Q, by omega, by omega, by omega, hQb, by show R < 4; omega, by omega, by show n = 3 + (4 + Q) * 4 + R; omega⟩)
            have hKi : (269 : Int) + (Q : Int) = (KK : Int) := by omega
            clear hX hQ hR hKK
            go_wp2_with fail
            go_quiet (fail)
            go_wp2
            go_ret3
            exact ⟨KK, R, 2, by first | rfl | rw [hKi]; rfl, HL.out, _, rfl⟩
        · replace hbn : 35 ≤ n := hbn
          by_cases hc : 67 ≤ n
          · have hcc : (67 : Int) ≤ (n : Int) := by omega
            go_wp2
            exact ⟨⟨4, rfl, by omega, by omega, hc, (by first | rfl | trivial)⟩, by simp [intOf]⟩
          · have hcc : ¬ (67 : Int) ≤ (n : Int) := by omega
            obtain ⟨X, hX⟩ : ∃ X, n - 35 = X := ⟨_, rfl⟩
            have hX0 : (n : Int) - 3 - 32 = (X : Int) := by omega
            have hXb : X < 32 := by omega
            have hq : (X : Int) / 2 ^ 3 = ((X / 8 : Nat) : Int) := by simp
            have hq2 : (X : Int) / 8 = ((X / 8 : Nat) : Int) := by omega
            have hand : bits .and .i64 (X : Int) 7 = ((X % 8 : Nat) : Int) := and_low X 3 (by omega) (by omega)
            obtain ⟨Q, hQ⟩ : ∃ Q, X / 8 = Q := ⟨_, rfl⟩
            obtain ⟨R, hR⟩ : ∃ R, X % 8 = R := ⟨_, rfl⟩
            rw [hQ] at hq hq2
            rw [hR] at hand
            have hQb : Q < 4 := by omega
            obtain ⟨KK, hKK⟩ : ∃ z, 273 + Q = z := ⟨_, rfl⟩
            have HL : Hid (LenP n KK R 3) := .inr (.inr ⟨Q, by omega, by omega, by omega, hQb, by show R < 8; omega, by omega, by show n = 3 + (4 + Q) * 8 + R; omega⟩)
            have hKi : (273 : Int) + (Q : Int) = (KK : Int) := by omega
            clear hX hQ hR hKK
            go_wp2_with fail
            go_quiet (fail)
            go_wp2
            go_ret3
            exact ⟨KK, R, 3, by first | rfl | rw [hKi]; rfl, HL.out, _, rfl⟩
        · replace hbn : 67 ≤ n := hbn
          by_cases hc : 131 ≤ n
          · have hcc : (131 : Int) ≤ (n : Int) := by omega
            go_wp2
            exact ⟨⟨5, rfl, by omega, by omega, hc, (by first | rfl | trivial)⟩, by simp [intOf]⟩
          · have hcc : ¬ (131 : Int) ≤ (n : Int) := by omega
            obtain ⟨X, hX⟩ : ∃ X, n - 67 = X := ⟨_, rfl⟩
            have hX0 : (n : Int) - 3 - 64 = (X : Int) := by omega
            have hXb : X < 64 := by omega
            have hq : (X : Int) / 2 ^ 4 = ((X / 16 : Nat) : Int) := by simp
            have hq2 : (X : Int) / 16 = ((X / 16 : Nat) : Int) := by omega
            have hand : bits .and .i64 (X : Int) 15 = ((X % 16 : Nat) : Int) := and_low X 4 (by omega) (by omega)
            obtain ⟨Q, hQ⟩ : ∃ Q, X / 16 = Q := ⟨_, rfl⟩
            obtain ⟨R, hR⟩ : ∃ R, X % 16 = R := ⟨_, rfl⟩
            rw [hQ] at hq hq2
            rw [hR] at hand
            have hQb : Q < 4 := by omega
            obtain ⟨KK, hKK⟩ : ∃ z, 277 + Q = z := ⟨_, rfl⟩
            have HL : Hid (LenP n KK R 4) := .inr (.inr ⟨Q, by omega, by omega, by omega, hQb, by show R < 16; omega, by omega, by show n = 3 + (4 + Q) * 16 + R; omega⟩)
            have hKi : (277 : Int) + (Q : Int) = (KK : Int) := by omega
            clear hX hQ hR hKK
            go_wp2_with fail
            go_quiet (fail)
            go_wp2
            go_ret3
            exact ⟨KK, R, 4, by first | rfl | rw [hKi]; rfl, HL.out, _, rfl⟩
        · replace hbn : 131 ≤ n := hbn
          have hc : ¬ 259 ≤ n := by omega
          have hcc : ¬ (259 : Int) ≤ (n : Int) := by omega
          obtain ⟨X, hX⟩ : ∃ X, n - 131 = X := ⟨_, rfl⟩
          have hX0 : (n : Int) - 3 - 128 = (X : Int) := by omega
          have hXb : X < 128 := by omega
          have hq : (X : Int) / 2 ^ 5 = ((X / 32 : Nat) : Int) := by simp
          have hq2 : (X : Int) / 32 = ((X / 32 : Nat) : Int) := by omega
          have hand : bits .and .i64 (X : Int) 31 = ((X % 32 : Nat) : Int) := and_low X 5 (by omega) (by omega)
          obtain ⟨Q, hQ⟩ : ∃ Q, X / 32 = Q := ⟨_, rfl⟩
          obtain ⟨R, hR⟩ : ∃ R, X % 32 = R := ⟨_, rfl⟩
          rw [hQ] at hq hq2
          rw [hR] at hand
          have hQb : Q < 4 := by omega
          obtain ⟨KK, hKK⟩ : ∃ z, 281 + Q = z := ⟨_, rfl⟩
          have HL : Hid (LenP n KK R 5) := .inr (.inr ⟨Q, by omega, by omega, by omega, hQb, by show R < 32; omega, by omega, by show n = 3 + (4 + Q) * 32 + R; omega⟩)
          have hKi : (281 : Int) + (Q : Int) = (KK : Int) := by omega
          clear hX hQ hR hKK
          go_wp2_with fail
          go_quiet (fail)
          go_wp2
          go_ret3
          exact ⟨KK, R, 5, by first | rfl | rw [hKi]; rfl, HL.out, _, rfl⟩
set_option maxRecDepth 20000 in
set_option maxHeartbeats 4000000 in
theorem distance_ok (n : Nat) (h3 : 1 ≤ n) (h : n ≤ 32767) (w : World) : Calls Tryd.prog 16 #[.int .i64 n] w fun e w' => ∃ k x b : Nat, e = .returned (.tuple #[.int .i64 (k : Nat), .int .i64 (x : Nat), .int .i64 (b : Nat)]) ∧ DistP n k x b ∧ ∃ q, w' = w.drewN q := by
  go_enter Tryd.func16, Tryd.ntmps16
  by_cases hc : n < 5
  · have hci : (n : Int) < 5 := by omega
    obtain ⟨KK, hKK⟩ : ∃ z, n - 1 = z := ⟨_, rfl⟩
    have HL : Hid (DistP n KK 0 0) := .inl ⟨h3, hc, hKK.symm, rfl, rfl⟩
    have hKi : (n : Int) - 1 = (KK : Int) := by omega
    clear hKK
    go_wp2
    go_ret3
    exact ⟨KK, 0, 0, by first | rfl | rw [hKi]; rfl, HL.out, 0, rfl⟩
  · have hci : ¬ (n : Int) < 5 := by omega
    go_wp2_with fail
    go_loopw [5] (fun v5 wr => ∃ b : Nat, v5 = .int .i64 b ∧ 1 ≤ b ∧ b ≤ 13 ∧ 1 + 2 * 2 ^ b ≤ n ∧ wr = w) (fun v5 _ => 14 - (intOf v5).toNat)
    case atStart => exact ⟨1, rfl, by omega, by omega, by omega, rfl⟩
    case round =>
      obtain ⟨b, rfl, hb1, hb5, hbn, rfl⟩ := hrel
      rcases (show b = 1 ∨ b = 2 ∨ b = 3 ∨ b = 4 ∨ b = 5 ∨ b = 6 ∨ b = 7 ∨ b = 8 ∨ b = 9 ∨ b = 10 ∨ b = 11 ∨ b = 12 ∨ b = 13 by omega) with rfl | rfl | rfl | rfl | rfl | rfl | rfl | rfl | rfl | rfl | rfl | rfl | rfl
      · replace hbn : 5 ≤ n := hbn
        by_cases hc : 9 ≤ n
        · have hcc : (9 : Int) ≤ (n : Int) := by omega
          go_wp2
          exact ⟨⟨2, rfl, by omega, by omega, hc, (by first | rfl | trivial)⟩, by simp [intOf]⟩
        · have hcc : ¬ (9 : Int) ≤ (n : Int) := by omega
          obtain ⟨X, hX⟩ : ∃ X, n - 5 = X := ⟨_, rfl⟩
          have hX0 : (n : Int) - 1 - 4 = (X : Int) := by omega
          have hXb : X < 4 := by omega
          have hq : (X : Int) / 2 ^ 1 = ((X / 2 : Nat) : Int) := by simp
          have hq2 : (X : Int) / 2 = ((X / 2 : Nat) : Int) := by omega
          have hand : bits .and .i64 (X : Int) 1 = ((X % 2 : Nat) : Int) := and_low X 1 (by omega) (by omega)
          obtain ⟨Q, hQ⟩ : ∃ Q, X / 2 = Q := ⟨_, rfl⟩
          obtain ⟨R, hR⟩ : ∃ R, X % 2 = R := ⟨_, rfl⟩
          rw [hQ] at hq hq2
          rw [hR] at hand
          have hQb : Q < 2 := by omega
          obtain ⟨KK, hKK⟩ : ∃ z, 4 + Q = z := ⟨_, rfl⟩
          have HL : Hid (DistP n KK R 1) := .inr (⟨Q, by omega, by omega, hQb, by show R < 2; omega, by omega, by show n = 1 + (2 + Q) * 2 + R; omega⟩)
          have hKi : (4 : Int) + (Q : Int) = (KK : Int) := by omega
          clear hX hQ hR hKK
          go_wp2_with fail
          go_quiet (fail)
          go_wp2
          go_ret3
          exact ⟨KK, R, 1, by first | rfl | rw [hKi]; rfl, HL.out, _, rfl⟩
      · replace hbn : 9 ≤ n := hbn
        by_cases hc : 17 ≤ n
        · have hcc : (17 : Int) ≤ (n : Int) := by omega
          go_wp2
          exact ⟨⟨3, rfl, by omega, by omega, hc, (by first | rfl | trivial)⟩, by simp [intOf]⟩
        · have hcc : ¬ (17 : Int) ≤ (n : Int) := by omega
          obtain ⟨X, hX⟩ : ∃ X, n - 9 = X := ⟨_, rfl⟩
          have hX0 : (n : Int) - 1 - 8 = (X : Int) := by omega
          have hXb : X < 8 := by omega
          have hq : (X : Int) / 2 ^ 2 = ((X / 4 : Nat) : Int) := by simp
          have hq2 : (X : Int) / 4 = ((X / 4 : Nat) : Int) := by omega
          have hand : bits .and .i64 (X : Int) 3 = ((X % 4 : Nat) : Int) := and_low X 2 (by omega) (by omega)
          obtain ⟨Q, hQ⟩ : ∃ Q, X / 4 = Q := ⟨_, rfl⟩
          obtain ⟨R, hR⟩ : ∃ R, X % 4 = R := ⟨_, rfl⟩
          rw [hQ] at hq hq2
          rw [hR] at hand
          have hQb : Q < 2 := by omega
          obtain ⟨KK, hKK⟩ : ∃ z, 6 + Q = z := ⟨_, rfl⟩
          have HL : Hid (DistP n KK R 2) := .inr (⟨Q, by omega, by omega, hQb, by show R < 4; omega, by omega, by show n = 1 + (2 + Q) * 4 + R; omega⟩)
          have hKi : (6 : Int) + (Q : Int) = (KK : Int) := by omega
          clear hX hQ hR hKK
          go_wp2_with fail
          go_quiet (fail)
          go_wp2
          go_ret3
          exact ⟨KK, R, 2, by first | rfl | rw [hKi]; rfl, HL.out, _, rfl⟩
      · replace hbn : 17 ≤ n := hbn
        by_cases hc : 33 ≤ n
        · have hcc : (33 : Int) ≤ (n : Int) := by omega
          go_wp2
          exact ⟨⟨4, rfl, by omega, by omega, hc, (by first | rfl | trivial)⟩, by simp [intOf]⟩
        · have hcc : ¬ (33 : Int) ≤ (n : Int) := by omega
          obtain ⟨X, hX⟩ : ∃ X, n - 17 = X := ⟨_, rfl⟩
          have hX0 : (n : Int) - 1 - 16 = (X : Int) := by omega
          have hXb : X < 16 := by omega
          have hq : (X : Int) / 2 ^ 3 = ((X / 8 : Nat) : Int) := by simp
          have hq2 : (X : Int) / 8 = ((X / 8 : Nat) : Int) := by omega
          have hand : bits .and .i64 (X : Int) 7 = ((X % 8 : Nat) : Int) := and_low X 3 (by omega) (by omega)
          obtain ⟨Q, hQ⟩ : ∃ Q, X / 8 = Q := ⟨_, rfl⟩
          obtain ⟨R, hR⟩ : ∃ R, X % 8 = R := ⟨_, rfl⟩
          rw [hQ] at hq hq2
          rw [hR] at hand
          have hQb : Q < 2 := by omega
          obtain ⟨KK, hKK⟩ : ∃ z, 8 + Q = z := ⟨_, rfl⟩
          have HL : Hid (DistP n KK R 3) := .inr (⟨Q, by omega, by omega, hQb, by show R < 8; omega, by omega, by show n = 1 + (2 + Q) * 8 + R; omega⟩)
          have hKi : (8 : Int) + (Q : Int) = (KK : Int) := by omega
          clear hX hQ hR hKK
          go_wp2_with fail
          go_quiet (fail)
          go_wp2
          go_ret3
          exact ⟨KK, R, 3, by first | rfl | rw [hKi]; rfl, HL.out, _, rfl⟩
      · replace hbn : 33 ≤ n := hbn
        by_cases hc : 65 ≤ n
        · have hcc : (65 : Int) ≤ (n : Int) := by omega
          go_wp2
          exact ⟨⟨5, rfl, by omega, by omega, hc, (by first | rfl | trivial)⟩, by simp [intOf]⟩
        · have hcc : ¬ (65 : Int) ≤ (n : Int) := by omega
          obtain ⟨X, hX⟩ : ∃ X, n - 33 = X := ⟨_, rfl⟩
          have hX0 : (n : Int) - 1 - 32 = (X : Int) := by omega
          have hXb : X < 32 := by omega
          have hq : (X : Int) / 2 ^ 4 = ((X / 16 : Nat) : Int) := by simp
          have hq2 : (X : Int) / 16 = ((X / 16 : Nat) : Int) := by omega
          have hand : bits .and .i64 (X : Int) 15 = ((X % 16 : Nat) : Int) := and_low X 4 (by omega) (by omega)
          obtain ⟨Q, hQ⟩ : ∃ Q, X / 16 = Q := ⟨_, rfl⟩
          obtain ⟨R, hR⟩ : ∃ R, X % 16 = R := ⟨_, rfl⟩
          rw [hQ] at hq hq2
          rw [hR] at hand
          have hQb : Q < 2 := by omega
          obtain ⟨KK, hKK⟩ : ∃ z, 10 + Q = z := ⟨_, rfl⟩
          have HL : Hid (DistP n KK R 4) := .inr (⟨Q, by omega, by omega, hQb, by show R < 16; omega, by omega, by show n = 1 + (2 + Q) * 16 + R; omega⟩)
          have hKi : (10 : Int) + (Q : Int) = (KK : Int) := by omega
          clear hX hQ hR hKK
          go_wp2_with fail
          go_quiet (fail)
          go_wp2
          go_ret3
          exact ⟨KK, R, 4, by first | rfl | rw [hKi]; rfl, HL.out, _, rfl⟩
      · replace hbn : 65 ≤ n := hbn
        by_cases hc : 129 ≤ n
        · have hcc : (129 : Int) ≤ (n : Int) := by omega
          go_wp2
          exact ⟨⟨6, rfl, by omega, by omega, hc, (by first | rfl | trivial)⟩, by simp [intOf]⟩
        · have hcc : ¬ (129 : Int) ≤ (n : Int) := by omega
          obtain ⟨X, hX⟩ : ∃ X, n - 65 = X := ⟨_, rfl⟩
          have hX0 : (n : Int) - 1 - 64 = (X : Int) := by omega
          have hXb : X < 64 := by omega
          have hq : (X : Int) / 2 ^ 5 = ((X / 32 : Nat) : Int) := by simp
          have hq2 : (X : Int) / 32 = ((X / 32 : Nat) : Int) := by omega
          have hand : bits .and .i64 (X : Int) 31 = ((X % 32 : Nat) : Int) := and_low X 5 (by omega) (by omega)
          obtain ⟨Q, hQ⟩ : ∃ Q, X / 32 = Q := ⟨_, rfl⟩
          obtain ⟨R, hR⟩ : ∃ R, X % 32 = R := ⟨_, rfl⟩
          rw [hQ] at hq hq2
          rw [hR] at hand
          have hQb : Q < 2 := by omega
          obtain ⟨KK, hKK⟩ : ∃ z, 12 + Q = z := ⟨_, rfl⟩
          have HL : Hid (DistP n KK R 5) := .inr (⟨Q, by omega, by omega, hQb, by show R < 32; omega, by omega, by show n = 1 + (2 + Q) * 32 + R; omega⟩)
          have hKi : (12 : Int) + (Q : Int) = (KK : Int) := by omega
          clear hX hQ hR hKK
          go_wp2_with fail
          go_quiet (fail)
          go_wp2
          go_ret3
          exact ⟨KK, R, 5, by first | rfl | rw [hKi]; rfl, HL.out, _, rfl⟩
      · replace hbn : 129 ≤ n := hbn
        by_cases hc : 257 ≤ n
        · have hcc : (257 : Int) ≤ (n : Int) := by omega
          go_wp2
          exact ⟨⟨7, rfl, by omega, by omega, hc, (by first | rfl | trivial)⟩, by simp [intOf]⟩
        · have hcc : ¬ (257 : Int) ≤ (n : Int) := by omega
          obtain ⟨X, hX⟩ : ∃ X, n - 129 = X := ⟨_, rfl⟩
          have hX0 : (n : Int) - 1 - 128 = (X : Int) := by omega
          have hXb : X < 128 := by omega
          have hq : (X : Int) / 2 ^ 6 = ((X / 64 : Nat) : Int) := by simp
          have hq2 : (X : Int) / 64 = ((X / 64 : Nat) : Int) := by omega
          have hand : bits .and .i64 (X : Int) 63 = ((X % 64 : Nat) : Int) := and_low X 6 (by omega) (by omega)
          obtain ⟨Q, hQ⟩ : ∃ Q, X / 64 = Q := ⟨_, rfl⟩
          obtain ⟨R, hR⟩ : ∃ R, X % 64 = R := ⟨_, rfl⟩
          rw [hQ] at hq hq2
          rw [hR] at hand
          have hQb : Q < 2 := by omega
          obtain ⟨KK, hKK⟩ : ∃ z, 14 + Q = z := ⟨_, rfl⟩
          have HL : Hid (DistP n KK R 6) := .inr (⟨Q, by omega, by omega, hQb, by show R < 64; omega, by omega, by show n = 1 + (2 + Q) * 64 + R; omega⟩)
          have hKi : (14 : Int) + (Q : Int) = (KK : Int) := by omega
          clear hX hQ hR hKK
          go_wp2_with fail
          go_quiet (fail)
          go_wp2
          go_ret3
          exact ⟨KK, R, 6, by first | rfl | rw [hKi]; rfl, HL.out, _, rfl⟩
      · replace hbn : 257 ≤ n := hbn
        by_cases hc : 513 ≤ n
        · have hcc : (513 : Int) ≤ (n : Int) := by omega
          go_wp2
          exact ⟨⟨8, rfl, by omega, by omega, hc, (by first | rfl | trivial)⟩, by simp [intOf]⟩
        · have hcc : ¬ (513 : Int) ≤ (n : Int) := by omega
          obtain ⟨X, hX⟩ : ∃ X, n - 257 = X := ⟨_, rfl⟩
          have hX0 : (n : Int) - 1 - 256 = (X : Int) := by omega
          have hXb : X < 256 := by omega
          have hq : (X : Int) / 2 ^ 7 = ((X / 128 : Nat) : Int) := by simp
          have hq2 : (X : Int) / 128 = ((X / 128 : Nat) : Int) := by omega
          have hand : bits .and .i64 (X : Int) 127 = ((X % 128 : Nat) : Int) := and_low X 7 (by omega) (by omega)
          obtain ⟨Q, hQ⟩ : ∃ Q, X / 128 = Q := ⟨_, rfl⟩
          obtain ⟨R, hR⟩ : ∃ R, X % 128 = R := ⟨_, rfl⟩
          rw [hQ] at hq hq2
          rw [hR] at hand
          have hQb : Q < 2 := by omega
          obtain ⟨KK, hKK⟩ : ∃ z, 16 + Q = z := ⟨_, rfl⟩
          have HL : Hid (DistP n KK R 7) := .inr (⟨Q, by omega, by omega, hQb, by show R < 128; omega, by omega, by show n = 1 + (2 + Q) * 128 + R; omega⟩)
          have hKi : (16 : Int) + (Q : Int) = (KK : Int) := by omega
          clear hX hQ hR hKK
          go_wp2_with fail
          go_quiet (fail)
          go_wp2
          go_ret3
          exact ⟨KK, R, 7, by first | rfl | rw [hKi]; rfl, HL.out, _, rfl⟩
      · replace hbn : 513 ≤ n := hbn
        by_cases hc : 1025 ≤ n
        · have hcc : (1025 : Int) ≤ (n : Int) := by omega
          go_wp2
          exact ⟨⟨9, rfl, by omega, by omega, hc, (by first | rfl | trivial)⟩, by simp [intOf]⟩
        · have hcc : ¬ (1025 : Int) ≤ (n : Int) := by omega
          obtain ⟨X, hX⟩ : ∃ X, n - 513 = X := ⟨_, rfl⟩
          have hX0 : (n : Int) - 1 - 512 = (X : Int) := by omega
          have hXb : X < 512 := by omega
          have hq : (X : Int) / 2 ^ 8 = ((X / 256 : Nat) : Int) := by simp
          have hq2 : (X : Int) / 256 = ((X / 256 : Nat) : Int) := by omega
          have hand : bits .and .i64 (X : Int) 255 = ((X % 256 : Nat) : Int) := and_low X 8 (by omega) (by omega)
          obtain ⟨Q, hQ⟩ : ∃ Q, X / 256 = Q := ⟨_, rfl⟩
          obtain ⟨R, hR⟩ : ∃ R, X % 256 = R := ⟨_, rfl⟩
          rw [hQ] at hq hq2
          rw [hR] at hand
          have hQb : Q < 2 := by omega
          obtain ⟨KK, hKK⟩ : ∃ z, 18 + Q = z := ⟨_, rfl⟩
          have HL : Hid (DistP n KK R 8) := .inr (⟨Q, by omega, by omega, hQb, by show R < 256; omega, by omega, by show n = 1 + (2 + Q) * 256 + R; omega⟩)
          have hKi : (18 : Int) + (Q : Int) = (KK : Int) := by omega
          clear hX hQ hR hKK
          go_wp2_with fail
          go_quiet (fail)
          go_wp2
          go_ret3
          exact ⟨KK, R, 8, by first | rfl | rw [hKi]; rfl, HL.out, _, rfl⟩
      · replace hbn : 1025 ≤ n := hbn
        by_cases hc : 2049 ≤ n
        · have hcc : (2049 : Int) ≤ (n : Int) := by omega
          go_wp2
          exact ⟨⟨10, rfl, by omega, by omega, hc, (by first | rfl | trivial)⟩, by simp [intOf]⟩
        · have hcc : ¬ (2049 : Int) ≤ (n : Int) := by omega
          obtain ⟨X, hX⟩ : ∃ X, n - 1025 = X := ⟨_, rfl⟩
          have hX0 : (n : Int) - 1 - 1024 = (X : Int) := by omega
          have hXb : X < 1024 := by omega
          have hq : (X : Int) / 2 ^ 9 = ((X / 512 : Nat) : Int) := by simp
          have hq2 : (X : Int) / 512 = ((X / 512 : Nat) : Int) := by omega
          have hand : bits .and .i64 (X : Int) 511 = ((X % 512 : Nat) : Int) := and_low X 9 (by omega) (by omega)
          obtain ⟨Q, hQ⟩ : ∃ Q, X / 512 = Q := ⟨_, rfl⟩
          obtain ⟨R, hR⟩ : ∃ R, X % 512 = R := ⟨_, rfl⟩
          rw [hQ] at hq hq2
          rw [hR] at hand
          have hQb : Q < 2 := by omega
          obtain ⟨KK, hKK⟩ : ∃ z, 20 + Q = z := ⟨_, rfl⟩
          have HL : Hid (DistP n KK R 9) := .inr (⟨Q, by omega, by omega, hQb, by show R < 512; omega, by omega, by show n = 1 + (2 + Q) * 512 + R; omega⟩)
          have hKi : (20 : Int) + (Q : Int) = (KK : Int) := by omega
          clear hX hQ hR hKK
          go_wp2_with fail
          go_quiet (fail)
          go_wp2
          go_ret3
          exact ⟨KK, R, 9, by first | rfl | rw [hKi]; rfl, HL.out, _, rfl⟩
      · replace hbn : 2049 ≤ n := hbn
        by_cases hc : 4097 ≤ n
        · have hcc : (4097 : Int) ≤ (n : Int) := by omega
          go_wp2
          exact ⟨⟨11, rfl, by omega, by omega, hc, (by first | rfl | trivial)⟩, by simp [intOf]⟩
        · have hcc : ¬ (4097 : Int) ≤ (n : Int) := by omega
          obtain ⟨X, hX⟩ : ∃ X, n - 2049 = X := ⟨_, rfl⟩
          have hX0 : (n : Int) - 1 - 2048 = (X : Int) := by omega
          have hXb : X < 2048 := by omega
          have hq : (X : Int) / 2 ^ 10 = ((X / 1024 : Nat) : Int) := by simp
          have hq2 : (X : Int) / 1024 = ((X / 1024 : Nat) : Int) := by omega
          have hand : bits .and .i64 (X : Int) 1023 = ((X % 1024 : Nat) : Int) := and_low X 10 (by omega) (by omega)
          obtain ⟨Q, hQ⟩ : ∃ Q, X / 1024 = Q := ⟨_, rfl⟩
          obtain ⟨R, hR⟩ : ∃ R, X % 1024 = R := ⟨_, rfl⟩
          rw [hQ] at hq hq2
          rw [hR] at hand
          have hQb : Q < 2 := by omega
          obtain ⟨KK, hKK⟩ : ∃ z, 22 + Q = z := ⟨_, rfl⟩
          have HL : Hid (DistP n KK R 10) := .inr (⟨Q, by omega, by omega, hQb, by show R < 1024; omega, by omega, by show n = 1 + (2 + Q) * 1024 + R; omega⟩)
          have hKi : (22 : Int) + (Q : Int) = (KK : Int) := by omega
          clear hX hQ hR hKK
          go_wp2_with fail
          go_quiet (fail)
          go_wp2
          go_ret3
          exact ⟨KK, R, 10, by first | rfl | rw [hKi]; rfl, HL.out, _, rfl⟩
      · replace hbn : 4097 ≤ n := hbn
        by_cases hc : 8193 ≤ n
        · have hcc : (8193 : Int) ≤ (n : Int) := by omega
          go_wp2
          exact ⟨⟨12, rfl, by omega, by omega, hc, (by first | rfl | trivial)⟩, by simp [intOf]⟩
        · have hcc : ¬ (8193 : Int) ≤ (n : Int) := by omega
          obtain ⟨X, hX⟩ : ∃ X, n - 4097 = X := ⟨_, rfl⟩
          have hX0 : (n : Int) - 1 - 4096 = (X : Int) := by omega
          have hXb : X < 4096 := by omega
          have hq : (X : Int) / 2 ^ 11 = ((X / 2048 : Nat) : Int) := by simp
          have hq2 : (X : Int) / 2048 = ((X / 2048 : Nat) : Int) := by omega
          have hand : bits .and .i64 (X : Int) 2047 = ((X % 2048 : Nat) : Int) := and_low X 11 (by omega) (by omega)
          obtain ⟨Q, hQ⟩ : ∃ Q, X / 2048 = Q := ⟨_, rfl⟩
          obtain ⟨R, hR⟩ : ∃ R, X % 2048 = R := ⟨_, rfl⟩
          rw [hQ] at hq hq2
          rw [hR] at hand
          have hQb : Q < 2 := by omega
          obtain ⟨KK, hKK⟩ : ∃ z, 24 + Q = z := ⟨_, rfl⟩
          have HL : Hid (DistP n KK R 11) := .inr (⟨Q, by omega, by omega, hQb, by show R < 2048; omega, by omega, by show n = 1 + (2 + Q) * 2048 + R; omega⟩)
          have hKi : (24 : Int) + (Q : Int) = (KK : Int) := by omega
          clear hX hQ hR hKK
          go_wp2_with fail
          go_quiet (fail)
          go_wp2
          go_ret3
          exact ⟨KK, R, 11, by first | rfl | rw [hKi]; rfl, HL.out, _, rfl⟩
      · replace hbn : 8193 ≤ n := hbn
        by_cases hc : 16385 ≤ n
        · have hcc : (16385 : Int) ≤ (n : Int) := by omega
          go_wp2
          exact ⟨⟨13, rfl, by omega, by omega, hc, (by first | rfl | trivial)⟩, by simp [intOf]⟩
        · have hcc : ¬ (16385 : Int) ≤ (n : Int) := by omega
          obtain ⟨X, hX⟩ : ∃ X, n - 8193 = X := ⟨_, rfl⟩
          have hX0 : (n : Int) - 1 - 8192 = (X : Int) := by omega
          have hXb : X < 8192 := by omega
          have hq : (X : Int) / 2 ^ 12 = ((X / 4096 : Nat) : Int) := by simp
          have hq2 : (X : Int) / 4096 = ((X / 4096 : Nat) : Int) := by omega
          have hand : bits .and .i64 (X : Int) 4095 = ((X % 4096 : Nat) : Int) := and_low X 12 (by omega) (by omega)
          obtain ⟨Q, hQ⟩ : ∃ Q, X / 4096 = Q := ⟨_, rfl⟩
          obtain ⟨R, hR⟩ : ∃ R, X % 4096 = R := ⟨_, rfl⟩
          rw [hQ] at hq hq2
          rw [hR] at hand
          have hQb : Q < 2 := by omega
          obtain ⟨KK, hKK⟩ : ∃ z, 26 + Q = z := ⟨_, rfl⟩
          have HL : Hid (DistP n KK R 12) := .inr (⟨Q, by omega, by omega, hQb, by show R < 4096; omega, by omega, by show n = 1 + (2 + Q) * 4096 + R; omega⟩)
          have hKi : (26 : Int) + (Q : Int) = (KK : Int) := by omega
          clear hX hQ hR hKK
          go_wp2_with fail
          go_quiet (fail)
          go_wp2
          go_ret3
          exact ⟨KK, R, 12, by first | rfl | rw [hKi]; rfl, HL.out, _, rfl⟩
      · replace hbn : 16385 ≤ n := hbn
        have hc : ¬ 32769 ≤ n := by omega
        have hcc : ¬ (32769 : Int) ≤ (n : Int) := by omega
        obtain ⟨X, hX⟩ : ∃ X, n - 16385 = X := ⟨_, rfl⟩
        have hX0 : (n : Int) - 1 - 16384 = (X : Int) := by omega
        have hXb : X < 16384 := by omega
        have hq : (X : Int) / 2 ^ 13 = ((X / 8192 : Nat) : Int) := by simp
        have hq2 : (X : Int) / 8192 = ((X / 8192 : Nat) : Int) := by omega
        have hand : bits .and .i64 (X : Int) 8191 = ((X % 8192 : Nat) : Int) := and_low X 13 (by omega) (by omega)
        obtain ⟨Q, hQ⟩ : ∃ Q, X / 8192 = Q := ⟨_, rfl⟩
        obtain ⟨R, hR⟩ : ∃ R, X % 8192 = R := ⟨_, rfl⟩
        rw [hQ] at hq hq2
        rw [hR] at hand
        have hQb : Q < 2 := by omega
        obtain ⟨KK, hKK⟩ : ∃ z, 28 + Q = z := ⟨_, rfl⟩
        have HL : Hid (DistP n KK R 13) := .inr (⟨Q, by omega, by omega, hQb, by show R < 8192; omega, by omega, by show n = 1 + (2 + Q) * 8192 + R; omega⟩)
        have hKi : (28 : Int) + (Q : Int) = (KK : Int) := by omega
        clear hX hQ hR hKK
        go_wp2_with fail
        go_quiet (fail)
        go_wp2
        go_ret3
        exact ⟨KK, R, 13, by first | rfl | rw [hKi]; rfl, HL.out, _, rfl⟩
end Go.Proofs.YtchjnfckcfikkaaDoor
namespace Go.Proofs.YtchjnfckcfikkaaDoor
open Go.RowKit
set_option linter.unusedVariables false

variable {w w' : World} {K : Nat → Prop}
/-- The two rows: a block's bits, the plain bytes. -/
structure MS (K : Nat → Prop) (w : World) (vo : Value) (O : List Nat) (vw : Value) (V : List Nat) : Prop where
  out : RI w K vo O
  own : w.ownsRow 0 5 1 vw V.length (bcells V)
  ko : ∀ g, vw.ownBlock = some g → ¬ K g
variable {vo vw : Value} {O V : List Nat}
theorem MS.below (h : MS K w vo O vw V) (hb : Below w.heap.size w w') : MS K w' vo O vw V := by
  refine ⟨h.out.newer hb (fun k hk => Nat.lt_of_lt_of_le (h.out.kb k hk) hb.size) h.out.ko, ⟨h.own.1, ?_⟩, h.ko⟩
  rcases h.own.2 with e | ⟨g, cap, cur, e1, e2, e3, e4⟩
  · exact .inl e
  · exact .inr ⟨g, cap, cur, e1, e2, by rw [hb.block g (lt_of_block e3)]; exact e3, e4⟩
theorem MS.uf (h : MS K w vo O vw V) (hb : Below w.heap.size w w') : UF K w w' := UF.below hb h.out.kb
theorem MS.wblk (h : MS K w vo O vw V) {q : Nat} (hq : vw.ownBlock = some q) : ∃ cur, w.heap[q]? = some (.cells cur 5 (0, 0)) := by
  rcases h.own.2 with ⟨e1, _⟩ | ⟨g, cap, cur, e1, e2, e3, e4⟩
  · rw [e1] at hq; simp [Value.ownBlock] at hq
  · rw [e1] at hq
    have e5 : g = q := by simpa [Value.ownBlock] using hq
    rw [e5] at e3
    exact ⟨_, e3⟩
theorem MS.oblk (h : MS K w vo O vw V) {q : Nat} (hq : vo.ownBlock = some q) : ∃ cur, w.heap[q]? = some (.cells cur 3 (0, 0)) := by
  rcases h.out.own.2 with ⟨e1, _⟩ | ⟨g, cap, cur, e1, e2, e3, e4⟩
  · rw [e1] at hq; simp [Value.ownBlock] at hq
  · rw [e1] at hq
    have e5 : g = q := by simpa [Value.ownBlock] using hq
    rw [e5] at e3
    exact ⟨_, e3⟩
/-- The bits' row, all else kept. -/
theorem MS.apart (h : MS K w vo O vw V) : RI w (fun k => K k ∨ vw.ownBlock = some k) vo O := by
  refine ⟨h.out.own, ?_, ?_⟩
  · rintro k (hk | hk)
    · exact h.out.kb k hk
    · obtain ⟨_, e⟩ := h.wblk hk; exact lt_of_block e
  · rintro g hg (hk | hk)
    · exact h.out.ko g hg hk
    · obtain ⟨_, e⟩ := h.wblk hk
      obtain ⟨_, e'⟩ := h.oblk hg
      rw [e] at e'; simp at e'
theorem MS.held {vo' : Value} {O' : List Nat} (h : MS K w vo O vw V) (hr : RI w' (fun k => K k ∨ vw.ownBlock = some k) vo' O') (hf : UF (fun k => K k ∨ vw.ownBlock = some k) w w') : MS K w' vo' O' vw V ∧ UF K w w' := by
  refine ⟨⟨⟨hr.own, fun k hk => hr.kb k (.inl hk), fun g hg hk => hr.ko g hg (.inl hk)⟩, ⟨h.own.1, ?_⟩, h.ko⟩, hf.less (fun k hk => .inl hk)⟩
  rcases h.own.2 with e | ⟨g, cap, cur, e1, e2, e3, e4⟩
  · exact .inl e
  · exact .inr ⟨g, cap, cur, e1, e2, by rw [hf.block g (.inr (by rw [e1]; rfl))]; exact e3, e4⟩
theorem RI.growL {w1 : World} {v : Value} {xs ys : List Nat} (h : RI w K v xs) {g cap m : Nat} (hm : m = xs.length + ys.length) (hown : w1.ownsRow 0 3 1 (.slice (some ⟨g, 0, none⟩) m cap) m (icl xs ++ icl ys)) (hg : w.grownBy w1 v.ownBlock) (hat : v.ownBlock = some g ∨ g = w.heap.size) :
    RI w1 K (.slice (some ⟨g, 0, none⟩) m cap) (xs ++ ys) ∧ UF K w w1 := by
  refine ⟨⟨?_, fun k hk => Nat.lt_of_lt_of_le (h.kb k hk) hg.size, ?_⟩, UF.grown hg h.kb h.ko⟩
  · rw [List.length_append, ← hm]
    have e : icl (xs ++ ys) = icl xs ++ icl ys := by simp [icl]
    rw [e]; exact hown
  · intro k hk hK
    have hk' : g = k := by simpa [Value.ownBlock] using hk
    subst hk'
    rcases hat with e | e
    · exact h.ko g e hK
    · have := h.kb g hK; omega
/-- So many bits behind. -/
theorem MS.grewO {w1 : World} {ys : List Nat} (h : MS K w vo O vw V) {g cap m : Nat} (hm : m = O.length + ys.length) (hown : w1.ownsRow 0 3 1 (.slice (some ⟨g, 0, none⟩) m cap) m (icl O ++ icl ys)) (hg : w.grownBy w1 vo.ownBlock) (hat : vo.ownBlock = some g ∨ g = w.heap.size) : MS K w1 (.slice (some ⟨g, 0, none⟩) m cap) (O ++ ys) vw V ∧ UF K w w1 := by
  obtain ⟨h1, h2⟩ := h.apart.growL hm hown hg hat
  exact h.held h1 h2
/-- One plain byte behind. -/
theorem MS.grewW {w1 : World} (h : MS K w vo O vw V) {x g cap m : Nat} (hm : m = V.length + 1) (hown : w1.ownsRow 0 5 1 (.slice (some ⟨g, 0, none⟩) m cap) m (bcells V ++ [.int .u8 (x : Nat)])) (hg : w.grownBy w1 vw.ownBlock) (hat : vw.ownBlock = some g ∨ g = w.heap.size) : MS K w1 vo O (.slice (some ⟨g, 0, none⟩) m cap) (V ++ [x]) ∧ UF K w w1 := by
  have hu : UF K w w1 := UF.grown hg h.out.kb h.ko
  refine ⟨⟨⟨⟨h.out.own.1, ?_⟩, fun k hk => Nat.lt_of_lt_of_le (h.out.kb k hk) hg.size, h.out.ko⟩, ?_, ?_⟩, hu⟩
  · rcases h.out.own.2 with e | ⟨g', cap', cur, e1, e2, e3, e4⟩
    · exact .inl e
    · refine .inr ⟨g', cap', cur, e1, e2, ?_, e4⟩
      rw [hg.block g' (lt_of_block e3) (fun e => ?_)]
      · exact e3
      · obtain ⟨_, e'⟩ := h.wblk e.symm
        rw [e3] at e'; simp at e'
  · rw [List.length_append, List.length_singleton, ← hm]
    have e : bcells (V ++ [x]) = bcells V ++ [.int .u8 (x : Nat)] := by simp [bcells]
    rw [e]; exact hown
  · intro k hk hK
    have hk' : g = k := by simpa [Value.ownBlock] using hk
    subst hk'
    rcases hat with e | e
    · exact h.ko g e hK
    · have := h.out.kb g hK; omega
theorem MS.oform (h : MS K w vo O vw V) : ∃ ao cp, vo = .slice ao O.length cp := h.out.form
theorem MS.wform (h : MS K w vo O vw V) : ∃ ao cp, vw = .slice ao V.length cp := by
  rcases h.own.2 with ⟨e, h0⟩ | ⟨g, cap, cur, e, _⟩
  · exact ⟨none, 0, by rw [e, h0]⟩
  · exact ⟨_, _, e⟩
theorem MS.drewN (h : MS K w vo O vw V) (k : Nat) : MS K (w.drewN k) vo O vw V := ⟨⟨h.out.own, h.out.kb, h.out.ko⟩, h.own, h.ko⟩
theorem MS.alloc (h : MS K w vo O vw V) (o : Obj) : MS K (w.alloc o) vo O vw V := h.below ((Below.refl _ _).alloc (Nat.le_refl _) _)
theorem MS.byteAt (h : MS K w vo O vw V) {i : Nat} (hi : i < V.length) : ∃ g cp, vw = .slice (some ⟨g, 0, none⟩) V.length cp ∧ w.cell? ⟨g, i, none⟩ = some (.int .u8 (V.getD i 0 : Nat)) := by
  rcases h.own.2 with ⟨e, h0⟩ | ⟨g, cap, cur, e1, e2, e3, e4⟩
  · omega
  · refine ⟨g, cap, e1, ?_⟩
    have hc := h.own.cells (g := g) (by rw [e1]; rfl) i (.int .u8 (V.getD i 0 : Nat)) (by
      unfold bcells
      rw [List.getElem?_map, List.getElem?_eq_getElem hi]
      simp [List.getD_eq_getElem?_getD, List.getElem?_eq_getElem hi])
    rw [add_zero_addr] at hc
    exact hc
theorem i64_and255' (n : Int) : bits .and .i64 n 255 = n % 256 := by
  have h127 : (BitVec.ofInt 64 255).toNat = 2 ^ 8 - 1 := by decide
  have key : (BitVec.ofInt 64 n &&& BitVec.ofInt 64 255).toNat = (n % ((2 ^ 64 : Nat) : Int)).toNat % 2 ^ 8 := by
    rw [BitVec.toNat_and, BitVec.toNat_ofInt, h127, Nat.and_two_pow_sub_one_eq_mod]
  show IntKind.i64.wrap ((BitVec.ofInt 64 n &&& BitVec.ofInt 64 255).toNat : Nat) = n % 256
  rw [key, IntKind.wrap_i64]
  omega
theorem i64_and15 (n : Int) : bits .and .i64 n 32767 = n % 32768 := by
  have h127 : (BitVec.ofInt 64 32767).toNat = 2 ^ 15 - 1 := by decide
  have key : (BitVec.ofInt 64 n &&& BitVec.ofInt 64 32767).toNat = (n % ((2 ^ 64 : Nat) : Int)).toNat % 2 ^ 15 := by
    rw [BitVec.toNat_and, BitVec.toNat_ofInt, h127, Nat.and_two_pow_sub_one_eq_mod]
  show IntKind.i64.wrap ((BitVec.ofInt 64 n &&& BitVec.ofInt 64 32767).toNat : Nat) = n % 32768
  rw [key, IntKind.wrap_i64]
  omega
/-- The symbols that came in. -/
def A2 (w : World) (a0 : Option Addr) (len : Nat) (f : Nat → Nat → Int) : Prop :=
  len = 0 ∨ ∃ b off, a0 = some ⟨b, off, none⟩ ∧ b < w.heap.size ∧ ∀ i, i < len → ∀ j, j < 2 → w.cell? ⟨b, off + i * 2 + j, none⟩ = some (.int .i64 (f i j))
end Go.Proofs.YtchjnfckcfikkaaDoor
