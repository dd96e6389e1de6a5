/- Layer 5: awake, and bytes that are read as they were. -/
/- Layer 5: awake. -/
/- Layer 5: DeflateBack and DeflateTwo. -/
/- Layer 5: DeflateTwo and DeflateKinds. -/
/- Layer 5: DeflateLong. -/
/- Layer 5: what Stored writes, byte by byte. -/
import Derived.Test.YtlbadjfcffoakaaDoorV41
import Derived.Test.YtlbadjfcffoakaaDoorV45
import Derived.Lib.LaidTab
import Derived.Laws.IdiomStrings
namespace Go.Proofs.YtlbadjfcffoakaaDoor
open Go.RowKit
set_option linter.unusedVariables false
set_option maxRecDepth 20000

theorem ord_at {W : World} {rest : List (String × DataW Unit)} (h : laidMet Tryd.prog (("postroad/deflate.firstOrder", Lib.tabData .i64 [16, 17, 18, 0, 8, 7, 9, 6, 10, 5, 11, 4, 12, 3, 13, 2, 14, 1, 15]) :: rest) W) : OrdAt W := by
  have t := Lib.tabIs_of_head (g := 0) (by kernel_rfl) (by kernel_rfl) Tryd.underlying122 Tryd.underlying3 (by kernel_rfl) (by kernel_rfl) h
  intro i hi
  have hc := t.cell (g := 0) (by kernel_rfl) i hi
  rw [hc]
  have := (show ∀ k : Fin 19, ([16, 17, 18, 0, 8, 7, 9, 6, 10, 5, 11, 4, 12, 3, 13, 2, 14, 1, 15] : List Int).getD k.val 0 = ((ordL.getD k.val 0 : Nat) : Int) by decide) ⟨i, hi⟩
  rw [this]
theorem toBA_bytesL (s : ByteArray) : toBA (bytesL s) = s := by
  have h : (bytesL s).map UInt8.ofNat = s.data.toList := by
    unfold bytesL
    rw [List.map_map]
    conv => rhs; rw [← List.map_id s.data.toList]
    refine List.map_congr_left (fun x _ => ?_)
    show UInt8.ofNat x.toNat = x
    simp
  unfold toBA
  rw [h]
theorem pack_size (Z : List Nat) : (toBA (pack Z)).size = (Z.length + 7) / 8 := by rw [show (toBA (pack Z)).size = (pack Z).length by simp [toBA, ByteArray.size], pack_length]
theorem good_inf {s z : ByteArray} {most : Nat} (h : Good s z) (hm : s.size ≤ most) : infR (infF z most) = .tuple #[.string s, .int .i64 (z.size : Nat), .int .i64 0] := by
  obtain ⟨Z, rfl, h2⟩ := h
  rw [h2 most hm]
  unfold infR
  rw [if_pos rfl, pack_size, toBA_bytesL]
def aTxt : ByteArray := ⟨#[97, 97, 97, 97, 97, 97, 97, 97, 97, 97, 97, 97, 97, 97, 97, 97, 97, 97, 97, 97, 97, 97, 97, 97, 97, 97, 97, 97, 97, 97, 97, 97, 97, 97, 97, 97, 97, 97, 97, 97, 97, 97]⟩
def hiTxt : ByteArray := ⟨#[104, 105]⟩
def noTxt : ByteArray := ⟨#[]⟩
set_option maxRecDepth 100000 in
theorem pureA1 : pack (storedZ 17 [] hiTxt) = [1, 2, 0, 253, 255, 104, 105] := by decide +kernel
set_option maxRecDepth 100000 in
theorem pureA2 : pack (fixedB [] (D5.tokensOf noTxt) true) = [3, 0] := by decide +kernel
set_option maxRecDepth 100000 in
theorem pureA3 : (pack (fixedB [] (D5.tokensOf aTxt) true)).length < 20 := by decide +kernel
end Go.Proofs.YtlbadjfcffoakaaDoor
namespace Go.Proofs.YtlbadjfcffoakaaDoor
open Go.RowKit
set_option linter.unusedVariables false
set_option maxRecDepth 20000

set_option maxHeartbeats 2000000 in
theorem awake5_ok (w : World) (ho : OrdAt w) : Calls Tryd.prog 4 #[] w fun e w' => e = .returned (.bool true) ∧ Below w.heap.size w w' := by
  have A1 : Hid (∀ W, Calls Tryd.prog 5 #[.string ⟨#[104, 105]⟩] W fun e w' => e = .returned (.tuple #[.string ⟨#[1, 2, 0, 253, 255, 104, 105]⟩, .int .i64 0]) ∧ Below W.heap.size W w') := fun W => (Stored_ok hiTxt W (by decide)).mono fun e w' h => by
    rw [pureA1] at h
    exact h
  have A2 : Hid (∀ W, Calls Tryd.prog 6 #[.string ⟨#[]⟩] W fun e w' => e = .returned (.tuple #[.string ⟨#[3, 0]⟩, .int .i64 0]) ∧ Below W.heap.size W w') := fun W => (Fixed_ok noTxt W (by decide)).mono fun e w' h => by
    rw [pureA2] at h
    exact h
  have A3 : Hid (∀ W, OrdAt W → Calls Tryd.prog 7 #[.string ⟨#[97, 97, 97, 97, 97, 97, 97, 97, 97, 97, 97, 97, 97, 97, 97, 97, 97, 97, 97, 97, 97, 97, 97, 97, 97, 97, 97, 97, 97, 97, 97, 97, 97, 97, 97, 97, 97, 97, 97, 97, 97, 97]⟩] W fun e w' => ∃ z, e = .returned (.tuple #[.string z, .int .i64 0]) ∧ (Good aTxt z ∧ z.size < 20) ∧ Below W.heap.size W w') := fun W h => (Deflate_ok aTxt W (by decide) h).mono fun e w' h => by
    obtain ⟨z, h1, h2, h3, h4, h5⟩ := h
    refine ⟨z, h1, ⟨h2, ?_⟩, h5⟩
    have h6 := pureA3
    rw [show (toBA (pack (fixedB [] (D5.tokensOf aTxt) true))).size = (pack (fixedB [] (D5.tokensOf aTxt) true)).length by simp [toBA, ByteArray.size]] at h4
    omega
  have A4 : Hid (∀ W z, Good aTxt z → z.size < 20 → Calls Tryd.prog 8 #[.string z, .int .i64 99] W fun e w' => e = .returned (.tuple #[.string aTxt, .int .i64 (z.size : Nat), .int .i64 0]) ∧ Below W.heap.size W w') := fun W z h h2 => by
    have h1 := rinflate_ok z 99 W (by omega) (by omega)
    rw [good_inf h (by decide)] at h1
    exact h1
  have HO : Hid (OrdAt w) := ho
  clear ho
  go_enter Tryd.func4, Tryd.ntmps4
  go_wp2_with fail
  refine (A1.out w).mono ?_
  rintro e w1 ⟨he, b1⟩
  subst he
  have B1 : Hid (Below w.heap.size w w1) := b1
  clear b1 A1
  go_wp2_with fail
  refine (A2.out w1).mono ?_
  rintro e w2 ⟨he, b1⟩
  subst he
  have B2 : Hid (Below w.heap.size w w2) := B1.out.trans (b1.mono B1.out.size)
  clear b1 A2
  go_wp2_with fail
  refine (A3.out w2 (HO.out.below B2.out)).mono ?_
  rintro e w3 ⟨z, he, hz, b1⟩
  subst he
  have B3 : Hid (Below w.heap.size w w3) := B2.out.trans (b1.mono B2.out.size)
  have HZ : Hid (Good aTxt z ∧ z.size < 20) := hz
  have hz20 : (z.size : Int) < 20 := by have := hz.2; omega
  clear b1 A3 hz
  go_wp2_with fail
  refine (A4.out w3 z HZ.out.1 HZ.out.2).mono ?_
  rintro e w4 ⟨he, b1⟩
  subst he
  have B4 : Hid (Below w.heap.size w w4) := B3.out.trans (b1.mono B3.out.size)
  have ha : aTxt.size = 42 := rfl
  clear b1 A4
  go_wp2
  go_ret
  first | exact ⟨rfl, B4.out⟩ | exact ⟨by simp, B4.out⟩
end Go.Proofs.YtlbadjfcffoakaaDoor
namespace Go.Proofs.YtlbadjfcffoakaaDoor
open Go.RowKit
set_option linter.unusedVariables false
set_option maxRecDepth 20000

theorem fixL_le (i : Nat) : fixL i ≤ 9 := by unfold fixL; (repeat' split) <;> omega
theorem fixL_high {i : Nat} (h : 256 ≤ i) : fixL i ≤ 8 := by unfold fixL; (repeat' split) <;> omega
theorem lenK3 : lenK 3 = (257, 0, 0) := by decide
theorem fix30_get {i : Nat} (h : i < 30) : fix30.getD i 0 = 5 := by
  unfold fix30
  rw [List.getD_eq_getElem?_getD, List.getElem?_replicate, if_pos h]
  rfl
theorem tok_fix_le {s : ByteArray} : ∀ {T : List (Nat × Nat × Nat)} {k k' : Nat}, Tells s k T k' → (tokBits fixS fix30 T).length + 9 * k ≤ 9 * k'
  | [], k, k', h => by have h : k = k' := h; subst h; simp [tokBits]
  | t :: T, k, k', h => by
    have e : tokBits fixS fix30 (t :: T) = tokB fixS fix30 t ++ tokBits fixS fix30 T := rfl
    rw [e, List.length_append]
    rcases h with ⟨h1, h2, h3⟩ | ⟨n, d, h1, h2, h3⟩
    · have ih := tok_fix_le h3
      have hb : D5.bt s k < 256 := by
        have hf := Tells.fine (s := s) (T := [t]) (k := k) (k' := k + 1) (.inl ⟨h1, h2, rfl⟩) t (List.mem_cons_self ..)
        rw [h1] at hf
        rcases hf with hf | hf
        · exact hf.2
        · have := hf.1; simp only at this; omega
      have : (tokB fixS fix30 t).length ≤ 9 := by
        rw [h1]
        unfold tokB
        rw [if_pos rfl, symB_length, fixS_get (by simp only; omega)]
        exact fixL_le _
      omega
    · have ih := tok_fix_le h3
      have hl := (lenK_ok h2.long h2.most).small
      have hd := (distK_ok h2.back h2.far).small
      have hc : (tokB fixS fix30 t).length ≤ 9 * n := by
        rw [h1]
        unfold tokB
        rw [if_neg (by simp only; have := h2.back; omega)]
        simp only [List.length_append, symB_length, bitsOf_length]
        rw [fixS_get (by omega), fix30_get hd.1]
        by_cases e3 : n = 3
        · have e1 : (lenK n).1 = 257 := by rw [e3, lenK3]
          have e2 : (lenK n).2.2 = 0 := by rw [e3, lenK3]
          rw [e1, e2]
          have e4 : fixL 257 = 7 := rfl
          rw [e4]
          omega
        · have := fixL_high (i := (lenK n).1) (by omega)
          have := h2.long
          omega
      omega
theorem fixed_size (s : ByteArray) : 8 * (toBA (pack (fixedB [] (D5.tokensOf s) true))).size ≤ 9 * s.size + 17 := by
  have h := tok_fix_le (tokens_tell s)
  rw [pack_size]
  unfold fixedB
  simp only [List.length_append, headB_length, symB_length, List.length_nil]
  rw [fixS_get (by omega)]
  have e : fixL 256 = 7 := rfl
  rw [e]
  omega
theorem stored_size {s : ByteArray} (hs : s.size ≤ 65535) : (toBA (pack (storedZ 17 [] s))).size = s.size + 5 := by
  rw [pack_size, storedZ_end (by omega)]
  unfold storedB
  simp only [List.length_append, bitsOf_length, textBits_length]
  have h := padded_length ([] ++ headB 0 true)
  rw [List.length_append, headB_length, List.length_nil] at h
  rw [h]
  omega
end Go.Proofs.YtlbadjfcffoakaaDoor
namespace Go.Proofs.YtlbadjfcffoakaaDoor
open Go.RowKit
set_option linter.unusedVariables false
set_option maxRecDepth 20000

theorem and7_u8 (b : Nat) (h : b < 256) : bits .and .u8 (b : Int) 7 = ((b % 8 : Nat) : Int) := by
  exact (show ∀ b : Fin 256, bits .and .u8 ((b.val : Nat) : Int) 7 = ((b.val % 8 : Nat) : Int) by decide +kernel) ⟨b, h⟩
theorem byte0 (L : List Nat) : byteOf L 0 = L.getD 0 0 + 2 * L.getD 1 0 + 4 * L.getD 2 0 + 8 * (L.getD 3 0 + 2 * L.getD 4 0 + 4 * L.getD 5 0 + 8 * L.getD 6 0 + 16 * L.getD 7 0) := by
  unfold byteOf
  simp [bsum]
  omega
theorem first_byte {Z : List Nat} (h01 : Bits01 Z) (hl : 0 < Z.length) : 0 < (toBA (pack Z)).size ∧ ∀ h, ((toBA (pack Z))[0]'h).toNat = byteOf Z 0 := by
  have hs : 0 < (toBA (pack Z)).size := by rw [pack_size]; omega
  refine ⟨hs, fun h => ?_⟩
  have hlt := byteOf_lt h01 0
  have e : (toBA (pack Z)).data[0]? = some (UInt8.ofNat (byteOf Z 0)) := by
    unfold toBA
    simp only [List.getElem?_toArray, List.getElem?_map]
    rw [pack_get Z 0 (by omega)]
    rfl
  have e2 : (toBA (pack Z))[0]'h = UInt8.ofNat (byteOf Z 0) := by
    have := Array.getElem?_eq_some_iff.1 e
    obtain ⟨h1, h2⟩ := this
    exact h2
  rw [e2]
  simp
  omega
theorem getD_app {A B : List Nat} {i : Nat} (h : i < A.length) : (A ++ B).getD i 0 = A.getD i 0 := by
  rw [List.getD_eq_getElem?_getD, List.getElem?_append_left h, ← List.getD_eq_getElem?_getD]
theorem fixed_first (T : List (Nat × Nat × Nat)) : byteOf (fixedB [] T true) 0 % 8 = 3 := by
  have e : ∀ i, i < 3 → (fixedB [] T true).getD i 0 = (headB 1 true).getD i 0 := fun i hi => by
    unfold fixedB
    rw [List.nil_append]
    exact getD_app (by rw [headB_length]; exact hi)
  rw [byte0, e 0 (by omega), e 1 (by omega), e 2 (by omega)]
  have h0 : (headB 1 true).getD 0 0 = 1 := by decide
  have h1 : (headB 1 true).getD 1 0 = 1 := by decide
  have h2 : (headB 1 true).getD 2 0 = 0 := by decide
  rw [h0, h1, h2]
  omega
theorem stored_first (s : ByteArray) : byteOf (storedB [] s true) 0 = 1 := by
  have e : ∀ i, i < 8 → (storedB [] s true).getD i 0 = (padded (headB 0 true)).getD i 0 := fun i hi => by
    unfold storedB
    rw [List.nil_append, List.append_assoc, List.append_assoc]
    exact getD_app (by rw [padded_length, headB_length]; omega)
  rw [byte0, e 0 (by omega), e 1 (by omega), e 2 (by omega), e 3 (by omega), e 4 (by omega), e 5 (by omega), e 6 (by omega), e 7 (by omega)]
  decide
end Go.Proofs.YtlbadjfcffoakaaDoor
namespace Go.Proofs.YtlbadjfcffoakaaDoor
open Go.RowKit
set_option linter.unusedVariables false
set_option maxRecDepth 20000

def TB (w : World) (g : Nat) (l : List Nat) : Prop := ∀ j, j < l.length → w.cell? ⟨g, j, none⟩ = some (.int .u8 (l.getD j 0 : Nat))
theorem bytes_back (l : List Nat) (g cap : Nat) (w : World) (h : TB w g l) (hl : ∀ x ∈ l, x < 256) : (convert 23 9 (.slice (some ⟨g, 0, none⟩) l.length cap)).run Tryd.prog w = .ok (.string (toBA l)) w := by
  have hlen : (l.map UInt8.ofNat).length = l.length := by simp
  have := run_convert_bytes_back (P := Tryd.prog) w 23 9 5 ⟨g, 0, none⟩ cap (l.map UInt8.ofNat) Tryd.underlying23 Tryd.underlying5 Tryd.underlying9 (fun j hj => by
    have hj' : j < l.length := by simpa using hj
    have hx := hl l[j] (List.getElem_mem hj')
    rw [D5.add_zero_addr, h j hj', List.getD_eq_getElem?_getD, List.getElem?_eq_getElem hj']
    simp
    omega)
  rw [hlen] at this
  exact this
theorem infoU8' : (Tryd.prog.info? 5).map (fun i => (i.zero, i.size, i.bytes)) = some (some (.int .u8 0), 1, 1) := by kernel_rfl
theorem make_bytes (n : Nat) (w : World) (hn : n ≤ 2000000) : ∃ w1, (Instr.makeSlice 23 (.int .i64 (n : Int)) (.int .i64 (n : Int))).run Tryd.prog w = .ok (.slice (some ⟨w.heap.size, 0, none⟩) n n) w1 ∧ TB w1 w.heap.size (List.replicate n 0) ∧ Below w.heap.size w w1 := by
  have h := infoU8'
  cases hq : Tryd.prog.info? 5 with
  | none => simp [hq] at h
  | some i =>
    rw [hq] at h
    simp at h
    obtain ⟨h1, h2, h3⟩ := h
    obtain ⟨w1, hrun, hown, hgr⟩ := run_make_full (P := Tryd.prog) w w.heap.size 23 5 i (.int .u8 0) 1 Tryd.underlying23 hq h1 h2 .i64 .i64 n (by rw [h3]; omega) (by unfold maxLen; omega) (Nat.le_refl _)
    refine ⟨w1, hrun, ?_, (Below.refl _ _).grown hgr (Nat.le_refl _) (fun k hk => by cases hk)⟩
    intro j hj
    have hj' : j < n := by simpa using hj
    rw [hown.cellAt j (by omega)]
    have e : (madeCells (Value.int .u8 0).cells (n * 1)).toList = List.replicate (n * 1) (Value.int .u8 0) := toList_madeCells_one (.int .u8 0) (n * 1)
    rw [e, List.getElem?_replicate, if_pos (by omega), List.getD_eq_getElem?_getD, List.getElem?_replicate, if_pos hj']
    rfl
def blkN : Nat → Nat → Nat
  | 0, _ => 1
  | f + 1, n => if 65535 < n then 1 + blkN f (n - 65535) else 1
theorem storedB_len {L : List Nat} {s : ByteArray} {l : Bool} (h : L.length % 8 = 0) : (storedB L s l).length = L.length + 40 + 8 * s.size := by
  unfold storedB
  simp only [List.length_append, bitsOf_length, textBits_length]
  rw [padded_length, List.length_append, headB_length]
  omega
theorem storedZ_len : ∀ (f : Nat) (L : List Nat) (s : ByteArray), L.length % 8 = 0 → (storedZ f L s).length = L.length + 8 * s.size + 40 * blkN f s.size
  | 0, L, s, h => by
    show (storedB L s true).length = _
    rw [storedB_len h]
    simp only [blkN]
    omega
  | f + 1, L, s, h => by
    unfold storedZ blkN
    by_cases h1 : 65535 < s.size
    · rw [if_pos h1, if_pos h1]
      obtain ⟨e1, e2⟩ := ext_left (s := s) (n := 65535) (by omega)
      have hl := storedB_len (L := L) (s := s.extract 0 65535) (l := false) h
      rw [storedZ_len f _ _ (by omega), hl, e1, e2]
      omega
    · rw [if_neg h1, if_neg h1, storedB_len h]
      omega
theorem blk17 : blkN 17 1048576 = 17 := by decide
theorem long_size {s : ByteArray} (h : s.size = 1048576) : (toBA (pack (storedZ 17 [] s))).size = s.size + 85 := by
  rw [pack_size, storedZ_len 17 [] s rfl, List.length_nil, h, blk17]
theorem zeros_size (n : Nat) : (toBA (List.replicate n 0)).size = n := by simp [toBA, ByteArray.size]
theorem and15 (n : Int) : ∃ K : Nat, K < 16 ∧ bits .and .i64 n 15 = (K : Int) := by
  have h := i64_mask 4 (by omega) n
  have e : ((2 ^ 4 - 1 : Nat) : Int) = 15 := by decide
  have e2 : ((2 ^ 4 : Nat) : Int) = 16 := by decide
  rw [e, e2] at h
  exact ⟨(n % 16).toNat, by omega, by rw [h]; omega⟩
end Go.Proofs.YtlbadjfcffoakaaDoor
namespace Go.Proofs.YtlbadjfcffoakaaDoor
open Go.RowKit
set_option linter.unusedVariables false
set_option maxRecDepth 20000

theorem byteOf_right (A B : List Nat) (j : Nat) (h8 : A.length % 8 = 0) : byteOf (A ++ B) (A.length / 8 + j) = byteOf B j := by
  refine bsum_congr (fun i hi => ?_)
  rw [List.getD_eq_getElem?_getD, List.getElem?_append_right (by omega), show 8 * (A.length / 8 + j) + i - A.length = 8 * j + i by omega, ← List.getD_eq_getElem?_getD]
theorem pack_app (A B : List Nat) (h8 : A.length % 8 = 0) : pack (A ++ B) = pack A ++ pack B := by
  refine List.ext_getElem? (fun j => ?_)
  by_cases hj : j < A.length / 8
  · rw [pack_get _ _ (by rw [List.length_append]; omega), byteOf_left _ _ _ (by omega), List.getElem?_append_left (by rw [pack_length]; omega), pack_get _ _ (by omega)]
  · by_cases hj2 : j < A.length / 8 + (B.length + 7) / 8
    · have e : j = A.length / 8 + (j - A.length / 8) := by omega
      rw [pack_get _ _ (by rw [List.length_append]; omega), List.getElem?_append_right (by rw [pack_length]; omega), pack_length, show j - (A.length + 7) / 8 = j - A.length / 8 by omega, pack_get _ _ (by omega)]
      congr 1
      conv => lhs; rw [e]
      exact byteOf_right A B _ h8
    · rw [List.getElem?_eq_none (by rw [pack_length, List.length_append]; omega), List.getElem?_eq_none (by rw [List.length_append, pack_length, pack_length]; omega)]
theorem byteOf_bits (x k j : Nat) (h : 8 * j + 8 ≤ k) : byteOf (bitsOf x k) j = x / 2 ^ (8 * j) % 256 := by
  have h1 := num_pack (bitsOf_01 x k) (8 * j) 8 (by rw [bitsOf_length]; exact h)
  rw [num_bitsOf x k (8 * j) 8 h] at h1
  exact h1.symm
theorem pack_16 (x : Nat) (h : x ≤ 65535) : pack (bitsOf x 16) = [x % 256, x / 256] := by
  unfold pack
  rw [bitsOf_length]
  show [byteOf (bitsOf x 16) 0, byteOf (bitsOf x 16) 1] = _
  rw [byteOf_bits x 16 0 (by omega), byteOf_bits x 16 1 (by omega)]
  have e1 : x / 2 ^ (8 * 0) % 256 = x % 256 := by simp
  have e2 : x / 2 ^ (8 * 1) % 256 = x / 256 := by
    show x / 256 % 256 = x / 256
    omega
  rw [e1, e2]
theorem pack_head (l : Bool) : pack (headB 0 l) = [lastB l] := by cases l <;> decide
def blkB (last k : Nat) (A : List Nat) : List Nat := [last, k % 256, k / 256, 255 - k % 256, 255 - k / 256] ++ A
theorem pack_stored {L : List Nat} {s : ByteArray} {l : Bool} (h : L.length % 8 = 0) (hs : s.size ≤ 65535) : pack (storedB L s l) = pack L ++ blkB (lastB l) s.size (bytesL s) := by
  have e8 : (padded (L ++ headB 0 l)).length % 8 = 0 := by rw [padded_length]; omega
  unfold storedB
  rw [pack_text _ _ (by rw [List.length_append, List.length_append, bitsOf_length, bitsOf_length]; omega), pack_app _ _ (by rw [List.length_append, bitsOf_length]; omega), pack_app _ _ e8, pack_padded, pack_app _ _ h, pack_head, pack_16 _ hs, pack_16 _ (by omega)]
  unfold blkB
  have e1 : (65535 - s.size) % 256 = 255 - s.size % 256 := by omega
  have e2 : (65535 - s.size) / 256 = 255 - s.size / 256 := by omega
  rw [e1, e2]
  simp only [List.append_assoc]
  rfl
def stB : Nat → List Nat → List Nat
  | 0, A => blkB 1 A.length A
  | f + 1, A => if 65535 < A.length then blkB 0 65535 (A.take 65535) ++ stB f (A.drop 65535) else blkB 1 A.length A
theorem pack_storedZ : ∀ (f : Nat) (L : List Nat) (s : ByteArray), L.length % 8 = 0 → s.size ≤ 65535 * (f + 1) → pack (storedZ f L s) = pack L ++ stB f (bytesL s)
  | 0, L, s, h, hs => by
    show pack (storedB L s true) = _
    rw [pack_stored h (by omega)]
    unfold stB
    rw [bytesL_length]
    rfl
  | f + 1, L, s, h, hs => by
    unfold storedZ stB
    rw [bytesL_length]
    by_cases h1 : 65535 < s.size
    · rw [if_pos h1, if_pos h1]
      obtain ⟨e1, e2⟩ := ext_left (s := s) (n := 65535) (by omega)
      have hl := storedB_len (L := L) (s := s.extract 0 65535) (l := false) h
      rw [pack_storedZ f _ _ (by omega) (by omega), pack_stored h (by omega), e1, bytesL_left, bytesL_right, List.append_assoc]
      rfl
    · rw [if_neg h1, if_neg h1, pack_stored h (by omega)]
      rfl
theorem stB_end {f : Nat} {A : List Nat} (h : ¬ 65535 < A.length) : stB f A = blkB 1 A.length A := by
  cases f with
  | zero => rfl
  | succ f => unfold stB; rw [if_neg h]
theorem stB_more {f : Nat} {A : List Nat} (h : 65535 < A.length) : stB (f + 1) A = blkB 0 65535 (A.take 65535) ++ stB f (A.drop 65535) := by
  rw [stB, if_pos h]
theorem bytesL_toBA {l : List Nat} (h : ∀ x ∈ l, x < 256) : bytesL (toBA l) = l := by
  unfold bytesL toBA
  simp only [List.map_map]
  conv => rhs; rw [← List.map_id l]
  refine List.map_congr_left (fun x hx => ?_)
  show (UInt8.ofNat x).toNat = x
  have := h x hx
  simp
  omega
theorem blkB_bytes {last k : Nat} {A : List Nat} (hl : last ≤ 1) (hk : k ≤ 65535) (hA : ∀ x ∈ A, x < 256) : ∀ x ∈ blkB last k A, x < 256 := fun x hx => by
  unfold blkB at hx
  rcases List.mem_append.1 hx with hx | hx
  · simp only [List.mem_cons, List.not_mem_nil, or_false] at hx
    rcases hx with h | h | h | h | h <;> omega
  · exact hA x hx
theorem stored_is {A : List Nat} (hA : ∀ x ∈ A, x < 256) (hl : A.length ≤ 131071) : toBA (pack (storedZ 17 [] (toBA A))) = toBA (stB 17 A) := by
  have hs : (toBA A).size = A.length := by simp [toBA, ByteArray.size]
  rw [pack_storedZ 17 [] (toBA A) rfl (by omega), bytesL_toBA hA]
  rfl
end Go.Proofs.YtlbadjfcffoakaaDoor
