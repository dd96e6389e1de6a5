/- Layer 5: awake, and bytes that are read as they were. -/
/- Layer 5: awake. -/
/- Layer 5: DeflateBack and DeflateTwo. -/
import Derived.Test.YtbcflkdaeboflabDoorV41
import Derived.Test.YtbcflkdaeboflabDoorV45
import Derived.Lib.LaidTab
namespace Go.Proofs.YtbcflkdaeboflabDoor
open Go.RowKit
set_option linter.unusedVariables false
set_option maxRecDepth 20000

/-- The table is laid: its cells. -/
theorem ord_at {W : World} {rest : List (String × DataW Unit)} (h : laidMet Tryd.prog (("postroad/deflate.firstOrder", Lib.tabData .i64 [16, 17, 18, 0, 8, 7, 9, 6, 10, 5, 11, 4, 12, 3, 13, 2, 14, 1, 15]) :: rest) W) : OrdAt W := by
  have t := Lib.tabIs_of_head (g := 0) (by kernel_rfl) (by kernel_rfl) Tryd.underlying117 Tryd.underlying3 (by kernel_rfl) (by kernel_rfl) h
  intro i hi
  have hc := t.cell (g := 0) (by kernel_rfl) i hi
  rw [hc]
  have := (show ∀ k : Fin 19, ([16, 17, 18, 0, 8, 7, 9, 6, 10, 5, 11, 4, 12, 3, 13, 2, 14, 1, 15] : List Int).getD k.val 0 = ((ordL.getD k.val 0 : Nat) : Int) by decide) ⟨i, hi⟩
  rw [this]
theorem toBA_bytesL (s : ByteArray) : toBA (bytesL s) = s := by
  have h : (bytesL s).map UInt8.ofNat = s.data.toList := by
    unfold bytesL
    rw [List.map_map]
    conv => rhs; rw [← List.map_id s.data.toList]
    refine List.map_congr_left (fun x _ => ?_)
    show UInt8.ofNat x.toNat = x
    simp
  unfold toBA
  rw [h]
theorem pack_size (Z : List Nat) : (toBA (pack Z)).size = (Z.length + 7) / 8 := by rw [show (toBA (pack Z)).size = (pack Z).length by simp [toBA, ByteArray.size], pack_length]
theorem good_inf {s z : ByteArray} {most : Nat} (h : Good s z) (hm : s.size ≤ most) : infR (infF z most) = .tuple #[.string s, .int .i64 (z.size : Nat), .int .i64 0] := by
  obtain ⟨Z, rfl, h2⟩ := h
  rw [h2 most hm]
  unfold infR
  rw [if_pos rfl, pack_size, toBA_bytesL]
set_option maxHeartbeats 1000000 in
theorem back_ok (z s : ByteArray) (w : World) (hs : s.size ≤ 1048576) (hz : z.size ≤ 281474976710656) (h : Good s z) : Calls Tryd.prog 6 #[.string z, .string s, .int .i64 0] w fun e w' => e = .returned (.bool true) ∧ Below w.heap.size w w' := by
  have HI : Hid (∀ _ : Unit, Calls Tryd.prog 9 #[.string z, .int .i64 (s.size : Nat)] w fun e w' => e = .returned (.tuple #[.string s, .int .i64 (z.size : Nat), .int .i64 0]) ∧ Below w.heap.size w w') := fun _ => by
    have h1 := rinflate_ok z s.size w hs hz
    rw [good_inf h (Nat.le_refl _)] at h1
    exact h1
  clear h
  go_enter Tryd.func6, Tryd.ntmps6
  go_wp2_with fail
  refine (HI.out ()).mono ?_
  rintro e w1 ⟨he, hb1⟩
  subst he
  have HB : Hid (Below w.heap.size w w1) := hb1
  clear hb1 HI
  go_wp2
  go_ret
  first | exact ⟨rfl, HB.out⟩ | exact ⟨by simp, HB.out⟩
def aTxt : ByteArray := ⟨#[97, 97, 97, 97, 97, 97, 97, 97, 97, 97, 97, 97, 97, 97, 97, 97, 97, 97, 97, 97, 97, 97, 97, 97, 97, 97, 97, 97, 97, 97, 97, 97, 97, 97, 97, 97, 97, 97, 97, 97, 97, 97]⟩
def hiTxt : ByteArray := ⟨#[104, 105]⟩
def noTxt : ByteArray := ⟨#[]⟩
set_option maxRecDepth 100000 in
theorem pureA1 : pack (storedZ 17 [] hiTxt) = [1, 2, 0, 253, 255, 104, 105] := by decide +kernel
set_option maxRecDepth 100000 in
theorem pureA2 : pack (fixedB [] (D5.tokensOf noTxt) true) = [3, 0] := by decide +kernel
set_option maxRecDepth 100000 in
theorem pureA3 : (pack (fixedB [] (D5.tokensOf aTxt) true)).length < 20 := by decide +kernel
end Go.Proofs.YtbcflkdaeboflabDoor
namespace Go.Proofs.YtbcflkdaeboflabDoor
open Go.RowKit
set_option linter.unusedVariables false
set_option maxRecDepth 20000

set_option maxHeartbeats 2000000 in
theorem awake5_ok (w : World) (ho : OrdAt w) : Calls Tryd.prog 4 #[] w fun e w' => e = .returned (.bool true) ∧ Below w.heap.size w w' := by
  have A1 : Hid (∀ W, Calls Tryd.prog 7 #[.string ⟨#[104, 105]⟩] W fun e w' => e = .returned (.tuple #[.string ⟨#[1, 2, 0, 253, 255, 104, 105]⟩, .int .i64 0]) ∧ Below W.heap.size W w') := fun W => (Stored_ok hiTxt W (by decide)).mono fun e w' h => by
    rw [pureA1] at h
    exact h
  have A2 : Hid (∀ W, Calls Tryd.prog 8 #[.string ⟨#[]⟩] W fun e w' => e = .returned (.tuple #[.string ⟨#[3, 0]⟩, .int .i64 0]) ∧ Below W.heap.size W w') := fun W => (Fixed_ok noTxt W (by decide)).mono fun e w' h => by
    rw [pureA2] at h
    exact h
  have A3 : Hid (∀ W, OrdAt W → Calls Tryd.prog 5 #[.string ⟨#[97, 97, 97, 97, 97, 97, 97, 97, 97, 97, 97, 97, 97, 97, 97, 97, 97, 97, 97, 97, 97, 97, 97, 97, 97, 97, 97, 97, 97, 97, 97, 97, 97, 97, 97, 97, 97, 97, 97, 97, 97, 97]⟩] W fun e w' => ∃ z, e = .returned (.tuple #[.string z, .int .i64 0]) ∧ (Good aTxt z ∧ z.size < 20) ∧ Below W.heap.size W w') := fun W h => (Deflate_ok aTxt W (by decide) h).mono fun e w' h => by
    obtain ⟨z, h1, h2, h3, h4, h5⟩ := h
    refine ⟨z, h1, ⟨h2, ?_⟩, h5⟩
    have h6 := pureA3
    rw [show (toBA (pack (fixedB [] (D5.tokensOf aTxt) true))).size = (pack (fixedB [] (D5.tokensOf aTxt) true)).length by simp [toBA, ByteArray.size]] at h4
    omega
  have A4 : Hid (∀ W z, Good aTxt z → z.size < 20 → Calls Tryd.prog 9 #[.string z, .int .i64 99] W fun e w' => e = .returned (.tuple #[.string aTxt, .int .i64 (z.size : Nat), .int .i64 0]) ∧ Below W.heap.size W w') := fun W z h h2 => by
    have h1 := rinflate_ok z 99 W (by omega) (by omega)
    rw [good_inf h (by decide)] at h1
    exact h1
  have HO : Hid (OrdAt w) := ho
  clear ho
  go_enter Tryd.func4, Tryd.ntmps4
  go_wp2_with fail
  refine (A1.out w).mono ?_
  rintro e w1 ⟨he, b1⟩
  subst he
  have B1 : Hid (Below w.heap.size w w1) := b1
  clear b1 A1
  go_wp2_with fail
  refine (A2.out w1).mono ?_
  rintro e w2 ⟨he, b1⟩
  subst he
  have B2 : Hid (Below w.heap.size w w2) := B1.out.trans (b1.mono B1.out.size)
  clear b1 A2
  go_wp2_with fail
  refine (A3.out w2 (HO.out.below B2.out)).mono ?_
  rintro e w3 ⟨z, he, hz, b1⟩
  subst he
  have B3 : Hid (Below w.heap.size w w3) := B2.out.trans (b1.mono B2.out.size)
  have HZ : Hid (Good aTxt z ∧ z.size < 20) := hz
  have hz20 : (z.size : Int) < 20 := by have := hz.2; omega
  clear b1 A3 hz
  go_wp2_with fail
  refine (A4.out w3 z HZ.out.1 HZ.out.2).mono ?_
  rintro e w4 ⟨he, b1⟩
  subst he
  have B4 : Hid (Below w.heap.size w w4) := B3.out.trans (b1.mono B3.out.size)
  have ha : aTxt.size = 42 := rfl
  clear b1 A4
  go_wp2
  go_ret
  first | exact ⟨rfl, B4.out⟩ | exact ⟨by simp, B4.out⟩
end Go.Proofs.YtbcflkdaeboflabDoor
namespace Go.Proofs.YtbcflkdaeboflabDoor
open Go.RowKit
set_option linter.unusedVariables false
set_option maxRecDepth 20000

theorem fixL_le (i : Nat) : fixL i ≤ 9 := by unfold fixL; (repeat' split) <;> omega
theorem fixL_high {i : Nat} (h : 256 ≤ i) : fixL i ≤ 8 := by unfold fixL; (repeat' split) <;> omega
theorem lenK3 : lenK 3 = (257, 0, 0) := by decide
theorem fix30_get {i : Nat} (h : i < 30) : fix30.getD i 0 = 5 := by
  unfold fix30
  rw [List.getD_eq_getElem?_getD, List.getElem?_replicate, if_pos h]
  rfl
theorem tok_fix_le {s : ByteArray} : ∀ {T : List (Nat × Nat × Nat)} {k k' : Nat}, Tells s k T k' → (tokBits fixS fix30 T).length + 9 * k ≤ 9 * k'
  | [], k, k', h => by have h : k = k' := h; subst h; simp [tokBits]
  | t :: T, k, k', h => by
    have e : tokBits fixS fix30 (t :: T) = tokB fixS fix30 t ++ tokBits fixS fix30 T := rfl
    rw [e, List.length_append]
    rcases h with ⟨h1, h2, h3⟩ | ⟨n, d, h1, h2, h3⟩
    · have ih := tok_fix_le h3
      have hb : D5.bt s k < 256 := by
        have hf := Tells.fine (s := s) (T := [t]) (k := k) (k' := k + 1) (.inl ⟨h1, h2, rfl⟩) t (List.mem_cons_self ..)
        rw [h1] at hf
        rcases hf with hf | hf
        · exact hf.2
        · have := hf.1; simp only at this; omega
      have : (tokB fixS fix30 t).length ≤ 9 := by
        rw [h1]
        unfold tokB
        rw [if_pos rfl, symB_length, fixS_get (by simp only; omega)]
        exact fixL_le _
      omega
    · have ih := tok_fix_le h3
      have hl := (lenK_ok h2.long h2.most).small
      have hd := (distK_ok h2.back h2.far).small
      have hc : (tokB fixS fix30 t).length ≤ 9 * n := by
        rw [h1]
        unfold tokB
        rw [if_neg (by simp only; have := h2.back; omega)]
        simp only [List.length_append, symB_length, bitsOf_length]
        rw [fixS_get (by omega), fix30_get hd.1]
        by_cases e3 : n = 3
        · have e1 : (lenK n).1 = 257 := by rw [e3, lenK3]
          have e2 : (lenK n).2.2 = 0 := by rw [e3, lenK3]
          rw [e1, e2]
          have e4 : fixL 257 = 7 := rfl
          rw [e4]
          omega
        · have := fixL_high (i := (lenK n).1) (by omega)
          have := h2.long
          omega
      omega
theorem fixed_size (s : ByteArray) : 8 * (toBA (pack (fixedB [] (D5.tokensOf s) true))).size ≤ 9 * s.size + 17 := by
  have h := tok_fix_le (tokens_tell s)
  rw [pack_size]
  unfold fixedB
  simp only [List.length_append, headB_length, symB_length, List.length_nil]
  rw [fixS_get (by omega)]
  have e : fixL 256 = 7 := rfl
  rw [e]
  omega
theorem stored_size {s : ByteArray} (hs : s.size ≤ 65535) : (toBA (pack (storedZ 17 [] s))).size = s.size + 5 := by
  rw [pack_size, storedZ_end (by omega)]
  unfold storedB
  simp only [List.length_append, bitsOf_length, textBits_length]
  have h := padded_length ([] ++ headB 0 true)
  rw [List.length_append, headB_length, List.length_nil] at h
  rw [h]
  omega
end Go.Proofs.YtbcflkdaeboflabDoor
