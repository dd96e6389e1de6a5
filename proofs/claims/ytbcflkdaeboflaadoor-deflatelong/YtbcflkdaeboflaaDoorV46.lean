/- Layer 5: awake, and bytes that are read as they were. -/
/- Layer 5: awake. -/
/- Layer 5: DeflateBack and DeflateTwo. -/
/- Layer 5: DeflateTwo and DeflateKinds. -/
import Derived.Test.YtbcflkdaeboflaaDoorV41
import Derived.Test.YtbcflkdaeboflaaDoorV45
import Derived.Lib.LaidTab
namespace Go.Proofs.YtbcflkdaeboflaaDoor
open Go.RowKit
set_option linter.unusedVariables false
set_option maxRecDepth 20000

/-- The table is laid: its cells. -/
theorem ord_at {W : World} {rest : List (String × DataW Unit)} (h : laidMet Tryd.prog (("postroad/deflate.firstOrder", Lib.tabData .i64 [16, 17, 18, 0, 8, 7, 9, 6, 10, 5, 11, 4, 12, 3, 13, 2, 14, 1, 15]) :: rest) W) : OrdAt W := by
  have t := Lib.tabIs_of_head (g := 0) (by kernel_rfl) (by kernel_rfl) Tryd.underlying119 Tryd.underlying3 (by kernel_rfl) (by kernel_rfl) h
  intro i hi
  have hc := t.cell (g := 0) (by kernel_rfl) i hi
  rw [hc]
  have := (show ∀ k : Fin 19, ([16, 17, 18, 0, 8, 7, 9, 6, 10, 5, 11, 4, 12, 3, 13, 2, 14, 1, 15] : List Int).getD k.val 0 = ((ordL.getD k.val 0 : Nat) : Int) by decide) ⟨i, hi⟩
  rw [this]
theorem toBA_bytesL (s : ByteArray) : toBA (bytesL s) = s := by
  have h : (bytesL s).map UInt8.ofNat = s.data.toList := by
    unfold bytesL
    rw [List.map_map]
    conv => rhs; rw [← List.map_id s.data.toList]
    refine List.map_congr_left (fun x _ => ?_)
    show UInt8.ofNat x.toNat = x
    simp
  unfold toBA
  rw [h]
theorem pack_size (Z : List Nat) : (toBA (pack Z)).size = (Z.length + 7) / 8 := by rw [show (toBA (pack Z)).size = (pack Z).length by simp [toBA, ByteArray.size], pack_length]
theorem good_inf {s z : ByteArray} {most : Nat} (h : Good s z) (hm : s.size ≤ most) : infR (infF z most) = .tuple #[.string s, .int .i64 (z.size : Nat), .int .i64 0] := by
  obtain ⟨Z, rfl, h2⟩ := h
  rw [h2 most hm]
  unfold infR
  rw [if_pos rfl, pack_size, toBA_bytesL]
set_option maxHeartbeats 1000000 in
theorem back_ok (z s : ByteArray) (w : World) (hs : s.size ≤ 1048576) (hz : z.size ≤ 281474976710656) (h : Good s z) : Calls Tryd.prog 13 #[.string z, .string s, .int .i64 0] w fun e w' => e = .returned (.bool true) ∧ Below w.heap.size w w' := by
  have HI : Hid (∀ _ : Unit, Calls Tryd.prog 14 #[.string z, .int .i64 (s.size : Nat)] w fun e w' => e = .returned (.tuple #[.string s, .int .i64 (z.size : Nat), .int .i64 0]) ∧ Below w.heap.size w w') := fun _ => by
    have h1 := rinflate_ok z s.size w hs hz
    rw [good_inf h (Nat.le_refl _)] at h1
    exact h1
  clear h
  go_enter Tryd.func13, Tryd.ntmps13
  go_wp2_with fail
  refine (HI.out ()).mono ?_
  rintro e w1 ⟨he, hb1⟩
  subst he
  have HB : Hid (Below w.heap.size w w1) := hb1
  clear hb1 HI
  go_wp2
  go_ret
  first | exact ⟨rfl, HB.out⟩ | exact ⟨by simp, HB.out⟩
def aTxt : ByteArray := ⟨#[97, 97, 97, 97, 97, 97, 97, 97, 97, 97, 97, 97, 97, 97, 97, 97, 97, 97, 97, 97, 97, 97, 97, 97, 97, 97, 97, 97, 97, 97, 97, 97, 97, 97, 97, 97, 97, 97, 97, 97, 97, 97]⟩
def hiTxt : ByteArray := ⟨#[104, 105]⟩
def noTxt : ByteArray := ⟨#[]⟩
set_option maxRecDepth 100000 in
theorem pureA1 : pack (storedZ 17 [] hiTxt) = [1, 2, 0, 253, 255, 104, 105] := by decide +kernel
set_option maxRecDepth 100000 in
theorem pureA2 : pack (fixedB [] (D5.tokensOf noTxt) true) = [3, 0] := by decide +kernel
set_option maxRecDepth 100000 in
theorem pureA3 : (pack (fixedB [] (D5.tokensOf aTxt) true)).length < 20 := by decide +kernel
end Go.Proofs.YtbcflkdaeboflaaDoor
namespace Go.Proofs.YtbcflkdaeboflaaDoor
open Go.RowKit
set_option linter.unusedVariables false
set_option maxRecDepth 20000

set_option maxHeartbeats 2000000 in
theorem awake5_ok (w : World) (ho : OrdAt w) : Calls Tryd.prog 9 #[] w fun e w' => e = .returned (.bool true) ∧ Below w.heap.size w w' := by
  have A1 : Hid (∀ W, Calls Tryd.prog 11 #[.string ⟨#[104, 105]⟩] W fun e w' => e = .returned (.tuple #[.string ⟨#[1, 2, 0, 253, 255, 104, 105]⟩, .int .i64 0]) ∧ Below W.heap.size W w') := fun W => (Stored_ok hiTxt W (by decide)).mono fun e w' h => by
    rw [pureA1] at h
    exact h
  have A2 : Hid (∀ W, Calls Tryd.prog 12 #[.string ⟨#[]⟩] W fun e w' => e = .returned (.tuple #[.string ⟨#[3, 0]⟩, .int .i64 0]) ∧ Below W.heap.size W w') := fun W => (Fixed_ok noTxt W (by decide)).mono fun e w' h => by
    rw [pureA2] at h
    exact h
  have A3 : Hid (∀ W, OrdAt W → Calls Tryd.prog 10 #[.string ⟨#[97, 97, 97, 97, 97, 97, 97, 97, 97, 97, 97, 97, 97, 97, 97, 97, 97, 97, 97, 97, 97, 97, 97, 97, 97, 97, 97, 97, 97, 97, 97, 97, 97, 97, 97, 97, 97, 97, 97, 97, 97, 97]⟩] W fun e w' => ∃ z, e = .returned (.tuple #[.string z, .int .i64 0]) ∧ (Good aTxt z ∧ z.size < 20) ∧ Below W.heap.size W w') := fun W h => (Deflate_ok aTxt W (by decide) h).mono fun e w' h => by
    obtain ⟨z, h1, h2, h3, h4, h5⟩ := h
    refine ⟨z, h1, ⟨h2, ?_⟩, h5⟩
    have h6 := pureA3
    rw [show (toBA (pack (fixedB [] (D5.tokensOf aTxt) true))).size = (pack (fixedB [] (D5.tokensOf aTxt) true)).length by simp [toBA, ByteArray.size]] at h4
    omega
  have A4 : Hid (∀ W z, Good aTxt z → z.size < 20 → Calls Tryd.prog 14 #[.string z, .int .i64 99] W fun e w' => e = .returned (.tuple #[.string aTxt, .int .i64 (z.size : Nat), .int .i64 0]) ∧ Below W.heap.size W w') := fun W z h h2 => by
    have h1 := rinflate_ok z 99 W (by omega) (by omega)
    rw [good_inf h (by decide)] at h1
    exact h1
  have HO : Hid (OrdAt w) := ho
  clear ho
  go_enter Tryd.func9, Tryd.ntmps9
  go_wp2_with fail
  refine (A1.out w).mono ?_
  rintro e w1 ⟨he, b1⟩
  subst he
  have B1 : Hid (Below w.heap.size w w1) := b1
  clear b1 A1
  go_wp2_with fail
  refine (A2.out w1).mono ?_
  rintro e w2 ⟨he, b1⟩
  subst he
  have B2 : Hid (Below w.heap.size w w2) := B1.out.trans (b1.mono B1.out.size)
  clear b1 A2
  go_wp2_with fail
  refine (A3.out w2 (HO.out.below B2.out)).mono ?_
  rintro e w3 ⟨z, he, hz, b1⟩
  subst he
  have B3 : Hid (Below w.heap.size w w3) := B2.out.trans (b1.mono B2.out.size)
  have HZ : Hid (Good aTxt z ∧ z.size < 20) := hz
  have hz20 : (z.size : Int) < 20 := by have := hz.2; omega
  clear b1 A3 hz
  go_wp2_with fail
  refine (A4.out w3 z HZ.out.1 HZ.out.2).mono ?_
  rintro e w4 ⟨he, b1⟩
  subst he
  have B4 : Hid (Below w.heap.size w w4) := B3.out.trans (b1.mono B3.out.size)
  have ha : aTxt.size = 42 := rfl
  clear b1 A4
  go_wp2
  go_ret
  first | exact ⟨rfl, B4.out⟩ | exact ⟨by simp, B4.out⟩
end Go.Proofs.YtbcflkdaeboflaaDoor
namespace Go.Proofs.YtbcflkdaeboflaaDoor
open Go.RowKit
set_option linter.unusedVariables false
set_option maxRecDepth 20000

theorem fixL_le (i : Nat) : fixL i ≤ 9 := by unfold fixL; (repeat' split) <;> omega
theorem fixL_high {i : Nat} (h : 256 ≤ i) : fixL i ≤ 8 := by unfold fixL; (repeat' split) <;> omega
theorem lenK3 : lenK 3 = (257, 0, 0) := by decide
theorem fix30_get {i : Nat} (h : i < 30) : fix30.getD i 0 = 5 := by
  unfold fix30
  rw [List.getD_eq_getElem?_getD, List.getElem?_replicate, if_pos h]
  rfl
theorem tok_fix_le {s : ByteArray} : ∀ {T : List (Nat × Nat × Nat)} {k k' : Nat}, Tells s k T k' → (tokBits fixS fix30 T).length + 9 * k ≤ 9 * k'
  | [], k, k', h => by have h : k = k' := h; subst h; simp [tokBits]
  | t :: T, k, k', h => by
    have e : tokBits fixS fix30 (t :: T) = tokB fixS fix30 t ++ tokBits fixS fix30 T := rfl
    rw [e, List.length_append]
    rcases h with ⟨h1, h2, h3⟩ | ⟨n, d, h1, h2, h3⟩
    · have ih := tok_fix_le h3
      have hb : D5.bt s k < 256 := by
        have hf := Tells.fine (s := s) (T := [t]) (k := k) (k' := k + 1) (.inl ⟨h1, h2, rfl⟩) t (List.mem_cons_self ..)
        rw [h1] at hf
        rcases hf with hf | hf
        · exact hf.2
        · have := hf.1; simp only at this; omega
      have : (tokB fixS fix30 t).length ≤ 9 := by
        rw [h1]
        unfold tokB
        rw [if_pos rfl, symB_length, fixS_get (by simp only; omega)]
        exact fixL_le _
      omega
    · have ih := tok_fix_le h3
      have hl := (lenK_ok h2.long h2.most).small
      have hd := (distK_ok h2.back h2.far).small
      have hc : (tokB fixS fix30 t).length ≤ 9 * n := by
        rw [h1]
        unfold tokB
        rw [if_neg (by simp only; have := h2.back; omega)]
        simp only [List.length_append, symB_length, bitsOf_length]
        rw [fixS_get (by omega), fix30_get hd.1]
        by_cases e3 : n = 3
        · have e1 : (lenK n).1 = 257 := by rw [e3, lenK3]
          have e2 : (lenK n).2.2 = 0 := by rw [e3, lenK3]
          rw [e1, e2]
          have e4 : fixL 257 = 7 := rfl
          rw [e4]
          omega
        · have := fixL_high (i := (lenK n).1) (by omega)
          have := h2.long
          omega
      omega
theorem fixed_size (s : ByteArray) : 8 * (toBA (pack (fixedB [] (D5.tokensOf s) true))).size ≤ 9 * s.size + 17 := by
  have h := tok_fix_le (tokens_tell s)
  rw [pack_size]
  unfold fixedB
  simp only [List.length_append, headB_length, symB_length, List.length_nil]
  rw [fixS_get (by omega)]
  have e : fixL 256 = 7 := rfl
  rw [e]
  omega
theorem stored_size {s : ByteArray} (hs : s.size ≤ 65535) : (toBA (pack (storedZ 17 [] s))).size = s.size + 5 := by
  rw [pack_size, storedZ_end (by omega)]
  unfold storedB
  simp only [List.length_append, bitsOf_length, textBits_length]
  have h := padded_length ([] ++ headB 0 true)
  rw [List.length_append, headB_length, List.length_nil] at h
  rw [h]
  omega
set_option maxHeartbeats 4000000 in
theorem back_walk (s : ByteArray) (w : World) (hs : s.size ≤ 140737488351232) (ho : OrdAt w) :
    Calls Tryd.prog 3 #[.string s] w fun e w' => e = .returned (.bool true) ∧ Below w.heap.size w w' := by
  have HA : Hid (∀ W, OrdAt W → Calls Tryd.prog 9 #[] W fun e w' => e = .returned (.bool true) ∧ Below W.heap.size W w') := fun W h => awake5_ok W h
  have HO : Hid (OrdAt w) := ho
  clear ho
  by_cases hlt : 4096 < s.size
  · have hlti : (4096 : Int) < (s.size : Int) := by omega
    go_enter Tryd.func3, Tryd.ntmps3
    go_wp2_with fail
    refine (HA.out w HO.out).mono ?_
    rintro e w1 ⟨he, b1⟩
    subst he
    have B1 : Hid (Below w.heap.size w w1) := b1
    clear b1
    go_wp2
    go_ret
    exact ⟨rfl, B1.out⟩
  · have hlti : ¬ (4096 : Int) < (s.size : Int) := by omega
    have H1 : Hid (∀ _ : Unit, Calls Tryd.prog 10 #[.string s] w fun e w' => ∃ z, e = .returned (.tuple #[.string z, .int .i64 0]) ∧ Good s z ∧ z.size ≤ (toBA (pack (storedZ 17 [] s))).size ∧ z.size ≤ (toBA (pack (fixedB [] (D5.tokensOf s) true))).size ∧ Below w.heap.size w w') := fun _ => Deflate_ok s w (by omega) HO.out
    have H2 : Hid (∀ W, Calls Tryd.prog 11 #[.string s] W fun e w' => e = .returned (.tuple #[.string (toBA (pack (storedZ 17 [] s))), .int .i64 0]) ∧ Below W.heap.size W w') := fun W => Stored_ok s W (by omega)
    have H3 : Hid (∀ W, Calls Tryd.prog 12 #[.string s] W fun e w' => e = .returned (.tuple #[.string (toBA (pack (fixedB [] (D5.tokensOf s) true))), .int .i64 0]) ∧ Below W.heap.size W w') := fun W => Fixed_ok s W (by omega)
    have hss := stored_size (s := s) (by omega)
    have hfs := fixed_size s
    have hg2 := good_stored (s := s) (by omega)
    have hg3 := good_fixed s
    obtain ⟨b, hb⟩ : ∃ b, toBA (pack (storedZ 17 [] s)) = b := ⟨_, rfl⟩
    obtain ⟨c, hc⟩ : ∃ c, toBA (pack (fixedB [] (D5.tokensOf s) true)) = c := ⟨_, rfl⟩
    rw [hb] at H1 H2 hss hg2
    rw [hc] at H1 H3 hfs hg3
    have HBK : Hid (∀ W z, z.size ≤ 5000 → Good s z → Calls Tryd.prog 13 #[.string z, .string s, .int .i64 0] W fun e w' => e = .returned (.bool true) ∧ Below W.heap.size W w') := fun W z h1 h2 => back_ok z s W (by omega) (by omega) h2
    have HN : Hid ((b.size ≤ 5000 ∧ c.size ≤ 5000) ∧ Good s b ∧ Good s c) := ⟨⟨by omega, by omega⟩, hg2, hg3⟩
    have hcs : (8 : Int) * (c.size : Int) ≤ 9 * (s.size : Int) + 17 := by omega
    have hcb : c.size ≤ 5000 := by omega
    have hsb : s.size ≤ 4096 := by omega
    clear hss hfs hg2 hg3 hb hc
    go_enter Tryd.func3, Tryd.ntmps3
    go_wp2_with fail
    refine (H1.out ()).mono ?_
    rintro e w1 ⟨z, he, hgz, hz1, hz2, b1⟩
    subst he
    have B1 : Hid (Below w.heap.size w w1 ∧ Good s z ∧ z.size ≤ 5000) := ⟨b1, hgz, by have := HN.out.1; omega⟩
    have hz1i : (z.size : Int) ≤ (b.size : Int) := by omega
    have hz2i : (z.size : Int) ≤ (c.size : Int) := by omega
    clear b1 hgz H1
    go_wp2_with fail
    refine (H2.out w1).mono ?_
    rintro e w2 ⟨he, b1⟩
    subst he
    have B2 : Hid (Below w.heap.size w w2) := B1.out.1.trans (b1.mono B1.out.1.size)
    clear b1 H2
    go_wp2_with fail
    refine (H3.out w2).mono ?_
    rintro e w3 ⟨he, b1⟩
    subst he
    have B3 : Hid (Below w.heap.size w w3) := B2.out.trans (b1.mono B2.out.size)
    clear b1 H3
    go_wp2_with fail
    refine (HBK.out w3 z B1.out.2.2 B1.out.2.1).mono ?_
    rintro e w4 ⟨he, b1⟩
    subst he
    have B4 : Hid (Below w.heap.size w w4) := B3.out.trans (b1.mono B3.out.size)
    clear b1
    go_wp2_with fail
    refine (HBK.out w4 b HN.out.1.1 HN.out.2.1).mono ?_
    rintro e w5 ⟨he, b1⟩
    subst he
    have B5 : Hid (Below w.heap.size w w5) := B4.out.trans (b1.mono B4.out.size)
    clear b1
    go_wp2_with fail
    refine (HBK.out w5 c HN.out.1.2 HN.out.2.2).mono ?_
    rintro e w6 ⟨he, b1⟩
    subst he
    have B6 : Hid (Below w.heap.size w w6) := B5.out.trans (b1.mono B5.out.size)
    clear b1 HBK
    go_wp2_with fail
    refine (HA.out w6 (HO.out.below B6.out)).mono ?_
    rintro e w7 ⟨he, b1⟩
    subst he
    have B7 : Hid (Below w.heap.size w w7) := B6.out.trans (b1.mono B6.out.size)
    clear b1 HA
    go_wp2
    go_ret
    exact ⟨rfl, B7.out⟩
end Go.Proofs.YtbcflkdaeboflaaDoor
namespace Go.Proofs.YtbcflkdaeboflaaDoor
open Go.RowKit
set_option linter.unusedVariables false
set_option maxRecDepth 20000

set_option maxHeartbeats 4000000 in
theorem two_walk (s : ByteArray) (w : World) (hs : s.size ≤ 140737488351232) (ho : OrdAt w) :
    Calls Tryd.prog 8 #[.string s] w fun e w' => e = .returned (.bool true) ∧ Below w.heap.size w w' := by
  have HA : Hid (∀ W, OrdAt W → Calls Tryd.prog 9 #[] W fun e w' => e = .returned (.bool true) ∧ Below W.heap.size W w') := fun W h => awake5_ok W h
  have HO : Hid (OrdAt w) := ho
  clear ho
  by_cases hlt : s.size < 1000 ∨ 4096 < s.size
  · have end_ : ∀ w1, Below w.heap.size w w1 → Hid (Below w.heap.size w w1) := fun _ h => h
    rcases (by omega : s.size < 1000 ∨ (¬ s.size < 1000 ∧ 4096 < s.size)) with h | h
    · have hlti : (s.size : Int) < 1000 := by omega
      clear hlt end_
      go_enter Tryd.func8, Tryd.ntmps8
      go_wp2_with fail
      refine (HA.out w HO.out).mono ?_
      rintro e w1 ⟨he, b1⟩
      subst he
      have B1 : Hid (Below w.heap.size w w1) := b1
      clear b1
      go_wp2
      go_ret
      exact ⟨rfl, B1.out⟩
    · have hlti : ¬ (s.size : Int) < 1000 := by omega
      have hlt2 : (4096 : Int) < (s.size : Int) := by omega
      clear hlt end_
      go_enter Tryd.func8, Tryd.ntmps8
      go_wp2_with fail
      refine (HA.out w HO.out).mono ?_
      rintro e w1 ⟨he, b1⟩
      subst he
      have B1 : Hid (Below w.heap.size w w1) := b1
      clear b1
      go_wp2
      go_ret
      exact ⟨rfl, B1.out⟩
  · have hlti : ¬ (s.size : Int) < 1000 := by omega
    have hlt2 : ¬ (4096 : Int) < (s.size : Int) := by omega
    have hss : (s ++ s).size = s.size + s.size := ByteArray.size_append
    obtain ⟨d, hd⟩ : ∃ d, s ++ s = d := ⟨_, rfl⟩
    rw [hd] at hss
    have H1 : Hid (∀ W t, OrdAt W → (t = s ∨ t = d) → Calls Tryd.prog 10 #[.string t] W fun e w' => ∃ z, e = .returned (.tuple #[.string z, .int .i64 0]) ∧ (Good t z ∧ z.size ≤ 9000) ∧ Below W.heap.size W w') := fun W t h ht => by
      have htl : t.size ≤ 8192 := by
        rcases ht with e | e
        · rw [e]; omega
        · rw [e]; omega
      refine (Deflate_ok t W (by omega) h).mono ?_
      rintro e w' ⟨z, a1, a2, a3, a4, a5⟩
      rw [stored_size (by omega)] at a3
      exact ⟨z, a1, ⟨a2, by omega⟩, a5⟩
    have HBK : Hid (∀ W z t, (t = s ∨ t = d) → z.size ≤ 9000 → Good t z → Calls Tryd.prog 13 #[.string z, .string t, .int .i64 0] W fun e w' => e = .returned (.bool true) ∧ Below W.heap.size W w') := fun W z t ht h1 h2 => by
      have htl : t.size ≤ 8192 := by
        rcases ht with e | e
        · rw [e]; omega
        · rw [e]; omega
      exact back_ok z t W (by omega) (by omega) h2
    have hds : s.size ≤ 4096 := by omega
    clear hss hlt
    go_enter Tryd.func8, Tryd.ntmps8
    go_wp2_with fail
    refine (H1.out w s HO.out (.inl rfl)).mono ?_
    rintro e w1 ⟨z, he, hgz, b1⟩
    subst he
    have B1 : Hid (Below w.heap.size w w1 ∧ Good s z ∧ z.size ≤ 9000) := ⟨b1, hgz⟩
    clear b1 hgz
    go_wp2_with fail
    refine (H1.out w1 d (HO.out.below B1.out.1) (.inr rfl)).mono ?_
    rintro e w2 ⟨y, he, hgy, b1⟩
    subst he
    have B2 : Hid (Below w.heap.size w w2 ∧ Good d y ∧ y.size ≤ 9000) := ⟨B1.out.1.trans (b1.mono B1.out.1.size), hgy⟩
    clear b1 hgy H1
    go_wp2_with fail
    refine (HBK.out w2 z s (.inl rfl) B1.out.2.2 B1.out.2.1).mono ?_
    rintro e w3 ⟨he, b1⟩
    subst he
    have B3 : Hid (Below w.heap.size w w3) := B2.out.1.trans (b1.mono B2.out.1.size)
    clear b1
    go_wp2_with fail
    refine (HBK.out w3 y d (.inr rfl) B2.out.2.2 B2.out.2.1).mono ?_
    rintro e w4 ⟨he, b1⟩
    subst he
    have B4 : Hid (Below w.heap.size w w4) := B3.out.trans (b1.mono B3.out.size)
    clear b1 HBK
    go_wp2_with fail
    refine (HA.out w4 (HO.out.below B4.out)).mono ?_
    rintro e w5 ⟨he, b1⟩
    subst he
    have B5 : Hid (Below w.heap.size w w5) := B4.out.trans (b1.mono B4.out.size)
    clear b1 HA
    go_wp2
    go_ret
    exact ⟨rfl, B5.out⟩
theorem and7_u8 (b : Nat) (h : b < 256) : bits .and .u8 (b : Int) 7 = ((b % 8 : Nat) : Int) := by
  exact (show ∀ b : Fin 256, bits .and .u8 ((b.val : Nat) : Int) 7 = ((b.val % 8 : Nat) : Int) by decide +kernel) ⟨b, h⟩
theorem byte0 (L : List Nat) : byteOf L 0 = L.getD 0 0 + 2 * L.getD 1 0 + 4 * L.getD 2 0 + 8 * (L.getD 3 0 + 2 * L.getD 4 0 + 4 * L.getD 5 0 + 8 * L.getD 6 0 + 16 * L.getD 7 0) := by
  unfold byteOf
  simp [bsum]
  omega
theorem first_byte {Z : List Nat} (h01 : Bits01 Z) (hl : 0 < Z.length) : 0 < (toBA (pack Z)).size ∧ ∀ h, ((toBA (pack Z))[0]'h).toNat = byteOf Z 0 := by
  have hs : 0 < (toBA (pack Z)).size := by rw [pack_size]; omega
  refine ⟨hs, fun h => ?_⟩
  have hlt := byteOf_lt h01 0
  have e : (toBA (pack Z)).data[0]? = some (UInt8.ofNat (byteOf Z 0)) := by
    unfold toBA
    simp only [List.getElem?_toArray, List.getElem?_map]
    rw [pack_get Z 0 (by omega)]
    rfl
  have e2 : (toBA (pack Z))[0]'h = UInt8.ofNat (byteOf Z 0) := by
    have := Array.getElem?_eq_some_iff.1 e
    obtain ⟨h1, h2⟩ := this
    exact h2
  rw [e2]
  simp
  omega
theorem getD_app {A B : List Nat} {i : Nat} (h : i < A.length) : (A ++ B).getD i 0 = A.getD i 0 := by
  rw [List.getD_eq_getElem?_getD, List.getElem?_append_left h, ← List.getD_eq_getElem?_getD]
theorem fixed_first (T : List (Nat × Nat × Nat)) : byteOf (fixedB [] T true) 0 % 8 = 3 := by
  have e : ∀ i, i < 3 → (fixedB [] T true).getD i 0 = (headB 1 true).getD i 0 := fun i hi => by
    unfold fixedB
    rw [List.nil_append]
    exact getD_app (by rw [headB_length]; exact hi)
  rw [byte0, e 0 (by omega), e 1 (by omega), e 2 (by omega)]
  have h0 : (headB 1 true).getD 0 0 = 1 := by decide
  have h1 : (headB 1 true).getD 1 0 = 1 := by decide
  have h2 : (headB 1 true).getD 2 0 = 0 := by decide
  rw [h0, h1, h2]
  omega
theorem stored_first (s : ByteArray) : byteOf (storedB [] s true) 0 = 1 := by
  have e : ∀ i, i < 8 → (storedB [] s true).getD i 0 = (padded (headB 0 true)).getD i 0 := fun i hi => by
    unfold storedB
    rw [List.nil_append, List.append_assoc, List.append_assoc]
    exact getD_app (by rw [padded_length, headB_length]; omega)
  rw [byte0, e 0 (by omega), e 1 (by omega), e 2 (by omega), e 3 (by omega), e 4 (by omega), e 5 (by omega), e 6 (by omega), e 7 (by omega)]
  decide
set_option maxHeartbeats 4000000 in
theorem kinds_walk (s : ByteArray) (w : World) (hs : s.size ≤ 140737488351232) (ho : OrdAt w) :
    Calls Tryd.prog 7 #[.string s] w fun e w' => e = .returned (.bool true) ∧ Below w.heap.size w w' := by
  have HA : Hid (∀ W, OrdAt W → Calls Tryd.prog 9 #[] W fun e w' => e = .returned (.bool true) ∧ Below W.heap.size W w') := fun W h => awake5_ok W h
  have HO : Hid (OrdAt w) := ho
  clear ho
  by_cases hlt : 4096 < s.size
  · have hlti : (4096 : Int) < (s.size : Int) := by omega
    go_enter Tryd.func7, Tryd.ntmps7
    go_wp2_with fail
    refine (HA.out w HO.out).mono ?_
    rintro e w1 ⟨he, b1⟩
    subst he
    have B1 : Hid (Below w.heap.size w w1) := b1
    clear b1
    go_wp2
    go_ret
    exact ⟨rfl, B1.out⟩
  · have hlti : ¬ (4096 : Int) < (s.size : Int) := by omega
    have H2 : Hid (∀ W, Calls Tryd.prog 11 #[.string s] W fun e w' => e = .returned (.tuple #[.string (toBA (pack (storedZ 17 [] s))), .int .i64 0]) ∧ Below W.heap.size W w') := fun W => Stored_ok s W (by omega)
    have H3 : Hid (∀ W, Calls Tryd.prog 12 #[.string s] W fun e w' => e = .returned (.tuple #[.string (toBA (pack (fixedB [] (D5.tokensOf s) true))), .int .i64 0]) ∧ Below W.heap.size W w') := fun W => Fixed_ok s W (by omega)
    have hss := stored_size (s := s) (by omega)
    obtain ⟨b, hb⟩ : ∃ b, toBA (pack (storedZ 17 [] s)) = b := ⟨_, rfl⟩
    obtain ⟨c, hc⟩ : ∃ c, toBA (pack (fixedB [] (D5.tokensOf s) true)) = c := ⟨_, rfl⟩
    have hb1 : ∀ h, (((toBA (pack (storedZ 17 [] s)))[0]'h).toNat : Int) = 1 := fun h => by
      rw [(first_byte (storedZ_01 17 [] s (fun x hx => by cases hx)) (by rw [storedZ_end (by omega)]; unfold storedB; simp only [List.length_append, bitsOf_length]; omega)).2 h, storedZ_end (by omega), stored_first]
      rfl
    have hfl : 0 < (fixedB [] (D5.tokensOf s) true).length := by unfold fixedB; simp only [List.length_append, headB_length]; omega
    have hc1 : ∀ h, bits .and .u8 (((toBA (pack (fixedB [] (D5.tokensOf s) true)))[0]'h).toNat : Int) 7 = 3 := fun h => by
      rw [(first_byte (fixedB_01 (fun x hx => by cases hx)) hfl).2 h, and7_u8 _ (byteOf_lt (fixedB_01 (fun x hx => by cases hx)) 0), fixed_first]
      rfl
    have hc0 := (first_byte (Z := fixedB [] (D5.tokensOf s) true) (fixedB_01 (fun x hx => by cases hx)) hfl).1
    rw [hb] at H2 hss hb1
    rw [hc] at H3 hc0 hc1
    have hc0i : (0 : Int) < (c.size : Int) := by omega
    have hb0 : 0 < b.size := by omega
    have hsb : s.size ≤ 4096 := by omega
    have hs5 : wrap64 ((s.size : Int) + 5) = (s.size : Int) + 5 := by unfold wrap64; omega
    clear hb hc hfl
    go_enter Tryd.func7, Tryd.ntmps7
    go_wp2_with fail
    refine (H2.out w).mono ?_
    rintro e w2 ⟨he, b1⟩
    subst he
    have B2 : Hid (Below w.heap.size w w2) := b1
    clear b1 H2
    go_wp2_with fail
    refine (H3.out w2).mono ?_
    rintro e w3 ⟨he, b1⟩
    subst he
    have B3 : Hid (Below w.heap.size w w3) := B2.out.trans (b1.mono B2.out.size)
    clear b1 H3
    go_wp2_with fail
    refine (HA.out w3 (HO.out.below B3.out)).mono ?_
    rintro e w4 ⟨he, b1⟩
    subst he
    have B4 : Hid (Below w.heap.size w w4) := B3.out.trans (b1.mono B3.out.size)
    clear b1 HA
    go_wp2
    go_ret
    exact ⟨rfl, B4.out⟩
end Go.Proofs.YtbcflkdaeboflaaDoor
