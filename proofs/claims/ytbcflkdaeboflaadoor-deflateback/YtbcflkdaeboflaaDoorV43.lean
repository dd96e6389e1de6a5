/- Layer 5: DeflateTwo and DeflateKinds. -/
import Derived.Test.YtbcflkdaeboflaaDoorV42
namespace Go.Proofs.YtbcflkdaeboflaaDoor
open Go.RowKit
set_option linter.unusedVariables false
set_option maxRecDepth 20000

set_option maxHeartbeats 4000000 in
theorem two_walk (s : ByteArray) (w : World) (hs : s.size ≤ 140737488351232) (ho : OrdAt w) :
    Calls Tryd.prog 8 #[.string s] w fun e w' => e = .returned (.bool true) ∧ Below w.heap.size w w' := by
  have HA : Hid (∀ W, OrdAt W → Calls Tryd.prog 9 #[] W fun e w' => e = .returned (.bool true) ∧ Below W.heap.size W w') := fun W h => awake5_ok W h
  have HO : Hid (OrdAt w) := ho
  clear ho
  by_cases hlt : s.size < 1000 ∨ 4096 < s.size
  · have end_ : ∀ w1, Below w.heap.size w w1 → Hid (Below w.heap.size w w1) := fun _ h => h
    rcases (by omega : s.size < 1000 ∨ (¬ s.size < 1000 ∧ 4096 < s.size)) with h | h
    · have hlti : (s.size : Int) < 1000 := by omega
      clear hlt end_
      go_enter Tryd.func8, Tryd.ntmps8
      go_wp2_with fail
      refine (HA.out w HO.out).mono ?_
      rintro e w1 ⟨he, b1⟩
      subst he
      have B1 : Hid (Below w.heap.size w w1) := b1
      clear b1
      go_wp2
      go_ret
      exact ⟨rfl, B1.out⟩
    · have hlti : ¬ (s.size : Int) < 1000 := by omega
      have hlt2 : (4096 : Int) < (s.size : Int) := by omega
      clear hlt end_
      go_enter Tryd.func8, Tryd.ntmps8
      go_wp2_with fail
      refine (HA.out w HO.out).mono ?_
      rintro e w1 ⟨he, b1⟩
      subst he
      have B1 : Hid (Below w.heap.size w w1) := b1
      clear b1
      go_wp2
      go_ret
      exact ⟨rfl, B1.out⟩
  · have hlti : ¬ (s.size : Int) < 1000 := by omega
    have hlt2 : ¬ (4096 : Int) < (s.size : Int) := by omega
    have hss : (s ++ s).size = s.size + s.size := ByteArray.size_append
    obtain ⟨d, hd⟩ : ∃ d, s ++ s = d := ⟨_, rfl⟩
    rw [hd] at hss
    have H1 : Hid (∀ W t, OrdAt W → (t = s ∨ t = d) → Calls Tryd.prog 10 #[.string t] W fun e w' => ∃ z, e = .returned (.tuple #[.string z, .int .i64 0]) ∧ (Good t z ∧ z.size ≤ 9000) ∧ Below W.heap.size W w') := fun W t h ht => by
      have htl : t.size ≤ 8192 := by
        rcases ht with e | e
        · rw [e]; omega
        · rw [e]; omega
      refine (Deflate_ok t W (by omega) h).mono ?_
      rintro e w' ⟨z, a1, a2, a3, a4, a5⟩
      rw [stored_size (by omega)] at a3
      exact ⟨z, a1, ⟨a2, by omega⟩, a5⟩
    have HBK : Hid (∀ W z t, (t = s ∨ t = d) → z.size ≤ 9000 → Good t z → Calls Tryd.prog 13 #[.string z, .string t, .int .i64 0] W fun e w' => e = .returned (.bool true) ∧ Below W.heap.size W w') := fun W z t ht h1 h2 => by
      have htl : t.size ≤ 8192 := by
        rcases ht with e | e
        · rw [e]; omega
        · rw [e]; omega
      exact back_ok z t W (by omega) (by omega) h2
    have hds : s.size ≤ 4096 := by omega
    clear hss hlt
    go_enter Tryd.func8, Tryd.ntmps8
    go_wp2_with fail
    refine (H1.out w s HO.out (.inl rfl)).mono ?_
    rintro e w1 ⟨z, he, hgz, b1⟩
    subst he
    have B1 : Hid (Below w.heap.size w w1 ∧ Good s z ∧ z.size ≤ 9000) := ⟨b1, hgz⟩
    clear b1 hgz
    go_wp2_with fail
    refine (H1.out w1 d (HO.out.below B1.out.1) (.inr rfl)).mono ?_
    rintro e w2 ⟨y, he, hgy, b1⟩
    subst he
    have B2 : Hid (Below w.heap.size w w2 ∧ Good d y ∧ y.size ≤ 9000) := ⟨B1.out.1.trans (b1.mono B1.out.1.size), hgy⟩
    clear b1 hgy H1
    go_wp2_with fail
    refine (HBK.out w2 z s (.inl rfl) B1.out.2.2 B1.out.2.1).mono ?_
    rintro e w3 ⟨he, b1⟩
    subst he
    have B3 : Hid (Below w.heap.size w w3) := B2.out.1.trans (b1.mono B2.out.1.size)
    clear b1
    go_wp2_with fail
    refine (HBK.out w3 y d (.inr rfl) B2.out.2.2 B2.out.2.1).mono ?_
    rintro e w4 ⟨he, b1⟩
    subst he
    have B4 : Hid (Below w.heap.size w w4) := B3.out.trans (b1.mono B3.out.size)
    clear b1 HBK
    go_wp2_with fail
    refine (HA.out w4 (HO.out.below B4.out)).mono ?_
    rintro e w5 ⟨he, b1⟩
    subst he
    have B5 : Hid (Below w.heap.size w w5) := B4.out.trans (b1.mono B4.out.size)
    clear b1 HA
    go_wp2
    go_ret
    exact ⟨rfl, B5.out⟩
theorem and7_u8 (b : Nat) (h : b < 256) : bits .and .u8 (b : Int) 7 = ((b % 8 : Nat) : Int) := by
  exact (show ∀ b : Fin 256, bits .and .u8 ((b.val : Nat) : Int) 7 = ((b.val % 8 : Nat) : Int) by decide +kernel) ⟨b, h⟩
theorem byte0 (L : List Nat) : byteOf L 0 = L.getD 0 0 + 2 * L.getD 1 0 + 4 * L.getD 2 0 + 8 * (L.getD 3 0 + 2 * L.getD 4 0 + 4 * L.getD 5 0 + 8 * L.getD 6 0 + 16 * L.getD 7 0) := by
  unfold byteOf
  simp [bsum]
  omega
theorem first_byte {Z : List Nat} (h01 : Bits01 Z) (hl : 0 < Z.length) : 0 < (toBA (pack Z)).size ∧ ∀ h, ((toBA (pack Z))[0]'h).toNat = byteOf Z 0 := by
  have hs : 0 < (toBA (pack Z)).size := by rw [pack_size]; omega
  refine ⟨hs, fun h => ?_⟩
  have hlt := byteOf_lt h01 0
  have e : (toBA (pack Z)).data[0]? = some (UInt8.ofNat (byteOf Z 0)) := by
    unfold toBA
    simp only [List.getElem?_toArray, List.getElem?_map]
    rw [pack_get Z 0 (by omega)]
    rfl
  have e2 : (toBA (pack Z))[0]'h = UInt8.ofNat (byteOf Z 0) := by
    have := Array.getElem?_eq_some_iff.1 e
    obtain ⟨h1, h2⟩ := this
    exact h2
  rw [e2]
  simp
  omega
theorem getD_app {A B : List Nat} {i : Nat} (h : i < A.length) : (A ++ B).getD i 0 = A.getD i 0 := by
  rw [List.getD_eq_getElem?_getD, List.getElem?_append_left h, ← List.getD_eq_getElem?_getD]
theorem fixed_first (T : List (Nat × Nat × Nat)) : byteOf (fixedB [] T true) 0 % 8 = 3 := by
  have e : ∀ i, i < 3 → (fixedB [] T true).getD i 0 = (headB 1 true).getD i 0 := fun i hi => by
    unfold fixedB
    rw [List.nil_append]
    exact getD_app (by rw [headB_length]; exact hi)
  rw [byte0, e 0 (by omega), e 1 (by omega), e 2 (by omega)]
  have h0 : (headB 1 true).getD 0 0 = 1 := by decide
  have h1 : (headB 1 true).getD 1 0 = 1 := by decide
  have h2 : (headB 1 true).getD 2 0 = 0 := by decide
  rw [h0, h1, h2]
  omega
theorem stored_first (s : ByteArray) : byteOf (storedB [] s true) 0 = 1 := by
  have e : ∀ i, i < 8 → (storedB [] s true).getD i 0 = (padded (headB 0 true)).getD i 0 := fun i hi => by
    unfold storedB
    rw [List.nil_append, List.append_assoc, List.append_assoc]
    exact getD_app (by rw [padded_length, headB_length]; omega)
  rw [byte0, e 0 (by omega), e 1 (by omega), e 2 (by omega), e 3 (by omega), e 4 (by omega), e 5 (by omega), e 6 (by omega), e 7 (by omega)]
  decide
set_option maxHeartbeats 4000000 in
theorem kinds_walk (s : ByteArray) (w : World) (hs : s.size ≤ 140737488351232) (ho : OrdAt w) :
    Calls Tryd.prog 7 #[.string s] w fun e w' => e = .returned (.bool true) ∧ Below w.heap.size w w' := by
  have HA : Hid (∀ W, OrdAt W → Calls Tryd.prog 9 #[] W fun e w' => e = .returned (.bool true) ∧ Below W.heap.size W w') := fun W h => awake5_ok W h
  have HO : Hid (OrdAt w) := ho
  clear ho
  by_cases hlt : 4096 < s.size
  · have hlti : (4096 : Int) < (s.size : Int) := by omega
    go_enter Tryd.func7, Tryd.ntmps7
    go_wp2_with fail
    refine (HA.out w HO.out).mono ?_
    rintro e w1 ⟨he, b1⟩
    subst he
    have B1 : Hid (Below w.heap.size w w1) := b1
    clear b1
    go_wp2
    go_ret
    exact ⟨rfl, B1.out⟩
  · have hlti : ¬ (4096 : Int) < (s.size : Int) := by omega
    have H2 : Hid (∀ W, Calls Tryd.prog 11 #[.string s] W fun e w' => e = .returned (.tuple #[.string (toBA (pack (storedZ 17 [] s))), .int .i64 0]) ∧ Below W.heap.size W w') := fun W => Stored_ok s W (by omega)
    have H3 : Hid (∀ W, Calls Tryd.prog 12 #[.string s] W fun e w' => e = .returned (.tuple #[.string (toBA (pack (fixedB [] (D5.tokensOf s) true))), .int .i64 0]) ∧ Below W.heap.size W w') := fun W => Fixed_ok s W (by omega)
    have hss := stored_size (s := s) (by omega)
    obtain ⟨b, hb⟩ : ∃ b, toBA (pack (storedZ 17 [] s)) = b := ⟨_, rfl⟩
    obtain ⟨c, hc⟩ : ∃ c, toBA (pack (fixedB [] (D5.tokensOf s) true)) = c := ⟨_, rfl⟩
    have hb1 : ∀ h, (((toBA (pack (storedZ 17 [] s)))[0]'h).toNat : Int) = 1 := fun h => by
      rw [(first_byte (storedZ_01 17 [] s (fun x hx => by cases hx)) (by rw [storedZ_end (by omega)]; unfold storedB; simp only [List.length_append, bitsOf_length]; omega)).2 h, storedZ_end (by omega), stored_first]
      rfl
    have hfl : 0 < (fixedB [] (D5.tokensOf s) true).length := by unfold fixedB; simp only [List.length_append, headB_length]; omega
    have hc1 : ∀ h, bits .and .u8 (((toBA (pack (fixedB [] (D5.tokensOf s) true)))[0]'h).toNat : Int) 7 = 3 := fun h => by
      rw [(first_byte (fixedB_01 (fun x hx => by cases hx)) hfl).2 h, and7_u8 _ (byteOf_lt (fixedB_01 (fun x hx => by cases hx)) 0), fixed_first]
      rfl
    have hc0 := (first_byte (Z := fixedB [] (D5.tokensOf s) true) (fixedB_01 (fun x hx => by cases hx)) hfl).1
    rw [hb] at H2 hss hb1
    rw [hc] at H3 hc0 hc1
    have hc0i : (0 : Int) < (c.size : Int) := by omega
    have hb0 : 0 < b.size := by omega
    have hsb : s.size ≤ 4096 := by omega
    have hs5 : wrap64 ((s.size : Int) + 5) = (s.size : Int) + 5 := by unfold wrap64; omega
    clear hb hc hfl
    go_enter Tryd.func7, Tryd.ntmps7
    go_wp2_with fail
    refine (H2.out w).mono ?_
    rintro e w2 ⟨he, b1⟩
    subst he
    have B2 : Hid (Below w.heap.size w w2) := b1
    clear b1 H2
    go_wp2_with fail
    refine (H3.out w2).mono ?_
    rintro e w3 ⟨he, b1⟩
    subst he
    have B3 : Hid (Below w.heap.size w w3) := B2.out.trans (b1.mono B2.out.size)
    clear b1 H3
    go_wp2_with fail
    refine (HA.out w3 (HO.out.below B3.out)).mono ?_
    rintro e w4 ⟨he, b1⟩
    subst he
    have B4 : Hid (Below w.heap.size w w4) := B3.out.trans (b1.mono B3.out.size)
    clear b1 HA
    go_wp2
    go_ret
    exact ⟨rfl, B4.out⟩
end Go.Proofs.YtbcflkdaeboflaaDoor
