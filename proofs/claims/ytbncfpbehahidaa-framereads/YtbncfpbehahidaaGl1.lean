/- Layer 7: the document's answer: bits of a byte, sums. -/
/- Layer 7: the document's answer: bits of a byte. -/
/- Layer 7: the document's answer: a frame's head that is refused at once. -/
import Derived.Test.YtbncfpbehahidaaGj4
import Derived.Test.YtbncfpbehahidaaGh2
import Derived.Test.YtbncfpbehahidaaGj6
namespace Go.Proofs.Ytbncfpbehahidaa
open Go.RowKit
set_option linter.unusedVariables false
set_option maxRecDepth 20000

theorem refHash_ok (s : ByteArray) (w : World) (hs : s.size ≤ 140737488351232) : Calls Try.prog 42 #[.string s, .int .i64 0] w fun e w' => e = .returned (.int .i64 (hsum s : Nat)) ∧ Below w.heap.size w w' := S2.refHash s 0 0 w hs rfl
theorem fixN_ext (S : ByteArray) (a b : Nat) (hb : b ≤ S.size) : ∀ j, a + j ≤ b → B1.fixN (S.extract a b) j = nF S a j
  | 0, _ => rfl
  | j + 1, hj => by
    have h := bt_extract S a (b - a) j (by omega) (by omega)
    rw [show a + (b - a) = b by omega] at h
    show B1.fixN (S.extract a b) j + bt (S.extract a b) j * 2 ^ (8 * j) = _
    rw [fixN_ext S a b hb j (by omega), h]; rfl
theorem rnum_short (S : ByteArray) (a k : Nat) (h1 : 1 ≤ k) (h2 : k ≤ 8) (h : S.size < a + k) (W : World) : Calls Try.prog 13 #[.string (S.extract a S.size), .int .i64 (k : Nat)] W fun e w' => e = .returned (.tuple #[.int .i64 0, .int .i64 5]) ∧ w' = W :=
  B1.refFixed_short _ k W h1 h2 (by rw [ByteArray.size_extract]; omega)
theorem rnum4 (S : ByteArray) (a : Nat) (h : a + 4 ≤ S.size) (W : World) : Calls Try.prog 13 #[.string (S.extract a S.size), .int .i64 4] W fun e w' => e = .returned (.tuple #[.int .i64 (nF S a 4 : Nat), .int .i64 0]) ∧ w' = W := by
  have e1 := fixN_ext S a S.size (Nat.le_refl _) 4 (by omega)
  have hl := nF4_lt S a
  have hx := B1.refFixed (S.extract a S.size) 4 W (by omega) (by omega) (by rw [ByteArray.size_extract]; omega) (by rw [e1]; omega) (fun h => by omega)
  rw [e1] at hx
  exact hx
def sumE (S : ByteArray) (a : Nat) (t : ByteArray) : Nat := if S.size < a + 4 then 5 else if nF S a 4 = hsum t then 0 else 71
set_option maxHeartbeats 1000000 in
theorem rsum_ok (S t : ByteArray) (a : Nat) (ha : a ≤ S.size) (hS : S.size ≤ 140737488351232) (ht : t.size ≤ 140737488351232) (w : World) :
    Calls Try.prog 24 #[.string S, .int .i64 (a : Nat), .string t] w fun e w' => e = .returned (.int .i64 (sumE S a t : Nat)) ∧ Below w.heap.size w w' := by
  have HX : Hid (∀ W, Calls Try.prog 42 #[.string t, .int .i64 0] W fun e w' => e = .returned (.int .i64 (hsum t : Nat)) ∧ Below W.heap.size W w') := fun W => refHash_ok t W ht
  have hai : (a : Int) ≤ (S.size : Int) := by omega
  unfold sumE
  by_cases hs : S.size < a + 4
  · have HQ : Hid (∀ W, Calls Try.prog 13 #[.string (S.extract a S.size), .int .i64 4] W fun e w' => e = .returned (.tuple #[.int .i64 0, .int .i64 5]) ∧ w' = W) := fun W => rnum_short S a 4 (by omega) (by omega) hs W
    rw [if_pos hs]
    obtain ⟨X, hX⟩ : ∃ X, S.extract a S.size = X := ⟨_, rfl⟩
    rw [hX] at HQ
    clear hs ha
    go_enter Try.func24, Try.ntmps24
    go_wp2_with fail
    refine (HQ.out _).mono ?_
    rintro e w1 ⟨rfl, rfl⟩
    go_wp2
    go_ret
    exact ⟨rfl, Below.refl _ _⟩
  · have HQ : Hid (∀ W, Calls Try.prog 13 #[.string (S.extract a S.size), .int .i64 4] W fun e w' => e = .returned (.tuple #[.int .i64 (nF S a 4 : Nat), .int .i64 0]) ∧ w' = W) := fun W => rnum4 S a (by omega) W
    rw [if_neg hs]
    obtain ⟨X, hX⟩ : ∃ X, S.extract a S.size = X := ⟨_, rfl⟩
    obtain ⟨x, hx⟩ : ∃ x, nF S a 4 = x := ⟨_, rfl⟩
    obtain ⟨z, hz⟩ : ∃ z, hsum t = z := ⟨_, rfl⟩
    rw [hX, hx] at HQ
    rw [hz] at HX
    rw [hx, hz]
    clear hs ha hx hz
    by_cases he : x = z
    · rw [if_pos he]
      have hei : ((x : Int) != (z : Int)) = false := by rw [he]; simp
      clear he
      go_enter Try.func24, Try.ntmps24
      go_wp2_with fail
      refine (HQ.out _).mono ?_
      rintro e w1 ⟨rfl, rfl⟩
      go_wp2_with fail
      refine (HX.out _).mono ?_
      rintro e w2 ⟨rfl, hb2⟩
      go_wp2
      go_ret
      exact ⟨rfl, hb2⟩
    · rw [if_neg he]
      have hei : ((x : Int) != (z : Int)) = true := by simp; omega
      clear he
      go_enter Try.func24, Try.ntmps24
      go_wp2_with fail
      refine (HQ.out _).mono ?_
      rintro e w1 ⟨rfl, rfl⟩
      go_wp2_with fail
      refine (HX.out _).mono ?_
      rintro e w2 ⟨rfl, hb2⟩
      go_wp2
      go_ret
      exact ⟨rfl, hb2⟩
end Go.Proofs.Ytbncfpbehahidaa
namespace Go.Proofs.Ytbncfpbehahidaa
open Go.RowKit
set_option linter.unusedVariables false
set_option maxRecDepth 20000

theorem bit_and (f : Nat) (h : f < 256) : (bits .and .u8 ((f / 16 : Nat) : Int) 1 == 1) = decide (f / 16 % 2 = 1) ∧ (bits .and .u8 ((f / 4 : Nat) : Int) 1 == 1) = decide (f / 4 % 2 = 1) ∧ (bits .and .u8 ((f / 8 : Nat) : Int) 1 == 1) = decide (f / 8 % 2 = 1) := by
  have : ∀ j : Fin 256, (bits .and .u8 ((j.val / 16 : Nat) : Int) 1 == 1) = decide (j.val / 16 % 2 = 1) ∧ (bits .and .u8 ((j.val / 4 : Nat) : Int) 1 == 1) = decide (j.val / 4 % 2 = 1) ∧ (bits .and .u8 ((j.val / 8 : Nat) : Int) 1 == 1) = decide (j.val / 8 % 2 = 1) := by decide +kernel
  exact this ⟨f, h⟩
theorem bit_ok (f k n : Nat) (hf : f < 256) (hk : (k = 16 ∧ n = 4) ∨ (k = 4 ∧ n = 2) ∨ (k = 8 ∧ n = 3)) (w : World) :
    Calls Try.prog 41 #[.int .u8 (f : Nat), .int .i64 (n : Nat)] w fun e w' => e = .returned (.bool (decide (f / k % 2 = 1))) ∧ w' = w := by
  have hb := bit_and f hf
  have key : ∃ y : Nat, f / k = y ∧ (f : Int) / (k : Int) = (y : Int) := ⟨f / k, rfl, by simp⟩
  obtain ⟨y, hy, hyi⟩ := key
  obtain ⟨b, hbb⟩ : ∃ b, decide (f / k % 2 = 1) = b := ⟨_, rfl⟩
  rw [hbb]
  rcases hk with ⟨rfl, rfl⟩ | ⟨rfl, rfl⟩ | ⟨rfl, rfl⟩
  · have hx := hb.1
    rw [hbb, hy] at hx
    have HX : Hid (_ = b) := hx
    have hyj : (f : Int) / 16 = (y : Int) := hyi
    clear hx hb hbb hy hyi
    go_enter Try.func41, Try.ntmps41
    go_wp2
    rw [HX.out]
    go_ret
    exact ⟨rfl, rfl⟩
  · have hx := hb.2.1
    rw [hbb, hy] at hx
    have HX : Hid (_ = b) := hx
    have hyj : (f : Int) / 4 = (y : Int) := hyi
    clear hx hb hbb hy hyi
    go_enter Try.func41, Try.ntmps41
    go_wp2
    rw [HX.out]
    go_ret
    exact ⟨rfl, rfl⟩
  · have hx := hb.2.2
    rw [hbb, hy] at hx
    have HX : Hid (_ = b) := hx
    have hyj : (f : Int) / 8 = (y : Int) := hyi
    clear hx hb hbb hy hyi
    go_enter Try.func41, Try.ntmps41
    go_wp2
    rw [HX.out]
    go_ret
    exact ⟨rfl, rfl⟩
end Go.Proofs.Ytbncfpbehahidaa
namespace Go.Proofs.Ytbncfpbehahidaa
open Go.RowKit
set_option linter.unusedVariables false
set_option maxRecDepth 20000

def bzero : Value := .agg #[.bool false, .bool false, .int .i64 0, .int .i64 0, .int .i64 0]
/-- What begins answers of a head that is refused. -/
def BadHead (S : ByteArray) (w : World) (E : Nat) : Prop :=
  Calls Try.prog 23 #[.string S] w fun e w' => e = .returned (.tuple #[bzero, .int .i64 (E : Nat)]) ∧ Below w.heap.size w w'
set_option maxHeartbeats 1000000 in
theorem begins_A (S : ByteArray) (w : World) (h4 : S.size < 4) : BadHead S w 5 := by
  unfold BadHead
  have h4i : (S.size : Int) < 4 := by omega
  go_enter Try.func23, Try.ntmps23
  go_wp2
  refine bodyPost_ret (v := .tuple #[bzero, .int .i64 5]) (by simp [results, go_sem, bzero]) rfl ⟨rfl, ?_⟩
  exact (Below.refl _ _).alloc (Nat.le_refl _) _
set_option maxHeartbeats 1000000 in
theorem begins_B (S : ByteArray) (w : World) (h4 : 4 ≤ S.size) (hb : ¬ (S.extract 0 4).toList = [4, 34, 77, 24]) : BadHead S w 70 := by
  unfold BadHead
  have h4i : ¬ (S.size : Int) < 4 := by omega
  have hb1 : ((S.extract 0 4).toList == [4, 34, 77, 24]) = false := beq_eq_false_iff_ne.2 hb
  clear hb
  go_enter Try.func23, Try.ntmps23
  go_wp2
  refine bodyPost_ret (v := .tuple #[bzero, .int .i64 70]) (by simp [results, go_sem, bzero]) rfl ⟨rfl, ?_⟩
  exact (Below.refl _ _).alloc (Nat.le_refl _) _
set_option maxHeartbeats 1000000 in
theorem begins_C (S : ByteArray) (w : World) (h4 : 4 ≤ S.size) (hb : (S.extract 0 4).toList = [4, 34, 77, 24]) (h5 : S.size < 5) : BadHead S w 5 := by
  unfold BadHead
  have h4i : ¬ (S.size : Int) < 4 := by omega
  have hb1 : ((S.extract 0 4).toList == [4, 34, 77, 24]) = true := by rw [beq_iff_eq]; exact hb
  clear hb
  have h5i : (S.size : Int) < 5 := by omega
  go_enter Try.func23, Try.ntmps23
  go_wp2
  refine bodyPost_ret (v := .tuple #[bzero, .int .i64 5]) (by simp [results, go_sem, bzero]) rfl ⟨rfl, ?_⟩
  exact (Below.refl _ _).alloc (Nat.le_refl _) _
set_option maxHeartbeats 1000000 in
theorem begins_D (S : ByteArray) (w : World) (h4 : 4 ≤ S.size) (hb : (S.extract 0 4).toList = [4, 34, 77, 24]) (h5 : 5 ≤ S.size) (hbad : ¬ bt S 4 / 32 = 3) : BadHead S w 70 := by
  unfold BadHead
  have h4i : ¬ (S.size : Int) < 4 := by omega
  have hb1 : ((S.extract 0 4).toList == [4, 34, 77, 24]) = true := by rw [beq_iff_eq]; exact hb
  clear hb
  have h5i : ¬ (S.size : Int) < 5 := by omega
  obtain ⟨f, hf⟩ : ∃ f, bt S 4 = f := ⟨_, rfl⟩
  have hfl : f < 256 := by rw [← hf]; exact bt_lt S 4
  have h4n : 4 < S.size := by omega
  have hfb : (S[4]'h4n).toNat = f := (bt_at S 4 h4n).trans hf
  rw [hf] at hbad
  obtain ⟨q, hq⟩ : ∃ q, f / 32 = q := ⟨_, rfl⟩
  have hqi : (f : Int) / 32 = (q : Int) := by clear hfb; omega
  have hqn : ((q : Int) != 3) = true := by simp; clear hfb; omega
  clear hbad hf hq hfl
  go_enter Try.func23, Try.ntmps23
  go_wp2
  refine bodyPost_ret (v := .tuple #[bzero, .int .i64 70]) (by simp [results, go_sem, bzero]) rfl ⟨rfl, ?_⟩
  exact (Below.refl _ _).alloc (Nat.le_refl _) _
set_option maxHeartbeats 1000000 in
theorem begins_D2 (S : ByteArray) (w : World) (h4 : 4 ≤ S.size) (hb : (S.extract 0 4).toList = [4, 34, 77, 24]) (h5 : 5 ≤ S.size) (hg : bt S 4 / 32 = 3) (hbad : ¬ bt S 4 % 4 = 0) : BadHead S w 70 := by
  unfold BadHead
  have h4i : ¬ (S.size : Int) < 4 := by omega
  have hb1 : ((S.extract 0 4).toList == [4, 34, 77, 24]) = true := by rw [beq_iff_eq]; exact hb
  clear hb
  have h5i : ¬ (S.size : Int) < 5 := by omega
  obtain ⟨f, hf⟩ : ∃ f, bt S 4 = f := ⟨_, rfl⟩
  have hfl : f < 256 := by rw [← hf]; exact bt_lt S 4
  have h4n : 4 < S.size := by omega
  have hfb : (S[4]'h4n).toNat = f := (bt_at S 4 h4n).trans hf
  rw [hf] at hbad
  rw [hf] at hg
  have hqi : (f : Int) / 32 = 3 := by clear hfb; omega
  obtain ⟨q, hq⟩ : ∃ q, f % 4 = q := ⟨_, rfl⟩
  have hri : (f : Int).tmod 4 = (q : Int) := by clear hfb; rw [Int.tmod_eq_emod_of_nonneg (by omega)]; omega
  have hqn : ((q : Int) != 0) = true := by simp; clear hfb; omega
  clear hbad hf hq hfl hg
  go_enter Try.func23, Try.ntmps23
  go_wp2
  refine bodyPost_ret (v := .tuple #[bzero, .int .i64 70]) (by simp [results, go_sem, bzero]) rfl ⟨rfl, ?_⟩
  exact (Below.refl _ _).alloc (Nat.le_refl _) _
set_option maxHeartbeats 1000000 in
theorem begins_E (S : ByteArray) (w : World) (h4 : 4 ≤ S.size) (hb : (S.extract 0 4).toList = [4, 34, 77, 24]) (h5 : 5 ≤ S.size) (hg : bt S 4 / 32 = 3) (hg4 : bt S 4 % 4 = 0) (h6 : S.size < 6) : BadHead S w 5 := by
  unfold BadHead
  have h4i : ¬ (S.size : Int) < 4 := by omega
  have hb1 : ((S.extract 0 4).toList == [4, 34, 77, 24]) = true := by rw [beq_iff_eq]; exact hb
  clear hb
  have h5i : ¬ (S.size : Int) < 5 := by omega
  obtain ⟨f, hf⟩ : ∃ f, bt S 4 = f := ⟨_, rfl⟩
  have hfl : f < 256 := by rw [← hf]; exact bt_lt S 4
  have h4n : 4 < S.size := by omega
  have hfb : (S[4]'h4n).toNat = f := (bt_at S 4 h4n).trans hf
  rw [hf] at hg hg4
  have hqi : (f : Int) / 32 = 3 := by clear hfb; omega
  have hri : (f : Int).tmod 4 = 0 := by clear hfb; rw [Int.tmod_eq_emod_of_nonneg (by omega)]; omega
  clear hf hg hg4 hfl
  have h6i : (S.size : Int) < 6 := by clear hfb; omega
  go_enter Try.func23, Try.ntmps23
  go_wp2
  refine bodyPost_ret (v := .tuple #[bzero, .int .i64 5]) (by simp [results, go_sem, bzero]) rfl ⟨rfl, ?_⟩
  exact (Below.refl _ _).alloc (Nat.le_refl _) _
set_option maxHeartbeats 1000000 in
theorem begins_F1 (S : ByteArray) (w : World) (h4 : 4 ≤ S.size) (hb : (S.extract 0 4).toList = [4, 34, 77, 24]) (h5 : 5 ≤ S.size) (hg : bt S 4 / 32 = 3) (hg4 : bt S 4 % 4 = 0) (h6 : 6 ≤ S.size) (hbad : ¬ bt S 5 % 16 = 0) : BadHead S w 70 := by
  unfold BadHead
  have h4i : ¬ (S.size : Int) < 4 := by omega
  have hb1 : ((S.extract 0 4).toList == [4, 34, 77, 24]) = true := by rw [beq_iff_eq]; exact hb
  clear hb
  have h5i : ¬ (S.size : Int) < 5 := by omega
  obtain ⟨f, hf⟩ : ∃ f, bt S 4 = f := ⟨_, rfl⟩
  have hfl : f < 256 := by rw [← hf]; exact bt_lt S 4
  have h4n : 4 < S.size := by omega
  have hfb : (S[4]'h4n).toNat = f := (bt_at S 4 h4n).trans hf
  rw [hf] at hg hg4
  have hqi : (f : Int) / 32 = 3 := by clear hfb; omega
  have hri : (f : Int).tmod 4 = 0 := by clear hfb; rw [Int.tmod_eq_emod_of_nonneg (by omega)]; omega
  clear hf hg hg4 hfl
  have h6i : ¬ (S.size : Int) < 6 := by clear hfb; omega
  obtain ⟨d, hd⟩ : ∃ d, bt S 5 = d := ⟨_, rfl⟩
  have hdl : d < 256 := by rw [← hd]; exact bt_lt S 5
  have h5n : 5 < S.size := by clear hfb; omega
  have hdb : (S[5]'h5n).toNat = d := (bt_at S 5 h5n).trans hd
  rw [hd] at hbad
  obtain ⟨q, hq⟩ : ∃ q, d % 16 = q := ⟨_, rfl⟩
  have hqi2 : (d : Int).tmod 16 = (q : Int) := by clear hfb hdb; rw [Int.tmod_eq_emod_of_nonneg (by omega)]; omega
  have hqn : ((q : Int) != 0) = true := by simp; clear hfb hdb; omega
  clear hbad hd hq hdl
  go_enter Try.func23, Try.ntmps23
  go_wp2
  refine bodyPost_ret (v := .tuple #[bzero, .int .i64 70]) (by simp [results, go_sem, bzero]) rfl ⟨rfl, ?_⟩
  exact (Below.refl _ _).alloc (Nat.le_refl _) _
set_option maxHeartbeats 1000000 in
theorem begins_F2 (S : ByteArray) (w : World) (h4 : 4 ≤ S.size) (hb : (S.extract 0 4).toList = [4, 34, 77, 24]) (h5 : 5 ≤ S.size) (hg : bt S 4 / 32 = 3) (hg4 : bt S 4 % 4 = 0) (h6 : 6 ≤ S.size) (hd0 : bt S 5 % 16 = 0) (hbad : bt S 5 / 16 < 4) : BadHead S w 70 := by
  unfold BadHead
  have h4i : ¬ (S.size : Int) < 4 := by omega
  have hb1 : ((S.extract 0 4).toList == [4, 34, 77, 24]) = true := by rw [beq_iff_eq]; exact hb
  clear hb
  have h5i : ¬ (S.size : Int) < 5 := by omega
  obtain ⟨f, hf⟩ : ∃ f, bt S 4 = f := ⟨_, rfl⟩
  have hfl : f < 256 := by rw [← hf]; exact bt_lt S 4
  have h4n : 4 < S.size := by omega
  have hfb : (S[4]'h4n).toNat = f := (bt_at S 4 h4n).trans hf
  rw [hf] at hg hg4
  have hqi : (f : Int) / 32 = 3 := by clear hfb; omega
  have hri : (f : Int).tmod 4 = 0 := by clear hfb; rw [Int.tmod_eq_emod_of_nonneg (by omega)]; omega
  clear hf hg hg4 hfl
  have h6i : ¬ (S.size : Int) < 6 := by clear hfb; omega
  obtain ⟨d, hd⟩ : ∃ d, bt S 5 = d := ⟨_, rfl⟩
  have hdl : d < 256 := by rw [← hd]; exact bt_lt S 5
  have h5n : 5 < S.size := by clear hfb; omega
  have hdb : (S[5]'h5n).toNat = d := (bt_at S 5 h5n).trans hd
  rw [hd] at hbad hd0
  have hqi2 : (d : Int).tmod 16 = 0 := by clear hfb hdb; rw [Int.tmod_eq_emod_of_nonneg (by omega)]; omega
  obtain ⟨y, hy⟩ : ∃ y, d / 16 = y := ⟨_, rfl⟩
  have hyi : (d : Int) / 16 = (y : Int) := by clear hfb hdb; omega
  have hyn : (y : Int) < 4 := by clear hfb hdb; omega
  clear hbad hd hy hdl hd0
  go_enter Try.func23, Try.ntmps23
  go_wp2
  refine bodyPost_ret (v := .tuple #[bzero, .int .i64 70]) (by simp [results, go_sem, bzero]) rfl ⟨rfl, ?_⟩
  exact (Below.refl _ _).alloc (Nat.le_refl _) _
set_option maxHeartbeats 1000000 in
theorem begins_F3 (S : ByteArray) (w : World) (h4 : 4 ≤ S.size) (hb : (S.extract 0 4).toList = [4, 34, 77, 24]) (h5 : 5 ≤ S.size) (hg : bt S 4 / 32 = 3) (hg4 : bt S 4 % 4 = 0) (h6 : 6 ≤ S.size) (hd0 : bt S 5 % 16 = 0) (hbad : 7 < bt S 5 / 16) : BadHead S w 70 := by
  unfold BadHead
  have h4i : ¬ (S.size : Int) < 4 := by omega
  have hb1 : ((S.extract 0 4).toList == [4, 34, 77, 24]) = true := by rw [beq_iff_eq]; exact hb
  clear hb
  have h5i : ¬ (S.size : Int) < 5 := by omega
  obtain ⟨f, hf⟩ : ∃ f, bt S 4 = f := ⟨_, rfl⟩
  have hfl : f < 256 := by rw [← hf]; exact bt_lt S 4
  have h4n : 4 < S.size := by omega
  have hfb : (S[4]'h4n).toNat = f := (bt_at S 4 h4n).trans hf
  rw [hf] at hg hg4
  have hqi : (f : Int) / 32 = 3 := by clear hfb; omega
  have hri : (f : Int).tmod 4 = 0 := by clear hfb; rw [Int.tmod_eq_emod_of_nonneg (by omega)]; omega
  clear hf hg hg4 hfl
  have h6i : ¬ (S.size : Int) < 6 := by clear hfb; omega
  obtain ⟨d, hd⟩ : ∃ d, bt S 5 = d := ⟨_, rfl⟩
  have hdl : d < 256 := by rw [← hd]; exact bt_lt S 5
  have h5n : 5 < S.size := by clear hfb; omega
  have hdb : (S[5]'h5n).toNat = d := (bt_at S 5 h5n).trans hd
  rw [hd] at hbad hd0
  have hqi2 : (d : Int).tmod 16 = 0 := by clear hfb hdb; rw [Int.tmod_eq_emod_of_nonneg (by omega)]; omega
  obtain ⟨y, hy⟩ : ∃ y, d / 16 = y := ⟨_, rfl⟩
  have hyi : (d : Int) / 16 = (y : Int) := by clear hfb hdb; omega
  have hyn : ¬ (y : Int) < 4 := by clear hfb hdb; omega
  have hyn7 : (7 : Int) < (y : Int) := by clear hfb hdb; omega
  clear hbad hd hy hdl hd0
  go_enter Try.func23, Try.ntmps23
  go_wp2
  refine bodyPost_ret (v := .tuple #[bzero, .int .i64 70]) (by simp [results, go_sem, bzero]) rfl ⟨rfl, ?_⟩
  exact (Below.refl _ _).alloc (Nat.le_refl _) _
end Go.Proofs.Ytbncfpbehahidaa
