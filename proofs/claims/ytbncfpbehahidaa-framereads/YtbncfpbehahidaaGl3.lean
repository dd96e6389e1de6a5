/- Layer 7: the document's Unpack of what Pack wrote. -/
import Derived.Test.YtbncfpbehahidaaGl2
import Derived.Test.YtbncfpbehahidaaGyi
import Derived.Test.YtbncfpbehahidaaGy
import Derived.Test.YtbncfpbehahidaaGj6
namespace Go.Proofs.Ytbncfpbehahidaa
open Go.RowKit
set_option linter.unusedVariables false
set_option maxRecDepth 20000

/-- Where the parts of a frame of one block stand. -/
structure Lay1 (S s X : ByteArray) (N : Nat) : Prop where
  n1 : nF S 7 4 = N
  ex : S.extract 11 (11 + X.size) = X
  s1 : nF S (11 + X.size) 4 = hsum X
  n2 : nF S (15 + X.size) 4 = 0
  s2 : nF S (19 + X.size) 4 = hsum s
  sz : X.size + 23 ≤ S.size
  nl : N < 4294967296
  n0 : N ≠ 0
  nx : N % 2147483648 = X.size
  x1 : 1 ≤ X.size
  x2 : X.size ≤ 65536
theorem lay1 (s : ByteArray) (R : List Nat) (h1 : 1 ≤ s.size) (h2 : s.size ≤ 65536) : Lay1 (toBA (packFr s ++ R)) s (blkX s) (blkN s) := by
  have hh : frHead.length = 7 := rfl
  obtain ⟨b1, b2, b3, b4, b5, b6⟩ := blk_facts s h1 h2
  have e1 : packFr s ++ R = frHead ++ (le4 (blkN s) ++ (bytesOf (blkX s) ++ (le4 (hsum (blkX s)) ++ (le4 0 ++ (le4 (hsum s) ++ R))))) := by
    unfold packFr
    rw [one_block s h1 h2, blockL_raw]
    unfold rawL
    simp only [List.append_assoc]
  refine ⟨?_, ?_, ?_, ?_, ?_, ?_, b1, b2, b4, b5, b6⟩
  · rw [e1]; exact le4_read _ _ _ _ hh.symm b1
  · rw [e1, ← List.append_assoc, mid_extract _ _ _ _ _ (by rw [List.length_append, le4_length, hh]) (by rw [List.length_append, le4_length, hh, bytesOf_length]), toBA_bytesOf]
  · rw [e1, ← List.append_assoc, ← List.append_assoc]
    exact le4_read _ _ _ _ (by simp only [List.length_append, le4_length, hh, bytesOf_length]) (hsum_lt _)
  · rw [e1, ← List.append_assoc, ← List.append_assoc, ← List.append_assoc]
    exact le4_read _ _ _ _ (by simp only [List.length_append, le4_length, hh, bytesOf_length]; omega) (by omega)
  · rw [e1, ← List.append_assoc, ← List.append_assoc, ← List.append_assoc, ← List.append_assoc]
    exact le4_read _ _ _ _ (by simp only [List.length_append, le4_length, hh, bytesOf_length]; omega) (hsum_lt s)
  · rw [e1, toBA_size]; simp only [List.length_append, le4_length, hh, bytesOf_length]; omega
theorem and31m (x : Nat) (h : x < 4294967296) : bits .and .i64 (x : Int) 2147483647 = ((x % 2147483648 : Nat) : Int) := by
  have h1 := B1.i64_and_nat x 2147483647 (by omega) (by omega)
  rw [show ((2147483647 : Nat) : Int) = 2147483647 from rfl] at h1
  rw [h1, show (2147483647 : Nat) = 2 ^ 31 - 1 from rfl, Nat.and_two_pow_sub_one_eq_mod]
theorem rb_arith (S X : ByteArray) (hS : S.size ≤ 1000000000) (hx : X.size ≤ 65536) (hz : X.size + 23 ≤ S.size) : ∃ q a1 a2 a3 a4 : Nat, (S.size : Int) - 11 = (q : Int) ∧ wrap64 (q : Int) = (q : Int) ∧ ¬ (q : Int) < (X.size : Int) ∧ 11 + X.size = a1 ∧ (11 : Int) + (X.size : Int) = (a1 : Int) ∧ wrap64 (a1 : Int) = (a1 : Int) ∧ 15 + X.size = a2 ∧ (a1 : Int) + 4 = (a2 : Int) ∧ wrap64 (a2 : Int) = (a2 : Int) ∧ 19 + X.size = a3 ∧ (a2 : Int) + 4 = (a3 : Int) ∧ wrap64 (a3 : Int) = (a3 : Int) ∧ X.size + 23 = a4 ∧ (a3 : Int) + 4 = (a4 : Int) ∧ wrap64 (a4 : Int) = (a4 : Int) ∧ (a1 : Int) ≤ (S.size : Int) ∧ (a2 : Int) ≤ (S.size : Int) ∧ (11 : Int) ≤ (a1 : Int) :=
  ⟨S.size - 11, 11 + X.size, 15 + X.size, 19 + X.size, X.size + 23, by omega, wrapN64 _ (by omega), by omega, rfl, by omega, wrapN64 _ (by omega), rfl, by omega, wrapN64 _ (by omega), rfl, by omega, wrapN64 _ (by omega), rfl, by omega, wrapN64 _ (by omega), by omega, by omega, by omega⟩
theorem div_one (N : Nat) (h1 : 2147483648 ≤ N) (h2 : N < 4294967296) : (N : Int) / 2147483648 = 1 := by omega
theorem div_nil (N : Nat) (h1 : ¬ 2147483648 ≤ N) : (N : Int) / 2147483648 = 0 := by omega
theorem no_more (n : Nat) (h : n ≤ 16384) : ¬ (9223372036854775807 : Int) < (n : Int) := by omega
theorem no_self (n m : Nat) (h : n = m) : ¬ (m : Int) < (n : Int) := by omega
theorem sumE_0 {S t : ByteArray} {a : Nat} (h1 : a + 4 ≤ S.size) (h2 : nF S a 4 = hsum t) : sumE S a t = 0 := by unfold sumE; rw [if_neg (by omega), if_pos h2]
set_option maxHeartbeats 4000000 in
theorem runpack_one (S s X : ByteArray) (N : Nat) (w : World) (hL : Lay1 S s X N) (hs1 : 1 ≤ s.size) (hs : s.size ≤ 16384) (hS : S.size ≤ 1000000000)
    (hNX : (2147483648 ≤ N ∧ X = s) ∨ (N < 2147483648 ∧ unpack X 65536 = (0, bytesOf s)))
    (HB : Hid (∀ W, Calls Try.prog 23 #[.string S] W fun e w' => e = .returned (.tuple #[.agg #[.bool true, .bool true, .int .i64 (-1), .int .i64 65536, .int .i64 7], .int .i64 0]) ∧ Below W.heap.size W w')) :
    Calls Try.prog 10 #[.string S, .int .i64 (s.size : Nat)] w fun e w' => e = .returned (.tuple #[.string s, .int .i64 (X.size + 23 : Nat), .int .i64 0]) ∧ Below w.heap.size w w' := by
  have hm0 : decide ((s.size : Int) < 0) = false := by simp
  have hm1 : ¬ (s.size : Int) < 0 := by omega
  have hm2 : ¬ (1048576 : Int) < (s.size : Int) := by omega
  have HLL : Hid (Lay1 S s X N) := hL
  have hsz := hL.sz
  have hx1 := hL.x1
  have hx2 := hL.x2
  have HF1 : Hid (∀ W, Calls Try.prog 13 #[.string (S.extract 7 S.size), .int .i64 4] W fun e w' => e = .returned (.tuple #[.int .i64 (N : Nat), .int .i64 0]) ∧ w' = W) := fun W => by
    have h := rnum4 S 7 (by omega) W
    rw [hL.n1] at h
    exact h
  have HF2 : Hid (∀ W, Calls Try.prog 13 #[.string (S.extract (15 + X.size) S.size), .int .i64 4] W fun e w' => e = .returned (.tuple #[.int .i64 0, .int .i64 0]) ∧ w' = W) := fun W => by
    have h := rnum4 S (15 + X.size) (by omega) W
    rw [hL.n2] at h
    exact h
  have HS1 : Hid (∀ W, Calls Try.prog 24 #[.string S, .int .i64 ((11 + X.size : Nat) : Int), .string X] W fun e w' => e = .returned (.int .i64 0) ∧ Below W.heap.size W w') := fun W => by
    have h := rsum_ok S X (11 + X.size) (by omega) (by omega) (by omega) W
    rw [sumE_0 (by omega) hL.s1] at h
    exact h
  have HS2 : Hid (∀ W, Calls Try.prog 24 #[.string S, .int .i64 ((19 + X.size : Nat) : Int), .string s] W fun e w' => e = .returned (.int .i64 0) ∧ Below W.heap.size W w') := fun W => by
    have h := rsum_ok S s (19 + X.size) (by omega) (by omega) (by omega) W
    rw [sumE_0 (by omega) hL.s2] at h
    exact h
  obtain ⟨q, a1, a2, a3, a4, r1, r2, r3, r4, r5, r6, r7, r8, r9, r10, r11, r12, r13, r14, r15, r16, r17, r18⟩ := rb_arith S X hS hx2 hsz
  have hex := hL.ex
  rw [r4] at HS1 hex
  rw [r7] at HF2
  rw [r10] at HS2
  rw [r13]
  have HR1 : Hid (_ ∧ _ ∧ _ ∧ _ ∧ _ ∧ _ ∧ _ ∧ _ ∧ _ ∧ _) := ⟨r1, r2, r3, r5, r6, r8, r9, r16, r18, hex⟩
  have HR2 : Hid (_ ∧ _ ∧ _ ∧ _ ∧ _) := ⟨r11, r12, r14, r15, r17⟩
  have ha2 : a2 ≠ 7 := by clear r1 r2 r3 r5 r6 r8 r9 r11 r12 r14 r15 r16 r17 r18 HR1 HR2; omega
  clear r1 r2 r3 r4 r5 r6 r7 r8 r9 r10 r11 r12 r13 r14 r15 r16 r17 r18 hex
  have hNl := hL.nl
  have hN0 : ((N : Int) == 0) = false := beq_eq_false_iff_ne.2 (by have := hL.n0; omega)
  have hand := and31m N hNl
  rw [hL.nx] at hand
  have hxb : ((X.size : Int) == 0) = false := beq_eq_false_iff_ne.2 (by clear hand; omega)
  have hxm : ¬ (65536 : Int) < (X.size : Int) := by clear hand; omega
  have h7S : (7 : Int) ≤ (S.size : Int) := by clear hand; omega
  have HU6 : Hid (N < 2147483648 → ∀ W, Calls Try.prog 25 #[.string X, .int .i64 65536] W fun e w' => e = .returned (.tuple #[.string s, .int .i64 0]) ∧ Below W.heap.size W w') := fun h W => by
    have h1 := refUnpack_ok X 65536 W (by omega) (by clear hand; omega)
    rcases hNX with h2 | h2
    · exact absurd h2.1 (by omega)
    · rw [h2.2, lzR_good rfl, toBA_bytesOf] at h1
      exact h1
  have HPX : Hid (2147483648 ≤ N → X = s) := fun h => by
    rcases hNX with h2 | h2
    · exact h2.2
    · exact absurd h2.1 (by omega)
  have HNL : Hid (N < 4294967296) := hNl
  have HAND : Hid _ := hand
  have hcat : (⟨#[]⟩ : ByteArray) ++ s = s := ByteArray.empty_append
  have hsg : ¬ (9223372036854775807 : Int) < (s.size : Int) := by clear hand; omega
  clear hand hNl hL hNX hsz hx1 hx2 hS HLL
  go_enter Try.func10, Try.ntmps10
  go_wp2_with fail
  refine (HB.out _).mono ?_
  rintro e w1 ⟨rfl, hb1⟩
  have H1 : Hid (Below w.heap.size w w1) := hb1
  clear hb1
  go_wp2_with fail
  have hblk : (w1.alloc (.cells #[.bool true, .bool true, .int .i64 (-1), .int .i64 65536, .int .i64 7] 41)).heap[w1.heap.size]? = some (.cells #[.bool true, .bool true, .int .i64 (-1), .int .i64 65536, .int .i64 7] 41 (0, 0)) := heap_alloc_new _ _
  have hbel : Below w.heap.size w (w1.alloc (.cells #[.bool true, .bool true, .int .i64 (-1), .int .i64 65536, .int .i64 7] 41)) := H1.out.alloc H1.out.size _
  obtain ⟨W2, hW2⟩ : ∃ W2, w1.alloc (.cells #[.bool true, .bool true, .int .i64 (-1), .int .i64 65536, .int .i64 7] 41) = W2 := ⟨_, rfl⟩
  rw [hW2] at hblk hbel ⊢
  have HW2 : Hid (W2.heap[w1.heap.size]? = some (.cells #[.bool true, .bool true, .int .i64 (-1), .int .i64 65536, .int .i64 7] 41 (0, 0)) ∧ Below w.heap.size w W2) := ⟨hblk, hbel⟩
  clear hblk hbel hW2
  have HZZ : Hid (1 ≤ s.size ∧ s.size ≤ 16384 ∧ a2 ≠ 7) := ⟨hs1, hs, ha2⟩
  clear hs1 hs hm0 hm1 hm2 hsg hcat ha2
  go_loopw [9, 10, 11, 12, 13, 14, 15, 16, 17, 18] (fun v9 v10 _ _ _ _ _ _ _ _ wl => ∃ (at_ : Nat) (out : ByteArray), v9 = .int .i64 (at_ : Nat) ∧ v10 = .string out ∧ ((at_ = 7 ∧ out = ⟨#[]⟩) ∨ (at_ = a2 ∧ out = s)) ∧ Hid (wl.heap[w1.heap.size]? = some (.cells #[.bool true, .bool true, .int .i64 (-1), .int .i64 65536, .int .i64 7] 41 (0, 0)) ∧ Below w.heap.size w wl)) (fun v9 _ _ _ _ _ _ _ _ _ _ => if (intOf v9).toNat = 7 then 1 else 0)
  case atStart => exact ⟨7, ⟨#[]⟩, rfl, rfl, .inl ⟨rfl, rfl⟩, HW2.out⟩
  case round =>
    obtain ⟨at_, out, rfl, rfl, hst, HS⟩ := hrel
    have k0 : wr.cell? ⟨w1.heap.size, 0, none⟩ = some (.bool true) := by have h := HS.out.1; simp [World.cell?, h]
    have k1 : wr.cell? ⟨w1.heap.size, 1, none⟩ = some (.bool true) := by have h := HS.out.1; simp [World.cell?, h]
    have k2 : wr.cell? ⟨w1.heap.size, 2, none⟩ = some (.int .i64 (-1)) := by have h := HS.out.1; simp [World.cell?, h]
    have k3 : wr.cell? ⟨w1.heap.size, 3, none⟩ = some (.int .i64 65536) := by have h := HS.out.1; simp [World.cell?, h]
    rcases hst with ⟨rfl, rfl⟩ | ⟨rfl, rfl⟩
    · go_wp2_with fail
      refine (HF1.out _).mono ?_
      rintro e w3 ⟨rfl, rfl⟩
      by_cases hp : 2147483648 ≤ N
      · as_aux_lemma =>
        have hppi : (N : Int) / 2147483648 = 1 := div_one N hp HNL.out
        have HXS : Hid (X = s) := HPX.out hp
        clear hp h7S
        obtain ⟨r1, r2, r3, r5, r6, r8, r9, r16, r18, hex⟩ := HR1.out
        have hand := HAND.out
        go_wp2_with fail
        refine (HS1.out _).mono ?_
        rintro e w4 ⟨rfl, hb4⟩
        have H4 : Hid (w4.heap[w1.heap.size]? = some (.cells #[.bool true, .bool true, .int .i64 (-1), .int .i64 65536, .int .i64 7] 41 (0, 0)) ∧ Below w.heap.size w w4) := ⟨(hb4.block _ (lt_of_block HS.out.1)).trans HS.out.1, HS.out.2.trans (hb4.mono HS.out.2.size)⟩
        clear hb4 hand hex r1 r2 r3 r5 r6 r16 r18 hN0 hppi hxb hxm k0 k1 k2 k3
        have hlx : ¬ (s.size : Int) < (X.size : Int) := no_self _ _ (congrArg ByteArray.size HXS.out)
        have hcatX : (⟨#[]⟩ : ByteArray) ++ X = X := ByteArray.empty_append
        have hsgX : ¬ (9223372036854775807 : Int) < (X.size : Int) := no_more _ (Nat.le_trans (Nat.le_of_eq (congrArg ByteArray.size HXS.out)) HZZ.out.2.1)
        go_wp2
        try rw [r9]
        go_roundw
        case rel => exact ⟨a2, X, by first | rfl | rw [r9], rfl, .inr ⟨rfl, HXS.out⟩, H4⟩
        case measure =>
          have ha2 := HZZ.out.2.2
          first | (rw [r9]; simp [intOf, ha2]; done) | simp [intOf, ha2]
      · as_aux_lemma =>
        have hppi : (N : Int) / 2147483648 = 0 := div_nil N hp
        have HU : Hid _ := HU6.out (by omega)
        clear hp
        obtain ⟨r1, r2, r3, r5, r6, r8, r9, r16, r18, hex⟩ := HR1.out
        have hand := HAND.out
        clear h7S
        go_wp2_with fail
        refine (HS1.out _).mono ?_
        rintro e w4 ⟨rfl, hb4⟩
        have H4 : Hid (w4.heap[w1.heap.size]? = some (.cells #[.bool true, .bool true, .int .i64 (-1), .int .i64 65536, .int .i64 7] 41 (0, 0)) ∧ Below w.heap.size w w4) := ⟨(hb4.block _ (lt_of_block HS.out.1)).trans HS.out.1, HS.out.2.trans (hb4.mono HS.out.2.size)⟩
        have m3 : w4.cell? ⟨w1.heap.size, 3, none⟩ = some (.int .i64 65536) := by have h := H4.out.1; simp [World.cell?, h]
        clear hb4 hand hex r1 r2 r3 r5 r6 r16 r18 hN0 hxb hxm k0 k1 k2 k3
        go_wp2_with fail
        refine (HU.out _).mono ?_
        rintro e w5 ⟨rfl, hb5⟩
        have H5 : Hid (w5.heap[w1.heap.size]? = some (.cells #[.bool true, .bool true, .int .i64 (-1), .int .i64 65536, .int .i64 7] 41 (0, 0)) ∧ Below w.heap.size w w5) := ⟨(hb5.block _ (lt_of_block H4.out.1)).trans H4.out.1, H4.out.2.trans (hb5.mono H4.out.2.size)⟩
        clear hb5
        have m3' : w5.cell? ⟨w1.heap.size, 3, none⟩ = some (.int .i64 65536) := by have h := H5.out.1; simp [World.cell?, h]
        have hss : ¬ (s.size : Int) < (s.size : Int) := no_self _ _ rfl
        have hcat : (⟨#[]⟩ : ByteArray) ++ s = s := ByteArray.empty_append
        have hsg : ¬ (9223372036854775807 : Int) < (s.size : Int) := no_more _ HZZ.out.2.1
        go_wp2
        go_roundw
        case rel => exact ⟨a2, s, by first | rfl | rw [r9], rfl, .inr ⟨rfl, rfl⟩, H5⟩
        case measure =>
          have ha2 := HZZ.out.2.2
          simp [intOf, ha2]
    · as_aux_lemma =>
      obtain ⟨r11, r12, r14, r15, r17⟩ := HR2.out
      go_wp2_with fail
      refine (HF2.out _).mono ?_
      rintro e w3 ⟨rfl, rfl⟩
      go_wp2_with fail
      refine (HS2.out _).mono ?_
      rintro e w4 ⟨rfl, hb4⟩
      have H4 : Hid (Below w.heap.size w w4) := HS.out.2.trans (hb4.mono HS.out.2.size)
      clear hb4
      go_wp2
      try rw [r15]
      go_ret3
      exact ⟨rfl, H4.out⟩
set_option maxHeartbeats 4000000 in
theorem runpack_zero (S : ByteArray) (w : World) (h1 : nF S 7 4 = 0) (h2 : nF S 11 4 = hsum ⟨#[]⟩) (h15 : 15 ≤ S.size) (hS : S.size ≤ 1000000000)
    (HB : Hid (∀ W, Calls Try.prog 23 #[.string S] W fun e w' => e = .returned (.tuple #[.agg #[.bool true, .bool true, .int .i64 (-1), .int .i64 65536, .int .i64 7], .int .i64 0]) ∧ Below W.heap.size W w')) :
    Calls Try.prog 10 #[.string S, .int .i64 0] w fun e w' => e = .returned (.tuple #[.string ⟨#[]⟩, .int .i64 15, .int .i64 0]) ∧ Below w.heap.size w w' := by
  have HF1 : Hid (∀ W, Calls Try.prog 13 #[.string (S.extract 7 S.size), .int .i64 4] W fun e w' => e = .returned (.tuple #[.int .i64 0, .int .i64 0]) ∧ w' = W) := fun W => by
    have h := rnum4 S 7 (by omega) W
    rw [h1] at h
    exact h
  have HS2 : Hid (∀ W, Calls Try.prog 24 #[.string S, .int .i64 11, .string ⟨#[]⟩] W fun e w' => e = .returned (.int .i64 0) ∧ Below W.heap.size W w') := fun W => by
    have h := rsum_ok S ⟨#[]⟩ 11 (by omega) (by omega) (by decide) W
    rw [sumE_0 (by omega) h2] at h
    exact h
  have h7S : (7 : Int) ≤ (S.size : Int) := by omega
  clear h1 h2 h15 hS
  go_enter Try.func10, Try.ntmps10
  go_wp2_with fail
  refine (HB.out _).mono ?_
  rintro e w1 ⟨rfl, hb1⟩
  have H1 : Hid (Below w.heap.size w w1) := hb1
  clear hb1
  go_wp2_with fail
  have hblk : (w1.alloc (.cells #[.bool true, .bool true, .int .i64 (-1), .int .i64 65536, .int .i64 7] 41)).heap[w1.heap.size]? = some (.cells #[.bool true, .bool true, .int .i64 (-1), .int .i64 65536, .int .i64 7] 41 (0, 0)) := heap_alloc_new _ _
  have hbel : Below w.heap.size w (w1.alloc (.cells #[.bool true, .bool true, .int .i64 (-1), .int .i64 65536, .int .i64 7] 41)) := H1.out.alloc H1.out.size _
  obtain ⟨W2, hW2⟩ : ∃ W2, w1.alloc (.cells #[.bool true, .bool true, .int .i64 (-1), .int .i64 65536, .int .i64 7] 41) = W2 := ⟨_, rfl⟩
  rw [hW2] at hblk hbel ⊢
  have HW2 : Hid (W2.heap[w1.heap.size]? = some (.cells #[.bool true, .bool true, .int .i64 (-1), .int .i64 65536, .int .i64 7] 41 (0, 0)) ∧ Below w.heap.size w W2) := ⟨hblk, hbel⟩
  clear hblk hbel hW2
  go_loopw [9, 10, 11, 12, 13, 14, 15, 16, 17, 18] (fun v9 v10 _ _ _ _ _ _ _ _ wl => v9 = .int .i64 7 ∧ v10 = .string ⟨#[]⟩ ∧ Hid (wl.heap[w1.heap.size]? = some (.cells #[.bool true, .bool true, .int .i64 (-1), .int .i64 65536, .int .i64 7] 41 (0, 0)) ∧ Below w.heap.size w wl)) (fun _ _ _ _ _ _ _ _ _ _ _ => 0)
  case atStart => exact ⟨rfl, rfl, HW2.out⟩
  case round =>
    obtain ⟨rfl, rfl, HS⟩ := hrel
    have k1 : wr.cell? ⟨w1.heap.size, 1, none⟩ = some (.bool true) := by have h := HS.out.1; simp [World.cell?, h]
    have k2 : wr.cell? ⟨w1.heap.size, 2, none⟩ = some (.int .i64 (-1)) := by have h := HS.out.1; simp [World.cell?, h]
    go_wp2_with fail
    refine (HF1.out _).mono ?_
    rintro e w3 ⟨rfl, rfl⟩
    go_wp2_with fail
    refine (HS2.out _).mono ?_
    rintro e w4 ⟨rfl, hb4⟩
    have H4 : Hid (Below w.heap.size w w4) := HS.out.2.trans (hb4.mono HS.out.2.size)
    clear hb4
    go_wp2
    go_ret3
    exact ⟨rfl, H4.out⟩
/-- The document unpacks what was packed as it was. -/
theorem refFr_back (s : ByteArray) (R : List Nat) (hR : Bytes R) (hRl : R.length ≤ 1000000) (hs : s.size ≤ 16384) (w : World) : Calls Try.prog 10 #[.string (toBA (packFr s ++ R)), .int .i64 (s.size : Nat)] w fun e w' => e = .returned (.tuple #[.string s, .int .i64 ((packFr s).length : Nat), .int .i64 0]) ∧ Below w.heap.size w w' := by
  have hh : frHead.length = 7 := rfl
  have hpl := packFr_length s (by omega)
  have hS : (toBA (packFr s ++ R)).size ≤ 1000000000 := by rw [toBA_size, List.length_append]; omega
  have HB : Hid (∀ W, Calls Try.prog 23 #[.string (toBA (packFr s ++ R))] W fun e w' => e = .returned (.tuple #[.agg #[.bool true, .bool true, .int .i64 (-1), .int .i64 65536, .int .i64 7], .int .i64 0]) ∧ Below W.heap.size W w') := fun W => by
    have e : packFr s ++ R = frHead ++ (blksL s (s.size + 1) 0 ++ (le4 0 ++ (le4 (hsum s) ++ R))) := by unfold packFr; simp only [List.append_assoc]
    have hq : (blksL s (s.size + 1) 0 ++ (le4 0 ++ (le4 (hsum s) ++ R))).length ≤ 100000000 := by
      have h1 := congrArg List.length e
      rw [List.length_append, List.length_append, hh] at h1
      omega
    rw [e]
    exact begins_pack _ ((blksL_bytes s _ _).append ((le4_bytes _).append ((le4_bytes _).append hR))) hq W
  by_cases h0 : s.size = 0
  · obtain rfl : s = ⟨#[]⟩ := empty_of s h0
    have e : packFr ⟨#[]⟩ ++ R = frHead ++ (le4 0 ++ (le4 (hsum ⟨#[]⟩) ++ R)) := by
      unfold packFr
      rw [blksL_end _ _ _ (by decide)]
      simp
    have h1 : nF (toBA (packFr ⟨#[]⟩ ++ R)) 7 4 = 0 := by rw [e]; exact le4_read _ _ _ _ hh.symm (by omega)
    have h2 : nF (toBA (packFr ⟨#[]⟩ ++ R)) 11 4 = hsum ⟨#[]⟩ := by
      rw [e, ← List.append_assoc]
      exact le4_read _ _ _ _ (by rw [List.length_append, le4_length, hh]) (hsum_lt _)
    have h3 : 15 ≤ (toBA (packFr ⟨#[]⟩ ++ R)).size := by rw [toBA_size, e]; simp only [List.length_append, le4_length, hh]; omega
    have h := runpack_zero _ w h1 h2 h3 hS HB
    have e15 : (packFr ⟨#[]⟩).length = 15 := by rw [pf0]; rfl
    rw [e15]
    exact h
  · have hl := lay1 s R (by omega) (by omega)
    have hlen : (packFr s).length = (blkX s).size + 23 := by
      unfold packFr
      rw [one_block s (by omega) (by omega), blockL_raw]
      simp only [List.length_append, rawL_length, le4_length, hh]
      omega
    rw [hlen]
    refine runpack_one _ s (blkX s) (blkN s) w hl (by omega) hs hS ?_ HB
    unfold blkN blkX
    by_cases hc : (packL s).length < s.size
    · right
      rw [if_pos hc, if_pos hc]
      exact ⟨by omega, unpack_pack s 65536 (by omega)⟩
    · left
      rw [if_neg hc, if_neg hc]
      exact ⟨by omega, rfl⟩
end Go.Proofs.Ytbncfpbehahidaa
