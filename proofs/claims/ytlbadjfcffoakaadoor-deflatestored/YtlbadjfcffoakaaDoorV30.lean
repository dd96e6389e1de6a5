/- Layer 5: a number as a symbol and more bits. -/
/- Layer 5: a packer writes heads and pieces. -/
import Derived.Test.YtlbadjfcffoakaaDoorV08
import Derived.Test.YtlbadjfcffoakaaDoorV27
import Derived.Lib.Tables
import Derived.Test.YtlbadjfcffoakaaDoorV23
import Derived.Test.YtlbadjfcffoakaaDoorV21
namespace Go.Proofs.YtlbadjfcffoakaaDoor.D5
open Go.RowKit
set_option linter.unusedVariables false
set_option maxRecDepth 20000

def blen (y : Nat) : Nat := if y = 0 then 0 else Nat.log2 y + 1
theorem len8_blen : ∀ y : Fin 256, Lib.len8 (y.val : Int) = ((blen y.val : Nat) : Int) := by decide +kernel
theorem log2_up {y m : Nat} (h1 : 2 ^ m ≤ y) (h2 : y < 2 ^ (m + 1)) : Nat.log2 y = m := by
  have a := log2_small y m h2
  have hy : 1 ≤ y := by have := Nat.two_pow_pos m; omega
  have b := (log2_spec y hy).2
  have c : 2 ^ m < 2 ^ (Nat.log2 y + 1) := by omega
  have := (Nat.pow_lt_pow_iff_right (by omega : 1 < 2)).1 c
  omega
theorem blen_high {y : Nat} (h : 256 ≤ y) : blen y = blen (y / 256) + 8 := by
  have hh : 1 ≤ y / 256 := by omega
  obtain ⟨a, b⟩ := log2_spec (y / 256) hh
  unfold blen
  rw [if_neg (by omega), if_neg (by omega)]
  have : Nat.log2 y = Nat.log2 (y / 256) + 8 := by
    refine log2_up ?_ ?_
    · rw [Nat.pow_add]; omega
    · rw [show Nat.log2 (y / 256) + 8 + 1 = (Nat.log2 (y / 256) + 1) + 8 by omega, Nat.pow_add]; omega
  omega
theorem i64_and_nat (a b : Nat) (ha : a < 9223372036854775808) (hb : b < 9223372036854775808) : bits .and .i64 (a : Int) (b : Int) = ((a &&& b : Nat) : Int) := by
  have hx : a &&& b < 2 ^ 63 := Nat.and_lt_two_pow _ (by omega)
  show IntKind.i64.wrap ((BitVec.ofInt 64 (a : Int) &&& BitVec.ofInt 64 (b : Int)).toNat : Int) = _
  rw [BitVec.toNat_and, ofInt_u64 a (by omega), ofInt_u64 b (by omega), IntKind.wrap_i64]
  omega
theorem ret_num {a b : Int} (h : a = b) : Ending.returned (.int .i64 a) = .returned (.int .i64 b) := by rw [h]
set_option maxHeartbeats 1000000 in
theorem len64_ok (y : Nat) (hy : y < 65536) (w : World) :
    Calls Tryd.prog 87 #[.int .u64 y] w fun e w' => e = .returned (.int .i64 (blen y : Nat)) ∧ ∃ k, w' = w.drewN k := by
  have g1 : ¬ (4294967296 : Int) ≤ (y : Int) := by omega
  have g2 : ¬ (65536 : Int) ≤ (y : Int) := by omega
  by_cases h : y < 256
  · have g3 : ¬ (256 : Int) ≤ (y : Int) := by omega
    have r := len8_blen ⟨y, h⟩
    simp only at r
    obtain ⟨z, hz⟩ : ∃ z, blen y = z := ⟨_, rfl⟩
    have hz8 : z ≤ 8 := by rw [← hz]; unfold blen; split; omega; have := log2_small y 7 h; omega
    rw [hz] at r ⊢
    have j1 : (y : Int) ≤ 255 := by omega
    have j2 : (0 : Int) ≤ (y : Int) := by omega
    have k1 : (y : Int) % 256 = (y : Int) := by omega
    clear hz
    go_enter Tryd.func87, Tryd.ntmps87
    generalize hT : ByteArray.mk _ = T
    obtain rfl : T = Lib.len8tab := by rw [← hT]; rfl
    clear hT
    go_wp2
    go_ret
    exact ⟨rfl, 0, rfl⟩
  · have g3 : (256 : Int) ≤ (y : Int) := by omega
    obtain ⟨q, hq⟩ : ∃ q, y / 256 = q := ⟨_, rfl⟩
    have hb := blen_high (y := y) (by omega)
    rw [hq] at hb
    have hq8 : q < 256 := by omega
    have r := len8_blen ⟨q, hq8⟩
    simp only at r
    obtain ⟨z, hz⟩ : ∃ z, blen q = z := ⟨_, rfl⟩
    have hz8 : z ≤ 8 := by rw [← hz]; unfold blen; split; omega; have := log2_small q 7 hq8; omega
    rw [hz] at r hb
    rw [hb]
    have hs : (y : Int) / 256 = (q : Int) := by omega
    have hs2 : (y : Int) / 2 ^ 8 = (q : Int) := by omega
    have j1 : (q : Int) ≤ 255 := by omega
    have j2 : (0 : Int) ≤ (q : Int) := by omega
    have k1 : (q : Int) % 256 = (q : Int) := by omega
    clear hz hq
    go_enter Tryd.func87, Tryd.ntmps87
    generalize hT : ByteArray.mk _ = T
    obtain rfl : T = Lib.len8tab := by rw [← hT]; rfl
    clear hT
    go_wp2
    go_ret
    exact ⟨ret_num (by omega), 0, rfl⟩
theorem len_ok (y : Nat) (hy : y < 65536) (w : World) :
    Calls Tryd.prog 78 #[.int .u64 y] w fun e w' => e = .returned (.int .i64 (blen y : Nat)) ∧ ∃ k, w' = w.drewN k := by
  have HC : Hid (∀ _ : Unit, Calls Tryd.prog 87 #[.int .u64 y] w fun e w' => e = .returned (.int .i64 (blen y : Nat)) ∧ ∃ k, w' = w.drewN k) := fun _ => len64_ok y hy w
  go_enter Tryd.func78, Tryd.ntmps78
  go_wp2_with fail
  refine (HC.out ()).mono ?_
  rintro e w1 ⟨rfl, j, rfl⟩
  go_wp2
  go_ret
  exact ⟨rfl, j, rfl⟩
def pieceV (p : Nat × Nat × Nat) : Value := .agg #[.int .i64 (p.1 : Nat), .int .i64 (p.2.1 : Nat), .int .i64 (p.2.2 : Nat)]
set_option maxHeartbeats 1000000 in
theorem stepped_ok (x st : Nat) (hst : st = 2 ∨ st = 4) (hx : x ≤ 32767) (w : World) :
    Calls Tryd.prog 72 #[.int .i64 x, .int .i64 st] w fun e w' => e = .returned (pieceV (stp x st)) ∧ Below w.heap.size w w' := by
  obtain ⟨y, hy⟩ : ∃ y, x / st = y := ⟨_, rfl⟩
  have hyb : y < 16384 := by rw [← hy]; rcases hst with rfl | rfl <;> omega
  obtain ⟨m, hm⟩ : ∃ m, Nat.log2 y = m := ⟨_, rfl⟩
  have hmb : m ≤ 13 := by rw [← hm]; exact log2_small y 13 hyb
  obtain ⟨L, hL⟩ : ∃ L, blen y = L := ⟨_, rfl⟩
  have hmax : max 0 ((L : Int) - 1) = (m : Int) := by
    rw [← hL, ← hm]; unfold blen
    by_cases h0 : y = 0
    · rw [if_pos h0, h0]; rfl
    · rw [if_neg h0]; omega
  obtain ⟨P, hP⟩ : ∃ P, 2 ^ m = P := ⟨_, rfl⟩
  have hPb : P ≤ 8192 := by rw [← hP]; exact Nat.le_trans (Nat.pow_le_pow_right (by omega) hmb) (by decide)
  have hP1 : 1 ≤ P := by rw [← hP]; exact Nat.two_pow_pos m
  obtain ⟨X1, hX1⟩ : ∃ X1, x / P = X1 := ⟨_, rfl⟩
  obtain ⟨R, hR⟩ : ∃ R, x % P = R := ⟨_, rfl⟩
  obtain ⟨A, hA⟩ : ∃ A, st * m = A := ⟨_, rfl⟩
  have hAb : A ≤ 52 := by rw [← hA]; rcases hst with rfl | rfl <;> omega
  have hX1b : X1 ≤ 32767 := by rw [← hX1]; exact Nat.le_trans (Nat.div_le_self _ _) hx
  have e1 : (2 : Int) ^ m = (P : Int) := by rw [← hP]; simp
  have e2 : (x : Int) / (P : Int) = (X1 : Int) := by rw [← hX1]; exact (Int.natCast_ediv x P).symm
  have e3 : (st : Int) * (m : Int) = (A : Int) := by rw [← hA]; simp
  have e4 : bits .and .i64 (x : Int) ((P : Int) - 1) = (R : Int) := by
    have h1 : ((P : Int) - 1) = ((P - 1 : Nat) : Int) := by omega
    rw [h1, i64_and_nat x (P - 1) (by omega) (by omega), ← hP, Nat.and_two_pow_sub_one_eq_mod, hP, hR]
  have e5 : IntKind.i64.wrap ((P : Int)) = (P : Int) := wrapN P (by omega)
  have e6 : IntKind.i64.wrap ((P : Int) - 1) = (P : Int) - 1 := by rw [IntKind.wrap_i64]; omega
  have e7 := wrapN A (by omega)
  obtain ⟨S, hS⟩ : ∃ S, A + X1 = S := ⟨_, rfl⟩
  have e8 : (A : Int) + (X1 : Int) = (S : Int) := by omega
  have e9 := wrapN S (by omega)
  have e10 := wrapN X1 (by omega)
  have hyi : (x : Int) / (st : Int) = (y : Int) := by rw [← hy]; exact (Int.natCast_ediv x st).symm
  have hyt : (x : Int).tdiv (st : Int) = (y : Int) := by rw [Int.tdiv_eq_ediv_of_nonneg (by omega)]; exact hyi
  have hst0 : (st : Int) ≠ 0 := by rcases hst with rfl | rfl <;> decide
  have HSP : Hid (stp x st = (S, R, m)) := by show _ = _; unfold stp; rw [hy, hm, hP, hX1, hR, hA, hS]
  have HC : Hid (∀ W, Calls Tryd.prog 78 #[.int .u64 y] W fun e w' => e = .returned (.int .i64 (L : Nat)) ∧ ∃ k, w' = W.drewN k) := fun W => by rw [← hL]; exact len_ok y (by omega) W
  clear hy hm hL hP hX1 hR hA hS
  go_enter Tryd.func72, Tryd.ntmps72
  go_wp2_with fail
  refine (HC.out _).mono ?_
  rintro e w1 ⟨rfl, j, rfl⟩
  obtain ⟨W, hW⟩ : ∃ W, (w.alloc (.cells #[.int .i64 0, .int .i64 0, .int .i64 0] 115)).drewN j = W := ⟨_, rfl⟩
  have hbW : W.heap[w.heap.size]? = some (.cells #[.int .i64 0, .int .i64 0, .int .i64 0] 115 (0, 0)) := by rw [← hW]; exact heap_alloc_new _ _
  have HBL : Hid (W.heap[w.heap.size]? = some (.cells #[.int .i64 0, .int .i64 0, .int .i64 0] 115 (0, 0)) ∧ Below w.heap.size w W) := ⟨hbW, by rw [← hW]; exact ((Below.refl _ _).alloc (Nat.le_refl _) _).trans (Below.drewN' _ _ _)⟩
  obtain ⟨U, hU⟩ : ∃ U, w.heap.size = U := ⟨_, rfl⟩
  rw [hU] at hbW
  have z0 : W.cell? ⟨U, 0, none⟩ = some (.int .i64 0) := by simp [World.cell?, hbW]
  have z1 : W.cell? ⟨U, 1, none⟩ = some (.int .i64 0) := by simp [World.cell?, hbW]
  have z2 : W.cell? ⟨U, 2, none⟩ = some (.int .i64 0) := by simp [World.cell?, hbW]
  have q0 : W.frozen? ⟨U, 0, none⟩ = false := by simp [World.frozen?, hbW]
  have q1 : W.frozen? ⟨U, 1, none⟩ = false := by simp [World.frozen?, hbW]
  have q2 : W.frozen? ⟨U, 2, none⟩ = false := by simp [World.frozen?, hbW]
  rw [hW, hU]
  clear hbW hW hyi hyt hst0
  go_upto_region 2 with fail
  clear hmax HC
  go_region
  obtain ⟨W4, hW4⟩ : ∃ W4, (((W.setCell ⟨U, 0, none⟩ (.int .i64 (S : Nat))).setCell ⟨U, 1, none⟩ (.int .i64 (R : Nat))).setCell ⟨U, 2, none⟩ (.int .i64 (m : Nat))).drew = W4 := ⟨_, rfl⟩
  have hb4 : W4.heap[U]? = some (.cells #[.int .i64 (S : Nat), .int .i64 (R : Nat), .int .i64 (m : Nat)] 115 (0, 0)) := by
    rw [← hW4]
    have h0 := HBL.out.1
    rw [hU] at h0
    exact block_setCell (i := 2) (block_setCell (i := 1) (block_setCell (i := 0) h0))
  have HB4 : Hid (Below U w W4) := by
    have h0 := HBL.out.2
    rw [hU] at h0
    have h1 := ((h0.trans (Below.setCell' (b := U) (i := 0) W (.int .i64 (S : Nat)) (Nat.le_refl _))).trans (Below.setCell' (b := U) (i := 1) _ (.int .i64 (R : Nat)) (Nat.le_refl _))).trans (Below.setCell' (b := U) (i := 2) _ (.int .i64 (m : Nat)) (Nat.le_refl _))
    rw [← hW4]
    exact ⟨h1.os, h1.tape, h1.output, h1.size, h1.block⟩
  have x0 : W4.cell? ⟨U, 0, none⟩ = some (.int .i64 (S : Nat)) := by simp [World.cell?, hb4]
  have x1 : W4.cell? ⟨U, 1, none⟩ = some (.int .i64 (R : Nat)) := by simp [World.cell?, hb4]
  have x2 : W4.cell? ⟨U, 2, none⟩ = some (.int .i64 (m : Nat)) := by simp [World.cell?, hb4]
  rw [hW4]
  clear z0 z1 z2 q0 q1 q2 hW4 hb4
  go_wp2
  try simp only [Exit.inBlock, Exit.then]
  refine bodyPost_ret (v := .agg #[.int .i64 (S : Nat), .int .i64 (R : Nat), .int .i64 (m : Nat)]) ?_ rfl ?_
  · rw [results_cell rfl]
    go_simp
  rw [HSP.out]
  exact ⟨rfl, by rw [hU]; exact HB4.out⟩
theorem piece_ret {fn : Func} {p : Tmp} {W : World} {U S R m : Nat} {tmps : Array Value} (hr : fn.results = #[.cell p 115]) (hp : tmps.getD p undef = .pointer (some ⟨U, 0, none⟩)) (hb : W.heap[U]? = some (.cells #[.int .i64 (S : Nat), .int .i64 (R : Nat), .int .i64 (m : Nat)] 115 (0, 0))) : (results fn tmps).run Tryd.prog W = .ok (pieceV (S, R, m)) W := by
  have x0 : W.cell? ⟨U, 0, none⟩ = some (.int .i64 (S : Nat)) := by simp [World.cell?, hb]
  have x1 : W.cell? ⟨U, 1, none⟩ = some (.int .i64 (R : Nat)) := by simp [World.cell?, hb]
  have x2 : W.cell? ⟨U, 2, none⟩ = some (.int .i64 (m : Nat)) := by simp [World.cell?, hb]
  rw [results_cell hr, hp]
  go_simp
  rfl
set_option maxHeartbeats 1000000 in
theorem distancePiece_ok (d : Nat) (h1 : 1 ≤ d) (hd : d ≤ 32768) (w : World) :
    Calls Tryd.prog 60 #[.int .i64 d] w fun e w' => e = .returned (pieceV (distK d)) ∧ Below w.heap.size w w' := by
  obtain ⟨x, hx⟩ : ∃ x, d - 1 = x := ⟨_, rfl⟩
  have hxi : (d : Int) - 1 = (x : Int) := by omega
  have hxw := wrapN x (by omega)
  unfold distK
  rw [hx]
  have HC : Hid (∀ W, Calls Tryd.prog 72 #[.int .i64 (x : Nat), .int .i64 2] W fun e w' => e = .returned (pieceV (stp x 2)) ∧ Below W.heap.size W w') := fun W => stepped_ok x 2 (.inl rfl) (by omega) W
  obtain ⟨⟨S, R, m⟩, hp⟩ : ∃ p, stp x 2 = p := ⟨_, rfl⟩
  rw [hp] at HC ⊢
  clear hp
  go_enter Tryd.func60, Tryd.ntmps60
  go_wp2_with fail
  obtain ⟨W, hW⟩ : ∃ W, w.alloc (.cells #[.int .i64 0, .int .i64 0, .int .i64 0] 115) = W := ⟨_, rfl⟩
  have hbW : W.heap[w.heap.size]? = some (.cells #[.int .i64 0, .int .i64 0, .int .i64 0] 115 (0, 0)) := by rw [← hW]; exact heap_alloc_new _ _
  have hBW : Below w.heap.size w W := by rw [← hW]; exact (Below.refl _ _).alloc (Nat.le_refl _) _
  rw [hW]
  refine (HC.out W).mono ?_
  rintro e w1 ⟨rfl, hb1⟩
  have hPV : pieceV (S, R, m) = .agg #[.int .i64 (S : Nat), .int .i64 (R : Nat), .int .i64 (m : Nat)] := rfl
  have h1b := (hb1.block _ (lt_of_block hbW)).trans hbW
  have HB1 : Hid (w1.heap[w.heap.size]? = some (.cells #[.int .i64 0, .int .i64 0, .int .i64 0] 115 (0, 0)) ∧ Below w.heap.size w w1 ∧ pieceV (S, R, m) = .agg #[.int .i64 (S : Nat), .int .i64 (R : Nat), .int .i64 (m : Nat)]) := ⟨h1b, hBW.trans (hb1.mono hBW.size), rfl⟩
  obtain ⟨U, hU⟩ : ∃ U, w.heap.size = U := ⟨_, rfl⟩
  rw [hU] at HB1 h1b ⊢
  have z0 : w1.cell? ⟨U, 0, none⟩ = some (.int .i64 0) := by simp [World.cell?, h1b]
  have z1 : w1.cell? ⟨U, 1, none⟩ = some (.int .i64 0) := by simp [World.cell?, h1b]
  have z2 : w1.cell? ⟨U, 2, none⟩ = some (.int .i64 0) := by simp [World.cell?, h1b]
  have q0 : w1.frozen? ⟨U, 0, none⟩ = false := by simp [World.frozen?, h1b]
  have q1 : w1.frozen? ⟨U, 1, none⟩ = false := by simp [World.frozen?, h1b]
  have q2 : w1.frozen? ⟨U, 2, none⟩ = false := by simp [World.frozen?, h1b]
  rw [hPV]
  clear hPV h1b hb1 hBW hbW hW HC hxi hxw hx
  go_wp2
  try simp only [Exit.inBlock, Exit.then]
  refine bodyPost_ret (v := pieceV (S, R, m)) ?_ rfl ?_
  · exact piece_ret rfl rfl (block_setCell (i := 2) (block_setCell (i := 1) (block_setCell (i := 0) HB1.out.1)))
  refine ⟨?_, ?_⟩
  · first | rfl | rw [HB1.out.2.2]
  · have h9 := ((HB1.out.2.1.trans (Below.setCell' (b := U) (i := 0) _ (.int .i64 (S : Nat)) (Nat.le_refl _))).trans (Below.setCell' (b := U) (i := 1) _ (.int .i64 (R : Nat)) (Nat.le_refl _))).trans (Below.setCell' (b := U) (i := 2) _ (.int .i64 (m : Nat)) (Nat.le_refl _))
    first | exact h9 | (rw [hU]; exact h9)
set_option maxHeartbeats 1000000 in
theorem lengthPiece_ok (n : Nat) (h3 : 3 ≤ n) (hn : n ≤ 258) (w : World) :
    Calls Tryd.prog 59 #[.int .i64 n] w fun e w' => e = .returned (pieceV (lenK n)) ∧ Below w.heap.size w w' := by
  unfold lenK
  by_cases h258 : n = 258
  · rw [if_pos h258]
    have hb : ((n : Int) == 258) = true := by simp [h258]
    have e : pieceV (285, 0, 0) = .agg #[.int .i64 285, .int .i64 0, .int .i64 0] := rfl
    rw [e]
    clear e h258 h3 hn
    go_enter Tryd.func59, Tryd.ntmps59
    go_wp2
    try simp only [Exit.inBlock, Exit.then]
    refine bodyPost_ret (v := pieceV (285, 0, 0)) ?_ rfl ?_
    · exact piece_ret (S := 285) (R := 0) (m := 0) rfl rfl (heap_alloc_new _ _)
    · exact ⟨rfl, (Below.refl _ _).alloc (Nat.le_refl _) _⟩
  · rw [if_neg h258]
    have hb : ((n : Int) == 258) = false := by simp; omega
    obtain ⟨x, hx⟩ : ∃ x, n - 3 = x := ⟨_, rfl⟩
    have hxi : (n : Int) - 3 = (x : Int) := by omega
    have hxw := wrapN x (by omega)
    rw [hx]
    have HC : Hid (∀ W, Calls Tryd.prog 72 #[.int .i64 (x : Nat), .int .i64 4] W fun e w' => e = .returned (pieceV (stp x 4)) ∧ Below W.heap.size W w') := fun W => stepped_ok x 4 (.inr rfl) (by omega) W
    have hsb : (stp x 4).1 ≤ 4096 := by
      have h1 := (lenK_ok h3 hn).small
      unfold lenK at h1
      rw [if_neg h258, hx] at h1
      have := h1.2.1
      simp only at this
      omega
    obtain ⟨⟨S, R, m⟩, hp⟩ : ∃ p, stp x 4 = p := ⟨_, rfl⟩
    rw [hp] at HC hsb ⊢
    simp only at hsb ⊢
    have hPV : pieceV (S, R, m) = .agg #[.int .i64 (S : Nat), .int .i64 (R : Nat), .int .i64 (m : Nat)] := rfl
    rw [hPV] at HC
    obtain ⟨S2, hS2⟩ : ∃ S2, S + 257 = S2 := ⟨_, rfl⟩
    have hS2i : (S : Int) + 257 = (S2 : Int) := by omega
    have hS2w := wrapN S2 (by omega)
    rw [hS2]
    clear hp hPV hS2 hx
    go_enter Tryd.func59, Tryd.ntmps59
    go_wp2_with fail
    obtain ⟨W, hW⟩ : ∃ W, w.alloc (.cells #[.int .i64 0, .int .i64 0, .int .i64 0] 115) = W := ⟨_, rfl⟩
    have hbW : W.heap[w.heap.size]? = some (.cells #[.int .i64 0, .int .i64 0, .int .i64 0] 115 (0, 0)) := by rw [← hW]; exact heap_alloc_new _ _
    have hBW : Below w.heap.size w W := by rw [← hW]; exact (Below.refl _ _).alloc (Nat.le_refl _) _
    rw [hW]
    refine (HC.out W).mono ?_
    rintro e w1 ⟨rfl, hb1⟩
    obtain ⟨U, hU⟩ : ∃ U, w.heap.size = U := ⟨_, rfl⟩
    have HB1 : Hid (w1.heap[U]? = some (.cells #[.int .i64 0, .int .i64 0, .int .i64 0] 115 (0, 0)) ∧ Below U w w1) := by rw [← hU]; exact ⟨(hb1.block _ (lt_of_block hbW)).trans hbW, hBW.trans (hb1.mono hBW.size)⟩
    rw [hU]
    clear hb1 hBW hbW hW HC hxi hxw
    obtain ⟨W2, hW2⟩ : ∃ W2, w1.alloc (.cells #[.int .i64 (S : Nat), .int .i64 (R : Nat), .int .i64 (m : Nat)] 115) = W2 := ⟨_, rfl⟩
    have hb2 : W2.heap[w1.heap.size]? = some (.cells #[.int .i64 (S : Nat), .int .i64 (R : Nat), .int .i64 (m : Nat)] 115 (0, 0)) := by rw [← hW2]; exact heap_alloc_new _ _
    have hu2 : W2.heap[U]? = some (.cells #[.int .i64 0, .int .i64 0, .int .i64 0] 115 (0, 0)) := by rw [← hW2, heap_alloc_old _ _ (lt_of_block HB1.out.1)]; exact HB1.out.1
    obtain ⟨X, hX⟩ : ∃ X, w1.heap.size = X := ⟨_, rfl⟩
    have HUX : Hid (U ≠ X ∧ U < X) := by have := lt_of_block HB1.out.1; rw [← hX]; exact ⟨by omega, by omega⟩
    have HB2 : Hid (Below U w W2) := by rw [← hW2]; exact HB1.out.2.alloc (Nat.le_of_lt (lt_of_block HB1.out.1)) _
    rw [hX] at hb2
    have HH : Hid (W2.heap[X]? = some (.cells #[.int .i64 (S : Nat), .int .i64 (R : Nat), .int .i64 (m : Nat)] 115 (0, 0)) ∧ W2.heap[U]? = some (.cells #[.int .i64 0, .int .i64 0, .int .i64 0] 115 (0, 0))) := ⟨hb2, hu2⟩
    have y0 : W2.cell? ⟨X, 0, none⟩ = some (.int .i64 (S : Nat)) := by simp [World.cell?, hb2]
    have yf : W2.frozen? ⟨X, 0, none⟩ = false := by simp [World.frozen?, hb2]
    clear hb2 hu2
    go_upto_region 5 with fail
    obtain ⟨W3, hW3⟩ : ∃ W3, W2.setCell ⟨X, 0, none⟩ (.int .i64 (S2 : Nat)) = W3 := ⟨_, rfl⟩
    have hb3 : W3.heap[X]? = some (.cells #[.int .i64 (S2 : Nat), .int .i64 (R : Nat), .int .i64 (m : Nat)] 115 (0, 0)) := by rw [← hW3]; exact block_setCell (i := 0) HH.out.1
    have hu3 : W3.heap[U]? = some (.cells #[.int .i64 0, .int .i64 0, .int .i64 0] 115 (0, 0)) := by rw [← hW3, Below.heap_setCell _ _ _ _ HUX.out.1]; exact HH.out.2
    have H3 : Hid (Below U w W3 ∧ W3.heap[U]? = some (.cells #[.int .i64 0, .int .i64 0, .int .i64 0] 115 (0, 0))) := ⟨by rw [← hW3]; exact HB2.out.trans (Below.setCell' _ _ (Nat.le_of_lt HUX.out.2)), hu3⟩
    rw [hW3]
    have y0 : W3.cell? ⟨X, 0, none⟩ = some (.int .i64 (S2 : Nat)) := by simp [World.cell?, hb3]
    have y1 : W3.cell? ⟨X, 1, none⟩ = some (.int .i64 (R : Nat)) := by simp [World.cell?, hb3]
    have y2 : W3.cell? ⟨X, 2, none⟩ = some (.int .i64 (m : Nat)) := by simp [World.cell?, hb3]
    have z0 : W3.cell? ⟨U, 0, none⟩ = some (.int .i64 0) := by simp [World.cell?, hu3]
    have z1 : W3.cell? ⟨U, 1, none⟩ = some (.int .i64 0) := by simp [World.cell?, hu3]
    have z2 : W3.cell? ⟨U, 2, none⟩ = some (.int .i64 0) := by simp [World.cell?, hu3]
    have q0 : W3.frozen? ⟨U, 0, none⟩ = false := by simp [World.frozen?, hu3]
    have q1 : W3.frozen? ⟨U, 1, none⟩ = false := by simp [World.frozen?, hu3]
    have q2 : W3.frozen? ⟨U, 2, none⟩ = false := by simp [World.frozen?, hu3]
    clear hW3 hW2 hb3 hu3 HH HB2 hS2i hS2w hb
    go_wp2
    try simp only [Exit.inBlock, Exit.then]
    refine bodyPost_ret (v := pieceV (S2, R, m)) ?_ rfl ?_
    · exact piece_ret rfl rfl (block_setCell (i := 2) (block_setCell (i := 1) (block_setCell (i := 0) H3.out.2)))
    refine ⟨rfl, ?_⟩
    have h9 := ((H3.out.1.trans (Below.setCell' (b := U) (i := 0) _ (.int .i64 (S2 : Nat)) (Nat.le_refl _))).trans (Below.setCell' (b := U) (i := 1) _ (.int .i64 (R : Nat)) (Nat.le_refl _))).trans (Below.setCell' (b := U) (i := 2) _ (.int .i64 (m : Nat)) (Nat.le_refl _))
    first | exact h9 | (rw [hU]; exact h9)
end Go.Proofs.YtlbadjfcffoakaaDoor.D5
namespace Go.Proofs.YtlbadjfcffoakaaDoor
open Go.RowKit
set_option linter.unusedVariables false
set_option maxRecDepth 20000

abbrev PW (w : World) (b : Nat) (L : List Nat) : Prop := WS w b b L
abbrev PF (b : Nat) (w w' : World) : Prop := Fr 5 b b w w'
theorem PF.below {b : Nat} {w w' : World} (h : Below w.heap.size w w') : PF b w w' := Fr.only (Only.of_below h)
theorem PW.pf_lt {w w' : World} {b : Nat} {L : List Nat} (h : PW w b L) (hf : PF b w w') : b ≤ w'.heap.size := by have := h.lt; have := hf.size; omega
theorem PF.lower {b : Nat} {w w' : World} (h : PF b w w') (hb : b ≤ w.heap.size) : Below b w w' := Fr.below h (Nat.le_refl _) hb
theorem PF.kept {w w' : World} {b k : Nat} {L : List Nat} {T : TypeId} {cur : Array Value} {m : Nat × Nat} (h : PF b w w') (hw : PW w b L) (hk : w.heap[k]? = some (.cells cur T m)) (h1 : T ≠ 5) (h2 : T ≠ 74) : w'.heap[k]? = some (.cells cur T m) := by
  obtain ⟨v, hb, _⟩ := hw
  rw [h.block k (lt_of_block hk) (fun e => by subst e; rw [hb] at hk; cases hk; exact h2 rfl) (.inr fun c m' e => by rw [hk] at e; cases e; exact h1 rfl)]
  exact hk
theorem TabT.kept {w w' : World} {b lo hi t : Nat} {L ns : List Nat} {R : Nat → Value} (h : TabT w lo hi t ns R) (hf : PF b w w') (hw : PW w b L) : TabT w' lo hi t ns R := by
  have hg : ∀ k, k < 18 → ∀ g, (R k).ownBlock = some g → w'.heap[g]? = w.heap[g]? := fun k hk g e => by
    obtain ⟨cur, hc⟩ := h.2 k hk g e
    rw [hf.kept hw hc (by decide) (by decide), hc]
  refine ⟨⟨hf.kept hw h.1.blk (by decide) (by decide), fun k hk => ?_, h.1.lo, h.1.hi⟩, fun k hk g e => by rw [hg k hk g e]; exact h.2 k hk g e⟩
  obtain ⟨ao, cap, e, h1⟩ := h.1.rows k hk
  refine ⟨ao, cap, e, h1.imp id fun ⟨g, e1, e2, e3, e4⟩ => ⟨g, e1, e2, e3, fun j hj => ?_⟩⟩
  rw [World.cell?_of_block (w := w) (w' := w') (hg k hk g (by rw [e, e1]; rfl))]
  exact e4 j hj
theorem TabT.below {w w' : World} {lo hi t : Nat} {ns : List Nat} {R : Nat → Value} (h : TabT w lo hi t ns R) (hh : hi ≤ w.heap.size) (hb : Below w.heap.size w w') : TabT w' lo hi t ns R := by
  refine ⟨h.1.keep (fun b _ hb2 => hb.block b (by omega)), fun k hk g e => ?_⟩
  obtain ⟨cur, hc⟩ := h.2 k hk g e
  exact ⟨cur, (hb.block g (lt_of_block hc)).trans hc⟩
def pkV (b : Nat) : Value := .agg #[.pointer (some ⟨b, 0, none⟩)]
theorem pbits (b : Nat) (L : List Nat) (x n : Nat) (w : World) (hn : n ≤ 57) (hx : x < 2 ^ n) (hL : L.length + n ≤ 1125899906842624) (hw : PW w b L) :
    Calls Tryd.prog 36 #[.pointer (some ⟨b, 0, none⟩), .int .i64 x, .int .i64 n] w fun e w' => e = .returned (.int .i64 0) ∧ PW w' b (L ++ bitsOf x n) ∧ PF b w w' := wbits b b L x n w hn hx hL hw (Nat.le_of_lt hw.lt)
theorem pput (b lo hi t : Nat) (ns : List Nat) (R : Nat → Value) (L : List Nat) (j : Nat) (w : World) (ht : TabT w lo hi t ns R) (hn : ns.length ≤ 288) (hc : Cod ns j) (hL : L.length + 15 ≤ 1125899906842624) (hw : PW w b L) :
    Calls Tryd.prog 57 #[.pointer (some ⟨t, 0, none⟩), .pointer (some ⟨b, 0, none⟩), .int .i64 (j : Nat)] w fun e w' => (∃ u, e = .returned u) ∧ PW w' b (L ++ symB ns j) ∧ PF b w w' := by
  have h := put_in lo hi t ns R (some ⟨b, 0, none⟩) j w ht.1 hn hc.1 (by have := hc.2.1; omega) (fun _ w' => PW w' b (L ++ symB ns j) ∧ PF b w w') (fun k => ?_)
  · exact h.mono fun e w' ⟨u, h1, h2⟩ => ⟨⟨_, h1⟩, h2⟩
  · have := pbits b L (rv (cw ns j) (ns.getD j 0)) (ns.getD j 0) (w.drewN k) (by have := hc.2.2.1; omega) (rv_lt _ _) (by have := hc.2.2.1; omega) (hw.drewN k)
    refine this.mono fun e w' ⟨h1, h2, h3⟩ => ⟨0, h1, ?_, ⟨h3.os, h3.tape, h3.output, h3.size, h3.block⟩⟩
    rw [bitsOf_rv] at h2
    exact h2
set_option maxHeartbeats 1000000 in
theorem ppiece (b lo hi t : Nat) (ns : List Nat) (R : Nat → Value) (L : List Nat) (q : Nat × Nat × Nat) (w : World) (ht : TabT w lo hi t ns R) (hh : hi ≤ w.heap.size) (hn : ns.length ≤ 288) (hc : Cod ns q.1) (hq : q.2.1 < 2 ^ q.2.2) (hq2 : q.2.2 ≤ 57) (hL : L.length + 72 ≤ 1125899906842624) (hw : PW w b L) :
    Calls Tryd.prog 58 #[pkV b, .pointer (some ⟨t, 0, none⟩), D5.pieceV q] w fun e w' => e = .returned (.tuple #[]) ∧ PW w' b (L ++ (symB ns q.1 ++ bitsOf q.2.1 q.2.2)) ∧ PF b w w' := by
  obtain ⟨k, x, n⟩ := q
  simp only at hc hq hq2 ⊢
  obtain ⟨W, hW⟩ : ∃ W, (w.alloc (.cells #[.pointer (some ⟨b, 0, none⟩)] 51)).alloc (.cells #[.int .i64 (k : Nat), .int .i64 (x : Nat), .int .i64 (n : Nat)] 115) = W := ⟨_, rfl⟩
  have hbel : Below w.heap.size w W := by rw [← hW]; exact ((Below.refl _ _).alloc (Nat.le_refl _) _).alloc (by simp) _
  obtain ⟨U, hU⟩ : ∃ U, w.heap.size = U := ⟨_, rfl⟩
  have hb0 : W.heap[U]? = some (.cells #[.pointer (some ⟨b, 0, none⟩)] 51 (0, 0)) := by rw [← hW, heap_alloc_old _ _ (by simp; omega), ← hU]; exact heap_alloc_new _ _
  have hb1 : W.heap[U + 1]? = some (.cells #[.int .i64 (k : Nat), .int .i64 (x : Nat), .int .i64 (n : Nat)] 115 (0, 0)) := by
    rw [← hW]
    have := heap_alloc_new (w.alloc (.cells #[.pointer (some ⟨b, 0, none⟩)] 51)) (.cells #[.int .i64 (k : Nat), .int .i64 (x : Nat), .int .i64 (n : Nat)] 115)
    rw [show (w.alloc (.cells #[.pointer (some ⟨b, 0, none⟩)] 51)).heap.size = U + 1 by simp; omega] at this
    exact this
  have hPW := WS.below hw hbel
  have hTT := ht.below hh hbel
  have H1 : Hid (W.heap[U]? = some (.cells #[.pointer (some ⟨b, 0, none⟩)] 51 (0, 0)) ∧ W.heap[U + 1]? = some (.cells #[.int .i64 (k : Nat), .int .i64 (x : Nat), .int .i64 (n : Nat)] 115 (0, 0)) ∧ PW W b L ∧ PF b w W) := ⟨hb0, hb1, hPW, PF.below hbel⟩
  have HP : Hid (∀ _ : Unit, Calls Tryd.prog 57 #[.pointer (some ⟨t, 0, none⟩), .pointer (some ⟨b, 0, none⟩), .int .i64 (k : Nat)] W fun e w' => (∃ u, e = .returned u) ∧ PW w' b (L ++ symB ns k) ∧ PF b W w') := fun _ => pput b lo hi t ns R L k W hTT hn hc (by omega) hPW
  have HB : Hid (∀ W', PW W' b (L ++ symB ns k) → Calls Tryd.prog 36 #[.pointer (some ⟨b, 0, none⟩), .int .i64 (x : Nat), .int .i64 (n : Nat)] W' fun e w' => e = .returned (.int .i64 0) ∧ PW w' b ((L ++ symB ns k) ++ bitsOf x n) ∧ PF b W' w') := fun W' h => pbits b (L ++ symB ns k) x n W' hq2 hq (by rw [List.length_append, symB_length]; have := hc.2.2.1; omega) h
  have z0 : W.cell? ⟨U, 0, none⟩ = some (.pointer (some ⟨b, 0, none⟩)) := by simp [World.cell?, hb0]
  have z1 : W.cell? ⟨U + 1, 0, none⟩ = some (.int .i64 (k : Nat)) := by simp [World.cell?, hb1]
  have e1 : D5.pieceV (k, x, n) = .agg #[.int .i64 (k : Nat), .int .i64 (x : Nat), .int .i64 (n : Nat)] := rfl
  rw [e1]
  unfold pkV
  clear hb0 hb1 hPW hTT hbel ht hw hc hq e1
  go_enter Tryd.func58, Tryd.ntmps58
  go_wp2_with fail
  refine (HP.out ()).mono ?_
  rintro e w1 ⟨⟨u, rfl⟩, hw1, hf1⟩
  have g0 := hf1.kept H1.out.2.2.1 H1.out.1 (by decide) (by decide)
  have g1 := hf1.kept H1.out.2.2.1 H1.out.2.1 (by decide) (by decide)
  have H2 : Hid (PW w1 b (L ++ symB ns k) ∧ PF b w w1) := ⟨hw1, H1.out.2.2.2.trans hf1⟩
  clear hw1 hf1 z0 z1
  have y0 : w1.cell? ⟨U, 0, none⟩ = some (.pointer (some ⟨b, 0, none⟩)) := by simp [World.cell?, g0]
  have y1 : w1.cell? ⟨U + 1, 1, none⟩ = some (.int .i64 (x : Nat)) := by simp [World.cell?, g1]
  have y2 : w1.cell? ⟨U + 1, 2, none⟩ = some (.int .i64 (n : Nat)) := by simp [World.cell?, g1]
  clear g0 g1
  go_wp2_with fail
  refine (HB.out w1 H2.out.1).mono ?_
  rintro e w2 ⟨rfl, hw2, hf2⟩
  have H3 : Hid (PW w2 b (L ++ (symB ns k ++ bitsOf x n)) ∧ PF b w w2) := ⟨by rw [← List.append_assoc]; exact hw2, H2.out.2.trans hf2⟩
  clear hw2 hf2 y0 y1 y2
  go_wp2
  go_end0
  exact ⟨rfl, H3.out⟩
def lastB (last : Bool) : Nat := if last then 1 else 0
def headB (kind : Nat) (last : Bool) : List Nat := bitsOf (lastB last) 1 ++ bitsOf kind 2
theorem headB_length (kind : Nat) (last : Bool) : (headB kind last).length = 3 := by simp [headB, bitsOf_length]
set_option maxHeartbeats 1000000 in
theorem phead (b : Nat) (L : List Nat) (kind : Nat) (last : Bool) (w : World) (hk : kind < 4) (hL : L.length + 3 ≤ 1125899906842624) (hw : PW w b L) :
    Calls Tryd.prog 34 #[pkV b, .int .i64 (kind : Nat), .bool last] w fun e w' => e = .returned (.tuple #[]) ∧ PW w' b (L ++ headB kind last) ∧ PF b w w' := by
  obtain ⟨W, hW⟩ : ∃ W, w.alloc (.cells #[.pointer (some ⟨b, 0, none⟩)] 51) = W := ⟨_, rfl⟩
  have hbel : Below w.heap.size w W := by rw [← hW]; exact (Below.refl _ _).alloc (Nat.le_refl _) _
  obtain ⟨U, hU⟩ : ∃ U, w.heap.size = U := ⟨_, rfl⟩
  have hb0 : W.heap[U]? = some (.cells #[.pointer (some ⟨b, 0, none⟩)] 51 (0, 0)) := by rw [← hW, ← hU]; exact heap_alloc_new _ _
  have hPW := WS.below hw hbel
  have H1 : Hid (W.heap[U]? = some (.cells #[.pointer (some ⟨b, 0, none⟩)] 51 (0, 0)) ∧ PW W b L ∧ PF b w W) := ⟨hb0, hPW, PF.below hbel⟩
  have HB1 : Hid (∀ x : Nat, x < 2 → Calls Tryd.prog 36 #[.pointer (some ⟨b, 0, none⟩), .int .i64 (x : Nat), .int .i64 1] W fun e w' => e = .returned (.int .i64 0) ∧ PW w' b (L ++ bitsOf x 1) ∧ PF b W w') := fun x hx => pbits b L x 1 W (by omega) (by omega) (by omega) hPW
  have HB2 : Hid (∀ (x : Nat) W', PW W' b (L ++ bitsOf x 1) → Calls Tryd.prog 36 #[.pointer (some ⟨b, 0, none⟩), .int .i64 (kind : Nat), .int .i64 2] W' fun e w' => e = .returned (.int .i64 0) ∧ PW w' b ((L ++ bitsOf x 1) ++ bitsOf kind 2) ∧ PF b W' w') := fun x W' h => pbits b (L ++ bitsOf x 1) kind 2 W' (by omega) (by omega) (by rw [List.length_append, bitsOf_length]; omega) h
  have z0 : W.cell? ⟨U, 0, none⟩ = some (.pointer (some ⟨b, 0, none⟩)) := by simp [World.cell?, hb0]
  unfold pkV headB
  clear hb0 hPW hbel hw hk
  cases last with
  | true =>
    have HO : Hid (lastB true = 1) := rfl
    have HC : Hid (∀ _ : Unit, Calls Tryd.prog 36 #[.pointer (some ⟨b, 0, none⟩), .int .i64 1, .int .i64 1] W fun e w' => e = .returned (.int .i64 0) ∧ PW w' b (L ++ bitsOf 1 1) ∧ PF b W w') := fun _ => HB1.out 1 (by omega)
    go_enter Tryd.func34, Tryd.ntmps34
    go_wp2_with fail
    refine (HC.out ()).mono ?_
    rintro e w1 ⟨rfl, hw1, hf1⟩
    have g0 := hf1.kept H1.out.2.1 H1.out.1 (by decide) (by decide)
    have H2 : Hid (PW w1 b (L ++ bitsOf 1 1) ∧ PF b w w1) := ⟨hw1, H1.out.2.2.trans hf1⟩
    clear hw1 hf1 z0
    have y0 : w1.cell? ⟨U, 0, none⟩ = some (.pointer (some ⟨b, 0, none⟩)) := by simp [World.cell?, g0]
    clear g0
    go_wp2_with fail
    refine (HB2.out 1 w1 H2.out.1).mono ?_
    rintro e w2 ⟨rfl, hw2, hf2⟩
    have H3 : Hid (PW w2 b (L ++ (bitsOf 1 1 ++ bitsOf kind 2)) ∧ PF b w w2) := ⟨by rw [← List.append_assoc]; exact hw2, H2.out.2.trans hf2⟩
    clear hw2 hf2 y0
    go_wp2
    go_end0
    rw [HO.out]
    exact ⟨rfl, H3.out⟩
  | false =>
    have HO : Hid (lastB false = 0) := rfl
    have HC : Hid (∀ _ : Unit, Calls Tryd.prog 36 #[.pointer (some ⟨b, 0, none⟩), .int .i64 0, .int .i64 1] W fun e w' => e = .returned (.int .i64 0) ∧ PW w' b (L ++ bitsOf 0 1) ∧ PF b W w') := fun _ => HB1.out 0 (by omega)
    go_enter Tryd.func34, Tryd.ntmps34
    go_wp2_with fail
    refine (HC.out ()).mono ?_
    rintro e w1 ⟨rfl, hw1, hf1⟩
    have g0 := hf1.kept H1.out.2.1 H1.out.1 (by decide) (by decide)
    have H2 : Hid (PW w1 b (L ++ bitsOf 0 1) ∧ PF b w w1) := ⟨hw1, H1.out.2.2.trans hf1⟩
    clear hw1 hf1 z0
    have y0 : w1.cell? ⟨U, 0, none⟩ = some (.pointer (some ⟨b, 0, none⟩)) := by simp [World.cell?, g0]
    clear g0
    go_wp2_with fail
    refine (HB2.out 0 w1 H2.out.1).mono ?_
    rintro e w2 ⟨rfl, hw2, hf2⟩
    have H3 : Hid (PW w2 b (L ++ (bitsOf 0 1 ++ bitsOf kind 2)) ∧ PF b w w2) := ⟨by rw [← List.append_assoc]; exact hw2, H2.out.2.trans hf2⟩
    clear hw2 hf2 y0
    go_wp2
    go_end0
    rw [HO.out]
    exact ⟨rfl, H3.out⟩
end Go.Proofs.YtlbadjfcffoakaaDoor
