/- Layer 11: the document's Head, End, Having of batches by no codec. -/
import Derived.Test.YtmokjopffgmfjaaGreatDoorEKtd
namespace Go.Proofs.YtmokjopffgmfjaaGreatDoor
open Go.RowKit
set_option linter.unusedVariables false
set_option maxRecDepth 20000
set_option maxRecDepth 20000

set_option maxHeartbeats 4000000 in
theorem rhead_gen (h : HN) (ok : h.OK) (s S : ByteArray) (n c : Nat) (w : World) (hn1 : 29 ≤ n) (hn2 : n ≤ 262144) (hsn : s.size = 10 + n) (hx : s.extract 0 2 = ⟨#[80, 66]⟩) (h32 : ∀ hh : 32 < s.size, s[32] = 0)
    (HN1 : ∀ W, Calls Tryz.prog 68 #[.string s, .int .i64 2, .int .i64 4] W fun e w' => e = .returned (.int .i64 (n : Nat)) ∧ w' = W)
    (HN2 : ∀ W, Calls Tryz.prog 68 #[.string s, .int .i64 6, .int .i64 4] W fun e w' => e = .returned (.int .i64 (c : Nat)) ∧ w' = W)
    (HN3 : ∀ W, Calls Tryz.prog 68 #[.string s, .int .i64 10, .int .i64 8] W fun e w' => e = .returned (.int .i64 (h.base : Nat)) ∧ w' = W)
    (HN4 : ∀ W, Calls Tryz.prog 68 #[.string s, .int .i64 18, .int .i64 2] W fun e w' => e = .returned (.int .i64 (h.cnt : Nat)) ∧ w' = W)
    (HN5 : ∀ W, Calls Tryz.prog 68 #[.string s, .int .i64 20, .int .i64 4] W fun e w' => e = .returned (.int .i64 (h.view : Nat)) ∧ w' = W)
    (HN6 : ∀ W, Calls Tryz.prog 68 #[.string s, .int .i64 24, .int .i64 4] W fun e w' => e = .returned (.int .i64 (h.prod : Nat)) ∧ w' = W)
    (HN7 : ∀ W, Calls Tryz.prog 68 #[.string s, .int .i64 28, .int .i64 4] W fun e w' => e = .returned (.int .i64 (h.seq : Nat)) ∧ w' = W)
    (HX : s.extract 10 (10 + n) = S)
    (HC : ∀ W, Calls Tryz.prog 53 #[.string S] W fun e w' => e = .returned (.int .i64 (c : Nat)) ∧ w' = W) :
    Calls Tryz.prog 54 #[.string s] w fun e w' => e = .returned (.tuple #[h.bv (.slice none 0 0), .int .i64 ((10 + n : Nat) : Int), .int .i64 0]) ∧ Below w.heap.size w w' := by
  have K1 := hide HN1
  have K2 := hide HN2
  have K3 := hide HN3
  have K4 := hide HN4
  have K5 := hide HN5
  have K6 := hide HN6
  have K7 := hide HN7
  have KC := hide HC
  have KH := hide (fun W => headed_yes h ok none 0 0 W)
  clear HN1 HN2 HN3 HN4 HN5 HN6 HN7 HC ok
  obtain ⟨xb, xc, xv, xp, xs, xn⟩ := h
  unfold HN.bv at KH ⊢
  simp only at K3 K4 K5 K6 K7 KH ⊢
  obtain ⟨z, hz⟩ : ∃ z, 10 + n = z := ⟨_, rfl⟩
  rw [hz] at hsn HX ⊢
  have hs1 : ¬ (s.size : Int) < 10 := by omega
  have g1 : ¬ (n : Int) < 29 := by omega
  have g2 : ¬ (262144 : Int) < (n : Int) := by omega
  have g3 : (10 : Int) + (n : Int) = (z : Int) := by omega
  have g4 : ¬ (s.size : Int) < (z : Int) := by omega
  have g5 : (10 : Int) ≤ (z : Int) := by omega
  have g6 : (z : Int) ≤ (s.size : Int) := by omega
  have g7 : 32 < s.size := by omega
  have g8 : ((s[32]'g7).toNat : Int) = 0 := by rw [h32 g7]; rfl
  have gz : z ≤ 262154 := by omega
  have gn : n ≤ 262144 := hn2
  clear hn1 hn2 hsn hz h32
  obtain ⟨X, hX⟩ : ∃ X, w.heap.size = X := ⟨_, rfl⟩
  have hba := below_a w (.cells #[.int .i64 0, .int .i64 0, .int .i64 0, .int .i64 0, .int .i64 0, .slice none 0 0] 62)
  have HA := hide (And.intro hba (heap_alloc_new w (.cells #[.int .i64 0, .int .i64 0, .int .i64 0, .int .i64 0, .int .i64 0, .slice none 0 0] 62)))
  rw [hX] at HA
  have HXX := hide hX
  clear hba
  go_enter Tryz.func54, Tryz.ntmps54
  go_upto_region 1 with fail
  try rw [hX]
  generalize (w.alloc (.cells #[.int .i64 0, .int .i64 0, .int .i64 0, .int .i64 0, .int .i64 0, .slice none 0 0] 62)) = w1 at HA
  clear hX
  go_wp2_with fail
  refine (K1.out _).mono ?_
  rintro e W ⟨rfl, hW⟩
  obtain rfl := hW.symm
  clear hW
  go_upto_region 8 with fail
  go_quiet (first | (go_at_call 68; refine Calls.quiet_of_same (K2.out _)) | (go_at_call 53; refine Calls.quiet_of_same (KC.out _)))
  go_wp2_with fail
  refine (K3.out _).mono ?_
  rintro e W ⟨rfl, hW⟩
  obtain rfl := hW.symm
  clear hW
  go_wp2_with fail
  refine (K4.out _).mono ?_
  rintro e W ⟨rfl, hW⟩
  obtain rfl := hW.symm
  clear hW
  go_wp2_with fail
  refine (K5.out _).mono ?_
  rintro e W ⟨rfl, hW⟩
  obtain rfl := hW.symm
  clear hW
  go_wp2_with fail
  refine (K6.out _).mono ?_
  rintro e W ⟨rfl, hW⟩
  obtain rfl := hW.symm
  clear hW
  go_wp2_with fail
  refine (K7.out _).mono ?_
  rintro e W2 ⟨rfl, hW⟩
  have HB2 : Hid (Below X w W2 ∧ W2.heap[X]? = some (.cells #[.int .i64 0, .int .i64 0, .int .i64 0, .int .i64 0, .int .i64 0, .slice none 0 0] 62 (0, 0))) := by
    rw [hW]
    exact ⟨by first | exact bl_drew.2 HA.out.1 | exact bl_drewN.2 HA.out.1 | exact HA.out.1, HA.out.2⟩
  clear hW HA
  obtain ⟨U, hU⟩ : ∃ U, W2.heap.size = U := ⟨_, rfl⟩
  have hbc := below_a W2 (.cells #[.int .i64 (xb : Nat), .int .i64 (xc : Nat), .int .i64 (xv : Nat), .int .i64 (xp : Nat), .int .i64 (xs : Nat), .slice none 0 0] 62)
  have HA2 : Hid (Below X w (W2.alloc (.cells #[.int .i64 (xb : Nat), .int .i64 (xc : Nat), .int .i64 (xv : Nat), .int .i64 (xp : Nat), .int .i64 (xs : Nat), .slice none 0 0] 62)) ∧ (W2.alloc (.cells #[.int .i64 (xb : Nat), .int .i64 (xc : Nat), .int .i64 (xv : Nat), .int .i64 (xp : Nat), .int .i64 (xs : Nat), .slice none 0 0] 62)).heap[X]? = some (.cells #[.int .i64 0, .int .i64 0, .int .i64 0, .int .i64 0, .int .i64 0, .slice none 0 0] 62 (0, 0)) ∧ (W2.alloc (.cells #[.int .i64 (xb : Nat), .int .i64 (xc : Nat), .int .i64 (xv : Nat), .int .i64 (xp : Nat), .int .i64 (xs : Nat), .slice none 0 0] 62)).heap[U]? = some (.cells #[.int .i64 (xb : Nat), .int .i64 (xc : Nat), .int .i64 (xv : Nat), .int .i64 (xp : Nat), .int .i64 (xs : Nat), .slice none 0 0] 62 (0, 0))) :=
    ⟨HB2.out.1.trans (hbc.mono (Nat.le_of_lt (lt_of_block HB2.out.2))), (hbc.block X (lt_of_block HB2.out.2)).trans HB2.out.2, by rw [← hU]; exact heap_alloc_new _ _⟩
  clear hbc
  go_upto_region 11 with fail
  try rw [hU]
  generalize (W2.alloc (.cells #[.int .i64 (xb : Nat), .int .i64 (xc : Nat), .int .i64 (xv : Nat), .int .i64 (xp : Nat), .int .i64 (xs : Nat), .slice none 0 0] 62)) = w3 at HA2
  clear hU
  obtain ⟨z0, z1, z2, z3, z4, z5⟩ := cells6 HA2.out.2.2
  go_wp2_with fail
  refine (KH.out w3).mono ?_
  rintro e w4 ⟨rfl, hb4⟩
  have H4 : Hid (Below X w w4 ∧ w4.heap[X]? = some (.cells #[.int .i64 0, .int .i64 0, .int .i64 0, .int .i64 0, .int .i64 0, .slice none 0 0] 62 (0, 0)) ∧ w4.heap[U]? = some (.cells #[.int .i64 (xb : Nat), .int .i64 (xc : Nat), .int .i64 (xv : Nat), .int .i64 (xp : Nat), .int .i64 (xs : Nat), .slice none 0 0] 62 (0, 0))) :=
    ⟨HA2.out.1.trans (hb4.mono (Nat.le_of_lt (lt_of_block HA2.out.2.1))), (hb4.block X (lt_of_block HA2.out.2.1)).trans HA2.out.2.1, (hb4.block U (lt_of_block HA2.out.2.2)).trans HA2.out.2.2⟩
  clear hb4 z0 z1 z2 z3 z4 z5 HA2
  obtain ⟨z0, z1, z2, z3, z4, z5⟩ := cells6 H4.out.2.2
  obtain ⟨x0, x1, x2, x3, x4, x5⟩ := cells6 H4.out.2.1
  have fx := frozen0 H4.out.2.1
  go_wp2
  refine bodyPost_ret (v := ?v) ?c1 rfl ?c2
  case c1 =>
    rw [results_cell_tmp2 rfl]
    go_simp
    all_goals exact rfl
  case c2 =>
    refine ⟨rfl, ?_⟩
    rw [HXX.out]
    simp only [bl_set]
    exact H4.out.1
theorem byte32 (h : HN) (p : List UInt8) (hh : 32 < (mk (batL h p)).size) : (mk (batL h p))[32] = 0 := by
  have e : batL h p = ([80, 66] ++ fxL (29 + p.length) 4 ++ fxL (crcL (sumL h p)) 4 ++ fxL h.base 8 ++ fxL h.cnt 2 ++ fxL h.view 4 ++ fxL h.prod 4 ++ fxL h.seq 4) ++ (fxL 0 1 ++ (fxL h.nrec 2 ++ (fxL p.length 4 ++ p))) := by simp [batL, sumL]
  have el : ([80, 66] ++ fxL (29 + p.length) 4 ++ fxL (crcL (sumL h p)) 4 ++ fxL h.base 8 ++ fxL h.cnt 2 ++ fxL h.view 4 ++ fxL h.prod 4 ++ fxL h.seq 4 : List UInt8).length = 32 := by simp [fxL_length]
  have hl : 32 < (batL h p).length := by rw [mk_size] at hh; exact hh
  have e1 : (mk (batL h p))[32] = (batL h p)[32]'hl := by
    show (batL h p).toArray[32]'(by simpa using hl) = (batL h p)[32]'hl
    simp
  refine Eq.trans e1 ?_
  have e2 : (batL h p)[32]? = some 0 := by
    rw [e, List.getElem?_append_right (by rw [el]; exact Nat.le_refl _), el]
    rfl
  rw [List.getElem?_eq_getElem hl] at e2
  exact Option.some.inj e2
theorem rest_at (h : HN) (p : List UInt8) (pre : List UInt8) (n k : Nat) (post : List UInt8) (he : batL h p = pre ++ (fxL n k ++ post)) (hn : n < 2 ^ (8 * k)) : fixN ((mk (batL h p)).extract pre.length (mk (batL h p)).size) k = n := by
  rw [extract_drop, he, List.drop_left]
  exact fixN_fx n k post hn
/-- The document's Head of a batch's bytes. -/
theorem rhead_ok (b : BT) (hb : b.ok) (w : World) : Calls Tryz.prog 54 #[.string b.s] w fun e w' => e = .returned (.tuple #[b.h.bv (.slice none 0 0), .int .i64 (b.sz : Nat), .int .i64 0]) ∧ Below w.heap.size w w' := by
  have hok := hb.ok
  obtain ⟨o1, o2, o3, o4, o5, o6, o7⟩ := hok
  have hp := hb.hp
  have hsz := b.size
  have hcl := crcL_lt (sumL b.h b.p)
  have hN : b.sz = 10 + (29 + b.p.length) := by unfold BT.sz; omega
  have hs : b.s = mk (batL b.h b.p) := rfl
  have hsz' : (mk (batL b.h b.p)).size = 10 + (29 + b.p.length) := by rw [← hs, hsz, hN]
  have hnum : ∀ (a : List UInt8) (n k at_ : Nat) (post : List UInt8) (he : batL b.h b.p = a ++ (fxL n k ++ post)) (hl : a.length = at_) (h1 : 1 ≤ k) (h8 : k ≤ 8) (hn : n < 2 ^ (8 * k)) (hn' : n ≤ 9223372036854775807) (hat : at_ + k ≤ 39), ∀ W, Calls Tryz.prog 68 #[.string (mk (batL b.h b.p)), .int .i64 (at_ : Nat), .int .i64 (k : Nat)] W fun e w' => e = .returned (.int .i64 (n : Nat)) ∧ w' = W := fun a n k at_ post he hl h1 h8 hn hn' hat W =>
    rnum10_ok (mk (batL b.h b.p)) at_ k n W (by rw [hsz']; omega) h1 h8 (by rw [hsz']; omega) (by rw [← hl]; exact rest_at b.h b.p a n k post he hn) hn'
  rw [hN, hs]
  refine rhead_gen b.h hb.ok (mk (batL b.h b.p)) (mk (sumL b.h b.p)) (29 + b.p.length) (crcL (sumL b.h b.p)) w (by omega) hp hsz' ?_ (fun hh => byte32 b.h b.p hh)
    (hnum [80, 66] _ 4 2 (fxL (crcL (sumL b.h b.p)) 4 ++ sumL b.h b.p) (by rfl) rfl (by omega) (by omega) (by omega) (by omega) (by omega))
    (hnum ([80, 66] ++ fxL (29 + b.p.length) 4) _ 4 6 (sumL b.h b.p) (by simp [batL]) (by simp [fxL_length]) (by omega) (by omega) (by omega) (by omega) (by omega))
    (hnum ([80, 66] ++ fxL (29 + b.p.length) 4 ++ fxL (crcL (sumL b.h b.p)) 4) b.h.base 8 10 (restL b.h b.p 1) (by simp [batL, sumL, restL]) (by simp [fxL_length]) (by omega) (by omega) (by omega) (by omega) (by omega))
    (hnum ([80, 66] ++ fxL (29 + b.p.length) 4 ++ fxL (crcL (sumL b.h b.p)) 4 ++ fxL b.h.base 8) b.h.cnt 2 18 (restL b.h b.p 2) (by simp [batL, sumL, restL]) (by simp [fxL_length]) (by omega) (by omega) (by omega) (by omega) (by omega))
    (hnum ([80, 66] ++ fxL (29 + b.p.length) 4 ++ fxL (crcL (sumL b.h b.p)) 4 ++ fxL b.h.base 8 ++ fxL b.h.cnt 2) b.h.view 4 20 (restL b.h b.p 3) (by simp [batL, sumL, restL]) (by simp [fxL_length]) (by omega) (by omega) (by omega) (by omega) (by omega))
    (hnum ([80, 66] ++ fxL (29 + b.p.length) 4 ++ fxL (crcL (sumL b.h b.p)) 4 ++ fxL b.h.base 8 ++ fxL b.h.cnt 2 ++ fxL b.h.view 4) b.h.prod 4 24 (restL b.h b.p 4) (by simp [batL, sumL, restL]) (by simp [fxL_length]) (by omega) (by omega) (by omega) (by omega) (by omega))
    (hnum ([80, 66] ++ fxL (29 + b.p.length) 4 ++ fxL (crcL (sumL b.h b.p)) 4 ++ fxL b.h.base 8 ++ fxL b.h.cnt 2 ++ fxL b.h.view 4 ++ fxL b.h.prod 4) b.h.seq 4 28 (restL b.h b.p 5) (by simp [batL, sumL, restL]) (by simp [fxL_length]) (by omega) (by omega) (by omega) (by omega) (by omega))
    ?_ (fun W => ?_)
  · rw [extract_take]; rfl
  · rw [mk_extract]; congr 1
    have e : batL b.h b.p = ([80, 66] ++ fxL (29 + b.p.length) 4 ++ fxL (crcL (sumL b.h b.p)) 4) ++ sumL b.h b.p := by simp [batL]
    have el : ([80, 66] ++ fxL (29 + b.p.length) 4 ++ fxL (crcL (sumL b.h b.p)) 4 : List UInt8).length = 10 := by simp [fxL_length]
    rw [List.take_of_length_le (by rw [batL_length]; omega), e, ← el, List.drop_left]
  · have := S2.refCrc (mk (sumL b.h b.p)) W (by rw [mk_size, sumL_length]; omega)
    rw [BL_mk] at this
    exact this
set_option maxHeartbeats 1000000 in
theorem rhead11_ok (b : BT) (hb : b.ok) (w : World) : Calls Tryz.prog 35 #[.string b.s] w fun e w' => e = .returned (b.h.bv (.slice none 0 0)) ∧ Below w.heap.size w w' := by
  have HH := hide (fun W => rhead_ok b hb W)
  obtain ⟨s, hs⟩ : ∃ s, b.s = s := ⟨_, rfl⟩
  rw [hs] at HH ⊢
  obtain ⟨z, hz⟩ : ∃ z, b.sz = z := ⟨_, rfl⟩
  rw [hz] at HH
  clear hs hb hz
  obtain ⟨⟨xb, xc, xv, xp, xs, xn⟩, L⟩ := b
  unfold HN.bv at HH ⊢
  simp only at HH ⊢
  obtain ⟨X, hX⟩ : ∃ X, w.heap.size = X := ⟨_, rfl⟩
  have hba := below_a w (.cells #[.int .i64 0, .int .i64 0, .int .i64 0, .int .i64 0, .int .i64 0, .slice none 0 0] 62)
  have HA := hide (And.intro hba (heap_alloc_new w (.cells #[.int .i64 0, .int .i64 0, .int .i64 0, .int .i64 0, .int .i64 0, .slice none 0 0] 62)))
  rw [hX] at HA
  have HXX := hide hX
  clear hba
  go_enter Tryz.func35, Tryz.ntmps35
  go_upto_region 1 with fail
  try rw [hX]
  generalize (w.alloc (.cells #[.int .i64 0, .int .i64 0, .int .i64 0, .int .i64 0, .int .i64 0, .slice none 0 0] 62)) = w1 at HA
  clear hX
  go_wp2_with fail
  refine (HH.out w1).mono ?_
  rintro e w2 ⟨rfl, hb2⟩
  obtain ⟨U, hU⟩ : ∃ U, w2.heap.size = U := ⟨_, rfl⟩
  have hbc := below_a w2 (.cells #[.int .i64 (xb : Nat), .int .i64 (xc : Nat), .int .i64 (xv : Nat), .int .i64 (xp : Nat), .int .i64 (xs : Nat), .slice none 0 0] 62)
  have HA2 : Hid (Below X w (w2.alloc (.cells #[.int .i64 (xb : Nat), .int .i64 (xc : Nat), .int .i64 (xv : Nat), .int .i64 (xp : Nat), .int .i64 (xs : Nat), .slice none 0 0] 62)) ∧ (w2.alloc (.cells #[.int .i64 (xb : Nat), .int .i64 (xc : Nat), .int .i64 (xv : Nat), .int .i64 (xp : Nat), .int .i64 (xs : Nat), .slice none 0 0] 62)).heap[X]? = some (.cells #[.int .i64 0, .int .i64 0, .int .i64 0, .int .i64 0, .int .i64 0, .slice none 0 0] 62 (0, 0)) ∧ (w2.alloc (.cells #[.int .i64 (xb : Nat), .int .i64 (xc : Nat), .int .i64 (xv : Nat), .int .i64 (xp : Nat), .int .i64 (xs : Nat), .slice none 0 0] 62)).heap[U]? = some (.cells #[.int .i64 (xb : Nat), .int .i64 (xc : Nat), .int .i64 (xv : Nat), .int .i64 (xp : Nat), .int .i64 (xs : Nat), .slice none 0 0] 62 (0, 0))) := by
    have hl := lt_of_block HA.out.2
    have e2 := (hb2.block X hl).trans HA.out.2
    exact ⟨(HA.out.1.trans (hb2.mono (Nat.le_of_lt hl))).trans (hbc.mono (Nat.le_of_lt (lt_of_block e2))), (hbc.block X (lt_of_block e2)).trans e2, by rw [← hU]; exact heap_alloc_new _ _⟩
  clear hbc hb2 HA
  go_upto_region 2 with fail
  try rw [hU]
  generalize (w2.alloc (.cells #[.int .i64 (xb : Nat), .int .i64 (xc : Nat), .int .i64 (xv : Nat), .int .i64 (xp : Nat), .int .i64 (xs : Nat), .slice none 0 0] 62)) = w3 at HA2
  clear hU
  obtain ⟨z0, z1, z2, z3, z4, z5⟩ := cells6 HA2.out.2.2
  obtain ⟨x0, x1, x2, x3, x4, x5⟩ := cells6 HA2.out.2.1
  have fx := frozen0 HA2.out.2.1
  go_wp2
  refine bodyPost_ret (v := ?v) ?c1 rfl ?c2
  case c1 =>
    rw [results_cell rfl]
    go_simp
    all_goals exact rfl
  case c2 =>
    refine ⟨rfl, ?_⟩
    rw [HXX.out]
    simp only [bl_set]
    exact HA2.out.1
end Go.Proofs.YtmokjopffgmfjaaGreatDoor
