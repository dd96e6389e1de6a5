/- Layer 11: find and Batch of a segment that has one batch. -/
/- Layer 11: a batch by the recipe of 'awake' (postroadbook.Made): three records from 5 on. -/
/- Layer 11: begun and awake. -/
import Derived.Test.YtmokjopffgmfjaaGreatDoorV22
import Derived.WalkMore
import Derived.Test.YtmokjopffgmfjaaGreatDoorV18
namespace Go.Proofs.YtmokjopffgmfjaaGreatDoor
open Go.RowKit
set_option linter.unusedVariables false
set_option maxRecDepth 20000
set_option maxRecDepth 20000

set_option maxHeartbeats 4000000 in
theorem find_one (w : World) (B Bd s d base room cnt us y : Nat) (nm : ByteArray) (F : List UInt8 → Option (List Nat × Nat)) (h : HN) (p : List UInt8) (hS : SG w B s d nm base [⟨base, 0, 0⟩] ⟨base + h.cnt, 39 + p.length, 1⟩) (hD : V8.VD w Bd d room F cnt us) (hm : V8.May nm) (hF : F nm.data.toList = some (V8.bytesOf (mk (batL h p)), y)) (ok : h.OK) (hp : 29 + p.length ≤ 262144) (hT : TabF w) (hbase : h.base = base) (o : Nat) (ho1 : base ≤ o) (ho2 : o < base + h.cnt) :
    Calls Tryz.prog 26 #[.pointer (some ⟨s, 0, none⟩), .int .i64 (o : Nat)] w fun e w' => e = .returned (.tuple #[.agg #[.int .i64 (base : Nat), .int .i64 0, .int .i64 0], .string (mk (batL h p)), .int .i64 0]) ∧ Below w.heap.size w w' := by
  have hsz := bat_size h p
  obtain ⟨N, hN⟩ : ∃ N, 39 + p.length = N := ⟨_, rfl⟩
  have hN1 : N ≤ 1048576 := by omega
  have HAf := hide (fun W ao ln cp => after_ok ⟨base, 0, 0⟩ h ok ao ln cp N W (Nat.zero_le _) (Nat.zero_le _) hN1)
  have HHd := hide (fun W (hW : TabF W) => head_ok h ok p [] W hW hp (by simp))
  rw [List.append_nil, hN] at HHd
  rw [hN] at hS hsz
  have hex : (mk (batL h p)).extract 0 N = mk (batL h p) := by rw [extract_take, List.take_of_length_le (by rw [batL_length]; omega)]
  obtain ⟨b, hbb⟩ : ∃ b, mk (batL h p) = b := ⟨_, rfl⟩
  rw [hbb] at HHd hF hsz hex ⊢
  have HEX := hide hex
  clear hex
  have HRd := hide (fun W (hW : V8.VD W Bd d room F cnt us) => V8.read_some W Bd d room cnt us F hW nm hm _ y hF N (by rw [V8.bytesOf_length, hsz]; exact Nat.le_refl _))
  have htk : V8.toBA ((V8.bytesOf b).take N) = b := by
    rw [List.take_of_length_le (by rw [V8.bytesOf_length, hsz]; exact Nat.le_refl _), V8.toBA_bytesOf]
  rw [htk] at HRd
  have HH := hide (And.intro hS (And.intro hD hT))
  have HAr := hide (fun W (hW : SG W B s d nm base [⟨base, 0, 0⟩] ⟨base + h.cnt, N, 1⟩) => around_one W B s d base nm ⟨base, 0, 0⟩ ⟨base + h.cnt, N, 1⟩ hW (o : Nat))
  obtain ⟨xb, xc, xv, xp, xs, xn⟩ := h
  simp only at hbase ho2
  unfold HN.bv at HAf HHd
  simp only [Pl.v, Nat.zero_add] at HAf HHd HAr
  subst hbase
  obtain ⟨q1, hq1⟩ : ∃ q, xb + xc = q := ⟨_, rfl⟩
  simp only at HH
  rw [hq1] at HAf HAr HH ho2
  have e0 : ((0 : Nat) : Int) = 0 := rfl
  have e1 : ((1 : Nat) : Int) = 1 := rfl
  rw [e0] at HAf HAr
  rw [e1] at HAf HAr
  have g1 : ¬ (o : Int) < (xb : Int) := by omega
  have g2 : ¬ (q1 : Int) ≤ (o : Int) := by omega
  have g3 : (o : Int) < (q1 : Int) := by omega
  have hNs : N ≤ b.size := by omega
  clear hS hD hm hF ok hp hT hsz htk hbb hN hq1 ho1 ho2 e0 e1
  obtain ⟨X, hX⟩ : ∃ X, w.heap.size = X := ⟨_, rfl⟩
  have hba := below_a w (.cells #[.int .i64 0, .int .i64 0, .int .i64 0] 31)
  have H1 := hide (And.intro (HH.out.1.below hba) (And.intro hba (heap_alloc_new w (.cells #[.int .i64 0, .int .i64 0, .int .i64 0] 31))))
  rw [hX] at H1
  have HX := hide hX
  clear hba
  go_enter Tryz.func26, Tryz.ntmps26
  go_upto_region 1 with fail
  try rw [hX]
  generalize (w.alloc (.cells #[.int .i64 0, .int .i64 0, .int .i64 0] 31)) = w1 at H1
  clear hX
  obtain ⟨c0, c1, c2, c3, c5, c6, c7⟩ := H1.out.1.cells
  simp only at c5 c6 c7
  clear c0 c6 c7
  go_step3
  go_wp2_with fail
  refine (HAr.out w1 H1.out.1).mono ?_
  rintro e w2 ⟨rfl, hb2⟩
  clear c1 c2 c3 c5
  have HG3 : Hid (SG ((w2.alloc (.cells #[.int .i64 (xb : Nat), .int .i64 0, .int .i64 0] 31)).alloc (.cells #[.int .i64 (q1 : Nat), .int .i64 (N : Nat), .int .i64 1] 31)) B s d nm xb [⟨xb, 0, 0⟩] ⟨q1, N, 1⟩ ∧ Below X w ((w2.alloc (.cells #[.int .i64 (xb : Nat), .int .i64 0, .int .i64 0] 31)).alloc (.cells #[.int .i64 (q1 : Nat), .int .i64 (N : Nat), .int .i64 1] 31)) ∧ ((w2.alloc (.cells #[.int .i64 (xb : Nat), .int .i64 0, .int .i64 0] 31)).alloc (.cells #[.int .i64 (q1 : Nat), .int .i64 (N : Nat), .int .i64 1] 31)).heap[X]? = some (.cells #[.int .i64 0, .int .i64 0, .int .i64 0] 31 (0, 0)) ∧ ((w2.alloc (.cells #[.int .i64 (xb : Nat), .int .i64 0, .int .i64 0] 31)).alloc (.cells #[.int .i64 (q1 : Nat), .int .i64 (N : Nat), .int .i64 1] 31)).heap[w2.heap.size]? = some (.cells #[.int .i64 (xb : Nat), .int .i64 0, .int .i64 0] 31 (0, 0)) ∧ ((w2.alloc (.cells #[.int .i64 (xb : Nat), .int .i64 0, .int .i64 0] 31)).alloc (.cells #[.int .i64 (q1 : Nat), .int .i64 (N : Nat), .int .i64 1] 31)).heap[w2.heap.size + 1]? = some (.cells #[.int .i64 (q1 : Nat), .int .i64 (N : Nat), .int .i64 1] 31 (0, 0)) ∧ X < w2.heap.size) := by
    have hba := below_a w2 (.cells #[.int .i64 (xb : Nat), .int .i64 0, .int .i64 0] 31)
    have hbb := below_a (w2.alloc (.cells #[.int .i64 (xb : Nat), .int .i64 0, .int .i64 0] 31)) (.cells #[.int .i64 (q1 : Nat), .int .i64 (N : Nat), .int .i64 1] 31)
    have hsz : (w2.alloc (.cells #[.int .i64 (xb : Nat), .int .i64 0, .int .i64 0] 31)).heap.size = w2.heap.size + 1 := by simp
    have hl := lt_of_block H1.out.2.2
    have hl2 : X < w2.heap.size := Nat.lt_of_lt_of_le hl hb2.size
    refine ⟨((H1.out.1.below hb2).below hba).below hbb, ((H1.out.2.1.trans (hb2.mono (Nat.le_of_lt hl))).trans (hba.mono (Nat.le_of_lt hl2))).trans (hbb.mono (by rw [hsz]; omega)), ?_, ?_, ?_, hl2⟩
    · exact (hbb.block X (by rw [hsz]; omega)).trans ((hba.block X hl2).trans ((hb2.block X hl).trans H1.out.2.2))
    · exact (hbb.block _ (by rw [hsz]; omega)).trans (heap_alloc_new w2 _)
    · rw [← hsz]; exact heap_alloc_new _ _
  clear hb2 HAr
  obtain ⟨Y, hY⟩ : ∃ Y, w2.heap.size = Y := ⟨_, rfl⟩
  rw [hY] at HG3
  go_upto_region 4 with fail
  try rw [hY]
  generalize ((w2.alloc (.cells #[.int .i64 (xb : Nat), .int .i64 0, .int .i64 0] 31)).alloc (.cells #[.int .i64 (q1 : Nat), .int .i64 (N : Nat), .int .i64 1] 31)) = w3 at HG3
  clear hY
  obtain ⟨c0, c1, c2, c3, c5, c6, c7⟩ := HG3.out.1.cells
  obtain ⟨y0, y1, y2⟩ := cellsP3 HG3.out.2.2.2.1
  obtain ⟨v0, v1, v2⟩ := cellsP3 HG3.out.2.2.2.2.1
  have d1 := cellB (belD w3) c1
  have d2 := cellB (belD w3) c2
  have d3 := cellB (belD w3) y1
  have d4 := cellB (belD w3) v1
  have HRd'' := hide (HRd.out w3.drew ((HH.out.2.1.below (by rw [HX.out]; exact HG3.out.2.1)).below (belD w3)))
  have HRd' : Hid (∀ x : Int, x = (N : Int) → Calls Tryz.prog 21 #[.pointer (some ⟨d, 0, none⟩), .string nm, .int .i64 0, .int .i64 x] w3.drew fun e w' => e = .returned (.tuple #[.string b, .int .i64 0]) ∧ w' = w3.drew) := fun x hx => by rw [hx]; exact HRd''.out
  have HW1 : Hid (IntKind.i64.wrap (N : Int) = (N : Int)) := by show IntKind.i64.wrap _ = _; rw [IntKind.wrap_i64]; omega
  have HW2 : Hid (wrap64 ((N : Int) - 0) = (N : Int)) := by show wrap64 _ = _; unfold wrap64; omega
  have HW3 : Hid ((N : Int) - 0 = (N : Int)) := Int.sub_zero _
  have HW4 : Hid ((N : Int) = (N : Int)) := rfl
  clear c0 c1 c2 c3 c5 c6 c7 y0 y1 y2 v0 v1 v2 HRd
  go_region_held_law (fun w' => w'.cell? ⟨s, 1, none⟩ = some (.pointer (some ⟨d, 0, none⟩)) ∧ w'.cell? ⟨s, 2, none⟩ = some (.string nm) ∧ w'.cell? ⟨Y, 1, none⟩ = some (.int .i64 0) ∧ w'.cell? ⟨Y + 1, 1, none⟩ = some (.int .i64 (N : Nat)))
    (first | exact ⟨d1, d2, d3, d4⟩ | go_keep)
    (first | (go_at_call 21; (first | with_reducible refine (HRd'.out _ HW1.out).mono ?_ | with_reducible refine (HRd'.out _ HW2.out).mono ?_ | with_reducible refine (HRd'.out _ HW3.out).mono ?_ | with_reducible refine (HRd'.out _ HW4.out).mono ?_); rintro e W ⟨rfl, rfl⟩))
  have H4 : Hid (Below X w w3.drew ∧ w3.drew.heap[X]? = some (.cells #[.int .i64 0, .int .i64 0, .int .i64 0] 31 (0, 0)) ∧ w3.drew.heap[Y]? = some (.cells #[.int .i64 (xb : Nat), .int .i64 0, .int .i64 0] 31 (0, 0)) ∧ X < Y) := ⟨HG3.out.2.1.trans ((belD w3).mono (Nat.le_of_lt (lt_of_block HG3.out.2.2.1))), HG3.out.2.2.1, HG3.out.2.2.2.1, HG3.out.2.2.2.2.2⟩
  clear d1 d2 d3 d4 HRd' HRd'' HW1 HW2 HW3 HW4 HG3
  generalize w3.drew = w4 at H4
  go_wp2
  go_step3
  go_wp2
  go_loopw [9] (fun v wr => v = .string b ∧ wr = w4) (fun _ _ => 0)
  case atStart => exact ⟨rfl, rfl⟩
  case round =>
    obtain ⟨rfl, rfl⟩ := hrel
    have HHd' := hide (HHd.out wr (HH.out.2.2.new (by rw [HX.out]; exact H4.out.1)))
    go_wp2_with fail
    refine HHd'.out.mono ?_
    rintro e w5 ⟨rfl, hb5⟩
    obtain ⟨U, hU⟩ : ∃ U, w5.heap.size = U := ⟨_, rfl⟩
    have H5 : Hid (Below X w (w5.alloc (.cells #[.int .i64 (xb : Nat), .int .i64 (xc : Nat), .int .i64 (xv : Nat), .int .i64 (xp : Nat), .int .i64 (xs : Nat), .slice none 0 0] 62)) ∧ (w5.alloc (.cells #[.int .i64 (xb : Nat), .int .i64 (xc : Nat), .int .i64 (xv : Nat), .int .i64 (xp : Nat), .int .i64 (xs : Nat), .slice none 0 0] 62)).heap[X]? = some (.cells #[.int .i64 0, .int .i64 0, .int .i64 0] 31 (0, 0)) ∧ (w5.alloc (.cells #[.int .i64 (xb : Nat), .int .i64 (xc : Nat), .int .i64 (xv : Nat), .int .i64 (xp : Nat), .int .i64 (xs : Nat), .slice none 0 0] 62)).heap[Y]? = some (.cells #[.int .i64 (xb : Nat), .int .i64 0, .int .i64 0] 31 (0, 0)) ∧ (w5.alloc (.cells #[.int .i64 (xb : Nat), .int .i64 (xc : Nat), .int .i64 (xv : Nat), .int .i64 (xp : Nat), .int .i64 (xs : Nat), .slice none 0 0] 62)).heap[U]? = some (.cells #[.int .i64 (xb : Nat), .int .i64 (xc : Nat), .int .i64 (xv : Nat), .int .i64 (xp : Nat), .int .i64 (xs : Nat), .slice none 0 0] 62 (0, 0)) ∧ X < Y) := by
      have hba := below_a w5 (.cells #[.int .i64 (xb : Nat), .int .i64 (xc : Nat), .int .i64 (xv : Nat), .int .i64 (xp : Nat), .int .i64 (xs : Nat), .slice none 0 0] 62)
      have hX4 := lt_of_block H4.out.2.1
      have hY4 := lt_of_block H4.out.2.2.1
      refine ⟨(H4.out.1.trans (hb5.mono (Nat.le_of_lt hX4))).trans (hba.mono (Nat.le_trans (Nat.le_of_lt hX4) hb5.size)), ?_, ?_, by rw [← hU]; exact heap_alloc_new _ _, H4.out.2.2.2⟩
      · exact (hba.block X (Nat.lt_of_lt_of_le hX4 hb5.size)).trans ((hb5.block X hX4).trans H4.out.2.1)
      · exact (hba.block Y (Nat.lt_of_lt_of_le hY4 hb5.size)).trans ((hb5.block Y hY4).trans H4.out.2.2.1)
    clear hb5 HHd'
    go_upto_region 6 with fail
    try rw [hU]
    generalize (w5.alloc (.cells #[.int .i64 (xb : Nat), .int .i64 (xc : Nat), .int .i64 (xv : Nat), .int .i64 (xp : Nat), .int .i64 (xs : Nat), .slice none 0 0] 62)) = w6 at H5
    clear hU
    obtain ⟨y0, y1, y2⟩ := cellsP3 H5.out.2.2.1
    obtain ⟨z0, z1, z2, z3, z4, z5⟩ := cells6 H5.out.2.2.2.1
    go_wp2_with fail
    refine (HAf.out w6 none 0 0).mono ?_
    rintro e w7 ⟨rfl, hb7⟩
    obtain ⟨Z, hZ⟩ : ∃ Z, w7.heap.size = Z := ⟨_, rfl⟩
    have H7 : Hid (Below X w (w7.alloc (.cells #[.int .i64 (q1 : Nat), .int .i64 (N : Nat), .int .i64 1] 31)) ∧ (w7.alloc (.cells #[.int .i64 (q1 : Nat), .int .i64 (N : Nat), .int .i64 1] 31)).heap[X]? = some (.cells #[.int .i64 0, .int .i64 0, .int .i64 0] 31 (0, 0)) ∧ (w7.alloc (.cells #[.int .i64 (q1 : Nat), .int .i64 (N : Nat), .int .i64 1] 31)).heap[Y]? = some (.cells #[.int .i64 (xb : Nat), .int .i64 0, .int .i64 0] 31 (0, 0)) ∧ (w7.alloc (.cells #[.int .i64 (q1 : Nat), .int .i64 (N : Nat), .int .i64 1] 31)).heap[U]? = some (.cells #[.int .i64 (xb : Nat), .int .i64 (xc : Nat), .int .i64 (xv : Nat), .int .i64 (xp : Nat), .int .i64 (xs : Nat), .slice none 0 0] 62 (0, 0)) ∧ (w7.alloc (.cells #[.int .i64 (q1 : Nat), .int .i64 (N : Nat), .int .i64 1] 31)).heap[Z]? = some (.cells #[.int .i64 (q1 : Nat), .int .i64 (N : Nat), .int .i64 1] 31 (0, 0)) ∧ X < Y) := by
      have hba := below_a w7 (.cells #[.int .i64 (q1 : Nat), .int .i64 (N : Nat), .int .i64 1] 31)
      have hX6 := lt_of_block H5.out.2.1
      have hY6 := lt_of_block H5.out.2.2.1
      have hU6 := lt_of_block H5.out.2.2.2.1
      refine ⟨(H5.out.1.trans (hb7.mono (Nat.le_of_lt hX6))).trans (hba.mono (Nat.le_trans (Nat.le_of_lt hX6) hb7.size)), ?_, ?_, ?_, by rw [← hZ]; exact heap_alloc_new _ _, H5.out.2.2.2.2⟩
      · exact (hba.block X (Nat.lt_of_lt_of_le hX6 hb7.size)).trans ((hb7.block X hX6).trans H5.out.2.1)
      · exact (hba.block Y (Nat.lt_of_lt_of_le hY6 hb7.size)).trans ((hb7.block Y hY6).trans H5.out.2.2.1)
      · exact (hba.block U (Nat.lt_of_lt_of_le hU6 hb7.size)).trans ((hb7.block U hU6).trans H5.out.2.2.2.1)
    clear hb7 y0 y1 y2 z0 z1 z2 z3 z4 z5 H5
    go_upto_region 7 with fail
    try rw [hZ]
    generalize (w7.alloc (.cells #[.int .i64 (q1 : Nat), .int .i64 (N : Nat), .int .i64 1] 31)) = w8 at H7
    clear hZ
    obtain ⟨y0, y1, y2⟩ := cellsP3 H7.out.2.2.1
    obtain ⟨z0, z1, z2, z3, z4, z5⟩ := cells6 H7.out.2.2.2.1
    obtain ⟨u0, u1, u2⟩ := cellsP3 H7.out.2.2.2.2.1
    obtain ⟨x0, x1, x2⟩ := cellsP3 H7.out.2.1
    have fx := frozen0 H7.out.2.1
    go_upto_region 9 with fail
    go_region
    go_wp2
    try rw [Exit.noGoto_ret]
    refine bodyPost_ret (v := ?v) ?c1 rfl ?c2
    case c1 =>
      rw [results_cell_tmp2 rfl]
      go_simp
      exact rfl
    case c2 =>
      refine ⟨by rw [HEX.out], ?_⟩
      rw [HX.out]
      exact bl_drew.2 (((H7.out.1.trans (below_set w8 _ (Nat.le_refl _))).trans (below_set _ _ (Nat.le_refl _))).trans (below_set _ _ (Nat.le_refl _)))
set_option maxHeartbeats 1000000 in
theorem batch_one (w : World) (B Bd s d base room cnt us y : Nat) (nm : ByteArray) (F : List UInt8 → Option (List Nat × Nat)) (h : HN) (p : List UInt8) (hS : SG w B s d nm base [⟨base, 0, 0⟩] ⟨base + h.cnt, 39 + p.length, 1⟩) (hD : V8.VD w Bd d room F cnt us) (hm : V8.May nm) (hF : F nm.data.toList = some (V8.bytesOf (mk (batL h p)), y)) (ok : h.OK) (hp : 29 + p.length ≤ 262144) (hT : TabF w) (hbase : h.base = base) (o : Nat) (ho1 : base ≤ o) (ho2 : o < base + h.cnt) :
    Calls Tryz.prog 8 #[.pointer (some ⟨s, 0, none⟩), .int .i64 (o : Nat)] w fun e w' => e = .returned (.tuple #[.string (mk (batL h p)), .int .i64 0]) ∧ Below w.heap.size w w' := by
  have HG := hide (sgiven_yes s w hS.cells.1)
  have HFi := hide (find_one w B Bd s d base room cnt us y nm F h p hS hD hm hF ok hp hT hbase o ho1 ho2)
  have HC := hide (fun W => V8.clone (mk (batL h p)) W (by rw [bat_size]; omega))
  obtain ⟨b, hbb⟩ : ∃ b, mk (batL h p) = b := ⟨_, rfl⟩
  rw [hbb] at HFi HC ⊢
  clear hS hD hm hF ok hp hT hbase ho1 ho2 hbb
  go_enter Tryz.func8, Tryz.ntmps8
  go_wp2_with fail
  refine HG.out.mono ?_
  rintro e W ⟨rfl, hW⟩
  obtain rfl := hW.symm
  clear HG hW
  go_wp2_with fail
  refine HFi.out.mono ?_
  rintro e w1 ⟨rfl, hb1⟩
  have H1 := hide (hb1.alloc hb1.size (.cells #[.int .i64 (base : Nat), .int .i64 0, .int .i64 0] 31))
  clear hb1 HFi
  go_upto_region 4 with fail
  generalize (w1.alloc (.cells #[.int .i64 (base : Nat), .int .i64 0, .int .i64 0] 31)) = w2 at H1
  go_wp2_with fail
  refine (HC.out w2).mono ?_
  rintro e w3 ⟨rfl, hb3⟩
  have H3 := hide (H1.out.trans (hb3.mono H1.out.size))
  clear hb3 HC
  go_wp2
  go_ret2
  exact ⟨rfl, H3.out⟩
end Go.Proofs.YtmokjopffgmfjaaGreatDoor
namespace Go.Proofs.YtmokjopffgmfjaaGreatDoor
open Go.RowKit
set_option linter.unusedVariables false
set_option maxRecDepth 20000
set_option maxRecDepth 20000

def r5 : List Rec := [⟨5, mk [97], ⟨#[]⟩, false⟩, ⟨6, mk [100], ⟨#[]⟩, false⟩, ⟨7, mk [98], ⟨#[]⟩, false⟩]
def h5 : HN := ⟨5, 3, 0, 0, 0, 3⟩
theorem h5_ok : h5.OK := ⟨by decide, by decide, by decide, by decide, by decide, by decide, by decide⟩
theorem r5_may : (offB (h5.base : Nat) && comes r5 (h5.base : Nat)) = true := by decide
theorem r5_sized : Sized r5 := fun r hr => by
  simp only [r5, List.mem_cons, List.not_mem_nil, or_false] at hr
  rcases hr with rfl | rfl | rfl <;> exact ⟨by decide, by decide⟩
theorem r5_len : (recsL (h5.base : Nat) r5).length ≤ 262115 := by
  refine Nat.le_trans (recsL_len _ r5 (comes_mem r5 (h5.base : Nat) ?_)) (by decide)
  have := r5_may
  simp only [Bool.and_eq_true] at this
  exact this.2
abbrev rcp5 : Value := .agg #[.int .i64 2, .int .i64 0, .int .i64 0, .int .i64 0, .string ⟨#[]⟩]
structure MS (w wr : World) (X bb k : Nat) (v : Value) : Prop where
  x : wr.heap[X]? = some (.cells #[.int .i64 2, .int .i64 0, .int .i64 0, .int .i64 0, .string ⟨#[]⟩] 46 (0, 0))
  b : wr.heap[bb]? = some (.cells #[.int .i64 5, .int .i64 3, .int .i64 0, .int .i64 0, .int .i64 0, v] 62 (0, 0))
  own : wr.ownsRow w.heap.size 72 4 v k (rcs (r5.take k))
  bel : Below w.heap.size w wr
  hbb : w.heap.size ≤ bb
theorem cells5 {w : World} {b : Nat} {t : TypeId} {a0 a1 a2 a3 a4 : Value} (h : w.heap[b]? = some (.cells #[a0, a1, a2, a3, a4] t (0, 0))) : w.cell? ⟨b, 0, none⟩ = some a0 ∧ w.cell? ⟨b, 1, none⟩ = some a1 ∧ w.cell? ⟨b, 2, none⟩ = some a2 ∧ w.cell? ⟨b, 3, none⟩ = some a3 ∧ w.cell? ⟨b, 4, none⟩ = some a4 := by
  simp [World.cell?, h]
theorem conv_one (w : World) (n : UInt8) : (convert 70 9 (.slice (some ⟨w.heap.size, 0, none⟩) 1 1)).run Tryz.prog (w.alloc (.cells #[.int .u8 (n.toNat : Nat)] 5)) = .ok (.string (mk [n])) (w.alloc (.cells #[.int .u8 (n.toNat : Nat)] 5)) :=
  conv_mk _ 0 _ [n] ⟨rfl, .inr ⟨w.heap.size, 1, #[.int .u8 (n.toNat : Nat)], rfl, Nat.zero_le _, heap_alloc_new _ _, Nat.le_refl _, by decide, rfl, rfl⟩⟩
set_option maxHeartbeats 4000000 in
theorem made5 (w : World) : Calls Tryz.prog 17 #[rcp5, .int .i64 5] w fun e w' => e = .returned (.tuple #[.string (mk (batL h5 (recsL 5 r5))), .bool true]) ∧ Below w.heap.size w w' := by
  obtain ⟨i0, hi, hz0, hz1, hz2⟩ := info_split recInfo
  have HI : Hid (Tryz.prog.info? 72 = some i0 ∧ i0.zero = some (.agg #[.int .i64 0, .string ⟨#[]⟩, .string ⟨#[]⟩, .bool false]) ∧ i0.size = 4 ∧ i0.bytes = 48) := ⟨hi, hz0, hz1, hz2⟩
  clear hi hz0 hz1 hz2
  have q1 : bits .and .i64 2 7 = 2 := by decide
  have q2 : bits .and .i64 0 255 = 0 := by decide
  have q3 : bits .and .i64 0 65535 = 0 := by decide
  have q4 : bits .and .i64 0 7 = 0 := by decide
  obtain ⟨X, hX⟩ : ∃ X, w.heap.size = X := ⟨_, rfl⟩
  have hba := below_a w (.cells #[.int .i64 2, .int .i64 0, .int .i64 0, .int .i64 0, .string ⟨#[]⟩] 46)
  have hbb := below_a (w.alloc (.cells #[.int .i64 2, .int .i64 0, .int .i64 0, .int .i64 0, .string ⟨#[]⟩] 46)) (.cells #[.int .i64 5, .int .i64 3, .int .i64 0, .int .i64 0, .int .i64 0, .slice none 0 0] 62)
  have hsz : (w.alloc (.cells #[.int .i64 2, .int .i64 0, .int .i64 0, .int .i64 0, .string ⟨#[]⟩] 46)).heap.size = w.heap.size + 1 := by simp
  have HM : Hid (MS w ((w.alloc (.cells #[.int .i64 2, .int .i64 0, .int .i64 0, .int .i64 0, .string ⟨#[]⟩] 46)).alloc (.cells #[.int .i64 5, .int .i64 3, .int .i64 0, .int .i64 0, .int .i64 0, .slice none 0 0] 62)) w.heap.size (w.heap.size + 1) 0 (.slice none 0 0)) :=
    ⟨(hbb.block _ (by rw [hsz]; omega)).trans (heap_alloc_new _ _), by rw [← hsz]; exact heap_alloc_new _ _, ⟨rfl, .inl ⟨rfl, rfl⟩⟩, hba.trans (hbb.mono hba.size), Nat.le_succ _⟩
  clear hba hbb hsz
  rw [hX] at HM
  go_enter Tryz.func17, Tryz.ntmps17
  go_upto_region 3 with fail
  try rw [hX]
  generalize ((w.alloc (.cells #[.int .i64 2, .int .i64 0, .int .i64 0, .int .i64 0, .string ⟨#[]⟩] 46)).alloc (.cells #[.int .i64 5, .int .i64 3, .int .i64 0, .int .i64 0, .int .i64 0, .slice none 0 0] 62)) = w1 at HM
  have HX := hide hX
  clear hX
  go_wp2
  go_loopw [8] (fun i wr => ∃ (k : Nat) (v : Value), i = .int .i64 (k : Nat) ∧ k ≤ 3 ∧ MS w wr X (X + 1) k v) (fun i _ => 3 - (intOf i).toNat)
  case atStart => exact ⟨0, _, rfl, by omega, HM.out⟩
  case round =>
    obtain ⟨k, v, rfl, hk, hms⟩ := hrel
    have HS := hide hms
    clear hms HM
    by_cases hlt : k < 3
    · obtain rfl | rfl | rfl : k = 0 ∨ k = 1 ∨ k = 2 := by omega
      · have hlti : (((0 : Nat)) : Int) < 3 := by decide
        obtain ⟨va, vc, rfl⟩ := rowForm HS.out.own
        have hcv : (convert 70 9 (.slice (some ⟨wr.heap.size, 0, none⟩) 1 1)).run Tryz.prog (wr.alloc (.cells #[.int .u8 97] 5)) = .ok (.string (mk [97])) (wr.alloc (.cells #[.int .u8 97] 5)) := conv_one wr 97
        obtain ⟨z0, z1, z2, z3, z4⟩ := cells5 HS.out.x
        obtain ⟨b0, b1, b2, b3, b4, b5⟩ := cells6 HS.out.b
        have z11 := fun o => cellB (below_a wr o) z1
        have z41 := fun o => cellB (below_a wr o) z4
        have b51 := cellB ((below_a wr (.cells #[.int .u8 97] 5)).trans ((below_a (wr.alloc (.cells #[.int .u8 97] 5)) (.cells #[.int .i64 5, .string (mk [97]), .string ⟨#[]⟩, .bool false] 72)).mono (by simp))) b5
        have HOW : Hid (∀ o, ((wr.alloc (.cells #[.int .u8 97] 5)).alloc o).ownsRow w.heap.size 72 4 (.slice va 0 vc) 0 (rcs (r5.take 0)) ∧ w.heap.size ≤ ((wr.alloc (.cells #[.int .u8 97] 5)).alloc o).heap.size) := fun o => by
          have hb := (below_a wr (.cells #[.int .u8 97] 5)).trans ((below_a (wr.alloc (.cells #[.int .u8 97] 5)) o).mono (by simp))
          exact ⟨owns_below HS.out.own hb, Nat.le_trans HS.out.bel.size hb.size⟩
        have HA : Hid (∀ w5, ((wr.alloc (.cells #[.int .u8 97] 5)).alloc (.cells #[.int .i64 5, .string (mk [97]), .string ⟨#[]⟩, .bool false] 72)).grownBy w5 (Value.slice va 0 vc).ownBlock → w5.heap[X]? = some (.cells #[.int .i64 2, .int .i64 0, .int .i64 0, .int .i64 0, .string ⟨#[]⟩] 46 (0, 0)) ∧ w5.heap[X + 1]? = some (.cells #[.int .i64 5, .int .i64 3, .int .i64 0, .int .i64 0, .int .i64 0, .slice va 0 vc] 62 (0, 0)) ∧ Below w.heap.size w w5) := fun w5 hg => by
          have hb := (below_a wr (.cells #[.int .u8 97] 5)).trans ((below_a (wr.alloc (.cells #[.int .u8 97] 5)) (.cells #[.int .i64 5, .string (mk [97]), .string ⟨#[]⟩, .bool false] 72)).mono (by simp))
          have hr := owns_below HS.out.own hb
          have hx := (hb.block X (lt_of_block HS.out.x)).trans HS.out.x
          have hbt := (hb.block (X + 1) (lt_of_block HS.out.b)).trans HS.out.b
          refine ⟨(hg.block X (lt_of_block hx) (fun e => ?_)).trans hx, (hg.block (X + 1) (lt_of_block hbt) (fun e => ?_)).trans hbt, (HS.out.bel.trans (hb.mono HS.out.bel.size)).trans (below_grown hr hg (Nat.le_trans HS.out.bel.size hb.size))⟩
          · obtain ⟨_, cs, e'⟩ := rowBlk hr e.symm
            rw [hx] at e'; cases e'
          · obtain ⟨_, cs, e'⟩ := rowBlk hr e.symm
            rw [hbt] at e'; cases e'
        have HN4 : Hid (∀ j u, [Value.int .i64 5, .string (mk [97]), .string ⟨#[]⟩, .bool false][j]? = some u → ((wr.alloc (.cells #[.int .u8 97] 5)).alloc (.cells #[.int .i64 5, .string (mk [97]), .string ⟨#[]⟩, .bool false] 72)).cell? ((⟨wr.heap.size + 1, 0, none⟩ : Addr).add j) = some u) := fun j u hj => by
          have := news4 (wr.alloc (.cells #[.int .u8 97] 5)) _ _ _ _ 72 j u hj
          have e : (wr.alloc (.cells #[.int .u8 97] 5)).heap.size = wr.heap.size + 1 := by simp
          rw [e] at this
          exact this
        clear z0 z2 z3 b0 b1 b2 b3 b4
        go_wp2_with (at_builtin; (refine wpList_append_lies _ rfl _ _ 60 rfl w.heap.size 72 i0 (.agg #[.int .i64 0, .string ⟨#[]⟩, .string ⟨#[]⟩, .bool false]) 4 48 Tryz.underlying60 HI.out.1 HI.out.2.1 HI.out.2.2.1 HI.out.2.2.2 rfl (by decide) (.slice va 0 vc) 0 (rcs (r5.take 0)) rfl (HOW.out _).1 ⟨wr.heap.size + 1, 0, none⟩ 1 1 [.int .i64 5, .string (mk [97]), .string ⟨#[]⟩, .bool false] rfl rfl HN4.out (one4 _ _ _ _) (by decide) (by unfold maxLen; omega) (by omega) (HOW.out _).2 _ rfl ?_); intro g5 cap5 w5 hown hgrow hat hgl; have ha5 := HA.out w5 hgrow; have e5 : w5.cell? ⟨X + 1, 5, none⟩ = some (.slice va 0 vc) := (by simp [World.cell?, ha5.2.1]); have f5 := frozen0 ha5.2.1 5; have HNX := hide (And.intro hown ha5); clear hown hgrow hat hgl ha5)
        have HNM : Hid (MS w (w5.setCell ⟨X + 1, 5, none⟩ (.slice (some ⟨g5, 0, none⟩) 1 cap5)) X (X + 1) 1 (.slice (some ⟨g5, 0, none⟩) 1 cap5)) := by
          obtain ⟨ho, hx, hb, hbe⟩ := HNX.out
          have hne : ∀ j, j ≠ X + 1 → (w5.setCell ⟨X + 1, 5, none⟩ (.slice (some ⟨g5, 0, none⟩) 1 cap5)).heap[j]? = w5.heap[j]? := fun j hj => Below.heap_setCell _ _ _ _ (by simpa using hj)
          have ho' : w5.ownsRow w.heap.size 72 4 (.slice (some ⟨g5, 0, none⟩) 1 cap5) 1 (rcs (r5.take 1)) := ho
          exact ⟨(hne X (by omega)).trans hx, block_set hb, rowKeep ho' (fun g cs e => hne g (by rintro rfl; rw [hb] at e; cases e)), hbe.trans (below_set w5 _ HS.out.hbb), HS.out.hbb⟩
        clear HNX
        go_roundw
        case rel => exact ⟨1, _, rfl, by omega, HNM.out⟩
        case measure => simp [intOf]
      · have hlti : (((1 : Nat)) : Int) < 3 := by decide
        obtain ⟨va, vc, rfl⟩ := rowForm HS.out.own
        have hcv : (convert 70 9 (.slice (some ⟨wr.heap.size, 0, none⟩) 1 1)).run Tryz.prog (wr.alloc (.cells #[.int .u8 100] 5)) = .ok (.string (mk [100])) (wr.alloc (.cells #[.int .u8 100] 5)) := conv_one wr 100
        obtain ⟨z0, z1, z2, z3, z4⟩ := cells5 HS.out.x
        obtain ⟨b0, b1, b2, b3, b4, b5⟩ := cells6 HS.out.b
        have z11 := fun o => cellB (below_a wr o) z1
        have z41 := fun o => cellB (below_a wr o) z4
        have b51 := cellB ((below_a wr (.cells #[.int .u8 100] 5)).trans ((below_a (wr.alloc (.cells #[.int .u8 100] 5)) (.cells #[.int .i64 6, .string (mk [100]), .string ⟨#[]⟩, .bool false] 72)).mono (by simp))) b5
        have HOW : Hid (∀ o, ((wr.alloc (.cells #[.int .u8 100] 5)).alloc o).ownsRow w.heap.size 72 4 (.slice va 1 vc) 1 (rcs (r5.take 1)) ∧ w.heap.size ≤ ((wr.alloc (.cells #[.int .u8 100] 5)).alloc o).heap.size) := fun o => by
          have hb := (below_a wr (.cells #[.int .u8 100] 5)).trans ((below_a (wr.alloc (.cells #[.int .u8 100] 5)) o).mono (by simp))
          exact ⟨owns_below HS.out.own hb, Nat.le_trans HS.out.bel.size hb.size⟩
        have HA : Hid (∀ w5, ((wr.alloc (.cells #[.int .u8 100] 5)).alloc (.cells #[.int .i64 6, .string (mk [100]), .string ⟨#[]⟩, .bool false] 72)).grownBy w5 (Value.slice va 1 vc).ownBlock → w5.heap[X]? = some (.cells #[.int .i64 2, .int .i64 0, .int .i64 0, .int .i64 0, .string ⟨#[]⟩] 46 (0, 0)) ∧ w5.heap[X + 1]? = some (.cells #[.int .i64 5, .int .i64 3, .int .i64 0, .int .i64 0, .int .i64 0, .slice va 1 vc] 62 (0, 0)) ∧ Below w.heap.size w w5) := fun w5 hg => by
          have hb := (below_a wr (.cells #[.int .u8 100] 5)).trans ((below_a (wr.alloc (.cells #[.int .u8 100] 5)) (.cells #[.int .i64 6, .string (mk [100]), .string ⟨#[]⟩, .bool false] 72)).mono (by simp))
          have hr := owns_below HS.out.own hb
          have hx := (hb.block X (lt_of_block HS.out.x)).trans HS.out.x
          have hbt := (hb.block (X + 1) (lt_of_block HS.out.b)).trans HS.out.b
          refine ⟨(hg.block X (lt_of_block hx) (fun e => ?_)).trans hx, (hg.block (X + 1) (lt_of_block hbt) (fun e => ?_)).trans hbt, (HS.out.bel.trans (hb.mono HS.out.bel.size)).trans (below_grown hr hg (Nat.le_trans HS.out.bel.size hb.size))⟩
          · obtain ⟨_, cs, e'⟩ := rowBlk hr e.symm
            rw [hx] at e'; cases e'
          · obtain ⟨_, cs, e'⟩ := rowBlk hr e.symm
            rw [hbt] at e'; cases e'
        have HN4 : Hid (∀ j u, [Value.int .i64 6, .string (mk [100]), .string ⟨#[]⟩, .bool false][j]? = some u → ((wr.alloc (.cells #[.int .u8 100] 5)).alloc (.cells #[.int .i64 6, .string (mk [100]), .string ⟨#[]⟩, .bool false] 72)).cell? ((⟨wr.heap.size + 1, 0, none⟩ : Addr).add j) = some u) := fun j u hj => by
          have := news4 (wr.alloc (.cells #[.int .u8 100] 5)) _ _ _ _ 72 j u hj
          have e : (wr.alloc (.cells #[.int .u8 100] 5)).heap.size = wr.heap.size + 1 := by simp
          rw [e] at this
          exact this
        clear z0 z2 z3 b0 b1 b2 b3 b4
        go_wp2_with (at_builtin; (refine wpList_append_lies _ rfl _ _ 60 rfl w.heap.size 72 i0 (.agg #[.int .i64 0, .string ⟨#[]⟩, .string ⟨#[]⟩, .bool false]) 4 48 Tryz.underlying60 HI.out.1 HI.out.2.1 HI.out.2.2.1 HI.out.2.2.2 rfl (by decide) (.slice va 1 vc) 1 (rcs (r5.take 1)) rfl (HOW.out _).1 ⟨wr.heap.size + 1, 0, none⟩ 1 1 [.int .i64 6, .string (mk [100]), .string ⟨#[]⟩, .bool false] rfl rfl HN4.out (one4 _ _ _ _) (by decide) (by unfold maxLen; omega) (by omega) (HOW.out _).2 _ rfl ?_); intro g5 cap5 w5 hown hgrow hat hgl; have ha5 := HA.out w5 hgrow; have e5 : w5.cell? ⟨X + 1, 5, none⟩ = some (.slice va 1 vc) := (by simp [World.cell?, ha5.2.1]); have f5 := frozen0 ha5.2.1 5; have HNX := hide (And.intro hown ha5); clear hown hgrow hat hgl ha5)
        have HNM : Hid (MS w (w5.setCell ⟨X + 1, 5, none⟩ (.slice (some ⟨g5, 0, none⟩) 2 cap5)) X (X + 1) 2 (.slice (some ⟨g5, 0, none⟩) 2 cap5)) := by
          obtain ⟨ho, hx, hb, hbe⟩ := HNX.out
          have hne : ∀ j, j ≠ X + 1 → (w5.setCell ⟨X + 1, 5, none⟩ (.slice (some ⟨g5, 0, none⟩) 2 cap5)).heap[j]? = w5.heap[j]? := fun j hj => Below.heap_setCell _ _ _ _ (by simpa using hj)
          have ho' : w5.ownsRow w.heap.size 72 4 (.slice (some ⟨g5, 0, none⟩) 2 cap5) 2 (rcs (r5.take 2)) := ho
          exact ⟨(hne X (by omega)).trans hx, block_set hb, rowKeep ho' (fun g cs e => hne g (by rintro rfl; rw [hb] at e; cases e)), hbe.trans (below_set w5 _ HS.out.hbb), HS.out.hbb⟩
        clear HNX
        go_roundw
        case rel => exact ⟨2, _, rfl, by omega, HNM.out⟩
        case measure => simp [intOf]
      · have hlti : (((2 : Nat)) : Int) < 3 := by decide
        obtain ⟨va, vc, rfl⟩ := rowForm HS.out.own
        have hcv : (convert 70 9 (.slice (some ⟨wr.heap.size, 0, none⟩) 1 1)).run Tryz.prog (wr.alloc (.cells #[.int .u8 98] 5)) = .ok (.string (mk [98])) (wr.alloc (.cells #[.int .u8 98] 5)) := conv_one wr 98
        obtain ⟨z0, z1, z2, z3, z4⟩ := cells5 HS.out.x
        obtain ⟨b0, b1, b2, b3, b4, b5⟩ := cells6 HS.out.b
        have z11 := fun o => cellB (below_a wr o) z1
        have z41 := fun o => cellB (below_a wr o) z4
        have b51 := cellB ((below_a wr (.cells #[.int .u8 98] 5)).trans ((below_a (wr.alloc (.cells #[.int .u8 98] 5)) (.cells #[.int .i64 7, .string (mk [98]), .string ⟨#[]⟩, .bool false] 72)).mono (by simp))) b5
        have HOW : Hid (∀ o, ((wr.alloc (.cells #[.int .u8 98] 5)).alloc o).ownsRow w.heap.size 72 4 (.slice va 2 vc) 2 (rcs (r5.take 2)) ∧ w.heap.size ≤ ((wr.alloc (.cells #[.int .u8 98] 5)).alloc o).heap.size) := fun o => by
          have hb := (below_a wr (.cells #[.int .u8 98] 5)).trans ((below_a (wr.alloc (.cells #[.int .u8 98] 5)) o).mono (by simp))
          exact ⟨owns_below HS.out.own hb, Nat.le_trans HS.out.bel.size hb.size⟩
        have HA : Hid (∀ w5, ((wr.alloc (.cells #[.int .u8 98] 5)).alloc (.cells #[.int .i64 7, .string (mk [98]), .string ⟨#[]⟩, .bool false] 72)).grownBy w5 (Value.slice va 2 vc).ownBlock → w5.heap[X]? = some (.cells #[.int .i64 2, .int .i64 0, .int .i64 0, .int .i64 0, .string ⟨#[]⟩] 46 (0, 0)) ∧ w5.heap[X + 1]? = some (.cells #[.int .i64 5, .int .i64 3, .int .i64 0, .int .i64 0, .int .i64 0, .slice va 2 vc] 62 (0, 0)) ∧ Below w.heap.size w w5) := fun w5 hg => by
          have hb := (below_a wr (.cells #[.int .u8 98] 5)).trans ((below_a (wr.alloc (.cells #[.int .u8 98] 5)) (.cells #[.int .i64 7, .string (mk [98]), .string ⟨#[]⟩, .bool false] 72)).mono (by simp))
          have hr := owns_below HS.out.own hb
          have hx := (hb.block X (lt_of_block HS.out.x)).trans HS.out.x
          have hbt := (hb.block (X + 1) (lt_of_block HS.out.b)).trans HS.out.b
          refine ⟨(hg.block X (lt_of_block hx) (fun e => ?_)).trans hx, (hg.block (X + 1) (lt_of_block hbt) (fun e => ?_)).trans hbt, (HS.out.bel.trans (hb.mono HS.out.bel.size)).trans (below_grown hr hg (Nat.le_trans HS.out.bel.size hb.size))⟩
          · obtain ⟨_, cs, e'⟩ := rowBlk hr e.symm
            rw [hx] at e'; cases e'
          · obtain ⟨_, cs, e'⟩ := rowBlk hr e.symm
            rw [hbt] at e'; cases e'
        have HN4 : Hid (∀ j u, [Value.int .i64 7, .string (mk [98]), .string ⟨#[]⟩, .bool false][j]? = some u → ((wr.alloc (.cells #[.int .u8 98] 5)).alloc (.cells #[.int .i64 7, .string (mk [98]), .string ⟨#[]⟩, .bool false] 72)).cell? ((⟨wr.heap.size + 1, 0, none⟩ : Addr).add j) = some u) := fun j u hj => by
          have := news4 (wr.alloc (.cells #[.int .u8 98] 5)) _ _ _ _ 72 j u hj
          have e : (wr.alloc (.cells #[.int .u8 98] 5)).heap.size = wr.heap.size + 1 := by simp
          rw [e] at this
          exact this
        clear z0 z2 z3 b0 b1 b2 b3 b4
        go_wp2_with (at_builtin; (refine wpList_append_lies _ rfl _ _ 60 rfl w.heap.size 72 i0 (.agg #[.int .i64 0, .string ⟨#[]⟩, .string ⟨#[]⟩, .bool false]) 4 48 Tryz.underlying60 HI.out.1 HI.out.2.1 HI.out.2.2.1 HI.out.2.2.2 rfl (by decide) (.slice va 2 vc) 2 (rcs (r5.take 2)) rfl (HOW.out _).1 ⟨wr.heap.size + 1, 0, none⟩ 1 1 [.int .i64 7, .string (mk [98]), .string ⟨#[]⟩, .bool false] rfl rfl HN4.out (one4 _ _ _ _) (by decide) (by unfold maxLen; omega) (by omega) (HOW.out _).2 _ rfl ?_); intro g5 cap5 w5 hown hgrow hat hgl; have ha5 := HA.out w5 hgrow; have e5 : w5.cell? ⟨X + 1, 5, none⟩ = some (.slice va 2 vc) := (by simp [World.cell?, ha5.2.1]); have f5 := frozen0 ha5.2.1 5; have HNX := hide (And.intro hown ha5); clear hown hgrow hat hgl ha5)
        have HNM : Hid (MS w (w5.setCell ⟨X + 1, 5, none⟩ (.slice (some ⟨g5, 0, none⟩) 3 cap5)) X (X + 1) 3 (.slice (some ⟨g5, 0, none⟩) 3 cap5)) := by
          obtain ⟨ho, hx, hb, hbe⟩ := HNX.out
          have hne : ∀ j, j ≠ X + 1 → (w5.setCell ⟨X + 1, 5, none⟩ (.slice (some ⟨g5, 0, none⟩) 3 cap5)).heap[j]? = w5.heap[j]? := fun j hj => Below.heap_setCell _ _ _ _ (by simpa using hj)
          have ho' : w5.ownsRow w.heap.size 72 4 (.slice (some ⟨g5, 0, none⟩) 3 cap5) 3 (rcs (r5.take 3)) := ho
          exact ⟨(hne X (by omega)).trans hx, block_set hb, rowKeep ho' (fun g cs e => hne g (by rintro rfl; rw [hb] at e; cases e)), hbe.trans (below_set w5 _ HS.out.hbb), HS.out.hbb⟩
        clear HNX
        go_roundw
        case rel => exact ⟨3, _, rfl, by omega, HNM.out⟩
        case measure => simp [intOf]
    · obtain rfl : k = 3 := by omega
      have hlti : ¬ (((3 : Nat)) : Int) < 3 := by decide
      obtain ⟨va, vc, rfl⟩ := rowForm HS.out.own
      obtain ⟨a', c', e', hin⟩ := own_slice (show Own wr w.heap.size (.slice va 3 vc) r5 from HS.out.own)
      obtain ⟨g, rfl, _⟩ : ∃ g, va = some ⟨g, 0, none⟩ ∧ True := by
        rcases HS.out.own.2 with ⟨e, h0⟩ | ⟨g, cap, cur, e, _⟩
        · cases h0
        · cases e; exact ⟨g, rfl, trivial⟩
      have ea : a' = some ⟨g, 0, none⟩ := by cases e'; rfl
      subst ea
      have hBI : BIn wr h5 g 0 r5 := ⟨hin, r5_sized, by decide, by decide, r5_may, fun r hr => by
        have : r = ⟨7, mk [98], ⟨#[]⟩, false⟩ := by cases hr; rfl
        rw [this]; decide⟩
      have HP : Hid (Calls Tryz.prog 34 #[.agg #[.int .i64 5, .int .i64 3, .int .i64 0, .int .i64 0, .int .i64 0, .slice (some ⟨g, 0, none⟩) 3 vc]] wr fun e w' => e = .returned (.tuple #[.string (mk (batL h5 (recsL 5 r5))), .int .i64 0]) ∧ Below wr.heap.size wr w') := plain_ok h5 h5_ok g 0 vc r5 wr hBI rfl r5_len
      obtain ⟨R, hR⟩ : ∃ R, mk (batL h5 (recsL 5 r5)) = R := ⟨_, rfl⟩
      have HRR := hide hR
      rw [hR] at HP
      clear hR
      obtain ⟨z0, z1, z2, z3, z4⟩ := cells5 HS.out.x
      obtain ⟨b0, b1, b2, b3, b4, b5⟩ := cells6 HS.out.b
      clear hBI hin e'
      go_wp2_with fail
      refine HP.out.mono ?_
      rintro e w6 ⟨rfl, hb6⟩
      have HB := hide (HS.out.bel.trans (hb6.mono HS.out.bel.size))
      clear hb6 HP
      go_wp2
      go_ret2
      exact ⟨by rw [HRR.out]; rfl, HB.out⟩
end Go.Proofs.YtmokjopffgmfjaaGreatDoor
namespace Go.Proofs.YtmokjopffgmfjaaGreatDoor
open Go.RowKit
set_option linter.unusedVariables false
set_option maxRecDepth 20000
set_option maxRecDepth 20000

abbrev segN : ByteArray := ⟨#[115, 101, 103]⟩
theorem segN_may : V8.May segN := V8.mayD_ok (by decide)
def p5 : List UInt8 := recsL 5 r5
theorem p5_len : p5.length ≤ 12570 := by
  refine recsL_len _ r5 (comes_mem r5 (h5.base : Nat) ?_)
  have := r5_may
  simp only [Bool.and_eq_true] at this
  exact this.2
theorem r5_comes : comes r5 5 = true := by decide
theorem r5_of : ofO p5 h5.base h5.nrec = some r5 := by
  unfold ofO
  rw [if_pos ⟨by decide, by decide⟩]
  exact ofL_recsL 5 r5 r5_comes (by decide)
theorem bat5 : Bat h5 p5 r5 := ⟨h5_ok, by have := p5_len; omega, r5_of, by decide, fun r hr => by
  simp only [r5, List.mem_cons, List.not_mem_nil, or_false] at hr
  rcases hr with rfl | rfl | rfl <;> exact ⟨by decide, by decide⟩⟩
set_option maxHeartbeats 1000000 in
theorem begun5 (w : World) : Calls Tryz.prog 20 #[.int .i64 5] w fun e w' => ∃ s B, e = .returned (.tuple #[.pointer (some ⟨w.heap.size + 1, 0, none⟩), .pointer (some ⟨s, 0, none⟩), .bool true]) ∧ V8.VD w' w.heap.size (w.heap.size + 1) 4194304 (fun _ => none) 0 0 ∧ SG w' B s (w.heap.size + 1) segN 5 [] ⟨5, 0, 0⟩ ∧ w.heap.size ≤ B ∧ B ≤ w'.heap.size ∧ Below w.heap.size w w' := by
  have HN : Hid (Calls Tryz.prog 7 #[.int .i64 4194304] w fun e w' => e = .returned (.tuple #[.pointer (some ⟨w.heap.size + 1, 0, none⟩), .int .i64 0]) ∧ V8.VD w' w.heap.size (w.heap.size + 1) 4194304 (fun _ => none) 0 0 ∧ Below w.heap.size w w') := V8.new_ok w 4194304 (by decide)
  obtain ⟨D, hD⟩ : ∃ D, w.heap.size + 1 = D := ⟨_, rfl⟩
  rw [hD] at HN ⊢
  clear hD
  go_enter Tryz.func20, Tryz.ntmps20
  go_wp2_with fail
  refine HN.out.mono ?_
  rintro e w1 ⟨rfl, hd1, hb1⟩
  have H1 := hide (And.intro hd1 hb1)
  clear hd1 hb1 HN
  have HO : Hid (Calls Tryz.prog 6 #[.pointer (some ⟨D, 0, none⟩), .string segN, .int .i64 5] w1 fun e w' => ∃ s, e = .returned (.tuple #[.pointer (some ⟨s, 0, none⟩), .int .i64 0, .int .i64 0]) ∧ SG w' w1.heap.size s D segN 5 [] ⟨5, 0, 0⟩ ∧ Below w1.heap.size w1 w') := open_none w1 D 5 segN w.heap.size 4194304 0 0 (fun _ => none) H1.out.1 segN_may rfl (by decide)
  go_wp2_with fail
  refine HO.out.mono ?_
  rintro e w2 ⟨s, rfl, hs2, hb2⟩
  have H2 : Hid (V8.VD w2 w.heap.size D 4194304 (fun _ => none) 0 0 ∧ SG w2 w1.heap.size s D segN 5 [] ⟨5, 0, 0⟩ ∧ w.heap.size ≤ w1.heap.size ∧ w1.heap.size ≤ w2.heap.size ∧ Below w.heap.size w w2) := ⟨H1.out.1.below hb2, hs2, H1.out.2.size, hb2.size, H1.out.2.trans (hb2.mono H1.out.2.size)⟩
  clear hs2 hb2 HO
  go_wp2
  go_ret3
  exact ⟨s, w1.heap.size, rfl, H2.out⟩
set_option maxHeartbeats 2000000 in
theorem awake11 (w : World) (hT : TabF w) : Calls Tryz.prog 16 #[] w fun e w' => e = .returned (.bool true) ∧ Below w.heap.size w w' := by
  have HB := hide (begun5 w)
  have HT := hide hT
  have hlen := p5_len
  have hsz : (mk (batL h5 p5)).size = 39 + p5.length := bat_size h5 p5
  obtain ⟨N, hN⟩ : ∃ N, 39 + p5.length = N := ⟨_, rfl⟩
  have hN1 : N ≤ 1048576 := by omega
  obtain ⟨R, hR⟩ : ∃ R, mk (batL h5 p5) = R := ⟨_, rfl⟩
  rw [hR, hN] at hsz
  have HRN := hide (And.intro hR hN)
  clear hT hlen hR hN
  obtain ⟨D, hD⟩ : ∃ D, w.heap.size + 1 = D := ⟨_, rfl⟩
  rw [hD] at HB
  clear hD
  go_enter Tryz.func16, Tryz.ntmps16
  go_wp2_with fail
  refine HB.out.mono ?_
  rintro e w1 ⟨s, B, rfl, hd1, hs1, hB1, hB2, hb1⟩
  have H1 := hide (And.intro hd1 (And.intro hs1 (And.intro hB1 (And.intro hB2 hb1))))
  clear hd1 hs1 hB1 hB2 hb1 HB
  have HMd : Hid (Calls Tryz.prog 17 #[.agg #[.int .i64 2, .int .i64 0, .int .i64 0, .int .i64 0, .string ⟨#[]⟩], .int .i64 5] w1 fun e w' => e = .returned (.tuple #[.string R, .bool true]) ∧ Below w1.heap.size w1 w') := by
    have h := made5 w1
    rw [← HRN.out.1]
    exact h
  go_wp2_with fail
  refine HMd.out.mono ?_
  rintro e w2 ⟨rfl, hb2⟩
  have H2 : Hid (V8.VD w2 w.heap.size D 4194304 (fun _ => none) 0 0 ∧ SG w2 B s D segN 5 [] ⟨5, 0, 0⟩ ∧ w.heap.size ≤ B ∧ B ≤ w2.heap.size ∧ Below w.heap.size w w2) := ⟨H1.out.1.below hb2, H1.out.2.1.below hb2, H1.out.2.2.1, Nat.le_trans H1.out.2.2.2.1 hb2.size, H1.out.2.2.2.2.trans (hb2.mono H1.out.2.2.2.2.size)⟩
  clear hb2 HMd H1
  have HAp : Hid (Calls Tryz.prog 9 #[.pointer (some ⟨s, 0, none⟩), .string R] w2 fun e w' => e = .returned (.int .i64 0) ∧ SG w' B s D segN 5 [⟨5, 0, 0⟩] ⟨8, N, 1⟩ ∧ V8.VD w' w.heap.size D 4194304 (V8.upd (fun _ => none) segN.data.toList (some (V8.bytesOf R, 0))) 1 (0 + N) ∧ Below w.heap.size w2 w') := by
    have h := sappend_first w2 B w.heap.size w.heap.size s D 5 4194304 0 0 segN (fun _ => none) h5 p5 r5 H2.out.2.1 H2.out.1 segN_may rfl (by decide) (by have := HRN.out.2; omega) bat5 (HT.out.low H2.out.2.2.2.2 HT.out.1) rfl H2.out.2.2.1 (Nat.le_refl _) H2.out.2.2.2.1
    rw [HRN.out.1, HRN.out.2] at h
    exact h
  go_wp2_with fail
  refine HAp.out.mono ?_
  rintro e w3 ⟨rfl, hs3, hd3, hb3⟩
  have H3 : Hid (SG w3 B s D segN 5 [⟨5, 0, 0⟩] ⟨8, N, 1⟩ ∧ V8.VD w3 w.heap.size D 4194304 (V8.upd (fun _ => none) segN.data.toList (some (V8.bytesOf R, 0))) 1 (0 + N) ∧ Below w.heap.size w w3) := ⟨hs3, hd3, H2.out.2.2.2.2.trans hb3⟩
  clear hs3 hd3 hb3 HAp H2
  have HAo : Hid (Calls Tryz.prog 9 #[.pointer (some ⟨s, 0, none⟩), .string R] w3 fun e w' => e = .returned (.int .i64 110) ∧ Below w3.heap.size w3 w') := by
    have h := sappend_order w3 B s D 5 segN [⟨5, 0, 0⟩] ⟨8, N, 1⟩ h5 p5 r5 H3.out.1 bat5 (HT.out.low H3.out.2.2 HT.out.1) (show (5 : Nat) ≠ 8 by decide)
    rw [HRN.out.1] at h
    exact h
  go_wp2_with fail
  refine HAo.out.mono ?_
  rintro e w4 ⟨rfl, hb4⟩
  have H4 : Hid (SG w4 B s D segN 5 [⟨5, 0, 0⟩] ⟨8, N, 1⟩ ∧ V8.VD w4 w.heap.size D 4194304 (V8.upd (fun _ => none) segN.data.toList (some (V8.bytesOf R, 0))) 1 (0 + N) ∧ Below w.heap.size w w4) := ⟨H3.out.1.below hb4, H3.out.2.1.below hb4, H3.out.2.2.trans (hb4.mono H3.out.2.2.size)⟩
  clear hb4 HAo H3
  have HBa : Hid (Calls Tryz.prog 8 #[.pointer (some ⟨s, 0, none⟩), .int .i64 7] w4 fun e w' => e = .returned (.tuple #[.string R, .int .i64 0]) ∧ Below w4.heap.size w4 w') := by
    have h := batch_one w4 B w.heap.size s D 5 4194304 1 (0 + N) 0 segN (V8.upd (fun _ => none) segN.data.toList (some (V8.bytesOf R, 0))) h5 p5 (by rw [HRN.out.2]; exact H4.out.1) H4.out.2.1 segN_may (by rw [HRN.out.1]; exact if_pos rfl) h5_ok bat5.hp (HT.out.low H4.out.2.2 HT.out.1) rfl 7 (by decide) (by decide)
    rw [HRN.out.1] at h
    exact h
  go_wp2_with fail
  refine HBa.out.mono ?_
  rintro e w5 ⟨rfl, hb5⟩
  have H5 : Hid (SG w5 B s D segN 5 [⟨5, 0, 0⟩] ⟨8, N, 1⟩ ∧ Below w.heap.size w w5) := ⟨H4.out.1.below hb5, H4.out.2.2.trans (hb5.mono H4.out.2.2.size)⟩
  clear hb5 HBa H4
  have HE : Hid (Calls Tryz.prog 13 #[.pointer (some ⟨s, 0, none⟩)] w5 fun e w' => e = .returned (.int .i64 8) ∧ w' = w5) := sEnd_ok w5 B s D 5 segN _ _ H5.out.1
  have HBs : Hid (Calls Tryz.prog 12 #[.pointer (some ⟨s, 0, none⟩)] w5 fun e w' => e = .returned (.int .i64 5) ∧ w' = w5) := sBase_ok w5 B s D 5 segN _ _ H5.out.1
  have HLn : Hid (Calls Tryz.prog 15 #[.pointer (some ⟨s, 0, none⟩)] w5 fun e w' => e = .returned (.int .i64 1) ∧ w' = w5) := sLen_ok w5 B s D 5 segN _ _ H5.out.1
  have HSz : Hid (Calls Tryz.prog 14 #[.pointer (some ⟨s, 0, none⟩)] w5 fun e w' => e = .returned (.int .i64 (N : Nat)) ∧ w' = w5) := sSize_ok w5 B s D 5 segN _ _ H5.out.1
  have heq : ((N : Int) == (R.size : Int)) = true := by rw [hsz]; simp
  clear hsz
  go_wp2_with fail
  refine HE.out.mono ?_
  rintro e W ⟨rfl, hW⟩
  obtain rfl := hW.symm
  clear hW HE
  go_wp2_with fail
  refine HBs.out.mono ?_
  rintro e W ⟨rfl, hW⟩
  obtain rfl := hW.symm
  clear hW HBs
  go_wp2_with fail
  refine HLn.out.mono ?_
  rintro e W ⟨rfl, hW⟩
  obtain rfl := hW.symm
  clear hW HLn
  go_wp2_with fail
  refine HSz.out.mono ?_
  rintro e W ⟨rfl, hW⟩
  obtain rfl := hW.symm
  clear hW HSz
  go_wp2
  go_ret
  exact ⟨rfl, H5.out.2⟩
end Go.Proofs.YtmokjopffgmfjaaGreatDoor
