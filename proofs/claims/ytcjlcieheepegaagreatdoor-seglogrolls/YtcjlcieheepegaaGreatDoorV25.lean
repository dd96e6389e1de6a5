/- Layer 11: find and Batch of a segment that has one batch. -/
/- Layer 11: a batch by the recipe of 'awake' (postroadbook.Made): three records from 5 on. -/
/- Layer 11: begun and awake. -/
/- Layer 11: batches by recipes, and chains of batches: the plain mathematics. -/
/- Layer 11: chains of batches: bases, bytes, places. -/
/- Layer 11: the document's Head of a batch by no codec. -/
/- Layer 11: the document's Head, End, Having of batches by no codec. -/
/- Layer 11: what take turns (TK), and take of any segment. -/
import Derived.Test.YtcjlcieheepegaaGreatDoorV24
import Derived.WalkMore
import Derived.Test.YtcjlcieheepegaaGreatDoorV19
import Derived.Test.YtcjlcieheepegaaGreatDoorV23
namespace Go.Proofs.YtcjlcieheepegaaGreatDoor
open Go.RowKit
set_option linter.unusedVariables false
set_option maxRecDepth 20000
set_option maxRecDepth 20000

set_option maxHeartbeats 4000000 in
theorem find_one (w : World) (B Bd s d base room cnt us y : Nat) (nm : ByteArray) (F : List UInt8 → Option (List Nat × Nat)) (h : HN) (p : List UInt8) (hS : SG w B s d nm base [⟨base, 0, 0⟩] ⟨base + h.cnt, 39 + p.length, 1⟩) (hD : V8.VD w Bd d room F cnt us) (hm : V8.May nm) (hF : F nm.data.toList = some (V8.bytesOf (mk (batL h p)), y)) (ok : h.OK) (hp : 29 + p.length ≤ 262144) (hT : TabF w) (hbase : h.base = base) (o : Nat) (ho1 : base ≤ o) (ho2 : o < base + h.cnt) :
    Calls Tryz.prog 42 #[.pointer (some ⟨s, 0, none⟩), .int .i64 (o : Nat)] w fun e w' => e = .returned (.tuple #[.agg #[.int .i64 (base : Nat), .int .i64 0, .int .i64 0], .string (mk (batL h p)), .int .i64 0]) ∧ Below w.heap.size w w' := by
  have hsz := bat_size h p
  obtain ⟨N, hN⟩ : ∃ N, 39 + p.length = N := ⟨_, rfl⟩
  have hN1 : N ≤ 1048576 := by omega
  have HAf := hide (fun W ao ln cp => after_ok ⟨base, 0, 0⟩ h ok ao ln cp N W (Nat.zero_le _) (Nat.zero_le _) hN1)
  have HHd := hide (fun W (hW : TabF W) => head_ok h ok p [] W hW hp (by simp))
  rw [List.append_nil, hN] at HHd
  rw [hN] at hS hsz
  have hex : (mk (batL h p)).extract 0 N = mk (batL h p) := by rw [extract_take, List.take_of_length_le (by rw [batL_length]; omega)]
  obtain ⟨b, hbb⟩ : ∃ b, mk (batL h p) = b := ⟨_, rfl⟩
  rw [hbb] at HHd hF hsz hex ⊢
  have HEX := hide hex
  clear hex
  have HRd := hide (fun W (hW : V8.VD W Bd d room F cnt us) => V8.read_some W Bd d room cnt us F hW nm hm _ y hF N (by rw [V8.bytesOf_length, hsz]; exact Nat.le_refl _))
  have htk : V8.toBA ((V8.bytesOf b).take N) = b := by
    rw [List.take_of_length_le (by rw [V8.bytesOf_length, hsz]; exact Nat.le_refl _), V8.toBA_bytesOf]
  rw [htk] at HRd
  have HH := hide (And.intro hS (And.intro hD hT))
  have HAr := hide (fun W (hW : SG W B s d nm base [⟨base, 0, 0⟩] ⟨base + h.cnt, N, 1⟩) => around_one W B s d base nm ⟨base, 0, 0⟩ ⟨base + h.cnt, N, 1⟩ hW (o : Nat))
  obtain ⟨xb, xc, xv, xp, xs, xn⟩ := h
  simp only at hbase ho2
  unfold HN.bv at HAf HHd
  simp only [Pl.v, Nat.zero_add] at HAf HHd HAr
  subst hbase
  obtain ⟨q1, hq1⟩ : ∃ q, xb + xc = q := ⟨_, rfl⟩
  simp only at HH
  rw [hq1] at HAf HAr HH ho2
  have e0 : ((0 : Nat) : Int) = 0 := rfl
  have e1 : ((1 : Nat) : Int) = 1 := rfl
  rw [e0] at HAf HAr
  rw [e1] at HAf HAr
  have g1 : ¬ (o : Int) < (xb : Int) := by omega
  have g2 : ¬ (q1 : Int) ≤ (o : Int) := by omega
  have g3 : (o : Int) < (q1 : Int) := by omega
  have hNs : N ≤ b.size := by omega
  clear hS hD hm hF ok hp hT hsz htk hbb hN hq1 ho1 ho2 e0 e1
  obtain ⟨X, hX⟩ : ∃ X, w.heap.size = X := ⟨_, rfl⟩
  have hba := below_a w (.cells #[.int .i64 0, .int .i64 0, .int .i64 0] 68)
  have H1 := hide (And.intro (HH.out.1.below hba) (And.intro hba (heap_alloc_new w (.cells #[.int .i64 0, .int .i64 0, .int .i64 0] 68))))
  rw [hX] at H1
  have HX := hide hX
  clear hba
  go_enter Tryz.func42, Tryz.ntmps42
  go_upto_region 1 with fail
  try rw [hX]
  generalize (w.alloc (.cells #[.int .i64 0, .int .i64 0, .int .i64 0] 68)) = w1 at H1
  clear hX
  obtain ⟨c0, c1, c2, c3, c5, c6, c7⟩ := H1.out.1.cells
  simp only at c5 c6 c7
  clear c0 c6 c7
  go_step3
  go_wp2_with fail
  refine (HAr.out w1 H1.out.1).mono ?_
  rintro e w2 ⟨rfl, hb2⟩
  clear c1 c2 c3 c5
  have HG3 : Hid (SG ((w2.alloc (.cells #[.int .i64 (xb : Nat), .int .i64 0, .int .i64 0] 68)).alloc (.cells #[.int .i64 (q1 : Nat), .int .i64 (N : Nat), .int .i64 1] 68)) B s d nm xb [⟨xb, 0, 0⟩] ⟨q1, N, 1⟩ ∧ Below X w ((w2.alloc (.cells #[.int .i64 (xb : Nat), .int .i64 0, .int .i64 0] 68)).alloc (.cells #[.int .i64 (q1 : Nat), .int .i64 (N : Nat), .int .i64 1] 68)) ∧ ((w2.alloc (.cells #[.int .i64 (xb : Nat), .int .i64 0, .int .i64 0] 68)).alloc (.cells #[.int .i64 (q1 : Nat), .int .i64 (N : Nat), .int .i64 1] 68)).heap[X]? = some (.cells #[.int .i64 0, .int .i64 0, .int .i64 0] 68 (0, 0)) ∧ ((w2.alloc (.cells #[.int .i64 (xb : Nat), .int .i64 0, .int .i64 0] 68)).alloc (.cells #[.int .i64 (q1 : Nat), .int .i64 (N : Nat), .int .i64 1] 68)).heap[w2.heap.size]? = some (.cells #[.int .i64 (xb : Nat), .int .i64 0, .int .i64 0] 68 (0, 0)) ∧ ((w2.alloc (.cells #[.int .i64 (xb : Nat), .int .i64 0, .int .i64 0] 68)).alloc (.cells #[.int .i64 (q1 : Nat), .int .i64 (N : Nat), .int .i64 1] 68)).heap[w2.heap.size + 1]? = some (.cells #[.int .i64 (q1 : Nat), .int .i64 (N : Nat), .int .i64 1] 68 (0, 0)) ∧ X < w2.heap.size) := by
    have hba := below_a w2 (.cells #[.int .i64 (xb : Nat), .int .i64 0, .int .i64 0] 68)
    have hbb := below_a (w2.alloc (.cells #[.int .i64 (xb : Nat), .int .i64 0, .int .i64 0] 68)) (.cells #[.int .i64 (q1 : Nat), .int .i64 (N : Nat), .int .i64 1] 68)
    have hsz : (w2.alloc (.cells #[.int .i64 (xb : Nat), .int .i64 0, .int .i64 0] 68)).heap.size = w2.heap.size + 1 := by simp
    have hl := lt_of_block H1.out.2.2
    have hl2 : X < w2.heap.size := Nat.lt_of_lt_of_le hl hb2.size
    refine ⟨((H1.out.1.below hb2).below hba).below hbb, ((H1.out.2.1.trans (hb2.mono (Nat.le_of_lt hl))).trans (hba.mono (Nat.le_of_lt hl2))).trans (hbb.mono (by rw [hsz]; omega)), ?_, ?_, ?_, hl2⟩
    · exact (hbb.block X (by rw [hsz]; omega)).trans ((hba.block X hl2).trans ((hb2.block X hl).trans H1.out.2.2))
    · exact (hbb.block _ (by rw [hsz]; omega)).trans (heap_alloc_new w2 _)
    · rw [← hsz]; exact heap_alloc_new _ _
  clear hb2 HAr
  obtain ⟨Y, hY⟩ : ∃ Y, w2.heap.size = Y := ⟨_, rfl⟩
  rw [hY] at HG3
  go_upto_region 4 with fail
  try rw [hY]
  generalize ((w2.alloc (.cells #[.int .i64 (xb : Nat), .int .i64 0, .int .i64 0] 68)).alloc (.cells #[.int .i64 (q1 : Nat), .int .i64 (N : Nat), .int .i64 1] 68)) = w3 at HG3
  clear hY
  obtain ⟨c0, c1, c2, c3, c5, c6, c7⟩ := HG3.out.1.cells
  obtain ⟨y0, y1, y2⟩ := cellsP3 HG3.out.2.2.2.1
  obtain ⟨v0, v1, v2⟩ := cellsP3 HG3.out.2.2.2.2.1
  have d1 := cellB (belD w3) c1
  have d2 := cellB (belD w3) c2
  have d3 := cellB (belD w3) y1
  have d4 := cellB (belD w3) v1
  have HRd'' := hide (HRd.out w3.drew ((HH.out.2.1.below (by rw [HX.out]; exact HG3.out.2.1)).below (belD w3)))
  have HRd' : Hid (∀ x : Int, x = (N : Int) → Calls Tryz.prog 61 #[.pointer (some ⟨d, 0, none⟩), .string nm, .int .i64 0, .int .i64 x] w3.drew fun e w' => e = .returned (.tuple #[.string b, .int .i64 0]) ∧ w' = w3.drew) := fun x hx => by rw [hx]; exact HRd''.out
  have HW1 : Hid (IntKind.i64.wrap (N : Int) = (N : Int)) := by show IntKind.i64.wrap _ = _; rw [IntKind.wrap_i64]; omega
  have HW2 : Hid (wrap64 ((N : Int) - 0) = (N : Int)) := by show wrap64 _ = _; unfold wrap64; omega
  have HW3 : Hid ((N : Int) - 0 = (N : Int)) := Int.sub_zero _
  have HW4 : Hid ((N : Int) = (N : Int)) := rfl
  clear c0 c1 c2 c3 c5 c6 c7 y0 y1 y2 v0 v1 v2 HRd
  go_region_held_law (fun w' => w'.cell? ⟨s, 1, none⟩ = some (.pointer (some ⟨d, 0, none⟩)) ∧ w'.cell? ⟨s, 2, none⟩ = some (.string nm) ∧ w'.cell? ⟨Y, 1, none⟩ = some (.int .i64 0) ∧ w'.cell? ⟨Y + 1, 1, none⟩ = some (.int .i64 (N : Nat)))
    (first | exact ⟨d1, d2, d3, d4⟩ | go_keep)
    (first | (go_at_call 61; (first | with_reducible refine (HRd'.out _ HW1.out).mono ?_ | with_reducible refine (HRd'.out _ HW2.out).mono ?_ | with_reducible refine (HRd'.out _ HW3.out).mono ?_ | with_reducible refine (HRd'.out _ HW4.out).mono ?_); rintro e W ⟨rfl, rfl⟩))
  have H4 : Hid (Below X w w3.drew ∧ w3.drew.heap[X]? = some (.cells #[.int .i64 0, .int .i64 0, .int .i64 0] 68 (0, 0)) ∧ w3.drew.heap[Y]? = some (.cells #[.int .i64 (xb : Nat), .int .i64 0, .int .i64 0] 68 (0, 0)) ∧ X < Y) := ⟨HG3.out.2.1.trans ((belD w3).mono (Nat.le_of_lt (lt_of_block HG3.out.2.2.1))), HG3.out.2.2.1, HG3.out.2.2.2.1, HG3.out.2.2.2.2.2⟩
  clear d1 d2 d3 d4 HRd' HRd'' HW1 HW2 HW3 HW4 HG3
  generalize w3.drew = w4 at H4
  go_wp2
  go_step3
  go_wp2
  go_loopw [9] (fun v wr => v = .string b ∧ wr = w4) (fun _ _ => 0)
  case atStart => exact ⟨rfl, rfl⟩
  case round =>
    obtain ⟨rfl, rfl⟩ := hrel
    have HHd' := hide (HHd.out wr (HH.out.2.2.new (by rw [HX.out]; exact H4.out.1)))
    go_wp2_with fail
    refine HHd'.out.mono ?_
    rintro e w5 ⟨rfl, hb5⟩
    obtain ⟨U, hU⟩ : ∃ U, w5.heap.size = U := ⟨_, rfl⟩
    have H5 : Hid (Below X w (w5.alloc (.cells #[.int .i64 (xb : Nat), .int .i64 (xc : Nat), .int .i64 (xv : Nat), .int .i64 (xp : Nat), .int .i64 (xs : Nat), .slice none 0 0] 46)) ∧ (w5.alloc (.cells #[.int .i64 (xb : Nat), .int .i64 (xc : Nat), .int .i64 (xv : Nat), .int .i64 (xp : Nat), .int .i64 (xs : Nat), .slice none 0 0] 46)).heap[X]? = some (.cells #[.int .i64 0, .int .i64 0, .int .i64 0] 68 (0, 0)) ∧ (w5.alloc (.cells #[.int .i64 (xb : Nat), .int .i64 (xc : Nat), .int .i64 (xv : Nat), .int .i64 (xp : Nat), .int .i64 (xs : Nat), .slice none 0 0] 46)).heap[Y]? = some (.cells #[.int .i64 (xb : Nat), .int .i64 0, .int .i64 0] 68 (0, 0)) ∧ (w5.alloc (.cells #[.int .i64 (xb : Nat), .int .i64 (xc : Nat), .int .i64 (xv : Nat), .int .i64 (xp : Nat), .int .i64 (xs : Nat), .slice none 0 0] 46)).heap[U]? = some (.cells #[.int .i64 (xb : Nat), .int .i64 (xc : Nat), .int .i64 (xv : Nat), .int .i64 (xp : Nat), .int .i64 (xs : Nat), .slice none 0 0] 46 (0, 0)) ∧ X < Y) := by
      have hba := below_a w5 (.cells #[.int .i64 (xb : Nat), .int .i64 (xc : Nat), .int .i64 (xv : Nat), .int .i64 (xp : Nat), .int .i64 (xs : Nat), .slice none 0 0] 46)
      have hX4 := lt_of_block H4.out.2.1
      have hY4 := lt_of_block H4.out.2.2.1
      refine ⟨(H4.out.1.trans (hb5.mono (Nat.le_of_lt hX4))).trans (hba.mono (Nat.le_trans (Nat.le_of_lt hX4) hb5.size)), ?_, ?_, by rw [← hU]; exact heap_alloc_new _ _, H4.out.2.2.2⟩
      · exact (hba.block X (Nat.lt_of_lt_of_le hX4 hb5.size)).trans ((hb5.block X hX4).trans H4.out.2.1)
      · exact (hba.block Y (Nat.lt_of_lt_of_le hY4 hb5.size)).trans ((hb5.block Y hY4).trans H4.out.2.2.1)
    clear hb5 HHd'
    go_upto_region 6 with fail
    try rw [hU]
    generalize (w5.alloc (.cells #[.int .i64 (xb : Nat), .int .i64 (xc : Nat), .int .i64 (xv : Nat), .int .i64 (xp : Nat), .int .i64 (xs : Nat), .slice none 0 0] 46)) = w6 at H5
    clear hU
    obtain ⟨y0, y1, y2⟩ := cellsP3 H5.out.2.2.1
    obtain ⟨z0, z1, z2, z3, z4, z5⟩ := cells6 H5.out.2.2.2.1
    go_wp2_with fail
    refine (HAf.out w6 none 0 0).mono ?_
    rintro e w7 ⟨rfl, hb7⟩
    obtain ⟨Z, hZ⟩ : ∃ Z, w7.heap.size = Z := ⟨_, rfl⟩
    have H7 : Hid (Below X w (w7.alloc (.cells #[.int .i64 (q1 : Nat), .int .i64 (N : Nat), .int .i64 1] 68)) ∧ (w7.alloc (.cells #[.int .i64 (q1 : Nat), .int .i64 (N : Nat), .int .i64 1] 68)).heap[X]? = some (.cells #[.int .i64 0, .int .i64 0, .int .i64 0] 68 (0, 0)) ∧ (w7.alloc (.cells #[.int .i64 (q1 : Nat), .int .i64 (N : Nat), .int .i64 1] 68)).heap[Y]? = some (.cells #[.int .i64 (xb : Nat), .int .i64 0, .int .i64 0] 68 (0, 0)) ∧ (w7.alloc (.cells #[.int .i64 (q1 : Nat), .int .i64 (N : Nat), .int .i64 1] 68)).heap[U]? = some (.cells #[.int .i64 (xb : Nat), .int .i64 (xc : Nat), .int .i64 (xv : Nat), .int .i64 (xp : Nat), .int .i64 (xs : Nat), .slice none 0 0] 46 (0, 0)) ∧ (w7.alloc (.cells #[.int .i64 (q1 : Nat), .int .i64 (N : Nat), .int .i64 1] 68)).heap[Z]? = some (.cells #[.int .i64 (q1 : Nat), .int .i64 (N : Nat), .int .i64 1] 68 (0, 0)) ∧ X < Y) := by
      have hba := below_a w7 (.cells #[.int .i64 (q1 : Nat), .int .i64 (N : Nat), .int .i64 1] 68)
      have hX6 := lt_of_block H5.out.2.1
      have hY6 := lt_of_block H5.out.2.2.1
      have hU6 := lt_of_block H5.out.2.2.2.1
      refine ⟨(H5.out.1.trans (hb7.mono (Nat.le_of_lt hX6))).trans (hba.mono (Nat.le_trans (Nat.le_of_lt hX6) hb7.size)), ?_, ?_, ?_, by rw [← hZ]; exact heap_alloc_new _ _, H5.out.2.2.2.2⟩
      · exact (hba.block X (Nat.lt_of_lt_of_le hX6 hb7.size)).trans ((hb7.block X hX6).trans H5.out.2.1)
      · exact (hba.block Y (Nat.lt_of_lt_of_le hY6 hb7.size)).trans ((hb7.block Y hY6).trans H5.out.2.2.1)
      · exact (hba.block U (Nat.lt_of_lt_of_le hU6 hb7.size)).trans ((hb7.block U hU6).trans H5.out.2.2.2.1)
    clear hb7 y0 y1 y2 z0 z1 z2 z3 z4 z5 H5
    go_upto_region 7 with fail
    try rw [hZ]
    generalize (w7.alloc (.cells #[.int .i64 (q1 : Nat), .int .i64 (N : Nat), .int .i64 1] 68)) = w8 at H7
    clear hZ
    obtain ⟨y0, y1, y2⟩ := cellsP3 H7.out.2.2.1
    obtain ⟨z0, z1, z2, z3, z4, z5⟩ := cells6 H7.out.2.2.2.1
    obtain ⟨u0, u1, u2⟩ := cellsP3 H7.out.2.2.2.2.1
    obtain ⟨x0, x1, x2⟩ := cellsP3 H7.out.2.1
    have fx := frozen0 H7.out.2.1
    go_upto_region 9 with fail
    go_region
    go_wp2
    try rw [Exit.noGoto_ret]
    refine bodyPost_ret (v := ?v) ?c1 rfl ?c2
    case c1 =>
      rw [results_cell_tmp2 rfl]
      go_simp
      exact rfl
    case c2 =>
      refine ⟨by rw [HEX.out], ?_⟩
      rw [HX.out]
      exact bl_drew.2 (((H7.out.1.trans (below_set w8 _ (Nat.le_refl _))).trans (below_set _ _ (Nat.le_refl _))).trans (below_set _ _ (Nat.le_refl _)))
set_option maxHeartbeats 1000000 in
theorem batch_one (w : World) (B Bd s d base room cnt us y : Nat) (nm : ByteArray) (F : List UInt8 → Option (List Nat × Nat)) (h : HN) (p : List UInt8) (hS : SG w B s d nm base [⟨base, 0, 0⟩] ⟨base + h.cnt, 39 + p.length, 1⟩) (hD : V8.VD w Bd d room F cnt us) (hm : V8.May nm) (hF : F nm.data.toList = some (V8.bytesOf (mk (batL h p)), y)) (ok : h.OK) (hp : 29 + p.length ≤ 262144) (hT : TabF w) (hbase : h.base = base) (o : Nat) (ho1 : base ≤ o) (ho2 : o < base + h.cnt) :
    Calls Tryz.prog 25 #[.pointer (some ⟨s, 0, none⟩), .int .i64 (o : Nat)] w fun e w' => e = .returned (.tuple #[.string (mk (batL h p)), .int .i64 0]) ∧ Below w.heap.size w w' := by
  have HG := hide (sgiven_yes s w hS.cells.1)
  have HFi := hide (find_one w B Bd s d base room cnt us y nm F h p hS hD hm hF ok hp hT hbase o ho1 ho2)
  have HC := hide (fun W => V8.clone (mk (batL h p)) W (by rw [bat_size]; omega))
  obtain ⟨b, hbb⟩ : ∃ b, mk (batL h p) = b := ⟨_, rfl⟩
  rw [hbb] at HFi HC ⊢
  clear hS hD hm hF ok hp hT hbase ho1 ho2 hbb
  go_enter Tryz.func25, Tryz.ntmps25
  go_wp2_with fail
  refine HG.out.mono ?_
  rintro e W ⟨rfl, hW⟩
  obtain rfl := hW.symm
  clear HG hW
  go_wp2_with fail
  refine HFi.out.mono ?_
  rintro e w1 ⟨rfl, hb1⟩
  have H1 := hide (hb1.alloc hb1.size (.cells #[.int .i64 (base : Nat), .int .i64 0, .int .i64 0] 68))
  clear hb1 HFi
  go_upto_region 4 with fail
  generalize (w1.alloc (.cells #[.int .i64 (base : Nat), .int .i64 0, .int .i64 0] 68)) = w2 at H1
  go_wp2_with fail
  refine (HC.out w2).mono ?_
  rintro e w3 ⟨rfl, hb3⟩
  have H3 := hide (H1.out.trans (hb3.mono H1.out.size))
  clear hb3 HC
  go_wp2
  go_ret2
  exact ⟨rfl, H3.out⟩
end Go.Proofs.YtcjlcieheepegaaGreatDoor
namespace Go.Proofs.YtcjlcieheepegaaGreatDoor
open Go.RowKit
set_option linter.unusedVariables false
set_option maxRecDepth 20000
set_option maxRecDepth 20000

def r5 : List Rec := [⟨5, mk [97], ⟨#[]⟩, false⟩, ⟨6, mk [100], ⟨#[]⟩, false⟩, ⟨7, mk [98], ⟨#[]⟩, false⟩]
def h5 : HN := ⟨5, 3, 0, 0, 0, 3⟩
theorem h5_ok : h5.OK := ⟨by decide, by decide, by decide, by decide, by decide, by decide, by decide⟩
theorem r5_may : (offB (h5.base : Nat) && comes r5 (h5.base : Nat)) = true := by decide
theorem r5_sized : Sized r5 := fun r hr => by
  simp only [r5, List.mem_cons, List.not_mem_nil, or_false] at hr
  rcases hr with rfl | rfl | rfl <;> exact ⟨by decide, by decide⟩
theorem r5_len : (recsL (h5.base : Nat) r5).length ≤ 262115 := by
  refine Nat.le_trans (recsL_len _ r5 (comes_mem r5 (h5.base : Nat) ?_)) (by decide)
  have := r5_may
  simp only [Bool.and_eq_true] at this
  exact this.2
abbrev rcp5 : Value := .agg #[.int .i64 2, .int .i64 0, .int .i64 0, .int .i64 0, .string ⟨#[]⟩]
structure MS (w wr : World) (X bb k : Nat) (v : Value) : Prop where
  x : wr.heap[X]? = some (.cells #[.int .i64 2, .int .i64 0, .int .i64 0, .int .i64 0, .string ⟨#[]⟩] 30 (0, 0))
  b : wr.heap[bb]? = some (.cells #[.int .i64 5, .int .i64 3, .int .i64 0, .int .i64 0, .int .i64 0, v] 46 (0, 0))
  own : wr.ownsRow w.heap.size 49 4 v k (rcs (r5.take k))
  bel : Below w.heap.size w wr
  hbb : w.heap.size ≤ bb
theorem cells5 {w : World} {b : Nat} {t : TypeId} {a0 a1 a2 a3 a4 : Value} (h : w.heap[b]? = some (.cells #[a0, a1, a2, a3, a4] t (0, 0))) : w.cell? ⟨b, 0, none⟩ = some a0 ∧ w.cell? ⟨b, 1, none⟩ = some a1 ∧ w.cell? ⟨b, 2, none⟩ = some a2 ∧ w.cell? ⟨b, 3, none⟩ = some a3 ∧ w.cell? ⟨b, 4, none⟩ = some a4 := by
  simp [World.cell?, h]
theorem conv_one (w : World) (n : UInt8) : (convert 47 9 (.slice (some ⟨w.heap.size, 0, none⟩) 1 1)).run Tryz.prog (w.alloc (.cells #[.int .u8 (n.toNat : Nat)] 5)) = .ok (.string (mk [n])) (w.alloc (.cells #[.int .u8 (n.toNat : Nat)] 5)) :=
  conv_mk _ 0 _ [n] ⟨rfl, .inr ⟨w.heap.size, 1, #[.int .u8 (n.toNat : Nat)], rfl, Nat.zero_le _, heap_alloc_new _ _, Nat.le_refl _, by decide, rfl, rfl⟩⟩
set_option maxHeartbeats 4000000 in
theorem made5 (w : World) : Calls Tryz.prog 6 #[rcp5, .int .i64 5] w fun e w' => e = .returned (.tuple #[.string (mk (batL h5 (recsL 5 r5))), .bool true]) ∧ Below w.heap.size w w' := by
  obtain ⟨i0, hi, hz0, hz1, hz2⟩ := info_split recInfo
  have HI : Hid (Tryz.prog.info? 49 = some i0 ∧ i0.zero = some (.agg #[.int .i64 0, .string ⟨#[]⟩, .string ⟨#[]⟩, .bool false]) ∧ i0.size = 4 ∧ i0.bytes = 48) := ⟨hi, hz0, hz1, hz2⟩
  clear hi hz0 hz1 hz2
  have q1 : bits .and .i64 2 7 = 2 := by decide
  have q2 : bits .and .i64 0 255 = 0 := by decide
  have q3 : bits .and .i64 0 65535 = 0 := by decide
  have q4 : bits .and .i64 0 7 = 0 := by decide
  obtain ⟨X, hX⟩ : ∃ X, w.heap.size = X := ⟨_, rfl⟩
  have hba := below_a w (.cells #[.int .i64 2, .int .i64 0, .int .i64 0, .int .i64 0, .string ⟨#[]⟩] 30)
  have hbb := below_a (w.alloc (.cells #[.int .i64 2, .int .i64 0, .int .i64 0, .int .i64 0, .string ⟨#[]⟩] 30)) (.cells #[.int .i64 5, .int .i64 3, .int .i64 0, .int .i64 0, .int .i64 0, .slice none 0 0] 46)
  have hsz : (w.alloc (.cells #[.int .i64 2, .int .i64 0, .int .i64 0, .int .i64 0, .string ⟨#[]⟩] 30)).heap.size = w.heap.size + 1 := by simp
  have HM : Hid (MS w ((w.alloc (.cells #[.int .i64 2, .int .i64 0, .int .i64 0, .int .i64 0, .string ⟨#[]⟩] 30)).alloc (.cells #[.int .i64 5, .int .i64 3, .int .i64 0, .int .i64 0, .int .i64 0, .slice none 0 0] 46)) w.heap.size (w.heap.size + 1) 0 (.slice none 0 0)) :=
    ⟨(hbb.block _ (by rw [hsz]; omega)).trans (heap_alloc_new _ _), by rw [← hsz]; exact heap_alloc_new _ _, ⟨rfl, .inl ⟨rfl, rfl⟩⟩, hba.trans (hbb.mono hba.size), Nat.le_succ _⟩
  clear hba hbb hsz
  rw [hX] at HM
  go_enter Tryz.func6, Tryz.ntmps6
  go_upto_region 3 with fail
  try rw [hX]
  generalize ((w.alloc (.cells #[.int .i64 2, .int .i64 0, .int .i64 0, .int .i64 0, .string ⟨#[]⟩] 30)).alloc (.cells #[.int .i64 5, .int .i64 3, .int .i64 0, .int .i64 0, .int .i64 0, .slice none 0 0] 46)) = w1 at HM
  have HX := hide hX
  clear hX
  go_wp2
  go_loopw [8] (fun i wr => ∃ (k : Nat) (v : Value), i = .int .i64 (k : Nat) ∧ k ≤ 3 ∧ MS w wr X (X + 1) k v) (fun i _ => 3 - (intOf i).toNat)
  case atStart => exact ⟨0, _, rfl, by omega, HM.out⟩
  case round =>
    obtain ⟨k, v, rfl, hk, hms⟩ := hrel
    have HS := hide hms
    clear hms HM
    by_cases hlt : k < 3
    · obtain rfl | rfl | rfl : k = 0 ∨ k = 1 ∨ k = 2 := by omega
      · have hlti : (((0 : Nat)) : Int) < 3 := by decide
        obtain ⟨va, vc, rfl⟩ := rowForm HS.out.own
        have hcv : (convert 47 9 (.slice (some ⟨wr.heap.size, 0, none⟩) 1 1)).run Tryz.prog (wr.alloc (.cells #[.int .u8 97] 5)) = .ok (.string (mk [97])) (wr.alloc (.cells #[.int .u8 97] 5)) := conv_one wr 97
        obtain ⟨z0, z1, z2, z3, z4⟩ := cells5 HS.out.x
        obtain ⟨b0, b1, b2, b3, b4, b5⟩ := cells6 HS.out.b
        have z11 := fun o => cellB (below_a wr o) z1
        have z41 := fun o => cellB (below_a wr o) z4
        have b51 := cellB ((below_a wr (.cells #[.int .u8 97] 5)).trans ((below_a (wr.alloc (.cells #[.int .u8 97] 5)) (.cells #[.int .i64 5, .string (mk [97]), .string ⟨#[]⟩, .bool false] 49)).mono (by simp))) b5
        have HOW : Hid (∀ o, ((wr.alloc (.cells #[.int .u8 97] 5)).alloc o).ownsRow w.heap.size 49 4 (.slice va 0 vc) 0 (rcs (r5.take 0)) ∧ w.heap.size ≤ ((wr.alloc (.cells #[.int .u8 97] 5)).alloc o).heap.size) := fun o => by
          have hb := (below_a wr (.cells #[.int .u8 97] 5)).trans ((below_a (wr.alloc (.cells #[.int .u8 97] 5)) o).mono (by simp))
          exact ⟨owns_below HS.out.own hb, Nat.le_trans HS.out.bel.size hb.size⟩
        have HA : Hid (∀ w5, ((wr.alloc (.cells #[.int .u8 97] 5)).alloc (.cells #[.int .i64 5, .string (mk [97]), .string ⟨#[]⟩, .bool false] 49)).grownBy w5 (Value.slice va 0 vc).ownBlock → w5.heap[X]? = some (.cells #[.int .i64 2, .int .i64 0, .int .i64 0, .int .i64 0, .string ⟨#[]⟩] 30 (0, 0)) ∧ w5.heap[X + 1]? = some (.cells #[.int .i64 5, .int .i64 3, .int .i64 0, .int .i64 0, .int .i64 0, .slice va 0 vc] 46 (0, 0)) ∧ Below w.heap.size w w5) := fun w5 hg => by
          have hb := (below_a wr (.cells #[.int .u8 97] 5)).trans ((below_a (wr.alloc (.cells #[.int .u8 97] 5)) (.cells #[.int .i64 5, .string (mk [97]), .string ⟨#[]⟩, .bool false] 49)).mono (by simp))
          have hr := owns_below HS.out.own hb
          have hx := (hb.block X (lt_of_block HS.out.x)).trans HS.out.x
          have hbt := (hb.block (X + 1) (lt_of_block HS.out.b)).trans HS.out.b
          refine ⟨(hg.block X (lt_of_block hx) (fun e => ?_)).trans hx, (hg.block (X + 1) (lt_of_block hbt) (fun e => ?_)).trans hbt, (HS.out.bel.trans (hb.mono HS.out.bel.size)).trans (below_grown hr hg (Nat.le_trans HS.out.bel.size hb.size))⟩
          · obtain ⟨_, cs, e'⟩ := rowBlk hr e.symm
            rw [hx] at e'; cases e'
          · obtain ⟨_, cs, e'⟩ := rowBlk hr e.symm
            rw [hbt] at e'; cases e'
        have HN4 : Hid (∀ j u, [Value.int .i64 5, .string (mk [97]), .string ⟨#[]⟩, .bool false][j]? = some u → ((wr.alloc (.cells #[.int .u8 97] 5)).alloc (.cells #[.int .i64 5, .string (mk [97]), .string ⟨#[]⟩, .bool false] 49)).cell? ((⟨wr.heap.size + 1, 0, none⟩ : Addr).add j) = some u) := fun j u hj => by
          have := news4 (wr.alloc (.cells #[.int .u8 97] 5)) _ _ _ _ 49 j u hj
          have e : (wr.alloc (.cells #[.int .u8 97] 5)).heap.size = wr.heap.size + 1 := by simp
          rw [e] at this
          exact this
        clear z0 z2 z3 b0 b1 b2 b3 b4
        go_wp2_with (at_builtin; (refine wpList_append_lies _ rfl _ _ 44 rfl w.heap.size 49 i0 (.agg #[.int .i64 0, .string ⟨#[]⟩, .string ⟨#[]⟩, .bool false]) 4 48 Tryz.underlying44 HI.out.1 HI.out.2.1 HI.out.2.2.1 HI.out.2.2.2 rfl (by decide) (.slice va 0 vc) 0 (rcs (r5.take 0)) rfl (HOW.out _).1 ⟨wr.heap.size + 1, 0, none⟩ 1 1 [.int .i64 5, .string (mk [97]), .string ⟨#[]⟩, .bool false] rfl rfl HN4.out (one4 _ _ _ _) (by decide) (by unfold maxLen; omega) (by omega) (HOW.out _).2 _ rfl ?_); intro g5 cap5 w5 hown hgrow hat hgl; have ha5 := HA.out w5 hgrow; have e5 : w5.cell? ⟨X + 1, 5, none⟩ = some (.slice va 0 vc) := (by simp [World.cell?, ha5.2.1]); have f5 := frozen0 ha5.2.1 5; have HNX := hide (And.intro hown ha5); clear hown hgrow hat hgl ha5)
        have HNM : Hid (MS w (w5.setCell ⟨X + 1, 5, none⟩ (.slice (some ⟨g5, 0, none⟩) 1 cap5)) X (X + 1) 1 (.slice (some ⟨g5, 0, none⟩) 1 cap5)) := by
          obtain ⟨ho, hx, hb, hbe⟩ := HNX.out
          have hne : ∀ j, j ≠ X + 1 → (w5.setCell ⟨X + 1, 5, none⟩ (.slice (some ⟨g5, 0, none⟩) 1 cap5)).heap[j]? = w5.heap[j]? := fun j hj => Below.heap_setCell _ _ _ _ (by simpa using hj)
          have ho' : w5.ownsRow w.heap.size 49 4 (.slice (some ⟨g5, 0, none⟩) 1 cap5) 1 (rcs (r5.take 1)) := ho
          exact ⟨(hne X (by omega)).trans hx, block_set hb, rowKeep ho' (fun g cs e => hne g (by rintro rfl; rw [hb] at e; cases e)), hbe.trans (below_set w5 _ HS.out.hbb), HS.out.hbb⟩
        clear HNX
        go_roundw
        case rel => exact ⟨1, _, rfl, by omega, HNM.out⟩
        case measure => simp [intOf]
      · have hlti : (((1 : Nat)) : Int) < 3 := by decide
        obtain ⟨va, vc, rfl⟩ := rowForm HS.out.own
        have hcv : (convert 47 9 (.slice (some ⟨wr.heap.size, 0, none⟩) 1 1)).run Tryz.prog (wr.alloc (.cells #[.int .u8 100] 5)) = .ok (.string (mk [100])) (wr.alloc (.cells #[.int .u8 100] 5)) := conv_one wr 100
        obtain ⟨z0, z1, z2, z3, z4⟩ := cells5 HS.out.x
        obtain ⟨b0, b1, b2, b3, b4, b5⟩ := cells6 HS.out.b
        have z11 := fun o => cellB (below_a wr o) z1
        have z41 := fun o => cellB (below_a wr o) z4
        have b51 := cellB ((below_a wr (.cells #[.int .u8 100] 5)).trans ((below_a (wr.alloc (.cells #[.int .u8 100] 5)) (.cells #[.int .i64 6, .string (mk [100]), .string ⟨#[]⟩, .bool false] 49)).mono (by simp))) b5
        have HOW : Hid (∀ o, ((wr.alloc (.cells #[.int .u8 100] 5)).alloc o).ownsRow w.heap.size 49 4 (.slice va 1 vc) 1 (rcs (r5.take 1)) ∧ w.heap.size ≤ ((wr.alloc (.cells #[.int .u8 100] 5)).alloc o).heap.size) := fun o => by
          have hb := (below_a wr (.cells #[.int .u8 100] 5)).trans ((below_a (wr.alloc (.cells #[.int .u8 100] 5)) o).mono (by simp))
          exact ⟨owns_below HS.out.own hb, Nat.le_trans HS.out.bel.size hb.size⟩
        have HA : Hid (∀ w5, ((wr.alloc (.cells #[.int .u8 100] 5)).alloc (.cells #[.int .i64 6, .string (mk [100]), .string ⟨#[]⟩, .bool false] 49)).grownBy w5 (Value.slice va 1 vc).ownBlock → w5.heap[X]? = some (.cells #[.int .i64 2, .int .i64 0, .int .i64 0, .int .i64 0, .string ⟨#[]⟩] 30 (0, 0)) ∧ w5.heap[X + 1]? = some (.cells #[.int .i64 5, .int .i64 3, .int .i64 0, .int .i64 0, .int .i64 0, .slice va 1 vc] 46 (0, 0)) ∧ Below w.heap.size w w5) := fun w5 hg => by
          have hb := (below_a wr (.cells #[.int .u8 100] 5)).trans ((below_a (wr.alloc (.cells #[.int .u8 100] 5)) (.cells #[.int .i64 6, .string (mk [100]), .string ⟨#[]⟩, .bool false] 49)).mono (by simp))
          have hr := owns_below HS.out.own hb
          have hx := (hb.block X (lt_of_block HS.out.x)).trans HS.out.x
          have hbt := (hb.block (X + 1) (lt_of_block HS.out.b)).trans HS.out.b
          refine ⟨(hg.block X (lt_of_block hx) (fun e => ?_)).trans hx, (hg.block (X + 1) (lt_of_block hbt) (fun e => ?_)).trans hbt, (HS.out.bel.trans (hb.mono HS.out.bel.size)).trans (below_grown hr hg (Nat.le_trans HS.out.bel.size hb.size))⟩
          · obtain ⟨_, cs, e'⟩ := rowBlk hr e.symm
            rw [hx] at e'; cases e'
          · obtain ⟨_, cs, e'⟩ := rowBlk hr e.symm
            rw [hbt] at e'; cases e'
        have HN4 : Hid (∀ j u, [Value.int .i64 6, .string (mk [100]), .string ⟨#[]⟩, .bool false][j]? = some u → ((wr.alloc (.cells #[.int .u8 100] 5)).alloc (.cells #[.int .i64 6, .string (mk [100]), .string ⟨#[]⟩, .bool false] 49)).cell? ((⟨wr.heap.size + 1, 0, none⟩ : Addr).add j) = some u) := fun j u hj => by
          have := news4 (wr.alloc (.cells #[.int .u8 100] 5)) _ _ _ _ 49 j u hj
          have e : (wr.alloc (.cells #[.int .u8 100] 5)).heap.size = wr.heap.size + 1 := by simp
          rw [e] at this
          exact this
        clear z0 z2 z3 b0 b1 b2 b3 b4
        go_wp2_with (at_builtin; (refine wpList_append_lies _ rfl _ _ 44 rfl w.heap.size 49 i0 (.agg #[.int .i64 0, .string ⟨#[]⟩, .string ⟨#[]⟩, .bool false]) 4 48 Tryz.underlying44 HI.out.1 HI.out.2.1 HI.out.2.2.1 HI.out.2.2.2 rfl (by decide) (.slice va 1 vc) 1 (rcs (r5.take 1)) rfl (HOW.out _).1 ⟨wr.heap.size + 1, 0, none⟩ 1 1 [.int .i64 6, .string (mk [100]), .string ⟨#[]⟩, .bool false] rfl rfl HN4.out (one4 _ _ _ _) (by decide) (by unfold maxLen; omega) (by omega) (HOW.out _).2 _ rfl ?_); intro g5 cap5 w5 hown hgrow hat hgl; have ha5 := HA.out w5 hgrow; have e5 : w5.cell? ⟨X + 1, 5, none⟩ = some (.slice va 1 vc) := (by simp [World.cell?, ha5.2.1]); have f5 := frozen0 ha5.2.1 5; have HNX := hide (And.intro hown ha5); clear hown hgrow hat hgl ha5)
        have HNM : Hid (MS w (w5.setCell ⟨X + 1, 5, none⟩ (.slice (some ⟨g5, 0, none⟩) 2 cap5)) X (X + 1) 2 (.slice (some ⟨g5, 0, none⟩) 2 cap5)) := by
          obtain ⟨ho, hx, hb, hbe⟩ := HNX.out
          have hne : ∀ j, j ≠ X + 1 → (w5.setCell ⟨X + 1, 5, none⟩ (.slice (some ⟨g5, 0, none⟩) 2 cap5)).heap[j]? = w5.heap[j]? := fun j hj => Below.heap_setCell _ _ _ _ (by simpa using hj)
          have ho' : w5.ownsRow w.heap.size 49 4 (.slice (some ⟨g5, 0, none⟩) 2 cap5) 2 (rcs (r5.take 2)) := ho
          exact ⟨(hne X (by omega)).trans hx, block_set hb, rowKeep ho' (fun g cs e => hne g (by rintro rfl; rw [hb] at e; cases e)), hbe.trans (below_set w5 _ HS.out.hbb), HS.out.hbb⟩
        clear HNX
        go_roundw
        case rel => exact ⟨2, _, rfl, by omega, HNM.out⟩
        case measure => simp [intOf]
      · have hlti : (((2 : Nat)) : Int) < 3 := by decide
        obtain ⟨va, vc, rfl⟩ := rowForm HS.out.own
        have hcv : (convert 47 9 (.slice (some ⟨wr.heap.size, 0, none⟩) 1 1)).run Tryz.prog (wr.alloc (.cells #[.int .u8 98] 5)) = .ok (.string (mk [98])) (wr.alloc (.cells #[.int .u8 98] 5)) := conv_one wr 98
        obtain ⟨z0, z1, z2, z3, z4⟩ := cells5 HS.out.x
        obtain ⟨b0, b1, b2, b3, b4, b5⟩ := cells6 HS.out.b
        have z11 := fun o => cellB (below_a wr o) z1
        have z41 := fun o => cellB (below_a wr o) z4
        have b51 := cellB ((below_a wr (.cells #[.int .u8 98] 5)).trans ((below_a (wr.alloc (.cells #[.int .u8 98] 5)) (.cells #[.int .i64 7, .string (mk [98]), .string ⟨#[]⟩, .bool false] 49)).mono (by simp))) b5
        have HOW : Hid (∀ o, ((wr.alloc (.cells #[.int .u8 98] 5)).alloc o).ownsRow w.heap.size 49 4 (.slice va 2 vc) 2 (rcs (r5.take 2)) ∧ w.heap.size ≤ ((wr.alloc (.cells #[.int .u8 98] 5)).alloc o).heap.size) := fun o => by
          have hb := (below_a wr (.cells #[.int .u8 98] 5)).trans ((below_a (wr.alloc (.cells #[.int .u8 98] 5)) o).mono (by simp))
          exact ⟨owns_below HS.out.own hb, Nat.le_trans HS.out.bel.size hb.size⟩
        have HA : Hid (∀ w5, ((wr.alloc (.cells #[.int .u8 98] 5)).alloc (.cells #[.int .i64 7, .string (mk [98]), .string ⟨#[]⟩, .bool false] 49)).grownBy w5 (Value.slice va 2 vc).ownBlock → w5.heap[X]? = some (.cells #[.int .i64 2, .int .i64 0, .int .i64 0, .int .i64 0, .string ⟨#[]⟩] 30 (0, 0)) ∧ w5.heap[X + 1]? = some (.cells #[.int .i64 5, .int .i64 3, .int .i64 0, .int .i64 0, .int .i64 0, .slice va 2 vc] 46 (0, 0)) ∧ Below w.heap.size w w5) := fun w5 hg => by
          have hb := (below_a wr (.cells #[.int .u8 98] 5)).trans ((below_a (wr.alloc (.cells #[.int .u8 98] 5)) (.cells #[.int .i64 7, .string (mk [98]), .string ⟨#[]⟩, .bool false] 49)).mono (by simp))
          have hr := owns_below HS.out.own hb
          have hx := (hb.block X (lt_of_block HS.out.x)).trans HS.out.x
          have hbt := (hb.block (X + 1) (lt_of_block HS.out.b)).trans HS.out.b
          refine ⟨(hg.block X (lt_of_block hx) (fun e => ?_)).trans hx, (hg.block (X + 1) (lt_of_block hbt) (fun e => ?_)).trans hbt, (HS.out.bel.trans (hb.mono HS.out.bel.size)).trans (below_grown hr hg (Nat.le_trans HS.out.bel.size hb.size))⟩
          · obtain ⟨_, cs, e'⟩ := rowBlk hr e.symm
            rw [hx] at e'; cases e'
          · obtain ⟨_, cs, e'⟩ := rowBlk hr e.symm
            rw [hbt] at e'; cases e'
        have HN4 : Hid (∀ j u, [Value.int .i64 7, .string (mk [98]), .string ⟨#[]⟩, .bool false][j]? = some u → ((wr.alloc (.cells #[.int .u8 98] 5)).alloc (.cells #[.int .i64 7, .string (mk [98]), .string ⟨#[]⟩, .bool false] 49)).cell? ((⟨wr.heap.size + 1, 0, none⟩ : Addr).add j) = some u) := fun j u hj => by
          have := news4 (wr.alloc (.cells #[.int .u8 98] 5)) _ _ _ _ 49 j u hj
          have e : (wr.alloc (.cells #[.int .u8 98] 5)).heap.size = wr.heap.size + 1 := by simp
          rw [e] at this
          exact this
        clear z0 z2 z3 b0 b1 b2 b3 b4
        go_wp2_with (at_builtin; (refine wpList_append_lies _ rfl _ _ 44 rfl w.heap.size 49 i0 (.agg #[.int .i64 0, .string ⟨#[]⟩, .string ⟨#[]⟩, .bool false]) 4 48 Tryz.underlying44 HI.out.1 HI.out.2.1 HI.out.2.2.1 HI.out.2.2.2 rfl (by decide) (.slice va 2 vc) 2 (rcs (r5.take 2)) rfl (HOW.out _).1 ⟨wr.heap.size + 1, 0, none⟩ 1 1 [.int .i64 7, .string (mk [98]), .string ⟨#[]⟩, .bool false] rfl rfl HN4.out (one4 _ _ _ _) (by decide) (by unfold maxLen; omega) (by omega) (HOW.out _).2 _ rfl ?_); intro g5 cap5 w5 hown hgrow hat hgl; have ha5 := HA.out w5 hgrow; have e5 : w5.cell? ⟨X + 1, 5, none⟩ = some (.slice va 2 vc) := (by simp [World.cell?, ha5.2.1]); have f5 := frozen0 ha5.2.1 5; have HNX := hide (And.intro hown ha5); clear hown hgrow hat hgl ha5)
        have HNM : Hid (MS w (w5.setCell ⟨X + 1, 5, none⟩ (.slice (some ⟨g5, 0, none⟩) 3 cap5)) X (X + 1) 3 (.slice (some ⟨g5, 0, none⟩) 3 cap5)) := by
          obtain ⟨ho, hx, hb, hbe⟩ := HNX.out
          have hne : ∀ j, j ≠ X + 1 → (w5.setCell ⟨X + 1, 5, none⟩ (.slice (some ⟨g5, 0, none⟩) 3 cap5)).heap[j]? = w5.heap[j]? := fun j hj => Below.heap_setCell _ _ _ _ (by simpa using hj)
          have ho' : w5.ownsRow w.heap.size 49 4 (.slice (some ⟨g5, 0, none⟩) 3 cap5) 3 (rcs (r5.take 3)) := ho
          exact ⟨(hne X (by omega)).trans hx, block_set hb, rowKeep ho' (fun g cs e => hne g (by rintro rfl; rw [hb] at e; cases e)), hbe.trans (below_set w5 _ HS.out.hbb), HS.out.hbb⟩
        clear HNX
        go_roundw
        case rel => exact ⟨3, _, rfl, by omega, HNM.out⟩
        case measure => simp [intOf]
    · obtain rfl : k = 3 := by omega
      have hlti : ¬ (((3 : Nat)) : Int) < 3 := by decide
      obtain ⟨va, vc, rfl⟩ := rowForm HS.out.own
      obtain ⟨a', c', e', hin⟩ := own_slice (show Own wr w.heap.size (.slice va 3 vc) r5 from HS.out.own)
      obtain ⟨g, rfl, _⟩ : ∃ g, va = some ⟨g, 0, none⟩ ∧ True := by
        rcases HS.out.own.2 with ⟨e, h0⟩ | ⟨g, cap, cur, e, _⟩
        · cases h0
        · cases e; exact ⟨g, rfl, trivial⟩
      have ea : a' = some ⟨g, 0, none⟩ := by cases e'; rfl
      subst ea
      have hBI : BIn wr h5 g 0 r5 := ⟨hin, r5_sized, by decide, by decide, r5_may, fun r hr => by
        have : r = ⟨7, mk [98], ⟨#[]⟩, false⟩ := by cases hr; rfl
        rw [this]; decide⟩
      have HP : Hid (Calls Tryz.prog 13 #[.agg #[.int .i64 5, .int .i64 3, .int .i64 0, .int .i64 0, .int .i64 0, .slice (some ⟨g, 0, none⟩) 3 vc]] wr fun e w' => e = .returned (.tuple #[.string (mk (batL h5 (recsL 5 r5))), .int .i64 0]) ∧ Below wr.heap.size wr w') := plain_ok h5 h5_ok g 0 vc r5 wr hBI rfl r5_len
      obtain ⟨R, hR⟩ : ∃ R, mk (batL h5 (recsL 5 r5)) = R := ⟨_, rfl⟩
      have HRR := hide hR
      rw [hR] at HP
      clear hR
      obtain ⟨z0, z1, z2, z3, z4⟩ := cells5 HS.out.x
      obtain ⟨b0, b1, b2, b3, b4, b5⟩ := cells6 HS.out.b
      clear hBI hin e'
      go_wp2_with fail
      refine HP.out.mono ?_
      rintro e w6 ⟨rfl, hb6⟩
      have HB := hide (HS.out.bel.trans (hb6.mono HS.out.bel.size))
      clear hb6 HP
      go_wp2
      go_ret2
      exact ⟨by rw [HRR.out]; rfl, HB.out⟩
end Go.Proofs.YtcjlcieheepegaaGreatDoor
namespace Go.Proofs.YtcjlcieheepegaaGreatDoor
open Go.RowKit
set_option linter.unusedVariables false
set_option maxRecDepth 20000
set_option maxRecDepth 20000

abbrev segN : ByteArray := ⟨#[115, 101, 103]⟩
theorem segN_may : V8.May segN := V8.mayD_ok (by decide)
def p5 : List UInt8 := recsL 5 r5
theorem p5_len : p5.length ≤ 12570 := by
  refine recsL_len _ r5 (comes_mem r5 (h5.base : Nat) ?_)
  have := r5_may
  simp only [Bool.and_eq_true] at this
  exact this.2
theorem r5_comes : comes r5 5 = true := by decide
theorem r5_of : ofO p5 h5.base h5.nrec = some r5 := by
  unfold ofO
  rw [if_pos ⟨by decide, by decide⟩]
  exact ofL_recsL 5 r5 r5_comes (by decide)
theorem bat5 : Bat h5 p5 r5 := ⟨h5_ok, by have := p5_len; omega, r5_of, by decide, fun r hr => by
  simp only [r5, List.mem_cons, List.not_mem_nil, or_false] at hr
  rcases hr with rfl | rfl | rfl <;> exact ⟨by decide, by decide⟩⟩
end Go.Proofs.YtcjlcieheepegaaGreatDoor
namespace Go.Proofs.YtcjlcieheepegaaGreatDoor
open Go.RowKit
set_option linter.unusedVariables false
set_option maxRecDepth 20000
set_option maxRecDepth 20000

theorem and_mask (x : Int) (k : Nat) (hk : k ≤ 62) (m : Int) (hm : m = ((2 ^ k - 1 : Nat) : Int)) (h16 : (BitVec.ofInt 64 m).toNat = 2 ^ k - 1) (hp : 2 ^ k ≤ 4611686018427387904) (hd : (18446744073709551616 : Int) % ((2 ^ k : Nat) : Int) = 0) : bits .and .i64 x m = x % ((2 ^ k : Nat) : Int) := by
  have key : (BitVec.ofInt 64 x &&& BitVec.ofInt 64 m).toNat = (x % ((2 ^ 64 : Nat) : Int)).toNat % 2 ^ k := by
    rw [BitVec.toNat_and, BitVec.toNat_ofInt, h16, Nat.and_two_pow_sub_one_eq_mod]
  show IntKind.i64.wrap ((BitVec.ofInt 64 x &&& BitVec.ofInt 64 m).toNat : Nat) = _
  rw [key, IntKind.wrap_i64]
  have h0 : 0 ≤ x % ((2 ^ 64 : Nat) : Int) := Int.emod_nonneg _ (by omega)
  have hdv : (x % ((2 ^ 64 : Nat) : Int)) % ((2 ^ k : Nat) : Int) = x % ((2 ^ k : Nat) : Int) := by
    apply Int.emod_emod_of_dvd
    exact Int.dvd_of_emod_eq_zero hd
  obtain ⟨y, hy⟩ := Int.eq_ofNat_of_zero_le h0
  rw [hy] at hdv ⊢
  rw [← hdv]
  have e : ((y : Int).toNat % 2 ^ k : Nat) = y % 2 ^ k := by simp
  have hpos : 0 < 2 ^ k := Nat.pos_of_ne_zero (by simp)
  have hlt : y % 2 ^ k < 2 ^ k := Nat.mod_lt _ hpos
  rw [e]
  have e2 : (y : Int) % ((2 ^ k : Nat) : Int) = ((y % 2 ^ k : Nat) : Int) := by simp
  rw [e2]
  omega
theorem and7n (x : Int) : bits .and .i64 x 7 = (((x % 8).toNat : Nat) : Int) ∧ (x % 8).toNat ≤ 7 := by
  rw [and_mask x 3 (by omega) 7 rfl (by decide) (by decide) (by decide)]; constructor <;> omega
theorem and255n (x : Int) : bits .and .i64 x 255 = (((x % 256).toNat : Nat) : Int) ∧ (x % 256).toNat ≤ 255 := by
  rw [and_mask x 8 (by omega) 255 rfl (by decide) (by decide) (by decide)]; constructor <;> omega
theorem and2047n (x : Int) : bits .and .i64 x 2047 = (((x % 2048).toNat : Nat) : Int) ∧ (x % 2048).toNat ≤ 2047 := by
  rw [and_mask x 11 (by omega) 2047 rfl (by decide) (by decide) (by decide)]; constructor <;> omega
theorem and65535n (x : Int) : bits .and .i64 x 65535 = (((x % 65536).toNat : Nat) : Int) ∧ (x % 65536).toNat ≤ 65535 := by
  rw [and_mask x 16 (by omega) 65535 rfl (by decide) (by decide) (by decide)]; constructor <;> omega
/-- A recipe. -/
structure RP where
  cnt : Int
  key : Int
  prod : Int
  seq : Int
  val : ByteArray
abbrev RP.v (x : RP) : Value := .agg #[.int .i64 x.cnt, .int .i64 x.key, .int .i64 x.prod, .int .i64 x.seq, .string x.val]
def RP.n (x : RP) : Nat := 1 + (x.cnt % 8).toNat
def RP.k (x : RP) : Nat := (x.key % 8).toNat
def RP.pr (x : RP) : Nat := (x.prod % 256).toNat
def RP.sq (x : RP) : Nat := (x.seq % 65536).toNat
theorem RP.n1 (x : RP) : 1 ≤ x.n ∧ x.n ≤ 8 := by unfold RP.n; omega
def keyB (k i : Nat) : UInt8 := UInt8.ofNat (97 + (k + i * 3) % 5)
/-- The record of a number of a recipe. -/
def recA (base k : Nat) (val : ByteArray) (i : Nat) : Rec := ⟨((base + i : Nat) : Int), mk [keyB k i], val, decide (k = 7)⟩
def recsA (base k : Nat) (val : ByteArray) (n : Nat) : List Rec := (List.range n).map (recA base k val)
theorem recsA_length (base k : Nat) (val : ByteArray) (n : Nat) : (recsA base k val n).length = n := by simp [recsA]
theorem recsA_succ (base k : Nat) (val : ByteArray) (n : Nat) : recsA base k val (n + 1) = recsA base k val n ++ [recA base k val n] := by simp [recsA, List.range_succ]
def RP.value (x : RP) : ByteArray := if x.k = 7 then ⟨#[]⟩ else x.val
def RP.L (x : RP) (base : Nat) : List Rec := recsA base x.k x.value x.n
def RP.h (x : RP) (base : Nat) : HN := ⟨base, x.n, 0, x.pr, x.sq, x.n⟩
theorem mayB_recA (base k : Nat) (val : ByteArray) (i : Nat) (hb : base + i < 1099511627776) (hv : val.size ≤ 4096) (h7 : k = 7 → val.size = 0) : mayB (recA base k val i) = true := by
  refine (mayB_iff _).2 ⟨?_, by show (mk [keyB k i]).size ≤ 64; rw [mk_size]; simp, hv, fun h => h7 (by simpa [recA] using h)⟩
  show offB ((base + i : Nat) : Int) = true
  unfold offB
  simp
  omega
theorem comes_recsA (base k : Nat) (val : ByteArray) (n : Nat) (hb : base + n ≤ 1099511627776) (hv : val.size ≤ 4096) (h7 : k = 7 → val.size = 0) : comes (recsA base k val n) base = true ∧ lowB (recsA base k val n) base = ((base + n : Nat) : Int) := by
  induction n with
  | zero => exact ⟨rfl, rfl⟩
  | succ n ih =>
    obtain ⟨i1, i2⟩ := ih (by omega)
    rw [recsA_succ]
    refine ⟨?_, ?_⟩
    · rw [comes_append, i1, i2, Bool.true_and]
      simp only [comes, Bool.and_true, Bool.and_eq_true, decide_eq_true_eq]
      exact ⟨mayB_recA base k val n (by omega) hv h7, by simp [recA]⟩
    · rw [lowB_snoc]; simp only [recA]; omega
theorem RP.value_ok (x : RP) (hv : x.val.size ≤ 4096) : x.value.size ≤ 4096 ∧ (x.k = 7 → x.value.size = 0) := by
  unfold RP.value
  by_cases h : x.k = 7
  · rw [if_pos h]; exact ⟨by decide, fun _ => rfl⟩
  · rw [if_neg h]; exact ⟨hv, fun e => absurd e h⟩
theorem RP.comes (x : RP) (base : Nat) (hb : base ≤ 1099511627520) (hv : x.val.size ≤ 4096) : comes (x.L base) base = true := by
  have hn := x.n1
  obtain ⟨h1, h2⟩ := x.value_ok hv
  exact (comes_recsA base x.k x.value x.n (by omega) h1 h2).1
/-- A batch, by its head and its records. -/
structure BT where
  h : HN
  L : List Rec
def BT.p (b : BT) : List UInt8 := recsL b.h.base b.L
def BT.z (b : BT) : List UInt8 := batL b.h b.p
abbrev BT.s (b : BT) : ByteArray := Go.Proofs.YtcjlcieheepegaaGreatDoor.mk b.z
def BT.ok (b : BT) : Prop := Bat b.h b.p b.L
def BT.sz (b : BT) : Nat := 39 + b.p.length
theorem BT.z_length (b : BT) : b.z.length = b.sz := batL_length _ _
theorem BT.size (b : BT) : b.s.size = b.sz := by rw [mk_size]; exact b.z_length
theorem BT.sz_le {b : BT} (h : b.ok) : 39 ≤ b.sz ∧ b.sz ≤ 262154 := by have := h.hp; unfold BT.sz; omega
def RP.b (x : RP) (base : Nat) : BT := ⟨x.h base, x.L base⟩
theorem RP.b_len (x : RP) (base : Nat) (hb : base ≤ 1099511627520) (hv : x.val.size ≤ 4096) : (recsL base (x.L base)).length ≤ 33520 := by
  have h := recsL_len base (x.L base) (comes_mem _ _ (x.comes base hb hv))
  have hl : (x.L base).length = x.n := recsA_length _ _ _ _
  have := x.n1
  rw [hl] at h
  omega
theorem RP.h_ok (x : RP) (base : Nat) (hb : base ≤ 1099511627520) : (x.h base).OK := by
  have hn := x.n1
  refine ⟨hb, hn.1, by show x.n ≤ 256; omega, by show (0 : Nat) ≤ _; omega, ?_, ?_, by show x.n ≤ 256; omega⟩
  · show x.pr ≤ _; unfold RP.pr; omega
  · show x.sq ≤ _; unfold RP.sq; omega
theorem RP.within (x : RP) (base : Nat) : Within (x.h base) (x.L base) := by
  intro r hr
  simp only [RP.L, recsA, List.mem_map, List.mem_range] at hr
  obtain ⟨i, hi, rfl⟩ := hr
  constructor
  · show ((base : Nat) : Int) ≤ ((base + i : Nat) : Int); omega
  · show ((base + i : Nat) : Int) ≤ ((base : Nat) : Int) + ((x.n : Nat) : Int) - 1; omega
theorem RP.ok (x : RP) (base : Nat) (hb : base ≤ 1099511627520) (hv : x.val.size ≤ 4096) : (x.b base).ok := by
  have hl : (x.L base).length = x.n := recsA_length _ _ _ _
  have hn := x.n1
  refine ⟨x.h_ok base hb, ?_, ?_, ?_, x.within base⟩
  · have := x.b_len base hb hv
    show 29 + (recsL base (x.L base)).length ≤ _
    omega
  · show ofO (recsL base (x.L base)) base x.n = some (x.L base)
    unfold ofO
    rw [if_pos ⟨by unfold offB; simp; omega, by omega⟩]
    have e : ((x.n : Nat) : Int).toNat = (x.L base).length := by rw [hl]; simp
    rw [e]
    exact ofL_recsL base (x.L base) (x.comes base hb hv) (by omega)
  · show (x.L base).length ≤ 256
    omega
end Go.Proofs.YtcjlcieheepegaaGreatDoor
namespace Go.Proofs.YtcjlcieheepegaaGreatDoor
open Go.RowKit
set_option linter.unusedVariables false
set_option maxRecDepth 20000
set_option maxRecDepth 20000

/-- Batches that follow one another, from a base on. -/
def chain : Nat → List BT → Prop
  | _, [] => True
  | base, b :: l => b.h.base = base ∧ chain (base + b.h.cnt) l
def cnts (l : List BT) : Nat := (l.map fun b => b.h.cnt).sum
def endB (base : Nat) (l : List BT) : Nat := base + cnts l
def allB (l : List BT) : List UInt8 := l.flatMap BT.z
def szs (l : List BT) : Nat := (allB l).length
theorem cnts_append (l m : List BT) : cnts (l ++ m) = cnts l + cnts m := by simp [cnts]
theorem allB_append (l m : List BT) : allB (l ++ m) = allB l ++ allB m := by simp [allB]
theorem szs_append (l m : List BT) : szs (l ++ m) = szs l + szs m := by simp [szs, allB_append]
theorem szs_one (b : BT) : szs [b] = b.sz := by simp [szs, allB, b.z_length]
theorem cnts_one (b : BT) : cnts [b] = b.h.cnt := by simp [cnts]
theorem chain_append {base : Nat} {l m : List BT} : chain base (l ++ m) ↔ chain base l ∧ chain (endB base l) m := by
  induction l generalizing base with
  | nil => simp [chain, endB, cnts]
  | cons b l ih =>
    simp only [List.cons_append, chain, ih, and_assoc]
    have : endB (base + b.h.cnt) l = endB base (b :: l) := by simp [endB, cnts]; omega
    rw [this]
theorem endB_snoc (base : Nat) (l : List BT) (b : BT) : endB base (l ++ [b]) = endB base l + b.h.cnt := by
  unfold endB; rw [cnts_append, cnts_one]; omega
/-- The place ahead of the batch of a number. -/
def plAt (base : Nat) (l : List BT) (i : Nat) : Pl := ⟨endB base (l.take i), szs (l.take i), i⟩
theorem plAt_append (base : Nat) (l m : List BT) (i : Nat) (h : i ≤ l.length) : plAt base (l ++ m) i = plAt base l i := by
  unfold plAt; rw [List.take_append_of_le_length h]
theorem plAt_zero (base : Nat) (l : List BT) : plAt base l 0 = ⟨base, 0, 0⟩ := by simp [plAt, endB, cnts, szs, allB]
theorem plAt_succ {base : Nat} {l : List BT} {i : Nat} {b : BT} (h : l[i]? = some b) : plAt base l (i + 1) = ⟨(plAt base l i).off + b.h.cnt, (plAt base l i).byt + b.sz, i + 1⟩ := by
  obtain ⟨hi, rfl⟩ := List.getElem?_eq_some_iff.1 h
  unfold plAt
  rw [List.take_succ_eq_append_getElem hi, endB_snoc, szs_append, szs_one]
theorem plAt_full (base : Nat) (l : List BT) : plAt base l l.length = ⟨endB base l, szs l, l.length⟩ := by unfold plAt; rw [List.take_length]
theorem plAt_base {base : Nat} {l : List BT} (hc : chain base l) {i : Nat} {b : BT} (h : l[i]? = some b) : b.h.base = (plAt base l i).off := by
  obtain ⟨hi, rfl⟩ := List.getElem?_eq_some_iff.1 h
  have e : l = l.take i ++ l[i] :: l.drop (i + 1) := by simp
  rw [e] at hc
  exact (chain_append.1 hc).2.1
/-- All batches are such as may be. -/
def allOK (l : List BT) : Prop := ∀ b ∈ l, b.ok
theorem plAt_lt {base : Nat} {l : List BT} (ho : allOK l) {i j : Nat} (hij : i < j) (hj : j ≤ l.length) : (plAt base l i).off < (plAt base l j).off ∧ (plAt base l i).byt < (plAt base l j).byt := by
  induction j with
  | zero => omega
  | succ j ih =>
    have hj' : j < l.length := by omega
    have e := plAt_succ (base := base) (List.getElem?_eq_getElem hj')
    have hb := ho l[j] (List.getElem_mem hj')
    have h1 := hb.ok.cnt1
    have h2 := BT.sz_le hb
    rw [e]
    simp only
    by_cases hh : i = j
    · subst hh; omega
    · have := ih (by omega) (by omega); omega
theorem plAt_le {base : Nat} {l : List BT} (ho : allOK l) {i j : Nat} (hij : i ≤ j) (hj : j ≤ l.length) : (plAt base l i).off ≤ (plAt base l j).off ∧ (plAt base l i).byt ≤ (plAt base l j).byt := by
  rcases Nat.lt_or_eq_of_le hij with h | rfl
  · have := plAt_lt (base := base) ho h hj; omega
  · exact ⟨Nat.le_refl _, Nat.le_refl _⟩
theorem allB_take_drop (l : List BT) (i : Nat) : (allB l).drop (szs (l.take i)) = allB (l.drop i) := by
  have e : allB l = allB (l.take i) ++ allB (l.drop i) := by rw [← allB_append, List.take_append_drop]
  rw [e]
  unfold szs
  exact List.drop_left
/-- The bytes from one batch on, below another one. -/
theorem allB_part (l : List BT) (i j : Nat) (hij : i ≤ j) (hj : j ≤ l.length) : ((allB l).drop (szs (l.take i))).take (szs (l.take j) - szs (l.take i)) = allB ((l.take j).drop i) := by
  rw [allB_take_drop]
  have e : l.drop i = (l.take j).drop i ++ l.drop j := by
    conv => lhs; rw [← List.take_append_drop j l]
    rw [List.drop_append_of_le_length (by rw [List.length_take]; omega)]
  have e2 : l.take j = l.take i ++ (l.take j).drop i := by
    conv => lhs; rw [← List.take_append_drop i (l.take j)]
    rw [List.take_take, Nat.min_eq_left hij]
  have e3 : szs (l.take j) - szs (l.take i) = (allB ((l.take j).drop i)).length := by
    conv => lhs; rw [e2, szs_append]
    unfold szs; omega
  rw [e, allB_append, e3]
  exact List.take_left
/-- The batch that has an offset. -/
theorem having {base : Nat} {l : List BT} {o : Nat} (h1 : base ≤ o) (h2 : o < endB base l) : ∃ i b, l[i]? = some b ∧ (plAt base l i).off ≤ o ∧ o < (plAt base l (i + 1)).off := by
  suffices H : ∀ n, n ≤ l.length → o < (plAt base l n).off → ∃ i b, l[i]? = some b ∧ (plAt base l i).off ≤ o ∧ o < (plAt base l (i + 1)).off by
    exact H l.length (Nat.le_refl _) (by rw [plAt_full]; exact h2)
  intro n
  induction n with
  | zero => intro _ h; rw [plAt_zero] at h; simp only at h; omega
  | succ n ih =>
    intro hn h
    by_cases hh : o < (plAt base l n).off
    · exact ih (by omega) hh
    · exact ⟨n, l[n]'(by omega), List.getElem?_eq_getElem (by omega), by omega, h⟩
/-- Which places are listed. -/
structure Marks (n : Nat) (K : List Nat) : Prop where
  up : K.Pairwise (· < ·)
  lt : ∀ k ∈ K, k < n
  first : n ≠ 0 → K.head? = some 0
theorem Marks.add {n : Nat} {K : List Nat} (h : Marks n K) : Marks (n + 1) (K ++ [n]) := by
  refine ⟨List.pairwise_append.2 ⟨h.up, List.pairwise_singleton _ _, fun a ha b hb => by rw [List.mem_singleton] at hb; subst hb; exact h.lt a ha⟩, fun k hk => ?_, fun _ => ?_⟩
  · rcases List.mem_append.1 hk with hk | hk
    · have := h.lt k hk; omega
    · rw [List.mem_singleton] at hk; omega
  · by_cases hn : n = 0
    · subst hn
      cases K with
      | nil => rfl
      | cons k K => exact absurd (h.lt k List.mem_cons_self) (by omega)
    · rw [List.head?_append, h.first hn]; rfl
theorem Marks.same {n : Nat} {K : List Nat} (h : Marks n K) (hK : K ≠ []) : Marks (n + 1) K := by
  refine ⟨h.up, fun k hk => by have := h.lt k hk; omega, fun _ => ?_⟩
  by_cases hn : n = 0
  · subst hn
    cases K with
    | nil => exact absurd rfl hK
    | cons k K => exact absurd (h.lt k List.mem_cons_self) (by omega)
  · exact h.first hn
end Go.Proofs.YtcjlcieheepegaaGreatDoor
namespace Go.Proofs.YtcjlcieheepegaaGreatDoor
open Go.RowKit
set_option linter.unusedVariables false
set_option maxRecDepth 20000
set_option maxRecDepth 20000

end Go.Proofs.YtcjlcieheepegaaGreatDoor
namespace Go.Proofs.YtcjlcieheepegaaGreatDoor
open Go.RowKit
set_option linter.unusedVariables false
set_option maxRecDepth 20000
set_option maxRecDepth 20000

theorem byte32 (h : HN) (p : List UInt8) (hh : 32 < (mk (batL h p)).size) : (mk (batL h p))[32] = 0 := by
  have e : batL h p = ([80, 66] ++ fxL (29 + p.length) 4 ++ fxL (crcL (sumL h p)) 4 ++ fxL h.base 8 ++ fxL h.cnt 2 ++ fxL h.view 4 ++ fxL h.prod 4 ++ fxL h.seq 4) ++ (fxL 0 1 ++ (fxL h.nrec 2 ++ (fxL p.length 4 ++ p))) := by simp [batL, sumL]
  have el : ([80, 66] ++ fxL (29 + p.length) 4 ++ fxL (crcL (sumL h p)) 4 ++ fxL h.base 8 ++ fxL h.cnt 2 ++ fxL h.view 4 ++ fxL h.prod 4 ++ fxL h.seq 4 : List UInt8).length = 32 := by simp [fxL_length]
  have hl : 32 < (batL h p).length := by rw [mk_size] at hh; exact hh
  have e1 : (mk (batL h p))[32] = (batL h p)[32]'hl := by
    show (batL h p).toArray[32]'(by simpa using hl) = (batL h p)[32]'hl
    simp
  refine Eq.trans e1 ?_
  have e2 : (batL h p)[32]? = some 0 := by
    rw [e, List.getElem?_append_right (by rw [el]; exact Nat.le_refl _), el]
    rfl
  rw [List.getElem?_eq_getElem hl] at e2
  exact Option.some.inj e2
theorem rest_at (h : HN) (p : List UInt8) (pre : List UInt8) (n k : Nat) (post : List UInt8) (he : batL h p = pre ++ (fxL n k ++ post)) (hn : n < 2 ^ (8 * k)) : fixN ((mk (batL h p)).extract pre.length (mk (batL h p)).size) k = n := by
  rw [extract_drop, he, List.drop_left]
  exact fixN_fx n k post hn
end Go.Proofs.YtcjlcieheepegaaGreatDoor
namespace Go.Proofs.YtcjlcieheepegaaGreatDoor
open Go.RowKit
set_option linter.unusedVariables false
set_option maxRecDepth 20000
set_option maxRecDepth 20000

/-- The block of a segment's listed places. -/
def rowOf (w : World) (s : Nat) : Option Nat := (w.cell? ⟨s, 4, none⟩).bind Value.ownBlock
/-- What take turns: the segment's own block, and its places' own row. -/
structure TK (B s : Nat) (w w' : World) : Prop where
  below : Below B w w'
  kept : ∀ i, i < w.heap.size → i ≠ s → rowOf w s ≠ some i → w'.heap[i]? = w.heap[i]?
  row : rowOf w' s = rowOf w s ∨ ∀ j, rowOf w' s = some j → w.heap.size ≤ j
theorem TK.trans {B s : Nat} {a b c : World} (h : TK B s a b) (k : TK B s b c) : TK B s a c := by
  refine ⟨h.below.trans k.below, fun i hi h1 h2 => ?_, ?_⟩
  · have e := h.kept i hi h1 h2
    refine (k.kept i (Nat.lt_of_lt_of_le hi h.below.size) h1 ?_).trans e
    rcases h.row with r | r
    · rw [r]; exact h2
    · intro e'
      have := r i e'
      omega
  · rcases k.row with r | r
    · rw [r]; exact h.row
    · exact .inr fun j hj => Nat.le_trans h.below.size (r j hj)
theorem rowOf_same {w w' : World} {s : Nat} (h : w'.heap[s]? = w.heap[s]?) : rowOf w' s = rowOf w s := by
  unfold rowOf World.cell?
  simp only [h]
theorem TK.of {B s : Nat} {w w' : World} (h : Below w.heap.size w w') (hB : B ≤ w.heap.size) (hs : s < w.heap.size) : TK B s w w' :=
  ⟨⟨h.os, h.tape, h.output, h.size, fun k hk => h.block k (by omega)⟩, fun i hi _ _ => h.block i hi, .inl (rowOf_same (h.block s hs))⟩
theorem TK.set {B s i : Nat} {w : World} {cs : Array Value} {t : TypeId} (u : Value) (hB : B ≤ s) (hs : w.heap[s]? = some (.cells cs t (0, 0))) (hi : i ≠ 4) : TK B s w (w.setCell ⟨s, i, none⟩ u) := by
  refine ⟨below_set w u hB, fun k _ h1 _ => Below.heap_setCell _ _ _ _ (by simpa using h1), .inl ?_⟩
  have e := block_set (i := i) (u := u) hs
  unfold rowOf World.cell?
  simp only [e, hs]
  rw [Array.getElem?_setIfInBounds_ne hi]
theorem TK.push {B s : Nat} {w w' : World} {pv v' : Value} {cs : Array Value} {t : TypeId} (hs : w.heap[s]? = some (.cells cs t (0, 0))) (hc : cs[4]? = some pv) (hg : w.grownBy w' pv.ownBlock) (hne : pv.ownBlock ≠ some s) (hlo : ∀ k, pv.ownBlock = some k → B ≤ k) (hBw : B ≤ w.heap.size) (hB : B ≤ s)
    (hnew : v'.ownBlock = pv.ownBlock ∨ v'.ownBlock = some w.heap.size) : TK B s w (w'.setCell ⟨s, 4, none⟩ v') := by
  have hsl := lt_of_block hs
  have hs' : w'.heap[s]? = some (.cells cs t (0, 0)) := (hg.block s hsl (fun e => hne e.symm)).trans hs
  have e := block_set (i := 4) (u := v') hs'
  have r0 : rowOf w s = pv.ownBlock := by
    unfold rowOf World.cell?
    simp [hs, hc]
  have h4 : 4 < cs.size := by
    rcases Nat.lt_or_ge 4 cs.size with h | h
    · exact h
    · rw [Array.getElem?_eq_none h] at hc; cases hc
  have r1 : rowOf (w'.setCell ⟨s, 4, none⟩ v') s = v'.ownBlock := by
    unfold rowOf World.cell?
    simp [e, h4]
  refine ⟨⟨hg.os, hg.tape, hg.output, by simpa [World.setCell] using hg.size, fun k hk => ?_⟩, fun i hi h1 h2 => ?_, ?_⟩
  · rw [Below.heap_setCell _ _ _ _ (by show k ≠ s; omega)]
    exact hg.block k (by omega) (fun e => by have := hlo k e.symm; omega)
  · rw [Below.heap_setCell _ _ _ _ (by simpa using h1)]
    rw [r0] at h2
    exact hg.block i hi (fun e => h2 e.symm)
  · rw [r0, r1]
    rcases hnew with h | h
    · exact .inl h
    · exact .inr fun j hj => by rw [h] at hj; cases hj; exact Nat.le_refl _
theorem SG.rowT {w : World} {B s d base : Nat} {nm : ByteArray} {P : List Pl} {bh : Pl} (h : SG w B s d nm base P bh) {i : Nat} (hi : rowOf w s = some i) : B ≤ i ∧ ∃ cs, w.heap[i]? = some (.cells cs 68 (0, 0)) := by
  obtain ⟨pv, h1, h2⟩ := h.blk
  have : rowOf w s = pv.ownBlock := by unfold rowOf World.cell?; simp [h1]
  rw [this] at hi
  exact rowBlk h2 hi
theorem TK.vd {B s d base : Nat} {nm : ByteArray} {P : List Pl} {bh : Pl} {w w' : World} {Bd d' room cnt us : Nat} {F : List UInt8 → Option (List Nat × Nat)} (h : TK B s w w') (hS : SG w B s d nm base P bh) (hd : V8.VD w Bd d' room F cnt us) : V8.VD w' Bd d' room F cnt us := by
  obtain ⟨pv, h1, h2⟩ := hS.blk
  refine hd.typed (fun i cs' t mk hi ht => h.kept i (lt_of_block hi) ?_ (fun hr => ?_)) (fun i es c hi => h.kept i ?_ ?_ (fun hr => ?_))
  · rintro rfl
    rw [h1] at hi
    cases hi
    rcases ht with h | h | h <;> revert h <;> decide
  · obtain ⟨_, cs, e⟩ := hS.rowT hr
    rw [hi] at e
    cases e
    rcases ht with h | h | h <;> revert h <;> decide
  · rcases Nat.lt_or_ge i w.heap.size with h | h
    · exact h
    · rw [Array.getElem?_eq_none h] at hi; cases hi
  · rintro rfl
    rw [h1] at hi
    cases hi
  · obtain ⟨_, cs, e⟩ := hS.rowT hr
    rw [hi] at e
    cases e
end Go.Proofs.YtcjlcieheepegaaGreatDoor
