/- Layer 11: Append of any segment. -/
import Derived.Test.YtmokjopffgmfjaaGreatDoorEKtf
namespace Go.Proofs.YtmokjopffgmfjaaGreatDoor
open Go.RowKit
set_option linter.unusedVariables false
set_option maxRecDepth 20000
set_option maxRecDepth 20000

/-- What Append turns: the segment's own block and row, and its disk. -/
structure AF (C s : Nat) (w w' : World) : Prop where
  below : Below C w w'
  kept : ∀ (i : Nat) (cs : Array Value) (t : TypeId) (m : Nat × Nat), w.heap[i]? = some (Obj.cells cs t m) → t ≠ 83 → t ≠ 79 → t ≠ 5 → i ≠ s → rowOf w s ≠ some i → w'.heap[i]? = w.heap[i]?
  row : rowOf w' s = rowOf w s ∨ ∀ j, rowOf w' s = some j → w.heap.size ≤ j
theorem AF.trans {C s : Nat} {a b c : World} (h : AF C s a b) (k : AF C s b c) : AF C s a c := by
  refine ⟨h.below.trans k.below, fun i cs t m hi h1 h2 h3 h4 h5 => ?_, ?_⟩
  · have e := h.kept i cs t m hi h1 h2 h3 h4 h5
    refine (k.kept i cs t m (e.trans hi) h1 h2 h3 h4 ?_).trans e
    rcases h.row with r | r
    · rw [r]; exact h5
    · intro e'
      have := r i e'
      have := lt_of_block hi
      omega
  · rcases k.row with r | r
    · rw [r]; exact h.row
    · exact .inr fun j hj => Nat.le_trans h.below.size (r j hj)
theorem AF.of {C s : Nat} {w w' : World} (h : Below w.heap.size w w') (hC : C ≤ w.heap.size) (hs : s < w.heap.size) : AF C s w w' :=
  ⟨h.mono hC, fun i cs t m hi _ _ _ _ _ => h.block i (lt_of_block hi), .inl (rowOf_same (h.block s hs))⟩
theorem AF.tk {B C s : Nat} {w w' : World} (h : TK B s w w') (hC : C ≤ B) : AF C s w w' :=
  ⟨h.below.mono hC, fun i cs t m hi _ _ _ h4 h5 => h.kept i (lt_of_block hi) h4 h5, h.row⟩
theorem AF.vf {B C s d base : Nat} {nm : ByteArray} {P : List Pl} {bh : Pl} {D : Nat} {w w' : World} (h : V8.VF D w w') (hC : C ≤ D) (hS : SG w B s d nm base P bh) : AF C s w w' := by
  obtain ⟨pv, h1, _⟩ := hS.blk
  exact ⟨h.below.mono hC, fun i cs t m hi a b c _ _ => h.kept i cs t m hi a b c, .inl (rowOf_same (h.kept s _ _ _ h1 (by decide) (by decide) (by decide)))⟩
set_option maxHeartbeats 4000000 in
theorem sappend_gen (w : World) (B Bd C s d base room cnt us cnt' us' : Nat) (nm : ByteArray) (F F' : List UInt8 → Option (List Nat × Nat)) (P : List Pl) (bh : Pl) (bt : BT) (hS : SG w B s d nm base P bh) (hD : V8.VD w Bd d room F cnt us) (hb : bt.ok) (hT : TabF w) (hbase : bt.h.base = bh.off) (hCB : C ≤ B) (hCd : C ≤ Bd) (hBw : B ≤ w.heap.size)
    (hp : bh.byt ≤ 1073741824) (hc : bh.cnt ≤ 1073741824) (hPl : P.length ≤ 1073741824) (hlb : ∀ p ∈ P, p.byt ≤ bh.byt)
    (HDA : ∀ W, V8.VD W Bd d room F cnt us → Calls Tryz.prog 28 #[.pointer (some ⟨d, 0, none⟩), .string nm, .string bt.s] W fun e w' => e = .returned (.int .i64 0) ∧ V8.VD w' Bd d room F' cnt' us' ∧ V8.VF Bd W w') :
    Calls Tryz.prog 9 #[.pointer (some ⟨s, 0, none⟩), .string bt.s] w fun e w' => e = .returned (.int .i64 0) ∧ (∃ P', SG w' B s d nm base P' ⟨bt.h.base + bt.h.cnt, bh.byt + bt.sz, bh.cnt + 1⟩ ∧ (P' = P ++ [bh] ∨ (P' = P ∧ P ≠ []))) ∧ V8.VD w' Bd d room F' cnt' us' ∧ AF C s w w' := by
  have HG := hide (sgiven_yes s w hS.cells.1)
  have HO := hide (bof_ok bt.h hb.ok bt.p [] bt.L w hT hb.hp (by simp) hb.of hb.len hb.within)
  rw [List.append_nil] at HO
  have HH := hide (And.intro hS (And.intro hD (And.intro hb.ok (And.intro hCB (And.intro hCd hBw)))))
  have HX := hide (And.intro hp (And.intro hc (And.intro hPl hlb)))
  have hsz := bt.size
  have hN1 : bt.sz ≤ 1048576 := by have := BT.sz_le hb; omega
  have HDA' := hide HDA
  obtain ⟨N, hN⟩ : ∃ N, bt.sz = N := ⟨_, rfl⟩
  have hN' : 39 + bt.p.length = N := hN
  obtain ⟨b, hbb⟩ : ∃ b, bt.s = b := ⟨_, rfl⟩
  have hbb' : mk (batL bt.h bt.p) = b := hbb
  rw [hN'] at HO
  rw [hN] at hsz hN1 ⊢
  rw [hbb'] at HO
  rw [hbb] at hsz HDA' ⊢
  clear hS hD hb hT hCB hCd hBw hbb hN hN' hbb' hp hc hPl hlb HDA
  go_enter Tryz.func9, Tryz.ntmps9
  go_wp2_with fail
  refine HG.out.mono ?_
  rintro e W ⟨rfl, hW⟩
  obtain rfl := hW.symm
  clear HG hW
  go_wp2_with fail
  refine HO.out.mono ?_
  rintro e w1 ⟨a1, cap1, rfl, hb1⟩
  clear HO
  obtain ⟨⟨xb, xc, xv, xp, xs, xn⟩, L⟩ := bt
  obtain ⟨bo, bb, bc⟩ := bh
  unfold HN.bv
  simp only at HH hbase ⊢
  subst hbase
  obtain ⟨U, hU⟩ : ∃ U, w1.heap.size = U := ⟨_, rfl⟩
  obtain ⟨LL, hLL⟩ : ∃ LL, L.length = LL := ⟨_, rfl⟩
  rw [hLL]
  have hba := below_a w1 (.cells #[.int .i64 (xb : Nat), .int .i64 (xc : Nat), .int .i64 (xv : Nat), .int .i64 (xp : Nat), .int .i64 (xs : Nat), .slice a1 LL cap1] 62)
  have H1 := hide (And.intro (hb1.trans (hba.mono hb1.size)) (heap_alloc_new w1 (.cells #[.int .i64 (xb : Nat), .int .i64 (xc : Nat), .int .i64 (xv : Nat), .int .i64 (xp : Nat), .int .i64 (xs : Nat), .slice a1 LL cap1] 62)))
  rw [hU] at H1
  clear hb1 hba hLL
  have hne : (((N : Nat) : Int) != (b.size : Int)) = false := by rw [hsz]; simp
  clear hsz
  go_upto_region 4 with fail
  try rw [hU]
  generalize (w1.alloc (.cells #[.int .i64 (xb : Nat), .int .i64 (xc : Nat), .int .i64 (xv : Nat), .int .i64 (xp : Nat), .int .i64 (xs : Nat), .slice a1 LL cap1] 62)) = w2 at H1
  clear hU
  have hS2 := HH.out.1.below H1.out.1
  obtain ⟨c0, c1, c2, c3, c5, c6, c7⟩ := hS2.cells
  obtain ⟨z0, z1, z2, z3, z4, z5⟩ := cells6 H1.out.2
  simp only at c5 c6 c7
  clear c0 c3 c6 c7 z1 z2 z3 z4 z5
  have HS2 := hide hS2
  clear hS2
  go_upto_region 6 with fail
  clear hne
  go_region
  go_upto_region 8 with fail
  have H3 : Hid (SG w2.drew B s d nm base P ⟨xb, bb, bc⟩ ∧ Below w.heap.size w w2.drew ∧ w2.drew.heap[U]? = some (.cells #[.int .i64 (xb : Nat), .int .i64 (xc : Nat), .int .i64 (xv : Nat), .int .i64 (xp : Nat), .int .i64 (xs : Nat), .slice a1 LL cap1] 62 (0, 0))) := ⟨HS2.out.below (belD w2), H1.out.1.trans ((belD w2).mono H1.out.1.size), H1.out.2⟩
  clear c1 c2 c5 z0 HS2 H1
  generalize w2.drew = w3 at H3
  obtain ⟨c0, c1, c2, c3, c5, c6, c7⟩ := H3.out.1.cells
  have e1 : w3.drew.cell? ⟨s, 1, none⟩ = some (.pointer (some ⟨d, 0, none⟩)) := c1
  have e2 : w3.drew.cell? ⟨s, 2, none⟩ = some (.string nm) := c2
  have HDA := hide (HDA'.out w3.drew (HH.out.2.1.below (H3.out.2.1.trans ((belD w3).mono H3.out.2.1.size))))
  clear c0 c1 c2 c3 c5 c6 c7
  go_region_held_law (fun w' => w'.cell? ⟨s, 1, none⟩ = some (.pointer (some ⟨d, 0, none⟩)) ∧ w'.cell? ⟨s, 2, none⟩ = some (.string nm))
    (first | exact ⟨e1, e2⟩ | go_keep)
    (first
      | (go_at_call 28; refine HDA.out.mono ?_; rintro e w4 ⟨rfl, hD4, hV4⟩; have H4 := hide (And.intro hD4 hV4); have hk4 : w4.cell? ⟨s, 1, none⟩ = some (.pointer (some ⟨d, 0, none⟩)) ∧ w4.cell? ⟨s, 2, none⟩ = some (.string nm) := ⟨((H3.out.1.below (belD w3)).vf hV4).cells.2.1, ((H3.out.1.below (belD w3)).vf hV4).cells.2.2.1⟩; clear hD4 hV4))
  have hV4 := H4.out.2
  have hU4 := (hV4.kept U _ _ _ H3.out.2.2 (by decide) (by decide) (by decide)).trans H3.out.2.2
  have HS4 := hide ((H3.out.1.below (belD w3)).vf hV4)
  obtain ⟨z0, z1, z2, z3, z4, z5⟩ := cells6 hU4
  have HTK := hide (take_ok w4 B s d base nm P ⟨xb, bb, bc⟩ HS4.out ⟨xb, xc, xv, xp, xs, xn⟩ HH.out.2.2.1 a1 LL cap1 N hN1 HX.out.1 HX.out.2.1 (Nat.le_trans (Nat.le_trans HH.out.2.2.2.2.2 H3.out.2.1.size) hV4.below.size) HX.out.2.2.1 HX.out.2.2.2)
  unfold HN.bv at HTK
  simp only at HTK
  clear hV4 hU4 e1 e2 hk4 HDA
  go_wp2_with fail
  refine HTK.out.mono ?_
  rintro e w5 ⟨rfl, hT5, hP5⟩
  have hD5 := hT5.vd HS4.out H4.out.1
  have hsl := HH.out.1.lt
  have H5 : Hid (_ ∧ _ ∧ AF C s w w5) := ⟨hP5, hD5, ((AF.of (H3.out.2.1.trans ((belD w3).mono H3.out.2.1.size)) (Nat.le_trans HH.out.2.2.2.1 HH.out.2.2.2.2.2) hsl).trans (AF.vf H4.out.2 HH.out.2.2.2.2.1 (H3.out.1.below (belD w3)))).trans (AF.tk hT5 HH.out.2.2.2.1)⟩
  clear hP5 hT5 hD5 hsl HTK z0 z1 z2 z3 z4 z5
  go_wp2
  go_ret
  exact ⟨rfl, H5.out.1, H5.out.2.1, H5.out.2.2⟩
set_option maxHeartbeats 4000000 in
/-- The disk refuses. -/
theorem sappend_disk (w : World) (B Bd s d base room cnt us : Nat) (nm : ByteArray) (F : List UInt8 → Option (List Nat × Nat)) (P : List Pl) (bh : Pl) (bt : BT) (hS : SG w B s d nm base P bh) (hD : V8.VD w Bd d room F cnt us) (hb : bt.ok) (hT : TabF w) (hbase : bt.h.base = bh.off)
    (HDA : ∀ W, V8.VD W Bd d room F cnt us → Calls Tryz.prog 28 #[.pointer (some ⟨d, 0, none⟩), .string nm, .string bt.s] W fun e w' => e = .returned (.int .i64 80) ∧ Below W.heap.size W w') :
    Calls Tryz.prog 9 #[.pointer (some ⟨s, 0, none⟩), .string bt.s] w fun e w' => e = .returned (.int .i64 80) ∧ Below w.heap.size w w' := by
  have HG := hide (sgiven_yes s w hS.cells.1)
  have HO := hide (bof_ok bt.h hb.ok bt.p [] bt.L w hT hb.hp (by simp) hb.of hb.len hb.within)
  rw [List.append_nil] at HO
  have HH := hide (And.intro hS hD)
  have hsz := bt.size
  have HDA' := hide HDA
  obtain ⟨N, hN⟩ : ∃ N, bt.sz = N := ⟨_, rfl⟩
  have hN' : 39 + bt.p.length = N := hN
  obtain ⟨b, hbb⟩ : ∃ b, bt.s = b := ⟨_, rfl⟩
  have hbb' : mk (batL bt.h bt.p) = b := hbb
  rw [hN'] at HO
  rw [hN] at hsz
  rw [hbb'] at HO
  rw [hbb] at hsz HDA' ⊢
  clear hS hD hb hT hbb hN hN' hbb' HDA
  go_enter Tryz.func9, Tryz.ntmps9
  go_wp2_with fail
  refine HG.out.mono ?_
  rintro e W ⟨rfl, hW⟩
  obtain rfl := hW.symm
  clear HG hW
  go_wp2_with fail
  refine HO.out.mono ?_
  rintro e w1 ⟨a1, cap1, rfl, hb1⟩
  clear HO
  obtain ⟨⟨xb, xc, xv, xp, xs, xn⟩, L⟩ := bt
  obtain ⟨bo, bb, bc⟩ := bh
  unfold HN.bv
  simp only at HH hbase ⊢
  subst hbase
  obtain ⟨U, hU⟩ : ∃ U, w1.heap.size = U := ⟨_, rfl⟩
  obtain ⟨LL, hLL⟩ : ∃ LL, L.length = LL := ⟨_, rfl⟩
  rw [hLL]
  have hba := below_a w1 (.cells #[.int .i64 (xb : Nat), .int .i64 (xc : Nat), .int .i64 (xv : Nat), .int .i64 (xp : Nat), .int .i64 (xs : Nat), .slice a1 LL cap1] 62)
  have H1 := hide (And.intro (hb1.trans (hba.mono hb1.size)) (heap_alloc_new w1 (.cells #[.int .i64 (xb : Nat), .int .i64 (xc : Nat), .int .i64 (xv : Nat), .int .i64 (xp : Nat), .int .i64 (xs : Nat), .slice a1 LL cap1] 62)))
  rw [hU] at H1
  clear hb1 hba hLL
  have hne : (((N : Nat) : Int) != (b.size : Int)) = false := by rw [hsz]; simp
  clear hsz
  go_upto_region 4 with fail
  try rw [hU]
  generalize (w1.alloc (.cells #[.int .i64 (xb : Nat), .int .i64 (xc : Nat), .int .i64 (xv : Nat), .int .i64 (xp : Nat), .int .i64 (xs : Nat), .slice a1 LL cap1] 62)) = w2 at H1
  clear hU
  have hS2 := HH.out.1.below H1.out.1
  obtain ⟨c0, c1, c2, c3, c5, c6, c7⟩ := hS2.cells
  obtain ⟨z0, z1, z2, z3, z4, z5⟩ := cells6 H1.out.2
  simp only at c5 c6 c7
  clear c0 c3 c6 c7 z1 z2 z3 z4 z5
  have HS2 := hide hS2
  clear hS2
  go_upto_region 6 with fail
  clear hne
  go_region
  go_upto_region 8 with fail
  have H3 : Hid (SG w2.drew B s d nm base P ⟨xb, bb, bc⟩ ∧ Below w.heap.size w w2.drew) := ⟨HS2.out.below (belD w2), H1.out.1.trans ((belD w2).mono H1.out.1.size)⟩
  clear c1 c2 c5 z0 HS2 H1
  generalize w2.drew = w3 at H3
  obtain ⟨c0, c1, c2, c3, c5, c6, c7⟩ := H3.out.1.cells
  have e1 : w3.drew.cell? ⟨s, 1, none⟩ = some (.pointer (some ⟨d, 0, none⟩)) := c1
  have e2 : w3.drew.cell? ⟨s, 2, none⟩ = some (.string nm) := c2
  have HDA := hide (HDA'.out w3.drew (HH.out.2.below (H3.out.2.trans ((belD w3).mono H3.out.2.size))))
  clear c0 c1 c2 c3 c5 c6 c7
  go_region_held_law (fun w' => w'.cell? ⟨s, 1, none⟩ = some (.pointer (some ⟨d, 0, none⟩)) ∧ w'.cell? ⟨s, 2, none⟩ = some (.string nm))
    (first | exact ⟨e1, e2⟩ | go_keep)
    (first
      | (go_at_call 28; refine HDA.out.mono ?_; rintro e w4 ⟨rfl, hV4⟩; have H4 := hide hV4; have hk4 : w4.cell? ⟨s, 1, none⟩ = some (.pointer (some ⟨d, 0, none⟩)) ∧ w4.cell? ⟨s, 2, none⟩ = some (.string nm) := ⟨((H3.out.1.below (belD w3)).below hV4).cells.2.1, ((H3.out.1.below (belD w3)).below hV4).cells.2.2.1⟩; clear hV4))
  have HF := hide ((H3.out.2.trans ((belD w3).mono H3.out.2.size)).trans (H4.out.mono (show w.heap.size ≤ w3.drew.heap.size from H3.out.2.size)))
  clear e1 e2 hk4 HDA H4
  go_wp2
  go_ret
  exact ⟨rfl, HF.out⟩
set_option maxHeartbeats 2000000 in
/-- A batch with more behind it. -/
theorem sappend_more (w : World) (B s d base : Nat) (nm : ByteArray) (P : List Pl) (bh : Pl) (bt : BT) (t : List UInt8) (hS : SG w B s d nm base P bh) (hb : bt.ok) (hT : TabF w) (ht : t ≠ []) (htl : t.length ≤ 1048576) :
    Calls Tryz.prog 9 #[.pointer (some ⟨s, 0, none⟩), .string (mk (bt.z ++ t))] w fun e w' => e = .returned (.int .i64 100) ∧ Below w.heap.size w w' := by
  have HG := hide (sgiven_yes s w hS.cells.1)
  have HO := hide (bof_ok bt.h hb.ok bt.p t bt.L w hT hb.hp (by omega) hb.of hb.len hb.within)
  have hsz : (mk (bt.z ++ t)).size = bt.sz + t.length := by rw [mk_size, List.length_append, bt.z_length]
  have htp : 0 < t.length := List.length_pos_iff.2 ht
  obtain ⟨N, hN⟩ : ∃ N, bt.sz = N := ⟨_, rfl⟩
  have hN' : 39 + bt.p.length = N := hN
  obtain ⟨b, hbb⟩ : ∃ b, mk (bt.z ++ t) = b := ⟨_, rfl⟩
  have hbb' : mk (batL bt.h bt.p ++ t) = b := hbb
  rw [hN'] at HO
  rw [hbb'] at HO
  rw [hN] at hsz
  rw [hbb] at hsz ⊢
  have hne : (((N : Nat) : Int) != (b.size : Int)) = true := by rw [hsz]; simp; omega
  clear hS hb hT hbb hbb' hN hN' hsz htp ht htl
  go_enter Tryz.func9, Tryz.ntmps9
  go_wp2_with fail
  refine HG.out.mono ?_
  rintro e W ⟨rfl, hW⟩
  obtain rfl := hW.symm
  clear HG hW
  go_wp2_with fail
  refine HO.out.mono ?_
  rintro e w1 ⟨a1, cap1, rfl, hb1⟩
  clear HO
  obtain ⟨⟨xb, xc, xv, xp, xs, xn⟩, L⟩ := bt
  unfold HN.bv
  obtain ⟨LL, hLL⟩ : ∃ LL, L.length = LL := ⟨_, rfl⟩
  simp only
  rw [hLL]
  have hba := below_a w1 (.cells #[.int .i64 (xb : Nat), .int .i64 (xc : Nat), .int .i64 (xv : Nat), .int .i64 (xp : Nat), .int .i64 (xs : Nat), .slice a1 LL cap1] 62)
  have H1 := hide (hb1.trans (hba.mono hb1.size))
  clear hb1 hba hLL
  go_upto_region 4 with fail
  generalize (w1.alloc (.cells #[.int .i64 (xb : Nat), .int .i64 (xc : Nat), .int .i64 (xv : Nat), .int .i64 (xp : Nat), .int .i64 (xs : Nat), .slice a1 LL cap1] 62)) = w2 at H1
  go_wp2
  go_ret
  exact ⟨rfl, H1.out⟩
set_option maxHeartbeats 2000000 in
/-- What is too short for a batch. -/
theorem sappend_short (w : World) (B s d base : Nat) (nm : ByteArray) (P : List Pl) (bh : Pl) (b : ByteArray) (hS : SG w B s d nm base P bh) (hb : Short b) :
    Calls Tryz.prog 9 #[.pointer (some ⟨s, 0, none⟩), .string b] w fun e w' => e = .returned (.int .i64 100) ∧ Below w.heap.size w w' := by
  have HG := hide (sgiven_yes s w hS.cells.1)
  have HO := hide (bof_short b w hb)
  unfold bv0 at HO
  clear hS hb
  go_enter Tryz.func9, Tryz.ntmps9
  go_wp2_with fail
  refine HG.out.mono ?_
  rintro e W ⟨rfl, hW⟩
  obtain rfl := hW.symm
  clear HG hW
  go_wp2_with fail
  refine HO.out.mono ?_
  rintro e w1 ⟨rfl, hb1⟩
  clear HO
  have hba := below_a w1 (.cells #[.int .i64 0, .int .i64 0, .int .i64 0, .int .i64 0, .int .i64 0, .slice none 0 0] 62)
  have H1 := hide (hb1.trans (hba.mono hb1.size))
  clear hb1 hba
  go_upto_region 4 with fail
  generalize (w1.alloc (.cells #[.int .i64 0, .int .i64 0, .int .i64 0, .int .i64 0, .int .i64 0, .slice none 0 0] 62)) = w2 at H1
  go_wp2
  go_ret
  exact ⟨rfl, H1.out⟩
set_option maxHeartbeats 2000000 in
/-- A batch's bytes that lack some. -/
theorem short_cut (bt : BT) (hb : bt.ok) (k : Nat) (hk : k < bt.sz) : Short (mk (bt.z.take k)) := by
  by_cases h10 : k < 10
  · exact short_few _ (by rw [mk_size, List.length_take]; omega)
  intro W
  have hle := BT.sz_le hb
  have hl : (bt.z.take k).length = k := by rw [List.length_take, bt.z_length]; omega
  have hz : bt.z = [80, 66] ++ (fxL (29 + bt.p.length) 4 ++ (fxL (crcL (sumL bt.h bt.p)) 4 ++ sumL bt.h bt.p)) := rfl
  have hz2 : bt.z.take k = [80, 66] ++ (fxL (29 + bt.p.length) 4 ++ (fxL (crcL (sumL bt.h bt.p)) 4 ++ sumL bt.h bt.p).take (k - 6)) := by
    rw [hz, List.take_append, List.take_of_length_le (by simp; omega), List.take_append, List.take_of_length_le (by rw [fxL_length]; simp; omega)]
    rw [fxL_length]
    simp only [List.length_cons, List.length_nil]
    congr 3
  obtain ⟨s, hs⟩ : ∃ s, mk (bt.z.take k) = s := ⟨_, rfl⟩
  have hsz : s.size = k := by rw [← hs, mk_size, hl]
  have hx : s.extract 0 2 = ⟨#[80, 66]⟩ := by rw [← hs, extract_take, hz2]; rfl
  have hN : bt.sz = 10 + (29 + bt.p.length) := by unfold BT.sz; omega
  have HF1 : Hid (Calls Tryz.prog 69 #[.string (s.extract 2 s.size), .int .i64 4] W fun e w' => e = .returned (.tuple #[.int .i64 ((29 + bt.p.length : Nat) : Int), .int .i64 0]) ∧ w' = W) := by
    have e2 : s.extract 2 s.size = mk (fxL (29 + bt.p.length) 4 ++ (fxL (crcL (sumL bt.h bt.p)) 4 ++ sumL bt.h bt.p).take (k - 6)) := by
      rw [← hs, extract_drop, hz2]; congr 1
    rw [e2]
    have hf := fixN_fx (29 + bt.p.length) 4 ((fxL (crcL (sumL bt.h bt.p)) 4 ++ sumL bt.h bt.p).take (k - 6)) (by omega)
    have := fixed (mk (fxL (29 + bt.p.length) 4 ++ (fxL (crcL (sumL bt.h bt.p)) 4 ++ sumL bt.h bt.p).take (k - 6))) 4 W (by omega) (by omega) (by rw [mk_size]; simp [fxL_length]) (by rw [hf]; omega)
    rw [hf] at this
    exact this
  obtain ⟨n, hn⟩ : ∃ n, 29 + bt.p.length = n := ⟨_, rfl⟩
  rw [hn] at HF1
  have HP : Hid (∀ W, Calls Tryz.prog 70 #[.string s, .string ⟨#[80, 66]⟩] W fun e w' => e = .returned (.bool true) ∧ w' = W) := fun W => hasPB s W (by omega) hx
  have HW : Hid (∀ W, Calls Tryz.prog 61 #[.int .i64 (n : Nat), .int .i64 29, .int .i64 262144] W fun e w' => e = .returned (.bool true) ∧ w' = W) := fun W => isWithin_yes _ _ _ W (by omega) (by omega)
  have hs1 : ¬ (s.size : Int) < 10 := by omega
  have hs2 : (s.size : Int) < 10 + (n : Int) := by omega
  have hs3 : 2 ≤ s.size := by omega
  have hnb : n ≤ 262144 := by omega
  rw [hs]
  clear hs hl hz hz2 hx hN hn hk hle hb h10 hsz
  go_enter Tryz.func57, Tryz.ntmps57
  go_wp2_with fail
  refine HF1.out.mono ?_
  rintro e W ⟨rfl, hW⟩
  obtain rfl := hW.symm
  clear hW
  go_wp2_with fail
  refine (HP.out _).mono ?_
  rintro e W ⟨rfl, hW⟩
  obtain rfl := hW.symm
  clear hW
  go_wp2_with fail
  refine (HW.out _).mono ?_
  rintro e W ⟨rfl, hW⟩
  obtain rfl := hW.symm
  clear hW
  go_wp2
  go_ret2
  exact ⟨rfl, rfl⟩
end Go.Proofs.YtmokjopffgmfjaaGreatDoor
