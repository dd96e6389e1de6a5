/- Layer 12: a log lies in memory; given, last, End. -/
/- Layer 12: Append of a log whose last segment has room. -/
/- Layer 12: a log, and a part that is not in it yet. -/
/- Layer 12: Append that begins another segment (roll). -/
/- Layer 12: Append refused, and Append that begins another segment. -/
/- Layer 12: a log within a zone: what another log's calls leave as it is. -/
/- Layer 12: Append of a log turns nothing outside the log's zone. -/
import Derived.Test.YtcjlcieheepegaaGreatDoorV30
import Derived.Test.YtcjlcieheepegaaGreatDoorV29
import Derived.LaidEqlPtr
namespace Go.Proofs.YtcjlcieheepegaaGreatDoor
open Go.RowKit
set_option linter.unusedVariables false
set_option maxRecDepth 20000
set_option maxRecDepth 20000

/-- A part of a log: its block, its segment's block, its base, its batches, which of them are listed. -/
structure Prt where
  p : Nat
  s : Nat
  base : Nat
  l : List BT
  K : List Nat
/-- A part lies in memory. -/
structure PO (w : World) (B d : Nat) (F : List UInt8 → Option (List Nat × Nat)) (x : Prt) : Prop where
  blk : w.heap[x.p]? = some (.cells #[.pointer (some ⟨x.s, 0, none⟩), .string (nmB x.base)] 55 (0, 0))
  sn : SN w B x.s d x.base (nmB x.base) F x.l x.K
def pcl (P : List Prt) : List Value := P.map fun x => .pointer (some ⟨x.p, 0, none⟩)
/-- Block g is a log of the disk d: its parts. -/
structure LQ (w : World) (B d g lim : Nat) (F : List UInt8 → Option (List Nat × Nat)) (P : List Prt) : Prop where
  blk : ∃ pv, w.heap[g]? = some (.cells #[.pointer (some ⟨g, 0, none⟩), .pointer (some ⟨d, 0, none⟩), .int .i64 (lim : Nat), pv] 58 (0, 0)) ∧ w.ownsRow B 51 1 pv P.length (pcl P)
  po : ∀ x ∈ P, PO w B d F x
  ap : P.Pairwise fun x y => Apart w x.s y.s ∧ x.base < y.base
  hB : B ≤ g
/-- .. and its disk, that has no other files. -/
structure LG (w : World) (B Bd d g lim room cnt us : Nat) (F : List UInt8 → Option (List Nat × Nat)) (P : List Prt) : Prop where
  lq : LQ w B d g lim F P
  vd : V8.VD w Bd d room F cnt us
  fil : ∀ t, F t ≠ none → ∃ x ∈ P, t = (nmB x.base).data.toList
theorem PO.below {w w' : World} {B d : Nat} {F : List UInt8 → Option (List Nat × Nat)} {x : Prt} (h : PO w B d F x) (hb : Below w.heap.size w w') : PO w' B d F x :=
  ⟨(hb.block _ (lt_of_block h.blk)).trans h.blk, h.sn.keep (h.sn.sg.below hb) rfl⟩
theorem Apart.below {w w' : World} {s t : Nat} (h : Apart w s t) (hs : s < w.heap.size) (ht : t < w.heap.size) (hb : Below w.heap.size w w') : Apart w' s t := by
  refine ⟨h.1, fun j e e' => ?_⟩
  rw [rowOf_same (hb.block t ht)] at e
  rw [rowOf_same (hb.block s hs)] at e'
  exact h.2 j e e'
theorem LQ.below {w w' : World} {B d g lim : Nat} {F : List UInt8 → Option (List Nat × Nat)} {P : List Prt} (h : LQ w B d g lim F P) (hb : Below w.heap.size w w') : LQ w' B d g lim F P := by
  obtain ⟨pv, h1, h2⟩ := h.blk
  refine ⟨⟨pv, (hb.block _ (lt_of_block h1)).trans h1, owns_below h2 hb⟩, fun x hx => (h.po x hx).below hb, ?_, h.hB⟩
  refine List.Pairwise.imp_of_mem ?_ h.ap
  intro x y hx hy hxy
  exact ⟨hxy.1.below (h.po x hx).sn.sg.lt (h.po y hy).sn.sg.lt hb, hxy.2⟩
theorem LG.below {w w' : World} {B Bd d g lim room cnt us : Nat} {F : List UInt8 → Option (List Nat × Nat)} {P : List Prt} (h : LG w B Bd d g lim room cnt us F P) (hb : Below w.heap.size w w') : LG w' B Bd d g lim room cnt us F P :=
  ⟨h.lq.below hb, h.vd.below hb, h.fil⟩
theorem LQ.cells {w : World} {B d g lim : Nat} {F : List UInt8 → Option (List Nat × Nat)} {P : List Prt} (h : LQ w B d g lim F P) : w.cell? ⟨g, 0, none⟩ = some (.pointer (some ⟨g, 0, none⟩)) ∧ w.cell? ⟨g, 1, none⟩ = some (.pointer (some ⟨d, 0, none⟩)) ∧ w.cell? ⟨g, 2, none⟩ = some (.int .i64 (lim : Nat)) := by
  obtain ⟨pv, h1, _⟩ := h.blk
  simp [World.cell?, h1]
/-- The row of a log's parts. -/
theorem LQ.row {w : World} {B d g lim : Nat} {F : List UInt8 → Option (List Nat × Nat)} {P : List Prt} (h : LQ w B d g lim F P) (h0 : 0 < P.length) : ∃ r cap, w.cell? ⟨g, 3, none⟩ = some (.slice (some ⟨r, 0, none⟩) P.length cap) ∧ (∀ i x, P[i]? = some x → w.cell? ⟨r, i, none⟩ = some (.pointer (some ⟨x.p, 0, none⟩))) ∧ B ≤ r ∧ r < w.heap.size ∧ P.length ≤ 9223372036854775807 := by
  obtain ⟨pv, h1, h2⟩ := h.blk
  obtain ⟨r, cap, rfl, hr, hlt⟩ := h2.form h0
  refine ⟨r, cap, by simp [World.cell?, h1], fun i x hx => ?_, hr, hlt, ?_⟩
  · have := h2.cells (g := r) rfl i (.pointer (some ⟨x.p, 0, none⟩)) (by simp [pcl, hx])
    rw [add_zero_addr] at this
    exact this
  · rcases h2.2 with ⟨e, _⟩ | ⟨g', cap', cur, e, _, hb, h3, h4, _⟩
    · cases e
    · unfold maxLen at h4; omega
theorem PO.cells {w : World} {B d : Nat} {F : List UInt8 → Option (List Nat × Nat)} {x : Prt} (h : PO w B d F x) : w.cell? ⟨x.p, 0, none⟩ = some (.pointer (some ⟨x.s, 0, none⟩)) ∧ w.cell? ⟨x.p, 1, none⟩ = some (.string (nmB x.base)) := by
  simp [World.cell?, h.blk]
theorem eqSelfL (a : Addr) (w : World) : (binOp .eql 24 (.pointer (some a)) (.pointer (some a))).run Tryz.prog w = .ok (.bool true) w := by
  obtain ⟨j, hj⟩ : ∃ j, Tryz.prog.info? 58 = some j := Option.isSome_iff_exists.1 (by kernel_rfl)
  exact run_eql_ptr_same w a Tryz.underlying24 hj
theorem eqNilL (a : Addr) (w : World) : (binOp .eql 24 (.pointer none) (.pointer (some a))).run Tryz.prog w = .ok (.bool false) w :=
  V8.eql_nil_ptr w a Tryz.underlying24
theorem lgiven_yes (g : Nat) (w : World) (h0 : w.cell? ⟨g, 0, none⟩ = some (.pointer (some ⟨g, 0, none⟩))) :
    Calls Tryz.prog 14 #[.pointer (some ⟨g, 0, none⟩)] w fun e w' => e = .returned (.bool true) ∧ w' = w := by
  have he := eqSelfL ⟨g, 0, none⟩
  go_enter Tryz.func14, Tryz.ntmps14
  go_wp2
  go_ret
  exact ⟨rfl, rfl⟩
theorem lgiven_zero (g : Nat) (w : World) (h0 : w.cell? ⟨g, 0, none⟩ = some (.pointer none)) :
    Calls Tryz.prog 14 #[.pointer (some ⟨g, 0, none⟩)] w fun e w' => e = .returned (.bool false) ∧ w' = w := by
  have he := eqNilL ⟨g, 0, none⟩
  go_enter Tryz.func14, Tryz.ntmps14
  go_wp2
  go_ret
  exact ⟨rfl, rfl⟩
theorem lgiven_nil (w : World) :
    Calls Tryz.prog 14 #[.pointer none] w fun e w' => e = .returned (.bool false) ∧ w' = w := by
  go_enter Tryz.func14, Tryz.ntmps14
  go_wp2
  go_ret
  exact ⟨rfl, rfl⟩
theorem last_ok (w : World) (B d g lim : Nat) (F : List UInt8 → Option (List Nat × Nat)) (Q : List Prt) (x : Prt) (h : LQ w B d g lim F (Q ++ [x])) :
    Calls Tryz.prog 15 #[.pointer (some ⟨g, 0, none⟩)] w fun e w' => e = .returned (.pointer (some ⟨x.p, 0, none⟩)) ∧ w' = w.drew := by
  obtain ⟨r, cap, c3, hr, _, _, hl⟩ := h.row (by simp)
  have hx := hr Q.length x (by simp)
  obtain ⟨n, hn⟩ : ∃ n, (Q ++ [x]).length = n := ⟨_, rfl⟩
  have hn1 : n = Q.length + 1 := by rw [← hn]; simp
  obtain ⟨m, hm⟩ : ∃ m, Q.length = m := ⟨_, rfl⟩
  rw [hm] at hx hn1
  rw [hn] at c3 hl
  subst hn1
  have e1 : wrap64 (((m + 1 : Nat) : Int) - 1) = (m : Int) := by unfold wrap64; omega
  have e2 : (m : Int) < ((m + 1 : Nat) : Int) := by omega
  clear h hr hn hm
  go_enter Tryz.func15, Tryz.ntmps15
  go_wp2_with fail
  go_region
  go_wp2
  go_ret
  exact ⟨rfl, rfl⟩
theorem lend_ok (w : World) (B d g lim : Nat) (F : List UInt8 → Option (List Nat × Nat)) (Q : List Prt) (x : Prt) (h : LQ w B d g lim F (Q ++ [x])) :
    Calls Tryz.prog 7 #[.pointer (some ⟨g, 0, none⟩)] w fun e w' => e = .returned (.int .i64 (endB x.base x.l : Nat)) ∧ w' = w.drew := by
  have HG := hide (lgiven_yes g w h.cells.1)
  have HL := hide (last_ok w B d g lim F Q x h)
  have hx := h.po x (by simp)
  have HE : Hid (Calls Tryz.prog 16 #[.pointer (some ⟨x.s, 0, none⟩)] w.drew fun e w' => e = .returned (.int .i64 (endB x.base x.l : Nat)) ∧ w' = w.drew) := by
    have := sEnd_ok w.drew B x.s d x.base (nmB x.base) _ _ (hx.sn.sg.below (belD w))
    rw [plAt_full] at this
    exact this
  have p0 : w.drew.cell? ⟨x.p, 0, none⟩ = some (.pointer (some ⟨x.s, 0, none⟩)) := hx.cells.1
  obtain ⟨z, hz⟩ : ∃ z, endB x.base x.l = z := ⟨_, rfl⟩
  rw [hz] at HE ⊢
  clear h hx hz
  go_enter Tryz.func7, Tryz.ntmps7
  go_wp2_with fail
  refine HG.out.mono ?_
  rintro e W ⟨rfl, hW⟩
  obtain rfl := hW.symm
  clear HG hW
  go_wp2_with fail
  refine HL.out.mono ?_
  rintro e W ⟨rfl, hW⟩
  obtain rfl := hW.symm
  clear HL hW
  go_wp2_with fail
  refine HE.out.mono ?_
  rintro e W ⟨rfl, hW⟩
  obtain rfl := hW.symm
  clear HE hW
  go_wp2
  go_ret
  exact ⟨rfl, rfl⟩
end Go.Proofs.YtcjlcieheepegaaGreatDoor
namespace Go.Proofs.YtcjlcieheepegaaGreatDoor
open Go.RowKit
set_option linter.unusedVariables false
set_option maxRecDepth 20000
set_option maxRecDepth 20000

theorem neSeg {w : World} {B s d base i : Nat} {nm : ByteArray} {P : List Pl} {bh : Pl} {cs : Array Value} {t : TypeId} {m : Nat × Nat} (hS : SG w B s d nm base P bh) (hi : w.heap[i]? = some (Obj.cells cs t m)) (ht : t ≠ 71) : i ≠ s := by
  rintro rfl
  obtain ⟨pv, h1, _⟩ := hS.blk
  rw [h1] at hi
  cases hi
  exact ht rfl
theorem Apart.rows {w w' : World} {s t : Nat} (h : Apart w s t) (hs : rowOf w' s = rowOf w s) (ht : rowOf w' t = rowOf w t) : Apart w' s t := by
  refine ⟨h.1, fun j e e' => ?_⟩
  rw [ht] at e
  rw [hs] at e'
  exact h.2 j e e'
theorem pcl_last (Q : List Prt) {x x' : Prt} (hp : x'.p = x.p) : pcl (Q ++ [x']) = pcl (Q ++ [x]) := by simp [pcl, hp]
/-- A call of the last segment. -/
theorem LQ.over {w w' : World} {B C d g lim : Nat} {F : List UInt8 → Option (List Nat × Nat)} {Q : List Prt} {x x' : Prt} {o : Option (List Nat × Nat)} (h : LQ w B d g lim F (Q ++ [x])) (hf : AF C x.s w w') (hp : x'.p = x.p) (hs : x'.s = x.s) (hb : x'.base = x.base) (hsn : SN w' B x.s d x.base (nmB x.base) (V8.upd F (nmB x.base).data.toList o) x'.l x'.K) :
    LQ w' B d g lim (V8.upd F (nmB x.base).data.toList o) (Q ++ [x']) := by
  have hx := h.po x (by simp)
  have hS := hx.sn.sg
  obtain ⟨pv, h1, h2⟩ := h.blk
  obtain ⟨apQ, _, apx⟩ := List.pairwise_append.1 h.ap
  have hA : ∀ y ∈ Q, Apart w x.s y.s ∧ y.base < x.base := fun y hy => ⟨(apx y hy x (by simp)).1.symm, (apx y hy x (by simp)).2⟩
  refine ⟨⟨pv, (hf.block hS h1 (by decide) (by decide) (by decide) (by decide) (neSeg hS h1 (by decide))).trans h1, ?_⟩, fun y hy => ?_, ?_, h.hB⟩
  · rw [pcl_last Q hp, show (Q ++ [x']).length = (Q ++ [x]).length by simp]
    exact rowKeep h2 fun gr cs e => hf.block hS e (by decide) (by decide) (by decide) (by decide) (neSeg hS e (by decide))
  · rcases List.mem_append.1 hy with hy | hy
    · have hyo := h.po y (List.mem_append_left _ hy)
      exact ⟨(hf.block hS hyo.blk (by decide) (by decide) (by decide) (by decide) (neSeg hS hyo.blk (by decide))).trans hyo.blk, hyo.sn.other hf hS (hA y hy).1 (nmB_ne (by have := (hA y hy).2; omega))⟩
    · rw [List.mem_singleton] at hy
      subst hy
      refine ⟨?_, ?_⟩
      · rw [hp, hs, hb]
        exact (hf.block hS hx.blk (by decide) (by decide) (by decide) (by decide) (neSeg hS hx.blk (by decide))).trans hx.blk
      · rw [hs, hb]; exact hsn
  · refine List.pairwise_append.2 ⟨?_, List.pairwise_singleton _ _, fun a ha b hb' => ?_⟩
    · refine List.Pairwise.imp_of_mem ?_ apQ
      intro a b ha hb' hab
      exact ⟨hab.1.rows (((h.po a (List.mem_append_left _ ha)).sn.sg.other hf hS (hA a ha).1).2) (((h.po b (List.mem_append_left _ hb')).sn.sg.other hf hS (hA b hb').1).2), hab.2⟩
    · rw [List.mem_singleton] at hb'
      subst hb'
      rw [hs, hb]
      exact ⟨(Apart.over (h.po a (List.mem_append_left _ ha)).sn.sg hf hS (hA a ha).1).symm, (hA a ha).2⟩
theorem LG.over {w w' : World} {B Bd C d g lim room cnt us cnt' us' : Nat} {F : List UInt8 → Option (List Nat × Nat)} {Q : List Prt} {x x' : Prt} {o : Option (List Nat × Nat)} (h : LG w B Bd d g lim room cnt us F (Q ++ [x])) (hf : AF C x.s w w') (hp : x'.p = x.p) (hs : x'.s = x.s) (hb : x'.base = x.base) (hsn : SN w' B x.s d x.base (nmB x.base) (V8.upd F (nmB x.base).data.toList o) x'.l x'.K) (hvd : V8.VD w' Bd d room (V8.upd F (nmB x.base).data.toList o) cnt' us') :
    LG w' B Bd d g lim room cnt' us' (V8.upd F (nmB x.base).data.toList o) (Q ++ [x']) := by
  refine ⟨h.lq.over hf hp hs hb hsn, hvd, fun t ht => ?_⟩
  · by_cases e : t = (nmB x.base).data.toList
    · exact ⟨x', by simp, by rw [hb]; exact e⟩
    · have h3 : F t ≠ none := by
        have : V8.upd F (nmB x.base).data.toList o t = F t := if_neg e
        rw [this] at ht
        exact ht
      obtain ⟨y, hy, e'⟩ := h.fil t h3
      rcases List.mem_append.1 hy with hy | hy
      · exact ⟨y, List.mem_append_left _ hy, e'⟩
      · rw [List.mem_singleton] at hy
        subst hy
        exact absurd e' e
theorem belN (W W' : World) (h : W'.heap = W.heap) (h1 : W'.os = W.os) (h2 : W'.tape = W.tape) (h3 : W'.output = W.output) : Below W.heap.size W W' := ⟨h1, h2, h3, by rw [h]; exact Nat.le_refl _, fun _ _ => by rw [h]⟩
set_option maxHeartbeats 4000000 in
theorem lappend_ok (w : World) (B Bd C d g lim room cnt us : Nat) (F : List UInt8 → Option (List Nat × Nat)) (Q : List Prt) (x : Prt) (bt : BT) (h : LG w B Bd d g lim room cnt us F (Q ++ [x])) (hb : bt.ok) (hbase : bt.h.base = endB x.base x.l) (hT : TabF w) (hCB : C ≤ B) (hCd : C ≤ Bd) (hBw : B ≤ w.heap.size) (hl1 : x.l.length ≤ 1073741824) (hl2 : szs x.l ≤ 1073741824) (hlt : szs x.l < lim) (hr : us + bt.sz ≤ room) (hcn : cnt < 256) :
    Calls Tryz.prog 8 #[.pointer (some ⟨g, 0, none⟩), .string bt.s] w fun e w' => e = .returned (.int .i64 0) ∧ (∃ F' K' cnt', LG w' B Bd d g lim room cnt' (us + bt.sz) F' (Q ++ [⟨x.p, x.s, x.base, x.l ++ [bt], K'⟩]) ∧ cnt' ≤ cnt + 1) ∧ Below C w w' := by
  have HG := hide (lgiven_yes g w h.lq.cells.1)
  have HL : Hid (∀ W, Below w.heap.size w W → Calls Tryz.prog 15 #[.pointer (some ⟨g, 0, none⟩)] W fun e w' => e = .returned (.pointer (some ⟨x.p, 0, none⟩)) ∧ w' = W.drew) := fun W hW => last_ok W B d g lim F Q x (h.lq.below hW)
  have hx := h.lq.po x (by simp)
  have HSz : Hid (∀ W, Below w.heap.size w W → Calls Tryz.prog 17 #[.pointer (some ⟨x.s, 0, none⟩)] W fun e w' => e = .returned (.int .i64 (szs x.l : Nat)) ∧ w' = W) := fun W hW => by
    have := sSize_ok W B x.s d x.base (nmB x.base) _ _ (hx.sn.sg.below hW)
    rw [plAt_full] at this
    exact this
  have HA : Hid (∀ W, Below w.heap.size w W → Calls Tryz.prog 18 #[.pointer (some ⟨x.s, 0, none⟩), .string bt.s] W fun e w' => e = .returned (.int .i64 0) ∧ (∃ F' K' cnt', LG w' B Bd d g lim room cnt' (us + bt.sz) F' (Q ++ [⟨x.p, x.s, x.base, x.l ++ [bt], K'⟩]) ∧ cnt' ≤ cnt + 1) ∧ Below C w w') := fun W hW => by
    have hL := h.below hW
    refine (sn_append W B Bd C x.s d x.base room cnt us (nmB x.base) F x.l x.K bt (hL.lq.po x (by simp)).sn hL.vd hb hbase (hT.new hW) hCB hCd (Nat.le_trans hBw hW.size) hl1 hl2 hr hcn).mono ?_
    rintro e w' ⟨rfl, ⟨o, K', cnt', hsn, hvd, hcc⟩, haf⟩
    exact ⟨rfl, ⟨_, K', cnt', hL.over (x' := ⟨x.p, x.s, x.base, x.l ++ [bt], K'⟩) haf rfl rfl rfl hsn hvd, by rcases hcc with ⟨_, e⟩ | ⟨_, e⟩ <;> omega⟩, (hW.mono (Nat.le_trans hCB hBw)).trans haf.below⟩
  obtain ⟨b, hbb⟩ : ∃ b, bt.s = b := ⟨_, rfl⟩
  rw [hbb] at HA ⊢
  obtain ⟨_, _, c2⟩ := h.lq.cells
  have p0 := hx.cells.1
  have hlti : ((szs x.l : Nat) : Int) < (lim : Int) := by omega
  obtain ⟨z, hz⟩ : ∃ z, szs x.l = z := ⟨_, rfl⟩
  obtain ⟨xp, hxp⟩ : ∃ z, x.p = z := ⟨_, rfl⟩
  obtain ⟨xs, hxs⟩ : ∃ z, x.s = z := ⟨_, rfl⟩
  obtain ⟨N, hN⟩ : ∃ z, nmB x.base = z := ⟨_, rfl⟩
  rw [hz] at HSz hlti
  rw [hxp] at HL p0
  rw [hxs] at HSz HA p0
  have k2 : ∀ W, Below w.heap.size w W → W.cell? ⟨g, 2, none⟩ = some (.int .i64 (lim : Nat)) ∧ W.cell? ⟨xp, 0, none⟩ = some (.pointer (some ⟨xs, 0, none⟩)) := fun W hW => ⟨cellB hW c2, cellB hW p0⟩
  have HK := hide k2
  clear h hb hbase hT hCB hCd hBw hl1 hl2 hlt hr hcn hx hz hxp hN hbb k2
  go_enter Tryz.func8, Tryz.ntmps8
  go_wp2_with fail
  refine HG.out.mono ?_
  rintro e W ⟨rfl, hW⟩
  obtain rfl := hW.symm
  clear HG hW
  go_upto_region 3 with fail
  go_region_held_law (fun w' => w'.cell? ⟨g, 2, none⟩ = some (.int .i64 (lim : Nat)) ∧ w'.cell? ⟨xp, 0, none⟩ = some (.pointer (some ⟨xs, 0, none⟩)))
    (first | exact ⟨c2, p0⟩ | go_keep)
    (first
      | (go_at_call 15; refine (HL.out _ (by exact belN _ _ rfl rfl rfl rfl)).mono ?_; rintro e w4 ⟨rfl, hw4⟩; have hB4 : Below w.heap.size w w4 := (by rw [hw4]; exact belN _ _ rfl rfl rfl rfl); have hk4 := HK.out w4 hB4; have HB4 := hide hB4; clear hw4 hB4)
      | (go_at_call 17; refine (HSz.out _ (by exact HB4.out)).mono ?_; rintro e w5 ⟨rfl, hw5⟩; subst hw5))
  clear c2 p0 HK HSz
  go_wp2_with fail
  refine (HL.out _ (by exact HB4.out)).mono ?_
  rintro e w6 ⟨rfl, hw6⟩
  have hB6 : Below w.heap.size w w6 := HB4.out.trans (by rw [hw6]; exact (belD _).mono HB4.out.size)
  have p6 : w6.cell? ⟨xp, 0, none⟩ = some (.pointer (some ⟨xs, 0, none⟩)) := by rw [hw6]; exact hk4.2
  have HA6 := hide (HA.out w6 hB6)
  clear hk4 hw6 HL HA hB6
  go_wp2_with fail
  refine HA6.out.mono ?_
  rintro e w7 ⟨rfl, h7⟩
  have H7 := hide h7
  clear h7 HA6
  go_wp2
  go_ret
  refine ⟨rfl, ?_, H7.out.2⟩
  rw [hxs]
  exact H7.out.1
end Go.Proofs.YtcjlcieheepegaaGreatDoor
namespace Go.Proofs.YtcjlcieheepegaaGreatDoor
open Go.RowKit
set_option linter.unusedVariables false
set_option maxRecDepth 20000
set_option maxRecDepth 20000

theorem SG.mono {w : World} {B B' s d base : Nat} {nm : ByteArray} {P : List Pl} {bh : Pl} (h : SG w B s d nm base P bh) (hB : B' ≤ B) : SG w B' s d nm base P bh := by
  obtain ⟨⟨pv, h1, h2, h3⟩, h4⟩ := h
  refine ⟨⟨pv, h1, h2, ?_⟩, Nat.le_trans hB h4⟩
  rcases h3 with e | ⟨g, cap, cur, e1, e2, e3, e4⟩
  · exact .inl e
  · exact .inr ⟨g, cap, cur, e1, Nat.le_trans hB e2, e3, e4⟩
/-- A segment that is new is apart from one that was there. -/
theorem Apart.new {W w' : World} {B s t d d' base base' : Nat} {nm nm' : ByteArray} {P P' : List Pl} {bh bh' : Pl} (hs : SG w' W.heap.size s d nm base P bh) (ht : SG W B t d' nm' base' P' bh') (hb : Below W.heap.size W w') : Apart w' t s := by
  have htl := ht.lt
  refine ⟨by have := hs.hB; omega, fun j e e' => ?_⟩
  have h1 := (hs.rowT e).1
  rw [rowOf_same (hb.block t htl)] at e'
  obtain ⟨_, cs, e2⟩ := ht.rowT e'
  have := lt_of_block e2
  omega
/-- A log, and a part behind it. -/
structure RL (w : World) (B Bd d g lim room cnt us : Nat) (F : List UInt8 → Option (List Nat × Nat)) (P : List Prt) (y : Prt) : Prop where
  lq : LQ w B d g lim F P
  yo : PO w B d F y
  ya : ∀ z ∈ P, Apart w z.s y.s ∧ z.base < y.base
  vd : V8.VD w Bd d room F cnt us
  fil : ∀ t, F t ≠ none → ∃ z ∈ P ++ [y], t = (nmB z.base).data.toList
theorem RL.below {w w' : World} {B Bd d g lim room cnt us : Nat} {F : List UInt8 → Option (List Nat × Nat)} {P : List Prt} {y : Prt} (h : RL w B Bd d g lim room cnt us F P y) (hb : Below w.heap.size w w') : RL w' B Bd d g lim room cnt us F P y :=
  ⟨h.lq.below hb, h.yo.below hb, fun z hz => ⟨(h.ya z hz).1.below (h.lq.po z hz).sn.sg.lt h.yo.sn.sg.lt hb, (h.ya z hz).2⟩, h.vd.below hb, h.fil⟩
theorem fil_upd {F : List UInt8 → Option (List Nat × Nat)} {P : List Prt} {x : Prt} {o : Option (List Nat × Nat)} (h : ∀ t, F t ≠ none → ∃ z ∈ P, t = (nmB z.base).data.toList) (hx : x ∈ P) : ∀ t, V8.upd F (nmB x.base).data.toList o t ≠ none → ∃ z ∈ P, t = (nmB z.base).data.toList := fun t ht => by
  by_cases e : t = (nmB x.base).data.toList
  · exact ⟨x, hx, e⟩
  · have : V8.upd F (nmB x.base).data.toList o t = F t := if_neg e
    rw [this] at ht
    exact h t ht
/-- A call of the part behind. -/
theorem RL.app {w w' : World} {B Bd C d g lim room cnt us cnt' us' : Nat} {F : List UInt8 → Option (List Nat × Nat)} {P : List Prt} {y : Prt} {l' : List BT} {K' : List Nat} {o : Option (List Nat × Nat)} (h : RL w B Bd d g lim room cnt us F P y) (hf : AF C y.s w w') (hsn : SN w' B y.s d y.base (nmB y.base) (V8.upd F (nmB y.base).data.toList o) l' K') (hvd : V8.VD w' Bd d room (V8.upd F (nmB y.base).data.toList o) cnt' us') :
    RL w' B Bd d g lim room cnt' us' (V8.upd F (nmB y.base).data.toList o) P ⟨y.p, y.s, y.base, l', K'⟩ := by
  have hS := h.yo.sn.sg
  obtain ⟨pv, h1, h2⟩ := h.lq.blk
  have hA : ∀ z ∈ P, Apart w y.s z.s := fun z hz => (h.ya z hz).1.symm
  refine ⟨⟨⟨pv, (hf.block hS h1 (by decide) (by decide) (by decide) (by decide) (neSeg hS h1 (by decide))).trans h1, rowKeep h2 fun gr cs e => hf.block hS e (by decide) (by decide) (by decide) (by decide) (neSeg hS e (by decide))⟩, fun z hz => ?_, ?_, h.lq.hB⟩, ⟨(hf.block hS h.yo.blk (by decide) (by decide) (by decide) (by decide) (neSeg hS h.yo.blk (by decide))).trans h.yo.blk, hsn⟩, fun z hz => ⟨(Apart.over (h.lq.po z hz).sn.sg hf hS (hA z hz)).symm, (h.ya z hz).2⟩, hvd, ?_⟩
  · have hzo := h.lq.po z hz
    exact ⟨(hf.block hS hzo.blk (by decide) (by decide) (by decide) (by decide) (neSeg hS hzo.blk (by decide))).trans hzo.blk, hzo.sn.other hf hS (hA z hz) (nmB_ne (by have := (h.ya z hz).2; omega))⟩
  · refine List.Pairwise.imp_of_mem ?_ h.lq.ap
    intro a b ha hb' hab
    exact ⟨hab.1.rows (((h.lq.po a ha).sn.sg.other hf hS (hA a ha)).2) (((h.lq.po b hb').sn.sg.other hf hS (hA b hb')).2), hab.2⟩
  · intro t ht
    obtain ⟨z, hz, e⟩ := fil_upd (x := y) h.fil (by simp) t ht
    rcases List.mem_append.1 hz with hz | hz
    · exact ⟨z, List.mem_append_left _ hz, e⟩
    · rw [List.mem_singleton] at hz
      subst hz
      exact ⟨_, List.mem_append_right _ (List.mem_singleton.2 rfl), e⟩
/-- A call of the last part of the log that leaves its batches. -/
theorem RL.syn {w w' : World} {B Bd C d g lim room cnt us cnt' us' : Nat} {F : List UInt8 → Option (List Nat × Nat)} {Q : List Prt} {x y : Prt} {o : Option (List Nat × Nat)} (h : RL w B Bd d g lim room cnt us F (Q ++ [x]) y) (hf : AF C x.s w w') (hsn : SN w' B x.s d x.base (nmB x.base) (V8.upd F (nmB x.base).data.toList o) x.l x.K) (hvd : V8.VD w' Bd d room (V8.upd F (nmB x.base).data.toList o) cnt' us') :
    RL w' B Bd d g lim room cnt' us' (V8.upd F (nmB x.base).data.toList o) (Q ++ [x]) y := by
  have hx := h.lq.po x (by simp)
  have hS := hx.sn.sg
  have hxy := h.ya x (by simp)
  refine ⟨h.lq.over hf rfl rfl rfl hsn, ⟨(hf.block hS h.yo.blk (by decide) (by decide) (by decide) (by decide) (neSeg hS h.yo.blk (by decide))).trans h.yo.blk, h.yo.sn.other hf hS hxy.1 (nmB_ne (by omega))⟩, fun z hz => ⟨?_, (h.ya z hz).2⟩, hvd, fil_upd (x := x) h.fil (by simp)⟩
  rcases List.mem_append.1 hz with hz' | hz'
  · have hzx := (List.pairwise_append.1 h.lq.ap).2.2 z hz' x (by simp)
    exact (h.ya z hz).1.rows (((h.lq.po z hz).sn.sg.other hf hS hzx.1.symm).2) ((h.yo.sn.sg.other hf hS hxy.1).2)
  · rw [List.mem_singleton] at hz'
    subst hz'
    exact Apart.over h.yo.sn.sg hf hS hxy.1
theorem pushKept {w w1 : World} {B g n : Nat} {pv v' : Value} {xs : List Value} {cs : Array Value} (hr : w.ownsRow B 51 1 pv n xs) (hgr : w.grownBy w1 pv.ownBlock) (i : Nat) (o : Obj) (hi : w.heap[i]? = some o) (hne : ∀ cs m, o ≠ .cells cs 51 m) (hig : i ≠ g) : (w1.setCell ⟨g, 3, none⟩ v').heap[i]? = w.heap[i]? := by
  rw [Below.heap_setCell _ _ _ _ (by simpa using hig)]
  exact hgr.block i (lt_of_block hi) (fun e => by
    obtain ⟨_, cs', e'⟩ := rowBlk hr e.symm
    rw [hi] at e'
    cases e'
    exact hne _ _ rfl)
/-- The part becomes one of the log's. -/
theorem RL.push {w w1 : World} {B Bd C d g lim room cnt us : Nat} {F : List UInt8 → Option (List Nat × Nat)} {P : List Prt} {y : Prt} {pv v' : Value} (h : RL w B Bd d g lim room cnt us F P y) (hpv : w.heap[g]? = some (.cells #[.pointer (some ⟨g, 0, none⟩), .pointer (some ⟨d, 0, none⟩), .int .i64 (lim : Nat), pv] 58 (0, 0))) (hr : w.ownsRow B 51 1 pv P.length (pcl P)) (hgr : w.grownBy w1 pv.ownBlock) (ho : w1.ownsRow B 51 1 v' (P.length + 1) (pcl P ++ [.pointer (some ⟨y.p, 0, none⟩)])) (hCB : C ≤ B) (hCw : C ≤ w.heap.size) :
    LG (w1.setCell ⟨g, 3, none⟩ v') B Bd d g lim room cnt us F (P ++ [y]) ∧ Below C w (w1.setCell ⟨g, 3, none⟩ v') := by
  have K : ∀ (i : Nat) (o : Obj), w.heap[i]? = some o → (∀ cs m, o ≠ .cells cs 51 m) → i ≠ g → (w1.setCell ⟨g, 3, none⟩ v').heap[i]? = w.heap[i]? := fun i o hi hne hig => pushKept (cs := #[]) hr hgr i o hi hne hig
  have hg1 : w1.heap[g]? = some (.cells #[.pointer (some ⟨g, 0, none⟩), .pointer (some ⟨d, 0, none⟩), .int .i64 (lim : Nat), pv] 58 (0, 0)) := by
    refine (hgr.block g (lt_of_block hpv) (fun e => ?_)).trans hpv
    obtain ⟨_, cs', e'⟩ := rowBlk hr e.symm
    rw [hpv] at e'
    cases e'
  have KS : ∀ {x : Prt}, PO w B d F x → PO (w1.setCell ⟨g, 3, none⟩ v') B d F x ∧ rowOf (w1.setCell ⟨g, 3, none⟩ v') x.s = rowOf w x.s := fun {x} hx => by
    have hne : ∀ {i cs t m}, w.heap[i]? = some (Obj.cells cs t m) → t ≠ 58 → i ≠ g := fun {i cs t m} hi ht e => by
      subst e
      rw [hpv] at hi
      cases hi
      exact ht rfl
    refine ⟨⟨(K x.p _ hx.blk (fun cs m e => by cases e) (hne hx.blk (by decide))).trans hx.blk, hx.sn.keep (hx.sn.sg.keep fun i cs t mk hi ht => K i _ hi (fun cs' m e => by cases e; rcases ht with h | h <;> revert h <;> decide) (hne hi (by rcases ht with rfl | rfl <;> decide))) rfl⟩, ?_⟩
    obtain ⟨qv, q1, _⟩ := hx.sn.sg.blk
    exact rowOf_same (K x.s _ q1 (fun cs m e => by cases e) (hne q1 (by decide)))
  refine ⟨⟨⟨⟨v', block_set hg1, ?_⟩, fun x hx => ?_, ?_, h.lq.hB⟩, ?_, h.fil⟩, ?_⟩
  · rw [show (P ++ [y]).length = P.length + 1 by simp, show pcl (P ++ [y]) = pcl P ++ [.pointer (some ⟨y.p, 0, none⟩)] by simp [pcl]]
    exact rowKeep ho fun gr cs e => Below.heap_setCell _ _ _ _ (by
      rintro rfl
      rw [hg1] at e
      cases e)
  · rcases List.mem_append.1 hx with hx | hx
    · exact (KS (h.lq.po x hx)).1
    · rw [List.mem_singleton] at hx
      subst hx
      exact (KS h.yo).1
  · refine List.pairwise_append.2 ⟨?_, List.pairwise_singleton _ _, fun a ha b hb' => ?_⟩
    · refine List.Pairwise.imp_of_mem ?_ h.lq.ap
      intro a b ha hb' hab
      exact ⟨hab.1.rows (KS (h.lq.po a ha)).2 (KS (h.lq.po b hb')).2, hab.2⟩
    · rw [List.mem_singleton] at hb'
      subst hb'
      exact ⟨(h.ya a ha).1.rows (KS (h.lq.po a ha)).2 (KS h.yo).2, (h.ya a ha).2⟩
  · refine h.vd.typed (fun i cs' t mk hi ht => K i _ hi (fun cs'' m'' e => by
      cases e
      rcases ht with h | h | h <;> revert h <;> decide) (by
      rintro rfl
      rw [hpv] at hi
      cases hi
      rcases ht with h | h | h <;> revert h <;> decide)) (fun i es c hi => K i _ hi (fun cs'' m'' e => by cases e) (by
      rintro rfl
      rw [hpv] at hi
      cases hi))
  · have h1 : Below C w w1 := ⟨hgr.os, hgr.tape, hgr.output, hgr.size, fun k hk => hgr.block k (by omega) (fun e => by
      have := (rowBlk hr e.symm).1
      omega)⟩
    exact h1.trans (below_set w1 _ (Nat.le_trans hCB h.lq.hB))
end Go.Proofs.YtcjlcieheepegaaGreatDoor
namespace Go.Proofs.YtcjlcieheepegaaGreatDoor
open Go.RowKit
set_option linter.unusedVariables false
set_option maxRecDepth 20000
set_option maxRecDepth 20000

theorem prInfo : (Tryz.prog.info? 51).map (fun i => (i.zero, i.size, i.bytes)) = some (some (.pointer none), 1, 8) := by kernel_rfl
theorem nm_free {F : List UInt8 → Option (List Nat × Nat)} {P : List Prt} {b : Nat} (h : ∀ t, F t ≠ none → ∃ z ∈ P, t = (nmB z.base).data.toList) (hb : ∀ z ∈ P, z.base < b) : F (nmB b).data.toList = none := by
  cases e : F (nmB b).data.toList with
  | none => rfl
  | some v =>
    exfalso
    obtain ⟨z, hz, e'⟩ := h _ (by rw [e]; simp)
    have := hb z hz
    exact nmB_ne (by omega) e'
theorem base_lt {w : World} {B d g lim : Nat} {F : List UInt8 → Option (List Nat × Nat)} {Q : List Prt} {x : Prt} (h : LQ w B d g lim F (Q ++ [x])) {b : Nat} (hb : x.base < b) : ∀ z ∈ Q ++ [x], z.base < b := fun z hz => by
  rcases List.mem_append.1 hz with hz | hz
  · have := ((List.pairwise_append.1 h.ap).2.2 z hz x (by simp)).2
    omega
  · rw [List.mem_singleton] at hz
    subst hz
    exact hb
set_option maxHeartbeats 4000000 in
theorem lroll_ok (w : World) (B Bd C d g lim room cnt us : Nat) (F : List UInt8 → Option (List Nat × Nat)) (Q : List Prt) (x : Prt) (bt : BT) (h : LG w B Bd d g lim room cnt us F (Q ++ [x])) (hb : bt.ok) (hbase : bt.h.base = endB x.base x.l) (hT : TabF w) (hP : TabP w) (hC4 : 3 < C) (hCB : C ≤ B) (hCd : C ≤ Bd) (hBw : B ≤ w.heap.size) (hlt : x.base < endB x.base x.l) (hend : endB x.base x.l ≤ 1099511627520) (hr : us + bt.sz ≤ room) (hcn : cnt < 256) (hn : (Q ++ [x]).length ≤ 1000000) :
    Calls Tryz.prog 19 #[.pointer (some ⟨g, 0, none⟩), .string bt.s] w fun e w' => e = .returned (.int .i64 0) ∧ (∃ F' p s K' cnt', LG w' B Bd d g lim room cnt' (us + bt.sz) F' (Q ++ [x] ++ [⟨p, s, endB x.base x.l, [bt], K'⟩]) ∧ cnt' ≤ cnt + 1) ∧ Below C w w' := by
  obtain ⟨E, hE⟩ : ∃ E, endB x.base x.l = E := ⟨_, rfl⟩
  have HEnd : Hid (∀ W, Below w.heap.size w W → Calls Tryz.prog 7 #[.pointer (some ⟨g, 0, none⟩)] W fun e w' => e = .returned (.int .i64 (E : Nat)) ∧ w' = W.drew) := fun W hW => by
    rw [← hE]
    exact lend_ok W B d g lim F Q x (h.lq.below hW)
  have HOp : Hid (∀ W, Below w.heap.size w W → Calls Tryz.prog 22 #[.pointer (some ⟨d, 0, none⟩), .int .i64 (E : Nat)] W fun e w' => ∃ s p, e = .returned (.tuple #[.pointer (some ⟨p, 0, none⟩), .int .i64 0]) ∧ RL w' B Bd d g lim room cnt us F (Q ++ [x]) ⟨p, s, E, [], []⟩ ∧ Below w.heap.size w w') := fun W hW => by
    have hW' := h.below hW
    have hlt' := hlt
    rw [hE] at hlt' hend
    have hbl := base_lt hW'.lq hlt'
    refine (openPart_ok W d E Bd room cnt us F hW'.vd hend (nm_free h.fil hbl) (hP.low hW (by omega))).mono ?_
    rintro e w' ⟨s, p, rfl, hp, hsg, hlo, hbw⟩
    have hBW := Nat.le_trans hBw hW.size
    refine ⟨s, p, rfl, ⟨hW'.lq.below hbw, ⟨hp, ⟨hsg.mono hBW, nmB_may E (by omega), .inl ⟨rfl, nm_free h.fil hbl⟩, trivial, (fun y hy => by cases hy), ⟨List.Pairwise.nil, (fun k hk => by cases hk), fun h0 => absurd rfl h0⟩⟩⟩, fun z hz => ⟨Apart.new hsg (hW'.lq.po z hz).sn.sg hbw, hbl z hz⟩, hW'.vd.below hbw, fun t ht => ?_⟩, hW.trans (hbw.mono hW.size)⟩
    obtain ⟨z, hz, e'⟩ := h.fil t ht
    exact ⟨z, List.mem_append_left _ hz, e'⟩
  have HAp : Hid (∀ W s p, RL W B Bd d g lim room cnt us F (Q ++ [x]) ⟨p, s, E, [], []⟩ → Below w.heap.size w W → Calls Tryz.prog 18 #[.pointer (some ⟨s, 0, none⟩), .string bt.s] W fun e w' => e = .returned (.int .i64 0) ∧ ∃ F' K' cnt', RL w' B Bd d g lim room cnt' (us + bt.sz) F' (Q ++ [x]) ⟨p, s, E, [bt], K'⟩ ∧ cnt' ≤ cnt + 1 ∧ Below C w w' ∧ w.heap.size ≤ w'.heap.size) := fun W s p hR hW => by
    refine (sn_append W B Bd C s d E room cnt us (nmB E) F [] [] bt hR.yo.sn hR.vd hb (by rw [hbase, hE]; rfl) (hT.new hW) hCB hCd (Nat.le_trans hBw hW.size) (by simp) (by show (0 : Nat) ≤ _; omega) hr hcn).mono ?_
    rintro e w' ⟨rfl, ⟨o, K', cnt', hsn, hvd, hcc⟩, haf⟩
    exact ⟨rfl, _, K', cnt', hR.app (y := ⟨p, s, E, [], []⟩) haf hsn hvd, by rcases hcc with ⟨_, e⟩ | ⟨_, e⟩ <;> omega, (hW.mono (Nat.le_trans hCB hBw)).trans haf.below, Nat.le_trans hW.size haf.below.size⟩
  have HLa : Hid (∀ W F' cnt' us' y, RL W B Bd d g lim room cnt' us' F' (Q ++ [x]) y → Calls Tryz.prog 15 #[.pointer (some ⟨g, 0, none⟩)] W fun e w' => e = .returned (.pointer (some ⟨x.p, 0, none⟩)) ∧ w' = W.drew) := fun W F' cnt' us' y hR => last_ok W B d g lim F' Q x hR.lq
  have HSy : Hid (∀ W F' cnt' us' y, RL W B Bd d g lim room cnt' us' F' (Q ++ [x]) y → Below C w W → w.heap.size ≤ W.heap.size → Calls Tryz.prog 34 #[.pointer (some ⟨x.s, 0, none⟩)] W fun e w' => e = .returned (.int .i64 0) ∧ ∃ F'', RL w' B Bd d g lim room cnt' us' F'' (Q ++ [x]) y ∧ Below C w w' ∧ w.heap.size ≤ w'.heap.size) := fun W F' cnt' us' y hR hW hs => by
    refine (sn_sync W B Bd C x.s d x.base room cnt' us' (nmB x.base) F' x.l x.K (hR.lq.po x (by simp)).sn hR.vd hCd (by omega)).mono ?_
    rintro e w' ⟨rfl, ⟨o, hsn, hvd⟩, haf⟩
    exact ⟨rfl, _, hR.syn haf hsn hvd, hW.trans haf.below, Nat.le_trans hs haf.below.size⟩
  have HX := hide (And.intro hCB (And.intro hBw hn))
  obtain ⟨_, c1, _⟩ := h.lq.cells
  have k1 : ∀ W, Below w.heap.size w W → W.cell? ⟨g, 1, none⟩ = some (.pointer (some ⟨d, 0, none⟩)) := fun W hW => cellB hW c1
  have HK := hide k1
  obtain ⟨b, hbb⟩ : ∃ b, bt.s = b := ⟨_, rfl⟩
  obtain ⟨U2, hU2⟩ : ∃ U2, us + bt.sz = U2 := ⟨_, rfl⟩
  rw [hbb, hU2] at HAp
  rw [hbb, hU2, hE]
  have HE : Hid (E = E) := rfl
  obtain ⟨i0, hi0, hz0, hz1, hz2⟩ := info_parts prInfo
  have HI : Hid (_ ∧ _ ∧ _ ∧ _) := ⟨hi0, hz0, hz1, hz2⟩
  clear h hb hbase hT hP hC4 hCB hCd hBw hlt hend hr hcn hn hE hbb hU2 k1 hi0 hz0 hz1 hz2
  go_enter Tryz.func19, Tryz.ntmps19
  go_upto_region 1 with fail
  go_region_held_law (fun w' => w'.cell? ⟨g, 1, none⟩ = some (.pointer (some ⟨d, 0, none⟩)))
    (first | exact c1 | go_keep)
    (first
      | (go_at_call 7; refine (HEnd.out _ (by exact belN _ _ rfl rfl rfl rfl)).mono ?_; rintro e w4 ⟨rfl, hw4⟩; have hB4 : Below w.heap.size w w4 := (by rw [hw4]; exact belN _ _ rfl rfl rfl rfl); have hk4 := HK.out w4 hB4; have HB4 := hide hB4; clear hw4 hB4)
      | (go_at_call 22; refine (HOp.out _ (by exact HB4.out)).mono ?_; rintro e w5 ⟨s, p, rfl, h5⟩; have H5 := hide h5; have hk5 := HK.out w5 h5.2; clear h5))
  clear c1 HK HEnd HOp hk4 HB4 hk5
  have p5 : w5.cell? ⟨p, 0, none⟩ = some (.pointer (some ⟨s, 0, none⟩)) := H5.out.1.yo.cells.1
  have HA5 := hide (HAp.out w5 s p H5.out.1 H5.out.2)
  clear HAp
  go_wp2_with fail
  refine HA5.out.mono ?_
  rintro e w6 ⟨rfl, F6, K6, cnt6, h6⟩
  have H6 := hide h6
  clear h6 HA5 H5 p5
  have HL6 := hide (HLa.out w6 F6 cnt6 U2 _ H6.out.1)
  have x6 : w6.drew.cell? ⟨x.p, 0, none⟩ = some (.pointer (some ⟨x.s, 0, none⟩)) := (H6.out.1.lq.po x (by simp)).cells.1
  have HS6 := hide (HSy.out w6.drew F6 cnt6 U2 _ (H6.out.1.below (belD w6)) (H6.out.2.2.1.trans ((belD w6).mono (by have := HX.out; have := H6.out.2.2.2; omega))) H6.out.2.2.2)
  clear HLa HSy
  obtain ⟨xp, hxp⟩ : ∃ z, x.p = z := ⟨_, rfl⟩
  obtain ⟨xs, hxs⟩ : ∃ z, x.s = z := ⟨_, rfl⟩
  rw [hxp] at HL6 x6
  rw [hxs] at HS6 x6
  clear hxp hxs
  go_wp2_with fail
  refine HL6.out.mono ?_
  rintro e w7 ⟨rfl, hw7⟩
  subst hw7
  clear HL6
  go_wp2_with fail
  refine HS6.out.mono ?_
  rintro e w7 ⟨rfl, F7, h7⟩
  have HC6 := hide H6.out.2.1
  have H7 := hide h7
  clear h7 HS6 x6 H6
  obtain ⟨pv, hblk, hrow⟩ := H7.out.1.lq.blk
  obtain ⟨n, hn⟩ : ∃ n, (Q ++ [x]).length = n := ⟨_, rfl⟩
  have hnx := HX.out.2.2
  rw [hn] at hrow hnx
  obtain ⟨r, cap, rfl, hBr, _⟩ := hrow.form (by rw [← hn]; simp)
  have c3 : w7.cell? ⟨g, 3, none⟩ = some (.slice (some ⟨r, 0, none⟩) n cap) := by simp [World.cell?, hblk]
  have hba := below_a w7 (.cells #[.pointer (some ⟨p, 0, none⟩)] 51)
  have HR8 : Hid ((w7.alloc (.cells #[.pointer (some ⟨p, 0, none⟩)] 51)).ownsRow B 51 1 (.slice (some ⟨r, 0, none⟩) n cap) n (pcl (Q ++ [x])) ∧ B ≤ (w7.alloc (.cells #[.pointer (some ⟨p, 0, none⟩)] 51)).heap.size) := ⟨owns_below hrow hba, by have := HX.out; have := H7.out.2.2; have := hba.size; omega⟩
  have HNW : Hid (∀ j u, [Value.pointer (some ⟨p, 0, none⟩)][j]? = some u → (w7.alloc (.cells #[.pointer (some ⟨p, 0, none⟩)] 51)).cell? ((⟨w7.heap.size, 0, none⟩ : Addr).add j) = some u) := World.news_of_block (heap_alloc_new w7 _)
  have hb8 := (hba.block g (lt_of_block hblk)).trans hblk
  have HP8 : Hid (∀ w8 g8 cap8, (w7.alloc (.cells #[.pointer (some ⟨p, 0, none⟩)] 51)).grownBy w8 (Value.slice (some ⟨r, 0, none⟩) n cap).ownBlock → w8.ownsRow B 51 1 (.slice (some ⟨g8, 0, none⟩) (n + 1) cap8) (n + 1) (pcl (Q ++ [x]) ++ [.pointer (some ⟨p, 0, none⟩)]) → (w8.cell? ⟨g, 3, none⟩ = some (.slice (some ⟨r, 0, none⟩) n cap) ∧ w8.frozen? ⟨g, 3, none⟩ = false) ∧ LG (w8.setCell ⟨g, 3, none⟩ (.slice (some ⟨g8, 0, none⟩) (n + 1) cap8)) B Bd d g lim room cnt6 U2 F7 (Q ++ [x] ++ [⟨p, s, E, [bt], K6⟩]) ∧ Below C w (w8.setCell ⟨g, 3, none⟩ (.slice (some ⟨g8, 0, none⟩) (n + 1) cap8))) := fun w8 g8 cap8 hgr ho => by
    have hgb : w8.heap[g]? = _ := (hgr.block g (lt_of_block hb8) (fun e => by
      obtain ⟨_, cs', e'⟩ := rowBlk HR8.out.1 e.symm
      rw [hb8] at e'
      cases e')).trans hb8
    have hCw : C ≤ (w7.alloc (.cells #[.pointer (some ⟨p, 0, none⟩)] 51)).heap.size := by have := HR8.out.2; have := HX.out; omega
    have hp := (H7.out.1.below hba).push (C := C) hb8 (by rw [hn]; exact HR8.out.1) hgr (by rw [hn]; exact ho) HX.out.1 hCw
    refine ⟨⟨by simp [World.cell?, hgb], frozen0 hgb 3⟩, hp.1, (H7.out.2.1.trans (hba.mono ?_)).trans hp.2⟩
    have := HX.out; have := H7.out.2.2; omega
  have HLN : Hid (n + 1 ≤ maxLen ∧ (n + 1) * 8 ≤ 140737488355328) := ⟨by unfold maxLen; omega, by omega⟩
  clear hblk hrow hn hnx hBr hba hb8 H7 HX
  go_wp2_with (at_builtin; refine wpList_append_lies _ rfl _ _ 56 rfl B 51 i0 (.pointer none) 1 8 Tryz.underlying56 HI.out.1 HI.out.2.1 HI.out.2.2.1 HI.out.2.2.2 rfl (by decide) (.slice (some ⟨r, 0, none⟩) n cap) n (pcl (Q ++ [x])) rfl HR8.out.1 ⟨w7.heap.size, 0, none⟩ 1 1 [.pointer (some ⟨p, 0, none⟩)] rfl rfl HNW.out (fun u hu => by rw [List.mem_singleton] at hu; subst hu; rfl) (by decide) HLN.out.1 HLN.out.2 HR8.out.2 _ rfl ?_)
  intro g8 cap8 w8 hown hgrow _ _
  obtain ⟨⟨c8, f8⟩, hl8⟩ := HP8.out w8 g8 cap8 hgrow hown
  have H8 := hide hl8
  clear hl8 hown hgrow HP8 HNW HR8 c3
  go_wp2
  go_ret
  exact ⟨rfl, ⟨F7, p, s, K6, cnt6, H8.out.1, HC6.out⟩, H8.out.2⟩
end Go.Proofs.YtcjlcieheepegaaGreatDoor
namespace Go.Proofs.YtcjlcieheepegaaGreatDoor
open Go.RowKit
set_option linter.unusedVariables false
set_option maxRecDepth 20000
set_option maxRecDepth 20000

set_option maxHeartbeats 4000000 in
theorem lappend_order (w : World) (B Bd d g lim room cnt us : Nat) (F : List UInt8 → Option (List Nat × Nat)) (Q : List Prt) (x : Prt) (bt : BT) (h : LG w B Bd d g lim room cnt us F (Q ++ [x])) (hb : bt.ok) (hne : bt.h.base ≠ endB x.base x.l) (hT : TabF w) (hlt : szs x.l < lim) :
    Calls Tryz.prog 8 #[.pointer (some ⟨g, 0, none⟩), .string bt.s] w fun e w' => e = .returned (.int .i64 110) ∧ Below w.heap.size w w' := by
  have HG := hide (lgiven_yes g w h.lq.cells.1)
  have HL : Hid (∀ W, Below w.heap.size w W → Calls Tryz.prog 15 #[.pointer (some ⟨g, 0, none⟩)] W fun e w' => e = .returned (.pointer (some ⟨x.p, 0, none⟩)) ∧ w' = W.drew) := fun W hW => last_ok W B d g lim F Q x (h.lq.below hW)
  have hx := h.lq.po x (by simp)
  have HSz : Hid (∀ W, Below w.heap.size w W → Calls Tryz.prog 17 #[.pointer (some ⟨x.s, 0, none⟩)] W fun e w' => e = .returned (.int .i64 (szs x.l : Nat)) ∧ w' = W) := fun W hW => by
    have := sSize_ok W B x.s d x.base (nmB x.base) _ _ (hx.sn.sg.below hW)
    rw [plAt_full] at this
    exact this
  have HA : Hid (∀ W, Below w.heap.size w W → Calls Tryz.prog 18 #[.pointer (some ⟨x.s, 0, none⟩), .string bt.s] W fun e w' => e = .returned (.int .i64 110) ∧ Below w.heap.size w w') := fun W hW => by
    have hL := h.below hW
    have := sappend_order W B x.s d x.base (nmB x.base) _ _ bt.h bt.p bt.L (hL.lq.po x (by simp)).sn.sg hb (hT.new hW) (by rw [plAt_full]; exact hne)
    refine this.mono ?_
    rintro e w' ⟨rfl, hb'⟩
    exact ⟨rfl, hW.trans (hb'.mono hW.size)⟩
  obtain ⟨b, hbb⟩ : ∃ b, bt.s = b := ⟨_, rfl⟩
  rw [hbb] at HA ⊢
  obtain ⟨_, _, c2⟩ := h.lq.cells
  have p0 := hx.cells.1
  have hlti : ((szs x.l : Nat) : Int) < (lim : Int) := by omega
  obtain ⟨z, hz⟩ : ∃ z, szs x.l = z := ⟨_, rfl⟩
  obtain ⟨xp, hxp⟩ : ∃ z, x.p = z := ⟨_, rfl⟩
  obtain ⟨xs, hxs⟩ : ∃ z, x.s = z := ⟨_, rfl⟩
  obtain ⟨N, hN⟩ : ∃ z, nmB x.base = z := ⟨_, rfl⟩
  rw [hz] at HSz hlti
  rw [hxp] at HL p0
  rw [hxs] at HSz HA p0
  have k2 : ∀ W, Below w.heap.size w W → W.cell? ⟨g, 2, none⟩ = some (.int .i64 (lim : Nat)) ∧ W.cell? ⟨xp, 0, none⟩ = some (.pointer (some ⟨xs, 0, none⟩)) := fun W hW => ⟨cellB hW c2, cellB hW p0⟩
  have HK := hide k2
  clear h hb hne hT hlt hx hz hxp hN hbb k2
  go_enter Tryz.func8, Tryz.ntmps8
  go_wp2_with fail
  refine HG.out.mono ?_
  rintro e W ⟨rfl, hW⟩
  obtain rfl := hW.symm
  clear HG hW
  go_upto_region 3 with fail
  go_region_held_law (fun w' => w'.cell? ⟨g, 2, none⟩ = some (.int .i64 (lim : Nat)) ∧ w'.cell? ⟨xp, 0, none⟩ = some (.pointer (some ⟨xs, 0, none⟩)))
    (first | exact ⟨c2, p0⟩ | go_keep)
    (first
      | (go_at_call 15; refine (HL.out _ (by exact belN _ _ rfl rfl rfl rfl)).mono ?_; rintro e w4 ⟨rfl, hw4⟩; have hB4 : Below w.heap.size w w4 := (by rw [hw4]; exact belN _ _ rfl rfl rfl rfl); have hk4 := HK.out w4 hB4; have HB4 := hide hB4; clear hw4 hB4)
      | (go_at_call 17; refine (HSz.out _ (by exact HB4.out)).mono ?_; rintro e w5 ⟨rfl, hw5⟩; subst hw5))
  clear c2 p0 HK HSz
  go_wp2_with fail
  refine (HL.out _ (by exact HB4.out)).mono ?_
  rintro e w6 ⟨rfl, hw6⟩
  have hB6 : Below w.heap.size w w6 := HB4.out.trans (by rw [hw6]; exact (belD _).mono HB4.out.size)
  have p6 : w6.cell? ⟨xp, 0, none⟩ = some (.pointer (some ⟨xs, 0, none⟩)) := by rw [hw6]; exact hk4.2
  have HA6 := hide (HA.out w6 hB6)
  clear hk4 hw6 HL HA hB6
  go_wp2_with fail
  refine HA6.out.mono ?_
  rintro e w7 ⟨rfl, h7⟩
  have H7 := hide h7
  clear h7 HA6
  go_wp2
  go_ret
  exact ⟨rfl, H7.out⟩
set_option maxHeartbeats 4000000 in
theorem lappend_roll (w : World) (B Bd C d g lim room cnt us : Nat) (F : List UInt8 → Option (List Nat × Nat)) (Q : List Prt) (x : Prt) (bt : BT) (h : LG w B Bd d g lim room cnt us F (Q ++ [x])) (hb : bt.ok) (hbase : bt.h.base = endB x.base x.l) (hT : TabF w) (hCB : C ≤ B) (hCd : C ≤ Bd) (hBw : B ≤ w.heap.size) (hlt : ¬ szs x.l < lim) (hP : TabP w) (hC4 : 3 < C) (hne : x.base < endB x.base x.l) (hend : endB x.base x.l ≤ 1099511627520) (hn : (Q ++ [x]).length ≤ 1000000) (hr : us + bt.sz ≤ room) (hcn : cnt < 256) :
    Calls Tryz.prog 8 #[.pointer (some ⟨g, 0, none⟩), .string bt.s] w fun e w' => e = .returned (.int .i64 0) ∧ (∃ F' p s K' cnt', LG w' B Bd d g lim room cnt' (us + bt.sz) F' (Q ++ [x] ++ [⟨p, s, endB x.base x.l, [bt], K'⟩]) ∧ cnt' ≤ cnt + 1) ∧ Below C w w' := by
  have HG := hide (lgiven_yes g w h.lq.cells.1)
  have HL : Hid (∀ W, Below w.heap.size w W → Calls Tryz.prog 15 #[.pointer (some ⟨g, 0, none⟩)] W fun e w' => e = .returned (.pointer (some ⟨x.p, 0, none⟩)) ∧ w' = W.drew) := fun W hW => last_ok W B d g lim F Q x (h.lq.below hW)
  have hx := h.lq.po x (by simp)
  have HSz : Hid (∀ W, Below w.heap.size w W → Calls Tryz.prog 17 #[.pointer (some ⟨x.s, 0, none⟩)] W fun e w' => e = .returned (.int .i64 (szs x.l : Nat)) ∧ w' = W) := fun W hW => by
    have := sSize_ok W B x.s d x.base (nmB x.base) _ _ (hx.sn.sg.below hW)
    rw [plAt_full] at this
    exact this
  have HA : Hid (∀ W, Below w.heap.size w W → Calls Tryz.prog 19 #[.pointer (some ⟨g, 0, none⟩), .string bt.s] W fun e w' => e = .returned (.int .i64 0) ∧ (∃ F' p s K' cnt', LG w' B Bd d g lim room cnt' (us + bt.sz) F' (Q ++ [x] ++ [⟨p, s, endB x.base x.l, [bt], K'⟩]) ∧ cnt' ≤ cnt + 1) ∧ Below C w w') := fun W hW => by
    refine (lroll_ok W B Bd C d g lim room cnt us F Q x bt (h.below hW) hb hbase (hT.new hW) (hP.low hW (by omega)) hC4 hCB hCd (Nat.le_trans hBw hW.size) hne hend hr hcn hn).mono ?_
    rintro e w' ⟨rfl, h1, h2⟩
    exact ⟨rfl, h1, (hW.mono (Nat.le_trans hCB hBw)).trans h2⟩
  obtain ⟨b, hbb⟩ : ∃ b, bt.s = b := ⟨_, rfl⟩
  rw [hbb] at HA ⊢
  obtain ⟨_, _, c2⟩ := h.lq.cells
  have p0 := hx.cells.1
  have hlti : ¬ ((szs x.l : Nat) : Int) < (lim : Int) := by omega
  obtain ⟨z, hz⟩ : ∃ z, szs x.l = z := ⟨_, rfl⟩
  obtain ⟨xp, hxp⟩ : ∃ z, x.p = z := ⟨_, rfl⟩
  obtain ⟨xs, hxs⟩ : ∃ z, x.s = z := ⟨_, rfl⟩
  obtain ⟨N, hN⟩ : ∃ z, nmB x.base = z := ⟨_, rfl⟩
  rw [hz] at HSz hlti
  rw [hxp] at HL p0
  rw [hxs] at HSz p0
  have k2 : ∀ W, Below w.heap.size w W → W.cell? ⟨g, 2, none⟩ = some (.int .i64 (lim : Nat)) ∧ W.cell? ⟨xp, 0, none⟩ = some (.pointer (some ⟨xs, 0, none⟩)) := fun W hW => ⟨cellB hW c2, cellB hW p0⟩
  have HK := hide k2
  clear h hb hbase hT hCB hCd hBw hlt hP hC4 hne hend hn hr hcn hx hz hN hbb k2
  go_enter Tryz.func8, Tryz.ntmps8
  go_wp2_with fail
  refine HG.out.mono ?_
  rintro e W ⟨rfl, hW⟩
  obtain rfl := hW.symm
  clear HG hW
  go_upto_region 3 with fail
  go_region_held_law (fun w' => w'.cell? ⟨g, 2, none⟩ = some (.int .i64 (lim : Nat)) ∧ w'.cell? ⟨xp, 0, none⟩ = some (.pointer (some ⟨xs, 0, none⟩)))
    (first | exact ⟨c2, p0⟩ | go_keep)
    (first
      | (go_at_call 15; refine (HL.out _ (by exact belN _ _ rfl rfl rfl rfl)).mono ?_; rintro e w4 ⟨rfl, hw4⟩; have hB4 : Below w.heap.size w w4 := (by rw [hw4]; exact belN _ _ rfl rfl rfl rfl); have hk4 := HK.out w4 hB4; have HB4 := hide hB4; clear hw4 hB4)
      | (go_at_call 17; refine (HSz.out _ (by exact HB4.out)).mono ?_; rintro e w5 ⟨rfl, hw5⟩; subst hw5))
  clear c2 p0 HK HSz HL hk4
  go_wp2_with fail
  refine (HA.out _ (by exact HB4.out)).mono ?_
  rintro e w7 ⟨rfl, h7⟩
  have H7 := hide h7
  clear h7 HA
  go_wp2
  go_ret
  exact ⟨rfl, H7.out⟩
end Go.Proofs.YtcjlcieheepegaaGreatDoor
namespace Go.Proofs.YtcjlcieheepegaaGreatDoor
open Go.RowKit
open V8 (VX KO Zn)
set_option linter.unusedVariables false
set_option maxRecDepth 20000
set_option maxRecDepth 20000

/-- The blocks of a log's parts, and of the log, lie in a zone. -/
structure ZP (w : World) (g : Nat) (P : List Prt) (Z : Nat → Prop) : Prop where
  zg : Z g
  row : ∀ pv, w.cell? ⟨g, 3, none⟩ = some pv → ∀ j, pv.ownBlock = some j → Z j
  p : ∀ x ∈ P, Z x.p ∧ Z x.s ∧ ∀ j, rowOf w x.s = some j → Z j
/-- A log, its disk, all within a zone. -/
structure LZ (w : World) (B Bd d g lim room cnt us : Nat) (F : List UInt8 → Option (List Nat × Nat)) (P : List Prt) (Z : Nat → Prop) : Prop where
  lq : LQ w B d g lim F P
  vx : VX w Bd d room F cnt us Z
  zp : ZP w g P Z
  fil : ∀ t, F t ≠ none → ∃ x ∈ P, t = (nmB x.base).data.toList
theorem LZ.lg {w : World} {B Bd d g lim room cnt us : Nat} {F : List UInt8 → Option (List Nat × Nat)} {P : List Prt} {Z : Nat → Prop} (h : LZ w B Bd d g lim room cnt us F P Z) : LG w B Bd d g lim room cnt us F P := ⟨h.lq, h.vx.vd, h.fil⟩
theorem LZ.wide {w : World} {B Bd d g lim room cnt us : Nat} {F : List UInt8 → Option (List Nat × Nat)} {P : List Prt} {Z Z' : Nat → Prop} (h : LZ w B Bd d g lim room cnt us F P Z) (hZ : ∀ i, Z i → Z' i) : LZ w B Bd d g lim room cnt us F P Z' :=
  ⟨h.lq, h.vx.wide hZ, ⟨hZ _ h.zp.zg, fun pv h1 j h2 => hZ _ (h.zp.row pv h1 j h2), fun x hx => ⟨hZ _ (h.zp.p x hx).1, hZ _ (h.zp.p x hx).2.1, fun j hj => hZ _ ((h.zp.p x hx).2.2 j hj)⟩⟩, h.fil⟩
/-- What is within the zone has not turned: the log is what it was. -/
theorem LZ.keep {w w' : World} {B Bd d g lim room cnt us : Nat} {F : List UInt8 → Option (List Nat × Nat)} {P : List Prt} {Z : Nat → Prop} (h : LZ w B Bd d g lim room cnt us F P Z) (hk : ∀ i, Z i → i < w.heap.size → w'.heap[i]? = w.heap[i]?) : LZ w' B Bd d g lim room cnt us F P Z := by
  obtain ⟨pv, h1, h2⟩ := h.lq.blk
  have hg := hk g h.zp.zg (lt_of_block h1)
  have KP : ∀ x ∈ P, PO w' B d F x ∧ rowOf w' x.s = rowOf w x.s := fun x hx => by
    obtain ⟨z1, z2, z3⟩ := h.zp.p x hx
    have hx' := h.lq.po x hx
    obtain ⟨qv, q1, q2⟩ := hx'.sn.sg.blk
    have hs := hk x.s z2 (lt_of_block q1)
    have hr : rowOf w x.s = qv.ownBlock := by simp [rowOf, World.cell?, q1]
    refine ⟨⟨(hk x.p z1 (lt_of_block hx'.blk)).trans hx'.blk, hx'.sn.keep ⟨⟨qv, hs.trans q1, ?_⟩, hx'.sn.sg.hB⟩ rfl⟩, rowOf_same hs⟩
    refine ⟨q2.1, ?_⟩
    rcases q2.2 with e | ⟨r, cap, cur, e1, e2, e3, e4⟩
    · exact .inl e
    · exact .inr ⟨r, cap, cur, e1, e2, (hk r (z3 r (by rw [hr, e1]; rfl)) (lt_of_block e3)).trans e3, e4⟩
  have hrow : ∀ pv', w'.cell? ⟨g, 3, none⟩ = some pv' → w.cell? ⟨g, 3, none⟩ = some pv' := fun pv' e => by
    simp only [World.cell?, hg] at e ⊢
    exact e
  refine ⟨⟨⟨pv, hg.trans h1, ?_⟩, fun x hx => (KP x hx).1, ?_, h.lq.hB⟩, h.vx.keep hk, ⟨h.zp.zg, fun pv' e => h.zp.row pv' (hrow pv' e), fun x hx => ?_⟩, h.fil⟩
  · refine ⟨h2.1, ?_⟩
    rcases h2.2 with e | ⟨r, cap, cur, e1, e2, e3, e4⟩
    · exact .inl e
    · exact .inr ⟨r, cap, cur, e1, e2, (hk r (h.zp.row pv (by simp [World.cell?, h1]) r (by rw [e1]; rfl)) (lt_of_block e3)).trans e3, e4⟩
  · refine List.Pairwise.imp_of_mem ?_ h.lq.ap
    intro a b ha hb hab
    exact ⟨hab.1.rows (KP a ha).2 (KP b hb).2, hab.2⟩
  · obtain ⟨z1, z2, z3⟩ := h.zp.p x hx
    exact ⟨z1, z2, fun j hj => z3 j ((KP x hx).2 ▸ hj)⟩
theorem LZ.below {w w' : World} {B Bd d g lim room cnt us : Nat} {F : List UInt8 → Option (List Nat × Nat)} {P : List Prt} {Z : Nat → Prop} (h : LZ w B Bd d g lim room cnt us F P Z) (hb : Below w.heap.size w w') : LZ w' B Bd d g lim room cnt us F P Z :=
  h.keep fun i _ hi => hb.block i hi
/-- Over the calls of another log, whose zone is another. -/
theorem LZ.other {w w' : World} {B Bd d g lim room cnt us : Nat} {F : List UInt8 → Option (List Nat × Nat)} {P : List Prt} {Z Z' : Nat → Prop} (h : LZ w B Bd d g lim room cnt us F P Z) (hk : KO Z' w w') (hZ : ∀ i, i < w.heap.size → Z i → ¬ Z' i) : LZ w' B Bd d g lim room cnt us F P Z :=
  h.keep fun i hz hi => hk i hi (hZ i hi hz)
/-- The zone of a part behind a call of its segment. -/
theorem zrow {C s : Nat} {w w' : World} {Z : Nat → Prop} (hf : AF C s w w') (hZ : ∀ j, rowOf w s = some j → Z j) : ∀ j, rowOf w' s = some j → Zn Z w j := fun j hj => by
  rcases hf.row with e | e
  · exact .inl (hZ j (e ▸ hj))
  · exact .inr (e j hj)
end Go.Proofs.YtcjlcieheepegaaGreatDoor
namespace Go.Proofs.YtcjlcieheepegaaGreatDoor
open Go.RowKit
open V8 (VX KO Zn)
set_option linter.unusedVariables false
set_option maxRecDepth 20000
set_option maxRecDepth 20000

theorem ZP.keep {w w' : World} {g : Nat} {P : List Prt} {Z : Nat → Prop} (h : ZP w g P Z) (hg : w'.heap[g]? = w.heap[g]?) (hs : ∀ x ∈ P, w'.heap[x.s]? = w.heap[x.s]?) : ZP w' g P Z :=
  ⟨h.zg, fun pv e => h.row pv (by simp only [World.cell?, hg] at e ⊢; exact e), fun x hx => ⟨(h.p x hx).1, (h.p x hx).2.1, fun j hj => (h.p x hx).2.2 j (rowOf_same (hs x hx) ▸ hj)⟩⟩
theorem ZP.wide {w : World} {g : Nat} {P : List Prt} {Z Z' : Nat → Prop} (h : ZP w g P Z) (hZ : ∀ i, Z i → Z' i) : ZP w g P Z' :=
  ⟨hZ _ h.zg, fun pv h1 j h2 => hZ _ (h.row pv h1 j h2), fun x hx => ⟨hZ _ (h.p x hx).1, hZ _ (h.p x hx).2.1, fun j hj => hZ _ ((h.p x hx).2.2 j hj)⟩⟩
theorem zn_in {Z : Nat → Prop} {w W : World} (h : w.heap.size ≤ W.heap.size) (i : Nat) : Zn (Zn Z w) W i → Zn Z w i := fun hi => hi.elim id fun h' => .inr (Nat.le_trans h h')
theorem zn_up {Z : Nat → Prop} {w W : World} (h : w.heap.size ≤ W.heap.size) (i : Nat) : Zn Z W i → Zn Z w i := fun hi => hi.elim .inl fun h' => .inr (Nat.le_trans h h')
theorem ko_zn {Z : Nat → Prop} {w w' : World} (h : KO (Zn Z w) w w') : KO Z w w' := fun i hi hn => h i hi (fun e => e.elim hn (fun h' => by omega))
/-- A call of the last segment. -/
theorem LZ.over {w w' : World} {B Bd C d g lim room cnt us cnt' us' : Nat} {F : List UInt8 → Option (List Nat × Nat)} {Q : List Prt} {x x' : Prt} {o : Option (List Nat × Nat)} {Z : Nat → Prop} (h : LZ w B Bd d g lim room cnt us F (Q ++ [x]) Z) (hf : AF C x.s w w') (hp : x'.p = x.p) (hs : x'.s = x.s) (hb : x'.base = x.base) (hsn : SN w' B x.s d x.base (nmB x.base) (V8.upd F (nmB x.base).data.toList o) x'.l x'.K) (hvd : VX w' Bd d room (V8.upd F (nmB x.base).data.toList o) cnt' us' (Zn Z w)) :
    LZ w' B Bd d g lim room cnt' us' (V8.upd F (nmB x.base).data.toList o) (Q ++ [x']) (Zn Z w) := by
  have hG := h.lg.over (x' := x') hf hp hs hb hsn hvd.vd
  have hx := h.lq.po x (by simp)
  have hS := hx.sn.sg
  obtain ⟨pv, h1, h2⟩ := h.lq.blk
  have hg := hf.block hS h1 (by decide) (by decide) (by decide) (by decide) (neSeg hS h1 (by decide))
  refine ⟨hG.lq, hvd, ⟨.inl h.zp.zg, fun pv' e j hj => .inl (h.zp.row pv' (by simp only [World.cell?, hg] at e ⊢; exact e) j hj), fun y hy => ?_⟩, hG.fil⟩
  rcases List.mem_append.1 hy with hy' | hy'
  · obtain ⟨z1, z2, z3⟩ := h.zp.p y (List.mem_append_left _ hy')
    have ha := ((List.pairwise_append.1 h.lq.ap).2.2 y hy' x (by simp)).1.symm
    exact ⟨.inl z1, .inl z2, fun j hj => .inl (z3 j ((((h.lq.po y (List.mem_append_left _ hy')).sn.sg.other hf hS ha).2) ▸ hj))⟩
  · rw [List.mem_singleton] at hy'
    subst hy'
    obtain ⟨z1, z2, z3⟩ := h.zp.p x (by simp)
    exact ⟨.inl (hp ▸ z1), .inl (hs ▸ z2), by rw [hs]; exact zrow hf z3⟩
set_option maxHeartbeats 4000000 in
theorem lappend_x (w : World) (B Bd C d g lim room cnt us : Nat) (F : List UInt8 → Option (List Nat × Nat)) (Q : List Prt) (x : Prt) (bt : BT) (Z : Nat → Prop) (h : LZ w B Bd d g lim room cnt us F (Q ++ [x]) Z) (hb : bt.ok) (hbase : bt.h.base = endB x.base x.l) (hT : TabF w) (hCB : C ≤ B) (hCd : C ≤ Bd) (hBw : B ≤ w.heap.size) (hl1 : x.l.length ≤ 1073741824) (hl2 : szs x.l ≤ 1073741824) (hlt : szs x.l < lim) (hr : us + bt.sz ≤ room) (hcn : cnt < 256) :
    Calls Tryz.prog 8 #[.pointer (some ⟨g, 0, none⟩), .string bt.s] w fun e w' => e = .returned (.int .i64 0) ∧ (∃ F' K' cnt', LZ w' B Bd d g lim room cnt' (us + bt.sz) F' (Q ++ [⟨x.p, x.s, x.base, x.l ++ [bt], K'⟩]) (Zn Z w) ∧ cnt' ≤ cnt + 1) ∧ Below C w w' ∧ KO Z w w' := by
  have HG := hide (lgiven_yes g w h.lq.cells.1)
  have HL : Hid (∀ W, Below w.heap.size w W → Calls Tryz.prog 15 #[.pointer (some ⟨g, 0, none⟩)] W fun e w' => e = .returned (.pointer (some ⟨x.p, 0, none⟩)) ∧ w' = W.drew) := fun W hW => last_ok W B d g lim F Q x (h.lq.below hW)
  have hx := h.lq.po x (by simp)
  have HSz : Hid (∀ W, Below w.heap.size w W → Calls Tryz.prog 17 #[.pointer (some ⟨x.s, 0, none⟩)] W fun e w' => e = .returned (.int .i64 (szs x.l : Nat)) ∧ w' = W) := fun W hW => by
    have := sSize_ok W B x.s d x.base (nmB x.base) _ _ (hx.sn.sg.below hW)
    rw [plAt_full] at this
    exact this
  have HA : Hid (∀ W, Below w.heap.size w W → Calls Tryz.prog 18 #[.pointer (some ⟨x.s, 0, none⟩), .string bt.s] W fun e w' => e = .returned (.int .i64 0) ∧ (∃ F' K' cnt', LZ w' B Bd d g lim room cnt' (us + bt.sz) F' (Q ++ [⟨x.p, x.s, x.base, x.l ++ [bt], K'⟩]) (Zn Z w) ∧ cnt' ≤ cnt + 1) ∧ Below C w w' ∧ KO Z w w') := fun W hW => by
    have hL := h.below hW
    have hzx := hL.zp.p x (by simp)
    refine (sn_append_x W B Bd C x.s d x.base room cnt us (nmB x.base) F x.l x.K bt Z hzx.2.1 hzx.2.2 (hL.lq.po x (by simp)).sn hL.vx hb hbase (hT.new hW) hCB hCd (Nat.le_trans hBw hW.size) hl1 hl2 hr hcn).mono ?_
    rintro e w' ⟨rfl, ⟨o, K', cnt', hsn, hvd, hcc⟩, haf, hko⟩
    exact ⟨rfl, ⟨_, K', cnt', (hL.over (x' := ⟨x.p, x.s, x.base, x.l ++ [bt], K'⟩) haf rfl rfl rfl hsn hvd).wide (zn_up hW.size), by rcases hcc with ⟨_, e⟩ | ⟨_, e⟩ <;> omega⟩, (hW.mono (Nat.le_trans hCB hBw)).trans haf.below, (KO.below hW).trans hko hW.size (fun i _ h => h)⟩
  obtain ⟨b, hbb⟩ : ∃ b, bt.s = b := ⟨_, rfl⟩
  rw [hbb] at HA ⊢
  obtain ⟨_, _, c2⟩ := h.lq.cells
  have p0 := hx.cells.1
  have hlti : ((szs x.l : Nat) : Int) < (lim : Int) := by omega
  obtain ⟨z, hz⟩ : ∃ z, szs x.l = z := ⟨_, rfl⟩
  obtain ⟨xp, hxp⟩ : ∃ z, x.p = z := ⟨_, rfl⟩
  obtain ⟨xs, hxs⟩ : ∃ z, x.s = z := ⟨_, rfl⟩
  obtain ⟨N, hN⟩ : ∃ z, nmB x.base = z := ⟨_, rfl⟩
  rw [hz] at HSz hlti
  rw [hxp] at HL p0
  rw [hxs] at HSz HA p0
  have k2 : ∀ W, Below w.heap.size w W → W.cell? ⟨g, 2, none⟩ = some (.int .i64 (lim : Nat)) ∧ W.cell? ⟨xp, 0, none⟩ = some (.pointer (some ⟨xs, 0, none⟩)) := fun W hW => ⟨cellB hW c2, cellB hW p0⟩
  have HK := hide k2
  clear h hb hbase hT hCB hCd hBw hl1 hl2 hlt hr hcn hx hz hxp hN hbb k2
  go_enter Tryz.func8, Tryz.ntmps8
  go_wp2_with fail
  refine HG.out.mono ?_
  rintro e W ⟨rfl, hW⟩
  obtain rfl := hW.symm
  clear HG hW
  go_upto_region 3 with fail
  go_region_held_law (fun w' => w'.cell? ⟨g, 2, none⟩ = some (.int .i64 (lim : Nat)) ∧ w'.cell? ⟨xp, 0, none⟩ = some (.pointer (some ⟨xs, 0, none⟩)))
    (first | exact ⟨c2, p0⟩ | go_keep)
    (first
      | (go_at_call 15; refine (HL.out _ (by exact belN _ _ rfl rfl rfl rfl)).mono ?_; rintro e w4 ⟨rfl, hw4⟩; have hB4 : Below w.heap.size w w4 := (by rw [hw4]; exact belN _ _ rfl rfl rfl rfl); have hk4 := HK.out w4 hB4; have HB4 := hide hB4; clear hw4 hB4)
      | (go_at_call 17; refine (HSz.out _ (by exact HB4.out)).mono ?_; rintro e w5 ⟨rfl, hw5⟩; subst hw5))
  clear c2 p0 HK HSz
  go_wp2_with fail
  refine (HL.out _ (by exact HB4.out)).mono ?_
  rintro e w6 ⟨rfl, hw6⟩
  have hB6 : Below w.heap.size w w6 := HB4.out.trans (by rw [hw6]; exact (belD _).mono HB4.out.size)
  have p6 : w6.cell? ⟨xp, 0, none⟩ = some (.pointer (some ⟨xs, 0, none⟩)) := by rw [hw6]; exact hk4.2
  have HA6 := hide (HA.out w6 hB6)
  clear hk4 hw6 HL HA hB6
  go_wp2_with fail
  refine HA6.out.mono ?_
  rintro e w7 ⟨rfl, h7⟩
  have H7 := hide h7
  clear h7 HA6
  go_wp2
  go_ret
  refine ⟨rfl, ?_, H7.out.2⟩
  rw [hxs]
  exact H7.out.1
end Go.Proofs.YtcjlcieheepegaaGreatDoor
