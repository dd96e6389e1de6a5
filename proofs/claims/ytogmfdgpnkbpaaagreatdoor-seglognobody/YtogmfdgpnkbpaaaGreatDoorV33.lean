/- Layer 12: which part an offset is in (partAt). -/
/- Layer 12: Batch and Segments of a log. -/
/- Layer 12: Segments of a log. -/
/- Layer 12: the law's begun and awake. -/
import Derived.Test.YtogmfdgpnkbpaaaGreatDoorV32
import Derived.Shelf.SlSorted.Search
import Derived.Deep.OwnRows
import Derived.Test.YtogmfdgpnkbpaaaGreatDoorV28
namespace Go.Proofs
open Go.Shelf
def Tryz.laysO16_ren : Go.Shelf.Ren := ⟨fun | 16 => 42 | n => n, fun | 3 => 3 | 4 => 4 | 35 => 55 | 38 => 123 | n => n, fun | n => n⟩
theorem Tryz.laysO16 : Go.Proofs.SlLaysO.n16 Tryz.prog Tryz.laysO16_ren := {
  mixed := by kernel_rfl
  f16 := Tryz.func42.trans (congrArg some (by kernel_rfl))
  t3 := Tryz.underlying3
  a3 := Tryz.isAgg3
  z3 := Tryz.sizeOf3
  v3 := Tryz.zeroValue3
  t4 := Tryz.underlying4
  a4 := Tryz.isAgg4
  z4 := Tryz.sizeOf4
  v4 := Tryz.zeroValue4
  t35 := Tryz.underlying55
  a35 := Tryz.isAgg55
  z35 := Tryz.sizeOf55
  v35 := Tryz.zeroValue55
  t38 := Tryz.underlying123
  a38 := Tryz.isAgg123
  z38 := Tryz.sizeOf123
  v38 := Tryz.zeroValue123 }
end Go.Proofs
namespace Go.Proofs.YtogmfdgpnkbpaaaGreatDoor
open Go.RowKit
set_option linter.unusedVariables false
set_option maxRecDepth 20000
set_option maxRecDepth 20000

/-- Does the part of a number begin above an offset? -/
def pAbove (P : List Prt) (o : Int) (i : Nat) : Bool := match P[i]? with
  | some x => decide (o < (x.base : Int))
  | none => true
/-- How many parts begin at an offset or ahead of it. -/
def partN (P : List Prt) (o : Int) : Nat := (List.range P.length).countP fun i => !pAbove P o i
set_option maxHeartbeats 2000000 in
theorem above_ok (w : World) (B d g lim bl bo i : Nat) (o : Int) (F : List UInt8 → Option (List Nat × Nat)) (P : List Prt) (x : Prt) (h : LQ w B d g lim F P) (hx : P[i]? = some x) (c1 : w.cell? ⟨bl, 0, none⟩ = some (.pointer (some ⟨g, 0, none⟩))) (c2 : w.cell? ⟨bo, 0, none⟩ = some (.int .i64 o)) :
    Calls Tryz.prog 43 (#[.int .i64 (i : Nat)] ++ #[.pointer (some ⟨bl, 0, none⟩), .pointer (some ⟨bo, 0, none⟩)]) w fun e w' => e = .returned (.bool (decide (o < (x.base : Int)))) ∧ ∃ q, w' = w.drewN q := by
  have hil : i < P.length := by
    rcases Nat.lt_or_ge i P.length with h' | h'
    · exact h'
    · rw [List.getElem?_eq_none h'] at hx; cases hx
  obtain ⟨r, cap, c3, hr, _, _, hl⟩ := h.row (by omega)
  have ci := hr i x hx
  have hxo := h.po x (List.mem_of_getElem? hx)
  have p0 := hxo.cells.1
  have HB : Hid (∀ W, Below w.heap.size w W → Calls Tryz.prog 32 #[.pointer (some ⟨x.s, 0, none⟩)] W fun e w' => e = .returned (.int .i64 (x.base : Nat)) ∧ w' = W) := fun W hW => sBase_ok W B x.s d x.base (nmB x.base) _ _ (hxo.sn.sg.below hW)
  obtain ⟨n, hn⟩ : ∃ n, P.length = n := ⟨_, rfl⟩
  obtain ⟨xb, hxb⟩ : ∃ n, x.base = n := ⟨_, rfl⟩
  obtain ⟨xs, hxs⟩ : ∃ n, x.s = n := ⟨_, rfl⟩
  obtain ⟨xp, hxp⟩ : ∃ n, x.p = n := ⟨_, rfl⟩
  rw [hn] at c3 hl hil
  rw [hxb, hxs] at HB
  rw [hxp, hxs] at p0
  rw [hxp] at ci
  rw [hxb]
  have hin : (i : Int) < (n : Int) := by omega
  have K : ∀ W, Below w.heap.size w W → W.cell? ⟨bl, 0, none⟩ = some (.pointer (some ⟨g, 0, none⟩)) ∧ W.cell? ⟨bo, 0, none⟩ = some (.int .i64 o) ∧ W.cell? ⟨g, 3, none⟩ = some (.slice (some ⟨r, 0, none⟩) n cap) ∧ W.cell? ⟨r, i, none⟩ = some (.pointer (some ⟨xp, 0, none⟩)) ∧ W.cell? ⟨xp, 0, none⟩ = some (.pointer (some ⟨xs, 0, none⟩)) := fun W hW => ⟨cellB hW c1, cellB hW c2, cellB hW c3, cellB hW ci, cellB hW p0⟩
  clear h hx hr hxo hn hxb hxs hxp K
  go_enter Tryz.func43, Tryz.ntmps43
  go_wp2_with fail
  go_region_held_law (fun w' => w'.cell? ⟨bl, 0, none⟩ = some (.pointer (some ⟨g, 0, none⟩)) ∧ w'.cell? ⟨bo, 0, none⟩ = some (.int .i64 o) ∧ w'.cell? ⟨g, 3, none⟩ = some (.slice (some ⟨r, 0, none⟩) n cap) ∧ w'.cell? ⟨r, i, none⟩ = some (.pointer (some ⟨xp, 0, none⟩)) ∧ w'.cell? ⟨xp, 0, none⟩ = some (.pointer (some ⟨xs, 0, none⟩)))
    (first | exact ⟨c1, c2, c3, ci, p0⟩ | go_keep)
    (first
      | (go_at_call 32; refine (HB.out _ (by exact belN _ _ rfl rfl rfl rfl)).mono ?_; rintro e w4 ⟨rfl, hw4⟩; subst hw4))
  all_goals
    go_wp2
    go_ret
    exact ⟨rfl, 1, rfl⟩
theorem pAbove_mono {w : World} {B d g lim : Nat} {F : List UInt8 → Option (List Nat × Nat)} {P : List Prt} (h : LQ w B d g lim F P) (o : Int) (a b : Nat) (hab : a ≤ b) (hb : b < P.length) (ha : pAbove P o a = true) : pAbove P o b = true := by
  unfold pAbove at ha ⊢
  rw [List.getElem?_eq_getElem (by omega : a < P.length)] at ha
  rw [List.getElem?_eq_getElem hb]
  simp only [decide_eq_true_eq] at ha ⊢
  rcases Nat.lt_or_eq_of_le hab with h' | h'
  · have := (List.pairwise_iff_getElem.1 h.ap a b (by omega) hb h').2
    omega
  · subst h'; exact ha
set_option maxHeartbeats 2000000 in
theorem partAt_ok (w : World) (B d g lim : Nat) (o : Int) (F : List UInt8 → Option (List Nat × Nat)) (P : List Prt) (h : LQ w B d g lim F P) (hP0 : 0 < P.length) (hPn : P.length < 4611686018427387904) :
    Calls Tryz.prog 18 #[.pointer (some ⟨g, 0, none⟩), .int .i64 o] w fun e w' => e = .returned (.int .i64 ((partN P o : Nat) - 1)) ∧ Below w.heap.size w w' := by
  obtain ⟨W0, hW0⟩ : ∃ W0, (w.alloc (.cells #[.pointer (some ⟨g, 0, none⟩)] 22)).alloc (.cells #[.int .i64 o] 3) = W0 := ⟨_, rfl⟩
  have hs1 : (w.alloc (.cells #[.pointer (some ⟨g, 0, none⟩)] 22)).heap.size = w.heap.size + 1 := by simp
  have hb0 : Below w.heap.size w W0 := by rw [← hW0]; exact (below_a w _).alloc (by rw [hs1]; omega) _
  have hL0 := h.below hb0
  have b1 : W0.heap[w.heap.size]? = some (.cells #[.pointer (some ⟨g, 0, none⟩)] 22 (0, 0)) := by
    rw [← hW0, (below_a (w.alloc (.cells #[.pointer (some ⟨g, 0, none⟩)] 22)) _).block w.heap.size (by rw [hs1]; omega)]
    exact heap_alloc_new _ _
  have b2 : W0.heap[w.heap.size + 1]? = some (.cells #[.int .i64 o] 3 (0, 0)) := by
    rw [← hW0, ← hs1]; exact heap_alloc_new _ _
  have c1 : W0.cell? ⟨w.heap.size, 0, none⟩ = some (.pointer (some ⟨g, 0, none⟩)) := by simp [World.cell?, b1]
  have c2 : W0.cell? ⟨w.heap.size + 1, 0, none⟩ = some (.int .i64 o) := by simp [World.cell?, b2]
  have eg : ∀ args w, (callFunc 43 args).run Tryz.prog w = .ok (.enter 43 args) w := enters_of Tryz.func43 (by kernel_rfl) rfl
  have hS := Any.sort_Search Tryz.laysO16 43 #[.pointer (some ⟨w.heap.size, 0, none⟩), .pointer (some ⟨w.heap.size + 1, 0, none⟩)] P.length (pAbove P o) W0 eg hPn
    (fun m os i hi => by
      obtain ⟨x, hx⟩ : ∃ x, P[i]? = some x := ⟨_, List.getElem?_eq_getElem hi⟩
      have hbg := belowG W0 m os
      refine (above_ok (Go.Sort.grow (W0.drewN m) os) B d g lim w.heap.size (w.heap.size + 1) i o F P x (hL0.below hbg) hx (cellB hbg c1) (cellB hbg c2)).mono ?_
      rintro e w' ⟨rfl, q, rfl⟩
      refine ⟨?_, q, #[], by rw [Go.Sort.grow_empty]⟩
      unfold pAbove
      rw [hx]) (pAbove_mono h o)
  have HS : Hid (Calls Tryz.prog 42 #[.int .i64 (P.length : Nat), .func (.func 43) #[] #[.pointer (some ⟨w.heap.size, 0, none⟩), .pointer (some ⟨w.heap.size + 1, 0, none⟩)]] W0 fun e w' => e = .returned (.int .i64 (partN P o : Nat)) ∧ Below w.heap.size w w') := by
    refine hS.mono ?_
    rintro e w' ⟨rfl, q, os, rfl⟩
    exact ⟨rfl, hb0.trans ((belowG W0 q os).mono hb0.size)⟩
  obtain ⟨r, cap, c3, _, _, _, _⟩ := hL0.row hP0
  have hle : partN P o ≤ P.length := by
    have := List.countP_le_length (p := fun i => !pAbove P o i) (l := List.range P.length)
    rw [List.length_range] at this
    exact this
  obtain ⟨n, hn⟩ : ∃ n, P.length = n := ⟨_, rfl⟩
  obtain ⟨z, hz⟩ : ∃ z, partN P o = z := ⟨_, rfl⟩
  rw [hn] at HS c3 hle hPn
  rw [hz] at HS hle ⊢
  have hw1 : wrap64 ((z : Int) - 1) = (z : Int) - 1 := by unfold wrap64; omega
  obtain ⟨U, hU⟩ : ∃ U, w.heap.size = U := ⟨_, rfl⟩
  rw [hU] at HS c1 c2 ⊢
  clear h hb0 hL0 b1 b2 hS eg hn hz hle hPn hP0 hs1 c2
  go_enter Tryz.func18, Tryz.ntmps18
  go_upto_region 1 with fail
  try rw [hU]
  try rw [hW0]
  clear hW0 hU
  go_wp2_with fail
  refine HS.out.mono ?_
  rintro e w1 ⟨rfl, hb1⟩
  have H1 := hide hb1
  clear hb1 HS
  go_wp2
  go_ret
  exact ⟨congrArg (fun q => Ending.returned (.int .i64 q)) hw1, H1.out⟩
end Go.Proofs.YtogmfdgpnkbpaaaGreatDoor
namespace Go.Proofs.YtogmfdgpnkbpaaaGreatDoor
open Go.RowKit
set_option linter.unusedVariables false
set_option maxRecDepth 20000
set_option maxRecDepth 20000

set_option maxHeartbeats 2000000 in
theorem lbatch_ok (w : World) (B Bd d g lim room cnt us : Nat) (F : List UInt8 → Option (List Nat × Nat)) (P : List Prt) (i o : Nat) (x : Prt) (h : LG w B Bd d g lim room cnt us F P) (hx : P[i]? = some x) (hPn : P.length < 4611686018427387904) (hz : partN P (o : Nat) = i + 1) (h1 : x.base ≤ o) (h2 : o < endB x.base x.l) (hT : TabF w) :
    Calls Tryz.prog 5 #[.pointer (some ⟨g, 0, none⟩), .int .i64 (o : Nat)] w (BatchEnd w x.base x.l o) := by
  have hil : i < P.length := by
    rcases Nat.lt_or_ge i P.length with h' | h'
    · exact h'
    · rw [List.getElem?_eq_none h'] at hx; cases hx
  have HG := hide (lgiven_yes g w h.lq.cells.1)
  have HPt : Hid (Calls Tryz.prog 18 #[.pointer (some ⟨g, 0, none⟩), .int .i64 (o : Nat)] w fun e w' => e = .returned (.int .i64 (i : Nat)) ∧ Below w.heap.size w w') := by
    have := partAt_ok w B d g lim (o : Nat) F P h.lq (by omega) hPn
    rw [hz] at this
    refine this.mono ?_
    rintro e w' ⟨rfl, hb⟩
    exact ⟨congrArg (fun q => Ending.returned (.int .i64 q)) (by omega), hb⟩
  have HF : Hid (∀ W, Below w.heap.size w W → Calls Tryz.prog 19 #[.pointer (some ⟨x.s, 0, none⟩), .int .i64 (o : Nat)] W (BatchEnd W x.base x.l o)) := fun W hW => by
    have hL := h.below hW
    have hs := (hL.lq.po x (List.mem_of_getElem? hx)).sn
    refine batch_found W B Bd x.s d x.base room cnt us (nmB x.base) F x.l x.K hs.sg hL.vd hs.may ?_ hs.ch hs.ok hs.mks (hT.new hW) o h1 h2
    rcases hs.file with ⟨e, _⟩ | hf
    · rw [e] at h2
      exact absurd h2 (by show ¬ o < x.base; omega)
    · exact hf
  have HC : Hid (∀ W, Below w.heap.size w W → ∃ r cap, W.cell? ⟨g, 3, none⟩ = some (.slice (some ⟨r, 0, none⟩) P.length cap) ∧ W.cell? ⟨r, i, none⟩ = some (.pointer (some ⟨x.p, 0, none⟩)) ∧ W.cell? ⟨x.p, 0, none⟩ = some (.pointer (some ⟨x.s, 0, none⟩))) := fun W hW => by
    have hL := h.below hW
    obtain ⟨r, cap, c3, hr, _⟩ := hL.lq.row (by omega)
    exact ⟨r, cap, c3, hr i x hx, (hL.lq.po x (List.mem_of_getElem? hx)).cells.1⟩
  obtain ⟨xs, hxs⟩ : ∃ n, x.s = n := ⟨_, rfl⟩
  obtain ⟨xp, hxp⟩ : ∃ n, x.p = n := ⟨_, rfl⟩
  obtain ⟨n, hn⟩ : ∃ n, P.length = n := ⟨_, rfl⟩
  rw [hxs] at HF HC
  rw [hxp, hn] at HC
  rw [hn] at hil
  have hin : (i : Int) < (n : Int) := by omega
  have hi0 : ¬ (i : Int) < 0 := by omega
  clear h hx hPn hz h1 h2 hT hxs hxp hn
  unfold BatchEnd at HF ⊢
  go_enter Tryz.func5, Tryz.ntmps5
  go_wp2_with fail
  refine HG.out.mono ?_
  rintro e W ⟨rfl, hW⟩
  obtain rfl := hW.symm
  clear HG hW
  go_wp2_with fail
  refine HPt.out.mono ?_
  rintro e w1 ⟨rfl, hb1⟩
  have H1 := hide hb1
  have HF1 := hide (HF.out w1 hb1)
  obtain ⟨r, cap, c3, ci, p0⟩ := HC.out w1 hb1
  clear hb1 HPt HF HC
  go_wp2_with fail
  refine HF1.out.mono ?_
  rintro e w2 ⟨j, b, hj, hj1, hj2, rfl, hb2⟩
  have H2 := hide (And.intro hj (And.intro hj1 (And.intro hj2 (H1.out.trans (hb2.mono H1.out.size)))))
  clear hj hj1 hj2 hb2 H1 HF1 c3 ci p0
  go_wp2
  go_ret2
  exact ⟨j, b, H2.out.1, H2.out.2.1, H2.out.2.2.1, rfl, H2.out.2.2.2⟩
end Go.Proofs.YtogmfdgpnkbpaaaGreatDoor
namespace Go.Proofs.YtogmfdgpnkbpaaaGreatDoor
open Go.RowKit
set_option linter.unusedVariables false
set_option maxRecDepth 20000
set_option maxRecDepth 20000

theorem inInfo : (Tryz.prog.info? 3).map (fun i => (i.zero, i.size, i.bytes)) = some (some (.int .i64 0), 1, 8) := by kernel_rfl
/-- A row of the call's own holds the bases of the first k parts. -/
def BaR (w W : World) (R n k : Nat) (P : List Prt) : Prop := ∃ cs, W.heap[R]? = some (.cells cs 3 (0, 0)) ∧ cs.size = n ∧ (∀ j x, j < k → P[j]? = some x → cs[j]? = some (.int .i64 (x.base : Nat))) ∧ Below w.heap.size w W ∧ w.heap.size ≤ R
theorem BaR.step {w W : World} {R n k : Nat} {P : List Prt} (h : BaR w W R n k P) {x : Prt} (hx : P[k]? = some x) (hk : k < n) : BaR w (W.setCell ⟨R, k, none⟩ (.int .i64 (x.base : Nat))) R n (k + 1) P := by
  obtain ⟨cs, h1, h2, h3, h4, h5⟩ := h
  refine ⟨cs.setIfInBounds k (.int .i64 (x.base : Nat)), block_set h1, by simp [h2], fun j y hj hy => ?_, h4.trans (below_set W _ h5), h5⟩
  rcases Nat.lt_or_eq_of_le (Nat.le_of_lt_succ hj) with h' | h'
  · rw [Array.getElem?_setIfInBounds_ne (by omega)]
    exact h3 j y h' hy
  · subst h'
    rw [hx] at hy
    cases hy
    simp [h2, hk]
theorem BaR.low {w W W' : World} {R n k : Nat} {P : List Prt} (h : BaR w W R n k P) (hb : Below W.heap.size W W') : BaR w W' R n k P := by
  obtain ⟨cs, h1, h2, h3, h4, h5⟩ := h
  exact ⟨cs, (hb.block R (lt_of_block h1)).trans h1, h2, h3, h4.trans (hb.mono h4.size), h5⟩
theorem BaR.cell {w W : World} {R n k : Nat} {P : List Prt} (h : BaR w W R n k P) {i : Nat} (hi : i < n) : (∃ v, W.cell? ⟨R, i, none⟩ = some v) ∧ W.frozen? ⟨R, i, none⟩ = false := by
  obtain ⟨cs, h1, h2, _⟩ := h
  refine ⟨⟨cs[i]'(by omega), ?_⟩, frozen0 h1 i⟩
  simp [World.cell?, h1, h2, hi]
set_option maxHeartbeats 4000000 in
theorem lsegs_ok (w : World) (B d g lim : Nat) (F : List UInt8 → Option (List Nat × Nat)) (P : List Prt) (h : LQ w B d g lim F P) (h0 : 0 < P.length) (hn1 : P.length ≤ 1000000) :
    Calls Tryz.prog 12 #[.pointer (some ⟨g, 0, none⟩)] w fun e w' => ∃ R, e = .returned (.slice (some ⟨R, 0, none⟩) P.length P.length) ∧ BaR w w' R P.length P.length P := by
  have HG := hide (lgiven_yes g w h.cells.1)
  obtain ⟨r, cap, c3, hr, _, hrl, _⟩ := h.row h0
  have HL := hide h
  have HR := hide hr
  have HB : Hid (∀ (W : World) (i : Nat) (x : Prt), P[i]? = some x → Below w.heap.size w W → Calls Tryz.prog 32 #[.pointer (some ⟨x.s, 0, none⟩)] W fun e w' => e = .returned (.int .i64 (x.base : Nat)) ∧ w' = W) := fun W i x hx hW => sBase_ok W B x.s d x.base (nmB x.base) _ _ ((h.po x (List.mem_of_getElem? hx)).sn.sg.below hW)
  obtain ⟨n, hn⟩ : ∃ n, P.length = n := ⟨_, rfl⟩
  rw [hn] at c3 h0 hn1 ⊢
  have HN := hide hn
  have hmk : ∀ W : World, (Instr.makeSlice 43 (.int .i64 (n : Nat)) (.int .i64 (n : Nat))).run Tryz.prog W = .ok (.slice (some ⟨W.heap.size, 0, none⟩) n n) (W.alloc (.cells (madeCells #[.int .i64 0] n) 3)) := fun W => run_make_row' (P := Tryz.prog) 43 3 (.int .i64 0) 8 Tryz.underlying43 inInfo rfl .i64 .i64 n (by omega) (by omega) W
  have hba := below_a w (.cells (madeCells #[.int .i64 0] n) 3)
  have HW1 : Hid (BaR w (w.alloc (.cells (madeCells #[.int .i64 0] n) 3)) w.heap.size n 0 P) := ⟨_, heap_alloc_new w _, size_madeCells _ _, fun j x hj => absurd hj (by omega), hba, Nat.le_refl _⟩
  have c31 : (w.alloc (.cells (madeCells #[.int .i64 0] n) 3)).cell? ⟨g, 3, none⟩ = some (.slice (some ⟨r, 0, none⟩) n cap) := cellB hba c3
  obtain ⟨U, hU⟩ : ∃ U, w.heap.size = U := ⟨_, rfl⟩
  obtain ⟨w1, hw1⟩ : ∃ w1, w.alloc (.cells (madeCells #[.int .i64 0] n) 3) = w1 := ⟨_, rfl⟩
  rw [hU, hw1] at HW1
  rw [hw1] at c31
  have HU := hide hU
  have HN1 := hide hn1
  clear h hr hn hba hn1 hrl
  go_enter Tryz.func12, Tryz.ntmps12
  go_wp2_with fail
  refine HG.out.mono ?_
  rintro e W ⟨rfl, hW⟩
  obtain rfl := hW.symm
  clear HG hW
  go_upto_region 4 with fail
  try rw [hU]
  try rw [hw1]
  clear hmk hw1 hU
  go_wp2
  go_loopw [20] (fun v wr => ∃ k : Nat, v = .int .i64 (k : Nat) ∧ k ≤ n ∧ Hid (BaR w wr U n k P)) (fun v _ => n - (intOf v).toNat)
  case atStart => exact ⟨0, rfl, Nat.zero_le _, HW1.out⟩
  case round =>
    obtain ⟨k, rfl, hk, HI⟩ := hrel
    by_cases hlt : k < n
    · have hki : (k : Int) < (n : Int) := by omega
      obtain ⟨x, hx⟩ : ∃ x, P[k]? = some x := ⟨_, List.getElem?_eq_getElem (by rw [HN.out]; exact hlt)⟩
      have hbw : Below w.heap.size w wr := HI.out.choose_spec.2.2.2.1
      have hrc : wr.cell? ⟨r, k, none⟩ = some (.pointer (some ⟨x.p, 0, none⟩)) := cellB hbw (HR.out k x hx)
      have hpc : wr.cell? ⟨x.p, 0, none⟩ = some (.pointer (some ⟨x.s, 0, none⟩)) := cellB hbw (HL.out.po x (List.mem_of_getElem? hx)).cells.1
      have HBx := hide (HB.out wr k x hx hbw)
      obtain ⟨⟨v0, hv0⟩, hf0⟩ := HI.out.cell hlt
      have HS := hide (HI.out.step hx hlt)
      obtain ⟨xs, hxs⟩ : ∃ q, x.s = q := ⟨_, rfl⟩
      obtain ⟨xp, hxp⟩ : ∃ q, x.p = q := ⟨_, rfl⟩
      obtain ⟨xb, hxb⟩ : ∃ q, x.base = q := ⟨_, rfl⟩
      rw [hxs] at hpc HBx
      rw [hxp] at hpc hrc
      rw [hxb] at HBx HS
      clear hxs hxp hxb hx hbw HI
      go_wp2_with fail
      refine HBx.out.mono ?_
      rintro e W ⟨rfl, hW⟩
      obtain rfl := hW.symm
      clear HBx hW
      go_wp2
      have hkw : wrap64 ((k : Int) + 1) = ((k + 1 : Nat) : Int) := by have := HN1.out; unfold wrap64; omega
      refine ⟨⟨k + 1, congrArg (Value.int .i64) hkw, hlt, HS.out⟩, ?_⟩
      show n - (intOf (.int .i64 (wrap64 ((k : Int) + 1)))).toNat < n - (intOf (.int .i64 (k : Int))).toNat
      rw [hkw]
      simp [intOf]
      omega
    · have hki : ¬ (k : Int) < (n : Int) := by omega
      obtain rfl : n = k := by omega
      clear hlt
      go_wp2
      go_ret
      exact ⟨U, rfl, HI.out⟩
end Go.Proofs.YtogmfdgpnkbpaaaGreatDoor
namespace Go.Proofs.YtogmfdgpnkbpaaaGreatDoor
open Go.RowKit
set_option linter.unusedVariables false
set_option maxRecDepth 20000
set_option maxRecDepth 20000

theorem lbegun_ok (w : World) (lim : Nat) (h1 : 1 ≤ lim) (h2 : lim ≤ 16777216) (hP : TabP w) :
    Calls Tryz.prog 36 #[.int .i64 (lim : Nat)] w fun e w' => ∃ d g x B, e = .returned (.tuple #[.pointer (some ⟨d, 0, none⟩), .pointer (some ⟨g, 0, none⟩), .bool true]) ∧ LG w' B w.heap.size d g lim 4194304 0 0 (fun _ => none) ([] ++ [x]) ∧ x.l = [] ∧ x.base = 0 ∧ w.heap.size ≤ B ∧ B ≤ w'.heap.size ∧ Below w.heap.size w w' := by
  have HN : Hid (Calls Tryz.prog 64 #[.int .i64 4194304] w fun e w' => e = .returned (.tuple #[.pointer (some ⟨w.heap.size + 1, 0, none⟩), .int .i64 0]) ∧ V8.VD w' w.heap.size (w.heap.size + 1) 4194304 (fun _ => none) 0 0 ∧ Below w.heap.size w w') := V8.new_ok w 4194304 (by decide)
  have HP := hide hP
  have HL := hide (And.intro h1 h2)
  obtain ⟨D, hD⟩ : ∃ D, w.heap.size + 1 = D := ⟨_, rfl⟩
  rw [hD] at HN
  clear hD hP h1 h2
  go_enter Tryz.func36, Tryz.ntmps36
  go_wp2_with fail
  refine HN.out.mono ?_
  rintro e w1 ⟨rfl, hd1, hb1⟩
  have H1 := hide (And.intro hd1 hb1)
  clear hd1 hb1 HN
  have HO := hide (lopen_ok w1 D w.heap.size 4194304 lim H1.out.1 HL.out.1 HL.out.2 (HP.out.low H1.out.2 HP.out.lt))
  go_wp2_with fail
  refine HO.out.mono ?_
  rintro e w2 ⟨g, x, rfl, hg, hx1, hx2, hb2⟩
  have H2 : Hid (LG w2 w1.heap.size w.heap.size D g lim 4194304 0 0 (fun _ => none) ([] ++ [x]) ∧ x.l = [] ∧ x.base = 0 ∧ w.heap.size ≤ w1.heap.size ∧ w1.heap.size ≤ w2.heap.size ∧ Below w.heap.size w w2) := ⟨hg, hx1, hx2, H1.out.2.size, hb2.size, H1.out.2.trans (hb2.mono H1.out.2.size)⟩
  clear hg hx1 hx2 hb2 HO
  go_wp2
  go_ret3
  exact ⟨D, g, x, w1.heap.size, rfl, H2.out⟩
theorem RP.sz_most (x : RP) (E : Nat) (hb : E ≤ 1099511627520) (hv : x.val.size ≤ 4096) : (x.b E).sz ≤ 33559 := by
  have := x.b_len E hb hv
  show 39 + (recsL E (x.L E)).length ≤ _
  omega
def r12a : RP := ⟨2, 0, 0, 0, ⟨#[]⟩⟩
def r12b : RP := ⟨0, 0, 0, 0, ⟨#[]⟩⟩
theorem a12 : (r12a.b 0).ok ∧ (r12a.b 0).h.base = 0 ∧ (r12a.b 0).h.cnt = 3 ∧ (r12a.b 0).sz ≤ 33559 ∧ 39 ≤ (r12a.b 0).sz :=
  ⟨r12a.ok 0 (by decide) (by decide), rfl, rfl, r12a.sz_most 0 (by decide) (by decide), (BT.sz_le (r12a.ok 0 (by decide) (by decide))).1⟩
theorem b12 : (r12b.b 3).ok ∧ (r12b.b 3).h.base = 3 ∧ (r12b.b 3).h.cnt = 1 ∧ (r12b.b 3).sz ≤ 33559 ∧ 39 ≤ (r12b.b 3).sz :=
  ⟨r12b.ok 3 (by decide) (by decide), rfl, rfl, r12b.sz_most 3 (by decide) (by decide), (BT.sz_le (r12b.ok 3 (by decide) (by decide))).1⟩
theorem partN12 (x y : Prt) (hx : x.base = 0) (hy : y.base = 3) : partN [x, y] ((2 : Nat) : Int) = 1 := by
  unfold partN pAbove
  simp [List.range_succ, hx, hy]
set_option maxHeartbeats 4000000 in
theorem awake12 (w : World) (hT : TabF w) (hP : TabP w) :
    Calls Tryz.prog 14 #[] w fun e w' => e = .returned (.bool true) ∧ Below w.heap.size w w' := by
  have HB := hide (lbegun_ok w 1 (by decide) (by decide) hP)
  have HT := hide (And.intro hT hP)
  clear hT hP
  obtain ⟨Ab, hAb⟩ : ∃ b, r12a.b 0 = b := ⟨_, rfl⟩
  obtain ⟨Bb, hBb⟩ : ∃ b, r12b.b 3 = b := ⟨_, rfl⟩
  have HA : Hid (Ab.ok ∧ Ab.h.base = 0 ∧ Ab.h.cnt = 3 ∧ Ab.sz ≤ 33559 ∧ 39 ≤ Ab.sz) := by have := a12; rw [hAb] at this; exact this
  have HBb : Hid (Bb.ok ∧ Bb.h.base = 3 ∧ Bb.h.cnt = 1 ∧ Bb.sz ≤ 33559 ∧ 39 ≤ Bb.sz) := by have := b12; rw [hBb] at this; exact this
  have HMa : Hid (∀ W, Calls Tryz.prog 37 #[.agg #[.int .i64 2, .int .i64 0, .int .i64 0, .int .i64 0, .string ⟨#[]⟩], .int .i64 0] W fun e w' => e = .returned (.tuple #[.string Ab.s, .bool true]) ∧ Below W.heap.size W w') := fun W => by rw [← hAb]; exact made_ok r12a 0 W (by decide) (by decide)
  have HMb : Hid (∀ W, Calls Tryz.prog 37 #[.agg #[.int .i64 0, .int .i64 0, .int .i64 0, .int .i64 0, .string ⟨#[]⟩], .int .i64 3] W fun e w' => e = .returned (.tuple #[.string Bb.s, .bool true]) ∧ Below W.heap.size W w') := fun W => by rw [← hBb]; exact made_ok r12b 3 W (by decide) (by decide)
  clear hAb hBb
  go_enter Tryz.func14, Tryz.ntmps14
  go_wp2_with fail
  refine HB.out.mono ?_
  rintro e w1 ⟨d, g, x, B, rfl, hg, hx1, hx2, hB1, hB2, hb1⟩
  have H1 := hide (And.intro hg (And.intro hx1 (And.intro hx2 (And.intro hB1 (And.intro hB2 hb1)))))
  clear hg hx1 hx2 hB1 hB2 hb1 HB
  go_wp2_with fail
  refine (HMa.out _).mono ?_
  rintro e w2 ⟨rfl, hb2⟩
  have H2 := hide hb2
  clear hb2 HMa
  go_wp2_with fail
  refine (HMb.out _).mono ?_
  rintro e w3 ⟨rfl, hb3⟩
  have hb13 := H2.out.trans (hb3.mono H2.out.size)
  have H3 : Hid (LG w3 B w.heap.size d g 1 4194304 0 0 (fun _ => none) ([] ++ [x]) ∧ x.l = [] ∧ x.base = 0 ∧ w.heap.size ≤ B ∧ B ≤ w3.heap.size ∧ Below w.heap.size w w3) := ⟨H1.out.1.below hb13, H1.out.2.1, H1.out.2.2.1, H1.out.2.2.2.1, Nat.le_trans H1.out.2.2.2.2.1 hb13.size, H1.out.2.2.2.2.2.trans (hb13.mono H1.out.2.2.2.2.2.size)⟩
  clear hb13 hb3 HMb H1 H2
  obtain ⟨ta, hta⟩ : ∃ q, Ab.s = q := ⟨_, rfl⟩
  obtain ⟨tb, htb⟩ : ∃ q, Bb.s = q := ⟨_, rfl⟩
  have HO : Hid (Calls Tryz.prog 8 #[.pointer (some ⟨g, 0, none⟩), .string tb] w3 fun e w' => e = .returned (.int .i64 110) ∧ Below w3.heap.size w3 w') := by
    rw [← htb]
    exact lappend_order w3 B w.heap.size d g 1 4194304 0 0 _ [] x Bb H3.out.1 HBb.out.1 (by rw [HBb.out.2.1, H3.out.2.1, H3.out.2.2.1]; decide) (HT.out.1.new H3.out.2.2.2.2.2) (by rw [H3.out.2.1]; decide)
  have HAp : Hid (∀ W, Below w3.heap.size w3 W → Calls Tryz.prog 8 #[.pointer (some ⟨g, 0, none⟩), .string ta] W fun e w' => e = .returned (.int .i64 0) ∧ (∃ F' K' cnt', LG w' B w.heap.size d g 1 4194304 cnt' Ab.sz F' ([] ++ [⟨x.p, x.s, 0, [Ab], K'⟩]) ∧ cnt' ≤ 1) ∧ Below w.heap.size w w' ∧ B ≤ w'.heap.size) := fun W hW => by
    rw [← hta]
    have hbW := H3.out.2.2.2.2.2.trans (hW.mono H3.out.2.2.2.2.2.size)
    have hx := H3.out.2.2.1
    have hl := H3.out.2.1
    refine (lappend_ok W B w.heap.size w.heap.size d g 1 4194304 0 0 _ [] x Ab (H3.out.1.below hW) HA.out.1 (by rw [HA.out.2.1, hl, hx]; rfl) (HT.out.1.new hbW) H3.out.2.2.2.1 (Nat.le_refl _) (Nat.le_trans H3.out.2.2.2.2.1 hW.size) (by rw [hl]; decide) (by rw [hl]; decide) (by rw [hl]; decide) (by have := HA.out.2.2.2.1; omega) (by decide)).mono ?_
    rintro e w' ⟨rfl, ⟨F', K', cnt', h1, h2⟩, h3⟩
    rw [hl, hx, Nat.zero_add] at h1
    exact ⟨rfl, ⟨F', K', cnt', h1, h2⟩, hbW.trans h3, Nat.le_trans (Nat.le_trans H3.out.2.2.2.2.1 hW.size) h3.size⟩
  have HG3 := hide H3.out.2.2.2.2
  have HB3 := hide H3.out.2.2.2.1
  clear H3
  go_wp2_with fail
  refine HO.out.mono ?_
  rintro e w4 ⟨rfl, hb4⟩
  have HA4 := hide (HAp.out w4 hb4)
  clear HO HAp hb4
  go_wp2_with fail
  refine HA4.out.mono ?_
  rintro e w5 ⟨rfl, ⟨F5, K5, cnt5, h5, hc5⟩, hb5, hB5⟩
  have H5 := hide (And.intro h5 (And.intro hc5 (And.intro hb5 hB5)))
  clear h5 hc5 hb5 hB5 HA4
  have HR : Hid (Calls Tryz.prog 8 #[.pointer (some ⟨g, 0, none⟩), .string tb] w5 fun e w' => e = .returned (.int .i64 0) ∧ (∃ F' p s K' cnt', LG w' B w.heap.size d g 1 4194304 cnt' (Ab.sz + Bb.sz) F' [⟨x.p, x.s, 0, [Ab], K5⟩, ⟨p, s, 3, [Bb], K'⟩]) ∧ Below w.heap.size w w') := by
    rw [← htb]
    have hE : endB 0 [Ab] = 3 := by show 0 + (Ab.h.cnt + 0) = 3; have := HA.out.2.2.1; omega
    have hz := HA.out.2.2.2
    have hz2 := HBb.out.2.2.2
    have := lappend_roll w5 B w.heap.size w.heap.size d g 1 4194304 cnt5 Ab.sz F5 [] ⟨x.p, x.s, 0, [Ab], K5⟩ Bb H5.out.1 HBb.out.1 (by rw [HBb.out.2.1]; exact hE.symm) (HT.out.1.new H5.out.2.2.1) HB3.out (Nat.le_refl _) H5.out.2.2.2 (by show ¬ szs [Ab] < 1; rw [szs_one]; omega) (HT.out.2.low H5.out.2.2.1 HT.out.2.lt) HT.out.2.lt (by show 0 < endB 0 [Ab]; omega) (by show endB 0 [Ab] ≤ _; omega) (by show 1 ≤ _; omega) (by omega) (by have := H5.out.2.1; omega)
    refine this.mono ?_
    rintro e w' ⟨rfl, ⟨F', p, s, K', cnt', h1, _⟩, h2⟩
    refine ⟨rfl, ⟨F', p, s, K', cnt', ?_⟩, H5.out.2.2.1.trans h2⟩
    have h1' : LG w' B w.heap.size d g 1 4194304 cnt' (Ab.sz + Bb.sz) F' ([⟨x.p, x.s, 0, [Ab], K5⟩] ++ [⟨p, s, endB 0 [Ab], [Bb], K'⟩]) := h1
    rw [hE] at h1'
    exact h1'
  go_wp2_with fail
  refine HR.out.mono ?_
  rintro e w6 ⟨rfl, ⟨F6, p, s, K6, cnt6, h6⟩, hb6⟩
  have H6 := hide (And.intro h6 hb6)
  clear h6 hb6 HR H5
  have HSe := hide (lsegs_ok w6 B d g 1 F6 _ H6.out.1.lq (by show 0 < 2; omega) (by show 2 ≤ _; omega))
  go_wp2_with fail
  refine HSe.out.mono ?_
  rintro e w7 ⟨R, rfl, hR⟩
  have hb67 : Below w6.heap.size w6 w7 := hR.choose_spec.2.2.2.1
  have c1 : w7.cell? ⟨R, 1, none⟩ = some (.int .i64 3) := by
    obtain ⟨cs, k1, k2, k3, _⟩ := hR
    have := k3 1 ⟨p, s, 3, [Bb], K6⟩ (by show 1 < 2; omega) rfl
    simp [World.cell?, k1, this]
  have h7 := H6.out.1.below hb67
  have hT7 := HT.out.1.new (H6.out.2.trans (hb67.mono H6.out.2.size))
  have hE3 : endB 0 [Ab] = 3 := by show 0 + (Ab.h.cnt + 0) = 3; have := HA.out.2.2.1; omega
  have HBa : Hid (Calls Tryz.prog 5 #[.pointer (some ⟨g, 0, none⟩), .int .i64 2] w7 fun e w' => e = .returned (.tuple #[.string ta, .int .i64 0]) ∧ Below w7.heap.size w7 w') := by
    have := lbatch_ok w7 B w.heap.size d g 1 4194304 cnt6 _ F6 _ 0 2 ⟨x.p, x.s, 0, [Ab], K5⟩ h7 rfl (by show 2 < 4611686018427387904; omega) (partN12 _ _ rfl rfl) (by show 0 ≤ 2; omega) (by show 2 < endB 0 [Ab]; omega) hT7
    refine this.mono ?_
    rintro e w' ⟨i, b, hi, _, _, rfl, hb⟩
    have : b = Ab := by
      cases i with
      | zero => simpa using hi.symm
      | succ i => simp at hi
    subst this
    rw [hta]
    exact ⟨rfl, hb⟩
  have H7 := hide (And.intro h7 (H6.out.2.trans (hb67.mono H6.out.2.size)))
  clear hR hb67 h7 hT7 hE3 H6 HSe
  go_wp2_with fail
  refine HBa.out.mono ?_
  rintro e w8 ⟨rfl, hb8⟩
  have c8 : w8.cell? ⟨R, 1, none⟩ = some (.int .i64 3) := cellB hb8 c1
  have HE8 : Hid (Calls Tryz.prog 11 #[.pointer (some ⟨g, 0, none⟩)] w8 fun e w' => e = .returned (.int .i64 4) ∧ w' = w8.drew) := by
    have hE : endB 3 [Bb] = 4 := by show 3 + (Bb.h.cnt + 0) = 4; have := HBb.out.2.2.1; omega
    have := lend_ok w8 B d g 1 F6 [⟨x.p, x.s, 0, [Ab], K5⟩] ⟨p, s, 3, [Bb], K6⟩ (H7.out.1.below hb8).lq
    have e' : endB (Prt.base ⟨p, s, 3, [Bb], K6⟩) (Prt.l ⟨p, s, 3, [Bb], K6⟩) = 4 := hE
    rw [e'] at this
    exact this
  have H8 := hide (H7.out.2.trans (hb8.mono H7.out.2.size))
  clear hb8 c1 H7 HBa
  go_wp2_with fail
  refine HE8.out.mono ?_
  rintro e w9 ⟨rfl, hw9⟩
  have c9 : w9.cell? ⟨R, 1, none⟩ = some (.int .i64 3) := by rw [hw9]; exact c8
  have H9 : Hid (Below w.heap.size w w9) := by rw [hw9]; exact H8.out.trans ((belD w8).mono H8.out.size)
  clear hw9 c8 H8 HE8
  go_wp2
  go_ret
  exact ⟨rfl, H9.out⟩
end Go.Proofs.YtogmfdgpnkbpaaaGreatDoor
