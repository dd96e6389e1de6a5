/- Layer 12: which part an offset is in (partAt). -/
/- Layer 12: Batch and Segments of a log. -/
/- Layer 12: Segments of a log. -/
/- Layer 12: the law's begun and awake. -/
/- Layer 12: begun, within a zone; zones are tight. -/
/- Layer 12: a log whose limit is one byte: each batch is a segment of its own. -/
/- Layer 12: two logs, and a row of the law's own, side by side. -/
import Derived.Test.YtcjlcieheepegaaGreatDoorV31
import Derived.Shelf.SlSorted.Search
import Derived.Deep.OwnRows
import Derived.Test.YtcjlcieheepegaaGreatDoorV32
import Derived.Test.YtcjlcieheepegaaGreatDoorV28
namespace Go.Proofs
open Go.Shelf
def Tryz.laysO16_ren : Go.Shelf.Ren := ⟨fun | 16 => 40 | n => n, fun | 3 => 3 | 4 => 4 | 35 => 88 | 38 => 117 | n => n, fun | n => n⟩
theorem Tryz.laysO16 : Go.Proofs.SlLaysO.n16 Tryz.prog Tryz.laysO16_ren := {
  mixed := by kernel_rfl
  f16 := Tryz.func40.trans (congrArg some (by kernel_rfl))
  t3 := Tryz.underlying3
  a3 := Tryz.isAgg3
  z3 := Tryz.sizeOf3
  v3 := Tryz.zeroValue3
  t4 := Tryz.underlying4
  a4 := Tryz.isAgg4
  z4 := Tryz.sizeOf4
  v4 := Tryz.zeroValue4
  t35 := Tryz.underlying88
  a35 := Tryz.isAgg88
  z35 := Tryz.sizeOf88
  v35 := Tryz.zeroValue88
  t38 := Tryz.underlying117
  a38 := Tryz.isAgg117
  z38 := Tryz.sizeOf117
  v38 := Tryz.zeroValue117 }
end Go.Proofs
namespace Go.Proofs.YtcjlcieheepegaaGreatDoor
open Go.RowKit
set_option linter.unusedVariables false
set_option maxRecDepth 20000
set_option maxRecDepth 20000

/-- Does the part of a number begin above an offset? -/
def pAbove (P : List Prt) (o : Int) (i : Nat) : Bool := match P[i]? with
  | some x => decide (o < (x.base : Int))
  | none => true
/-- How many parts begin at an offset or ahead of it. -/
def partN (P : List Prt) (o : Int) : Nat := (List.range P.length).countP fun i => !pAbove P o i
set_option maxHeartbeats 2000000 in
theorem above_ok (w : World) (B d g lim bl bo i : Nat) (o : Int) (F : List UInt8 → Option (List Nat × Nat)) (P : List Prt) (x : Prt) (h : LQ w B d g lim F P) (hx : P[i]? = some x) (c1 : w.cell? ⟨bl, 0, none⟩ = some (.pointer (some ⟨g, 0, none⟩))) (c2 : w.cell? ⟨bo, 0, none⟩ = some (.int .i64 o)) :
    Calls Tryz.prog 41 (#[.int .i64 (i : Nat)] ++ #[.pointer (some ⟨bl, 0, none⟩), .pointer (some ⟨bo, 0, none⟩)]) w fun e w' => e = .returned (.bool (decide (o < (x.base : Int)))) ∧ ∃ q, w' = w.drewN q := by
  have hil : i < P.length := by
    rcases Nat.lt_or_ge i P.length with h' | h'
    · exact h'
    · rw [List.getElem?_eq_none h'] at hx; cases hx
  obtain ⟨r, cap, c3, hr, _, _, hl⟩ := h.row (by omega)
  have ci := hr i x hx
  have hxo := h.po x (List.mem_of_getElem? hx)
  have p0 := hxo.cells.1
  have HB : Hid (∀ W, Below w.heap.size w W → Calls Tryz.prog 20 #[.pointer (some ⟨x.s, 0, none⟩)] W fun e w' => e = .returned (.int .i64 (x.base : Nat)) ∧ w' = W) := fun W hW => sBase_ok W B x.s d x.base (nmB x.base) _ _ (hxo.sn.sg.below hW)
  obtain ⟨n, hn⟩ : ∃ n, P.length = n := ⟨_, rfl⟩
  obtain ⟨xb, hxb⟩ : ∃ n, x.base = n := ⟨_, rfl⟩
  obtain ⟨xs, hxs⟩ : ∃ n, x.s = n := ⟨_, rfl⟩
  obtain ⟨xp, hxp⟩ : ∃ n, x.p = n := ⟨_, rfl⟩
  rw [hn] at c3 hl hil
  rw [hxb, hxs] at HB
  rw [hxp, hxs] at p0
  rw [hxp] at ci
  rw [hxb]
  have hin : (i : Int) < (n : Int) := by omega
  have K : ∀ W, Below w.heap.size w W → W.cell? ⟨bl, 0, none⟩ = some (.pointer (some ⟨g, 0, none⟩)) ∧ W.cell? ⟨bo, 0, none⟩ = some (.int .i64 o) ∧ W.cell? ⟨g, 3, none⟩ = some (.slice (some ⟨r, 0, none⟩) n cap) ∧ W.cell? ⟨r, i, none⟩ = some (.pointer (some ⟨xp, 0, none⟩)) ∧ W.cell? ⟨xp, 0, none⟩ = some (.pointer (some ⟨xs, 0, none⟩)) := fun W hW => ⟨cellB hW c1, cellB hW c2, cellB hW c3, cellB hW ci, cellB hW p0⟩
  clear h hx hr hxo hn hxb hxs hxp K
  go_enter Tryz.func41, Tryz.ntmps41
  go_wp2_with fail
  go_region_held_law (fun w' => w'.cell? ⟨bl, 0, none⟩ = some (.pointer (some ⟨g, 0, none⟩)) ∧ w'.cell? ⟨bo, 0, none⟩ = some (.int .i64 o) ∧ w'.cell? ⟨g, 3, none⟩ = some (.slice (some ⟨r, 0, none⟩) n cap) ∧ w'.cell? ⟨r, i, none⟩ = some (.pointer (some ⟨xp, 0, none⟩)) ∧ w'.cell? ⟨xp, 0, none⟩ = some (.pointer (some ⟨xs, 0, none⟩)))
    (first | exact ⟨c1, c2, c3, ci, p0⟩ | go_keep)
    (first
      | (go_at_call 20; refine (HB.out _ (by exact belN _ _ rfl rfl rfl rfl)).mono ?_; rintro e w4 ⟨rfl, hw4⟩; subst hw4))
  all_goals
    go_wp2
    go_ret
    exact ⟨rfl, 1, rfl⟩
theorem pAbove_mono {w : World} {B d g lim : Nat} {F : List UInt8 → Option (List Nat × Nat)} {P : List Prt} (h : LQ w B d g lim F P) (o : Int) (a b : Nat) (hab : a ≤ b) (hb : b < P.length) (ha : pAbove P o a = true) : pAbove P o b = true := by
  unfold pAbove at ha ⊢
  rw [List.getElem?_eq_getElem (by omega : a < P.length)] at ha
  rw [List.getElem?_eq_getElem hb]
  simp only [decide_eq_true_eq] at ha ⊢
  rcases Nat.lt_or_eq_of_le hab with h' | h'
  · have := (List.pairwise_iff_getElem.1 h.ap a b (by omega) hb h').2
    omega
  · subst h'; exact ha
set_option maxHeartbeats 2000000 in
theorem partAt_ok (w : World) (B d g lim : Nat) (o : Int) (F : List UInt8 → Option (List Nat × Nat)) (P : List Prt) (h : LQ w B d g lim F P) (hP0 : 0 < P.length) (hPn : P.length < 4611686018427387904) :
    Calls Tryz.prog 24 #[.pointer (some ⟨g, 0, none⟩), .int .i64 o] w fun e w' => e = .returned (.int .i64 ((partN P o : Nat) - 1)) ∧ Below w.heap.size w w' := by
  obtain ⟨W0, hW0⟩ : ∃ W0, (w.alloc (.cells #[.pointer (some ⟨g, 0, none⟩)] 24)).alloc (.cells #[.int .i64 o] 3) = W0 := ⟨_, rfl⟩
  have hs1 : (w.alloc (.cells #[.pointer (some ⟨g, 0, none⟩)] 24)).heap.size = w.heap.size + 1 := by simp
  have hb0 : Below w.heap.size w W0 := by rw [← hW0]; exact (below_a w _).alloc (by rw [hs1]; omega) _
  have hL0 := h.below hb0
  have b1 : W0.heap[w.heap.size]? = some (.cells #[.pointer (some ⟨g, 0, none⟩)] 24 (0, 0)) := by
    rw [← hW0, (below_a (w.alloc (.cells #[.pointer (some ⟨g, 0, none⟩)] 24)) _).block w.heap.size (by rw [hs1]; omega)]
    exact heap_alloc_new _ _
  have b2 : W0.heap[w.heap.size + 1]? = some (.cells #[.int .i64 o] 3 (0, 0)) := by
    rw [← hW0, ← hs1]; exact heap_alloc_new _ _
  have c1 : W0.cell? ⟨w.heap.size, 0, none⟩ = some (.pointer (some ⟨g, 0, none⟩)) := by simp [World.cell?, b1]
  have c2 : W0.cell? ⟨w.heap.size + 1, 0, none⟩ = some (.int .i64 o) := by simp [World.cell?, b2]
  have eg : ∀ args w, (callFunc 41 args).run Tryz.prog w = .ok (.enter 41 args) w := enters_of Tryz.func41 (by kernel_rfl) rfl
  have hS := Any.sort_Search Tryz.laysO16 41 #[.pointer (some ⟨w.heap.size, 0, none⟩), .pointer (some ⟨w.heap.size + 1, 0, none⟩)] P.length (pAbove P o) W0 eg hPn
    (fun m os i hi => by
      obtain ⟨x, hx⟩ : ∃ x, P[i]? = some x := ⟨_, List.getElem?_eq_getElem hi⟩
      have hbg := belowG W0 m os
      refine (above_ok (Go.Sort.grow (W0.drewN m) os) B d g lim w.heap.size (w.heap.size + 1) i o F P x (hL0.below hbg) hx (cellB hbg c1) (cellB hbg c2)).mono ?_
      rintro e w' ⟨rfl, q, rfl⟩
      refine ⟨?_, q, #[], by rw [Go.Sort.grow_empty]⟩
      unfold pAbove
      rw [hx]) (pAbove_mono h o)
  have HS : Hid (Calls Tryz.prog 40 #[.int .i64 (P.length : Nat), .func (.func 41) #[] #[.pointer (some ⟨w.heap.size, 0, none⟩), .pointer (some ⟨w.heap.size + 1, 0, none⟩)]] W0 fun e w' => e = .returned (.int .i64 (partN P o : Nat)) ∧ Below w.heap.size w w') := by
    refine hS.mono ?_
    rintro e w' ⟨rfl, q, os, rfl⟩
    exact ⟨rfl, hb0.trans ((belowG W0 q os).mono hb0.size)⟩
  obtain ⟨r, cap, c3, _, _, _, _⟩ := hL0.row hP0
  have hle : partN P o ≤ P.length := by
    have := List.countP_le_length (p := fun i => !pAbove P o i) (l := List.range P.length)
    rw [List.length_range] at this
    exact this
  obtain ⟨n, hn⟩ : ∃ n, P.length = n := ⟨_, rfl⟩
  obtain ⟨z, hz⟩ : ∃ z, partN P o = z := ⟨_, rfl⟩
  rw [hn] at HS c3 hle hPn
  rw [hz] at HS hle ⊢
  have hw1 : wrap64 ((z : Int) - 1) = (z : Int) - 1 := by unfold wrap64; omega
  obtain ⟨U, hU⟩ : ∃ U, w.heap.size = U := ⟨_, rfl⟩
  rw [hU] at HS c1 c2 ⊢
  clear h hb0 hL0 b1 b2 hS eg hn hz hle hPn hP0 hs1 c2
  go_enter Tryz.func24, Tryz.ntmps24
  go_upto_region 1 with fail
  try rw [hU]
  try rw [hW0]
  clear hW0 hU
  go_wp2_with fail
  refine HS.out.mono ?_
  rintro e w1 ⟨rfl, hb1⟩
  have H1 := hide hb1
  clear hb1 HS
  go_wp2
  go_ret
  exact ⟨congrArg (fun q => Ending.returned (.int .i64 q)) hw1, H1.out⟩
end Go.Proofs.YtcjlcieheepegaaGreatDoor
namespace Go.Proofs.YtcjlcieheepegaaGreatDoor
open Go.RowKit
set_option linter.unusedVariables false
set_option maxRecDepth 20000
set_option maxRecDepth 20000

set_option maxHeartbeats 2000000 in
theorem lbatch_ok (w : World) (B Bd d g lim room cnt us : Nat) (F : List UInt8 → Option (List Nat × Nat)) (P : List Prt) (i o : Nat) (x : Prt) (h : LG w B Bd d g lim room cnt us F P) (hx : P[i]? = some x) (hPn : P.length < 4611686018427387904) (hz : partN P (o : Nat) = i + 1) (h1 : x.base ≤ o) (h2 : o < endB x.base x.l) (hT : TabF w) :
    Calls Tryz.prog 12 #[.pointer (some ⟨g, 0, none⟩), .int .i64 (o : Nat)] w (BatchEnd w x.base x.l o) := by
  have hil : i < P.length := by
    rcases Nat.lt_or_ge i P.length with h' | h'
    · exact h'
    · rw [List.getElem?_eq_none h'] at hx; cases hx
  have HG := hide (lgiven_yes g w h.lq.cells.1)
  have HPt : Hid (Calls Tryz.prog 24 #[.pointer (some ⟨g, 0, none⟩), .int .i64 (o : Nat)] w fun e w' => e = .returned (.int .i64 (i : Nat)) ∧ Below w.heap.size w w') := by
    have := partAt_ok w B d g lim (o : Nat) F P h.lq (by omega) hPn
    rw [hz] at this
    refine this.mono ?_
    rintro e w' ⟨rfl, hb⟩
    exact ⟨congrArg (fun q => Ending.returned (.int .i64 q)) (by omega), hb⟩
  have HF : Hid (∀ W, Below w.heap.size w W → Calls Tryz.prog 25 #[.pointer (some ⟨x.s, 0, none⟩), .int .i64 (o : Nat)] W (BatchEnd W x.base x.l o)) := fun W hW => by
    have hL := h.below hW
    have hs := (hL.lq.po x (List.mem_of_getElem? hx)).sn
    refine batch_found W B Bd x.s d x.base room cnt us (nmB x.base) F x.l x.K hs.sg hL.vd hs.may ?_ hs.ch hs.ok hs.mks (hT.new hW) o h1 h2
    rcases hs.file with ⟨e, _⟩ | hf
    · rw [e] at h2
      exact absurd h2 (by show ¬ o < x.base; omega)
    · exact hf
  have HC : Hid (∀ W, Below w.heap.size w W → ∃ r cap, W.cell? ⟨g, 3, none⟩ = some (.slice (some ⟨r, 0, none⟩) P.length cap) ∧ W.cell? ⟨r, i, none⟩ = some (.pointer (some ⟨x.p, 0, none⟩)) ∧ W.cell? ⟨x.p, 0, none⟩ = some (.pointer (some ⟨x.s, 0, none⟩))) := fun W hW => by
    have hL := h.below hW
    obtain ⟨r, cap, c3, hr, _⟩ := hL.lq.row (by omega)
    exact ⟨r, cap, c3, hr i x hx, (hL.lq.po x (List.mem_of_getElem? hx)).cells.1⟩
  obtain ⟨xs, hxs⟩ : ∃ n, x.s = n := ⟨_, rfl⟩
  obtain ⟨xp, hxp⟩ : ∃ n, x.p = n := ⟨_, rfl⟩
  obtain ⟨n, hn⟩ : ∃ n, P.length = n := ⟨_, rfl⟩
  rw [hxs] at HF HC
  rw [hxp, hn] at HC
  rw [hn] at hil
  have hin : (i : Int) < (n : Int) := by omega
  have hi0 : ¬ (i : Int) < 0 := by omega
  clear h hx hPn hz h1 h2 hT hxs hxp hn
  unfold BatchEnd at HF ⊢
  go_enter Tryz.func12, Tryz.ntmps12
  go_wp2_with fail
  refine HG.out.mono ?_
  rintro e W ⟨rfl, hW⟩
  obtain rfl := hW.symm
  clear HG hW
  go_wp2_with fail
  refine HPt.out.mono ?_
  rintro e w1 ⟨rfl, hb1⟩
  have H1 := hide hb1
  have HF1 := hide (HF.out w1 hb1)
  obtain ⟨r, cap, c3, ci, p0⟩ := HC.out w1 hb1
  clear hb1 HPt HF HC
  go_wp2_with fail
  refine HF1.out.mono ?_
  rintro e w2 ⟨j, b, hj, hj1, hj2, rfl, hb2⟩
  have H2 := hide (And.intro hj (And.intro hj1 (And.intro hj2 (H1.out.trans (hb2.mono H1.out.size)))))
  clear hj hj1 hj2 hb2 H1 HF1 c3 ci p0
  go_wp2
  go_ret2
  exact ⟨j, b, H2.out.1, H2.out.2.1, H2.out.2.2.1, rfl, H2.out.2.2.2⟩
end Go.Proofs.YtcjlcieheepegaaGreatDoor
namespace Go.Proofs.YtcjlcieheepegaaGreatDoor
open Go.RowKit
set_option linter.unusedVariables false
set_option maxRecDepth 20000
set_option maxRecDepth 20000

theorem inInfo : (Tryz.prog.info? 3).map (fun i => (i.zero, i.size, i.bytes)) = some (some (.int .i64 0), 1, 8) := by kernel_rfl
/-- A row of the call's own holds the bases of the first k parts. -/
def BaR (w W : World) (R n k : Nat) (P : List Prt) : Prop := ∃ cs, W.heap[R]? = some (.cells cs 3 (0, 0)) ∧ cs.size = n ∧ (∀ j x, j < k → P[j]? = some x → cs[j]? = some (.int .i64 (x.base : Nat))) ∧ Below w.heap.size w W ∧ w.heap.size ≤ R
theorem BaR.step {w W : World} {R n k : Nat} {P : List Prt} (h : BaR w W R n k P) {x : Prt} (hx : P[k]? = some x) (hk : k < n) : BaR w (W.setCell ⟨R, k, none⟩ (.int .i64 (x.base : Nat))) R n (k + 1) P := by
  obtain ⟨cs, h1, h2, h3, h4, h5⟩ := h
  refine ⟨cs.setIfInBounds k (.int .i64 (x.base : Nat)), block_set h1, by simp [h2], fun j y hj hy => ?_, h4.trans (below_set W _ h5), h5⟩
  rcases Nat.lt_or_eq_of_le (Nat.le_of_lt_succ hj) with h' | h'
  · rw [Array.getElem?_setIfInBounds_ne (by omega)]
    exact h3 j y h' hy
  · subst h'
    rw [hx] at hy
    cases hy
    simp [h2, hk]
theorem BaR.low {w W W' : World} {R n k : Nat} {P : List Prt} (h : BaR w W R n k P) (hb : Below W.heap.size W W') : BaR w W' R n k P := by
  obtain ⟨cs, h1, h2, h3, h4, h5⟩ := h
  exact ⟨cs, (hb.block R (lt_of_block h1)).trans h1, h2, h3, h4.trans (hb.mono h4.size), h5⟩
theorem BaR.cell {w W : World} {R n k : Nat} {P : List Prt} (h : BaR w W R n k P) {i : Nat} (hi : i < n) : (∃ v, W.cell? ⟨R, i, none⟩ = some v) ∧ W.frozen? ⟨R, i, none⟩ = false := by
  obtain ⟨cs, h1, h2, _⟩ := h
  refine ⟨⟨cs[i]'(by omega), ?_⟩, frozen0 h1 i⟩
  simp [World.cell?, h1, h2, hi]
set_option maxHeartbeats 4000000 in
theorem lsegs_ok (w : World) (B d g lim : Nat) (F : List UInt8 → Option (List Nat × Nat)) (P : List Prt) (h : LQ w B d g lim F P) (h0 : 0 < P.length) (hn1 : P.length ≤ 1000000) :
    Calls Tryz.prog 9 #[.pointer (some ⟨g, 0, none⟩)] w fun e w' => ∃ R, e = .returned (.slice (some ⟨R, 0, none⟩) P.length P.length) ∧ BaR w w' R P.length P.length P := by
  have HG := hide (lgiven_yes g w h.cells.1)
  obtain ⟨r, cap, c3, hr, _, hrl, _⟩ := h.row h0
  have HL := hide h
  have HR := hide hr
  have HB : Hid (∀ (W : World) (i : Nat) (x : Prt), P[i]? = some x → Below w.heap.size w W → Calls Tryz.prog 20 #[.pointer (some ⟨x.s, 0, none⟩)] W fun e w' => e = .returned (.int .i64 (x.base : Nat)) ∧ w' = W) := fun W i x hx hW => sBase_ok W B x.s d x.base (nmB x.base) _ _ ((h.po x (List.mem_of_getElem? hx)).sn.sg.below hW)
  obtain ⟨n, hn⟩ : ∃ n, P.length = n := ⟨_, rfl⟩
  rw [hn] at c3 h0 hn1 ⊢
  have HN := hide hn
  have hmk : ∀ W : World, (Instr.makeSlice 28 (.int .i64 (n : Nat)) (.int .i64 (n : Nat))).run Tryz.prog W = .ok (.slice (some ⟨W.heap.size, 0, none⟩) n n) (W.alloc (.cells (madeCells #[.int .i64 0] n) 3)) := fun W => run_make_row' (P := Tryz.prog) 28 3 (.int .i64 0) 8 Tryz.underlying28 inInfo rfl .i64 .i64 n (by omega) (by omega) W
  have hba := below_a w (.cells (madeCells #[.int .i64 0] n) 3)
  have HW1 : Hid (BaR w (w.alloc (.cells (madeCells #[.int .i64 0] n) 3)) w.heap.size n 0 P) := ⟨_, heap_alloc_new w _, size_madeCells _ _, fun j x hj => absurd hj (by omega), hba, Nat.le_refl _⟩
  have c31 : (w.alloc (.cells (madeCells #[.int .i64 0] n) 3)).cell? ⟨g, 3, none⟩ = some (.slice (some ⟨r, 0, none⟩) n cap) := cellB hba c3
  obtain ⟨U, hU⟩ : ∃ U, w.heap.size = U := ⟨_, rfl⟩
  obtain ⟨w1, hw1⟩ : ∃ w1, w.alloc (.cells (madeCells #[.int .i64 0] n) 3) = w1 := ⟨_, rfl⟩
  rw [hU, hw1] at HW1
  rw [hw1] at c31
  have HU := hide hU
  have HN1 := hide hn1
  clear h hr hn hba hn1 hrl
  go_enter Tryz.func9, Tryz.ntmps9
  go_wp2_with fail
  refine HG.out.mono ?_
  rintro e W ⟨rfl, hW⟩
  obtain rfl := hW.symm
  clear HG hW
  go_upto_region 4 with fail
  try rw [hU]
  try rw [hw1]
  clear hmk hw1 hU
  go_wp2
  go_loopw [20] (fun v wr => ∃ k : Nat, v = .int .i64 (k : Nat) ∧ k ≤ n ∧ Hid (BaR w wr U n k P)) (fun v _ => n - (intOf v).toNat)
  case atStart => exact ⟨0, rfl, Nat.zero_le _, HW1.out⟩
  case round =>
    obtain ⟨k, rfl, hk, HI⟩ := hrel
    by_cases hlt : k < n
    · have hki : (k : Int) < (n : Int) := by omega
      obtain ⟨x, hx⟩ : ∃ x, P[k]? = some x := ⟨_, List.getElem?_eq_getElem (by rw [HN.out]; exact hlt)⟩
      have hbw : Below w.heap.size w wr := HI.out.choose_spec.2.2.2.1
      have hrc : wr.cell? ⟨r, k, none⟩ = some (.pointer (some ⟨x.p, 0, none⟩)) := cellB hbw (HR.out k x hx)
      have hpc : wr.cell? ⟨x.p, 0, none⟩ = some (.pointer (some ⟨x.s, 0, none⟩)) := cellB hbw (HL.out.po x (List.mem_of_getElem? hx)).cells.1
      have HBx := hide (HB.out wr k x hx hbw)
      obtain ⟨⟨v0, hv0⟩, hf0⟩ := HI.out.cell hlt
      have HS := hide (HI.out.step hx hlt)
      obtain ⟨xs, hxs⟩ : ∃ q, x.s = q := ⟨_, rfl⟩
      obtain ⟨xp, hxp⟩ : ∃ q, x.p = q := ⟨_, rfl⟩
      obtain ⟨xb, hxb⟩ : ∃ q, x.base = q := ⟨_, rfl⟩
      rw [hxs] at hpc HBx
      rw [hxp] at hpc hrc
      rw [hxb] at HBx HS
      clear hxs hxp hxb hx hbw HI
      go_wp2_with fail
      refine HBx.out.mono ?_
      rintro e W ⟨rfl, hW⟩
      obtain rfl := hW.symm
      clear HBx hW
      go_wp2
      have hkw : wrap64 ((k : Int) + 1) = ((k + 1 : Nat) : Int) := by have := HN1.out; unfold wrap64; omega
      refine ⟨⟨k + 1, congrArg (Value.int .i64) hkw, hlt, HS.out⟩, ?_⟩
      show n - (intOf (.int .i64 (wrap64 ((k : Int) + 1)))).toNat < n - (intOf (.int .i64 (k : Int))).toNat
      rw [hkw]
      simp [intOf]
      omega
    · have hki : ¬ (k : Int) < (n : Int) := by omega
      obtain rfl : n = k := by omega
      clear hlt
      go_wp2
      go_ret
      exact ⟨U, rfl, HI.out⟩
end Go.Proofs.YtcjlcieheepegaaGreatDoor
namespace Go.Proofs.YtcjlcieheepegaaGreatDoor
open Go.RowKit
set_option linter.unusedVariables false
set_option maxRecDepth 20000
set_option maxRecDepth 20000

theorem lbegun_ok (w : World) (lim : Nat) (h1 : 1 ≤ lim) (h2 : lim ≤ 16777216) (hP : TabP w) :
    Calls Tryz.prog 4 #[.int .i64 (lim : Nat)] w fun e w' => ∃ d g x B, e = .returned (.tuple #[.pointer (some ⟨d, 0, none⟩), .pointer (some ⟨g, 0, none⟩), .bool true]) ∧ LG w' B w.heap.size d g lim 4194304 0 0 (fun _ => none) ([] ++ [x]) ∧ x.l = [] ∧ x.base = 0 ∧ w.heap.size ≤ B ∧ B ≤ w'.heap.size ∧ Below w.heap.size w w' := by
  have HN : Hid (Calls Tryz.prog 10 #[.int .i64 4194304] w fun e w' => e = .returned (.tuple #[.pointer (some ⟨w.heap.size + 1, 0, none⟩), .int .i64 0]) ∧ V8.VD w' w.heap.size (w.heap.size + 1) 4194304 (fun _ => none) 0 0 ∧ Below w.heap.size w w') := V8.new_ok w 4194304 (by decide)
  have HP := hide hP
  have HL := hide (And.intro h1 h2)
  obtain ⟨D, hD⟩ : ∃ D, w.heap.size + 1 = D := ⟨_, rfl⟩
  rw [hD] at HN
  clear hD hP h1 h2
  go_enter Tryz.func4, Tryz.ntmps4
  go_wp2_with fail
  refine HN.out.mono ?_
  rintro e w1 ⟨rfl, hd1, hb1⟩
  have H1 := hide (And.intro hd1 hb1)
  clear hd1 hb1 HN
  have HO := hide (lopen_ok w1 D w.heap.size 4194304 lim H1.out.1 HL.out.1 HL.out.2 (HP.out.low H1.out.2 HP.out.lt))
  go_wp2_with fail
  refine HO.out.mono ?_
  rintro e w2 ⟨g, x, rfl, hg, hx1, hx2, hb2⟩
  have H2 : Hid (LG w2 w1.heap.size w.heap.size D g lim 4194304 0 0 (fun _ => none) ([] ++ [x]) ∧ x.l = [] ∧ x.base = 0 ∧ w.heap.size ≤ w1.heap.size ∧ w1.heap.size ≤ w2.heap.size ∧ Below w.heap.size w w2) := ⟨hg, hx1, hx2, H1.out.2.size, hb2.size, H1.out.2.trans (hb2.mono H1.out.2.size)⟩
  clear hg hx1 hx2 hb2 HO
  go_wp2
  go_ret3
  exact ⟨D, g, x, w1.heap.size, rfl, H2.out⟩
theorem RP.sz_most (x : RP) (E : Nat) (hb : E ≤ 1099511627520) (hv : x.val.size ≤ 4096) : (x.b E).sz ≤ 33559 := by
  have := x.b_len E hb hv
  show 39 + (recsL E (x.L E)).length ≤ _
  omega
def r12a : RP := ⟨2, 0, 0, 0, ⟨#[]⟩⟩
def r12b : RP := ⟨0, 0, 0, 0, ⟨#[]⟩⟩
theorem a12 : (r12a.b 0).ok ∧ (r12a.b 0).h.base = 0 ∧ (r12a.b 0).h.cnt = 3 ∧ (r12a.b 0).sz ≤ 33559 ∧ 39 ≤ (r12a.b 0).sz :=
  ⟨r12a.ok 0 (by decide) (by decide), rfl, rfl, r12a.sz_most 0 (by decide) (by decide), (BT.sz_le (r12a.ok 0 (by decide) (by decide))).1⟩
theorem b12 : (r12b.b 3).ok ∧ (r12b.b 3).h.base = 3 ∧ (r12b.b 3).h.cnt = 1 ∧ (r12b.b 3).sz ≤ 33559 ∧ 39 ≤ (r12b.b 3).sz :=
  ⟨r12b.ok 3 (by decide) (by decide), rfl, rfl, r12b.sz_most 3 (by decide) (by decide), (BT.sz_le (r12b.ok 3 (by decide) (by decide))).1⟩
theorem partN12 (x y : Prt) (hx : x.base = 0) (hy : y.base = 3) : partN [x, y] ((2 : Nat) : Int) = 1 := by
  unfold partN pAbove
  simp [List.range_succ, hx, hy]
set_option maxHeartbeats 4000000 in
theorem awake12 (w : World) (hT : TabF w) (hP : TabP w) :
    Calls Tryz.prog 5 #[] w fun e w' => e = .returned (.bool true) ∧ Below w.heap.size w w' := by
  have HB := hide (lbegun_ok w 1 (by decide) (by decide) hP)
  have HT := hide (And.intro hT hP)
  clear hT hP
  obtain ⟨Ab, hAb⟩ : ∃ b, r12a.b 0 = b := ⟨_, rfl⟩
  obtain ⟨Bb, hBb⟩ : ∃ b, r12b.b 3 = b := ⟨_, rfl⟩
  have HA : Hid (Ab.ok ∧ Ab.h.base = 0 ∧ Ab.h.cnt = 3 ∧ Ab.sz ≤ 33559 ∧ 39 ≤ Ab.sz) := by have := a12; rw [hAb] at this; exact this
  have HBb : Hid (Bb.ok ∧ Bb.h.base = 3 ∧ Bb.h.cnt = 1 ∧ Bb.sz ≤ 33559 ∧ 39 ≤ Bb.sz) := by have := b12; rw [hBb] at this; exact this
  have HMa : Hid (∀ W, Calls Tryz.prog 6 #[.agg #[.int .i64 2, .int .i64 0, .int .i64 0, .int .i64 0, .string ⟨#[]⟩], .int .i64 0] W fun e w' => e = .returned (.tuple #[.string Ab.s, .bool true]) ∧ Below W.heap.size W w') := fun W => by rw [← hAb]; exact made_ok r12a 0 W (by decide) (by decide)
  have HMb : Hid (∀ W, Calls Tryz.prog 6 #[.agg #[.int .i64 0, .int .i64 0, .int .i64 0, .int .i64 0, .string ⟨#[]⟩], .int .i64 3] W fun e w' => e = .returned (.tuple #[.string Bb.s, .bool true]) ∧ Below W.heap.size W w') := fun W => by rw [← hBb]; exact made_ok r12b 3 W (by decide) (by decide)
  clear hAb hBb
  go_enter Tryz.func5, Tryz.ntmps5
  go_wp2_with fail
  refine HB.out.mono ?_
  rintro e w1 ⟨d, g, x, B, rfl, hg, hx1, hx2, hB1, hB2, hb1⟩
  have H1 := hide (And.intro hg (And.intro hx1 (And.intro hx2 (And.intro hB1 (And.intro hB2 hb1)))))
  clear hg hx1 hx2 hB1 hB2 hb1 HB
  go_wp2_with fail
  refine (HMa.out _).mono ?_
  rintro e w2 ⟨rfl, hb2⟩
  have H2 := hide hb2
  clear hb2 HMa
  go_wp2_with fail
  refine (HMb.out _).mono ?_
  rintro e w3 ⟨rfl, hb3⟩
  have hb13 := H2.out.trans (hb3.mono H2.out.size)
  have H3 : Hid (LG w3 B w.heap.size d g 1 4194304 0 0 (fun _ => none) ([] ++ [x]) ∧ x.l = [] ∧ x.base = 0 ∧ w.heap.size ≤ B ∧ B ≤ w3.heap.size ∧ Below w.heap.size w w3) := ⟨H1.out.1.below hb13, H1.out.2.1, H1.out.2.2.1, H1.out.2.2.2.1, Nat.le_trans H1.out.2.2.2.2.1 hb13.size, H1.out.2.2.2.2.2.trans (hb13.mono H1.out.2.2.2.2.2.size)⟩
  clear hb13 hb3 HMb H1 H2
  obtain ⟨ta, hta⟩ : ∃ q, Ab.s = q := ⟨_, rfl⟩
  obtain ⟨tb, htb⟩ : ∃ q, Bb.s = q := ⟨_, rfl⟩
  have HO : Hid (Calls Tryz.prog 8 #[.pointer (some ⟨g, 0, none⟩), .string tb] w3 fun e w' => e = .returned (.int .i64 110) ∧ Below w3.heap.size w3 w') := by
    rw [← htb]
    exact lappend_order w3 B w.heap.size d g 1 4194304 0 0 _ [] x Bb H3.out.1 HBb.out.1 (by rw [HBb.out.2.1, H3.out.2.1, H3.out.2.2.1]; decide) (HT.out.1.new H3.out.2.2.2.2.2) (by rw [H3.out.2.1]; decide)
  have HAp : Hid (∀ W, Below w3.heap.size w3 W → Calls Tryz.prog 8 #[.pointer (some ⟨g, 0, none⟩), .string ta] W fun e w' => e = .returned (.int .i64 0) ∧ (∃ F' K' cnt', LG w' B w.heap.size d g 1 4194304 cnt' Ab.sz F' ([] ++ [⟨x.p, x.s, 0, [Ab], K'⟩]) ∧ cnt' ≤ 1) ∧ Below w.heap.size w w' ∧ B ≤ w'.heap.size) := fun W hW => by
    rw [← hta]
    have hbW := H3.out.2.2.2.2.2.trans (hW.mono H3.out.2.2.2.2.2.size)
    have hx := H3.out.2.2.1
    have hl := H3.out.2.1
    refine (lappend_ok W B w.heap.size w.heap.size d g 1 4194304 0 0 _ [] x Ab (H3.out.1.below hW) HA.out.1 (by rw [HA.out.2.1, hl, hx]; rfl) (HT.out.1.new hbW) H3.out.2.2.2.1 (Nat.le_refl _) (Nat.le_trans H3.out.2.2.2.2.1 hW.size) (by rw [hl]; decide) (by rw [hl]; decide) (by rw [hl]; decide) (by have := HA.out.2.2.2.1; omega) (by decide)).mono ?_
    rintro e w' ⟨rfl, ⟨F', K', cnt', h1, h2⟩, h3⟩
    rw [hl, hx, Nat.zero_add] at h1
    exact ⟨rfl, ⟨F', K', cnt', h1, h2⟩, hbW.trans h3, Nat.le_trans (Nat.le_trans H3.out.2.2.2.2.1 hW.size) h3.size⟩
  have HG3 := hide H3.out.2.2.2.2
  have HB3 := hide H3.out.2.2.2.1
  clear H3
  go_wp2_with fail
  refine HO.out.mono ?_
  rintro e w4 ⟨rfl, hb4⟩
  have HA4 := hide (HAp.out w4 hb4)
  clear HO HAp hb4
  go_wp2_with fail
  refine HA4.out.mono ?_
  rintro e w5 ⟨rfl, ⟨F5, K5, cnt5, h5, hc5⟩, hb5, hB5⟩
  have H5 := hide (And.intro h5 (And.intro hc5 (And.intro hb5 hB5)))
  clear h5 hc5 hb5 hB5 HA4
  have HR : Hid (Calls Tryz.prog 8 #[.pointer (some ⟨g, 0, none⟩), .string tb] w5 fun e w' => e = .returned (.int .i64 0) ∧ (∃ F' p s K' cnt', LG w' B w.heap.size d g 1 4194304 cnt' (Ab.sz + Bb.sz) F' [⟨x.p, x.s, 0, [Ab], K5⟩, ⟨p, s, 3, [Bb], K'⟩]) ∧ Below w.heap.size w w') := by
    rw [← htb]
    have hE : endB 0 [Ab] = 3 := by show 0 + (Ab.h.cnt + 0) = 3; have := HA.out.2.2.1; omega
    have hz := HA.out.2.2.2
    have hz2 := HBb.out.2.2.2
    have := lappend_roll w5 B w.heap.size w.heap.size d g 1 4194304 cnt5 Ab.sz F5 [] ⟨x.p, x.s, 0, [Ab], K5⟩ Bb H5.out.1 HBb.out.1 (by rw [HBb.out.2.1]; exact hE.symm) (HT.out.1.new H5.out.2.2.1) HB3.out (Nat.le_refl _) H5.out.2.2.2 (by show ¬ szs [Ab] < 1; rw [szs_one]; omega) (HT.out.2.low H5.out.2.2.1 HT.out.2.lt) HT.out.2.lt (by show 0 < endB 0 [Ab]; omega) (by show endB 0 [Ab] ≤ _; omega) (by show 1 ≤ _; omega) (by omega) (by have := H5.out.2.1; omega)
    refine this.mono ?_
    rintro e w' ⟨rfl, ⟨F', p, s, K', cnt', h1, _⟩, h2⟩
    refine ⟨rfl, ⟨F', p, s, K', cnt', ?_⟩, H5.out.2.2.1.trans h2⟩
    have h1' : LG w' B w.heap.size d g 1 4194304 cnt' (Ab.sz + Bb.sz) F' ([⟨x.p, x.s, 0, [Ab], K5⟩] ++ [⟨p, s, endB 0 [Ab], [Bb], K'⟩]) := h1
    rw [hE] at h1'
    exact h1'
  go_wp2_with fail
  refine HR.out.mono ?_
  rintro e w6 ⟨rfl, ⟨F6, p, s, K6, cnt6, h6⟩, hb6⟩
  have H6 := hide (And.intro h6 hb6)
  clear h6 hb6 HR H5
  have HSe := hide (lsegs_ok w6 B d g 1 F6 _ H6.out.1.lq (by show 0 < 2; omega) (by show 2 ≤ _; omega))
  go_wp2_with fail
  refine HSe.out.mono ?_
  rintro e w7 ⟨R, rfl, hR⟩
  have hb67 : Below w6.heap.size w6 w7 := hR.choose_spec.2.2.2.1
  have c1 : w7.cell? ⟨R, 1, none⟩ = some (.int .i64 3) := by
    obtain ⟨cs, k1, k2, k3, _⟩ := hR
    have := k3 1 ⟨p, s, 3, [Bb], K6⟩ (by show 1 < 2; omega) rfl
    simp [World.cell?, k1, this]
  have h7 := H6.out.1.below hb67
  have hT7 := HT.out.1.new (H6.out.2.trans (hb67.mono H6.out.2.size))
  have hE3 : endB 0 [Ab] = 3 := by show 0 + (Ab.h.cnt + 0) = 3; have := HA.out.2.2.1; omega
  have HBa : Hid (Calls Tryz.prog 12 #[.pointer (some ⟨g, 0, none⟩), .int .i64 2] w7 fun e w' => e = .returned (.tuple #[.string ta, .int .i64 0]) ∧ Below w7.heap.size w7 w') := by
    have := lbatch_ok w7 B w.heap.size d g 1 4194304 cnt6 _ F6 _ 0 2 ⟨x.p, x.s, 0, [Ab], K5⟩ h7 rfl (by show 2 < 4611686018427387904; omega) (partN12 _ _ rfl rfl) (by show 0 ≤ 2; omega) (by show 2 < endB 0 [Ab]; omega) hT7
    refine this.mono ?_
    rintro e w' ⟨i, b, hi, _, _, rfl, hb⟩
    have : b = Ab := by
      cases i with
      | zero => simpa using hi.symm
      | succ i => simp at hi
    subst this
    rw [hta]
    exact ⟨rfl, hb⟩
  have H7 := hide (And.intro h7 (H6.out.2.trans (hb67.mono H6.out.2.size)))
  clear hR hb67 h7 hT7 hE3 H6 HSe
  go_wp2_with fail
  refine HBa.out.mono ?_
  rintro e w8 ⟨rfl, hb8⟩
  have c8 : w8.cell? ⟨R, 1, none⟩ = some (.int .i64 3) := cellB hb8 c1
  have HE8 : Hid (Calls Tryz.prog 7 #[.pointer (some ⟨g, 0, none⟩)] w8 fun e w' => e = .returned (.int .i64 4) ∧ w' = w8.drew) := by
    have hE : endB 3 [Bb] = 4 := by show 3 + (Bb.h.cnt + 0) = 4; have := HBb.out.2.2.1; omega
    have := lend_ok w8 B d g 1 F6 [⟨x.p, x.s, 0, [Ab], K5⟩] ⟨p, s, 3, [Bb], K6⟩ (H7.out.1.below hb8).lq
    have e' : endB (Prt.base ⟨p, s, 3, [Bb], K6⟩) (Prt.l ⟨p, s, 3, [Bb], K6⟩) = 4 := hE
    rw [e'] at this
    exact this
  have H8 := hide (H7.out.2.trans (hb8.mono H7.out.2.size))
  clear hb8 c1 H7 HBa
  go_wp2_with fail
  refine HE8.out.mono ?_
  rintro e w9 ⟨rfl, hw9⟩
  have c9 : w9.cell? ⟨R, 1, none⟩ = some (.int .i64 3) := by rw [hw9]; exact c8
  have H9 : Hid (Below w.heap.size w w9) := by rw [hw9]; exact H8.out.trans ((belD w8).mono H8.out.size)
  clear hw9 c8 H8 HE8
  go_wp2
  go_ret
  exact ⟨rfl, H9.out⟩
end Go.Proofs.YtcjlcieheepegaaGreatDoor
namespace Go.Proofs.YtcjlcieheepegaaGreatDoor
open Go.RowKit
open V8 (VX KO Zn)
set_option linter.unusedVariables false
set_option maxRecDepth 20000
set_option maxRecDepth 20000

theorem V8.VD.vx {w : World} {B d room cnt us : Nat} {F : List UInt8 → Option (List Nat × Nat)} (h : V8.VD w B d room F cnt us) : VX w B d room F cnt us (fun i => B ≤ i) := by
  obtain ⟨bm, M, h1, h2, h3, h4⟩ := h
  refine ⟨bm, M, h1, h2, h3, h4, fun i hi => ?_⟩
  rcases hi with rfl | rfl | ⟨m, hm, rfl | e⟩
  · exact h1.hd
  · exact h1.hbm
  · exact (h1.each m hm).hB
  · obtain ⟨cur, _, hB⟩ := (h1.each m hm).row e
    exact hB
theorem LZ.tight {w : World} {B Bd d g lim room cnt us : Nat} {F : List UInt8 → Option (List Nat × Nat)} {P : List Prt} {Z : Nat → Prop} (h : LZ w B Bd d g lim room cnt us F P Z) : LZ w B Bd d g lim room cnt us F P (fun i => Z i ∧ i < w.heap.size) := by
  obtain ⟨pv, h1, h2⟩ := h.lq.blk
  refine ⟨h.lq, ?_, ⟨⟨h.zp.zg, lt_of_block h1⟩, fun pv' e j hj => ⟨h.zp.row pv' e j hj, ?_⟩, fun x hx => ?_⟩, h.fil⟩
  · obtain ⟨bm, M, v1, v2, v3, v4, v5⟩ := h.vx
    exact ⟨bm, M, v1, v2, v3, v4, fun i hi => ⟨v5 i hi, V8.FPM.lt v1 hi⟩⟩
  · have : pv' = pv := by
      simp [World.cell?, h1] at e
      exact e.symm
    subst this
    obtain ⟨_, cs, e2⟩ := rowBlk h2 hj
    exact lt_of_block e2
  · obtain ⟨z1, z2, z3⟩ := h.zp.p x hx
    have hx' := h.lq.po x hx
    exact ⟨⟨z1, lt_of_block hx'.blk⟩, ⟨z2, hx'.sn.sg.lt⟩, fun j hj => ⟨z3 j hj, by obtain ⟨_, cs, e⟩ := hx'.sn.sg.rowT hj; exact lt_of_block e⟩⟩
/-- All of a log lies from a block on. -/
theorem LG.lz {w : World} {B Bd C d g lim room cnt us : Nat} {F : List UInt8 → Option (List Nat × Nat)} {P : List Prt} (h : LG w B Bd d g lim room cnt us F P) (hB : C ≤ B) (hBd : C ≤ Bd) (hp : ∀ x ∈ P, C ≤ x.p) : LZ w B Bd d g lim room cnt us F P (fun i => C ≤ i) := by
  obtain ⟨pv, h1, h2⟩ := h.lq.blk
  refine ⟨h.lq, h.vd.vx.wide (fun i hi => Nat.le_trans hBd hi), ⟨Nat.le_trans hB h.lq.hB, fun pv' e j hj => ?_, fun x hx => ⟨hp x hx, Nat.le_trans hB (h.lq.po x hx).sn.sg.hB, fun j hj => Nat.le_trans hB ((h.lq.po x hx).sn.sg.rowT hj).1⟩⟩, h.fil⟩
  have : pv' = pv := by
    simp [World.cell?, h1] at e
    exact e.symm
  subst this
  exact Nat.le_trans hB (rowBlk h2 hj).1
set_option maxHeartbeats 2000000 in
theorem lopen_z (w : World) (d Bd room lim : Nat) (hd : V8.VD w Bd d room (fun _ => none) 0 0) (hl1 : 1 ≤ lim) (hl2 : lim ≤ 16777216) (hP : TabP w) :
    Calls Tryz.prog 11 #[.pointer (some ⟨d, 0, none⟩), .int .i64 (lim : Nat)] w fun e w' => ∃ g x, e = .returned (.tuple #[.pointer (some ⟨g, 0, none⟩), .int .i64 0]) ∧ LG w' w.heap.size Bd d g lim room 0 0 (fun _ => none) [x] ∧ x.l = [] ∧ x.base = 0 ∧ w.heap.size ≤ x.p ∧ Below w.heap.size w w' := by
  have HO : Hid (Calls Tryz.prog 22 #[.pointer (some ⟨d, 0, none⟩), .int .i64 0] w fun e w' => ∃ s p, e = .returned (.tuple #[.pointer (some ⟨p, 0, none⟩), .int .i64 0]) ∧ w'.heap[p]? = some (.cells #[.pointer (some ⟨s, 0, none⟩), .string (nmB 0)] 55 (0, 0)) ∧ SG w' w.heap.size s d (nmB 0) 0 [] ⟨0, 0, 0⟩ ∧ w.heap.size ≤ p ∧ Below w.heap.size w w') := openPart_ok w d 0 Bd room 0 0 (fun _ => none) hd (by decide) rfl hP
  have HD := hide hd
  have h1 : ¬ (lim : Int) < 1 := by omega
  have h2 : ¬ (16777216 : Int) < (lim : Int) := by omega
  clear hd hl1 hl2 hP
  go_enter Tryz.func11, Tryz.ntmps11
  go_wp2_with fail
  refine HO.out.mono ?_
  rintro e w1 ⟨s, p, rfl, hp, hsg, hlo, hb1⟩
  have H1 := hide (And.intro hp (And.intro hsg (And.intro hlo hb1)))
  have HLo : Hid (w.heap.size ≤ p) := hlo
  clear hp hsg hlo hb1 HO
  obtain ⟨U, hU⟩ : ∃ U, w1.heap.size = U := ⟨_, rfl⟩
  go_upto_region 7 with fail
  obtain ⟨W2, hW2⟩ : ∃ W2, ((w1.alloc (.cells #[.pointer (some ⟨p, 0, none⟩)] 51)).alloc (.cells #[.pointer none, .pointer (some ⟨d, 0, none⟩), .int .i64 (lim : Nat), .slice (some ⟨U, 0, none⟩) 1 1] 58)) = W2 := ⟨_, rfl⟩
  rw [hW2]
  have hs1 : (w1.alloc (.cells #[.pointer (some ⟨p, 0, none⟩)] 51)).heap.size = U + 1 := by rw [← hU]; simp
  have hb12 : Below w1.heap.size w1 W2 := by
    rw [← hW2]
    exact (below_a w1 _).alloc (by rw [hs1]; omega) _
  have hg2 : W2.heap[U + 1]? = some (.cells #[.pointer none, .pointer (some ⟨d, 0, none⟩), .int .i64 (lim : Nat), .slice (some ⟨U, 0, none⟩) 1 1] 58 (0, 0)) := by
    rw [← hW2, ← hs1]; exact heap_alloc_new _ _
  have hr2 : W2.heap[U]? = some (.cells #[.pointer (some ⟨p, 0, none⟩)] 51 (0, 0)) := by
    rw [← hW2]
    have := (below_a (w1.alloc (.cells #[.pointer (some ⟨p, 0, none⟩)] 51)) (.cells #[.pointer none, .pointer (some ⟨d, 0, none⟩), .int .i64 (lim : Nat), .slice (some ⟨U, 0, none⟩) 1 1] 58)).block U (by rw [hs1]; omega)
    rw [this, ← hU]
    exact heap_alloc_new _ _
  have c0 : W2.cell? ⟨U + 1, 0, none⟩ = some (.pointer none) := by simp [World.cell?, hg2]
  have f0 : W2.frozen? ⟨U + 1, 0, none⟩ = false := frozen0 hg2 0
  have H3 : Hid ((W2.setCell ⟨U + 1, 0, none⟩ (.pointer (some ⟨U + 1, 0, none⟩))).heap[U + 1]? = some (.cells #[.pointer (some ⟨U + 1, 0, none⟩), .pointer (some ⟨d, 0, none⟩), .int .i64 (lim : Nat), .slice (some ⟨U, 0, none⟩) 1 1] 58 (0, 0)) ∧ (W2.setCell ⟨U + 1, 0, none⟩ (.pointer (some ⟨U + 1, 0, none⟩))).heap[U]? = some (.cells #[.pointer (some ⟨p, 0, none⟩)] 51 (0, 0)) ∧ Below w1.heap.size w1 (W2.setCell ⟨U + 1, 0, none⟩ (.pointer (some ⟨U + 1, 0, none⟩)))) :=
    ⟨block_set hg2, (Below.heap_setCell _ _ _ _ (by simp)).trans hr2, hb12.trans (below_set W2 _ (by rw [hU]; omega))⟩
  clear hW2 hs1 hb12 hg2 hr2
  go_upto_region 8 with fail
  clear c0 f0
  generalize (W2.setCell ⟨U + 1, 0, none⟩ (.pointer (some ⟨U + 1, 0, none⟩))) = W3 at H3
  have c1 : W3.cell? ⟨U + 1, 1, none⟩ = some (.pointer (some ⟨d, 0, none⟩)) := by simp [World.cell?, H3.out.1]
  have hbw := H1.out.2.2.2.trans (H3.out.2.2.mono H1.out.2.2.2.size)
  have hd3 := HD.out.below hbw
  have HT := hide (takeFiles_ok W3 (U + 1) d Bd room 0 (fun _ => none) c1 hd3 rfl)
  have H4 : Hid (LG W3 w.heap.size Bd d (U + 1) lim room 0 0 (fun _ => none) [⟨p, s, 0, [], []⟩] ∧ Below w.heap.size w W3) := by
    have hpb := (H3.out.2.2.block p (lt_of_block H1.out.1)).trans H1.out.1
    have hUw : w.heap.size ≤ U := by rw [← hU]; exact H1.out.2.2.2.size
    refine ⟨⟨⟨⟨.slice (some ⟨U, 0, none⟩) 1 1, H3.out.1, rfl, .inr ⟨U, 1, _, rfl, hUw, H3.out.2.1, Nat.le_refl _, by decide, rfl, rfl⟩⟩, fun x hx => ?_, List.pairwise_singleton _ _, by omega⟩, hd3, fun t ht => absurd rfl ht⟩, hbw⟩
    rw [List.mem_singleton] at hx
    subst hx
    exact ⟨hpb, ⟨H1.out.2.1.below H3.out.2.2, nmB_may 0 (by decide), .inl ⟨rfl, rfl⟩, trivial, (fun y hy => by cases hy), ⟨List.Pairwise.nil, (fun k hk => by cases hk), fun h0 => absurd rfl h0⟩⟩⟩
  clear c1 hbw hd3 H3 H1 HD
  go_wp2_with fail
  refine HT.out.mono ?_
  rintro e w4 ⟨rfl, hb4⟩
  have H5 : Hid (LG w4 w.heap.size Bd d (U + 1) lim room 0 0 (fun _ => none) [⟨p, s, 0, [], []⟩] ∧ Below w.heap.size w w4) := ⟨H4.out.1.below hb4, H4.out.2.trans (hb4.mono H4.out.2.size)⟩
  clear hb4 H4 HT
  go_wp2
  go_ret2
  exact ⟨U + 1, ⟨p, s, 0, [], []⟩, rfl, H5.out.1, rfl, rfl, HLo.out, H5.out.2⟩
theorem lbegun_z (w : World) (lim : Nat) (h1 : 1 ≤ lim) (h2 : lim ≤ 16777216) (hP : TabP w) :
    Calls Tryz.prog 4 #[.int .i64 (lim : Nat)] w fun e w' => ∃ d g x B, e = .returned (.tuple #[.pointer (some ⟨d, 0, none⟩), .pointer (some ⟨g, 0, none⟩), .bool true]) ∧ LZ w' B w.heap.size d g lim 4194304 0 0 (fun _ => none) ([] ++ [x]) (fun i => w.heap.size ≤ i ∧ i < w'.heap.size) ∧ x.l = [] ∧ x.base = 0 ∧ w.heap.size ≤ B ∧ B ≤ w'.heap.size ∧ Below w.heap.size w w' := by
  have HN : Hid (Calls Tryz.prog 10 #[.int .i64 4194304] w fun e w' => e = .returned (.tuple #[.pointer (some ⟨w.heap.size + 1, 0, none⟩), .int .i64 0]) ∧ V8.VD w' w.heap.size (w.heap.size + 1) 4194304 (fun _ => none) 0 0 ∧ Below w.heap.size w w') := V8.new_ok w 4194304 (by decide)
  have HP := hide hP
  have HL := hide (And.intro h1 h2)
  obtain ⟨D, hD⟩ : ∃ D, w.heap.size + 1 = D := ⟨_, rfl⟩
  rw [hD] at HN
  clear hD hP h1 h2
  go_enter Tryz.func4, Tryz.ntmps4
  go_wp2_with fail
  refine HN.out.mono ?_
  rintro e w1 ⟨rfl, hd1, hb1⟩
  have H1 := hide (And.intro hd1 hb1)
  clear hd1 hb1 HN
  have HO := hide (lopen_z w1 D w.heap.size 4194304 lim H1.out.1 HL.out.1 HL.out.2 (HP.out.low H1.out.2 HP.out.lt))
  go_wp2_with fail
  refine HO.out.mono ?_
  rintro e w2 ⟨g, x, rfl, hg, hx1, hx2, hx3, hb2⟩
  have H2 : Hid (LZ w2 w1.heap.size w.heap.size D g lim 4194304 0 0 (fun _ => none) ([] ++ [x]) (fun i => w.heap.size ≤ i ∧ i < w2.heap.size) ∧ x.l = [] ∧ x.base = 0 ∧ w.heap.size ≤ w1.heap.size ∧ w1.heap.size ≤ w2.heap.size ∧ Below w.heap.size w w2) := ⟨(LG.lz hg H1.out.2.size (Nat.le_refl _) (fun y hy => by rw [List.mem_singleton] at hy; subst hy; exact Nat.le_trans H1.out.2.size hx3)).tight, hx1, hx2, H1.out.2.size, hb2.size, H1.out.2.trans (hb2.mono H1.out.2.size)⟩
  clear hg hx1 hx2 hx3 hb2 HO
  go_wp2
  go_ret3
  exact ⟨D, g, x, w1.heap.size, rfl, H2.out⟩
end Go.Proofs.YtcjlcieheepegaaGreatDoor
namespace Go.Proofs.YtcjlcieheepegaaGreatDoor
open Go.RowKit
open V8 (VX KO Zn)
set_option linter.unusedVariables false
set_option maxRecDepth 20000
set_option maxRecDepth 20000

/-- The parts of a log that holds batches, with a limit of one byte. -/
def AI (l : List BT) (P : List Prt) : Prop := (l = [] ∧ ∃ x, P = [] ++ [x] ∧ x.l = [] ∧ x.base = 0) ∨ (l ≠ [] ∧ P.length = l.length ∧ ∀ j z, P[j]? = some z → ∃ b, l[j]? = some b ∧ z.l = [b] ∧ z.base = endB 0 (l.take j))
theorem endB_nil (b : Nat) : endB b [] = b := rfl
theorem endB_one (b : Nat) (x : BT) : endB b [x] = b + x.h.cnt := by show b + (x.h.cnt + 0) = _; omega
theorem AI.last {l : List BT} {P : List Prt} (h : AI l P) : ∃ Q x, P = Q ++ [x] ∧ endB x.base x.l = endB 0 l ∧ (l ≠ [] → ∃ m b, l = m ++ [b] ∧ x.l = [b] ∧ x.base = endB 0 m) := by
  rcases h with ⟨rfl, x, rfl, h1, h2⟩ | ⟨hn, hl, hz⟩
  · exact ⟨[], x, rfl, by rw [h1, h2], fun h => absurd rfl h⟩
  · obtain ⟨m, b, rfl⟩ : ∃ m b, l = m ++ [b] := ⟨l.dropLast, l.getLast hn, (List.dropLast_concat_getLast hn).symm⟩
    have hP : P ≠ [] := fun e => by rw [e] at hl; simp at hl
    obtain ⟨Q, x, rfl⟩ : ∃ Q x, P = Q ++ [x] := ⟨P.dropLast, P.getLast hP, (List.dropLast_concat_getLast hP).symm⟩
    have hQ : Q.length = m.length := by simpa using hl
    obtain ⟨b', h1, h2, h3⟩ := hz Q.length x (by simp)
    rw [hQ] at h1 h3
    have e1 : b' = b := by simpa using h1.symm
    have e2 : (m ++ [b]).take m.length = m := by simp
    rw [e2] at h3
    subst e1
    exact ⟨Q, x, rfl, by rw [h2, h3, endB_one, endB_snoc], fun _ => ⟨m, b', rfl, h2, h3⟩⟩
theorem AI.one {x : Prt} {b : BT} (h1 : x.l = [b]) (h2 : x.base = 0) : AI [b] [x] :=
  .inr ⟨by simp, rfl, fun j z hz => by
    cases j with
    | zero =>
      simp at hz
      subst hz
      exact ⟨b, rfl, h1, h2⟩
    | succ j => simp at hz⟩
theorem AI.more {l : List BT} {P : List Prt} {y : Prt} {b : BT} (h : AI l P) (hn : l ≠ []) (h1 : y.l = [b]) (h2 : y.base = endB 0 l) : AI (l ++ [b]) (P ++ [y]) := by
  rcases h with ⟨e, _⟩ | ⟨_, hl, hz⟩
  · exact absurd e hn
  · refine .inr ⟨by simp, by simp [hl], fun j z hj => ?_⟩
    rcases Nat.lt_or_ge j P.length with hlt | hge
    · rw [List.getElem?_append_left hlt] at hj
      obtain ⟨b', k1, k2, k3⟩ := hz j z hj
      refine ⟨b', ?_, k2, ?_⟩
      · rw [List.getElem?_append_left (by omega)]; exact k1
      · rw [k3, List.take_append_of_le_length (by omega)]
    · rw [List.getElem?_append_right hge] at hj
      have hj0 : j - P.length = 0 := by
        rcases Nat.eq_zero_or_pos (j - P.length) with h | h
        · exact h
        · rw [List.getElem?_eq_none (by simp; omega)] at hj; cases hj
      rw [hj0] at hj
      simp at hj
      subst hj
      have hjl : j = l.length := by omega
      subst hjl
      exact ⟨b, by simp, h1, by rw [h2]; simp⟩
theorem szs_snoc (l : List BT) (b : BT) : szs (l ++ [b]) = szs l + b.sz := by rw [szs_append, szs_one]
theorem aend_ok (w : World) (B Bd d g lim room cnt us : Nat) (F : List UInt8 → Option (List Nat × Nat)) (P : List Prt) (Z : Nat → Prop) (l : List BT) (h : LZ w B Bd d g lim room cnt us F P Z) (hA : AI l P) :
    Calls Tryz.prog 7 #[.pointer (some ⟨g, 0, none⟩)] w fun e w' => e = .returned (.int .i64 (endB 0 l : Nat)) ∧ w' = w.drew := by
  obtain ⟨Q, x, rfl, he, _⟩ := hA.last
  rw [← he]
  exact lend_ok w B d g lim F Q x h.lq
/-- A batch more, where the limit is one byte. -/
theorem aappend_ok (w : World) (B Bd C d g room cnt : Nat) (F : List UInt8 → Option (List Nat × Nat)) (P : List Prt) (Z : Nat → Prop) (l : List BT) (bt : BT) (h : LZ w B Bd d g 1 room cnt (szs l) F P Z) (hA : AI l P) (ho : allOK l) (hb : bt.ok) (hbase : bt.h.base = endB 0 l) (hT : TabF w) (hP : TabP w) (hC4 : 3 < C) (hCB : C ≤ B) (hCd : C ≤ Bd) (hBw : B ≤ w.heap.size) (hend : endB 0 l ≤ 1099511627520) (hr : szs l + bt.sz ≤ room) (hcn : cnt < 256) (hn : l.length ≤ 1000) :
    Calls Tryz.prog 8 #[.pointer (some ⟨g, 0, none⟩), .string bt.s] w fun e w' => e = .returned (.int .i64 0) ∧ (∃ F' P' cnt', LZ w' B Bd d g 1 room cnt' (szs (l ++ [bt])) F' P' (Zn Z w) ∧ AI (l ++ [bt]) P' ∧ cnt' ≤ cnt + 1) ∧ Below C w w' ∧ KO Z w w' := by
  rw [szs_snoc]
  by_cases h0 : l = []
  · subst h0
    obtain ⟨x, rfl, hx1, hx2⟩ : ∃ x, P = [] ++ [x] ∧ x.l = [] ∧ x.base = 0 := by
      rcases hA with ⟨_, h⟩ | ⟨h, _⟩
      · exact h
      · exact absurd rfl h
    refine (lappend_x w B Bd C d g 1 room cnt (szs []) F [] x bt Z h hb (by rw [hbase, hx1, hx2]) hT hCB hCd hBw (by rw [hx1]; decide) (by rw [hx1]; decide) (by rw [hx1]; decide) hr hcn).mono ?_
    rintro e w' ⟨rfl, ⟨F', K', cnt', h1, h2⟩, h3, h4⟩
    rw [hx1] at h1
    exact ⟨rfl, ⟨F', _, cnt', h1, AI.one (x := ⟨x.p, x.s, x.base, [] ++ [bt], K'⟩) rfl hx2, h2⟩, h3, h4⟩
  · obtain ⟨Q, x, rfl, he, hx⟩ := hA.last
    obtain ⟨m, b, rfl, hx1, hx2⟩ := hx h0
    have hbk : b.ok := ho b (by simp)
    have hsz := (BT.sz_le hbk).1
    have hcnt : 1 ≤ b.h.cnt := by
      obtain ⟨o1, o2, o3, o4, o5, o6, o7⟩ := hbk.ok
      omega
    have hlen : (Q ++ [x]).length = (m ++ [b]).length := by
      rcases hA with ⟨e, _⟩ | ⟨_, h, _⟩
      · exact absurd e h0
      · exact h
    refine (lappend_rollx w B Bd C d g 1 room cnt (szs (m ++ [b])) F Q x bt Z h hb (by rw [hbase, he]) hT hCB hCd hBw (by rw [hx1, szs_one]; omega) hP hC4 (by rw [he, hx2, endB_snoc]; omega) (by rw [he]; exact hend) (by rw [hlen]; omega) hr hcn).mono ?_
    rintro e w' ⟨rfl, ⟨F', p, s, K', cnt', h1, h2⟩, h3, h4⟩
    exact ⟨rfl, ⟨F', _, cnt', h1, hA.more h0 (y := ⟨p, s, endB x.base x.l, [bt], K'⟩) rfl he, h2⟩, h3, h4⟩
end Go.Proofs.YtcjlcieheepegaaGreatDoor
namespace Go.Proofs.YtcjlcieheepegaaGreatDoor
open Go.RowKit
open V8 (VX KO Zn)
set_option linter.unusedVariables false
set_option maxRecDepth 20000
set_option maxRecDepth 20000

def bas (l : List BT) : List Value := (List.range l.length).map fun j => .int .i64 (endB 0 (l.take j) : Nat)
theorem bas_length (l : List BT) : (bas l).length = l.length := by simp [bas]
theorem bas_snoc (l : List BT) (b : BT) : bas (l ++ [b]) = bas l ++ [.int .i64 (endB 0 l : Nat)] := by
  unfold bas
  rw [List.length_append, List.length_singleton, List.range_succ, List.map_append, List.map_singleton]
  congr 1
  · apply List.map_congr_left
    intro j hj
    have := List.mem_range.1 hj
    rw [List.take_append_of_le_length (by omega)]
  · simp
/-- Log a has one batch a segment, log b has all in one; a row of ints stands beside them. -/
structure RO (W0 wr : World) (Ba Bb Cb da ga db gb : Nat) (hv : Value) (r : List Value) (la lb : List BT) : Prop where
  bel : Below W0.heap.size W0 wr
  ex : ∃ (Za Zb : Nat → Prop) (Fa Fb : List UInt8 → Option (List Nat × Nat)) (ca cb : Nat) (Pa : List Prt) (yp ys : Nat) (Kb : List Nat), LZ wr Ba W0.heap.size da ga 1 4194304 ca (szs la) Fa Pa Za ∧ AI la Pa ∧ ca ≤ la.length ∧ LZ wr Bb Cb db gb 16777216 4194304 cb (szs lb) Fb ([] ++ [⟨yp, ys, 0, lb, Kb⟩]) Zb ∧ cb ≤ lb.length ∧ (∀ i, Za i → i < wr.heap.size ∧ ¬ Zb i) ∧ (∀ i, Zb i → i < wr.heap.size) ∧ (∀ j, hv.ownBlock = some j → ¬ Za j ∧ ¬ Zb j)
  own : wr.ownsRow W0.heap.size 3 1 hv r.length r
  ok : allOK la ∧ allOK lb
  sz : szs la ≤ 33559 * la.length ∧ szs lb ≤ 33559 * lb.length
  hBa : W0.heap.size ≤ Ba ∧ Ba ≤ wr.heap.size
  hBb : W0.heap.size ≤ Bb ∧ Bb ≤ wr.heap.size
  hCb : W0.heap.size ≤ Cb
theorem RO.below {W0 wr w' : World} {Ba Bb Cb da ga db gb : Nat} {hv : Value} {r : List Value} {la lb : List BT} (h : RO W0 wr Ba Bb Cb da ga db gb hv r la lb) (hb : Below wr.heap.size wr w') : RO W0 w' Ba Bb Cb da ga db gb hv r la lb := by
  obtain ⟨Za, Zb, Fa, Fb, ca, cb, Pa, yp, ys, Kb, h1, h2, h3, h4, h5, h6, h7, h8⟩ := h.ex
  have hs := hb.size
  exact ⟨h.bel.trans (hb.mono h.bel.size), ⟨Za, Zb, Fa, Fb, ca, cb, Pa, yp, ys, Kb, h1.below hb, h2, h3, h4.below hb, h5, fun i hi => ⟨Nat.lt_of_lt_of_le (h6 i hi).1 hs, (h6 i hi).2⟩, fun i hi => Nat.lt_of_lt_of_le (h7 i hi) hs, h8⟩, owns_below h.own hb, h.ok, h.sz, ⟨h.hBa.1, Nat.le_trans h.hBa.2 hs⟩, ⟨h.hBb.1, Nat.le_trans h.hBb.2 hs⟩, h.hCb⟩
theorem RO.push {W0 wr w1 : World} {Ba Bb Cb da ga db gb g' cap' : Nat} {hv v : Value} {r : List Value} {la lb : List BT} (h : RO W0 wr Ba Bb Cb da ga db gb hv r la lb) (hg : wr.grownBy w1 hv.ownBlock) (ho : w1.ownsRow W0.heap.size 3 1 (.slice (some ⟨g', 0, none⟩) (r.length + 1) cap') (r.length + 1) (r ++ [v])) (hat : hv.ownBlock = some g' ∨ g' = wr.heap.size) : RO W0 w1 Ba Bb Cb da ga db gb (.slice (some ⟨g', 0, none⟩) (r.length + 1) cap') (r ++ [v]) la lb := by
  obtain ⟨Za, Zb, Fa, Fb, ca, cb, Pa, yp, ys, Kb, h1, h2, h3, h4, h5, h6, h7, h8⟩ := h.ex
  have hs := hg.size
  refine ⟨h.bel.trans ⟨hg.os, hg.tape, hg.output, hg.size, fun k hk => hg.block k (Nat.lt_of_lt_of_le hk h.bel.size) (fun e => ?_)⟩, ⟨Za, Zb, Fa, Fb, ca, cb, Pa, yp, ys, Kb, h1.keep fun i hz hi => hg.block i hi (fun e => (h8 i e.symm).1 hz), h2, h3, h4.keep fun i hz hi => hg.block i hi (fun e => (h8 i e.symm).2 hz), h5, fun i hi => ⟨Nat.lt_of_lt_of_le (h6 i hi).1 hs, (h6 i hi).2⟩, fun i hi => Nat.lt_of_lt_of_le (h7 i hi) hs, fun j hj => ?_⟩, by rw [show (r ++ [v]).length = r.length + 1 by simp]; exact ho, h.ok, h.sz, ⟨h.hBa.1, Nat.le_trans h.hBa.2 hs⟩, ⟨h.hBb.1, Nat.le_trans h.hBb.2 hs⟩, h.hCb⟩
  · have := (rowBlk h.own e.symm).1
    omega
  · cases hj
    rcases hat with e | e
    · exact h8 _ e
    · subst e
      exact ⟨fun hz => Nat.lt_irrefl _ (h6 _ hz).1, fun hz => Nat.lt_irrefl _ (h7 _ hz)⟩
theorem ro_enda {W0 wr : World} {Ba Bb Cb da ga db gb : Nat} {hv : Value} {r : List Value} {la lb : List BT} (h : RO W0 wr Ba Bb Cb da ga db gb hv r la lb) : Calls Tryz.prog 7 #[.pointer (some ⟨ga, 0, none⟩)] wr fun e w' => e = .returned (.int .i64 (endB 0 la : Nat)) ∧ w' = wr.drew := by
  obtain ⟨Za, Zb, Fa, Fb, ca, cb, Pa, yp, ys, Kb, h1, h2, _⟩ := h.ex
  exact aend_ok wr Ba W0.heap.size da ga 1 4194304 ca (szs la) Fa Pa Za la h1 h2
theorem ro_endb {W0 wr : World} {Ba Bb Cb da ga db gb : Nat} {hv : Value} {r : List Value} {la lb : List BT} (h : RO W0 wr Ba Bb Cb da ga db gb hv r la lb) : Calls Tryz.prog 7 #[.pointer (some ⟨gb, 0, none⟩)] wr fun e w' => e = .returned (.int .i64 (endB 0 lb : Nat)) ∧ w' = wr.drew := by
  obtain ⟨Za, Zb, Fa, Fb, ca, cb, Pa, yp, ys, Kb, _, _, _, h4, _⟩ := h.ex
  exact lend_ok wr Bb db gb 16777216 Fb [] ⟨yp, ys, 0, lb, Kb⟩ h4.lq
theorem cnts_le : ∀ (m : List BT), allOK m → cnts m ≤ 256 * m.length
  | [], _ => Nat.zero_le _
  | b :: m, h => by
    have h1 := cnts_le m (fun x hx => h x (List.mem_cons_of_mem _ hx))
    obtain ⟨o1, o2, o3, o4, o5, o6, o7⟩ := (h b (List.mem_cons_self ..)).ok
    show b.h.cnt + cnts m ≤ 256 * (m.length + 1)
    omega
theorem end_small {l : List BT} (ho : allOK l) (hn : l.length ≤ 1000) : endB 0 l ≤ 1099511627520 := by
  have := cnts_le l ho
  unfold endB
  omega
theorem ro_appa {W0 wr : World} {Ba Bb Cb da ga db gb : Nat} {hv : Value} {r : List Value} {l lb : List BT} (bt : BT) (h : RO W0 wr Ba Bb Cb da ga db gb hv r l lb) (hb : bt.ok) (hbs : bt.sz ≤ 33559) (hbase : bt.h.base = endB 0 l) (hT : TabF W0) (hP : TabP W0) (hn : l.length ≤ 60) :
    Calls Tryz.prog 8 #[.pointer (some ⟨ga, 0, none⟩), .string bt.s] wr fun e w' => e = .returned (.int .i64 0) ∧ RO W0 w' Ba Bb Cb da ga db gb hv r (l ++ [bt]) lb := by
  obtain ⟨Za, Zb, Fa, Fb, ca, cb, Pa, yp, ys, Kb, h1, h2, h3, h4, h5, h6, h7, h8⟩ := h.ex
  have hsz := h.sz.1
  refine (aappend_ok wr Ba W0.heap.size W0.heap.size da ga 4194304 ca Fa Pa Za l bt h1 h2 h.ok.1 hb hbase (hT.new h.bel) (hP.low h.bel hP.lt) hP.lt h.hBa.1 (Nat.le_refl _) h.hBa.2 (end_small h.ok.1 (by omega)) (by omega) (by omega) (by omega)).mono ?_
  rintro e w' ⟨rfl, ⟨F', P', c', k1, k2, k3⟩, k4, k5⟩
  have hs : wr.heap.size ≤ w'.heap.size := k4.size
  have ht := k1.tight
  refine ⟨rfl, h.bel.trans k4, ⟨fun i => Zn Za wr i ∧ i < w'.heap.size, Zb, F', Fb, c', cb, P', yp, ys, Kb, ht, k2, by rw [List.length_append, List.length_singleton]; omega, h4.other k5 (fun i _ hz hza => (h6 i hza).2 hz), h5, fun i hi => ⟨hi.2, fun hz => ?_⟩, fun i hi => Nat.lt_of_lt_of_le (h7 i hi) hs, fun j hj => ⟨fun hz => ?_, (h8 j hj).2⟩⟩, ?_, ⟨fun x hx => ?_, h.ok.2⟩, ⟨?_, h.sz.2⟩, ⟨h.hBa.1, Nat.le_trans h.hBa.2 hs⟩, ⟨h.hBb.1, Nat.le_trans h.hBb.2 hs⟩, h.hCb⟩
  · rcases hi.1 with hz' | hz'
    · exact (h6 i hz').2 hz
    · have := h7 i hz; omega
  · rcases hz.1 with hz' | hz'
    · exact (h8 j hj).1 hz'
    · obtain ⟨_, cs, e⟩ := rowBlk h.own hj
      have := lt_of_block e
      omega
  · exact V8.ownsRow_block h.own fun g hg => by
      obtain ⟨_, cs, e⟩ := rowBlk h.own hg
      exact k5 g (lt_of_block e) (h8 g hg).1
  · rcases List.mem_append.1 hx with hx | hx
    · exact h.ok.1 x hx
    · rw [List.mem_singleton] at hx; subst hx; exact hb
  · rw [szs_snoc, List.length_append, List.length_singleton]; omega
theorem ro_appb {W0 wr : World} {Ba Bb Cb da ga db gb : Nat} {hv : Value} {r : List Value} {la l : List BT} (bt : BT) (h : RO W0 wr Ba Bb Cb da ga db gb hv r la l) (hb : bt.ok) (hbs : bt.sz ≤ 33559) (hbase : bt.h.base = endB 0 l) (hT : TabF W0) (hn : l.length ≤ 60) :
    Calls Tryz.prog 8 #[.pointer (some ⟨gb, 0, none⟩), .string bt.s] wr fun e w' => e = .returned (.int .i64 0) ∧ RO W0 w' Ba Bb Cb da ga db gb hv r la (l ++ [bt]) := by
  obtain ⟨Za, Zb, Fa, Fb, ca, cb, Pa, yp, ys, Kb, h1, h2, h3, h4, h5, h6, h7, h8⟩ := h.ex
  have hsz := h.sz.2
  refine (lappend_x wr Bb Cb W0.heap.size db gb 16777216 4194304 cb (szs l) Fb [] ⟨yp, ys, 0, l, Kb⟩ bt Zb h4 hb hbase (hT.new h.bel) h.hBb.1 h.hCb h.hBb.2 (by show l.length ≤ _; omega) (by show szs l ≤ _; omega) (by show szs l < _; omega) (by omega) (by omega)).mono ?_
  rintro e w' ⟨rfl, ⟨F', K', c', k1, k2⟩, k4, k5⟩
  have hs : wr.heap.size ≤ w'.heap.size := k4.size
  have ht := k1.tight
  rw [← szs_snoc] at ht
  refine ⟨rfl, h.bel.trans k4, ⟨Za, fun i => Zn Zb wr i ∧ i < w'.heap.size, Fa, F', ca, c', Pa, yp, ys, K', h1.other k5 (fun i hi hz hzb => (h6 i hz).2 hzb), h2, h3, ht, by rw [List.length_append, List.length_singleton]; omega, fun i hi => ⟨Nat.lt_of_lt_of_le (h6 i hi).1 hs, fun hz => ?_⟩, fun i hi => hi.2, fun j hj => ⟨(h8 j hj).1, fun hz => ?_⟩⟩, ?_, ⟨h.ok.1, fun x hx => ?_⟩, ⟨h.sz.1, ?_⟩, ⟨h.hBa.1, Nat.le_trans h.hBa.2 hs⟩, ⟨h.hBb.1, Nat.le_trans h.hBb.2 hs⟩, h.hCb⟩
  · rcases hz.1 with hz' | hz'
    · exact (h6 i hi).2 hz'
    · have := (h6 i hi).1; omega
  · rcases hz.1 with hz' | hz'
    · exact (h8 j hj).2 hz'
    · obtain ⟨_, cs, e⟩ := rowBlk h.own hj
      have := lt_of_block e
      omega
  · exact V8.ownsRow_block h.own fun g hg => by
      obtain ⟨_, cs, e⟩ := rowBlk h.own hg
      exact k5 g (lt_of_block e) (h8 g hg).2
  · rcases List.mem_append.1 hx with hx | hx
    · exact h.ok.2 x hx
    · rw [List.mem_singleton] at hx; subst hx; exact hb
  · rw [szs_snoc, List.length_append, List.length_singleton]; omega
/-- What Segments of both logs tell. -/
theorem ro_segs {W0 wr : World} {Ba Bb Cb da ga db gb : Nat} {hv : Value} {r : List Value} {la lb : List BT} (h : RO W0 wr Ba Bb Cb da ga db gb hv r la lb) (hn : la.length ≤ 1000) :
    Calls Tryz.prog 9 #[.pointer (some ⟨ga, 0, none⟩)] wr fun e w' => ∃ R n, e = .returned (.slice (some ⟨R, 0, none⟩) n n) ∧ ((la = [] ∧ n = 1) ∨ (la ≠ [] ∧ n = la.length)) ∧ Below wr.heap.size wr w' ∧ (la ≠ [] → ∀ j, j < la.length → w'.cell? ⟨R, j, none⟩ = some (.int .i64 (endB 0 (la.take j) : Nat))) ∧ R < w'.heap.size := by
  obtain ⟨Za, Zb, Fa, Fb, ca, cb, Pa, yp, ys, Kb, h1, h2, _⟩ := h.ex
  have hP : 0 < Pa.length ∧ Pa.length ≤ 1000000 ∧ ((la = [] ∧ Pa.length = 1) ∨ (la ≠ [] ∧ Pa.length = la.length)) := by
    rcases h2 with ⟨e, x, e2, _⟩ | ⟨e, e2, _⟩
    · rw [e2]; exact ⟨by simp, by simp, .inl ⟨e, rfl⟩⟩
    · have : 0 < la.length := List.length_pos_iff.2 e
      exact ⟨by omega, by omega, .inr ⟨e, e2⟩⟩
  refine (lsegs_ok wr Ba da ga 1 Fa Pa h1.lq hP.1 hP.2.1).mono ?_
  rintro e w' ⟨R, rfl, hR⟩
  obtain ⟨cs, k1, k2, k3, k4, k5⟩ := hR
  refine ⟨R, Pa.length, rfl, hP.2.2, k4, fun hne j hj => ?_, lt_of_block k1⟩
  rcases h2 with ⟨e, _⟩ | ⟨_, e2, hz⟩
  · exact absurd e hne
  · obtain ⟨z, hzj⟩ : ∃ z, Pa[j]? = some z := ⟨_, List.getElem?_eq_getElem (by omega)⟩
    obtain ⟨b, _, _, hb⟩ := hz j z hzj
    have := k3 j z (by omega) hzj
    rw [hb] at this
    simp [World.cell?, k1, this]
theorem ro_segsb {W0 wr : World} {Ba Bb Cb da ga db gb : Nat} {hv : Value} {r : List Value} {la lb : List BT} (h : RO W0 wr Ba Bb Cb da ga db gb hv r la lb) :
    Calls Tryz.prog 9 #[.pointer (some ⟨gb, 0, none⟩)] wr fun e w' => ∃ R, e = .returned (.slice (some ⟨R, 0, none⟩) 1 1) ∧ Below wr.heap.size wr w' := by
  obtain ⟨Za, Zb, Fa, Fb, ca, cb, Pa, yp, ys, Kb, _, _, _, h4, _⟩ := h.ex
  refine (lsegs_ok wr Bb db gb 16777216 Fb _ h4.lq (by show 0 < 1; omega) (by show 1 ≤ _; omega)).mono ?_
  rintro e w' ⟨R, rfl, hR⟩
  obtain ⟨cs, k1, k2, k3, k4, k5⟩ := hR
  exact ⟨R, rfl, k4⟩
end Go.Proofs.YtcjlcieheepegaaGreatDoor
