/- Layer 6: the four bytes at a place. -/
import Derived.Test.YtbncfpbehahidaaYo
import Derived.BigRegion
namespace Go.Proofs.Ytbncfpbehahidaa
open Go.RowKit
set_option linter.unusedVariables false
set_option maxRecDepth 20000

theorem results_cell {fn : Func} {p : Tmp} {ty : TypeId} (h : fn.results = #[.cell p ty]) (tmps : Array Value) (P : Program) (w : World) :
    (results fn tmps).run P w = ((asAddr (tmps.getD p undef)).run P w).andThen fun a w₁ => (loadVar ty a).run P w₁ := by
  simp only [results, h]
  simp [Sem.run_bind, Result.andThen]
set_option maxRecDepth 20000 in
set_option maxHeartbeats 1000000 in
theorem fourAt_ok (w : World) (f : Nat) (s : ByteArray) (p : Nat) (hc : w.cell? ⟨f, 0, none⟩ = some (.string s)) (hp : p + 4 ≤ s.size) (hs : s.size ≤ 1048576) :
    Calls Try.prog 63 #[.pointer (some ⟨f, 0, none⟩), .int .i64 p] w fun e w' => e = .returned (fourV s p) ∧ Below w.heap.size w w' := by
  have g0 : p < s.size := by omega
  have b0 := bt_at s p g0
  obtain ⟨p1, e1⟩ : ∃ q, p + 1 = q := ⟨_, rfl⟩
  obtain ⟨p2, e2⟩ : ∃ q, p + 2 = q := ⟨_, rfl⟩
  obtain ⟨p3, e3⟩ : ∃ q, p + 3 = q := ⟨_, rfl⟩
  have i0 : (p : Int) < (s.size : Int) := by omega
  have i1 : (p1 : Int) < (s.size : Int) := by omega
  have i2 : (p2 : Int) < (s.size : Int) := by omega
  have i3 : (p3 : Int) < (s.size : Int) := by omega
  have j1 : (p : Int) + 1 = (p1 : Int) := by omega
  have j2 : (p : Int) + 2 = (p2 : Int) := by omega
  have j3 : (p : Int) + 3 = (p3 : Int) := by omega
  have k1 := wrapN p1 (by omega)
  have k2 := wrapN p2 (by omega)
  have k3 := wrapN p3 (by omega)
  have g1 : p1 < s.size := by omega
  have g2 : p2 < s.size := by omega
  have g3 : p3 < s.size := by omega
  have b1 := bt_at s p1 g1
  have b2 := bt_at s p2 g2
  have b3 := bt_at s p3 g3
  have HV : Hid (fourV s p = .agg #[.int .u8 (bt s p : Nat), .int .u8 (bt s p1 : Nat), .int .u8 (bt s p2 : Nat), .int .u8 (bt s p3 : Nat)]) := by
    show _ = _
    rw [← e1, ← e2, ← e3]; rfl
  obtain ⟨y0, f0⟩ : ∃ y, bt s p = y := ⟨_, rfl⟩
  obtain ⟨y1, f1⟩ : ∃ y, bt s p1 = y := ⟨_, rfl⟩
  obtain ⟨y2, f2⟩ : ∃ y, bt s p2 = y := ⟨_, rfl⟩
  obtain ⟨y3, f3⟩ : ∃ y, bt s p3 = y := ⟨_, rfl⟩
  rw [f0] at b0 HV
  rw [f1] at b1 HV
  rw [f2] at b2 HV
  rw [f3] at b3 HV
  clear f0 f1 f2 f3 e1 e2 e3 hp
  go_enter Try.func63, Try.ntmps63
  have hc2 : ∀ o, (w.alloc o).cell? ⟨f, 0, none⟩ = some (.string s) := fun o => by rw [World.cell?_alloc_some w ⟨f, 0, none⟩ o (by rw [hc]; rfl)]; exact hc
  go_wp2_with fail
  obtain ⟨W, hW⟩ : ∃ W, w.alloc (.cells #[.int .u8 0, .int .u8 0, .int .u8 0, .int .u8 0] 88) = W := ⟨_, rfl⟩
  have hcW : W.cell? ⟨f, 0, none⟩ = some (.string s) := by rw [← hW]; exact hc2 _
  have hbW : W.heap[w.heap.size]? = some (.cells #[.int .u8 0, .int .u8 0, .int .u8 0, .int .u8 0] 88 (0, 0)) := by rw [← hW]; exact heap_alloc_new _ _
  have HBL : Hid (W.heap[w.heap.size]? = some (.cells #[.int .u8 0, .int .u8 0, .int .u8 0, .int .u8 0] 88 (0, 0)) ∧ Below w.heap.size w W) := ⟨hbW, by rw [← hW]; exact (Below.refl _ _).alloc (Nat.le_refl _) _⟩
  obtain ⟨U, hU⟩ : ∃ U, w.heap.size = U := ⟨_, rfl⟩
  rw [hU] at hbW
  have z0 : W.cell? ⟨U, 0, none⟩ = some (.int .u8 0) := by simp [World.cell?, hbW]
  have z1 : W.cell? ⟨U, 1, none⟩ = some (.int .u8 0) := by simp [World.cell?, hbW]
  have z2 : W.cell? ⟨U, 2, none⟩ = some (.int .u8 0) := by simp [World.cell?, hbW]
  have z3 : W.cell? ⟨U, 3, none⟩ = some (.int .u8 0) := by simp [World.cell?, hbW]
  have q0 : W.frozen? ⟨U, 0, none⟩ = false := by simp [World.frozen?, hbW]
  have q1 : W.frozen? ⟨U, 1, none⟩ = false := by simp [World.frozen?, hbW]
  have q2 : W.frozen? ⟨U, 2, none⟩ = false := by simp [World.frozen?, hbW]
  have q3 : W.frozen? ⟨U, 3, none⟩ = false := by simp [World.frozen?, hbW]
  rw [hW, hU]
  clear hc2 hc hW hbW
  go_region
  obtain ⟨W4, hW4⟩ : ∃ W4, ((((W.setCell ⟨U, 0, none⟩ (.int .u8 (y0 : Nat))).setCell ⟨U, 1, none⟩ (.int .u8 (y1 : Nat))).setCell ⟨U, 2, none⟩ (.int .u8 (y2 : Nat))).setCell ⟨U, 3, none⟩ (.int .u8 (y3 : Nat))).drew = W4 := ⟨_, rfl⟩
  have hb4 : W4.heap[U]? = some (.cells #[.int .u8 (y0 : Nat), .int .u8 (y1 : Nat), .int .u8 (y2 : Nat), .int .u8 (y3 : Nat)] 88 (0, 0)) := by
    rw [← hW4]
    have h0 := HBL.out.1
    rw [hU] at h0
    exact block_setCell (i := 3) (block_setCell (i := 2) (block_setCell (i := 1) (block_setCell (i := 0) h0)))
  have HB4 : Hid (Below U w W4) := by
    have h0 := HBL.out.2
    rw [hU] at h0
    have h1 := (((h0.trans (Below.setCell' (b := U) (i := 0) W (.int .u8 (y0 : Nat)) (Nat.le_refl _))).trans (Below.setCell' (b := U) (i := 1) _ (.int .u8 (y1 : Nat)) (Nat.le_refl _))).trans (Below.setCell' (b := U) (i := 2) _ (.int .u8 (y2 : Nat)) (Nat.le_refl _))).trans (Below.setCell' (b := U) (i := 3) _ (.int .u8 (y3 : Nat)) (Nat.le_refl _))
    rw [← hW4]
    exact ⟨h1.os, h1.tape, h1.output, h1.size, h1.block⟩
  have x0 : W4.cell? ⟨U, 0, none⟩ = some (.int .u8 (y0 : Nat)) := by simp [World.cell?, hb4]
  have x1 : W4.cell? ⟨U, 1, none⟩ = some (.int .u8 (y1 : Nat)) := by simp [World.cell?, hb4]
  have x2 : W4.cell? ⟨U, 2, none⟩ = some (.int .u8 (y2 : Nat)) := by simp [World.cell?, hb4]
  have x3 : W4.cell? ⟨U, 3, none⟩ = some (.int .u8 (y3 : Nat)) := by simp [World.cell?, hb4]
  rw [hW4]
  clear z0 z1 z2 z3 q0 q1 q2 q3 hcW hW4 hb4
  go_wp2
  try simp only [Exit.inBlock, Exit.then]
  refine bodyPost_ret (v := .agg #[.int .u8 (y0 : Nat), .int .u8 (y1 : Nat), .int .u8 (y2 : Nat), .int .u8 (y3 : Nat)]) ?_ rfl ?_
  · rw [results_cell rfl]
    go_simp
  rw [HV.out]
  exact ⟨rfl, by rw [hU]; exact HB4.out⟩
end Go.Proofs.Ytbncfpbehahidaa
