/- Layer 15: a table that nobody made. -/
import Derived.Test.YtpjjenhimnkdcaaV10
namespace Go.Proofs.Ytpjjenhimnkdcaa
open Go.RowKit Go.Maps
set_option linter.unusedVariables false
set_option maxRecDepth 20000

/-- No table, or one that New did not give. -/
def NoT (w : World) (P : Value) : Prop := P = .pointer none ∨ ∃ t, P = .pointer (some ⟨t, 0, none⟩) ∧ w.cell? ⟨t, 0, none⟩ = some (.pointer none)
theorem NoT.below {w w' : World} {P : Value} (h : NoT w P) (hb : Below w.heap.size w w') : NoT w' P := by
  rcases h with h | ⟨t, h, h1⟩
  · exact .inl h
  · exact .inr ⟨t, h, cellB hb h1⟩
theorem given_no (w : World) (P : Value) (h : NoT w P) : Calls Try.prog 20 #[P] w fun e w' => e = .returned (.bool false) ∧ w' = w := by
  rcases h with rfl | ⟨t, rfl, h1⟩
  · exact given_nil w
  · exact given_zero t w h1
theorem results_cell_tmp2 {fn : Func} {p q r : Tmp} {ty : TypeId} (h : fn.results = #[.cell p ty, .tmp q, .tmp r]) (tmps : Array Value) (P : Program) (w : World) :
    (results fn tmps).run P w = ((asAddr (tmps.getD p undef)).run P w).andThen fun a w₁ => ((loadVar ty a).run P w₁).andThen fun v w₂ => .ok (.tuple #[v, tmps.getD q undef, tmps.getD r undef]) w₂ := by
  simp only [results, h]
  simp [Sem.run_bind, Result.andThen]
set_option maxHeartbeats 1000000 in
theorem find_no (w : World) (P : Value) (p s : Int) (h : NoT w P) :
    Calls Try.prog 9 #[P, idV p s] w fun e w' => e = .returned (.tuple #[bt0.v, .int .i64 1]) ∧ Below w.heap.size w w' := by
  have HA : Hid (Below w.heap.size w ((w.alloc (.cells #[.int .i64 p, .int .i64 s] 30)).alloc (.cells #[.int .i64 0, .int .i64 0, .int .i64 0, .int .i64 0, .int .i64 0, .slice none 0 0] 33))) := ((Below.refl _ _).alloc (Nat.le_refl _) _).alloc (by simp) _
  have HG : Hid (Calls Try.prog 20 #[P] ((w.alloc (.cells #[.int .i64 p, .int .i64 s] 30)).alloc (.cells #[.int .i64 0, .int .i64 0, .int .i64 0, .int .i64 0, .int .i64 0, .slice none 0 0] 33)) fun e w' => e = .returned (.bool false) ∧ w' = ((w.alloc (.cells #[.int .i64 p, .int .i64 s] 30)).alloc (.cells #[.int .i64 0, .int .i64 0, .int .i64 0, .int .i64 0, .int .i64 0, .slice none 0 0] 33))) := given_no _ P (h.below HA.out)
  clear h
  simp only [idV]
  go_enter Try.func9, Try.ntmps9
  go_wp2_with fail
  refine HG.out.mono ?_
  rintro e w1 ⟨rfl, hw⟩
  subst hw
  go_wp2
  refine bodyPost_ret (v := ?v1) ?c1 rfl ?c2
  case c1 =>
    rw [results_cell_tmp rfl]
    go_simp
    all_goals exact rfl
  case c2 => exact ⟨rfl, HA.out⟩
set_option maxHeartbeats 1000000 in
theorem ask_no (w : World) (P : Value) (p s n : Int) (h : NoT w P) :
    Calls Try.prog 16 #[P, idV p s, .slice none 0 0, .int .i64 n] w fun e w' => e = .returned (.tuple #[bt0.v, .int .i64 0, .int .i64 1]) ∧ Below w.heap.size w w' := by
  have HA : Hid (Below w.heap.size w ((w.alloc (.cells #[.int .i64 p, .int .i64 s] 30)).alloc (.cells #[.int .i64 0, .int .i64 0, .int .i64 0, .int .i64 0, .int .i64 0, .slice none 0 0] 33))) := ((Below.refl _ _).alloc (Nat.le_refl _) _).alloc (by simp) _
  have HG : Hid (Calls Try.prog 20 #[P] ((w.alloc (.cells #[.int .i64 p, .int .i64 s] 30)).alloc (.cells #[.int .i64 0, .int .i64 0, .int .i64 0, .int .i64 0, .int .i64 0, .slice none 0 0] 33)) fun e w' => e = .returned (.bool false) ∧ w' = ((w.alloc (.cells #[.int .i64 p, .int .i64 s] 30)).alloc (.cells #[.int .i64 0, .int .i64 0, .int .i64 0, .int .i64 0, .int .i64 0, .slice none 0 0] 33))) := given_no _ P (h.below HA.out)
  clear h
  simp only [idV]
  go_enter Try.func16, Try.ntmps16
  go_wp2_with fail
  refine HG.out.mono ?_
  rintro e w1 ⟨rfl, hw⟩
  subst hw
  go_wp2
  refine bodyPost_ret (v := ?v1) ?c1 rfl ?c2
  case c1 =>
    rw [results_cell_tmp2 rfl]
    go_simp
    all_goals exact rfl
  case c2 => exact ⟨rfl, HA.out⟩
theorem putB_no (w : World) (P : Value) (b : Bt) (h : NoT w P) :
    Calls Try.prog 10 #[P, b.v] w fun e w' => e = .returned (.int .i64 1) ∧ Below w.heap.size w w' := by
  have HA : Hid (Below w.heap.size w (w.alloc (.cells #[.int .i64 b.base, .int .i64 b.cnt, .int .i64 b.view, .int .i64 b.prod, .int .i64 b.seq, .slice none 0 0] 33))) := below_a _ _
  have HG : Hid (Calls Try.prog 20 #[P] (w.alloc (.cells #[.int .i64 b.base, .int .i64 b.cnt, .int .i64 b.view, .int .i64 b.prod, .int .i64 b.seq, .slice none 0 0] 33)) fun e w' => e = .returned (.bool false) ∧ w' = (w.alloc (.cells #[.int .i64 b.base, .int .i64 b.cnt, .int .i64 b.view, .int .i64 b.prod, .int .i64 b.seq, .slice none 0 0] 33))) := given_no _ P (h.below HA.out)
  clear h
  obtain ⟨b0, b1, b2, b3, b4⟩ := b
  simp only [Bt.v] at *
  go_enter Try.func10, Try.ntmps10
  go_wp2_with fail
  refine HG.out.mono ?_
  rintro e w1 ⟨rfl, hw⟩
  subst hw
  go_wp2
  go_ret
  exact ⟨rfl, HA.out⟩
theorem wait_no (w : World) (P : Value) (p s n : Int) (h : NoT w P) :
    Calls Try.prog 12 #[P, idV p s, .int .i64 n] w fun e w' => e = .returned (.int .i64 1) ∧ Below w.heap.size w w' := by
  have HA : Hid (Below w.heap.size w (w.alloc (.cells #[.int .i64 p, .int .i64 s] 30))) := below_a _ _
  have HF : Hid (Calls Try.prog 9 #[P, idV p s] (w.alloc (.cells #[.int .i64 p, .int .i64 s] 30)) fun e w' => e = .returned (.tuple #[.agg #[.int .i64 0, .int .i64 0, .int .i64 0, .int .i64 0, .int .i64 0, .slice none 0 0], .int .i64 1]) ∧ Below (w.alloc (.cells #[.int .i64 p, .int .i64 s] 30)).heap.size (w.alloc (.cells #[.int .i64 p, .int .i64 s] 30)) w') := find_no _ P p s (h.below HA.out)
  clear h
  simp only [idV] at *
  go_enter Try.func12, Try.ntmps12
  go_wp2_with fail
  refine HF.out.mono ?_
  rintro e w1 ⟨rfl, hb1⟩
  have HB1 : Hid (Below w.heap.size w w1) := HA.out.trans (hb1.mono HA.out.size)
  clear hb1
  go_wp2
  go_ret
  exact ⟨rfl, bl_alloc (Nat.le_refl _) HB1.out⟩
theorem done_no (w : World) (P : Value) (n : Int) (h : NoT w P) :
    Calls Try.prog 13 #[P, .int .i64 n] w fun e w' => e = .returned (.slice none 0 0) ∧ w' = w := by
  have HG := hide (given_no w P h)
  clear h
  go_enter Try.func13, Try.ntmps13
  go_wp2_with fail
  refine HG.out.mono ?_
  rintro e w1 ⟨rfl, hw⟩
  obtain rfl := hw.symm
  go_wp2
  go_ret
  exact ⟨rfl, rfl⟩
theorem cut_no (w : World) (P : Value) (n : Int) (h : NoT w P) :
    Calls Try.prog 18 #[P, .int .i64 n] w fun e w' => e = .returned (.int .i64 1) ∧ w' = w := by
  have HG := hide (given_no w P h)
  clear h
  go_enter Try.func18, Try.ntmps18
  go_wp2_with fail
  refine HG.out.mono ?_
  rintro e w1 ⟨rfl, hw⟩
  obtain rfl := hw.symm
  go_wp2
  go_ret
  exact ⟨rfl, rfl⟩
theorem waiting_no (w : World) (P : Value) (h : NoT w P) :
    Calls Try.prog 14 #[P] w fun e w' => e = .returned (.int .i64 0) ∧ w' = w := by
  have HG := hide (given_no w P h)
  clear h
  go_enter Try.func14, Try.ntmps14
  go_wp2_with fail
  refine HG.out.mono ?_
  rintro e w1 ⟨rfl, hw⟩
  obtain rfl := hw.symm
  go_wp2
  go_ret
  exact ⟨rfl, rfl⟩
set_option maxHeartbeats 1000000 in
/-- A batch's head is the same as itself. -/
theorem head_same (b : Bt) (w : World) : Calls Try.prog 23 #[b.v, b.v] w fun e w' => e = .returned (.bool true) ∧ Below w.heap.size w w' := by
  have HA : Hid (∀ o o', Below w.heap.size w ((w.alloc o).alloc o')) := fun o o' => ((Below.refl _ _).alloc (Nat.le_refl _) _).alloc (by simp) _
  obtain ⟨b0, b1, b2, b3, b4⟩ := b
  simp only [Bt.v] at *
  go_enter Try.func23, Try.ntmps23
  go_wp2
  go_ret
  exact ⟨rfl, HA.out _ _⟩
set_option maxHeartbeats 1000000 in
theorem same_ok (b : Bt) (w : World) : Calls Try.prog 11 #[b.v, b.v] w fun e w' => e = .returned (.bool true) ∧ Below w.heap.size w w' := by
  have HA : Hid (∀ o o', Below w.heap.size w ((w.alloc o).alloc o')) := fun o o' => ((Below.refl _ _).alloc (Nat.le_refl _) _).alloc (by simp) _
  have HS : Hid (∀ W, Calls Try.prog 23 #[b.v, b.v] W fun e w' => e = .returned (.bool true) ∧ Below W.heap.size W w') := fun W => head_same b W
  obtain ⟨b0, b1, b2, b3, b4⟩ := b
  simp only [Bt.v] at *
  have hbU : ((w.alloc (.cells #[.int .i64 b0, .int .i64 b1, .int .i64 b2, .int .i64 b3, .int .i64 b4, .slice none 0 0] 33)).alloc (.cells #[.int .i64 b0, .int .i64 b1, .int .i64 b2, .int .i64 b3, .int .i64 b4, .slice none 0 0] 33)).cell? ⟨w.heap.size, 5, none⟩ = some (.slice none 0 0) := by
    have : (w.alloc (.cells #[.int .i64 b0, .int .i64 b1, .int .i64 b2, .int .i64 b3, .int .i64 b4, .slice none 0 0] 33)).cell? ⟨w.heap.size, 5, none⟩ = some (.slice none 0 0) := (cells6 (heap_alloc_new w _)).2.2.2.2.2
    exact cellB (below_a _ _) this
  have hbV : ((w.alloc (.cells #[.int .i64 b0, .int .i64 b1, .int .i64 b2, .int .i64 b3, .int .i64 b4, .slice none 0 0] 33)).alloc (.cells #[.int .i64 b0, .int .i64 b1, .int .i64 b2, .int .i64 b3, .int .i64 b4, .slice none 0 0] 33)).cell? ⟨w.heap.size + 1, 5, none⟩ = some (.slice none 0 0) := by
    have hz : (w.alloc (.cells #[.int .i64 b0, .int .i64 b1, .int .i64 b2, .int .i64 b3, .int .i64 b4, .slice none 0 0] 33)).heap.size = w.heap.size + 1 := by simp
    have := (cells6 (heap_alloc_new (w.alloc (.cells #[.int .i64 b0, .int .i64 b1, .int .i64 b2, .int .i64 b3, .int .i64 b4, .slice none 0 0] 33)) (.cells #[.int .i64 b0, .int .i64 b1, .int .i64 b2, .int .i64 b3, .int .i64 b4, .slice none 0 0] 33))).2.2.2.2.2
    rw [hz] at this
    exact this
  go_enter Try.func11, Try.ntmps11
  go_wp2_with fail
  refine (HS.out _).mono ?_
  rintro e w1 ⟨rfl, hb1⟩
  have k0 := cellB hb1 hbU
  have k1 := cellB hb1 hbV
  have HB1 : Hid (Below w.heap.size w w1) := (HA.out _ _).trans (hb1.mono (HA.out _ _).size)
  clear hb1 hbU hbV
  go_wp2
  go_ret
  exact ⟨rfl, HB1.out⟩
end Go.Proofs.Ytpjjenhimnkdcaa
