/- Layer 8: a disk that nobody made. -/
import Derived.Test.YtlnlhecjehapiaaQn
namespace Go.Proofs.Ytlnlhecjehapiaa
open Go.RowKit Go.Maps Go.Sort
set_option linter.unusedVariables false
set_option maxRecDepth 20000

set_option maxHeartbeats 1000000 in
theorem no_read (w : World) (v : Value) (h : Nob w v) (s : ByteArray) (n : Int) : Calls Try.prog 12 #[v, .string s, .int .i64 n, .int .i64 n] w fun e w' => e = .returned (.tuple #[.string ⟨#[]⟩, .int .i64 1]) ∧ w' = w := by
  have HF : Hid (∀ _ : Unit, Calls Try.prog 22 #[v, .string s] w fun e w' => e = .returned (.tuple #[.pointer none, .int .i64 1]) ∧ w' = w) := fun _ => find_no w v h s
  clear h
  by_cases hn : n < 0
  · go_enter Try.func12, Try.ntmps12
    go_wp2_with fail
    refine (HF.out ()).mono ?_
    rintro e W ⟨rfl, hW⟩
    obtain rfl := hW.symm
    clear hW
    go_wp2
    go_ret2
    exact ⟨rfl, rfl⟩
  · go_enter Try.func12, Try.ntmps12
    go_wp2_with fail
    refine (HF.out ()).mono ?_
    rintro e W ⟨rfl, hW⟩
    obtain rfl := hW.symm
    clear hW
    go_wp2
    go_ret2
    exact ⟨rfl, rfl⟩
set_option maxHeartbeats 1000000 in
theorem no_append (w : World) (v : Value) (h : Nob w v) (s t : ByteArray) : Calls Try.prog 9 #[v, .string s, .string t] w fun e w' => e = .returned (.int .i64 1) ∧ w' = w := by
  have HF : Hid (∀ _ : Unit, Calls Try.prog 22 #[v, .string s] w fun e w' => e = .returned (.tuple #[.pointer none, .int .i64 1]) ∧ w' = w) := fun _ => find_no w v h s
  clear h
  go_enter Try.func9, Try.ntmps9
  go_wp2_with fail
  refine (HF.out ()).mono ?_
  rintro e W ⟨rfl, hW⟩
  obtain rfl := hW.symm
  clear hW
  go_wp2
  go_ret
  exact ⟨rfl, rfl⟩
set_option maxHeartbeats 1000000 in
theorem no_sync (w : World) (v : Value) (h : Nob w v) (s : ByteArray) : Calls Try.prog 10 #[v, .string s] w fun e w' => e = .returned (.int .i64 1) ∧ w' = w := by
  have HF : Hid (∀ _ : Unit, Calls Try.prog 22 #[v, .string s] w fun e w' => e = .returned (.tuple #[.pointer none, .int .i64 1]) ∧ w' = w) := fun _ => find_no w v h s
  clear h
  go_enter Try.func10, Try.ntmps10
  go_wp2_with fail
  refine (HF.out ()).mono ?_
  rintro e W ⟨rfl, hW⟩
  obtain rfl := hW.symm
  clear hW
  go_wp2
  go_ret
  exact ⟨rfl, rfl⟩
set_option maxHeartbeats 1000000 in
theorem no_cut (w : World) (v : Value) (h : Nob w v) (s : ByteArray) (n : Int) : Calls Try.prog 15 #[v, .string s, .int .i64 n] w fun e w' => e = .returned (.int .i64 1) ∧ w' = w := by
  have HF : Hid (∀ _ : Unit, Calls Try.prog 22 #[v, .string s] w fun e w' => e = .returned (.tuple #[.pointer none, .int .i64 1]) ∧ w' = w) := fun _ => find_no w v h s
  clear h
  by_cases hn : n < 0
  · go_enter Try.func15, Try.ntmps15
    go_wp2_with fail
    refine (HF.out ()).mono ?_
    rintro e W ⟨rfl, hW⟩
    obtain rfl := hW.symm
    clear hW
    go_wp2
    go_ret
    exact ⟨rfl, rfl⟩
  · go_enter Try.func15, Try.ntmps15
    go_wp2_with fail
    refine (HF.out ()).mono ?_
    rintro e W ⟨rfl, hW⟩
    obtain rfl := hW.symm
    clear hW
    go_wp2
    go_ret
    exact ⟨rfl, rfl⟩
set_option maxHeartbeats 1000000 in
theorem no_remove (w : World) (v : Value) (h : Nob w v) (s : ByteArray) : Calls Try.prog 17 #[v, .string s] w fun e w' => e = .returned (.int .i64 1) ∧ w' = w := by
  have HF : Hid (∀ _ : Unit, Calls Try.prog 22 #[v, .string s] w fun e w' => e = .returned (.tuple #[.pointer none, .int .i64 1]) ∧ w' = w) := fun _ => find_no w v h s
  clear h
  go_enter Try.func17, Try.ntmps17
  go_wp2_with fail
  refine (HF.out ()).mono ?_
  rintro e W ⟨rfl, hW⟩
  obtain rfl := hW.symm
  clear hW
  go_wp2
  go_ret
  exact ⟨rfl, rfl⟩
set_option maxHeartbeats 1000000 in
theorem no_size (w : World) (v : Value) (h : Nob w v) (s : ByteArray) : Calls Try.prog 13 #[v, .string s] w fun e w' => e = .returned (.int .i64 (-1)) ∧ w' = w := by
  have HF : Hid (∀ _ : Unit, Calls Try.prog 22 #[v, .string s] w fun e w' => e = .returned (.tuple #[.pointer none, .int .i64 1]) ∧ w' = w) := fun _ => find_no w v h s
  clear h
  go_enter Try.func13, Try.ntmps13
  go_wp2_with fail
  refine (HF.out ()).mono ?_
  rintro e W ⟨rfl, hW⟩
  obtain rfl := hW.symm
  clear hW
  go_wp2
  go_ret
  exact ⟨rfl, rfl⟩
set_option maxHeartbeats 1000000 in
theorem no_synced (w : World) (v : Value) (h : Nob w v) (s : ByteArray) : Calls Try.prog 14 #[v, .string s] w fun e w' => e = .returned (.int .i64 (-1)) ∧ w' = w := by
  have HF : Hid (∀ _ : Unit, Calls Try.prog 22 #[v, .string s] w fun e w' => e = .returned (.tuple #[.pointer none, .int .i64 1]) ∧ w' = w) := fun _ => find_no w v h s
  clear h
  go_enter Try.func14, Try.ntmps14
  go_wp2_with fail
  refine (HF.out ()).mono ?_
  rintro e W ⟨rfl, hW⟩
  obtain rfl := hW.symm
  clear hW
  go_wp2
  go_ret
  exact ⟨rfl, rfl⟩
set_option maxHeartbeats 1000000 in
theorem no_names (w : World) (v : Value) (h : Nob w v) : Calls Try.prog 18 #[v] w fun e w' => e = .returned (.slice none 0 0) ∧ w' = w := by
  have HF : Hid (∀ _ : Unit, Calls Try.prog 24 #[v] w fun e w' => e = .returned (.bool false) ∧ w' = w) := fun _ => given_no w v h
  clear h
  go_enter Try.func18, Try.ntmps18
  go_wp2_with fail
  refine (HF.out ()).mono ?_
  rintro e W ⟨rfl, hW⟩
  obtain rfl := hW.symm
  clear hW
  go_wp2
  go_ret
  exact ⟨rfl, rfl⟩
set_option maxHeartbeats 1000000 in
theorem no_used (w : World) (v : Value) (h : Nob w v) : Calls Try.prog 19 #[v] w fun e w' => e = .returned (.int .i64 0) ∧ w' = w := by
  have HF : Hid (∀ _ : Unit, Calls Try.prog 24 #[v] w fun e w' => e = .returned (.bool false) ∧ w' = w) := fun _ => given_no w v h
  clear h
  go_enter Try.func19, Try.ntmps19
  go_wp2_with fail
  refine (HF.out ()).mono ?_
  rintro e W ⟨rfl, hW⟩
  obtain rfl := hW.symm
  clear hW
  go_wp2
  go_ret
  exact ⟨rfl, rfl⟩
set_option maxHeartbeats 1000000 in
theorem no_crash (w : World) (v : Value) (h : Nob w v) : Calls Try.prog 11 #[v, .slice none 0 0] w fun e w' => e = .returned (.int .i64 1) ∧ w' = w := by
  have HF : Hid (∀ _ : Unit, Calls Try.prog 24 #[v] w fun e w' => e = .returned (.bool false) ∧ w' = w) := fun _ => given_no w v h
  clear h
  go_enter Try.func11, Try.ntmps11
  go_wp2_with fail
  refine (HF.out ()).mono ?_
  rintro e W ⟨rfl, hW⟩
  obtain rfl := hW.symm
  clear hW
  go_wp2
  go_ret
  exact ⟨rfl, rfl⟩
set_option maxHeartbeats 1000000 in
theorem no_copy (w : World) (v : Value) (h : Nob w v) : Calls Try.prog 20 #[v] w fun e w' => e = .returned (.pointer none) ∧ w' = w := by
  have HF : Hid (∀ _ : Unit, Calls Try.prog 24 #[v] w fun e w' => e = .returned (.bool false) ∧ w' = w) := fun _ => given_no w v h
  clear h
  go_enter Try.func20, Try.ntmps20
  go_wp2_with fail
  refine (HF.out ()).mono ?_
  rintro e W ⟨rfl, hW⟩
  obtain rfl := hW.symm
  clear hW
  go_wp2
  go_ret
  exact ⟨rfl, rfl⟩
set_option maxHeartbeats 1000000 in
theorem no_rename (w : World) (v : Value) (h : Nob w v) (s t : ByteArray) : Calls Try.prog 16 #[v, .string s, .string t] w fun e w' => e = .returned (.int .i64 1) ∧ w' = w := by
  have HF : Hid (∀ _ : Unit, Calls Try.prog 22 #[v, .string s] w fun e w' => e = .returned (.tuple #[.pointer none, .int .i64 1]) ∧ w' = w) := fun _ => find_no w v h s
  have HM : Hid (∀ _ : Unit, Calls Try.prog 27 #[.string t] w (MayEnd t w)) := fun _ => mayBe_ok w t
  clear h
  go_enter Try.func16, Try.ntmps16
  go_wp2_with fail
  refine (HF.out ()).mono ?_
  rintro e W ⟨rfl, hW⟩
  obtain rfl := hW.symm
  clear hW
  go_wp2_with fail
  refine (HM.out ()).mono ?_
  rintro e W ⟨b, rfl, hW, -⟩
  obtain rfl := hW.symm
  clear hW
  cases b
  · go_wp2
    go_ret
    exact ⟨rfl, rfl⟩
  · go_wp2
    go_ret
    exact ⟨rfl, rfl⟩
end Go.Proofs.Ytlnlhecjehapiaa
