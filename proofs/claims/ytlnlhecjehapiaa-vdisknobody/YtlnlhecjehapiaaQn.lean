/- Layer 8: a disk of one file; awake. -/
import Derived.Test.YtlnlhecjehapiaaQl
namespace Go.Proofs.Ytlnlhecjehapiaa
open Go.RowKit Go.Maps Go.Sort
set_option linter.unusedVariables false
set_option maxRecDepth 20000

def mayD (s : ByteArray) : Bool := decide (1 ≤ s.size) && decide (s.size ≤ 32) && s.data.toList.all (fun c => decide (33 ≤ c.toNat) && decide (c.toNat ≤ 126))
theorem mayD_ok {s : ByteArray} (h : mayD s = true) : May s := by
  unfold mayD at h
  simp only [Bool.and_eq_true, decide_eq_true_eq, List.all_eq_true] at h
  refine ⟨h.1.1, h.1.2, fun i hi => ?_⟩
  have hi' : i < s.data.toList.length := by simpa using hi
  have := h.2 _ (List.getElem_mem hi')
  unfold okB bt
  rw [List.getD_eq_getElem?_getD, List.getElem?_eq_getElem hi']
  exact this
/-- A disk of one file. -/
def One (w : World) (B d room : Nat) (s : List UInt8) (l : List Nat) (n : Nat) : Prop := ∃ F, VD w B d room F 1 l.length ∧ F s = some (l, n)
theorem One.below {w w' : World} {B d room n : Nat} {s : List UInt8} {l : List Nat} (h : One w B d room s l n) (hb : Below w.heap.size w w') : One w' B d room s l n := by
  obtain ⟨F, h1, h2⟩ := h
  exact ⟨F, h1.below hb, h2⟩
theorem upd_same (F : List UInt8 → Option (List Nat × Nat)) (s : List UInt8) (x : Option (List Nat × Nat)) : upd F s x s = x := by simp [upd]
theorem One.of {w : World} {B d room n u : Nat} {s : List UInt8} {l : List Nat} {F : List UInt8 → Option (List Nat × Nat)} (h : VD w B d room (upd F s (some (l, n))) 1 u) (hu : u = l.length) : One w B d room s l n := ⟨_, hu ▸ h, upd_same _ _ _⟩
theorem one_first (w : World) (B d room : Nat) (h : VD w B d room (fun _ => none) 0 0) (s t : ByteArray) (hm : May s) (hr : t.size ≤ room) :
    Calls Try.prog 9 #[.pointer (some ⟨d, 0, none⟩), .string s, .string t] w fun e w' => e = .returned (.int .i64 0) ∧ One w' B d room s.data.toList (bytesOf t) 0 ∧ VF B w w' := by
  refine (append_none w B d room 0 0 _ h s t hm rfl (by omega) (by omega)).mono ?_
  rintro e w' ⟨rfl, h1, h2⟩
  exact ⟨rfl, One.of h1 (by rw [bytesOf_length]; omega), h2⟩
theorem one_append (w : World) (B d room : Nat) (s t : ByteArray) (l : List Nat) (n : Nat) (h : One w B d room s.data.toList l n) (hm : May s) (hr : l.length + t.size ≤ room) :
    Calls Try.prog 9 #[.pointer (some ⟨d, 0, none⟩), .string s, .string t] w fun e w' => e = .returned (.int .i64 0) ∧ One w' B d room s.data.toList (l ++ bytesOf t) n ∧ VF B w w' := by
  obtain ⟨F, h1, h2⟩ := h
  refine (append_some w B d room 1 _ F h1 s t hm l n h2 hr).mono ?_
  rintro e w' ⟨rfl, h3, h4⟩
  exact ⟨rfl, One.of h3 (by rw [List.length_append, bytesOf_length]), h4⟩
theorem one_over (w : World) (B d room : Nat) (s t : ByteArray) (l : List Nat) (n : Nat) (h : One w B d room s.data.toList l n) (hm : May s) (hr : room < l.length + t.size) :
    Calls Try.prog 9 #[.pointer (some ⟨d, 0, none⟩), .string s, .string t] w fun e w' => e = .returned (.int .i64 80) ∧ Below w.heap.size w w' := by
  obtain ⟨F, h1, h2⟩ := h
  exact append_disk_some w B d room 1 _ F h1 s t hm l n h2 hr
theorem one_sync (w : World) (B d room : Nat) (s : ByteArray) (l : List Nat) (n : Nat) (h : One w B d room s.data.toList l n) (hm : May s) :
    Calls Try.prog 10 #[.pointer (some ⟨d, 0, none⟩), .string s] w fun e w' => e = .returned (.int .i64 0) ∧ One w' B d room s.data.toList l l.length ∧ VF B w w' := by
  obtain ⟨F, h1, h2⟩ := h
  refine (sync_some w B d room 1 _ F h1 s hm l n h2).mono ?_
  rintro e w' ⟨rfl, h3, h4⟩
  exact ⟨rfl, One.of h3 rfl, h4⟩
theorem one_crash (w : World) (B d room : Nat) (s : ByteArray) (l : List Nat) (n : Nat) (h : One w B d room s.data.toList l n) (hm : May s) (kv : Value) (k : Int)
    (hkv : (kv = .slice none 0 0 ∧ k = 0) ∨ (∃ g, kv = .slice (some ⟨g, 0, none⟩) 1 1 ∧ w.cell? ⟨g, 0, none⟩ = some (.int .i64 k))) :
    Calls Try.prog 11 #[.pointer (some ⟨d, 0, none⟩), kv] w fun e w' => e = .returned (.int .i64 0) ∧ One w' B d room s.data.toList (l.take (crashL l n k)) (crashL l n k) ∧ VF B w w' := by
  obtain ⟨F, h1, h2⟩ := h
  have hn := (h1.some_ h2).2.1
  refine (crash_one w B d room _ F h1 s hm l n h2 kv k hkv).mono ?_
  rintro e w' ⟨rfl, h3, h4⟩
  have e : (l.take (crashL l n k)).length = crashL l n k := by rw [List.length_take]; unfold crashL; omega
  exact ⟨rfl, One.of h3 e.symm, h4⟩
theorem one_read (w : World) (B d room : Nat) (s : ByteArray) (l : List Nat) (n : Nat) (h : One w B d room s.data.toList l n) (hm : May s) (k : Nat) (hk : k ≤ l.length) :
    Calls Try.prog 12 #[.pointer (some ⟨d, 0, none⟩), .string s, .int .i64 0, .int .i64 (k : Nat)] w fun e w' => e = .returned (.tuple #[.string (toBA (l.take k)), .int .i64 0]) ∧ w' = w := by
  obtain ⟨F, h1, h2⟩ := h
  exact read_some w B d room 1 _ F h1 s hm l n h2 k hk
theorem one_size (w : World) (B d room : Nat) (s : ByteArray) (l : List Nat) (n : Nat) (h : One w B d room s.data.toList l n) (hm : May s) :
    Calls Try.prog 13 #[.pointer (some ⟨d, 0, none⟩), .string s] w fun e w' => e = .returned (.int .i64 (l.length : Nat)) ∧ w' = w := by
  obtain ⟨F, h1, h2⟩ := h
  exact size_some w B d room 1 _ F h1 s hm l n h2
theorem one_synced (w : World) (B d room : Nat) (s : ByteArray) (l : List Nat) (n : Nat) (h : One w B d room s.data.toList l n) (hm : May s) :
    Calls Try.prog 14 #[.pointer (some ⟨d, 0, none⟩), .string s] w fun e w' => e = .returned (.int .i64 (n : Nat)) ∧ w' = w := by
  obtain ⟨F, h1, h2⟩ := h
  exact synced_some w B d room 1 _ F h1 s hm l n h2
theorem May_a : May ⟨#[97]⟩ := mayD_ok (by decide)
theorem awake_new (w : World) : Calls Try.prog 7 #[.int .i64 9] w fun e w' => e = .returned (.tuple #[.pointer (some ⟨w.heap.size + 1, 0, none⟩), .int .i64 0]) ∧ VD w' w.heap.size (w.heap.size + 1) 9 (fun _ => none) 0 0 ∧ Below w.heap.size w w' := new_ok w 9 (by omega)
theorem awake_read (w : World) (B d : Nat) (h : One w B d 9 [97] [120, 121] 2) :
    Calls Try.prog 12 #[.pointer (some ⟨d, 0, none⟩), .string ⟨#[97]⟩, .int .i64 0, .int .i64 2] w fun e w' => e = .returned (.tuple #[.string ⟨#[120, 121]⟩, .int .i64 0]) ∧ w' = w := one_read w B d 9 ⟨#[97]⟩ [120, 121] 2 h May_a 2 (by decide)
set_option maxHeartbeats 2000000 in
theorem awake_ok (w : World) : Calls Try.prog 8 #[] w fun e w' => e = .returned (.bool true) ∧ Below w.heap.size w w' := by
  have H0 : Hid (∀ _ : Unit, Calls Try.prog 7 #[.int .i64 9] w fun e w' => e = .returned (.tuple #[.pointer (some ⟨w.heap.size + 1, 0, none⟩), .int .i64 0]) ∧ VD w' w.heap.size (w.heap.size + 1) 9 (fun _ => none) 0 0 ∧ Below w.heap.size w w') := fun _ => awake_new w
  obtain ⟨d, hd⟩ : ∃ d, w.heap.size + 1 = d := ⟨_, rfl⟩
  obtain ⟨B, hB⟩ : ∃ d, w.heap.size = d := ⟨_, rfl⟩
  rw [hd, hB] at H0
  rw [hB]
  clear hd hB
  go_enter Try.func8, Try.ntmps8
  go_wp2_with fail
  refine (H0.out ()).mono ?_
  rintro e w1 ⟨rfl, hv1, hb1⟩
  have H1 : Hid (VD w1 B d 9 (fun _ => none) 0 0 ∧ Below B w w1) := ⟨hv1, hb1⟩
  clear hv1 hb1
  go_wp2_with fail
  refine (one_first w1 B d 9 H1.out.1 ⟨#[97]⟩ ⟨#[120, 121]⟩ May_a (by decide)).mono ?_
  rintro e w2 ⟨rfl, hv2, hb2⟩
  have H2 : Hid (One w2 B d 9 [97] [120, 121] 0 ∧ Below B w w2) := ⟨hv2, H1.out.2.trans hb2.below⟩
  clear hv2 hb2
  go_wp2_with fail
  refine (one_sync w2 B d 9 ⟨#[97]⟩ [120, 121] 0 H2.out.1 May_a).mono ?_
  rintro e w3 ⟨rfl, hv3, hb3⟩
  have H3 : Hid (One w3 B d 9 [97] [120, 121] 2 ∧ Below B w w3) := ⟨hv3, H2.out.2.trans hb3.below⟩
  clear hv3 hb3
  go_wp2_with fail
  refine (one_append w3 B d 9 ⟨#[97]⟩ ⟨#[122]⟩ [120, 121] 2 H3.out.1 May_a (by decide)).mono ?_
  rintro e w4 ⟨rfl, hv4, hb4⟩
  have H4 : Hid (One w4 B d 9 [97] [120, 121, 122] 2 ∧ Below B w w4) := ⟨hv4, H3.out.2.trans hb4.below⟩
  clear hv4 hb4
  go_wp2_with fail
  refine (one_crash w4 B d 9 ⟨#[97]⟩ [120, 121, 122] 2 H4.out.1 May_a (.slice none 0 0) 0 (.inl ⟨rfl, rfl⟩)).mono ?_
  rintro e w5 ⟨rfl, hv5, hb5⟩
  have H5 : Hid (One w5 B d 9 [97] [120, 121] 2 ∧ Below B w w5) := ⟨hv5, H4.out.2.trans hb5.below⟩
  clear hv5 hb5
  go_wp2_with fail
  refine (awake_read w5 B d H5.out.1).mono ?_
  rintro e W ⟨rfl, hW⟩
  obtain rfl := hW.symm
  clear hW
  go_wp2_with fail
  refine (one_size w5 B d 9 ⟨#[97]⟩ [120, 121] 2 H5.out.1 May_a).mono ?_
  rintro e W ⟨rfl, hW⟩
  obtain rfl := hW.symm
  clear hW
  go_wp2_with fail
  refine (one_over w5 B d 9 ⟨#[97]⟩ ⟨#[49, 50, 51, 52, 53, 54, 55, 56]⟩ [120, 121] 2 H5.out.1 May_a (by decide)).mono ?_
  rintro e w6 ⟨rfl, hb6⟩
  have H6 : Hid (Below B w w6) := H5.out.2.trans ⟨hb6.os, hb6.tape, hb6.output, hb6.size, fun k hk => hb6.block k (by obtain ⟨F, h, _⟩ := H5.out.1; have := h.base; omega)⟩
  clear hb6
  go_wp2
  go_ret
  exact ⟨rfl, H6.out⟩
end Go.Proofs.Ytlnlhecjehapiaa
