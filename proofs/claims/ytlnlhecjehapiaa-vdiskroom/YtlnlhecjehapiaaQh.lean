/- Layer 8: Append refused, New, Remove. -/
import Derived.Test.YtlnlhecjehapiaaQg
namespace Go.Proofs.Ytlnlhecjehapiaa
open Go.RowKit Go.Maps
set_option linter.unusedVariables false
set_option maxRecDepth 20000

set_option maxHeartbeats 4000000 in
theorem append_disk_some (w : World) (B d room cnt us : Nat) (F : List UInt8 → Option (List Nat × Nat)) (h : VD w B d room F cnt us) (s t : ByteArray) (hm : May s) (l : List Nat) (n : Nat) (hs : F s.data.toList = some (l, n)) (hr : room < us + t.size) :
    Calls Try.prog 9 #[.pointer (some ⟨d, 0, none⟩), .string s, .string t] w fun e w' => e = .returned (.int .i64 80) ∧ Below w.heap.size w w' := by
  obtain ⟨bm, M, h1, h2, h3, h4⟩ := h
  obtain ⟨m, hf, e⟩ := look_some ((h2 _).trans hs)
  cases e
  have HF : Hid (∀ _ : Unit, Calls Try.prog 22 #[.pointer (some ⟨d, 0, none⟩), .string s] w fun e w' => e = .returned (.tuple #[.pointer (some ⟨m.blk, 0, none⟩), .int .i64 0]) ∧ w' = w) := fun _ => find_some w B d room bm M h1 s hm m hf
  obtain ⟨q, hq⟩ : ∃ q, m.blk = q := ⟨_, rfl⟩
  rw [hq] at HF
  clear hq hf
  have HU : Hid (∀ W, VM W B d room bm M → Calls Try.prog 19 #[.pointer (some ⟨d, 0, none⟩)] W fun e w' => e = .returned (.int .i64 (us : Nat)) ∧ Below W.heap.size W w') := fun W hW => by rw [← h4]; exact used_ok W B d room bm M hW
  have HV : Hid (VM w B d room bm M) := h1
  have hroom := h1.hroom
  have hus : us ≤ room := h4 ▸ h1.hused
  obtain ⟨c0, c1, c2⟩ := h1.cells
  obtain ⟨df, hdf⟩ : ∃ x, room - us = x := ⟨_, rfl⟩
  have hdec : decide (wrap64 ((room : Int) - (us : Int)) < (t.size : Int)) = true := by
    have hsub : wrap64 ((room : Int) - (us : Int)) = ((room - us : Nat) : Int) := by rw [← Int.natCast_sub hus]; exact wrapN64 _ (by omega)
    rw [hsub, hdf]; simp; omega
  have hdec2 : decide (IntKind.i64.wrap ((room : Int) - (us : Int)) < (t.size : Int)) = true := by
    have e : IntKind.i64.wrap ((room : Int) - (us : Int)) = ((room - us : Nat) : Int) := by rw [← Int.natCast_sub hus]; exact wrapN _ (by omega)
    rw [e, hdf]; simp; omega
  clear h1 h2 h3 h4 hs hm hdf hr hus hroom
  go_enter Try.func9, Try.ntmps9
  go_wp2_with fail
  refine (HF.out ()).mono ?_
  rintro e W ⟨rfl, hW⟩
  obtain rfl := hW.symm
  clear hW
  go_wp2_with fail
  go_region_held_law (fun w' => w'.cell? ⟨d, 1, none⟩ = some (.int .i64 (room : Nat)))
    (first | assumption | go_keep)
    (first | (go_at_call 19; refine (HU.out _ (by first | exact HV.out | exact HV.out.drewN 1)).mono ?_; rintro e w1 ⟨rfl, hb1⟩; have H1 : Hid (VM w1 B d room bm M ∧ Below w.heap.size w w1) := ⟨VM.below (by first | exact HV.out | exact HV.out.drewN 1) hb1, ⟨hb1.os, hb1.tape, hb1.output, hb1.size, hb1.block⟩⟩; have KS := H1.out.1.cells.2.1; clear hb1))
  all_goals
    try simp only [hdec2, hdec]
    go_wp2
    go_ret
    exact ⟨rfl, H1.out.2⟩
set_option maxHeartbeats 4000000 in
theorem append_disk_none (w : World) (B d room cnt us : Nat) (F : List UInt8 → Option (List Nat × Nat)) (h : VD w B d room F cnt us) (s t : ByteArray) (hm : May s) (hs : F s.data.toList = none) (hcn : cnt < 256) (hr : room < us + t.size) :
    Calls Try.prog 9 #[.pointer (some ⟨d, 0, none⟩), .string s, .string t] w fun e w' => e = .returned (.int .i64 80) ∧ Below w.heap.size w w' := by
  obtain ⟨bm, M, h1, h2, h3, h4⟩ := h
  have hf := look_none ((h2 _).trans hs)
  have HF : Hid (∀ _ : Unit, Calls Try.prog 22 #[.pointer (some ⟨d, 0, none⟩), .string s] w fun e w' => e = .returned (.tuple #[.pointer none, .int .i64 3]) ∧ w' = w) := fun _ => find_none w B d room bm M h1 s hm hf
  obtain ⟨es, hD, hp⟩ := h1.own
  have hsz : Maps.size (DataW.map es) = cnt := by rw [← h3]; have := hp.length_eq; simpa [Maps.size] using this
  have hlen := hD.len Try.underlying37
  rw [hsz] at hlen
  have hc256 : ¬ (256 : Int) ≤ (cnt : Int) := by omega
  clear hf hD hp hsz
  have HU : Hid (∀ W, VM W B d room bm M → Calls Try.prog 19 #[.pointer (some ⟨d, 0, none⟩)] W fun e w' => e = .returned (.int .i64 (us : Nat)) ∧ Below W.heap.size W w') := fun W hW => by rw [← h4]; exact used_ok W B d room bm M hW
  have HV : Hid (VM w B d room bm M) := h1
  have hroom := h1.hroom
  have hus : us ≤ room := h4 ▸ h1.hused
  obtain ⟨c0, c1, c2⟩ := h1.cells
  obtain ⟨df, hdf⟩ : ∃ x, room - us = x := ⟨_, rfl⟩
  have hdec : decide (wrap64 ((room : Int) - (us : Int)) < (t.size : Int)) = true := by
    have hsub : wrap64 ((room : Int) - (us : Int)) = ((room - us : Nat) : Int) := by rw [← Int.natCast_sub hus]; exact wrapN64 _ (by omega)
    rw [hsub, hdf]; simp; omega
  have hdec2 : decide (IntKind.i64.wrap ((room : Int) - (us : Int)) < (t.size : Int)) = true := by
    have e : IntKind.i64.wrap ((room : Int) - (us : Int)) = ((room - us : Nat) : Int) := by rw [← Int.natCast_sub hus]; exact wrapN _ (by omega)
    rw [e, hdf]; simp; omega
  clear h1 h2 h3 h4 hs hm hdf hr hus hroom
  go_enter Try.func9, Try.ntmps9
  go_wp2_with fail
  refine (HF.out ()).mono ?_
  rintro e W ⟨rfl, hW⟩
  obtain rfl := hW.symm
  clear hW
  go_wp2_with fail
  go_region_held_law (fun w' => w'.cell? ⟨d, 1, none⟩ = some (.int .i64 (room : Nat)))
    (first | assumption | go_keep)
    (first | (go_at_call 19; refine (HU.out _ (by first | exact HV.out | exact HV.out.drewN 1)).mono ?_; rintro e w1 ⟨rfl, hb1⟩; have H1 : Hid (VM w1 B d room bm M ∧ Below w.heap.size w w1) := ⟨VM.below (by first | exact HV.out | exact HV.out.drewN 1) hb1, ⟨hb1.os, hb1.tape, hb1.output, hb1.size, hb1.block⟩⟩; have KS := H1.out.1.cells.2.1; clear hb1))
  all_goals
    try simp only [hdec2, hdec]
    go_wp2
    go_ret
    exact ⟨rfl, H1.out.2⟩
set_option maxHeartbeats 1000000 in
theorem append_full (w : World) (B d room cnt us : Nat) (F : List UInt8 → Option (List Nat × Nat)) (h : VD w B d room F cnt us) (s t : ByteArray) (hm : May s) (hs : F s.data.toList = none) (hcn : 256 ≤ cnt) :
    Calls Try.prog 9 #[.pointer (some ⟨d, 0, none⟩), .string s, .string t] w fun e w' => e = .returned (.int .i64 2) ∧ w' = w := by
  obtain ⟨bm, M, h1, h2, h3, h4⟩ := h
  have hf := look_none ((h2 _).trans hs)
  have HF : Hid (∀ _ : Unit, Calls Try.prog 22 #[.pointer (some ⟨d, 0, none⟩), .string s] w fun e w' => e = .returned (.tuple #[.pointer none, .int .i64 3]) ∧ w' = w) := fun _ => find_none w B d room bm M h1 s hm hf
  obtain ⟨es, hD, hp⟩ := h1.own
  have hsz : Maps.size (DataW.map es) = cnt := by rw [← h3]; have := hp.length_eq; simpa [Maps.size] using this
  have hlen := hD.len Try.underlying37
  rw [hsz] at hlen
  have hc256 : (256 : Int) ≤ (cnt : Int) := by omega
  obtain ⟨c0, c1, c2⟩ := h1.cells
  clear hf hD hp hsz h1 h2 h3 h4 hs hm
  go_enter Try.func9, Try.ntmps9
  go_wp2_with fail
  refine (HF.out ()).mono ?_
  rintro e W ⟨rfl, hW⟩
  obtain rfl := hW.symm
  clear hW
  go_wp2
  go_ret
  exact ⟨rfl, rfl⟩
theorem VM.made (w : World) (room : Nat) (hr : room ≤ 16777216) :
    VM ((w.alloc (.map #[] 0)).alloc (.cells #[.pointer (some ⟨w.heap.size + 1, 0, none⟩), .int .i64 (room : Nat), .map (some w.heap.size)] 39)) w.heap.size (w.heap.size + 1) room w.heap.size [] ∧
    Below w.heap.size w ((w.alloc (.map #[] 0)).alloc (.cells #[.pointer (some ⟨w.heap.size + 1, 0, none⟩), .int .i64 (room : Nat), .map (some w.heap.size)] 39)) := by
  obtain ⟨w1, h1⟩ : ∃ w1, w.alloc (.map #[] 0) = w1 := ⟨_, rfl⟩
  have hs1 : w1.heap.size = w.heap.size + 1 := by rw [← h1]; simp
  have hm1 : w1.ownsMap (H := Unit) Try.prog 9 pE w.heap.size 0 (.map []) := by rw [← h1]; exact World.ownsMap_made w _ _ _
  obtain ⟨w2, h2⟩ : ∃ w2, w1.alloc (.cells #[.pointer (some ⟨w.heap.size + 1, 0, none⟩), .int .i64 (room : Nat), .map (some w.heap.size)] 39) = w2 := ⟨_, rfl⟩
  have hb2 : w2.heap[w.heap.size + 1]? = some (.cells #[.pointer (some ⟨w.heap.size + 1, 0, none⟩), .int .i64 (room : Nat), .map (some w.heap.size)] 39 (0, 0)) := by
    rw [← h2, ← hs1]; exact heap_alloc_new _ _
  have hm2 : w2.ownsMap (H := Unit) Try.prog 9 pE w.heap.size 0 (.map []) := by rw [← h2]; exact hm1.alloc _
  rw [h1, h2]
  refine ⟨⟨hb2, ⟨[], hm2, List.Perm.refl _⟩, List.Pairwise.nil, fun m hm => absurd hm (by simp), by omega, Nat.le_refl _, hr, Nat.zero_le _, by simp⟩, ?_⟩
  have b1 : Below w.heap.size w w1 := by rw [← h1]; exact (Below.refl _ _).alloc (Nat.le_refl _) _
  rw [← h2]; exact b1.alloc (by omega) _
set_option maxHeartbeats 1000000 in
theorem newDisk_ok (w : World) (room : Nat) (hr : room ≤ 16777216) :
    Calls Try.prog 21 #[.int .i64 (room : Nat)] w fun e w' => e = .returned (.pointer (some ⟨w.heap.size + 1, 0, none⟩)) ∧ VD w' w.heap.size (w.heap.size + 1) room (fun _ => none) 0 0 ∧ Below w.heap.size w w' := by
  have hmm := @run_makeMap Try.prog
  obtain ⟨hv, hb⟩ := VM.made w room hr
  have HV : Hid (VD _ w.heap.size (w.heap.size + 1) room (fun _ => none) 0 0 ∧ Below w.heap.size w _) := ⟨⟨_, [], hv, fun _ => rfl, rfl, rfl⟩, hb⟩
  clear hv hb
  go_enter Try.func21, Try.ntmps21
  go_wp2
  go_ret
  exact ⟨rfl, HV.out⟩
set_option maxHeartbeats 1000000 in
theorem new_ok (w : World) (room : Nat) (hr : room ≤ 16777216) :
    Calls Try.prog 7 #[.int .i64 (room : Nat)] w fun e w' => e = .returned (.tuple #[.pointer (some ⟨w.heap.size + 1, 0, none⟩), .int .i64 0]) ∧ VD w' w.heap.size (w.heap.size + 1) room (fun _ => none) 0 0 ∧ Below w.heap.size w w' := by
  have h1 : ¬ (room : Int) < 0 := by omega
  have h2 : ¬ (16777216 : Int) < (room : Int) := by omega
  have HN : Hid (∀ _ : Unit, Calls Try.prog 21 #[.int .i64 (room : Nat)] w fun e w' => e = .returned (.pointer (some ⟨w.heap.size + 1, 0, none⟩)) ∧ VD w' w.heap.size (w.heap.size + 1) room (fun _ => none) 0 0 ∧ Below w.heap.size w w') := fun _ => newDisk_ok w room hr
  obtain ⟨U, hU⟩ : ∃ U, w.heap.size + 1 = U := ⟨_, rfl⟩
  rw [hU] at HN ⊢
  clear hU
  go_enter Try.func7, Try.ntmps7
  go_wp2_with fail
  refine (HN.out ()).mono ?_
  rintro e W ⟨rfl, hv, hb⟩
  have H : Hid (VD W w.heap.size U room (fun _ => none) 0 0 ∧ Below w.heap.size w W) := ⟨hv, hb⟩
  clear hv hb
  go_wp2
  go_ret2
  exact ⟨rfl, H.out⟩
/-- A file is taken away. -/
theorem VM.dropped {w : World} {B d room bm : Nat} {A C : List FR} {m : FR} (h : VM w B d room bm (A ++ m :: C)) (s : ByteArray) (hs : s.size ≤ 32) (hn : m.name = s.data.toList) (ty : TypeId) :
    ∃ w', (Builtin.delete_ #[37, 9] ty #[.map (some bm), .string s]).run Try.prog w = .ok (.tuple #[]) w' ∧ VM w' B d room bm (A ++ C) ∧ VF B w w' ∧ w.grownBy w' (some bm) := by
  obtain ⟨es, hD, hp⟩ := h.own
  obtain ⟨es0, clock, hmb⟩ := h.mapBlk
  obtain ⟨w', hrun, r1, r2⟩ := hD.drop law9 Try.underlying37 (key9 s (by unfold maxLen; omega)) ty
  obtain ⟨es', e', hp'⟩ := perm_del hp m.name
  have hrm := rm_split h.apart
  rw [hrm] at hp'
  rw [← hn, e'] at r1
  obtain ⟨ap, _⟩ := apart_split h.apart
  have hu := h.hused
  have hc := h.hcnt
  rw [used_split] at hu
  rw [len_split] at hc
  refine ⟨w', hrun, h.remapped r2.grown r1 hp' ap (fun x hx => h.each x (by rcases List.mem_append.1 hx with h1 | h1 <;> simp [h1])) (by omega) (by omega), VF.map hmb h.hbm r2.grown, r2.grown⟩
set_option maxHeartbeats 1000000 in
theorem remove_some (w : World) (B d room cnt us : Nat) (F : List UInt8 → Option (List Nat × Nat)) (h : VD w B d room F cnt us) (s : ByteArray) (hm : May s) (l : List Nat) (n : Nat) (hs : F s.data.toList = some (l, n)) :
    Calls Try.prog 17 #[.pointer (some ⟨d, 0, none⟩), .string s] w fun e w' => e = .returned (.int .i64 0) ∧ VD w' B d room (upd F s.data.toList none) (cnt - 1) (us - l.length) ∧ VF B w w' := by
  obtain ⟨bm, M, h1, h2, h3, h4⟩ := h
  obtain ⟨m, hf, e⟩ := look_some ((h2 _).trans hs)
  cases e
  have HF : Hid (∀ _ : Unit, Calls Try.prog 22 #[.pointer (some ⟨d, 0, none⟩), .string s] w fun e w' => e = .returned (.tuple #[.pointer (some ⟨m.blk, 0, none⟩), .int .i64 0]) ∧ w' = w) := fun _ => find_some w B d room bm M h1 s hm m hf
  obtain ⟨hm1, hm2⟩ := findF_some hf
  obtain ⟨c0, c1, c2⟩ := h1.cells
  obtain ⟨A, C, rfl⟩ := List.append_of_mem hm1
  have HD : Hid (∀ ty, ∃ w', (Builtin.delete_ #[37, 9] ty #[.map (some bm), .string s]).run Try.prog w = .ok (.tuple #[]) w' ∧ Hid (VD w' B d room (upd F s.data.toList none) (cnt - 1) (us - m.l.length) ∧ VF B w w')) := fun ty => by
    obtain ⟨w', r1, r2, r3, _⟩ := h1.dropped s hm.2.1 hm2 ty
    refine ⟨w', r1, ⟨bm, A ++ C, r2, fun t => ?_, ?_, ?_⟩, r3⟩
    · rw [look_rm_split h1.apart, h2, ← hm2]; rfl
    · rw [← h3, len_split]; omega
    · rw [← h4, used_split]; omega
  obtain ⟨q, hq⟩ : ∃ q, m.blk = q := ⟨_, rfl⟩
  rw [hq] at HF
  obtain ⟨w5, hrun, H5⟩ := HD.out 0
  clear h1 h2 h3 h4 hs hm hf hq hm1 hm2
  go_enter Try.func17, Try.ntmps17
  go_wp2_with fail
  refine (HF.out ()).mono ?_
  rintro e W ⟨rfl, hW⟩
  obtain rfl := hW.symm
  clear hW
  go_wp2
  go_ret
  exact ⟨rfl, H5.out⟩
set_option maxHeartbeats 1000000 in
theorem remove_none (w : World) (B d room cnt us : Nat) (F : List UInt8 → Option (List Nat × Nat)) (h : VD w B d room F cnt us) (s : ByteArray) (hm : May s) (hs : F s.data.toList = none) :
    Calls Try.prog 17 #[.pointer (some ⟨d, 0, none⟩), .string s] w fun e w' => e = .returned (.int .i64 3) ∧ w' = w := by
  obtain ⟨bm, M, h1, h2, h3, h4⟩ := h
  have HF : Hid (∀ _ : Unit, Calls Try.prog 22 #[.pointer (some ⟨d, 0, none⟩), .string s] w fun e w' => e = .returned (.tuple #[.pointer none, .int .i64 3]) ∧ w' = w) := fun _ => find_none w B d room bm M h1 s hm (look_none ((h2 _).trans hs))
  clear h1 h2 h3 h4 hs hm
  go_enter Try.func17, Try.ntmps17
  go_wp2_with fail
  refine (HF.out ()).mono ?_
  rintro e W ⟨rfl, hW⟩
  obtain rfl := hW.symm
  go_wp2
  go_ret
  exact ⟨rfl, rfl⟩
end Go.Proofs.Ytlnlhecjehapiaa
