/- Layer 8: a disk told by what its files hold; Size, Synced, Sync, Used. -/
import Derived.Test.YtlnlhecjehapiaaQd
namespace Go.Proofs.Ytlnlhecjehapiaa
open Go.RowKit Go.Maps
set_option linter.unusedVariables false
set_option maxRecDepth 20000

/-- A disk lies in memory: what its files hold, how many there are, how many bytes they have. -/
def VD (w : World) (B d room : Nat) (F : List UInt8 → Option (List Nat × Nat)) (cnt us : Nat) : Prop := ∃ bm M, VM w B d room bm M ∧ (∀ t, look M t = F t) ∧ M.length = cnt ∧ used M = us
def upd (F : List UInt8 → Option (List Nat × Nat)) (s : List UInt8) (x : Option (List Nat × Nat)) : List UInt8 → Option (List Nat × Nat) := fun t => if t = s then x else F t
theorem VD.below {w w' : World} {B d room cnt us : Nat} {F : List UInt8 → Option (List Nat × Nat)} (h : VD w B d room F cnt us) (hb : Below w.heap.size w w') : VD w' B d room F cnt us := by
  obtain ⟨bm, M, h1, h2⟩ := h
  exact ⟨bm, M, h1.below hb, h2⟩
theorem VD.base {w : World} {B d room cnt us : Nat} {F : List UInt8 → Option (List Nat × Nat)} (h : VD w B d room F cnt us) : B ≤ w.heap.size := by
  obtain ⟨bm, M, h1, h2⟩ := h
  exact h1.base
theorem VD.bounds {w : World} {B d room cnt us : Nat} {F : List UInt8 → Option (List Nat × Nat)} (h : VD w B d room F cnt us) : us ≤ room ∧ room ≤ 16777216 ∧ cnt ≤ 256 := by
  obtain ⟨bm, M, h1, h2, h3, h4⟩ := h
  exact ⟨h4 ▸ h1.hused, h1.hroom, h3 ▸ h1.hcnt⟩
theorem VD.some_ {w : World} {B d room cnt us : Nat} {F : List UInt8 → Option (List Nat × Nat)} (h : VD w B d room F cnt us) {s : List UInt8} {l : List Nat} {n : Nat} (hs : F s = some (l, n)) : l.length ≤ us ∧ n ≤ l.length ∧ Bytes l ∧ 1 ≤ cnt := by
  obtain ⟨bm, M, h1, h2, h3, h4⟩ := h
  obtain ⟨m, hm, e⟩ := look_some ((h2 s).trans hs)
  cases e
  obtain ⟨hm1, _⟩ := findF_some hm
  have hF := h1.each m hm1
  refine ⟨h4 ▸ used_mem hm1, hF.le, hF.bytes, ?_⟩
  rw [← h3]
  exact List.length_pos_of_mem hm1
theorem used_call (w : World) (B d room cnt us : Nat) (F : List UInt8 → Option (List Nat × Nat)) (h : VD w B d room F cnt us) :
    Calls Try.prog 19 #[.pointer (some ⟨d, 0, none⟩)] w fun e w' => e = .returned (.int .i64 (us : Nat)) ∧ Below w.heap.size w w' := by
  obtain ⟨bm, M, h1, h2, h3, rfl⟩ := h
  exact used_ok w B d room bm M h1
set_option maxHeartbeats 1000000 in
theorem size_none (w : World) (B d room cnt us : Nat) (F : List UInt8 → Option (List Nat × Nat)) (h : VD w B d room F cnt us) (s : ByteArray) (hm : May s) (hs : F s.data.toList = none) :
    Calls Try.prog 13 #[.pointer (some ⟨d, 0, none⟩), .string s] w fun e w' => e = .returned (.int .i64 (-1)) ∧ w' = w := by
  obtain ⟨bm, M, h1, h2, h3, h4⟩ := h
  have HF : Hid (∀ _ : Unit, Calls Try.prog 22 #[.pointer (some ⟨d, 0, none⟩), .string s] w fun e w' => e = .returned (.tuple #[.pointer none, .int .i64 3]) ∧ w' = w) := fun _ => find_none w B d room bm M h1 s hm (look_none ((h2 _).trans hs))
  clear h1 h2 h3 h4 hs hm
  go_enter Try.func13, Try.ntmps13
  go_wp2_with fail
  refine (HF.out ()).mono ?_
  rintro e W ⟨rfl, hW⟩
  obtain rfl := hW.symm
  go_wp2
  go_ret
  exact ⟨rfl, rfl⟩
set_option maxHeartbeats 1000000 in
theorem size_some (w : World) (B d room cnt us : Nat) (F : List UInt8 → Option (List Nat × Nat)) (h : VD w B d room F cnt us) (s : ByteArray) (hm : May s) (l : List Nat) (n : Nat) (hs : F s.data.toList = some (l, n)) :
    Calls Try.prog 13 #[.pointer (some ⟨d, 0, none⟩), .string s] w fun e w' => e = .returned (.int .i64 (l.length : Nat)) ∧ w' = w := by
  obtain ⟨bm, M, h1, h2, h3, h4⟩ := h
  obtain ⟨m, hf, e⟩ := look_some ((h2 _).trans hs)
  cases e
  have HF : Hid (∀ _ : Unit, Calls Try.prog 22 #[.pointer (some ⟨d, 0, none⟩), .string s] w fun e w' => e = .returned (.tuple #[.pointer (some ⟨m.blk, 0, none⟩), .int .i64 0]) ∧ w' = w) := fun _ => find_some w B d room bm M h1 s hm m hf
  have hK := h1.each m (findF_some hf).1
  obtain ⟨ao, cp, hv⟩ := hK.form
  have c0 := hK.cells.1
  obtain ⟨q, hq⟩ : ∃ q, m.blk = q := ⟨_, rfl⟩
  obtain ⟨L, hL⟩ : ∃ q, m.l.length = q := ⟨_, rfl⟩
  rw [hq] at HF c0
  rw [hv, hL] at c0
  rw [hL]
  clear h1 h2 h3 h4 hs hm hf hK hv hL hq
  go_enter Try.func13, Try.ntmps13
  go_wp2_with fail
  refine (HF.out ()).mono ?_
  rintro e W ⟨rfl, hW⟩
  obtain rfl := hW.symm
  go_wp2
  go_ret
  exact ⟨rfl, rfl⟩
set_option maxHeartbeats 1000000 in
theorem synced_some (w : World) (B d room cnt us : Nat) (F : List UInt8 → Option (List Nat × Nat)) (h : VD w B d room F cnt us) (s : ByteArray) (hm : May s) (l : List Nat) (n : Nat) (hs : F s.data.toList = some (l, n)) :
    Calls Try.prog 14 #[.pointer (some ⟨d, 0, none⟩), .string s] w fun e w' => e = .returned (.int .i64 (n : Nat)) ∧ w' = w := by
  obtain ⟨bm, M, h1, h2, h3, h4⟩ := h
  obtain ⟨m, hf, e⟩ := look_some ((h2 _).trans hs)
  cases e
  have HF : Hid (∀ _ : Unit, Calls Try.prog 22 #[.pointer (some ⟨d, 0, none⟩), .string s] w fun e w' => e = .returned (.tuple #[.pointer (some ⟨m.blk, 0, none⟩), .int .i64 0]) ∧ w' = w) := fun _ => find_some w B d room bm M h1 s hm m hf
  have hK := h1.each m (findF_some hf).1
  have c0 := hK.cells.2.1
  obtain ⟨q, hq⟩ : ∃ q, m.blk = q := ⟨_, rfl⟩
  obtain ⟨L, hL⟩ : ∃ q, m.n = q := ⟨_, rfl⟩
  rw [hq] at HF c0
  rw [hL] at c0
  rw [hL]
  clear h1 h2 h3 h4 hs hm hf hK hL hq
  go_enter Try.func14, Try.ntmps14
  go_wp2_with fail
  refine (HF.out ()).mono ?_
  rintro e W ⟨rfl, hW⟩
  obtain rfl := hW.symm
  go_wp2
  go_ret
  exact ⟨rfl, rfl⟩
/-- A file has turned: what the disk holds then. -/
theorem VD.turned {w w' : World} {B d room bm : Nat} {M : List FR} {m : FR} (h : VM w B d room bm M) (hm : m ∈ M) (m' : FR) (hn : m'.name = m.name) (hb : m'.blk = m.blk) (hk : ∀ i, i < w.heap.size → i ≠ m.blk → m.v.ownBlock ≠ some i → w'.heap[i]? = w.heap[i]?)
    (hF : FOK w' B m') (hnew : ∀ g, m'.v.ownBlock = some g → m.v.ownBlock = some g ∨ w.heap.size ≤ g) (us' : Nat) (hus : us' + m.l.length = used M + m'.l.length) (hu : us' ≤ room) {F : List UInt8 → Option (List Nat × Nat)} (hl : ∀ t, look M t = F t) : VD w' B d room (upd F m.name (some (m'.l, m'.n))) M.length us' := by
  obtain ⟨A, C, rfl⟩ := List.append_of_mem hm
  have hu' : used (A ++ m' :: C) = us' := by rw [used_split] at hus ⊢; omega
  have h' := h.turned hn hb hk hF hnew (hu'.symm ▸ hu)
  refine ⟨bm, A ++ m' :: C, h', fun t => ?_, by simp, hu'⟩
  rw [look_split h'.apart, hn]
  unfold upd
  by_cases e : t = m.name
  · simp [e]
  · rw [if_neg e, if_neg e, ← hl, look_split h.apart, if_neg e]
theorem FOK.synced {w : World} {B : Nat} {m : FR} (h : FOK w B m) : FOK (w.setCell ⟨m.blk, 1, none⟩ (.int .i64 (m.l.length : Nat))) B { m with n := m.l.length } :=
  ⟨block_setCell (i := 1) h.blk, ownsRow_set h.own h.blk (by decide), h.bytes, Nat.le_refl _, h.hB⟩
set_option maxHeartbeats 1000000 in
theorem sync_some (w : World) (B d room cnt us : Nat) (F : List UInt8 → Option (List Nat × Nat)) (h : VD w B d room F cnt us) (s : ByteArray) (hm : May s) (l : List Nat) (n : Nat) (hs : F s.data.toList = some (l, n)) :
    Calls Try.prog 10 #[.pointer (some ⟨d, 0, none⟩), .string s] w fun e w' => e = .returned (.int .i64 0) ∧ VD w' B d room (upd F s.data.toList (some (l, l.length))) cnt us ∧ VF B w w' := by
  obtain ⟨bm, M, h1, h2, h3, h4⟩ := h
  obtain ⟨m, hf, e⟩ := look_some ((h2 _).trans hs)
  cases e
  have HF : Hid (∀ _ : Unit, Calls Try.prog 22 #[.pointer (some ⟨d, 0, none⟩), .string s] w fun e w' => e = .returned (.tuple #[.pointer (some ⟨m.blk, 0, none⟩), .int .i64 0]) ∧ w' = w) := fun _ => find_some w B d room bm M h1 s hm m hf
  obtain ⟨hm1, hm2⟩ := findF_some hf
  have hK := h1.each m hm1
  have HE : Hid (VD (w.setCell ⟨m.blk, 1, none⟩ (.int .i64 (m.l.length : Nat))) B d room (upd F s.data.toList (some (m.l, m.l.length))) cnt us ∧ VF B w (w.setCell ⟨m.blk, 1, none⟩ (.int .i64 (m.l.length : Nat)))) := by
    refine ⟨?_, VF.file hK.blk hK.hB _⟩
    have := VD.turned h1 hm1 { m with n := m.l.length } rfl rfl (fun i hi h1 _ => Below.heap_setCell _ _ _ _ h1) hK.synced (fun g hg => .inl hg) us (by simp; omega) (h4 ▸ h1.hused) h2
    rw [hm2, h3] at this
    exact this
  obtain ⟨ao, cp, hv⟩ := hK.form
  obtain ⟨c0, c1, f0, f1⟩ := hK.cells
  obtain ⟨q, hq⟩ : ∃ q, m.blk = q := ⟨_, rfl⟩
  obtain ⟨L, hL⟩ : ∃ q, m.l.length = q := ⟨_, rfl⟩
  rw [hq] at HF c0 f1 c1 HE
  rw [hv, hL] at c0
  rw [hL] at HE
  rw [hL]
  clear h1 h2 h3 h4 hs hm hf hK hv hL hq hm1 hm2 f0
  go_enter Try.func10, Try.ntmps10
  go_wp2_with fail
  refine (HF.out ()).mono ?_
  rintro e W ⟨rfl, hW⟩
  obtain rfl := hW.symm
  go_wp2
  go_ret
  exact ⟨rfl, HE.out⟩
end Go.Proofs.Ytlnlhecjehapiaa
