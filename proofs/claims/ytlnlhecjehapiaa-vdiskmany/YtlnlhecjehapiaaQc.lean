/- Layer 8: names that may be, a disk that was given, a file that is found. -/
import Derived.Test.YtlnlhecjehapiaaQb
import Derived.LaidEqlPtr
namespace Go.Proofs.Ytlnlhecjehapiaa
open Go.RowKit Go.Maps
set_option linter.unusedVariables false
set_option maxRecDepth 20000

theorem bt_at (s : ByteArray) (a : Nat) (h : a < s.size) : (s[a]'h).toNat = bt s a := by
  have h' : a < s.data.size := h
  unfold bt
  rw [List.getD_eq_getElem?_getD, Array.getElem?_toList, Array.getElem?_eq_getElem h']
  rfl
theorem wrapN64 (T : Nat) (h : T ≤ 4611686018427387904) : wrap64 (T : Int) = (T : Int) := by unfold wrap64; omega
theorem Below.drewN' (B : Nat) (w : World) (k : Nat) : Below B w (w.drewN k) := ⟨rfl, rfl, rfl, Nat.le_refl _, fun _ _ => rfl⟩
def okB (s : ByteArray) (i : Nat) : Prop := 33 ≤ bt s i ∧ bt s i ≤ 126
/-- A name that may be. -/
def May (s : ByteArray) : Prop := 1 ≤ s.size ∧ s.size ≤ 32 ∧ ∀ i, i < s.size → okB s i
set_option maxHeartbeats 1000000 in
theorem mayBe_size (w : World) (s : ByteArray) (h : s.size = 0 ∨ 32 < s.size) :
    Calls Try.prog 27 #[.string s] w fun e w' => e = .returned (.bool false) ∧ w' = w := by
  go_enter Try.func27, Try.ntmps27
  rcases h with h | h
  · have h1 : (s.size : Int) < 1 := by omega
    go_wp2
    go_ret
    exact ⟨rfl, rfl⟩
  · have h1 : ¬ (s.size : Int) < 1 := by omega
    have h2 : (32 : Int) < (s.size : Int) := by omega
    go_wp2
    go_ret
    exact ⟨rfl, rfl⟩
def MayEnd (s : ByteArray) (w : World) (e : Ending) (w' : World) : Prop := ∃ b : Bool, e = .returned (.bool b) ∧ w' = w ∧ (May s → b = true)
set_option maxHeartbeats 1000000 in
/-- Whatever name: an answer, and nothing turns; true of one that may be. -/
theorem mayBe_ok (w : World) (s : ByteArray) :
    Calls Try.prog 27 #[.string s] w (MayEnd s w) := by
  by_cases hz : s.size = 0 ∨ 32 < s.size
  · refine (mayBe_size w s hz).mono ?_
    rintro e w' ⟨rfl, rfl⟩
    exact ⟨false, rfl, rfl, fun h => by have := h.1; have := h.2.1; omega⟩
  have h1 : ¬ (s.size : Int) < 1 := by omega
  have h2 : ¬ (32 : Int) < (s.size : Int) := by omega
  have h3 : s.size ≤ 32 := by omega
  clear hz
  go_enter Try.func27, Try.ntmps27
  go_wp2_with fail
  go_loopw [14] (fun v wr => ∃ k : Nat, v = .int .i64 (k : Nat) ∧ k ≤ s.size ∧ wr = w ∧ Hid (∀ i, i < k → okB s i)) (fun v _ => s.size - (intOf v).toNat)
  case atStart => exact ⟨0, rfl, Nat.zero_le _, rfl, fun i hi => absurd hi (by omega)⟩
  case round =>
    obtain ⟨k, rfl, hk, rfl, HK⟩ := hrel
    by_cases hlt : k < s.size
    · have hlti : (k : Int) < (s.size : Int) := by omega
      have hbt := bt_at s k hlt
      have HX : Hid (∀ i, i < k + 1 → okB s i ∨ i = k) := fun i hi => by
        by_cases e : i = k
        · exact .inr e
        · exact .inl (HK.out i (by omega))
      have HOK : Hid (okB s k = (33 ≤ bt s k ∧ bt s k ≤ 126)) := rfl
      obtain ⟨x, hx⟩ : ∃ x, bt s k = x := ⟨_, rfl⟩
      rw [hx] at hbt
      have HB : Hid (bt s k = x) := hx
      clear hx
      by_cases g1 : (x : Int) < 33
      · go_wp2
        go_ret
        exact ⟨false, rfl, rfl, fun h => by have := h.2.2 k hlt; have e := HB.out; unfold okB at this; omega⟩
      · by_cases g2 : (126 : Int) < (x : Int)
        · go_wp2
          go_ret
          exact ⟨false, rfl, rfl, fun h => by have := h.2.2 k hlt; have e := HB.out; unfold okB at this; omega⟩
        · go_wp2
          refine ⟨⟨k + 1, by go_num, by omega, trivial, fun i hi => ?_⟩, by simp [intOf]; omega⟩
          rcases HX.out i hi with h | h
          · exact h
          · subst h; have e := HB.out; unfold okB; omega
    · have hlti : ¬ (k : Int) < (s.size : Int) := by omega
      go_wp2
      go_ret
      exact ⟨true, rfl, rfl, fun _ => rfl⟩
section
variable {P : Program} (w : World)
theorem eql_nil_ptr {tp te : TypeId} (a : Addr) (hp : P.underlying tp = some (.pointer te)) :
    (binOp .eql tp (.pointer none) (.pointer (some a))).run P w = .ok (.bool false) w := by
  have h : ∀ d : Nat, (Op.equalIn (d + 1) tp (.pointer none) (.pointer (some a))).run P w = .ok false w := fun d => by
    simp [Op.equalIn, run_underlying hp]
  simp only [binOp]
  simp [Op.equal, Op.maxDepth, h 9999]
end
theorem eqSelfD (a : Addr) (w : World) : (binOp .eql 24 (.pointer (some a)) (.pointer (some a))).run Try.prog w = .ok (.bool true) w := by
  obtain ⟨j, hj⟩ : ∃ j, Try.prog.info? 39 = some j := Option.isSome_iff_exists.1 (by kernel_rfl)
  exact run_eql_ptr_same w a Try.underlying24 hj
theorem eqNilD (a : Addr) (w : World) : (binOp .eql 24 (.pointer none) (.pointer (some a))).run Try.prog w = .ok (.bool false) w :=
  eql_nil_ptr w a Try.underlying24
set_option maxHeartbeats 1000000 in
theorem given_nil (w : World) : Calls Try.prog 24 #[.pointer none] w fun e w' => e = .returned (.bool false) ∧ w' = w := by
  go_enter Try.func24, Try.ntmps24
  go_wp2
  go_ret
  exact ⟨rfl, rfl⟩
set_option maxHeartbeats 1000000 in
theorem given_zero (w : World) (d : Nat) (h : w.cell? ⟨d, 0, none⟩ = some (.pointer none)) : Calls Try.prog 24 #[.pointer (some ⟨d, 0, none⟩)] w fun e w' => e = .returned (.bool false) ∧ w' = w := by
  have hq := eqNilD ⟨d, 0, none⟩ w
  go_enter Try.func24, Try.ntmps24
  go_wp2
  go_ret
  exact ⟨rfl, rfl⟩
set_option maxHeartbeats 1000000 in
theorem given_ok (w : World) (d : Nat) (h : w.cell? ⟨d, 0, none⟩ = some (.pointer (some ⟨d, 0, none⟩))) : Calls Try.prog 24 #[.pointer (some ⟨d, 0, none⟩)] w fun e w' => e = .returned (.bool true) ∧ w' = w := by
  have hq := eqSelfD ⟨d, 0, none⟩ w
  go_enter Try.func24, Try.ntmps24
  go_wp2
  go_ret
  exact ⟨rfl, rfl⟩
/-- A disk that nobody gave: nil, or one whose self is nil. -/
def Nob (w : World) (v : Value) : Prop := v = .pointer none ∨ ∃ d, v = .pointer (some ⟨d, 0, none⟩) ∧ w.cell? ⟨d, 0, none⟩ = some (.pointer none)
theorem given_no (w : World) (v : Value) (h : Nob w v) : Calls Try.prog 24 #[v] w fun e w' => e = .returned (.bool false) ∧ w' = w := by
  rcases h with rfl | ⟨d, rfl, h⟩
  · exact given_nil w
  · exact given_zero w d h
set_option maxHeartbeats 1000000 in
theorem find_no (w : World) (v : Value) (h : Nob w v) (s : ByteArray) : Calls Try.prog 22 #[v, .string s] w fun e w' => e = .returned (.tuple #[.pointer none, .int .i64 1]) ∧ w' = w := by
  have HG : Hid (∀ _ : Unit, Calls Try.prog 24 #[v] w fun e w' => e = .returned (.bool false) ∧ w' = w) := fun _ => given_no w v h
  clear h
  go_enter Try.func22, Try.ntmps22
  go_wp2_with fail
  refine (HG.out ()).mono ?_
  rintro e w' ⟨rfl, rfl⟩
  go_wp2
  go_ret2
  exact ⟨rfl, rfl⟩
set_option maxHeartbeats 1000000 in
theorem find_none (w : World) (B d room bm : Nat) (M : List FR) (h : VM w B d room bm M) (s : ByteArray) (hm : May s) (hf : findF M s.data.toList = none) :
    Calls Try.prog 22 #[.pointer (some ⟨d, 0, none⟩), .string s] w fun e w' => e = .returned (.tuple #[.pointer none, .int .i64 3]) ∧ w' = w := by
  obtain ⟨c0, c1, c2⟩ := h.cells
  obtain ⟨es, hD, hp⟩ := h.own
  have hl := look_run hD hp h.apart s (by have := hm.2.1; unfold maxLen; omega)
  rw [hf] at hl
  simp only [ptrF] at hl
  have HG : Hid (∀ _ : Unit, Calls Try.prog 24 #[.pointer (some ⟨d, 0, none⟩)] w fun e w' => e = .returned (.bool true) ∧ w' = w) := fun _ => given_ok w d c0
  have HM : Hid (∀ _ : Unit, Calls Try.prog 27 #[.string s] w (MayEnd s w)) := fun _ => mayBe_ok w s
  have HMs : Hid (May s) := hm
  clear h hD hp hf hm
  go_enter Try.func22, Try.ntmps22
  go_wp2_with fail
  refine (HG.out ()).mono ?_
  rintro e w' ⟨rfl, rfl⟩
  go_wp2_with fail
  refine (HM.out ()).mono ?_
  rintro e w' ⟨b, rfl, rfl, hb⟩
  obtain rfl := hb HMs.out
  go_wp2
  go_ret2
  exact ⟨rfl, rfl⟩
set_option maxHeartbeats 1000000 in
theorem find_some (w : World) (B d room bm : Nat) (M : List FR) (h : VM w B d room bm M) (s : ByteArray) (hm : May s) (m : FR) (hf : findF M s.data.toList = some m) :
    Calls Try.prog 22 #[.pointer (some ⟨d, 0, none⟩), .string s] w fun e w' => e = .returned (.tuple #[.pointer (some ⟨m.blk, 0, none⟩), .int .i64 0]) ∧ w' = w := by
  obtain ⟨c0, c1, c2⟩ := h.cells
  obtain ⟨es, hD, hp⟩ := h.own
  have hl := look_run hD hp h.apart s (by have := hm.2.1; unfold maxLen; omega)
  rw [hf] at hl
  simp only [ptrF] at hl
  have HG : Hid (∀ _ : Unit, Calls Try.prog 24 #[.pointer (some ⟨d, 0, none⟩)] w fun e w' => e = .returned (.bool true) ∧ w' = w) := fun _ => given_ok w d c0
  have HM : Hid (∀ _ : Unit, Calls Try.prog 27 #[.string s] w (MayEnd s w)) := fun _ => mayBe_ok w s
  have HMs : Hid (May s) := hm
  obtain ⟨q, hq⟩ : ∃ q, m.blk = q := ⟨_, rfl⟩
  rw [hq] at hl ⊢
  clear h hD hp hf hm hq
  go_enter Try.func22, Try.ntmps22
  go_wp2_with fail
  refine (HG.out ()).mono ?_
  rintro e w' ⟨rfl, rfl⟩
  go_wp2_with fail
  refine (HM.out ()).mono ?_
  rintro e w' ⟨b, rfl, rfl, hb⟩
  obtain rfl := hb HMs.out
  go_wp2
  go_ret2
  exact ⟨rfl, rfl⟩
end Go.Proofs.Ytlnlhecjehapiaa
