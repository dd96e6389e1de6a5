/- Layer 8: Cut, a file's crash, Read. -/
import Derived.Test.YtlnlhecjehapiaaQj0
namespace Go.Proofs.Ytlnlhecjehapiaa
open Go.RowKit Go.Maps
set_option linter.unusedVariables false
set_option maxRecDepth 20000

/-- Behind a cut: what the disk holds. -/
theorem VD.kept {w w' : World} {B d room bm : Nat} {M : List FR} {m : FR} {k : Nat} {e : Ending} {F : List UInt8 → Option (List Nat × Nat)} (h : VM w B d room bm M) (hm : m ∈ M) (hk : k ≤ m.l.length) (hE : KeepEnd w B m k e w') (hl : ∀ t, look M t = F t) :
    VD w' B d room (upd F m.name (some (m.l.take k, k))) M.length (used M - (m.l.length - k)) ∧ VF B w w' := by
  obtain ⟨-, v', a1, a2, a3, a4⟩ := hE
  refine ⟨?_, a2⟩
  have hu := used_mem hm
  have := VD.turned h hm { m with v := v', l := m.l.take k, n := k } rfl rfl (fun i hi h1 _ => a3 i hi h1) a1 a4 (used M - (m.l.length - k)) (by simp; omega) (by have := h.hused; omega) hl
  exact this
set_option maxHeartbeats 1000000 in
theorem cut_none (w : World) (B d room cnt us : Nat) (F : List UInt8 → Option (List Nat × Nat)) (h : VD w B d room F cnt us) (s : ByteArray) (hm : May s) (hs : F s.data.toList = none) (k : Nat) :
    Calls Try.prog 15 #[.pointer (some ⟨d, 0, none⟩), .string s, .int .i64 (k : Nat)] w fun e w' => e = .returned (.int .i64 3) ∧ w' = w := by
  obtain ⟨bm, M, h1, h2, h3, h4⟩ := h
  have HF : Hid (∀ _ : Unit, Calls Try.prog 22 #[.pointer (some ⟨d, 0, none⟩), .string s] w fun e w' => e = .returned (.tuple #[.pointer none, .int .i64 3]) ∧ w' = w) := fun _ => find_none w B d room bm M h1 s hm (look_none ((h2 _).trans hs))
  have hk : ¬ (k : Int) < 0 := by omega
  clear h1 h2 h3 h4 hs hm
  go_enter Try.func15, Try.ntmps15
  go_wp2_with fail
  refine (HF.out ()).mono ?_
  rintro e W ⟨rfl, hW⟩
  obtain rfl := hW.symm
  go_wp2
  go_ret
  exact ⟨rfl, rfl⟩
set_option maxHeartbeats 1000000 in
theorem cut_over (w : World) (B d room cnt us : Nat) (F : List UInt8 → Option (List Nat × Nat)) (h : VD w B d room F cnt us) (s : ByteArray) (hm : May s) (l : List Nat) (n : Nat) (hs : F s.data.toList = some (l, n)) (k : Nat) (hk : l.length < k) :
    Calls Try.prog 15 #[.pointer (some ⟨d, 0, none⟩), .string s, .int .i64 (k : Nat)] w fun e w' => e = .returned (.int .i64 1) ∧ w' = w := by
  obtain ⟨bm, M, h1, h2, h3, h4⟩ := h
  obtain ⟨m, hf, e⟩ := look_some ((h2 _).trans hs)
  cases e
  have HF : Hid (∀ _ : Unit, Calls Try.prog 22 #[.pointer (some ⟨d, 0, none⟩), .string s] w fun e w' => e = .returned (.tuple #[.pointer (some ⟨m.blk, 0, none⟩), .int .i64 0]) ∧ w' = w) := fun _ => find_some w B d room bm M h1 s hm m hf
  have hK := h1.each m (findF_some hf).1
  obtain ⟨ao, cp, hv⟩ := hK.form
  have c0 := hK.cells.1
  obtain ⟨q, hq⟩ : ∃ q, m.blk = q := ⟨_, rfl⟩
  obtain ⟨L, hL⟩ : ∃ q, m.l.length = q := ⟨_, rfl⟩
  rw [hq] at HF c0
  rw [hv, hL] at c0
  rw [hL] at hk
  have hk0 : ¬ (k : Int) < 0 := by omega
  have hki : (L : Int) < (k : Int) := by omega
  clear h1 h2 h3 h4 hs hm hf hK hv hL hq hk
  go_enter Try.func15, Try.ntmps15
  go_wp2_with fail
  refine (HF.out ()).mono ?_
  rintro e W ⟨rfl, hW⟩
  obtain rfl := hW.symm
  go_wp2
  go_ret
  exact ⟨rfl, rfl⟩
set_option maxHeartbeats 1000000 in
theorem cut_some (w : World) (B d room cnt us : Nat) (F : List UInt8 → Option (List Nat × Nat)) (h : VD w B d room F cnt us) (s : ByteArray) (hm : May s) (l : List Nat) (n : Nat) (hs : F s.data.toList = some (l, n)) (k : Nat) (hk : k ≤ l.length) :
    Calls Try.prog 15 #[.pointer (some ⟨d, 0, none⟩), .string s, .int .i64 (k : Nat)] w fun e w' => e = .returned (.int .i64 0) ∧ VD w' B d room (upd F s.data.toList (some (l.take k, k))) cnt (us - (l.length - k)) ∧ VF B w w' := by
  obtain ⟨bm, M, h1, h2, h3, h4⟩ := h
  obtain ⟨m, hf, e⟩ := look_some ((h2 _).trans hs)
  cases e
  have HF : Hid (∀ _ : Unit, Calls Try.prog 22 #[.pointer (some ⟨d, 0, none⟩), .string s] w fun e w' => e = .returned (.tuple #[.pointer (some ⟨m.blk, 0, none⟩), .int .i64 0]) ∧ w' = w) := fun _ => find_some w B d room bm M h1 s hm m hf
  obtain ⟨hm1, hm2⟩ := findF_some hf
  have hK := h1.each m hm1
  have hl : m.l.length ≤ 16777216 := by have := used_mem hm1; have := h1.hused; have := h1.hroom; omega
  have HC : Hid (∀ _ : Unit, Calls Try.prog 26 #[.pointer (some ⟨m.blk, 0, none⟩), .int .i64 (k : Nat)] w (KeepEnd w B m k)) := fun _ => keep_ok w B m hK h1.base k hk hl
  have HE : Hid (∀ e w', KeepEnd w B m k e w' → VD w' B d room (upd F s.data.toList (some (m.l.take k, k))) cnt (us - (m.l.length - k)) ∧ VF B w w') := fun e w' hE => by
    have := VD.kept h1 hm1 hk hE h2
    rw [hm2, h3, h4] at this
    exact this
  obtain ⟨ao, cp, hv⟩ := hK.form
  have c0 := hK.cells.1
  obtain ⟨q, hq⟩ : ∃ q, m.blk = q := ⟨_, rfl⟩
  obtain ⟨L, hL⟩ : ∃ q, m.l.length = q := ⟨_, rfl⟩
  rw [hq] at HF c0 HC
  rw [hv, hL] at c0
  rw [hL] at hk HE ⊢
  have hk0 : ¬ (k : Int) < 0 := by omega
  have hki : ¬ (L : Int) < (k : Int) := by omega
  clear h1 h2 h3 h4 hs hm hf hK hv hL hq hk hm1 hm2
  go_enter Try.func15, Try.ntmps15
  go_wp2_with fail
  refine (HF.out ()).mono ?_
  rintro e W ⟨rfl, hW⟩
  obtain rfl := hW.symm
  go_wp2_with fail
  refine (HC.out ()).mono ?_
  intro e w' hE
  have H : Hid (VD w' B d room (upd F s.data.toList (some (m.l.take k, k))) cnt (us - (L - k)) ∧ VF B w w') := HE.out e w' hE
  obtain rfl := hE.1
  clear hE
  go_wp2
  go_ret
  exact ⟨rfl, H.out⟩
def crashK (m : FR) (n : Int) : Nat := m.n + min n.toNat (m.l.length - m.n)
/-- Behind a file's crash. -/
def CrashEnd (w : World) (B : Nat) (m : FR) (n : Int) (e : Ending) (w' : World) : Prop := ∃ w0, KeepEnd w0 B m (crashK m n) e w' ∧ Below w.heap.size w w0
set_option maxHeartbeats 1000000 in
theorem crash_ok (w : World) (B : Nat) (m : FR) (h : FOK w B m) (hBw : B ≤ w.heap.size) (n : Int) (hl : m.l.length ≤ 16777216) :
    Calls Try.prog 25 #[.pointer (some ⟨m.blk, 0, none⟩), .int .i64 n] w (CrashEnd w B m n) := by
  obtain ⟨c0, c1, f0, f1⟩ := h.cells
  have hle := h.le
  have HC : Hid (∀ W (K : Nat), K = crashK m n → Below w.heap.size w W → Calls Try.prog 26 #[.pointer (some ⟨m.blk, 0, none⟩), .int .i64 (K : Nat)] W fun e w' => KeepEnd W B m (crashK m n) e w' ∧ Below w.heap.size w W) := fun W K hK hb => by
    rw [hK]
    refine (keep_ok W B m (h.below hb) (Nat.le_trans hBw hb.size) (crashK m n) (by unfold crashK; omega) hl).mono fun e w' hE => ⟨hE, hb⟩
  obtain ⟨ao, cp, hv⟩ := h.form
  obtain ⟨q, hq⟩ : ∃ q, m.blk = q := ⟨_, rfl⟩
  obtain ⟨L, hL⟩ : ∃ q, m.l.length = q := ⟨_, rfl⟩
  obtain ⟨y, hy⟩ : ∃ q, m.n = q := ⟨_, rfl⟩
  rw [hq] at c0 c1 HC ⊢
  rw [hv, hL] at c0
  rw [hy] at c1
  rw [hL] at hl
  rw [hy, hL] at hle
  have hsub : wrap64 ((L : Int) - (y : Int)) = ((L - y : Nat) : Int) := by rw [← Int.natCast_sub hle]; exact wrapN64 _ (by omega)
  have harg := crash_arith y (L - y) n (by omega)
  have HK : Hid (y + min n.toNat (L - y) = crashK m n) := (by unfold crashK; rw [hy, hL] : y + min n.toNat (L - y) = crashK m n)
  have hsub2 : IntKind.i64.wrap ((L : Int) - (y : Int)) = ((L - y : Nat) : Int) := by
    rw [← Int.natCast_sub hle]; exact wrapN _ (by omega)
  obtain ⟨T, hT⟩ : ∃ T, L - y = T := ⟨_, rfl⟩
  rw [hT] at hsub hsub2 harg HK
  obtain ⟨K, hK⟩ : ∃ K, y + min n.toNat T = K := ⟨_, rfl⟩
  rw [hK] at harg HK
  clear h hv hq hL hy hle hl hT hBw f0 f1 hK
  go_enter Try.func25, Try.ntmps25
  go_wp2_with fail
  go_quiet (fail)
  go_wp2_with fail
  refine (HC.out _ K HK.out (Below.drewN' _ _ _)).mono ?_
  rintro e w' ⟨hE, hb⟩
  have H : Hid (CrashEnd w B m n e w') := ⟨_, hE, hb⟩
  obtain rfl := hE.1
  clear hE hb
  go_wp2
  go_end0
  exact H.out
set_option maxHeartbeats 1000000 in
theorem read_some (w : World) (B d room cnt us : Nat) (F : List UInt8 → Option (List Nat × Nat)) (h : VD w B d room F cnt us) (s : ByteArray) (hm : May s) (l : List Nat) (n : Nat) (hs : F s.data.toList = some (l, n)) (k : Nat) (hk : k ≤ l.length) :
    Calls Try.prog 12 #[.pointer (some ⟨d, 0, none⟩), .string s, .int .i64 0, .int .i64 (k : Nat)] w fun e w' => e = .returned (.tuple #[.string (toBA (l.take k)), .int .i64 0]) ∧ w' = w := by
  have hln := h.some_ hs
  have hbd := h.bounds
  obtain ⟨bm, M, h1, h2, h3, h4⟩ := h
  obtain ⟨m, hf, e⟩ := look_some ((h2 _).trans hs)
  cases e
  have HF : Hid (∀ _ : Unit, Calls Try.prog 22 #[.pointer (some ⟨d, 0, none⟩), .string s] w fun e w' => e = .returned (.tuple #[.pointer (some ⟨m.blk, 0, none⟩), .int .i64 0]) ∧ w' = w) := fun _ => find_some w B d room bm M h1 s hm m hf
  have hK := h1.each m (findF_some hf).1
  have c0 := hK.cells.1
  have hbt : ∀ x ∈ m.l.take k, x < 256 := fun x hx => hK.bytes x (List.mem_of_mem_take hx)
  obtain ⟨q, hq⟩ : ∃ q, m.blk = q := ⟨_, rfl⟩
  rw [hq] at HF c0
  have hk0 : ¬ (k : Int) < 0 := by omega
  rcases hK.own.2 with ⟨hv, h0⟩ | ⟨g, cap, cur, hv, hB, hh, hnc, hcm, hcs, htk⟩
  · have hk1 : k = 0 := by omega
    subst hk1
    have hcv := conv_row (P := Try.prog) w 48 9 5 B (.slice none 0 0) [] Try.underlying48 Try.underlying5 Try.underlying9 ⟨rfl, .inl ⟨rfl, rfl⟩⟩ (by simp)
    rw [hv] at c0
    rw [List.take_zero]
    clear h1 h2 h3 h4 hs hm hf hK hv h0 hq hk hbt hln hbd
    go_enter Try.func12, Try.ntmps12
    go_wp2_with fail
    refine (HF.out ()).mono ?_
    rintro e W ⟨rfl, hW⟩
    obtain rfl := hW.symm
    go_wp2
    go_ret2
    exact ⟨rfl, rfl⟩
  · have hown := ownsRow_take (hv ▸ hK.own) hk
    rw [bcells_take] at hown
    have hl : (m.l.take k).length = k := by simp; omega
    have hcv := conv_row (P := Try.prog) w 48 9 5 B (.slice (some ⟨g, 0, none⟩) k cap) (m.l.take k) Try.underlying48 Try.underlying5 Try.underlying9 (by rw [hl]; exact hown) hbt
    obtain ⟨L, hL⟩ : ∃ q, m.l.length = q := ⟨_, rfl⟩
    obtain ⟨R, hR⟩ : ∃ R, toBA (m.l.take k) = R := ⟨_, rfl⟩
    rw [hv, hL] at c0
    rw [hR] at hcv ⊢
    have hL0 : ¬ (L : Int) < 0 := by omega
    have hkL : ¬ (L : Int) < (k : Int) := by omega
    have hkc : k ≤ cap := by omega
    have hkci : (k : Int) ≤ (cap : Int) := by omega
    have hLc : L ≤ cap := by omega
    have hk2 : (0 : Int) ≤ (k : Int) := by omega
    have hLb : L ≤ 4611686018427387904 := by omega
    have hkb : k ≤ 4611686018427387904 := by omega
    have hadd' : wrap64 (k : Int) = (k : Int) := wrapN64 k hkb
    have hsub' : wrap64 (L : Int) = (L : Int) := wrapN64 L hLb
    have hsub : wrap64 ((L : Int) - 0) = (L : Int) := by rw [Int.sub_zero]; exact hsub'
    have hadd : wrap64 (0 + (k : Int)) = (k : Int) := by rw [Int.zero_add]; exact hadd'
    clear hLb hkb
    clear h1 h2 h3 h4 hs hm hf hK hv hq hk hbt hown hl hR hh hcm hcs htk hnc hL hln hbd
    go_enter Try.func12, Try.ntmps12
    go_wp2_with fail
    refine (HF.out ()).mono ?_
    rintro e W ⟨rfl, hW⟩
    obtain rfl := hW.symm
    go_wp2
    go_ret2
    exact ⟨rfl, rfl⟩
end Go.Proofs.Ytlnlhecjehapiaa
