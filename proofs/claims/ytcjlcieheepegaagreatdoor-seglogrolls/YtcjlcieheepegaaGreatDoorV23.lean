/- Layer 8: a file that is cut: keep, Cut, crash. -/
/- Layer 8: what a crash leaves, in numbers. -/
/- Layer 8: Cut, a file's crash, Read. -/
/- Layer 11: what a disk answers of a file that is not there, and of a name that may not be. -/
/- Layer 11: a disk stays, where its own rows do. -/
/- Layer 11: a disk's Read from any place on. -/
/- Layer 11: a disk's Sync of a file that is not there. -/
/- Layer 12: which blocks a disk's calls turn: those of a zone that holds the disk. -/
/- Layer 12: Names of a disk without files. -/
import Derived.Test.YtcjlcieheepegaaGreatDoorV08
import Derived.Test.YtcjlcieheepegaaGreatDoorV22
import Derived.Sort.KeysCollected
namespace Go.Proofs.YtcjlcieheepegaaGreatDoor.V8
open Go.RowKit Go.Maps
set_option linter.unusedVariables false
set_option maxRecDepth 20000
set_option maxRecDepth 20000

theorem bclone (w : World) (B g cap : Nat) (l : List Nat) (hown : w.ownsRow B 5 1 (.slice (some ⟨g, 0, none⟩) l.length cap) l.length (bcells l)) (hl : l.length ≤ 16777216) :
    Calls Tryz.prog 161 #[.slice (some ⟨g, 0, none⟩) l.length cap] w fun e w' => ∃ v', e = .returned v' ∧ w'.ownsRow w.heap.size 5 1 v' l.length (bcells l) ∧ v' ≠ .slice none 0 0 ∧ Below w.heap.size w w' := by
  have h := Any.bytes_Clone_at Tryz.laysBC ⟨g, 0, none⟩ l.length cap (l.map Int.ofNat) w (by simp) (by omega) (fun i hi => by
    have := hown.cells (g := g) rfl i (.int .u8 (l.getD i 0 : Nat)) (by simp [bcells, hi])
    rw [this]
    simp [hi])
  have e : (l.map Int.ofNat).map (Value.int .u8) = bcells l := by simp [bcells]
  rw [e] at h
  exact h
theorem ownsRow_take {w : World} {B E n k g cap : Nat} {xs : List Value} (h : w.ownsRow B E 1 (.slice (some ⟨g, 0, none⟩) n cap) n xs) (hk : k ≤ n) : w.ownsRow B E 1 (.slice (some ⟨g, 0, none⟩) k cap) k (xs.take k) := by
  have hx : xs.length = n := by simpa using h.1
  rcases h.2 with ⟨e, _⟩ | ⟨g', cap', cur, e1, e2, e3, e4, e5, e6, e7⟩
  · cases e
  · cases e1
    refine ⟨by simp [hx]; omega, .inr ⟨g, cap, cur, rfl, e2, e3, by omega, e5, e6, ?_⟩⟩
    rw [← e7, List.take_take, Nat.mul_one, Nat.mul_one, Nat.min_eq_left hk]
theorem bcells_take (l : List Nat) (k : Nat) : (bcells l).take k = bcells (l.take k) := by simp [bcells, List.map_take]
/-- Behind a cut. -/
def KeepEnd (w : World) (B : Nat) (m : FR) (k : Nat) (e : Ending) (w' : World) : Prop :=
  e = .returned (.tuple #[]) ∧ ∃ v', FOK w' B { m with v := v', l := m.l.take k, n := k } ∧ VF B w w' ∧ (∀ i, i < w.heap.size → i ≠ m.blk → w'.heap[i]? = w.heap[i]?) ∧ ∀ g, v'.ownBlock = some g → m.v.ownBlock = some g ∨ w.heap.size ≤ g
theorem cut_world {w : World} {B : Nat} {m : FR} (h : FOK w B m) (k : Nat) (hk : k ≤ m.l.length) (v' : Value) (hv : w.ownsRow B 5 1 v' k (bcells (m.l.take k))) (hb : v'.ownBlock = m.v.ownBlock) :
    FOK ((w.setCell ⟨m.blk, 0, none⟩ v').setCell ⟨m.blk, 1, none⟩ (.int .i64 (k : Nat))) B { m with v := v', l := m.l.take k, n := k } ∧ VF B w ((w.setCell ⟨m.blk, 0, none⟩ v').setCell ⟨m.blk, 1, none⟩ (.int .i64 (k : Nat))) ∧
    (∀ i, i ≠ m.blk → ((w.setCell ⟨m.blk, 0, none⟩ v').setCell ⟨m.blk, 1, none⟩ (.int .i64 (k : Nat))).heap[i]? = w.heap[i]?) ∧ ((w.setCell ⟨m.blk, 0, none⟩ v').setCell ⟨m.blk, 1, none⟩ (.int .i64 (k : Nat))).heap.size = w.heap.size := by
  have b1 := block_setCell (i := 0) (u := v') h.blk
  have b2 := block_setCell (i := 1) (u := .int .i64 (k : Nat)) b1
  have hl : (m.l.take k).length = k := by simp; omega
  refine ⟨⟨b2, ?_, fun x hx => h.bytes x (List.mem_of_mem_take hx), by show k ≤ (m.l.take k).length; omega, h.hB⟩, (VF.file h.blk h.hB _).trans (VF.file b1 h.hB _), fun i hi => ?_, by simp [World.setCell]⟩
  · show World.ownsRow _ B _ 1 v' (m.l.take k).length (bcells (m.l.take k))
    rw [hl]
    exact ownsRow_set (ownsRow_set hv h.blk (by decide)) b1 (by decide)
  · rw [Below.heap_setCell _ _ _ _ (by exact hi), Below.heap_setCell _ _ _ _ (by exact hi)]
set_option maxHeartbeats 2000000 in
theorem keep_ok (w : World) (B : Nat) (m : FR) (h : FOK w B m) (hBw : B ≤ w.heap.size) (k : Nat) (hk : k ≤ m.l.length) (hl : m.l.length ≤ 16777216) :
    Calls Tryz.prog 110 #[.pointer (some ⟨m.blk, 0, none⟩), .int .i64 (k : Nat)] w (KeepEnd w B m k) := by
  obtain ⟨c0, c1, f0, f1⟩ := h.cells
  rcases h.own.2 with ⟨hv, h0⟩ | ⟨g, cap, cur, hv, hB, hh, hnc, hcm, hcs, htk⟩
  · have hk0 : k = 0 := by omega
    subst hk0
    obtain ⟨a1, a2, a3, a4⟩ := cut_world h 0 (by omega) (.slice none 0 0) (by simp [bcells]; exact ⟨rfl, .inl ⟨rfl, rfl⟩⟩) (by rw [hv])
    have HE : Hid (KeepEnd w B m 0 (.returned (.tuple #[])) ((w.setCell ⟨m.blk, 0, none⟩ (.slice none 0 0)).setCell ⟨m.blk, 1, none⟩ (.int .i64 (0 : Nat)))) := ⟨rfl, _, a1, a2, fun i hi h1 => a3 i h1, fun g hg => by simp [Value.ownBlock] at hg⟩
    rw [hv] at c0
    obtain ⟨q, hq⟩ : ∃ q, m.blk = q := ⟨_, rfl⟩
    rw [hq] at c0 c1 f0 f1 HE ⊢
    clear a1 a2 a3 a4 h hv h0 hk hl
    go_enter Tryz.func110, Tryz.ntmps110
    go_wp2
    go_end0
    exact HE.out
  · have hown := ownsRow_take (hv ▸ h.own) hk
    rw [bcells_take] at hown
    obtain ⟨a1, a2, a3, a4⟩ := cut_world h k hk (.slice (some ⟨g, 0, none⟩) k cap) hown (by rw [hv]; rfl)
    obtain ⟨q, hq⟩ : ∃ q, m.blk = q := ⟨_, rfl⟩
    have HQ : Hid (m.blk = q) := hq
    obtain ⟨L, hL⟩ : ∃ q, m.l.length = q := ⟨_, rfl⟩
    rw [hv, hL] at c0
    obtain ⟨w1, hw1⟩ : ∃ W, (w.setCell ⟨m.blk, 0, none⟩ (.slice (some ⟨g, 0, none⟩) k cap)).setCell ⟨m.blk, 1, none⟩ (.int .i64 (k : Nat)) = W := ⟨_, rfl⟩
    rw [hw1] at a1 a2 a3 a4
    have HA : Hid (FOK w1 B { m with v := .slice (some ⟨g, 0, none⟩) k cap, l := m.l.take k, n := k } ∧ VF B w w1 ∧ (∀ i, i ≠ m.blk → w1.heap[i]? = w.heap[i]?) ∧ w1.heap.size = w.heap.size) := ⟨a1, a2, a3, a4⟩
    have hkL : (k : Int) ≤ (L : Int) := by omega
    have hk1 : (0 : Int) ≤ (k : Int) := by omega
    have hLc : L ≤ cap := by omega
    have hkc : k ≤ cap := by omega
    have hkci : (k : Int) ≤ (cap : Int) := by omega
    have hmul : wrap64 (2 * (k : Int)) = ((2 * k : Nat) : Int) := by rw [show (2 * (k : Int)) = ((2 * k : Nat) : Int) by omega]; exact wrapN64 _ (by omega)
    have HV : Hid (m.v.ownBlock = some g) := by rw [hv]; rfl
    have HB : Hid (B ≤ w.heap.size ∧ k ≤ m.l.length ∧ m.l.length ≤ 16777216) := ⟨hBw, hk, hl⟩
    rw [hq] at c0 c1 f0 f1 hw1 ⊢
    clear a1 a2 a3 a4 hown hh hcs htk hcm hnc h hv hq hL hk hl hBw hB
    obtain ⟨d0, d1, e0, e1⟩ := HA.out.1.cells
    simp only [HQ.out] at d0 d1 e0 e1
    clear d1 e1
    by_cases hc : 2 * k < cap
    · have hci : ((2 * k : Nat) : Int) < (cap : Int) := by omega
      have HC : Hid (∀ _ : Unit, Calls Tryz.prog 161 #[.slice (some ⟨g, 0, none⟩) k cap] w1 fun e w' => ∃ v', e = .returned v' ∧ w'.ownsRow w1.heap.size 5 1 v' k (bcells (m.l.take k)) ∧ v' ≠ .slice none 0 0 ∧ Below w1.heap.size w1 w') := fun _ => by
        have hl : (m.l.take k).length = k := by have := HB.out; simp; omega
        have h1 := bclone w1 B g cap (m.l.take k) (by rw [hl]; have := HA.out.1.own; simp only [hl] at this; exact this) (by have := HB.out; omega)
        rw [hl] at h1
        exact h1
      clear hc
      go_enter Tryz.func110, Tryz.ntmps110
      go_wp2_with fail
      refine (HC.out ()).mono ?_
      rintro e w2 ⟨v2, rfl, hown2, hnn, hb2⟩
      obtain ⟨g2, cap2, rfl, hg2⟩ : ∃ g2 cap2, v2 = .slice (some ⟨g2, 0, none⟩) k cap2 ∧ w1.heap.size ≤ g2 := by
        rcases hown2.2 with ⟨e, _⟩ | ⟨g', cap', cur', e1, e2, _⟩
        · exact absurd e hnn
        · exact ⟨g', cap', e1, e2⟩
      have hF2 := HA.out.1.below hb2
      obtain ⟨x0, x1, y0, y1⟩ := hF2.cells
      simp only [HQ.out] at x0 y0
      have HE : Hid (KeepEnd w B m k (.returned (.tuple #[])) (w2.setCell ⟨q, 0, none⟩ (.slice (some ⟨g2, 0, none⟩) k cap2))) := by
        obtain ⟨a1, a2, a3, a4⟩ := HA.out
        have hbl := hF2.blk
        have hBB : B ≤ w1.heap.size := by rw [a4]; exact HB.out.1
        simp only [HQ.out] at hbl
        have hl : (m.l.take k).length = k := by have := HB.out; simp; omega
        refine ⟨rfl, .slice (some ⟨g2, 0, none⟩) k cap2, ⟨?_, ?_, a1.bytes, a1.le, a1.hB⟩, (a2.trans (VF.of hb2 hBB)).trans (VF.file hbl (by have := a1.hB; simp only [HQ.out] at this; exact this) _), fun i hi h1 => ?_, fun g hg => ?_⟩
        · have := block_setCell (i := 0) (u := .slice (some ⟨g2, 0, none⟩) k cap2) hbl
          simp only [HQ.out]
          exact this
        · show World.ownsRow _ B _ 1 (.slice (some ⟨g2, 0, none⟩) k cap2) (m.l.take k).length (bcells (m.l.take k))
          rw [hl]
          exact ownsRow_set (ownsRow_rebase hown2 (fun g hg => Nat.le_trans hBB (by
            have e : g2 = g := by simpa [Value.ownBlock] using hg
            omega))) hbl (by decide)
        · rw [Below.heap_setCell _ _ _ _ (by show i ≠ q; rw [← HQ.out]; exact h1), hb2.block i (by rw [a4]; exact hi), a3 i h1]
        · right
          have e : g2 = g := by simpa [Value.ownBlock] using hg
          rw [← a4]; omega
      clear hown2 hnn hb2 hg2 hF2 x1 y1 d0 e0
      go_wp2
      go_end0
      exact HE.out
    · have hci : ¬ ((2 * k : Nat) : Int) < (cap : Int) := by omega
      have HE : Hid (KeepEnd w B m k (.returned (.tuple #[])) w1) := by
        obtain ⟨a1, a2, a3, a4⟩ := HA.out
        exact ⟨rfl, _, a1, a2, fun i hi h1 => a3 i h1, fun g' hg' => .inl (by rw [HV.out, ← hg']; rfl)⟩
      clear hc
      go_enter Tryz.func110, Tryz.ntmps110
      go_wp2
      go_end0
      exact HE.out
end Go.Proofs.YtcjlcieheepegaaGreatDoor.V8
namespace Go.Proofs.YtcjlcieheepegaaGreatDoor.V8
open Go.RowKit Go.Maps
set_option linter.unusedVariables false
set_option maxRecDepth 20000
set_option maxRecDepth 20000

theorem crash_nat (y t : Nat) (n : Int) : (y : Int) + min (max n 0) (t : Int) = ((y + min n.toNat t : Nat) : Int) := by
  have e : min (max n 0) (t : Int) = ((min n.toNat t : Nat) : Int) := by
    by_cases h : n ≤ 0
    · rw [Int.max_eq_right h, Int.toNat_of_nonpos h, Nat.zero_min, Int.min_eq_left (by omega)]; rfl
    · rw [Int.max_eq_left (by omega)]
      by_cases h2 : n ≤ (t : Int)
      · rw [Int.min_eq_left h2, Nat.min_eq_left (by omega), Int.toNat_of_nonneg (by omega)]
      · rw [Int.min_eq_right (by omega), Nat.min_eq_right (by omega)]
  rw [e, Int.natCast_add]
theorem crash_arith (y t : Nat) (n : Int) (hl : y + t ≤ 16777216) : wrap64 ((y : Int) + min (max n 0) (t : Int)) = ((y + min n.toNat t : Nat) : Int) := by
  rw [crash_nat]
  exact wrapN64 _ (Nat.le_trans (Nat.add_le_add_left (Nat.min_le_right _ _) _) (Nat.le_trans hl (by decide)))
end Go.Proofs.YtcjlcieheepegaaGreatDoor.V8
namespace Go.Proofs.YtcjlcieheepegaaGreatDoor.V8
open Go.RowKit Go.Maps
set_option linter.unusedVariables false
set_option maxRecDepth 20000
set_option maxRecDepth 20000

/-- Behind a cut: what the disk holds. -/
theorem VD.kept {w w' : World} {B d room bm : Nat} {M : List FR} {m : FR} {k : Nat} {e : Ending} {F : List UInt8 → Option (List Nat × Nat)} (h : VM w B d room bm M) (hm : m ∈ M) (hk : k ≤ m.l.length) (hE : KeepEnd w B m k e w') (hl : ∀ t, look M t = F t) :
    VD w' B d room (upd F m.name (some (m.l.take k, k))) M.length (used M - (m.l.length - k)) ∧ VF B w w' := by
  obtain ⟨-, v', a1, a2, a3, a4⟩ := hE
  refine ⟨?_, a2⟩
  have hu := used_mem hm
  have := VD.turned h hm { m with v := v', l := m.l.take k, n := k } rfl rfl (fun i hi h1 _ => a3 i hi h1) a1 a4 (used M - (m.l.length - k)) (by simp; omega) (by have := h.hused; omega) hl
  exact this
set_option maxHeartbeats 1000000 in
theorem cut_none (w : World) (B d room cnt us : Nat) (F : List UInt8 → Option (List Nat × Nat)) (h : VD w B d room F cnt us) (s : ByteArray) (hm : May s) (hs : F s.data.toList = none) (k : Nat) :
    Calls Tryz.prog 86 #[.pointer (some ⟨d, 0, none⟩), .string s, .int .i64 (k : Nat)] w fun e w' => e = .returned (.int .i64 3) ∧ w' = w := by
  obtain ⟨bm, M, h1, h2, h3, h4⟩ := h
  have HF : Hid (∀ _ : Unit, Calls Tryz.prog 53 #[.pointer (some ⟨d, 0, none⟩), .string s] w fun e w' => e = .returned (.tuple #[.pointer none, .int .i64 3]) ∧ w' = w) := fun _ => find_none w B d room bm M h1 s hm (look_none ((h2 _).trans hs))
  have hk : ¬ (k : Int) < 0 := by omega
  clear h1 h2 h3 h4 hs hm
  go_enter Tryz.func86, Tryz.ntmps86
  go_wp2_with fail
  refine (HF.out ()).mono ?_
  rintro e W ⟨rfl, hW⟩
  obtain rfl := hW.symm
  go_wp2
  go_ret
  exact ⟨rfl, rfl⟩
set_option maxHeartbeats 1000000 in
theorem cut_over (w : World) (B d room cnt us : Nat) (F : List UInt8 → Option (List Nat × Nat)) (h : VD w B d room F cnt us) (s : ByteArray) (hm : May s) (l : List Nat) (n : Nat) (hs : F s.data.toList = some (l, n)) (k : Nat) (hk : l.length < k) :
    Calls Tryz.prog 86 #[.pointer (some ⟨d, 0, none⟩), .string s, .int .i64 (k : Nat)] w fun e w' => e = .returned (.int .i64 1) ∧ w' = w := by
  obtain ⟨bm, M, h1, h2, h3, h4⟩ := h
  obtain ⟨m, hf, e⟩ := look_some ((h2 _).trans hs)
  cases e
  have HF : Hid (∀ _ : Unit, Calls Tryz.prog 53 #[.pointer (some ⟨d, 0, none⟩), .string s] w fun e w' => e = .returned (.tuple #[.pointer (some ⟨m.blk, 0, none⟩), .int .i64 0]) ∧ w' = w) := fun _ => find_some w B d room bm M h1 s hm m hf
  have hK := h1.each m (findF_some hf).1
  obtain ⟨ao, cp, hv⟩ := hK.form
  have c0 := hK.cells.1
  obtain ⟨q, hq⟩ : ∃ q, m.blk = q := ⟨_, rfl⟩
  obtain ⟨L, hL⟩ : ∃ q, m.l.length = q := ⟨_, rfl⟩
  rw [hq] at HF c0
  rw [hv, hL] at c0
  rw [hL] at hk
  have hk0 : ¬ (k : Int) < 0 := by omega
  have hki : (L : Int) < (k : Int) := by omega
  clear h1 h2 h3 h4 hs hm hf hK hv hL hq hk
  go_enter Tryz.func86, Tryz.ntmps86
  go_wp2_with fail
  refine (HF.out ()).mono ?_
  rintro e W ⟨rfl, hW⟩
  obtain rfl := hW.symm
  go_wp2
  go_ret
  exact ⟨rfl, rfl⟩
set_option maxHeartbeats 1000000 in
theorem cut_some (w : World) (B d room cnt us : Nat) (F : List UInt8 → Option (List Nat × Nat)) (h : VD w B d room F cnt us) (s : ByteArray) (hm : May s) (l : List Nat) (n : Nat) (hs : F s.data.toList = some (l, n)) (k : Nat) (hk : k ≤ l.length) :
    Calls Tryz.prog 86 #[.pointer (some ⟨d, 0, none⟩), .string s, .int .i64 (k : Nat)] w fun e w' => e = .returned (.int .i64 0) ∧ VD w' B d room (upd F s.data.toList (some (l.take k, k))) cnt (us - (l.length - k)) ∧ VF B w w' := by
  obtain ⟨bm, M, h1, h2, h3, h4⟩ := h
  obtain ⟨m, hf, e⟩ := look_some ((h2 _).trans hs)
  cases e
  have HF : Hid (∀ _ : Unit, Calls Tryz.prog 53 #[.pointer (some ⟨d, 0, none⟩), .string s] w fun e w' => e = .returned (.tuple #[.pointer (some ⟨m.blk, 0, none⟩), .int .i64 0]) ∧ w' = w) := fun _ => find_some w B d room bm M h1 s hm m hf
  obtain ⟨hm1, hm2⟩ := findF_some hf
  have hK := h1.each m hm1
  have hl : m.l.length ≤ 16777216 := by have := used_mem hm1; have := h1.hused; have := h1.hroom; omega
  have HC : Hid (∀ _ : Unit, Calls Tryz.prog 110 #[.pointer (some ⟨m.blk, 0, none⟩), .int .i64 (k : Nat)] w (KeepEnd w B m k)) := fun _ => keep_ok w B m hK h1.base k hk hl
  have HE : Hid (∀ e w', KeepEnd w B m k e w' → VD w' B d room (upd F s.data.toList (some (m.l.take k, k))) cnt (us - (m.l.length - k)) ∧ VF B w w') := fun e w' hE => by
    have := VD.kept h1 hm1 hk hE h2
    rw [hm2, h3, h4] at this
    exact this
  obtain ⟨ao, cp, hv⟩ := hK.form
  have c0 := hK.cells.1
  obtain ⟨q, hq⟩ : ∃ q, m.blk = q := ⟨_, rfl⟩
  obtain ⟨L, hL⟩ : ∃ q, m.l.length = q := ⟨_, rfl⟩
  rw [hq] at HF c0 HC
  rw [hv, hL] at c0
  rw [hL] at hk HE ⊢
  have hk0 : ¬ (k : Int) < 0 := by omega
  have hki : ¬ (L : Int) < (k : Int) := by omega
  clear h1 h2 h3 h4 hs hm hf hK hv hL hq hk hm1 hm2
  go_enter Tryz.func86, Tryz.ntmps86
  go_wp2_with fail
  refine (HF.out ()).mono ?_
  rintro e W ⟨rfl, hW⟩
  obtain rfl := hW.symm
  go_wp2_with fail
  refine (HC.out ()).mono ?_
  intro e w' hE
  have H : Hid (VD w' B d room (upd F s.data.toList (some (m.l.take k, k))) cnt (us - (L - k)) ∧ VF B w w') := HE.out e w' hE
  obtain rfl := hE.1
  clear hE
  go_wp2
  go_ret
  exact ⟨rfl, H.out⟩
def crashK (m : FR) (n : Int) : Nat := m.n + min n.toNat (m.l.length - m.n)
/-- Behind a file's crash. -/
def CrashEnd (w : World) (B : Nat) (m : FR) (n : Int) (e : Ending) (w' : World) : Prop := ∃ w0, KeepEnd w0 B m (crashK m n) e w' ∧ Below w.heap.size w w0
set_option maxHeartbeats 1000000 in
theorem read_some (w : World) (B d room cnt us : Nat) (F : List UInt8 → Option (List Nat × Nat)) (h : VD w B d room F cnt us) (s : ByteArray) (hm : May s) (l : List Nat) (n : Nat) (hs : F s.data.toList = some (l, n)) (k : Nat) (hk : k ≤ l.length) :
    Calls Tryz.prog 61 #[.pointer (some ⟨d, 0, none⟩), .string s, .int .i64 0, .int .i64 (k : Nat)] w fun e w' => e = .returned (.tuple #[.string (toBA (l.take k)), .int .i64 0]) ∧ w' = w := by
  have hln := h.some_ hs
  have hbd := h.bounds
  obtain ⟨bm, M, h1, h2, h3, h4⟩ := h
  obtain ⟨m, hf, e⟩ := look_some ((h2 _).trans hs)
  cases e
  have HF : Hid (∀ _ : Unit, Calls Tryz.prog 53 #[.pointer (some ⟨d, 0, none⟩), .string s] w fun e w' => e = .returned (.tuple #[.pointer (some ⟨m.blk, 0, none⟩), .int .i64 0]) ∧ w' = w) := fun _ => find_some w B d room bm M h1 s hm m hf
  have hK := h1.each m (findF_some hf).1
  have c0 := hK.cells.1
  have hbt : ∀ x ∈ m.l.take k, x < 256 := fun x hx => hK.bytes x (List.mem_of_mem_take hx)
  obtain ⟨q, hq⟩ : ∃ q, m.blk = q := ⟨_, rfl⟩
  rw [hq] at HF c0
  have hk0 : ¬ (k : Int) < 0 := by omega
  rcases hK.own.2 with ⟨hv, h0⟩ | ⟨g, cap, cur, hv, hB, hh, hnc, hcm, hcs, htk⟩
  · have hk1 : k = 0 := by omega
    subst hk1
    have hcv := conv_row (P := Tryz.prog) w 47 9 5 B (.slice none 0 0) [] Tryz.underlying47 Tryz.underlying5 Tryz.underlying9 ⟨rfl, .inl ⟨rfl, rfl⟩⟩ (by simp)
    rw [hv] at c0
    rw [List.take_zero]
    clear h1 h2 h3 h4 hs hm hf hK hv h0 hq hk hbt hln hbd
    go_enter Tryz.func61, Tryz.ntmps61
    go_wp2_with fail
    refine (HF.out ()).mono ?_
    rintro e W ⟨rfl, hW⟩
    obtain rfl := hW.symm
    go_wp2
    go_ret2
    exact ⟨rfl, rfl⟩
  · have hown := ownsRow_take (hv ▸ hK.own) hk
    rw [bcells_take] at hown
    have hl : (m.l.take k).length = k := by simp; omega
    have hcv := conv_row (P := Tryz.prog) w 47 9 5 B (.slice (some ⟨g, 0, none⟩) k cap) (m.l.take k) Tryz.underlying47 Tryz.underlying5 Tryz.underlying9 (by rw [hl]; exact hown) hbt
    obtain ⟨L, hL⟩ : ∃ q, m.l.length = q := ⟨_, rfl⟩
    obtain ⟨R, hR⟩ : ∃ R, toBA (m.l.take k) = R := ⟨_, rfl⟩
    rw [hv, hL] at c0
    rw [hR] at hcv ⊢
    have hL0 : ¬ (L : Int) < 0 := by omega
    have hkL : ¬ (L : Int) < (k : Int) := by omega
    have hkc : k ≤ cap := by omega
    have hkci : (k : Int) ≤ (cap : Int) := by omega
    have hLc : L ≤ cap := by omega
    have hk2 : (0 : Int) ≤ (k : Int) := by omega
    have hLb : L ≤ 4611686018427387904 := by omega
    have hkb : k ≤ 4611686018427387904 := by omega
    have hadd' : wrap64 (k : Int) = (k : Int) := wrapN64 k hkb
    have hsub' : wrap64 (L : Int) = (L : Int) := wrapN64 L hLb
    have hsub : wrap64 ((L : Int) - 0) = (L : Int) := by rw [Int.sub_zero]; exact hsub'
    have hadd : wrap64 (0 + (k : Int)) = (k : Int) := by rw [Int.zero_add]; exact hadd'
    clear hLb hkb
    clear h1 h2 h3 h4 hs hm hf hK hv hq hk hbt hown hl hR hh hcm hcs htk hnc hL hln hbd
    go_enter Tryz.func61, Tryz.ntmps61
    go_wp2_with fail
    refine (HF.out ()).mono ?_
    rintro e W ⟨rfl, hW⟩
    obtain rfl := hW.symm
    go_wp2
    go_ret2
    exact ⟨rfl, rfl⟩
end Go.Proofs.YtcjlcieheepegaaGreatDoor.V8
namespace Go.Proofs.YtcjlcieheepegaaGreatDoor.V8
open Go.RowKit
set_option linter.unusedVariables false
set_option maxRecDepth 20000

theorem hideV {p : Prop} (h : p) : Hid p := h
set_option maxHeartbeats 1000000 in
theorem find_bad (w : World) (B d room cnt us : Nat) (F : List UInt8 → Option (List Nat × Nat)) (h : VD w B d room F cnt us) (s : ByteArray) (hs : s.size = 0 ∨ 32 < s.size) :
    Calls Tryz.prog 53 #[.pointer (some ⟨d, 0, none⟩), .string s] w fun e w' => e = .returned (.tuple #[.pointer none, .int .i64 1]) ∧ w' = w := by
  obtain ⟨bm, M, h1, h2, h3, h4⟩ := h
  obtain ⟨c0, c1, c2⟩ := h1.cells
  have HG : Hid (∀ _ : Unit, Calls Tryz.prog 63 #[.pointer (some ⟨d, 0, none⟩)] w fun e w' => e = .returned (.bool true) ∧ w' = w) := fun _ => given_ok w d c0
  have HM : Hid (∀ _ : Unit, Calls Tryz.prog 77 #[.string s] w fun e w' => e = .returned (.bool false) ∧ w' = w) := fun _ => mayBe_size w s hs
  clear h1 h2 h3 h4 hs
  go_enter Tryz.func53, Tryz.ntmps53
  go_wp2_with fail
  refine (HG.out ()).mono ?_
  rintro e w' ⟨rfl, rfl⟩
  go_wp2_with fail
  refine (HM.out ()).mono ?_
  rintro e w' ⟨rfl, rfl⟩
  go_wp2
  go_ret2
  exact ⟨rfl, rfl⟩
/-- Reading where find answers an error. -/
theorem read_err (w : World) (v : Value) (s : ByteArray) (c : Int) (hc : (c == 0) = false) (HF : Calls Tryz.prog 53 #[v, .string s] w fun e w' => e = .returned (.tuple #[.pointer none, .int .i64 c]) ∧ w' = w) :
    Calls Tryz.prog 61 #[v, .string s, .int .i64 0, .int .i64 0] w fun e w' => e = .returned (.tuple #[.string ⟨#[]⟩, .int .i64 c]) ∧ w' = w := by
  have HF' := hideV HF
  have hc' : (c != 0) = true := by simp [bne, hc]
  clear HF
  go_enter Tryz.func61, Tryz.ntmps61
  go_wp2_with fail
  refine HF'.out.mono ?_
  rintro e W ⟨rfl, hW⟩
  obtain rfl := hW.symm
  clear HF' hW
  go_wp2
  go_ret2
  exact ⟨rfl, rfl⟩
theorem read_less (w : World) (v : Value) (s : ByteArray) (c : Int) (HF : Calls Tryz.prog 53 #[v, .string s] w fun e w' => e = .returned (.tuple #[.pointer none, .int .i64 c]) ∧ w' = w) :
    Calls Tryz.prog 61 #[v, .string s, .int .i64 0, .int .i64 (-1)] w fun e w' => e = .returned (.tuple #[.string ⟨#[]⟩, .int .i64 1]) ∧ w' = w := by
  have HF' := hideV HF
  clear HF
  go_enter Tryz.func61, Tryz.ntmps61
  go_wp2_with fail
  refine HF'.out.mono ?_
  rintro e W ⟨rfl, hW⟩
  obtain rfl := hW.symm
  clear HF' hW
  go_wp2
  go_ret2
  exact ⟨rfl, rfl⟩
theorem find_none' (w : World) (B d room cnt us : Nat) (F : List UInt8 → Option (List Nat × Nat)) (h : VD w B d room F cnt us) (s : ByteArray) (hm : May s) (hs : F s.data.toList = none) :
    Calls Tryz.prog 53 #[.pointer (some ⟨d, 0, none⟩), .string s] w fun e w' => e = .returned (.tuple #[.pointer none, .int .i64 3]) ∧ w' = w := by
  obtain ⟨bm, M, h1, h2, h3, h4⟩ := h
  exact find_none w B d room bm M h1 s hm (look_none ((h2 _).trans hs))
def mayD (s : ByteArray) : Bool := decide (1 ≤ s.size) && decide (s.size ≤ 32) && s.data.toList.all (fun c => decide (33 ≤ c.toNat) && decide (c.toNat ≤ 126))
theorem mayD_ok {s : ByteArray} (h : mayD s = true) : May s := by
  simp only [mayD, Bool.and_eq_true, decide_eq_true_eq, List.all_eq_true] at h
  obtain ⟨⟨h1, h2⟩, h3⟩ := h
  refine ⟨h1, h2, fun i hi => ?_⟩
  have := h3 (s[i]'hi) (by
    have e : s[i]'hi = s.data[i]'hi := rfl
    rw [e]
    exact Array.getElem_mem_toList _)
  unfold okB
  rw [← bt_at s i hi]
  exact this
end Go.Proofs.YtcjlcieheepegaaGreatDoor.V8
namespace Go.Proofs.YtcjlcieheepegaaGreatDoor.V8
open Go.RowKit
set_option linter.unusedVariables false
set_option maxRecDepth 20000

theorem VD.typed {w w' : World} {B d room cnt us : Nat} {F : List UInt8 → Option (List Nat × Nat)} (h : VD w B d room F cnt us)
    (hk : ∀ (i : Nat) (cs : Array Value) (t : TypeId) (mk : Nat × Nat), w.heap[i]? = some (Obj.cells cs t mk) → t = 79 ∨ t = 105 ∨ t = 5 → w'.heap[i]? = w.heap[i]?)
    (hm : ∀ (i : Nat) (es : Array MapEntry) (c : Nat), w.heap[i]? = some (.map es c) → w'.heap[i]? = w.heap[i]?) : VD w' B d room F cnt us := by
  obtain ⟨bm, M, h1, h2⟩ := h
  obtain ⟨es, hD, hp⟩ := h1.own
  obtain ⟨es', c', hbm⟩ := h1.mapBlk
  exact ⟨bm, M, ⟨(hk d _ _ _ h1.blk (.inl rfl)).trans h1.blk, ⟨es, ownsMap_block hD (hm bm _ _ hbm), hp⟩, h1.apart, fun m hmm => (h1.each m hmm).block (hk _ _ _ _ (h1.each m hmm).blk (.inr (.inl rfl))) (fun g hg => by
    obtain ⟨cur, e, _⟩ := (h1.each m hmm).row hg
    exact hk g _ _ _ e (.inr (.inr rfl))), h1.hd, h1.hbm, h1.hroom, h1.hused, h1.hcnt⟩, h2⟩
end Go.Proofs.YtcjlcieheepegaaGreatDoor.V8
namespace Go.Proofs.YtcjlcieheepegaaGreatDoor.V8
open Go.RowKit
set_option linter.unusedVariables false
set_option maxRecDepth 20000

/-- string(b[a:a + k]) of bytes that lie in a row. -/
theorem conv_part {P : Program} (w : World) (src dst e : TypeId) (B g n cap : Nat) (l : List Nat) (hs : P.underlying src = some (.slice e)) (he : P.underlying e = some (.int .u8)) (hd : P.underlying dst = some .string)
    (hown : w.ownsRow B e 1 (.slice (some ⟨g, 0, none⟩) n cap) l.length (bcells l)) (hl : ∀ x ∈ l, x < 256) (a k c : Nat) (hak : a + k ≤ l.length) : (convert src dst (.slice (some ⟨g, a, none⟩) k c)).run P w = .ok (.string (toBA ((l.drop a).take k))) w := by
  have hlen : (((l.drop a).take k).map UInt8.ofNat).length = k := by simp; omega
  have := run_convert_bytes_back (P := P) w src dst e ⟨g, a, none⟩ c (((l.drop a).take k).map UInt8.ofNat) hs he hd (fun j hj => by
    have hj' : j < k := by rw [hlen] at hj; exact hj
    have hx := hl l[a + j] (List.getElem_mem _)
    have hc := hown.cells (g := g) rfl (a + j) (.int .u8 (l[a + j] : Nat)) (by simp [bcells, List.getElem?_eq_getElem (show a + j < l.length by omega)])
    have e1 : (⟨g, 0, none⟩ : Addr).add (a + j) = (⟨g, a, none⟩ : Addr).add j := by simp [Addr.add]; split <;> split <;> simp_all <;> omega
    rw [← e1, hc]
    simp
    omega)
  rw [hlen] at this
  rw [this]
  rfl
theorem read_at (w : World) (B d room cnt us : Nat) (F : List UInt8 → Option (List Nat × Nat)) (h : VD w B d room F cnt us) (s : ByteArray) (hm : May s) (l : List Nat) (n : Nat) (hs : F s.data.toList = some (l, n)) (a k : Nat) (hk : a + k ≤ l.length) (hk1 : 1 ≤ k) :
    Calls Tryz.prog 61 #[.pointer (some ⟨d, 0, none⟩), .string s, .int .i64 (a : Nat), .int .i64 (k : Nat)] w fun e w' => e = .returned (.tuple #[.string (toBA ((l.drop a).take k)), .int .i64 0]) ∧ w' = w := by
  have hln := h.some_ hs
  have hbd := h.bounds
  have h00 := h
  obtain ⟨bm, M, h1, h2, h3, h4⟩ := h
  obtain ⟨m, hf, e⟩ := look_some ((h2 _).trans hs)
  cases e
  have HF : Hid (∀ _ : Unit, Calls Tryz.prog 53 #[.pointer (some ⟨d, 0, none⟩), .string s] w fun e w' => e = .returned (.tuple #[.pointer (some ⟨m.blk, 0, none⟩), .int .i64 0]) ∧ w' = w) := fun _ => find_some w B d room bm M h1 s hm m hf
  have hK := h1.each m (findF_some hf).1
  have c0 := hK.cells.1
  obtain ⟨q, hq⟩ : ∃ q, m.blk = q := ⟨_, rfl⟩
  rw [hq] at HF c0
  have hk0 : ¬ (k : Int) < 0 := by omega
  have ha0 : ¬ (a : Int) < 0 := by omega
  rcases hK.own.2 with ⟨hv, h0⟩ | ⟨g, cap, cur, hv, hB, hh, hnc, hcm, hcs, htk⟩
  · omega
  · have hown := hK.own
    rw [hv] at hown
    have hcv := conv_part (P := Tryz.prog) w 47 9 5 B g m.l.length cap m.l Tryz.underlying47 Tryz.underlying5 Tryz.underlying9 hown hK.bytes a k (cap - a) hk
    obtain ⟨L, hL⟩ : ∃ q, m.l.length = q := ⟨_, rfl⟩
    obtain ⟨R, hR⟩ : ∃ R, toBA ((m.l.drop a).take k) = R := ⟨_, rfl⟩
    rw [hv, hL] at c0
    rw [hR] at hcv ⊢
    obtain ⟨z, hz⟩ : ∃ z, a + k = z := ⟨_, rfl⟩
    have hza : z - a = k := by omega
    have hza' : (z : Int).toNat - a = k := by omega
    have hzs : (a : Int) + (k : Int) = (z : Int) := by omega
    have haL : ¬ (L : Int) < (a : Int) := by omega
    obtain ⟨y, hy⟩ : ∃ y, L - a = y := ⟨_, rfl⟩
    have hys : (L : Int) - (a : Int) = (y : Int) := by omega
    have hky : ¬ (y : Int) < (k : Int) := by omega
    have haz : (a : Int) ≤ (z : Int) := by omega
    have hazn : a ≤ z := by omega
    have hzc : z ≤ cap := by omega
    have hca : ¬ cap = a := by omega
    have hzci : (z : Int) ≤ (cap : Int) := by omega
    have hyb : y ≤ 16777216 := by omega
    have hzb : z ≤ 16777216 := by omega
    have hab : a ≤ 16777216 := by omega
    have hkb : k ≤ 16777216 := by omega
    have hLb : L ≤ 16777216 := by omega
    clear h1 h2 h3 h4 hs hm hf hK hv hq hk hk1 hown hR hh hcm hcs htk hnc hL hln hbd hz hy hB h00
    go_enter Tryz.func61, Tryz.ntmps61
    go_wp2_with fail
    refine (HF.out ()).mono ?_
    rintro e W ⟨rfl, hW⟩
    obtain rfl := hW.symm
    go_wp2
    go_ret2
    exact ⟨rfl, rfl⟩
end Go.Proofs.YtcjlcieheepegaaGreatDoor.V8
namespace Go.Proofs.YtcjlcieheepegaaGreatDoor.V8
open Go.RowKit
set_option linter.unusedVariables false
set_option maxRecDepth 20000

theorem sync_none (w : World) (B d room cnt us : Nat) (F : List UInt8 → Option (List Nat × Nat)) (h : VD w B d room F cnt us) (s : ByteArray) (hm : May s) (hs : F s.data.toList = none) :
    Calls Tryz.prog 58 #[.pointer (some ⟨d, 0, none⟩), .string s] w fun e w' => e = .returned (.int .i64 3) ∧ w' = w := by
  obtain ⟨bm, M, h1, h2, h3, h4⟩ := h
  have HF : Hid (∀ _ : Unit, Calls Tryz.prog 53 #[.pointer (some ⟨d, 0, none⟩), .string s] w fun e w' => e = .returned (.tuple #[.pointer none, .int .i64 3]) ∧ w' = w) := fun _ => find_none w B d room bm M h1 s hm (look_none ((h2 _).trans hs))
  clear h1 h2 h3 h4 hs hm
  go_enter Tryz.func58, Tryz.ntmps58
  go_wp2_with fail
  refine (HF.out ()).mono ?_
  rintro e w' ⟨rfl, rfl⟩
  go_wp2
  go_ret
  exact ⟨rfl, rfl⟩
end Go.Proofs.YtcjlcieheepegaaGreatDoor.V8
namespace Go.Proofs.YtcjlcieheepegaaGreatDoor.V8
open Go.RowKit Go.Maps
set_option linter.unusedVariables false
set_option maxRecDepth 20000
set_option maxRecDepth 20000

/-- What a disk is made of. -/
def FPM (d bm : Nat) (M : List FR) (i : Nat) : Prop := i = d ∨ i = bm ∨ ∃ m ∈ M, i = m.blk ∨ m.v.ownBlock = some i
/-- Nothing outside a zone has turned. -/
def KO (O : Nat → Prop) (w w' : World) : Prop := ∀ i, i < w.heap.size → ¬ O i → w'.heap[i]? = w.heap[i]?
/-- A zone, and all that is new. -/
def Zn (O : Nat → Prop) (w : World) (i : Nat) : Prop := O i ∨ w.heap.size ≤ i
/-- A disk within a zone. -/
def VX (w : World) (B d room : Nat) (F : List UInt8 → Option (List Nat × Nat)) (cnt us : Nat) (O : Nat → Prop) : Prop := ∃ bm M, VM w B d room bm M ∧ (∀ t, look M t = F t) ∧ M.length = cnt ∧ used M = us ∧ ∀ i, FPM d bm M i → O i
theorem VX.vd {w : World} {B d room cnt us : Nat} {F : List UInt8 → Option (List Nat × Nat)} {O : Nat → Prop} (h : VX w B d room F cnt us O) : VD w B d room F cnt us := by
  obtain ⟨bm, M, h1, h2, h3, h4, _⟩ := h
  exact ⟨bm, M, h1, h2, h3, h4⟩
theorem VX.wide {w : World} {B d room cnt us : Nat} {F : List UInt8 → Option (List Nat × Nat)} {O O' : Nat → Prop} (h : VX w B d room F cnt us O) (hO : ∀ i, O i → O' i) : VX w B d room F cnt us O' := by
  obtain ⟨bm, M, h1, h2, h3, h4, h5⟩ := h
  exact ⟨bm, M, h1, h2, h3, h4, fun i hi => hO i (h5 i hi)⟩
theorem FPM.lt {w : World} {B d room bm : Nat} {M : List FR} (h : VM w B d room bm M) {i : Nat} (hi : FPM d bm M i) : i < w.heap.size := by
  rcases hi with rfl | rfl | ⟨m, hm, rfl | e⟩
  · exact h.lt.1
  · exact h.lt.2
  · exact (h.each m hm).lt.1
  · exact (h.each m hm).lt.2 i e
theorem VX.keep {w w' : World} {B d room cnt us : Nat} {F : List UInt8 → Option (List Nat × Nat)} {O : Nat → Prop} (h : VX w B d room F cnt us O) (hk : ∀ i, O i → i < w.heap.size → w'.heap[i]? = w.heap[i]?) : VX w' B d room F cnt us O := by
  obtain ⟨bm, M, h1, h2, h3, h4, h5⟩ := h
  have K : ∀ i, FPM d bm M i → w'.heap[i]? = w.heap[i]? := fun i hi => hk i (h5 i hi) (FPM.lt h1 hi)
  obtain ⟨es, hD, hp⟩ := h1.own
  exact ⟨bm, M, ⟨(K d (.inl rfl)).trans h1.blk, ⟨es, ownsMap_block hD (K bm (.inr (.inl rfl))), hp⟩, h1.apart, fun m hm => (h1.each m hm).block (K _ (.inr (.inr ⟨m, hm, .inl rfl⟩))) (fun g hg => K g (.inr (.inr ⟨m, hm, .inr hg⟩))), h1.hd, h1.hbm, h1.hroom, h1.hused, h1.hcnt⟩, h2, h3, h4, h5⟩
theorem VX.below {w w' : World} {B d room cnt us : Nat} {F : List UInt8 → Option (List Nat × Nat)} {O : Nat → Prop} (h : VX w B d room F cnt us O) (hb : Below w.heap.size w w') : VX w' B d room F cnt us O :=
  h.keep fun i _ hi => hb.block i hi
theorem VX.typed {w w' : World} {B d room cnt us : Nat} {F : List UInt8 → Option (List Nat × Nat)} {O : Nat → Prop} (h : VX w B d room F cnt us O)
    (hk : ∀ (i : Nat) (cs : Array Value) (t : TypeId) (mk : Nat × Nat), w.heap[i]? = some (Obj.cells cs t mk) → t = 79 ∨ t = 105 ∨ t = 5 → w'.heap[i]? = w.heap[i]?)
    (hm : ∀ (i : Nat) (es : Array MapEntry) (c : Nat), w.heap[i]? = some (.map es c) → w'.heap[i]? = w.heap[i]?) : VX w' B d room F cnt us O := by
  obtain ⟨bm, M, h1, h2⟩ := h
  obtain ⟨es, hD, hp⟩ := h1.own
  obtain ⟨es', c', hbm⟩ := h1.mapBlk
  exact ⟨bm, M, ⟨(hk d _ _ _ h1.blk (.inl rfl)).trans h1.blk, ⟨es, ownsMap_block hD (hm bm _ _ hbm), hp⟩, h1.apart, fun m hmm => (h1.each m hmm).block (hk _ _ _ _ (h1.each m hmm).blk (.inr (.inl rfl))) (fun g hg => by
    obtain ⟨cur, e, _⟩ := (h1.each m hmm).row hg
    exact hk g _ _ _ e (.inr (.inr rfl))), h1.hd, h1.hbm, h1.hroom, h1.hused, h1.hcnt⟩, h2⟩
theorem KO.trans {O O' : Nat → Prop} {a b c : World} (h : KO O a b) (k : KO O' b c) (hs : a.heap.size ≤ b.heap.size) (hO : ∀ i, i < a.heap.size → O' i → O i) : KO O a c := fun i hi hn => by
  rw [k i (by omega) (fun h' => hn (hO i hi h'))]
  exact h i hi hn
theorem KO.below {O : Nat → Prop} {w w' : World} (h : Below w.heap.size w w') : KO O w w' := fun i hi _ => h.block i hi
theorem VX.turned {w w' : World} {B d room bm : Nat} {M : List FR} {m : FR} {O : Nat → Prop} (h : VM w B d room bm M) (hm : m ∈ M) (m' : FR) (hn : m'.name = m.name) (hb : m'.blk = m.blk) (hk : ∀ i, i < w.heap.size → i ≠ m.blk → m.v.ownBlock ≠ some i → w'.heap[i]? = w.heap[i]?)
    (hF : FOK w' B m') (hnew : ∀ g, m'.v.ownBlock = some g → m.v.ownBlock = some g ∨ w.heap.size ≤ g) (us' : Nat) (hus : us' + m.l.length = used M + m'.l.length) (hu : us' ≤ room) {F : List UInt8 → Option (List Nat × Nat)} (hl : ∀ t, look M t = F t) (hO : ∀ i, FPM d bm M i → O i) : VX w' B d room (upd F m.name (some (m'.l, m'.n))) M.length us' (Zn O w) := by
  obtain ⟨A, C, rfl⟩ := List.append_of_mem hm
  have hu' : used (A ++ m' :: C) = us' := by rw [used_split] at hus ⊢; omega
  have h' := h.turned hn hb hk hF hnew (hu'.symm ▸ hu)
  refine ⟨bm, A ++ m' :: C, h', fun t => ?_, by simp, hu', fun i hi => ?_⟩
  · rw [look_split h'.apart, hn]
    unfold upd
    by_cases e : t = m.name
    · simp [e]
    · rw [if_neg e, if_neg e, ← hl, look_split h.apart, if_neg e]
  · rcases hi with rfl | rfl | ⟨x, hx, hi⟩
    · exact .inl (hO _ (.inl rfl))
    · exact .inl (hO _ (.inr (.inl rfl)))
    · have hx' : x ∈ A ++ m :: C ∨ x = m' := by
        rcases List.mem_append.1 hx with h1 | h1
        · exact .inl (by simp [h1])
        · rcases List.mem_cons.1 h1 with rfl | h1
          · exact .inr rfl
          · exact .inl (by simp [h1])
      rcases hx' with hx' | rfl
      · exact .inl (hO _ (.inr (.inr ⟨x, hx', hi⟩)))
      · rcases hi with rfl | e
        · exact .inl (hO _ (.inr (.inr ⟨m, hm, .inl hb⟩)))
        · rcases hnew i e with h1 | h1
          · exact .inl (hO _ (.inr (.inr ⟨m, hm, .inr h1⟩)))
          · exact .inr h1
set_option maxHeartbeats 1000000 in
theorem put_x (w : World) (B d room bm : Nat) (M : List FR) (h : VM w B d room bm M) (s : ByteArray) (hs : s.size ≤ 32) (m : FR) (hn : m.name = s.data.toList) (hF : FOK w B m) (hap : ∀ x ∈ rm M m.name, Apart x m) (hu : used (m :: rm M m.name) ≤ room) (hc : (m :: rm M m.name).length ≤ 256) :
    Calls Tryz.prog 55 #[.pointer (some ⟨d, 0, none⟩), .string s, .pointer (some ⟨m.blk, 0, none⟩)] w fun e w' => e = .returned (.tuple #[]) ∧ VM w' B d room bm (m :: rm M m.name) ∧ VF B w w' ∧ ∀ i, i < w.heap.size → i ≠ bm → w'.heap[i]? = w.heap[i]? := by
  have HV : Hid (VM w B d room bm M ∧ FOK w B m) := ⟨h, hF⟩
  have HCl : Hid (∀ W, Calls Tryz.prog 43 #[.string s] W fun e w' => e = .returned (.string s) ∧ Below W.heap.size W w') := fun W => clone s W (by omega)
  have HS : Hid (∀ W, Below w.heap.size w W → W.cell? ⟨d, 2, none⟩ = some (.map (some bm)) ∧ ∃ w', (Instr.mapUpdate 77 (.map (some bm)) (.string s) (.pointer (some ⟨m.blk, 0, none⟩))).run Tryz.prog W = .ok () w' ∧ Hid (VM w' B d room bm (m :: rm M m.name) ∧ VF B w w' ∧ ∀ i, i < w.heap.size → i ≠ bm → w'.heap[i]? = w.heap[i]?)) := fun W hW => by
    have h1 := HV.out.1.below hW
    obtain ⟨w', r1, r2, r3, r4⟩ := h1.store s hs m hn (HV.out.2.below hW) hap hu hc
    exact ⟨h1.cells.2.2, w', r1, r2, (VF.of hW HV.out.1.base).trans r3, fun i hi hn => (r4.block i (Nat.lt_of_lt_of_le hi hW.size) (fun e => hn (by simpa using e))).trans (hW.block i hi)⟩
  obtain ⟨c0, c1, c2⟩ := h.cells
  obtain ⟨q, hq⟩ : ∃ q, m.blk = q := ⟨_, rfl⟩
  rw [hq] at HS ⊢
  clear h hF hap hu hc hs hn hq
  go_enter Tryz.func55, Tryz.ntmps55
  go_wp2_with fail
  go_region_with (go_at_call 43; refine (HCl.out _).mono ?_; rintro e w3 ⟨rfl, hb3⟩; have hb4 : Below w.heap.size w w3 := ⟨hb3.os, hb3.tape, hb3.output, hb3.size, hb3.block⟩; obtain ⟨d2, w5, hrun, H5⟩ := HS.out w3 hb4; clear hb3 hb4)
  all_goals
    go_wp2
    go_end0
    exact ⟨rfl, H5.out⟩
set_option maxHeartbeats 1000000 in
theorem sync_x (w : World) (B d room cnt us : Nat) (F : List UInt8 → Option (List Nat × Nat)) (O : Nat → Prop) (h : VX w B d room F cnt us O) (s : ByteArray) (hm : May s) (l : List Nat) (n : Nat) (hs : F s.data.toList = some (l, n)) :
    Calls Tryz.prog 58 #[.pointer (some ⟨d, 0, none⟩), .string s] w fun e w' => e = .returned (.int .i64 0) ∧ VX w' B d room (upd F s.data.toList (some (l, l.length))) cnt us (Zn O w) ∧ VF B w w' ∧ KO O w w' := by
  obtain ⟨bm, M, h1, h2, h3, h4, h5⟩ := h
  obtain ⟨m, hf, e⟩ := look_some ((h2 _).trans hs)
  cases e
  have HF : Hid (∀ _ : Unit, Calls Tryz.prog 53 #[.pointer (some ⟨d, 0, none⟩), .string s] w fun e w' => e = .returned (.tuple #[.pointer (some ⟨m.blk, 0, none⟩), .int .i64 0]) ∧ w' = w) := fun _ => find_some w B d room bm M h1 s hm m hf
  obtain ⟨hm1, hm2⟩ := findF_some hf
  have hK := h1.each m hm1
  have HE : Hid (VX (w.setCell ⟨m.blk, 1, none⟩ (.int .i64 (m.l.length : Nat))) B d room (upd F s.data.toList (some (m.l, m.l.length))) cnt us (Zn O w) ∧ VF B w (w.setCell ⟨m.blk, 1, none⟩ (.int .i64 (m.l.length : Nat))) ∧ KO O w (w.setCell ⟨m.blk, 1, none⟩ (.int .i64 (m.l.length : Nat)))) := by
    refine ⟨?_, VF.file hK.blk hK.hB _, fun i hi hn => Below.heap_setCell _ _ _ _ (fun e => hn (h5 i (.inr (.inr ⟨m, hm1, .inl e⟩))))⟩
    have := VX.turned h1 hm1 { m with n := m.l.length } rfl rfl (fun i hi h1 _ => Below.heap_setCell _ _ _ _ h1) hK.synced (fun g hg => .inl hg) us (by simp; omega) (h4 ▸ h1.hused) h2 h5
    rw [hm2, h3] at this
    exact this
  obtain ⟨ao, cp, hv⟩ := hK.form
  obtain ⟨c0, c1, f0, f1⟩ := hK.cells
  obtain ⟨q, hq⟩ : ∃ q, m.blk = q := ⟨_, rfl⟩
  obtain ⟨L, hL⟩ : ∃ q, m.l.length = q := ⟨_, rfl⟩
  rw [hq] at HF c0 f1 c1 HE
  rw [hv, hL] at c0
  rw [hL] at HE
  rw [hL]
  clear h1 h2 h3 h4 h5 hs hm hf hK hv hL hq hm1 hm2 f0
  go_enter Tryz.func58, Tryz.ntmps58
  go_wp2_with fail
  refine (HF.out ()).mono ?_
  rintro e W ⟨rfl, hW⟩
  obtain rfl := hW.symm
  go_wp2
  go_ret
  exact ⟨rfl, HE.out⟩
theorem VX.grew {w1 w2 : World} {B d room bm q us cnt : Nat} {M : List FR} {m : FR} {t : ByteArray} {v v2 : Value} {F : List UInt8 → Option (List Nat × Nat)} {O : Nat → Prop} (h : VM w1 B d room bm M) (hG : Grew w1 w2 B q m t v v2) (hm : m ∈ M) (hl : ∀ t, look M t = F t) (hc : M.length = cnt) (hu : used M = us) (hr : us + t.size ≤ room) (hO : ∀ i, FPM d bm M i → O i) :
    VX (w2.setCell ⟨q, 0, none⟩ v2) B d room (upd F m.name (some (m.l ++ bytesOf t, m.n))) cnt (us + t.size) (Zn O w1) ∧ KO O w1 (w2.setCell ⟨q, 0, none⟩ v2) := by
  obtain ⟨-, -, j4, j5, j6, j7⟩ := hG
  have := VX.turned h hm { m with v := v2, l := m.l ++ bytesOf t } rfl rfl j6 j4 (fun g hg => by
      rcases j7 with e | e
      · exact .inl (e ▸ hg)
      · rw [show ({ m with v := v2, l := m.l ++ bytesOf t } : FR).v = v2 from rfl, e] at hg; cases hg; exact .inr (Nat.le_refl _)) (us + t.size) (by simp [bytesOf_length]; omega) hr hl hO
  rw [hc] at this
  exact ⟨this, fun i hi hn => j6 i hi (fun e => hn (hO i (.inr (.inr ⟨m, hm, .inl e⟩)))) (fun e => hn (hO i (.inr (.inr ⟨m, hm, .inr e⟩))))⟩
set_option maxHeartbeats 4000000 in
theorem append_somex (w : World) (B d room cnt us : Nat) (F : List UInt8 → Option (List Nat × Nat)) (O : Nat → Prop) (h : VX w B d room F cnt us O) (s t : ByteArray) (hm : May s) (l : List Nat) (n : Nat) (hs : F s.data.toList = some (l, n)) (hr : us + t.size ≤ room) :
    Calls Tryz.prog 32 #[.pointer (some ⟨d, 0, none⟩), .string s, .string t] w fun e w' => e = .returned (.int .i64 0) ∧ VX w' B d room (upd F s.data.toList (some (l ++ bytesOf t, n))) cnt (us + t.size) (Zn O w) ∧ VF B w w' ∧ KO O w w' := by
  obtain ⟨bm, M, h1, h2, h3, h4, h5⟩ := h
  have HO5 : Hid (∀ i, FPM d bm M i → O i) := h5
  obtain ⟨m, hf, e⟩ := look_some ((h2 _).trans hs)
  cases e
  have HF : Hid (∀ _ : Unit, Calls Tryz.prog 53 #[.pointer (some ⟨d, 0, none⟩), .string s] w fun e w' => e = .returned (.tuple #[.pointer (some ⟨m.blk, 0, none⟩), .int .i64 0]) ∧ w' = w) := fun _ => find_some w B d room bm M h1 s hm m hf
  have HU : Hid (∀ W, VM W B d room bm M → Calls Tryz.prog 54 #[.pointer (some ⟨d, 0, none⟩)] W fun e w' => e = .returned (.int .i64 (us : Nat)) ∧ Below W.heap.size W w') := fun W hW => by rw [← h4]; exact used_ok W B d room bm M hW
  obtain ⟨hm1, hm2⟩ := findF_some hf
  have hK := h1.each m hm1
  have HV : Hid (VM w B d room bm M ∧ m ∈ M ∧ (∀ t, look M t = F t) ∧ M.length = cnt ∧ used M = us ∧ m.name = s.data.toList) := ⟨h1, hm1, h2, h3, h4, hm2⟩
  have hml : m.l.length ≤ us := h4 ▸ used_mem hm1
  have hroom := h1.hroom
  have hus : us ≤ room := h4 ▸ h1.hused
  obtain ⟨c0, c1, c2⟩ := h1.cells
  obtain ⟨i0, hi, hz0, hz1, hz2⟩ := info_parts infoB
  obtain ⟨df, hdf⟩ : ∃ x, room - us = x := ⟨_, rfl⟩
  have hsub : wrap64 ((room : Int) - (us : Int)) = ((room - us : Nat) : Int) := by rw [← Int.natCast_sub hus]; exact wrapN64 _ (by omega)
  rw [hdf] at hsub
  have hcmp : ¬ (df : Int) < (t.size : Int) := by omega
  have hdec : decide (wrap64 ((room : Int) - (us : Int)) < (t.size : Int)) = false := by rw [hsub]; simp; omega
  have hdec2 : decide (IntKind.i64.wrap ((room : Int) - (us : Int)) < (t.size : Int)) = false := by
    have e : IntKind.i64.wrap ((room : Int) - (us : Int)) = ((room - us : Nat) : Int) := by rw [← Int.natCast_sub hus]; exact wrapN _ (by omega)
    rw [e, hdf]; simp; omega
  obtain ⟨q, hq⟩ : ∃ q, m.blk = q := ⟨_, rfl⟩
  rw [hq] at HF
  have HQ : Hid (m.blk = q) := hq
  have hts : t.size ≤ 16777216 := by omega
  clear h1 h2 h3 h4 h5 hs hm hf hK hq hm1 hm2 hdf
  have HX : Hid (us + t.size ≤ room ∧ us ≤ room ∧ m.l.length ≤ us ∧ room ≤ 16777216) := ⟨hr, hus, hml, hroom⟩
  clear hr hus hml hroom
  go_enter Tryz.func32, Tryz.ntmps32
  go_wp2_with fail
  refine (HF.out ()).mono ?_
  rintro e W ⟨rfl, hW⟩
  obtain rfl := hW.symm
  clear hW
  go_wp2_with fail
  go_region_held_law (fun w' => w'.cell? ⟨d, 1, none⟩ = some (.int .i64 (room : Nat)))
    (first | assumption | go_keep)
    (first | (go_at_call 54; refine (HU.out _ (by first | exact HV.out.1 | exact HV.out.1.drewN 1)).mono ?_; rintro e w1 ⟨rfl, hb1⟩; have H1 : Hid (VM w1 B d room bm M ∧ Below w.heap.size w w1) := ⟨VM.below (by first | exact HV.out.1 | exact HV.out.1.drewN 1) hb1, ⟨hb1.os, hb1.tape, hb1.output, hb1.size, hb1.block⟩⟩; have KS := H1.out.1.cells.2.1; clear hb1))
  all_goals
    try simp only [hdec2, hdec]
    clear hsub hcmp
    have hK := H1.out.1.each m HV.out.2.1
    obtain ⟨k0, k1, g0, g1⟩ := hK.cells
    rw [HQ.out] at k0 g0
    have HO : Hid (w1.ownsRow 0 5 1 m.v m.l.length (bcells m.l)) := ownsRow_rebase hK.own (fun _ _ => Nat.zero_le _)
    have HL : Hid (m.l.length + t.size ≤ 16777216) := (by have := HX.out; omega : m.l.length + t.size ≤ 16777216)
    obtain ⟨ao, cp, hv⟩ := hK.form
    obtain ⟨L, hL⟩ : ∃ q, m.l.length = q := ⟨_, rfl⟩
    have HVV : Hid (m.v = .slice ao L cp ∧ m.l.length = L) := ⟨by rw [hv, hL], hL⟩
    rw [hv, hL] at k0 HO
    rw [hL] at HL
    clear hK k1 g1 hv hL
    go_wp2_with (first | (at_builtin; refine wpList_string_lies _ rfl _ _ 47 9 rfl 5 i0 Tryz.underlying47 Tryz.underlying9 hi hz0 hz1 hz2 (.slice ao L cp) L (bcells m.l) rfl HO.out t rfl (by have := HL.out; unfold maxLen; omega) (by have := HL.out; omega) ?_; intro v2 w2 hown2 hg2 hat2; obtain ⟨ao2, ln2, cp2, rfl, j1, j2, HG⟩ := (H1.out.1.each m HV.out.2.1).grew H1.out.1.base HQ.out HVV.out hown2 hg2 hat2; clear hown2 hg2 hat2 k0 g0))
    go_ret
    obtain ⟨v1, v2, v3, v4, v5, v6⟩ := HV.out
    have hg := VX.grew H1.out.1 HG.out v2 v3 v4 v5 HX.out.1 HO5.out
    rw [v6] at hg
    refine ⟨rfl, hg.1.wide (fun i hi => hi.elim .inl (fun h => .inr (Nat.le_trans H1.out.2.size h))), (VF.of H1.out.2 v1.base).trans HG.out.2.2.2.1, (KO.below H1.out.2).trans hg.2 H1.out.2.size (fun i _ h => h)⟩
set_option maxHeartbeats 4000000 in
theorem append_nonex (w : World) (B d room cnt us : Nat) (F : List UInt8 → Option (List Nat × Nat)) (O : Nat → Prop) (h : VX w B d room F cnt us O) (s t : ByteArray) (hm : May s) (hs : F s.data.toList = none) (hcn : cnt < 256) (hr : us + t.size ≤ room) :
    Calls Tryz.prog 32 #[.pointer (some ⟨d, 0, none⟩), .string s, .string t] w fun e w' => e = .returned (.int .i64 0) ∧ VX w' B d room (upd F s.data.toList (some (bytesOf t, 0))) (cnt + 1) (us + t.size) (Zn O w) ∧ VF B w w' ∧ KO O w w' := by
  obtain ⟨bm, M, h1, h2, h3, h4, h5⟩ := h
  have HO5 : Hid (∀ i, FPM d bm M i → O i) := h5
  have hf := look_none ((h2 _).trans hs)
  have HF : Hid (∀ _ : Unit, Calls Tryz.prog 53 #[.pointer (some ⟨d, 0, none⟩), .string s] w fun e w' => e = .returned (.tuple #[.pointer none, .int .i64 3]) ∧ w' = w) := fun _ => find_none w B d room bm M h1 s hm hf
  have HU : Hid (∀ W, VM W B d room bm M → Calls Tryz.prog 54 #[.pointer (some ⟨d, 0, none⟩)] W fun e w' => e = .returned (.int .i64 (us : Nat)) ∧ Below W.heap.size W w') := fun W hW => by rw [← h4]; exact used_ok W B d room bm M hW
  have HV : Hid (VM w B d room bm M ∧ findF M s.data.toList = none ∧ (∀ t, look M t = F t) ∧ M.length = cnt ∧ used M = us ∧ s.size ≤ 32) := ⟨h1, hf, h2, h3, h4, hm.2.1⟩
  obtain ⟨es, hD, hp⟩ := h1.own
  have hsz : Maps.size (DataW.map es) = cnt := by rw [← h3]; have := hp.length_eq; simpa [Maps.size] using this
  have hlen := hD.len Tryz.underlying77
  rw [hsz] at hlen
  have hc256 : ¬ (256 : Int) ≤ (cnt : Int) := by omega
  have hroom := h1.hroom
  have hus : us ≤ room := h4 ▸ h1.hused
  obtain ⟨c0, c1, c2⟩ := h1.cells
  obtain ⟨i0, hi, hz0, hz1, hz2⟩ := info_parts infoB
  obtain ⟨df, hdf⟩ : ∃ x, room - us = x := ⟨_, rfl⟩
  have hsub : wrap64 ((room : Int) - (us : Int)) = ((room - us : Nat) : Int) := by rw [← Int.natCast_sub hus]; exact wrapN64 _ (by omega)
  rw [hdf] at hsub
  have hcmp : ¬ (df : Int) < (t.size : Int) := by omega
  have hdec : decide (wrap64 ((room : Int) - (us : Int)) < (t.size : Int)) = false := by rw [hsub]; simp; omega
  have hdec2 : decide (IntKind.i64.wrap ((room : Int) - (us : Int)) < (t.size : Int)) = false := by
    have e : IntKind.i64.wrap ((room : Int) - (us : Int)) = ((room - us : Nat) : Int) := by rw [← Int.natCast_sub hus]; exact wrapN _ (by omega)
    rw [e, hdf]; simp; omega
  have hts : t.size ≤ 16777216 := by omega
  clear h1 h2 h3 h4 h5 hs hm hf hdf hD hp hsz
  have HX : Hid (us + t.size ≤ room ∧ us ≤ room ∧ cnt < 256 ∧ room ≤ 16777216) := ⟨hr, hus, hcn, hroom⟩
  clear hr hus hcn hroom
  go_enter Tryz.func32, Tryz.ntmps32
  go_wp2_with fail
  refine (HF.out ()).mono ?_
  rintro e W ⟨rfl, hW⟩
  obtain rfl := hW.symm
  clear hW
  go_wp2_with fail
  go_region_held_law (fun w' => w'.cell? ⟨d, 1, none⟩ = some (.int .i64 (room : Nat)))
    (first | assumption | go_keep)
    (first | (go_at_call 54; refine (HU.out _ (by first | exact HV.out.1 | exact HV.out.1.drewN 1)).mono ?_; rintro e w1 ⟨rfl, hb1⟩; have H1 : Hid (VM w1 B d room bm M ∧ Below w.heap.size w w1) := ⟨VM.below (by first | exact HV.out.1 | exact HV.out.1.drewN 1) hb1, ⟨hb1.os, hb1.tape, hb1.output, hb1.size, hb1.block⟩⟩; have KS := H1.out.1.cells.2.1; clear hb1))
  all_goals
    try simp only [hdec2, hdec]
    clear hsub hcmp
    obtain ⟨g, hg⟩ : ∃ g, w1.heap.size = g := ⟨_, rfl⟩
    obtain ⟨wa, hwa⟩ : ∃ W, w1.alloc (.cells #[.slice none 0 0, .int .i64 0] 105) = W := ⟨_, rfl⟩
    have HA : Hid (VM wa B d room bm M ∧ Below w.heap.size w wa ∧ wa.heap[g]? = some (.cells #[.slice none 0 0, .int .i64 0] 105 (0, 0)) ∧ w1.heap.size = g) := by
      have hb : Below w1.heap.size w1 wa := by rw [← hwa]; exact (Below.refl _ _).alloc (Nat.le_refl _) _
      refine ⟨H1.out.1.below hb, H1.out.2.trans ⟨hb.os, hb.tape, hb.output, hb.size, fun k hk => hb.block k (Nat.lt_of_lt_of_le hk H1.out.2.size)⟩, ?_, hg⟩
      rw [← hwa, ← hg]; exact heap_alloc_new _ _
    have HP : Hid (∀ _ : Unit, Calls Tryz.prog 55 #[.pointer (some ⟨d, 0, none⟩), .string s, .pointer (some ⟨g, 0, none⟩)] wa fun e w' => e = .returned (.tuple #[]) ∧ VM w' B d room bm (FR.mk s.data.toList g (.slice none 0 0) [] 0 :: M) ∧ VF B wa w' ∧ ∀ i, i < wa.heap.size → i ≠ bm → w'.heap[i]? = wa.heap[i]?) := fun _ => by
      obtain ⟨a1, a2, a3, a4⟩ := HA.out
      obtain ⟨v1, v2, v3, v4, v5, v6⟩ := HV.out
      have hbg : B ≤ g := by rw [← a4]; exact Nat.le_trans v1.base H1.out.2.size
      have hrm : rm M s.data.toList = M := rm_none v2
      have := put_x wa B d room bm M a1 s v6 (FR.mk s.data.toList g (.slice none 0 0) [] 0) rfl ⟨a3, ⟨rfl, .inl ⟨rfl, rfl⟩⟩, fun x hx => by simp at hx, Nat.le_refl _, hbg⟩ (fun x hx => by
        have hx1 : x ∈ M := (List.mem_filter.1 hx).1
        refine ⟨findF_none v2 x hx1, ?_, fun g' hg' e => by simp [Value.ownBlock] at e⟩
        have := (H1.out.1.each x hx1).lt.1
        show x.blk ≠ g
        omega) (by
          show used (_ :: rm M s.data.toList) ≤ room
          rw [hrm, used_cons, v5]; have := HX.out; simp; omega) (by
          show (_ :: rm M s.data.toList).length ≤ 256
          rw [hrm]; have := HX.out; simp; omega)
      rw [show rm M (FR.mk s.data.toList g (.slice none 0 0) [] 0).name = M from hrm] at this
      exact this
    clear hlen hc256
    go_wp2_with fail
    try rw [hg]
    try rw [hwa]
    refine (HP.out ()).mono ?_
    rintro e w3 ⟨rfl, hv3, hf3, hk3⟩
    have H3 : Hid (VM w3 B d room bm (FR.mk s.data.toList g (.slice none 0 0) [] 0 :: M) ∧ VF B w w3) := ⟨hv3, (VF.of HA.out.2.1 HV.out.1.base).trans hf3⟩
    have HK3 : Hid (KO O w w3 ∧ w.heap.size ≤ w3.heap.size ∧ w.heap.size ≤ g) := ⟨fun i hi hn => (hk3 i (Nat.lt_of_lt_of_le hi HA.out.2.1.size) (fun e => hn (HO5.out i (.inr (.inl e))))).trans (HA.out.2.1.block i hi), Nat.le_trans HA.out.2.1.size hf3.below.size, by rw [← HA.out.2.2.2]; exact H1.out.2.size⟩
    clear hv3 hf3 hk3 hwa hg
    have hK := H3.out.1.each _ (List.mem_cons_self ..)
    obtain ⟨k0, k1, g0, g1⟩ := hK.cells
    have HO : Hid (w3.ownsRow 0 5 1 (.slice none 0 0) 0 (bcells [])) := ownsRow_rebase hK.own (fun _ _ => Nat.zero_le _)
    clear hK k1 g1
    simp only at k0 g0
    go_wp2_with (first | (at_builtin; refine wpList_string_lies _ rfl _ _ 47 9 rfl 5 i0 Tryz.underlying47 Tryz.underlying9 hi hz0 hz1 hz2 (.slice none 0 0) 0 (bcells []) rfl HO.out t rfl (by unfold maxLen; omega) (by omega) ?_; intro v2 w2 hown2 hg2 hat2; obtain ⟨ao2, ln2, cp2, rfl, j1, j2, HG⟩ := (H3.out.1.each _ (List.mem_cons_self ..)).grew H3.out.1.base rfl ⟨rfl, rfl⟩ hown2 hg2 hat2; simp only at j1 j2; clear hown2 hg2 hat2 k0 g0))
    go_ret
    obtain ⟨v1, v2, v3, v4, v5, v6⟩ := HV.out
    have hg := VX.grew (O := fun i => O i ∨ w.heap.size ≤ i) (F := upd F s.data.toList (some ([], 0))) (cnt := cnt + 1) (us := us) H3.out.1 HG.out (List.mem_cons_self ..) (fun t => by
      have hs := look_split (A := []) (C := M) (m := FR.mk s.data.toList g (.slice none 0 0) [] 0) H3.out.1.apart t
      simp only [List.nil_append] at hs
      rw [hs]
      unfold upd
      by_cases e : t = s.data.toList
      · simp [e]
      · simp [e, v3]) (by simp [v4]) (by rw [used_cons, v5]; simp) HX.out.1 (fun i hi => by
      rcases hi with h | h | ⟨x, hx, h⟩
      · exact .inl (HO5.out i (.inl h))
      · exact .inl (HO5.out i (.inr (.inl h)))
      · rcases List.mem_cons.1 hx with rfl | hx
        · rcases h with h | h
          · exact .inr (by rw [h]; exact HK3.out.2.2)
          · simp [Value.ownBlock] at h
        · exact .inl (HO5.out i (.inr (.inr ⟨x, hx, h⟩))))
    have e : upd (upd F s.data.toList (some ([], 0))) s.data.toList (some ([] ++ bytesOf t, 0)) = upd F s.data.toList (some (bytesOf t, 0)) := by
      funext x; unfold upd; by_cases h : x = s.data.toList <;> simp [h]
    rw [show (FR.mk s.data.toList g (.slice none 0 0) [] 0).name = s.data.toList from rfl, show (FR.mk s.data.toList g (.slice none 0 0) [] 0).l = [] from rfl, show (FR.mk s.data.toList g (.slice none 0 0) [] 0).n = 0 from rfl, e] at hg
    refine ⟨rfl, hg.1.wide (fun i hi => ?_), H3.out.2.trans HG.out.2.2.2.1, fun i hi hn => ?_⟩
    · rcases hi with (h | h) | h
      · exact .inl h
      · exact .inr h
      · exact .inr (Nat.le_trans HK3.out.2.1 h)
    · rw [hg.2 i (Nat.lt_of_lt_of_le hi HK3.out.2.1) (fun h => h.elim hn (fun h => by omega))]
      exact HK3.out.1 i hi hn
end Go.Proofs.YtcjlcieheepegaaGreatDoor.V8
namespace Go.Proofs.YtcjlcieheepegaaGreatDoor.V8
open Go.RowKit Go.Maps
set_option linter.unusedVariables false
set_option maxRecDepth 20000
set_option maxRecDepth 20000

theorem len64_zero (w : World) : Calls Tryz.prog 88 #[.int .u64 0] w fun e w' => e = .returned (.int .i64 0) ∧ w' = w := by
  have H64 : Hid (∀ W, Calls Tryz.prog 121 #[.int .u64 0] W fun e w' => e = .returned (.int .i64 0) ∧ w' = W) := fun W => by
    go_enter Tryz.func121, Tryz.ntmps121
    go_wp2
    go_ret
    exact ⟨by kernel_rfl, rfl⟩
  go_enter Tryz.func88, Tryz.ntmps88
  go_wp2_with fail
  refine (H64.out _).mono ?_
  rintro e W ⟨rfl, hW⟩
  obtain rfl := hW.symm
  go_wp2
  go_ret
  exact ⟨rfl, rfl⟩
theorem ins_nil (w : World) :
    Calls Tryz.prog 111 #[.slice none 0 0, .int .i64 0, .int .i64 0] w fun e w' => e = .returned (.tuple #[]) ∧ w' = w := by
  go_enter Tryz.func111, Tryz.ntmps111
  go_wp2
  refine wp_loop_rounds 1 ?_
  rw [rounds_succ]
  go_wp2
  go_end0
  exact ⟨rfl, rfl⟩
set_option maxRecDepth 100000 in
theorem pdq_nil (w : World) :
    Calls Tryz.prog 87 #[.slice none 0 0, .int .i64 0, .int .i64 0, .int .i64 0] w fun e w' => e = .returned (.tuple #[]) ∧ w' = w := by
  have HI := hideV (ins_nil w)
  go_enter Tryz.func87, Tryz.ntmps87
  go_wp2
  refine wp_loop_rounds 1 ?_
  rw [rounds_succ]
  go_wp2_with fail
  refine HI.out.mono ?_
  rintro e W ⟨rfl, hW⟩
  obtain rfl := hW.symm
  go_wp2
  refine bodyPost_ret (results_none rfl _ _ _) rfl ?_
  exact ⟨rfl, rfl⟩
set_option maxRecDepth 100000 in
theorem sort_nil (w : World) :
    Calls Tryz.prog 64 #[.slice none 0 0] w fun e w' => e = .returned (.tuple #[]) ∧ w' = w := by
  have HL := hideV (len64_zero w)
  have HP := hideV (pdq_nil w)
  go_enter Tryz.func64, Tryz.ntmps64
  go_wp2_with fail
  refine HL.out.mono ?_
  rintro e W ⟨rfl, hW⟩
  obtain rfl := hW.symm
  clear hW
  go_wp2_with fail
  refine HP.out.mono ?_
  rintro e W ⟨rfl, hW⟩
  obtain rfl := hW.symm
  go_wp2
  go_end0
  exact ⟨rfl, rfl⟩
set_option maxHeartbeats 4000000 in
theorem names_nil (w : World) (B d room us : Nat) (F : List UInt8 → Option (List Nat × Nat)) (h : VD w B d room F 0 us) :
    Calls Tryz.prog 38 #[.pointer (some ⟨d, 0, none⟩)] w fun e w' => e = .returned (.slice none 0 0) ∧ Below w.heap.size w w' := by
  obtain ⟨bm, M, h1, h2, h3, h4⟩ := h
  obtain rfl : M = [] := List.eq_nil_of_length_eq_zero h3
  obtain ⟨c0, c1, c2⟩ := h1.cells
  obtain ⟨es, hD, hp⟩ := h1.own
  have HP : Hid (es.Perm (List.map FR.ent [])) := hp
  have HA : Hid (List.Pairwise Apart ([] : List FR)) := h1.apart
  have HG : Hid (∀ _ : Unit, Calls Tryz.prog 63 #[.pointer (some ⟨d, 0, none⟩)] w fun e w' => e = .returned (.bool true) ∧ w' = w) := fun _ => given_ok w d c0
  have hbl : bm < w.heap.size := h1.lt.2
  have HS := hideV sort_nil
  clear h1 h2 h3 h4 hp
  go_enter Tryz.func38, Tryz.ntmps38
  go_wp2_with fail
  refine (HG.out ()).mono ?_
  rintro e W ⟨rfl, hW⟩
  obtain rfl := hW.symm
  clear hW
  go_wp2_with (first
    | (at_range; refine wpList_range_own _ rfl _ 77 rfl 9 101 law9 Tryz.underlying77 _ bm _ _ rfl hD ?_; intro w0 hrg0 hg0 hs0))
  go_frame
  obtain ⟨R, hR⟩ : ∃ R, w.heap.size = R := ⟨_, rfl⟩
  rw [hR] at hrg0 hs0 hbl
  try rw [hR]
  have HB0 : Hid (Below R w w0 ∧ R + 1 ≤ w0.heap.size) := ⟨⟨hg0.os, hg0.tape, hg0.output, hg0.size, fun k hk => hg0.block k (by omega) (by simp)⟩, by omega⟩
  have HR := hideV hR
  clear hg0 hs0 hR
  go_loopw [3] (fun v wr => Hid (∃ left cnt, wr.ranges Tryz.prog 9 pE bm R 0 (.map es) left cnt ∧ v = .slice none 0 0 ∧ Below R w wr)) (fun _ wr => wr.rangeLeft bm R)
  case atStart => exact ⟨_, _, hrg0, rfl, HB0.out.1⟩
  case round =>
    obtain ⟨left, cnt, hrg, rfl, hnx⟩ := hrel.out
    go_wp2_with (first
      | (at_next; refine wpList_next_files _ rfl _ rfl bm R 0 es [] HP.out HA.out left cnt rfl hrg ?_ ?_))
    · intro hc0 hl0
      have HE := hideV hnx
      clear hrg hnx hrel
      go_wp2_with fail
      refine (HS.out _).mono ?_
      rintro e W ⟨rfl, hW⟩
      obtain rfl := hW.symm
      clear hW
      go_wp2
      go_ret
      exact ⟨rfl, by rw [HR.out]; exact HE.out⟩
end Go.Proofs.YtcjlcieheepegaaGreatDoor.V8
