/- Layer 8: a file that is cut: keep, Cut, crash. -/
/- Layer 8: what a crash leaves, in numbers. -/
/- Layer 8: Cut, a file's crash, Read. -/
/- Layer 11: what a disk answers of a file that is not there, and of a name that may not be. -/
/- Layer 11: a disk stays, where its own rows do. -/
/- Layer 11: a disk's Read from any place on. -/
/- Layer 11: a disk's Sync of a file that is not there. -/
/- Layer 12: Names of a disk without files. -/
import Derived.Test.YtogmfdgpnkbpaaaGreatDoorV08
import Derived.Test.YtogmfdgpnkbpaaaGreatDoorV22
import Derived.Sort.KeysCollected
namespace Go.Proofs.YtogmfdgpnkbpaaaGreatDoor.V8
open Go.RowKit Go.Maps
set_option linter.unusedVariables false
set_option maxRecDepth 20000
set_option maxRecDepth 20000

theorem bclone (w : World) (B g cap : Nat) (l : List Nat) (hown : w.ownsRow B 5 1 (.slice (some ⟨g, 0, none⟩) l.length cap) l.length (bcells l)) (hl : l.length ≤ 16777216) :
    Calls Tryz.prog 114 #[.slice (some ⟨g, 0, none⟩) l.length cap] w fun e w' => ∃ v', e = .returned v' ∧ w'.ownsRow w.heap.size 5 1 v' l.length (bcells l) ∧ v' ≠ .slice none 0 0 ∧ Below w.heap.size w w' := by
  have h := Any.bytes_Clone_at Tryz.laysBC ⟨g, 0, none⟩ l.length cap (l.map Int.ofNat) w (by simp) (by omega) (fun i hi => by
    have := hown.cells (g := g) rfl i (.int .u8 (l.getD i 0 : Nat)) (by simp [bcells, hi])
    rw [this]
    simp [hi])
  have e : (l.map Int.ofNat).map (Value.int .u8) = bcells l := by simp [bcells]
  rw [e] at h
  exact h
theorem ownsRow_take {w : World} {B E n k g cap : Nat} {xs : List Value} (h : w.ownsRow B E 1 (.slice (some ⟨g, 0, none⟩) n cap) n xs) (hk : k ≤ n) : w.ownsRow B E 1 (.slice (some ⟨g, 0, none⟩) k cap) k (xs.take k) := by
  have hx : xs.length = n := by simpa using h.1
  rcases h.2 with ⟨e, _⟩ | ⟨g', cap', cur, e1, e2, e3, e4, e5, e6, e7⟩
  · cases e
  · cases e1
    refine ⟨by simp [hx]; omega, .inr ⟨g, cap, cur, rfl, e2, e3, by omega, e5, e6, ?_⟩⟩
    rw [← e7, List.take_take, Nat.mul_one, Nat.mul_one, Nat.min_eq_left hk]
theorem bcells_take (l : List Nat) (k : Nat) : (bcells l).take k = bcells (l.take k) := by simp [bcells, List.map_take]
/-- Behind a cut. -/
def KeepEnd (w : World) (B : Nat) (m : FR) (k : Nat) (e : Ending) (w' : World) : Prop :=
  e = .returned (.tuple #[]) ∧ ∃ v', FOK w' B { m with v := v', l := m.l.take k, n := k } ∧ VF B w w' ∧ (∀ i, i < w.heap.size → i ≠ m.blk → w'.heap[i]? = w.heap[i]?) ∧ ∀ g, v'.ownBlock = some g → m.v.ownBlock = some g ∨ w.heap.size ≤ g
theorem cut_world {w : World} {B : Nat} {m : FR} (h : FOK w B m) (k : Nat) (hk : k ≤ m.l.length) (v' : Value) (hv : w.ownsRow B 5 1 v' k (bcells (m.l.take k))) (hb : v'.ownBlock = m.v.ownBlock) :
    FOK ((w.setCell ⟨m.blk, 0, none⟩ v').setCell ⟨m.blk, 1, none⟩ (.int .i64 (k : Nat))) B { m with v := v', l := m.l.take k, n := k } ∧ VF B w ((w.setCell ⟨m.blk, 0, none⟩ v').setCell ⟨m.blk, 1, none⟩ (.int .i64 (k : Nat))) ∧
    (∀ i, i ≠ m.blk → ((w.setCell ⟨m.blk, 0, none⟩ v').setCell ⟨m.blk, 1, none⟩ (.int .i64 (k : Nat))).heap[i]? = w.heap[i]?) ∧ ((w.setCell ⟨m.blk, 0, none⟩ v').setCell ⟨m.blk, 1, none⟩ (.int .i64 (k : Nat))).heap.size = w.heap.size := by
  have b1 := block_setCell (i := 0) (u := v') h.blk
  have b2 := block_setCell (i := 1) (u := .int .i64 (k : Nat)) b1
  have hl : (m.l.take k).length = k := by simp; omega
  refine ⟨⟨b2, ?_, fun x hx => h.bytes x (List.mem_of_mem_take hx), by show k ≤ (m.l.take k).length; omega, h.hB⟩, (VF.file h.blk h.hB _).trans (VF.file b1 h.hB _), fun i hi => ?_, by simp [World.setCell]⟩
  · show World.ownsRow _ B _ 1 v' (m.l.take k).length (bcells (m.l.take k))
    rw [hl]
    exact ownsRow_set (ownsRow_set hv h.blk (by decide)) b1 (by decide)
  · rw [Below.heap_setCell _ _ _ _ (by exact hi), Below.heap_setCell _ _ _ _ (by exact hi)]
set_option maxHeartbeats 2000000 in
theorem keep_ok (w : World) (B : Nat) (m : FR) (h : FOK w B m) (hBw : B ≤ w.heap.size) (k : Nat) (hk : k ≤ m.l.length) (hl : m.l.length ≤ 16777216) :
    Calls Tryz.prog 83 #[.pointer (some ⟨m.blk, 0, none⟩), .int .i64 (k : Nat)] w (KeepEnd w B m k) := by
  obtain ⟨c0, c1, f0, f1⟩ := h.cells
  rcases h.own.2 with ⟨hv, h0⟩ | ⟨g, cap, cur, hv, hB, hh, hnc, hcm, hcs, htk⟩
  · have hk0 : k = 0 := by omega
    subst hk0
    obtain ⟨a1, a2, a3, a4⟩ := cut_world h 0 (by omega) (.slice none 0 0) (by simp [bcells]; exact ⟨rfl, .inl ⟨rfl, rfl⟩⟩) (by rw [hv])
    have HE : Hid (KeepEnd w B m 0 (.returned (.tuple #[])) ((w.setCell ⟨m.blk, 0, none⟩ (.slice none 0 0)).setCell ⟨m.blk, 1, none⟩ (.int .i64 (0 : Nat)))) := ⟨rfl, _, a1, a2, fun i hi h1 => a3 i h1, fun g hg => by simp [Value.ownBlock] at hg⟩
    rw [hv] at c0
    obtain ⟨q, hq⟩ : ∃ q, m.blk = q := ⟨_, rfl⟩
    rw [hq] at c0 c1 f0 f1 HE ⊢
    clear a1 a2 a3 a4 h hv h0 hk hl
    go_enter Tryz.func83, Tryz.ntmps83
    go_wp2
    go_end0
    exact HE.out
  · have hown := ownsRow_take (hv ▸ h.own) hk
    rw [bcells_take] at hown
    obtain ⟨a1, a2, a3, a4⟩ := cut_world h k hk (.slice (some ⟨g, 0, none⟩) k cap) hown (by rw [hv]; rfl)
    obtain ⟨q, hq⟩ : ∃ q, m.blk = q := ⟨_, rfl⟩
    have HQ : Hid (m.blk = q) := hq
    obtain ⟨L, hL⟩ : ∃ q, m.l.length = q := ⟨_, rfl⟩
    rw [hv, hL] at c0
    obtain ⟨w1, hw1⟩ : ∃ W, (w.setCell ⟨m.blk, 0, none⟩ (.slice (some ⟨g, 0, none⟩) k cap)).setCell ⟨m.blk, 1, none⟩ (.int .i64 (k : Nat)) = W := ⟨_, rfl⟩
    rw [hw1] at a1 a2 a3 a4
    have HA : Hid (FOK w1 B { m with v := .slice (some ⟨g, 0, none⟩) k cap, l := m.l.take k, n := k } ∧ VF B w w1 ∧ (∀ i, i ≠ m.blk → w1.heap[i]? = w.heap[i]?) ∧ w1.heap.size = w.heap.size) := ⟨a1, a2, a3, a4⟩
    have hkL : (k : Int) ≤ (L : Int) := by omega
    have hk1 : (0 : Int) ≤ (k : Int) := by omega
    have hLc : L ≤ cap := by omega
    have hkc : k ≤ cap := by omega
    have hkci : (k : Int) ≤ (cap : Int) := by omega
    have hmul : wrap64 (2 * (k : Int)) = ((2 * k : Nat) : Int) := by rw [show (2 * (k : Int)) = ((2 * k : Nat) : Int) by omega]; exact wrapN64 _ (by omega)
    have HV : Hid (m.v.ownBlock = some g) := by rw [hv]; rfl
    have HB : Hid (B ≤ w.heap.size ∧ k ≤ m.l.length ∧ m.l.length ≤ 16777216) := ⟨hBw, hk, hl⟩
    rw [hq] at c0 c1 f0 f1 hw1 ⊢
    clear a1 a2 a3 a4 hown hh hcs htk hcm hnc h hv hq hL hk hl hBw hB
    obtain ⟨d0, d1, e0, e1⟩ := HA.out.1.cells
    simp only [HQ.out] at d0 d1 e0 e1
    clear d1 e1
    by_cases hc : 2 * k < cap
    · have hci : ((2 * k : Nat) : Int) < (cap : Int) := by omega
      have HC : Hid (∀ _ : Unit, Calls Tryz.prog 114 #[.slice (some ⟨g, 0, none⟩) k cap] w1 fun e w' => ∃ v', e = .returned v' ∧ w'.ownsRow w1.heap.size 5 1 v' k (bcells (m.l.take k)) ∧ v' ≠ .slice none 0 0 ∧ Below w1.heap.size w1 w') := fun _ => by
        have hl : (m.l.take k).length = k := by have := HB.out; simp; omega
        have h1 := bclone w1 B g cap (m.l.take k) (by rw [hl]; have := HA.out.1.own; simp only [hl] at this; exact this) (by have := HB.out; omega)
        rw [hl] at h1
        exact h1
      clear hc
      go_enter Tryz.func83, Tryz.ntmps83
      go_wp2_with fail
      refine (HC.out ()).mono ?_
      rintro e w2 ⟨v2, rfl, hown2, hnn, hb2⟩
      obtain ⟨g2, cap2, rfl, hg2⟩ : ∃ g2 cap2, v2 = .slice (some ⟨g2, 0, none⟩) k cap2 ∧ w1.heap.size ≤ g2 := by
        rcases hown2.2 with ⟨e, _⟩ | ⟨g', cap', cur', e1, e2, _⟩
        · exact absurd e hnn
        · exact ⟨g', cap', e1, e2⟩
      have hF2 := HA.out.1.below hb2
      obtain ⟨x0, x1, y0, y1⟩ := hF2.cells
      simp only [HQ.out] at x0 y0
      have HE : Hid (KeepEnd w B m k (.returned (.tuple #[])) (w2.setCell ⟨q, 0, none⟩ (.slice (some ⟨g2, 0, none⟩) k cap2))) := by
        obtain ⟨a1, a2, a3, a4⟩ := HA.out
        have hbl := hF2.blk
        have hBB : B ≤ w1.heap.size := by rw [a4]; exact HB.out.1
        simp only [HQ.out] at hbl
        have hl : (m.l.take k).length = k := by have := HB.out; simp; omega
        refine ⟨rfl, .slice (some ⟨g2, 0, none⟩) k cap2, ⟨?_, ?_, a1.bytes, a1.le, a1.hB⟩, (a2.trans (VF.of hb2 hBB)).trans (VF.file hbl (by have := a1.hB; simp only [HQ.out] at this; exact this) _), fun i hi h1 => ?_, fun g hg => ?_⟩
        · have := block_setCell (i := 0) (u := .slice (some ⟨g2, 0, none⟩) k cap2) hbl
          simp only [HQ.out]
          exact this
        · show World.ownsRow _ B _ 1 (.slice (some ⟨g2, 0, none⟩) k cap2) (m.l.take k).length (bcells (m.l.take k))
          rw [hl]
          exact ownsRow_set (ownsRow_rebase hown2 (fun g hg => Nat.le_trans hBB (by
            have e : g2 = g := by simpa [Value.ownBlock] using hg
            omega))) hbl (by decide)
        · rw [Below.heap_setCell _ _ _ _ (by show i ≠ q; rw [← HQ.out]; exact h1), hb2.block i (by rw [a4]; exact hi), a3 i h1]
        · right
          have e : g2 = g := by simpa [Value.ownBlock] using hg
          rw [← a4]; omega
      clear hown2 hnn hb2 hg2 hF2 x1 y1 d0 e0
      go_wp2
      go_end0
      exact HE.out
    · have hci : ¬ ((2 * k : Nat) : Int) < (cap : Int) := by omega
      have HE : Hid (KeepEnd w B m k (.returned (.tuple #[])) w1) := by
        obtain ⟨a1, a2, a3, a4⟩ := HA.out
        exact ⟨rfl, _, a1, a2, fun i hi h1 => a3 i h1, fun g' hg' => .inl (by rw [HV.out, ← hg']; rfl)⟩
      clear hc
      go_enter Tryz.func83, Tryz.ntmps83
      go_wp2
      go_end0
      exact HE.out
end Go.Proofs.YtogmfdgpnkbpaaaGreatDoor.V8
namespace Go.Proofs.YtogmfdgpnkbpaaaGreatDoor.V8
open Go.RowKit Go.Maps
set_option linter.unusedVariables false
set_option maxRecDepth 20000
set_option maxRecDepth 20000

theorem crash_nat (y t : Nat) (n : Int) : (y : Int) + min (max n 0) (t : Int) = ((y + min n.toNat t : Nat) : Int) := by
  have e : min (max n 0) (t : Int) = ((min n.toNat t : Nat) : Int) := by
    by_cases h : n ≤ 0
    · rw [Int.max_eq_right h, Int.toNat_of_nonpos h, Nat.zero_min, Int.min_eq_left (by omega)]; rfl
    · rw [Int.max_eq_left (by omega)]
      by_cases h2 : n ≤ (t : Int)
      · rw [Int.min_eq_left h2, Nat.min_eq_left (by omega), Int.toNat_of_nonneg (by omega)]
      · rw [Int.min_eq_right (by omega), Nat.min_eq_right (by omega)]
  rw [e, Int.natCast_add]
theorem crash_arith (y t : Nat) (n : Int) (hl : y + t ≤ 16777216) : wrap64 ((y : Int) + min (max n 0) (t : Int)) = ((y + min n.toNat t : Nat) : Int) := by
  rw [crash_nat]
  exact wrapN64 _ (Nat.le_trans (Nat.add_le_add_left (Nat.min_le_right _ _) _) (Nat.le_trans hl (by decide)))
end Go.Proofs.YtogmfdgpnkbpaaaGreatDoor.V8
namespace Go.Proofs.YtogmfdgpnkbpaaaGreatDoor.V8
open Go.RowKit Go.Maps
set_option linter.unusedVariables false
set_option maxRecDepth 20000
set_option maxRecDepth 20000

/-- Behind a cut: what the disk holds. -/
theorem VD.kept {w w' : World} {B d room bm : Nat} {M : List FR} {m : FR} {k : Nat} {e : Ending} {F : List UInt8 → Option (List Nat × Nat)} (h : VM w B d room bm M) (hm : m ∈ M) (hk : k ≤ m.l.length) (hE : KeepEnd w B m k e w') (hl : ∀ t, look M t = F t) :
    VD w' B d room (upd F m.name (some (m.l.take k, k))) M.length (used M - (m.l.length - k)) ∧ VF B w w' := by
  obtain ⟨-, v', a1, a2, a3, a4⟩ := hE
  refine ⟨?_, a2⟩
  have hu := used_mem hm
  have := VD.turned h hm { m with v := v', l := m.l.take k, n := k } rfl rfl (fun i hi h1 _ => a3 i hi h1) a1 a4 (used M - (m.l.length - k)) (by simp; omega) (by have := h.hused; omega) hl
  exact this
set_option maxHeartbeats 1000000 in
theorem cut_none (w : World) (B d room cnt us : Nat) (F : List UInt8 → Option (List Nat × Nat)) (h : VD w B d room F cnt us) (s : ByteArray) (hm : May s) (hs : F s.data.toList = none) (k : Nat) :
    Calls Tryz.prog 57 #[.pointer (some ⟨d, 0, none⟩), .string s, .int .i64 (k : Nat)] w fun e w' => e = .returned (.int .i64 3) ∧ w' = w := by
  obtain ⟨bm, M, h1, h2, h3, h4⟩ := h
  have HF : Hid (∀ _ : Unit, Calls Tryz.prog 59 #[.pointer (some ⟨d, 0, none⟩), .string s] w fun e w' => e = .returned (.tuple #[.pointer none, .int .i64 3]) ∧ w' = w) := fun _ => find_none w B d room bm M h1 s hm (look_none ((h2 _).trans hs))
  have hk : ¬ (k : Int) < 0 := by omega
  clear h1 h2 h3 h4 hs hm
  go_enter Tryz.func57, Tryz.ntmps57
  go_wp2_with fail
  refine (HF.out ()).mono ?_
  rintro e W ⟨rfl, hW⟩
  obtain rfl := hW.symm
  go_wp2
  go_ret
  exact ⟨rfl, rfl⟩
set_option maxHeartbeats 1000000 in
theorem cut_over (w : World) (B d room cnt us : Nat) (F : List UInt8 → Option (List Nat × Nat)) (h : VD w B d room F cnt us) (s : ByteArray) (hm : May s) (l : List Nat) (n : Nat) (hs : F s.data.toList = some (l, n)) (k : Nat) (hk : l.length < k) :
    Calls Tryz.prog 57 #[.pointer (some ⟨d, 0, none⟩), .string s, .int .i64 (k : Nat)] w fun e w' => e = .returned (.int .i64 1) ∧ w' = w := by
  obtain ⟨bm, M, h1, h2, h3, h4⟩ := h
  obtain ⟨m, hf, e⟩ := look_some ((h2 _).trans hs)
  cases e
  have HF : Hid (∀ _ : Unit, Calls Tryz.prog 59 #[.pointer (some ⟨d, 0, none⟩), .string s] w fun e w' => e = .returned (.tuple #[.pointer (some ⟨m.blk, 0, none⟩), .int .i64 0]) ∧ w' = w) := fun _ => find_some w B d room bm M h1 s hm m hf
  have hK := h1.each m (findF_some hf).1
  obtain ⟨ao, cp, hv⟩ := hK.form
  have c0 := hK.cells.1
  obtain ⟨q, hq⟩ : ∃ q, m.blk = q := ⟨_, rfl⟩
  obtain ⟨L, hL⟩ : ∃ q, m.l.length = q := ⟨_, rfl⟩
  rw [hq] at HF c0
  rw [hv, hL] at c0
  rw [hL] at hk
  have hk0 : ¬ (k : Int) < 0 := by omega
  have hki : (L : Int) < (k : Int) := by omega
  clear h1 h2 h3 h4 hs hm hf hK hv hL hq hk
  go_enter Tryz.func57, Tryz.ntmps57
  go_wp2_with fail
  refine (HF.out ()).mono ?_
  rintro e W ⟨rfl, hW⟩
  obtain rfl := hW.symm
  go_wp2
  go_ret
  exact ⟨rfl, rfl⟩
set_option maxHeartbeats 1000000 in
theorem cut_some (w : World) (B d room cnt us : Nat) (F : List UInt8 → Option (List Nat × Nat)) (h : VD w B d room F cnt us) (s : ByteArray) (hm : May s) (l : List Nat) (n : Nat) (hs : F s.data.toList = some (l, n)) (k : Nat) (hk : k ≤ l.length) :
    Calls Tryz.prog 57 #[.pointer (some ⟨d, 0, none⟩), .string s, .int .i64 (k : Nat)] w fun e w' => e = .returned (.int .i64 0) ∧ VD w' B d room (upd F s.data.toList (some (l.take k, k))) cnt (us - (l.length - k)) ∧ VF B w w' := by
  obtain ⟨bm, M, h1, h2, h3, h4⟩ := h
  obtain ⟨m, hf, e⟩ := look_some ((h2 _).trans hs)
  cases e
  have HF : Hid (∀ _ : Unit, Calls Tryz.prog 59 #[.pointer (some ⟨d, 0, none⟩), .string s] w fun e w' => e = .returned (.tuple #[.pointer (some ⟨m.blk, 0, none⟩), .int .i64 0]) ∧ w' = w) := fun _ => find_some w B d room bm M h1 s hm m hf
  obtain ⟨hm1, hm2⟩ := findF_some hf
  have hK := h1.each m hm1
  have hl : m.l.length ≤ 16777216 := by have := used_mem hm1; have := h1.hused; have := h1.hroom; omega
  have HC : Hid (∀ _ : Unit, Calls Tryz.prog 83 #[.pointer (some ⟨m.blk, 0, none⟩), .int .i64 (k : Nat)] w (KeepEnd w B m k)) := fun _ => keep_ok w B m hK h1.base k hk hl
  have HE : Hid (∀ e w', KeepEnd w B m k e w' → VD w' B d room (upd F s.data.toList (some (m.l.take k, k))) cnt (us - (m.l.length - k)) ∧ VF B w w') := fun e w' hE => by
    have := VD.kept h1 hm1 hk hE h2
    rw [hm2, h3, h4] at this
    exact this
  obtain ⟨ao, cp, hv⟩ := hK.form
  have c0 := hK.cells.1
  obtain ⟨q, hq⟩ : ∃ q, m.blk = q := ⟨_, rfl⟩
  obtain ⟨L, hL⟩ : ∃ q, m.l.length = q := ⟨_, rfl⟩
  rw [hq] at HF c0 HC
  rw [hv, hL] at c0
  rw [hL] at hk HE ⊢
  have hk0 : ¬ (k : Int) < 0 := by omega
  have hki : ¬ (L : Int) < (k : Int) := by omega
  clear h1 h2 h3 h4 hs hm hf hK hv hL hq hk hm1 hm2
  go_enter Tryz.func57, Tryz.ntmps57
  go_wp2_with fail
  refine (HF.out ()).mono ?_
  rintro e W ⟨rfl, hW⟩
  obtain rfl := hW.symm
  go_wp2_with fail
  refine (HC.out ()).mono ?_
  intro e w' hE
  have H : Hid (VD w' B d room (upd F s.data.toList (some (m.l.take k, k))) cnt (us - (L - k)) ∧ VF B w w') := HE.out e w' hE
  obtain rfl := hE.1
  clear hE
  go_wp2
  go_ret
  exact ⟨rfl, H.out⟩
def crashK (m : FR) (n : Int) : Nat := m.n + min n.toNat (m.l.length - m.n)
/-- Behind a file's crash. -/
def CrashEnd (w : World) (B : Nat) (m : FR) (n : Int) (e : Ending) (w' : World) : Prop := ∃ w0, KeepEnd w0 B m (crashK m n) e w' ∧ Below w.heap.size w w0
set_option maxHeartbeats 1000000 in
theorem read_some (w : World) (B d room cnt us : Nat) (F : List UInt8 → Option (List Nat × Nat)) (h : VD w B d room F cnt us) (s : ByteArray) (hm : May s) (l : List Nat) (n : Nat) (hs : F s.data.toList = some (l, n)) (k : Nat) (hk : k ≤ l.length) :
    Calls Tryz.prog 48 #[.pointer (some ⟨d, 0, none⟩), .string s, .int .i64 0, .int .i64 (k : Nat)] w fun e w' => e = .returned (.tuple #[.string (toBA (l.take k)), .int .i64 0]) ∧ w' = w := by
  have hln := h.some_ hs
  have hbd := h.bounds
  obtain ⟨bm, M, h1, h2, h3, h4⟩ := h
  obtain ⟨m, hf, e⟩ := look_some ((h2 _).trans hs)
  cases e
  have HF : Hid (∀ _ : Unit, Calls Tryz.prog 59 #[.pointer (some ⟨d, 0, none⟩), .string s] w fun e w' => e = .returned (.tuple #[.pointer (some ⟨m.blk, 0, none⟩), .int .i64 0]) ∧ w' = w) := fun _ => find_some w B d room bm M h1 s hm m hf
  have hK := h1.each m (findF_some hf).1
  have c0 := hK.cells.1
  have hbt : ∀ x ∈ m.l.take k, x < 256 := fun x hx => hK.bytes x (List.mem_of_mem_take hx)
  obtain ⟨q, hq⟩ : ∃ q, m.blk = q := ⟨_, rfl⟩
  rw [hq] at HF c0
  have hk0 : ¬ (k : Int) < 0 := by omega
  rcases hK.own.2 with ⟨hv, h0⟩ | ⟨g, cap, cur, hv, hB, hh, hnc, hcm, hcs, htk⟩
  · have hk1 : k = 0 := by omega
    subst hk1
    have hcv := conv_row (P := Tryz.prog) w 108 9 5 B (.slice none 0 0) [] Tryz.underlying108 Tryz.underlying5 Tryz.underlying9 ⟨rfl, .inl ⟨rfl, rfl⟩⟩ (by simp)
    rw [hv] at c0
    rw [List.take_zero]
    clear h1 h2 h3 h4 hs hm hf hK hv h0 hq hk hbt hln hbd
    go_enter Tryz.func48, Tryz.ntmps48
    go_wp2_with fail
    refine (HF.out ()).mono ?_
    rintro e W ⟨rfl, hW⟩
    obtain rfl := hW.symm
    go_wp2
    go_ret2
    exact ⟨rfl, rfl⟩
  · have hown := ownsRow_take (hv ▸ hK.own) hk
    rw [bcells_take] at hown
    have hl : (m.l.take k).length = k := by simp; omega
    have hcv := conv_row (P := Tryz.prog) w 108 9 5 B (.slice (some ⟨g, 0, none⟩) k cap) (m.l.take k) Tryz.underlying108 Tryz.underlying5 Tryz.underlying9 (by rw [hl]; exact hown) hbt
    obtain ⟨L, hL⟩ : ∃ q, m.l.length = q := ⟨_, rfl⟩
    obtain ⟨R, hR⟩ : ∃ R, toBA (m.l.take k) = R := ⟨_, rfl⟩
    rw [hv, hL] at c0
    rw [hR] at hcv ⊢
    have hL0 : ¬ (L : Int) < 0 := by omega
    have hkL : ¬ (L : Int) < (k : Int) := by omega
    have hkc : k ≤ cap := by omega
    have hkci : (k : Int) ≤ (cap : Int) := by omega
    have hLc : L ≤ cap := by omega
    have hk2 : (0 : Int) ≤ (k : Int) := by omega
    have hLb : L ≤ 4611686018427387904 := by omega
    have hkb : k ≤ 4611686018427387904 := by omega
    have hadd' : wrap64 (k : Int) = (k : Int) := wrapN64 k hkb
    have hsub' : wrap64 (L : Int) = (L : Int) := wrapN64 L hLb
    have hsub : wrap64 ((L : Int) - 0) = (L : Int) := by rw [Int.sub_zero]; exact hsub'
    have hadd : wrap64 (0 + (k : Int)) = (k : Int) := by rw [Int.zero_add]; exact hadd'
    clear hLb hkb
    clear h1 h2 h3 h4 hs hm hf hK hv hq hk hbt hown hl hR hh hcm hcs htk hnc hL hln hbd
    go_enter Tryz.func48, Tryz.ntmps48
    go_wp2_with fail
    refine (HF.out ()).mono ?_
    rintro e W ⟨rfl, hW⟩
    obtain rfl := hW.symm
    go_wp2
    go_ret2
    exact ⟨rfl, rfl⟩
end Go.Proofs.YtogmfdgpnkbpaaaGreatDoor.V8
namespace Go.Proofs.YtogmfdgpnkbpaaaGreatDoor.V8
open Go.RowKit
set_option linter.unusedVariables false
set_option maxRecDepth 20000

theorem hideV {p : Prop} (h : p) : Hid p := h
set_option maxHeartbeats 1000000 in
theorem find_bad (w : World) (B d room cnt us : Nat) (F : List UInt8 → Option (List Nat × Nat)) (h : VD w B d room F cnt us) (s : ByteArray) (hs : s.size = 0 ∨ 32 < s.size) :
    Calls Tryz.prog 59 #[.pointer (some ⟨d, 0, none⟩), .string s] w fun e w' => e = .returned (.tuple #[.pointer none, .int .i64 1]) ∧ w' = w := by
  obtain ⟨bm, M, h1, h2, h3, h4⟩ := h
  obtain ⟨c0, c1, c2⟩ := h1.cells
  have HG : Hid (∀ _ : Unit, Calls Tryz.prog 69 #[.pointer (some ⟨d, 0, none⟩)] w fun e w' => e = .returned (.bool true) ∧ w' = w) := fun _ => given_ok w d c0
  have HM : Hid (∀ _ : Unit, Calls Tryz.prog 84 #[.string s] w fun e w' => e = .returned (.bool false) ∧ w' = w) := fun _ => mayBe_size w s hs
  clear h1 h2 h3 h4 hs
  go_enter Tryz.func59, Tryz.ntmps59
  go_wp2_with fail
  refine (HG.out ()).mono ?_
  rintro e w' ⟨rfl, rfl⟩
  go_wp2_with fail
  refine (HM.out ()).mono ?_
  rintro e w' ⟨rfl, rfl⟩
  go_wp2
  go_ret2
  exact ⟨rfl, rfl⟩
/-- Reading where find answers an error. -/
theorem read_err (w : World) (v : Value) (s : ByteArray) (c : Int) (hc : (c == 0) = false) (HF : Calls Tryz.prog 59 #[v, .string s] w fun e w' => e = .returned (.tuple #[.pointer none, .int .i64 c]) ∧ w' = w) :
    Calls Tryz.prog 48 #[v, .string s, .int .i64 0, .int .i64 0] w fun e w' => e = .returned (.tuple #[.string ⟨#[]⟩, .int .i64 c]) ∧ w' = w := by
  have HF' := hideV HF
  have hc' : (c != 0) = true := by simp [bne, hc]
  clear HF
  go_enter Tryz.func48, Tryz.ntmps48
  go_wp2_with fail
  refine HF'.out.mono ?_
  rintro e W ⟨rfl, hW⟩
  obtain rfl := hW.symm
  clear HF' hW
  go_wp2
  go_ret2
  exact ⟨rfl, rfl⟩
theorem read_less (w : World) (v : Value) (s : ByteArray) (c : Int) (HF : Calls Tryz.prog 59 #[v, .string s] w fun e w' => e = .returned (.tuple #[.pointer none, .int .i64 c]) ∧ w' = w) :
    Calls Tryz.prog 48 #[v, .string s, .int .i64 0, .int .i64 (-1)] w fun e w' => e = .returned (.tuple #[.string ⟨#[]⟩, .int .i64 1]) ∧ w' = w := by
  have HF' := hideV HF
  clear HF
  go_enter Tryz.func48, Tryz.ntmps48
  go_wp2_with fail
  refine HF'.out.mono ?_
  rintro e W ⟨rfl, hW⟩
  obtain rfl := hW.symm
  clear HF' hW
  go_wp2
  go_ret2
  exact ⟨rfl, rfl⟩
theorem find_none' (w : World) (B d room cnt us : Nat) (F : List UInt8 → Option (List Nat × Nat)) (h : VD w B d room F cnt us) (s : ByteArray) (hm : May s) (hs : F s.data.toList = none) :
    Calls Tryz.prog 59 #[.pointer (some ⟨d, 0, none⟩), .string s] w fun e w' => e = .returned (.tuple #[.pointer none, .int .i64 3]) ∧ w' = w := by
  obtain ⟨bm, M, h1, h2, h3, h4⟩ := h
  exact find_none w B d room bm M h1 s hm (look_none ((h2 _).trans hs))
def mayD (s : ByteArray) : Bool := decide (1 ≤ s.size) && decide (s.size ≤ 32) && s.data.toList.all (fun c => decide (33 ≤ c.toNat) && decide (c.toNat ≤ 126))
theorem mayD_ok {s : ByteArray} (h : mayD s = true) : May s := by
  simp only [mayD, Bool.and_eq_true, decide_eq_true_eq, List.all_eq_true] at h
  obtain ⟨⟨h1, h2⟩, h3⟩ := h
  refine ⟨h1, h2, fun i hi => ?_⟩
  have := h3 (s[i]'hi) (by
    have e : s[i]'hi = s.data[i]'hi := rfl
    rw [e]
    exact Array.getElem_mem_toList _)
  unfold okB
  rw [← bt_at s i hi]
  exact this
end Go.Proofs.YtogmfdgpnkbpaaaGreatDoor.V8
namespace Go.Proofs.YtogmfdgpnkbpaaaGreatDoor.V8
open Go.RowKit
set_option linter.unusedVariables false
set_option maxRecDepth 20000

theorem VD.typed {w w' : World} {B d room cnt us : Nat} {F : List UInt8 → Option (List Nat × Nat)} (h : VD w B d room F cnt us)
    (hk : ∀ (i : Nat) (cs : Array Value) (t : TypeId) (mk : Nat × Nat), w.heap[i]? = some (Obj.cells cs t mk) → t = 106 ∨ t = 128 ∨ t = 5 → w'.heap[i]? = w.heap[i]?)
    (hm : ∀ (i : Nat) (es : Array MapEntry) (c : Nat), w.heap[i]? = some (.map es c) → w'.heap[i]? = w.heap[i]?) : VD w' B d room F cnt us := by
  obtain ⟨bm, M, h1, h2⟩ := h
  obtain ⟨es, hD, hp⟩ := h1.own
  obtain ⟨es', c', hbm⟩ := h1.mapBlk
  exact ⟨bm, M, ⟨(hk d _ _ _ h1.blk (.inl rfl)).trans h1.blk, ⟨es, ownsMap_block hD (hm bm _ _ hbm), hp⟩, h1.apart, fun m hmm => (h1.each m hmm).block (hk _ _ _ _ (h1.each m hmm).blk (.inr (.inl rfl))) (fun g hg => by
    obtain ⟨cur, e, _⟩ := (h1.each m hmm).row hg
    exact hk g _ _ _ e (.inr (.inr rfl))), h1.hd, h1.hbm, h1.hroom, h1.hused, h1.hcnt⟩, h2⟩
end Go.Proofs.YtogmfdgpnkbpaaaGreatDoor.V8
namespace Go.Proofs.YtogmfdgpnkbpaaaGreatDoor.V8
open Go.RowKit
set_option linter.unusedVariables false
set_option maxRecDepth 20000

/-- string(b[a:a + k]) of bytes that lie in a row. -/
theorem conv_part {P : Program} (w : World) (src dst e : TypeId) (B g n cap : Nat) (l : List Nat) (hs : P.underlying src = some (.slice e)) (he : P.underlying e = some (.int .u8)) (hd : P.underlying dst = some .string)
    (hown : w.ownsRow B e 1 (.slice (some ⟨g, 0, none⟩) n cap) l.length (bcells l)) (hl : ∀ x ∈ l, x < 256) (a k c : Nat) (hak : a + k ≤ l.length) : (convert src dst (.slice (some ⟨g, a, none⟩) k c)).run P w = .ok (.string (toBA ((l.drop a).take k))) w := by
  have hlen : (((l.drop a).take k).map UInt8.ofNat).length = k := by simp; omega
  have := run_convert_bytes_back (P := P) w src dst e ⟨g, a, none⟩ c (((l.drop a).take k).map UInt8.ofNat) hs he hd (fun j hj => by
    have hj' : j < k := by rw [hlen] at hj; exact hj
    have hx := hl l[a + j] (List.getElem_mem _)
    have hc := hown.cells (g := g) rfl (a + j) (.int .u8 (l[a + j] : Nat)) (by simp [bcells, List.getElem?_eq_getElem (show a + j < l.length by omega)])
    have e1 : (⟨g, 0, none⟩ : Addr).add (a + j) = (⟨g, a, none⟩ : Addr).add j := by simp [Addr.add]; split <;> split <;> simp_all <;> omega
    rw [← e1, hc]
    simp
    omega)
  rw [hlen] at this
  rw [this]
  rfl
theorem read_at (w : World) (B d room cnt us : Nat) (F : List UInt8 → Option (List Nat × Nat)) (h : VD w B d room F cnt us) (s : ByteArray) (hm : May s) (l : List Nat) (n : Nat) (hs : F s.data.toList = some (l, n)) (a k : Nat) (hk : a + k ≤ l.length) (hk1 : 1 ≤ k) :
    Calls Tryz.prog 48 #[.pointer (some ⟨d, 0, none⟩), .string s, .int .i64 (a : Nat), .int .i64 (k : Nat)] w fun e w' => e = .returned (.tuple #[.string (toBA ((l.drop a).take k)), .int .i64 0]) ∧ w' = w := by
  have hln := h.some_ hs
  have hbd := h.bounds
  have h00 := h
  obtain ⟨bm, M, h1, h2, h3, h4⟩ := h
  obtain ⟨m, hf, e⟩ := look_some ((h2 _).trans hs)
  cases e
  have HF : Hid (∀ _ : Unit, Calls Tryz.prog 59 #[.pointer (some ⟨d, 0, none⟩), .string s] w fun e w' => e = .returned (.tuple #[.pointer (some ⟨m.blk, 0, none⟩), .int .i64 0]) ∧ w' = w) := fun _ => find_some w B d room bm M h1 s hm m hf
  have hK := h1.each m (findF_some hf).1
  have c0 := hK.cells.1
  obtain ⟨q, hq⟩ : ∃ q, m.blk = q := ⟨_, rfl⟩
  rw [hq] at HF c0
  have hk0 : ¬ (k : Int) < 0 := by omega
  have ha0 : ¬ (a : Int) < 0 := by omega
  rcases hK.own.2 with ⟨hv, h0⟩ | ⟨g, cap, cur, hv, hB, hh, hnc, hcm, hcs, htk⟩
  · omega
  · have hown := hK.own
    rw [hv] at hown
    have hcv := conv_part (P := Tryz.prog) w 108 9 5 B g m.l.length cap m.l Tryz.underlying108 Tryz.underlying5 Tryz.underlying9 hown hK.bytes a k (cap - a) hk
    obtain ⟨L, hL⟩ : ∃ q, m.l.length = q := ⟨_, rfl⟩
    obtain ⟨R, hR⟩ : ∃ R, toBA ((m.l.drop a).take k) = R := ⟨_, rfl⟩
    rw [hv, hL] at c0
    rw [hR] at hcv ⊢
    obtain ⟨z, hz⟩ : ∃ z, a + k = z := ⟨_, rfl⟩
    have hza : z - a = k := by omega
    have hza' : (z : Int).toNat - a = k := by omega
    have hzs : (a : Int) + (k : Int) = (z : Int) := by omega
    have haL : ¬ (L : Int) < (a : Int) := by omega
    obtain ⟨y, hy⟩ : ∃ y, L - a = y := ⟨_, rfl⟩
    have hys : (L : Int) - (a : Int) = (y : Int) := by omega
    have hky : ¬ (y : Int) < (k : Int) := by omega
    have haz : (a : Int) ≤ (z : Int) := by omega
    have hazn : a ≤ z := by omega
    have hzc : z ≤ cap := by omega
    have hca : ¬ cap = a := by omega
    have hzci : (z : Int) ≤ (cap : Int) := by omega
    have hyb : y ≤ 16777216 := by omega
    have hzb : z ≤ 16777216 := by omega
    have hab : a ≤ 16777216 := by omega
    have hkb : k ≤ 16777216 := by omega
    have hLb : L ≤ 16777216 := by omega
    clear h1 h2 h3 h4 hs hm hf hK hv hq hk hk1 hown hR hh hcm hcs htk hnc hL hln hbd hz hy hB h00
    go_enter Tryz.func48, Tryz.ntmps48
    go_wp2_with fail
    refine (HF.out ()).mono ?_
    rintro e W ⟨rfl, hW⟩
    obtain rfl := hW.symm
    go_wp2
    go_ret2
    exact ⟨rfl, rfl⟩
end Go.Proofs.YtogmfdgpnkbpaaaGreatDoor.V8
namespace Go.Proofs.YtogmfdgpnkbpaaaGreatDoor.V8
open Go.RowKit
set_option linter.unusedVariables false
set_option maxRecDepth 20000

theorem sync_none (w : World) (B d room cnt us : Nat) (F : List UInt8 → Option (List Nat × Nat)) (h : VD w B d room F cnt us) (s : ByteArray) (hm : May s) (hs : F s.data.toList = none) :
    Calls Tryz.prog 56 #[.pointer (some ⟨d, 0, none⟩), .string s] w fun e w' => e = .returned (.int .i64 3) ∧ w' = w := by
  obtain ⟨bm, M, h1, h2, h3, h4⟩ := h
  have HF : Hid (∀ _ : Unit, Calls Tryz.prog 59 #[.pointer (some ⟨d, 0, none⟩), .string s] w fun e w' => e = .returned (.tuple #[.pointer none, .int .i64 3]) ∧ w' = w) := fun _ => find_none w B d room bm M h1 s hm (look_none ((h2 _).trans hs))
  clear h1 h2 h3 h4 hs hm
  go_enter Tryz.func56, Tryz.ntmps56
  go_wp2_with fail
  refine (HF.out ()).mono ?_
  rintro e w' ⟨rfl, rfl⟩
  go_wp2
  go_ret
  exact ⟨rfl, rfl⟩
end Go.Proofs.YtogmfdgpnkbpaaaGreatDoor.V8
namespace Go.Proofs.YtogmfdgpnkbpaaaGreatDoor.V8
open Go.RowKit Go.Maps
set_option linter.unusedVariables false
set_option maxRecDepth 20000
set_option maxRecDepth 20000

theorem len64_zero (w : World) : Calls Tryz.prog 98 #[.int .u64 0] w fun e w' => e = .returned (.int .i64 0) ∧ w' = w := by
  have H64 : Hid (∀ W, Calls Tryz.prog 136 #[.int .u64 0] W fun e w' => e = .returned (.int .i64 0) ∧ w' = W) := fun W => by
    go_enter Tryz.func136, Tryz.ntmps136
    go_wp2
    go_ret
    exact ⟨by kernel_rfl, rfl⟩
  go_enter Tryz.func98, Tryz.ntmps98
  go_wp2_with fail
  refine (H64.out _).mono ?_
  rintro e W ⟨rfl, hW⟩
  obtain rfl := hW.symm
  go_wp2
  go_ret
  exact ⟨rfl, rfl⟩
theorem ins_nil (w : World) :
    Calls Tryz.prog 126 #[.slice none 0 0, .int .i64 0, .int .i64 0] w fun e w' => e = .returned (.tuple #[]) ∧ w' = w := by
  go_enter Tryz.func126, Tryz.ntmps126
  go_wp2
  refine wp_loop_rounds 1 ?_
  rw [rounds_succ]
  go_wp2
  go_end0
  exact ⟨rfl, rfl⟩
set_option maxRecDepth 100000 in
theorem pdq_nil (w : World) :
    Calls Tryz.prog 97 #[.slice none 0 0, .int .i64 0, .int .i64 0, .int .i64 0] w fun e w' => e = .returned (.tuple #[]) ∧ w' = w := by
  have HI := hideV (ins_nil w)
  go_enter Tryz.func97, Tryz.ntmps97
  go_wp2
  refine wp_loop_rounds 1 ?_
  rw [rounds_succ]
  go_wp2_with fail
  refine HI.out.mono ?_
  rintro e W ⟨rfl, hW⟩
  obtain rfl := hW.symm
  go_wp2
  refine bodyPost_ret (results_none rfl _ _ _) rfl ?_
  exact ⟨rfl, rfl⟩
set_option maxRecDepth 100000 in
theorem sort_nil (w : World) :
    Calls Tryz.prog 70 #[.slice none 0 0] w fun e w' => e = .returned (.tuple #[]) ∧ w' = w := by
  have HL := hideV (len64_zero w)
  have HP := hideV (pdq_nil w)
  go_enter Tryz.func70, Tryz.ntmps70
  go_wp2_with fail
  refine HL.out.mono ?_
  rintro e W ⟨rfl, hW⟩
  obtain rfl := hW.symm
  clear hW
  go_wp2_with fail
  refine HP.out.mono ?_
  rintro e W ⟨rfl, hW⟩
  obtain rfl := hW.symm
  go_wp2
  go_end0
  exact ⟨rfl, rfl⟩
set_option maxHeartbeats 4000000 in
theorem names_nil (w : World) (B d room us : Nat) (F : List UInt8 → Option (List Nat × Nat)) (h : VD w B d room F 0 us) :
    Calls Tryz.prog 40 #[.pointer (some ⟨d, 0, none⟩)] w fun e w' => e = .returned (.slice none 0 0) ∧ Below w.heap.size w w' := by
  obtain ⟨bm, M, h1, h2, h3, h4⟩ := h
  obtain rfl : M = [] := List.eq_nil_of_length_eq_zero h3
  obtain ⟨c0, c1, c2⟩ := h1.cells
  obtain ⟨es, hD, hp⟩ := h1.own
  have HP : Hid (es.Perm (List.map FR.ent [])) := hp
  have HA : Hid (List.Pairwise Apart ([] : List FR)) := h1.apart
  have HG : Hid (∀ _ : Unit, Calls Tryz.prog 69 #[.pointer (some ⟨d, 0, none⟩)] w fun e w' => e = .returned (.bool true) ∧ w' = w) := fun _ => given_ok w d c0
  have hbl : bm < w.heap.size := h1.lt.2
  have HS := hideV sort_nil
  clear h1 h2 h3 h4 hp
  go_enter Tryz.func40, Tryz.ntmps40
  go_wp2_with fail
  refine (HG.out ()).mono ?_
  rintro e W ⟨rfl, hW⟩
  obtain rfl := hW.symm
  clear hW
  go_wp2_with (first
    | (at_range; refine wpList_range_own _ rfl _ 104 rfl 9 101 law9 Tryz.underlying104 _ bm _ _ rfl hD ?_; intro w0 hrg0 hg0 hs0))
  go_frame
  obtain ⟨R, hR⟩ : ∃ R, w.heap.size = R := ⟨_, rfl⟩
  rw [hR] at hrg0 hs0 hbl
  try rw [hR]
  have HB0 : Hid (Below R w w0 ∧ R + 1 ≤ w0.heap.size) := ⟨⟨hg0.os, hg0.tape, hg0.output, hg0.size, fun k hk => hg0.block k (by omega) (by simp)⟩, by omega⟩
  have HR := hideV hR
  clear hg0 hs0 hR
  go_loopw [3] (fun v wr => Hid (∃ left cnt, wr.ranges Tryz.prog 9 pE bm R 0 (.map es) left cnt ∧ v = .slice none 0 0 ∧ Below R w wr)) (fun _ wr => wr.rangeLeft bm R)
  case atStart => exact ⟨_, _, hrg0, rfl, HB0.out.1⟩
  case round =>
    obtain ⟨left, cnt, hrg, rfl, hnx⟩ := hrel.out
    go_wp2_with (first
      | (at_next; refine wpList_next_files _ rfl _ rfl bm R 0 es [] HP.out HA.out left cnt rfl hrg ?_ ?_))
    · intro hc0 hl0
      have HE := hideV hnx
      clear hrg hnx hrel
      go_wp2_with fail
      refine (HS.out _).mono ?_
      rintro e W ⟨rfl, hW⟩
      obtain rfl := hW.symm
      clear hW
      go_wp2
      go_ret
      exact ⟨rfl, by rw [HR.out]; exact HE.out⟩
end Go.Proofs.YtogmfdgpnkbpaaaGreatDoor.V8
