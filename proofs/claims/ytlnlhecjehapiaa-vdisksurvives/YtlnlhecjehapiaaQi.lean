/- Layer 8: a file that is cut: keep, Cut, crash. -/
import Derived.Test.YtlnlhecjehapiaaQh
import Derived.Test.YtlnlhecjehapiaaQt
namespace Go.Proofs.Ytlnlhecjehapiaa
open Go.RowKit Go.Maps
set_option linter.unusedVariables false
set_option maxRecDepth 20000

theorem bclone (w : World) (B g cap : Nat) (l : List Nat) (hown : w.ownsRow B 5 1 (.slice (some ⟨g, 0, none⟩) l.length cap) l.length (bcells l)) (hl : l.length ≤ 16777216) :
    Calls Try.prog 30 #[.slice (some ⟨g, 0, none⟩) l.length cap] w fun e w' => ∃ v', e = .returned v' ∧ w'.ownsRow w.heap.size 5 1 v' l.length (bcells l) ∧ v' ≠ .slice none 0 0 ∧ Below w.heap.size w w' := by
  have h := Any.bytes_Clone_at Try.laysBC ⟨g, 0, none⟩ l.length cap (l.map Int.ofNat) w (by simp) (by omega) (fun i hi => by
    have := hown.cells (g := g) rfl i (.int .u8 (l.getD i 0 : Nat)) (by simp [bcells, hi])
    rw [this]
    simp [hi])
  have e : (l.map Int.ofNat).map (Value.int .u8) = bcells l := by simp [bcells]
  rw [e] at h
  exact h
theorem ownsRow_take {w : World} {B E n k g cap : Nat} {xs : List Value} (h : w.ownsRow B E 1 (.slice (some ⟨g, 0, none⟩) n cap) n xs) (hk : k ≤ n) : w.ownsRow B E 1 (.slice (some ⟨g, 0, none⟩) k cap) k (xs.take k) := by
  have hx : xs.length = n := by simpa using h.1
  rcases h.2 with ⟨e, _⟩ | ⟨g', cap', cur, e1, e2, e3, e4, e5, e6, e7⟩
  · cases e
  · cases e1
    refine ⟨by simp [hx]; omega, .inr ⟨g, cap, cur, rfl, e2, e3, by omega, e5, e6, ?_⟩⟩
    rw [← e7, List.take_take, Nat.mul_one, Nat.mul_one, Nat.min_eq_left hk]
theorem bcells_take (l : List Nat) (k : Nat) : (bcells l).take k = bcells (l.take k) := by simp [bcells, List.map_take]
/-- Behind a cut. -/
def KeepEnd (w : World) (B : Nat) (m : FR) (k : Nat) (e : Ending) (w' : World) : Prop :=
  e = .returned (.tuple #[]) ∧ ∃ v', FOK w' B { m with v := v', l := m.l.take k, n := k } ∧ VF B w w' ∧ (∀ i, i < w.heap.size → i ≠ m.blk → w'.heap[i]? = w.heap[i]?) ∧ ∀ g, v'.ownBlock = some g → m.v.ownBlock = some g ∨ w.heap.size ≤ g
theorem cut_world {w : World} {B : Nat} {m : FR} (h : FOK w B m) (k : Nat) (hk : k ≤ m.l.length) (v' : Value) (hv : w.ownsRow B 5 1 v' k (bcells (m.l.take k))) (hb : v'.ownBlock = m.v.ownBlock) :
    FOK ((w.setCell ⟨m.blk, 0, none⟩ v').setCell ⟨m.blk, 1, none⟩ (.int .i64 (k : Nat))) B { m with v := v', l := m.l.take k, n := k } ∧ VF B w ((w.setCell ⟨m.blk, 0, none⟩ v').setCell ⟨m.blk, 1, none⟩ (.int .i64 (k : Nat))) ∧
    (∀ i, i ≠ m.blk → ((w.setCell ⟨m.blk, 0, none⟩ v').setCell ⟨m.blk, 1, none⟩ (.int .i64 (k : Nat))).heap[i]? = w.heap[i]?) ∧ ((w.setCell ⟨m.blk, 0, none⟩ v').setCell ⟨m.blk, 1, none⟩ (.int .i64 (k : Nat))).heap.size = w.heap.size := by
  have b1 := block_setCell (i := 0) (u := v') h.blk
  have b2 := block_setCell (i := 1) (u := .int .i64 (k : Nat)) b1
  have hl : (m.l.take k).length = k := by simp; omega
  refine ⟨⟨b2, ?_, fun x hx => h.bytes x (List.mem_of_mem_take hx), by show k ≤ (m.l.take k).length; omega, h.hB⟩, (VF.file h.blk h.hB _).trans (VF.file b1 h.hB _), fun i hi => ?_, by simp [World.setCell]⟩
  · show World.ownsRow _ B _ 1 v' (m.l.take k).length (bcells (m.l.take k))
    rw [hl]
    exact ownsRow_set (ownsRow_set hv h.blk (by decide)) b1 (by decide)
  · rw [Below.heap_setCell _ _ _ _ (by exact hi), Below.heap_setCell _ _ _ _ (by exact hi)]
set_option maxHeartbeats 2000000 in
theorem keep_ok (w : World) (B : Nat) (m : FR) (h : FOK w B m) (hBw : B ≤ w.heap.size) (k : Nat) (hk : k ≤ m.l.length) (hl : m.l.length ≤ 16777216) :
    Calls Try.prog 26 #[.pointer (some ⟨m.blk, 0, none⟩), .int .i64 (k : Nat)] w (KeepEnd w B m k) := by
  obtain ⟨c0, c1, f0, f1⟩ := h.cells
  rcases h.own.2 with ⟨hv, h0⟩ | ⟨g, cap, cur, hv, hB, hh, hnc, hcm, hcs, htk⟩
  · have hk0 : k = 0 := by omega
    subst hk0
    obtain ⟨a1, a2, a3, a4⟩ := cut_world h 0 (by omega) (.slice none 0 0) (by simp [bcells]; exact ⟨rfl, .inl ⟨rfl, rfl⟩⟩) (by rw [hv])
    have HE : Hid (KeepEnd w B m 0 (.returned (.tuple #[])) ((w.setCell ⟨m.blk, 0, none⟩ (.slice none 0 0)).setCell ⟨m.blk, 1, none⟩ (.int .i64 (0 : Nat)))) := ⟨rfl, _, a1, a2, fun i hi h1 => a3 i h1, fun g hg => by simp [Value.ownBlock] at hg⟩
    rw [hv] at c0
    obtain ⟨q, hq⟩ : ∃ q, m.blk = q := ⟨_, rfl⟩
    rw [hq] at c0 c1 f0 f1 HE ⊢
    clear a1 a2 a3 a4 h hv h0 hk hl
    go_enter Try.func26, Try.ntmps26
    go_wp2
    go_end0
    exact HE.out
  · have hown := ownsRow_take (hv ▸ h.own) hk
    rw [bcells_take] at hown
    obtain ⟨a1, a2, a3, a4⟩ := cut_world h k hk (.slice (some ⟨g, 0, none⟩) k cap) hown (by rw [hv]; rfl)
    obtain ⟨q, hq⟩ : ∃ q, m.blk = q := ⟨_, rfl⟩
    have HQ : Hid (m.blk = q) := hq
    obtain ⟨L, hL⟩ : ∃ q, m.l.length = q := ⟨_, rfl⟩
    rw [hv, hL] at c0
    obtain ⟨w1, hw1⟩ : ∃ W, (w.setCell ⟨m.blk, 0, none⟩ (.slice (some ⟨g, 0, none⟩) k cap)).setCell ⟨m.blk, 1, none⟩ (.int .i64 (k : Nat)) = W := ⟨_, rfl⟩
    rw [hw1] at a1 a2 a3 a4
    have HA : Hid (FOK w1 B { m with v := .slice (some ⟨g, 0, none⟩) k cap, l := m.l.take k, n := k } ∧ VF B w w1 ∧ (∀ i, i ≠ m.blk → w1.heap[i]? = w.heap[i]?) ∧ w1.heap.size = w.heap.size) := ⟨a1, a2, a3, a4⟩
    have hkL : (k : Int) ≤ (L : Int) := by omega
    have hk1 : (0 : Int) ≤ (k : Int) := by omega
    have hLc : L ≤ cap := by omega
    have hkc : k ≤ cap := by omega
    have hkci : (k : Int) ≤ (cap : Int) := by omega
    have hmul : wrap64 (2 * (k : Int)) = ((2 * k : Nat) : Int) := by rw [show (2 * (k : Int)) = ((2 * k : Nat) : Int) by omega]; exact wrapN64 _ (by omega)
    have HV : Hid (m.v.ownBlock = some g) := by rw [hv]; rfl
    have HB : Hid (B ≤ w.heap.size ∧ k ≤ m.l.length ∧ m.l.length ≤ 16777216) := ⟨hBw, hk, hl⟩
    rw [hq] at c0 c1 f0 f1 hw1 ⊢
    clear a1 a2 a3 a4 hown hh hcs htk hcm hnc h hv hq hL hk hl hBw hB
    obtain ⟨d0, d1, e0, e1⟩ := HA.out.1.cells
    simp only [HQ.out] at d0 d1 e0 e1
    clear d1 e1
    by_cases hc : 2 * k < cap
    · have hci : ((2 * k : Nat) : Int) < (cap : Int) := by omega
      have HC : Hid (∀ _ : Unit, Calls Try.prog 30 #[.slice (some ⟨g, 0, none⟩) k cap] w1 fun e w' => ∃ v', e = .returned v' ∧ w'.ownsRow w1.heap.size 5 1 v' k (bcells (m.l.take k)) ∧ v' ≠ .slice none 0 0 ∧ Below w1.heap.size w1 w') := fun _ => by
        have hl : (m.l.take k).length = k := by have := HB.out; simp; omega
        have h1 := bclone w1 B g cap (m.l.take k) (by rw [hl]; have := HA.out.1.own; simp only [hl] at this; exact this) (by have := HB.out; omega)
        rw [hl] at h1
        exact h1
      clear hc
      go_enter Try.func26, Try.ntmps26
      go_wp2_with fail
      refine (HC.out ()).mono ?_
      rintro e w2 ⟨v2, rfl, hown2, hnn, hb2⟩
      obtain ⟨g2, cap2, rfl, hg2⟩ : ∃ g2 cap2, v2 = .slice (some ⟨g2, 0, none⟩) k cap2 ∧ w1.heap.size ≤ g2 := by
        rcases hown2.2 with ⟨e, _⟩ | ⟨g', cap', cur', e1, e2, _⟩
        · exact absurd e hnn
        · exact ⟨g', cap', e1, e2⟩
      have hF2 := HA.out.1.below hb2
      obtain ⟨x0, x1, y0, y1⟩ := hF2.cells
      simp only [HQ.out] at x0 y0
      have HE : Hid (KeepEnd w B m k (.returned (.tuple #[])) (w2.setCell ⟨q, 0, none⟩ (.slice (some ⟨g2, 0, none⟩) k cap2))) := by
        obtain ⟨a1, a2, a3, a4⟩ := HA.out
        have hbl := hF2.blk
        have hBB : B ≤ w1.heap.size := by rw [a4]; exact HB.out.1
        simp only [HQ.out] at hbl
        have hl : (m.l.take k).length = k := by have := HB.out; simp; omega
        refine ⟨rfl, .slice (some ⟨g2, 0, none⟩) k cap2, ⟨?_, ?_, a1.bytes, a1.le, a1.hB⟩, (a2.trans (VF.of hb2 hBB)).trans (VF.file hbl (by have := a1.hB; simp only [HQ.out] at this; exact this) _), fun i hi h1 => ?_, fun g hg => ?_⟩
        · have := block_setCell (i := 0) (u := .slice (some ⟨g2, 0, none⟩) k cap2) hbl
          simp only [HQ.out]
          exact this
        · show World.ownsRow _ B _ 1 (.slice (some ⟨g2, 0, none⟩) k cap2) (m.l.take k).length (bcells (m.l.take k))
          rw [hl]
          exact ownsRow_set (ownsRow_rebase hown2 (fun g hg => Nat.le_trans hBB (by
            have e : g2 = g := by simpa [Value.ownBlock] using hg
            omega))) hbl (by decide)
        · rw [Below.heap_setCell _ _ _ _ (by show i ≠ q; rw [← HQ.out]; exact h1), hb2.block i (by rw [a4]; exact hi), a3 i h1]
        · right
          have e : g2 = g := by simpa [Value.ownBlock] using hg
          rw [← a4]; omega
      clear hown2 hnn hb2 hg2 hF2 x1 y1 d0 e0
      go_wp2
      go_end0
      exact HE.out
    · have hci : ¬ ((2 * k : Nat) : Int) < (cap : Int) := by omega
      have HE : Hid (KeepEnd w B m k (.returned (.tuple #[])) w1) := by
        obtain ⟨a1, a2, a3, a4⟩ := HA.out
        exact ⟨rfl, _, a1, a2, fun i hi h1 => a3 i h1, fun g' hg' => .inl (by rw [HV.out, ← hg']; rfl)⟩
      clear hc
      go_enter Try.func26, Try.ntmps26
      go_wp2
      go_end0
      exact HE.out
end Go.Proofs.Ytlnlhecjehapiaa
