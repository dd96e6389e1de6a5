/- Layer 18: next walked where no step is lower. -/
import Derived.Test.YtebfpffilepfaaaKg
namespace Go.Proofs.Ytebfpffilepfaaa
open Go.RowKit Go.Maps Go.Shelf
set_option linter.unusedVariables false
set_option maxRecDepth 20000

def climb (V : Nat) : Nat := if V % 2 = 0 then 2 * V + 3 else 2 * V
set_option maxHeartbeats 8000000 in
theorem next_high (D : Nat) (a : Option Addr) (cap : Nat) (L : List Due) (lv g : Nat) (T : Nat → Int) (p : Nat) (s : Int) (w : World) (h : DS w D a cap L lv g T) (ht : Tree L lv T) (hs : ∀ d ∈ L, s ≤ d.step) (hsm : s ≤ 9223372036854775807) (hp : p ≤ 1000000000) :
    Calls Try.prog 24 #[.pointer (some ⟨D, 0, none⟩), .int .i64 (p : Nat), .int .i64 s] w fun e w' => e = .returned (.int .i64 (L.length : Nat)) ∧ w' = w := by
  obtain ⟨c0, c1, c2⟩ := cells3 h.blk
  have h1 := h.one
  have h2 := h.le
  have h3 := h.big
  have HT : Hid (TB w g (2 * lv) T) := h.tb
  have HA : Hid (∀ i, 1 ≤ i → i < 2 * lv → s ≤ T i) := fun i h1 h2 => ht.all hsm hs (2 * lv) i h1 h2 (by omega)
  obtain ⟨len, hl⟩ : ∃ len, L.length = len := ⟨_, rfl⟩
  have HL : Hid (L.length = len) := hl
  rw [hl] at h2 c0 ⊢
  clear h ht hs hl hsm
  by_cases hlt : len ≤ p
  · have hge : (p : Int) ≥ (len : Int) := by omega
    go_enter Try.func24, Try.ntmps24
    go_wp2_with fail
    go_ret
    exact ⟨rfl, rfl⟩
  · have hge : ¬ (p : Int) ≥ (len : Int) := by omega
    obtain ⟨A, hAe⟩ : ∃ A, lv + p = A := ⟨_, rfl⟩
    have hAi : (lv : Int) + (p : Int) = (A : Int) := by omega
    obtain ⟨n2, hn2⟩ : ∃ n2, 2 * lv = n2 := ⟨_, rfl⟩
    rw [hn2] at HT c2 HA
    have hAl : 1 ≤ A ∧ A < n2 := by omega
    go_enter Try.func24, Try.ntmps24
    go_wp2_with fail
    go_loopw [7] (fun v wr => ∃ V : Nat, v = .int .i64 (V : Nat) ∧ 1 ≤ V ∧ V < n2 ∧ wr = w) (fun v _ => climb (intOf v).toNat)
    case atStart => exact ⟨A, rfl, by omega, by omega, rfl⟩
    case round =>
      obtain ⟨V, rfl, hV1, hV2, rfl⟩ := hrel
      have t0 := HT.out.cell hV2
      have hT := HA.out V hV1 hV2
      obtain ⟨x, hxx⟩ : ∃ x, T V = x := ⟨_, rfl⟩
      rw [hxx] at t0 hT
      have hxn : x ≥ s := hT
      clear hxx hT
      go_wp2_with fail
      go_loopw [7] (fun v w2 => ∃ X : Nat, v = .int .i64 (X : Nat) ∧ (X = V ∨ 2 * X + 1 ≤ V) ∧ w2 = wr) (fun v _ => (intOf v).toNat)
      case atStart => exact ⟨V, rfl, .inl rfl, rfl⟩
      case round =>
        obtain ⟨X, rfl, hX, rfl⟩ := hrel
        by_cases hodd : X % 2 = 1
        · have hb : ((X : Int) % 2 == 1) = true := by have : (X : Int) % 2 = 1 := by omega
                                                      rw [this]; rfl
          obtain ⟨Y, hY⟩ : ∃ Y, X / 2 = Y := ⟨_, rfl⟩
          have hYi : (X : Int) / 2 = (Y : Int) := by omega
          go_wp2_with fail
          exact ⟨⟨Y, rfl, by omega, trivial⟩, by simp [intOf]; omega⟩
        · have hb : ((X : Int) % 2 == 1) = false := by have : (X : Int) % 2 = 0 := by omega
                                                       rw [this]; rfl
          by_cases hz : X = 0
          · subst hz
            go_wp2_with fail
            go_ret
            exact ⟨rfl, rfl⟩
          · have hzi : ((X : Int) == 0) = false := by simp; omega
            have hM : Hid (climb (X + 1) < climb V) := by
              show climb (X + 1) < climb V
              unfold climb
              rcases hX with rfl | hX
              · rw [if_neg (by omega), if_pos (by omega)]; omega
              · by_cases hVe : V % 2 = 0
                · rw [if_neg (by omega), if_pos hVe]; omega
                · rw [if_neg (by omega), if_neg hVe]; omega
            go_wp2_with fail
            have hXi : ((X : Int) + 1) = ((X + 1 : Nat) : Int) := by omega
            rw [hXi]
            exact ⟨⟨X + 1, rfl, by omega, by omega, trivial⟩, by simpa only [intOf, Int.toNat_natCast] using hM.out⟩
end Go.Proofs.Ytebfpffilepfaaa
