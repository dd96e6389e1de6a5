/- Layer 6: how many bytes are the same at two places. -/
import Derived.Test.YtbncfpbehahidaaYq
namespace Go.Proofs.Ytbncfpbehahidaa
open Go.RowKit
set_option linter.unusedVariables false
set_option maxRecDepth 20000

/-- From n on, how far two places go on alike, at most m more. -/
def runL (s : ByteArray) (a b : Nat) : Nat → Nat → Nat
  | 0, n => n
  | m + 1, n => if bt s (a + n) = bt s (b + n) then runL s a b m (n + 1) else n
def alikeF (s : ByteArray) (a b fl most : Nat) : Nat := if bt s (a + fl) = bt s (b + fl) then runL s a b most 0 else 0
theorem runL_le (s : ByteArray) (a b : Nat) : ∀ m n, n ≤ runL s a b m n ∧ runL s a b m n ≤ n + m ∧ ∀ i, n ≤ i → i < runL s a b m n → bt s (a + i) = bt s (b + i)
  | 0, n => ⟨Nat.le_refl _, Nat.le_refl _, fun i h1 h2 => by simp [runL] at h2; omega⟩
  | m + 1, n => by
    unfold runL
    split
    · rename_i h
      have h1 := runL_le s a b m (n + 1)
      refine ⟨by omega, by omega, fun i hi h2 => ?_⟩
      by_cases e : i = n
      · subst e; exact h
      · exact h1.2.2 i (by omega) h2
    · exact ⟨Nat.le_refl _, by omega, fun i h1 h2 => by omega⟩
set_option maxRecDepth 20000 in
set_option maxHeartbeats 1000000 in
theorem alike_ok (w : World) (f : Nat) (s : ByteArray) (a b fl most : Nat) (hc : w.cell? ⟨f, 0, none⟩ = some (.string s)) (hab : a ≤ b) (hf : fl < most) (hb : b + most ≤ s.size) (hs : s.size ≤ 1048576) :
    Calls Try.prog 64 #[.pointer (some ⟨f, 0, none⟩), .int .i64 a, .int .i64 b, .int .i64 fl, .int .i64 most] w fun e w' => e = .returned (.int .i64 (alikeF s a b fl most : Nat)) ∧ ∃ k, w' = w.drewN k := by
  obtain ⟨r, hr⟩ : ∃ r, alikeF s a b fl most = r := ⟨_, rfl⟩
  rw [hr]
  unfold alikeF at hr
  obtain ⟨p, hp⟩ : ∃ p, a + fl = p := ⟨_, rfl⟩
  obtain ⟨q, hq⟩ : ∃ p, b + fl = p := ⟨_, rfl⟩
  have gp : p < s.size := by omega
  have gq : q < s.size := by omega
  have jp : (a : Int) + (fl : Int) = (p : Int) := by omega
  have jq : (b : Int) + (fl : Int) = (q : Int) := by omega
  have ip : (p : Int) < (s.size : Int) := by omega
  have iq : (q : Int) < (s.size : Int) := by omega
  have kp := wrapN p (by omega)
  have kq := wrapN q (by omega)
  have bp := bt_at s p gp
  have bq := bt_at s q gq
  rw [hp, hq] at hr
  obtain ⟨x, hx⟩ : ∃ x, bt s p = x := ⟨_, rfl⟩
  obtain ⟨y, hy⟩ : ∃ x, bt s q = x := ⟨_, rfl⟩
  rw [hx] at bp hr
  rw [hy] at bq hr
  clear hx hy hp hq
  by_cases hxy : x = y
  · rw [if_pos hxy] at hr
    have HR : Hid (runL s a b most 0 = r) := hr
    have hxb : ((x : Int) != (y : Int)) = false := by simp [hxy]
    clear hr
    go_enter Try.func64, Try.ntmps64
    go_wp2_with fail
    go_quiet (fail)
    clear hxb bp bq kp kq ip iq jp jq hxy
    go_wp2_with fail
    go_loopw [11] (fun v11 wr => ∃ n : Nat, v11 = .int .i64 (n : Nat) ∧ n ≤ most ∧ Hid (runL s a b (most - n) n = r ∧ ∃ j, wr = w.drewN j)) (fun v11 _ => most - (intOf v11).toNat)
    case atStart => exact ⟨0, rfl, Nat.zero_le _, HR.out, nq, rfl⟩
    case round =>
      obtain ⟨n, rfl, hn, HS⟩ := hrel
      obtain ⟨hrn, j, hj⟩ := HS.out
      have hcr : wr.cell? ⟨f, 0, none⟩ = some (.string s) := by rw [hj]; exact hc
      by_cases hlt : n < most
      · obtain ⟨p, hp⟩ : ∃ p, a + n = p := ⟨_, rfl⟩
        obtain ⟨q, hq⟩ : ∃ p, b + n = p := ⟨_, rfl⟩
        have gp : p < s.size := by omega
        have gq : q < s.size := by omega
        have jp : (a : Int) + (n : Int) = (p : Int) := by omega
        have jq : (b : Int) + (n : Int) = (q : Int) := by omega
        have ip : (p : Int) < (s.size : Int) := by omega
        have iq : (q : Int) < (s.size : Int) := by omega
        have kp := wrapN p (by omega)
        have kq := wrapN q (by omega)
        have hltb : decide ((n : Int) < (most : Int)) = true := by simp; omega
        have hlti : (n : Int) < (most : Int) := by omega
        have hst : runL s a b (most - n) n = if bt s p = bt s q then runL s a b (most - (n + 1)) (n + 1) else n := by
          rw [show most - n = (most - (n + 1)) + 1 by omega, runL, hp, hq]
        rw [hst] at hrn
        have bp := bt_at s p gp
        have bq := bt_at s q gq
        obtain ⟨x, hx⟩ : ∃ x, bt s p = x := ⟨_, rfl⟩
        obtain ⟨y, hy⟩ : ∃ x, bt s q = x := ⟨_, rfl⟩
        rw [hx] at bp hrn
        rw [hy] at bq hrn
        clear hx hy hp hq hst
        by_cases hxy : x = y
        · rw [if_pos hxy] at hrn
          have HN : Hid (runL s a b (most - (n + 1)) (n + 1) = r ∧ ∃ j, wr = w.drewN j) := ⟨hrn, j, hj⟩
          have hxb : ((x : Int) == (y : Int)) = true := by simp [hxy]
          subst hj
          clear hrn hxy
          go_wp2_with fail
          go_quiet (fail)
          have HN2 : Hid (runL s a b (most - (n + 1)) (n + 1) = r ∧ ∃ j', w.drewN (j + nq) = w.drewN j') := ⟨HN.out.1, j + nq, rfl⟩
          go_wp2
          exact ⟨⟨n + 1, by go_num, by omega, HN2⟩, by simp [intOf]; omega⟩
        · rw [if_neg hxy] at hrn
          subst hrn
          have hxb : ((x : Int) == (y : Int)) = false := by simp; omega
          subst hj
          clear hxy
          go_wp2_with fail
          go_quiet (fail)
          go_wp2
          go_ret
          exact ⟨rfl, j + nq, World.drewN_drewN _ _ _⟩
      · obtain rfl : n = most := by omega
        have hltb : decide ((n : Int) < (n : Int)) = false := by simp
        rw [Nat.sub_self] at hrn
        have hrn2 : n = r := hrn
        subst hrn2
        subst hj
        clear hrn
        go_wp2_with fail
        go_quiet (fail)
        go_wp2
        go_ret
        exact ⟨rfl, j + nq, World.drewN_drewN _ _ _⟩
  · rw [if_neg hxy] at hr
    subst hr
    have hxb : ((x : Int) != (y : Int)) = true := by simp; omega
    go_enter Try.func64, Try.ntmps64
    go_wp2_with fail
    go_quiet (fail)
    go_wp2
    go_ret
    exact ⟨rfl, nq, rfl⟩
end Go.Proofs.Ytbncfpbehahidaa
