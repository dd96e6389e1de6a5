/- Two parts of a row of packs, one in the other's place. -/
import Derived.Test.YtklipommocijaaaGz
namespace Go.Proofs.Ytklipommocijaaa
open Go.RowKit PT Go.Sort
set_option linter.unusedVariables false

structure RotSt (w0 : World) (blk off N a m b i j : Nat) (d0 d dk : Array PT) (wr : World) : Prop where
  st : SortSt w0 blk off N d0 dk wr
  perm : PermIn a b d dk
  left : i ≤ m ∧ a ≤ m - i
  right : m + j ≤ b
  pos : 0 < i ∧ 0 < j
  go : ∀ d', Rot (m - i) m (m + j) dk d' → Rot a m b d d'

set_option maxRecDepth 20000 in
set_option maxHeartbeats 4000000 in
theorem rotate_ok (w0 : World) (blk off cap N a m b : Nat) (d0 d : Array PT) (w : World) (hst : SortSt w0 blk off N d0 d w) (hN : N ≤ 100000) (ham : a < m) (hmb : m < b) (hb : b ≤ N) :
    Calls Try.prog 57 #[.slice (some ⟨blk, off, none⟩) N cap, .int .i64 a, .int .i64 m, .int .i64 b, .func (.func 45) #[] #[]] w fun e w' =>
      e = .returned (.tuple #[]) ∧ ∃ d', Rot a m b d d' ∧ PermIn a b d d' ∧ SWK PT.enc 2 w0 blk off d' w' := by
  have H0 : Hid (RotSt w0 blk off N a m b (m - a) (b - m) d0 d d w) := ⟨hst, permIn_refl _ _ _, by omega, by omega, by omega, fun d' h => by
    rw [show m - (m - a) = a by omega, show m + (b - m) = b by omega] at h; exact h⟩
  clear hst
  obtain ⟨I, hI⟩ : ∃ I, m - a = I := ⟨_, rfl⟩
  obtain ⟨J, hJ⟩ : ∃ J, b - m = J := ⟨_, rfl⟩
  rw [hI, hJ] at H0
  have hIi : (m : Int) - (a : Int) = (I : Int) := by omega
  have hJi : (b : Int) - (m : Int) = (J : Int) := by omega
  have wI : IntKind.i64.wrap ((m : Int) - (a : Int)) = (I : Int) := by rw [IntKind.wrap_i64]; omega
  have wJ : IntKind.i64.wrap ((b : Int) - (m : Int)) = (J : Int) := by rw [IntKind.wrap_i64]; omega
  go_enter Try.func57, Try.ntmps57
  go_wp2
  go_loopw [10, 11] (fun v10 v11 wr => ∃ (i j : Nat) (dk : Array PT), v10 = .int .i64 i ∧ v11 = .int .i64 j ∧ Hid (RotSt w0 blk off N a m b i j d0 d dk wr)) (fun v10 v11 _ => (intOf v10).toNat + (intOf v11).toNat)
  case atStart => exact ⟨I, J, d, rfl, rfl, H0⟩
  case round =>
    obtain ⟨i, j, dk, rfl, rfl, HS⟩ := hrel
    have hl := HS.out.left
    have hr := HS.out.right
    have hp := HS.out.pos
    obtain ⟨x, hx⟩ : ∃ x, m - i = x := ⟨_, rfl⟩
    have hxi : (m : Int) - (i : Int) = (x : Int) := by omega
    have wx : IntKind.i64.wrap ((m : Int) - (i : Int)) = (x : Int) := by rw [IntKind.wrap_i64]; omega
    have HX : Hid (m - i = x) := hx
    rcases Nat.lt_trichotomy i j with hij | hij | hij
    · have hne : ¬ (i : Int) = (j : Int) := by omega
      have hneb : ((i : Int) != (j : Int)) = true := by simpa using hne
      have hgt : ¬ (j : Int) < (i : Int) := by omega
      obtain ⟨y, hy⟩ : ∃ y, m + j - i = y := ⟨_, rfl⟩
      have hyi : (m : Int) + (j : Int) - (i : Int) = (y : Int) := by omega
      have wy0 : IntKind.i64.wrap ((m : Int) + (j : Int)) = (m : Int) + (j : Int) := by rw [IntKind.wrap_i64]; omega
      have wy : IntKind.i64.wrap ((m : Int) + (j : Int) - (i : Int)) = (y : Int) := by rw [IntKind.wrap_i64]; omega
      have hsr := fun _ : Unit => swapRange_ok w0 blk off cap N x y i d0 dk wr HS.out.st hN (by omega) (by omega)
      have HSR : Hid _ := hsr
      have HXY : Hid (m - i = x ∧ m + j - i = y) := ⟨hx, hy⟩
      clear hsr hx hy
      go_wp2_with fail
      refine (HSR.out ()).mono ?_
      rintro e w1 ⟨rfl, d1, h1, h2, h3⟩
      have H1 : Hid (RotSt w0 blk off N a m b i (j - i) d0 d d1 w1) := by
        have e1 := HXY.out.1
        have e2 := HXY.out.2
        have hp1 : PermIn a b dk d1 := permIn_mono _ _ x (y + i) a b (by omega) (by omega) (by rw [HS.out.st.size]; exact hb) h2
        refine ⟨HS.out.st.step (by omega) h2 h3, permIn_trans _ _ _ _ _ HS.out.perm hp1, hl, by omega, by omega, fun d' h => HS.out.go d' ?_⟩
        rw [← e1, ← e2] at h1
        exact Rot.less h1 h hij hl.1
      clear h1 h2 h3
      go_wp2
      refine ⟨⟨i, j - i, d1, rfl, ?_, H1⟩, by simp [intOf]; omega⟩
      congr 1; omega
    · subst hij
      have hsr := fun _ : Unit => swapRange_ok w0 blk off cap N x m i d0 dk wr HS.out.st hN (by omega) (by omega)
      have HSR : Hid _ := hsr
      clear hsr
      go_wp2_with fail
      refine (HSR.out ()).mono ?_
      rintro e w1 ⟨rfl, d1, h1, h2, h3⟩
      have HF : Hid (Rot a m b d d1 ∧ PermIn a b d d1 ∧ SWK PT.enc 2 w0 blk off d1 w1) := by
        have e1 := HX.out
        refine ⟨HS.out.go d1 (Rot.equal (by rw [e1]; exact h1) hl.1), permIn_trans _ _ _ _ _ HS.out.perm (permIn_mono _ _ x (m + i) a b (by omega) (by omega) (by rw [HS.out.st.size]; exact hb) h2), h3⟩
      clear h1 h2 h3
      go_wp2
      go_end0
      exact ⟨rfl, d1, HF.out⟩
    · have hne : ¬ (i : Int) = (j : Int) := by omega
      have hneb : ((i : Int) != (j : Int)) = true := by simpa using hne
      have hgt : (j : Int) < (i : Int) := by omega
      have hsr := fun _ : Unit => swapRange_ok w0 blk off cap N x m j d0 dk wr HS.out.st hN (by omega) (by omega)
      have HSR : Hid _ := hsr
      clear hsr
      go_wp2_with fail
      refine (HSR.out ()).mono ?_
      rintro e w1 ⟨rfl, d1, h1, h2, h3⟩
      have H1 : Hid (RotSt w0 blk off N a m b (i - j) j d0 d d1 w1) := by
        have e1 := HX.out
        have hp1 : PermIn a b dk d1 := permIn_mono _ _ x (m + j) a b (by omega) (by omega) (by rw [HS.out.st.size]; exact hb) h2
        refine ⟨HS.out.st.step (by omega) h2 h3, permIn_trans _ _ _ _ _ HS.out.perm hp1, by omega, by omega, by omega, fun d' h => HS.out.go d' ?_⟩
        rw [← e1] at h1
        exact Rot.more h1 h hij hl.1
      clear h1 h2 h3
      go_wp2
      refine ⟨⟨i - j, j, d1, ?_, rfl, H1⟩, by simp [intOf]; omega⟩
      congr 1; omega
end Go.Proofs.Ytklipommocijaaa
