/- Layer 6: Unpack. -/
import Derived.Test.YtbncfpbehahidaaYg
namespace Go.Proofs.Ytbncfpbehahidaa
open Go.RowKit
set_option linter.unusedVariables false

theorem unpack_arg (s : ByteArray) (most : Int) (w : World) (h : most < 0 ∨ 1048576 < most) : Calls Try.prog 50 #[.string s, .int .i64 most] w fun e w' => e = .returned (.tuple #[.string ⟨#[]⟩, .int .i64 1]) ∧ Below w.heap.size w w' := by
  by_cases h1 : most < 0
  · have hd : decide (most < 0) = true := by simp [h1]
    go_enter Try.func50, Try.ntmps50
    go_wp2
    go_ret2
    exact ⟨rfl, Below.refl _ _⟩
  · have h2 : 1048576 < most := by omega
    have hd : decide (most < 0) = false := by simp; omega
    go_enter Try.func50, Try.ntmps50
    go_wp2
    go_ret2
    exact ⟨rfl, Below.refl _ _⟩
set_option maxRecDepth 20000 in
set_option maxHeartbeats 4000000 in
theorem unpack_ok (s : ByteArray) (most : Nat) (w : World) (hm : most ≤ 1048576) (hs : s.size ≤ 281474976710656) :
    Calls Try.prog 50 #[.string s, .int .i64 most] w fun e w' => e = .returned (lzR (unpack s most)) ∧ Below w.heap.size w w' := by
  obtain ⟨r, hr⟩ : ∃ r, unpack s most = r := ⟨_, rfl⟩
  rw [hr]
  have HR : Hid (unpack s most = r) := hr
  have HB : Hid (Bytes r.2) := by
    show Bytes _
    rw [← hr]; exact unpF_bytes _ _ _ _ _ (fun x hx => by simp at hx)
  have hmi : ¬ (1048576 : Int) < (most : Int) := by omega
  have hm0 : decide ((most : Int) < 0) = false := by simp
  have hm1 : ¬ (most : Int) < 0 := by omega
  have H0 : Hid (LU (w.alloc (.cells #[.string s, .int .i64 0, .slice none 0 0, .int .i64 (most : Nat)] 82)) w.heap.size w.heap.size s 0 [] most (.slice none 0 0) ∧ Below w.heap.size w (w.alloc (.cells #[.string s, .int .i64 0, .slice none 0 0, .int .i64 (most : Nat)] 82))) :=
    ⟨⟨heap_alloc_new _ _, World.ownsRow_nil _ _ _ _, Nat.zero_le _, hs, Nat.le_refl _⟩, (Below.refl _ _).alloc (Nat.le_refl _) _⟩
  clear hr
  go_enter Try.func50, Try.ntmps50
  go_wp2_with fail
  obtain ⟨w1, hw1⟩ : ∃ w1, w.alloc (.cells #[.string s, .int .i64 0, .slice none 0 0, .int .i64 (most : Nat)] 82) = w1 := ⟨_, rfl⟩
  rw [hw1] at H0 ⊢
  clear hw1
  go_loopw [7] (fun _ wr => Hid (∃ a l v k, LU wr w.heap.size w.heap.size s a l most v ∧ Below w.heap.size w wr ∧ unpF s most k a l = r ∧ s.size - a < k ∧ l.length ≤ most)) (fun _ wr => s.size - atOf wr w.heap.size)
  case atStart => exact ⟨0, [], _, s.size + 1, H0.out.1, H0.out.2, HR.out, by omega, Nat.zero_le _⟩
  case round =>
    obtain ⟨a, l, v, k, hU, hF, hk, hks, hl⟩ := hrel.out
    have HQ : Hid (∀ _ : Unit, Calls Try.prog 61 #[.pointer (some ⟨w.heap.size, 0, none⟩)] wr fun e w' => SeqEnd w.heap.size w.heap.size s most wr (seqF s most a l) e w') := fun _ => sequence_ok wr _ _ s a l most v hU hm hl
    have hle := seqF_le s most a l
    have HAT : Hid (atOf wr w.heap.size = a ∧ a ≤ s.size) := ⟨hU.atOf, hU.le⟩
    obtain ⟨k, rfl⟩ : ∃ k', k = k' + 1 := ⟨k - 1, by omega⟩
    unfold unpF at hk
    obtain ⟨t, ht⟩ : ∃ t, seqF s most a l = t := ⟨_, rfl⟩
    rw [ht] at hk hle HQ
    have HK : Hid (_ = r) := hk
    have HF : Hid (Below w.heap.size w wr ∧ s.size - a < k + 1) := ⟨hF, hks⟩
    have HLE : Hid _ := hle
    clear hk hF hks hU hle ht hl hrel H0
    go_wp2_with fail
    refine (HQ.out ()).mono ?_
    rintro e w2 ⟨hf, ⟨h0, rfl⟩ | ⟨h0, rfl, v', hU⟩⟩
    · have hr := HK.out
      rw [if_pos h0] at hr
      have HE : Hid (lzR r = .tuple #[.string ⟨#[]⟩, .int .i64 (t.1 : Nat)]) := by
        show _ = _
        unfold lzR
        rw [if_neg (by rw [← hr]; exact h0), ← hr]
      have h0i : ((t.1 : Int) != 0) = true := by simp; omega
      have HB2 : Hid (Below w.heap.size w w2) := HF.out.1.trans hf
      obtain ⟨q, hq⟩ : ∃ q, t.1 = q := ⟨_, rfl⟩
      rw [hq] at h0i HE ⊢
      clear hr hf HK HLE HQ hq
      go_wp2
      go_ret2
      rw [HE.out]
      exact ⟨rfl, HB2.out⟩
    · have hr := HK.out
      rw [if_neg (by omega)] at hr
      have hle := HLE.out h0
      obtain ⟨t0, t1, t2, t3⟩ := t
      simp only at h0 hr hU hle ⊢
      have HU : Hid (LU w2 w.heap.size w.heap.size s t2 t3 most v' ∧ Below w.heap.size w w2) := ⟨hU, HF.out.1.trans hf⟩
      have HA2 : Hid (atOf w2 w.heap.size = t2) := hU.atOf
      cases t1 with
      | true =>
        rw [if_pos rfl] at hr
        obtain ⟨c0, c1, c2, c3, f1, f2⟩ := hU.cells
        have hconv : (convert 30 9 v').run Try.prog w2 = .ok (.string (toBA t3)) w2 := conv_row w2 _ _ 5 w.heap.size v' t3 Try.underlying30 Try.underlying5 Try.underlying9 hU.own (by have := HB.out; rw [← hr] at this; exact this)
        obtain ⟨ao, cp, hv⟩ := hU.form
        have HE : Hid (lzR r = .tuple #[.string (toBA t3), .int .i64 0]) := by
          show _ = _
          rw [← hr]; rfl
        obtain ⟨T, hT⟩ : ∃ T, toBA t3 = T := ⟨_, rfl⟩
        rw [hT] at hconv HE
        clear hr hf HK HLE HQ hle hU hT hv
        go_wp2
        go_ret2
        rw [HE.out]
        exact ⟨rfl, HU.out.2⟩
      | false =>
        rw [if_neg (by decide)] at hr
        have HN : Hid (∃ a l v k, LU w2 w.heap.size w.heap.size s a l most v ∧ Below w.heap.size w w2 ∧ unpF s most k a l = r ∧ s.size - a < k ∧ l.length ≤ most) := ⟨t2, t3, v', k, HU.out.1, HU.out.2, hr, by have := HF.out.2; omega, hle.2.2.1⟩
        have hlt := hle.1
        have hlt2 := hle.2.1
        clear hr hf HK HLE HQ hle hU
        go_wp2
        exact ⟨HN, by rw [HA2.out, HAT.out.1]; omega⟩
end Go.Proofs.Ytbncfpbehahidaa
