/- Layer 6: an unpacker's next byte, its numbers. -/
import Derived.Test.YtbncfpbehahidaaYa
namespace Go.Proofs.Ytbncfpbehahidaa
open Go.RowKit
set_option linter.unusedVariables false

theorem bt_at (s : ByteArray) (a : Nat) (h : a < s.size) : (s[a]'h).toNat = bt s a := by
  have h' : a < s.data.size := h
  unfold bt
  rw [List.getD_eq_getElem?_getD, Array.getElem?_toList, Array.getElem?_eq_getElem h']
  rfl
theorem wrapN64 (T : Nat) (h : T ≤ 4611686018427387904) : wrap64 (T : Int) = (T : Int) := by unfold wrap64; omega
theorem LU.movedN {w : World} {B u : Nat} {s : ByteArray} {a : Nat} {l : List Nat} {most : Nat} {v : Value} (h : LU w B u s a l most v) (k q : Nat) (hq : q ≤ s.size) (x : Int) (hx : x = (q : Nat)) : LU ((w.drewN k).setCell ⟨u, 1, none⟩ (.int .i64 x)) B u s q l most v ∧ Below B w ((w.drewN k).setCell ⟨u, 1, none⟩ (.int .i64 x)) := by
  subst hx
  have h1 := (h.drewN k).moved q hq
  exact ⟨h1.1, ⟨h1.2.os, h1.2.tape, h1.2.output, h1.2.size, h1.2.block⟩⟩
set_option maxRecDepth 20000 in
set_option maxHeartbeats 1000000 in
theorem next_ok (w : World) (B u : Nat) (s : ByteArray) (a : Nat) (l : List Nat) (most : Nat) (v : Value) (h : LU w B u s a l most v) (ha : a < s.size) :
    Calls Try.prog 71 #[.pointer (some ⟨u, 0, none⟩)] w fun e w' => e = .returned (.tuple #[.int .i64 (bt s a : Nat), .int .i64 0]) ∧ LU w' B u s (a + 1) l most v ∧ Below B w w' := by
  obtain ⟨c0, c1, c2, c3, f1, f2⟩ := h.cells
  have H : Hid (LU w B u s a l most v) := h
  have hs := h.small
  have hn : ((a : Int) == (s.size : Int)) = false := by simp; omega
  have hbt := bt_at s a ha
  have hbl := bt_lt s a
  obtain ⟨x, hx⟩ : ∃ x, bt s a = x := ⟨_, rfl⟩
  rw [hx] at hbt hbl ⊢
  have hw := wrapN64 x (by omega)
  clear h hx
  go_enter Try.func71, Try.ntmps71
  go_wp2_with fail
  go_quiet (fail)
  go_wp2_with fail
  go_quiet (fail)
  go_wp2
  go_ret2
  exact ⟨rfl, H.out.movedN _ (a + 1) (by omega) _ (by omega)⟩
set_option maxRecDepth 20000 in
set_option maxHeartbeats 1000000 in
theorem next_no (w : World) (B u : Nat) (s : ByteArray) (l : List Nat) (most : Nat) (v : Value) (h : LU w B u s s.size l most v) :
    Calls Try.prog 71 #[.pointer (some ⟨u, 0, none⟩)] w fun e w' => e = .returned (.tuple #[.int .i64 0, .int .i64 5]) ∧ ∃ k, w' = w.drewN k := by
  obtain ⟨c0, c1, c2, c3, f1, f2⟩ := h.cells
  have hs := h.small
  clear h
  go_enter Try.func71, Try.ntmps71
  go_wp2_with fail
  go_quiet (fail)
  go_wp2
  go_ret2
  exact ⟨rfl, nq, rfl⟩
def atOf (w : World) (u : Nat) : Nat := match w.cell? ⟨u, 1, none⟩ with | some (.int _ x) => x.toNat | _ => 0
theorem LU.atOf {w : World} {B u : Nat} {s : ByteArray} {a : Nat} {l : List Nat} {most : Nat} {v : Value} (h : LU w B u s a l most v) : atOf w u = a := by
  unfold Go.Proofs.Ytbncfpbehahidaa.atOf
  rw [h.cells.2.1]; simp
/-- The end of a call that tells a number: the error, the number, the place behind it. -/
def NumEnd (B u : Nat) (s : ByteArray) (l : List Nat) (most : Nat) (v : Value) (w : World) (r : Nat × Nat × Nat) (e : Ending) (w' : World) : Prop :=
  Below B w w' ∧ ((r.1 ≠ 0 ∧ e = .returned (.tuple #[.int .i64 0, .int .i64 (r.1 : Nat)])) ∨ (r.1 = 0 ∧ e = .returned (.tuple #[.int .i64 (r.2.1 : Nat), .int .i64 0]) ∧ LU w' B u s r.2.2 l most v))
theorem Below.drewN' (B : Nat) (w : World) (k : Nat) : Below B w (w.drewN k) := ⟨rfl, rfl, rfl, Nat.le_refl _, fun _ _ => rfl⟩
set_option maxRecDepth 20000 in
set_option maxHeartbeats 1000000 in
theorem number_ok (w : World) (B u : Nat) (s : ByteArray) (a : Nat) (l : List Nat) (most : Nat) (v : Value) (h : LU w B u s a l most v) (n : Nat) (hn : n ≤ 15) :
    Calls Try.prog 74 #[.pointer (some ⟨u, 0, none⟩), .int .i64 n] w fun e w' => NumEnd B u s l most v w (numB s a n) e w' := by
  have H : Hid (LU w B u s a l most v) := h
  have hs := h.small
  have hle := h.le
  clear h
  by_cases h15 : n < 15
  · have hi : (n : Int) < 15 := by omega
    have HE : Hid (numB s a n = (0, n, a)) := by show _ = _; unfold numB; rw [if_pos h15]
    go_enter Try.func74, Try.ntmps74
    go_wp2
    go_ret2
    rw [HE.out]
    exact ⟨Below.refl _ _, .inr ⟨rfl, rfl, H.out⟩⟩
  · have hi : ¬ (n : Int) < 15 := by omega
    obtain ⟨r, hr⟩ : ∃ r, numB s a n = r := ⟨_, rfl⟩
    rw [hr]
    have HE : Hid (numW s a n = r) := by show _ = _; rw [← hr]; unfold numB; rw [if_neg h15]
    clear hr
    go_enter Try.func74, Try.ntmps74
    go_wp2
    go_loopw [6] (fun v6 wr => ∃ n' a', v6 = .int .i64 (n' : Nat) ∧ n' ≤ 15 + 255 * a' ∧ a' ≤ s.size ∧ Hid (LU wr B u s a' l most v ∧ Below B w wr ∧ numW s a' n' = r)) (fun _ wr => s.size - atOf wr u)
    case atStart => exact ⟨n, a, rfl, by omega, hle, H.out, Below.refl _ _, HE.out⟩
    case round =>
      obtain ⟨n', a', rfl, hn', ha', HI⟩ := hrel
      have HAT : Hid (atOf wr u = a') := HI.out.1.atOf
      by_cases hlt : a' < s.size
      · have HN : Hid (∀ _ : Unit, Calls Try.prog 71 #[.pointer (some ⟨u, 0, none⟩)] wr fun e w' => e = .returned (.tuple #[.int .i64 (bt s a' : Nat), .int .i64 0]) ∧ LU w' B u s (a' + 1) l most v ∧ Below B wr w') := fun _ => next_ok wr B u s a' l most v HI.out.1 hlt
        have hbl := bt_lt s a'
        have hst := numW_step s a' n' hlt
        obtain ⟨x, hx⟩ : ∃ x, bt s a' = x := ⟨_, rfl⟩
        rw [hx] at HN hbl hst
        have HST : Hid (r = if x < 255 then (0, n' + x, a' + 1) else numW s (a' + 1) (n' + x)) := by show _ = _; rw [← hst]; exact HI.out.2.2.symm
        clear hst hx
        go_wp2_with fail
        refine (HN.out ()).mono ?_
        rintro e w1 ⟨rfl, h1, h2⟩
        have H1 : Hid (LU w1 B u s (a' + 1) l most v ∧ Below B w w1) := ⟨h1, HI.out.2.1.trans h2⟩
        have HA1 : Hid (atOf w1 u = a' + 1) := h1.atOf
        clear h1 h2 HN
        by_cases h255 : x < 255
        · have hi : (x : Int) < 255 := by omega
          go_wp2
          go_ret2
          have hr := HST.out
          rw [if_pos h255] at hr
          rw [hr]
          exact ⟨H1.out.2, .inr ⟨rfl, rfl, H1.out.1⟩⟩
        · have hi : ¬ (x : Int) < 255 := by omega
          go_wp2
          have hr := HST.out
          rw [if_neg h255] at hr
          exact ⟨⟨n' + x, a' + 1, by go_num, by omega, by omega, H1.out.1, H1.out.2, hr.symm⟩, by rw [HA1.out, HAT.out]; omega⟩
      · obtain rfl : a' = s.size := by omega
        have HN : Hid (∀ _ : Unit, Calls Try.prog 71 #[.pointer (some ⟨u, 0, none⟩)] wr fun e w' => e = .returned (.tuple #[.int .i64 0, .int .i64 5]) ∧ ∃ k, w' = wr.drewN k) := fun _ => next_no wr B u s l most v HI.out.1
        have HST : Hid (r = (5, 0, s.size)) := by show _ = _; rw [← numW_end s s.size n' (Nat.le_refl _)]; exact HI.out.2.2.symm
        go_wp2_with fail
        refine (HN.out ()).mono ?_
        rintro e w1 ⟨rfl, k, rfl⟩
        go_wp2
        go_ret2
        rw [HST.out]
        exact ⟨HI.out.2.1.trans (Below.drewN' _ _ _), .inl ⟨by simp, rfl⟩⟩
end Go.Proofs.Ytbncfpbehahidaa
