/- HuffNobody's walk: a table that nobody made answers nothing. -/
import Derived.Test.YtklipommocijaaaUf
import Derived.Test.YtklipommocijaaaGr
namespace Go.Proofs.Ytklipommocijaaa
open Go.RowKit
set_option linter.unusedVariables false

theorem lit2 (w : World) (a b : Int) : IRow (w.alloc (.cells #[.int .i64 a, .int .i64 b] 3)) (some ⟨w.heap.size, 0, none⟩) [a, b] := by
  refine .inr ⟨w.heap.size, 0, rfl, by simp, fun i hi => ?_⟩
  match i, hi with
  | 0, _ => simp
  | 1, _ => simp
theorem code11 : isCode0 [1, 1] := by
  unfold isCode0
  decide
theorem newTable_ex (w : World) (c : Nat) : Calls Try.prog 14 #[.slice (some ⟨w.heap.size, 0, none⟩) 2 c] (w.alloc (.cells #[.int .i64 1, .int .i64 1] 3)) fun e w' => ∃ t R, e = .returned (.tuple #[.pointer (some ⟨t, 0, none⟩), .int .i64 0]) ∧ Tab w' (w.heap.size + 1) w'.heap.size t [1, 1] R ∧ Below w.heap.size w w' := by
  refine (newTable_ok [1, 1] _ c 2 _ rfl (lit2 w 1 1) (by omega)).mono ?_
  rintro e w' ⟨h, hb⟩
  have hb2 : Below w.heap.size w w' := ((Below.refl _ _).alloc (Nat.le_refl _) _).trans (hb.mono (by simp))
  rcases h with ⟨_, t, R, rfl, h⟩ | ⟨h, _⟩
  · refine ⟨t, R, rfl, ?_, hb2⟩
    have e : (w.alloc (.cells #[.int .i64 1, .int .i64 1] 3)).heap.size = w.heap.size + 1 := by simp
    rw [e] at h
    exact h
  · exact absurd code11 h
/-- How the walk stands: the list, the zero value, the good table. -/
structure NobSt (w w1 wr : World) (t : Nat) (R : Nat → Value) : Prop where
  c1 : wr.cell? ⟨w1.heap.size + 1, 0, none⟩ = some (.pointer none)
  c2 : wr.cell? ⟨w1.heap.size + 1, 1, none⟩ = some (.pointer (some ⟨w1.heap.size, 0, none⟩))
  c3 : wr.cell? ⟨w1.heap.size, 0, none⟩ = some (.pointer none)
  tab : Tab wr (w.heap.size + 1) w1.heap.size t [1, 1] R
  bel : Below w.heap.size w wr
  size : w1.heap.size + 2 ≤ wr.heap.size
  w1 : w.heap.size ≤ w1.heap.size
theorem NobSt.keep {w w1 wr W : World} {t : Nat} {R : Nat → Value} (h : NobSt w w1 wr t R) (ho : W.os = wr.os) (ht : W.tape = wr.tape) (hu : W.output = wr.output) (hs : wr.heap.size ≤ W.heap.size) (hk : ∀ k, k < w1.heap.size + 2 → W.heap[k]? = wr.heap[k]?) : NobSt w w1 W t R := by
  have hc : ∀ k j, k < w1.heap.size + 2 → W.cell? ⟨k, j, none⟩ = wr.cell? ⟨k, j, none⟩ := fun k j h => World.cell?_of_block (hk k h)
  exact ⟨by rw [hc _ _ (by omega)]; exact h.c1, by rw [hc _ _ (by omega)]; exact h.c2, by rw [hc _ _ (by omega)]; exact h.c3, h.tab.keep (fun b _ h2 => hk b (by omega)),
    ⟨ho.trans h.bel.os, ht.trans h.bel.tape, hu.trans h.bel.output, Nat.le_trans h.bel.size hs, fun k hkk => by rw [hk k (by have := h.w1; omega)]; exact h.bel.block k hkk⟩, by have := h.size; omega, h.w1⟩
theorem NobSt.below {w w1 wr W : World} {t : Nat} {R : Nat → Value} (h : NobSt w w1 wr t R) (hb : Below wr.heap.size wr W) : NobSt w w1 W t R :=
  h.keep hb.os hb.tape hb.output hb.size (fun k hk => hb.block k (by have := h.size; omega))
theorem NobSt.only {w w1 wr W : World} {t b : Nat} {R : Nat → Value} (h : NobSt w w1 wr t R) (hb : Only b wr W) (hbn : w1.heap.size + 2 ≤ b) : NobSt w w1 W t R :=
  h.keep hb.os hb.tape hb.output hb.size (fun k hk => hb.block k (by have := h.size; omega) (by omega))
theorem NobSt.start {w w1 : World} {t : Nat} {R : Nat → Value} (h : Tab w1 (w.heap.size + 1) w1.heap.size t [1, 1] R) (hb : Below w.heap.size w w1) (z : Array Value) (hz : z[0]? = some (.pointer none)) : NobSt w w1 ((w1.alloc (.cells z 49)).alloc (.cells #[.pointer none, .pointer (some ⟨w1.heap.size, 0, none⟩)] 32)) t R := by
  have hold : ∀ k, k < w1.heap.size → ((w1.alloc (.cells z 49)).alloc (.cells #[.pointer none, .pointer (some ⟨w1.heap.size, 0, none⟩)] 32)).heap[k]? = w1.heap[k]? := fun k hk => by
    rw [heap_alloc_old _ _ (by simp; omega), heap_alloc_old _ _ hk]
  refine ⟨by simp, by simp, ?_, h.keep (fun b _ h2 => hold b h2), ⟨hb.os, hb.tape, hb.output, by have := hb.size; simp; omega, fun k hk => by rw [hold k (by have := hb.size; omega)]; exact hb.block k hk⟩, by simp, hb.size⟩
  have h1 : ((w1.alloc (.cells z 49)).alloc (.cells #[.pointer none, .pointer (some ⟨w1.heap.size, 0, none⟩)] 32)).heap[w1.heap.size]? = some (.cells z 49 (0, 0)) := by
    rw [heap_alloc_old _ _ (by simp)]; exact heap_alloc_last _ _
  unfold World.cell?
  rw [h1]; exact hz

set_option maxRecDepth 20000 in
set_option maxHeartbeats 4000000 in
theorem huffNobody_walk (n : Int) (w : World) (_ : (Lit.int .i64 n).wf = true) :
    Calls Try.prog 5 #[.int .i64 n] w fun e w' => e = .returned (.bool true) ∧ Below w.heap.size w w' := by
  go_enter Try.func5, Try.ntmps5
  go_wp2_with fail
  refine (newTable_ex w _).mono ?_
  rintro e w1 ⟨t, R, rfl, htab, hb1⟩
  have H1 : Hid (Tab w1 (w.heap.size + 1) w1.heap.size t [1, 1] R ∧ Below w.heap.size w w1) := ⟨htab, hb1⟩
  clear htab hb1
  go_wp2_with (go_at_call 24; refine (symbol_nobody _ _ _ (.inl rfl)).mono ?_; rintro e w' ⟨rfl, hw⟩; obtain rfl := hw.symm)
  go_loopw [8] (fun v8 wr => ∃ i : Nat, v8 = .int .i64 i ∧ i ≤ 2 ∧ Hid (NobSt w w1 wr t R)) (fun v8 _ => 2 - (intOf v8).toNat)
  case atStart => exact ⟨0, rfl, by omega, NobSt.start H1.out.1 H1.out.2 _ rfl⟩
  case round =>
    obtain ⟨i, rfl, hi, HS⟩ := hrel
    obtain ⟨q, hq⟩ : ∃ q, w1.heap.size = q := ⟨_, rfl⟩
    have c1 := HS.out.c1
    have c2 := HS.out.c2
    have HQ : Hid (w1.heap.size = q) := hq
    rw [hq] at c1 c2 ⊢
    clear hq
    by_cases hlt : i < 2
    · rcases (show i = 0 ∨ i = 1 from by omega) with rfl | rfl
      · go_wp2_with fail
        go_region_held (fun w' => w'.cell? ⟨q + 1, 0, none⟩ = some (.pointer none)) (first | assumption | go_keep)
          (first
            | (go_at_call 23; refine (newReader _ _ (by decide)).mono ?_; rintro e W2 ⟨b, rfl, hb0, hb1, hblk, hbel⟩; have HB : Hid (NobSt w w1 W2 t R ∧ RS W2 b ⟨#[120]⟩ 0 ∧ w1.heap.size + 2 ≤ b) := ⟨HS.out.below ⟨hbel.os, hbel.tape, hbel.output, hbel.size, hbel.block⟩, hblk, Nat.le_trans HS.out.size hb0⟩; have KS : W2.cell? ⟨q + 1, 0, none⟩ = some (.pointer none) := (by rw [← HQ.out]; exact HB.out.1.c1); clear hb0 hb1 hblk hbel)
            | (go_at_call 24; refine (no_symbol _ _ _ _ _ HB.out.2.1 (by omega) (by decide) (fun w' h => .inl rfl)).mono ?_; rintro e W3 ⟨rfl, hon⟩; have HB3 : Hid (NobSt w w1 W3 t R) := HB.out.1.only hon HB.out.2.2; have KS3 : W3.cell? ⟨q + 1, 0, none⟩ = some (.pointer none) := (by rw [← HQ.out]; exact HB3.out.c1); clear hon))
        all_goals
          go_wp2
          go_region_held (fun w' => w'.cell? ⟨q + 1, 0, none⟩ = some (.pointer none)) (first | assumption | go_keep)
            (first
              | (go_at_call 17; refine (newWriter _).mono ?_; rintro e W4 ⟨rfl, hW4⟩; have HB4 : Hid (NobSt w w1 W4 t R) := (by show NobSt _ _ _ _ _; rw [hW4]; exact HB3.out.keep rfl rfl rfl (by simp) (fun k hk => heap_alloc_old _ _ (by have := HB3.out.size; simp; omega))); have KS4 : W4.cell? ⟨q + 1, 0, none⟩ = some (.pointer none) := (by rw [← HQ.out]; exact HB4.out.c1); clear hW4)
              | (go_at_call 18; refine (no_put _ _ _ _ (.inl rfl)).mono ?_; rintro e W5 ⟨rfl, hW5⟩; obtain rfl := hW5.symm))
          all_goals
            go_wp2
            exact ⟨⟨1, rfl, by omega, HB4⟩, by simp [intOf]⟩
      · go_wp2_with fail
        go_region_held (fun w' => w'.cell? ⟨q + 1, 1, none⟩ = some (.pointer (some ⟨q, 0, none⟩))) (first | assumption | go_keep)
          (first
            | (go_at_call 23; refine (newReader _ _ (by decide)).mono ?_; rintro e W2 ⟨b, rfl, hb0, hb1, hblk, hbel⟩; have HB : Hid (NobSt w w1 W2 t R ∧ RS W2 b ⟨#[120]⟩ 0 ∧ w1.heap.size + 2 ≤ b) := ⟨HS.out.below ⟨hbel.os, hbel.tape, hbel.output, hbel.size, hbel.block⟩, hblk, Nat.le_trans HS.out.size hb0⟩; have KS : W2.cell? ⟨q + 1, 1, none⟩ = some (.pointer (some ⟨q, 0, none⟩)) := (by rw [← HQ.out]; exact HB.out.1.c2); clear hb0 hb1 hblk hbel)
            | (go_at_call 24; refine (no_symbol _ _ _ _ _ HB.out.2.1 (by omega) (by decide) (fun w' h => .inr ⟨q, rfl, by rw [← HQ.out]; exact (HB.out.1.only h HB.out.2.2).c3⟩)).mono ?_; rintro e W3 ⟨rfl, hon⟩; have HB3 : Hid (NobSt w w1 W3 t R) := HB.out.1.only hon HB.out.2.2; have KS3 : W3.cell? ⟨q + 1, 1, none⟩ = some (.pointer (some ⟨q, 0, none⟩)) := (by rw [← HQ.out]; exact HB3.out.c2); clear hon))
        all_goals
          go_wp2
          go_region_held (fun w' => w'.cell? ⟨q + 1, 1, none⟩ = some (.pointer (some ⟨q, 0, none⟩))) (first | assumption | go_keep)
            (first
              | (go_at_call 17; refine (newWriter _).mono ?_; rintro e W4 ⟨rfl, hW4⟩; have HB4 : Hid (NobSt w w1 W4 t R) := (by show NobSt _ _ _ _ _; rw [hW4]; exact HB3.out.keep rfl rfl rfl (by simp) (fun k hk => heap_alloc_old _ _ (by have := HB3.out.size; simp; omega))); have KS4 : W4.cell? ⟨q + 1, 1, none⟩ = some (.pointer (some ⟨q, 0, none⟩)) := (by rw [← HQ.out]; exact HB4.out.c2); clear hW4)
              | (go_at_call 18; refine (no_put _ _ _ _ (.inr ⟨q, rfl, by rw [← HQ.out]; exact HB4.out.c3⟩)).mono ?_; rintro e W5 ⟨rfl, hW5⟩; obtain rfl := hW5.symm))
          all_goals
            go_wp2
            exact ⟨⟨2, rfl, by omega, HB4⟩, by simp [intOf]⟩
    · obtain rfl : i = 2 := by omega
      go_wp2_with fail
      refine (put_in _ _ t [1, 1] R none 0 wr HS.out.tab (by decide) (by decide) (by decide) (fun v w' => v = .int .i64 1 ∧ ∃ k, w' = wr.drewN k) (fun k => (no_wBits _ _ _ _ (.inl rfl)).mono (fun e w' h => ⟨1, h.1, rfl, k, h.2⟩))).mono ?_
      rintro e w2 ⟨u, rfl, hu, k, hw2⟩
      obtain rfl : u = 1 := by simpa using hu
      have H2 : Hid (Below w.heap.size w w2) := by
        have h := HS.out.bel
        show Below _ _ _
        rw [hw2]
        exact ⟨h.os, h.tape, h.output, h.size, h.block⟩
      clear hu hw2
      go_wp2_with fail
      refine (awake _).mono ?_
      rintro e w3 ⟨rfl, hb3⟩
      have H3 : Hid (Below w.heap.size w w3) := H2.out.trans (hb3.mono H2.out.size)
      clear hb3
      go_wp2
      go_ret
      exact ⟨rfl, H3.out⟩
end Go.Proofs.Ytklipommocijaaa
