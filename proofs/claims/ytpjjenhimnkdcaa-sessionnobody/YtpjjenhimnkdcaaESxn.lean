/- Layer 15: the walk of SessionNobody. -/
import Derived.Test.YtpjjenhimnkdcaaESxm
namespace Go.Proofs.Ytpjjenhimnkdcaa
open Go.RowKit Go.Maps
set_option linter.unusedVariables false
set_option maxRecDepth 20000

set_option maxHeartbeats 4000000 in
theorem nobody_walk (n p s : Int) (w : World) :
    Calls Try.prog 5 #[.int .i64 n, .agg #[.int .i64 p, .int .i64 s]] w fun e w' => e = .returned (.bool true) ∧ Below w.heap.size w w' := by
  obtain ⟨U, hU⟩ : ∃ U, w.heap.size = U := ⟨_, rfl⟩
  have hA : Below w.heap.size w (((w.alloc (.cells #[.int .i64 p, .int .i64 s] 30)).alloc (.cells #[.pointer none, .int .i64 0, .map none, .slice none 0 0, .slice none 0 0] 55)).alloc (.cells #[.pointer none, .pointer (some ⟨U + 1, 0, none⟩)] 24)) := (((Below.refl _ _).alloc (Nat.le_refl _) _).alloc (by simp) _).alloc (by simp; omega) _
  have hz1 : (w.alloc (.cells #[.int .i64 p, .int .i64 s] 30)).heap.size = U + 1 := by simp [hU]
  have hz2 : ((w.alloc (.cells #[.int .i64 p, .int .i64 s] 30)).alloc (.cells #[.pointer none, .int .i64 0, .map none, .slice none 0 0, .slice none 0 0] 55)).heap.size = U + 2 := by simp [hU]
  have i0 : (w.alloc (.cells #[.int .i64 p, .int .i64 s] 30)).heap[U]? = some (.cells #[.int .i64 p, .int .i64 s] 30 (0, 0)) := by rw [← hU]; exact heap_alloc_new _ _
  have t0 : ((w.alloc (.cells #[.int .i64 p, .int .i64 s] 30)).alloc (.cells #[.pointer none, .int .i64 0, .map none, .slice none 0 0, .slice none 0 0] 55)).heap[U + 1]? = some (.cells #[.pointer none, .int .i64 0, .map none, .slice none 0 0, .slice none 0 0] 55 (0, 0)) := by rw [← hz1]; exact heap_alloc_new _ _
  have s0 : (((w.alloc (.cells #[.int .i64 p, .int .i64 s] 30)).alloc (.cells #[.pointer none, .int .i64 0, .map none, .slice none 0 0, .slice none 0 0] 55)).alloc (.cells #[.pointer none, .pointer (some ⟨U + 1, 0, none⟩)] 24)).heap[U + 2]? = some (.cells #[.pointer none, .pointer (some ⟨U + 1, 0, none⟩)] 24 (0, 0)) := by rw [← hz2]; exact heap_alloc_new _ _
  have t1 : (((w.alloc (.cells #[.int .i64 p, .int .i64 s] 30)).alloc (.cells #[.pointer none, .int .i64 0, .map none, .slice none 0 0, .slice none 0 0] 55)).alloc (.cells #[.pointer none, .pointer (some ⟨U + 1, 0, none⟩)] 24)).heap[U + 1]? = some (.cells #[.pointer none, .int .i64 0, .map none, .slice none 0 0, .slice none 0 0] 55 (0, 0)) := ((below_a _ _).block _ (by rw [hz2]; omega)).trans t0
  have i1 : (((w.alloc (.cells #[.int .i64 p, .int .i64 s] 30)).alloc (.cells #[.pointer none, .int .i64 0, .map none, .slice none 0 0, .slice none 0 0] 55)).alloc (.cells #[.pointer none, .pointer (some ⟨U + 1, 0, none⟩)] 24)).heap[U]? = some (.cells #[.int .i64 p, .int .i64 s] 30 (0, 0)) := ((below_a _ _).block _ (by rw [hz2]; omega)).trans (((below_a _ _).block _ (by rw [hz1]; omega)).trans i0)
  clear i0 t0 hz1 hz2
  rw [hU] at hA ⊢
  generalize hW : (((w.alloc (.cells #[.int .i64 p, .int .i64 s] 30)).alloc (.cells #[.pointer none, .int .i64 0, .map none, .slice none 0 0, .slice none 0 0] 55)).alloc (.cells #[.pointer none, .pointer (some ⟨U + 1, 0, none⟩)] 24)) = W at hA s0 t1 i1
  have HA : Hid (Below U w W) := hA
  have HP : Hid (∀ k, k < 2 → ∃ P, W.cell? ⟨U + 2, k, none⟩ = some P ∧ NoT W P) := fun k hk => by
    match k, hk with
    | 0, _ => exact ⟨.pointer none, by simp [World.cell?, s0], .inl rfl⟩
    | 1, _ => exact ⟨.pointer (some ⟨U + 1, 0, none⟩), by simp [World.cell?, s0], .inr ⟨U + 1, rfl, by simp [World.cell?, t1]⟩⟩
  have HI : Hid (W.cell? ⟨U, 0, none⟩ = some (.int .i64 p) ∧ W.cell? ⟨U, 1, none⟩ = some (.int .i64 s)) := ⟨by simp [World.cell?, i1], by simp [World.cell?, i1]⟩
  have HUW : Hid (U ≤ W.heap.size) := by have := lt_of_block i1; show U ≤ _; omega
  clear s0 t1 i1 hA
  go_enter Try.func5, Try.ntmps5
  go_upto_region 2 with fail
  try rw [hU]
  try rw [hW]
  clear hW hU
  go_wp2
  go_loopw [6] (fun i wr => ∃ k : Nat, i = .int .i64 (k : Nat) ∧ k ≤ 2 ∧ Below W.heap.size W wr) (fun i _ => 2 - (intOf i).toNat)
  case atStart => exact ⟨0, rfl, by omega, Below.refl _ _⟩
  case round =>
    obtain ⟨k, rfl, hk, hbel⟩ := hrel
    have HB : Hid (Below W.heap.size W wr) := hbel
    by_cases hlt : k < 2
    · obtain ⟨P, hP, hN⟩ := HP.out k hlt
      have HN : Hid (∀ W', Below W.heap.size W W' → NoT W' P) := fun W' hb => hN.below hb
      have HF : Hid (∀ W', Below W.heap.size W W' → Calls Try.prog 9 #[P, .agg #[.int .i64 p, .int .i64 s]] W' fun e w' => e = .returned (.tuple #[.agg #[.int .i64 0, .int .i64 0, .int .i64 0, .int .i64 0, .int .i64 0, .slice none 0 0], .int .i64 1]) ∧ Below W'.heap.size W' w') := fun W' hb => find_no W' P p s (HN.out W' hb)
      have HK : Hid (∀ W', Below W.heap.size W W' → Calls Try.prog 16 #[P, .agg #[.int .i64 p, .int .i64 s], .slice none 0 0, .int .i64 n] W' fun e w' => e = .returned (.tuple #[.agg #[.int .i64 0, .int .i64 0, .int .i64 0, .int .i64 0, .int .i64 0, .slice none 0 0], .int .i64 0, .int .i64 1]) ∧ Below W'.heap.size W' w') := fun W' hb => ask_no W' P p s n (HN.out W' hb)
      have HPU : Hid (∀ W', Below W.heap.size W W' → Calls Try.prog 10 #[P, .agg #[.int .i64 0, .int .i64 1, .int .i64 0, .int .i64 0, .int .i64 0, .slice none 0 0]] W' fun e w' => e = .returned (.int .i64 1) ∧ Below W'.heap.size W' w') := fun W' hb => putB_no W' P ⟨0, 1, 0, 0, 0⟩ (HN.out W' hb)
      have HSM : Hid (∀ W', Calls Try.prog 11 #[.agg #[.int .i64 0, .int .i64 0, .int .i64 0, .int .i64 0, .int .i64 0, .slice none 0 0], .agg #[.int .i64 0, .int .i64 0, .int .i64 0, .int .i64 0, .int .i64 0, .slice none 0 0]] W' fun e w' => e = .returned (.bool true) ∧ Below W'.heap.size W' w') := fun W' => same_ok bt0 W'
      have HWT : Hid (∀ W', Below W.heap.size W W' → Calls Try.prog 12 #[P, .agg #[.int .i64 p, .int .i64 s], .int .i64 n] W' fun e w' => e = .returned (.int .i64 1) ∧ Below W'.heap.size W' w') := fun W' hb => wait_no W' P p s n (HN.out W' hb)
      have HDN : Hid (∀ W', Below W.heap.size W W' → Calls Try.prog 13 #[P, .int .i64 n] W' fun e w' => e = .returned (.slice none 0 0) ∧ w' = W') := fun W' hb => done_no W' P n (HN.out W' hb)
      have HCU : Hid (∀ W', Below W.heap.size W W' → Calls Try.prog 18 #[P, .int .i64 n] W' fun e w' => e = .returned (.int .i64 1) ∧ w' = W') := fun W' hb => cut_no W' P n (HN.out W' hb)
      have HWA : Hid (∀ W', Below W.heap.size W W' → Calls Try.prog 14 #[P] W' fun e w' => e = .returned (.int .i64 0) ∧ w' = W') := fun W' hb => waiting_no W' P (HN.out W' hb)
      have c0 := cellB hbel hP
      have z0 := cellB hbel HI.out.1
      have z1 := cellB hbel HI.out.2
      have hlti : (k : Int) < 2 := by omega
      clear hN hP hbel HN
      go_wp2_with fail
      refine (HF.out _ HB.out).mono ?_
      rintro e w1 ⟨rfl, hb1⟩
      have HB2 : Hid (Below W.heap.size W (w1.alloc (.cells #[.int .i64 0, .int .i64 0, .int .i64 0, .int .i64 0, .int .i64 0, .slice none 0 0] 33)) ∧ (w1.alloc (.cells #[.int .i64 0, .int .i64 0, .int .i64 0, .int .i64 0, .int .i64 0, .slice none 0 0] 33)).heap[w1.heap.size]? = some (.cells #[.int .i64 0, .int .i64 0, .int .i64 0, .int .i64 0, .int .i64 0, .slice none 0 0] 33 (0, 0))) :=
        ⟨bl_alloc (Nat.le_refl _) (HB.out.trans (hb1.mono HB.out.size)), heap_alloc_new _ _⟩
      obtain ⟨U8, hU8⟩ : ∃ U8, w1.heap.size = U8 := ⟨_, rfl⟩
      rw [hU8] at HB2
      clear c0 z0 z1 hb1
      go_upto_region 7 with fail
      try rw [hU8]
      generalize (w1.alloc (.cells #[.int .i64 0, .int .i64 0, .int .i64 0, .int .i64 0, .int .i64 0, .slice none 0 0] 33)) = w2 at HB2
      have z0 := cellB HB2.out.1 HI.out.1
      have z1 := cellB HB2.out.1 HI.out.2
      go_wp2_with fail
      refine (HK.out _ HB2.out.1).mono ?_
      rintro e w3 ⟨rfl, hb3⟩
      have HB4 : Hid (Below W.heap.size W (w3.alloc (.cells #[.int .i64 0, .int .i64 0, .int .i64 0, .int .i64 0, .int .i64 0, .slice none 0 0] 33)) ∧ (w3.alloc (.cells #[.int .i64 0, .int .i64 0, .int .i64 0, .int .i64 0, .int .i64 0, .slice none 0 0] 33)).heap[w3.heap.size]? = some (.cells #[.int .i64 0, .int .i64 0, .int .i64 0, .int .i64 0, .int .i64 0, .slice none 0 0] 33 (0, 0)) ∧ (w3.alloc (.cells #[.int .i64 0, .int .i64 0, .int .i64 0, .int .i64 0, .int .i64 0, .slice none 0 0] 33)).heap[U8]? = some (.cells #[.int .i64 0, .int .i64 0, .int .i64 0, .int .i64 0, .int .i64 0, .slice none 0 0] 33 (0, 0))) := by
        have h8 := (hb3.block U8 (lt_of_block HB2.out.2)).trans HB2.out.2
        exact ⟨bl_alloc (Nat.le_refl _) (HB2.out.1.trans (hb3.mono HB2.out.1.size)), heap_alloc_new _ _, ((below_a w3 _).block U8 (lt_of_block h8)).trans h8⟩
      obtain ⟨U10, hU10⟩ : ∃ U10, w3.heap.size = U10 := ⟨_, rfl⟩
      rw [hU10] at HB4
      clear z0 z1 hb3
      go_upto_region 8 with fail
      try rw [hU10]
      generalize (w3.alloc (.cells #[.int .i64 0, .int .i64 0, .int .i64 0, .int .i64 0, .int .i64 0, .slice none 0 0] 33)) = w4 at HB4
      go_wp2_with fail
      refine (HPU.out _ HB4.out.1).mono ?_
      rintro e w5 ⟨rfl, hb5⟩
      have HB5 : Hid (Below W.heap.size W w5 ∧ w5.heap[U10]? = some (.cells #[.int .i64 0, .int .i64 0, .int .i64 0, .int .i64 0, .int .i64 0, .slice none 0 0] 33 (0, 0))) := ⟨HB4.out.1.trans (hb5.mono HB4.out.1.size), (hb5.block U10 (lt_of_block HB4.out.2.1)).trans HB4.out.2.1⟩
      obtain ⟨y0, y1, y2, y3, y4, y5⟩ := cells6 ((hb5.block U8 (lt_of_block HB4.out.2.2)).trans HB4.out.2.2)
      clear hb5
      go_wp2_with fail
      refine (HSM.out _).mono ?_
      rintro e w6 ⟨rfl, hb6⟩
      have HB6 : Hid (Below W.heap.size W w6) := HB5.out.1.trans (hb6.mono HB5.out.1.size)
      clear y0 y1 y2 y3 y4 y5
      obtain ⟨y0, y1, y2, y3, y4, y5⟩ := cells6 ((hb6.block U10 (lt_of_block HB5.out.2)).trans HB5.out.2)
      clear hb6
      go_wp2_with fail
      refine (HSM.out _).mono ?_
      rintro e w7 ⟨rfl, hb7⟩
      have HB7 : Hid (Below W.heap.size W w7) := HB6.out.trans (hb7.mono HB6.out.size)
      have z0 := cellB HB7.out HI.out.1
      have z1 := cellB HB7.out HI.out.2
      clear y0 y1 y2 y3 y4 y5 hb7
      go_wp2_with fail
      refine (HWT.out _ HB7.out).mono ?_
      rintro e w8 ⟨rfl, hb8⟩
      have HB8 : Hid (Below W.heap.size W w8) := HB7.out.trans (hb8.mono HB7.out.size)
      clear z0 z1 hb8
      go_wp2_with fail
      refine (HDN.out _ HB8.out).mono ?_
      rintro e w9 ⟨rfl, hw9⟩
      obtain rfl := hw9.symm
      clear hw9
      go_wp2_with fail
      refine (HCU.out _ HB8.out).mono ?_
      rintro e w9 ⟨rfl, hw9⟩
      obtain rfl := hw9.symm
      clear hw9
      go_wp2_with fail
      refine (HWA.out _ HB8.out).mono ?_
      rintro e w9 ⟨rfl, hw9⟩
      obtain rfl := hw9.symm
      clear hw9
      go_wp2
      go_roundw
      case rel => exact ⟨k + 1, by go_num, by omega, HB8.out⟩
      case measure => simp [intOf]; omega
    · have hlti : ¬ (k : Int) < 2 := by omega
      clear hbel
      go_wp2_with fail
      refine (awake15 _).mono ?_
      rintro e w9 ⟨rfl, hb9⟩
      have HB9 : Hid (Below U w w9) := HA.out.trans ((HB.out.trans (hb9.mono HB.out.size)).mono HUW.out)
      clear hb9
      go_wp2
      go_ret
      exact ⟨rfl, HB9.out⟩
end Go.Proofs.Ytpjjenhimnkdcaa
