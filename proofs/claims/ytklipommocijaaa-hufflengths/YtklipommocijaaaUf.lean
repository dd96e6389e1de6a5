/- A table that nobody made; a reader or a writer that nobody made. A symbol is written. -/
import Derived.Test.YtklipommocijaaaUe
import Derived.Test.YtklipommocijaaaNc
namespace Go.Proofs.Ytklipommocijaaa
open Go.RowKit
set_option linter.unusedVariables false

/-- Nothing that NewTable gave. -/
def NoTab (w : World) (p : Option Addr) : Prop := p = none ∨ ∃ b, p = some ⟨b, 0, none⟩ ∧ w.cell? ⟨b, 0, none⟩ = some (.pointer none)
theorem no_given (p : Option Addr) (w : World) (h : NoTab w p) : Calls Try.prog 37 #[.pointer p] w fun e w' => e = .returned (.bool false) ∧ w' = w := by
  rcases h with rfl | ⟨b, rfl, h⟩
  · exact tgiven_nil w
  · exact tgiven_zero b w h
set_option maxRecDepth 20000 in
set_option maxHeartbeats 1000000 in
/-- A table that nobody made, and a reader. -/
theorem no_symbol (p : Option Addr) (b : Nat) (s : ByteArray) (q : Nat) (w : World) (hr : RS w b s q) (hq : q ≤ 8 * s.size) (hs : s.size ≤ 281474976710656) (hno : ∀ w', Only b w w' → NoTab w' p) :
    Calls Try.prog 24 #[.pointer p, .pointer (some ⟨b, 0, none⟩)] w fun e w' => e = .returned (.tuple #[.int .i64 0, .int .i64 1]) ∧ Only b w w' := by
  have HRB : Hid (∀ _ : Unit, Calls Try.prog 41 #[.pointer (some ⟨b, 0, none⟩), .int .i64 (0 : Nat)] w fun e w' => e = .returned (.tuple #[.int .i64 (num s q 0 : Nat), .int .i64 0]) ∧ RS w' b s (q + 0) ∧ Only b w w') := fun _ => rbits b s q 0 w (by omega) (by omega) hs hr
  have HNO : Hid (∀ w', Only b w w' → NoTab w' p) := hno
  clear hr hno
  go_enter Try.func24, Try.ntmps24
  go_wp2_with fail
  refine (HRB.out ()).mono ?_
  rintro e w1 ⟨rfl, hr1, ho1⟩
  have HN1 : Hid (NoTab w1 p ∧ Only b w w1) := ⟨HNO.out w1 ho1, ho1⟩
  clear hr1 ho1
  go_wp2_with (go_at_call 37; refine (no_given _ _ HN1.out.1).mono ?_; rintro e w' ⟨rfl, hw⟩; obtain rfl := hw.symm)
  go_ret2
  exact ⟨rfl, HN1.out.2⟩
set_option maxRecDepth 20000 in
set_option maxHeartbeats 1000000 in
theorem symbol_nobody (p r : Option Addr) (w : World) (hr : Nobody w r) :
    Calls Try.prog 24 #[.pointer p, .pointer r] w fun e w' => e = .returned (.tuple #[.int .i64 0, .int .i64 1]) ∧ w' = w := by
  have HN : Hid (Nobody w r) := hr
  clear hr
  go_enter Try.func24, Try.ntmps24
  go_wp2_with (go_at_call 41; refine (no_rBits _ _ _ HN.out).mono ?_; rintro e w' ⟨rfl, hw⟩; obtain rfl := hw.symm)
  go_ret2
  exact ⟨rfl, rfl⟩
set_option maxRecDepth 20000 in
set_option maxHeartbeats 1000000 in
theorem no_put (p v : Option Addr) (n : Int) (w : World) (hno : NoTab w p) :
    Calls Try.prog 18 #[.pointer p, .pointer v, .int .i64 n] w fun e w' => e = .returned (.int .i64 1) ∧ w' = w := by
  have HN : Hid (NoTab w p) := hno
  clear hno
  go_enter Try.func18, Try.ntmps18
  go_wp2_with (go_at_call 37; refine (no_given _ _ HN.out).mono ?_; rintro e w' ⟨rfl, hw⟩; obtain rfl := hw.symm)
  go_ret
  exact ⟨rfl, rfl⟩
/-- A table's row of lengths, and of words. -/
theorem Tab.lens {w : World} {lo hi t : Nat} {ns : List Nat} {R : Nat → Value} (h : Tab w lo hi t ns R) : ∃ ao cap, w.cell? ⟨t, 1, none⟩ = some (.slice ao ns.length cap) ∧ ∀ j, j < ns.length → ∃ g, ao = some ⟨g, 0, none⟩ ∧ w.cell? ⟨g, j, none⟩ = some (.int .i64 ((ns.getD j 0 : Nat) : Int)) := by
  obtain ⟨ao, cap, e, h1⟩ := h.rows 0 (by omega)
  have c := h.cell (k := 0) (by omega)
  rw [e] at c
  have hx : tX ns ns.length 0 = (List.range ns.length).map (fun s => ns.getD s 0) := rfl
  rw [hx] at c h1
  simp only [List.length_map, List.length_range] at c h1
  refine ⟨ao, cap, c, fun j hj => ?_⟩
  rcases h1 with h1 | ⟨g, e1, _, _, e2⟩
  · omega
  · refine ⟨g, e1, ?_⟩
    rw [e2 j hj, getD_in (show j < ((List.range ns.length).map (fun s => ns.getD s 0)).length by simpa using hj)]
    simp
theorem Tab.words {w : World} {lo hi t : Nat} {ns : List Nat} {R : Nat → Value} (h : Tab w lo hi t ns R) : ∃ ao cap, w.cell? ⟨t, 2, none⟩ = some (.slice ao ns.length cap) ∧ ∀ j, j < ns.length → ∃ g, ao = some ⟨g, 0, none⟩ ∧ w.cell? ⟨g, j, none⟩ = some (.int .i64 ((rv (cw ns j) (ns.getD j 0) : Nat) : Int)) := by
  obtain ⟨ao, cap, e, h1⟩ := h.rows 1 (by omega)
  have c := h.cell (k := 1) (by omega)
  rw [e] at c
  have hx : tX ns ns.length 1 = (List.range ns.length).map (fun s => rv (cw ns s) (ns.getD s 0)) := rfl
  rw [hx] at c h1
  simp only [List.length_map, List.length_range] at c h1
  refine ⟨ao, cap, c, fun j hj => ?_⟩
  rcases h1 with h1 | ⟨g, e1, _, _, e2⟩
  · omega
  · refine ⟨g, e1, ?_⟩
    rw [e2 j hj, getD_in (show j < ((List.range ns.length).map (fun s => rv (cw ns s) (ns.getD s 0))).length by simpa using hj)]
    simp
set_option maxRecDepth 20000 in
set_option maxHeartbeats 1000000 in
theorem put_out (lo hi t : Nat) (ns : List Nat) (R : Nat → Value) (v : Option Addr) (x : Int) (w : World) (ht : Tab w lo hi t ns R) (hn : ns.length ≤ 288) (hx : x < 0 ∨ (ns.length : Int) ≤ x ∨ ns.getD x.toNat 0 = 0) :
    Calls Try.prog 18 #[.pointer (some ⟨t, 0, none⟩), .pointer v, .int .i64 x] w fun e w' => e = .returned (.int .i64 1) ∧ ∃ k, w' = w.drewN k := by
  have hself := ht.self
  obtain ⟨ao, cap, c1, hl⟩ := ht.lens
  obtain ⟨N, hN⟩ : ∃ N, ns.length = N := ⟨_, rfl⟩
  rw [hN] at c1 hl hn hx
  have hcase : x < 0 ∨ (¬ x < 0 ∧ (N : Int) ≤ x) ∨ (∃ j : Nat, x = (j : Int) ∧ j < N ∧ ns.getD j 0 = 0) := by
    rcases hx with h | h | h
    · exact .inl h
    · exact .inr (.inl ⟨by omega, h⟩)
    · by_cases h1 : x < 0
      · exact .inl h1
      · by_cases h2 : (N : Int) ≤ x
        · exact .inr (.inl ⟨h1, h2⟩)
        · exact .inr (.inr ⟨x.toNat, by omega, by omega, h⟩)
  clear hx ht
  rcases hcase with h | ⟨h, h2⟩ | ⟨j, rfl, hj, h0⟩
  · clear hl
    go_enter Try.func18, Try.ntmps18
    go_wp2_with (go_at_call 37; refine (tgiven_yes _ _ hself).mono ?_; rintro e w' ⟨rfl, hw⟩; obtain rfl := hw.symm)
    go_ret
    exact ⟨rfl, 0, rfl⟩
  · clear hl
    go_enter Try.func18, Try.ntmps18
    go_wp2_with (go_at_call 37; refine (tgiven_yes _ _ hself).mono ?_; rintro e w' ⟨rfl, hw⟩; obtain rfl := hw.symm)
    go_ret
    exact ⟨rfl, 0, rfl⟩
  · obtain ⟨g, rfl, c2⟩ := hl j hj
    rw [h0] at c2
    have c2 : w.cell? ⟨g, j, none⟩ = some (.int .i64 0) := c2
    have hji : (j : Int) < (N : Int) := by omega
    clear hl h0
    go_enter Try.func18, Try.ntmps18
    go_wp2_with (go_at_call 37; refine (tgiven_yes _ _ hself).mono ?_; rintro e w' ⟨rfl, hw⟩; obtain rfl := hw.symm)
    go_ret
    exact ⟨rfl, 0, rfl⟩
set_option maxRecDepth 20000 in
set_option maxHeartbeats 1000000 in
theorem put_in (lo hi t : Nat) (ns : List Nat) (R : Nat → Value) (v : Option Addr) (j : Nat) (w : World) (ht : Tab w lo hi t ns R) (hn : ns.length ≤ 288) (hj : j < ns.length) (h0 : 0 < ns.getD j 0) (P : Value → World → Prop)
    (hB : ∀ k, Calls Try.prog 38 #[.pointer v, .int .i64 ((rv (cw ns j) (ns.getD j 0) : Nat) : Int), .int .i64 ((ns.getD j 0 : Nat) : Int)] (w.drewN k) fun e w' => ∃ u, e = .returned (.int .i64 u) ∧ P (.int .i64 u) w') :
    Calls Try.prog 18 #[.pointer (some ⟨t, 0, none⟩), .pointer v, .int .i64 (j : Int)] w fun e w' => ∃ u, e = .returned (.int .i64 u) ∧ P (.int .i64 u) w' := by
  have hself := ht.self
  obtain ⟨ao, cap, c1, hl⟩ := ht.lens
  obtain ⟨ao2, cap2, c3, hl2⟩ := ht.words
  obtain ⟨g, rfl, c2⟩ := hl j hj
  obtain ⟨g2, rfl, c4⟩ := hl2 j hj
  obtain ⟨N, hN⟩ : ∃ N, ns.length = N := ⟨_, rfl⟩
  rw [hN] at c1 c3 hn hj
  obtain ⟨l, hll⟩ : ∃ l, ns.getD j 0 = l := ⟨_, rfl⟩
  rw [hll] at c2 c4 h0 hB
  obtain ⟨y, hy⟩ : ∃ y, rv (cw ns j) l = y := ⟨_, rfl⟩
  rw [hy] at c4 hB
  have HB : Hid _ := hB
  have hji : (j : Int) < (N : Int) := by omega
  have h0i : ¬ (l : Int) = 0 := by omega
  have h0b : ((l : Int) == 0) = false := by simpa using h0i
  clear hl hl2 ht hy hll hB
  go_enter Try.func18, Try.ntmps18
  go_wp2_with (go_at_call 37; refine (tgiven_yes _ _ hself).mono ?_; rintro e w' ⟨rfl, hw⟩; obtain rfl := hw.symm)
  have HB1 : Hid (Calls Try.prog 38 #[.pointer v, .int .i64 (y : Nat), .int .i64 (l : Nat)] w.drew fun e w' => ∃ u, e = .returned (.int .i64 u) ∧ P (.int .i64 u) w') := HB.out 1
  go_region_with (first | (go_at_call 38; refine Calls.mono HB1.out ?_; rintro e W2 ⟨u, rfl, hP⟩; have HP : Hid (P (.int .i64 u) W2) := hP; clear hP))
  all_goals
    go_wp2
    go_ret
    exact ⟨u, rfl, HP.out⟩
end Go.Proofs.Ytklipommocijaaa
