/- The walk of RecordReads. -/
import Derived.Test.YtfjmcgdpiohnbaaBc
import Derived.Test.YtfjmcgdpiohnbaaAq
namespace Go.Proofs.Ytfjmcgdpiohnbaa
open Go.RowKit
set_option linter.unusedVariables false

theorem Own.slice' {w : World} {B : Nat} {v : Value} {L : List Rec} (h : Own w B v L) : ∃ a c, v = .slice a L.length c ∧ RIn w a L := by
  cases L with
  | nil =>
    rcases h.2 with ⟨rfl, _⟩ | ⟨g, cap, cur, rfl, _, _⟩
    · exact ⟨none, 0, rfl, RIn.nil _ _⟩
    · exact ⟨_, cap, rfl, RIn.nil _ _⟩
  | cons r L =>
    obtain ⟨g, cap, rfl, _, _, hin⟩ := h.row
    exact ⟨_, cap, rfl, hin⟩
/-- What both answer. -/
def OfE (w : World) (o : Option (List Rec)) (e : Ending) (w' : World) : Prop :=
  (∃ L a c, o = some L ∧ e = .returned (.tuple #[.slice a L.length c, .int .i64 0]) ∧ RIn w' a L ∧ Below w.heap.size w w') ∨ (o = none ∧ e = .returned (.tuple #[.slice none 0 0, .int .i64 90]) ∧ Below w.heap.size w w')
theorem OfEnd.plain {w : World} {o : Option (List Rec)} {e : Ending} {w' : World} (h : OfEnd w o e w') : OfE w o e w' := by
  rcases h with ⟨L, v, h1, rfl, h3, h4⟩ | h
  · obtain ⟨a, c, rfl, hin⟩ := h3.slice'
    exact .inl ⟨L, a, c, h1, rfl, hin, h4⟩
  · exact .inr h
theorem ofO_small {S : List UInt8} {base n : Int} {L : List Rec} (h : ofO S base n = some L) : L.length ≤ 1099511627776 := by
  unfold ofO at h
  split at h
  · next hc =>
    unfold ofL at h
    cases hr : rdN base n.toNat S with
    | none => rw [hr] at h; cases h
    | some p =>
      obtain ⟨M, R⟩ := p
      rw [hr] at h
      simp only at h
      split at h
      · next hm =>
        cases h
        rw [Bool.and_eq_true] at hm
        exact comes_small _ base hm.1 (by have := hc.1; unfold offB at this; simp at this; exact this.1)
      · cases h
  · cases h
set_option maxHeartbeats 1000000 in
theorem reads_walk (s : ByteArray) (base n : Int) (w : World) (hs : s.size ≤ 140737488351232) (hn : (Lit.int .i64 n).wf = true) :
    Calls Try.prog 4 #[.string s, .int .i64 base, .int .i64 n] w fun e w' => e = .returned (.bool true) ∧ Below w.heap.size w w' := by
  have hn1 : n ≤ 9223372036854775807 := by
    have h1 : IntKind.i64.min = -9223372036854775808 := rfl
    have h2 : IntKind.i64.max = 9223372036854775807 := rfl
    simp only [Lit.wf, Bool.and_eq_true, decide_eq_true_eq] at hn
    omega
  have hd : s.data.toList.length ≤ 140737488355328 := by rw [data_len]; omega
  have H1 : Hid (∀ W, Calls Try.prog 14 #[.string s, .int .i64 base, .int .i64 n] W fun e w' => OfE W (ofO s.data.toList base n) e w') := fun W => by
    have := of_ok s.data.toList base n W hn1 hd
    rw [mk_data] at this
    exact this.mono fun e w' h => h.plain
  have H2 : Hid (∀ W, Calls Try.prog 15 #[.string s, .int .i64 base, .int .i64 n] W fun e w' => OfE W (ofO s.data.toList base n) e w') := fun W => by
    have := rof_ok s.data.toList base n W hn1 hd
    rw [mk_data] at this
    exact this.mono fun e w' h => h.plain
  have H3 : Hid (∀ W L a b ca cb, ofO s.data.toList base n = some L → RIn W a L → RIn W b L → Calls Try.prog 16 #[.slice a L.length ca, .slice b L.length cb] W fun e w' => e = .returned (.bool true) ∧ Below W.heap.size W w') := fun W L a b ca cb h ha hb => same_ok a b ca cb L W ha hb (by have := ofO_small h; omega)
  have H4 : Hid (∀ W, Calls Try.prog 16 #[.slice none 0 0, .slice none 0 0] W fun e w' => e = .returned (.bool true) ∧ Below W.heap.size W w') := fun W => same_ok none none 0 0 [] W (RIn.nil _ _) (RIn.nil _ _) (by simp)
  obtain ⟨o, ho⟩ : ∃ o, ofO s.data.toList base n = o := ⟨_, rfl⟩
  rw [ho] at H1 H2 H3
  clear ho hd hn1 hn hs
  go_enter Try.func4, Try.ntmps4
  go_wp2_with fail
  refine (H1.out _).mono ?_
  rintro e w1 (⟨L, a, ca, hL, rfl, hi1, hb1⟩ | ⟨ho, rfl, hb1⟩)
  · have HB1 : Hid (Below w.heap.size w w1) := hb1
    have HI1 : Hid (RIn w1 a L) := hi1
    have HL : Hid (o = some L) := hL
    obtain ⟨len, hl⟩ : ∃ len, L.length = len := ⟨_, rfl⟩
    have HLE : Hid (L.length = len) := hl
    rw [hl]
    clear hb1 hi1 hL hl
    go_wp2_with fail
    refine (H2.out _).mono ?_
    rintro e w2 (⟨L', b, cb, hL', rfl, hi2, hb2⟩ | ⟨ho, _⟩)
    · obtain rfl : L' = L := by have := HL.out; rw [hL'] at this; cases this; rfl
      have HB2 : Hid (Below w.heap.size w w2) := HB1.out.trans (hb2.mono HB1.out.size)
      have HI2 : Hid (RIn w2 b L') := hi2
      have HJ2 : Hid (RIn w2 a L') := HI1.out.below hb2 (Nat.le_refl _)
      have HS : Hid (∀ W, RIn W a L' → RIn W b L' → Calls Try.prog 16 #[.slice a len ca, .slice b len cb] W fun e w' => e = .returned (.bool true) ∧ Below W.heap.size W w') := fun W h1 h2 => by
        have := H3.out W L' a b ca cb HL.out h1 h2
        rw [HLE.out] at this
        exact this
      rw [HLE.out]
      clear hb2 hi2 hL'
      go_wp2_with fail
      refine (HS.out _ HJ2.out HI2.out).mono ?_
      rintro e w3 ⟨rfl, hb3⟩
      have HB3 : Hid (Below w.heap.size w w3) := HB2.out.trans (hb3.mono HB2.out.size)
      clear hb3
      go_wp2_with fail
      refine (awake_ok _).mono ?_
      rintro e w4 ⟨rfl, hb4⟩
      have HB4 : Hid (Below w.heap.size w w4) := HB3.out.trans (hb4.mono HB3.out.size)
      clear hb4
      go_wp2
      go_ret
      exact ⟨rfl, HB4.out⟩
    · have := HL.out
      rw [ho] at this
      cases this
  · have HB1 : Hid (Below w.heap.size w w1) := hb1
    have HO : Hid (o = none) := ho
    clear hb1 ho
    go_wp2_with fail
    refine (H2.out _).mono ?_
    rintro e w2 (⟨L', b, cb, hL', _⟩ | ⟨_, rfl, hb2⟩)
    · have := HO.out
      rw [hL'] at this
      cases this
    · have HB2 : Hid (Below w.heap.size w w2) := HB1.out.trans (hb2.mono HB1.out.size)
      clear hb2
      go_wp2_with fail
      refine (H4.out _).mono ?_
      rintro e w3 ⟨rfl, hb3⟩
      have HB3 : Hid (Below w.heap.size w w3) := HB2.out.trans (hb3.mono HB2.out.size)
      clear hb3
      go_wp2_with fail
      refine (awake_ok _).mono ?_
      rintro e w4 ⟨rfl, hb4⟩
      have HB4 : Hid (Below w.heap.size w w4) := HB3.out.trans (hb4.mono HB3.out.size)
      clear hb4
      go_wp2
      go_ret
      exact ⟨rfl, HB4.out⟩
theorem reads_any (s : ByteArray) (base n : Int) (w : World) (hs : s.size ≤ 140737488351232) (hb : (Lit.int .i64 base).wf = true) (hn : (Lit.int .i64 n).wf = true) :
    Calls Try.prog 4 #[.string s, .int .i64 base, .int .i64 n] w fun e w' => e = .returned (.bool true) ∧ Below w.heap.size w w' := reads_walk s base n w hs hn
end Go.Proofs.Ytfjmcgdpiohnbaa
