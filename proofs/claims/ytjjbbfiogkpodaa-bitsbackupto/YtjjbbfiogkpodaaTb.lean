/- The walk of BitsWrites. -/
import Derived.Test.YtjjbbfiogkpodaaTa
import Derived.Test.YtjjbbfiogkpodaaOc
namespace Go.Proofs.Ytjjbbfiogkpodaa
open Go.RowKit
set_option linter.unusedVariables false

/-- How many bits so many calls write at the most. -/
def gain (ft : Nat → ByteArray) : Nat → Nat
  | 0 => 0
  | j + 1 => gain ft j + 57 + 8 * (ft j).size
theorem gain_le (ft : Nat → ByteArray) (i k : Nat) (h : i ≤ k) : gain ft i ≤ gain ft k := by
  induction k with
  | zero => rw [show i = 0 by omega]; exact Nat.le_refl _
  | succ k ih =>
    by_cases e : i = k + 1
    · rw [e]; exact Nat.le_refl _
    · exact Nat.le_trans (ih (by omega)) (by simp only [gain]; omega)
/-- What the law's loop keeps. -/
structure LRel (w wr : World) (L : List Nat) (v : Value) (ft : Nat → ByteArray) (j : Nat) : Prop where
  own : IS wr w.heap.size v L
  ws : WS wr w.heap.size w.heap.size L
  bel : Below w.heap.size w wr
  len : L.length ≤ gain ft j
theorem LRel.below {w wr w1 : World} {L : List Nat} {v : Value} {ft : Nat → ByteArray} {j : Nat} (h : LRel w wr L v ft j) (hb : Below wr.heap.size wr w1) : LRel w w1 L v ft j :=
  ⟨h.own.below hb, h.ws.below hb, h.bel.trans (hb.mono h.bel.size), h.len⟩
theorem WS.bits01 {w : World} {B b : Nat} {L : List Nat} (h : WS w B b L) : Bits01 L := by obtain ⟨v, _, _, h3, _⟩ := h; exact h3
set_option maxHeartbeats 1000000 in
theorem writes_walk (bo off len cap : Nat) (fk fx fn : Nat → Int) (ft : Nat → ByteArray) (w : World) (hl : len ≤ 9223372036854775807) (hg : gain ft len ≤ 1073741824) (ho : OpsAt w bo off len fk fx fn ft) :
    Calls Try.prog 4 #[.slice (some ⟨bo, off, none⟩) len cap] w fun e w' => e = .returned (.bool true) ∧ Below w.heap.size w w' := by
  have HO : Hid (OpsAt w bo off len fk fx fn ft) := ho
  have HG : Hid (gain ft len ≤ 1073741824) := hg
  clear ho hg
  go_enter Try.func4, Try.ntmps4
  go_wp2_with fail
  refine (newWriter _).mono ?_
  rintro e w1 ⟨rfl, hw1⟩
  have H1 : Hid (LRel w w1 [] (.slice none 0 0) ft 0) := by
    rw [hw1]
    exact ⟨IS.nil _ _, WS.new w _, (Below.refl _ _).alloc (Nat.le_refl _) _, Nat.zero_le _⟩
  clear hw1
  go_wp2
  go_loopw [4, 5] (fun v i wr => ∃ (ao : Option Addr) (cp j : Nat) (L : List Nat), v = .slice ao L.length cp ∧ j ≤ len ∧ i = .int .i64 j ∧ Hid (LRel w wr L (.slice ao L.length cp) ft j)) (fun _ i _ => len - (intOf i).toNat)
  case atStart => exact ⟨none, 0, 0, [], rfl, Nat.zero_le _, rfl, H1⟩
  case round =>
    obtain ⟨ao, cp, j, L, rfl, hj, rfl, hR⟩ := hrel
    by_cases hlt : j < len
    · have c0 : wr.cell? ⟨bo, off + j * 4, none⟩ = some (.int .i64 (fk j)) := (hR.out.bel.cell (p := ⟨bo, off + j * 4, none⟩) HO.out.lt).trans (HO.out.kind j hlt)
      have c1 : wr.cell? ⟨bo, off + j * 4 + 1, none⟩ = some (.int .i64 (fx j)) := (hR.out.bel.cell (p := ⟨bo, off + j * 4 + 1, none⟩) HO.out.lt).trans (HO.out.x j hlt)
      have c2 : wr.cell? ⟨bo, off + j * 4 + 2, none⟩ = some (.int .i64 (fn j)) := (hR.out.bel.cell (p := ⟨bo, off + j * 4 + 2, none⟩) HO.out.lt).trans (HO.out.n j hlt)
      have c3 : wr.cell? ⟨bo, off + j * 4 + 3, none⟩ = some (.string (ft j)) := (hR.out.bel.cell (p := ⟨bo, off + j * 4 + 3, none⟩) HO.out.lt).trans (HO.out.text j hlt)
      by_cases hbig : 4096 < (ft j).size
      · go_wp2_with fail
        refine (awake _).mono ?_
        rintro e w7 ⟨rfl, hb7⟩
        go_wp2
        go_ret
        exact ⟨rfl, hR.out.bel.trans (hb7.mono hR.out.bel.size)⟩
      · have hLj : Hid (L.length ≤ 1073741824 ∧ gain ft (j + 1) ≤ 1073741824) := by
          have h1 := hR.out.len
          have h2 := gain_le ft j len (by omega)
          have h3 := gain_le ft (j + 1) len (by omega)
          have h4 := HG.out
          exact ⟨by omega, by omega⟩
        go_wp2_with fail
        refine (writes_any (fk j) (fx j) (fn j) (ft j) w.heap.size w.heap.size cp ao L wr hLj.out.1 (by omega) hR.out.bel.size (Nat.le_refl _) hR.out.own hR.out.ws).mono ?_
        rintro e w2 ⟨ao2, cp2, L2, rfl, hlen2, hI2, hW2, hb2⟩
        have H2 : Hid (LRel w w2 L2 (.slice ao2 L2.length cp2) ft (j + 1)) := ⟨hI2, hW2, hR.out.bel.trans hb2, by have := hR.out.len; simp only [gain]; omega⟩
        clear hI2 hW2 hb2 hlen2
        go_wp2_with fail
        refine (wplace w.heap.size L2.length w2 H2.out.ws.self H2.out.ws.place).mono ?_
        rintro e w3 ⟨rfl, hw3⟩
        subst hw3
        by_cases h4 : j % 4 = 0
        · have h4' : ((j : Int) % 4 == 0) = true := by simp; omega
          have HL2 : Hid (L2.length ≤ 1073745000) := by have h1 := H2.out.len; have h2 := hLj.out.2; unfold Hid; omega
          clear h4
          go_wp2_with fail
          refine (wdone _ _ _ _ H2.out.ws).mono ?_
          rintro e w4 ⟨rfl, hw4⟩
          subst hw4
          go_wp2_with fail
          refine (refText w.heap.size cp2 ao2 L2 _ H2.out.ws.bits01 HL2.out H2.out.own).mono ?_
          rintro e w5 ⟨rfl, hb5⟩
          have H5 : Hid (LRel w w5 L2 (.slice ao2 L2.length cp2) ft (j + 1)) := H2.out.below hb5
          clear hb5
          go_wp2
          go_roundw
          case rel => exact ⟨_, _, j + 1, L2, rfl, by omega, by go_num, H5⟩
          case measure => simp [intOf]; omega
        · have h4' : ((j : Int) % 4 == 0) = false := by simp; omega
          clear h4
          go_wp2
          go_roundw
          case rel => exact ⟨_, _, j + 1, L2, rfl, by omega, by go_num, H2⟩
          case measure => simp [intOf]; omega
    · have HL2 : Hid (L.length ≤ 1073745000) := by have h1 := hR.out.len; have h2 := gain_le ft j len (by omega); have h3 := HG.out; unfold Hid; omega
      go_wp2_with fail
      refine (wdone _ _ _ _ hR.out.ws).mono ?_
      rintro e w4 ⟨rfl, hw4⟩
      subst hw4
      go_wp2_with fail
      refine (refText w.heap.size cp ao L _ hR.out.ws.bits01 HL2.out hR.out.own).mono ?_
      rintro e w5 ⟨rfl, hb5⟩
      have H5 : Hid (LRel w w5 L (.slice ao L.length cp) ft j) := hR.out.below hb5
      clear hb5
      go_wp2_with fail
      refine (awake _).mono ?_
      rintro e w7 ⟨rfl, hb7⟩
      go_wp2
      go_ret
      exact ⟨rfl, H5.out.bel.trans (hb7.mono H5.out.bel.size)⟩
set_option maxHeartbeats 1000000 in
theorem writes_walk0 (a : Option Addr) (cap : Nat) (w : World) :
    Calls Try.prog 4 #[.slice a 0 cap] w fun e w' => e = .returned (.bool true) ∧ Below w.heap.size w w' := by
  go_enter Try.func4, Try.ntmps4
  go_wp2_with fail
  refine (newWriter _).mono ?_
  rintro e w1 ⟨rfl, hw1⟩
  have H1 : Hid (LRel w w1 [] (.slice none 0 0) (fun _ => ⟨#[]⟩) 0) := by
    rw [hw1]
    exact ⟨IS.nil _ _, WS.new w _, (Below.refl _ _).alloc (Nat.le_refl _) _, Nat.zero_le _⟩
  clear hw1
  go_wp2
  go_loopw [4, 5] (fun v i wr => v = .slice none 0 0 ∧ i = .int .i64 0 ∧ Hid (LRel w wr [] (.slice none 0 0) (fun _ => ⟨#[]⟩) 0)) (fun _ i _ => 0 - (intOf i).toNat)
  case atStart => exact ⟨rfl, rfl, H1⟩
  case round =>
    obtain ⟨rfl, rfl, hR⟩ := hrel
    go_wp2_with fail
    refine (wdone _ _ _ _ hR.out.ws).mono ?_
    rintro e w4 ⟨rfl, hw4⟩
    subst hw4
    go_wp2_with fail
    refine (refText w.heap.size 0 none [] _ hR.out.ws.bits01 (by simp) hR.out.own).mono ?_
    rintro e w5 ⟨rfl, hb5⟩
    have H5 : Hid (LRel w w5 [] (.slice none 0 0) (fun _ => ⟨#[]⟩) 0) := hR.out.below hb5
    clear hb5
    go_wp2_with fail
    refine (awake _).mono ?_
    rintro e w7 ⟨rfl, hb7⟩
    go_wp2
    go_ret
    exact ⟨rfl, H5.out.bel.trans (hb7.mono H5.out.bel.size)⟩
end Go.Proofs.Ytjjbbfiogkpodaa
