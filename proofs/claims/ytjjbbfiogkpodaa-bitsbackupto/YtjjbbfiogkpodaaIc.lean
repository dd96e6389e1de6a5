/- One call of a writer that writes bits, noughts or bytes, held against the document's bits. -/
import Derived.Test.YtjjbbfiogkpodaaIb
namespace Go.Proofs.Ytjjbbfiogkpodaa
open Go.RowKit
set_option linter.unusedVariables false

/-- What a round of the document's loop keeps. -/
structure WRel (w wr : World) (B b N : Nat) (k x n : Int) (t : ByteArray) (v : Value) (M LW : List Nat) : Prop where
  own : IS wr B v M
  ws : WS wr B b LW
  box : Box wr N k x n t
  bel : Below B w wr
  size : B ≤ wr.heap.size
theorem WRel.more {w wr w1 : World} {B b N g cap m : Nat} {k x n : Int} {t : ByteArray} {v : Value} {M LW : List Nat} {o : Obj} {y : Nat} {xs : List Value} (h : WRel w wr B b N k x n t v M LW) (hm : M.length = m) (hxs : xs = [Value.int .i64 (y : Nat)])
    (ho : w1.ownsRow B 3 1 (.slice (some ⟨g, 0, none⟩) (m + 1) cap) (m + 1) (icells M ++ xs)) (hg : (wr.alloc o).grownBy w1 v.ownBlock) : WRel w w1 B b N k x n t (.slice (some ⟨g, 0, none⟩) (m + 1) cap) (M ++ [y]) LW := by
  subst hxs
  have hf : Fr 3 B wr.heap.size wr w1 := Fr.appended h.own hg
  refine ⟨?_, h.ws.fr hf (Nat.le_refl _), h.box.fr (by decide) (by have := lt_of_block h.box; omega) hf, ?_, ?_⟩
  · unfold IS; rw [← icells_snoc, List.length_append, hm]; exact ho
  · exact h.bel.trans (hf.below h.size h.size)
  · exact Nat.le_trans h.size hf.size
set_option maxHeartbeats 1000000 in
theorem writes_bits (X n : Nat) (t : ByteArray) (B b cp : Nat) (ao : Option Addr) (L : List Nat) (w : World) (hn : n ≤ 57) (hX : X < 2 ^ n) (hL : L.length ≤ 1073741824) (hB : B ≤ w.heap.size) (hBb : B ≤ b) (hI : IS w B (.slice ao L.length cp) L) (hw : WS w B b L) :
    Calls Try.prog 14 #[.pointer (some ⟨b, 0, none⟩), .slice ao L.length cp, .agg #[.int .i64 1, .int .i64 X, .int .i64 n, .string t]] w (WritesPost B b L t w) := by
  have H : Hid (IS w B (.slice ao L.length cp) L ∧ WS w B b L) := ⟨hI, hw⟩
  have HX : Hid (X < 2 ^ n) := hX
  have hX63 : X < 9223372036854775808 := by have := pow_le n 57 hn; omega
  have hz := shr_zero' X n hX
  clear hI hw hX
  obtain ⟨q, hq⟩ : ∃ q, q = L.length := ⟨_, rfl⟩
  have HQ : Hid (q = L.length) := hq
  rw [← hq] at hL ⊢
  clear hq
  obtain ⟨i0, hi, hz0, hz1, hz2⟩ := info_parts Try.infoI64
  go_enter Try.func14, Try.ntmps14
  go_wp2_with fail
  refine (wbits B b L X n _ hn HX.out (by have := HQ.out; omega) (H.out.2.below ((Below.refl _ _).alloc (Nat.le_refl _) _)) (by simp; omega)).mono ?_
  rintro e w1 ⟨rfl, hws1, hf1⟩
  have hbw : Hid (b < w.heap.size) := H.out.2.lt
  have HR : Hid (WRel w w1 B b w.heap.size 1 X n t (.slice ao q cp) L (L ++ bitsOf X n)) := by
    have hal : Below w.heap.size w (w.alloc (.cells #[.int .i64 1, .int .i64 X, .int .i64 n, .string t] 28)) := (Below.refl _ _).alloc (Nat.le_refl _) _
    have hbox : Box (w.alloc (.cells #[.int .i64 1, .int .i64 X, .int .i64 n, .string t] 28)) w.heap.size 1 X n t := heap_alloc_new _ _
    refine ⟨?_, hws1, hbox.fr (by decide) (by have := hbw.out; omega) hf1, (hal.mono hB).trans (hf1.below hBb (by simp; omega)), Nat.le_trans (by simp; omega) hf1.size⟩
    rw [HQ.out]
    exact (H.out.1.alloc _).fr (H.out.2.below hal) hf1
  obtain ⟨_, c1, c2, _⟩ := HR.out.box.cells
  clear hws1 hf1
  go_wp2
  go_loopw [1, 9] (fun v i wr => ∃ (V : Value) (ao : Option Addr) (cp j : Nat), V = v ∧ V = .slice ao (q + j) cp ∧ j ≤ n ∧ i = .int .i64 j ∧ Hid (WRel w wr B b w.heap.size 1 X n t V (L ++ bitsOf X j) (L ++ bitsOf X n))) (fun _ i _ => n - (intOf i).toNat)
  case atStart => exact ⟨_, ao, cp, 0, rfl, rfl, Nat.zero_le _, rfl, by unfold Hid; simpa [bitsOf] using HR.out⟩
  case round =>
    obtain ⟨v, ao', cp', j, rfl, hv, hj, rfl, hW⟩ := hrel
    have HV : Hid (v = .slice ao' (q + j) cp') := hv
    obtain ⟨_, r1, r2, _⟩ := hW.out.box.cells
    have hown : wr.ownsRow B 3 1 v (q + j) (icells (L ++ bitsOf X j)) := by
      have h := hW.out.own
      unfold IS at h
      rw [List.length_append, bitsOf_length, ← HQ.out] at h
      exact h
    have hBw := hW.out.size
    clear hv
    by_cases hlt : j < n
    · go_wp2_with (at_builtin; refine wpList_append_lies _ rfl _ _ 34 rfl B 3 i0 (.int .i64 0) 1 8 Try.underlying34 hi hz0 hz1 hz2 rfl (by decide) v (q + j) (icells (L ++ bitsOf X j)) rfl (hown.alloc _) ⟨wr.heap.size, 0, none⟩ 1 1 [.int .i64 (bits .and .i64 ((X : Int) / 2 ^ j) 1)] rfl rfl ?c1 ?c2 (by decide) ?c3 ?c4 ?c5 (wr.heap.size + 1) ?c6 ?_)
      case c1 =>
        intro j u hj
        match j, hj with
        | 0, hj => simp at hj; subst hj; simp [Addr.add]
      case c2 => intro u hu; simp at hu; subst hu; rfl
      case c3 => unfold maxLen; omega
      case c4 => omega
      case c5 => simp; omega
      case c6 => simp
      intro g cap w2 hown2 hgrow hat hgl
      have H2 : Hid (WRel w w2 B b w.heap.size 1 X n t (.slice (some ⟨g, 0, none⟩) (q + j + 1) cap) (L ++ bitsOf X (j + 1)) (L ++ bitsOf X n)) := by
        have h := hW.out.more (m := q + j) (y := X / 2 ^ j % 2) (by rw [List.length_append, bitsOf_length, ← HQ.out]) (by rw [and1_i64 X j hX63]) hown2 hgrow
        rw [List.append_assoc] at h
        exact h
      clear hown2 hgrow hat hown
      go_wp2
      go_roundw
      case rel => exact ⟨_, _, _, j + 1, rfl, rfl, by omega, by go_num, H2⟩
      case measure => simp [intOf]; omega
    · obtain rfl : n = j := by omega
      clear hown
      rw [HV.out] at hW ⊢
      go_wp2
      go_ret2
      have hlen : (L ++ bitsOf X n).length = q + n := by rw [List.length_append, bitsOf_length, ← HQ.out]
      refine ⟨ao', cp', L ++ bitsOf X n, by rw [hlen]; rfl, by rw [hlen, HQ.out]; omega, ?_, hW.out.ws, hW.out.bel⟩
      rw [hlen]; exact hW.out.own
end Go.Proofs.Ytjjbbfiogkpodaa
