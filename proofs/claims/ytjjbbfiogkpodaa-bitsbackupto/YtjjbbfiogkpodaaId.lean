/- One call of a writer that writes noughts or bytes, held against the document's bits. -/
import Derived.Test.YtjjbbfiogkpodaaIc
namespace Go.Proofs.Ytjjbbfiogkpodaa
open Go.RowKit
set_option linter.unusedVariables false

set_option maxHeartbeats 1000000 in
theorem writes_align (x n : Int) (t : ByteArray) (B b cp : Nat) (ao : Option Addr) (L : List Nat) (w : World) (hL : L.length ≤ 1073741824) (hB : B ≤ w.heap.size) (hBb : B ≤ b) (hI : IS w B (.slice ao L.length cp) L) (hw : WS w B b L) :
    Calls Try.prog 14 #[.pointer (some ⟨b, 0, none⟩), .slice ao L.length cp, .agg #[.int .i64 2, .int .i64 x, .int .i64 n, .string t]] w (WritesPost B b L t w) := by
  have H : Hid (IS w B (.slice ao L.length cp) L ∧ WS w B b L) := ⟨hI, hw⟩
  clear hI hw
  obtain ⟨q, hq⟩ : ∃ q, q = L.length := ⟨_, rfl⟩
  have HQ : Hid (q = L.length) := hq
  rw [← hq] at hL ⊢
  clear hq
  obtain ⟨P, hP⟩ : ∃ P, P = padOf q := ⟨_, rfl⟩
  have HPd : Hid (P = padOf q) := hP
  have hP8 : P ≤ 7 := by rw [hP]; unfold padOf; omega
  have HP8 : Hid ((q + P) % 8 = 0 ∧ ∀ j, j < P → (q + j) % 8 ≠ 0) := by
    rw [hP]; unfold padOf
    exact ⟨by omega, fun j hj => by omega⟩
  clear hP
  obtain ⟨i0, hi, hz0, hz1, hz2⟩ := info_parts Try.infoI64
  have HR : Hid (WRel w (w.alloc (.cells #[.int .i64 2, .int .i64 x, .int .i64 n, .string t] 28)) B b w.heap.size 2 x n t (.slice ao q cp) L L) := by
    have hal : Below w.heap.size w (w.alloc (.cells #[.int .i64 2, .int .i64 x, .int .i64 n, .string t] 28)) := (Below.refl _ _).alloc (Nat.le_refl _) _
    refine ⟨?_, H.out.2.below hal, heap_alloc_new _ _, hal.mono hB, by simp; omega⟩
    rw [HQ.out]
    exact H.out.1.alloc _
  go_enter Try.func14, Try.ntmps14
  go_wp2
  go_loopw [1] (fun v wr => ∃ (ao : Option Addr) (cp j : Nat), v = .slice ao (q + j) cp ∧ j ≤ P ∧ Hid (WRel w wr B b w.heap.size 2 x n t (.slice ao (q + j) cp) (L ++ List.replicate j 0) L)) (fun v _ => q + P - (match v with | .slice _ m _ => m | _ => 0))
  case atStart => exact ⟨ao, cp, 0, rfl, Nat.zero_le _, by unfold Hid; simpa using HR.out⟩
  case round =>
    obtain ⟨ao', cp', j, rfl, hj, hW⟩ := hrel
    have hown : wr.ownsRow B 3 1 (.slice ao' (q + j) cp') (q + j) (icells (L ++ List.replicate j 0)) := by
      have h := hW.out.own
      unfold IS at h
      rw [List.length_append, List.length_replicate, ← HQ.out] at h
      exact h
    have hBw := hW.out.size
    by_cases hlt : j < P
    · have hne := HP8.out.2 j hlt
      have hne' : (((q : Int) + (j : Int)) % 8 != 0) = true := by simp; omega
      go_wp2_with (at_builtin; refine wpList_append_lies _ rfl _ _ 34 rfl B 3 i0 (.int .i64 0) 1 8 Try.underlying34 hi hz0 hz1 hz2 rfl (by decide) (.slice ao' (q + j) cp') (q + j) (icells (L ++ List.replicate j 0)) rfl (hown.alloc _) ⟨wr.heap.size, 0, none⟩ 1 1 [.int .i64 0] rfl rfl ?c1 ?c2 (by decide) ?c3 ?c4 ?c5 (wr.heap.size + 1) ?c6 ?_)
      case c1 =>
        intro j u hj
        match j, hj with
        | 0, hj => simp at hj; subst hj; simp [Addr.add]
      case c2 => intro u hu; simp at hu; subst hu; rfl
      case c3 => unfold maxLen; omega
      case c4 => omega
      case c5 => simp; omega
      case c6 => simp
      intro g cap w2 hown2 hgrow hat hgl
      have H2 : Hid (WRel w w2 B b w.heap.size 2 x n t (.slice (some ⟨g, 0, none⟩) (q + j + 1) cap) (L ++ List.replicate (j + 1) 0) L) := by
        have h := hW.out.more (m := q + j) (y := 0) (by rw [List.length_append, List.length_replicate, ← HQ.out]) rfl hown2 hgrow
        rw [List.append_assoc, ← List.replicate_succ'] at h
        exact h
      clear hown2 hgrow hat hown hne hne'
      go_wp2
      go_roundw
      case rel => exact ⟨_, _, j + 1, rfl, by omega, H2⟩
      case measure => simp; omega
    · obtain rfl : P = j := by omega
      have hz := HP8.out.1
      have hz' : (((q : Int) + (P : Int)) % 8 != 0) = false := by simp; omega
      have HZ : Hid ((q + P) % 8 = 0) := hz
      clear hown hz
      go_wp2_with fail
      refine (walign B b L wr (by have := HQ.out; omega) hW.out.ws).mono ?_
      rintro e w3 ⟨rfl, hws3, ho3⟩
      have hpl : padded L = L ++ List.replicate P 0 := by rw [padded, HPd.out, HQ.out]
      have hlen : (padded L).length = q + P := by rw [hpl, List.length_append, List.length_replicate, ← HQ.out]
      have H3 : Hid (WritesPost B b L t w (.returned (.tuple #[.slice ao' (q + P) cp', .bool true])) w3) := by
        refine ⟨ao', cp', padded L, by rw [hlen], by rw [hlen, HQ.out]; omega, ?_, hws3, hW.out.bel.trans (ho3.below hBb hW.out.size)⟩
        rw [hlen, hpl]
        exact hW.out.own.only hW.out.ws ho3
      clear hws3 ho3 hpl hlen
      go_wp2
      go_ret2
      exact H3.out
set_option maxHeartbeats 400000 in
theorem writes_bytes_bits (x n : Int) (t : ByteArray) (B b cp : Nat) (ao : Option Addr) (L : List Nat) (w : World) (h8 : L.length % 8 ≠ 0) (hB : B ≤ w.heap.size) (hI : IS w B (.slice ao L.length cp) L) (hw : WS w B b L) :
    Calls Try.prog 14 #[.pointer (some ⟨b, 0, none⟩), .slice ao L.length cp, .agg #[.int .i64 3, .int .i64 x, .int .i64 n, .string t]] w (WritesPost B b L t w) := by
  have H : Hid (IS w B (.slice ao L.length cp) L ∧ WS w B b L) := ⟨hI, hw⟩
  clear hI hw
  go_enter Try.func14, Try.ntmps14
  go_wp2_with fail
  refine (wbytes_bits B b L t _ h8 (H.out.2.below ((Below.refl _ _).alloc (Nat.le_refl _) _))).mono ?_
  rintro e w1 ⟨rfl, hw1⟩
  subst hw1
  go_wp2
  go_ret2
  exact ⟨ao, cp, L, rfl, by omega, H.out.1.alloc _, H.out.2.below ((Below.refl _ _).alloc (Nat.le_refl _) _), (Below.refl _ _).alloc hB _⟩
end Go.Proofs.Ytjjbbfiogkpodaa
