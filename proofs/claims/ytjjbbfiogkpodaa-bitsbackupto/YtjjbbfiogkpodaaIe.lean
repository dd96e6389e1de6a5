/- One call of a writer that writes bytes, held against the document's bits; and every call. -/
import Derived.Test.YtjjbbfiogkpodaaId
namespace Go.Proofs.Ytjjbbfiogkpodaa
open Go.RowKit
set_option linter.unusedVariables false

theorem textBits_take_length (s : ByteArray) (j : Nat) (h : j ≤ 8 * s.size) : ((textBits s).take j).length = j := by rw [List.length_take, textBits_length]; omega
theorem textBits_take_succ (s : ByteArray) (j : Nat) (h : j < 8 * s.size) : (textBits s).take (j + 1) = (textBits s).take j ++ [bitAt s j] := by
  rw [List.take_succ_eq_append_getElem (by rw [textBits_length]; exact h)]
  congr 2
  simp [textBits]
set_option maxHeartbeats 1000000 in
theorem writes_bytes (x n : Int) (t : ByteArray) (B b cp : Nat) (ao : Option Addr) (L : List Nat) (w : World) (h8 : L.length % 8 = 0) (hL : L.length ≤ 1073741824) (ht : t.size ≤ 4096) (hB : B ≤ w.heap.size) (hBb : B ≤ b) (hI : IS w B (.slice ao L.length cp) L) (hw : WS w B b L) :
    Calls Try.prog 14 #[.pointer (some ⟨b, 0, none⟩), .slice ao L.length cp, .agg #[.int .i64 3, .int .i64 x, .int .i64 n, .string t]] w (WritesPost B b L t w) := by
  have H : Hid (IS w B (.slice ao L.length cp) L ∧ WS w B b L) := ⟨hI, hw⟩
  clear hI hw
  obtain ⟨q, hq⟩ : ∃ q, q = L.length := ⟨_, rfl⟩
  have HQ : Hid (q = L.length) := hq
  have H8 : Hid (L.length % 8 = 0) := h8
  rw [← hq] at hL h8 ⊢
  have h8' : ((q : Int) % 8 != 0) = false := by simp; omega
  clear hq h8
  obtain ⟨i0, hi, hz0, hz1, hz2⟩ := info_parts Try.infoI64
  go_enter Try.func14, Try.ntmps14
  go_wp2_with fail
  refine (wbytes B b L t _ H8.out (by have := HQ.out; omega) (H.out.2.below ((Below.refl _ _).alloc (Nat.le_refl _) _)) (by simp; omega)).mono ?_
  rintro e w1 ⟨rfl, hws1, hf1⟩
  have hbw : Hid (b < w.heap.size) := H.out.2.lt
  have HR : Hid (WRel w w1 B b w.heap.size 3 x n t (.slice ao q cp) L (L ++ textBits t)) := by
    have hal : Below w.heap.size w (w.alloc (.cells #[.int .i64 3, .int .i64 x, .int .i64 n, .string t] 28)) := (Below.refl _ _).alloc (Nat.le_refl _) _
    have hbox : Box (w.alloc (.cells #[.int .i64 3, .int .i64 x, .int .i64 n, .string t] 28)) w.heap.size 3 x n t := heap_alloc_new _ _
    refine ⟨?_, hws1, hbox.fr (by decide) (by have := hbw.out; omega) hf1, (hal.mono hB).trans (hf1.below hBb (by simp; omega)), Nat.le_trans (by simp; omega) hf1.size⟩
    rw [HQ.out]
    exact (H.out.1.alloc _).fr (H.out.2.below hal) hf1
  clear hws1 hf1
  go_wp2
  go_loopw [1, 11] (fun v i wr => ∃ (ao : Option Addr) (cp j : Nat), v = .slice ao (q + j) cp ∧ j ≤ 8 * t.size ∧ i = .int .i64 j ∧ Hid (WRel w wr B b w.heap.size 3 x n t (.slice ao (q + j) cp) (L ++ (textBits t).take j) (L ++ textBits t))) (fun _ i _ => 8 * t.size - (intOf i).toNat)
  case atStart => exact ⟨ao, cp, 0, rfl, Nat.zero_le _, rfl, by unfold Hid; simpa using HR.out⟩
  case round =>
    obtain ⟨ao', cp', j, rfl, hj, rfl, hW⟩ := hrel
    obtain ⟨_, _, _, r3⟩ := hW.out.box.cells
    have hown : wr.ownsRow B 3 1 (.slice ao' (q + j) cp') (q + j) (icells (L ++ (textBits t).take j)) := by
      have h := hW.out.own
      unfold IS at h
      rw [List.length_append, textBits_take_length t j hj, ← HQ.out] at h
      exact h
    have hBw := hW.out.size
    by_cases hlt : j < 8 * t.size
    · have hcb := fun w => refBit t j w hlt (by omega)
      go_wp2_with (first | (go_at_call 36; refine (hcb _).mono ?_; rintro e w' ⟨rfl, hw'⟩; obtain rfl := hw'.symm) | (at_builtin; refine wpList_append_lies _ rfl _ _ 34 rfl B 3 i0 (.int .i64 0) 1 8 Try.underlying34 hi hz0 hz1 hz2 rfl (by decide) (.slice ao' (q + j) cp') (q + j) (icells (L ++ (textBits t).take j)) rfl (hown.alloc _) ⟨wr.heap.size, 0, none⟩ 1 1 [.int .i64 (bitAt t j : Nat)] rfl rfl ?c1 ?c2 (by decide) ?c3 ?c4 ?c5 (wr.heap.size + 1) ?c6 ?_))
      case c1 =>
        intro j u hj
        match j, hj with
        | 0, hj => simp at hj; subst hj; simp [Addr.add]
      case c2 => intro u hu; simp at hu; subst hu; rfl
      case c3 => unfold maxLen; omega
      case c4 => omega
      case c5 => simp; omega
      case c6 => simp
      intro g cap w2 hown2 hgrow hat hgl
      have H2 : Hid (WRel w w2 B b w.heap.size 3 x n t (.slice (some ⟨g, 0, none⟩) (q + j + 1) cap) (L ++ (textBits t).take (j + 1)) (L ++ textBits t)) := by
        have h := hW.out.more (m := q + j) (y := bitAt t j) (by rw [List.length_append, textBits_take_length t j hj, ← HQ.out]) rfl hown2 hgrow
        rw [List.append_assoc, ← textBits_take_succ t j hlt] at h
        exact h
      clear hown2 hgrow hat hown
      go_wp2
      go_roundw
      case rel => exact ⟨_, _, j + 1, rfl, by omega, by go_num, H2⟩
      case measure => simp [intOf]; omega
    · have hjz : j = 8 * t.size := by omega
      have H3 : Hid (WritesPost B b L t w (.returned (.tuple #[.slice ao' (q + j) cp', .bool true])) wr) := by
        have hlen : (L ++ textBits t).length = q + j := by rw [List.length_append, textBits_length, ← HQ.out, hjz]
        have htk : (textBits t).take j = textBits t := by rw [hjz, ← textBits_length t, List.take_length]
        have hW' := hW.out
        rw [htk] at hW'
        refine ⟨ao', cp', L ++ textBits t, by rw [hlen], by rw [List.length_append, textBits_length]; omega, ?_, hW'.ws, hW'.bel⟩
        rw [hlen]; exact hW'.own
      clear hown hjz
      go_wp2
      go_ret2
      exact H3.out
/-- Whatever the call: the two sides do not part. -/
theorem writes_any (k x n : Int) (t : ByteArray) (B b cp : Nat) (ao : Option Addr) (L : List Nat) (w : World) (hL : L.length ≤ 1073741824) (ht : t.size ≤ 4096) (hB : B ≤ w.heap.size) (hBb : B ≤ b) (hI : IS w B (.slice ao L.length cp) L) (hw : WS w B b L) :
    Calls Try.prog 14 #[.pointer (some ⟨b, 0, none⟩), .slice ao L.length cp, .agg #[.int .i64 k, .int .i64 x, .int .i64 n, .string t]] w (WritesPost B b L t w) := by
  by_cases h1 : k = 1
  · subst h1
    by_cases hn : n < 0
    · exact writes_bits_arg x n t B b cp ao L w (.inl hn) hB hI hw
    by_cases hn2 : 57 < n
    · exact writes_bits_arg x n t B b cp ao L w (.inr (.inl hn2)) hB hI hw
    by_cases hx : x < 0
    · exact writes_bits_arg x n t B b cp ao L w (.inr (.inr (.inl hx))) hB hI hw
    obtain ⟨N, rfl⟩ := Int.eq_ofNat_of_zero_le (show 0 ≤ n by omega)
    obtain ⟨X, rfl⟩ := Int.eq_ofNat_of_zero_le (show 0 ≤ x by omega)
    by_cases hX : X < 2 ^ N
    · exact writes_bits X N t B b cp ao L w (by omega) hX hL hB hBb hI hw
    · refine writes_bits_arg X N t B b cp ao L w (.inr (.inr (.inr ⟨N, rfl, by omega, ?_⟩))) hB hI hw
      have e2 : ((2 ^ N : Nat) : Int) = 2 ^ N := by simp
      omega
  by_cases h2 : k = 2
  · subst h2; exact writes_align x n t B b cp ao L w hL hB hBb hI hw
  by_cases h3 : k = 3
  · subst h3
    by_cases h8 : L.length % 8 = 0
    · exact writes_bytes x n t B b cp ao L w h8 hL ht hB hBb hI hw
    · exact writes_bytes_bits x n t B b cp ao L w h8 hB hI hw
  exact writes_other k x n t B b cp ao L w h1 h2 h3 hB hI hw
end Go.Proofs.Ytjjbbfiogkpodaa
