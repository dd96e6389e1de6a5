/- Layer 6: a sequence with its copy is written. -/
import Derived.Test.YtbncfpbehahidaaYs
namespace Go.Proofs.Ytbncfpbehahidaa
open Go.RowKit
set_option linter.unusedVariables false
set_option maxRecDepth 20000

theorem news2 (W : World) (p q : Value) (t : TypeId) : ∀ j u, [p, q][j]? = some u → (W.alloc (.cells #[p, q] t)).cell? ((⟨W.heap.size, 0, none⟩ : Addr).add j) = some u := by
  intro j u h
  rw [add_zero_addr]
  unfold World.cell?
  rw [heap_alloc_new]
  match j, h with
  | 0, h => simpa using h
  | 1, h => simpa using h
theorem twoB (x y : Int) : ∀ u ∈ [Value.int .u8 x, Value.int .u8 y], u.oneCell' = true := by
  intro u hu; simp at hu; rcases hu with rfl | rfl <;> rfl
theorem headL_length (p : List Nat) (c : Nat) : (headL p c).length ≤ p.length + p.length / 255 + 2 := by
  unfold headL
  have := moreL_length p.length
  simp
  omega
set_option maxRecDepth 20000 in
set_option maxHeartbeats 4000000 in
theorem putCopy_ok (w : World) (B b : Nat) (l : List Nat) (v : Value) (h : BW w B b l v) (s : ByteArray) (d n : Nat) (hs : s.size ≤ 1048576) (hd : d ≤ 65535) (hn : 4 ≤ n) (hn2 : n ≤ 1048576) (hl : l.length ≤ 4194304) :
    Calls Try.prog 56 #[.pointer (some ⟨b, 0, none⟩), .string s, .int .i64 d, .int .i64 n] w fun e w' => e = .returned (.tuple #[]) ∧ (∃ v', BW w' B b (l ++ copyS (bytesOf s) d n) v') ∧ Below B w w' := by
  obtain ⟨c, hc⟩ : ∃ c, n - 4 = c := ⟨_, rfl⟩
  have hci : (n : Int) - 4 = (c : Int) := by omega
  have hcw := wrapN c (by omega)
  have HP : Hid (∀ _ : Unit, Calls Try.prog 57 #[.pointer (some ⟨b, 0, none⟩), .string s, .int .i64 c] w fun e w' => e = .returned (.tuple #[]) ∧ (∃ v', BW w' B b (l ++ headL (bytesOf s) c) v') ∧ Below B w w') := fun _ => putPlain_ok w B b l v h s c hs (by omega) (by omega)
  have hlen := headL_length (bytesOf s) c
  rw [bytesOf_length] at hlen
  have HC : Hid (copyS (bytesOf s) d n = headL (bytesOf s) c ++ [d % 256, d / 256] ++ moreL c) := by
    show _ = _
    unfold copyS; rw [hc]
  have hcb : c ≤ 1048576 := by omega
  clear h hc
  go_enter Try.func56, Try.ntmps56
  go_wp2_with fail
  refine (HP.out ()).mono ?_
  rintro e w1 ⟨rfl, ⟨v1, hb1⟩, hf1⟩
  obtain ⟨K, hK⟩ : ∃ K, l ++ headL (bytesOf s) c = K := ⟨_, rfl⟩
  rw [hK] at hb1
  have hKl : K.length ≤ 8000000 := by rw [← hK, List.length_append]; omega
  obtain ⟨ao, cp, hv⟩ := hb1.form
  obtain ⟨Q, hQ⟩ : ∃ Q, K.length = Q := ⟨_, rfl⟩
  rw [hQ] at hv hKl
  subst hv
  obtain ⟨c0, f0⟩ := hb1.cells
  have H1 : Hid (BW w1 B b K (.slice ao Q cp) ∧ Below B w w1 ∧ K.length = Q ∧ l ++ headL (bytesOf s) c = K) := ⟨hb1, hf1, hQ, hK⟩
  have HO : Hid (w1.ownsRow B 5 1 (.slice ao Q cp) Q (bcells K) ∧ B ≤ w1.heap.size) := ⟨by have := hb1.own; rw [hQ] at this; exact this, hb1.size⟩
  obtain ⟨i0, hi0, hz0, hz1, hz2⟩ := info_parts infoB
  have HI : Hid (_ ∧ _ ∧ _ ∧ _) := ⟨hi0, hz0, hz1, hz2⟩
  have HQ1 : Hid (Q + 2 ≤ maxLen ∧ (Q + 2) * 1 ≤ 140737488355328) := ⟨by unfold maxLen; omega, by omega⟩
  clear hb1 hf1 hQ hK hi0 hz0 hz1 hz2 HP
  obtain ⟨y0, hy0⟩ : ∃ y, d % 256 = y := ⟨_, rfl⟩
  obtain ⟨y1, hy1⟩ : ∃ y, d / 256 = y := ⟨_, rfl⟩
  have hyi : (d : Int) % 256 = (y0 : Int) := by omega
  have hyj : (d : Int) / 256 = (y1 : Int) := by omega
  have hyk : (y1 : Int) % 256 = (y1 : Int) := by omega
  have HY : Hid (d % 256 = y0 ∧ d / 256 = y1) := ⟨hy0, hy1⟩
  clear hy0 hy1
  go_wp2_with (at_builtin; refine wpList_append_lies _ rfl _ _ 30 rfl B 5 i0 (.int .u8 0) 1 1 Try.underlying30 HI.out.1 HI.out.2.1 HI.out.2.2.1 HI.out.2.2.2 rfl (by decide) (.slice ao Q cp) Q (bcells K) rfl (HO.out.1.alloc _) ⟨w1.heap.size, 0, none⟩ 2 2 [.int .u8 _, .int .u8 _] rfl rfl (news2 w1 _ _ _) (twoB _ _) (by decide) HQ1.out.1 HQ1.out.2 (Nat.le_trans HO.out.2 (by simp)) _ rfl ?_)
  intro g3 cap3 wc hown hgrow hat hgl
  obtain ⟨z1, z2, z5, z3, z4⟩ := (H1.out.1.alloc (.cells #[.int .u8 (y0 : Nat), .int .u8 (y1 : Nat)] 5)).grow (m := [y0, y1]) (v1 := .slice (some ⟨g3, 0, none⟩) (Q + 2) cap3) (by rw [H1.out.2.2.1]; exact hown) hgrow
  obtain ⟨w2, hw2⟩ : ∃ w2, wc.setCell ⟨b, 0, none⟩ (.slice (some ⟨g3, 0, none⟩) (Q + 2) cap3) = w2 := ⟨_, rfl⟩
  have H2 : Hid (BW w2 B b (K ++ [y0, y1]) (.slice (some ⟨g3, 0, none⟩) (Q + 2) cap3) ∧ Below B w w2) := by
    rw [← hw2]
    exact ⟨z3, H1.out.2.1.trans (((Below.refl B w1).alloc H1.out.1.size _).trans z4)⟩
  have HPM : Hid (∀ _ : Unit, Calls Try.prog 65 #[.pointer (some ⟨b, 0, none⟩), .int .i64 c] w2 fun e w' => e = .returned (.tuple #[]) ∧ (∃ v', BW w' B b (K ++ [y0, y1] ++ moreL c) v') ∧ Below B w2 w') := fun _ => putMore_ok w2 B b (K ++ [y0, y1]) _ H2.out.1 c hcb (by rw [List.length_append, H1.out.2.2.1]; simp; omega)
  clear z3 z4 z5 hown hgrow hat hgl hyi hyj hyk
  go_wp2_with fail
  try rw [hw2]
  refine (HPM.out ()).mono ?_
  rintro e w3 ⟨rfl, ⟨v3, hb3⟩, hf3⟩
  have H3 : Hid (BW w3 B b (K ++ [y0, y1] ++ moreL c) v3 ∧ Below B w w3) := ⟨hb3, H2.out.2.trans hf3⟩
  clear hb3 hf3
  go_wp2
  go_end0
  refine ⟨rfl, ⟨v3, ?_⟩, H3.out.2⟩
  have e : l ++ copyS (bytesOf s) d n = K ++ [y0, y1] ++ moreL c := by
    rw [HC.out, HY.out.1, HY.out.2, ← H1.out.2.2.2]
    simp only [List.append_assoc]
  rw [e]
  exact H3.out.1
end Go.Proofs.Ytbncfpbehahidaa
