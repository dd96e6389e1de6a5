/- Layer 6: a sequence that is written. -/
import Derived.Test.YtbncfpbehahidaaYj
import Derived.Test.YtbncfpbehahidaaYg
namespace Go.Proofs.Ytbncfpbehahidaa
open Go.RowKit
set_option linter.unusedVariables false
set_option maxRecDepth 20000

/-- A sequence up to its plain bytes. -/
def headL (p : List Nat) (c : Nat) : List Nat := [16 * min p.length 15 + min c 15] ++ moreL p.length ++ p
def copyS (p : List Nat) (d n : Nat) : List Nat := headL p (n - 4) ++ [d % 256, d / 256] ++ moreL (n - 4)
theorem head_or (p c : Nat) (hp : p ≤ 15) (hc : c ≤ 15) : bits .or .i64 ((p : Int) * 16) (c : Int) % 256 = ((16 * p + c : Nat) : Int) := by
  have h1 := i64_or_nat (p * 16) c (by omega) (by omega)
  have h2 : p * 16 ||| c = 16 * p + c := by
    have h := Nat.two_pow_add_eq_or_of_lt (i := 4) (by omega : c < 2 ^ 4) p
    rw [Nat.mul_comm p 16]
    simpa using h.symm
  rw [h2] at h1
  have h3 : ((p : Int) * 16) = ((p * 16 : Nat) : Int) := by omega
  rw [h3, h1]
  omega
set_option maxRecDepth 20000 in
set_option maxHeartbeats 4000000 in
theorem putPlain_ok (w : World) (B b : Nat) (l : List Nat) (v : Value) (h : BW w B b l v) (s : ByteArray) (c : Nat) (hs : s.size ≤ 1048576) (hc : c ≤ 1048576) (hl : l.length ≤ 8388608) :
    Calls Try.prog 57 #[.pointer (some ⟨b, 0, none⟩), .string s, .int .i64 c] w fun e w' => e = .returned (.tuple #[]) ∧ (∃ v', BW w' B b (l ++ headL (bytesOf s) c) v') ∧ Below B w w' := by
  have H : Hid (BW w B b l v) := h
  obtain ⟨ao, cp, hv⟩ := h.form
  obtain ⟨Q, hQ⟩ : ∃ Q, l.length = Q := ⟨_, rfl⟩
  rw [hQ] at hv
  subst hv
  obtain ⟨c0, f0⟩ := h.cells
  have HO : Hid (w.ownsRow B 5 1 (.slice ao Q cp) Q (bcells l) ∧ B ≤ w.heap.size ∧ l.length = Q) := ⟨by have := h.own; rw [hQ] at this; exact this, h.size, hQ⟩
  have hQb : Q ≤ 8388608 := by omega
  obtain ⟨i0, hi0, hz0, hz1, hz2⟩ := info_parts infoB
  clear h hQ hl
  have HQ1 : Hid (Q + 1 ≤ maxLen ∧ (Q + 1) * 1 ≤ 140737488355328) := ⟨by unfold maxLen; omega, by omega⟩
  have HI : Hid (_ ∧ _ ∧ _ ∧ _) := ⟨hi0, hz0, hz1, hz2⟩
  clear hi0 hz0 hz1 hz2
  obtain ⟨X, hX⟩ : ∃ X, 16 * min s.size 15 + min c 15 = X := ⟨_, rfl⟩
  have HX : Hid (16 * min s.size 15 + min c 15 = X) := hX
  have hor := head_or (min s.size 15) (min c 15) (Nat.min_le_right _ _) (Nat.min_le_right _ _)
  rw [hX] at hor
  have hX256 : X < 256 := by omega
  by_cases p15 : s.size ≤ 15
  · rw [Nat.min_eq_left (by omega : s.size ≤ 15)] at hor
    have p15i : (s.size : Int) ≤ 15 := by omega
    by_cases c15 : c ≤ 15
    · rw [Nat.min_eq_left (by omega : c ≤ 15)] at hor
      have c15i : (c : Int) ≤ 15 := by omega
      clear hX
      go_enter Try.func57, Try.ntmps57
      go_wp2_with (at_builtin; refine wpList_append_lies _ rfl _ _ 30 rfl B 5 i0 (.int .u8 0) 1 1 Try.underlying30 HI.out.1 HI.out.2.1 HI.out.2.2.1 HI.out.2.2.2 rfl (by decide) (.slice ao Q cp) Q (bcells l) rfl (HO.out.1.alloc _) ⟨w.heap.size, 0, none⟩ 1 1 [.int .u8 _] rfl rfl (news1 w _ _) (oneB _) (by decide) HQ1.out.1 HQ1.out.2 (Nat.le_trans HO.out.2.1 (by simp)) _ rfl ?_)
      intro g3 cap3 wc hown hgrow hat hgl
      try rw [hor] at hown
      obtain ⟨z1, z2, z3, z4⟩ := H.out.one HO.out.2.2 hown hgrow
      obtain ⟨w1, hw1⟩ : ∃ w1, wc.setCell ⟨b, 0, none⟩ (.slice (some ⟨g3, 0, none⟩) (Q + 1) cap3) = w1 := ⟨_, rfl⟩
      have H1 : Hid (BW w1 B b (l ++ [X]) (.slice (some ⟨g3, 0, none⟩) (Q + 1) cap3) ∧ Below B w w1) := by rw [← hw1]; exact ⟨z3, z4⟩
      have HPM : Hid (∀ _ : Unit, Calls Try.prog 65 #[.pointer (some ⟨b, 0, none⟩), .int .i64 s.size] w1 fun e w' => e = .returned (.tuple #[]) ∧ (∃ v', BW w' B b (l ++ [X] ++ moreL s.size) v') ∧ Below B w1 w') := fun _ => putMore_ok w1 B b (l ++ [X]) _ H1.out.1 s.size hs (by rw [List.length_append, HO.out.2.2]; simp; omega)
      clear z3 z4 hown hgrow hat hgl hor
      go_wp2_with fail
      try rw [hw1]
      refine (HPM.out ()).mono ?_
      rintro e w2 ⟨rfl, ⟨v2, hb2⟩, hf2⟩
      obtain ⟨K, hK⟩ : ∃ K, l ++ [X] ++ moreL s.size = K := ⟨_, rfl⟩
      rw [hK] at hb2
      obtain ⟨ao2, cp2, hv⟩ := hb2.form
      obtain ⟨Q2, hQ2⟩ : ∃ Q, K.length = Q := ⟨_, rfl⟩
      rw [hQ2] at hv
      subst hv
      obtain ⟨d0, e0⟩ := hb2.cells
      have H2 : Hid (BW w2 B b K (.slice ao2 Q2 cp2) ∧ Below B w w2 ∧ K.length = Q2 ∧ l ++ [X] ++ moreL s.size = K) := ⟨hb2, H1.out.2.trans hf2, hQ2, hK⟩
      have hQ2b : Q2 + s.size ≤ 140737488355328 := by
        have h1 := moreL_length s.size
        have h2 : K.length = l.length + 1 + (moreL s.size).length := by rw [← hK]; simp; omega
        rw [HO.out.2.2] at h2
        omega
      clear hb2 hf2 hQ2 hK hw1 z1 z2
      go_wp2_with (at_builtin; refine Lib.wpList_append_own_string _ rfl _ _ 30 9 rfl B 5 i0 Try.underlying30 Try.underlying9 HI.out.1 HI.out.2.1 HI.out.2.2.1 HI.out.2.2.2 (.slice ao2 Q2 cp2) Q2 (bcells K) rfl (by have := H2.out.1.own; rw [H2.out.2.2.1] at this; exact this) s rfl (by unfold maxLen; omega) (by omega) H2.out.1.size ?_)
      intro v3 w3 hown hgrow _
      rw [strCells_eq, ← bytesOf_length s] at hown
      obtain ⟨y1, y2, ⟨ao3, ln3, cp3, hv3⟩, y3, y4⟩ := H2.out.1.grow (m := bytesOf s) (by rw [H2.out.2.2.1]; exact hown) hgrow
      subst hv3
      have H3 : Hid _ := (⟨y3, y4⟩ : _ ∧ _)
      clear y3 y4 hown hgrow
      go_wp2
      go_end0
      refine ⟨rfl, ⟨.slice ao3 ln3 cp3, ?_⟩, H2.out.2.1.trans H3.out.2⟩
      have e : l ++ headL (bytesOf s) c = K ++ bytesOf s := by
        rw [← H2.out.2.2.2]
        unfold headL
        rw [bytesOf_length, HX.out, List.append_assoc, List.append_assoc, List.append_assoc]
      rw [e]
      exact H3.out.1
    · rw [Nat.min_eq_right (by omega : 15 ≤ c)] at hor
      have c15i : ¬ (c : Int) ≤ 15 := by omega
      replace hor : bits .or .i64 ((s.size : Int) * 16) 15 % 256 = (X : Int) := hor
      clear hX
      go_enter Try.func57, Try.ntmps57
      go_wp2_with (at_builtin; refine wpList_append_lies _ rfl _ _ 30 rfl B 5 i0 (.int .u8 0) 1 1 Try.underlying30 HI.out.1 HI.out.2.1 HI.out.2.2.1 HI.out.2.2.2 rfl (by decide) (.slice ao Q cp) Q (bcells l) rfl (HO.out.1.alloc _) ⟨w.heap.size, 0, none⟩ 1 1 [.int .u8 _] rfl rfl (news1 w _ _) (oneB _) (by decide) HQ1.out.1 HQ1.out.2 (Nat.le_trans HO.out.2.1 (by simp)) _ rfl ?_)
      intro g3 cap3 wc hown hgrow hat hgl
      try rw [hor] at hown
      obtain ⟨z1, z2, z3, z4⟩ := H.out.one HO.out.2.2 hown hgrow
      obtain ⟨w1, hw1⟩ : ∃ w1, wc.setCell ⟨b, 0, none⟩ (.slice (some ⟨g3, 0, none⟩) (Q + 1) cap3) = w1 := ⟨_, rfl⟩
      have H1 : Hid (BW w1 B b (l ++ [X]) (.slice (some ⟨g3, 0, none⟩) (Q + 1) cap3) ∧ Below B w w1) := by rw [← hw1]; exact ⟨z3, z4⟩
      have HPM : Hid (∀ _ : Unit, Calls Try.prog 65 #[.pointer (some ⟨b, 0, none⟩), .int .i64 s.size] w1 fun e w' => e = .returned (.tuple #[]) ∧ (∃ v', BW w' B b (l ++ [X] ++ moreL s.size) v') ∧ Below B w1 w') := fun _ => putMore_ok w1 B b (l ++ [X]) _ H1.out.1 s.size hs (by rw [List.length_append, HO.out.2.2]; simp; omega)
      clear z3 z4 hown hgrow hat hgl hor
      go_wp2_with fail
      try rw [hw1]
      refine (HPM.out ()).mono ?_
      rintro e w2 ⟨rfl, ⟨v2, hb2⟩, hf2⟩
      obtain ⟨K, hK⟩ : ∃ K, l ++ [X] ++ moreL s.size = K := ⟨_, rfl⟩
      rw [hK] at hb2
      obtain ⟨ao2, cp2, hv⟩ := hb2.form
      obtain ⟨Q2, hQ2⟩ : ∃ Q, K.length = Q := ⟨_, rfl⟩
      rw [hQ2] at hv
      subst hv
      obtain ⟨d0, e0⟩ := hb2.cells
      have H2 : Hid (BW w2 B b K (.slice ao2 Q2 cp2) ∧ Below B w w2 ∧ K.length = Q2 ∧ l ++ [X] ++ moreL s.size = K) := ⟨hb2, H1.out.2.trans hf2, hQ2, hK⟩
      have hQ2b : Q2 + s.size ≤ 140737488355328 := by
        have h1 := moreL_length s.size
        have h2 : K.length = l.length + 1 + (moreL s.size).length := by rw [← hK]; simp; omega
        rw [HO.out.2.2] at h2
        omega
      clear hb2 hf2 hQ2 hK hw1 z1 z2
      go_wp2_with (at_builtin; refine Lib.wpList_append_own_string _ rfl _ _ 30 9 rfl B 5 i0 Try.underlying30 Try.underlying9 HI.out.1 HI.out.2.1 HI.out.2.2.1 HI.out.2.2.2 (.slice ao2 Q2 cp2) Q2 (bcells K) rfl (by have := H2.out.1.own; rw [H2.out.2.2.1] at this; exact this) s rfl (by unfold maxLen; omega) (by omega) H2.out.1.size ?_)
      intro v3 w3 hown hgrow _
      rw [strCells_eq, ← bytesOf_length s] at hown
      obtain ⟨y1, y2, ⟨ao3, ln3, cp3, hv3⟩, y3, y4⟩ := H2.out.1.grow (m := bytesOf s) (by rw [H2.out.2.2.1]; exact hown) hgrow
      subst hv3
      have H3 : Hid _ := (⟨y3, y4⟩ : _ ∧ _)
      clear y3 y4 hown hgrow
      go_wp2
      go_end0
      refine ⟨rfl, ⟨.slice ao3 ln3 cp3, ?_⟩, H2.out.2.1.trans H3.out.2⟩
      have e : l ++ headL (bytesOf s) c = K ++ bytesOf s := by
        rw [← H2.out.2.2.2]
        unfold headL
        rw [bytesOf_length, HX.out, List.append_assoc, List.append_assoc, List.append_assoc]
      rw [e]
      exact H3.out.1
  · rw [Nat.min_eq_right (by omega : 15 ≤ s.size)] at hor
    have p15i : ¬ (s.size : Int) ≤ 15 := by omega
    by_cases c15 : c ≤ 15
    · rw [Nat.min_eq_left (by omega : c ≤ 15)] at hor
      have c15i : (c : Int) ≤ 15 := by omega
      replace hor : bits .or .i64 240 (c : Int) % 256 = (X : Int) := hor
      clear hX
      go_enter Try.func57, Try.ntmps57
      go_wp2_with (at_builtin; refine wpList_append_lies _ rfl _ _ 30 rfl B 5 i0 (.int .u8 0) 1 1 Try.underlying30 HI.out.1 HI.out.2.1 HI.out.2.2.1 HI.out.2.2.2 rfl (by decide) (.slice ao Q cp) Q (bcells l) rfl (HO.out.1.alloc _) ⟨w.heap.size, 0, none⟩ 1 1 [.int .u8 _] rfl rfl (news1 w _ _) (oneB _) (by decide) HQ1.out.1 HQ1.out.2 (Nat.le_trans HO.out.2.1 (by simp)) _ rfl ?_)
      intro g3 cap3 wc hown hgrow hat hgl
      try rw [hor] at hown
      obtain ⟨z1, z2, z3, z4⟩ := H.out.one HO.out.2.2 hown hgrow
      obtain ⟨w1, hw1⟩ : ∃ w1, wc.setCell ⟨b, 0, none⟩ (.slice (some ⟨g3, 0, none⟩) (Q + 1) cap3) = w1 := ⟨_, rfl⟩
      have H1 : Hid (BW w1 B b (l ++ [X]) (.slice (some ⟨g3, 0, none⟩) (Q + 1) cap3) ∧ Below B w w1) := by rw [← hw1]; exact ⟨z3, z4⟩
      have HPM : Hid (∀ _ : Unit, Calls Try.prog 65 #[.pointer (some ⟨b, 0, none⟩), .int .i64 s.size] w1 fun e w' => e = .returned (.tuple #[]) ∧ (∃ v', BW w' B b (l ++ [X] ++ moreL s.size) v') ∧ Below B w1 w') := fun _ => putMore_ok w1 B b (l ++ [X]) _ H1.out.1 s.size hs (by rw [List.length_append, HO.out.2.2]; simp; omega)
      clear z3 z4 hown hgrow hat hgl hor
      go_wp2_with fail
      try rw [hw1]
      refine (HPM.out ()).mono ?_
      rintro e w2 ⟨rfl, ⟨v2, hb2⟩, hf2⟩
      obtain ⟨K, hK⟩ : ∃ K, l ++ [X] ++ moreL s.size = K := ⟨_, rfl⟩
      rw [hK] at hb2
      obtain ⟨ao2, cp2, hv⟩ := hb2.form
      obtain ⟨Q2, hQ2⟩ : ∃ Q, K.length = Q := ⟨_, rfl⟩
      rw [hQ2] at hv
      subst hv
      obtain ⟨d0, e0⟩ := hb2.cells
      have H2 : Hid (BW w2 B b K (.slice ao2 Q2 cp2) ∧ Below B w w2 ∧ K.length = Q2 ∧ l ++ [X] ++ moreL s.size = K) := ⟨hb2, H1.out.2.trans hf2, hQ2, hK⟩
      have hQ2b : Q2 + s.size ≤ 140737488355328 := by
        have h1 := moreL_length s.size
        have h2 : K.length = l.length + 1 + (moreL s.size).length := by rw [← hK]; simp; omega
        rw [HO.out.2.2] at h2
        omega
      clear hb2 hf2 hQ2 hK hw1 z1 z2
      go_wp2_with (at_builtin; refine Lib.wpList_append_own_string _ rfl _ _ 30 9 rfl B 5 i0 Try.underlying30 Try.underlying9 HI.out.1 HI.out.2.1 HI.out.2.2.1 HI.out.2.2.2 (.slice ao2 Q2 cp2) Q2 (bcells K) rfl (by have := H2.out.1.own; rw [H2.out.2.2.1] at this; exact this) s rfl (by unfold maxLen; omega) (by omega) H2.out.1.size ?_)
      intro v3 w3 hown hgrow _
      rw [strCells_eq, ← bytesOf_length s] at hown
      obtain ⟨y1, y2, ⟨ao3, ln3, cp3, hv3⟩, y3, y4⟩ := H2.out.1.grow (m := bytesOf s) (by rw [H2.out.2.2.1]; exact hown) hgrow
      subst hv3
      have H3 : Hid _ := (⟨y3, y4⟩ : _ ∧ _)
      clear y3 y4 hown hgrow
      go_wp2
      go_end0
      refine ⟨rfl, ⟨.slice ao3 ln3 cp3, ?_⟩, H2.out.2.1.trans H3.out.2⟩
      have e : l ++ headL (bytesOf s) c = K ++ bytesOf s := by
        rw [← H2.out.2.2.2]
        unfold headL
        rw [bytesOf_length, HX.out, List.append_assoc, List.append_assoc, List.append_assoc]
      rw [e]
      exact H3.out.1
    · rw [Nat.min_eq_right (by omega : 15 ≤ c)] at hor
      have c15i : ¬ (c : Int) ≤ 15 := by omega
      replace hor : bits .or .i64 240 15 % 256 = (X : Int) := hor
      clear hX
      go_enter Try.func57, Try.ntmps57
      go_wp2_with (at_builtin; refine wpList_append_lies _ rfl _ _ 30 rfl B 5 i0 (.int .u8 0) 1 1 Try.underlying30 HI.out.1 HI.out.2.1 HI.out.2.2.1 HI.out.2.2.2 rfl (by decide) (.slice ao Q cp) Q (bcells l) rfl (HO.out.1.alloc _) ⟨w.heap.size, 0, none⟩ 1 1 [.int .u8 _] rfl rfl (news1 w _ _) (oneB _) (by decide) HQ1.out.1 HQ1.out.2 (Nat.le_trans HO.out.2.1 (by simp)) _ rfl ?_)
      intro g3 cap3 wc hown hgrow hat hgl
      try rw [hor] at hown
      obtain ⟨z1, z2, z3, z4⟩ := H.out.one HO.out.2.2 hown hgrow
      obtain ⟨w1, hw1⟩ : ∃ w1, wc.setCell ⟨b, 0, none⟩ (.slice (some ⟨g3, 0, none⟩) (Q + 1) cap3) = w1 := ⟨_, rfl⟩
      have H1 : Hid (BW w1 B b (l ++ [X]) (.slice (some ⟨g3, 0, none⟩) (Q + 1) cap3) ∧ Below B w w1) := by rw [← hw1]; exact ⟨z3, z4⟩
      have HPM : Hid (∀ _ : Unit, Calls Try.prog 65 #[.pointer (some ⟨b, 0, none⟩), .int .i64 s.size] w1 fun e w' => e = .returned (.tuple #[]) ∧ (∃ v', BW w' B b (l ++ [X] ++ moreL s.size) v') ∧ Below B w1 w') := fun _ => putMore_ok w1 B b (l ++ [X]) _ H1.out.1 s.size hs (by rw [List.length_append, HO.out.2.2]; simp; omega)
      clear z3 z4 hown hgrow hat hgl hor
      go_wp2_with fail
      try rw [hw1]
      refine (HPM.out ()).mono ?_
      rintro e w2 ⟨rfl, ⟨v2, hb2⟩, hf2⟩
      obtain ⟨K, hK⟩ : ∃ K, l ++ [X] ++ moreL s.size = K := ⟨_, rfl⟩
      rw [hK] at hb2
      obtain ⟨ao2, cp2, hv⟩ := hb2.form
      obtain ⟨Q2, hQ2⟩ : ∃ Q, K.length = Q := ⟨_, rfl⟩
      rw [hQ2] at hv
      subst hv
      obtain ⟨d0, e0⟩ := hb2.cells
      have H2 : Hid (BW w2 B b K (.slice ao2 Q2 cp2) ∧ Below B w w2 ∧ K.length = Q2 ∧ l ++ [X] ++ moreL s.size = K) := ⟨hb2, H1.out.2.trans hf2, hQ2, hK⟩
      have hQ2b : Q2 + s.size ≤ 140737488355328 := by
        have h1 := moreL_length s.size
        have h2 : K.length = l.length + 1 + (moreL s.size).length := by rw [← hK]; simp; omega
        rw [HO.out.2.2] at h2
        omega
      clear hb2 hf2 hQ2 hK hw1 z1 z2
      go_wp2_with (at_builtin; refine Lib.wpList_append_own_string _ rfl _ _ 30 9 rfl B 5 i0 Try.underlying30 Try.underlying9 HI.out.1 HI.out.2.1 HI.out.2.2.1 HI.out.2.2.2 (.slice ao2 Q2 cp2) Q2 (bcells K) rfl (by have := H2.out.1.own; rw [H2.out.2.2.1] at this; exact this) s rfl (by unfold maxLen; omega) (by omega) H2.out.1.size ?_)
      intro v3 w3 hown hgrow _
      rw [strCells_eq, ← bytesOf_length s] at hown
      obtain ⟨y1, y2, ⟨ao3, ln3, cp3, hv3⟩, y3, y4⟩ := H2.out.1.grow (m := bytesOf s) (by rw [H2.out.2.2.1]; exact hown) hgrow
      subst hv3
      have H3 : Hid _ := (⟨y3, y4⟩ : _ ∧ _)
      clear y3 y4 hown hgrow
      go_wp2
      go_end0
      refine ⟨rfl, ⟨.slice ao3 ln3 cp3, ?_⟩, H2.out.2.1.trans H3.out.2⟩
      have e : l ++ headL (bytesOf s) c = K ++ bytesOf s := by
        rw [← H2.out.2.2.2]
        unfold headL
        rw [bytesOf_length, HX.out, List.append_assoc, List.append_assoc, List.append_assoc]
      rw [e]
      exact H3.out.1
end Go.Proofs.Ytbncfpbehahidaa
