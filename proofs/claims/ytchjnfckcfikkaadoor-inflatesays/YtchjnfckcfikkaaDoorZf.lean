/- How long a copy is, and from how far. -/
import Derived.Test.YtchjnfckcfikkaaDoorZe
namespace Go.Proofs.YtchjnfckcfikkaaDoor
open Go.RowKit
set_option linter.unusedVariables false

theorem ustep_le (s : ByteArray) (p y st : Nat) (hy : y < 32) (h2 : 2 ≤ st) (h4 : st ≤ 4) : (ustep s p y st).2.2 ≤ 400000 := by
  unfold ustep
  by_cases hlt : y < st
  · rw [if_pos hlt]; show y ≤ _; omega
  · rw [if_neg hlt]
    have hqb : y / st ≤ 16 := Nat.le_trans (Nat.div_le_div_left h2 (by omega)) (by omega)
    obtain ⟨m, hm⟩ : ∃ m, y / st - 1 = m := ⟨_, rfl⟩
    have hmb : m ≤ 15 := by omega
    have hmd : y % st < st := Nat.mod_lt _ (by omega)
    rw [hm]
    show (st + y % st) * 2 ^ m + (ub s p m).2.2 ≤ 400000
    have hx : (ub s p m).2.2 ≤ 65536 := by
      unfold ub
      split
      · exact Nat.zero_le _
      · exact Nat.le_of_lt (Nat.lt_of_lt_of_le (num_lt s p m) (Nat.pow_le_pow_right (by decide) (show m ≤ 16 by omega)))
    have hP : (st + y % st) * 2 ^ m ≤ 262144 := Nat.le_trans (Nat.mul_le_mul (show st + y % st ≤ 8 by omega) (Nat.pow_le_pow_right (by decide) hmb)) (by decide)
    exact Nat.le_trans (Nat.add_le_add hP hx) (by decide)
def ulen (s : ByteArray) (p y : Nat) : Nat × Nat × Nat :=
  if 285 < y then (40, p, 0) else if y = 285 then (0, p, 258) else ((ustep s p (y - 257) 4).1, (ustep s p (y - 257) 4).2.1, 3 + (ustep s p (y - 257) 4).2.2)
set_option maxRecDepth 20000 in
set_option maxHeartbeats 1000000 in
theorem ulen_ok (w : World) (K : Nat → Prop) (u b : Nat) (s : ByteArray) (p : Nat) (l : List Nat) (most : Nat) (v f1 f2 : Value) (h : US w K u b s p l most v f1 f2) (y : Nat) (hy : 256 < y) (hy2 : y ≤ 288) :
    Calls Tryd.prog 56 #[.pointer (some ⟨u, 0, none⟩), .int .i64 y] w fun e w' => NumEnd K u b s l most v f1 f2 w (ulen s p y) e w' := by
  obtain ⟨r, hr⟩ : ∃ r, ulen s p y = r := ⟨_, rfl⟩
  rw [hr]
  have H : Hid (US w K u b s p l most v f1 f2) := h
  unfold ulen at hr
  by_cases h1 : 285 < y
  · rw [if_pos h1] at hr
    have HE : Hid (r = (40, p, 0)) := hr.symm
    have h1i : ¬ (y : Int) ≤ 285 := by omega
    clear hr h
    go_enter Tryd.func56, Tryd.ntmps56
    go_wp2_with fail
    refine (insist_no w).mono ?_
    rintro e w2 ⟨rfl, hw⟩
    obtain rfl := hw.symm
    go_wp2
    exact ⟨rfl, num_bad (UF.refl _ _) HE.out (by decide)⟩
  · rw [if_neg h1] at hr
    have h1i : (y : Int) ≤ 285 := by omega
    by_cases h2 : y = 285
    · rw [if_pos h2] at hr
      have HE : Hid (r = (0, p, 258)) := hr.symm
      subst h2
      clear hr h
      go_enter Tryd.func56, Tryd.ntmps56
      go_wp2_with fail
      refine (insist_ok w).mono ?_
      rintro e w2 ⟨rfl, hw⟩
      obtain rfl := hw.symm
      go_wp2
      go_ret
      exact num_ok (UF.refl _ _) HE.out H.out
    · rw [if_neg h2] at hr
      have h2i : ¬ (y : Int) = 285 := by omega
      have h2b : ((y : Int) == 285) = false := by simpa using h2i
      obtain ⟨z, hz⟩ : ∃ z, y - 257 = z := ⟨_, rfl⟩
      have hzi : (y : Int) - 256 - 1 = (z : Int) := by omega
      have hz2 : (y : Int) - 257 = (z : Int) := by omega
      rw [hz] at hr
      have hle := ustep_le s p z 4 (by omega) (by omega) (by omega)
      have HU := ustep_ok w K u b s p l most v f1 f2 h z 4 (by omega) (by omega) (by omega)
      obtain ⟨⟨er, p', x⟩, hub⟩ : ∃ r, ustep s p z 4 = r := ⟨_, rfl⟩
      rw [hub] at hr HU hle
      have hle : x ≤ 400000 := hle
      have HR : Hid ((er, p', 3 + x) = r) := hr
      have HU : Hid (∀ _ : Unit, Calls Tryd.prog 68 #[.pointer (some ⟨u, 0, none⟩), .int .i64 z, .int .i64 4] w fun e w' => NumEnd K u b s l most v f1 f2 w (er, p', x) e w') := fun _ => HU
      clear hr h hub hz
      go_enter Tryd.func56, Tryd.ntmps56
      go_wp2_with fail
      refine (insist_ok w).mono ?_
      rintro e w2 ⟨rfl, hw⟩
      obtain rfl := hw.symm
      go_wp2_with fail
      refine (HU.out ()).mono ?_
      rintro e w1 ⟨hf, ⟨hq, rfl⟩ | ⟨h0, rfl, hus⟩⟩
      · have HF : Hid (UF K w w1 ∧ er ≠ 0) := ⟨hf, hq⟩
        clear hf hq HU
        go_wp2
        exact ⟨rfl, num_bad HF.out.1 HR.out.symm HF.out.2⟩
      · have HF : Hid (UF K w w1 ∧ US w1 K u b s p' l most v f1 f2 ∧ er = 0) := ⟨hf, hus, h0⟩
        clear hf hus h0 HU
        go_wp2
        go_ret
        obtain ⟨g1, g2, g3⟩ := HF.out
        refine num_ok (x := 3 + x) g1 ?_ g2
        rw [← HR.out, g3]
def udist (ns : List Nat) (s : ByteArray) (p : Nat) : Nat × Nat × Nat :=
  if (usym ns s p).1 ≠ 0 then usym ns s p else if 29 < (usym ns s p).2.2 then (40, p, 0) else
    ((ustep s (usym ns s p).2.1 (usym ns s p).2.2 2).1, (ustep s (usym ns s p).2.1 (usym ns s p).2.2 2).2.1, 1 + (ustep s (usym ns s p).2.1 (usym ns s p).2.2 2).2.2)
set_option maxRecDepth 20000 in
set_option maxHeartbeats 1000000 in
theorem udist_ok (w : World) (K : Nat → Prop) (u b : Nat) (s : ByteArray) (p : Nat) (l : List Nat) (most : Nat) (v f1 f2 : Value) (h : US w K u b s p l most v f1 f2) (t : Nat) (ns : List Nat) (ht : TabK w K t ns) :
    Calls Tryd.prog 57 #[.pointer (some ⟨u, 0, none⟩), .pointer (some ⟨t, 0, none⟩)] w fun e w' => NumEnd K u b s l most v f1 f2 w (udist ns s p) e w' := by
  obtain ⟨r, hr⟩ : ∃ r, udist ns s p = r := ⟨_, rfl⟩
  rw [hr]
  unfold udist at hr
  have HS := usym_ok w K u b s p l most v f1 f2 h t ns ht
  obtain ⟨⟨er, p1, y⟩, hus⟩ : ∃ r, usym ns s p = r := ⟨_, rfl⟩
  rw [hus] at hr HS
  have HS : Hid (∀ _ : Unit, Calls Tryd.prog 55 #[.pointer (some ⟨u, 0, none⟩), .pointer (some ⟨t, 0, none⟩)] w fun e w' => NumEnd K u b s l most v f1 f2 w (er, p1, y) e w') := fun _ => HS
  have HR : Hid ((if er ≠ 0 then ((er, p1, y) : Nat × Nat × Nat) else if 29 < y then (40, p, 0) else ((ustep s p1 y 2).1, (ustep s p1 y 2).2.1, 1 + (ustep s p1 y 2).2.2)) = r) := hr
  clear hr h ht hus
  go_enter Tryd.func57, Tryd.ntmps57
  go_wp2_with fail
  refine (HS.out ()).mono ?_
  rintro e w1 ⟨hf, ⟨hq, rfl⟩ | ⟨h0, rfl, hu1⟩⟩
  · have HF : Hid (UF K w w1 ∧ er ≠ 0) := ⟨hf, hq⟩
    clear hf hq HS
    go_wp2
    have hr := HR.out
    rw [if_pos HF.out.2] at hr
    exact ⟨rfl, num_bad HF.out.1 hr.symm HF.out.2⟩
  · have hr := HR.out
    have h0 : er = 0 := h0
    rw [if_neg (fun h => h h0)] at hr
    have HF : Hid (UF K w w1 ∧ US w1 K u b s p1 l most v f1 f2) := ⟨hf, hu1⟩
    clear hf h0 HS HR
    by_cases h1 : 29 < y
    · rw [if_pos h1] at hr
      have HE : Hid (r = (40, p, 0)) := hr.symm
      have h1i : decide ((y : Int) ≤ 29) = false := by simp; omega
      clear hr hu1
      go_wp2_with fail
      refine (insist_no w1).mono ?_
      rintro e w2 ⟨rfl, hw⟩
      obtain rfl := hw.symm
      go_wp2
      exact ⟨rfl, num_bad HF.out.1 HE.out (by decide)⟩
    · rw [if_neg h1] at hr
      have h1i : (y : Int) ≤ 29 := by omega
      have hle := ustep_le s p1 y 2 (by omega) (by omega) (by omega)
      have HU := ustep_ok w1 K u b s p1 l most v f1 f2 hu1 y 2 (by omega) (by omega) (by omega)
      obtain ⟨⟨e2, p', x⟩, hub⟩ : ∃ r, ustep s p1 y 2 = r := ⟨_, rfl⟩
      rw [hub] at hr HU hle
      have hle : x ≤ 400000 := hle
      have HR : Hid ((e2, p', 1 + x) = r) := hr
      have HU : Hid (∀ _ : Unit, Calls Tryd.prog 68 #[.pointer (some ⟨u, 0, none⟩), .int .i64 y, .int .i64 2] w1 fun e w' => NumEnd K u b s l most v f1 f2 w1 (e2, p', x) e w') := fun _ => HU
      clear hr hub hu1
      go_wp2_with fail
      refine (insist_ok w1).mono ?_
      rintro e w2 ⟨rfl, hw⟩
      obtain rfl := hw.symm
      go_wp2_with fail
      refine (HU.out ()).mono ?_
      rintro e w3 ⟨hf, ⟨hq, rfl⟩ | ⟨h0, rfl, hus⟩⟩
      · have HF2 : Hid (UF K w w3 ∧ e2 ≠ 0) := ⟨HF.out.1.trans hf, hq⟩
        clear hf hq HU
        go_wp2
        exact ⟨rfl, num_bad HF2.out.1 HR.out.symm HF2.out.2⟩
      · have HF2 : Hid (UF K w w3 ∧ US w3 K u b s p' l most v f1 f2 ∧ e2 = 0) := ⟨HF.out.1.trans hf, hus, h0⟩
        clear hf hus h0 HU
        go_wp2
        go_ret
        obtain ⟨g1, g2, g3⟩ := HF2.out
        refine num_ok (x := 1 + x) g1 ?_ g2
        rw [← HR.out, g3]
end Go.Proofs.YtchjnfckcfikkaaDoor
