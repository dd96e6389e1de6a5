/- The document's text. -/
import Derived.Test.YtalpbnkmppdgdaaV10
import Derived.Deep.CutRange
namespace Go.Proofs.Ytalpbnkmppdgdaa
open Go.RowKit
set_option linter.unusedVariables false

/-- A text whose length is told, less so much, at a place: it and the place behind. -/
noncomputable def txtR (S : List UInt8) (at_ less : Nat) : Option (List UInt8 × Nat) := match varD (mk (S.drop at_)) with
  | none => none
  | some (x, n) => if less ≤ x ∧ x - less ≤ (S.drop at_).length - n then some (((S.drop at_).drop n).take (x - less), at_ + n + (x - less)) else none
/-- The document's Var by varD. -/
theorem rvar_ok (s : ByteArray) (hsz : s.size ≤ 9223372036854775807) (w : World) : Calls Try.prog 30 #[.string s] w fun e w' => VarEnd s e ∧ w' = w := by
  obtain ⟨r, h1, _, h2⟩ := var_ways s hsz
  refine (h2 w).mono ?_
  rintro e w' ⟨rfl, hw⟩
  exact ⟨h1, hw⟩
theorem ret_txt {a b : ByteArray} {x y : Int} (h1 : a = b) (h2 : x = y) : Ending.returned (.tuple #[.string a, .int .i64 x]) = .returned (.tuple #[.string b, .int .i64 y]) := by rw [h1, h2]
set_option maxHeartbeats 1000000 in
theorem rtext_ok (S : List UInt8) (at_ less : Nat) (w : World) (hS : S.length ≤ 140737488355328) (hat : at_ ≤ S.length) (hl : less ≤ 1) :
    Calls Try.prog 47 #[.string (mk S), .int .i64 (at_ : Nat), .int .i64 (less : Nat)] w fun e w' => ((∃ p q, txtR S at_ less = some (p, q) ∧ e = .returned (.tuple #[.string (mk p), .int .i64 (q : Nat)])) ∨ (txtR S at_ less = none ∧ e = .returned (.tuple #[.string ⟨#[]⟩, .int .i64 (-1)]))) ∧ Below w.heap.size w w' := by
  have hms := mk_size S
  have hex : (mk S).extract at_ (mk S).size = mk (S.drop at_) := extract_drop S at_
  have hdl : (S.drop at_).length = S.length - at_ := List.length_drop
  have HVR : Hid (∀ W, Calls Try.prog 30 #[.string ((mk S).extract at_ (mk S).size)] W fun e w' => VarEnd (mk (S.drop at_)) e ∧ w' = W) := fun W => by rw [hex]; exact rvar_ok _ (by rw [mk_size]; omega) W
  obtain ⟨res, hres⟩ : ∃ res, txtR S at_ less = res := ⟨_, rfl⟩
  rw [hres]
  unfold txtR at hres
  rw [hdl] at hres
  obtain ⟨sz, hsz⟩ : ∃ sz, (mk S).size = sz := ⟨_, rfl⟩
  rw [hsz] at HVR hms
  have hS2 : S.length = sz := by omega
  rw [hS2] at hres hat hS
  cases hv : varD (mk (S.drop at_)) with
  | none =>
    rw [hv] at hres
    have HE : Hid (res = none) := hres.symm
    have HV2 : Hid (∀ e, VarEnd (mk (S.drop at_)) e → e = .returned (.tuple #[.int .i64 0, .int .i64 0, .int .i64 10]) ∨ e = .returned (.tuple #[.int .i64 0, .int .i64 0, .int .i64 5])) := fun e h => by
      rcases h with ⟨x, n, h1, _⟩ | ⟨_, h2⟩
      · rw [hv] at h1; cases h1
      · exact h2
    clear hres hv hex hdl hms hS2
    go_enter Try.func47, Try.ntmps47
    go_wp2_with fail
    refine (HVR.out _).mono ?_
    rintro e w1 ⟨hve, hw⟩
    obtain rfl := hw.symm
    rcases HV2.out e hve with rfl | rfl
    all_goals
      clear hve
      go_wp2
      go_ret2
      exact ⟨.inr ⟨HE.out, rfl⟩, Below.refl _ _⟩
  | some p =>
    obtain ⟨x, n⟩ := p
    rw [hv] at hres
    have hvl := varD_le hv
    rw [mk_size, hdl, hS2] at hvl
    obtain ⟨hx, hn1, hn9, hns⟩ := hvl
    have HV2 : Hid (∀ e, VarEnd (mk (S.drop at_)) e → e = .returned (.tuple #[.int .i64 (x : Nat), .int .i64 (n : Nat), .int .i64 0])) := fun e h => by
      rcases h with ⟨x', n', h1, h2⟩ | ⟨h1, _⟩
      · rw [hv] at h1; cases h1; exact h2
      · rw [hv] at h1; cases h1
    simp only at hres
    by_cases hok : less ≤ x ∧ x - less ≤ sz - at_ - n
    · rw [if_pos hok] at hres
      obtain ⟨hk1, hk2⟩ := hok
      obtain ⟨m, hm⟩ : ∃ m, x = m + less := ⟨x - less, by omega⟩
      subst hm
      rw [Nat.add_sub_cancel] at hres hk2
      have HE : Hid (some (((S.drop at_).drop n).take m, at_ + n + m) = res) := hres
      have hex2 : (mk S).extract (at_ + n) (at_ + n + m) = mk (((S.drop at_).drop n).take m) := by
        apply ByteArray.ext
        rw [ByteArray.data_extract]
        show S.toArray.extract (at_ + n) (at_ + n + m) = (((S.drop at_).drop n).take m).toArray
        simp [List.drop_drop]
      have HX : Hid ((mk S).extract (at_ + n) (at_ + n + m) = mk (((S.drop at_).drop n).take m)) := hex2
      have hmz : m ≤ sz := by omega
      have hami : at_ + n + m ≤ sz := by omega
      clear hres hv hex hdl hms hS2 hex2 hk1
      go_enter Try.func47, Try.ntmps47
      go_wp2_with fail
      refine (HVR.out _).mono ?_
      rintro e w1 ⟨hve, hw⟩
      obtain rfl := hw.symm
      obtain rfl := HV2.out e hve
      clear hve
      go_wp2
      go_ret2
      refine ⟨.inl ⟨_, at_ + n + m, HE.out.symm, ret_txt ?_ ?_⟩, Below.refl _ _⟩
      · rw [← HX.out]
        congr 1
        omega
      · push_cast
        omega
    · rw [if_neg hok] at hres
      have HE : Hid (res = none) := hres.symm
      have hno : (x : Int) < less ∨ ((sz : Int) - at_ - n < (x : Int) - less) := by omega
      clear hres hv hex hdl hms hS2 hok
      go_enter Try.func47, Try.ntmps47
      go_wp2_with fail
      refine (HVR.out _).mono ?_
      rintro e w1 ⟨hve, hw⟩
      obtain rfl := hw.symm
      obtain rfl := HV2.out e hve
      clear hve
      by_cases hlx : (x : Int) < less
      · clear hno
        go_wp2
        go_ret2
        exact ⟨.inr ⟨HE.out, rfl⟩, Below.refl _ _⟩
      · have hno2 : (sz : Int) - at_ - n < (x : Int) - less := hno.resolve_left hlx
        clear hno
        go_wp2
        go_ret2
        exact ⟨.inr ⟨HE.out, rfl⟩, Below.refl _ _⟩
end Go.Proofs.Ytalpbnkmppdgdaa
