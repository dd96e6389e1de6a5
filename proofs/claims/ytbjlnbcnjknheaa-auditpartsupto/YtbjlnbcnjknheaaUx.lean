/- Layer 18: AuditFetches walked. -/
import Derived.Test.YtbjlnbcnjknheaaUq
import Derived.Test.YtbjlnbcnjknheaaUp
import Derived.Test.YtbjlnbcnjknheaaUw
namespace Go.Proofs.Ytbjlnbcnjknheaa
open Go.RowKit Go.Maps
set_option linter.unusedVariables false
set_option maxRecDepth 20000

theorem resF_form (r : Option (Nat × Nat)) : ∃ e i : Int, resF r = .tuple #[.int .i64 e, .int .i64 i] := by
  cases r with
  | none => exact ⟨_, _, rfl⟩
  | some p => exact ⟨_, _, rfl⟩
set_option maxHeartbeats 2000000 in
theorem auditFetches_walk (a : Option Addr) (cap : Nat) (L : List Fe) (b : Option Addr) (capS : Nat) (S : List Sd) (w : World) (hin : FIn w a L) (hsin : SIn w b S) (hok : FOk L) (hsok : SOk S) (hlen : L.length ≤ 1048576) (hlenS : S.length ≤ 1048576) (hsum : fsum L ≤ 4611686018427387904) (hsumS : ssum S ≤ 4611686018427387904) :
    Calls Try.prog 4 #[.slice a L.length cap, .slice b S.length capS] w fun e w' => e = .returned (.bool true) ∧ Below w.heap.size w w' := by
  have H0 : Hid (Calls Try.prog 11 #[.slice b S.length capS] w fun e w' => ∃ v, e = .returned v ∧ WS w w' v S) := words_ok b capS S w hsin hlenS
  have H1 : Hid (∀ W v c, Below w.heap.size w W → SIn W v S → Calls Try.prog 10 #[.slice a L.length cap, .slice v S.length c] W fun e w' => e = .returned (resF (ffbad (zeros S) [] L)) ∧ Below W.heap.size W w') := fun W v c hW hv => fetches_ok a cap L v c S W (hin.below hW (Nat.le_refl _)) hv hok hsok (by omega) (by omega) hsum hsumS
  have H2 : Hid (∀ W, Below w.heap.size w W → Calls Try.prog 12 #[.slice a L.length cap, .slice b S.length capS] W fun e w' => e = .returned (resF (ffbad (zeros S) [] L)) ∧ Below W.heap.size W w') := fun W hW => rfetches_ok a cap L b capS S W (hin.below hW (Nat.le_refl _)) (hsin.below hW (Nat.le_refl _)) hok hsok (by omega) (by omega)
  have H3 : Hid (∀ W, Calls Try.prog 9 #[] W fun e w' => e = .returned (.bool true) ∧ Below W.heap.size W w') := awake18
  obtain ⟨e, i, hr⟩ := resF_form (ffbad (zeros S) [] L)
  rw [hr] at H1 H2
  obtain ⟨len, hl⟩ : ∃ len, L.length = len := ⟨_, rfl⟩
  obtain ⟨ls, hls⟩ : ∃ ls, S.length = ls := ⟨_, rfl⟩
  have HLS : Hid (S.length = ls) := hls
  rw [hl] at H1 H2 ⊢
  rw [hls] at H0 H1 H2 ⊢
  clear hin hok hlen hr hl hsin hsok hlenS hsum hsumS hls
  go_enter Try.func4, Try.ntmps4
  go_wp2_with fail
  refine H0.out.mono ?_
  rintro e1 w1 ⟨v, rfl, hW⟩
  obtain ⟨va, vc, rfl⟩ := hW.form
  have HB1 : Hid (Below w.heap.size w w1 ∧ SIn w1 va S) := ⟨hW.bel, hW.sin⟩
  rw [HLS.out]
  clear hW
  go_wp2_with fail
  refine (H1.out _ _ _ HB1.out.1 HB1.out.2).mono ?_
  rintro e1 w2 ⟨rfl, hb2⟩
  have HB2 : Hid (Below w.heap.size w w2) := HB1.out.1.trans (hb2.mono HB1.out.1.size)
  clear hb2
  go_wp2_with fail
  refine (H2.out _ HB2.out).mono ?_
  rintro e1 w3 ⟨rfl, hb3⟩
  have HB3 : Hid (Below w.heap.size w w3) := HB2.out.trans (hb3.mono HB2.out.size)
  clear hb3
  go_wp2_with fail
  refine (H3.out _).mono ?_
  rintro e1 w4 ⟨rfl, hb4⟩
  have HB4 : Hid (Below w.heap.size w w4) := HB3.out.trans (hb4.mono HB3.out.size)
  clear hb4
  go_wp2_with fail
  go_ret
  exact ⟨rfl, HB4.out⟩
end Go.Proofs.Ytbjlnbcnjknheaa
