/- Layer 18: AuditAcks walked. -/
import Derived.Test.YtbjlnbcnjknheaaUq
import Derived.Test.YtbjlnbcnjknheaaUg
namespace Go.Proofs.Ytbjlnbcnjknheaa
open Go.RowKit Go.Maps
set_option linter.unusedVariables false
set_option maxRecDepth 20000

set_option maxHeartbeats 2000000 in
theorem auditAcks_walk (a : Option Addr) (cap : Nat) (L : List Ak) (w : World) (hin : AIn w a L) (hok : AOk L) (hlen : L.length ≤ 140737488355328) :
    Calls Try.prog 3 #[.slice a L.length cap] w fun e w' => e = .returned (.bool true) ∧ Below w.heap.size w w' := by
  have H1 : Hid (Calls Try.prog 7 #[.slice a L.length cap] w fun e w' => e = .returned (resA (fbad [] L)) ∧ Below w.heap.size w w') := acks_ok a cap L w hin hok hlen
  have H2 : Hid (∀ W, Below w.heap.size w W → Calls Try.prog 8 #[.slice a L.length cap] W fun e w' => e = .returned (resA (fbad [] L)) ∧ Below W.heap.size W w') := fun W hW => racks_ok a cap L W (hin.below hW (Nat.le_refl _)) hlen
  have H3 : Hid (∀ W, Calls Try.prog 9 #[] W fun e w' => e = .returned (.bool true) ∧ Below W.heap.size W w') := awake18
  obtain ⟨e, i, hr⟩ : ∃ e i : Int, resA (fbad [] L) = .tuple #[.int .i64 e, .int .i64 i] := by
    cases fbad [] L with
    | none => exact ⟨_, _, rfl⟩
    | some i => exact ⟨_, _, rfl⟩
  rw [hr] at H1 H2
  obtain ⟨len, hl⟩ : ∃ len, L.length = len := ⟨_, rfl⟩
  rw [hl] at H1 H2 ⊢
  clear hin hok hlen hr hl
  go_enter Try.func3, Try.ntmps3
  go_wp2_with fail
  refine H1.out.mono ?_
  rintro e1 w1 ⟨rfl, hb1⟩
  have HB1 : Hid (Below w.heap.size w w1) := hb1
  clear hb1
  go_wp2_with fail
  refine (H2.out _ HB1.out).mono ?_
  rintro e1 w2 ⟨rfl, hb2⟩
  have HB2 : Hid (Below w.heap.size w w2) := HB1.out.trans (hb2.mono HB1.out.size)
  clear hb2
  go_wp2_with fail
  refine (H3.out _).mono ?_
  rintro e1 w3 ⟨rfl, hb3⟩
  have HB3 : Hid (Below w.heap.size w w3) := HB2.out.trans (hb3.mono HB2.out.size)
  clear hb3
  go_wp2_with fail
  go_ret
  exact ⟨rfl, HB3.out⟩
end Go.Proofs.Ytbjlnbcnjknheaa
