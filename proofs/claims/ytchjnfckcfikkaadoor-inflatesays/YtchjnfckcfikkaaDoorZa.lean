/- Giving up: a panic that carries an error, and the deferred closure that catches it. -/
import Derived.Test.YtchjnfckcfikkaaDoorChecked
import Derived.Tactics2
import Derived.WalkKit
import Derived.WalkLawsBesides
import Derived.ProofKit
import Derived.Defers
import Derived.Recover
import Derived.Laws.Pointers
namespace Go.Proofs.YtchjnfckcfikkaaDoor
open Go.RowKit
set_option linter.unusedVariables false

/-- What a panic that gave up with an error carries. -/
def gave (q : Int) : List PanicEntry := [{ v := .iface 68 (.int .i64 q), recovered := false }]
theorem check_ok (w : World) : Calls Tryd.prog 46 #[.int .i64 0] w fun e w' => e = .returned (.tuple #[]) ∧ w' = w := by
  go_enter Tryd.func46, Tryd.ntmps46
  go_wp2
  go_end0
  exact ⟨rfl, rfl⟩
theorem check_no (q : Int) (hq : q ≠ 0) (w : World) : Calls Tryd.prog 46 #[.int .i64 q] w fun e w' => e = .panicked (gave q) ∧ w' = w := by
  have hb : (q != 0) = true := by simpa using hq
  go_enter Tryd.func46, Tryd.ntmps46
  go_wp2
  exact ⟨rfl, rfl, rfl⟩
theorem insist_ok (w : World) : Calls Tryd.prog 52 #[.bool true] w fun e w' => e = .returned (.tuple #[]) ∧ w' = w := by
  go_enter Tryd.func52, Tryd.ntmps52
  go_wp2
  go_end0
  exact ⟨rfl, rfl⟩
theorem insist_no (w : World) : Calls Tryd.prog 52 #[.bool false] w fun e w' => e = .panicked (gave 40) ∧ w' = w := by
  go_enter Tryd.func52, Tryd.ntmps52
  go_wp2_with fail
  refine (check_no 40 (by decide) w).mono ?_
  rintro e w1 ⟨rfl, hw⟩
  obtain rfl := hw.symm
  go_wp2
  exact ⟨rfl, rfl, rfl⟩
theorem assert_gave (v : Value) (w : World) : (Instr.typeAssert (.iface 68 v) 20 68 true).run Tryd.prog w = .ok (.tuple #[v, .bool true]) w := by
  have hu : Tryd.prog.underlying 68 = some (.int .i64) := Tryd.underlying68
  simp [Instr.typeAssert, run_underlying hu]
set_option maxRecDepth 20000 in
theorem catch_gave (p : Addr) (x q : Int) (older : List PanicEntry) (w : World) (hc : w.cell? p = some (.int .i64 x)) (hz : w.frozen? p = false) :
    CallsD Tryd.prog 30 #[.pointer (some p)] (.panicking ({ v := .iface 68 (.int .i64 q), recovered := false } :: older)) w fun e u' w' =>
      e = .returned (.tuple #[]) ∧ u' = .panicking ({ v := .iface 68 (.int .i64 q), recovered := true } :: older) ∧ w' = w.setCell p (.int .i64 q) := by
  have has := assert_gave (.int .i64 q)
  refine callsD_of_wpS Tryd.func30 rfl fun c₀ cs hu => ?_
  apply wpS_seq
  apply wpS_region
  simp [wpOpsS, go_sem, recoverD, hu, Tryd.ntmps30, Exit.thenS]
  refine wpS_of_wp ?_
  have e : ∀ v : Value, (#[Value.pointer (some p)] ++ (Array.replicate 10 undef).setIfInBounds 3 v) = #[.pointer (some p), undef, undef, undef, v, undef, undef, undef, undef, undef, undef] := fun v => rfl
  rw [e]
  clear e
  go_wp2
  simp [bodyPostS, results, Tryd.results30]
set_option maxRecDepth 20000 in
theorem catch_idle (p : Addr) (w : World) :
    CallsD Tryd.prog 30 #[.pointer (some p)] .returning w fun e u' w' => e = .returned (.tuple #[]) ∧ u' = .returning ∧ w' = w := by
  refine callsD_of_wpS Tryd.func30 rfl fun c₀ cs hu => ?_
  apply wpS_seq
  apply wpS_region
  simp [wpOpsS, go_sem, recoverD, hu, Tryd.ntmps30, Exit.thenS]
  refine wpS_of_wp ?_
  have e : ∀ v : Value, (#[Value.pointer (some p)] ++ (Array.replicate 10 undef).setIfInBounds 3 v) = #[.pointer (some p), undef, undef, undef, v, undef, undef, undef, undef, undef, undef] := fun v => rfl
  rw [e]
  clear e
  go_wp2
  cases c₀
  simp_all [bodyPostS, results, Tryd.results30]
/-- The blocks, one behind the other, over what is known of one: it is the last (D), or another one comes and less is left (I, m), or reading was given up (G). -/
theorem blocks_ok (I : World → Prop) (m : World → Nat) (D : World → Prop) (G : Int → World → Prop) (u : Nat) (w : World) (h0 : I (w.alloc (.cells #[.int .i64 0] 23)))
    (hb : ∀ W, I W → Calls Tryd.prog 31 #[.pointer (some ⟨u, 0, none⟩)] W fun e w' => (∃ l : Bool, e = .returned (.bool l) ∧ ((l = true ∧ D w') ∨ (l = false ∧ m w' < m W ∧ I w'))) ∨ (∃ q, e = .panicked (gave q) ∧ G q w'))
    (hcD : ∀ W, D W → W.cell? ⟨w.heap.size, 0, none⟩ = some (.int .i64 0) ∧ W.frozen? ⟨w.heap.size, 0, none⟩ = false) (hcG : ∀ q W, G q W → W.cell? ⟨w.heap.size, 0, none⟩ = some (.int .i64 0) ∧ W.frozen? ⟨w.heap.size, 0, none⟩ = false) :
    Calls Tryd.prog 19 #[.pointer (some ⟨u, 0, none⟩)] w fun e w' => ∃ q W, e = .returned (.int .i64 q) ∧ w' = W.setCell ⟨w.heap.size, 0, none⟩ (.int .i64 q) ∧ ((q = 0 ∧ D W) ∨ G q W) := by
  have hmf : ∀ (fn : Fn) (first cap : Array Value) (w : World), (Instr.makeFunc fn first cap).run Tryd.prog w = .ok (.func fn first cap) w := fun _ _ _ _ => rfl
  have HB : Hid _ := hb
  have HCD : Hid _ := hcD
  have HCG : Hid _ := hcG
  have H0 : Hid (I (w.alloc (.cells #[.int .i64 0] 23))) := h0
  clear hb hcD hcG h0
  go_enter_defers Tryd.func19, Tryd.ntmps19
  go_wp2
  go_loopw [4, 5, 6] (fun _ _ _ wr => Hid (I wr)) (fun _ _ _ wr => m wr)
  case atStart => exact H0
  case round =>
    have HI := hrel
    clear hrel
    go_wp2_with fail
    refine (HB.out wr HI.out).mono ?_
    rintro e w1 (⟨l, rfl, ⟨rfl, hD⟩ | ⟨rfl, hm, hI⟩⟩ | ⟨q, rfl, hG⟩)
    · obtain ⟨hc, hz⟩ := HCD.out w1 hD
      have HD : Hid (D w1) := hD
      clear hD
      go_wp2
      refine leaves_cons (f := 30) (args := #[.pointer (some ⟨w.heap.size, 0, none⟩)]) (by simp) (by simp [go_sem]) ?_
      refine (catch_idle ⟨w.heap.size, 0, none⟩ _).mono ?_
      rintro e u' w'' ⟨rfl, rfl, rfl⟩
      have hd := HD.out
      have hs : (w1.setCell ⟨w.heap.size, 0, none⟩ (.int .i64 0)).cell? ⟨w.heap.size, 0, none⟩ = some (.int .i64 0) := World.cell?_setCell_same _ _ _ hc
      simp [Leaves, settle, results, Tryd.results19, go_sem]
      rw [hs]
      exact ⟨_, rfl, 0, rfl, w1, rfl, .inl ⟨rfl, hd⟩⟩
    · have HI2 : Hid (I w1) := hI
      clear hI
      go_wp2
      exact ⟨HI2, hm⟩
    · obtain ⟨hc, hz⟩ := HCG.out q w1 hG
      have HG : Hid (G q w1) := hG
      clear hG
      go_wp2
      refine leaves_cons (f := 30) (args := #[.pointer (some ⟨w.heap.size, 0, none⟩)]) (by simp) (by simp [go_sem]) ?_
      refine (catch_gave ⟨w.heap.size, 0, none⟩ 0 q [] _ hc hz).mono ?_
      rintro e u' w'' ⟨rfl, rfl, rfl⟩
      have hg := HG.out
      have hs : (w1.setCell ⟨w.heap.size, 0, none⟩ (.int .i64 q)).cell? ⟨w.heap.size, 0, none⟩ = some (.int .i64 q) := World.cell?_setCell_same _ _ _ hc
      simp [Leaves, settle, results, Tryd.results19, go_sem]
      rw [hs]
      exact ⟨_, rfl, q, rfl, w1, rfl, .inr hg⟩
end Go.Proofs.YtchjnfckcfikkaaDoor
