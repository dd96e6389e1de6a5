/- Layer 18: the insertion sort of a row that rises. -/
import Derived.Test.YtebfpffilepfaaaKa
import Derived.Deep.RegionHeldLaw
import Derived.Shelf.Abstract
import Derived.Great.Walk
namespace Go.Proofs.Ytebfpffilepfaaa
open Go.RowKit Go.Maps Go.Shelf
set_option linter.unusedVariables false
set_option maxRecDepth 20000

abbrev cmpF : Value := .func (.func 20) #[] #[]
theorem DIn.two {w : World} {a : Option Addr} {L : List Due} (h : DIn w a L) {i j : Nat} {x y : Due} (hx : L[i]? = some x) (hy : L[j]? = some y) : ∃ b off, a = some ⟨b, off, none⟩ ∧ (w.cell? ⟨b, off + i * 5, none⟩ = some (.int .i64 x.rec'.off) ∧ w.cell? ⟨b, off + i * 5 + 1, none⟩ = some (.string x.rec'.key) ∧ w.cell? ⟨b, off + i * 5 + 2, none⟩ = some (.string x.rec'.val) ∧ w.cell? ⟨b, off + i * 5 + 3, none⟩ = some (.bool x.rec'.gone) ∧ w.cell? ⟨b, off + i * 5 + 4, none⟩ = some (.int .i64 x.step)) ∧ w.cell? ⟨b, off + j * 5, none⟩ = some (.int .i64 y.rec'.off) ∧ w.cell? ⟨b, off + j * 5 + 1, none⟩ = some (.string y.rec'.key) ∧ w.cell? ⟨b, off + j * 5 + 2, none⟩ = some (.string y.rec'.val) ∧ w.cell? ⟨b, off + j * 5 + 3, none⟩ = some (.bool y.rec'.gone) ∧ w.cell? ⟨b, off + j * 5 + 4, none⟩ = some (.int .i64 y.step) := by
  obtain ⟨b, off, rfl, _, h1, h2, h3, h4, h5⟩ := h i x hx
  obtain ⟨b', off', e, _, g1, g2, g3, g4, g5⟩ := h j y hy
  cases e
  exact ⟨b, off, rfl, ⟨h1, h2, h3, h4, h5⟩, g1, g2, g3, g4, g5⟩
set_option maxHeartbeats 4000000 in
theorem ins_ok (a : Option Addr) (cap : Nat) (L : List Due) (lo hi : Nat) (w : World) (hin : DIn w a L) (hup : DUp L) (hhi : hi ≤ L.length) (hlen : L.length ≤ 4611686018427387904) (hlo : lo ≤ L.length) :
    Calls Try.prog 31 #[.slice a L.length cap, .int .i64 (lo : Nat), .int .i64 (hi : Nat), cmpF] w fun e w' => e = .returned (.tuple #[]) ∧ Below w.heap.size w w' := by
  have eg : ∀ args w, (callFunc 20 args).run Try.prog w = .ok (.enter 20 args) w := enters_of Try.func20 (by kernel_rfl) rfl
  have HIN : Hid (DIn w a L) := hin
  have HUP : Hid (DUp L) := hup
  obtain ⟨len, hl⟩ : ∃ len, L.length = len := ⟨_, rfl⟩
  have HL : Hid (L.length = len) := hl
  rw [hl] at hlen hhi hlo ⊢
  clear hin hup hl
  go_enter Try.func31, Try.ntmps31
  go_wp2_with fail
  go_loopw [8] (fun i wr => ∃ I : Nat, i = .int .i64 (I : Nat) ∧ lo + 1 ≤ I ∧ I ≤ len + 1 ∧ Below w.heap.size w wr) (fun i _ => len + 1 - (intOf i).toNat)
  case atStart => exact ⟨lo + 1, by go_num, by omega, by omega, Below.refl _ _⟩
  case round =>
    obtain ⟨I, rfl, hI, hI2, hB⟩ := hrel
    have HB : Hid (Below w.heap.size w wr) := hB
    have hwr : w.heap.size ≤ wr.heap.size := hB.size
    clear hB
    by_cases hlt : I < hi
    · have hlti : (I : Int) < (hi : Int) := by omega
      go_wp2_with fail
      go_loopw [9] (fun j wr => j = .int .i64 (I : Nat) ∧ Below w.heap.size w wr) (fun j _ => 0)
      case atStart => exact ⟨rfl, HB.out⟩
      case round =>
        obtain ⟨rfl, hB⟩ := hrel
        have HB : Hid (Below w.heap.size w wr) := hB
        have hwr : w.heap.size ≤ wr.heap.size := hB.size
        clear hB
        obtain ⟨J, hJ⟩ : ∃ J, I = J + 1 := ⟨I - 1, by omega⟩
        have hx : L[I]? = some (L[I]'(by have := HL.out; omega)) := List.getElem?_eq_getElem _
        have hy : L[J]? = some (L[J]'(by have := HL.out; omega)) := List.getElem?_eq_getElem _
        generalize (L[I]'(by have := HL.out; omega)) = x at hx
        generalize (L[J]'(by have := HL.out; omega)) = y at hy
        have hxy : y.off < x.off := HUP.out.lt hy hx (by omega)
        obtain ⟨b, off, rfl, ⟨x0, x1, x2, x3, x4⟩, y0, y1, y2, y3, y4⟩ := (HIN.out.bel HB.out).two hx hy
        have HC : Hid (∀ W, Calls Try.prog 20 #[.agg #[.int .i64 x.rec'.off, .string x.rec'.key, .string x.rec'.val, .bool x.rec'.gone, .int .i64 x.step], .agg #[.int .i64 y.rec'.off, .string y.rec'.key, .string y.rec'.val, .bool y.rec'.gone, .int .i64 y.step]] W fun e w' => e = .returned (.int .i64 1) ∧ Below W.heap.size W w') := fun W => by
          have := dcmp_ok x y W
          rw [show cmpV x.off y.off = 1 by unfold cmpV; rw [if_neg (by omega), if_pos hxy]] at this
          exact this
        have hwn : IntKind.i64.wrap ((I : Nat) - 1 : Int) = (J : Int) := by rw [IntKind.wrap_i64]; omega
        have hjl : J < len := by omega
        have hil : I < len := by omega
        have hgt : decide (lo < I) = true := decide_eq_true (by omega)
        clear hx hy hxy hJ
        go_upto_region 4 with fail
        refine wp_region_held_drew (S := fun w' => w'.cell? ⟨b, off + I * 5, none⟩ = some (.int .i64 x.rec'.off) ∧ w'.cell? ⟨b, off + I * 5 + 1, none⟩ = some (.string x.rec'.key) ∧ w'.cell? ⟨b, off + I * 5 + 2, none⟩ = some (.string x.rec'.val) ∧ w'.cell? ⟨b, off + I * 5 + 3, none⟩ = some (.bool x.rec'.gone) ∧ w'.cell? ⟨b, off + I * 5 + 4, none⟩ = some (.int .i64 x.step) ∧ w'.cell? ⟨b, off + J * 5, none⟩ = some (.int .i64 y.rec'.off) ∧ w'.cell? ⟨b, off + J * 5 + 1, none⟩ = some (.string y.rec'.key) ∧ w'.cell? ⟨b, off + J * 5 + 2, none⟩ = some (.string y.rec'.val) ∧ w'.cell? ⟨b, off + J * 5 + 3, none⟩ = some (.bool y.rec'.gone) ∧ w'.cell? ⟨b, off + J * 5 + 4, none⟩ = some (.int .i64 y.step)) (by kernel_rfl) ⟨x0, x1, x2, x3, x4, y0, y1, y2, y3, y4⟩ (fun hHeld => ?_)
        refine wpAnyH_take (i := 0) (v := ?v0in) rfl (by kernel_rfl) (by kernel_rfl) (by kernel_rfl) (fun _ _ _ h => h) (Or.inl ⟨by rfl, fun w hSw => ?hy0in⟩) hHeld ?rest0in
        case hy0in =>
          try dsimp only at hSw
          go_simp
          try with_reducible rfl
        simp only [Act.put, List.setIfInBounds_toArray, List.set_cons_zero, List.set_cons_succ, List.getElem_toArray, List.getElem_cons_zero]
        refine wpAnyH_take (i := 1) (v := ?v1in) rfl (by kernel_rfl) (by kernel_rfl) (by kernel_rfl) (fun _ _ _ h => h) (Or.inl ⟨by rfl, fun w hSw => ?hy1in⟩) hHeld ?rest1in
        case hy1in =>
          try dsimp only at hSw
          go_simp
          try with_reducible rfl
        simp only [Act.put, List.setIfInBounds_toArray, List.set_cons_zero, List.set_cons_succ, List.getElem_toArray, List.getElem_cons_zero, List.getElem_cons_succ]
        refine wpAnyH_take (i := 2) (v := ?v2in) rfl (by kernel_rfl) (by kernel_rfl) (by kernel_rfl) (fun _ _ _ h => h) (Or.inl ⟨by rfl, fun w hSw => ?hy2in⟩) hHeld ?rest2in
        case hy2in =>
          try dsimp only at hSw
          go_simp
          try with_reducible rfl
        simp only [Act.put, List.setIfInBounds_toArray, List.set_cons_zero, List.set_cons_succ, List.getElem_toArray, List.getElem_cons_zero, List.getElem_cons_succ]
        refine wpAnyH_take (i := 3) (v := ?v3in) rfl (by kernel_rfl) (by kernel_rfl) (by kernel_rfl) (fun _ _ _ h => h) (Or.inl ⟨by rfl, fun w hSw => ?hy3in⟩) hHeld ?rest3in
        case hy3in =>
          try dsimp only at hSw
          go_simp
          try with_reducible rfl
        simp only [Act.put, List.setIfInBounds_toArray, List.set_cons_zero, List.set_cons_succ, List.getElem_toArray, List.getElem_cons_zero, List.getElem_cons_succ]
        refine wpAnyH_take (i := 4) (v := ?v4in) rfl (by kernel_rfl) (by kernel_rfl) (by kernel_rfl) (fun _ _ _ h => h) (Or.inl ⟨by rfl, fun w hSw => ?hy4in⟩) hHeld ?rest4in
        case hy4in =>
          try dsimp only at hSw
          go_simp
          try with_reducible rfl
        simp only [Act.put, List.setIfInBounds_toArray, List.set_cons_zero, List.set_cons_succ, List.getElem_toArray, List.getElem_cons_zero, List.getElem_cons_succ]
        refine wpAnyH_take (i := 5) (v := ?v5in) rfl (by kernel_rfl) (by kernel_rfl) (by kernel_rfl) (fun _ _ _ h => h) (Or.inl ⟨by rfl, fun w hSw => ?hy5in⟩) hHeld ?rest5in
        case hy5in =>
          try dsimp only at hSw
          go_simp
          try with_reducible rfl
        simp only [Act.put, List.setIfInBounds_toArray, List.set_cons_zero, List.set_cons_succ, List.getElem_toArray, List.getElem_cons_zero, List.getElem_cons_succ]
        refine wpAnyH_take (i := 6) (v := ?v6in) rfl (by kernel_rfl) (by kernel_rfl) (by kernel_rfl) (fun _ _ _ h => h) (Or.inl ⟨by rfl, fun w hSw => ?hy6in⟩) hHeld ?rest6in
        case hy6in =>
          try dsimp only at hSw
          go_simp
          try with_reducible rfl
        simp only [Act.put, List.setIfInBounds_toArray, List.set_cons_zero, List.set_cons_succ, List.getElem_toArray, List.getElem_cons_zero, List.getElem_cons_succ]
        refine wpAnyH_take (i := 7) (v := ?v7in) rfl (by kernel_rfl) (by kernel_rfl) (by kernel_rfl) (fun _ _ _ h => h) (Or.inl ⟨by rfl, fun w hSw => ?hy7in⟩) hHeld ?rest7in
        case hy7in =>
          try dsimp only at hSw
          go_simp
          try with_reducible rfl
        simp only [Act.put, List.setIfInBounds_toArray, List.set_cons_zero, List.set_cons_succ, List.getElem_toArray, List.getElem_cons_zero, List.getElem_cons_succ]
        refine wpAnyH_take (i := 8) (v := ?v8in) rfl (by kernel_rfl) (by kernel_rfl) (by kernel_rfl) (fun _ _ _ h => h) (Or.inl ⟨by rfl, fun w hSw => ?hy8in⟩) hHeld ?rest8in
        case hy8in =>
          try dsimp only at hSw
          go_simp
          try with_reducible rfl
        simp only [Act.put, List.setIfInBounds_toArray, List.set_cons_zero, List.set_cons_succ, List.getElem_toArray, List.getElem_cons_zero, List.getElem_cons_succ]
        refine wpAnyH_take (i := 9) (v := ?v9in) rfl (by kernel_rfl) (by kernel_rfl) (by kernel_rfl) (fun _ _ _ h => h) (Or.inl ⟨by rfl, fun w hSw => ?hy9in⟩) hHeld ?rest9in
        case hy9in =>
          try dsimp only at hSw
          go_simp
          try with_reducible rfl
        simp only [Act.put, List.setIfInBounds_toArray, List.set_cons_zero, List.set_cons_succ, List.getElem_toArray, List.getElem_cons_zero, List.getElem_cons_succ]
        refine wpAnyH_take (i := 10) (v := ?v10in) rfl (by kernel_rfl) (by kernel_rfl) (by kernel_rfl) (fun _ _ _ h => h) (Or.inl ⟨by rfl, fun w hSw => ?hy10in⟩) hHeld ?rest10in
        case hy10in =>
          try dsimp only at hSw
          go_simp
          try with_reducible rfl
        simp only [Act.put, List.setIfInBounds_toArray, List.set_cons_zero, List.set_cons_succ, List.getElem_toArray, List.getElem_cons_zero, List.getElem_cons_succ]
        refine wpAnyH_take (i := 11) (v := ?v11in) rfl (by kernel_rfl) (by kernel_rfl) (by kernel_rfl) (fun _ _ _ h => h) (Or.inl ⟨by rfl, fun w hSw => ?hy11in⟩) hHeld ?rest11in
        case hy11in =>
          try dsimp only at hSw
          go_simp
          try with_reducible rfl
        simp only [Act.put, List.setIfInBounds_toArray, List.set_cons_zero, List.set_cons_succ, List.getElem_toArray, List.getElem_cons_zero, List.getElem_cons_succ]
        refine wpAnyH_take (i := 12) (v := ?v12in) rfl (by kernel_rfl) (by kernel_rfl) (by kernel_rfl) (fun _ _ _ h => h) (Or.inl ⟨by rfl, fun w hSw => ?hy12in⟩) hHeld ?rest12in
        case hy12in =>
          try dsimp only at hSw
          go_simp
          try with_reducible rfl
        simp only [Act.put, List.setIfInBounds_toArray, List.set_cons_zero, List.set_cons_succ, List.getElem_toArray, List.getElem_cons_zero, List.getElem_cons_succ]
        refine wpAnyH_take (i := 13) (v := ?v13in) rfl (by kernel_rfl) (by kernel_rfl) (by kernel_rfl) (fun _ _ _ h => h) (Or.inl ⟨by rfl, fun w hSw => ?hy13in⟩) hHeld ?rest13in
        case hy13in =>
          try dsimp only at hSw
          go_simp
          try with_reducible rfl
        simp only [Act.put, List.setIfInBounds_toArray, List.set_cons_zero, List.set_cons_succ, List.getElem_toArray, List.getElem_cons_zero, List.getElem_cons_succ]
        refine wpAnyH_ready (rs := [14]) (by kernel_rfl) (by simp) ?_
        refine AllReadyH.cons rfl (fun K hK => ?_) AllReadyH.nil
        go_simp
        refine (HC.out _).mono ?_
        rintro e w1 ⟨rfl, hb1'⟩
        have hb1 : Below wr.heap.size wr w1 := ⟨hb1'.os, hb1'.tape, hb1'.output, hb1'.size, hb1'.block⟩
        have HB1 : Hid (Below w.heap.size w w1) := HB.out.trans (hb1.mono hwr)
        clear hHeld
        go_simp
        refine hK.out _ _ ⟨cellB hb1 x0, cellB hb1 x1, cellB hb1 x2, cellB hb1 x3, cellB hb1 x4, cellB hb1 y0, cellB hb1 y1, cellB hb1 y2, cellB hb1 y3, cellB hb1 y4⟩ (fun hHeld => ?_)
        clear hK
        clear hb1' hb1
        refine wpAnyH_take (i := 15) (v := ?v15in) rfl (by kernel_rfl) (by kernel_rfl) (by kernel_rfl) (fun _ _ _ h => h) (Or.inl ⟨by rfl, fun w hSw => ?hy15in⟩) hHeld ?rest15in
        case hy15in =>
          try dsimp only at hSw
          go_simp
          try with_reducible rfl
        simp only [Act.put, List.setIfInBounds_toArray, List.set_cons_zero, List.set_cons_succ, List.getElem_toArray, List.getElem_cons_zero, List.getElem_cons_succ]
        refine wpAnyH_take (i := 16) (v := ?v16in) rfl (by kernel_rfl) (by kernel_rfl) (by kernel_rfl) (fun _ _ _ h => h) (Or.inl ⟨by rfl, fun w hSw => ?hy16in⟩) hHeld ?rest16in
        case hy16in =>
          try dsimp only at hSw
          go_simp
          try with_reducible rfl
        simp only [Act.put, List.setIfInBounds_toArray, List.set_cons_zero, List.set_cons_succ, List.getElem_toArray, List.getElem_cons_zero, List.getElem_cons_succ]
        refine wpAnyH_done (by kernel_rfl) ?_ _
        go_wp2_with fail
        exact ⟨⟨I + 1, by go_num, by omega, by omega, HB1.out⟩, by simp [intOf]; omega⟩
    · have hlti : ¬ (I : Int) < (hi : Int) := by omega
      go_wp2_with fail
      go_end0
      exact ⟨rfl, HB.out⟩
end Go.Proofs.Ytebfpffilepfaaa
