/- The walks of WireBytes and WireBack. -/
import Derived.Test.YtalpbnkmppdgdaaEWrx
import Derived.Test.YtalpbnkmppdgdaaEWrt
namespace Go.Proofs.Ytalpbnkmppdgdaa
open Go.RowKit
set_option linter.unusedVariables false

set_option maxHeartbeats 4000000 in
theorem bytes14_walk (m : Msg) (s : Spot) (w : World) (hin : MIn w m s) :
    Calls Try.prog 3 #[m.v s] w fun e w' => e = .returned (.bool true) ∧ Below w.heap.size w w' := by
  have HIN : Hid (MIn w m s) := hin
  clear hin
  have HBY : Hid (∀ W, MIn W m s → Calls Try.prog 9 #[m.v s] W fun e w' => e = .returned (bytesW m) ∧ Below W.heap.size W w') := fun W h => wbytes_ok m s W h
  have HRB : Hid (∀ W, MIn W m s → Calls Try.prog 10 #[m.v s] W fun e w' => e = .returned (bytesW m) ∧ Below W.heap.size W w') := fun W h => rwbytes_ok m s W h
  have HCK : Hid (∀ W, MIn W m s → Calls Try.prog 11 #[m.v s] W fun e w' => e = .returned (.int .i64 (errW (mayM m))) ∧ Below W.heap.size W w') := fun W h => wcheck_ok m s W h
  have HRC : Hid (∀ W, MIn W m s → Calls Try.prog 12 #[m.v s] W fun e w' => e = .returned (.int .i64 (errW (mayM m))) ∧ Below W.heap.size W w') := fun W h => rwcheck_ok m s W h
  obtain ⟨z, k, hv⟩ : ∃ z k, bytesW m = .tuple #[.string z, .int .i64 k] := by
    rcases bytesW_cases m with ⟨_, _, h⟩ | ⟨_, k, _, h⟩
    · exact ⟨_, _, h⟩
    · exact ⟨_, _, h⟩
  rw [hv] at HBY HRB
  clear hv
  generalize errW (mayM m) = ck at HCK HRC
  have HBA : Hid (Below w.heap.size w (w.alloc (.cells (m.cs s) 28))) := (Below.refl _ _).alloc (Nat.le_refl _) _
  have HMB : Hid (MB (w.alloc (.cells (m.cs s) 28)) w.heap.size m s) := heap_alloc_new _ _
  obtain ⟨mb, hmb⟩ : ∃ mb, w.heap.size = mb := ⟨_, rfl⟩
  rw [hmb] at HMB
  generalize hWA : (w.alloc (.cells (m.cs s) 28)) = wA at HMB HBA
  have HI1 : Hid (MIn wA m s) := HIN.out.below HBA.out (Nat.le_refl _)
  go_enter Try.func3, Try.ntmps3
  go_upto_region 1 with fail
  clear hWA
  obtain ⟨d0, d1, d2, d3, d4, d5, d6, d7, d8, d9, d10, d11, d12⟩ := HMB.out.cells
  go_wp2_with fail
  refine (HBY.out _ HI1.out).mono ?_
  rintro e w1 ⟨rfl, hb1⟩
  have HM1 : Hid (MB w1 mb m s) := HMB.out.below hb1
  have HI2 : Hid (MIn w1 m s) := HI1.out.below hb1 (Nat.le_refl _)
  have HB1 : Hid (Below w.heap.size w w1) := HBA.out.trans (hb1.mono HBA.out.size)
  clear hb1 d0 d1 d2 d3 d4 d5 d6 d7 d8 d9 d10 d11 d12
  obtain ⟨d0, d1, d2, d3, d4, d5, d6, d7, d8, d9, d10, d11, d12⟩ := HM1.out.cells
  go_wp2_with fail
  refine (HRB.out _ HI2.out).mono ?_
  rintro e w2 ⟨rfl, hb2⟩
  have HM2 : Hid (MB w2 mb m s) := HM1.out.below hb2
  have HI3 : Hid (MIn w2 m s) := HI2.out.below hb2 (Nat.le_refl _)
  have HB2 : Hid (Below w.heap.size w w2) := HB1.out.trans (hb2.mono HB1.out.size)
  clear hb2 d0 d1 d2 d3 d4 d5 d6 d7 d8 d9 d10 d11 d12
  obtain ⟨d0, d1, d2, d3, d4, d5, d6, d7, d8, d9, d10, d11, d12⟩ := HM2.out.cells
  go_upto_region 3 with fail
  have HI3d : MIn w2.drew m s := HI3.out.below (Below.refl w2.heap.size w2).drew (Nat.le_refl _)
  refine wp_region_held_drew (S := fun w' => w'.cell? ⟨mb, 0, none⟩ = some (.int .i64 m.kind) ∧ w'.cell? ⟨mb, 1, none⟩ = some (.int .i64 m.frm) ∧ w'.cell? ⟨mb, 2, none⟩ = some (.int .i64 m.dst) ∧ w'.cell? ⟨mb, 3, none⟩ = some (.int .i64 m.view) ∧ w'.cell? ⟨mb, 4, none⟩ = some (.int .i64 m.norm) ∧ w'.cell? ⟨mb, 5, none⟩ = some (.int .i64 m.fin) ∧ w'.cell? ⟨mb, 6, none⟩ = some (.int .i64 m.com) ∧ w'.cell? ⟨mb, 7, none⟩ = some (.int .i64 m.err) ∧ w'.cell? ⟨mb, 8, none⟩ = some (.int .i64 m.prod) ∧ w'.cell? ⟨mb, 9, none⟩ = some (.int .i64 m.seq) ∧ w'.cell? ⟨mb, 10, none⟩ = some (.int .i64 m.base) ∧ w'.cell? ⟨mb, 11, none⟩ = some (.slice s.la m.log.length s.lc) ∧ w'.cell? ⟨mb, 12, none⟩ = some (.slice s.ba m.body.length s.bc)) (by kernel_rfl) HM2.out.cells (fun hHeld => ?_)
  clear d0 d1 d2 d3 d4 d5 d6 d7 d8 d9 d10 d11 d12
  refine wpAnyH_take (i := 0) (v := ?v0) rfl (by kernel_rfl) (by kernel_rfl) (by kernel_rfl) (fun _ _ _ h => h) (Or.inl ⟨by rfl, fun w hSw => ?hy0⟩) hHeld ?rest0
  case hy0 =>
    try dsimp only at hSw
    go_simp
    try with_reducible rfl
  simp only [Act.put, List.setIfInBounds_toArray, List.set_cons_zero, List.set_cons_succ, List.getElem_toArray, List.getElem_cons_zero]
  refine wpAnyH_take (i := 1) (v := ?v1) rfl (by kernel_rfl) (by kernel_rfl) (by kernel_rfl) (fun _ _ _ h => h) (Or.inl ⟨by rfl, fun w hSw => ?hy1⟩) hHeld ?rest1
  case hy1 =>
    try dsimp only at hSw
    go_simp
    try with_reducible rfl
  simp only [Act.put, List.setIfInBounds_toArray, List.set_cons_zero, List.set_cons_succ, List.getElem_toArray, List.getElem_cons_zero, List.getElem_cons_succ]
  refine wpAnyH_take (i := 2) (v := ?v2) rfl (by kernel_rfl) (by kernel_rfl) (by kernel_rfl) (fun _ _ _ h => h) (Or.inl ⟨by rfl, fun w hSw => ?hy2⟩) hHeld ?rest2
  case hy2 =>
    try dsimp only at hSw
    go_simp
    try with_reducible rfl
  simp only [Act.put, List.setIfInBounds_toArray, List.set_cons_zero, List.set_cons_succ, List.getElem_toArray, List.getElem_cons_zero, List.getElem_cons_succ]
  refine wpAnyH_take (i := 3) (v := ?v3) rfl (by kernel_rfl) (by kernel_rfl) (by kernel_rfl) (fun _ _ _ h => h) (Or.inl ⟨by rfl, fun w hSw => ?hy3⟩) hHeld ?rest3
  case hy3 =>
    try dsimp only at hSw
    go_simp
    try with_reducible rfl
  simp only [Act.put, List.setIfInBounds_toArray, List.set_cons_zero, List.set_cons_succ, List.getElem_toArray, List.getElem_cons_zero, List.getElem_cons_succ]
  refine wpAnyH_take (i := 4) (v := ?v4) rfl (by kernel_rfl) (by kernel_rfl) (by kernel_rfl) (fun _ _ _ h => h) (Or.inl ⟨by rfl, fun w hSw => ?hy4⟩) hHeld ?rest4
  case hy4 =>
    try dsimp only at hSw
    go_simp
    try with_reducible rfl
  simp only [Act.put, List.setIfInBounds_toArray, List.set_cons_zero, List.set_cons_succ, List.getElem_toArray, List.getElem_cons_zero, List.getElem_cons_succ]
  refine wpAnyH_take (i := 5) (v := ?v5) rfl (by kernel_rfl) (by kernel_rfl) (by kernel_rfl) (fun _ _ _ h => h) (Or.inl ⟨by rfl, fun w hSw => ?hy5⟩) hHeld ?rest5
  case hy5 =>
    try dsimp only at hSw
    go_simp
    try with_reducible rfl
  simp only [Act.put, List.setIfInBounds_toArray, List.set_cons_zero, List.set_cons_succ, List.getElem_toArray, List.getElem_cons_zero, List.getElem_cons_succ]
  refine wpAnyH_take (i := 6) (v := ?v6) rfl (by kernel_rfl) (by kernel_rfl) (by kernel_rfl) (fun _ _ _ h => h) (Or.inl ⟨by rfl, fun w hSw => ?hy6⟩) hHeld ?rest6
  case hy6 =>
    try dsimp only at hSw
    go_simp
    try with_reducible rfl
  simp only [Act.put, List.setIfInBounds_toArray, List.set_cons_zero, List.set_cons_succ, List.getElem_toArray, List.getElem_cons_zero, List.getElem_cons_succ]
  refine wpAnyH_take (i := 7) (v := ?v7) rfl (by kernel_rfl) (by kernel_rfl) (by kernel_rfl) (fun _ _ _ h => h) (Or.inl ⟨by rfl, fun w hSw => ?hy7⟩) hHeld ?rest7
  case hy7 =>
    try dsimp only at hSw
    go_simp
    try with_reducible rfl
  simp only [Act.put, List.setIfInBounds_toArray, List.set_cons_zero, List.set_cons_succ, List.getElem_toArray, List.getElem_cons_zero, List.getElem_cons_succ]
  refine wpAnyH_take (i := 8) (v := ?v8) rfl (by kernel_rfl) (by kernel_rfl) (by kernel_rfl) (fun _ _ _ h => h) (Or.inl ⟨by rfl, fun w hSw => ?hy8⟩) hHeld ?rest8
  case hy8 =>
    try dsimp only at hSw
    go_simp
    try with_reducible rfl
  simp only [Act.put, List.setIfInBounds_toArray, List.set_cons_zero, List.set_cons_succ, List.getElem_toArray, List.getElem_cons_zero, List.getElem_cons_succ]
  refine wpAnyH_take (i := 9) (v := ?v9) rfl (by kernel_rfl) (by kernel_rfl) (by kernel_rfl) (fun _ _ _ h => h) (Or.inl ⟨by rfl, fun w hSw => ?hy9⟩) hHeld ?rest9
  case hy9 =>
    try dsimp only at hSw
    go_simp
    try with_reducible rfl
  simp only [Act.put, List.setIfInBounds_toArray, List.set_cons_zero, List.set_cons_succ, List.getElem_toArray, List.getElem_cons_zero, List.getElem_cons_succ]
  refine wpAnyH_take (i := 11) (v := ?v11) rfl (by kernel_rfl) (by kernel_rfl) (by kernel_rfl) (fun _ _ _ h => h) (Or.inl ⟨by rfl, fun w hSw => ?hy11⟩) hHeld ?rest11
  case hy11 =>
    try dsimp only at hSw
    go_simp
    try with_reducible rfl
  simp only [Act.put, List.setIfInBounds_toArray, List.set_cons_zero, List.set_cons_succ, List.getElem_toArray, List.getElem_cons_zero, List.getElem_cons_succ]
  refine wpAnyH_ready (rs := [10]) (by kernel_rfl) (by simp) ?_
  refine AllReadyH.cons rfl (fun K hK => ?_) AllReadyH.nil
  go_simp
  refine (HCK.out _ HI3d).mono ?_
  rintro e w3 ⟨rfl, hb'⟩
  have hbb : Below w2.heap.size w2 w3 := ⟨hb'.os, hb'.tape, hb'.output, hb'.size, hb'.block⟩
  have HM3 : Hid (MB w3 mb m s) := HM2.out.below hbb
  have HB3 : Hid (Below w.heap.size w w3) := HB2.out.trans (hbb.mono HB2.out.size)
  have HI3x : Hid (MIn w3 m s) := HIN.out.below HB3.out (Nat.le_refl _)
  clear hHeld hb' hbb
  go_simp
  refine hK.out _ _ HM3.out.cells (fun hHeld => ?_)
  clear hK
  refine wpAnyH_ready (rs := [12]) (by kernel_rfl) (by simp) ?_
  refine AllReadyH.cons rfl (fun K hK => ?_) AllReadyH.nil
  go_simp
  refine (HRC.out _ HI3x.out).mono ?_
  rintro e w4 ⟨rfl, hb'⟩
  have hbb : Below w3.heap.size w3 w4 := ⟨hb'.os, hb'.tape, hb'.output, hb'.size, hb'.block⟩
  have HM4 : Hid (MB w4 mb m s) := HM3.out.below hbb
  have HB4 : Hid (Below w.heap.size w w4) := HB3.out.trans (hbb.mono HB3.out.size)
  have HI4x : Hid (MIn w4 m s) := HIN.out.below HB4.out (Nat.le_refl _)
  clear hHeld hb' hbb
  go_simp
  refine hK.out _ _ HM4.out.cells (fun hHeld => ?_)
  clear hK
  refine wpAnyH_take (i := 13) (v := ?v13) rfl (by kernel_rfl) (by kernel_rfl) (by kernel_rfl) (fun _ _ _ h => h) (Or.inl ⟨by rfl, fun w hSw => ?hy13⟩) hHeld ?rest13
  case hy13 =>
    try dsimp only at hSw
    go_simp
    try with_reducible rfl
  simp only [Act.put, List.setIfInBounds_toArray, List.set_cons_zero, List.set_cons_succ, List.getElem_toArray, List.getElem_cons_zero, List.getElem_cons_succ]
  refine wpAnyH_take (i := 14) (v := ?v14) rfl (by kernel_rfl) (by kernel_rfl) (by kernel_rfl) (fun _ _ _ h => h) (Or.inl ⟨by rfl, fun w hSw => ?hy14⟩) hHeld ?rest14
  case hy14 =>
    try dsimp only at hSw
    go_simp
    try with_reducible rfl
  simp only [Act.put, List.setIfInBounds_toArray, List.set_cons_zero, List.set_cons_succ, List.getElem_toArray, List.getElem_cons_zero, List.getElem_cons_succ]
  refine wpAnyH_take (i := 15) (v := ?v15) rfl (by kernel_rfl) (by kernel_rfl) (by kernel_rfl) (fun _ _ _ h => h) (Or.inl ⟨by rfl, fun w hSw => ?hy15⟩) hHeld ?rest15
  case hy15 =>
    try dsimp only at hSw
    go_simp
    try with_reducible rfl
  simp only [Act.put, List.setIfInBounds_toArray, List.set_cons_zero, List.set_cons_succ, List.getElem_toArray, List.getElem_cons_zero, List.getElem_cons_succ]
  refine wpAnyH_ready (rs := [16]) (by kernel_rfl) (by simp) ?_
  refine AllReadyH.cons rfl (fun K hK => ?_) AllReadyH.nil
  go_simp
  refine (wawake_ok _).mono ?_
  rintro e w5 ⟨rfl, hb'⟩
  have hbb : Below w4.heap.size w4 w5 := ⟨hb'.os, hb'.tape, hb'.output, hb'.size, hb'.block⟩
  have HM5 : Hid (MB w5 mb m s) := HM4.out.below hbb
  have HB5 : Hid (Below w.heap.size w w5) := HB4.out.trans (hbb.mono HB4.out.size)
  have HI5x : Hid (MIn w5 m s) := HIN.out.below HB5.out (Nat.le_refl _)
  clear hHeld hb' hbb
  go_simp
  refine hK.out _ _ HM5.out.cells (fun hHeld => ?_)
  clear hK
  refine wpAnyH_take (i := 17) (v := ?v17) rfl (by kernel_rfl) (by kernel_rfl) (by kernel_rfl) (fun _ _ _ h => h) (Or.inl ⟨by rfl, fun w hSw => ?hy17⟩) hHeld ?rest17
  case hy17 =>
    try dsimp only at hSw
    go_simp
    try with_reducible rfl
  simp only [Act.put, List.setIfInBounds_toArray, List.set_cons_zero, List.set_cons_succ, List.getElem_toArray, List.getElem_cons_zero, List.getElem_cons_succ]
  refine wpAnyH_take (i := 18) (v := ?v18) rfl (by kernel_rfl) (by kernel_rfl) (by kernel_rfl) (fun _ _ _ h => h) (Or.inl ⟨by rfl, fun w hSw => ?hy18⟩) hHeld ?rest18
  case hy18 =>
    try dsimp only at hSw
    go_simp
    try with_reducible rfl
  simp only [Act.put, List.setIfInBounds_toArray, List.set_cons_zero, List.set_cons_succ, List.getElem_toArray, List.getElem_cons_zero, List.getElem_cons_succ]
  refine wpAnyH_done (by kernel_rfl) ?_ _
  go_wp2
  go_ret
  exact ⟨rfl, HB5.out⟩
end Go.Proofs.Ytalpbnkmppdgdaa
