/- The document's Of of messages. -/
import Derived.Test.YtalpbnkmppdgdaaEWse
import Derived.BigRegion
namespace Go.Proofs.Ytalpbnkmppdgdaa
open Go.RowKit
set_option linter.unusedVariables false

set_option maxRecDepth 20000 in
set_option maxHeartbeats 8000000 in
theorem rwof_ok (S : List UInt8) (w : World) (hS : S.length ≤ 1048576) :
    Calls Try.prog 15 #[.string (mk S)] w fun e w' => OfW S w e w' := by
  obtain ⟨i0, hi, hz0, hz1, hz2⟩ := info_split intInfo
  have HI : Hid (Try.prog.info? 3 = some i0 ∧ i0.zero = some (.int .i64 0) ∧ i0.size = 1 ∧ i0.bytes = 8) := ⟨hi, hz0, hz1, hz2⟩
  obtain ⟨i1, hi', hz0', hz1', hz2'⟩ := info_split strInfo
  have HIS : Hid (Try.prog.info? 9 = some i1 ∧ i1.zero = some (.string ⟨#[]⟩) ∧ i1.size = 1 ∧ i1.bytes = 16) := ⟨hi', hz0', hz1', hz2'⟩
  clear hi hz0 hz1 hz2 hi' hz0' hz1' hz2'
  obtain ⟨sz, hsz⟩ : ∃ sz, (mk S).size = sz := ⟨_, rfl⟩
  have HSL : Hid (S.length = sz) := by rw [← mk_size S]; exact hsz
  have hszb : sz ≤ 1048576 := by rw [← HSL.out]; exact hS
  have HVR : Hid (∀ W a, Calls Try.prog 30 #[.string ((mk S).extract a sz)] W fun e w' => VarEnd (mk (S.drop a)) e ∧ w' = W) := fun W a => by
    rw [← hsz, extract_drop]
    exact rvar_ok _ (by rw [mk_size, List.length_drop]; omega) W
  have hA : Below w.heap.size w (w.alloc (.cells zero13 28)) := (Below.refl _ _).alloc (Nat.le_refl _) _
  have HST : Hid (N1 w (w.alloc (.cells zero13 28)) S (.slice none 0 0) [] 0) := ⟨rfl, heap_alloc_new _ _, OI.nil _ _, hA, Nat.zero_le _, (by simp), fun x hx => by cases hx⟩
  have k0 : decide ((1048576 : Int) < (sz : Int)) = false := decide_eq_false (by omega)
  clear hA
  go_enter Try.func15, Try.ntmps15
  go_wp2
  clear k0
  go_loopw [4, 5, 6] (fun v av i wr => ∃ (V : Value) (l : List Nat) (a : Nat), V = v ∧ av = .int .i64 (a : Nat) ∧ i = .int .i64 (l.length : Nat) ∧ l.length ≤ 12 ∧ N1 w wr S V l a) (fun _ _ i _ => 12 - (intOf i).toNat)
  case atStart => exact ⟨_, [], 0, rfl, rfl, rfl, Nat.zero_le _, HST.out⟩
  case round =>
    clear HST
    obtain ⟨V, l, a, rfl, rfl, rfl, hl12, hn1⟩ := hrel
    have HN : Hid (N1 w wr S V l a) := hn1
    have hal : a ≤ sz := by have := hn1.len; rw [HSL.out] at this; exact this
    clear hn1
    by_cases hlt : l.length < 12
    · have hlti : (l.length : Int) < 12 := by omega
      go_wp2_with fail
      refine (HVR.out _ a).mono ?_
      rintro e w1 ⟨hve, hw⟩
      obtain rfl := hw.symm
      rcases hve with ⟨x, n1, hvd, rfl⟩ | ⟨hvd, he⟩
      · have hvl := varD_le hvd
        rw [mk_size, List.length_drop, HSL.out] at hvl
        obtain ⟨hdx, hn1, hn9, hns⟩ := hvl
        have HVD : Hid (varD (mk (S.drop a)) = some (x, n1)) := hvd
        clear hvd
        have HOW : Hid (∀ o, (wr.alloc o).ownsRow (w.heap.size + 1) 3 1 V l.length (nvs l) ∧ w.heap.size + 1 ≤ (wr.alloc o).heap.size) := fun o => ⟨HN.out.own.alloc o, by have := HN.out.big; simp; omega⟩
        obtain ⟨b1, hb1i⟩ : ∃ b1 : Nat, a + n1 = b1 := ⟨_, rfl⟩
        have hb1j : (a : Int) + (n1 : Int) = (b1 : Int) := by omega
        have HB1 : Hid (a + n1 = b1) := hb1i
        have hb1l : b1 ≤ sz := by omega
        clear hb1i
        go_wp2_with (at_builtin; refine wpList_append_lies _ rfl _ _ 49 rfl (w.heap.size + 1) 3 i0 (.int .i64 0) 1 8 Try.underlying49 HI.out.1 HI.out.2.1 HI.out.2.2.1 HI.out.2.2.2 rfl (by decide) V l.length (nvs l) rfl (HOW.out _).1 ⟨wr.heap.size, 0, none⟩ 1 1 [.int .i64 (x : Nat)] rfl rfl (news1 _ _ _) (oneI _) (by decide) (by unfold maxLen; omega) (by omega) (HOW.out _).2 _ rfl ?_; intro g5 cap5 w5 hown hgrow hat hgl; have HNX : Hid (N1 w w5 S (.slice (some ⟨g5, 0, none⟩) (l.length + 1) cap5) (l ++ [x]) (a + n1)) := n1_more HN.out HVD.out hown hgrow; clear hown hgrow hat hgl)
        go_roundw
        case rel => exact ⟨_, l ++ [x], b1, rfl, rfl, by simp, by simp; omega, by rw [← HB1.out]; exact HNX.out⟩
        case measure => simp [intOf]; omega
      · have HE : Hid (rdMsg S = none) := msg_stop HN.out.rd hlt hvd
        have HBE : Hid (Below w.heap.size w wr) := HN.out.bel
        clear hvd
        rcases he with he | he
        all_goals
          cases he
          obtain ⟨z0, z1, z2, z3, z4, z5, z6, z7, z8, z9, z10, z11, z12⟩ := cells13 HN.out.h0
          have hfr := frozen0 HN.out.h0
          go_wp2
          refine bodyPost_ret (v := ?vz1) ?c1z1 rfl ?c2z1
          case c1z1 =>
            rw [results_cell_tmp rfl]
            go_simp
            all_goals exact rfl
          case c2z1 =>
            refine .inr ⟨HE.out, rfl, ?_⟩
            simp only [bl_set]
            exact HBE.out
    · have hl : l.length = 12 := by omega
      have HRD : Hid (rdNums 12 S = some (l, S.drop a)) := by rw [← hl]; exact HN.out.rd
      have hle := HN.out.le
      obtain ⟨a0, a1, a2, a3, a4, a5, a6, a7, a8, a9, a10, a11, rfl⟩ := list12 hl
      obtain ⟨g, cap, hV, hgl, hcs⟩ : ∃ g cap, V = .slice (some ⟨g, 0, none⟩) 12 cap ∧ (w.heap.size + 1 ≤ g ∧ g < wr.heap.size ∧ 12 ≤ cap ∧ cap ≤ maxLen) ∧ ∀ j u, (nvs [a0, a1, a2, a3, a4, a5, a6, a7, a8, a9, a10, a11])[j]? = some u → wr.cell? ⟨g, j, none⟩ = some u := by
        have ho := HN.out.own
        rcases ho.2 with ⟨_, hn⟩ | ⟨g, cap, cur, rfl, h4, h5, h6, h7, _⟩
        · cases hn
        · refine ⟨g, cap, rfl, ⟨h4, lt_of_block h5, h6, h7⟩, fun j u hj => ?_⟩
          have hc := World.ownsRow.cells (show wr.ownsRow _ _ 1 _ _ _ from ho) (g := g) rfl j u hj
          rw [add_zero_addr] at hc
          exact hc
      subst hV
      have c0 := hcs 0 _ rfl
      have c1 := hcs 1 _ rfl
      have c2 := hcs 2 _ rfl
      have c3 := hcs 3 _ rfl
      have c4 := hcs 4 _ rfl
      have c5 := hcs 5 _ rfl
      have c6 := hcs 6 _ rfl
      have c7 := hcs 7 _ rfl
      have c8 := hcs 8 _ rfl
      have c9 := hcs 9 _ rfl
      have c10 := hcs 10 _ rfl
      have c11 := hcs 11 _ rfl
      have h7b : a7 ≤ 9223372036854775807 := hle a7 (by simp)
      have h11b : a11 ≤ 9223372036854775807 := hle a11 (by simp)
      have HGL : Hid (w.heap.size + 1 ≤ g ∧ g < wr.heap.size) := ⟨hgl.1, hgl.2.1⟩
      have HBE : Hid (Below w.heap.size w wr) := HN.out.bel
      have HCS : Hid (∀ j u, (nvs [a0, a1, a2, a3, a4, a5, a6, a7, a8, a9, a10, a11])[j]? = some u → wr.cell? ⟨g, j, none⟩ = some u) := hcs
      clear hcs hle hl hlt hl12 hgl
      by_cases h7 : 999 < a7
      · have k7 : decide ((999 : Int) < (a7 : Int)) = true := decide_eq_true (by omega)
        have HE : Hid (rdMsg S = none) := msg_err HRD.out h7
        clear h7
        obtain ⟨z0, z1, z2, z3, z4, z5, z6, z7, z8, z9, z10, z11, z12⟩ := cells13 HN.out.h0
        have hfr := frozen0 HN.out.h0
        go_wp2
        refine bodyPost_ret (v := ?vz2) ?c1z2 rfl ?c2z2
        case c1z2 =>
          rw [results_cell_tmp rfl]
          go_simp
          all_goals exact rfl
        case c2z2 =>
          refine .inr ⟨HE.out, rfl, ?_⟩
          simp only [bl_set]
          exact HBE.out
      · have k7 : decide ((999 : Int) < (a7 : Int)) = false := decide_eq_false (by omega)
        by_cases h11 : a11 ≤ 4096
        · have k11 : decide ((4096 : Int) < (a11 : Int)) = false := decide_eq_false (by omega)
          clear HI
          go_upto_region 15 with fail
          have HCA : Hid (∀ o, (wr.alloc o).cell? ⟨g, 0, none⟩ = some (.int .i64 (a0 : Nat)) ∧ (wr.alloc o).cell? ⟨g, 1, none⟩ = some (.int .i64 (a1 : Nat)) ∧ (wr.alloc o).cell? ⟨g, 2, none⟩ = some (.int .i64 (a2 : Nat)) ∧ (wr.alloc o).cell? ⟨g, 3, none⟩ = some (.int .i64 (a3 : Nat)) ∧ (wr.alloc o).cell? ⟨g, 4, none⟩ = some (.int .i64 (a4 : Nat)) ∧ (wr.alloc o).cell? ⟨g, 5, none⟩ = some (.int .i64 (a5 : Nat)) ∧ (wr.alloc o).cell? ⟨g, 6, none⟩ = some (.int .i64 (a6 : Nat)) ∧ (wr.alloc o).cell? ⟨g, 7, none⟩ = some (.int .i64 (a7 : Nat)) ∧ (wr.alloc o).cell? ⟨g, 8, none⟩ = some (.int .i64 (a8 : Nat)) ∧ (wr.alloc o).cell? ⟨g, 9, none⟩ = some (.int .i64 (a9 : Nat)) ∧ (wr.alloc o).cell? ⟨g, 10, none⟩ = some (.int .i64 (a10 : Nat))) := fun o => ⟨by rw [cell_below ((Below.refl wr.heap.size wr).alloc (Nat.le_refl _) o) HGL.out.2]; exact c0, by rw [cell_below ((Below.refl wr.heap.size wr).alloc (Nat.le_refl _) o) HGL.out.2]; exact c1, by rw [cell_below ((Below.refl wr.heap.size wr).alloc (Nat.le_refl _) o) HGL.out.2]; exact c2, by rw [cell_below ((Below.refl wr.heap.size wr).alloc (Nat.le_refl _) o) HGL.out.2]; exact c3, by rw [cell_below ((Below.refl wr.heap.size wr).alloc (Nat.le_refl _) o) HGL.out.2]; exact c4, by rw [cell_below ((Below.refl wr.heap.size wr).alloc (Nat.le_refl _) o) HGL.out.2]; exact c5, by rw [cell_below ((Below.refl wr.heap.size wr).alloc (Nat.le_refl _) o) HGL.out.2]; exact c6, by rw [cell_below ((Below.refl wr.heap.size wr).alloc (Nat.le_refl _) o) HGL.out.2]; exact c7, by rw [cell_below ((Below.refl wr.heap.size wr).alloc (Nat.le_refl _) o) HGL.out.2]; exact c8, by rw [cell_below ((Below.refl wr.heap.size wr).alloc (Nat.le_refl _) o) HGL.out.2]; exact c9, by rw [cell_below ((Below.refl wr.heap.size wr).alloc (Nat.le_refl _) o) HGL.out.2]; exact c10⟩
          refine wp_region_held_drew (S := fun w' => w'.cell? ⟨g, 0, none⟩ = some (.int .i64 (a0 : Nat)) ∧ w'.cell? ⟨g, 1, none⟩ = some (.int .i64 (a1 : Nat)) ∧ w'.cell? ⟨g, 2, none⟩ = some (.int .i64 (a2 : Nat)) ∧ w'.cell? ⟨g, 3, none⟩ = some (.int .i64 (a3 : Nat)) ∧ w'.cell? ⟨g, 4, none⟩ = some (.int .i64 (a4 : Nat)) ∧ w'.cell? ⟨g, 5, none⟩ = some (.int .i64 (a5 : Nat)) ∧ w'.cell? ⟨g, 6, none⟩ = some (.int .i64 (a6 : Nat)) ∧ w'.cell? ⟨g, 7, none⟩ = some (.int .i64 (a7 : Nat)) ∧ w'.cell? ⟨g, 8, none⟩ = some (.int .i64 (a8 : Nat)) ∧ w'.cell? ⟨g, 9, none⟩ = some (.int .i64 (a9 : Nat)) ∧ w'.cell? ⟨g, 10, none⟩ = some (.int .i64 (a10 : Nat))) (by kernel_rfl) ⟨c0, c1, c2, c3, c4, c5, c6, c7, c8, c9, c10⟩ (fun hHeld => ?_)
          clear c0 c1 c2 c3 c4 c5 c6 c7 c8 c9 c10 c11 k7 k11
          refine wpAnyH_take (i := 0) (v := ?v0) rfl (by kernel_rfl) (by kernel_rfl) (by kernel_rfl) (fun _ _ _ h => h) (Or.inl ⟨by rfl, fun w hSw => ?hy0⟩) hHeld ?rest0
          case hy0 =>
            try dsimp only at hSw
            go_simp
            try with_reducible rfl
          simp only [Act.put, List.setIfInBounds_toArray, List.set_cons_zero, List.set_cons_succ, List.getElem_toArray, List.getElem_cons_zero]
          refine wpAnyH_take (i := 1) (v := ?v1) rfl (by kernel_rfl) (by kernel_rfl) (by kernel_rfl) (fun _ _ _ h => h) (Or.inl ⟨by rfl, fun w hSw => ?hy1⟩) hHeld ?rest1
          case hy1 =>
            try dsimp only at hSw
            go_simp
            try with_reducible rfl
          simp only [Act.put, List.setIfInBounds_toArray, List.set_cons_zero, List.set_cons_succ, List.getElem_toArray, List.getElem_cons_zero, List.getElem_cons_succ]
          refine wpAnyH_take (i := 2) (v := ?v2) rfl (by kernel_rfl) (by kernel_rfl) (by kernel_rfl) (fun _ _ _ h => h) (Or.inl ⟨by rfl, fun w hSw => ?hy2⟩) hHeld ?rest2
          case hy2 =>
            try dsimp only at hSw
            go_simp
            try with_reducible rfl
          simp only [Act.put, List.setIfInBounds_toArray, List.set_cons_zero, List.set_cons_succ, List.getElem_toArray, List.getElem_cons_zero, List.getElem_cons_succ]
          refine wpAnyH_take (i := 3) (v := ?v3) rfl (by kernel_rfl) (by kernel_rfl) (by kernel_rfl) (fun _ _ _ h => h) (Or.inl ⟨by rfl, fun w hSw => ?hy3⟩) hHeld ?rest3
          case hy3 =>
            try dsimp only at hSw
            go_simp
            try with_reducible rfl
          simp only [Act.put, List.setIfInBounds_toArray, List.set_cons_zero, List.set_cons_succ, List.getElem_toArray, List.getElem_cons_zero, List.getElem_cons_succ]
          refine wpAnyH_take (i := 4) (v := ?v4) rfl (by kernel_rfl) (by kernel_rfl) (by kernel_rfl) (fun _ _ _ h => h) (Or.inl ⟨by rfl, fun w hSw => ?hy4⟩) hHeld ?rest4
          case hy4 =>
            try dsimp only at hSw
            go_simp
            try with_reducible rfl
          simp only [Act.put, List.setIfInBounds_toArray, List.set_cons_zero, List.set_cons_succ, List.getElem_toArray, List.getElem_cons_zero, List.getElem_cons_succ]
          refine wpAnyH_take (i := 5) (v := ?v5) rfl (by kernel_rfl) (by kernel_rfl) (by kernel_rfl) (fun _ _ _ h => h) (Or.inl ⟨by rfl, fun w hSw => ?hy5⟩) hHeld ?rest5
          case hy5 =>
            try dsimp only at hSw
            go_simp
            try with_reducible rfl
          simp only [Act.put, List.setIfInBounds_toArray, List.set_cons_zero, List.set_cons_succ, List.getElem_toArray, List.getElem_cons_zero, List.getElem_cons_succ]
          refine wpAnyH_take (i := 6) (v := ?v6) rfl (by kernel_rfl) (by kernel_rfl) (by kernel_rfl) (fun _ _ _ h => h) (Or.inl ⟨by rfl, fun w hSw => ?hy6⟩) hHeld ?rest6
          case hy6 =>
            try dsimp only at hSw
            go_simp
            try with_reducible rfl
          simp only [Act.put, List.setIfInBounds_toArray, List.set_cons_zero, List.set_cons_succ, List.getElem_toArray, List.getElem_cons_zero, List.getElem_cons_succ]
          refine wpAnyH_take (i := 7) (v := ?v7) rfl (by kernel_rfl) (by kernel_rfl) (by kernel_rfl) (fun _ _ _ h => h) (Or.inl ⟨by rfl, fun w hSw => ?hy7⟩) hHeld ?rest7
          case hy7 =>
            try dsimp only at hSw
            go_simp
            try with_reducible rfl
          simp only [Act.put, List.setIfInBounds_toArray, List.set_cons_zero, List.set_cons_succ, List.getElem_toArray, List.getElem_cons_zero, List.getElem_cons_succ]
          refine wpAnyH_take (i := 8) (v := ?v8) rfl (by kernel_rfl) (by kernel_rfl) (by kernel_rfl) (fun _ _ _ h => h) (Or.inl ⟨by rfl, fun w hSw => ?hy8⟩) hHeld ?rest8
          case hy8 =>
            try dsimp only at hSw
            go_simp
            try with_reducible rfl
          simp only [Act.put, List.setIfInBounds_toArray, List.set_cons_zero, List.set_cons_succ, List.getElem_toArray, List.getElem_cons_zero, List.getElem_cons_succ]
          refine wpAnyH_take (i := 9) (v := ?v9) rfl (by kernel_rfl) (by kernel_rfl) (by kernel_rfl) (fun _ _ _ h => h) (Or.inl ⟨by rfl, fun w hSw => ?hy9⟩) hHeld ?rest9
          case hy9 =>
            try dsimp only at hSw
            go_simp
            try with_reducible rfl
          simp only [Act.put, List.setIfInBounds_toArray, List.set_cons_zero, List.set_cons_succ, List.getElem_toArray, List.getElem_cons_zero, List.getElem_cons_succ]
          refine wpAnyH_take (i := 10) (v := ?v10) rfl (by kernel_rfl) (by kernel_rfl) (by kernel_rfl) (fun _ _ _ h => h) (Or.inl ⟨by rfl, fun w hSw => ?hy10⟩) hHeld ?rest10
          case hy10 =>
            try dsimp only at hSw
            go_simp
            try with_reducible rfl
          simp only [Act.put, List.setIfInBounds_toArray, List.set_cons_zero, List.set_cons_succ, List.getElem_toArray, List.getElem_cons_zero, List.getElem_cons_succ]
          refine wpAnyH_take (i := 11) (v := ?v11) rfl (by kernel_rfl) (by kernel_rfl) (by kernel_rfl) (fun _ _ _ h => h) (Or.inl ⟨by rfl, fun w hSw => ?hy11⟩) hHeld ?rest11
          case hy11 =>
            try dsimp only at hSw
            go_simp
            try with_reducible rfl
          simp only [Act.put, List.setIfInBounds_toArray, List.set_cons_zero, List.set_cons_succ, List.getElem_toArray, List.getElem_cons_zero, List.getElem_cons_succ]
          refine wpAnyH_take (i := 12) (v := ?v12) rfl (by kernel_rfl) (by kernel_rfl) (by kernel_rfl) (fun _ _ _ h => h) (Or.inl ⟨by rfl, fun w hSw => ?hy12⟩) hHeld ?rest12
          case hy12 =>
            try dsimp only at hSw
            go_simp
            try with_reducible rfl
          simp only [Act.put, List.setIfInBounds_toArray, List.set_cons_zero, List.set_cons_succ, List.getElem_toArray, List.getElem_cons_zero, List.getElem_cons_succ]
          refine wpAnyH_take (i := 13) (v := ?v13) rfl (by kernel_rfl) (by kernel_rfl) (by kernel_rfl) (fun _ _ _ h => h) (Or.inl ⟨by rfl, fun w hSw => ?hy13⟩) hHeld ?rest13
          case hy13 =>
            try dsimp only at hSw
            go_simp
            try with_reducible rfl
          simp only [Act.put, List.setIfInBounds_toArray, List.set_cons_zero, List.set_cons_succ, List.getElem_toArray, List.getElem_cons_zero, List.getElem_cons_succ]
          refine wpAnyH_take (i := 14) (v := ?v14) rfl (by kernel_rfl) (by kernel_rfl) (by kernel_rfl) (fun _ _ _ h => h) (Or.inl ⟨by rfl, fun w hSw => ?hy14⟩) hHeld ?rest14
          case hy14 =>
            try dsimp only at hSw
            go_simp
            try with_reducible rfl
          simp only [Act.put, List.setIfInBounds_toArray, List.set_cons_zero, List.set_cons_succ, List.getElem_toArray, List.getElem_cons_zero, List.getElem_cons_succ]
          refine wpAnyH_take (i := 15) (v := ?v15) rfl (by kernel_rfl) (by kernel_rfl) (by kernel_rfl) (fun _ _ _ h => h) (Or.inl ⟨by rfl, fun w hSw => ?hy15⟩) hHeld ?rest15
          case hy15 =>
            try dsimp only at hSw
            go_simp
            try with_reducible rfl
          simp only [Act.put, List.setIfInBounds_toArray, List.set_cons_zero, List.set_cons_succ, List.getElem_toArray, List.getElem_cons_zero, List.getElem_cons_succ]
          refine wpAnyH_take (i := 16) (v := ?v16) rfl (by kernel_rfl) (by kernel_rfl) (by kernel_rfl) (fun _ _ _ h => h) (Or.inl ⟨by rfl, fun w hSw => ?hy16⟩) hHeld ?rest16
          case hy16 =>
            try dsimp only at hSw
            go_simp
            try with_reducible rfl
          simp only [Act.put, List.setIfInBounds_toArray, List.set_cons_zero, List.set_cons_succ, List.getElem_toArray, List.getElem_cons_zero, List.getElem_cons_succ]
          refine wpAnyH_take (i := 17) (v := ?v17) rfl (by kernel_rfl) (by kernel_rfl) (by kernel_rfl) (fun _ _ _ h => h) (Or.inl ⟨by rfl, fun w hSw => ?hy17⟩) hHeld ?rest17
          case hy17 =>
            try dsimp only at hSw
            go_simp
            try with_reducible rfl
          simp only [Act.put, List.setIfInBounds_toArray, List.set_cons_zero, List.set_cons_succ, List.getElem_toArray, List.getElem_cons_zero, List.getElem_cons_succ]
          refine wpAnyH_take (i := 18) (v := ?v18) rfl (by kernel_rfl) (by kernel_rfl) (by kernel_rfl) (fun _ _ _ h => h) (Or.inl ⟨by rfl, fun w hSw => ?hy18⟩) hHeld ?rest18
          case hy18 =>
            try dsimp only at hSw
            go_simp
            try with_reducible rfl
          simp only [Act.put, List.setIfInBounds_toArray, List.set_cons_zero, List.set_cons_succ, List.getElem_toArray, List.getElem_cons_zero, List.getElem_cons_succ]
          refine wpAnyH_take (i := 19) (v := ?v19) rfl (by kernel_rfl) (by kernel_rfl) (by kernel_rfl) (fun _ _ _ h => h) (Or.inl ⟨by rfl, fun w hSw => ?hy19⟩) hHeld ?rest19
          case hy19 =>
            try dsimp only at hSw
            go_simp
            try with_reducible rfl
          simp only [Act.put, List.setIfInBounds_toArray, List.set_cons_zero, List.set_cons_succ, List.getElem_toArray, List.getElem_cons_zero, List.getElem_cons_succ]
          refine wpAnyH_take (i := 20) (v := ?v20) rfl (by kernel_rfl) (by kernel_rfl) (by kernel_rfl) (fun _ _ _ h => h) (Or.inl ⟨by rfl, fun w hSw => ?hy20⟩) hHeld ?rest20
          case hy20 =>
            try dsimp only at hSw
            go_simp
            try with_reducible rfl
          simp only [Act.put, List.setIfInBounds_toArray, List.set_cons_zero, List.set_cons_succ, List.getElem_toArray, List.getElem_cons_zero, List.getElem_cons_succ]
          refine wpAnyH_take (i := 21) (v := ?v21) rfl (by kernel_rfl) (by kernel_rfl) (by kernel_rfl) (fun _ _ _ h => h) (Or.inl ⟨by rfl, fun w hSw => ?hy21⟩) hHeld ?rest21
          case hy21 =>
            try dsimp only at hSw
            go_simp
            try with_reducible rfl
          simp only [Act.put, List.setIfInBounds_toArray, List.set_cons_zero, List.set_cons_succ, List.getElem_toArray, List.getElem_cons_zero, List.getElem_cons_succ]
          refine wpAnyH_take (i := 22) (v := ?v22) rfl (by kernel_rfl) (by kernel_rfl) (by kernel_rfl) (fun _ _ _ h => h) (Or.inl ⟨by rfl, fun w hSw => ?hy22⟩) hHeld ?rest22
          case hy22 =>
            try dsimp only at hSw
            go_simp
            try with_reducible rfl
          simp only [Act.put, List.setIfInBounds_toArray, List.set_cons_zero, List.set_cons_succ, List.getElem_toArray, List.getElem_cons_zero, List.getElem_cons_succ]
          refine wpAnyH_take (i := 23) (v := ?v23) rfl (by kernel_rfl) (by kernel_rfl) (by kernel_rfl) (fun _ _ _ h => h) (Or.inl ⟨by rfl, fun w hSw => ?hy23⟩) hHeld ?rest23
          case hy23 =>
            try dsimp only at hSw
            go_simp
            try with_reducible rfl
          simp only [Act.put, List.setIfInBounds_toArray, List.set_cons_zero, List.set_cons_succ, List.getElem_toArray, List.getElem_cons_zero, List.getElem_cons_succ]
          refine wpAnyH_take (i := 24) (v := ?v24) rfl (by kernel_rfl) (by kernel_rfl) (by kernel_rfl) (fun _ _ _ h => h) (Or.inl ⟨by rfl, fun w hSw => ?hy24⟩) hHeld ?rest24
          case hy24 =>
            try dsimp only at hSw
            go_simp
            try with_reducible rfl
          simp only [Act.put, List.setIfInBounds_toArray, List.set_cons_zero, List.set_cons_succ, List.getElem_toArray, List.getElem_cons_zero, List.getElem_cons_succ]
          refine wpAnyH_take (i := 25) (v := ?v25) rfl (by kernel_rfl) (by kernel_rfl) (by kernel_rfl) (fun _ _ _ h => h) (Or.inl ⟨by rfl, fun w hSw => ?hy25⟩) hHeld ?rest25
          case hy25 =>
            try dsimp only at hSw
            go_simp
            try with_reducible rfl
          simp only [Act.put, List.setIfInBounds_toArray, List.set_cons_zero, List.set_cons_succ, List.getElem_toArray, List.getElem_cons_zero, List.getElem_cons_succ]
          refine wpAnyH_take (i := 26) (v := ?v26) rfl (by kernel_rfl) (by kernel_rfl) (by kernel_rfl) (fun _ _ _ h => h) (Or.inl ⟨by rfl, fun w hSw => ?hy26⟩) hHeld ?rest26
          case hy26 =>
            try dsimp only at hSw
            go_simp
            try with_reducible rfl
          simp only [Act.put, List.setIfInBounds_toArray, List.set_cons_zero, List.set_cons_succ, List.getElem_toArray, List.getElem_cons_zero, List.getElem_cons_succ]
          refine wpAnyH_take (i := 27) (v := ?v27) rfl (by kernel_rfl) (by kernel_rfl) (by kernel_rfl) (fun _ _ _ h => h) (Or.inl ⟨by rfl, fun w hSw => ?hy27⟩) hHeld ?rest27
          case hy27 =>
            try dsimp only at hSw
            go_simp
            try with_reducible rfl
          simp only [Act.put, List.setIfInBounds_toArray, List.set_cons_zero, List.set_cons_succ, List.getElem_toArray, List.getElem_cons_zero, List.getElem_cons_succ]
          refine wpAnyH_take (i := 28) (v := ?v28) rfl (by kernel_rfl) (by kernel_rfl) (by kernel_rfl) (fun _ _ _ h => h) (Or.inl ⟨by rfl, fun w hSw => ?hy28⟩) hHeld ?rest28
          case hy28 =>
            try dsimp only at hSw
            go_simp
            try with_reducible rfl
          simp only [Act.put, List.setIfInBounds_toArray, List.set_cons_zero, List.set_cons_succ, List.getElem_toArray, List.getElem_cons_zero, List.getElem_cons_succ]
          refine wpAnyH_take (i := 29) (v := ?v29) rfl (by kernel_rfl) (by kernel_rfl) (by kernel_rfl) (fun _ _ _ h => h) (Or.inl ⟨by rfl, fun w hSw => ?hy29⟩) hHeld ?rest29
          case hy29 =>
            try dsimp only at hSw
            go_simp
            try with_reducible rfl
          simp only [Act.put, List.setIfInBounds_toArray, List.set_cons_zero, List.set_cons_succ, List.getElem_toArray, List.getElem_cons_zero, List.getElem_cons_succ]
          refine wpAnyH_take (i := 30) (v := ?v30) rfl (by kernel_rfl) (by kernel_rfl) (by kernel_rfl) (fun _ _ _ h => h) (Or.inl ⟨by rfl, fun w hSw => ?hy30⟩) hHeld ?rest30
          case hy30 =>
            try dsimp only at hSw
            go_simp
            try with_reducible rfl
          simp only [Act.put, List.setIfInBounds_toArray, List.set_cons_zero, List.set_cons_succ, List.getElem_toArray, List.getElem_cons_zero, List.getElem_cons_succ]
          refine wpAnyH_take (i := 31) (v := ?v31) rfl (by kernel_rfl) (by kernel_rfl) (by kernel_rfl) (fun _ _ _ h => h) (Or.inl ⟨by rfl, fun w hSw => ?hy31⟩) hHeld ?rest31
          case hy31 =>
            try dsimp only at hSw
            go_simp
            try with_reducible rfl
          simp only [Act.put, List.setIfInBounds_toArray, List.set_cons_zero, List.set_cons_succ, List.getElem_toArray, List.getElem_cons_zero, List.getElem_cons_succ]
          refine wpAnyH_take (i := 32) (v := ?v32) rfl (by kernel_rfl) (by kernel_rfl) (by kernel_rfl) (fun _ _ _ h => h) (Or.inl ⟨by rfl, fun w hSw => ?hy32⟩) hHeld ?rest32
          case hy32 =>
            try dsimp only at hSw
            go_simp
            try with_reducible rfl
          simp only [Act.put, List.setIfInBounds_toArray, List.set_cons_zero, List.set_cons_succ, List.getElem_toArray, List.getElem_cons_zero, List.getElem_cons_succ]
          refine wpAnyH_take (i := 33) (v := ?v33) rfl (by kernel_rfl) (by kernel_rfl) (by kernel_rfl) (fun _ _ _ h => h) (Or.inl ⟨by rfl, fun w hSw => ?hy33⟩) hHeld ?rest33
          case hy33 =>
            try dsimp only at hSw
            go_simp
            try with_reducible rfl
          simp only [Act.put, List.setIfInBounds_toArray, List.set_cons_zero, List.set_cons_succ, List.getElem_toArray, List.getElem_cons_zero, List.getElem_cons_succ]
          refine wpAnyH_take (i := 34) (v := ?v34) rfl (by kernel_rfl) (by kernel_rfl) (by kernel_rfl) (fun _ _ _ h => h) (Or.inl ⟨by rfl, fun w hSw => ?hy34⟩) hHeld ?rest34
          case hy34 =>
            try dsimp only at hSw
            go_simp
            try with_reducible rfl
          simp only [Act.put, List.setIfInBounds_toArray, List.set_cons_zero, List.set_cons_succ, List.getElem_toArray, List.getElem_cons_zero, List.getElem_cons_succ]
          refine wpAnyH_ready (rs := [35]) (by kernel_rfl) (by simp) ?_
          refine AllReadyH.cons rfl (fun K hK => ?_) AllReadyH.nil
          go_simp
          refine hK.out _ _ (HCA.out _) (fun hHeld => ?_)
          clear hK
          refine wpAnyH_ready (rs := [36]) (by kernel_rfl) (by simp) ?_
          refine AllReadyH.cons rfl (fun K hK => ?_) AllReadyH.nil
          go_simp
          refine hK.out _ _ (HCA.out _) (fun hHeld => ?_)
          clear hK hHeld
          refine wpAnyH_done (by kernel_rfl) ?_ _
          have hBa : Below wr.heap.size wr (wr.alloc (.cells #[.int .i64 (a0 : Nat), .int .i64 (a1 : Nat), .int .i64 (a2 : Nat), .int .i64 (a3 : Nat), .int .i64 (a4 : Nat), .int .i64 (a5 : Nat), .int .i64 (a6 : Nat), .int .i64 (a7 : Nat), .int .i64 (a8 : Nat), .int .i64 (a9 : Nat), .int .i64 (a10 : Nat), .slice none 0 0, .slice none 0 0] 28)) := (Below.refl _ _).alloc (Nat.le_refl _) _
          have HS2 : Hid (N2 w (World.drew (wr.alloc (.cells #[.int .i64 (a0 : Nat), .int .i64 (a1 : Nat), .int .i64 (a2 : Nat), .int .i64 (a3 : Nat), .int .i64 (a4 : Nat), .int .i64 (a5 : Nat), .int .i64 (a6 : Nat), .int .i64 (a7 : Nat), .int .i64 (a8 : Nat), .int .i64 (a9 : Nat), .int .i64 (a10 : Nat), .slice none 0 0, .slice none 0 0] 28))) (World.drew (wr.alloc (.cells #[.int .i64 (a0 : Nat), .int .i64 (a1 : Nat), .int .i64 (a2 : Nat), .int .i64 (a3 : Nat), .int .i64 (a4 : Nat), .int .i64 (a5 : Nat), .int .i64 (a6 : Nat), .int .i64 (a7 : Nat), .int .i64 (a8 : Nat), .int .i64 (a9 : Nat), .int .i64 (a10 : Nat), .slice none 0 0, .slice none 0 0] 28))) S (S.drop a) [a0, a1, a2, a3, a4, a5, a6, a7, a8, a9, a10, a11] wr.heap.size (wr.heap.size + 1) (.slice none 0 0) [] a) :=
            ⟨rfl, heap_alloc_new _ _, OT.nil _ _, (fun k _ _ => rfl), (HBE.out.trans (hBa.mono HBE.out.size)).drew, (by show wr.heap.size + 1 ≤ (wr.alloc (.cells #[.int .i64 (a0 : Nat), .int .i64 (a1 : Nat), .int .i64 (a2 : Nat), .int .i64 (a3 : Nat), .int .i64 (a4 : Nat), .int .i64 (a5 : Nat), .int .i64 (a6 : Nat), .int .i64 (a7 : Nat), .int .i64 (a8 : Nat), .int .i64 (a9 : Nat), .int .i64 (a10 : Nat), .slice none 0 0, .slice none 0 0] 28)).heap.size; simp), HN.out.len, (fun y hy => by cases hy), Nat.lt_succ_self _, HBE.out.size⟩
          have H11 : Hid ((World.drew (wr.alloc (.cells #[.int .i64 (a0 : Nat), .int .i64 (a1 : Nat), .int .i64 (a2 : Nat), .int .i64 (a3 : Nat), .int .i64 (a4 : Nat), .int .i64 (a5 : Nat), .int .i64 (a6 : Nat), .int .i64 (a7 : Nat), .int .i64 (a8 : Nat), .int .i64 (a9 : Nat), .int .i64 (a10 : Nat), .slice none 0 0, .slice none 0 0] 28))).cell? ⟨g, 11, none⟩ = some (.int .i64 (a11 : Nat))) := by
            have : (wr.alloc (.cells #[.int .i64 (a0 : Nat), .int .i64 (a1 : Nat), .int .i64 (a2 : Nat), .int .i64 (a3 : Nat), .int .i64 (a4 : Nat), .int .i64 (a5 : Nat), .int .i64 (a6 : Nat), .int .i64 (a7 : Nat), .int .i64 (a8 : Nat), .int .i64 (a9 : Nat), .int .i64 (a10 : Nat), .slice none 0 0, .slice none 0 0] 28)).cell? ⟨g, 11, none⟩ = some (.int .i64 (a11 : Nat)) := by rw [cell_below hBa HGL.out.2]; exact HCS.out 11 _ rfl
            exact this
          have H00 : Hid ((World.drew (wr.alloc (.cells #[.int .i64 (a0 : Nat), .int .i64 (a1 : Nat), .int .i64 (a2 : Nat), .int .i64 (a3 : Nat), .int .i64 (a4 : Nat), .int .i64 (a5 : Nat), .int .i64 (a6 : Nat), .int .i64 (a7 : Nat), .int .i64 (a8 : Nat), .int .i64 (a9 : Nat), .int .i64 (a10 : Nat), .slice none 0 0, .slice none 0 0] 28))).heap[w.heap.size]? = some (.cells zero13 28 (0, 0))) := (hBa.block _ (lt_of_block HN.out.h0)).trans HN.out.h0
          have HLT : Hid (g < wr.heap.size ∧ w.heap.size < wr.heap.size) := ⟨HGL.out.2, lt_of_block HN.out.h0⟩
          clear hBa HCA HCS HGL HN HBE
          generalize hW2 : World.drew (wr.alloc (.cells #[.int .i64 (a0 : Nat), .int .i64 (a1 : Nat), .int .i64 (a2 : Nat), .int .i64 (a3 : Nat), .int .i64 (a4 : Nat), .int .i64 (a5 : Nat), .int .i64 (a6 : Nat), .int .i64 (a7 : Nat), .int .i64 (a8 : Nat), .int .i64 (a9 : Nat), .int .i64 (a10 : Nat), .slice none 0 0, .slice none 0 0] 28)) = w2 at HS2 H11 H00 ⊢
          clear hW2
          obtain ⟨mb, hmb⟩ : ∃ mb, wr.heap.size = mb := ⟨_, rfl⟩
          rw [hmb] at HS2 HLT ⊢
          clear hmb
          go_wp2
          go_loopw [5, 11] (fun av i wr => ∃ (V : Value) (T : List ByteArray) (b : Nat), av = .int .i64 (b : Nat) ∧ i = .int .i64 (T.length : Nat) ∧ T.length ≤ a11 ∧ N2 w w2 wr S (S.drop a) [a0, a1, a2, a3, a4, a5, a6, a7, a8, a9, a10, a11] mb (mb + 1) V T b) (fun _ i _ => a11 - (intOf i).toNat)
          case atStart => exact ⟨_, [], a, rfl, rfl, Nat.zero_le _, HS2.out⟩
          case round =>
            clear HS2
            obtain ⟨V, T, b, rfl, rfl, hTl, hn2⟩ := hrel
            have HN : Hid (N2 w w2 wr S (S.drop a) [a0, a1, a2, a3, a4, a5, a6, a7, a8, a9, a10, a11] mb (mb + 1) V T b) := hn2
            have hbl : b ≤ sz := by have := hn2.len; rw [HSL.out] at this; exact this
            have c11 : wr.cell? ⟨g, 11, none⟩ = some (.int .i64 (a11 : Nat)) := hn2.other (by have := HLT.out; omega) (by have := HLT.out; omega) H11.out
            have h00 : wr.heap[w.heap.size]? = some (.cells zero13 28 (0, 0)) := (hn2.kp _ (by have := HLT.out; omega) (by have := HLT.out; omega)).trans H00.out
            have H0W : Hid (wr.heap[w.heap.size]? = some (.cells zero13 28 (0, 0))) := h00
            have HBE : Hid (Below w.heap.size w wr) := hn2.bel
            clear hn2 h00
            by_cases hlt : T.length < a11
            · have hlti : decide ((T.length : Int) < (a11 : Int)) = true := decide_eq_true (by omega)
              have hltn : decide (T.length < a11) = true := decide_eq_true hlt
              go_wp2_with fail
              refine (HVR.out _ b).mono ?_
              rintro e w1 ⟨hve, hw⟩
              obtain rfl := hw.symm
              rcases hve with ⟨x, n1, hvd, rfl⟩ | ⟨hvd, he⟩
              · have hvl := varD_le hvd
                rw [mk_size, List.length_drop, HSL.out] at hvl
                obtain ⟨hdx, hn1, hn9, hns⟩ := hvl
                have HVD : Hid (varD (mk (S.drop b)) = some (x, n1)) := hvd
                clear hvd
                obtain ⟨r1, hr1⟩ : ∃ r1 : Nat, (sz : Int) - (b : Int) = (r1 : Int) := ⟨sz - b, by omega⟩
                obtain ⟨r2, hr2⟩ : ∃ r2 : Nat, (r1 : Int) - (n1 : Int) = (r2 : Int) := ⟨sz - b - n1, by omega⟩
                have HR2 : Hid (r2 = sz - b - n1) := by show r2 = sz - b - n1; omega
                by_cases hx : x ≤ r2
                · have kx : decide ((r2 : Int) < (x : Int)) = false := decide_eq_false (by omega)
                  have kxn : decide (r2 < x) = false := decide_eq_false (by omega)
                  obtain ⟨b1, hb1i⟩ : ∃ b1 : Nat, b + n1 = b1 := ⟨_, rfl⟩
                  obtain ⟨b2, hb2i⟩ : ∃ b2 : Nat, b1 + x = b2 := ⟨_, rfl⟩
                  have hb1j : (b : Int) + (n1 : Int) = (b1 : Int) := by omega
                  have hb2j : (b1 : Int) + (x : Int) = (b2 : Int) := by omega
                  have hb12 : b1 ≤ b2 := by omega
                  have hb2l : b2 ≤ sz := by have := HR2.out; omega
                  have HBB : Hid (b + n1 + x = b2) := by show b + n1 + x = b2; omega
                  have hext : (mk S).extract b1 b2 = mk (((S.drop b).drop n1).take x) := by
                    rw [extract_mid, List.drop_drop, hb1i, show b2 - b1 = x by omega]
                  obtain ⟨p, hp⟩ : ∃ p, (mk S).extract b1 b2 = p := ⟨_, rfl⟩
                  have HP : Hid (p = mk (((S.drop b).drop n1).take x)) := by rw [← hp]; exact hext
                  have HOW : Hid (∀ o, (wr.alloc o).drew.ownsRow (mb + 1) 9 1 V T.length (T.map Value.string) ∧ mb + 1 ≤ (wr.alloc o).drew.heap.size) := fun o => HN.out.ownA o
                  have HNW : Hid (∀ j u, [Value.string p][j]? = some u → (wr.alloc (.cells #[.string p] 9)).drew.cell? ((⟨wr.heap.size, 0, none⟩ : Addr).add j) = some u) := news1 wr (.string p) 9
                  have HXX : Hid (x ≤ S.length - b - n1) := by rw [HSL.out]; have := HR2.out; show x ≤ sz - b - n1; omega
                  have d11 := (HN.out.at11 rfl).1
                  have k3 := fun o => (HN.out.at11 (HN.out.al o)).1
                  have wb1 : IntKind.i64.wrap (b1 : Int) = (b1 : Int) := by rw [IntKind.wrap_i64]; omega
                  have wb2 : IntKind.i64.wrap (b2 : Int) = (b2 : Int) := by rw [IntKind.wrap_i64]; omega
                  have kz1 : (b2 : Int) ≤ (sz : Int) := by omega
                  have kz2 : (b1 : Int) ≤ (b2 : Int) := by omega
                  clear hext hb1i hb2i hx
                  go_upto_region 22 with fail
                  clear c11 kx kxn hlti hltn hr1 hr2
                  go_region_law
                    (refine step_append_lies _ rfl _ _ 25 rfl (mb + 1) 9 i1 (.string ⟨#[]⟩) 1 16 Try.underlying25 HIS.out.1 HIS.out.2.1 HIS.out.2.2.1 HIS.out.2.2.2 rfl (by decide) V T.length (T.map Value.string) rfl (HOW.out _).1 ⟨wr.heap.size, 0, none⟩ 1 1 [.string p] rfl rfl HNW.out (one1 _) (by decide) (by unfold maxLen; omega) (by omega) (HOW.out _).2 _ rfl ?_; intro g5 cap5 w5 hown hgrow hat hgl; have hgr' : (wr.alloc (.cells #[.string p] 9)).grownBy w5 V.ownBlock := ⟨hgrow.os, hgrow.tape, hgrow.output, hgrow.size, hgrow.block⟩; obtain ⟨k4, k5⟩ := HN.out.at11 (HN.out.gr _ hgr'); have HGR : Hid (_ ∧ _) := ⟨hown, hgr'⟩; clear hown hgrow hat hgl hgr')
                  all_goals
                    have HNX : Hid (N2 w w2 (w5.setCell ⟨mb, 11, none⟩ (.slice (some ⟨g5, 0, none⟩) (T.length + 1) cap5)) S (S.drop a) [a0, a1, a2, a3, a4, a5, a6, a7, a8, a9, a10, a11] mb (mb + 1) (.slice (some ⟨g5, 0, none⟩) (T.length + 1) cap5) (T ++ [mk (((S.drop b).drop n1).take x)]) (b + n1 + x)) := n2_more HN.out HVD.out HXX.out (by rw [← HP.out]; exact HGR.out.1) HGR.out.2
                    clear HGR HOW HNW k4 k5 k3 d11
                    go_wp2
                    go_roundw
                    case rel => exact ⟨_, T ++ [mk (((S.drop b).drop n1).take x)], b2, rfl, by simp, by simp; omega, by rw [← HBB.out]; exact HNX.out⟩
                    case measure => simp [intOf]; omega
                · have kx : decide ((r2 : Int) < (x : Int)) = true := decide_eq_true (by omega)
                  have kxn : decide (r2 < x) = true := decide_eq_true (by omega)
                  have HE : Hid (rdMsg S = none) := HN.out.stop HRD.out hlt (txt_none HVD.out (by rw [HSL.out, ← HR2.out]; exact hx))
                  clear hx
                  obtain ⟨z0, z1, z2, z3, z4, z5, z6, z7, z8, z9, z10, z11, z12⟩ := cells13 H0W.out
                  have hfr := frozen0 H0W.out
                  go_wp2
                  refine bodyPost_ret (v := ?vz8) ?c1z8 rfl ?c2z8
                  case c1z8 =>
                    rw [results_cell_tmp rfl]
                    go_simp
                    all_goals exact rfl
                  case c2z8 =>
                    refine .inr ⟨HE.out, rfl, ?_⟩
                    simp only [bl_set]
                    exact HBE.out
              · have HE : Hid (rdMsg S = none) := HN.out.stop HRD.out hlt (txt_bad hvd)
                clear hvd
                rcases he with he | he
                all_goals
                  cases he
                  obtain ⟨z0, z1, z2, z3, z4, z5, z6, z7, z8, z9, z10, z11, z12⟩ := cells13 H0W.out
                  have hfr := frozen0 H0W.out
                  go_wp2
                  refine bodyPost_ret (v := ?vz9) ?c1z9 rfl ?c2z9
                  case c1z9 =>
                    rw [results_cell_tmp rfl]
                    go_simp
                    all_goals exact rfl
                  case c2z9 =>
                    refine .inr ⟨HE.out, rfl, ?_⟩
                    simp only [bl_set]
                    exact HBE.out
            · have hTt : T.length = a11 := by omega
              have hlti : decide ((T.length : Int) < (a11 : Int)) = false := decide_eq_false (by omega)
              have hltn : decide (T.length < a11) = false := decide_eq_false (by omega)
              have hraw := raw_body (S := S) (R2 := S.drop b) HRD.out h11 (by show rdLog a11 (S.drop a) = some (T, S.drop b); rw [← hTt]; exact HN.out.rd)
              have HRaw : Hid (rdRaw S = match rdBody (S.drop b) with | none => none | some B => some (msgOf [a0, a1, a2, a3, a4, a5, a6, a7, a8, a9, a10, a11] T B)) := hraw
              clear hraw hTt hlt
              go_wp2_with fail
              refine (HVR.out _ b).mono ?_
              rintro e w1 ⟨hve, hw⟩
              obtain rfl := hw.symm
              rcases hve with ⟨x, n1, hvd, rfl⟩ | ⟨hvd, he⟩
              · have hvl := varD_le hvd
                rw [mk_size, List.length_drop, HSL.out] at hvl
                obtain ⟨hdx, hn1, hn9, hns⟩ := hvl
                by_cases hx2 : x ≤ 256
                · have kx : decide ((256 : Int) < (x : Int)) = false := decide_eq_false (by omega)
                  have HB : Hid (rdBody (S.drop b) = ofL 0 x ((S.drop b).drop n1)) := body_some hvd hx2
                  obtain ⟨b1, hb1i⟩ : ∃ b1 : Nat, b + n1 = b1 := ⟨_, rfl⟩
                  have hb1j : (b : Int) + (n1 : Int) = (b1 : Int) := by omega
                  have hb1l : b1 ≤ sz := by omega
                  have HOF : Hid (∀ W, Calls Try.prog 31 #[.string ((mk S).extract b1 sz), .int .i64 0, .int .i64 (x : Nat)] W fun e w' => OfEnd W (ofL 0 x ((S.drop b).drop n1)) e w') := fun W => by
                    have h1 := rof_ok (S.drop b1) 0 (x : Nat) W (by omega) (by rw [List.length_drop]; omega)
                    have e1 : ofO (S.drop b1) 0 (x : Nat) = ofL 0 x ((S.drop b).drop n1) := by unfold ofO; rw [if_pos ⟨by decide, by omega⟩, List.drop_drop, hb1i]; rfl
                    rw [e1] at h1
                    rw [← hsz, extract_drop]
                    exact h1
                  clear hvd hb1i
                  go_wp2_with fail
                  refine (HOF.out _).mono ?_
                  rintro e w3 (⟨L, v, hof, rfl, hown, hb3⟩ | ⟨hof, rfl, hb3⟩)
                  · obtain ⟨hLx, hLs⟩ := ofL_all hof
                    obtain ⟨ba, bc, hva, hRI⟩ := hown.slice
                    obtain ⟨la, lc, hVa, hTI⟩ := HN.out.own.slice
                    subst hva hVa
                    have hM : msgOf [a0, a1, a2, a3, a4, a5, a6, a7, a8, a9, a10, a11] T L = ⟨a0, a1, a2, a3, a4, a5, a6, a7, a8, a9, a10, T, L⟩ := rfl
                    have HRW : Hid (rdRaw S = some ⟨a0, a1, a2, a3, a4, a5, a6, a7, a8, a9, a10, T, L⟩) := by rw [HRaw.out, HB.out, hof]; exact congrArg some hM
                    have hmb3 : w3.heap[mb]? = some (.cells #[.int .i64 (a0 : Nat), .int .i64 (a1 : Nat), .int .i64 (a2 : Nat), .int .i64 (a3 : Nat), .int .i64 (a4 : Nat), .int .i64 (a5 : Nat), .int .i64 (a6 : Nat), .int .i64 (a7 : Nat), .int .i64 (a8 : Nat), .int .i64 (a9 : Nat), .int .i64 (a10 : Nat), .slice la T.length lc, .slice none 0 0] 28 (0, 0)) := (hb3.block _ (lt_of_block HN.out.hm)).trans HN.out.hm
                    have h003 : w3.heap[w.heap.size]? = some (.cells zero13 28 (0, 0)) := zero13_keep H0W.out hb3
                    have y1 := (cells13 hmb3).2.2.2.2.2.2.2.2.2.2.2.2
                    have y2 := frozen0 hmb3 12
                    have hne : w.heap.size < mb := HLT.out.2
                    have hm3 : mb < wr.heap.size := lt_of_block HN.out.hm
                    have H4m : Hid ((w3.setCell ⟨mb, 12, none⟩ (.slice ba L.length bc)).heap[mb]? = some (.cells #[.int .i64 (a0 : Nat), .int .i64 (a1 : Nat), .int .i64 (a2 : Nat), .int .i64 (a3 : Nat), .int .i64 (a4 : Nat), .int .i64 (a5 : Nat), .int .i64 (a6 : Nat), .int .i64 (a7 : Nat), .int .i64 (a8 : Nat), .int .i64 (a9 : Nat), .int .i64 (a10 : Nat), .slice la T.length lc, .slice ba L.length bc] 28 (0, 0))) := (block_setCell hmb3).trans (by simp)
                    have H40 : Hid ((w3.setCell ⟨mb, 12, none⟩ (.slice ba L.length bc)).heap[w.heap.size]? = some (.cells zero13 28 (0, 0))) := (Below.heap_setCell _ _ _ _ (by show w.heap.size ≠ mb; omega)).trans h003
                    have H4B : Hid (Below w.heap.size w (w3.setCell ⟨mb, 12, none⟩ (.slice ba L.length bc))) := (HBE.out.trans (hb3.mono HBE.out.size)).setCell HN.out.low _
                    have HKQ : Hid (∀ W, Kq (mb + 1) w3 W → MIn W ⟨a0, a1, a2, a3, a4, a5, a6, a7, a8, a9, a10, T, L⟩ ⟨la, lc, ba, bc⟩) := fun W hW => by
                      have hO : OT w3 (mb + 1) (.slice la T.length lc) T := HN.out.own.keep (fun k _ hk2 => hb3.block k hk2)
                      obtain ⟨p1, p2, p3, hTI'⟩ := (hO.kq hW).slice
                      obtain ⟨q1, q2, q3, hRI'⟩ := (hown.kq (w' := W) ⟨hW.size, fun k hk hk2 => hW.block k (by omega) hk2⟩).slice
                      cases p3
                      cases q3
                      exact ⟨hTI', hRI', fun y hy => (by have := HN.out.tsz y hy; rw [HSL.out] at this; omega), hLs, (by show T.length ≤ _; omega), (by show L.length ≤ _; rw [hLx]; omega)⟩
                    have HQ4 : Hid (Kq (mb + 1) w3 (w3.setCell ⟨mb, 12, none⟩ (.slice ba L.length bc))) := (kq_set (by omega)).2 (Kq.refl _ _)
                    have HMY : Hid (∀ W, MIn W ⟨a0, a1, a2, a3, a4, a5, a6, a7, a8, a9, a10, T, L⟩ ⟨la, lc, ba, bc⟩ → Calls Try.prog 22 #[.agg #[.int .i64 (a0 : Nat), .int .i64 (a1 : Nat), .int .i64 (a2 : Nat), .int .i64 (a3 : Nat), .int .i64 (a4 : Nat), .int .i64 (a5 : Nat), .int .i64 (a6 : Nat), .int .i64 (a7 : Nat), .int .i64 (a8 : Nat), .int .i64 (a9 : Nat), .int .i64 (a10 : Nat), .slice la T.length lc, .slice ba L.length bc]] W fun e w' => e = .returned (.bool (mayM ⟨a0, a1, a2, a3, a4, a5, a6, a7, a8, a9, a10, T, L⟩)) ∧ Below W.heap.size W w') := fun W h => wmay_ok ⟨a0, a1, a2, a3, a4, a5, a6, a7, a8, a9, a10, T, L⟩ ⟨la, lc, ba, bc⟩ W h
                    clear hof hb3 hown hRI hTI hM hmb3 h003 hLx hLs HOF HB HRaw
                    generalize hW4 : w3.setCell ⟨mb, 12, none⟩ (.slice ba L.length bc) = w4 at H4m H40 H4B HQ4
                    go_upto_region 29 with fail
                    clear hW4 y1 y2 c11
                    obtain ⟨m0, m1, m2, m3, m4, m5, m6, m7, m8, m9, m10, m11, m12⟩ := cells13 H4m.out
                    go_wp2_with fail
                    refine (HMY.out _ (HKQ.out _ HQ4.out)).mono ?_
                    rintro e w5 ⟨rfl, hb5⟩
                    have H5m : Hid (w5.heap[mb]? = some (.cells #[.int .i64 (a0 : Nat), .int .i64 (a1 : Nat), .int .i64 (a2 : Nat), .int .i64 (a3 : Nat), .int .i64 (a4 : Nat), .int .i64 (a5 : Nat), .int .i64 (a6 : Nat), .int .i64 (a7 : Nat), .int .i64 (a8 : Nat), .int .i64 (a9 : Nat), .int .i64 (a10 : Nat), .slice la T.length lc, .slice ba L.length bc] 28 (0, 0))) := (hb5.block _ (lt_of_block H4m.out)).trans H4m.out
                    have H50 : Hid (w5.heap[w.heap.size]? = some (.cells zero13 28 (0, 0))) := zero13_keep H40.out hb5
                    have H5B : Hid (Below w.heap.size w w5) := H4B.out.trans (hb5.mono H4B.out.size)
                    have HQ5 : Hid (Kq (mb + 1) w3 w5) := HQ4.out.trans (Kq.of_below (B := mb + 1) hb5) (Nat.le_refl _)
                    clear hb5 m0 m1 m2 m3 m4 m5 m6 m7 m8 m9 m10 m11 m12
                    by_cases hmy : mayM ⟨a0, a1, a2, a3, a4, a5, a6, a7, a8, a9, a10, T, L⟩ = true
                    · rw [hmy]
                      have HE : Hid (rdMsg S = some ⟨a0, a1, a2, a3, a4, a5, a6, a7, a8, a9, a10, T, L⟩) := msg_good HRW.out hmy
                      clear hmy
                      obtain ⟨m0, m1, m2, m3, m4, m5, m6, m7, m8, m9, m10, m11, m12⟩ := cells13 H5m.out
                      obtain ⟨z0, z1, z2, z3, z4, z5, z6, z7, z8, z9, z10, z11, z12⟩ := cells13 H50.out
                      have hfr := frozen0 H50.out
                      go_wp2
                      refine bodyPost_ret (v := ?vgood) ?c1good rfl ?c2good
                      case c1good =>
                        rw [results_cell_tmp rfl]
                        go_simp
                        all_goals exact rfl
                      case c2good =>
                        have k0 : w.heap.size < mb + 1 := by omega
                        refine .inl ⟨⟨a0, a1, a2, a3, a4, a5, a6, a7, a8, a9, a10, T, L⟩, ⟨la, lc, ba, bc⟩, HE.out, rfl, HKQ.out _ ?_, ?_⟩
                        · simp only [kq_set k0]
                          exact HQ5.out
                        · simp only [bl_set]
                          exact H5B.out
                    · have hmy' : mayM ⟨a0, a1, a2, a3, a4, a5, a6, a7, a8, a9, a10, T, L⟩ = false := by simpa using hmy
                      rw [hmy']
                      have HE : Hid (rdMsg S = none) := msg_bad HRW.out hmy'
                      clear hmy hmy'
                      obtain ⟨z0, z1, z2, z3, z4, z5, z6, z7, z8, z9, z10, z11, z12⟩ := cells13 H50.out
                      have hfr := frozen0 H50.out
                      go_wp2
                      refine bodyPost_ret (v := ?vz4) ?c1z4 rfl ?c2z4
                      case c1z4 =>
                        rw [results_cell_tmp rfl]
                        go_simp
                        all_goals exact rfl
                      case c2z4 =>
                        refine .inr ⟨HE.out, rfl, ?_⟩
                        simp only [bl_set]
                        exact H5B.out
                  · have HE : Hid (rdMsg S = none) := msg_none (by rw [HRaw.out, HB.out, hof])
                    obtain ⟨la, lc, hVa, hTI⟩ := HN.out.own.slice
                    subst hVa
                    have hmb3 : w3.heap[mb]? = some (.cells #[.int .i64 (a0 : Nat), .int .i64 (a1 : Nat), .int .i64 (a2 : Nat), .int .i64 (a3 : Nat), .int .i64 (a4 : Nat), .int .i64 (a5 : Nat), .int .i64 (a6 : Nat), .int .i64 (a7 : Nat), .int .i64 (a8 : Nat), .int .i64 (a9 : Nat), .int .i64 (a10 : Nat), .slice la T.length lc, .slice none 0 0] 28 (0, 0)) := (hb3.block _ (lt_of_block HN.out.hm)).trans HN.out.hm
                    have h003 : w3.heap[w.heap.size]? = some (.cells zero13 28 (0, 0)) := zero13_keep H0W.out hb3
                    have y1 := (cells13 hmb3).2.2.2.2.2.2.2.2.2.2.2.2
                    have y2 := frozen0 hmb3 12
                    have hne : w.heap.size < mb := HLT.out.2
                    have H40 : Hid ((w3.setCell ⟨mb, 12, none⟩ (.slice none 0 0)).heap[w.heap.size]? = some (.cells zero13 28 (0, 0))) := (Below.heap_setCell _ _ _ _ (by show w.heap.size ≠ mb; omega)).trans h003
                    have H4B : Hid (Below w.heap.size w (w3.setCell ⟨mb, 12, none⟩ (.slice none 0 0))) := (HBE.out.trans (hb3.mono HBE.out.size)).setCell HN.out.low _
                    clear hof hb3 hTI hmb3 h003 HOF HB HRaw
                    generalize hW4 : w3.setCell ⟨mb, 12, none⟩ (.slice none 0 0) = w4 at H40 H4B
                    go_upto_region 29 with fail
                    clear hW4 y1 y2 c11
                    obtain ⟨z0, z1, z2, z3, z4, z5, z6, z7, z8, z9, z10, z11, z12⟩ := cells13 H40.out
                    have hfr := frozen0 H40.out
                    go_wp2
                    refine bodyPost_ret (v := ?vz5) ?c1z5 rfl ?c2z5
                    case c1z5 =>
                      rw [results_cell_tmp rfl]
                      go_simp
                      all_goals exact rfl
                    case c2z5 =>
                      refine .inr ⟨HE.out, rfl, ?_⟩
                      simp only [bl_set]
                      exact H4B.out
                · have kx : decide ((256 : Int) < (x : Int)) = true := decide_eq_true (by omega)
                  have HE : Hid (rdMsg S = none) := msg_none (by rw [HRaw.out, body_many hvd hx2])
                  clear hvd hx2
                  obtain ⟨z0, z1, z2, z3, z4, z5, z6, z7, z8, z9, z10, z11, z12⟩ := cells13 H0W.out
                  have hfr := frozen0 H0W.out
                  go_wp2
                  refine bodyPost_ret (v := ?vz6) ?c1z6 rfl ?c2z6
                  case c1z6 =>
                    rw [results_cell_tmp rfl]
                    go_simp
                    all_goals exact rfl
                  case c2z6 =>
                    refine .inr ⟨HE.out, rfl, ?_⟩
                    simp only [bl_set]
                    exact HBE.out
              · have HE : Hid (rdMsg S = none) := msg_none (by rw [HRaw.out, body_none hvd])
                clear hvd
                rcases he with he | he
                all_goals
                  cases he
                  obtain ⟨z0, z1, z2, z3, z4, z5, z6, z7, z8, z9, z10, z11, z12⟩ := cells13 H0W.out
                  have hfr := frozen0 H0W.out
                  go_wp2
                  refine bodyPost_ret (v := ?vz7) ?c1z7 rfl ?c2z7
                  case c1z7 =>
                    rw [results_cell_tmp rfl]
                    go_simp
                    all_goals exact rfl
                  case c2z7 =>
                    refine .inr ⟨HE.out, rfl, ?_⟩
                    simp only [bl_set]
                    exact HBE.out
        · have k11 : decide ((4096 : Int) < (a11 : Int)) = true := decide_eq_true (by omega)
          have HE : Hid (rdMsg S = none) := msg_many HRD.out h11
          clear h7 h11
          obtain ⟨z0, z1, z2, z3, z4, z5, z6, z7, z8, z9, z10, z11, z12⟩ := cells13 HN.out.h0
          have hfr := frozen0 HN.out.h0
          go_wp2
          refine bodyPost_ret (v := ?vz3) ?c1z3 rfl ?c2z3
          case c1z3 =>
            rw [results_cell_tmp rfl]
            go_simp
            all_goals exact rfl
          case c2z3 =>
            refine .inr ⟨HE.out, rfl, ?_⟩
            simp only [bl_set]
            exact HBE.out
end Go.Proofs.Ytalpbnkmppdgdaa
