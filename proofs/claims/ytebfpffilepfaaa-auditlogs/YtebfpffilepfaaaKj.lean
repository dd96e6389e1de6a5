/- Layer 18: lackIn walked where no step is lower. -/
import Derived.Test.YtebfpffilepfaaaKi
namespace Go.Proofs.Ytebfpffilepfaaa
open Go.RowKit Go.Maps Go.Shelf
set_option linter.unusedVariables false
set_option maxRecDepth 20000

set_option maxHeartbeats 8000000 in
theorem lackIn_high (D : Nat) (a : Option Addr) (cap : Nat) (L : List Due) (lv g : Nat) (T : Nat → Int) (st nd fr er : Int) (ra : Option Addr) (rc : Nat) (M : List Rec) (w : World) (h : DS w D a cap L lv g T) (ht : Tree L lv T) (hup : DUp L) (hdo : ∀ d ∈ L, d.rec'.ok) (hs : ∀ d ∈ L, st ≤ d.step) (hsm : st ≤ 9223372036854775807) (hri : RIn w ra M) (hro : ROk M) (hml : M.length ≤ 1000000000) :
    Calls Try.prog 18 #[.pointer (some ⟨D, 0, none⟩), .agg #[.int .i64 st, .int .i64 nd, .int .i64 fr, .int .i64 er, .slice ra M.length rc]] w (RetD False w) := by
  have HP : Hid (∀ W, Below w.heap.size w W → Calls Try.prog 25 #[.pointer (some ⟨D, 0, none⟩), .int .i64 fr] W fun e w' => ∃ p : Nat, e = .returned (.int .i64 (p : Nat)) ∧ below' L fr p ∧ Below W.heap.size W w') := fun W hb => place_ok D a cap L lv g T fr W (h.below hb) hup
  have HX : Hid (∀ W (p : Nat), Below w.heap.size w W → p ≤ L.length → Calls Try.prog 24 #[.pointer (some ⟨D, 0, none⟩), .int .i64 (p : Nat), .int .i64 st] W fun e w' => e = .returned (.int .i64 (L.length : Nat)) ∧ w' = W) := fun W p hb hp => next_high D a cap L lv g T p st W (h.below hb) ht hs hsm (by have := h.le; have := h.big; omega)
  have HD : Hid (DS w D a cap L lv g T) := h
  have HDI : Hid (DIn w a L) := h.list
  have hlb : L.length ≤ 1000000000 := by have := h.le; have := h.big; omega
  have HUP : Hid (DUp L) := hup
  have HDO : Hid (∀ d ∈ L, d.rec'.ok) := hdo
  have HRI : Hid (RIn w ra M) := hri
  have HRO : Hid (ROk M) := hro
  obtain ⟨c0, c1, c2⟩ := cells3 h.blk
  have HC0 : Hid (w.cell? ⟨D, 0, none⟩ = some (.slice a L.length cap)) := c0
  obtain ⟨Z, hZ⟩ : ∃ Z, False = Z := ⟨_, rfl⟩
  have HZ : Hid (¬ Z) := by rw [← hZ]; exact fun h => h
  obtain ⟨len, hl⟩ : ∃ len, L.length = len := ⟨_, rfl⟩
  have HL : Hid (L.length = len) := hl
  obtain ⟨ml, hmle⟩ : ∃ ml, M.length = ml := ⟨_, rfl⟩
  have HML : Hid (M.length = ml) := hmle
  rw [hl] at HX HC0 hlb
  rw [hmle] at hml ⊢
  rw [hZ]
  clear h ht hup hdo hs hsm hri hro hl hmle hZ c0 c1 c2
  have HBX : Hid (Below w.heap.size w (w.alloc (.cells #[.int .i64 st, .int .i64 nd, .int .i64 fr, .int .i64 er, .slice ra ml rc] 40)) ∧ (w.alloc (.cells #[.int .i64 st, .int .i64 nd, .int .i64 fr, .int .i64 er, .slice ra ml rc] 40)).heap[w.heap.size]? = some (.cells #[.int .i64 st, .int .i64 nd, .int .i64 fr, .int .i64 er, .slice ra ml rc] 40 (0, 0))) := ⟨below_a _ _, heap_alloc_new _ _⟩
  go_enter Try.func18, Try.ntmps18
  go_upto_region 1 with fail
  generalize (w.alloc (.cells #[.int .i64 st, .int .i64 nd, .int .i64 fr, .int .i64 er, .slice ra ml rc] 40)) = wb at HBX
  obtain ⟨f0, f1, f2, f3, f4⟩ := cells5 HBX.out.2
  by_cases hz : ml = 0
  · subst hz
    go_wp2_with fail
    go_ret
    exact ⟨false, rfl, ⟨fun h => (by cases h), fun h => absurd h HZ.out⟩, HBX.out.1⟩
  · obtain ⟨m1, rfl⟩ : ∃ m1, ml = m1 + 1 := ⟨ml - 1, by omega⟩
    have hzi : (((m1 + 1 : Nat) : Int) == 0) = false := by simp; omega
    have hm1 : ((m1 + 1 : Nat) : Int) - 1 = (m1 : Int) := by omega
    have hzz : M[m1]? = some (M[m1]'(by have := HML.out; omega)) := List.getElem?_eq_getElem _
    generalize (M[m1]'(by have := HML.out; omega)) = z at hzz
    have hla : M.getLast? = some z := by rw [List.getLast?_eq_getElem?, HML.out]; exact hzz
    have HLA : Hid (M.getLast? = some z) := hla
    obtain ⟨rb, ro, rfl, hrb, z0, z1, z2, z3⟩ := HRI.out.bel HBX.out.1 _ _ hzz
    clear hzz hla z1 z2 z3
    obtain ⟨la, hla⟩ : ∃ la, z.off = la := ⟨_, rfl⟩
    have HLF : Hid (z.off = la) := hla
    rw [hla] at z0
    clear hla
    go_upto_region 4 with fail
    refine wp_region_held_drew (S := fun w' => w'.cell? ⟨w.heap.size, 0, none⟩ = some (.int .i64 st) ∧ w'.cell? ⟨w.heap.size, 2, none⟩ = some (.int .i64 fr)) (by kernel_rfl) ⟨f0, f2⟩ (fun hHeld => ?_)
    refine wpAnyH_take (i := 0) (v := ?v0a) rfl (by kernel_rfl) (by kernel_rfl) (by kernel_rfl) (fun _ _ _ h => h) (Or.inl ⟨by rfl, fun w hSw => ?hy0a⟩) hHeld ?rest0a
    case hy0a =>
      try dsimp only at hSw
      go_simp
      try with_reducible rfl
    simp only [Act.put, List.setIfInBounds_toArray, List.set_cons_zero, List.set_cons_succ, List.getElem_toArray, List.getElem_cons_zero]
    refine wpAnyH_take (i := 1) (v := ?v1a) rfl (by kernel_rfl) (by kernel_rfl) (by kernel_rfl) (fun _ _ _ h => h) (Or.inl ⟨by rfl, fun w hSw => ?hy1a⟩) hHeld ?rest1a
    case hy1a =>
      try dsimp only at hSw
      go_simp
      try with_reducible rfl
    simp only [Act.put, List.setIfInBounds_toArray, List.set_cons_zero, List.set_cons_succ, List.getElem_toArray, List.getElem_cons_zero, List.getElem_cons_succ]
    refine wpAnyH_take (i := 2) (v := ?v2a) rfl (by kernel_rfl) (by kernel_rfl) (by kernel_rfl) (fun _ _ _ h => h) (Or.inl ⟨by rfl, fun w hSw => ?hy2a⟩) hHeld ?rest2a
    case hy2a =>
      try dsimp only at hSw
      go_simp
      try with_reducible rfl
    simp only [Act.put, List.setIfInBounds_toArray, List.set_cons_zero, List.set_cons_succ, List.getElem_toArray, List.getElem_cons_zero, List.getElem_cons_succ]
    refine wpAnyH_take (i := 3) (v := ?v3a) rfl (by kernel_rfl) (by kernel_rfl) (by kernel_rfl) (fun _ _ _ h => h) (Or.inl ⟨by rfl, fun w hSw => ?hy3a⟩) hHeld ?rest3a
    case hy3a =>
      try dsimp only at hSw
      go_simp
      try with_reducible rfl
    simp only [Act.put, List.setIfInBounds_toArray, List.set_cons_zero, List.set_cons_succ, List.getElem_toArray, List.getElem_cons_zero, List.getElem_cons_succ]
    refine wpAnyH_take (i := 5) (v := ?v5a) rfl (by kernel_rfl) (by kernel_rfl) (by kernel_rfl) (fun _ _ _ h => h) (Or.inl ⟨by rfl, fun w hSw => ?hy5a⟩) hHeld ?rest5a
    case hy5a =>
      try dsimp only at hSw
      go_simp
      try with_reducible rfl
    simp only [Act.put, List.setIfInBounds_toArray, List.set_cons_zero, List.set_cons_succ, List.getElem_toArray, List.getElem_cons_zero, List.getElem_cons_succ]
    refine wpAnyH_take (i := 6) (v := ?v6a) rfl (by kernel_rfl) (by kernel_rfl) (by kernel_rfl) (fun _ _ _ h => h) (Or.inl ⟨by rfl, fun w hSw => ?hy6a⟩) hHeld ?rest6a
    case hy6a =>
      try dsimp only at hSw
      go_simp
      try with_reducible rfl
    simp only [Act.put, List.setIfInBounds_toArray, List.set_cons_zero, List.set_cons_succ, List.getElem_toArray, List.getElem_cons_zero, List.getElem_cons_succ]
    refine wpAnyH_ready (rs := [4]) (by kernel_rfl) (by simp) ?_
    refine AllReadyH.cons rfl (fun K hK => ?_) AllReadyH.nil
    go_simp
    refine (HP.out _ (bl_drew.2 HBX.out.1)).mono ?_
    rintro e w1 ⟨p, rfl, hp, hb1'⟩
    have hb1 : Below wb.heap.size wb w1 := ⟨hb1'.os, hb1'.tape, hb1'.output, hb1'.size, hb1'.block⟩
    have HQ : Hid (below' L fr p) := hp
    have HB1 : Hid (Below w.heap.size w w1) := HBX.out.1.trans (hb1.mono HBX.out.1.size)
    clear hp
    have HG : Hid (w1.cell? ⟨w.heap.size, 0, none⟩ = some (.int .i64 st) ∧ w1.cell? ⟨w.heap.size, 2, none⟩ = some (.int .i64 fr)) := ⟨cellB hb1 f0, cellB hb1 f2⟩
    have HSZ : Hid (w.heap.size < w1.heap.size) := Nat.lt_of_lt_of_le (lt_of_block HBX.out.2) hb1.size
    have HG4 : Hid (w1.cell? ⟨w.heap.size, 4, none⟩ = some (.slice (some ⟨rb, ro, none⟩) (m1 + 1) rc)) := cellB hb1 f4
    clear hHeld
    go_simp
    refine hK.out _ _ ⟨cellB hb1 f0, cellB hb1 f2⟩ (fun hHeld => ?_)
    clear hK
    clear hb1' hb1
    refine wpAnyH_ready (rs := [7]) (by kernel_rfl) (by simp) ?_
    refine AllReadyH.cons rfl (fun K hK => ?_) AllReadyH.nil
    go_simp
    refine (HX.out _ p HB1.out (by have := HQ.out.1; have := HL.out; omega)).mono ?_
    rintro e w2 ⟨rfl, hw⟩
    obtain rfl := hw.symm
    clear hw
    clear hHeld
    go_simp
    refine hK.out _ _ ⟨HG.out.1, HG.out.2⟩ (fun hHeld => ?_)
    clear hK
    refine wpAnyH_take (i := 8) (v := ?v8a) rfl (by kernel_rfl) (by kernel_rfl) (by kernel_rfl) (fun _ _ _ h => h) (Or.inl ⟨by rfl, fun w hSw => ?hy8a⟩) hHeld ?rest8a
    case hy8a =>
      try dsimp only at hSw
      go_simp
      try with_reducible rfl
    simp only [Act.put, List.setIfInBounds_toArray, List.set_cons_zero, List.set_cons_succ, List.getElem_toArray, List.getElem_cons_zero, List.getElem_cons_succ]
    refine wpAnyH_done (by kernel_rfl) ?_ _
    clear z0 f0 f1 f2 f3 f4 hrb
    have d0 := cellB HB1.out HC0.out
    go_wp2_with fail
    go_ret
    exact ⟨false, rfl, ⟨fun h => (by cases h), fun h => absurd h HZ.out⟩, HB1.out⟩
end Go.Proofs.Ytebfpffilepfaaa
