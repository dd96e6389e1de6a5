/- xxHash32 of the document, of sixteen bytes and more: its contract. -/
/- SumsHash: the law's walk. -/
import Derived.Test.YtbncfpbehahidaaGh1
import Derived.Deep.RegionWith
namespace Go.Proofs.Ytbncfpbehahidaa.S2
open Go.RowKit
set_option linter.unusedVariables false
set_option maxRecDepth 20000

/-- The row of the four lanes. -/
def vrow (v : Nat → Nat) : Array Value := #[.int .i64 (v 0 : Nat), .int .i64 (v 1 : Nat), .int .i64 (v 2 : Nat), .int .i64 (v 3 : Nat)]
def VB (w : World) (g : Nat) (v : Nat → Nat) : Prop := w.heap[g]? = some (.cells (vrow v) 65 (0, 0))
theorem VB.at {w : World} {g : Nat} {v : Nat → Nat} (h : VB w g v) (i : Nat) (hi : i < 4) : w.cell? ⟨g, i, none⟩ = some (.int .i64 (v i : Nat)) := by
  unfold VB at h
  rcases (show i = 0 ∨ i = 1 ∨ i = 2 ∨ i = 3 by omega) with rfl | rfl | rfl | rfl <;> simp [World.cell?, h, vrow]
theorem VB.free {w : World} {g : Nat} {v : Nat → Nat} (h : VB w g v) (i : Nat) : w.frozen? ⟨g, i, none⟩ = false := by
  unfold VB at h
  simp [World.frozen?, h]
theorem VB.drewN {w : World} {g : Nat} {v : Nat → Nat} (h : VB w g v) (k : Nat) : VB (w.drewN k) g v := h
theorem VB.set {w : World} {g : Nat} {v v' : Nat → Nat} (h : VB w g v) (i x : Nat) (hi : i < 4) (e : ∀ k, k < 4 → v' k = if k = i then x else v k) : VB (w.setCell ⟨g, i, none⟩ (.int .i64 (x : Nat))) g v' := by
  have := block_setCell (i := i) (u := .int .i64 (x : Nat)) h
  unfold VB
  rw [this]
  congr 2
  unfold vrow
  rw [e 0 (by omega), e 1 (by omega), e 2 (by omega), e 3 (by omega)]
  rcases (show i = 0 ∨ i = 1 ∨ i = 2 ∨ i = 3 by omega) with rfl | rfl | rfl | rfl <;> rfl
theorem lane0 (sd : Nat) : ((sd : Int) + 2654435761 + 2246822519) % 4294967296 = ((ini sd 0 : Nat) : Int) := by
  have q := ini0 sd
  omega
theorem lane1 (sd : Nat) : ((sd : Int) + 2246822519) % 4294967296 = ((ini sd 1 : Nat) : Int) := by
  have q := ini1 sd
  omega
theorem lane2 (sd : Nat) (h : sd < 4294967296) : (sd : Int) = ((ini sd 2 : Nat) : Int) := by
  have q := ini2 sd
  omega
theorem lane3 (sd : Nat) : ((sd : Int) - 2654435761) % 4294967296 = ((ini sd 3 : Nat) : Int) := by
  have q := ini3 sd
  omega
theorem sum4 (a b c d h : Nat) (e : (a + b + c + d) % 4294967296 = h) : ((a : Int) + (b : Int) + (c : Int) + (d : Int)) % 4294967296 = (h : Int) := by omega
theorem VB.made (w : World) (l : List Nat) (sd : Nat) (hs : sd < 4294967296) : VB (w.alloc (.cells #[.int .i64 (((sd : Int) + 2654435761 + 2246822519) % 4294967296), .int .i64 (((sd : Int) + 2246822519) % 4294967296), .int .i64 (sd : Int), .int .i64 (((sd : Int) - 2654435761) % 4294967296)] 65)) w.heap.size (fun i => lan l (ini sd i) i 0) := by
  have e : vrow (fun i => lan l (ini sd i) i 0) = #[.int .i64 (((sd : Int) + 2654435761 + 2246822519) % 4294967296), .int .i64 (((sd : Int) + 2246822519) % 4294967296), .int .i64 (sd : Int), .int .i64 (((sd : Int) - 2654435761) % 4294967296)] := by
    rw [lane0, lane1, lane3]
    unfold vrow
    simp only [lan]
    rw [← lane2 sd hs]
  unfold VB
  rw [heap_alloc_new, e]
theorem VB.congr {w : World} {g : Nat} {v v' : Nat → Nat} (h : VB w g v) (e : ∀ i, i < 4 → v' i = v i) : VB w g v' := by
  unfold VB vrow at *
  rw [e 0 (by omega), e 1 (by omega), e 2 (by omega), e 3 (by omega)]
  exact h
/-- The lanes in the midst of a stripe. -/
def mid (l : List Nat) (sd t k : Nat) : Nat → Nat := fun i => if i < k then lan l (ini sd i) i (t + 1) else lan l (ini sd i) i t
set_option maxRecDepth 20000 in
set_option maxHeartbeats 4000000 in
theorem refHash_long (s : ByteArray) (seed : Int) (sd : Nat) (w : World) (hs : s.size ≤ 140737488351232) (hsd : (sd : Int) = seed % 4294967296) (h16 : 16 ≤ s.size) :
    Calls Try.prog 42 #[.string s, .int .i64 seed] w fun e w' => e = .returned (.int .i64 (hashOf (BL s) sd : Nat)) ∧ Below w.heap.size w w' := by
    have hsl : sd < 4294967296 := by omega
    have hsm : bits .and .i64 seed 4294967295 = (sd : Int) := by rw [i64_and_all]; exact hsd.symm
    clear hsd
    have hge : (16 : Int) ≤ (s.size : Int) := by omega
    have b1 := i64_and_all ((sd : Int) + 374761393)
    have b2 := i64_and_all ((sd : Int) + 2654435761 + 2246822519)
    have b3 := i64_and_all ((sd : Int) + 2246822519)
    have b4 := i64_and_all ((sd : Int) - 2654435761)
    have HV0 : Hid (VB (w.alloc (.cells #[.int .i64 (((sd : Int) + 2654435761 + 2246822519) % 4294967296), .int .i64 (((sd : Int) + 2246822519) % 4294967296), .int .i64 (sd : Int), .int .i64 (((sd : Int) - 2654435761) % 4294967296)] 65)) w.heap.size (fun i => lan (BL s) (ini sd i) i 0) ∧ Below w.heap.size w (w.alloc (.cells #[.int .i64 (((sd : Int) + 2654435761 + 2246822519) % 4294967296), .int .i64 (((sd : Int) + 2246822519) % 4294967296), .int .i64 (sd : Int), .int .i64 (((sd : Int) - 2654435761) % 4294967296)] 65))) := by
      exact ⟨VB.made w (BL s) sd hsl, (Below.refl _ _).alloc (Nat.le_refl _) _⟩
    go_enter Try.func42, Try.ntmps42
    go_wp2
    clear b1 b2 b3 b4
    go_loopw [5] (fun at_ wr => ∃ (t a : Nat), a = 16 * t ∧ a ≤ s.size ∧ at_ = .int .i64 a ∧ VB wr w.heap.size (fun i => lan (BL s) (ini sd i) i t) ∧ Below w.heap.size w wr) (fun at_ _ => s.size - (intOf at_).toNat)
    case atStart => exact ⟨0, 0, rfl, by omega, rfl, HV0.out.1, HV0.out.2⟩
    case round =>
      obtain ⟨t, a, ha, hal, rfl, hv, hbel⟩ := hrel
      by_cases hc : a + 16 ≤ s.size
      · have hci : (a : Int) + 16 ≤ (s.size : Int) := by omega
        have HS0 : Hid (VB wr w.heap.size (mid (BL s) sd t 0) ∧ Below w.heap.size w wr ∧ a = 16 * t) := ⟨hv.congr (fun i hi => by unfold mid; rw [if_neg (by omega)]), hbel, ha⟩
        clear hv hbel ha
        go_wp2
        go_loopw [5, 8] (fun at_ kk wr => ∃ (k a2 : Nat), k ≤ 4 ∧ a2 = a + 4 * k ∧ at_ = .int .i64 a2 ∧ kk = .int .i64 k ∧ VB wr w.heap.size (mid (BL s) sd t k) ∧ Below w.heap.size w wr) (fun _ kk _ => 4 - (intOf kk).toNat)
        case atStart => exact ⟨0, a, by omega, by omega, rfl, rfl, HS0.out.1, HS0.out.2.1⟩
        case round =>
          obtain ⟨k, a2, hk, ha2, rfl, rfl, hv, hbel⟩ := hrel
          by_cases hk4 : k < 4
          · have hcell := hv.at k hk4
            have hfree := hv.free k
            have hmk : mid (BL s) sd t k k = lan (BL s) (ini sd k) k t := by unfold mid; rw [if_neg (by omega)]
            rw [hmk] at hcell
            obtain ⟨x, hx⟩ : ∃ x, lan (BL s) (ini sd k) k t = x := ⟨_, rfl⟩
            have hxl : x < 4294967296 := by rw [← hx]; exact lan_lt _ _ _ _ (ini_lt _ _)
            rw [hx] at hcell
            obtain ⟨z, hz⟩ : ∃ z, wd (BL s) a2 = z := ⟨_, rfl⟩
            have hzl : z < 4294967296 := by rw [← hz]; exact wd_lt (BL_lt s) _
            have hF := fun w1 : World => refFour s a2 w1 (by omega) hs
            simp only [hz] at hF
            obtain ⟨m1, hm1⟩ : ∃ m1, hmul z 2246822519 = m1 := ⟨_, rfl⟩
            have hm1l : m1 < 4294967296 := by rw [← hm1]; exact hmul_lt _ _
            have hM := fun w1 : World => refMul z 2246822519 w1 hzl (by omega)
            simp only [hm1, Int.cast_ofNat_Int] at hM
            obtain ⟨u, hu⟩ : ∃ u, (x + m1) % 4294967296 = u := ⟨_, rfl⟩
            have hul : u < 4294967296 := by omega
            have bu := i64_and_all ((x : Int) + (m1 : Int))
            have hui : ((x : Int) + (m1 : Int)) % 4294967296 = (u : Int) := by omega
            have hwx : IntKind.i64.wrap ((x : Int) + (m1 : Int)) = (x : Int) + (m1 : Int) := by rw [IntKind.wrap_i64]; omega
            obtain ⟨r, hr⟩ : ∃ r, rot 13 u = r := ⟨_, rfl⟩
            have hrl : r < 4294967296 := by rw [← hr]; exact rot_lt _ _ (by omega) hul
            have hT := fun w1 : World => refTurned u 13 w1 hul (by omega) (by omega)
            simp only [hr, Int.cast_ofNat_Int] at hT
            obtain ⟨y', hy'⟩ : ∃ y', hmul r 2654435761 = y' := ⟨_, rfl⟩
            have hM2 := fun w1 : World => refMul r 2654435761 w1 hrl (by omega)
            simp only [hy', Int.cast_ofNat_Int] at hM2
            have HY' : Hid (lan (BL s) (ini sd k) k (t + 1) = y') := by
              show _ = _
              simp only [lan]
              rw [hx, ← HS0.out.2.2, ← ha2, hz]
              unfold hstep
              rw [hm1, hu, hr, hy']
            have H1 : Hid _ := hF
            have H2 : Hid _ := hM
            have H3 : Hid _ := hT
            have H4 : Hid _ := hM2
            have HVB : Hid (VB wr w.heap.size (mid (BL s) sd t k) ∧ Below w.heap.size w wr) := ⟨hv, hbel⟩
            have HA2 : Hid (a2 = a + 4 * k) := ha2
            have HN : Hid (∀ N, VB ((wr.drewN N).setCell ⟨w.heap.size, k, none⟩ (.int .i64 (y' : Nat))) w.heap.size (mid (BL s) sd t (k + 1)) ∧ Below w.heap.size w ((wr.drewN N).setCell ⟨w.heap.size, k, none⟩ (.int .i64 (y' : Nat)))) := by
              intro N
              refine ⟨(hv.drewN N).set k y' hk4 (fun i hi => ?_), (below_drewN hbel N).setCell (Nat.le_refl _) (p := ⟨w.heap.size, k, none⟩) _⟩
              unfold mid
              by_cases e : i = k
              · subst e
                rw [if_pos rfl, if_pos (by omega), HY'.out]
              · rw [if_neg e]
                by_cases e2 : i < k
                · rw [if_pos e2, if_pos (by omega)]
                · rw [if_neg e2, if_neg (by omega)]
            have ha2l : a2 + 4 ≤ s.size := by omega
            rw [hui] at bu
            clear hF hM hT hM2 hz hm1 hr hy' hu hv hbel ha2 hx hmk
            go_wp2
            go_region_with (first | (go_at_call_of 53 (Value.int .i64 (a2 : Int)); refine (H1.out _).mono ?_; rintro e w1 ⟨rfl, k1, rfl⟩) | (go_at_call_of 51 (Value.int .i64 (z : Int)); refine (H2.out _).mono ?_; rintro e w1 ⟨rfl, rfl⟩) | (go_at_call_of 52 (Value.int .i64 (u : Int)); refine (H3.out _).mono ?_; rintro e w1 ⟨rfl, k3, rfl⟩) | (go_at_call_of 51 (Value.int .i64 (r : Int)); refine (H4.out _).mono ?_; rintro e w1 ⟨rfl, rfl⟩))
            all_goals
              clear H1 H2 H3 H4 hcell hfree bu hui hwx HVB
              go_wp2
              exact ⟨⟨k + 1, a2 + 4, by omega, by have := HA2.out; omega, by go_num, by go_num, (HN.out _).1, (HN.out _).2⟩, by simp [intOf]; omega⟩
          · obtain rfl : k = 4 := by omega
            have HE : Hid (VB wr w.heap.size (fun i => lan (BL s) (ini sd i) i (t + 1)) ∧ Below w.heap.size w wr ∧ a2 = 16 * (t + 1)) := by
              exact ⟨hv.congr (fun i hi => by unfold mid; rw [if_pos hi]), hbel, by have := HS0.out.2.2; omega⟩
            clear hv hbel
            go_wp2
            exact ⟨⟨t + 1, a2, HE.out.2.2, by omega, rfl, HE.out.1, HE.out.2.1⟩, by simp [intOf]; omega⟩
      · have hci : ¬ ((a : Int) + 16 ≤ (s.size : Int)) := by omega
        have hBL0 := BL_length s
        have ht : t = (BL s).length / 16 := by omega
        obtain ⟨A0, hA0⟩ : ∃ A0, A0 = (BL s).length / 16 * 16 + 4 * 0 := ⟨_, rfl⟩
        have hA00 : a = A0 := by omega
        have HA0 : Hid (A0 = (BL s).length / 16 * 16 + 4 * 0) := hA0
        have c0 := hv.at 0 (by omega)
        have c1 := hv.at 1 (by omega)
        have c2 := hv.at 2 (by omega)
        have c3 := hv.at 3 (by omega)
        obtain ⟨x0, hx0⟩ : ∃ x0, lan (BL s) (ini sd 0) 0 t = x0 := ⟨_, rfl⟩
        obtain ⟨x1, hx1⟩ : ∃ x1, lan (BL s) (ini sd 1) 1 t = x1 := ⟨_, rfl⟩
        obtain ⟨x2, hx2⟩ : ∃ x2, lan (BL s) (ini sd 2) 2 t = x2 := ⟨_, rfl⟩
        obtain ⟨x3, hx3⟩ : ∃ x3, lan (BL s) (ini sd 3) 3 t = x3 := ⟨_, rfl⟩
        have l0 : x0 < 4294967296 := by rw [← hx0]; exact lan_lt _ _ _ _ (ini_lt _ _)
        have l1 : x1 < 4294967296 := by rw [← hx1]; exact lan_lt _ _ _ _ (ini_lt _ _)
        have l2 : x2 < 4294967296 := by rw [← hx2]; exact lan_lt _ _ _ _ (ini_lt _ _)
        have l3 : x3 < 4294967296 := by rw [← hx3]; exact lan_lt _ _ _ _ (ini_lt _ _)
        rw [hx0] at c0
        rw [hx1] at c1
        rw [hx2] at c2
        rw [hx3] at c3
        obtain ⟨r0, hr0⟩ : ∃ r0, rot 1 x0 = r0 := ⟨_, rfl⟩
        obtain ⟨r1, hr1⟩ : ∃ r1, rot 7 x1 = r1 := ⟨_, rfl⟩
        obtain ⟨r2, hr2⟩ : ∃ r2, rot 12 x2 = r2 := ⟨_, rfl⟩
        obtain ⟨r3, hr3⟩ : ∃ r3, rot 18 x3 = r3 := ⟨_, rfl⟩
        have m0 : r0 < 4294967296 := by rw [← hr0]; exact rot_lt _ _ (by omega) l0
        have m1 : r1 < 4294967296 := by rw [← hr1]; exact rot_lt _ _ (by omega) l1
        have m2 : r2 < 4294967296 := by rw [← hr2]; exact rot_lt _ _ (by omega) l2
        have m3 : r3 < 4294967296 := by rw [← hr3]; exact rot_lt _ _ (by omega) l3
        have t0 := fun w1 : World => refTurned x0 1 w1 l0 (by omega) (by omega)
        have t1 := fun w1 : World => refTurned x1 7 w1 l1 (by omega) (by omega)
        have t2 := fun w1 : World => refTurned x2 12 w1 l2 (by omega) (by omega)
        have t3 := fun w1 : World => refTurned x3 18 w1 l3 (by omega) (by omega)
        simp only [hr0, Int.cast_ofNat_Int] at t0
        simp only [hr1, Int.cast_ofNat_Int] at t1
        simp only [hr2, Int.cast_ofNat_Int] at t2
        simp only [hr3, Int.cast_ofNat_Int] at t3
        have HT0 : Hid _ := t0
        have HT1 : Hid _ := t1
        have HT2 : Hid _ := t2
        have HT3 : Hid _ := t3
        obtain ⟨h0, hh0⟩ : ∃ h0, (r0 + r1 + r2 + r3) % 4294967296 = h0 := ⟨_, rfl⟩
        have hh0l : h0 < 4294967296 := by omega
        have hh0i := sum4 r0 r1 r2 r3 h0 hh0
        have bb := i64_and_all ((r0 : Int) + (r1 : Int) + (r2 : Int) + (r3 : Int))
        rw [hh0i] at bb
        have w01 : IntKind.i64.wrap ((r0 : Int) + (r1 : Int)) = (r0 : Int) + (r1 : Int) := by rw [IntKind.wrap_i64]; omega
        have w02 : IntKind.i64.wrap ((r0 : Int) + (r1 : Int) + (r2 : Int)) = (r0 : Int) + (r1 : Int) + (r2 : Int) := by rw [IntKind.wrap_i64]; omega
        have w03 : IntKind.i64.wrap ((r0 : Int) + (r1 : Int) + (r2 : Int) + (r3 : Int)) = (r0 : Int) + (r1 : Int) + (r2 : Int) + (r3 : Int) := by rw [IntKind.wrap_i64]; omega
        obtain ⟨y0, hy00⟩ : ∃ y0, (h0 + s.size) % 4294967296 = y0 := ⟨_, rfl⟩
        have HY0 : Hid ((h0 + s.size) % 4294967296 = y0 ∧ y0 < 4294967296 ∧ hashOf (BL s) sd = spr (hrest (BL s) y0)) := by
          refine ⟨hy00, by omega, ?_⟩
          unfold hashOf hbeg four4
          rw [if_neg (by omega), ← ht, hx0, hx1, hx2, hx3, hr0, hr1, hr2, hr3, hh0, hBL0, hy00]
        have HBB : Hid (Below w.heap.size w wr) := hbel
        clear hv hbel ht hA0 hx0 hx1 hx2 hx3 hr0 hr1 hr2 hr3 t0 t1 t2 t3 hh0 hy00 ha hBL0 hh0i
        subst hA00
        go_wp2
        go_quiet (first | (go_at_call_of 52 (Value.int .i64 (x0 : Int)); refine Calls.quiet_of (HT0.out _)) | (go_at_call_of 52 (Value.int .i64 (x1 : Int)); refine Calls.quiet_of (HT1.out _)) | (go_at_call_of 52 (Value.int .i64 (x2 : Int)); refine Calls.quiet_of (HT2.out _)) | (go_at_call_of 52 (Value.int .i64 (x3 : Int)); refine Calls.quiet_of (HT3.out _)))
        have HWB : Hid (Below w.heap.size w (wr.drewN nq)) := below_drewN HBB.out nq
        clear HT0 HT1 HT2 HT3 c0 c1 c2 c3 bb w01 w02 w03 HBB l0 l1 l2 l3 m0 m1 m2 m3
        have b5 := i64_and_all ((h0 : Int) + (s.size : Int))
        have hy0 : ((h0 : Int) + (s.size : Int)) % 4294967296 = (y0 : Int) := by have := HY0.out.1; omega
        go_wp2
        (try rw [hy0])
        clear b5 hy0
        go_loopw [5, 6] (fun at_ h wr => ∃ (j a y : Nat), 4 * j ≤ (BL s).length % 16 ∧ a = (BL s).length / 16 * 16 + 4 * j ∧ at_ = .int .i64 a ∧ h = .int .i64 (y : Nat) ∧ y < 4294967296 ∧ y = hws (BL s) ((BL s).length / 16 * 16) y0 j ∧ Below w.heap.size w wr) (fun at_ _ _ => s.size - (intOf at_).toNat)
        case atStart => exact ⟨0, a, y0, by omega, HA0.out, rfl, rfl, HY0.out.2.1, rfl, HWB.out⟩
        case round =>
          obtain ⟨j, a, y, hj, ha, rfl, rfl, hyl, hy, hbel⟩ := hrel
          have hBL := BL_length s
          have HY : Hid (y = hws (BL s) ((BL s).length / 16 * 16) y0 j) := hy
          have HA : Hid (a = (BL s).length / 16 * 16 + 4 * j ∧ 4 * j ≤ (BL s).length % 16) := ⟨ha, hj⟩
          have HBL : Hid (Below w.heap.size w wr) := hbel
          have has : a ≤ s.size := by omega
          clear hy ha hj hbel
          by_cases hc4 : a + 4 ≤ s.size
          · have hci : (a : Int) + 4 ≤ (s.size : Int) := by omega
            have HJ : Hid (4 * j + 4 ≤ (BL s).length % 16) := by have := HA.out; show _ ≤ _; omega
            clear hBL
            obtain ⟨z, hz⟩ : ∃ z, wd (BL s) a = z := ⟨_, rfl⟩
            have hzl : z < 4294967296 := by rw [← hz]; exact wd_lt (BL_lt s) _
            have hF := fun w1 : World => refFour s a w1 hc4 hs
            simp only [hz] at hF
            obtain ⟨m1, hm1⟩ : ∃ m1, hmul z 3266489917 = m1 := ⟨_, rfl⟩
            have hm1l : m1 < 4294967296 := by rw [← hm1]; exact hmul_lt _ _
            have hM := fun w1 : World => refMul z 3266489917 w1 hzl (by omega)
            simp only [hm1, Int.cast_ofNat_Int] at hM
            obtain ⟨u, hu⟩ : ∃ u, (y + m1) % 4294967296 = u := ⟨_, rfl⟩
            have hul : u < 4294967296 := by omega
            have bu := i64_and_all ((y : Int) + (m1 : Int))
            have hui : ((y : Int) + (m1 : Int)) % 4294967296 = (u : Int) := by omega
            obtain ⟨r, hr⟩ : ∃ r, rot 17 u = r := ⟨_, rfl⟩
            have hrl : r < 4294967296 := by rw [← hr]; exact rot_lt _ _ (by omega) hul
            have hT := fun w1 : World => refTurned u 17 w1 hul (by omega) (by omega)
            simp only [hr, Int.cast_ofNat_Int] at hT
            obtain ⟨y', hy'⟩ : ∃ y', hmul r 668265263 = y' := ⟨_, rfl⟩
            have hM2 := fun w1 : World => refMul r 668265263 w1 hrl (by omega)
            simp only [hy', Int.cast_ofNat_Int] at hM2
            have HY' : Hid (y' < 4294967296 ∧ y' = hws (BL s) ((BL s).length / 16 * 16) y0 (j + 1)) := by
              constructor
              · rw [← hy']; exact hmul_lt _ _
              · simp only [hws]
                rw [← HY.out, ← HA.out.1, hz]
                unfold hstep
                rw [hm1, hu, hr, hy']
            have H1 : Hid _ := hF
            have H2 : Hid _ := hM
            have H3 : Hid _ := hT
            have H4 : Hid _ := hM2
            clear hF hM hT hM2 hz hm1 hr hy' hu
            rw [hui] at bu
            go_wp2_with fail
            refine (H1.out _).mono ?_
            rintro e w1 ⟨rfl, k1, hw1⟩
            have HB1 : Hid (Below w.heap.size w w1) := by rw [hw1]; exact below_drewN HBL.out k1
            clear hw1
            go_wp2_with fail
            refine (H2.out _).mono ?_
            rintro e w2 ⟨rfl, hw2⟩
            obtain rfl := hw2.symm
            go_wp2_with fail
            refine (H3.out _).mono ?_
            rintro e w3 ⟨rfl, k3, hw3⟩
            have HB3 : Hid (Below w.heap.size w w3) := by rw [hw3]; exact below_drewN HB1.out k3
            clear hw3
            go_wp2_with fail
            refine (H4.out _).mono ?_
            rintro e w4 ⟨rfl, hw4⟩
            obtain rfl := hw4.symm
            go_wp2
            go_roundw
            case rel => exact ⟨j + 1, a + 4, y', by have := HJ.out; omega, by have := HA.out; omega, by go_num, rfl, HY'.out.1, HY'.out.2, HB3.out⟩
            case measure => simp [intOf]; omega
          · have hci : ¬ ((a : Int) + 4 ≤ (s.size : Int)) := by omega
            have HJ : Hid (j = (BL s).length % 16 / 4 ∧ a = (BL s).length / 4 * 4) := by have := HA.out; constructor <;> omega
            clear hBL
            go_wp2
            go_loopw [5, 6] (fun at_ h wr => ∃ (i a2 v : Nat), i ≤ (BL s).length % 4 ∧ a2 = (BL s).length / 4 * 4 + i ∧ at_ = .int .i64 a2 ∧ h = .int .i64 (v : Nat) ∧ v < 4294967296 ∧ v = hbs (BL s) ((BL s).length / 4 * 4) y i ∧ Below w.heap.size w wr) (fun at_ _ _ => s.size - (intOf at_).toNat)
            case atStart => exact ⟨0, a, y, by omega, by rw [HJ.out.2]; rfl, rfl, rfl, hyl, rfl, HBL.out⟩
            case round =>
              obtain ⟨i, a2, v, hi, ha2, rfl, rfl, hvl, hv, hbel⟩ := hrel
              have hBL := BL_length s
              have HV : Hid (v = hbs (BL s) ((BL s).length / 4 * 4) y i) := hv
              have HA2 : Hid (a2 = (BL s).length / 4 * 4 + i ∧ i ≤ (BL s).length % 4) := ⟨ha2, hi⟩
              have HBL2 : Hid (Below w.heap.size w wr) := hbel
              have has2 : a2 ≤ s.size := by omega
              clear hv ha2 hi hbel
              by_cases hlt : a2 < s.size
              · have HJ2 : Hid (i < (BL s).length % 4) := by have := HA2.out; show _ < _; omega
                clear hBL
                obtain ⟨z, hz⟩ : ∃ z, s[a2].toNat = z := ⟨_, rfl⟩
                have hzl : z < 4294967296 := by rw [← hz]; have := UInt8.toNat_lt s[a2]; omega
                have hzw : wrap64 (z : Int) = (z : Int) := IntWalk.wrap64_in _ ⟨by omega, by omega⟩
                obtain ⟨m1, hm1⟩ : ∃ m1, hmul z 374761393 = m1 := ⟨_, rfl⟩
                have hm1l : m1 < 4294967296 := by rw [← hm1]; exact hmul_lt _ _
                have hM := fun w1 : World => refMul z 374761393 w1 hzl (by omega)
                simp only [hm1, Int.cast_ofNat_Int] at hM
                obtain ⟨u, hu⟩ : ∃ u, (v + m1) % 4294967296 = u := ⟨_, rfl⟩
                have hul : u < 4294967296 := by omega
                have bu := i64_and_all ((v : Int) + (m1 : Int))
                have hui : ((v : Int) + (m1 : Int)) % 4294967296 = (u : Int) := by omega
                obtain ⟨r, hr⟩ : ∃ r, rot 11 u = r := ⟨_, rfl⟩
                have hrl : r < 4294967296 := by rw [← hr]; exact rot_lt _ _ (by omega) hul
                have hT := fun w1 : World => refTurned u 11 w1 hul (by omega) (by omega)
                simp only [hr, Int.cast_ofNat_Int] at hT
                obtain ⟨y', hy'⟩ : ∃ y', hmul r 2654435761 = y' := ⟨_, rfl⟩
                have hM2 := fun w1 : World => refMul r 2654435761 w1 hrl (by omega)
                simp only [hy', Int.cast_ofNat_Int] at hM2
                have HY' : Hid (y' < 4294967296 ∧ y' = hbs (BL s) ((BL s).length / 4 * 4) y (i + 1)) := by
                  constructor
                  · rw [← hy']; exact hmul_lt _ _
                  · simp only [hbs]
                    rw [← HV.out, ← HA2.out.1, ← BL_getD s a2 hlt, hz]
                    unfold hstep
                    rw [hm1, hu, hr, hy']
                have HZ : Hid (s[a2].toNat = z) := hz
                have H2 : Hid _ := hM
                have H3 : Hid _ := hT
                have H4 : Hid _ := hM2
                clear hM hT hM2 hm1 hr hy' hu
                rw [hui] at bu
                go_wp2_with fail
                refine (H2.out _).mono ?_
                rintro e w2 ⟨rfl, hw2⟩
                obtain rfl := hw2.symm
                go_wp2_with fail
                refine (H3.out _).mono ?_
                rintro e w3 ⟨rfl, k3, hw3⟩
                have HB3 : Hid (Below w.heap.size w w3) := by rw [hw3]; exact below_drewN HBL2.out k3
                clear hw3
                go_wp2_with fail
                refine (H4.out _).mono ?_
                rintro e w4 ⟨rfl, hw4⟩
                obtain rfl := hw4.symm
                go_wp2
                go_roundw
                case rel => exact ⟨i + 1, a2 + 1, y', by have := HJ2.out; omega, by have := HA2.out; omega, by go_num, rfl, HY'.out.1, HY'.out.2, HB3.out⟩
                case measure => simp [intOf]; omega
              · have HE : Hid (spr v = hashOf (BL s) sd) := by
                  show _ = _
                  have e1 := HA2.out
                  have e2 : i = (BL s).length % 4 := by omega
                  rw [HY0.out.2.2]
                  unfold hrest
                  rw [← HJ.out.1, ← e2, ← HY.out, ← HV.out]
                clear hBL
                have x1 := xsh_i64 v 15 32768 hvl rfl
                obtain ⟨v1, hv1⟩ : ∃ v1, xsh 15 v = v1 := ⟨_, rfl⟩
                have hv1l : v1 < 4294967296 := by rw [← hv1]; exact xsh_lt _ _ hvl
                have hN1 := fun w1 : World => refMul v1 2246822519 w1 hv1l (by omega)
                obtain ⟨v2, hv2⟩ : ∃ v2, hmul v1 2246822519 = v2 := ⟨_, rfl⟩
                have hv2l : v2 < 4294967296 := by rw [← hv2]; exact hmul_lt _ _
                simp only [hv2, Int.cast_ofNat_Int] at hN1
                have x2 := xsh_i64 v2 13 8192 hv2l rfl
                obtain ⟨v3, hv3⟩ : ∃ v3, xsh 13 v2 = v3 := ⟨_, rfl⟩
                have hv3l : v3 < 4294967296 := by rw [← hv3]; exact xsh_lt _ _ hv2l
                have hN2 := fun w1 : World => refMul v3 3266489917 w1 hv3l (by omega)
                obtain ⟨v4, hv4⟩ : ∃ v4, hmul v3 3266489917 = v4 := ⟨_, rfl⟩
                have hv4l : v4 < 4294967296 := by rw [← hv4]; exact hmul_lt _ _
                simp only [hv4, Int.cast_ofNat_Int] at hN2
                have x3 := xsh_i64 v4 16 65536 hv4l rfl
                simp only [Int.cast_ofNat_Int, hv1, hv3] at x1 x2 x3
                have HF : Hid (xsh 16 v4 = hashOf (BL s) sd) := by
                  show _ = _
                  rw [← HE.out]
                  unfold spr
                  rw [hv1, hv2, hv3, hv4]
                have H1 : Hid _ := hN1
                have H2 : Hid _ := hN2
                clear hN1 hN2 hv1 hv2 hv3 hv4
                go_wp2_with fail
                refine (H1.out _).mono ?_
                rintro e w2 ⟨rfl, hw2⟩
                obtain rfl := hw2.symm
                go_wp2_with fail
                refine (H2.out _).mono ?_
                rintro e w2 ⟨rfl, hw2⟩
                obtain rfl := hw2.symm
                go_wp2
                go_ret
                exact ⟨ret_int (by rw [← HF.out]), HBL2.out⟩

end Go.Proofs.Ytbncfpbehahidaa.S2
namespace Go.Proofs.Ytbncfpbehahidaa.S2
open Go.RowKit
set_option linter.unusedVariables false
set_option maxRecDepth 20000

theorem refHash (s : ByteArray) (seed : Int) (sd : Nat) (w : World) (hs : s.size ≤ 140737488351232) (hsd : (sd : Int) = seed % 4294967296) :
    Calls Try.prog 42 #[.string s, .int .i64 seed] w fun e w' => e = .returned (.int .i64 (hashOf (BL s) sd : Nat)) ∧ Below w.heap.size w w' := by
  by_cases h : s.size < 16
  · exact refHash_short s seed sd w hs hsd h
  · exact refHash_long s seed sd w hs hsd (by omega)
end Go.Proofs.Ytbncfpbehahidaa.S2
