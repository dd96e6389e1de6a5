/- Layer 8: VdiskRoom, the walk. -/
import Derived.Test.YtlnlhecjehapiaaQv
namespace Go.Proofs.Ytlnlhecjehapiaa
open Go.RowKit Go.Maps Go.Sort
set_option linter.unusedVariables false
set_option maxRecDepth 20000

theorem rem3 (y : Nat) : Int.tmod (y : Int) 3 = ((y % 3 : Nat) : Int) := by rw [Int.tmod_eq_emod_of_nonneg (by omega)]; rfl
theorem toBA_zeros (k : Nat) : (toBA (List.replicate k 0)).size = k := by rw [toBA_size, List.length_replicate]
theorem zeros_cells (k : Nat) : (madeCells (Value.int .u8 0).cells (k * 1)).toList = bcells (List.replicate k 0) := by
  have e : (fun x : Nat => [Value.int IntKind.u8 0][x % 1]?.getD default) = fun _ => Value.int .u8 0 := by funext x; simp [Nat.mod_one]
  simp [madeCells, bcells, Value.cells, e, List.map_const']
set_option maxHeartbeats 8000000 in
theorem room_walk (room : Int) (a0 : Option Addr) (len cap : Nat) (f : Nat → Nat → Int) (w : World) (hA : A2 w a0 len f) (hlen : len ≤ 9223372036854775807) :
    Calls Try.prog 5 #[.int .i64 room, .slice a0 len cap] w fun e w' => e = .returned (.bool true) ∧ Below w.heap.size w w' := by
  have HA : Hid (A2 w a0 len f) := hA
  obtain ⟨nn, hn, hand⟩ := andN room 255 (by omega)
  have hand' : bits .and .i64 room 255 = (nn : Int) := hand
  have H0 : Hid (∀ _ : Unit, Calls Try.prog 7 #[.int .i64 (nn : Nat)] w fun e w' => e = .returned (.tuple #[.pointer (some ⟨w.heap.size + 1, 0, none⟩), .int .i64 0]) ∧ VD w' w.heap.size (w.heap.size + 1) nn (fun _ => none) 0 0 ∧ Below w.heap.size w w') := fun _ => new_ok w nn (by omega)
  have HAw : Hid (∀ W, Calls Try.prog 8 #[] W fun e w' => e = .returned (.bool true) ∧ Below W.heap.size W w') := fun W => awake_ok W
  obtain ⟨i0, hi0, hz0, hz1, hz2⟩ := info_parts infoB
  obtain ⟨d, hd⟩ : ∃ d, w.heap.size + 1 = d := ⟨_, rfl⟩
  obtain ⟨B, hB⟩ : ∃ d, w.heap.size = d := ⟨_, rfl⟩
  rw [hd, hB] at H0
  have HBB : Hid (w.heap.size = B) := hB
  rw [hB]
  clear hd hB hA hand
  go_enter Try.func5, Try.ntmps5
  go_wp2_with fail
  refine (H0.out ()).mono ?_
  rintro e w1 ⟨rfl, hv1, hb1⟩
  obtain ⟨nb, hnb⟩ : ∃ x, w1.heap.size = x := ⟨_, rfl⟩
  obtain ⟨wn, hwn⟩ : ∃ W, w1.alloc (.cells #[.string ⟨#[97]⟩, .string ⟨#[98]⟩, .string ⟨#[99]⟩] 9) = W := ⟨_, rfl⟩
  have H1 : Hid (RmSt w B d nn nb 0 wn) := by
    have hbn : Below w1.heap.size w1 wn := by rw [← hwn]; exact (Below.refl _ _).alloc (Nat.le_refl _) _
    have hv2 := hv1.below hbn
    refine ⟨hb1.trans ⟨hbn.os, hbn.tape, hbn.output, hbn.size, fun k hk => hbn.block k (Nat.lt_of_lt_of_le hk hv1.base)⟩, ?_, hv2.base, fun _ => 0, ⟨fun _ => none, hv2, fun _ _ => rfl⟩, rfl⟩
    rw [← hwn, ← hnb]; exact heap_alloc_new _ _
  clear hv1 hb1 H0 hand'
  go_wp2_with fail
  try rw [hwn]
  try rw [hnb]
  clear hwn hnb
  go_loopw [9] (fun v9 wr => ∃ (i : Nat), v9 = .int .i64 (i : Nat) ∧ i ≤ 200 ∧ i ≤ len ∧ Hid (∃ u, RmSt w B d nn nb u wr)) (fun v9 _ => 200 - (intOf v9).toNat)
  case atStart => exact ⟨0, rfl, by omega, by omega, 0, H1.out⟩
  case round =>
    obtain ⟨i, rfl, hi2, hil, HS⟩ := hrel
    obtain ⟨u, hS⟩ := HS.out
    have H : Hid (RmSt w B d nn nb u wr) := hS
    clear hS HS
    by_cases hlt : i < len
    · by_cases h200 : i < 200
      · have hlti : (i : Int) < (len : Int) := by omega
        have h2i : (i : Int) < 200 := by omega
        obtain ⟨b, off, hab, hbw, hcell⟩ := (HA.out).resolve_left (by omega)
        subst hab
        have HCE : Hid (∀ W, Below B w W → W.cell? ⟨b, off + i * 2, none⟩ = some (.int .i64 (f i 0)) ∧ W.cell? ⟨b, off + i * 2 + 1, none⟩ = some (.int .i64 (f i 1))) := fun W hW => by
          have hbl := hW.block b (by rw [← HBB.out]; exact hbw)
          exact ⟨by rw [World.cell?_of_block hbl]; exact hcell i hlt 0 (by omega), by rw [World.cell?_of_block hbl]; exact hcell i hlt 1 (by omega)⟩
        obtain ⟨e0, e1⟩ := HCE.out wr H.out.1
        obtain ⟨y, hy, hay⟩ := andN (f i 0) 255 (by omega)
        obtain ⟨k, hk, hak⟩ := andN (f i 1) 63 (by omega)
        obtain ⟨c, hc, hac⟩ := andN (f i 0) 1792 (by omega)
        have hay' : bits .and .i64 (f i 0) 255 = (y : Int) := hay
        have hak' : bits .and .i64 (f i 1) 63 = (k : Int) := hak
        have hac' : bits .and .i64 (f i 0) 1792 = (c : Int) := hac
        obtain ⟨r, hr⟩ : ∃ r, y % 3 = r := ⟨_, rfl⟩
        have hrl : r < 3 := by omega
        have hrem : Int.tmod (y : Int) 3 = (r : Int) := by rw [rem3, hr]
        have hri : (r : Int) < 3 := by omega
        have hnm := H.out.name r hrl
        obtain ⟨x0, hx0⟩ : ∃ q, f i 0 = q := ⟨_, rfl⟩
        obtain ⟨x1, hx1⟩ : ∃ q, f i 1 = q := ⟨_, rfl⟩
        rw [hx0] at e0 hay' hac'
        rw [hx1] at e1 hak'
        simp only [hx0, hx1] at HCE
        have HH : Hid (bits .and .i64 x0 1792 = (c : Int)) := hac'
        have HI : Hid (i + 1 ≤ 200 ∧ i + 1 ≤ len ∧ 200 - (intOf (.int .i64 ((i : Int) + 1))).toNat < 200 - (intOf (.int .i64 (i : Int))).toNat) := ⟨by omega, by omega, by simp [intOf]; omega⟩
        have HKB : Hid (i0.bytes * k ≤ 281474976710656 ∧ k ≤ maxLen) := ⟨by rw [hz2]; exact Nat.le_trans (Nat.le_of_eq (Nat.one_mul k)) (Nat.le_trans hk (by decide)), Nat.le_trans hk (by decide)⟩
        clear hcell hay hak hac hac' hr hx0 hx1 hy hbw hlt h200
        go_wp2_with fail
        go_quiet (fail)
        have HQ : Hid (RmSt w B d nn nb u (wr.drewN nq)) := H.out.below (Below.drewN' _ _ _)
        clear hnm e0 e1
        go_wp2_with fail
        refine (rm_used HQ.out).mono ?_
        rintro e w2 ⟨rfl, h2⟩
        have H2 : Hid (RmSt w B d nn nb u w2) := h2
        obtain ⟨e0, e1⟩ := HCE.out w2 h2.1
        have hac' := HH.out
        clear h2 hay' hak' hrem hri
        by_cases hc1 : c = 256
        · have hci : ((c : Int) == 256) = true := by simp [hc1]
          clear hc1 e1
          go_wp2_with fail
          refine (rm_remove H2.out r hrl).mono ?_
          rintro e w3 ⟨y3, u3, rfl, h3⟩
          have H3 : Hid (RmSt w B d nn nb u3 w3) := h3
          clear h3
          obtain ⟨y0, y1, y2, z0, z1, z2, HSZ, m0, m1, m2, HS1, hb0, hb1, hb2, HLE⟩ := H3.out.tail hn
          obtain ⟨n0, n1, n2⟩ := H3.out.names
          go_wp2_with fail
          refine wp_loop_rounds 4 ?_
          rw [rounds_succ]
          go_wp2_with fail
          refine (HSZ.out.1).mono ?_
          rintro e W ⟨rfl, hW⟩
          obtain rfl := hW.symm
          clear hW
          go_wp2_with fail
          rw [rounds_succ]
          go_wp2_with fail
          refine (HSZ.out.2.1).mono ?_
          rintro e W ⟨rfl, hW⟩
          obtain rfl := hW.symm
          clear hW
          go_wp2_with fail
          rw [rounds_succ]
          go_wp2_with fail
          refine (HSZ.out.2.2).mono ?_
          rintro e W ⟨rfl, hW⟩
          obtain rfl := hW.symm
          clear hW
          go_wp2_with fail
          rw [rounds_succ]
          go_wp2_with fail
          refine (rm_used H3.out).mono ?_
          rintro e w4 ⟨rfl, h4⟩
          have H4 : Hid (RmSt w B d nn nb u3 w4) := h4
          clear h4
          rw [HS1.out]
          have hle2 := HLE.out
          go_wp2
          exact ⟨⟨i + 1, by go_num, HI.out.1, HI.out.2.1, _, H4.out⟩, HI.out.2.2⟩
        · have hci : ((c : Int) == 256) = false := by simp; omega
          by_cases hc2 : c = 512
          · have hci2 : ((c : Int) == 512) = true := by simp [hc2]
            clear hc1 hc2 e1
            go_wp2_with fail
            refine (rm_cut H2.out r hrl k).mono ?_
            rintro e w3 ⟨y3, u3, rfl, h3⟩
            have H3 : Hid (RmSt w B d nn nb u3 w3) := h3
            clear h3
            obtain ⟨y0, y1, y2, z0, z1, z2, HSZ, m0, m1, m2, HS1, hb0, hb1, hb2, HLE⟩ := H3.out.tail hn
            obtain ⟨n0, n1, n2⟩ := H3.out.names
            go_wp2_with fail
            refine wp_loop_rounds 4 ?_
            rw [rounds_succ]
            go_wp2_with fail
            refine (HSZ.out.1).mono ?_
            rintro e W ⟨rfl, hW⟩
            obtain rfl := hW.symm
            clear hW
            go_wp2_with fail
            rw [rounds_succ]
            go_wp2_with fail
            refine (HSZ.out.2.1).mono ?_
            rintro e W ⟨rfl, hW⟩
            obtain rfl := hW.symm
            clear hW
            go_wp2_with fail
            rw [rounds_succ]
            go_wp2_with fail
            refine (HSZ.out.2.2).mono ?_
            rintro e W ⟨rfl, hW⟩
            obtain rfl := hW.symm
            clear hW
            go_wp2_with fail
            rw [rounds_succ]
            go_wp2_with fail
            refine (rm_used H3.out).mono ?_
            rintro e w4 ⟨rfl, h4⟩
            have H4 : Hid (RmSt w B d nn nb u3 w4) := h4
            clear h4
            rw [HS1.out]
            have hle2 := HLE.out
            go_wp2
            exact ⟨⟨i + 1, by go_num, HI.out.1, HI.out.2.1, _, H4.out⟩, HI.out.2.2⟩
          · have hci2 : ((c : Int) == 512) = false := by simp; omega
            clear hc1 hc2 e1
            have HB2 : Hid (B ≤ w2.heap.size) := H2.out.2.2.1
            obtain ⟨Z, hZ⟩ : ∃ Z, toBA (List.replicate k 0) = Z := ⟨_, rfl⟩
            have hZs : Z.size = k := by rw [← hZ]; exact toBA_zeros k
            have HZ : Hid (toBA (List.replicate k 0) = Z ∧ Z.size = k) := ⟨hZ, hZs⟩
            clear hZ hZs
            go_wp2_with (first
              | (at_make; refine wpList_make_full _ rfl _ _ 48 rfl w2.heap.size 5 i0 (.int .u8 0) 1 Try.underlying48 hi0 hz0 hz1 .i64 .i64 _ _ k rfl rfl rfl rfl HKB.out.1 HKB.out.2 (Nat.le_refl _) ?_; intro wm hrow hgm; have hcv := conv_row (P := Try.prog) wm 48 9 5 w2.heap.size (.slice (some ⟨w2.heap.size, 0, none⟩) k k) (List.replicate k 0) Try.underlying48 Try.underlying5 Try.underlying9 (by rw [List.length_replicate, ← zeros_cells]; exact hrow) (by intro x hx; rw [List.eq_of_mem_replicate hx]; decide); rw [HZ.out.1] at hcv; have HM : Hid (RmSt w B d nn nb u wm) := H2.out.below ⟨hgm.os, hgm.tape, hgm.output, hgm.size, fun j hj => hgm.block j hj (by simp)⟩; clear hrow hgm))
            clear hac'
            have hul := H2.out.le
            refine (rm_append HM.out r hrl Z).mono ?_
            rintro e w3 (⟨g1, rfl, h3⟩ | ⟨g1, rfl, h3⟩)
            · obtain ⟨u3, hu3⟩ : ∃ x, u + Z.size = x := ⟨_, rfl⟩
              rw [hu3] at g1 h3
              have H3' : Hid (RmSt w B d nn nb u3 w3) := h3
              have hu3' : (u : Int) + (k : Int) = (u3 : Int) := by have := HZ.out.2; omega
              have g1i : (u3 : Int) ≤ (nn : Int) := by omega
              clear h3 hu3 g1 hcv
              go_wp2_with fail
              refine (rm_used H3'.out).mono ?_
              rintro e w3a ⟨rfl, h3a⟩
              obtain ⟨w3b, hw3b⟩ : ∃ x, w3a = x := ⟨_, rfl⟩
              subst hw3b
              have H3 : Hid (RmSt w B d nn nb u3 w3a) := h3a
              clear h3a
              obtain ⟨y0, y1, y2, z0, z1, z2, HSZ, m0, m1, m2, HS1, hb0, hb1, hb2, HLE⟩ := H3.out.tail hn
              obtain ⟨n0, n1, n2⟩ := H3.out.names
              go_wp2_with fail
              refine wp_loop_rounds 4 ?_
              rw [rounds_succ]
              go_wp2_with fail
              refine (HSZ.out.1).mono ?_
              rintro e W ⟨rfl, hW⟩
              obtain rfl := hW.symm
              clear hW
              go_wp2_with fail
              rw [rounds_succ]
              go_wp2_with fail
              refine (HSZ.out.2.1).mono ?_
              rintro e W ⟨rfl, hW⟩
              obtain rfl := hW.symm
              clear hW
              go_wp2_with fail
              rw [rounds_succ]
              go_wp2_with fail
              refine (HSZ.out.2.2).mono ?_
              rintro e W ⟨rfl, hW⟩
              obtain rfl := hW.symm
              clear hW
              go_wp2_with fail
              rw [rounds_succ]
              go_wp2_with fail
              refine (rm_used H3.out).mono ?_
              rintro e w4 ⟨rfl, h4⟩
              have H4 : Hid (RmSt w B d nn nb u3 w4) := h4
              clear h4
              rw [HS1.out]
              have hle2 := HLE.out
              go_wp2
              exact ⟨⟨i + 1, by go_num, HI.out.1, HI.out.2.1, _, H4.out⟩, HI.out.2.2⟩
            · obtain ⟨u3, hu3⟩ : ∃ x, u = x := ⟨_, rfl⟩
              have H3' : Hid (RmSt w B d nn nb u w3) := h3
              have g1i : ¬ (u : Int) + (k : Int) ≤ (nn : Int) := by have := HZ.out.2; omega
              clear h3 g1 hcv hu3
              go_wp2_with fail
              refine (rm_used H3'.out).mono ?_
              rintro e w3a ⟨rfl, h3a⟩
              have H3 : Hid (RmSt w B d nn nb u w3a) := h3a
              clear h3a
              obtain ⟨y0, y1, y2, z0, z1, z2, HSZ, m0, m1, m2, HS1, hb0, hb1, hb2, HLE⟩ := H3.out.tail hn
              obtain ⟨n0, n1, n2⟩ := H3.out.names
              go_wp2_with fail
              refine wp_loop_rounds 4 ?_
              rw [rounds_succ]
              go_wp2_with fail
              refine (HSZ.out.1).mono ?_
              rintro e W ⟨rfl, hW⟩
              obtain rfl := hW.symm
              clear hW
              go_wp2_with fail
              rw [rounds_succ]
              go_wp2_with fail
              refine (HSZ.out.2.1).mono ?_
              rintro e W ⟨rfl, hW⟩
              obtain rfl := hW.symm
              clear hW
              go_wp2_with fail
              rw [rounds_succ]
              go_wp2_with fail
              refine (HSZ.out.2.2).mono ?_
              rintro e W ⟨rfl, hW⟩
              obtain rfl := hW.symm
              clear hW
              go_wp2_with fail
              rw [rounds_succ]
              go_wp2_with fail
              refine (rm_used H3.out).mono ?_
              rintro e w4 ⟨rfl, h4⟩
              have H4 : Hid (RmSt w B d nn nb u w4) := h4
              clear h4
              rw [HS1.out]
              have hle2 := HLE.out
              go_wp2
              exact ⟨⟨i + 1, by go_num, HI.out.1, HI.out.2.1, _, H4.out⟩, HI.out.2.2⟩
      · have hlti : (i : Int) < (len : Int) := by omega
        have h2i : ¬ (i : Int) < 200 := by omega
        go_wp2_with fail
        refine (HAw.out _).mono ?_
        rintro e w4 ⟨rfl, hb4⟩
        have H4 : Hid (Below B w w4) := H.out.1.trans (hb4.mono H.out.2.2.1)
        clear hb4
        go_wp2
        go_ret
        exact ⟨rfl, H4.out⟩
    · have hlti : ¬ (i : Int) < (len : Int) := by omega
      go_wp2_with fail
      refine (HAw.out _).mono ?_
      rintro e w4 ⟨rfl, hb4⟩
      have H4 : Hid (Below B w w4) := H.out.1.trans (hb4.mono H.out.2.2.1)
      clear hb4
      go_wp2
      go_ret
      exact ⟨rfl, H4.out⟩
end Go.Proofs.Ytlnlhecjehapiaa
