/- A hasher's state, and its small calls. -/
/- mix: a whole stripe goes into the lanes. -/
/- take: bytes go into a hasher. -/
/- sum: what a hasher tells. -/
/- Hash, NewHasher, Write, Sum; awake. -/
import Derived.Test.YtbncfpbehahidaaGs2
import Derived.Deep.RegionWith
import Derived.Deep.RegionLaw
namespace Go.Proofs.Ytbncfpbehahidaa.S2
open Go.RowKit
set_option linter.unusedVariables false
set_option maxRecDepth 20000

/-- The cells of a hasher: what it leads to, seed, four lanes, how many bytes it took, sixteen bytes. -/
def hcl (p : Value) (seed : Nat) (v : Nat → Nat) (n : Nat) (L : Nat → Nat) (i : Nat) : Value :=
  if i = 0 then p else if i = 1 then .int .u32 (seed : Nat) else if i < 6 then .int .u32 (v (i - 2) : Nat) else if i = 6 then .int .i64 (n : Nat) else .int .u8 (L (i - 7) : Nat)
def hrow (f : Nat → Value) : Array Value := ((List.range 23).map f).toArray
theorem hrow_size (f : Nat → Value) : (hrow f).size = 23 := by simp [hrow]
theorem hrow_get (f : Nat → Value) (i : Nat) (hi : i < 23) : (hrow f)[i]? = some (f i) := by simp [hrow, hi]
theorem hrow_set (f g : Nat → Value) (j : Nat) (u : Value) (hj : j < 23) (h : ∀ i, i < 23 → g i = if i = j then u else f i) : (hrow f).setIfInBounds j u = hrow g := by
  apply Array.ext_getElem?
  intro i
  rw [Array.getElem?_setIfInBounds, hrow_size]
  by_cases hi : i < 23
  · rw [hrow_get _ _ hi, hrow_get _ _ hi, h i hi]
    by_cases e : j = i
    · subst e; simp [hi]
    · rw [if_neg e, if_neg (fun q => e q.symm)]
  · rw [Array.getElem?_eq_none (by rw [hrow_size]; omega), Array.getElem?_eq_none (by rw [hrow_size]; omega), if_neg (by omega)]
def HB (w : World) (b : Nat) (p : Value) (seed : Nat) (v : Nat → Nat) (n : Nat) (L : Nat → Nat) : Prop :=
  w.heap[b]? = some (.cells (hrow (hcl p seed v n L)) 95 (0, 0))
section
variable {w : World} {b : Nat} {p : Value} {seed : Nat} {v : Nat → Nat} {n : Nat} {L : Nat → Nat}
theorem HB.at (h : HB w b p seed v n L) (i : Nat) (hi : i < 23) : w.cell? ⟨b, i, none⟩ = some (hcl p seed v n L i) := by
  unfold HB at h
  simp [World.cell?, h, hrow_get _ _ hi]
theorem HB.self (h : HB w b p seed v n L) : w.cell? ⟨b, 0, none⟩ = some p := h.at 0 (by omega)
theorem HB.theSeed (h : HB w b p seed v n L) : w.cell? ⟨b, 1, none⟩ = some (.int .u32 (seed : Nat)) := h.at 1 (by omega)
theorem HB.lane (h : HB w b p seed v n L) (i : Nat) (hi : i < 4) : w.cell? ⟨b, 2 + i, none⟩ = some (.int .u32 (v i : Nat)) := by
  rw [h.at (2 + i) (by omega)]
  unfold hcl
  rw [if_neg (by omega), if_neg (by omega), if_pos (by omega), show 2 + i - 2 = i by omega]
theorem HB.took (h : HB w b p seed v n L) : w.cell? ⟨b, 6, none⟩ = some (.int .i64 (n : Nat)) := h.at 6 (by omega)
theorem HB.left (h : HB w b p seed v n L) (i : Nat) (hi : i < 16) : w.cell? ⟨b, 7 + i, none⟩ = some (.int .u8 (L i : Nat)) := by
  rw [h.at (7 + i) (by omega)]
  unfold hcl
  rw [if_neg (by omega), if_neg (by omega), if_neg (by omega), if_neg (by omega), show 7 + i - 7 = i by omega]
theorem HB.free (h : HB w b p seed v n L) (i : Nat) : w.frozen? ⟨b, i, none⟩ = false := by
  unfold HB at h
  simp [World.frozen?, h]
theorem HB.drewN (h : HB w b p seed v n L) (k : Nat) : HB (w.drewN k) b p seed v n L := h
theorem HB.below {w' : World} {B : Nat} (h : HB w b p seed v n L) (hb : Below B w w') (hlt : b < B) : HB w' b p seed v n L := (hb.block b hlt).trans h
theorem HB.only {w' : World} {b' : Nat} (h : HB w b p seed v n L) (ho : Only b' w w') (hne : b ≠ b') : HB w' b p seed v n L := (ho.block b (lt_of_block h) hne).trans h
theorem HB.setSelf (h : HB w b p seed v n L) (q : Value) : HB (w.setCell ⟨b, 0, none⟩ q) b q seed v n L := by
  have := block_setCell (i := 0) (u := q) h
  rw [hrow_set _ (hcl q seed v n L) 0 q (by omega) (fun i hi => by unfold hcl; by_cases e : i = 0 <;> simp [e])] at this
  exact this
theorem HB.setLane (h : HB w b p seed v n L) (j x : Nat) (hj : j < 4) : HB (w.setCell ⟨b, 2 + j, none⟩ (.int .u32 (x : Nat))) b p seed (fun k => if k = j then x else v k) n L := by
  have := block_setCell (i := 2 + j) (u := .int .u32 (x : Nat)) h
  rw [hrow_set _ (hcl p seed (fun k => if k = j then x else v k) n L) (2 + j) _ (by omega) (fun i hi => by
    unfold hcl
    by_cases e : i = 2 + j
    · subst e
      rw [if_pos rfl, if_neg (by omega), if_neg (by omega), if_pos (by omega)]
      dsimp only
      rw [if_pos (by omega)]
    · rw [if_neg e]
      by_cases e0 : i = 0
      · rw [if_pos e0, if_pos e0]
      · rw [if_neg e0, if_neg e0]
        by_cases e1 : i = 1
        · rw [if_pos e1, if_pos e1]
        · rw [if_neg e1, if_neg e1]
          by_cases e6 : i < 6
          · rw [if_pos e6, if_pos e6]
            dsimp only
            rw [if_neg (by omega)]
          · rw [if_neg e6, if_neg e6])] at this
  exact this
theorem HB.setTook (h : HB w b p seed v n L) (m : Nat) : HB (w.setCell ⟨b, 6, none⟩ (.int .i64 (m : Nat))) b p seed v m L := by
  have := block_setCell (i := 6) (u := .int .i64 (m : Nat)) h
  rw [hrow_set _ (hcl p seed v m L) 6 _ (by omega) (fun i hi => by
    unfold hcl
    by_cases e : i = 6
    · subst e; rfl
    · rw [if_neg e, if_neg e, if_neg e])] at this
  exact this
end
def v0 (seed : Nat) : Nat → Nat := fun i => ini seed i
theorem newHasher (seed : Nat) (w : World) (hs : seed < 4294967296) :
    Calls Try.prog 58 #[.int .u32 seed] w fun e w' => e = .returned (.pointer (some ⟨w.heap.size, 0, none⟩)) ∧ HB w' w.heap.size (.pointer none) seed (fun i => ini seed i) 0 (fun _ => 0) ∧ w'.heap.size = w.heap.size + 1 ∧ Below w.heap.size w w' := by
  go_enter Try.func58, Try.ntmps58
  go_wp2
  go_ret
  refine ⟨rfl, ?_, by simp, (Below.refl _ _).alloc (Nat.le_refl _) _⟩
  unfold HB
  rw [heap_alloc_new]
  have q0 := ini0 seed
  have q1 := ini1 seed
  have q2 := ini2 seed
  have q3 := ini3 seed
  have e0 : ((ini seed 0 : Nat) : Int) = ((seed : Int) + 2654435761 + 2246822519) % 4294967296 := by omega
  have e1 : ((ini seed 1 : Nat) : Int) = ((seed : Int) + 2246822519) % 4294967296 := by omega
  have e2 : ((ini seed 2 : Nat) : Int) = (seed : Int) := by omega
  have e3 : ((ini seed 3 : Nat) : Int) = ((seed : Int) - 2654435761) % 4294967296 := by omega
  have e : hrow (hcl (.pointer none) seed (fun i => ini seed i) 0 (fun _ => 0)) = #[.pointer none, .int .u32 (seed : Nat), .int .u32 (ini seed 0 : Nat), .int .u32 (ini seed 1 : Nat), .int .u32 (ini seed 2 : Nat), .int .u32 (ini seed 3 : Nat), .int .i64 0, .int .u8 0, .int .u8 0, .int .u8 0, .int .u8 0, .int .u8 0, .int .u8 0, .int .u8 0, .int .u8 0, .int .u8 0, .int .u8 0, .int .u8 0, .int .u8 0, .int .u8 0, .int .u8 0, .int .u8 0, .int .u8 0] := by
    simp [hrow, hcl, List.range_succ]
  rw [e, e0, e1, e2, e3]
theorem eqSelfH (a : Addr) (w : World) : (binOp .eql 77 (.pointer (some a)) (.pointer (some a))).run Try.prog w = .ok (.bool true) w := by
  obtain ⟨j, hj⟩ : ∃ j, Try.prog.info? 95 = some j := Option.isSome_iff_exists.1 (by kernel_rfl)
  exact run_eql_ptr_same w a Try.underlying77 hj
theorem eql_nil_ptr {P : Program} (w : World) {tp te : TypeId} (a : Addr) (hp : P.underlying tp = some (.pointer te)) :
    (binOp .eql tp (.pointer none) (.pointer (some a))).run P w = .ok (.bool false) w := by
  have h : ∀ d : Nat, (Op.equalIn (d + 1) tp (.pointer none) (.pointer (some a))).run P w = .ok false w := fun d => by
    simp [Op.equalIn, run_underlying hp]
  simp only [binOp]
  simp [Op.equal, Op.maxDepth, h 9999]
theorem eqNilH (a : Addr) (w : World) : (binOp .eql 77 (.pointer none) (.pointer (some a))).run Try.prog w = .ok (.bool false) w :=
  eql_nil_ptr w a Try.underlying77
/-- The lanes' turns. -/
def tn : Nat → Nat
  | 0 => 1
  | 1 => 7
  | 2 => 12
  | _ => 18
def fs (v : Nat → Nat) : Nat → Nat
  | 0 => 0
  | j + 1 => (fs v j + rot (tn j) (v j)) % 4294967296
theorem fs_four (v : Nat → Nat) : fs v 4 = four4 (v 0) (v 1) (v 2) (v 3) := by
  simp only [fs, tn, four4]
  omega
theorem begun_short (b : Nat) (p : Value) (seed : Nat) (v : Nat → Nat) (n : Nat) (L : Nat → Nat) (w : World) (h : HB w b p seed v n L) (hn : n < 16) :
    Calls Try.prog 67 #[.pointer (some ⟨b, 0, none⟩)] w fun e w' => e = .returned (.int .u32 ((seed + 374761393) % 4294967296 : Nat)) ∧ w' = w := by
  have h1 := h.theSeed
  have h6 := h.took
  clear h
  go_enter Try.func67, Try.ntmps67
  go_wp2
  go_ret
  exact ⟨ret_int (by omega), rfl⟩
theorem begun_long (b : Nat) (p : Value) (seed : Nat) (v : Nat → Nat) (n : Nat) (L : Nat → Nat) (w : World) (h : HB w b p seed v n L) (hn : 16 ≤ n) (hv : ∀ i, v i < 4294967296) :
    Calls Try.prog 67 #[.pointer (some ⟨b, 0, none⟩)] w fun e w' => e = .returned (.int .u32 (fs v 4 : Nat)) ∧ w' = w := by
  have h6 := h.took
  have hnn : ¬ (n : Int) < 16 := by omega
  have HL : Hid (∀ i, i < 4 → w.cell? ⟨b, 2 + i, none⟩ = some (.int .u32 (v i : Nat))) := h.lane
  have HV : Hid (∀ i, v i < 4294967296) := hv
  clear h hv
  go_enter Try.func67, Try.ntmps67
  go_wp2
  go_loop [3, 17] (fun x i => ∃ j : Nat, j ≤ 4 ∧ i = .int .i64 j ∧ x = .int .u32 (fs v j : Nat)) (fun _ i => 4 - (intOf i).toNat)
  case atStart => exact ⟨0, Nat.zero_le _, rfl, rfl⟩
  case round =>
    obtain ⟨j, hj, rfl, rfl⟩ := hrel
    by_cases hlt : j < 4
    · have hc := HL.out j hlt
      have hvj := HV.out j
      have hidx : ∀ w : World, (Instr.index 65 (.agg #[Value.int .i64 1, .int .i64 7, .int .i64 12, .int .i64 18]) (.int .i64 (j : Nat))).run Try.prog w = .ok (.int .i64 (tn j : Nat)) w := by
        rcases (show j = 0 ∨ j = 1 ∨ j = 2 ∨ j = 3 by omega) with rfl | rfl | rfl | rfl <;> exact fun _ => by kernel_rfl
      have ht1 : 1 ≤ tn j := by unfold tn; split <;> omega
      have ht2 : tn j ≤ 31 := by unfold tn; split <;> omega
      go_wp2_with fail
      refine (rotate _ _ _ hvj ht1 ht2).mono ?_
      rintro e w1 ⟨rfl, rfl⟩
      go_wp2
      go_round
      case rel => exact ⟨j + 1, by omega, by go_num, congrArg (Value.int .u32) (by simp only [fs]; omega)⟩
      case measure => simp [intOf]; omega
    · obtain rfl : j = 4 := by omega
      go_wp2
      go_ret
      exact ⟨rfl, rfl⟩
end Go.Proofs.Ytbncfpbehahidaa.S2
namespace Go.Proofs.Ytbncfpbehahidaa.S2
open Go.RowKit
set_option linter.unusedVariables false
set_option maxRecDepth 20000

theorem addr_add (b o i : Nat) : (⟨b, o, none⟩ : Addr).add i = ⟨b, o + i, none⟩ := by unfold Addr.add; split <;> simp_all
theorem slice_low (b o q : Nat) (hq : q < 16) (w : World) : (Instr.sliceAt 93 (.pointer (some ⟨b, o, none⟩)) (some (.int .i64 (q : Nat))) none none).run Try.prog w = .ok (.slice (some ⟨b, o + q, none⟩) (16 - q) (16 - q)) w := by
  have h2 : ¬ 16 = q := by omega
  simp [Instr.sliceAt, run_underlying Try.underlying93, Instr.sureAddr, Instr.sliceBounds, Instr.sliceBound, asIntOf, h2, addr_add]
  intro h; omega
theorem slice_hm (b o q : Nat) (hq : q ≤ 16) (w : World) : (Instr.sliceAt 93 (.pointer (some ⟨b, o, none⟩)) none (some (.int .i64 (q : Nat))) (some (.int .i64 (q : Nat)))).run Try.prog w = .ok (.slice (some ⟨b, o, none⟩) q q) w := by
  simp [Instr.sliceAt, run_underlying Try.underlying93, Instr.sureAddr, Instr.sliceBounds, Instr.sliceBound, asIntOf, addr_add]
  intro h; omega
/-- The lanes when j of them took their words. -/
def mixed (v L : Nat → Nat) (j : Nat) : Nat → Nat := fun i => if i < j then hstep 2246822519 13 2654435761 (v i) (wdN (fun k => L (4 * i + k)) 4) else v i
theorem mixed_zero (v L : Nat → Nat) : mixed v L 0 = v := by funext i; simp [mixed]
theorem mixed_succ (v L : Nat → Nat) (j x : Nat) (hx : hstep 2246822519 13 2654435761 (v j) (wdN (fun k => L (4 * j + k)) 4) = x) : (fun k => if k = j then x else mixed v L j k) = mixed v L (j + 1) := by
  funext i
  unfold mixed
  by_cases h : i = j
  · subst h
    rw [if_pos rfl, if_pos (by omega), hx]
  · rw [if_neg h]
    by_cases h2 : i < j
    · rw [if_pos h2, if_pos (by omega)]
    · rw [if_neg h2, if_neg (by omega)]
set_option maxRecDepth 20000 in
set_option maxHeartbeats 1000000 in
theorem mix (b : Nat) (p : Value) (seed : Nat) (v : Nat → Nat) (n : Nat) (L : Nat → Nat) (w : World) (h : HB w b p seed v n L) (hv : ∀ i, v i < 4294967296) (hL : ∀ i, L i < 256) :
    Calls Try.prog 66 #[.pointer (some ⟨b, 0, none⟩)] w fun e w' => e = .returned (.tuple #[]) ∧ HB w' b p seed (mixed v L 4) n L ∧ Only b w w' := by
  have HH : Hid (HB w b p seed (mixed v L 0) n L ∧ (∀ i, v i < 4294967296) ∧ (∀ i, L i < 256)) := ⟨by rw [mixed_zero]; exact h, hv, hL⟩
  clear h hv hL
  go_enter Try.func66, Try.ntmps66
  go_wp2
  go_loopw [4] (fun i wr => ∃ j : Nat, j ≤ 4 ∧ i = .int .i64 j ∧ HB wr b p seed (mixed v L j) n L ∧ Only b w wr) (fun i _ => 4 - (intOf i).toNat)
  case atStart => exact ⟨0, Nat.zero_le _, rfl, HH.out.1, Only.refl _ _⟩
  case round =>
    obtain ⟨j, hj, rfl, hb, ho⟩ := hrel
    by_cases hlt : j < 4
    · have hl : wr.cell? ⟨b, 2 + j, none⟩ = some (.int .u32 (v j : Nat)) := by
        rw [hb.lane j hlt]
        simp [mixed]
      have hf := hb.free (2 + j)
      have hvj := HH.out.2.1 j
      obtain ⟨q, hq⟩ : ∃ q, q = 4 * j := ⟨_, rfl⟩
      have hq1 : q ≤ 12 := by omega
      have hw4 : IntKind.i64.wrap ((j : Int) * 4) = (q : Int) := by rw [IntKind.wrap_i64]; omega
      have hword := fun m => word b (7 + q) (16 - q) (16 - q) (fun k => L (4 * j + k)) (wr.drewN m) (by omega) (fun k => HH.out.2.2 _) (fun k hk => by
        rw [hq, Nat.add_assoc]; exact (hb.drewN m).left (4 * j + k) (by omega))
      clear hq
      have hwl := wdN_lt (fun k => L (4 * j + k)) (fun k => HH.out.2.2 _) 4
      have HR : Hid (hstep 2246822519 13 2654435761 (v j) (wdN (fun k => L (4 * j + k)) 4) = hmul (rot 13 ((v j + hmul (wdN (fun k => L (4 * j + k)) 4) 2246822519) % 4294967296)) 2654435761) := by
        show _ = _
        rfl
      obtain ⟨x, hx⟩ : ∃ x, wdN (fun k => L (4 * j + k)) 4 = x := ⟨_, rfl⟩
      have HXX : Hid (wdN (fun k => L (4 * j + k)) 4 = x) := hx
      rw [hx] at hwl
      simp only [hx] at hword
      clear hx
      have HW : Hid _ := hword
      have hsl := slice_low b 7 q (by omega)
      have HX : Hid (HB wr b p seed (mixed v L j) n L ∧ Only b w wr) := ⟨hb, ho⟩
      clear hb ho hword
      obtain ⟨y, hye⟩ : ∃ y, (v j + hmul x 2246822519) % 4294967296 = y := ⟨_, rfl⟩
      have hyl : y < 4294967296 := by rw [← hye]; exact Nat.mod_lt _ (by omega)
      have hy : ((v j : Int) + (x : Int) * 2246822519 % 4294967296) % 4294967296 = (y : Int) := by
        have := hmul_bits x 2246822519
        simp only [Int.cast_ofNat_Int] at this
        rw [this]
        omega
      obtain ⟨r, hr⟩ : ∃ r, rot 13 y = r := ⟨_, rfl⟩
      obtain ⟨z, hz⟩ : ∃ z, hmul r 2654435761 = z := ⟨_, rfl⟩
      have hzz : (r : Int) * 2654435761 % 4294967296 = (z : Int) := by
        rw [← hz]
        have := hmul_bits r 2654435761
        simpa only [Int.cast_ofNat_Int] using this
      have HZ : Hid (hstep 2246822519 13 2654435761 (v j) (wdN (fun k => L (4 * j + k)) 4) = z) := by
        show _ = _
        rw [HR.out, HXX.out, hye, hr, hz]
      have hrot := fun w : World => rotate y 13 w hyl (by omega) (by omega)
      simp only [hr] at hrot
      have HRT : Hid _ := hrot
      clear hye hr hz hrot HR HXX
      go_wp2
      go_quiet (first | (go_at_call 69; refine Calls.quiet_of_same (HW.out _)))
      go_wp2
      rw [hy]
      clear hsl HW hy hw4
      go_region_with (go_at_call 68; refine (HRT.out _).mono ?_; rintro e w1 ⟨rfl, rfl⟩)
      have hwz : IntKind.u32.wrap ((r : Int) * 2654435761) = (z : Int) := by rw [IntKind.wrap_u32']; exact hzz
      rw [hwz]
      have HN : Hid (HB ((wr.drewN (nq + 1)).setCell ⟨b, 2 + j, none⟩ (.int .u32 (z : Nat))) b p seed (mixed v L (j + 1)) n L ∧ Only b w ((wr.drewN (nq + 1)).setCell ⟨b, 2 + j, none⟩ (.int .u32 (z : Nat)))) := by
        constructor
        · have := (HX.out.1.drewN (nq + 1)).setLane j z hlt
          rw [mixed_succ v L j z HZ.out] at this
          exact this
        · exact (HX.out.2.drewN (nq + 1)).trans (Only.setCell _ _ _ _)
      clear HX HZ
      generalize (wr.drewN (nq + 1)).setCell ⟨b, 2 + j, none⟩ (.int .u32 (z : Nat)) = w2 at HN ⊢
      go_wp2
      go_roundw
      case rel => exact ⟨j + 1, by omega, by go_num, HN.out.1, HN.out.2⟩
      case measure => simp [intOf]; omega
    · obtain rfl : j = 4 := by omega
      have HX : Hid (HB wr b p seed (mixed v L 4) n L ∧ Only b w wr) := ⟨hb, ho⟩
      clear hb ho
      go_wp2
      go_end0
      exact ⟨rfl, HX.out⟩
end Go.Proofs.Ytbncfpbehahidaa.S2
namespace Go.Proofs.Ytbncfpbehahidaa.S2
open Go.RowKit
set_option linter.unusedVariables false
set_option maxRecDepth 20000

theorem splice_row (f g : Nat → Value) (o : Nat) (cs : List Value) (hfit : o + cs.length ≤ 23) (h : ∀ i, i < 23 → some (g i) = if o ≤ i ∧ i < o + cs.length then cs[i - o]? else some (f i)) :
    ((hrow f).toList.take o ++ cs ++ (hrow f).toList.drop (o + cs.length)).toArray = hrow g := by
  have hl : (hrow f).toList.length = 23 := by simp [hrow_size]
  have hg : ∀ i, i < 23 → (hrow f).toList[i]? = some (f i) := fun i hi => by rw [Array.getElem?_toList]; exact hrow_get f i hi
  apply Array.ext_getElem?
  intro i
  rw [List.getElem?_toArray]
  by_cases hi : i < 23
  · rw [hrow_get g i hi, h i hi]
    by_cases h1 : i < o
    · rw [if_neg (by omega), List.append_assoc, List.getElem?_append_left (by simp [hl]; omega), List.getElem?_take_of_lt h1, hg i hi]
    · by_cases h2 : i < o + cs.length
      · rw [if_pos ⟨by omega, h2⟩, List.getElem?_append_left (by simp [hl]; omega), List.getElem?_append_right (by simp [hl]; omega)]
        congr 1
        simp [hl]
        omega
      · rw [if_neg (by omega), List.getElem?_append_right (by simp [hl]; omega), List.getElem?_drop, ← hg i hi]
        congr 1
        simp [hl]
        omega
  · rw [List.getElem?_eq_none (by simp [hl]; omega), Array.getElem?_eq_none (by rw [hrow_size]; omega)]
/-- The bytes when m of a text were laid from r on. -/
def laid (L : Nat → Nat) (r m : Nat) (l : List Nat) : Nat → Nat := fun k => if r ≤ k ∧ k < r + m then l.getD (k - r) 0 else L k
theorem cells_eq (s : ByteArray) (m : Nat) : ((s.extract 0 m).data.map fun b => Value.int .u8 (b.toNat : Nat)).toList = ((BL s).take m).map fun x => Value.int .u8 (x : Nat) := by
  simp [BL, List.map_take, Function.comp_def]
theorem cells_get (s : ByteArray) (m j : Nat) (hm : m ≤ s.size) (hj : j < m) : (((BL s).take m).map fun x => Value.int .u8 (x : Nat))[j]? = some (.int .u8 ((BL s).getD j 0 : Nat)) := by
  have h : j < s.size := by omega
  rw [List.getElem?_map, List.getElem?_take_of_lt hj, BL_get? s j h, ← BL_getD s j h]
  rfl
theorem run_copy_str {w : World} {b : Nat} {p : Value} {seed : Nat} {v : Nat → Nat} {n : Nat} {L : Nat → Nat} (h : HB w b p seed v n L) (ty : TypeId) (r m : Nat) (s : ByteArray) (hr : r < 16) (hm : m = Nat.min s.size (16 - r)) :
    (Builtin.copy_ #[30, 9] ty #[.slice (some ⟨b, 7 + r, none⟩) (16 - r) (16 - r), .string s]).run Try.prog w = .ok (goInt m) (w.setRow b (hrow (hcl p seed v n (laid L r m (BL s))))) := by
  have hms : m ≤ s.size := by rw [hm]; exact Nat.min_le_left _ _
  have hmr : m ≤ 16 - r := by rw [hm]; exact Nat.min_le_right _ _
  have hsz : (Try.prog.info? 5).map (·.size) = some 1 := by kernel_rfl
  obtain ⟨cs, hcs⟩ : ∃ cs, ((s.extract 0 m).data.map fun b => Value.int .u8 (b.toNat : Nat)).toList = cs := ⟨_, rfl⟩
  rw [cells_eq] at hcs
  have hlen : cs.length = m := by rw [← hcs]; simp [BL_length]; omega
  have hget : ∀ j, j < m → cs[j]? = some (.int .u8 ((BL s).getD j 0 : Nat)) := fun j hj => by rw [← hcs]; exact cells_get s m j hms hj
  have hone : ∀ x ∈ cs, x.oneCell' = true := by
    intro x hx
    rw [← hcs] at hx
    obtain ⟨y, _, rfl⟩ := List.mem_map.1 hx
    rfl
  have hst := run_storeCells_at Try.prog b (7 + r) _ cs 0 _ w h (by rw [hrow_size]; omega) hone
  have hrow : ((hrow (hcl p seed v n L)).toList.take (7 + r + 0) ++ cs ++ (hrow (hcl p seed v n L)).toList.drop (7 + r + 0 + cs.length)).toArray = hrow (hcl p seed v n (laid L r m (BL s))) := by
    refine splice_row _ _ _ _ (by omega) (fun i hi => ?_)
    by_cases hc : 7 + r + 0 ≤ i ∧ i < 7 + r + 0 + cs.length
    · rw [if_pos hc, hget _ (by omega)]
      unfold hcl laid
      rw [if_neg (by omega), if_neg (by omega), if_neg (by omega), if_neg (by omega)]
      rw [if_pos (by omega), show i - 7 - r = i - (7 + r + 0) by omega]
    · rw [if_neg hc]
      unfold hcl laid
      by_cases e0 : i = 0
      · rw [if_pos e0, if_pos e0]
      · rw [if_neg e0, if_neg e0]
        by_cases e1 : i = 1
        · rw [if_pos e1, if_pos e1]
        · rw [if_neg e1, if_neg e1]
          by_cases e6 : i < 6
          · rw [if_pos e6, if_pos e6]
          · rw [if_neg e6, if_neg e6]
            by_cases e7 : i = 6
            · rw [if_pos e7, if_pos e7]
            · rw [if_neg e7, if_neg e7, if_neg (by omega)]
  rw [hrow] at hst
  cases hq : Try.prog.info? 5 with
  | none => simp [hq] at hsz
  | some i =>
    have hi : i.size = 1 := by simpa [hq] using hsz
    simp only [Builtin.copy_, Builtin.lenOf, Builtin.firstCells, sizeOf, typeInfo]
    simp [run_underlying Try.underlying30, hq, ← hm]
    have he : List.take m (List.map (fun b => Value.int .u8 (b.toNat : Nat)) s.data.toList) = cs := by
      rw [← hcs]
      simp [BL, List.map_take, Function.comp_def]
    rw [he]
    rw [show (storeCells ⟨b, 7 + r, none⟩ cs).run Try.prog w = _ from hst]
    rfl
theorem step_copy_str {ops : Array Oper} {o : Oper} {a : Act} {w w' : World} {K : Act → World → Prop} {Q : Exit → Act → World → Prop} {E : Prop} (hgd : o.guard = none) (d s : Operand) (dT sT : TypeId)
    (ho : o.op = .call { callee := .builtin .copy, args := #[d, s], argTypes := #[dT, sT] }) (vd vs : Value) (hd : a.eval d = vd) (hs : a.eval s = vs) (m : Int)
    (hrun : (Builtin.copy_ #[dT, sT] o.type #[vd, vs]).run Try.prog w = .ok (goInt m) w') (h : K (a.put o.dst (goInt m)) w') :
    if Region.wanted o (yielded ops a.tmps) = true then Oper.wp Try.prog o a w K Q else E := by
  have hw : Region.wanted o (yielded ops a.tmps) = true := by simp [Region.wanted, hgd]
  rw [if_pos hw]
  unfold Oper.wp
  simp [execOp, ho, resolve, invoke, builtin, hd, hs, hrun, Result.andThen]
  exact h
section
variable {w : World} {b : Nat} {p : Value} {seed : Nat} {v v' : Nat → Nat} {n : Nat} {L : Nat → Nat}
theorem HB.congr (h : HB w b p seed v n L) (e : ∀ i, i < 4 → v i = v' i) : HB w b p seed v' n L := by
  have : hrow (hcl p seed v n L) = hrow (hcl p seed v' n L) := by
    unfold hrow
    congr 1
    apply List.map_congr_left
    intro i hi
    unfold hcl
    by_cases e6 : i < 6
    · by_cases e0 : i = 0
      · rw [if_pos e0, if_pos e0]
      · by_cases e1 : i = 1
        · rw [if_neg e0, if_neg e0, if_pos e1, if_pos e1]
        · rw [e (i - 2) (by omega)]
    · have e0 : ¬ i = 0 := by omega
      have e1 : ¬ i = 1 := by omega
      rw [if_neg e0, if_neg e0, if_neg e1, if_neg e1, if_neg e6, if_neg e6]
  unfold HB
  rw [← this]
  exact h
end
/-- Block b is a hasher that took the bytes l. -/
def HS (w : World) (b : Nat) (p : Value) (l : List Nat) (seed : Nat) : Prop :=
  ∃ L : Nat → Nat, HB w b p seed (fun i => lan l (ini seed i) i (l.length / 16)) l.length L ∧ (∀ k, k < l.length % 16 → L k = l.getD (16 * (l.length / 16) + k) 0) ∧ (∀ k, L k < 256)
theorem getD_right (l r : List Nat) (i : Nat) (h : l.length ≤ i) : (l ++ r).getD i 0 = r.getD (i - l.length) 0 := by
  rw [List.getD_eq_getElem?_getD, List.getD_eq_getElem?_getD, List.getElem?_append_right h]
theorem laid_agree (l t : List Nat) (L : Nat → Nat) (m : Nat) (hm1 : m ≤ 16 - l.length % 16) (hmt : m ≤ t.length) (hL : ∀ k, k < l.length % 16 → L k = l.getD (16 * (l.length / 16) + k) 0) (k : Nat) (hk : k < l.length % 16 + m) :
    laid L (l.length % 16) m t k = (l ++ t.take m).getD (16 * (l.length / 16) + k) 0 := by
  unfold laid
  by_cases h1 : l.length % 16 ≤ k
  · rw [if_pos ⟨h1, hk⟩, getD_right _ _ _ (by omega), getD_take _ _ _ (by omega)]
    congr 1
    omega
  · rw [if_neg (by omega), hL k (by omega), getD_app _ _ _ (by omega)]
theorem laid_lt (L : Nat → Nat) (r m : Nat) (t : List Nat) (hL : ∀ k, L k < 256) (ht : ∀ x ∈ t, x < 256) (k : Nat) : laid L r m t k < 256 := by
  unfold laid
  split
  · exact getD_lt ht _
  · exact hL k
theorem HS.more {w : World} {b : Nat} {p : Value} {l t : List Nat} {seed m : Nat} {L : Nat → Nat} (hm1 : m ≤ 16 - l.length % 16) (hmt : m ≤ t.length) (ht : ∀ x ∈ t, x < 256)
    (hL : ∀ k, k < l.length % 16 → L k = l.getD (16 * (l.length / 16) + k) 0) (hLt : ∀ k, L k < 256) (hne : (l.length + m) % 16 ≠ 0)
    (h : HB w b p seed (fun i => lan l (ini seed i) i (l.length / 16)) (l.length + m) (laid L (l.length % 16) m t)) : HS w b p (l ++ t.take m) seed := by
  have hlen : (l ++ t.take m).length = l.length + m := by simp; omega
  have hd : (l.length + m) / 16 = l.length / 16 := by omega
  refine ⟨laid L (l.length % 16) m t, ?_, ?_, laid_lt L _ m t hLt ht⟩
  · rw [hlen, hd]
    exact h.congr (fun i hi => (lan_app l _ _ i _ hi (by omega)).symm)
  · intro k hk
    rw [hlen] at hk ⊢
    rw [hd]
    exact laid_agree l t L m hm1 hmt hL k (by omega)
theorem HS.full {w : World} {b : Nat} {p : Value} {l t : List Nat} {seed m : Nat} {L : Nat → Nat} (hm1 : m ≤ 16 - l.length % 16) (hmt : m ≤ t.length) (ht : ∀ x ∈ t, x < 256) (hm0 : 0 < m)
    (hL : ∀ k, k < l.length % 16 → L k = l.getD (16 * (l.length / 16) + k) 0) (hLt : ∀ k, L k < 256) (hne : (l.length + m) % 16 = 0)
    (h : HB w b p seed (mixed (fun i => lan l (ini seed i) i (l.length / 16)) (laid L (l.length % 16) m t) 4) (l.length + m) (laid L (l.length % 16) m t)) : HS w b p (l ++ t.take m) seed := by
  have hlen : (l ++ t.take m).length = l.length + m := by simp; omega
  have hd : (l.length + m) / 16 = l.length / 16 + 1 := by omega
  have ha : ∀ k, k < 16 → laid L (l.length % 16) m t k = (l ++ t.take m).getD (16 * (l.length / 16) + k) 0 := fun k hk => laid_agree l t L m hm1 hmt hL k (by omega)
  refine ⟨laid L (l.length % 16) m t, ?_, ?_, laid_lt L _ m t hLt ht⟩
  · rw [hlen, hd]
    refine h.congr (fun i hi => ?_)
    show mixed _ _ 4 i = hstep 2246822519 13 2654435761 (lan (l ++ t.take m) (ini seed i) i (l.length / 16)) (wd (l ++ t.take m) (16 * (l.length / 16) + 4 * i))
    unfold mixed
    rw [if_pos hi, lan_app l _ _ i _ hi (by omega), wdN_four]
    unfold wd
    rw [ha (4 * i + 0) (by omega), ha (4 * i + 1) (by omega), ha (4 * i + 2) (by omega), ha (4 * i + 3) (by omega)]
    rfl
  · intro k hk
    rw [hlen] at hk
    omega
theorem Only.setRow (b : Nat) (w : World) (c : Array Value) : Only b w (w.setRow b c) :=
  ⟨rfl, rfl, rfl, by simp [World.setRow], fun k hk hne => by
    show (w.heap.modify b _)[k]? = _
    rw [Array.getElem?_modify, if_neg (fun e => hne e.symm)]⟩
def strLen : Value → Nat
  | .string s => s.size
  | _ => 0
theorem BL_extract (s : ByteArray) (m : Nat) : BL (s.extract m s.size) = (BL s).drop m := by
  simp only [BL]
  rw [← List.map_drop]
  congr 1
  simp
  exact List.take_of_length_le (by simp)
set_option maxRecDepth 20000 in
set_option maxHeartbeats 1000000 in
theorem take (b : Nat) (p : Value) (l : List Nat) (seed : Nat) (s : ByteArray) (w : World) (h : HS w b p l seed) (hlen : l.length + s.size ≤ 4611686018427387904) :
    Calls Try.prog 59 #[.pointer (some ⟨b, 0, none⟩), .string s] w fun e w' => e = .returned (.tuple #[]) ∧ HS w' b p (l ++ BL s) seed ∧ Only b w w' := by
  have HH : Hid (HS w b p l seed ∧ l.length + s.size ≤ 4611686018427387904) := ⟨h, hlen⟩
  clear h hlen
  go_enter Try.func59, Try.ntmps59
  go_wp2
  go_loopw [1] (fun x wr => ∃ (t : ByteArray) (l' : List Nat), x = .string t ∧ l' ++ BL t = l ++ BL s ∧ HS wr b p l' seed ∧ Only b w wr) (fun x _ => strLen x)
  case atStart => exact ⟨s, l, rfl, rfl, HH.out.1, Only.refl _ _⟩
  case round =>
    obtain ⟨t, l', rfl, hl, ⟨L, hb, hL, hLt⟩, ho⟩ := hrel
    have hln : l'.length + t.size ≤ 4611686018427387904 := by
      have := congrArg List.length hl
      simp [BL_length] at this
      have := HH.out.2
      omega
    by_cases hpos : 0 < t.size
    · obtain ⟨n, hn⟩ : ∃ n, l'.length = n := ⟨_, rfl⟩
      obtain ⟨r, hr⟩ : ∃ r, l'.length % 16 = r := ⟨_, rfl⟩
      obtain ⟨m, hm⟩ : ∃ m, m = Nat.min t.size (16 - r) := ⟨_, rfl⟩
      have hr16 : r < 16 := by omega
      have hmt : m ≤ t.size := by rw [hm]; exact Nat.min_le_left _ _
      have hmr : m ≤ 16 - r := by rw [hm]; exact Nat.min_le_right _ _
      have hm0 : 0 < m := by rw [hm]; exact Nat.lt_min.2 ⟨hpos, by omega⟩
      have h6 := hb.took
      rw [hn] at h6
      have ht1 : (n : Int).tmod 16 = (r : Int) := by rw [Int.tmod_eq_emod_of_nonneg (by omega)]; omega
      have ht2 : (n : Int) % 16 = (r : Int) := by omega
      have hsl := slice_low b 7 r hr16
      have HC : Hid (∀ k ty, (Builtin.copy_ #[30, 9] ty #[.slice (some ⟨b, 7 + r, none⟩) (16 - r) (16 - r), .string t]).run Try.prog (wr.drewN k) = .ok (goInt m) ((wr.drewN k).setRow b (hrow (hcl p seed (fun i => lan l' (ini seed i) i (l'.length / 16)) l'.length (laid L r m (BL t)))))) :=
        fun k ty => run_copy_str (hb.drewN k) ty r m t hr16 hm
      have HX : Hid (HB wr b p seed (fun i => lan l' (ini seed i) i (l'.length / 16)) l'.length L ∧ (∀ k, k < l'.length % 16 → L k = l'.getD (16 * (l'.length / 16) + k) 0) ∧ (∀ k, L k < 256) ∧ Only b w wr ∧ l' ++ BL t = l ++ BL s) := ⟨hb, hL, hLt, ho, hl⟩
      have HN : Hid (l'.length = n ∧ l'.length % 16 = r) := ⟨hn, hr⟩
      clear hb hL hLt ho hl hn hr hm
      go_wp2
      go_region_law (refine step_copy_str rfl (.tmp 16) (.tmp 17) 30 9 rfl _ _ rfl rfl (m : Int) (HC.out _ _) ?_)
      have hW : Hid (HB ((wr.drewN 1).setRow b (hrow (hcl p seed (fun i => lan l' (ini seed i) i (l'.length / 16)) l'.length (laid L r m (BL t))))) b p seed (fun i => lan l' (ini seed i) i (l'.length / 16)) n (laid L r m (BL t)) ∧ Only b w ((wr.drewN 1).setRow b (hrow (hcl p seed (fun i => lan l' (ini seed i) i (l'.length / 16)) l'.length (laid L r m (BL t)))))) := by
        constructor
        · have := setRow_heap (wr.drewN 1) b _ (hrow (hcl p seed (fun i => lan l' (ini seed i) i (l'.length / 16)) l'.length (laid L r m (BL t)))) _ _ (HX.out.1.drewN 1)
          rw [← HN.out.1]
          exact this
        · exact (HX.out.2.2.2.1.drewN 1).trans (Only.setRow _ _ _)
      generalize (wr.drewN 1).setRow b (hrow (hcl p seed (fun i => lan l' (ini seed i) i (l'.length / 16)) l'.length (laid L r m (BL t)))) = W1 at hW ⊢
      clear h6 ht1 ht2 hsl HC
      have h6 := hW.out.1.took
      have hf := hW.out.1.free 6
      obtain ⟨N, hN⟩ : ∃ N, N = n + m := ⟨_, rfl⟩
      have hNn := HN.out.1
      have hsum : wrap64 ((n : Int) + (m : Int)) = (N : Int) := by rw [IntWalk.wrap64_in _ ⟨by omega, by omega⟩]; omega
      have hmle : (m : Int) ≤ (t.size : Int) := by omega
      have HW2 : Hid (HB (W1.setCell ⟨b, 6, none⟩ (.int .i64 (N : Nat))) b p seed (fun i => lan l' (ini seed i) i (l'.length / 16)) N (laid L r m (BL t)) ∧ Only b w (W1.setCell ⟨b, 6, none⟩ (.int .i64 (N : Nat)))) :=
        ⟨hW.out.1.setTook N, hW.out.2.trans (Only.setCell _ _ _ _)⟩
      have HL : Hid ((l' ++ (BL t).take m) ++ BL (t.extract m t.size) = l ++ BL s) := by
        show _ = _
        rw [BL_extract, List.append_assoc, List.take_append_drop]
        exact HX.out.2.2.2.2
      have HM : Hid (N = n + m ∧ m ≤ 16 - r ∧ m ≤ (BL t).length ∧ 0 < m) := ⟨hN, hmr, by rw [BL_length]; exact hmt, hm0⟩
      clear hNn hN hW
      by_cases hz : N % 16 = 0
      · have hz1 : ((N : Int).tmod 16 == 0) = true := by rw [Int.tmod_eq_emod_of_nonneg (by omega)]; simp; omega
        have hz2 : ((N : Int) % 16 == 0) = true := by simp; omega
        go_wp2_with fail
        refine (mix b p seed _ N _ _ HW2.out.1 (fun i => lan_lt _ _ _ _ (ini_lt _ _)) (laid_lt L r m _ HX.out.2.2.1 (BL_lt t))).mono ?_
        rintro e w3 ⟨rfl, hb3, ho3⟩
        have HE : Hid (HS w3 b p (l' ++ (BL t).take m) seed ∧ Only b w w3) := by
          obtain ⟨q1, q2⟩ := HN.out
          obtain ⟨m1, m2, m3, m4⟩ := HM.out
          refine ⟨HS.full (L := L) (by omega) m3 (BL_lt t) m4 HX.out.2.1 HX.out.2.2.1 (by omega) ?_, HW2.out.2.trans ho3⟩
          rw [q2, q1, ← m1]
          rw [q1] at hb3
          exact hb3
        clear hb3 ho3
        go_wp2
        refine ⟨⟨_, _, rfl, HL.out, HE.out.1, HE.out.2⟩, ?_⟩
        simp [strLen]
        omega
      · have hz1 : ((N : Int).tmod 16 == 0) = false := by rw [Int.tmod_eq_emod_of_nonneg (by omega)]; simp; omega
        have hz2 : ((N : Int) % 16 == 0) = false := by simp; omega
        have HE : Hid (HS (W1.setCell ⟨b, 6, none⟩ (.int .i64 (N : Nat))) b p (l' ++ (BL t).take m) seed) := by
          obtain ⟨q1, q2⟩ := HN.out
          obtain ⟨m1, m2, m3, m4⟩ := HM.out
          refine HS.more (L := L) (by omega) m3 (BL_lt t) HX.out.2.1 HX.out.2.2.1 (by omega) ?_
          rw [q2, q1, ← m1]
          have := HW2.out.1
          rw [q1] at this
          exact this
        go_wp2
        refine ⟨⟨_, _, rfl, HL.out, HE.out, HW2.out.2⟩, ?_⟩
        simp [strLen]
        omega
    · have ht0 : t.size = 0 := by omega
      have HR : Hid (HS wr b p (l ++ BL s) seed ∧ Only b w wr) := by
        refine ⟨?_, ho⟩
        have : BL t = [] := List.eq_nil_of_length_eq_zero (by rw [BL_length]; exact ht0)
        rw [this, List.append_nil] at hl
        rw [← hl]
        exact ⟨L, hb, hL, hLt⟩
      clear hb hL hLt ho hl
      go_wp2
      go_end0
      exact ⟨rfl, HR.out⟩
end Go.Proofs.Ytbncfpbehahidaa.S2
namespace Go.Proofs.Ytbncfpbehahidaa.S2
open Go.RowKit
set_option linter.unusedVariables false
set_option maxRecDepth 20000

theorem hstep_int (p n q y z : Nat) : ∃ u r : Nat, ((y : Int) + (z : Int) * (p : Nat) % 4294967296) % 4294967296 = (u : Int) ∧ u < 4294967296 ∧ rot n u = r ∧ (r : Int) * (q : Nat) % 4294967296 = (hstep p n q y z : Nat) := by
  refine ⟨(y + hmul z p) % 4294967296, _, ?_, Nat.mod_lt _ (by omega), rfl, ?_⟩
  · rw [hmul_bits]; omega
  · rw [hmul_bits]; rfl
theorem wd_left (l : List Nat) (L : Nat → Nat) (j : Nat) (hL : ∀ k, k < l.length % 16 → L k = l.getD (16 * (l.length / 16) + k) 0) (hj : 4 * j + 4 ≤ l.length % 16) :
    wdN (fun k => L (4 * j + k)) 4 = wd l (l.length / 16 * 16 + 4 * j) := by
  have e : ∀ k, k < 4 → L (4 * j + k) = l.getD (l.length / 16 * 16 + 4 * j + k) 0 := fun k hk => by
    rw [hL _ (by omega)]
    congr 1
    omega
  rw [wdN_four]
  unfold wd
  rw [e 0 (by omega), e 1 (by omega), e 2 (by omega), e 3 (by omega), Nat.add_zero]
def slLen : Value → Nat
  | .slice _ n _ => n
  | _ => 0
set_option maxRecDepth 20000 in
set_option maxHeartbeats 1000000 in
theorem sum (b : Nat) (p : Value) (l : List Nat) (seed : Nat) (w : World) (h : HS w b p l seed) (hlen : l.length ≤ 4611686018427387904) (hseed : seed < 4294967296) (hl : ∀ x ∈ l, x < 256) :
    Calls Try.prog 60 #[.pointer (some ⟨b, 0, none⟩)] w fun e w' => e = .returned (.int .u32 (hashOf l seed : Nat)) ∧ ∃ k, w' = w.drewN k := by
  obtain ⟨L, hb, hL, hLt⟩ := h
  obtain ⟨n, hn⟩ : ∃ n, l.length = n := ⟨_, rfl⟩
  obtain ⟨r, hr⟩ : ∃ r, l.length % 16 = r := ⟨_, rfl⟩
  have hr16 : r < 16 := by omega
  have h6 := hb.took
  rw [hn] at h6
  have HBG : Hid (∀ k, Calls Try.prog 67 #[.pointer (some ⟨b, 0, none⟩)] (w.drewN k) fun e w' => e = .returned (.int .u32 (hbeg l seed : Nat)) ∧ w' = w.drewN k) := by
    intro k
    unfold hbeg
    by_cases h16 : l.length < 16
    · rw [if_pos h16]
      exact begun_short b p seed _ _ L _ (hb.drewN k) h16
    · rw [if_neg h16]
      have := begun_long b p seed _ _ L _ (hb.drewN k) (by omega) (fun i => lan_lt _ _ _ _ (ini_lt _ _))
      rw [fs_four] at this
      exact this
  obtain ⟨g, hg⟩ : ∃ g, hbeg l seed = g := ⟨_, rfl⟩
  rw [hg] at HBG
  obtain ⟨y0, hy0⟩ : ∃ y0, (g + n) % 4294967296 = y0 := ⟨_, rfl⟩
  have hy0l : y0 < 4294967296 := by omega
  have hyi : ((g : Int) + (n : Int) % 4294967296) % 4294967296 = (y0 : Int) := by omega
  have hyi2 : ((g : Int) + (n : Int)) % 4294967296 = (y0 : Int) := by omega
  have HY0 : Hid (hashOf l seed = spr (hrest l y0)) := by
    show _ = _
    unfold hashOf
    rw [hg, hn, hy0]
  have ht1 : (n : Int).tmod 16 = (r : Int) := by rw [Int.tmod_eq_emod_of_nonneg (by omega)]; omega
  have ht2 : (n : Int) % 16 = (r : Int) := by omega
  have hsl := slice_hm b 7 r (by omega)
  have HX : Hid (HB w b p seed (fun i => lan l (ini seed i) i (l.length / 16)) l.length L ∧ (∀ k, k < l.length % 16 → L k = l.getD (16 * (l.length / 16) + k) 0) ∧ (∀ k, L k < 256) ∧ (∀ x ∈ l, x < 256)) := ⟨hb, hL, hLt, hl⟩
  have HN : Hid (l.length = n ∧ l.length % 16 = r) := ⟨hn, hr⟩
  have hnl : n ≤ 4611686018427387904 := by omega
  clear hb hL hLt hl hn hr hg hy0 hlen
  go_enter Try.func60, Try.ntmps60
  go_wp2
  go_quiet (first | (go_at_call 67; refine Calls.quiet_of_same (HBG.out _)))
  go_wp2
  rw [hyi]
  clear hyi hyi2 HBG hsl ht1 ht2 h6
  have HC : Hid (∀ k i, i < 16 → (w.drewN k).cell? ⟨b, 7 + i, none⟩ = some (.int .u8 (L i : Nat))) := fun k i hi => (HX.out.1.drewN k).left i hi
  go_loop [3, 5] (fun x lf => ∃ (j y c : Nat) (A : Addr), 4 * j ≤ r ∧ c = r - 4 * j ∧ lf = .slice (some A) c c ∧ (0 < c → A = ⟨b, 7 + 4 * j, none⟩) ∧ x = .int .u32 (y : Nat) ∧ y < 4294967296 ∧ y = hws l (l.length / 16 * 16) y0 j) (fun _ lf => slLen lf)
  case atStart => exact ⟨0, y0, r, ⟨b, 7, none⟩, by omega, by omega, rfl, fun _ => rfl, rfl, hy0l, rfl⟩
  case round =>
    obtain ⟨j, y, c, A, hj, hc, rfl, hA, rfl, hyl, hy⟩ := hrel
    have HY : Hid (y = hws l (l.length / 16 * 16) y0 j) := hy
    have HCC : Hid (c = r - 4 * j) := hc
    clear hy
    by_cases hc4 : 4 ≤ c
    · obtain rfl : A = ⟨b, 7 + 4 * j, none⟩ := hA (by omega)
      clear hA hc
      have hword := fun w1 (hw1 : ∀ i, i < 16 → w1.cell? ⟨b, 7 + i, none⟩ = some (.int .u8 (L i : Nat))) => word b (7 + 4 * j) c c (fun k => L (4 * j + k)) w1 hc4 (fun k => HX.out.2.2.1 _) (fun k hk => by
        rw [Nat.add_assoc]; exact hw1 (4 * j + k) (by have := HCC.out; omega))
      obtain ⟨z, hz⟩ : ∃ z, wdN (fun k => L (4 * j + k)) 4 = z := ⟨_, rfl⟩
      obtain ⟨u, q, hu, hul, hq, hqs⟩ := hstep_int 3266489917 17 668265263 y z
      simp only [Int.cast_ofNat_Int] at hu hqs
      obtain ⟨y', hy'⟩ : ∃ y', hstep 3266489917 17 668265263 y z = y' := ⟨_, rfl⟩
      rw [hy'] at hqs
      have HY' : Hid (y' < 4294967296 ∧ y' = hws l (l.length / 16 * 16) y0 (j + 1)) := by
        constructor
        · rw [← hy']; exact hstep_lt _ _ _ _ _
        · simp only [hws]
          rw [← HY.out, ← wd_left l L j HX.out.2.1 (by have := HCC.out; have := HN.out; omega), hz, hy']
      simp only [hz] at hword
      have hrot := fun w : World => rotate u 17 w hul (by omega) (by omega)
      simp only [hq] at hrot
      have HW : Hid _ := hword
      have HRT : Hid _ := hrot
      clear hword hrot hq hz hy'
      go_wp2_with fail
      refine (HW.out _ (fun i hi => HC.out _ i hi)).mono ?_
      rintro e w1 ⟨rfl, hw1⟩
      obtain rfl := hw1.symm
      go_wp2_with fail
      rw [hu]
      refine (HRT.out _).mono ?_
      rintro e w1 ⟨rfl, hw1⟩
      obtain rfl := hw1.symm
      go_wp2
      rw [hqs]
      refine ⟨⟨j + 1, y', c - 4, if c = 4 then ⟨b, 7 + 4 * j, none⟩ else ⟨b, 7 + 4 * j + 4, none⟩, by have := HCC.out; omega, by have := HCC.out; omega, ?_, ?_, rfl, HY'.out.1, HY'.out.2⟩, by simp [slLen]; omega⟩
      · by_cases h4 : c = 4
        · rw [if_pos h4, if_pos h4]
        · rw [if_neg h4, if_neg h4]
      · intro hp
        rw [if_neg (by omega)]
        congr 1
    · have hc0 : ¬ (4 ≤ (c : Int)) := by omega
      have HAA : Hid (0 < c → A = ⟨b, 7 + 4 * j, none⟩) := hA
      clear hA hc
      go_wp2
      go_loop [3, 41] (fun x ix => ∃ (i v : Nat), i ≤ c ∧ ix = .int .i64 i ∧ x = .int .u32 (v : Nat) ∧ v < 4294967296 ∧ v = hbs l (l.length / 4 * 4) y i) (fun _ ix => c - (intOf ix).toNat)
      case atStart => exact ⟨0, y, Nat.zero_le _, rfl, rfl, hyl, rfl⟩
      case round =>
        obtain ⟨i, v, hi, rfl, rfl, hvl, hv⟩ := hrel
        have HV : Hid (v = hbs l (l.length / 4 * 4) y i) := hv
        clear hv
        by_cases hlt : i < c
        · obtain rfl : A = ⟨b, 7 + 4 * j, none⟩ := HAA.out (by omega)
          obtain ⟨z, hz⟩ : ∃ z, L (4 * j + i) = z := ⟨_, rfl⟩
          have hzl : z < 256 := by rw [← hz]; exact HX.out.2.2.1 _
          have hcell : w.cell? ⟨b, 7 + 4 * j + i, none⟩ = some (.int .u8 (z : Nat)) := by
            rw [Nat.add_assoc, ← hz]
            exact HC.out 0 (4 * j + i) (by have := HCC.out; omega)
          obtain ⟨u, q, hu, hul, hq, hqs⟩ := hstep_int 374761393 11 2654435761 v z
          simp only [Int.cast_ofNat_Int] at hu hqs
          obtain ⟨y', hy'⟩ : ∃ y', hstep 374761393 11 2654435761 v z = y' := ⟨_, rfl⟩
          rw [hy'] at hqs
          have HY' : Hid (y' < 4294967296 ∧ y' = hbs l (l.length / 4 * 4) y (i + 1)) := by
            constructor
            · rw [← hy']; exact hstep_lt _ _ _ _ _
            · simp only [hbs]
              have e1 : l.getD (l.length / 4 * 4 + i) 0 = z := by
                rw [← hz, HX.out.2.1 (4 * j + i) (by have := HCC.out; have := HN.out; omega)]
                congr 1
                have := HCC.out
                have := HN.out
                omega
              rw [← HV.out, e1, hy']
          have hrot := fun w : World => rotate u 11 w hul (by omega) (by omega)
          simp only [hq] at hrot
          have HRT : Hid _ := hrot
          have hzm : (z : Int) % 4294967296 = (z : Int) := by omega
          clear hrot hq hy'
          go_wp2_with fail
          refine (HRT.out _).mono ?_
          rintro e w1 ⟨rfl, hw1⟩
          obtain rfl := hw1.symm
          go_wp2
          (try rw [hqs])
          exact ⟨⟨i + 1, y', by omega, by go_num, rfl, HY'.out.1, HY'.out.2⟩, by simp [intOf]; omega⟩
        · obtain rfl : i = c := by omega
          have HE : Hid (spr v = hashOf l seed) := by
            show _ = _
            rw [HY0.out]
            unfold hrest
            have := HCC.out
            have := HN.out
            rw [show l.length % 16 / 4 = j by omega, show l.length % 4 = i by omega, ← HY.out, ← HV.out]
          go_wp2_with fail
          refine (spread v _ hvl).mono ?_
          rintro e w1 ⟨rfl, hw1⟩
          obtain rfl := hw1.symm
          go_wp2
          go_ret
          exact ⟨ret_int (by rw [HE.out]), _, rfl⟩
end Go.Proofs.Ytbncfpbehahidaa.S2
namespace Go.Proofs.Ytbncfpbehahidaa.S2
open Go.RowKit
set_option linter.unusedVariables false
set_option maxRecDepth 20000

theorem HS.start {w : World} {b : Nat} {p : Value} {seed : Nat} (h : HB w b p seed (fun i => ini seed i) 0 (fun _ => 0)) : HS w b p [] seed :=
  ⟨fun _ => 0, h, fun k hk => by simp at hk, fun _ => by show 0 < 256; omega⟩
theorem HS.drewN {w : World} {b : Nat} {p : Value} {l : List Nat} {seed : Nat} (h : HS w b p l seed) (k : Nat) : HS (w.drewN k) b p l seed := h
theorem HS.below {w w' : World} {b B : Nat} {p : Value} {l : List Nat} {seed : Nat} (h : HS w b p l seed) (hb : Below B w w') (hlt : b < B) : HS w' b p l seed := by
  obtain ⟨L, h1, h2, h3⟩ := h
  exact ⟨L, h1.below hb hlt, h2, h3⟩
theorem HS.self {w : World} {b : Nat} {p : Value} {l : List Nat} {seed : Nat} (h : HS w b p l seed) : w.cell? ⟨b, 0, none⟩ = some p := by
  obtain ⟨L, h1, h2, h3⟩ := h
  exact h1.self
set_option maxHeartbeats 400000 in
theorem hash (s : ByteArray) (seed : Int) (sd : Nat) (w : World) (hs : s.size ≤ 140737488351232) (hsd : (sd : Int) = seed % 4294967296) :
    Calls Try.prog 47 #[.string s, .int .i64 seed] w fun e w' => e = .returned (.int .i64 (hashOf (BL s) sd : Nat)) ∧ Below w.heap.size w w' := by
  have hsl : sd < 4294967296 := by omega
  have hhl := hashOf_lt (BL s) sd
  obtain ⟨H, hH⟩ : ∃ H, hashOf (BL s) sd = H := ⟨_, rfl⟩
  rw [hH] at hhl
  rw [hH]
  have HHH : Hid (hashOf (BL s) sd = H) := hH
  clear hH
  have hcv : seed % 4294967296 = (sd : Int) := hsd.symm
  have HSD : Hid ((sd : Int) = seed % 4294967296) := hsd
  clear hsd
  go_enter Try.func47, Try.ntmps47
  go_wp2_with fail
  refine (newHasher sd _ hsl).mono ?_
  rintro e w1 ⟨rfl, hb1, hz1, hbel1⟩
  have H1 : Hid (HS w1 w.heap.size (.pointer none) [] sd ∧ Below w.heap.size w w1) := ⟨HS.start hb1, hbel1⟩
  clear hb1 hz1 hbel1 hcv
  go_wp2_with fail
  refine (take w.heap.size (.pointer none) [] sd s _ H1.out.1 (by simp; omega)).mono ?_
  rintro e w2 ⟨rfl, hb2, ho2⟩
  have H2 : Hid (HS w2 w.heap.size (.pointer none) (BL s) sd ∧ Below w.heap.size w w2) := ⟨hb2, H1.out.2.trans (ho2.below (Nat.le_refl _) H1.out.2.size)⟩
  clear hb2 ho2 H1
  go_wp2_with fail
  refine (sum w.heap.size (.pointer none) (BL s) sd _ H2.out.1 (by rw [BL_length]; omega) hsl (BL_lt s)).mono ?_
  rintro e w3 ⟨rfl, k, rfl⟩
  rw [HHH.out]
  go_wp2
  go_ret
  exact ⟨rfl, below_drewN H2.out.2 k⟩
theorem crc9 : crcOf [49, 50, 51, 52, 53, 54, 55, 56, 57] = 3808858755 := by decide +kernel
theorem hash0 : hashOf [] 0 = 46947589 := by decide +kernel
end Go.Proofs.Ytbncfpbehahidaa.S2
