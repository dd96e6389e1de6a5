/- A hasher's state, and its small calls. -/
import Derived.Test.YtofjkopfldgkcabSd
import Derived.Deep.RegionWith
import Derived.Deep.RegionLaw
namespace Go.Proofs.Ytofjkopfldgkcab
open Go.RowKit
set_option linter.unusedVariables false

/-- The cells of a hasher: what it leads to, seed, four lanes, how many bytes it took, sixteen bytes. -/
def hcl (p : Value) (seed : Nat) (v : Nat → Nat) (n : Nat) (L : Nat → Nat) (i : Nat) : Value :=
  if i = 0 then p else if i = 1 then .int .u32 (seed : Nat) else if i < 6 then .int .u32 (v (i - 2) : Nat) else if i = 6 then .int .i64 (n : Nat) else .int .u8 (L (i - 7) : Nat)
def hrow (f : Nat → Value) : Array Value := ((List.range 23).map f).toArray
theorem hrow_size (f : Nat → Value) : (hrow f).size = 23 := by simp [hrow]
theorem hrow_get (f : Nat → Value) (i : Nat) (hi : i < 23) : (hrow f)[i]? = some (f i) := by simp [hrow, hi]
theorem hrow_set (f g : Nat → Value) (j : Nat) (u : Value) (hj : j < 23) (h : ∀ i, i < 23 → g i = if i = j then u else f i) : (hrow f).setIfInBounds j u = hrow g := by
  apply Array.ext_getElem?
  intro i
  rw [Array.getElem?_setIfInBounds, hrow_size]
  by_cases hi : i < 23
  · rw [hrow_get _ _ hi, hrow_get _ _ hi, h i hi]
    by_cases e : j = i
    · subst e; simp [hi]
    · rw [if_neg e, if_neg (fun q => e q.symm)]
  · rw [Array.getElem?_eq_none (by rw [hrow_size]; omega), Array.getElem?_eq_none (by rw [hrow_size]; omega), if_neg (by omega)]
def HB (w : World) (b : Nat) (p : Value) (seed : Nat) (v : Nat → Nat) (n : Nat) (L : Nat → Nat) : Prop :=
  w.heap[b]? = some (.cells (hrow (hcl p seed v n L)) 40 (0, 0))
section
variable {w : World} {b : Nat} {p : Value} {seed : Nat} {v : Nat → Nat} {n : Nat} {L : Nat → Nat}
theorem HB.at (h : HB w b p seed v n L) (i : Nat) (hi : i < 23) : w.cell? ⟨b, i, none⟩ = some (hcl p seed v n L i) := by
  unfold HB at h
  simp [World.cell?, h, hrow_get _ _ hi]
theorem HB.self (h : HB w b p seed v n L) : w.cell? ⟨b, 0, none⟩ = some p := h.at 0 (by omega)
theorem HB.theSeed (h : HB w b p seed v n L) : w.cell? ⟨b, 1, none⟩ = some (.int .u32 (seed : Nat)) := h.at 1 (by omega)
theorem HB.lane (h : HB w b p seed v n L) (i : Nat) (hi : i < 4) : w.cell? ⟨b, 2 + i, none⟩ = some (.int .u32 (v i : Nat)) := by
  rw [h.at (2 + i) (by omega)]
  unfold hcl
  rw [if_neg (by omega), if_neg (by omega), if_pos (by omega), show 2 + i - 2 = i by omega]
theorem HB.took (h : HB w b p seed v n L) : w.cell? ⟨b, 6, none⟩ = some (.int .i64 (n : Nat)) := h.at 6 (by omega)
theorem HB.left (h : HB w b p seed v n L) (i : Nat) (hi : i < 16) : w.cell? ⟨b, 7 + i, none⟩ = some (.int .u8 (L i : Nat)) := by
  rw [h.at (7 + i) (by omega)]
  unfold hcl
  rw [if_neg (by omega), if_neg (by omega), if_neg (by omega), if_neg (by omega), show 7 + i - 7 = i by omega]
theorem HB.free (h : HB w b p seed v n L) (i : Nat) : w.frozen? ⟨b, i, none⟩ = false := by
  unfold HB at h
  simp [World.frozen?, h]
theorem HB.drewN (h : HB w b p seed v n L) (k : Nat) : HB (w.drewN k) b p seed v n L := h
theorem HB.below {w' : World} {B : Nat} (h : HB w b p seed v n L) (hb : Below B w w') (hlt : b < B) : HB w' b p seed v n L := (hb.block b hlt).trans h
theorem HB.only {w' : World} {b' : Nat} (h : HB w b p seed v n L) (ho : Only b' w w') (hne : b ≠ b') : HB w' b p seed v n L := (ho.block b (lt_of_block h) hne).trans h
theorem HB.setSelf (h : HB w b p seed v n L) (q : Value) : HB (w.setCell ⟨b, 0, none⟩ q) b q seed v n L := by
  have := block_setCell (i := 0) (u := q) h
  rw [hrow_set _ (hcl q seed v n L) 0 q (by omega) (fun i hi => by unfold hcl; by_cases e : i = 0 <;> simp [e])] at this
  exact this
theorem HB.setLane (h : HB w b p seed v n L) (j x : Nat) (hj : j < 4) : HB (w.setCell ⟨b, 2 + j, none⟩ (.int .u32 (x : Nat))) b p seed (fun k => if k = j then x else v k) n L := by
  have := block_setCell (i := 2 + j) (u := .int .u32 (x : Nat)) h
  rw [hrow_set _ (hcl p seed (fun k => if k = j then x else v k) n L) (2 + j) _ (by omega) (fun i hi => by
    unfold hcl
    by_cases e : i = 2 + j
    · subst e
      rw [if_pos rfl, if_neg (by omega), if_neg (by omega), if_pos (by omega)]
      dsimp only
      rw [if_pos (by omega)]
    · rw [if_neg e]
      by_cases e0 : i = 0
      · rw [if_pos e0, if_pos e0]
      · rw [if_neg e0, if_neg e0]
        by_cases e1 : i = 1
        · rw [if_pos e1, if_pos e1]
        · rw [if_neg e1, if_neg e1]
          by_cases e6 : i < 6
          · rw [if_pos e6, if_pos e6]
            dsimp only
            rw [if_neg (by omega)]
          · rw [if_neg e6, if_neg e6])] at this
  exact this
theorem HB.setTook (h : HB w b p seed v n L) (m : Nat) : HB (w.setCell ⟨b, 6, none⟩ (.int .i64 (m : Nat))) b p seed v m L := by
  have := block_setCell (i := 6) (u := .int .i64 (m : Nat)) h
  rw [hrow_set _ (hcl p seed v m L) 6 _ (by omega) (fun i hi => by
    unfold hcl
    by_cases e : i = 6
    · subst e; rfl
    · rw [if_neg e, if_neg e, if_neg e])] at this
  exact this
end
def v0 (seed : Nat) : Nat → Nat := fun i => ini seed i
theorem newHasher (seed : Nat) (w : World) (hs : seed < 4294967296) :
    Calls Try.prog 9 #[.int .u32 seed] w fun e w' => e = .returned (.pointer (some ⟨w.heap.size, 0, none⟩)) ∧ HB w' w.heap.size (.pointer none) seed (fun i => ini seed i) 0 (fun _ => 0) ∧ w'.heap.size = w.heap.size + 1 ∧ Below w.heap.size w w' := by
  go_enter Try.func9, Try.ntmps9
  go_wp2
  go_ret
  refine ⟨rfl, ?_, by simp, (Below.refl _ _).alloc (Nat.le_refl _) _⟩
  unfold HB
  rw [heap_alloc_new]
  have q0 := ini0 seed
  have q1 := ini1 seed
  have q2 := ini2 seed
  have q3 := ini3 seed
  have e0 : ((ini seed 0 : Nat) : Int) = ((seed : Int) + 2654435761 + 2246822519) % 4294967296 := by omega
  have e1 : ((ini seed 1 : Nat) : Int) = ((seed : Int) + 2246822519) % 4294967296 := by omega
  have e2 : ((ini seed 2 : Nat) : Int) = (seed : Int) := by omega
  have e3 : ((ini seed 3 : Nat) : Int) = ((seed : Int) - 2654435761) % 4294967296 := by omega
  have e : hrow (hcl (.pointer none) seed (fun i => ini seed i) 0 (fun _ => 0)) = #[.pointer none, .int .u32 (seed : Nat), .int .u32 (ini seed 0 : Nat), .int .u32 (ini seed 1 : Nat), .int .u32 (ini seed 2 : Nat), .int .u32 (ini seed 3 : Nat), .int .i64 0, .int .u8 0, .int .u8 0, .int .u8 0, .int .u8 0, .int .u8 0, .int .u8 0, .int .u8 0, .int .u8 0, .int .u8 0, .int .u8 0, .int .u8 0, .int .u8 0, .int .u8 0, .int .u8 0, .int .u8 0, .int .u8 0] := by
    simp [hrow, hcl, List.range_succ]
  rw [e, e0, e1, e2, e3]
theorem eqSelfH (a : Addr) (w : World) : (binOp .eql 30 (.pointer (some a)) (.pointer (some a))).run Try.prog w = .ok (.bool true) w := by
  obtain ⟨j, hj⟩ : ∃ j, Try.prog.info? 40 = some j := Option.isSome_iff_exists.1 (by kernel_rfl)
  exact run_eql_ptr_same w a Try.underlying30 hj
theorem eql_nil_ptr {P : Program} (w : World) {tp te : TypeId} (a : Addr) (hp : P.underlying tp = some (.pointer te)) :
    (binOp .eql tp (.pointer none) (.pointer (some a))).run P w = .ok (.bool false) w := by
  have h : ∀ d : Nat, (Op.equalIn (d + 1) tp (.pointer none) (.pointer (some a))).run P w = .ok false w := fun d => by
    simp [Op.equalIn, run_underlying hp]
  simp only [binOp]
  simp [Op.equal, Op.maxDepth, h 9999]
theorem eqNilH (a : Addr) (w : World) : (binOp .eql 30 (.pointer none) (.pointer (some a))).run Try.prog w = .ok (.bool false) w :=
  eql_nil_ptr w a Try.underlying30
/-- The lanes' turns. -/
def tn : Nat → Nat
  | 0 => 1
  | 1 => 7
  | 2 => 12
  | _ => 18
def fs (v : Nat → Nat) : Nat → Nat
  | 0 => 0
  | j + 1 => (fs v j + rot (tn j) (v j)) % 4294967296
theorem fs_four (v : Nat → Nat) : fs v 4 = four4 (v 0) (v 1) (v 2) (v 3) := by
  simp only [fs, tn, four4]
  omega
theorem begun_short (b : Nat) (p : Value) (seed : Nat) (v : Nat → Nat) (n : Nat) (L : Nat → Nat) (w : World) (h : HB w b p seed v n L) (hn : n < 16) :
    Calls Try.prog 14 #[.pointer (some ⟨b, 0, none⟩)] w fun e w' => e = .returned (.int .u32 ((seed + 374761393) % 4294967296 : Nat)) ∧ w' = w := by
  have h1 := h.theSeed
  have h6 := h.took
  clear h
  go_enter Try.func14, Try.ntmps14
  go_wp2
  go_ret
  exact ⟨ret_int (by omega), rfl⟩
theorem begun_long (b : Nat) (p : Value) (seed : Nat) (v : Nat → Nat) (n : Nat) (L : Nat → Nat) (w : World) (h : HB w b p seed v n L) (hn : 16 ≤ n) (hv : ∀ i, v i < 4294967296) :
    Calls Try.prog 14 #[.pointer (some ⟨b, 0, none⟩)] w fun e w' => e = .returned (.int .u32 (fs v 4 : Nat)) ∧ w' = w := by
  have h6 := h.took
  have hnn : ¬ (n : Int) < 16 := by omega
  have HL : Hid (∀ i, i < 4 → w.cell? ⟨b, 2 + i, none⟩ = some (.int .u32 (v i : Nat))) := h.lane
  have HV : Hid (∀ i, v i < 4294967296) := hv
  clear h hv
  go_enter Try.func14, Try.ntmps14
  go_wp2
  go_loop [3, 17] (fun x i => ∃ j : Nat, j ≤ 4 ∧ i = .int .i64 j ∧ x = .int .u32 (fs v j : Nat)) (fun _ i => 4 - (intOf i).toNat)
  case atStart => exact ⟨0, Nat.zero_le _, rfl, rfl⟩
  case round =>
    obtain ⟨j, hj, rfl, rfl⟩ := hrel
    by_cases hlt : j < 4
    · have hc := HL.out j hlt
      have hvj := HV.out j
      have hidx : ∀ w : World, (Instr.index 44 (.agg #[Value.int .i64 1, .int .i64 7, .int .i64 12, .int .i64 18]) (.int .i64 (j : Nat))).run Try.prog w = .ok (.int .i64 (tn j : Nat)) w := by
        rcases (show j = 0 ∨ j = 1 ∨ j = 2 ∨ j = 3 by omega) with rfl | rfl | rfl | rfl <;> exact fun _ => by kernel_rfl
      have ht1 : 1 ≤ tn j := by unfold tn; split <;> omega
      have ht2 : tn j ≤ 31 := by unfold tn; split <;> omega
      go_wp2_with fail
      refine (rotate _ _ _ hvj ht1 ht2).mono ?_
      rintro e w1 ⟨rfl, rfl⟩
      go_wp2
      go_round
      case rel => exact ⟨j + 1, by omega, by go_num, congrArg (Value.int .u32) (by simp only [fs]; omega)⟩
      case measure => simp [intOf]; omega
    · obtain rfl : j = 4 := by omega
      go_wp2
      go_ret
      exact ⟨rfl, rfl⟩
end Go.Proofs.Ytofjkopfldgkcab
