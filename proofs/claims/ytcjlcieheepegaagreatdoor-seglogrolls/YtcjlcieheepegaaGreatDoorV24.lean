/- Layer 11: a segment lies in memory; its small calls. -/
/- Layer 11: Open of a file that is not there. -/
/- Layer 11: a segment's plain calls, and those of one that nobody opened. -/
/- Layer 11: take: the first batch of a segment. -/
/- Layer 11: take: the first batch of a segment. -/
/- Layer 11: Append: the first batch, and one that does not come next. -/
/- Layer 11: around, find, Batch of a segment that has one batch. -/
import Derived.Test.YtcjlcieheepegaaGreatDoorV20
import Derived.Test.YtcjlcieheepegaaGreatDoorV23
import Derived.LaidEqlPtr
import Derived.Deep.AppendLies
import Derived.Deep.RegionLaw
namespace Go.Proofs.YtcjlcieheepegaaGreatDoor
open Go.RowKit
set_option linter.unusedVariables false
set_option maxRecDepth 20000
set_option maxRecDepth 20000

theorem hide {p : Prop} (h : p) : Hid p := h
/-- A place. -/
structure Pl where
  off : Nat
  byt : Nat
  cnt : Nat
abbrev Pl.v (p : Pl) : Value := .agg #[.int .i64 (p.off : Nat), .int .i64 (p.byt : Nat), .int .i64 (p.cnt : Nat)]
def plc (P : List Pl) : List Value := P.flatMap fun p => [.int .i64 (p.off : Nat), .int .i64 (p.byt : Nat), .int .i64 (p.cnt : Nat)]
theorem plc_append (P Q : List Pl) : plc (P ++ Q) = plc P ++ plc Q := by simp [plc]
theorem plc_length (P : List Pl) : (plc P).length = P.length * 3 := by
  induction P with
  | nil => rfl
  | cons p P ih => simp only [plc, List.flatMap_cons, List.length_append, List.length_cons, List.length_nil] at ih ⊢; omega
/-- Block s is a segment: the disk d, its file's name, its base, the places that are listed, and the one behind. -/
structure SG (w : World) (B s d : Nat) (nm : ByteArray) (base : Nat) (P : List Pl) (bh : Pl) : Prop where
  blk : ∃ pv, w.heap[s]? = some (.cells #[.pointer (some ⟨s, 0, none⟩), .pointer (some ⟨d, 0, none⟩), .string nm, .int .i64 (base : Nat), pv, .int .i64 (bh.off : Nat), .int .i64 (bh.byt : Nat), .int .i64 (bh.cnt : Nat)] 71 (0, 0)) ∧ w.ownsRow B 68 3 pv P.length (plc P)
  hB : B ≤ s
theorem rowKeep {w w' : World} {B : Nat} {E : TypeId} {size n : Nat} {v : Value} {xs : List Value} (h : w.ownsRow B E size v n xs) (hb : ∀ (g : Nat) (cs : Array Value), w.heap[g]? = some (Obj.cells cs E (0, 0)) → w'.heap[g]? = w.heap[g]?) : w'.ownsRow B E size v n xs := by
  refine ⟨h.1, ?_⟩
  rcases h.2 with e | ⟨g, cap, cur, e1, e2, e3, e4⟩
  · exact .inl e
  · exact .inr ⟨g, cap, cur, e1, e2, (hb g _ e3).trans e3, e4⟩
theorem SG.keep {w w' : World} {B s d base : Nat} {nm : ByteArray} {P : List Pl} {bh : Pl} (h : SG w B s d nm base P bh) (hk : ∀ (i : Nat) (cs : Array Value) (t : TypeId) (mk : Nat × Nat), w.heap[i]? = some (Obj.cells cs t mk) → t = 71 ∨ t = 68 → w'.heap[i]? = w.heap[i]?) : SG w' B s d nm base P bh := by
  obtain ⟨pv, h1, h2⟩ := h.blk
  exact ⟨⟨pv, (hk s _ _ _ h1 (.inl rfl)).trans h1, rowKeep h2 fun g cs e => hk g _ _ _ e (.inr rfl)⟩, h.hB⟩
theorem SG.vf {w w' : World} {B B' s d base : Nat} {nm : ByteArray} {P : List Pl} {bh : Pl} (h : SG w B s d nm base P bh) (hv : V8.VF B' w w') : SG w' B s d nm base P bh :=
  h.keep fun i cs t mk hi ht => hv.kept i cs t mk hi (by rcases ht with rfl | rfl <;> decide) (by rcases ht with rfl | rfl <;> decide) (by rcases ht with rfl | rfl <;> decide)
theorem SG.below {w w' : World} {B s d base : Nat} {nm : ByteArray} {P : List Pl} {bh : Pl} (h : SG w B s d nm base P bh) (hb : Below w.heap.size w w') : SG w' B s d nm base P bh :=
  h.keep fun i cs t mk hi _ => hb.block i (lt_of_block hi)
theorem SG.lt {w : World} {B s d base : Nat} {nm : ByteArray} {P : List Pl} {bh : Pl} (h : SG w B s d nm base P bh) : s < w.heap.size := by
  obtain ⟨pv, h1, _⟩ := h.blk
  exact lt_of_block h1
theorem SG.cells {w : World} {B s d base : Nat} {nm : ByteArray} {P : List Pl} {bh : Pl} (h : SG w B s d nm base P bh) : w.cell? ⟨s, 0, none⟩ = some (.pointer (some ⟨s, 0, none⟩)) ∧ w.cell? ⟨s, 1, none⟩ = some (.pointer (some ⟨d, 0, none⟩)) ∧ w.cell? ⟨s, 2, none⟩ = some (.string nm) ∧ w.cell? ⟨s, 3, none⟩ = some (.int .i64 (base : Nat)) ∧ w.cell? ⟨s, 5, none⟩ = some (.int .i64 (bh.off : Nat)) ∧ w.cell? ⟨s, 6, none⟩ = some (.int .i64 (bh.byt : Nat)) ∧ w.cell? ⟨s, 7, none⟩ = some (.int .i64 (bh.cnt : Nat)) := by
  obtain ⟨pv, h1, _⟩ := h.blk
  simp [World.cell?, h1]
theorem eqSelfS (a : Addr) (w : World) : (binOp .eql 53 (.pointer (some a)) (.pointer (some a))).run Tryz.prog w = .ok (.bool true) w := by
  obtain ⟨j, hj⟩ : ∃ j, Tryz.prog.info? 71 = some j := Option.isSome_iff_exists.1 (by kernel_rfl)
  exact run_eql_ptr_same w a Tryz.underlying53 hj
theorem eqNilS (a : Addr) (w : World) : (binOp .eql 53 (.pointer none) (.pointer (some a))).run Tryz.prog w = .ok (.bool false) w :=
  V8.eql_nil_ptr w a Tryz.underlying53
theorem sgiven_yes (s : Nat) (w : World) (h0 : w.cell? ⟨s, 0, none⟩ = some (.pointer (some ⟨s, 0, none⟩))) :
    Calls Tryz.prog 30 #[.pointer (some ⟨s, 0, none⟩)] w fun e w' => e = .returned (.bool true) ∧ w' = w := by
  have he := eqSelfS ⟨s, 0, none⟩
  go_enter Tryz.func30, Tryz.ntmps30
  go_wp2
  go_ret
  exact ⟨rfl, rfl⟩
theorem sgiven_zero (s : Nat) (w : World) (h0 : w.cell? ⟨s, 0, none⟩ = some (.pointer none)) :
    Calls Tryz.prog 30 #[.pointer (some ⟨s, 0, none⟩)] w fun e w' => e = .returned (.bool false) ∧ w' = w := by
  have he := eqNilS ⟨s, 0, none⟩
  go_enter Tryz.func30, Tryz.ntmps30
  go_wp2
  go_ret
  exact ⟨rfl, rfl⟩
theorem sgiven_nil (w : World) :
    Calls Tryz.prog 30 #[.pointer none] w fun e w' => e = .returned (.bool false) ∧ w' = w := by
  go_enter Tryz.func30, Tryz.ntmps30
  go_wp2
  go_ret
  exact ⟨rfl, rfl⟩
end Go.Proofs.YtcjlcieheepegaaGreatDoor
namespace Go.Proofs.YtcjlcieheepegaaGreatDoor
open Go.RowKit
set_option linter.unusedVariables false
set_option maxRecDepth 20000
set_option maxRecDepth 20000

theorem belD (W : World) : Below W.heap.size W W.drew := ⟨rfl, rfl, rfl, Nat.le_refl _, fun _ _ => rfl⟩
set_option maxHeartbeats 2000000 in
theorem takeWhole_none (w : World) (B s d base : Nat) (nm : ByteArray) (Bd room cnt us : Nat) (F : List UInt8 → Option (List Nat × Nat)) (h : SG w B s d nm base [] ⟨base, 0, 0⟩) (hd : V8.VD w Bd d room F cnt us) (hm : V8.May nm) (hs : F nm.data.toList = none) :
    Calls Tryz.prog 62 #[.pointer (some ⟨s, 0, none⟩)] w fun e w' => e = .returned (.int .i64 0) ∧ Below w.heap.size w w' := by
  have hd' : V8.VD w.drew Bd d room F cnt us := hd.below (belD w)
  have HSz := hide (V8.size_none w.drew Bd d room cnt us F hd' nm hm hs)
  have HRd := hide (V8.read_less w.drew (.pointer (some ⟨d, 0, none⟩)) nm 3 (V8.find_none' w.drew Bd d room cnt us F hd' nm hm hs))
  obtain ⟨c0, c1, c2, c3, c5, c6, c7⟩ := h.cells
  have e1 : w.drew.cell? ⟨s, 1, none⟩ = some (.pointer (some ⟨d, 0, none⟩)) := c1
  have e2 : w.drew.cell? ⟨s, 2, none⟩ = some (.string nm) := c2
  have HO := hide (bof_short ⟨#[]⟩ w.drew (short_few _ (by decide)))
  have HH := hide h
  clear h hd hd' hm hs c0 c3 c5 c6 c7
  go_enter Tryz.func62, Tryz.ntmps62
  go_upto_region 1 with fail
  go_region_held_law (fun w' => w'.cell? ⟨s, 1, none⟩ = some (.pointer (some ⟨d, 0, none⟩)) ∧ w'.cell? ⟨s, 2, none⟩ = some (.string nm))
    (first | exact ⟨e1, e2⟩ | go_keep)
    (first
      | (go_at_call 85; refine HSz.out.mono ?_; rintro e W ⟨rfl, rfl⟩)
      | (go_at_call 61; refine HRd.out.mono ?_; rintro e W ⟨rfl, rfl⟩))
  go_wp2
  go_loopw [3] (fun v wr => v = .string ⟨#[]⟩ ∧ wr = w.drew) (fun _ _ => 0)
  case atStart => exact ⟨rfl, rfl⟩
  case round =>
    obtain ⟨rfl, rfl⟩ := hrel
    unfold bv0 at HO
    go_wp2_with fail
    refine HO.out.mono ?_
    rintro e w2 ⟨rfl, hb2⟩
    have HB : Hid (Below w.heap.size w ((w2.alloc (.cells #[.int .i64 0, .int .i64 0, .int .i64 0, .int .i64 0, .int .i64 0, .slice none 0 0] 46)))) := by
      have hb : Below w.heap.size w w2 := ⟨hb2.os, hb2.tape, hb2.output, hb2.size, hb2.block⟩
      exact hb.alloc hb.size _
    clear hb2 HO HSz HRd c1 c2 e1 e2
    go_upto_region 3 with fail
    generalize (w2.alloc (.cells #[.int .i64 0, .int .i64 0, .int .i64 0, .int .i64 0, .int .i64 0, .slice none 0 0] 46)) = w3 at HB
    go_region
    go_wp2
    go_ret
    exact ⟨rfl, HB.out.trans ((belD w3).mono HB.out.size)⟩
set_option maxHeartbeats 2000000 in
theorem open_none (w : World) (d base : Nat) (nm : ByteArray) (Bd room cnt us : Nat) (F : List UInt8 → Option (List Nat × Nat)) (hd : V8.VD w Bd d room F cnt us) (hm : V8.May nm) (hs : F nm.data.toList = none) (hb : base ≤ 1099511627520) :
    Calls Tryz.prog 36 #[.pointer (some ⟨d, 0, none⟩), .string nm, .int .i64 (base : Nat)] w fun e w' => ∃ s, e = .returned (.tuple #[.pointer (some ⟨s, 0, none⟩), .int .i64 0, .int .i64 0]) ∧ SG w' w.heap.size s d nm base [] ⟨base, 0, 0⟩ ∧ Below w.heap.size w w' := by
  have hb0 : ¬ (base : Int) < 0 := by omega
  have hb1 : ¬ (1099511627520 : Int) < (base : Int) := by omega
  have HRd := hide (V8.read_err w (.pointer (some ⟨d, 0, none⟩)) nm 3 rfl (V8.find_none' w Bd d room cnt us F hd nm hm hs))
  have HC := hide (V8.clone nm w (by have := hm.2.1; omega))
  have HD := hide (And.intro hd (And.intro hm hs))
  clear hd hm hs hb
  go_enter Tryz.func36, Tryz.ntmps36
  go_wp2_with fail
  refine HRd.out.mono ?_
  rintro e W ⟨rfl, hW⟩
  obtain rfl := hW.symm
  clear HRd hW
  go_wp2_with fail
  refine HC.out.mono ?_
  rintro e w1 ⟨rfl, hb1'⟩
  have HB := hide hb1'
  clear hb1' HC
  obtain ⟨s, hsz⟩ : ∃ s, w1.heap.size = s := ⟨_, rfl⟩
  go_upto_region 7 with fail
  have HW2 : Hid (Below w.heap.size w (w1.alloc (.cells #[.pointer none, .pointer (some ⟨d, 0, none⟩), .string nm, .int .i64 (base : Nat), .slice none 0 0, .int .i64 (base : Nat), .int .i64 0, .int .i64 0] 71)) ∧ (w1.alloc (.cells #[.pointer none, .pointer (some ⟨d, 0, none⟩), .string nm, .int .i64 (base : Nat), .slice none 0 0, .int .i64 (base : Nat), .int .i64 0, .int .i64 0] 71)).heap[s]? = some (.cells #[.pointer none, .pointer (some ⟨d, 0, none⟩), .string nm, .int .i64 (base : Nat), .slice none 0 0, .int .i64 (base : Nat), .int .i64 0, .int .i64 0] 71 (0, 0)) ∧ w.heap.size ≤ s) :=
    ⟨HB.out.alloc HB.out.size _, by rw [← hsz]; exact heap_alloc_new _ _, by rw [← hsz]; exact HB.out.size⟩
  generalize (w1.alloc (.cells #[.pointer none, .pointer (some ⟨d, 0, none⟩), .string nm, .int .i64 (base : Nat), .slice none 0 0, .int .i64 (base : Nat), .int .i64 0, .int .i64 0] 71)) = w2 at HW2
  clear hsz HB
  have c0 : w2.cell? ⟨s, 0, none⟩ = some (.pointer none) := by simp [World.cell?, HW2.out.2.1]
  have f0 : w2.frozen? ⟨s, 0, none⟩ = false := frozen0 HW2.out.2.1 0
  have HW3 : Hid (SG (w2.setCell ⟨s, 0, none⟩ (.pointer (some ⟨s, 0, none⟩))) w.heap.size s d nm base [] ⟨base, 0, 0⟩ ∧ Below w.heap.size w (w2.setCell ⟨s, 0, none⟩ (.pointer (some ⟨s, 0, none⟩)))) :=
    ⟨⟨⟨.slice none 0 0, block_set HW2.out.2.1, ⟨rfl, .inl ⟨rfl, rfl⟩⟩⟩, HW2.out.2.2⟩, HW2.out.1.trans (below_set w2 _ HW2.out.2.2)⟩
  go_upto_region 8 with fail
  clear c0 f0
  generalize (w2.setCell ⟨s, 0, none⟩ (.pointer (some ⟨s, 0, none⟩))) = w3 at HW3
  have HTW := hide (takeWhole_none w3 w.heap.size s d base nm Bd room cnt us F HW3.out.1 (HD.out.1.below HW3.out.2) HD.out.2.1 HD.out.2.2)
  go_wp2_with fail
  refine HTW.out.mono ?_
  rintro e w4 ⟨rfl, hb4⟩
  have H4 := hide (And.intro (HW3.out.1.below hb4) (HW3.out.2.trans (hb4.mono HW3.out.2.size)))
  clear hb4
  go_wp2
  go_ret3
  exact ⟨s, rfl, H4.out.1, H4.out.2⟩
/-- Open of a disk, or of a name, that may not be. -/
theorem open_bad (w : World) (v : Value) (nm : ByteArray) (base : Nat) (hb : base ≤ 1099511627520) (HF : Calls Tryz.prog 53 #[v, .string nm] w fun e w' => e = .returned (.tuple #[.pointer none, .int .i64 1]) ∧ w' = w) :
    Calls Tryz.prog 36 #[v, .string nm, .int .i64 (base : Nat)] w fun e w' => e = .returned (.tuple #[.pointer none, .int .i64 0, .int .i64 1]) ∧ w' = w := by
  have hb0 : ¬ (base : Int) < 0 := by omega
  have hb1 : ¬ (1099511627520 : Int) < (base : Int) := by omega
  have HRd := hide (V8.read_err w v nm 1 rfl HF)
  clear HF hb
  go_enter Tryz.func36, Tryz.ntmps36
  go_wp2_with fail
  refine HRd.out.mono ?_
  rintro e W ⟨rfl, hW⟩
  obtain rfl := hW.symm
  clear HRd hW
  go_wp2
  go_ret3
  exact ⟨rfl, rfl⟩
theorem open_out (w : World) (v : Value) (nm : ByteArray) (base : Int) (hb : base < 0 ∨ 1099511627520 < base) :
    Calls Tryz.prog 36 #[v, .string nm, .int .i64 base] w fun e w' => e = .returned (.tuple #[.pointer none, .int .i64 0, .int .i64 1]) ∧ w' = w := by
  by_cases hb0 : base < 0
  · go_enter Tryz.func36, Tryz.ntmps36
    go_wp2
    go_ret3
    exact ⟨rfl, rfl⟩
  · have hb1 : (1099511627520 : Int) < base := by omega
    go_enter Tryz.func36, Tryz.ntmps36
    go_wp2
    go_ret3
    exact ⟨rfl, rfl⟩
end Go.Proofs.YtcjlcieheepegaaGreatDoor
namespace Go.Proofs.YtcjlcieheepegaaGreatDoor
open Go.RowKit
set_option linter.unusedVariables false
set_option maxRecDepth 20000
set_option maxRecDepth 20000

def NobS (w : World) (v : Value) : Prop := v = .pointer none ∨ ∃ s, v = .pointer (some ⟨s, 0, none⟩) ∧ w.cell? ⟨s, 0, none⟩ = some (.pointer none)
theorem sgiven_no (w : World) (v : Value) (h : NobS w v) : Calls Tryz.prog 30 #[v] w fun e w' => e = .returned (.bool false) ∧ w' = w := by
  rcases h with rfl | ⟨s, rfl, h⟩
  · exact sgiven_nil w
  · exact sgiven_zero s w h
theorem sBase_ok (w : World) (B s d base : Nat) (nm : ByteArray) (P : List Pl) (bh : Pl) (h : SG w B s d nm base P bh) :
    Calls Tryz.prog 20 #[.pointer (some ⟨s, 0, none⟩)] w fun e w' => e = .returned (.int .i64 (base : Nat)) ∧ w' = w := by
  obtain ⟨c0, c1, c2, c3, c5, c6, c7⟩ := h.cells
  have HG := hide (sgiven_yes s w c0)
  clear h c1 c2
  go_enter Tryz.func20, Tryz.ntmps20
  go_wp2_with fail
  refine HG.out.mono ?_
  rintro e W ⟨rfl, hW⟩
  obtain rfl := hW.symm
  clear HG hW
  go_wp2
  go_ret
  exact ⟨rfl, rfl⟩
theorem sEnd_ok (w : World) (B s d base : Nat) (nm : ByteArray) (P : List Pl) (bh : Pl) (h : SG w B s d nm base P bh) :
    Calls Tryz.prog 16 #[.pointer (some ⟨s, 0, none⟩)] w fun e w' => e = .returned (.int .i64 (bh.off : Nat)) ∧ w' = w := by
  obtain ⟨c0, c1, c2, c3, c5, c6, c7⟩ := h.cells
  have HG := hide (sgiven_yes s w c0)
  clear h c1 c2
  go_enter Tryz.func16, Tryz.ntmps16
  go_wp2_with fail
  refine HG.out.mono ?_
  rintro e W ⟨rfl, hW⟩
  obtain rfl := hW.symm
  clear HG hW
  go_wp2
  go_ret
  exact ⟨rfl, rfl⟩
theorem sSize_ok (w : World) (B s d base : Nat) (nm : ByteArray) (P : List Pl) (bh : Pl) (h : SG w B s d nm base P bh) :
    Calls Tryz.prog 17 #[.pointer (some ⟨s, 0, none⟩)] w fun e w' => e = .returned (.int .i64 (bh.byt : Nat)) ∧ w' = w := by
  obtain ⟨c0, c1, c2, c3, c5, c6, c7⟩ := h.cells
  have HG := hide (sgiven_yes s w c0)
  clear h c1 c2
  go_enter Tryz.func17, Tryz.ntmps17
  go_wp2_with fail
  refine HG.out.mono ?_
  rintro e W ⟨rfl, hW⟩
  obtain rfl := hW.symm
  clear HG hW
  go_wp2
  go_ret
  exact ⟨rfl, rfl⟩
theorem sno_Base (w : World) (v : Value) (h : NobS w v) : Calls Tryz.prog 20 #[v] w fun e w' => e = .returned (.int .i64 0) ∧ w' = w := by
  have HG := hide (sgiven_no w v h)
  clear h
  go_enter Tryz.func20, Tryz.ntmps20
  go_wp2_with fail
  refine HG.out.mono ?_
  rintro e W ⟨rfl, hW⟩
  obtain rfl := hW.symm
  clear HG hW
  go_wp2
  go_ret
  exact ⟨rfl, rfl⟩
theorem sno_End (w : World) (v : Value) (h : NobS w v) : Calls Tryz.prog 16 #[v] w fun e w' => e = .returned (.int .i64 0) ∧ w' = w := by
  have HG := hide (sgiven_no w v h)
  clear h
  go_enter Tryz.func16, Tryz.ntmps16
  go_wp2_with fail
  refine HG.out.mono ?_
  rintro e W ⟨rfl, hW⟩
  obtain rfl := hW.symm
  clear HG hW
  go_wp2
  go_ret
  exact ⟨rfl, rfl⟩
theorem sno_Size (w : World) (v : Value) (h : NobS w v) : Calls Tryz.prog 17 #[v] w fun e w' => e = .returned (.int .i64 0) ∧ w' = w := by
  have HG := hide (sgiven_no w v h)
  clear h
  go_enter Tryz.func17, Tryz.ntmps17
  go_wp2_with fail
  refine HG.out.mono ?_
  rintro e W ⟨rfl, hW⟩
  obtain rfl := hW.symm
  clear HG hW
  go_wp2
  go_ret
  exact ⟨rfl, rfl⟩
theorem sno_Sync (w : World) (v : Value) (h : NobS w v) : Calls Tryz.prog 34 #[v] w fun e w' => e = .returned (.int .i64 1) ∧ w' = w := by
  have HG := hide (sgiven_no w v h)
  clear h
  go_enter Tryz.func34, Tryz.ntmps34
  go_wp2_with fail
  refine HG.out.mono ?_
  rintro e W ⟨rfl, hW⟩
  obtain rfl := hW.symm
  clear HG hW
  go_wp2
  go_ret
  exact ⟨rfl, rfl⟩
theorem sno_Append (w : World) (v : Value) (h : NobS w v) (t : ByteArray) : Calls Tryz.prog 18 #[v, .string t] w fun e w' => e = .returned (.int .i64 1) ∧ w' = w := by
  have HG := hide (sgiven_no w v h)
  clear h
  go_enter Tryz.func18, Tryz.ntmps18
  go_wp2_with fail
  refine HG.out.mono ?_
  rintro e W ⟨rfl, hW⟩
  obtain rfl := hW.symm
  clear HG hW
  go_wp2
  go_ret
  exact ⟨rfl, rfl⟩
theorem sno_Batch (w : World) (v : Value) (h : NobS w v) (n : Int) : Calls Tryz.prog 25 #[v, .int .i64 n] w fun e w' => e = .returned (.tuple #[.string ⟨#[]⟩, .int .i64 1]) ∧ w' = w := by
  have HG := hide (sgiven_no w v h)
  clear h
  go_enter Tryz.func25, Tryz.ntmps25
  go_wp2_with fail
  refine HG.out.mono ?_
  rintro e W ⟨rfl, hW⟩
  obtain rfl := hW.symm
  clear HG hW
  go_wp2
  go_ret2
  exact ⟨rfl, rfl⟩
end Go.Proofs.YtcjlcieheepegaaGreatDoor
namespace Go.Proofs.YtcjlcieheepegaaGreatDoor
open Go.RowKit
set_option linter.unusedVariables false
set_option maxRecDepth 20000
set_option maxRecDepth 20000

/-- What take turns: the segment's own block, and rows of places. -/
structure TF (B s : Nat) (w w' : World) : Prop where
  below : Below B w w'
  kept : ∀ (i : Nat) (o : Obj), w.heap[i]? = some o → i ≠ s → (∀ cs m, o ≠ .cells cs 68 m) → w'.heap[i]? = w.heap[i]?
theorem TF.trans {B s : Nat} {a b c : World} (h : TF B s a b) (k : TF B s b c) : TF B s a c :=
  ⟨h.below.trans k.below, fun i o hi h1 h2 => by
    have e := h.kept i o hi h1 h2
    exact (k.kept i o (e.trans hi) h1 h2).trans e⟩
theorem TF.of {B s : Nat} {w w' : World} (h : Below w.heap.size w w') (hB : B ≤ w.heap.size) : TF B s w w' :=
  ⟨⟨h.os, h.tape, h.output, h.size, fun k hk => h.block k (by omega)⟩, fun i o hi _ _ => h.block i (lt_of_block hi)⟩
theorem TF.set {B s i : Nat} (w : World) (u : Value) (hB : B ≤ s) : TF B s w (w.setCell ⟨s, i, none⟩ u) :=
  ⟨below_set w u hB, fun k o hk h1 _ => Below.heap_setCell _ _ _ _ (by simpa using h1)⟩
theorem TF.vd {B s : Nat} {w w' : World} {Bd d room cnt us : Nat} {F : List UInt8 → Option (List Nat × Nat)} (h : TF B s w w') (hd : V8.VD w Bd d room F cnt us) {cs : Array Value} {m : Nat × Nat} (hs : w.heap[s]? = some (.cells cs 71 m)) : V8.VD w' Bd d room F cnt us :=
  hd.typed (fun i cs' t mk hi ht => h.kept i _ hi (by
    rintro rfl
    rw [hs] at hi
    cases hi
    rcases ht with h | h | h <;> revert h <;> decide) (fun cs'' m'' e => by
    cases e
    rcases ht with h | h | h <;> revert h <;> decide))
    (fun i es c hi => h.kept i _ hi (by rintro rfl; rw [hs] at hi; cases hi) (fun cs'' m'' e => by cases e))
theorem after_ok (p : Pl) (h : HN) (ok : h.OK) (ao : Option Addr) (ln cp n : Nat) (w : World) (hp : p.byt ≤ 4611686018427387904) (hc : p.cnt ≤ 4611686018427387904) (hn : n ≤ 1048576) :
    Calls Tryz.prog 56 #[p.v, h.bv (.slice ao ln cp), .int .i64 (n : Nat)] w fun e w' => e = .returned (.agg #[.int .i64 ((h.base + h.cnt : Nat) : Int), .int .i64 ((p.byt + n : Nat) : Int), .int .i64 ((p.cnt + 1 : Nat) : Int)]) ∧ Below w.heap.size w w' := by
  obtain ⟨base, cnt, view, prod, seq, nrec⟩ := h
  obtain ⟨po, pb, pc⟩ := p
  obtain ⟨o1, o2, o3, o4, o5, o6, o7⟩ := ok
  simp only at o1 o2 o3 o4 o5 o6 o7 hp hc
  unfold HN.bv
  simp only [Pl.v]
  obtain ⟨q1, hq1⟩ : ∃ q, base + cnt = q := ⟨_, rfl⟩
  obtain ⟨q2, hq2⟩ : ∃ q, pb + n = q := ⟨_, rfl⟩
  obtain ⟨q3, hq3⟩ : ∃ q, pc + 1 = q := ⟨_, rfl⟩
  rw [hq1, hq2, hq3]
  have s1 : (base : Int) + (cnt : Int) = (q1 : Int) := by omega
  have s2 : (pb : Int) + (n : Int) = (q2 : Int) := by omega
  have s3 : (pc : Int) + 1 = (q3 : Int) := by omega
  clear hq1 hq2 hq3
  go_enter Tryz.func56, Tryz.ntmps56
  go_wp2
  refine bodyPost_ret (v := ?v) ?c1 rfl ?c2
  case c1 =>
    rw [results_cell rfl]
    go_simp
    exact rfl
  case c2 => exact ⟨rfl, (((Below.refl _ _).alloc (Nat.le_refl _) _).alloc (by simp) _).alloc (by simp; omega) _⟩
theorem rowBlk {w : World} {B : Nat} {E : TypeId} {size n : Nat} {v : Value} {xs : List Value} (h : w.ownsRow B E size v n xs) {k : Nat} (hk : v.ownBlock = some k) : B ≤ k ∧ ∃ cs, w.heap[k]? = some (Obj.cells cs E (0, 0)) := by
  rcases h.2 with ⟨e, _⟩ | ⟨g, cap, cur, e, h1, h2, _⟩
  · rw [e] at hk; simp [Value.ownBlock] at hk
  · rw [e] at hk
    have : g = k := by simpa [Value.ownBlock] using hk
    subst this
    exact ⟨h1, cur, h2⟩
theorem rowForm {w : World} {B : Nat} {E : TypeId} {size n : Nat} {v : Value} {xs : List Value} (h : w.ownsRow B E size v n xs) : ∃ a c, v = .slice a n c := by
  rcases h.2 with ⟨e, h0⟩ | ⟨g, cap, cur, e, _⟩
  · exact ⟨none, 0, by rw [e, h0]⟩
  · exact ⟨_, _, e⟩
theorem TF.grow {B s n : Nat} {w w' : World} {v : Value} {xs : List Value} (hr : w.ownsRow B 68 3 v n xs) (hg : w.grownBy w' v.ownBlock) (hB : B ≤ w.heap.size) : TF B s w w' :=
  ⟨⟨hg.os, hg.tape, hg.output, hg.size, fun k hk => hg.block k (by omega) (fun e => by have := (rowBlk hr e.symm).1; omega)⟩, fun i o hi _ h2 => hg.block i (lt_of_block hi) (fun e => by
      obtain ⟨_, cs, e'⟩ := rowBlk hr e.symm
      rw [hi] at e'
      cases e'
      exact h2 _ _ rfl)⟩
end Go.Proofs.YtcjlcieheepegaaGreatDoor
namespace Go.Proofs.YtcjlcieheepegaaGreatDoor
open Go.RowKit
set_option linter.unusedVariables false
set_option maxRecDepth 20000
set_option maxRecDepth 20000

theorem below_ad (W : World) (o : Obj) : Below W.heap.size W (W.alloc o).drew := ⟨rfl, rfl, rfl, by simp, fun k hk => (((Below.refl W.heap.size W).alloc (Nat.le_refl _) o).block k hk)⟩
theorem below_a (W : World) (o : Obj) : Below W.heap.size W (W.alloc o) := (Below.refl W.heap.size W).alloc (Nat.le_refl _) o
theorem cellB {W W' : World} (hb : Below W.heap.size W W') {b i : Nat} {v : Value} (h : W.cell? ⟨b, i, none⟩ = some v) : W'.cell? ⟨b, i, none⟩ = some v := by
  rw [cell_below hb (World.block_lt_of_cell? W _ h)]
  exact h
theorem news3 (W : World) (a b c : Value) (t : TypeId) : ∀ j u, [a, b, c][j]? = some u → (W.alloc (.cells #[a, b, c] t)).drew.cell? ((⟨W.heap.size, 0, none⟩ : Addr).add j) = some u :=
  World.news_of_block (heap_alloc_new W _)
theorem one3 (a b c : Int) : ∀ u ∈ [Value.int .i64 a, .int .i64 b, .int .i64 c], u.oneCell' = true := by
  intro u hu; simp at hu; rcases hu with rfl | rfl | rfl <;> rfl
theorem plInfo : (Tryz.prog.info? 68).map (fun i => (i.zero, i.size, i.bytes)) = some (some (.agg #[.int .i64 0, .int .i64 0, .int .i64 0]), 3, 24) := by kernel_rfl
set_option maxHeartbeats 4000000 in
theorem take_first (w : World) (B s d base : Nat) (nm : ByteArray) (bh : Pl) (h : SG w B s d nm base [] bh) (x : HN) (ok : x.OK) (ao : Option Addr) (ln cp n : Nat) (hn : n ≤ 1048576) (hp : bh.byt ≤ 4611686018427387904) (hc : bh.cnt ≤ 4611686018427387904) (hBw : B ≤ w.heap.size) :
    Calls Tryz.prog 33 #[.pointer (some ⟨s, 0, none⟩), x.bv (.slice ao ln cp), .int .i64 (n : Nat)] w fun e w' => e = .returned (.tuple #[]) ∧ SG w' B s d nm base [bh] ⟨x.base + x.cnt, bh.byt + n, bh.cnt + 1⟩ ∧ TF B s w w' := by
  obtain ⟨i0, hi, hz0, hz1, hz2⟩ := info_split plInfo
  have HI : Hid (Tryz.prog.info? 68 = some i0 ∧ i0.zero = some (.agg #[.int .i64 0, .int .i64 0, .int .i64 0]) ∧ i0.size = 3 ∧ i0.bytes = 24) := ⟨hi, hz0, hz1, hz2⟩
  clear hi hz0 hz1 hz2
  obtain ⟨po, pb, pc⟩ := bh
  have HA := hide (fun W => after_ok ⟨po, pb, pc⟩ x ok ao ln cp n W hp hc hn)
  obtain ⟨xb, xc, xv, xp, xs, xn⟩ := x
  unfold HN.bv at HA ⊢
  simp only [Pl.v] at HA ⊢
  obtain ⟨q1, hq1⟩ : ∃ q, xb + xc = q := ⟨_, rfl⟩
  obtain ⟨q2, hq2⟩ : ∃ q, pb + n = q := ⟨_, rfl⟩
  obtain ⟨q3, hq3⟩ : ∃ q, pc + 1 = q := ⟨_, rfl⟩
  rw [hq1, hq2, hq3] at HA ⊢
  clear hq1 hq2 hq3 hp hc hn ok
  obtain ⟨U, hU⟩ : ∃ U, w.heap.size = U := ⟨_, rfl⟩
  have hba := below_a w (.cells #[.int .i64 (xb : Nat), .int .i64 (xc : Nat), .int .i64 (xv : Nat), .int .i64 (xp : Nat), .int .i64 (xs : Nat), .slice ao ln cp] 46)
  have HT := hide (And.intro (h.below hba) (And.intro (TF.of (s := s) hba hBw) (And.intro (heap_alloc_new w (.cells #[.int .i64 (xb : Nat), .int .i64 (xc : Nat), .int .i64 (xv : Nat), .int .i64 (xp : Nat), .int .i64 (xs : Nat), .slice ao ln cp] 46)) (Nat.le_trans hBw hba.size))))
  rw [hU] at HT
  have HBs := hide h.hB
  clear h hba hBw
  go_enter Tryz.func33, Tryz.ntmps33
  go_upto_region 1 with fail
  try rw [hU]
  generalize (w.alloc (.cells #[.int .i64 (xb : Nat), .int .i64 (xc : Nat), .int .i64 (xv : Nat), .int .i64 (xp : Nat), .int .i64 (xs : Nat), .slice ao ln cp] 46)) = w1 at HT
  clear hU
  obtain ⟨pv, hblk, hrow⟩ := HT.out.1.blk
  obtain ⟨pa, pcap, rfl⟩ := rowForm hrow
  simp only [List.length_nil, plc, List.flatMap_nil] at hblk hrow
  have c4 : w1.cell? ⟨s, 4, none⟩ = some (.slice pa 0 pcap) := by simp [World.cell?, hblk]
  have HX := hide (And.intro hblk hrow)
  clear hblk hrow
  go_upto_region 2 with fail
  go_region
  have HX2 : Hid (w1.drew.heap[s]? = some (.cells #[.pointer (some ⟨s, 0, none⟩), .pointer (some ⟨d, 0, none⟩), .string nm, .int .i64 (base : Nat), .slice pa 0 pcap, .int .i64 (po : Nat), .int .i64 (pb : Nat), .int .i64 (pc : Nat)] 71 (0, 0)) ∧ w1.drew.ownsRow B 68 3 (.slice pa 0 pcap) 0 [] ∧ TF B s w w1.drew ∧ w1.drew.heap[U]? = some (.cells #[.int .i64 (xb : Nat), .int .i64 (xc : Nat), .int .i64 (xv : Nat), .int .i64 (xp : Nat), .int .i64 (xs : Nat), .slice ao ln cp] 46 (0, 0)) ∧ B ≤ w1.drew.heap.size) :=
    ⟨HX.out.1, owns_below HX.out.2 (belD w1), HT.out.2.1.trans (TF.of (belD w1) HT.out.2.2.2), HT.out.2.2.1, HT.out.2.2.2⟩
  clear c4
  go_upto_region 3 with fail
  generalize w1.drew = w2 at HX2
  have d4 : w2.cell? ⟨s, 4, none⟩ = some (.slice pa 0 pcap) := by simp [World.cell?, HX2.out.1]
  have d5 : w2.cell? ⟨s, 5, none⟩ = some (.int .i64 (po : Nat)) := by simp [World.cell?, HX2.out.1]
  have d6 : w2.cell? ⟨s, 6, none⟩ = some (.int .i64 (pb : Nat)) := by simp [World.cell?, HX2.out.1]
  have d7 : w2.cell? ⟨s, 7, none⟩ = some (.int .i64 (pc : Nat)) := by simp [World.cell?, HX2.out.1]
  have d41 := cellB (belD w2) d4
  have d51 := cellB (belD w2) d5
  have d61 := cellB (belD w2) d6
  have d71 := cellB (belD w2) d7
  have d42 := fun o => cellB (below_ad w2 o) d4
  have HOW : Hid (∀ o, (w2.alloc o).drew.ownsRow B 68 3 (.slice pa 0 pcap) 0 [] ∧ B ≤ (w2.alloc o).drew.heap.size) := fun o => ⟨owns_below HX2.out.2.1 (below_ad w2 o), Nat.le_trans HX2.out.2.2.2.2 (below_ad w2 o).size⟩
  have HNW := hide (news3 w2 (.int .i64 (po : Nat)) (.int .i64 (pb : Nat)) (.int .i64 (pc : Nat)) 68)
  have HK : Hid (∀ w7, (w2.alloc (.cells #[.int .i64 (po : Nat), .int .i64 (pb : Nat), .int .i64 (pc : Nat)] 68)).grownBy w7 (Value.slice pa 0 pcap).ownBlock → w7.heap[s]? = some (.cells #[.pointer (some ⟨s, 0, none⟩), .pointer (some ⟨d, 0, none⟩), .string nm, .int .i64 (base : Nat), .slice pa 0 pcap, .int .i64 (po : Nat), .int .i64 (pb : Nat), .int .i64 (pc : Nat)] 71 (0, 0)) ∧ w7.heap[U]? = some (.cells #[.int .i64 (xb : Nat), .int .i64 (xc : Nat), .int .i64 (xv : Nat), .int .i64 (xp : Nat), .int .i64 (xs : Nat), .slice ao ln cp] 46 (0, 0)) ∧ TF B s w w7 ∧ B ≤ w7.heap.size) := fun w7 hg => by
    have hbe := below_a w2 (.cells #[.int .i64 (po : Nat), .int .i64 (pb : Nat), .int .i64 (pc : Nat)] 68)
    have hr := owns_below HX2.out.2.1 hbe
    have hs1 := (hbe.block s (lt_of_block HX2.out.1)).trans HX2.out.1
    have hu1 := (hbe.block U (lt_of_block HX2.out.2.2.2.1)).trans HX2.out.2.2.2.1
    refine ⟨(hg.block s (lt_of_block hs1) (fun e => ?_)).trans hs1, (hg.block U (lt_of_block hu1) (fun e => ?_)).trans hu1, (HX2.out.2.2.1.trans (TF.of hbe HX2.out.2.2.2.2)).trans (TF.grow hr hg (Nat.le_trans HX2.out.2.2.2.2 hbe.size)), Nat.le_trans (Nat.le_trans HX2.out.2.2.2.2 hbe.size) hg.size⟩
    · obtain ⟨_, cs, e'⟩ := rowBlk hr e.symm
      rw [hs1] at e'; cases e'
    · obtain ⟨_, cs, e'⟩ := rowBlk hr e.symm
      rw [hu1] at e'; cases e'
  clear HX HT
  go_region_law
    (refine step_append_lies _ rfl _ _ 69 rfl B 68 i0 (.agg #[.int .i64 0, .int .i64 0, .int .i64 0]) 3 24 Tryz.underlying69 HI.out.1 HI.out.2.1 HI.out.2.2.1 HI.out.2.2.2 rfl (by decide) (.slice pa 0 pcap) 0 [] rfl (HOW.out _).1 ⟨w2.heap.size, 0, none⟩ 1 1 [.int .i64 (po : Nat), .int .i64 (pb : Nat), .int .i64 (pc : Nat)] rfl rfl HNW.out (one3 _ _ _) (by decide) (by unfold maxLen; omega) (by omega) (HOW.out _).2 _ rfl ?_; intro g7 cap7 w7 hown hgrow hat hgl; have hk7 := HK.out w7 ⟨hgrow.os, hgrow.tape, hgrow.output, hgrow.size, hgrow.block⟩; have e4 : w7.cell? ⟨s, 4, none⟩ = some (.slice pa 0 pcap) := (by simp [World.cell?, hk7.1]); have f4 := frozen0 hk7.1 4; have HGR := hide (And.intro hown hk7); clear hown hgrow hat hgl hk7)
  all_goals
    have HS8 : Hid ((w7.setCell ⟨s, 4, none⟩ (.slice (some ⟨g7, 0, none⟩) 1 cap7)).heap[s]? = some (.cells #[.pointer (some ⟨s, 0, none⟩), .pointer (some ⟨d, 0, none⟩), .string nm, .int .i64 (base : Nat), .slice (some ⟨g7, 0, none⟩) 1 cap7, .int .i64 (po : Nat), .int .i64 (pb : Nat), .int .i64 (pc : Nat)] 71 (0, 0)) ∧ (w7.setCell ⟨s, 4, none⟩ (.slice (some ⟨g7, 0, none⟩) 1 cap7)).heap[U]? = some (.cells #[.int .i64 (xb : Nat), .int .i64 (xc : Nat), .int .i64 (xv : Nat), .int .i64 (xp : Nat), .int .i64 (xs : Nat), .slice ao ln cp] 46 (0, 0)) ∧ TF B s w (w7.setCell ⟨s, 4, none⟩ (.slice (some ⟨g7, 0, none⟩) 1 cap7)) ∧ B ≤ (w7.setCell ⟨s, 4, none⟩ (.slice (some ⟨g7, 0, none⟩) 1 cap7)).heap.size ∧ (w7.setCell ⟨s, 4, none⟩ (.slice (some ⟨g7, 0, none⟩) 1 cap7)).ownsRow B 68 3 (.slice (some ⟨g7, 0, none⟩) 1 cap7) 1 [.int .i64 (po : Nat), .int .i64 (pb : Nat), .int .i64 (pc : Nat)]) := by
      obtain ⟨ho, h1, h2, h3, h4⟩ := HGR.out
      have hne : ∀ k, k ≠ s → (w7.setCell ⟨s, 4, none⟩ (.slice (some ⟨g7, 0, none⟩) 1 cap7)).heap[k]? = w7.heap[k]? := fun k hk => Below.heap_setCell _ _ _ _ (by simpa using hk)
      refine ⟨block_set h1, (hne U (by rintro rfl; rw [h1] at h2; cases h2)).trans h2, h3.trans (TF.set w7 _ HBs.out), by simpa [World.setCell] using h4, rowKeep ho fun g cs e => hne g (by rintro rfl; rw [h1] at e; cases e)⟩
    clear HGR HOW HNW HK e4 f4 d4 d5 d6 d7 d41 d51 d61 d71 d42 HX2
    go_upto_region 4 with fail
    generalize (w7.setCell ⟨s, 4, none⟩ (.slice (some ⟨g7, 0, none⟩) 1 cap7)) = w8 at HS8
    have HC8 := hide (And.intro (cells6 HS8.out.2.1) (And.intro (show w8.cell? ⟨s, 5, none⟩ = some (.int .i64 (po : Nat)) by simp [World.cell?, HS8.out.1]) (And.intro (show w8.cell? ⟨s, 6, none⟩ = some (.int .i64 (pb : Nat)) by simp [World.cell?, HS8.out.1]) (show w8.cell? ⟨s, 7, none⟩ = some (.int .i64 (pc : Nat)) by simp [World.cell?, HS8.out.1]))))
    obtain ⟨⟨z0, z1, z2, z3, z4, z5⟩, y5, y6, y7⟩ := HC8.out
    have z01 := cellB (belD w8) z0
    have z11 := cellB (belD w8) z1
    have z21 := cellB (belD w8) z2
    have z31 := cellB (belD w8) z3
    have z41 := cellB (belD w8) z4
    have z51 := cellB (belD w8) z5
    have y51 := cellB (belD w8) y5
    have y61 := cellB (belD w8) y6
    have y71 := cellB (belD w8) y7
    clear z0 z1 z2 z3 z4 z5 y5 y6 y7 HC8
    go_region_with (go_at_call 56; refine (HA.out _).mono ?_; rintro e w9 ⟨rfl, hb9⟩; have hb9s : w9.heap[s]? = some (.cells #[.pointer (some ⟨s, 0, none⟩), .pointer (some ⟨d, 0, none⟩), .string nm, .int .i64 (base : Nat), .slice (some ⟨g7, 0, none⟩) 1 cap7, .int .i64 (po : Nat), .int .i64 (pb : Nat), .int .i64 (pc : Nat)] 71 (0, 0)) := (hb9.block s (lt_of_block HS8.out.1)).trans HS8.out.1; have k5 : w9.cell? ⟨s, 5, none⟩ = some (.int .i64 (po : Nat)) := (by simp [World.cell?, hb9s]); have k6 : w9.cell? ⟨s, 6, none⟩ = some (.int .i64 (pb : Nat)) := (by simp [World.cell?, hb9s]); have k7 : w9.cell? ⟨s, 7, none⟩ = some (.int .i64 (pc : Nat)) := (by simp [World.cell?, hb9s]); have ff := frozen0 hb9s; have HB9 := hide (And.intro hb9 hb9s); clear hb9 hb9s)
    all_goals
      go_end0
      obtain ⟨hb9, hs9⟩ := HB9.out
      obtain ⟨h1, h2, h3, h4, h5⟩ := HS8.out
      have hb : Below w8.heap.size w8 w9 := (belD w8).trans hb9
      have hx := block_set (i := 7) (u := .int .i64 (q3 : Nat)) (block_set (i := 6) (u := .int .i64 (q2 : Nat)) (block_set (i := 5) (u := .int .i64 (q1 : Nat)) hs9))
      refine ⟨rfl, ⟨⟨.slice (some ⟨g7, 0, none⟩) 1 cap7, hx, rowKeep (owns_below h5 hb) fun g cs e => ?_⟩, HBs.out⟩, ?_⟩
      · have hg : g ≠ s := by rintro rfl; rw [hs9] at e; cases e
        rw [Below.heap_setCell _ _ _ _ (by simpa using hg), Below.heap_setCell _ _ _ _ (by simpa using hg), Below.heap_setCell _ _ _ _ (by simpa using hg)]
      · exact (((h3.trans (TF.of hb h4)).trans (TF.set _ _ HBs.out)).trans (TF.set _ _ HBs.out)).trans (TF.set _ _ HBs.out)
end Go.Proofs.YtcjlcieheepegaaGreatDoor
namespace Go.Proofs.YtcjlcieheepegaaGreatDoor
open Go.RowKit
set_option linter.unusedVariables false
set_option maxRecDepth 20000
set_option maxRecDepth 20000

theorem TabF.low {w w' : World} {C : Nat} (h : TabF w) (hb : Below C w w') (hC : 0 < C) : TabF w' := h.below hb hC
theorem bat_size (h : HN) (p : List UInt8) : (mk (batL h p)).size = 39 + p.length := by rw [mk_size, batL_length]
/-- A batch by no codec, as bytes that are read as it. -/
structure Bat (h : HN) (p : List UInt8) (L : List Rec) : Prop where
  ok : h.OK
  hp : 29 + p.length ≤ 262144
  of : ofO p h.base h.nrec = some L
  len : L.length ≤ 256
  within : Within h L
set_option maxHeartbeats 4000000 in
theorem sappend_first (w : World) (B Bd C s d base room cnt us : Nat) (nm : ByteArray) (F : List UInt8 → Option (List Nat × Nat)) (h : HN) (p : List UInt8) (L : List Rec) (hS : SG w B s d nm base [] ⟨base, 0, 0⟩) (hD : V8.VD w Bd d room F cnt us) (hm : V8.May nm) (hF : F nm.data.toList = none) (hcn : cnt < 256) (hr : us + (39 + p.length) ≤ room) (hb : Bat h p L) (hT : TabF w) (hbase : h.base = base) (hCB : C ≤ B) (hCd : C ≤ Bd) (hBw : B ≤ w.heap.size) :
    Calls Tryz.prog 18 #[.pointer (some ⟨s, 0, none⟩), .string (mk (batL h p))] w fun e w' => e = .returned (.int .i64 0) ∧ SG w' B s d nm base [⟨base, 0, 0⟩] ⟨base + h.cnt, 39 + p.length, 1⟩ ∧ V8.VD w' Bd d room (V8.upd F nm.data.toList (some (V8.bytesOf (mk (batL h p)), 0))) (cnt + 1) (us + (39 + p.length)) ∧ Below C w w' := by
  have HG := hide (sgiven_yes s w hS.cells.1)
  have HO := hide (bof_ok h hb.ok p [] L w hT hb.hp (by simp) hb.of hb.len hb.within)
  rw [List.append_nil] at HO
  have HH := hide (And.intro hS (And.intro hD (And.intro hm (And.intro hF (And.intro hb.ok (And.intro hCB (And.intro hCd hBw)))))))
  have hsz := bat_size h p
  have hpp : p.length ≤ 262144 := by have := hb.hp; omega
  obtain ⟨N, hN⟩ : ∃ N, 39 + p.length = N := ⟨_, rfl⟩
  have hN1 : N ≤ 1048576 := by omega
  obtain ⟨b, hbb⟩ : ∃ b, mk (batL h p) = b := ⟨_, rfl⟩
  rw [hN] at HO hsz hr ⊢
  rw [hbb] at HO hsz ⊢
  have HR := hide (And.intro hr hsz)
  clear hS hD hm hF hb hT hCB hCd hBw hbb hN hpp hr
  subst hbase
  go_enter Tryz.func18, Tryz.ntmps18
  go_wp2_with fail
  refine HG.out.mono ?_
  rintro e W ⟨rfl, hW⟩
  obtain rfl := hW.symm
  clear HG hW
  go_wp2_with fail
  refine HO.out.mono ?_
  rintro e w1 ⟨a1, cap1, rfl, hb1⟩
  clear HO
  obtain ⟨xb, xc, xv, xp, xs, xn⟩ := h
  unfold HN.bv
  simp only at HH ⊢
  obtain ⟨U, hU⟩ : ∃ U, w1.heap.size = U := ⟨_, rfl⟩
  obtain ⟨LL, hLL⟩ : ∃ LL, L.length = LL := ⟨_, rfl⟩
  rw [hLL]
  have hba := below_a w1 (.cells #[.int .i64 (xb : Nat), .int .i64 (xc : Nat), .int .i64 (xv : Nat), .int .i64 (xp : Nat), .int .i64 (xs : Nat), .slice a1 LL cap1] 46)
  have H1 := hide (And.intro (hb1.trans (hba.mono hb1.size)) (heap_alloc_new w1 (.cells #[.int .i64 (xb : Nat), .int .i64 (xc : Nat), .int .i64 (xv : Nat), .int .i64 (xp : Nat), .int .i64 (xs : Nat), .slice a1 LL cap1] 46)))
  rw [hU] at H1
  clear hb1 hba hLL
  have hne : (((N : Nat) : Int) != (b.size : Int)) = false := by rw [hsz]; simp
  clear hsz
  go_upto_region 4 with fail
  try rw [hU]
  generalize (w1.alloc (.cells #[.int .i64 (xb : Nat), .int .i64 (xc : Nat), .int .i64 (xv : Nat), .int .i64 (xp : Nat), .int .i64 (xs : Nat), .slice a1 LL cap1] 46)) = w2 at H1
  clear hU
  have hS2 := HH.out.1.below H1.out.1
  obtain ⟨c0, c1, c2, c3, c5, c6, c7⟩ := hS2.cells
  obtain ⟨z0, z1, z2, z3, z4, z5⟩ := cells6 H1.out.2
  simp only at c5 c6 c7
  clear c0 c3 c6 c7 z1 z2 z3 z4 z5
  have HS2 := hide hS2
  clear hS2
  go_upto_region 6 with fail
  clear hne
  go_region
  go_upto_region 8 with fail
  have H3 : Hid (SG w2.drew B s d nm xb [] ⟨xb, 0, 0⟩ ∧ Below w.heap.size w w2.drew ∧ w2.drew.heap[U]? = some (.cells #[.int .i64 (xb : Nat), .int .i64 (xc : Nat), .int .i64 (xv : Nat), .int .i64 (xp : Nat), .int .i64 (xs : Nat), .slice a1 LL cap1] 46 (0, 0))) := ⟨HS2.out.below (belD w2), H1.out.1.trans ((belD w2).mono H1.out.1.size), H1.out.2⟩
  clear c1 c2 c5 z0 HS2 H1
  generalize w2.drew = w3 at H3
  obtain ⟨c0, c1, c2, c3, c5, c6, c7⟩ := H3.out.1.cells
  have e1 : w3.drew.cell? ⟨s, 1, none⟩ = some (.pointer (some ⟨d, 0, none⟩)) := c1
  have e2 : w3.drew.cell? ⟨s, 2, none⟩ = some (.string nm) := c2
  have HDA := hide (V8.append_none w3.drew Bd d room cnt us F (HH.out.2.1.below (H3.out.2.1.trans ((belD w3).mono H3.out.2.1.size))) nm b HH.out.2.2.1 HH.out.2.2.2.1 hcn (by rw [HR.out.2]; exact HR.out.1))
  clear c0 c1 c2 c3 c5 c6 c7
  go_region_held_law (fun w' => w'.cell? ⟨s, 1, none⟩ = some (.pointer (some ⟨d, 0, none⟩)) ∧ w'.cell? ⟨s, 2, none⟩ = some (.string nm))
    (first | exact ⟨e1, e2⟩ | go_keep)
    (first
      | (go_at_call 32; refine HDA.out.mono ?_; rintro e w4 ⟨rfl, hD4, hV4⟩; have H4 := hide (And.intro hD4 hV4); have hk4 : w4.cell? ⟨s, 1, none⟩ = some (.pointer (some ⟨d, 0, none⟩)) ∧ w4.cell? ⟨s, 2, none⟩ = some (.string nm) := ⟨((H3.out.1.below (belD w3)).vf hV4).cells.2.1, ((H3.out.1.below (belD w3)).vf hV4).cells.2.2.1⟩; clear hD4 hV4))
  have hV4 := H4.out.2
  have hU4 := (hV4.kept U _ _ _ H3.out.2.2 (by decide) (by decide) (by decide)).trans H3.out.2.2
  have HS4 := hide ((H3.out.1.below (belD w3)).vf hV4)
  obtain ⟨z0, z1, z2, z3, z4, z5⟩ := cells6 hU4
  have HTK := hide (take_first w4 B s d xb nm ⟨xb, 0, 0⟩ HS4.out ⟨xb, xc, xv, xp, xs, xn⟩ HH.out.2.2.2.2.1 a1 LL cap1 N hN1 (Nat.zero_le _) (Nat.zero_le _) (Nat.le_trans (Nat.le_trans HH.out.2.2.2.2.2.2.2 H3.out.2.1.size) hV4.below.size))
  unfold HN.bv at HTK
  simp only at HTK
  clear hV4 hU4 e1 e2 hk4 HDA
  go_wp2_with fail
  refine HTK.out.mono ?_
  rintro e w5 ⟨rfl, hS5, hT5⟩
  simp only [Nat.zero_add] at hS5
  obtain ⟨pv4, hb4, _⟩ := HS4.out.blk
  have hD5 := hT5.vd H4.out.1 hb4
  rw [HR.out.2] at hD5
  have H5 : Hid (_ ∧ _ ∧ Below C w w5) := ⟨hS5, hD5, ((H3.out.2.1.mono (Nat.le_trans HH.out.2.2.2.2.2.1 HH.out.2.2.2.2.2.2.2)).trans ((belD w3).mono (Nat.le_trans (Nat.le_trans HH.out.2.2.2.2.2.1 HH.out.2.2.2.2.2.2.2) H3.out.2.1.size))).trans ((H4.out.2.below.mono HH.out.2.2.2.2.2.2.1).trans (hT5.below.mono HH.out.2.2.2.2.2.1))⟩
  clear hS5 hT5 hb4 hD5 HTK z0 z1 z2 z3 z4 z5
  go_wp2
  go_ret
  exact ⟨rfl, H5.out.1, H5.out.2.1, H5.out.2.2⟩
set_option maxHeartbeats 2000000 in
/-- A batch that does not come next. -/
theorem sappend_order (w : World) (B s d base : Nat) (nm : ByteArray) (P : List Pl) (bh : Pl) (h : HN) (p : List UInt8) (L : List Rec) (hS : SG w B s d nm base P bh) (hb : Bat h p L) (hT : TabF w) (hne : h.base ≠ bh.off) :
    Calls Tryz.prog 18 #[.pointer (some ⟨s, 0, none⟩), .string (mk (batL h p))] w fun e w' => e = .returned (.int .i64 110) ∧ Below w.heap.size w w' := by
  have HG := hide (sgiven_yes s w hS.cells.1)
  have HO := hide (bof_ok h hb.ok p [] L w hT hb.hp (by simp) hb.of hb.len hb.within)
  rw [List.append_nil] at HO
  have HH := hide hS
  have hsz := bat_size h p
  obtain ⟨N, hN⟩ : ∃ N, 39 + p.length = N := ⟨_, rfl⟩
  obtain ⟨b, hbb⟩ : ∃ b, mk (batL h p) = b := ⟨_, rfl⟩
  rw [hN] at HO hsz
  rw [hbb] at HO hsz ⊢
  clear hS hb hT hbb hN
  go_enter Tryz.func18, Tryz.ntmps18
  go_wp2_with fail
  refine HG.out.mono ?_
  rintro e W ⟨rfl, hW⟩
  obtain rfl := hW.symm
  clear HG hW
  go_wp2_with fail
  refine HO.out.mono ?_
  rintro e w1 ⟨a1, cap1, rfl, hb1⟩
  clear HO
  obtain ⟨xb, xc, xv, xp, xs, xn⟩ := h
  obtain ⟨bo, bb, bc⟩ := bh
  unfold HN.bv
  simp only at HH hne ⊢
  obtain ⟨U, hU⟩ : ∃ U, w1.heap.size = U := ⟨_, rfl⟩
  obtain ⟨LL, hLL⟩ : ∃ LL, L.length = LL := ⟨_, rfl⟩
  rw [hLL]
  have hba := below_a w1 (.cells #[.int .i64 (xb : Nat), .int .i64 (xc : Nat), .int .i64 (xv : Nat), .int .i64 (xp : Nat), .int .i64 (xs : Nat), .slice a1 LL cap1] 46)
  have H1 := hide (And.intro (hb1.trans (hba.mono hb1.size)) (heap_alloc_new w1 (.cells #[.int .i64 (xb : Nat), .int .i64 (xc : Nat), .int .i64 (xv : Nat), .int .i64 (xp : Nat), .int .i64 (xs : Nat), .slice a1 LL cap1] 46)))
  rw [hU] at H1
  clear hb1 hba hLL
  have hne1 : (((N : Nat) : Int) != (b.size : Int)) = false := by rw [hsz]; simp
  have hne2 : (((xb : Nat) : Int) != (bo : Int)) = true := by simp; omega
  clear hsz hne
  go_upto_region 4 with fail
  try rw [hU]
  generalize (w1.alloc (.cells #[.int .i64 (xb : Nat), .int .i64 (xc : Nat), .int .i64 (xv : Nat), .int .i64 (xp : Nat), .int .i64 (xs : Nat), .slice a1 LL cap1] 46)) = w2 at H1
  clear hU
  have hS2 := HH.out.below H1.out.1
  obtain ⟨c0, c1, c2, c3, c5, c6, c7⟩ := hS2.cells
  obtain ⟨z0, z1, z2, z3, z4, z5⟩ := cells6 H1.out.2
  simp only at c5 c6 c7
  clear c0 c3 c6 c7 z1 z2 z3 z4 z5 hS2
  go_upto_region 6 with fail
  clear hne1
  go_region
  go_wp2
  go_ret
  exact ⟨rfl, H1.out.1.trans ((belD w2).mono H1.out.1.size)⟩
end Go.Proofs.YtcjlcieheepegaaGreatDoor
namespace Go.Proofs.YtcjlcieheepegaaGreatDoor
open Go.RowKit
set_option linter.unusedVariables false
set_option maxRecDepth 20000
set_option maxRecDepth 20000

theorem cellsP3 {w : World} {b : Nat} {t : TypeId} {a0 a1 a2 : Value} (h : w.heap[b]? = some (.cells #[a0, a1, a2] t (0, 0))) : w.cell? ⟨b, 0, none⟩ = some a0 ∧ w.cell? ⟨b, 1, none⟩ = some a1 ∧ w.cell? ⟨b, 2, none⟩ = some a2 := by
  simp [World.cell?, h]
set_option maxHeartbeats 2000000 in
theorem around_one (w : World) (B s d base : Nat) (nm : ByteArray) (x bh : Pl) (h : SG w B s d nm base [x] bh) (o : Int) :
    Calls Tryz.prog 67 #[.pointer (some ⟨s, 0, none⟩), .int .i64 o] w fun e w' => e = .returned (.tuple #[x.v, bh.v]) ∧ Below w.heap.size w w' := by
  obtain ⟨xo, xb, xc⟩ := x
  obtain ⟨bo, bb, bc⟩ := bh
  simp only [Pl.v]
  have hb1 := below_a w (.cells #[.int .i64 0, .int .i64 0, .int .i64 0] 68)
  have hb2 := below_a (w.alloc (.cells #[.int .i64 0, .int .i64 0, .int .i64 0] 68)) (.cells #[.int .i64 0, .int .i64 0, .int .i64 0] 68)
  have hx := (hb2.block w.heap.size (by simp)).trans (heap_alloc_new w (.cells #[.int .i64 0, .int .i64 0, .int .i64 0] 68))
  have hy := heap_alloc_new (w.alloc (.cells #[.int .i64 0, .int .i64 0, .int .i64 0] 68)) (.cells #[.int .i64 0, .int .i64 0, .int .i64 0] 68)
  have hsz : (w.alloc (.cells #[.int .i64 0, .int .i64 0, .int .i64 0] 68)).heap.size = w.heap.size + 1 := by simp
  rw [hsz] at hy
  have H := hide (And.intro ((h.below hb1).below hb2) (And.intro (hb1.trans (hb2.mono hb1.size)) (And.intro hx hy)))
  clear h hb1 hb2 hx hy hsz
  obtain ⟨X, hX⟩ : ∃ X, w.heap.size = X := ⟨_, rfl⟩
  rw [hX] at H
  go_enter Tryz.func67, Tryz.ntmps67
  go_upto_region 1 with fail
  try rw [hX]
  generalize ((w.alloc (.cells #[.int .i64 0, .int .i64 0, .int .i64 0] 68)).alloc (.cells #[.int .i64 0, .int .i64 0, .int .i64 0] 68)) = w1 at H
  have HXY := hide hX
  clear hX
  obtain ⟨pv, hblk, hrow⟩ := H.out.1.blk
  obtain ⟨pa, pcap, rfl⟩ := rowForm hrow
  obtain ⟨g, rfl, hcap⟩ : ∃ g, pa = some ⟨g, 0, none⟩ ∧ 1 ≤ pcap := by
    rcases hrow.2 with ⟨e, h0⟩ | ⟨g, cap, cur, e, _, _, h3, _⟩
    · exact absurd h0 (by simp)
    · cases e; exact ⟨g, rfl, h3⟩
  simp only [List.length_singleton] at hblk hrow
  have hcs : ∀ (j : Nat) (u : Value), (plc [⟨xo, xb, xc⟩])[j]? = some u → w1.cell? ⟨g, j, none⟩ = some u := fun j u hj => by
    have := hrow.cells (g := g) rfl j u hj
    have e : (⟨g, 0, none⟩ : Addr).add j = ⟨g, j, none⟩ := by cases j <;> simp [Addr.add]
    rw [e] at this
    exact this
  have p0 : w1.cell? ⟨g, 0, none⟩ = some (.int .i64 (xo : Nat)) := hcs 0 _ rfl
  have p1 : w1.cell? ⟨g, 1, none⟩ = some (.int .i64 (xb : Nat)) := hcs 1 _ rfl
  have p2 : w1.cell? ⟨g, 2, none⟩ = some (.int .i64 (xc : Nat)) := hcs 2 _ rfl
  have c4 : w1.cell? ⟨s, 4, none⟩ = some (.slice (some ⟨g, 0, none⟩) 1 pcap) := by simp [World.cell?, hblk]
  obtain ⟨c0, c1, c2, c3, c5, c6, c7⟩ := H.out.1.cells
  simp only at c5 c6 c7
  clear hcs hrow hblk c0 c1 c2 c3
  go_region
  go_wp2
  go_loopw [6, 7] (fun a b wr => a = .int .i64 0 ∧ b = .int .i64 1 ∧ wr = w1.drew) (fun _ _ _ => 0)
  case atStart => exact ⟨rfl, rfl, rfl⟩
  case round =>
    obtain ⟨rfl, rfl, rfl⟩ := hrel
    go_upto_region 8 with fail
    obtain ⟨x0, x1, x2⟩ := cellsP3 H.out.2.2.1
    obtain ⟨y0, y1, y2⟩ := cellsP3 H.out.2.2.2
    have fx := frozen0 H.out.2.2.1
    have fy := frozen0 H.out.2.2.2
    go_region
    go_wp2
    refine bodyPost_ret (v := ?v) ?c1 rfl ?c2
    case c1 =>
      rw [results_cell2 rfl]
      go_simp
      exact rfl
    case c2 =>
      refine ⟨rfl, ?_⟩
      rw [HXY.out]
      have hXX : X ≤ X + 1 := Nat.le_succ _
      exact bl_drew.2 (bl_drew.2 ((((((H.out.2.1.trans (below_set w1 _ (Nat.le_refl _))).trans (below_set _ _ (Nat.le_refl _))).trans (below_set _ _ (Nat.le_refl _))).trans (below_set _ _ hXX)).trans (below_set _ _ hXX)).trans (below_set _ _ hXX)))
end Go.Proofs.YtcjlcieheepegaaGreatDoor
