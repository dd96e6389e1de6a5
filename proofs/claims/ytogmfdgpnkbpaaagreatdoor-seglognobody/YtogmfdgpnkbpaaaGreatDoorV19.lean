/- Package batch: Head, unpacked, Of, of the bytes of a batch by no codec. -/
/- Package batch: bytes that end too soon. -/
/- Package batch: unpacked, Of, of the bytes of a batch by no codec. -/
/- Package batch: Of, of the bytes of a batch by no codec. -/
/- The document's headed, May, fixed (postroadref10), of a batch that may be. -/
import Derived.Test.YtogmfdgpnkbpaaaGreatDoorV18
import Derived.Test.YtogmfdgpnkbpaaaGreatDoorV17
import Derived.Deep.RegionHeldLaw
namespace Go.Proofs.YtogmfdgpnkbpaaaGreatDoor
open Go.RowKit
set_option linter.unusedVariables false
set_option maxRecDepth 20000

theorem bl_drew {B : Nat} {w w' : World} : Below B w w'.drew ↔ Below B w w' := ⟨fun h => ⟨h.os, h.tape, h.output, h.size, h.block⟩, fun h => ⟨h.os, h.tape, h.output, h.size, h.block⟩⟩
theorem bl_drewN {B k : Nat} {w w' : World} : Below B w (w'.drewN k) ↔ Below B w w' := ⟨fun h => ⟨h.os, h.tape, h.output, h.size, h.block⟩, fun h => ⟨h.os, h.tape, h.output, h.size, h.block⟩⟩
theorem bl_set {B i : Nat} {w w' : World} {u : Value} : Below B w (w'.setCell ⟨B, i, none⟩ u) ↔ Below B w w' :=
  ⟨fun h => ⟨h.os, h.tape, h.output, by have := h.size; simpa [World.setCell] using this, fun k hk => by rw [← h.block k hk]; exact (Below.heap_setCell _ _ _ _ (by show k ≠ B; omega)).symm⟩, fun h => h.trans (below_set _ _ (Nat.le_refl _))⟩
theorem own_slice {w : World} {B : Nat} {v : Value} {L : List Rec} (h : Own w B v L) : ∃ a cap, v = .slice a L.length cap ∧ RIn w a L := by
  have h' := h
  rcases h.2 with ⟨rfl, h0⟩ | ⟨g, cap, cur, rfl, hB, hh, r⟩
  · have : L = [] := List.length_eq_zero_iff.1 h0
    subst this
    exact ⟨none, 0, rfl, RIn.nil _ _⟩
  · exact ⟨_, cap, rfl, RIn.owned h' (lt_of_block hh)⟩
set_option maxRecDepth 20000 in
set_option maxHeartbeats 1000000 in
theorem head_ok (h : HN) (ok : h.OK) (p t : List UInt8) (w : World) (hT : TabF w) (hp : 29 + p.length ≤ 262144) (ht : t.length ≤ 140737488000000) :
    Calls Tryz.prog 47 #[.string (mk (batL h p ++ t))] w fun e w' => e = .returned (.tuple #[h.bv (.slice none 0 0), .int .i64 ((39 + p.length : Nat) : Int), .int .i64 0]) ∧ Below w.heap.size w w' := by
  have HA : Hid (Below w.heap.size w (w.alloc (.cells #[.int .i64 0, .int .i64 0, .int .i64 0, .int .i64 0, .int .i64 0, .slice none 0 0] 58))) := (Below.refl _ _).alloc (Nat.le_refl _) _
  have HR : Hid ((w.alloc (.cells #[.int .i64 0, .int .i64 0, .int .i64 0, .int .i64 0, .int .i64 0, .slice none 0 0] 58)).heap[w.heap.size]? = some (.cells #[.int .i64 0, .int .i64 0, .int .i64 0, .int .i64 0, .int .i64 0, .slice none 0 0] 58 (0, 0))) := heap_alloc_new _ _
  have HO : Hid (∀ W, TabF W → Calls Tryz.prog 49 #[.string (mk (batL h p ++ t))] W fun e w' => e = .returned (.tuple #[h.hv p.length, .string (mk p), .int .i64 0]) ∧ Below W.heap.size W w') := fun W hW => open_ok h ok p t W hW hp ht
  have HZ : Hid (∀ W, Calls Tryz.prog 52 #[.string (mk p)] W fun e w' => e = .returned (.int .i64 ((39 + p.length : Nat) : Int)) ∧ w' = W) := fun W => sizeOf_ok p W (by omega)
  have HT : Hid (TabF (w.alloc (.cells #[.int .i64 0, .int .i64 0, .int .i64 0, .int .i64 0, .int .i64 0, .slice none 0 0] 58))) := hT.new HA.out
  clear hT
  unfold HN.hv at HO
  unfold HN.bv
  generalize mk (batL h p ++ t) = s at HO ⊢
  generalize mk p = S at HO HZ
  generalize hN : 39 + p.length = N at HZ ⊢
  clear hN
  go_enter Tryz.func47, Tryz.ntmps47
  go_upto_region 1 with fail
  generalize hwA : w.alloc (.cells #[.int .i64 0, .int .i64 0, .int .i64 0, .int .i64 0, .int .i64 0, .slice none 0 0] 58) = wA at HA HR HT
  clear hwA
  go_wp2_with fail
  refine (HO.out _ HT.out).mono ?_
  rintro e w2 ⟨rfl, hb2⟩
  have hb2' : Below wA.heap.size wA (w2.alloc (.cells #[.int .i64 (h.base : Nat), .int .i64 (h.cnt : Nat), .int .i64 (h.view : Nat), .int .i64 (h.prod : Nat), .int .i64 (h.seq : Nat), .slice none 0 0, .int .i64 0, .int .i64 (h.nrec : Nat), .int .i64 (p.length : Nat)] 88)) := hb2.alloc hb2.size _
  have H2r : Hid ((w2.alloc (.cells #[.int .i64 (h.base : Nat), .int .i64 (h.cnt : Nat), .int .i64 (h.view : Nat), .int .i64 (h.prod : Nat), .int .i64 (h.seq : Nat), .slice none 0 0, .int .i64 0, .int .i64 (h.nrec : Nat), .int .i64 (p.length : Nat)] 88)).heap[w.heap.size]? = some (.cells #[.int .i64 0, .int .i64 0, .int .i64 0, .int .i64 0, .int .i64 0, .slice none 0 0] 58 (0, 0))) := (hb2'.block _ (lt_of_block HR.out)).trans HR.out
  have H2w : Hid (Below w.heap.size w (w2.alloc (.cells #[.int .i64 (h.base : Nat), .int .i64 (h.cnt : Nat), .int .i64 (h.view : Nat), .int .i64 (h.prod : Nat), .int .i64 (h.seq : Nat), .slice none 0 0, .int .i64 0, .int .i64 (h.nrec : Nat), .int .i64 (p.length : Nat)] 88))) := HA.out.trans (hb2'.mono HA.out.size)
  have H2b : Hid ((w2.alloc (.cells #[.int .i64 (h.base : Nat), .int .i64 (h.cnt : Nat), .int .i64 (h.view : Nat), .int .i64 (h.prod : Nat), .int .i64 (h.seq : Nat), .slice none 0 0, .int .i64 0, .int .i64 (h.nrec : Nat), .int .i64 (p.length : Nat)] 88)).heap[w2.heap.size]? = some (.cells #[.int .i64 (h.base : Nat), .int .i64 (h.cnt : Nat), .int .i64 (h.view : Nat), .int .i64 (h.prod : Nat), .int .i64 (h.seq : Nat), .slice none 0 0, .int .i64 0, .int .i64 (h.nrec : Nat), .int .i64 (p.length : Nat)] 88 (0, 0))) := heap_alloc_new _ _
  obtain ⟨b9, hb9⟩ : ∃ b, w2.heap.size = b := ⟨_, rfl⟩
  rw [hb9] at H2b
  clear hb2 hb2'
  go_upto_region 4 with fail
  generalize hwB : w2.alloc (.cells #[.int .i64 (h.base : Nat), .int .i64 (h.cnt : Nat), .int .i64 (h.view : Nat), .int .i64 (h.prod : Nat), .int .i64 (h.seq : Nat), .slice none 0 0, .int .i64 0, .int .i64 (h.nrec : Nat), .int .i64 (p.length : Nat)] 88) = wB at H2r H2w H2b
  clear hwB
  obtain ⟨d0, d1, d2, d3, d4, d5, d6, d7, d8⟩ := cells9 H2b.out
  obtain ⟨r0, r1, r2, r3, r4, r5⟩ := cells6 H2r.out
  have hfr := frozen0 H2r.out
  go_region_with (go_at_call 52; refine (HZ.out _).mono ?_; rintro e W ⟨rfl, hW⟩; obtain rfl := hW.symm; clear hW)
  all_goals (
    go_wp2
    refine bodyPost_ret (v := ?v) ?c1 rfl ?c2
    case c1 =>
      rw [results_cell_tmp2 rfl]
      go_simp
      all_goals exact rfl
    case c2 =>
      refine ⟨rfl, ?_⟩
      simp only [bl_drew, bl_set]
      exact H2w.out)
end Go.Proofs.YtogmfdgpnkbpaaaGreatDoor
namespace Go.Proofs.YtogmfdgpnkbpaaaGreatDoor
open Go.RowKit
set_option linter.unusedVariables false
set_option maxRecDepth 20000

/-- The batch that is none. -/
def bv0 : Value := .agg #[.int .i64 0, .int .i64 0, .int .i64 0, .int .i64 0, .int .i64 0, .slice none 0 0]
/-- summedOf tells these bytes as too short. -/
def Short (s : ByteArray) : Prop := ∀ W, Calls Tryz.prog 76 #[.string s] W fun e w' => e = .returned (.tuple #[.string ⟨#[]⟩, .int .i64 5]) ∧ w' = W
theorem short_few (s : ByteArray) (h : s.size < 10) : Short s := by
  intro W
  have hs : (s.size : Int) < 10 := by omega
  go_enter Tryz.func76, Tryz.ntmps76
  go_wp2
  go_ret2
  exact ⟨rfl, rfl⟩
set_option maxRecDepth 20000 in
set_option maxHeartbeats 1000000 in
theorem open_short (s : ByteArray) (w : World) (h : Short s) :
    Calls Tryz.prog 49 #[.string s] w fun e w' => e = .returned (.tuple #[.agg #[.int .i64 0, .int .i64 0, .int .i64 0, .int .i64 0, .int .i64 0, .slice none 0 0, .int .i64 0, .int .i64 0, .int .i64 0], .string ⟨#[]⟩, .int .i64 5]) ∧ Below w.heap.size w w' := by
  have HS : Hid (Short s) := h
  clear h
  have HA : Hid (Below w.heap.size w (w.alloc (.cells #[.int .i64 0, .int .i64 0, .int .i64 0, .int .i64 0, .int .i64 0, .slice none 0 0, .int .i64 0, .int .i64 0, .int .i64 0] 88))) := (Below.refl _ _).alloc (Nat.le_refl _) _
  have HR : Hid ((w.alloc (.cells #[.int .i64 0, .int .i64 0, .int .i64 0, .int .i64 0, .int .i64 0, .slice none 0 0, .int .i64 0, .int .i64 0, .int .i64 0] 88)).heap[w.heap.size]? = some (.cells #[.int .i64 0, .int .i64 0, .int .i64 0, .int .i64 0, .int .i64 0, .slice none 0 0, .int .i64 0, .int .i64 0, .int .i64 0] 88 (0, 0))) := heap_alloc_new _ _
  go_enter Tryz.func49, Tryz.ntmps49
  go_upto_region 1 with fail
  generalize hwA : w.alloc (.cells #[.int .i64 0, .int .i64 0, .int .i64 0, .int .i64 0, .int .i64 0, .slice none 0 0, .int .i64 0, .int .i64 0, .int .i64 0] 88) = wA at HA HR
  clear hwA
  obtain ⟨r0, r1, r2, r3, r4, r5, r6, r7, r8⟩ := cells9 HR.out
  have hfr := frozen0 HR.out
  go_wp2_with fail
  refine (HS.out _).mono ?_
  rintro e W ⟨rfl, hW⟩
  obtain rfl := hW.symm
  clear hW
  go_wp2
  refine bodyPost_ret (v := ?v) ?c1 rfl ?c2
  case c1 =>
    rw [results_cell_tmp2 rfl]
    go_simp
    all_goals exact rfl
  case c2 =>
    refine ⟨rfl, ?_⟩
    simp only [bl_set]
    exact HA.out
set_option maxRecDepth 20000 in
set_option maxHeartbeats 1000000 in
theorem bof_short (s : ByteArray) (w : World) (h : Short s) :
    Calls Tryz.prog 22 #[.string s] w fun e w' => e = .returned (.tuple #[bv0, .int .i64 0, .int .i64 5]) ∧ Below w.heap.size w w' := by
  have HO : Hid (∀ W, Calls Tryz.prog 49 #[.string s] W fun e w' => e = .returned (.tuple #[.agg #[.int .i64 0, .int .i64 0, .int .i64 0, .int .i64 0, .int .i64 0, .slice none 0 0, .int .i64 0, .int .i64 0, .int .i64 0], .string ⟨#[]⟩, .int .i64 5]) ∧ Below W.heap.size W w') := fun W => open_short s W h
  clear h
  unfold bv0
  have HA : Hid (Below w.heap.size w (w.alloc (.cells #[.int .i64 0, .int .i64 0, .int .i64 0, .int .i64 0, .int .i64 0, .slice none 0 0] 58))) := (Below.refl _ _).alloc (Nat.le_refl _) _
  have HR : Hid ((w.alloc (.cells #[.int .i64 0, .int .i64 0, .int .i64 0, .int .i64 0, .int .i64 0, .slice none 0 0] 58)).heap[w.heap.size]? = some (.cells #[.int .i64 0, .int .i64 0, .int .i64 0, .int .i64 0, .int .i64 0, .slice none 0 0] 58 (0, 0))) := heap_alloc_new _ _
  go_enter Tryz.func22, Tryz.ntmps22
  go_upto_region 1 with fail
  generalize hwA : w.alloc (.cells #[.int .i64 0, .int .i64 0, .int .i64 0, .int .i64 0, .int .i64 0, .slice none 0 0] 58) = wA at HA HR
  clear hwA
  go_wp2_with fail
  refine (HO.out _).mono ?_
  rintro e w1 ⟨rfl, hb1⟩
  have hb1' : Below wA.heap.size wA (w1.alloc (.cells #[.int .i64 0, .int .i64 0, .int .i64 0, .int .i64 0, .int .i64 0, .slice none 0 0, .int .i64 0, .int .i64 0, .int .i64 0] 88)) := hb1.alloc hb1.size _
  have H1r : Hid ((w1.alloc (.cells #[.int .i64 0, .int .i64 0, .int .i64 0, .int .i64 0, .int .i64 0, .slice none 0 0, .int .i64 0, .int .i64 0, .int .i64 0] 88)).heap[w.heap.size]? = some (.cells #[.int .i64 0, .int .i64 0, .int .i64 0, .int .i64 0, .int .i64 0, .slice none 0 0] 58 (0, 0))) := (hb1'.block _ (lt_of_block HR.out)).trans HR.out
  have H1w : Hid (Below w.heap.size w (w1.alloc (.cells #[.int .i64 0, .int .i64 0, .int .i64 0, .int .i64 0, .int .i64 0, .slice none 0 0, .int .i64 0, .int .i64 0, .int .i64 0] 88))) := HA.out.trans (hb1'.mono HA.out.size)
  clear hb1 hb1' HA HR
  go_upto_region 2 with fail
  generalize hwB : w1.alloc (.cells #[.int .i64 0, .int .i64 0, .int .i64 0, .int .i64 0, .int .i64 0, .slice none 0 0, .int .i64 0, .int .i64 0, .int .i64 0] 88) = wB at H1r H1w
  clear hwB
  obtain ⟨r0, r1, r2, r3, r4, r5⟩ := cells6 H1r.out
  have hfr := frozen0 H1r.out
  go_wp2
  refine bodyPost_ret (v := ?v) ?c1 rfl ?c2
  case c1 =>
    rw [results_cell_tmp2 rfl]
    go_simp
    all_goals exact rfl
  case c2 =>
    refine ⟨rfl, ?_⟩
    simp only [bl_set]
    exact H1w.out
set_option maxRecDepth 20000 in
set_option maxHeartbeats 1000000 in
theorem head_short (s : ByteArray) (w : World) (h : Short s) :
    Calls Tryz.prog 47 #[.string s] w fun e w' => e = .returned (.tuple #[bv0, .int .i64 0, .int .i64 5]) ∧ Below w.heap.size w w' := by
  have HO : Hid (∀ W, Calls Tryz.prog 49 #[.string s] W fun e w' => e = .returned (.tuple #[.agg #[.int .i64 0, .int .i64 0, .int .i64 0, .int .i64 0, .int .i64 0, .slice none 0 0, .int .i64 0, .int .i64 0, .int .i64 0], .string ⟨#[]⟩, .int .i64 5]) ∧ Below W.heap.size W w') := fun W => open_short s W h
  clear h
  unfold bv0
  have HA : Hid (Below w.heap.size w (w.alloc (.cells #[.int .i64 0, .int .i64 0, .int .i64 0, .int .i64 0, .int .i64 0, .slice none 0 0] 58))) := (Below.refl _ _).alloc (Nat.le_refl _) _
  have HR : Hid ((w.alloc (.cells #[.int .i64 0, .int .i64 0, .int .i64 0, .int .i64 0, .int .i64 0, .slice none 0 0] 58)).heap[w.heap.size]? = some (.cells #[.int .i64 0, .int .i64 0, .int .i64 0, .int .i64 0, .int .i64 0, .slice none 0 0] 58 (0, 0))) := heap_alloc_new _ _
  go_enter Tryz.func47, Tryz.ntmps47
  go_upto_region 1 with fail
  generalize hwA : w.alloc (.cells #[.int .i64 0, .int .i64 0, .int .i64 0, .int .i64 0, .int .i64 0, .slice none 0 0] 58) = wA at HA HR
  clear hwA
  go_wp2_with fail
  refine (HO.out _).mono ?_
  rintro e w1 ⟨rfl, hb1⟩
  have hb1' : Below wA.heap.size wA (w1.alloc (.cells #[.int .i64 0, .int .i64 0, .int .i64 0, .int .i64 0, .int .i64 0, .slice none 0 0, .int .i64 0, .int .i64 0, .int .i64 0] 88)) := hb1.alloc hb1.size _
  have H1r : Hid ((w1.alloc (.cells #[.int .i64 0, .int .i64 0, .int .i64 0, .int .i64 0, .int .i64 0, .slice none 0 0, .int .i64 0, .int .i64 0, .int .i64 0] 88)).heap[w.heap.size]? = some (.cells #[.int .i64 0, .int .i64 0, .int .i64 0, .int .i64 0, .int .i64 0, .slice none 0 0] 58 (0, 0))) := (hb1'.block _ (lt_of_block HR.out)).trans HR.out
  have H1w : Hid (Below w.heap.size w (w1.alloc (.cells #[.int .i64 0, .int .i64 0, .int .i64 0, .int .i64 0, .int .i64 0, .slice none 0 0, .int .i64 0, .int .i64 0, .int .i64 0] 88))) := HA.out.trans (hb1'.mono HA.out.size)
  clear hb1 hb1' HA HR
  go_upto_region 2 with fail
  generalize hwB : w1.alloc (.cells #[.int .i64 0, .int .i64 0, .int .i64 0, .int .i64 0, .int .i64 0, .slice none 0 0, .int .i64 0, .int .i64 0, .int .i64 0] 88) = wB at H1r H1w
  clear hwB
  obtain ⟨r0, r1, r2, r3, r4, r5⟩ := cells6 H1r.out
  have hfr := frozen0 H1r.out
  go_wp2
  refine bodyPost_ret (v := ?v) ?c1 rfl ?c2
  case c1 =>
    rw [results_cell_tmp2 rfl]
    go_simp
    all_goals exact rfl
  case c2 =>
    refine ⟨rfl, ?_⟩
    simp only [bl_set]
    exact H1w.out
end Go.Proofs.YtogmfdgpnkbpaaaGreatDoor
namespace Go.Proofs.YtogmfdgpnkbpaaaGreatDoor
open Go.RowKit
set_option linter.unusedVariables false
set_option maxRecDepth 20000

def H9 : HN → Nat → Array Value := fun h pl => #[.int .i64 (h.base : Nat), .int .i64 (h.cnt : Nat), .int .i64 (h.view : Nat), .int .i64 (h.prod : Nat), .int .i64 (h.seq : Nat), .slice none 0 0, .int .i64 0, .int .i64 (h.nrec : Nat), .int .i64 (pl : Nat)]
/-- How a batch's records come. -/
def RecEnd (w : World) (L : List Rec) (e : Ending) (w' : World) : Prop := ∃ v, e = .returned (.tuple #[v, .int .i64 0]) ∧ Own w' w.heap.size v L ∧ Below w.heap.size w w'
set_option maxRecDepth 20000 in
set_option maxHeartbeats 1000000 in
theorem unpacked_ok (h : HN) (ok : h.OK) (p : List UInt8) (L : List Rec) (w : World) (hp : 29 + p.length ≤ 262144) (hL : ofO p h.base h.nrec = some L) :
    Calls Tryz.prog 50 #[h.hv p.length, .string (mk p)] w (RecEnd w L) := by
  have HA : Hid (Below w.heap.size w (w.alloc (.cells (H9 h p.length) 88))) := (Below.refl _ _).alloc (Nat.le_refl _) _
  have HR : Hid ((w.alloc (.cells (H9 h p.length) 88)).heap[w.heap.size]? = some (.cells (H9 h p.length) 88 (0, 0))) := heap_alloc_new _ _
  have HC : Hid (∀ W, Calls Tryz.prog 78 #[.int .i64 0] W fun e w' => e = .returned (.tuple #[cod0, .bool true]) ∧ Below W.heap.size W w') := codecOf_ok
  have HLv : Hid (∀ W, Calls Tryz.prog 106 #[.string (mk p), .int .i64 (p.length : Nat)] W fun e w' => e = .returned (.tuple #[.string (mk p), .int .i64 (p.length : Nat), .int .i64 0]) ∧ w' = W) := fun W => by
    have := leaveAtMost_ok (mk p) W (by rw [mk_size]; omega)
    rw [mk_size] at this
    exact this
  have HO : Hid (∀ W, Calls Tryz.prog 79 #[.string (mk p), .int .i64 (h.base : Nat), .int .i64 (h.nrec : Nat)] W (RecEnd W L)) := fun W => by
    refine (of_ok p h.base h.nrec W (by have := ok.nrec; omega) (by omega)).mono ?_
    rintro e w' (⟨M, v, h1, h2, h3, h4⟩ | ⟨h1, _⟩)
    · rw [hL] at h1
      cases h1
      exact ⟨v, h2, h3, h4⟩
    · rw [hL] at h1; cases h1
  have hz : ((mk p).size : Int) = (p.length : Int) := by rw [mk_size]
  have hz2 : (mk p).size = p.length := mk_size p
  clear hL
  unfold HN.hv
  unfold H9 at HA HR
  unfold cod0 at HC
  generalize mk p = S at HLv HO hz hz2 ⊢
  generalize p.length = pl at HA HR HLv hz hz2 hp ⊢
  go_enter Tryz.func50, Tryz.ntmps50
  go_upto_region 1 with fail
  generalize hwA : w.alloc (.cells #[.int .i64 (h.base : Nat), .int .i64 (h.cnt : Nat), .int .i64 (h.view : Nat), .int .i64 (h.prod : Nat), .int .i64 (h.seq : Nat), .slice none 0 0, .int .i64 0, .int .i64 (h.nrec : Nat), .int .i64 (pl : Nat)] 88) = wA at HA HR
  clear hwA
  obtain ⟨r0, r1, r2, r3, r4, r5, r6, r7, r8⟩ := cells9 HR.out
  go_wp2_with fail
  refine (HC.out _).mono ?_
  rintro e w1 ⟨rfl, hb1⟩
  have hb1' : Below wA.heap.size wA (w1.alloc (.cells #[.func (.func 105) #[] #[], .func (.func 106) #[] #[]] 134)) := hb1.alloc hb1.size _
  have H1b : Hid ((w1.alloc (.cells #[.func (.func 105) #[] #[], .func (.func 106) #[] #[]] 134)).heap[w.heap.size]? = some (.cells #[.int .i64 (h.base : Nat), .int .i64 (h.cnt : Nat), .int .i64 (h.view : Nat), .int .i64 (h.prod : Nat), .int .i64 (h.seq : Nat), .slice none 0 0, .int .i64 0, .int .i64 (h.nrec : Nat), .int .i64 (pl : Nat)] 88 (0, 0))) := (hb1'.block _ (lt_of_block HR.out)).trans HR.out
  have H1w : Hid (Below w.heap.size w (w1.alloc (.cells #[.func (.func 105) #[] #[], .func (.func 106) #[] #[]] 134))) := HA.out.trans (hb1'.mono HA.out.size)
  have H1c : Hid ((w1.alloc (.cells #[.func (.func 105) #[] #[], .func (.func 106) #[] #[]] 134)).cell? ⟨w1.heap.size, 1, none⟩ = some (.func (.func 106) #[] #[])) := by simp [Hid]
  clear hb1 hb1' HA HR r0 r1 r2 r3 r4 r5 r6 r7 r8
  go_upto_region 2 with fail
  obtain ⟨b1, hb1⟩ : ∃ b, w1.heap.size = b := ⟨_, rfl⟩
  rw [hb1] at H1c ⊢
  generalize hwB : w1.alloc (.cells #[.func (.func 105) #[] #[], .func (.func 106) #[] #[]] 134) = wB at H1b H1w H1c ⊢
  clear hwB
  obtain ⟨r0, r1, r2, r3, r4, r5, r6, r7, r8⟩ := cells9 H1b.out
  have c1 := H1c.out
  go_wp2_with fail
  refine (HLv.out _).mono ?_
  rintro e W ⟨rfl, hW⟩
  obtain rfl := hW.symm
  clear hW
  go_wp2_with fail
  refine (HO.out _).mono ?_
  rintro e w2 ⟨v, rfl, ho, hb2⟩
  have H2 : Hid (Own w2 w.heap.size v L ∧ Below w.heap.size w w2) := ⟨⟨ho.1, ho.2.imp id (fun ⟨g, cap, cur, hv, hg, r⟩ => ⟨g, cap, cur, hv, Nat.le_trans H1w.out.size hg, r⟩)⟩, H1w.out.trans (hb2.mono H1w.out.size)⟩
  clear ho hb2
  go_wp2
  go_ret2
  exact ⟨v, rfl, H2.out.1, H2.out.2⟩
end Go.Proofs.YtogmfdgpnkbpaaaGreatDoor
namespace Go.Proofs.YtogmfdgpnkbpaaaGreatDoor
open Go.RowKit
set_option linter.unusedVariables false
set_option maxRecDepth 20000

/-- What Of answers of a batch. -/
def OfBat (w : World) (h : HN) (L : List Rec) (n : Nat) (e : Ending) (w' : World) : Prop := ∃ a cap, e = .returned (.tuple #[h.bv (.slice a L.length cap), .int .i64 (n : Nat), .int .i64 0]) ∧ Below w.heap.size w w'
set_option maxRecDepth 20000 in
set_option maxHeartbeats 1000000 in
theorem bof_ok (h : HN) (ok : h.OK) (p t : List UInt8) (L : List Rec) (w : World) (hT : TabF w) (hp : 29 + p.length ≤ 262144) (ht : t.length ≤ 140737488000000) (hL : ofO p h.base h.nrec = some L) (hlen : L.length ≤ 256) (hW : Within h L) :
    Calls Tryz.prog 22 #[.string (mk (batL h p ++ t))] w (OfBat w h L (39 + p.length)) := by
  have HA : Hid (Below w.heap.size w (w.alloc (.cells #[.int .i64 0, .int .i64 0, .int .i64 0, .int .i64 0, .int .i64 0, .slice none 0 0] 58))) := (Below.refl _ _).alloc (Nat.le_refl _) _
  have HR : Hid ((w.alloc (.cells #[.int .i64 0, .int .i64 0, .int .i64 0, .int .i64 0, .int .i64 0, .slice none 0 0] 58)).heap[w.heap.size]? = some (.cells #[.int .i64 0, .int .i64 0, .int .i64 0, .int .i64 0, .int .i64 0, .slice none 0 0] 58 (0, 0))) := heap_alloc_new _ _
  have HO : Hid (∀ W, TabF W → Calls Tryz.prog 49 #[.string (mk (batL h p ++ t))] W fun e w' => e = .returned (.tuple #[h.hv p.length, .string (mk p), .int .i64 0]) ∧ Below W.heap.size W w') := fun W hW => open_ok h ok p t W hW hp ht
  have HU : Hid (∀ W, Calls Tryz.prog 50 #[h.hv p.length, .string (mk p)] W (RecEnd W L)) := fun W => unpacked_ok h ok p L W hp hL
  have HW : Hid (∀ W a cap, RIn W a L → Calls Tryz.prog 51 #[h.bv (.slice a L.length cap)] W fun e w' => e = .returned (.bool true) ∧ Below W.heap.size W w') := fun W a cap hin => recordsWithin_ok h ok a cap L W hin (by omega) hW
  have HZ : Hid (∀ W, Calls Tryz.prog 52 #[.string (mk p)] W fun e w' => e = .returned (.int .i64 ((39 + p.length : Nat) : Int)) ∧ w' = W) := fun W => sizeOf_ok p W (by omega)
  have HT : Hid (TabF (w.alloc (.cells #[.int .i64 0, .int .i64 0, .int .i64 0, .int .i64 0, .int .i64 0, .slice none 0 0] 58))) := hT.new HA.out
  clear hT hL hW
  unfold OfBat
  unfold HN.hv at HO HU
  unfold HN.bv at HW ⊢
  generalize mk (batL h p ++ t) = s at HO ⊢
  generalize mk p = S at HO HU HZ
  generalize hN : 39 + p.length = N at HZ ⊢
  clear hN
  go_enter Tryz.func22, Tryz.ntmps22
  go_upto_region 1 with fail
  generalize hwA : w.alloc (.cells #[.int .i64 0, .int .i64 0, .int .i64 0, .int .i64 0, .int .i64 0, .slice none 0 0] 58) = wA at HA HR HT
  clear hwA
  go_wp2_with fail
  refine (HO.out _ HT.out).mono ?_
  rintro e w1 ⟨rfl, hb1⟩
  have hb1' : Below wA.heap.size wA (w1.alloc (.cells #[.int .i64 (h.base : Nat), .int .i64 (h.cnt : Nat), .int .i64 (h.view : Nat), .int .i64 (h.prod : Nat), .int .i64 (h.seq : Nat), .slice none 0 0, .int .i64 0, .int .i64 (h.nrec : Nat), .int .i64 (p.length : Nat)] 88)) := hb1.alloc hb1.size _
  have H1r : Hid ((w1.alloc (.cells #[.int .i64 (h.base : Nat), .int .i64 (h.cnt : Nat), .int .i64 (h.view : Nat), .int .i64 (h.prod : Nat), .int .i64 (h.seq : Nat), .slice none 0 0, .int .i64 0, .int .i64 (h.nrec : Nat), .int .i64 (p.length : Nat)] 88)).heap[w.heap.size]? = some (.cells #[.int .i64 0, .int .i64 0, .int .i64 0, .int .i64 0, .int .i64 0, .slice none 0 0] 58 (0, 0))) := (hb1'.block _ (lt_of_block HR.out)).trans HR.out
  have H1w : Hid (Below w.heap.size w (w1.alloc (.cells #[.int .i64 (h.base : Nat), .int .i64 (h.cnt : Nat), .int .i64 (h.view : Nat), .int .i64 (h.prod : Nat), .int .i64 (h.seq : Nat), .slice none 0 0, .int .i64 0, .int .i64 (h.nrec : Nat), .int .i64 (p.length : Nat)] 88))) := HA.out.trans (hb1'.mono HA.out.size)
  have H1b : Hid ((w1.alloc (.cells #[.int .i64 (h.base : Nat), .int .i64 (h.cnt : Nat), .int .i64 (h.view : Nat), .int .i64 (h.prod : Nat), .int .i64 (h.seq : Nat), .slice none 0 0, .int .i64 0, .int .i64 (h.nrec : Nat), .int .i64 (p.length : Nat)] 88)).heap[w1.heap.size]? = some (.cells #[.int .i64 (h.base : Nat), .int .i64 (h.cnt : Nat), .int .i64 (h.view : Nat), .int .i64 (h.prod : Nat), .int .i64 (h.seq : Nat), .slice none 0 0, .int .i64 0, .int .i64 (h.nrec : Nat), .int .i64 (p.length : Nat)] 88 (0, 0))) := heap_alloc_new _ _
  obtain ⟨b9, hb9⟩ : ∃ b, w1.heap.size = b := ⟨_, rfl⟩
  rw [hb9] at H1b
  clear hb1 hb1' HA HR HT
  go_upto_region 4 with fail
  generalize hwB : w1.alloc (.cells #[.int .i64 (h.base : Nat), .int .i64 (h.cnt : Nat), .int .i64 (h.view : Nat), .int .i64 (h.prod : Nat), .int .i64 (h.seq : Nat), .slice none 0 0, .int .i64 0, .int .i64 (h.nrec : Nat), .int .i64 (p.length : Nat)] 88) = wB at H1r H1w H1b
  clear hwB
  have HBn : Hid (Below wB.heap.size wB (wB.alloc (.cells #[.int .i64 (h.base : Nat), .int .i64 (h.cnt : Nat), .int .i64 (h.view : Nat), .int .i64 (h.prod : Nat), .int .i64 (h.seq : Nat), .slice none 0 0] 58))) := (Below.refl _ _).alloc (Nat.le_refl _) _
  have H2r : Hid ((wB.alloc (.cells #[.int .i64 (h.base : Nat), .int .i64 (h.cnt : Nat), .int .i64 (h.view : Nat), .int .i64 (h.prod : Nat), .int .i64 (h.seq : Nat), .slice none 0 0] 58)).heap[w.heap.size]? = some (.cells #[.int .i64 0, .int .i64 0, .int .i64 0, .int .i64 0, .int .i64 0, .slice none 0 0] 58 (0, 0))) := (HBn.out.block _ (lt_of_block H1r.out)).trans H1r.out
  have H2w : Hid (Below w.heap.size w (wB.alloc (.cells #[.int .i64 (h.base : Nat), .int .i64 (h.cnt : Nat), .int .i64 (h.view : Nat), .int .i64 (h.prod : Nat), .int .i64 (h.seq : Nat), .slice none 0 0] 58))) := H1w.out.trans (HBn.out.mono H1w.out.size)
  have H2b : Hid ((wB.alloc (.cells #[.int .i64 (h.base : Nat), .int .i64 (h.cnt : Nat), .int .i64 (h.view : Nat), .int .i64 (h.prod : Nat), .int .i64 (h.seq : Nat), .slice none 0 0] 58)).heap[b9]? = some (.cells #[.int .i64 (h.base : Nat), .int .i64 (h.cnt : Nat), .int .i64 (h.view : Nat), .int .i64 (h.prod : Nat), .int .i64 (h.seq : Nat), .slice none 0 0, .int .i64 0, .int .i64 (h.nrec : Nat), .int .i64 (p.length : Nat)] 88 (0, 0))) := (HBn.out.block _ (lt_of_block H1b.out)).trans H1b.out
  have H2c : Hid ((wB.alloc (.cells #[.int .i64 (h.base : Nat), .int .i64 (h.cnt : Nat), .int .i64 (h.view : Nat), .int .i64 (h.prod : Nat), .int .i64 (h.seq : Nat), .slice none 0 0] 58)).heap[wB.heap.size]? = some (.cells #[.int .i64 (h.base : Nat), .int .i64 (h.cnt : Nat), .int .i64 (h.view : Nat), .int .i64 (h.prod : Nat), .int .i64 (h.seq : Nat), .slice none 0 0] 58 (0, 0))) := heap_alloc_new _ _
  obtain ⟨d0, d1, d2, d3, d4, d5, d6, d7, d8⟩ := cells9 H1b.out
  have hble : w.heap.size ≤ wB.heap.size := H1w.out.size
  have hblt : w.heap.size < wB.heap.size := lt_of_block H1r.out
  obtain ⟨b6, hb6⟩ : ∃ b, wB.heap.size = b := ⟨_, rfl⟩
  rw [hb6] at H2c hble hblt
  clear HBn
  go_upto_region 5 with fail
  generalize hwC : wB.alloc (.cells #[.int .i64 (h.base : Nat), .int .i64 (h.cnt : Nat), .int .i64 (h.view : Nat), .int .i64 (h.prod : Nat), .int .i64 (h.seq : Nat), .slice none 0 0] 58) = wC at H2r H2w H2b H2c
  clear hwC d0 d1 d2 d3 d4 d5 d6 d7 d8 H1r H1w H1b
  obtain ⟨d0, d1, d2, d3, d4, d5, d6, d7, d8⟩ := cells9 H2b.out
  go_wp2_with fail
  refine (HU.out _).mono ?_
  rintro e w2 ⟨v, rfl, ho, hb2⟩
  obtain ⟨a, cap, rfl, hin⟩ := own_slice ho
  have H3r : Hid (w2.heap[w.heap.size]? = some (.cells #[.int .i64 0, .int .i64 0, .int .i64 0, .int .i64 0, .int .i64 0, .slice none 0 0] 58 (0, 0))) := (hb2.block _ (lt_of_block H2r.out)).trans H2r.out
  have H3w : Hid (Below w.heap.size w w2) := H2w.out.trans (hb2.mono H2w.out.size)
  have H3c : Hid (w2.heap[b6]? = some (.cells #[.int .i64 (h.base : Nat), .int .i64 (h.cnt : Nat), .int .i64 (h.view : Nat), .int .i64 (h.prod : Nat), .int .i64 (h.seq : Nat), .slice none 0 0] 58 (0, 0))) := (hb2.block _ (lt_of_block H2c.out)).trans H2c.out
  have hin2 : Hid (RIn (w2.setCell ⟨b6, 5, none⟩ (.slice a L.length cap)) a L) := fun i r hr => by
    obtain ⟨gb, off, e1, e2, e3, e4, e5, e6⟩ := hin i r hr
    have hne : gb ≠ b6 := by
      intro e
      rcases ho.2 with ⟨hv, _⟩ | ⟨g, cp, cur, hv, hB, hh, _⟩
      · have ha := (Value.slice.inj hv).1
        rw [ha] at e1; cases e1
      · have ha := (Value.slice.inj hv).1
        rw [ha] at e1
        have eg : g = gb := by simpa using congrArg (fun x => x.map Addr.block) e1
        have := lt_of_block H2c.out
        omega
    have hc : ∀ q, (w2.setCell ⟨b6, 5, none⟩ (.slice a L.length cap)).cell? ⟨gb, q, none⟩ = w2.cell? ⟨gb, q, none⟩ := fun q => by
      simp only [World.cell?]
      rw [Below.heap_setCell _ _ _ _ (by show gb ≠ b6; exact hne)]
    exact ⟨gb, off, e1, by simpa [World.setCell] using e2, (hc _).trans e3, (hc _).trans e4, (hc _).trans e5, (hc _).trans e6⟩
  have H4r : Hid ((w2.setCell ⟨b6, 5, none⟩ (.slice a L.length cap)).heap[w.heap.size]? = some (.cells #[.int .i64 0, .int .i64 0, .int .i64 0, .int .i64 0, .int .i64 0, .slice none 0 0] 58 (0, 0))) := (Below.heap_setCell _ _ _ _ (by show w.heap.size ≠ b6; omega)).trans H3r.out
  have H4w : Hid (Below w.heap.size w (w2.setCell ⟨b6, 5, none⟩ (.slice a L.length cap))) := H3w.out.trans (below_set _ _ hble)
  have H4c : Hid ((w2.setCell ⟨b6, 5, none⟩ (.slice a L.length cap)).heap[b6]? = some (.cells #[.int .i64 (h.base : Nat), .int .i64 (h.cnt : Nat), .int .i64 (h.view : Nat), .int .i64 (h.prod : Nat), .int .i64 (h.seq : Nat), .slice a L.length cap] 58 (0, 0))) := block_set H3c.out
  have fz := frozen0 H3c.out 5
  obtain ⟨c0, c1, c2, c3, c4, c5⟩ := cells6 H3c.out
  clear hin ho hb2 d0 d1 d2 d3 d4 d5 d6 d7 d8 H2r H2w H2b H2c
  go_upto_region 6 with fail
  generalize hwD : w2.setCell ⟨b6, 5, none⟩ (.slice a L.length cap) = wD at hin2 H4r H4w H4c
  clear hwD c0 c1 c2 c3 c4 c5 fz H3r H3w H3c
  obtain ⟨c0, c1, c2, c3, c4, c5⟩ := cells6 H4c.out
  go_wp2_with fail
  refine (HW.out _ _ _ hin2.out).mono ?_
  rintro e w3 ⟨rfl, hb3⟩
  have H5r : Hid (w3.heap[w.heap.size]? = some (.cells #[.int .i64 0, .int .i64 0, .int .i64 0, .int .i64 0, .int .i64 0, .slice none 0 0] 58 (0, 0))) := (hb3.block _ (lt_of_block H4r.out)).trans H4r.out
  have H5w : Hid (Below w.heap.size w w3) := H4w.out.trans (hb3.mono H4w.out.size)
  have H5c : Hid (w3.heap[b6]? = some (.cells #[.int .i64 (h.base : Nat), .int .i64 (h.cnt : Nat), .int .i64 (h.view : Nat), .int .i64 (h.prod : Nat), .int .i64 (h.seq : Nat), .slice a L.length cap] 58 (0, 0))) := (hb3.block _ (lt_of_block H4c.out)).trans H4c.out
  have H5i : Hid (RIn w3 a L) := hin2.out.below hb3 (Nat.le_refl _)
  clear hb3 c0 c1 c2 c3 c4 c5 hin2 H4r H4w H4c
  obtain ⟨c0, c1, c2, c3, c4, c5⟩ := cells6 H5c.out
  obtain ⟨r0, r1, r2, r3, r4, r5⟩ := cells6 H5r.out
  have hfr := frozen0 H5r.out
  go_wp2
  go_region_with (go_at_call 52; refine (HZ.out _).mono ?_; rintro e W ⟨rfl, hW⟩; obtain rfl := hW.symm; clear hW)
  all_goals (
    go_wp2
    refine bodyPost_ret (v := ?v) ?c1 rfl ?c2
    case c1 =>
      rw [results_cell_tmp2 rfl]
      go_simp
      all_goals exact rfl
    case c2 =>
      refine ⟨a, cap, rfl, ?_⟩
      simp only [bl_drew, bl_set]
      exact H5w.out)
end Go.Proofs.YtogmfdgpnkbpaaaGreatDoor
namespace Go.Proofs.YtogmfdgpnkbpaaaGreatDoor
open Go.RowKit
set_option linter.unusedVariables false
set_option maxRecDepth 20000

set_option maxHeartbeats 1000000 in
theorem headed_yes (h : HN) (ok : h.OK) (ao : Option Addr) (ln cp : Nat) (w : World) :
    Calls Tryz.prog 117 #[h.bv (.slice ao ln cp)] w fun e w' => e = .returned (.bool true) ∧ Below w.heap.size w w' := by
  obtain ⟨base, cnt, view, prod, seq, nrec⟩ := h
  obtain ⟨o1, o2, o3, o4, o5, o6, o7⟩ := ok
  simp only at o1 o2 o3 o4 o5 o6 o7
  unfold HN.bv
  have HB : Hid (Below w.heap.size w (w.alloc (.cells #[.int .i64 (base : Nat), .int .i64 (cnt : Nat), .int .i64 (view : Nat), .int .i64 (prod : Nat), .int .i64 (seq : Nat), .slice ao ln cp] 58))) := (Below.refl _ _).alloc (Nat.le_refl _) _
  go_enter Tryz.func117, Tryz.ntmps117
  go_wp2
  go_ret
  exact ⟨congrArg (fun b => Ending.returned (.bool b)) (decide_eq_true (by omega)), HB.out⟩
theorem rfixed_ok (n k : Nat) (w : World) (h1 : 1 ≤ k) (h2 : k ≤ 8) (hn : n ≤ 9223372036854775807) (h : n < 2 ^ (8 * k)) :
    Calls Tryz.prog 90 #[.int .i64 (n : Nat), .int .i64 (k : Nat)] w fun e w' => e = .returned (.string (mk (fxL n k))) ∧ Below w.heap.size w w' := by
  have HP : Hid (∀ W, Calls Tryz.prog 120 #[.int .i64 (n : Nat), .int .i64 (k : Nat)] W fun e w' => e = .returned (.tuple #[.string (mk (fxL n k)), .int .i64 0]) ∧ Below W.heap.size W w') := fun W => by
    have hd : (n : Int) / 2 ^ (8 * k) ≤ 0 := by
      have e : (n : Int) / 2 ^ (8 * k) = ((n / 2 ^ (8 * k) : Nat) : Int) := by simp
      rw [e, Nat.div_eq_of_lt h]; exact Int.le_refl _
    exact refPutFixed n k W h1 h2 hn hd
  clear h h1 h2 hn
  generalize mk (fxL n k) = z at HP ⊢
  go_enter Tryz.func90, Tryz.ntmps90
  go_wp2_with fail
  refine (HP.out _).mono ?_
  rintro e w1 ⟨rfl, hb⟩
  have HB : Hid (Below w.heap.size w w1) := hb
  clear hb
  go_wp2
  go_ret
  exact ⟨rfl, HB.out⟩
/-- A batch whose records lie in memory, one or more. -/
structure BIn (w : World) (h : HN) (sb so : Nat) (L : List Rec) : Prop where
  inn : RIn w (some ⟨sb, so, none⟩) L
  sz : Sized L
  one : 1 ≤ L.length
  most : L.length ≤ 256
  may : (offB h.base && comes L h.base) = true
  last : ∀ r, L[L.length - 1]? = some r → r.off < (h.base : Int) + (h.cnt : Int)
set_option maxRecDepth 20000 in
set_option maxHeartbeats 2000000 in
theorem may10_yes (h : HN) (ok : h.OK) (sb so cap : Nat) (L : List Rec) (w : World) (hB : BIn w h sb so L) :
    Calls Tryz.prog 88 #[h.bv (.slice (some ⟨sb, so, none⟩) L.length cap)] w fun e w' => e = .returned (.bool true) ∧ Below w.heap.size w w' := by
  obtain ⟨hin, hsz, h1, h256, hm, hla⟩ := hB
  have hlt : L.length - 1 < L.length := by omega
  have hge : L[L.length - 1]? = some L[L.length - 1] := List.getElem?_eq_getElem hlt
  obtain ⟨b', o', ea, hsb, q0, -, -, -⟩ := hin _ _ hge
  cases ea
  have hlo := hla _ hge
  have HH : Hid (∀ W, Calls Tryz.prog 117 #[h.bv (.slice (some ⟨sb, so, none⟩) L.length cap)] W fun e w' => e = .returned (.bool true) ∧ Below W.heap.size W w') := fun W => headed_yes h ok _ _ _ W
  have HI : Hid (RIn w (some ⟨sb, so, none⟩) L) := hin
  have HRi : Hid (∀ W, RIn W (some ⟨sb, so, none⟩) L → Calls Tryz.prog 118 #[.slice (some ⟨sb, so, none⟩) L.length cap, .int .i64 (h.base : Nat)] W fun e w' => e = .returned (.bool true) ∧ Below W.heap.size W w') := fun W hW => by
    have := rise_ok (some ⟨sb, so, none⟩) cap L h.base W hW hsz (by omega)
    rw [hm] at this
    exact this
  obtain ⟨lo, hloe⟩ : ∃ lo, L[L.length - 1].off = lo := ⟨_, rfl⟩
  rw [hloe] at q0 hlo
  obtain ⟨n, hn⟩ : ∃ n, L.length = n := ⟨_, rfl⟩
  rw [hn] at HH HRi h1 h256 q0 ⊢
  clear hm hla hge hlt hsz hin hloe
  have ob := ok.base
  have oc := ok.cnt
  clear ok
  unfold HN.bv at HH ⊢
  have hx : ((n : Int) - 1) = ((n - 1 : Nat) : Int) := by omega
  have hn1 : n - 1 < n := by omega
  have HA : Hid (Below w.heap.size w (w.alloc (.cells #[.int .i64 (h.base : Nat), .int .i64 (h.cnt : Nat), .int .i64 (h.view : Nat), .int .i64 (h.prod : Nat), .int .i64 (h.seq : Nat), .slice (some ⟨sb, so, none⟩) n cap] 58))) := (Below.refl _ _).alloc (Nat.le_refl _) _
  have HC : Hid ((w.alloc (.cells #[.int .i64 (h.base : Nat), .int .i64 (h.cnt : Nat), .int .i64 (h.view : Nat), .int .i64 (h.prod : Nat), .int .i64 (h.seq : Nat), .slice (some ⟨sb, so, none⟩) n cap] 58)).heap[w.heap.size]? = some (.cells #[.int .i64 (h.base : Nat), .int .i64 (h.cnt : Nat), .int .i64 (h.view : Nat), .int .i64 (h.prod : Nat), .int .i64 (h.seq : Nat), .slice (some ⟨sb, so, none⟩) n cap] 58 (0, 0))) := heap_alloc_new _ _
  have HQ : Hid ((w.alloc (.cells #[.int .i64 (h.base : Nat), .int .i64 (h.cnt : Nat), .int .i64 (h.view : Nat), .int .i64 (h.prod : Nat), .int .i64 (h.seq : Nat), .slice (some ⟨sb, so, none⟩) n cap] 58)).cell? ⟨sb, so + (n - 1) * 4, none⟩ = some (.int .i64 lo)) := by rw [Hid, cell_below HA.out hsb]; exact q0
  have HI2 : Hid (RIn (w.alloc (.cells #[.int .i64 (h.base : Nat), .int .i64 (h.cnt : Nat), .int .i64 (h.view : Nat), .int .i64 (h.prod : Nat), .int .i64 (h.seq : Nat), .slice (some ⟨sb, so, none⟩) n cap] 58)) (some ⟨sb, so, none⟩) L) := HI.out.below HA.out (Nat.le_refl _)
  clear q0 HI
  go_enter Tryz.func88, Tryz.ntmps88
  go_upto_region 1 with fail
  generalize hwA : w.alloc (.cells #[.int .i64 (h.base : Nat), .int .i64 (h.cnt : Nat), .int .i64 (h.view : Nat), .int .i64 (h.prod : Nat), .int .i64 (h.seq : Nat), .slice (some ⟨sb, so, none⟩) n cap] 58) = wA at HA HC HQ HI2
  clear hwA
  obtain ⟨c0, c1, c2, c3, c4, c5⟩ := cells6 HC.out
  have hlt := lt_of_block HC.out
  have hsbA : sb < wA.heap.size := Nat.lt_of_lt_of_le hsb HA.out.size
  obtain ⟨B, hBe⟩ : ∃ B, w.heap.size = B := ⟨_, rfl⟩
  rw [hBe] at c0 c1 c2 c3 c4 c5 hlt ⊢
  have q0 := HQ.out
  go_upto_region 2 with fail
  refine wp_region_held_drew (S := fun w' => w'.cell? ⟨B, 0, none⟩ = some (.int .i64 (h.base : Nat)) ∧ w'.cell? ⟨B, 1, none⟩ = some (.int .i64 (h.cnt : Nat)) ∧ w'.cell? ⟨B, 2, none⟩ = some (.int .i64 (h.view : Nat)) ∧ w'.cell? ⟨B, 3, none⟩ = some (.int .i64 (h.prod : Nat)) ∧ w'.cell? ⟨B, 4, none⟩ = some (.int .i64 (h.seq : Nat)) ∧ w'.cell? ⟨B, 5, none⟩ = some (.slice (some ⟨sb, so, none⟩) n cap) ∧ w'.cell? ⟨sb, so + (n - 1) * 4, none⟩ = some (.int .i64 lo)) (by kernel_rfl) ⟨c0, c1, c2, c3, c4, c5, q0⟩ (fun hHeld => ?_)
  refine wpAnyH_take (i := 0) (v := ?v0) rfl (by kernel_rfl) (by kernel_rfl) (by kernel_rfl) (fun _ _ _ h => h) (Or.inl ⟨by rfl, fun w hSw => ?hy0⟩) hHeld ?rest0
  case hy0 =>
    try dsimp only at hSw
    go_simp
    try with_reducible rfl
  simp only [Act.put, List.setIfInBounds_toArray, List.set_cons_zero, List.set_cons_succ, List.getElem_toArray, List.getElem_cons_zero]
  refine wpAnyH_ready (rs := [1]) (by kernel_rfl) (by simp) ?_
  refine AllReadyH.cons rfl (fun K hK => ?_) AllReadyH.nil
  go_simp
  refine (HH.out _).mono ?_
  rintro e w1 ⟨rfl, hb1'⟩
  have HB1 : Hid (Below wA.heap.size wA w1) := ⟨hb1'.os, hb1'.tape, hb1'.output, hb1'.size, hb1'.block⟩
  clear hHeld hb1'
  go_simp
  refine hK.out _ _ ⟨by rw [cell_below HB1.out hlt]; exact c0, by rw [cell_below HB1.out hlt]; exact c1, by rw [cell_below HB1.out hlt]; exact c2, by rw [cell_below HB1.out hlt]; exact c3, by rw [cell_below HB1.out hlt]; exact c4, by rw [cell_below HB1.out hlt]; exact c5, by rw [cell_below HB1.out hsbA]; exact q0⟩ (fun hHeld => ?_)
  clear hK
  refine wpAnyH_take (i := 2) (v := ?v2) rfl (by kernel_rfl) (by kernel_rfl) (by kernel_rfl) (fun _ _ _ h => h) (Or.inl ⟨by rfl, fun w hSw => ?hy2⟩) hHeld ?rest2
  case hy2 =>
    try dsimp only at hSw
    go_simp
    try with_reducible rfl
  simp only [Act.put, List.setIfInBounds_toArray, List.set_cons_zero, List.set_cons_succ, List.getElem_toArray, List.getElem_cons_zero, List.getElem_cons_succ]
  refine wpAnyH_take (i := 3) (v := ?v3) rfl (by kernel_rfl) (by kernel_rfl) (by kernel_rfl) (fun _ _ _ h => h) (Or.inl ⟨by rfl, fun w hSw => ?hy3⟩) hHeld ?rest3
  case hy3 =>
    try dsimp only at hSw
    go_simp
    try with_reducible rfl
  simp only [Act.put, List.setIfInBounds_toArray, List.set_cons_zero, List.set_cons_succ, List.getElem_toArray, List.getElem_cons_zero, List.getElem_cons_succ]
  refine wpAnyH_take (i := 4) (v := .bool true) rfl (by kernel_rfl) (by kernel_rfl) (by kernel_rfl) (fun _ _ _ h => h) (Or.inl ⟨by rfl, fun w hSw => ?hy4⟩) hHeld ?rest4
  case hy4 =>
    try dsimp only at hSw
    go_simp
    all_goals first | with_reducible rfl | omega
  simp only [Act.put, List.setIfInBounds_toArray, List.set_cons_zero, List.set_cons_succ, List.getElem_toArray, List.getElem_cons_zero, List.getElem_cons_succ]
  refine wpAnyH_take (i := 5) (v := ?v5) rfl (by kernel_rfl) (by kernel_rfl) (by kernel_rfl) (fun _ _ _ h => h) (Or.inl ⟨by rfl, fun w hSw => ?hy5⟩) hHeld ?rest5
  case hy5 =>
    try dsimp only at hSw
    go_simp
    try with_reducible rfl
  simp only [Act.put, List.setIfInBounds_toArray, List.set_cons_zero, List.set_cons_succ, List.getElem_toArray, List.getElem_cons_zero, List.getElem_cons_succ]
  refine wpAnyH_take (i := 6) (v := ?v6) rfl (by kernel_rfl) (by kernel_rfl) (by kernel_rfl) (fun _ _ _ h => h) (Or.inl ⟨by rfl, fun w hSw => ?hy6⟩) hHeld ?rest6
  case hy6 =>
    try dsimp only at hSw
    go_simp
    try with_reducible rfl
  simp only [Act.put, List.setIfInBounds_toArray, List.set_cons_zero, List.set_cons_succ, List.getElem_toArray, List.getElem_cons_zero, List.getElem_cons_succ]
  refine wpAnyH_take (i := 7) (v := ?v7) rfl (by kernel_rfl) (by kernel_rfl) (by kernel_rfl) (fun _ _ _ h => h) (Or.inl ⟨by rfl, fun w hSw => ?hy7⟩) hHeld ?rest7
  case hy7 =>
    try dsimp only at hSw
    go_simp
    try with_reducible rfl
  simp only [Act.put, List.setIfInBounds_toArray, List.set_cons_zero, List.set_cons_succ, List.getElem_toArray, List.getElem_cons_zero, List.getElem_cons_succ]
  refine wpAnyH_take (i := 8) (v := ?v8) rfl (by kernel_rfl) (by kernel_rfl) (by kernel_rfl) (fun _ _ _ h => h) (Or.inl ⟨by rfl, fun w hSw => ?hy8⟩) hHeld ?rest8
  case hy8 =>
    try dsimp only at hSw
    go_simp
    try with_reducible rfl
  simp only [Act.put, List.setIfInBounds_toArray, List.set_cons_zero, List.set_cons_succ, List.getElem_toArray, List.getElem_cons_zero, List.getElem_cons_succ]
  refine wpAnyH_take (i := 9) (v := ?v9) rfl (by kernel_rfl) (by kernel_rfl) (by kernel_rfl) (fun _ _ _ h => h) (Or.inl ⟨by rfl, fun w hSw => ?hy9⟩) hHeld ?rest9
  case hy9 =>
    try dsimp only at hSw
    go_simp
    try with_reducible rfl
  simp only [Act.put, List.setIfInBounds_toArray, List.set_cons_zero, List.set_cons_succ, List.getElem_toArray, List.getElem_cons_zero, List.getElem_cons_succ]
  refine wpAnyH_take (i := 10) (v := ?v10) rfl (by kernel_rfl) (by kernel_rfl) (by kernel_rfl) (fun _ _ _ h => h) (Or.inl ⟨by rfl, fun w hSw => ?hy10⟩) hHeld ?rest10
  case hy10 =>
    try dsimp only at hSw
    go_simp
    try with_reducible rfl
  simp only [Act.put, List.setIfInBounds_toArray, List.set_cons_zero, List.set_cons_succ, List.getElem_toArray, List.getElem_cons_zero, List.getElem_cons_succ]
  refine wpAnyH_ready (rs := [11]) (by kernel_rfl) (by simp) ?_
  refine AllReadyH.cons rfl (fun K hK => ?_) AllReadyH.nil
  go_simp
  refine (HRi.out _ (HI2.out.below HB1.out (Nat.le_refl _))).mono ?_
  rintro e w2 ⟨rfl, hb1'⟩
  have HB2 : Hid (Below wA.heap.size wA w2) := HB1.out.trans (Below.mono ⟨hb1'.os, hb1'.tape, hb1'.output, hb1'.size, hb1'.block⟩ HB1.out.size)
  clear hHeld hb1'
  go_simp
  refine hK.out _ _ ⟨by rw [cell_below HB2.out hlt]; exact c0, by rw [cell_below HB2.out hlt]; exact c1, by rw [cell_below HB2.out hlt]; exact c2, by rw [cell_below HB2.out hlt]; exact c3, by rw [cell_below HB2.out hlt]; exact c4, by rw [cell_below HB2.out hlt]; exact c5, by rw [cell_below HB2.out hsbA]; exact q0⟩ (fun hHeld => ?_)
  clear hK
  refine wpAnyH_take (i := 12) (v := ?v12) rfl (by kernel_rfl) (by kernel_rfl) (by kernel_rfl) (fun _ _ _ h => h) (Or.inl ⟨by rfl, fun w hSw => ?hy12⟩) hHeld ?rest12
  case hy12 =>
    try dsimp only at hSw
    go_simp
    try with_reducible rfl
  simp only [Act.put, List.setIfInBounds_toArray, List.set_cons_zero, List.set_cons_succ, List.getElem_toArray, List.getElem_cons_zero, List.getElem_cons_succ]
  refine wpAnyH_take (i := 13) (v := ?v13) rfl (by kernel_rfl) (by kernel_rfl) (by kernel_rfl) (fun _ _ _ h => h) (Or.inl ⟨by rfl, fun w hSw => ?hy13⟩) hHeld ?rest13
  case hy13 =>
    try dsimp only at hSw
    go_simp
    try with_reducible rfl
  simp only [Act.put, List.setIfInBounds_toArray, List.set_cons_zero, List.set_cons_succ, List.getElem_toArray, List.getElem_cons_zero, List.getElem_cons_succ]
  refine wpAnyH_take (i := 14) (v := ?v14) rfl (by kernel_rfl) (by kernel_rfl) (by kernel_rfl) (fun _ _ _ h => h) (Or.inl ⟨by rfl, fun w hSw => ?hy14⟩) hHeld ?rest14
  case hy14 =>
    try dsimp only at hSw
    go_simp
    try with_reducible rfl
  simp only [Act.put, List.setIfInBounds_toArray, List.set_cons_zero, List.set_cons_succ, List.getElem_toArray, List.getElem_cons_zero, List.getElem_cons_succ]
  refine wpAnyH_take (i := 15) (v := .bool false) rfl (by kernel_rfl) (by kernel_rfl) (by kernel_rfl) (fun _ _ _ h => h) (Or.inl ⟨by rfl, fun w hSw => ?hy15⟩) hHeld ?rest15
  case hy15 =>
    try dsimp only at hSw
    go_simp
    all_goals first | with_reducible rfl | omega
  simp only [Act.put, List.setIfInBounds_toArray, List.set_cons_zero, List.set_cons_succ, List.getElem_toArray, List.getElem_cons_zero, List.getElem_cons_succ]
  refine wpAnyH_take (i := 16) (v := ?v16) rfl (by kernel_rfl) (by kernel_rfl) (by kernel_rfl) (fun _ _ _ h => h) (Or.inl ⟨by rfl, fun w hSw => ?hy16⟩) hHeld ?rest16
  case hy16 =>
    try dsimp only at hSw
    go_simp
    try with_reducible rfl
  simp only [Act.put, List.setIfInBounds_toArray, List.set_cons_zero, List.set_cons_succ, List.getElem_toArray, List.getElem_cons_zero, List.getElem_cons_succ]
  refine wpAnyH_take (i := 17) (v := ?v17) rfl (by kernel_rfl) (by kernel_rfl) (by kernel_rfl) (fun _ _ _ h => h) (Or.inl ⟨by rfl, fun w hSw => ?hy17⟩) hHeld ?rest17
  case hy17 =>
    try dsimp only at hSw
    go_simp
    try with_reducible rfl
  simp only [Act.put, List.setIfInBounds_toArray, List.set_cons_zero, List.set_cons_succ, List.getElem_toArray, List.getElem_cons_zero, List.getElem_cons_succ]
  refine wpAnyH_take (i := 18) (v := ?v18) rfl (by kernel_rfl) (by kernel_rfl) (by kernel_rfl) (fun _ _ _ h => h) (Or.inl ⟨by rfl, fun w hSw => ?hy18⟩) hHeld ?rest18
  case hy18 =>
    try dsimp only at hSw
    go_simp
    try with_reducible rfl
  simp only [Act.put, List.setIfInBounds_toArray, List.set_cons_zero, List.set_cons_succ, List.getElem_toArray, List.getElem_cons_zero, List.getElem_cons_succ]
  refine wpAnyH_take (i := 19) (v := ?v19) rfl (by kernel_rfl) (by kernel_rfl) (by kernel_rfl) (fun _ _ _ h => h) (Or.inl ⟨by rfl, fun w hSw => ?hy19⟩) hHeld ?rest19
  case hy19 =>
    try dsimp only at hSw
    go_simp
    try with_reducible rfl
  simp only [Act.put, List.setIfInBounds_toArray, List.set_cons_zero, List.set_cons_succ, List.getElem_toArray, List.getElem_cons_zero, List.getElem_cons_succ]
  refine wpAnyH_take (i := 20) (v := .int .i64 ((n - 1 : Nat) : Int)) rfl (by kernel_rfl) (by kernel_rfl) (by kernel_rfl) (fun _ _ _ h => h) (Or.inl ⟨by rfl, fun w hSw => ?hy20⟩) hHeld ?rest20
  case hy20 =>
    try dsimp only at hSw
    go_simp
    rw [IntKind.wrap_i64]; omega
  simp only [Act.put, List.setIfInBounds_toArray, List.set_cons_zero, List.set_cons_succ, List.getElem_toArray, List.getElem_cons_zero, List.getElem_cons_succ]
  refine wpAnyH_take (i := 21) (v := .pointer (some ⟨sb, so + (n - 1) * 4, none⟩)) rfl (by kernel_rfl) (by kernel_rfl) (by kernel_rfl) (fun _ _ _ h => h) (Or.inl ⟨by rfl, fun w hSw => ?hy21⟩) hHeld ?rest21
  case hy21 =>
    try dsimp only at hSw
    go_simp
    all_goals first | with_reducible rfl | omega
  simp only [Act.put, List.setIfInBounds_toArray, List.set_cons_zero, List.set_cons_succ, List.getElem_toArray, List.getElem_cons_zero, List.getElem_cons_succ]
  refine wpAnyH_take (i := 22) (v := ?v22) rfl (by kernel_rfl) (by kernel_rfl) (by kernel_rfl) (fun _ _ _ h => h) (Or.inl ⟨by rfl, fun w hSw => ?hy22⟩) hHeld ?rest22
  case hy22 =>
    try dsimp only at hSw
    go_simp
    try with_reducible rfl
  simp only [Act.put, List.setIfInBounds_toArray, List.set_cons_zero, List.set_cons_succ, List.getElem_toArray, List.getElem_cons_zero, List.getElem_cons_succ]
  refine wpAnyH_take (i := 23) (v := ?v23) rfl (by kernel_rfl) (by kernel_rfl) (by kernel_rfl) (fun _ _ _ h => h) (Or.inl ⟨by rfl, fun w hSw => ?hy23⟩) hHeld ?rest23
  case hy23 =>
    try dsimp only at hSw
    go_simp
    try with_reducible rfl
  simp only [Act.put, List.setIfInBounds_toArray, List.set_cons_zero, List.set_cons_succ, List.getElem_toArray, List.getElem_cons_zero, List.getElem_cons_succ]
  refine wpAnyH_take (i := 24) (v := ?v24) rfl (by kernel_rfl) (by kernel_rfl) (by kernel_rfl) (fun _ _ _ h => h) (Or.inl ⟨by rfl, fun w hSw => ?hy24⟩) hHeld ?rest24
  case hy24 =>
    try dsimp only at hSw
    go_simp
    try with_reducible rfl
  simp only [Act.put, List.setIfInBounds_toArray, List.set_cons_zero, List.set_cons_succ, List.getElem_toArray, List.getElem_cons_zero, List.getElem_cons_succ]
  refine wpAnyH_take (i := 25) (v := ?v25) rfl (by kernel_rfl) (by kernel_rfl) (by kernel_rfl) (fun _ _ _ h => h) (Or.inl ⟨by rfl, fun w hSw => ?hy25⟩) hHeld ?rest25
  case hy25 =>
    try dsimp only at hSw
    go_simp
    try with_reducible rfl
  simp only [Act.put, List.setIfInBounds_toArray, List.set_cons_zero, List.set_cons_succ, List.getElem_toArray, List.getElem_cons_zero, List.getElem_cons_succ]
  refine wpAnyH_take (i := 26) (v := ?v26) rfl (by kernel_rfl) (by kernel_rfl) (by kernel_rfl) (fun _ _ _ h => h) (Or.inl ⟨by rfl, fun w hSw => ?hy26⟩) hHeld ?rest26
  case hy26 =>
    try dsimp only at hSw
    go_simp
    try with_reducible rfl
  simp only [Act.put, List.setIfInBounds_toArray, List.set_cons_zero, List.set_cons_succ, List.getElem_toArray, List.getElem_cons_zero, List.getElem_cons_succ]
  refine wpAnyH_take (i := 27) (v := ?v27) rfl (by kernel_rfl) (by kernel_rfl) (by kernel_rfl) (fun _ _ _ h => h) (Or.inl ⟨by rfl, fun w hSw => ?hy27⟩) hHeld ?rest27
  case hy27 =>
    try dsimp only at hSw
    go_simp
    try with_reducible rfl
  simp only [Act.put, List.setIfInBounds_toArray, List.set_cons_zero, List.set_cons_succ, List.getElem_toArray, List.getElem_cons_zero, List.getElem_cons_succ]
  refine wpAnyH_take (i := 28) (v := .int .i64 ((h.base : Int) + (h.cnt : Int))) rfl (by kernel_rfl) (by kernel_rfl) (by kernel_rfl) (fun _ _ _ h => h) (Or.inl ⟨by rfl, fun w hSw => ?hy28⟩) hHeld ?rest28
  case hy28 =>
    try dsimp only at hSw
    go_simp
    rw [IntKind.wrap_i64]; omega
  simp only [Act.put, List.setIfInBounds_toArray, List.set_cons_zero, List.set_cons_succ, List.getElem_toArray, List.getElem_cons_zero, List.getElem_cons_succ]
  refine wpAnyH_take (i := 29) (v := .bool true) rfl (by kernel_rfl) (by kernel_rfl) (by kernel_rfl) (fun _ _ _ h => h) (Or.inl ⟨by rfl, fun w hSw => ?hy29⟩) hHeld ?rest29
  case hy29 =>
    try dsimp only at hSw
    go_simp
    all_goals first | with_reducible rfl | omega
  simp only [Act.put, List.setIfInBounds_toArray, List.set_cons_zero, List.set_cons_succ, List.getElem_toArray, List.getElem_cons_zero, List.getElem_cons_succ]
  refine wpAnyH_take (i := 30) (v := ?v30) rfl (by kernel_rfl) (by kernel_rfl) (by kernel_rfl) (fun _ _ _ h => h) (Or.inl ⟨by rfl, fun w hSw => ?hy30⟩) hHeld ?rest30
  case hy30 =>
    try dsimp only at hSw
    go_simp
    try with_reducible rfl
  simp only [Act.put, List.setIfInBounds_toArray, List.set_cons_zero, List.set_cons_succ, List.getElem_toArray, List.getElem_cons_zero, List.getElem_cons_succ]
  refine wpAnyH_take (i := 31) (v := ?v31) rfl (by kernel_rfl) (by kernel_rfl) (by kernel_rfl) (fun _ _ _ h => h) (Or.inl ⟨by rfl, fun w hSw => ?hy31⟩) hHeld ?rest31
  case hy31 =>
    try dsimp only at hSw
    go_simp
    try with_reducible rfl
  simp only [Act.put, List.setIfInBounds_toArray, List.set_cons_zero, List.set_cons_succ, List.getElem_toArray, List.getElem_cons_zero, List.getElem_cons_succ]
  refine wpAnyH_take (i := 32) (v := ?v32) rfl (by kernel_rfl) (by kernel_rfl) (by kernel_rfl) (fun _ _ _ h => h) (Or.inl ⟨by rfl, fun w hSw => ?hy32⟩) hHeld ?rest32
  case hy32 =>
    try dsimp only at hSw
    go_simp
    try with_reducible rfl
  simp only [Act.put, List.setIfInBounds_toArray, List.set_cons_zero, List.set_cons_succ, List.getElem_toArray, List.getElem_cons_zero, List.getElem_cons_succ]
  refine wpAnyH_done (by kernel_rfl) ?_ _
  go_wp2
  go_ret
  exact ⟨rfl, HA.out.trans (HB2.out.mono HA.out.size)⟩
end Go.Proofs.YtogmfdgpnkbpaaaGreatDoor
