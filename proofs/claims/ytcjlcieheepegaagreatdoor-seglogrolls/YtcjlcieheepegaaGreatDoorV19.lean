/- Package batch: Head, unpacked, Of, of the bytes of a batch by no codec. -/
/- The document's headed, May, fixed (postroadref10), of a batch that may be. -/
/- The document's Plain (postroadref10), of a batch that may be. -/
/- Layer 11: the document's Plain of a batch that may be: its bytes. -/
import Derived.Test.YtcjlcieheepegaaGreatDoorV18
import Derived.Test.YtcjlcieheepegaaGreatDoorV17
import Derived.Deep.RegionHeldLaw
namespace Go.Proofs.YtcjlcieheepegaaGreatDoor
open Go.RowKit
set_option linter.unusedVariables false
set_option maxRecDepth 20000

theorem bl_drew {B : Nat} {w w' : World} : Below B w w'.drew ↔ Below B w w' := ⟨fun h => ⟨h.os, h.tape, h.output, h.size, h.block⟩, fun h => ⟨h.os, h.tape, h.output, h.size, h.block⟩⟩
theorem bl_drewN {B k : Nat} {w w' : World} : Below B w (w'.drewN k) ↔ Below B w w' := ⟨fun h => ⟨h.os, h.tape, h.output, h.size, h.block⟩, fun h => ⟨h.os, h.tape, h.output, h.size, h.block⟩⟩
theorem bl_set {B i : Nat} {w w' : World} {u : Value} : Below B w (w'.setCell ⟨B, i, none⟩ u) ↔ Below B w w' :=
  ⟨fun h => ⟨h.os, h.tape, h.output, by have := h.size; simpa [World.setCell] using this, fun k hk => by rw [← h.block k hk]; exact (Below.heap_setCell _ _ _ _ (by show k ≠ B; omega)).symm⟩, fun h => h.trans (below_set _ _ (Nat.le_refl _))⟩
theorem own_slice {w : World} {B : Nat} {v : Value} {L : List Rec} (h : Own w B v L) : ∃ a cap, v = .slice a L.length cap ∧ RIn w a L := by
  have h' := h
  rcases h.2 with ⟨rfl, h0⟩ | ⟨g, cap, cur, rfl, hB, hh, r⟩
  · have : L = [] := List.length_eq_zero_iff.1 h0
    subst this
    exact ⟨none, 0, rfl, RIn.nil _ _⟩
  · exact ⟨_, cap, rfl, RIn.owned h' (lt_of_block hh)⟩
set_option maxRecDepth 20000 in
set_option maxHeartbeats 1000000 in
theorem head_ok (h : HN) (ok : h.OK) (p t : List UInt8) (w : World) (hT : TabF w) (hp : 29 + p.length ≤ 262144) (ht : t.length ≤ 140737488000000) :
    Calls Tryz.prog 68 #[.string (mk (batL h p ++ t))] w fun e w' => e = .returned (.tuple #[h.bv (.slice none 0 0), .int .i64 ((39 + p.length : Nat) : Int), .int .i64 0]) ∧ Below w.heap.size w w' := by
  have HA : Hid (Below w.heap.size w (w.alloc (.cells #[.int .i64 0, .int .i64 0, .int .i64 0, .int .i64 0, .int .i64 0, .slice none 0 0] 46))) := (Below.refl _ _).alloc (Nat.le_refl _) _
  have HR : Hid ((w.alloc (.cells #[.int .i64 0, .int .i64 0, .int .i64 0, .int .i64 0, .int .i64 0, .slice none 0 0] 46)).heap[w.heap.size]? = some (.cells #[.int .i64 0, .int .i64 0, .int .i64 0, .int .i64 0, .int .i64 0, .slice none 0 0] 46 (0, 0))) := heap_alloc_new _ _
  have HO : Hid (∀ W, TabF W → Calls Tryz.prog 49 #[.string (mk (batL h p ++ t))] W fun e w' => e = .returned (.tuple #[h.hv p.length, .string (mk p), .int .i64 0]) ∧ Below W.heap.size W w') := fun W hW => open_ok h ok p t W hW hp ht
  have HZ : Hid (∀ W, Calls Tryz.prog 52 #[.string (mk p)] W fun e w' => e = .returned (.int .i64 ((39 + p.length : Nat) : Int)) ∧ w' = W) := fun W => sizeOf_ok p W (by omega)
  have HT : Hid (TabF (w.alloc (.cells #[.int .i64 0, .int .i64 0, .int .i64 0, .int .i64 0, .int .i64 0, .slice none 0 0] 46))) := hT.new HA.out
  clear hT
  unfold HN.hv at HO
  unfold HN.bv
  generalize mk (batL h p ++ t) = s at HO ⊢
  generalize mk p = S at HO HZ
  generalize hN : 39 + p.length = N at HZ ⊢
  clear hN
  go_enter Tryz.func68, Tryz.ntmps68
  go_upto_region 1 with fail
  generalize hwA : w.alloc (.cells #[.int .i64 0, .int .i64 0, .int .i64 0, .int .i64 0, .int .i64 0, .slice none 0 0] 46) = wA at HA HR HT
  clear hwA
  go_wp2_with fail
  refine (HO.out _ HT.out).mono ?_
  rintro e w2 ⟨rfl, hb2⟩
  have hb2' : Below wA.heap.size wA (w2.alloc (.cells #[.int .i64 (h.base : Nat), .int .i64 (h.cnt : Nat), .int .i64 (h.view : Nat), .int .i64 (h.prod : Nat), .int .i64 (h.seq : Nat), .slice none 0 0, .int .i64 0, .int .i64 (h.nrec : Nat), .int .i64 (p.length : Nat)] 96)) := hb2.alloc hb2.size _
  have H2r : Hid ((w2.alloc (.cells #[.int .i64 (h.base : Nat), .int .i64 (h.cnt : Nat), .int .i64 (h.view : Nat), .int .i64 (h.prod : Nat), .int .i64 (h.seq : Nat), .slice none 0 0, .int .i64 0, .int .i64 (h.nrec : Nat), .int .i64 (p.length : Nat)] 96)).heap[w.heap.size]? = some (.cells #[.int .i64 0, .int .i64 0, .int .i64 0, .int .i64 0, .int .i64 0, .slice none 0 0] 46 (0, 0))) := (hb2'.block _ (lt_of_block HR.out)).trans HR.out
  have H2w : Hid (Below w.heap.size w (w2.alloc (.cells #[.int .i64 (h.base : Nat), .int .i64 (h.cnt : Nat), .int .i64 (h.view : Nat), .int .i64 (h.prod : Nat), .int .i64 (h.seq : Nat), .slice none 0 0, .int .i64 0, .int .i64 (h.nrec : Nat), .int .i64 (p.length : Nat)] 96))) := HA.out.trans (hb2'.mono HA.out.size)
  have H2b : Hid ((w2.alloc (.cells #[.int .i64 (h.base : Nat), .int .i64 (h.cnt : Nat), .int .i64 (h.view : Nat), .int .i64 (h.prod : Nat), .int .i64 (h.seq : Nat), .slice none 0 0, .int .i64 0, .int .i64 (h.nrec : Nat), .int .i64 (p.length : Nat)] 96)).heap[w2.heap.size]? = some (.cells #[.int .i64 (h.base : Nat), .int .i64 (h.cnt : Nat), .int .i64 (h.view : Nat), .int .i64 (h.prod : Nat), .int .i64 (h.seq : Nat), .slice none 0 0, .int .i64 0, .int .i64 (h.nrec : Nat), .int .i64 (p.length : Nat)] 96 (0, 0))) := heap_alloc_new _ _
  obtain ⟨b9, hb9⟩ : ∃ b, w2.heap.size = b := ⟨_, rfl⟩
  rw [hb9] at H2b
  clear hb2 hb2'
  go_upto_region 4 with fail
  generalize hwB : w2.alloc (.cells #[.int .i64 (h.base : Nat), .int .i64 (h.cnt : Nat), .int .i64 (h.view : Nat), .int .i64 (h.prod : Nat), .int .i64 (h.seq : Nat), .slice none 0 0, .int .i64 0, .int .i64 (h.nrec : Nat), .int .i64 (p.length : Nat)] 96) = wB at H2r H2w H2b
  clear hwB
  obtain ⟨d0, d1, d2, d3, d4, d5, d6, d7, d8⟩ := cells9 H2b.out
  obtain ⟨r0, r1, r2, r3, r4, r5⟩ := cells6 H2r.out
  have hfr := frozen0 H2r.out
  go_region_with (go_at_call 52; refine (HZ.out _).mono ?_; rintro e W ⟨rfl, hW⟩; obtain rfl := hW.symm; clear hW)
  all_goals (
    go_wp2
    refine bodyPost_ret (v := ?v) ?c1 rfl ?c2
    case c1 =>
      rw [results_cell_tmp2 rfl]
      go_simp
      all_goals exact rfl
    case c2 =>
      refine ⟨rfl, ?_⟩
      simp only [bl_drew, bl_set]
      exact H2w.out)
end Go.Proofs.YtcjlcieheepegaaGreatDoor
namespace Go.Proofs.YtcjlcieheepegaaGreatDoor
open Go.RowKit
set_option linter.unusedVariables false
set_option maxRecDepth 20000

set_option maxHeartbeats 1000000 in
theorem headed_yes (h : HN) (ok : h.OK) (ao : Option Addr) (ln cp : Nat) (w : World) :
    Calls Tryz.prog 44 #[h.bv (.slice ao ln cp)] w fun e w' => e = .returned (.bool true) ∧ Below w.heap.size w w' := by
  obtain ⟨base, cnt, view, prod, seq, nrec⟩ := h
  obtain ⟨o1, o2, o3, o4, o5, o6, o7⟩ := ok
  simp only at o1 o2 o3 o4 o5 o6 o7
  unfold HN.bv
  have HB : Hid (Below w.heap.size w (w.alloc (.cells #[.int .i64 (base : Nat), .int .i64 (cnt : Nat), .int .i64 (view : Nat), .int .i64 (prod : Nat), .int .i64 (seq : Nat), .slice ao ln cp] 46))) := (Below.refl _ _).alloc (Nat.le_refl _) _
  go_enter Tryz.func44, Tryz.ntmps44
  go_wp2
  go_ret
  exact ⟨congrArg (fun b => Ending.returned (.bool b)) (decide_eq_true (by omega)), HB.out⟩
theorem rfixed_ok (n k : Nat) (w : World) (h1 : 1 ≤ k) (h2 : k ≤ 8) (hn : n ≤ 9223372036854775807) (h : n < 2 ^ (8 * k)) :
    Calls Tryz.prog 28 #[.int .i64 (n : Nat), .int .i64 (k : Nat)] w fun e w' => e = .returned (.string (mk (fxL n k))) ∧ Below w.heap.size w w' := by
  have HP : Hid (∀ W, Calls Tryz.prog 47 #[.int .i64 (n : Nat), .int .i64 (k : Nat)] W fun e w' => e = .returned (.tuple #[.string (mk (fxL n k)), .int .i64 0]) ∧ Below W.heap.size W w') := fun W => by
    have hd : (n : Int) / 2 ^ (8 * k) ≤ 0 := by
      have e : (n : Int) / 2 ^ (8 * k) = ((n / 2 ^ (8 * k) : Nat) : Int) := by simp
      rw [e, Nat.div_eq_of_lt h]; exact Int.le_refl _
    exact refPutFixed n k W h1 h2 hn hd
  clear h h1 h2 hn
  generalize mk (fxL n k) = z at HP ⊢
  go_enter Tryz.func28, Tryz.ntmps28
  go_wp2_with fail
  refine (HP.out _).mono ?_
  rintro e w1 ⟨rfl, hb⟩
  have HB : Hid (Below w.heap.size w w1) := hb
  clear hb
  go_wp2
  go_ret
  exact ⟨rfl, HB.out⟩
/-- A batch whose records lie in memory, one or more. -/
structure BIn (w : World) (h : HN) (sb so : Nat) (L : List Rec) : Prop where
  inn : RIn w (some ⟨sb, so, none⟩) L
  sz : Sized L
  one : 1 ≤ L.length
  most : L.length ≤ 256
  may : (offB h.base && comes L h.base) = true
  last : ∀ r, L[L.length - 1]? = some r → r.off < (h.base : Int) + (h.cnt : Int)
set_option maxRecDepth 20000 in
set_option maxHeartbeats 2000000 in
theorem may10_yes (h : HN) (ok : h.OK) (sb so cap : Nat) (L : List Rec) (w : World) (hB : BIn w h sb so L) :
    Calls Tryz.prog 26 #[h.bv (.slice (some ⟨sb, so, none⟩) L.length cap)] w fun e w' => e = .returned (.bool true) ∧ Below w.heap.size w w' := by
  obtain ⟨hin, hsz, h1, h256, hm, hla⟩ := hB
  have hlt : L.length - 1 < L.length := by omega
  have hge : L[L.length - 1]? = some L[L.length - 1] := List.getElem?_eq_getElem hlt
  obtain ⟨b', o', ea, hsb, q0, -, -, -⟩ := hin _ _ hge
  cases ea
  have hlo := hla _ hge
  have HH : Hid (∀ W, Calls Tryz.prog 44 #[h.bv (.slice (some ⟨sb, so, none⟩) L.length cap)] W fun e w' => e = .returned (.bool true) ∧ Below W.heap.size W w') := fun W => headed_yes h ok _ _ _ W
  have HI : Hid (RIn w (some ⟨sb, so, none⟩) L) := hin
  have HRi : Hid (∀ W, RIn W (some ⟨sb, so, none⟩) L → Calls Tryz.prog 45 #[.slice (some ⟨sb, so, none⟩) L.length cap, .int .i64 (h.base : Nat)] W fun e w' => e = .returned (.bool true) ∧ Below W.heap.size W w') := fun W hW => by
    have := rise_ok (some ⟨sb, so, none⟩) cap L h.base W hW hsz (by omega)
    rw [hm] at this
    exact this
  obtain ⟨lo, hloe⟩ : ∃ lo, L[L.length - 1].off = lo := ⟨_, rfl⟩
  rw [hloe] at q0 hlo
  obtain ⟨n, hn⟩ : ∃ n, L.length = n := ⟨_, rfl⟩
  rw [hn] at HH HRi h1 h256 q0 ⊢
  clear hm hla hge hlt hsz hin hloe
  have ob := ok.base
  have oc := ok.cnt
  clear ok
  unfold HN.bv at HH ⊢
  have hx : ((n : Int) - 1) = ((n - 1 : Nat) : Int) := by omega
  have hn1 : n - 1 < n := by omega
  have HA : Hid (Below w.heap.size w (w.alloc (.cells #[.int .i64 (h.base : Nat), .int .i64 (h.cnt : Nat), .int .i64 (h.view : Nat), .int .i64 (h.prod : Nat), .int .i64 (h.seq : Nat), .slice (some ⟨sb, so, none⟩) n cap] 46))) := (Below.refl _ _).alloc (Nat.le_refl _) _
  have HC : Hid ((w.alloc (.cells #[.int .i64 (h.base : Nat), .int .i64 (h.cnt : Nat), .int .i64 (h.view : Nat), .int .i64 (h.prod : Nat), .int .i64 (h.seq : Nat), .slice (some ⟨sb, so, none⟩) n cap] 46)).heap[w.heap.size]? = some (.cells #[.int .i64 (h.base : Nat), .int .i64 (h.cnt : Nat), .int .i64 (h.view : Nat), .int .i64 (h.prod : Nat), .int .i64 (h.seq : Nat), .slice (some ⟨sb, so, none⟩) n cap] 46 (0, 0))) := heap_alloc_new _ _
  have HQ : Hid ((w.alloc (.cells #[.int .i64 (h.base : Nat), .int .i64 (h.cnt : Nat), .int .i64 (h.view : Nat), .int .i64 (h.prod : Nat), .int .i64 (h.seq : Nat), .slice (some ⟨sb, so, none⟩) n cap] 46)).cell? ⟨sb, so + (n - 1) * 4, none⟩ = some (.int .i64 lo)) := by rw [Hid, cell_below HA.out hsb]; exact q0
  have HI2 : Hid (RIn (w.alloc (.cells #[.int .i64 (h.base : Nat), .int .i64 (h.cnt : Nat), .int .i64 (h.view : Nat), .int .i64 (h.prod : Nat), .int .i64 (h.seq : Nat), .slice (some ⟨sb, so, none⟩) n cap] 46)) (some ⟨sb, so, none⟩) L) := HI.out.below HA.out (Nat.le_refl _)
  clear q0 HI
  go_enter Tryz.func26, Tryz.ntmps26
  go_upto_region 1 with fail
  generalize hwA : w.alloc (.cells #[.int .i64 (h.base : Nat), .int .i64 (h.cnt : Nat), .int .i64 (h.view : Nat), .int .i64 (h.prod : Nat), .int .i64 (h.seq : Nat), .slice (some ⟨sb, so, none⟩) n cap] 46) = wA at HA HC HQ HI2
  clear hwA
  obtain ⟨c0, c1, c2, c3, c4, c5⟩ := cells6 HC.out
  have hlt := lt_of_block HC.out
  have hsbA : sb < wA.heap.size := Nat.lt_of_lt_of_le hsb HA.out.size
  obtain ⟨B, hBe⟩ : ∃ B, w.heap.size = B := ⟨_, rfl⟩
  rw [hBe] at c0 c1 c2 c3 c4 c5 hlt ⊢
  have q0 := HQ.out
  go_upto_region 2 with fail
  refine wp_region_held_drew (S := fun w' => w'.cell? ⟨B, 0, none⟩ = some (.int .i64 (h.base : Nat)) ∧ w'.cell? ⟨B, 1, none⟩ = some (.int .i64 (h.cnt : Nat)) ∧ w'.cell? ⟨B, 2, none⟩ = some (.int .i64 (h.view : Nat)) ∧ w'.cell? ⟨B, 3, none⟩ = some (.int .i64 (h.prod : Nat)) ∧ w'.cell? ⟨B, 4, none⟩ = some (.int .i64 (h.seq : Nat)) ∧ w'.cell? ⟨B, 5, none⟩ = some (.slice (some ⟨sb, so, none⟩) n cap) ∧ w'.cell? ⟨sb, so + (n - 1) * 4, none⟩ = some (.int .i64 lo)) (by kernel_rfl) ⟨c0, c1, c2, c3, c4, c5, q0⟩ (fun hHeld => ?_)
  refine wpAnyH_take (i := 0) (v := ?v0) rfl (by kernel_rfl) (by kernel_rfl) (by kernel_rfl) (fun _ _ _ h => h) (Or.inl ⟨by rfl, fun w hSw => ?hy0⟩) hHeld ?rest0
  case hy0 =>
    try dsimp only at hSw
    go_simp
    try with_reducible rfl
  simp only [Act.put, List.setIfInBounds_toArray, List.set_cons_zero, List.set_cons_succ, List.getElem_toArray, List.getElem_cons_zero]
  refine wpAnyH_ready (rs := [1]) (by kernel_rfl) (by simp) ?_
  refine AllReadyH.cons rfl (fun K hK => ?_) AllReadyH.nil
  go_simp
  refine (HH.out _).mono ?_
  rintro e w1 ⟨rfl, hb1'⟩
  have HB1 : Hid (Below wA.heap.size wA w1) := ⟨hb1'.os, hb1'.tape, hb1'.output, hb1'.size, hb1'.block⟩
  clear hHeld hb1'
  go_simp
  refine hK.out _ _ ⟨by rw [cell_below HB1.out hlt]; exact c0, by rw [cell_below HB1.out hlt]; exact c1, by rw [cell_below HB1.out hlt]; exact c2, by rw [cell_below HB1.out hlt]; exact c3, by rw [cell_below HB1.out hlt]; exact c4, by rw [cell_below HB1.out hlt]; exact c5, by rw [cell_below HB1.out hsbA]; exact q0⟩ (fun hHeld => ?_)
  clear hK
  refine wpAnyH_take (i := 2) (v := ?v2) rfl (by kernel_rfl) (by kernel_rfl) (by kernel_rfl) (fun _ _ _ h => h) (Or.inl ⟨by rfl, fun w hSw => ?hy2⟩) hHeld ?rest2
  case hy2 =>
    try dsimp only at hSw
    go_simp
    try with_reducible rfl
  simp only [Act.put, List.setIfInBounds_toArray, List.set_cons_zero, List.set_cons_succ, List.getElem_toArray, List.getElem_cons_zero, List.getElem_cons_succ]
  refine wpAnyH_take (i := 3) (v := ?v3) rfl (by kernel_rfl) (by kernel_rfl) (by kernel_rfl) (fun _ _ _ h => h) (Or.inl ⟨by rfl, fun w hSw => ?hy3⟩) hHeld ?rest3
  case hy3 =>
    try dsimp only at hSw
    go_simp
    try with_reducible rfl
  simp only [Act.put, List.setIfInBounds_toArray, List.set_cons_zero, List.set_cons_succ, List.getElem_toArray, List.getElem_cons_zero, List.getElem_cons_succ]
  refine wpAnyH_take (i := 4) (v := .bool true) rfl (by kernel_rfl) (by kernel_rfl) (by kernel_rfl) (fun _ _ _ h => h) (Or.inl ⟨by rfl, fun w hSw => ?hy4⟩) hHeld ?rest4
  case hy4 =>
    try dsimp only at hSw
    go_simp
    all_goals first | with_reducible rfl | omega
  simp only [Act.put, List.setIfInBounds_toArray, List.set_cons_zero, List.set_cons_succ, List.getElem_toArray, List.getElem_cons_zero, List.getElem_cons_succ]
  refine wpAnyH_take (i := 5) (v := ?v5) rfl (by kernel_rfl) (by kernel_rfl) (by kernel_rfl) (fun _ _ _ h => h) (Or.inl ⟨by rfl, fun w hSw => ?hy5⟩) hHeld ?rest5
  case hy5 =>
    try dsimp only at hSw
    go_simp
    try with_reducible rfl
  simp only [Act.put, List.setIfInBounds_toArray, List.set_cons_zero, List.set_cons_succ, List.getElem_toArray, List.getElem_cons_zero, List.getElem_cons_succ]
  refine wpAnyH_take (i := 6) (v := ?v6) rfl (by kernel_rfl) (by kernel_rfl) (by kernel_rfl) (fun _ _ _ h => h) (Or.inl ⟨by rfl, fun w hSw => ?hy6⟩) hHeld ?rest6
  case hy6 =>
    try dsimp only at hSw
    go_simp
    try with_reducible rfl
  simp only [Act.put, List.setIfInBounds_toArray, List.set_cons_zero, List.set_cons_succ, List.getElem_toArray, List.getElem_cons_zero, List.getElem_cons_succ]
  refine wpAnyH_take (i := 7) (v := ?v7) rfl (by kernel_rfl) (by kernel_rfl) (by kernel_rfl) (fun _ _ _ h => h) (Or.inl ⟨by rfl, fun w hSw => ?hy7⟩) hHeld ?rest7
  case hy7 =>
    try dsimp only at hSw
    go_simp
    try with_reducible rfl
  simp only [Act.put, List.setIfInBounds_toArray, List.set_cons_zero, List.set_cons_succ, List.getElem_toArray, List.getElem_cons_zero, List.getElem_cons_succ]
  refine wpAnyH_take (i := 8) (v := ?v8) rfl (by kernel_rfl) (by kernel_rfl) (by kernel_rfl) (fun _ _ _ h => h) (Or.inl ⟨by rfl, fun w hSw => ?hy8⟩) hHeld ?rest8
  case hy8 =>
    try dsimp only at hSw
    go_simp
    try with_reducible rfl
  simp only [Act.put, List.setIfInBounds_toArray, List.set_cons_zero, List.set_cons_succ, List.getElem_toArray, List.getElem_cons_zero, List.getElem_cons_succ]
  refine wpAnyH_take (i := 9) (v := ?v9) rfl (by kernel_rfl) (by kernel_rfl) (by kernel_rfl) (fun _ _ _ h => h) (Or.inl ⟨by rfl, fun w hSw => ?hy9⟩) hHeld ?rest9
  case hy9 =>
    try dsimp only at hSw
    go_simp
    try with_reducible rfl
  simp only [Act.put, List.setIfInBounds_toArray, List.set_cons_zero, List.set_cons_succ, List.getElem_toArray, List.getElem_cons_zero, List.getElem_cons_succ]
  refine wpAnyH_take (i := 10) (v := ?v10) rfl (by kernel_rfl) (by kernel_rfl) (by kernel_rfl) (fun _ _ _ h => h) (Or.inl ⟨by rfl, fun w hSw => ?hy10⟩) hHeld ?rest10
  case hy10 =>
    try dsimp only at hSw
    go_simp
    try with_reducible rfl
  simp only [Act.put, List.setIfInBounds_toArray, List.set_cons_zero, List.set_cons_succ, List.getElem_toArray, List.getElem_cons_zero, List.getElem_cons_succ]
  refine wpAnyH_ready (rs := [11]) (by kernel_rfl) (by simp) ?_
  refine AllReadyH.cons rfl (fun K hK => ?_) AllReadyH.nil
  go_simp
  refine (HRi.out _ (HI2.out.below HB1.out (Nat.le_refl _))).mono ?_
  rintro e w2 ⟨rfl, hb1'⟩
  have HB2 : Hid (Below wA.heap.size wA w2) := HB1.out.trans (Below.mono ⟨hb1'.os, hb1'.tape, hb1'.output, hb1'.size, hb1'.block⟩ HB1.out.size)
  clear hHeld hb1'
  go_simp
  refine hK.out _ _ ⟨by rw [cell_below HB2.out hlt]; exact c0, by rw [cell_below HB2.out hlt]; exact c1, by rw [cell_below HB2.out hlt]; exact c2, by rw [cell_below HB2.out hlt]; exact c3, by rw [cell_below HB2.out hlt]; exact c4, by rw [cell_below HB2.out hlt]; exact c5, by rw [cell_below HB2.out hsbA]; exact q0⟩ (fun hHeld => ?_)
  clear hK
  refine wpAnyH_take (i := 12) (v := ?v12) rfl (by kernel_rfl) (by kernel_rfl) (by kernel_rfl) (fun _ _ _ h => h) (Or.inl ⟨by rfl, fun w hSw => ?hy12⟩) hHeld ?rest12
  case hy12 =>
    try dsimp only at hSw
    go_simp
    try with_reducible rfl
  simp only [Act.put, List.setIfInBounds_toArray, List.set_cons_zero, List.set_cons_succ, List.getElem_toArray, List.getElem_cons_zero, List.getElem_cons_succ]
  refine wpAnyH_take (i := 13) (v := ?v13) rfl (by kernel_rfl) (by kernel_rfl) (by kernel_rfl) (fun _ _ _ h => h) (Or.inl ⟨by rfl, fun w hSw => ?hy13⟩) hHeld ?rest13
  case hy13 =>
    try dsimp only at hSw
    go_simp
    try with_reducible rfl
  simp only [Act.put, List.setIfInBounds_toArray, List.set_cons_zero, List.set_cons_succ, List.getElem_toArray, List.getElem_cons_zero, List.getElem_cons_succ]
  refine wpAnyH_take (i := 14) (v := ?v14) rfl (by kernel_rfl) (by kernel_rfl) (by kernel_rfl) (fun _ _ _ h => h) (Or.inl ⟨by rfl, fun w hSw => ?hy14⟩) hHeld ?rest14
  case hy14 =>
    try dsimp only at hSw
    go_simp
    try with_reducible rfl
  simp only [Act.put, List.setIfInBounds_toArray, List.set_cons_zero, List.set_cons_succ, List.getElem_toArray, List.getElem_cons_zero, List.getElem_cons_succ]
  refine wpAnyH_take (i := 15) (v := .bool false) rfl (by kernel_rfl) (by kernel_rfl) (by kernel_rfl) (fun _ _ _ h => h) (Or.inl ⟨by rfl, fun w hSw => ?hy15⟩) hHeld ?rest15
  case hy15 =>
    try dsimp only at hSw
    go_simp
    all_goals first | with_reducible rfl | omega
  simp only [Act.put, List.setIfInBounds_toArray, List.set_cons_zero, List.set_cons_succ, List.getElem_toArray, List.getElem_cons_zero, List.getElem_cons_succ]
  refine wpAnyH_take (i := 16) (v := ?v16) rfl (by kernel_rfl) (by kernel_rfl) (by kernel_rfl) (fun _ _ _ h => h) (Or.inl ⟨by rfl, fun w hSw => ?hy16⟩) hHeld ?rest16
  case hy16 =>
    try dsimp only at hSw
    go_simp
    try with_reducible rfl
  simp only [Act.put, List.setIfInBounds_toArray, List.set_cons_zero, List.set_cons_succ, List.getElem_toArray, List.getElem_cons_zero, List.getElem_cons_succ]
  refine wpAnyH_take (i := 17) (v := ?v17) rfl (by kernel_rfl) (by kernel_rfl) (by kernel_rfl) (fun _ _ _ h => h) (Or.inl ⟨by rfl, fun w hSw => ?hy17⟩) hHeld ?rest17
  case hy17 =>
    try dsimp only at hSw
    go_simp
    try with_reducible rfl
  simp only [Act.put, List.setIfInBounds_toArray, List.set_cons_zero, List.set_cons_succ, List.getElem_toArray, List.getElem_cons_zero, List.getElem_cons_succ]
  refine wpAnyH_take (i := 18) (v := ?v18) rfl (by kernel_rfl) (by kernel_rfl) (by kernel_rfl) (fun _ _ _ h => h) (Or.inl ⟨by rfl, fun w hSw => ?hy18⟩) hHeld ?rest18
  case hy18 =>
    try dsimp only at hSw
    go_simp
    try with_reducible rfl
  simp only [Act.put, List.setIfInBounds_toArray, List.set_cons_zero, List.set_cons_succ, List.getElem_toArray, List.getElem_cons_zero, List.getElem_cons_succ]
  refine wpAnyH_take (i := 19) (v := ?v19) rfl (by kernel_rfl) (by kernel_rfl) (by kernel_rfl) (fun _ _ _ h => h) (Or.inl ⟨by rfl, fun w hSw => ?hy19⟩) hHeld ?rest19
  case hy19 =>
    try dsimp only at hSw
    go_simp
    try with_reducible rfl
  simp only [Act.put, List.setIfInBounds_toArray, List.set_cons_zero, List.set_cons_succ, List.getElem_toArray, List.getElem_cons_zero, List.getElem_cons_succ]
  refine wpAnyH_take (i := 20) (v := .int .i64 ((n - 1 : Nat) : Int)) rfl (by kernel_rfl) (by kernel_rfl) (by kernel_rfl) (fun _ _ _ h => h) (Or.inl ⟨by rfl, fun w hSw => ?hy20⟩) hHeld ?rest20
  case hy20 =>
    try dsimp only at hSw
    go_simp
    rw [IntKind.wrap_i64]; omega
  simp only [Act.put, List.setIfInBounds_toArray, List.set_cons_zero, List.set_cons_succ, List.getElem_toArray, List.getElem_cons_zero, List.getElem_cons_succ]
  refine wpAnyH_take (i := 21) (v := .pointer (some ⟨sb, so + (n - 1) * 4, none⟩)) rfl (by kernel_rfl) (by kernel_rfl) (by kernel_rfl) (fun _ _ _ h => h) (Or.inl ⟨by rfl, fun w hSw => ?hy21⟩) hHeld ?rest21
  case hy21 =>
    try dsimp only at hSw
    go_simp
    all_goals first | with_reducible rfl | omega
  simp only [Act.put, List.setIfInBounds_toArray, List.set_cons_zero, List.set_cons_succ, List.getElem_toArray, List.getElem_cons_zero, List.getElem_cons_succ]
  refine wpAnyH_take (i := 22) (v := ?v22) rfl (by kernel_rfl) (by kernel_rfl) (by kernel_rfl) (fun _ _ _ h => h) (Or.inl ⟨by rfl, fun w hSw => ?hy22⟩) hHeld ?rest22
  case hy22 =>
    try dsimp only at hSw
    go_simp
    try with_reducible rfl
  simp only [Act.put, List.setIfInBounds_toArray, List.set_cons_zero, List.set_cons_succ, List.getElem_toArray, List.getElem_cons_zero, List.getElem_cons_succ]
  refine wpAnyH_take (i := 23) (v := ?v23) rfl (by kernel_rfl) (by kernel_rfl) (by kernel_rfl) (fun _ _ _ h => h) (Or.inl ⟨by rfl, fun w hSw => ?hy23⟩) hHeld ?rest23
  case hy23 =>
    try dsimp only at hSw
    go_simp
    try with_reducible rfl
  simp only [Act.put, List.setIfInBounds_toArray, List.set_cons_zero, List.set_cons_succ, List.getElem_toArray, List.getElem_cons_zero, List.getElem_cons_succ]
  refine wpAnyH_take (i := 24) (v := ?v24) rfl (by kernel_rfl) (by kernel_rfl) (by kernel_rfl) (fun _ _ _ h => h) (Or.inl ⟨by rfl, fun w hSw => ?hy24⟩) hHeld ?rest24
  case hy24 =>
    try dsimp only at hSw
    go_simp
    try with_reducible rfl
  simp only [Act.put, List.setIfInBounds_toArray, List.set_cons_zero, List.set_cons_succ, List.getElem_toArray, List.getElem_cons_zero, List.getElem_cons_succ]
  refine wpAnyH_take (i := 25) (v := ?v25) rfl (by kernel_rfl) (by kernel_rfl) (by kernel_rfl) (fun _ _ _ h => h) (Or.inl ⟨by rfl, fun w hSw => ?hy25⟩) hHeld ?rest25
  case hy25 =>
    try dsimp only at hSw
    go_simp
    try with_reducible rfl
  simp only [Act.put, List.setIfInBounds_toArray, List.set_cons_zero, List.set_cons_succ, List.getElem_toArray, List.getElem_cons_zero, List.getElem_cons_succ]
  refine wpAnyH_take (i := 26) (v := ?v26) rfl (by kernel_rfl) (by kernel_rfl) (by kernel_rfl) (fun _ _ _ h => h) (Or.inl ⟨by rfl, fun w hSw => ?hy26⟩) hHeld ?rest26
  case hy26 =>
    try dsimp only at hSw
    go_simp
    try with_reducible rfl
  simp only [Act.put, List.setIfInBounds_toArray, List.set_cons_zero, List.set_cons_succ, List.getElem_toArray, List.getElem_cons_zero, List.getElem_cons_succ]
  refine wpAnyH_take (i := 27) (v := ?v27) rfl (by kernel_rfl) (by kernel_rfl) (by kernel_rfl) (fun _ _ _ h => h) (Or.inl ⟨by rfl, fun w hSw => ?hy27⟩) hHeld ?rest27
  case hy27 =>
    try dsimp only at hSw
    go_simp
    try with_reducible rfl
  simp only [Act.put, List.setIfInBounds_toArray, List.set_cons_zero, List.set_cons_succ, List.getElem_toArray, List.getElem_cons_zero, List.getElem_cons_succ]
  refine wpAnyH_take (i := 28) (v := .int .i64 ((h.base : Int) + (h.cnt : Int))) rfl (by kernel_rfl) (by kernel_rfl) (by kernel_rfl) (fun _ _ _ h => h) (Or.inl ⟨by rfl, fun w hSw => ?hy28⟩) hHeld ?rest28
  case hy28 =>
    try dsimp only at hSw
    go_simp
    rw [IntKind.wrap_i64]; omega
  simp only [Act.put, List.setIfInBounds_toArray, List.set_cons_zero, List.set_cons_succ, List.getElem_toArray, List.getElem_cons_zero, List.getElem_cons_succ]
  refine wpAnyH_take (i := 29) (v := .bool true) rfl (by kernel_rfl) (by kernel_rfl) (by kernel_rfl) (fun _ _ _ h => h) (Or.inl ⟨by rfl, fun w hSw => ?hy29⟩) hHeld ?rest29
  case hy29 =>
    try dsimp only at hSw
    go_simp
    all_goals first | with_reducible rfl | omega
  simp only [Act.put, List.setIfInBounds_toArray, List.set_cons_zero, List.set_cons_succ, List.getElem_toArray, List.getElem_cons_zero, List.getElem_cons_succ]
  refine wpAnyH_take (i := 30) (v := ?v30) rfl (by kernel_rfl) (by kernel_rfl) (by kernel_rfl) (fun _ _ _ h => h) (Or.inl ⟨by rfl, fun w hSw => ?hy30⟩) hHeld ?rest30
  case hy30 =>
    try dsimp only at hSw
    go_simp
    try with_reducible rfl
  simp only [Act.put, List.setIfInBounds_toArray, List.set_cons_zero, List.set_cons_succ, List.getElem_toArray, List.getElem_cons_zero, List.getElem_cons_succ]
  refine wpAnyH_take (i := 31) (v := ?v31) rfl (by kernel_rfl) (by kernel_rfl) (by kernel_rfl) (fun _ _ _ h => h) (Or.inl ⟨by rfl, fun w hSw => ?hy31⟩) hHeld ?rest31
  case hy31 =>
    try dsimp only at hSw
    go_simp
    try with_reducible rfl
  simp only [Act.put, List.setIfInBounds_toArray, List.set_cons_zero, List.set_cons_succ, List.getElem_toArray, List.getElem_cons_zero, List.getElem_cons_succ]
  refine wpAnyH_take (i := 32) (v := ?v32) rfl (by kernel_rfl) (by kernel_rfl) (by kernel_rfl) (fun _ _ _ h => h) (Or.inl ⟨by rfl, fun w hSw => ?hy32⟩) hHeld ?rest32
  case hy32 =>
    try dsimp only at hSw
    go_simp
    try with_reducible rfl
  simp only [Act.put, List.setIfInBounds_toArray, List.set_cons_zero, List.set_cons_succ, List.getElem_toArray, List.getElem_cons_zero, List.getElem_cons_succ]
  refine wpAnyH_done (by kernel_rfl) ?_ _
  go_wp2
  go_ret
  exact ⟨rfl, HA.out.trans (HB2.out.mono HA.out.size)⟩
end Go.Proofs.YtcjlcieheepegaaGreatDoor
namespace Go.Proofs.YtcjlcieheepegaaGreatDoor
open Go.RowKit
set_option linter.unusedVariables false
set_option maxRecDepth 20000

set_option maxRecDepth 20000 in
set_option maxHeartbeats 16000000 in
theorem plain_gen (h : HN) (sb so cap : Nat) (p S z1 z2 z3 z4 z5 z6 z7 z8 z9 z10 R : ByteArray) (c : Nat) (w : World) (hps : p.size ≤ 262115) (s1 : z1.size = 8) (s2 : z2.size = 2) (s3 : z3.size = 4) (s4 : z4.size = 4) (s5 : z5.size = 4) (s6 : z6.size = 1) (s7 : z7.size = 2) (s8 : z8.size = 4)  (s9 : z9.size = 4) (s10 : z10.size = 4)
    (HM : ∀ W, Below w.heap.size w W → Calls Tryz.prog 26 #[.agg #[.int .i64 (h.base : Nat), .int .i64 (h.cnt : Nat), .int .i64 (h.view : Nat), .int .i64 (h.prod : Nat), .int .i64 (h.seq : Nat), .slice (some ⟨sb, so, none⟩) h.nrec cap]] W fun e w' => e = .returned (.bool true) ∧ Below W.heap.size W w')
    (HBy : ∀ W, Below w.heap.size w W → Calls Tryz.prog 27 #[.slice (some ⟨sb, so, none⟩) h.nrec cap, .int .i64 (h.base : Nat)] W fun e w' => e = .returned (.tuple #[.string p, .int .i64 0]) ∧ Below W.heap.size W w')
    (G1 : ∀ W, Calls Tryz.prog 28 #[.int .i64 (h.base : Nat), .int .i64 8] W fun e w' => e = .returned (.string z1) ∧ Below W.heap.size W w')
    (G2 : ∀ W, Calls Tryz.prog 28 #[.int .i64 (h.cnt : Nat), .int .i64 2] W fun e w' => e = .returned (.string z2) ∧ Below W.heap.size W w')
    (G3 : ∀ W, Calls Tryz.prog 28 #[.int .i64 (h.view : Nat), .int .i64 4] W fun e w' => e = .returned (.string z3) ∧ Below W.heap.size W w')
    (G4 : ∀ W, Calls Tryz.prog 28 #[.int .i64 (h.prod : Nat), .int .i64 4] W fun e w' => e = .returned (.string z4) ∧ Below W.heap.size W w')
    (G5 : ∀ W, Calls Tryz.prog 28 #[.int .i64 (h.seq : Nat), .int .i64 4] W fun e w' => e = .returned (.string z5) ∧ Below W.heap.size W w')
    (G6 : ∀ W, Calls Tryz.prog 28 #[.int .i64 0, .int .i64 1] W fun e w' => e = .returned (.string z6) ∧ Below W.heap.size W w')
    (G7 : ∀ W, Calls Tryz.prog 28 #[.int .i64 (h.nrec : Nat), .int .i64 2] W fun e w' => e = .returned (.string z7) ∧ Below W.heap.size W w')
    (G8 : ∀ W, Calls Tryz.prog 28 #[.int .i64 (p.size : Nat), .int .i64 4] W fun e w' => e = .returned (.string z8) ∧ Below W.heap.size W w')
    (hS : z1 ++ z2 ++ z3 ++ z4 ++ z5 ++ z6 ++ z7 ++ z8 ++ p = S)
    (G9 : ∀ W, Calls Tryz.prog 28 #[.int .i64 (S.size : Nat), .int .i64 4] W fun e w' => e = .returned (.string z9) ∧ Below W.heap.size W w')
    (HC : ∀ W, Calls Tryz.prog 29 #[.string S] W fun e w' => e = .returned (.int .i64 (c : Nat)) ∧ w' = W)
    (G10 : ∀ W, Calls Tryz.prog 28 #[.int .i64 (c : Nat), .int .i64 4] W fun e w' => e = .returned (.string z10) ∧ Below W.heap.size W w')
    (hR : (⟨#[80, 66]⟩ : ByteArray) ++ z9 ++ z10 ++ S = R) :
    Calls Tryz.prog 13 #[.agg #[.int .i64 (h.base : Nat), .int .i64 (h.cnt : Nat), .int .i64 (h.view : Nat), .int .i64 (h.prod : Nat), .int .i64 (h.seq : Nat), .slice (some ⟨sb, so, none⟩) h.nrec cap]] w fun e w' => e = .returned (.tuple #[.string R, .int .i64 0]) ∧ Below w.heap.size w w' := by
  have HM' : Hid _ := HM
  have HBy' : Hid _ := HBy
  have K1 : Hid _ := G1
  have K2 : Hid _ := G2
  have K3 : Hid _ := G3
  have K4 : Hid _ := G4
  have K5 : Hid _ := G5
  have K6 : Hid _ := G6
  have K7 : Hid _ := G7
  have K8 : Hid _ := G8
  have K9 : Hid _ := G9
  have K10 : Hid _ := G10
  have HC' : Hid _ := HC
  have HS : Hid _ := hS
  have HR : Hid _ := hR
  clear HM HBy G1 G2 G3 G4 G5 G6 G7 G8 G9 G10 HC hS hR
  have hp1 : ¬ (1048576 : Int) < (p.size : Int) := by omega
  have hp2 : ¬ (262144 : Int) < 29 + (p.size : Int) := by omega
  have HA : Hid (Below w.heap.size w (w.alloc (.cells #[.int .i64 (h.base : Nat), .int .i64 (h.cnt : Nat), .int .i64 (h.view : Nat), .int .i64 (h.prod : Nat), .int .i64 (h.seq : Nat), .slice (some ⟨sb, so, none⟩) h.nrec cap] 46))) := (Below.refl _ _).alloc (Nat.le_refl _) _
  have HCe : Hid ((w.alloc (.cells #[.int .i64 (h.base : Nat), .int .i64 (h.cnt : Nat), .int .i64 (h.view : Nat), .int .i64 (h.prod : Nat), .int .i64 (h.seq : Nat), .slice (some ⟨sb, so, none⟩) h.nrec cap] 46)).heap[w.heap.size]? = some (.cells #[.int .i64 (h.base : Nat), .int .i64 (h.cnt : Nat), .int .i64 (h.view : Nat), .int .i64 (h.prod : Nat), .int .i64 (h.seq : Nat), .slice (some ⟨sb, so, none⟩) h.nrec cap] 46 (0, 0))) := heap_alloc_new _ _
  go_enter Tryz.func13, Tryz.ntmps13
  go_upto_region 1 with fail
  generalize hwA : w.alloc (.cells #[.int .i64 (h.base : Nat), .int .i64 (h.cnt : Nat), .int .i64 (h.view : Nat), .int .i64 (h.prod : Nat), .int .i64 (h.seq : Nat), .slice (some ⟨sb, so, none⟩) h.nrec cap] 46) = wA at HA HCe
  clear hwA
  obtain ⟨c0, c1, c2, c3, c4, c5⟩ := cells6 HCe.out
  have hlt := lt_of_block HCe.out
  have HsB : Hid (w.heap.size ≤ wA.heap.size) := HA.out.size
  obtain ⟨B, hBe⟩ : ∃ B, w.heap.size = B := ⟨_, rfl⟩
  rw [hBe] at c0 c1 c2 c3 c4 c5 hlt ⊢
  go_wp2_with fail
  refine (HM'.out _ HA.out).mono ?_
  rintro e w1 ⟨rfl, hb1⟩
  have HB1 : Hid (Below wA.heap.size wA w1) := hb1
  clear hb1
  obtain ⟨d0, d1, d2, d3, d4, d5⟩ : w1.cell? ⟨B, 0, none⟩ = some (.int .i64 (h.base : Nat)) ∧ w1.cell? ⟨B, 1, none⟩ = some (.int .i64 (h.cnt : Nat)) ∧ w1.cell? ⟨B, 2, none⟩ = some (.int .i64 (h.view : Nat)) ∧ w1.cell? ⟨B, 3, none⟩ = some (.int .i64 (h.prod : Nat)) ∧ w1.cell? ⟨B, 4, none⟩ = some (.int .i64 (h.seq : Nat)) ∧ w1.cell? ⟨B, 5, none⟩ = some (.slice (some ⟨sb, so, none⟩) h.nrec cap) := ⟨by rw [cell_below HB1.out hlt]; exact c0, by rw [cell_below HB1.out hlt]; exact c1, by rw [cell_below HB1.out hlt]; exact c2, by rw [cell_below HB1.out hlt]; exact c3, by rw [cell_below HB1.out hlt]; exact c4, by rw [cell_below HB1.out hlt]; exact c5⟩
  go_wp2_with fail
  refine (HBy'.out _ (HA.out.trans (HB1.out.mono HsB.out))).mono ?_
  rintro e w2 ⟨rfl, hb2⟩
  have HB : Hid (Below wA.heap.size wA w2) := HB1.out.trans (hb2.mono HB1.out.size)
  clear hb2 d0 d1 d2 d3 d4 d5
  have KS0 : w2.cell? ⟨B, 0, none⟩ = some (.int .i64 (h.base : Nat)) ∧ w2.cell? ⟨B, 1, none⟩ = some (.int .i64 (h.cnt : Nat)) ∧ w2.cell? ⟨B, 2, none⟩ = some (.int .i64 (h.view : Nat)) ∧ w2.cell? ⟨B, 3, none⟩ = some (.int .i64 (h.prod : Nat)) ∧ w2.cell? ⟨B, 4, none⟩ = some (.int .i64 (h.seq : Nat)) ∧ w2.cell? ⟨B, 5, none⟩ = some (.slice (some ⟨sb, so, none⟩) h.nrec cap) := ⟨by rw [cell_below HB.out hlt]; exact c0, by rw [cell_below HB.out hlt]; exact c1, by rw [cell_below HB.out hlt]; exact c2, by rw [cell_below HB.out hlt]; exact c3, by rw [cell_below HB.out hlt]; exact c4, by rw [cell_below HB.out hlt]; exact c5⟩
  go_upto_region 6 with fail
  refine wp_region_held_drew (S := fun w' => w'.cell? ⟨B, 0, none⟩ = some (.int .i64 (h.base : Nat)) ∧ w'.cell? ⟨B, 1, none⟩ = some (.int .i64 (h.cnt : Nat)) ∧ w'.cell? ⟨B, 2, none⟩ = some (.int .i64 (h.view : Nat)) ∧ w'.cell? ⟨B, 3, none⟩ = some (.int .i64 (h.prod : Nat)) ∧ w'.cell? ⟨B, 4, none⟩ = some (.int .i64 (h.seq : Nat)) ∧ w'.cell? ⟨B, 5, none⟩ = some (.slice (some ⟨sb, so, none⟩) h.nrec cap)) (by kernel_rfl) KS0 (fun hHeld => ?_)
  refine wpAnyH_take (i := 0) (v := ?v0) rfl (by kernel_rfl) (by kernel_rfl) (by kernel_rfl) (fun _ _ _ h => h) (Or.inl ⟨by rfl, fun w hSw => ?hy0⟩) hHeld ?rest0
  case hy0 =>
    try dsimp only at hSw
    go_simp
    try with_reducible rfl
  simp only [Act.put, List.setIfInBounds_toArray, List.set_cons_zero, List.set_cons_succ, List.getElem_toArray, List.getElem_cons_zero]
  refine wpAnyH_take (i := 1) (v := ?v1) rfl (by kernel_rfl) (by kernel_rfl) (by kernel_rfl) (fun _ _ _ h => h) (Or.inl ⟨by rfl, fun w hSw => ?hy1⟩) hHeld ?rest1
  case hy1 =>
    try dsimp only at hSw
    go_simp
    try with_reducible rfl
  simp only [Act.put, List.setIfInBounds_toArray, List.set_cons_zero, List.set_cons_succ, List.getElem_toArray, List.getElem_cons_zero, List.getElem_cons_succ]
  refine wpAnyH_take (i := 3) (v := ?v3) rfl (by kernel_rfl) (by kernel_rfl) (by kernel_rfl) (fun _ _ _ h => h) (Or.inl ⟨by rfl, fun w hSw => ?hy3⟩) hHeld ?rest3
  case hy3 =>
    try dsimp only at hSw
    go_simp
    try with_reducible rfl
  simp only [Act.put, List.setIfInBounds_toArray, List.set_cons_zero, List.set_cons_succ, List.getElem_toArray, List.getElem_cons_zero, List.getElem_cons_succ]
  refine wpAnyH_take (i := 4) (v := ?v4) rfl (by kernel_rfl) (by kernel_rfl) (by kernel_rfl) (fun _ _ _ h => h) (Or.inl ⟨by rfl, fun w hSw => ?hy4⟩) hHeld ?rest4
  case hy4 =>
    try dsimp only at hSw
    go_simp
    try with_reducible rfl
  simp only [Act.put, List.setIfInBounds_toArray, List.set_cons_zero, List.set_cons_succ, List.getElem_toArray, List.getElem_cons_zero, List.getElem_cons_succ]
  refine wpAnyH_take (i := 7) (v := ?v7) rfl (by kernel_rfl) (by kernel_rfl) (by kernel_rfl) (fun _ _ _ h => h) (Or.inl ⟨by rfl, fun w hSw => ?hy7⟩) hHeld ?rest7
  case hy7 =>
    try dsimp only at hSw
    go_simp
    try with_reducible rfl
  simp only [Act.put, List.setIfInBounds_toArray, List.set_cons_zero, List.set_cons_succ, List.getElem_toArray, List.getElem_cons_zero, List.getElem_cons_succ]
  refine wpAnyH_take (i := 8) (v := ?v8) rfl (by kernel_rfl) (by kernel_rfl) (by kernel_rfl) (fun _ _ _ h => h) (Or.inl ⟨by rfl, fun w hSw => ?hy8⟩) hHeld ?rest8
  case hy8 =>
    try dsimp only at hSw
    go_simp
    try with_reducible rfl
  simp only [Act.put, List.setIfInBounds_toArray, List.set_cons_zero, List.set_cons_succ, List.getElem_toArray, List.getElem_cons_zero, List.getElem_cons_succ]
  refine wpAnyH_take (i := 11) (v := ?v11) rfl (by kernel_rfl) (by kernel_rfl) (by kernel_rfl) (fun _ _ _ h => h) (Or.inl ⟨by rfl, fun w hSw => ?hy11⟩) hHeld ?rest11
  case hy11 =>
    try dsimp only at hSw
    go_simp
    try with_reducible rfl
  simp only [Act.put, List.setIfInBounds_toArray, List.set_cons_zero, List.set_cons_succ, List.getElem_toArray, List.getElem_cons_zero, List.getElem_cons_succ]
  refine wpAnyH_take (i := 12) (v := ?v12) rfl (by kernel_rfl) (by kernel_rfl) (by kernel_rfl) (fun _ _ _ h => h) (Or.inl ⟨by rfl, fun w hSw => ?hy12⟩) hHeld ?rest12
  case hy12 =>
    try dsimp only at hSw
    go_simp
    try with_reducible rfl
  simp only [Act.put, List.setIfInBounds_toArray, List.set_cons_zero, List.set_cons_succ, List.getElem_toArray, List.getElem_cons_zero, List.getElem_cons_succ]
  refine wpAnyH_take (i := 15) (v := ?v15) rfl (by kernel_rfl) (by kernel_rfl) (by kernel_rfl) (fun _ _ _ h => h) (Or.inl ⟨by rfl, fun w hSw => ?hy15⟩) hHeld ?rest15
  case hy15 =>
    try dsimp only at hSw
    go_simp
    try with_reducible rfl
  simp only [Act.put, List.setIfInBounds_toArray, List.set_cons_zero, List.set_cons_succ, List.getElem_toArray, List.getElem_cons_zero, List.getElem_cons_succ]
  refine wpAnyH_take (i := 16) (v := ?v16) rfl (by kernel_rfl) (by kernel_rfl) (by kernel_rfl) (fun _ _ _ h => h) (Or.inl ⟨by rfl, fun w hSw => ?hy16⟩) hHeld ?rest16
  case hy16 =>
    try dsimp only at hSw
    go_simp
    try with_reducible rfl
  simp only [Act.put, List.setIfInBounds_toArray, List.set_cons_zero, List.set_cons_succ, List.getElem_toArray, List.getElem_cons_zero, List.getElem_cons_succ]
  refine wpAnyH_take (i := 21) (v := ?v21) rfl (by kernel_rfl) (by kernel_rfl) (by kernel_rfl) (fun _ _ _ h => h) (Or.inl ⟨by rfl, fun w hSw => ?hy21⟩) hHeld ?rest21
  case hy21 =>
    try dsimp only at hSw
    go_simp
    try with_reducible rfl
  simp only [Act.put, List.setIfInBounds_toArray, List.set_cons_zero, List.set_cons_succ, List.getElem_toArray, List.getElem_cons_zero, List.getElem_cons_succ]
  refine wpAnyH_take (i := 22) (v := ?v22) rfl (by kernel_rfl) (by kernel_rfl) (by kernel_rfl) (fun _ _ _ h => h) (Or.inl ⟨by rfl, fun w hSw => ?hy22⟩) hHeld ?rest22
  case hy22 =>
    try dsimp only at hSw
    go_simp
    try with_reducible rfl
  simp only [Act.put, List.setIfInBounds_toArray, List.set_cons_zero, List.set_cons_succ, List.getElem_toArray, List.getElem_cons_zero, List.getElem_cons_succ]
  refine wpAnyH_take (i := 23) (v := ?v23) rfl (by kernel_rfl) (by kernel_rfl) (by kernel_rfl) (fun _ _ _ h => h) (Or.inl ⟨by rfl, fun w hSw => ?hy23⟩) hHeld ?rest23
  case hy23 =>
    try dsimp only at hSw
    go_simp
    try with_reducible rfl
  simp only [Act.put, List.setIfInBounds_toArray, List.set_cons_zero, List.set_cons_succ, List.getElem_toArray, List.getElem_cons_zero, List.getElem_cons_succ]
  refine wpAnyH_take (i := 26) (v := ?v26) rfl (by kernel_rfl) (by kernel_rfl) (by kernel_rfl) (fun _ _ _ h => h) (Or.inl ⟨by rfl, fun w hSw => ?hy26⟩) hHeld ?rest26
  case hy26 =>
    try dsimp only at hSw
    go_simp
    try with_reducible rfl
  simp only [Act.put, List.setIfInBounds_toArray, List.set_cons_zero, List.set_cons_succ, List.getElem_toArray, List.getElem_cons_zero, List.getElem_cons_succ]
  refine wpAnyH_take (i := 27) (v := ?v27) rfl (by kernel_rfl) (by kernel_rfl) (by kernel_rfl) (fun _ _ _ h => h) (Or.inl ⟨by rfl, fun w hSw => ?hy27⟩) hHeld ?rest27
  case hy27 =>
    try dsimp only at hSw
    go_simp
    try with_reducible rfl
  simp only [Act.put, List.setIfInBounds_toArray, List.set_cons_zero, List.set_cons_succ, List.getElem_toArray, List.getElem_cons_zero, List.getElem_cons_succ]
  refine wpAnyH_take (i := 30) (v := ?v30) rfl (by kernel_rfl) (by kernel_rfl) (by kernel_rfl) (fun _ _ _ h => h) (Or.inl ⟨by rfl, fun w hSw => ?hy30⟩) hHeld ?rest30
  case hy30 =>
    try dsimp only at hSw
    go_simp
    try with_reducible rfl
  simp only [Act.put, List.setIfInBounds_toArray, List.set_cons_zero, List.set_cons_succ, List.getElem_toArray, List.getElem_cons_zero, List.getElem_cons_succ]
  refine wpAnyH_ready (rs := [2]) (by kernel_rfl) (by simp) ?_
  refine AllReadyH.cons rfl (fun K hK => ?_) AllReadyH.nil
  go_simp
  refine (K1.out _).mono ?_
  rintro e w3 ⟨rfl, hb1'⟩
  have HB3 : Hid (Below wA.heap.size wA w3) := HB.out.trans (Below.mono ⟨hb1'.os, hb1'.tape, hb1'.output, hb1'.size, hb1'.block⟩ HB.out.size)
  clear hHeld hb1'
  go_simp
  refine hK.out _ _ ⟨by rw [cell_below HB3.out hlt]; exact c0, by rw [cell_below HB3.out hlt]; exact c1, by rw [cell_below HB3.out hlt]; exact c2, by rw [cell_below HB3.out hlt]; exact c3, by rw [cell_below HB3.out hlt]; exact c4, by rw [cell_below HB3.out hlt]; exact c5⟩ (fun hHeld => ?_)
  clear hK
  refine wpAnyH_ready (rs := [5]) (by kernel_rfl) (by simp) ?_
  refine AllReadyH.cons rfl (fun K hK => ?_) AllReadyH.nil
  go_simp
  refine (K2.out _).mono ?_
  rintro e w4 ⟨rfl, hb1'⟩
  have HB4 : Hid (Below wA.heap.size wA w4) := HB3.out.trans (Below.mono ⟨hb1'.os, hb1'.tape, hb1'.output, hb1'.size, hb1'.block⟩ HB3.out.size)
  clear hHeld hb1'
  go_simp
  refine hK.out _ _ ⟨by rw [cell_below HB4.out hlt]; exact c0, by rw [cell_below HB4.out hlt]; exact c1, by rw [cell_below HB4.out hlt]; exact c2, by rw [cell_below HB4.out hlt]; exact c3, by rw [cell_below HB4.out hlt]; exact c4, by rw [cell_below HB4.out hlt]; exact c5⟩ (fun hHeld => ?_)
  clear hK
  refine wpAnyH_take (i := 6) (v := ?v6) rfl (by kernel_rfl) (by kernel_rfl) (by kernel_rfl) (fun _ _ _ h => h) (Or.inl ⟨by rfl, fun w hSw => ?hy6⟩) hHeld ?rest6
  case hy6 =>
    try dsimp only at hSw
    go_simp
    first | with_reducible rfl | rw [if_neg (by simp only [ByteArray.size_append]; omega)]
  simp only [Act.put, List.setIfInBounds_toArray, List.set_cons_zero, List.set_cons_succ, List.getElem_toArray, List.getElem_cons_zero, List.getElem_cons_succ]
  refine wpAnyH_ready (rs := [9]) (by kernel_rfl) (by simp) ?_
  refine AllReadyH.cons rfl (fun K hK => ?_) AllReadyH.nil
  go_simp
  refine (K3.out _).mono ?_
  rintro e w5 ⟨rfl, hb1'⟩
  have HB5 : Hid (Below wA.heap.size wA w5) := HB4.out.trans (Below.mono ⟨hb1'.os, hb1'.tape, hb1'.output, hb1'.size, hb1'.block⟩ HB4.out.size)
  clear hHeld hb1'
  go_simp
  refine hK.out _ _ ⟨by rw [cell_below HB5.out hlt]; exact c0, by rw [cell_below HB5.out hlt]; exact c1, by rw [cell_below HB5.out hlt]; exact c2, by rw [cell_below HB5.out hlt]; exact c3, by rw [cell_below HB5.out hlt]; exact c4, by rw [cell_below HB5.out hlt]; exact c5⟩ (fun hHeld => ?_)
  clear hK
  refine wpAnyH_take (i := 10) (v := ?v10) rfl (by kernel_rfl) (by kernel_rfl) (by kernel_rfl) (fun _ _ _ h => h) (Or.inl ⟨by rfl, fun w hSw => ?hy10⟩) hHeld ?rest10
  case hy10 =>
    try dsimp only at hSw
    go_simp
    first | with_reducible rfl | rw [if_neg (by simp only [ByteArray.size_append]; omega)]
  simp only [Act.put, List.setIfInBounds_toArray, List.set_cons_zero, List.set_cons_succ, List.getElem_toArray, List.getElem_cons_zero, List.getElem_cons_succ]
  refine wpAnyH_ready (rs := [13]) (by kernel_rfl) (by simp) ?_
  refine AllReadyH.cons rfl (fun K hK => ?_) AllReadyH.nil
  go_simp
  refine (K4.out _).mono ?_
  rintro e w6 ⟨rfl, hb1'⟩
  have HB6 : Hid (Below wA.heap.size wA w6) := HB5.out.trans (Below.mono ⟨hb1'.os, hb1'.tape, hb1'.output, hb1'.size, hb1'.block⟩ HB5.out.size)
  clear hHeld hb1'
  go_simp
  refine hK.out _ _ ⟨by rw [cell_below HB6.out hlt]; exact c0, by rw [cell_below HB6.out hlt]; exact c1, by rw [cell_below HB6.out hlt]; exact c2, by rw [cell_below HB6.out hlt]; exact c3, by rw [cell_below HB6.out hlt]; exact c4, by rw [cell_below HB6.out hlt]; exact c5⟩ (fun hHeld => ?_)
  clear hK
  refine wpAnyH_take (i := 14) (v := ?v14) rfl (by kernel_rfl) (by kernel_rfl) (by kernel_rfl) (fun _ _ _ h => h) (Or.inl ⟨by rfl, fun w hSw => ?hy14⟩) hHeld ?rest14
  case hy14 =>
    try dsimp only at hSw
    go_simp
    first | with_reducible rfl | rw [if_neg (by simp only [ByteArray.size_append]; omega)]
  simp only [Act.put, List.setIfInBounds_toArray, List.set_cons_zero, List.set_cons_succ, List.getElem_toArray, List.getElem_cons_zero, List.getElem_cons_succ]
  refine wpAnyH_ready (rs := [17]) (by kernel_rfl) (by simp) ?_
  refine AllReadyH.cons rfl (fun K hK => ?_) AllReadyH.nil
  go_simp
  refine (K5.out _).mono ?_
  rintro e w7 ⟨rfl, hb1'⟩
  have HB7 : Hid (Below wA.heap.size wA w7) := HB6.out.trans (Below.mono ⟨hb1'.os, hb1'.tape, hb1'.output, hb1'.size, hb1'.block⟩ HB6.out.size)
  clear hHeld hb1'
  go_simp
  refine hK.out _ _ ⟨by rw [cell_below HB7.out hlt]; exact c0, by rw [cell_below HB7.out hlt]; exact c1, by rw [cell_below HB7.out hlt]; exact c2, by rw [cell_below HB7.out hlt]; exact c3, by rw [cell_below HB7.out hlt]; exact c4, by rw [cell_below HB7.out hlt]; exact c5⟩ (fun hHeld => ?_)
  clear hK
  refine wpAnyH_take (i := 18) (v := ?v18) rfl (by kernel_rfl) (by kernel_rfl) (by kernel_rfl) (fun _ _ _ h => h) (Or.inl ⟨by rfl, fun w hSw => ?hy18⟩) hHeld ?rest18
  case hy18 =>
    try dsimp only at hSw
    go_simp
    first | with_reducible rfl | rw [if_neg (by simp only [ByteArray.size_append]; omega)]
  simp only [Act.put, List.setIfInBounds_toArray, List.set_cons_zero, List.set_cons_succ, List.getElem_toArray, List.getElem_cons_zero, List.getElem_cons_succ]
  refine wpAnyH_ready (rs := [19]) (by kernel_rfl) (by simp) ?_
  refine AllReadyH.cons rfl (fun K hK => ?_) AllReadyH.nil
  go_simp
  refine (K6.out _).mono ?_
  rintro e w8 ⟨rfl, hb1'⟩
  have HB8 : Hid (Below wA.heap.size wA w8) := HB7.out.trans (Below.mono ⟨hb1'.os, hb1'.tape, hb1'.output, hb1'.size, hb1'.block⟩ HB7.out.size)
  clear hHeld hb1'
  go_simp
  refine hK.out _ _ ⟨by rw [cell_below HB8.out hlt]; exact c0, by rw [cell_below HB8.out hlt]; exact c1, by rw [cell_below HB8.out hlt]; exact c2, by rw [cell_below HB8.out hlt]; exact c3, by rw [cell_below HB8.out hlt]; exact c4, by rw [cell_below HB8.out hlt]; exact c5⟩ (fun hHeld => ?_)
  clear hK
  refine wpAnyH_take (i := 20) (v := ?v20) rfl (by kernel_rfl) (by kernel_rfl) (by kernel_rfl) (fun _ _ _ h => h) (Or.inl ⟨by rfl, fun w hSw => ?hy20⟩) hHeld ?rest20
  case hy20 =>
    try dsimp only at hSw
    go_simp
    first | with_reducible rfl | rw [if_neg (by simp only [ByteArray.size_append]; omega)]
  simp only [Act.put, List.setIfInBounds_toArray, List.set_cons_zero, List.set_cons_succ, List.getElem_toArray, List.getElem_cons_zero, List.getElem_cons_succ]
  refine wpAnyH_ready (rs := [24]) (by kernel_rfl) (by simp) ?_
  refine AllReadyH.cons rfl (fun K hK => ?_) AllReadyH.nil
  go_simp
  refine (K7.out _).mono ?_
  rintro e w9 ⟨rfl, hb1'⟩
  have HB9 : Hid (Below wA.heap.size wA w9) := HB8.out.trans (Below.mono ⟨hb1'.os, hb1'.tape, hb1'.output, hb1'.size, hb1'.block⟩ HB8.out.size)
  clear hHeld hb1'
  go_simp
  refine hK.out _ _ ⟨by rw [cell_below HB9.out hlt]; exact c0, by rw [cell_below HB9.out hlt]; exact c1, by rw [cell_below HB9.out hlt]; exact c2, by rw [cell_below HB9.out hlt]; exact c3, by rw [cell_below HB9.out hlt]; exact c4, by rw [cell_below HB9.out hlt]; exact c5⟩ (fun hHeld => ?_)
  clear hK
  refine wpAnyH_take (i := 25) (v := ?v25) rfl (by kernel_rfl) (by kernel_rfl) (by kernel_rfl) (fun _ _ _ h => h) (Or.inl ⟨by rfl, fun w hSw => ?hy25⟩) hHeld ?rest25
  case hy25 =>
    try dsimp only at hSw
    go_simp
    first | with_reducible rfl | rw [if_neg (by simp only [ByteArray.size_append]; omega)]
  simp only [Act.put, List.setIfInBounds_toArray, List.set_cons_zero, List.set_cons_succ, List.getElem_toArray, List.getElem_cons_zero, List.getElem_cons_succ]
  refine wpAnyH_ready (rs := [28]) (by kernel_rfl) (by simp) ?_
  refine AllReadyH.cons rfl (fun K hK => ?_) AllReadyH.nil
  go_simp
  refine (K8.out _).mono ?_
  rintro e w10 ⟨rfl, hb1'⟩
  have HB10 : Hid (Below wA.heap.size wA w10) := HB9.out.trans (Below.mono ⟨hb1'.os, hb1'.tape, hb1'.output, hb1'.size, hb1'.block⟩ HB9.out.size)
  clear hHeld hb1'
  go_simp
  refine hK.out _ _ ⟨by rw [cell_below HB10.out hlt]; exact c0, by rw [cell_below HB10.out hlt]; exact c1, by rw [cell_below HB10.out hlt]; exact c2, by rw [cell_below HB10.out hlt]; exact c3, by rw [cell_below HB10.out hlt]; exact c4, by rw [cell_below HB10.out hlt]; exact c5⟩ (fun hHeld => ?_)
  clear hK
  refine wpAnyH_take (i := 29) (v := ?v29) rfl (by kernel_rfl) (by kernel_rfl) (by kernel_rfl) (fun _ _ _ h => h) (Or.inl ⟨by rfl, fun w hSw => ?hy29⟩) hHeld ?rest29
  case hy29 =>
    try dsimp only at hSw
    go_simp
    first | with_reducible rfl | rw [if_neg (by simp only [ByteArray.size_append]; omega)]
  simp only [Act.put, List.setIfInBounds_toArray, List.set_cons_zero, List.set_cons_succ, List.getElem_toArray, List.getElem_cons_zero, List.getElem_cons_succ]
  refine wpAnyH_take (i := 31) (v := ?v31) rfl (by kernel_rfl) (by kernel_rfl) (by kernel_rfl) (fun _ _ _ h => h) (Or.inl ⟨by rfl, fun w hSw => ?hy31⟩) hHeld ?rest31
  case hy31 =>
    try dsimp only at hSw
    go_simp
    rw [if_neg (by omega)]
  simp only [Act.put, List.setIfInBounds_toArray, List.set_cons_zero, List.set_cons_succ, List.getElem_toArray, List.getElem_cons_zero, List.getElem_cons_succ]
  refine wpAnyH_take (i := 32) (v := ?v32) rfl (by kernel_rfl) (by kernel_rfl) (by kernel_rfl) (fun _ _ _ h => h) (Or.inl ⟨by rfl, fun w hSw => ?hy32⟩) hHeld ?rest32
  case hy32 =>
    try dsimp only at hSw
    go_simp
    try with_reducible rfl
  simp only [Act.put, List.setIfInBounds_toArray, List.set_cons_zero, List.set_cons_succ, List.getElem_toArray, List.getElem_cons_zero, List.getElem_cons_succ]
  refine wpAnyH_done (by kernel_rfl) ?_ _
  have hSs : S.size ≤ 262144 := by rw [← HS.out]; simp only [ByteArray.size_append]; omega
  clear hps s1 s2 s3 s4 s5 s6 s7 s8 hp1 hp2
  rw [HS.out]
  go_wp2_with fail
  refine (K9.out _).mono ?_
  rintro e y1 ⟨rfl, hy1⟩
  have HY1 : Hid (Below wA.heap.size wA y1) := HB10.out.trans (hy1.mono HB10.out.size)
  clear hy1
  go_wp2_with fail
  refine (HC'.out _).mono ?_
  rintro e W ⟨rfl, hW⟩
  obtain rfl := hW.symm
  clear hW
  go_wp2_with fail
  refine (K10.out _).mono ?_
  rintro e y2 ⟨rfl, hy2⟩
  have HY2 : Hid (Below wA.heap.size wA y2) := HY1.out.trans (hy2.mono HY1.out.size)
  clear hy2
  go_wp2
  go_ret2
  rw [HR.out, ← hBe]
  exact ⟨rfl, HA.out.trans (HY2.out.mono HsB.out)⟩
end Go.Proofs.YtcjlcieheepegaaGreatDoor
namespace Go.Proofs.YtcjlcieheepegaaGreatDoor
open Go.RowKit
set_option linter.unusedVariables false
set_option maxRecDepth 20000
set_option maxRecDepth 20000

theorem BIn.below {w w' : World} {h : HN} {sb so : Nat} {L : List Rec} (hB : BIn w h sb so L) (hb : Below w.heap.size w w') : BIn w' h sb so L := ⟨hB.inn.below hb (Nat.le_refl _), hB.sz, hB.one, hB.most, hB.may, hB.last⟩
theorem fx_size (n k : Nat) : (mk (fxL n k)).size = k := by rw [mk_size, fxL_length]
set_option maxHeartbeats 1000000 in
theorem plain_ok (h : HN) (ok : h.OK) (sb so cap : Nat) (L : List Rec) (w : World) (hB : BIn w h sb so L) (hn : h.nrec = L.length) (hlen : (recsL h.base L).length ≤ 262115) :
    Calls Tryz.prog 13 #[h.bv (.slice (some ⟨sb, so, none⟩) L.length cap)] w fun e w' => e = .returned (.tuple #[.string (mk (batL h (recsL h.base L))), .int .i64 0]) ∧ Below w.heap.size w w' := by
  obtain ⟨P, hP⟩ : ∃ P, recsL h.base L = P := ⟨_, rfl⟩
  have hby : ∀ W, Below w.heap.size w W → Calls Tryz.prog 27 #[.slice (some ⟨sb, so, none⟩) h.nrec cap, .int .i64 (h.base : Nat)] W fun e w' => e = .returned (.tuple #[.string (mk P), .int .i64 0]) ∧ Below W.heap.size W w' := fun W hW => by
    have := rbytes_ok (some ⟨sb, so, none⟩) cap L (h.base : Nat) W ((hB.below hW).inn) hB.sz (by have := hB.most; omega)
    rw [bytesV, if_pos hB.may, hP, ← hn] at this
    exact this
  have hmay : ∀ W, Below w.heap.size w W → Calls Tryz.prog 26 #[h.bv (.slice (some ⟨sb, so, none⟩) h.nrec cap)] W fun e w' => e = .returned (.bool true) ∧ Below W.heap.size W w' := fun W hW => by
    rw [hn]; exact may10_yes h ok sb so cap L W (hB.below hW)
  have hnr : h.nrec ≤ 256 := ok.nrec
  rw [← hn]
  clear hB hn
  rw [hP] at hlen ⊢
  clear hP
  obtain ⟨o1, o2, o3, o4, o5, o6, o7⟩ := ok
  have hSz : (mk (sumL h P)).size = 29 + P.length := by rw [mk_size, sumL_length]
  have hf : ∀ (n k : Nat), 1 ≤ k → k ≤ 8 → n ≤ 9223372036854775807 → n < 2 ^ (8 * k) → ∀ W, Calls Tryz.prog 28 #[.int .i64 (n : Nat), .int .i64 (k : Nat)] W fun e w' => e = .returned (.string (mk (fxL n k))) ∧ Below W.heap.size W w' := fun n k a b c d W => rfixed_ok n k W a b c d
  refine plain_gen h sb so cap (mk P) (mk (sumL h P)) (mk (fxL h.base 8)) (mk (fxL h.cnt 2)) (mk (fxL h.view 4)) (mk (fxL h.prod 4)) (mk (fxL h.seq 4)) (mk (fxL 0 1)) (mk (fxL h.nrec 2)) (mk (fxL P.length 4)) (mk (fxL (29 + P.length) 4)) (mk (fxL (crcL (sumL h P)) 4)) (mk (batL h P)) (crcL (sumL h P)) w (by rw [mk_size]; exact hlen)
    (fx_size _ _) (fx_size _ _) (fx_size _ _) (fx_size _ _) (fx_size _ _) (fx_size _ _) (fx_size _ _) (fx_size _ _) (fx_size _ _) (fx_size _ _)
    hmay hby
    (hf _ 8 (by omega) (by omega) (by omega) (by omega)) (hf _ 2 (by omega) (by omega) (by omega) (by omega)) (hf _ 4 (by omega) (by omega) (by omega) (by omega)) (hf _ 4 (by omega) (by omega) (by omega) (by omega)) (hf _ 4 (by omega) (by omega) (by omega) (by omega)) (hf 0 1 (by omega) (by omega) (by omega) (by omega)) (hf _ 2 (by omega) (by omega) (by omega) (by omega))
    (by rw [mk_size]; exact hf _ 4 (by omega) (by omega) (by omega) (by omega))
    (by simp only [mk_app, List.append_assoc]; rfl)
    (by rw [hSz]; exact hf _ 4 (by omega) (by omega) (by omega) (by omega))
    (fun W => ?_) (hf _ 4 (by omega) (by omega) (by have := crcL_lt (sumL h P); omega) (by have := crcL_lt (sumL h P); omega)) ?_
  · have := S2.refCrc (mk (sumL h P)) W (by rw [hSz]; omega)
    rw [BL_mk] at this
    exact this
  · have e : (⟨#[80, 66]⟩ : ByteArray) = mk [80, 66] := rfl
    rw [e]
    simp only [mk_app, List.append_assoc]
    rfl
end Go.Proofs.YtcjlcieheepegaaGreatDoor
