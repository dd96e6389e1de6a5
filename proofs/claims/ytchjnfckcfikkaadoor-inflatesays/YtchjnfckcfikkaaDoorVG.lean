/- The walks of InflateReads, InflateTail, InflateMost, InflateCuts. -/
import Derived.Test.YtchjnfckcfikkaaDoorVE
import Derived.Test.YtchjnfckcfikkaaDoorVF
import Derived.Lib.LaidTab
namespace Go.Proofs.YtchjnfckcfikkaaDoor
open Go.RowKit
set_option linter.unusedVariables false

/-- The table is laid: its cells. -/
theorem ord_at {W : World} {rest : List (String × DataW Unit)} (h : laidMet Tryd.prog (("postroad/inflate.firstOrder", Lib.tabData .i64 [16, 17, 18, 0, 8, 7, 9, 6, 10, 5, 11, 4, 12, 3, 13, 2, 14, 1, 15]) :: rest) W) : OrdAt W := by
  have t := Lib.tabIs_of_head (g := 0) (by kernel_rfl) (by kernel_rfl) Tryd.underlying101 Tryd.underlying3 (by kernel_rfl) (by kernel_rfl) h
  intro i hi
  have hc := t.cell (g := 0) (by kernel_rfl) i hi
  rw [hc]
  have := (show ∀ k : Fin 19, ([16, 17, 18, 0, 8, 7, 9, 6, 10, 5, 11, 4, 12, 3, 13, 2, 14, 1, 15] : List Int).getD k.val 0 = ((ordL.getD k.val 0 : Nat) : Int) by decide) ⟨i, hi⟩
  rw [this]
theorem OrdAt.below {w w' : World} (h : OrdAt w) (hb : Below w.heap.size w w') : OrdAt w' := fun i hi => by
  have h0 : 0 < w.heap.size := lt_cell (h 0 (by omega))
  rw [World.cell?_of_block (w := w) (hb.block 0 h0)]; exact h i hi
/-- What Inflate answers, whatever most is. -/
def infA (s : ByteArray) (most : Int) : ByteArray × Nat × Nat := if most < 0 ∨ 1048576 < most then (⟨#[]⟩, 0, 1) else if (infF s most.toNat).1 = 0 then (toBA (infF s most.toNat).2.2, ((infF s most.toNat).2.1 + 7) / 8, 0) else (⟨#[]⟩, 0, (infF s most.toNat).1)
theorem infA_R (s : ByteArray) (most : Nat) (h : most ≤ 1048576) : infR (infF s most) = .tuple #[.string (infA s most).1, .int .i64 ((infA s most).2.1 : Nat), .int .i64 ((infA s most).2.2 : Nat)] := by
  have hA : infA s (most : Int) = if (infF s most).1 = 0 then (toBA (infF s most).2.2, ((infF s most).2.1 + 7) / 8, 0) else (⟨#[]⟩, 0, (infF s most).1) := by
    unfold infA
    rw [if_neg (show ¬ ((most : Int) < 0 ∨ 1048576 < (most : Int)) by omega), Int.toNat_natCast]
  by_cases e : (infF s most).1 = 0
  · rw [hA, if_pos e]; unfold infR; rw [if_pos e]; rfl
  · rw [hA, if_neg e]; unfold infR; rw [if_neg e]; rfl
theorem inflate_any (s : ByteArray) (most : Int) (w : World) (hs : s.size ≤ 281474976710656) (ho : OrdAt w) :
    Calls Tryd.prog 10 #[.string s, .int .i64 most] w fun e w' => e = .returned (.tuple #[.string (infA s most).1, .int .i64 ((infA s most).2.1 : Nat), .int .i64 ((infA s most).2.2 : Nat)]) ∧ Below w.heap.size w w' := by
  by_cases h : most < 0 ∨ 1048576 < most
  · refine (inflate_arg s most w h).mono ?_
    rintro e w' ⟨rfl, k, rfl⟩
    refine ⟨?_, rfl, rfl, rfl, Nat.le_refl _, fun _ _ => rfl⟩
    unfold infA; rw [if_pos h]; rfl
  · obtain ⟨m, rfl⟩ : ∃ m : Nat, most = (m : Int) := ⟨most.toNat, by omega⟩
    refine (inflate_all s m w (by omega) hs ho).mono ?_
    rintro e w' ⟨rfl, hb⟩
    exact ⟨by rw [infA_R s m (by omega)], hb⟩
theorem ref_any (s : ByteArray) (most : Int) (w : World) (hs : s.size ≤ 281474976710656) :
    Calls Tryd.prog 11 #[.string s, .int .i64 most] w fun e w' => e = .returned (.tuple #[.string (infA s most).1, .int .i64 ((infA s most).2.1 : Nat), .int .i64 ((infA s most).2.2 : Nat)]) ∧ Below w.heap.size w w' := by
  by_cases h : most < 0 ∨ 1048576 < most
  · refine (inf_arg s most w h).mono ?_
    rintro e w' ⟨rfl, hb⟩
    refine ⟨?_, hb⟩
    unfold infA; rw [if_pos h]; rfl
  · obtain ⟨m, rfl⟩ : ∃ m : Nat, most = (m : Int) := ⟨most.toNat, by omega⟩
    refine (rinflate_ok s m w (by omega) hs).mono ?_
    rintro e w' ⟨rfl, hb⟩
    exact ⟨by rw [infA_R s m (by omega)], hb⟩
set_option maxRecDepth 20000 in
set_option maxHeartbeats 1000000 in
theorem reads_walk (s : ByteArray) (most : Int) (w : World) (hs : s.size ≤ 140737488351232) (ho : OrdAt w) :
    Calls Tryd.prog 3 #[.string s, .int .i64 most] w fun e w' => e = .returned (.bool true) ∧ Below w.heap.size w w' := by
  have HA : Hid (∀ W, Calls Tryd.prog 9 #[] W fun e w' => e = .returned (.bool true) ∧ Below W.heap.size W w') := fun W => awake_ok W
  have H1 : Hid (∀ _ : Unit, Calls Tryd.prog 10 #[.string s, .int .i64 most] w fun e w' => e = .returned (.tuple #[.string (infA s most).1, .int .i64 ((infA s most).2.1 : Nat), .int .i64 ((infA s most).2.2 : Nat)]) ∧ Below w.heap.size w w') := fun _ => inflate_any s most w (by omega) ho
  have H2 : Hid (∀ W, Calls Tryd.prog 11 #[.string s, .int .i64 most] W fun e w' => e = .returned (.tuple #[.string (infA s most).1, .int .i64 ((infA s most).2.1 : Nat), .int .i64 ((infA s most).2.2 : Nat)]) ∧ Below W.heap.size W w') := fun W => ref_any s most W (by omega)
  obtain ⟨⟨a, n, e0⟩, hA⟩ : ∃ z, infA s most = z := ⟨_, rfl⟩
  rw [hA] at H1 H2
  clear hA
  go_enter Tryd.func3, Tryd.ntmps3
  by_cases hl : 8192 < s.size
  · have hli : (8192 : Int) < (s.size : Int) := by omega
    go_wp2_with (first | (go_at_call 9; refine (HA.out _).mono ?_; rintro e w1 ⟨rfl, hb⟩; have HB : Hid (Below w.heap.size w w1) := hb; clear hb))
    go_ret
    exact ⟨rfl, HB.out⟩
  · have hli : ¬ (8192 : Int) < (s.size : Int) := by omega
    go_wp2_with (first
      | (go_at_call 10; refine (H1.out ()).mono ?_; rintro e w1 ⟨rfl, hb⟩; have B1 : Hid (Below w.heap.size w w1) := hb; clear hb)
      | (go_at_call 11; refine (H2.out w1).mono ?_; rintro e w2 ⟨rfl, hb⟩; have B2 : Hid (Below w.heap.size w w2) := B1.out.trans (hb.mono B1.out.size); clear hb)
      | (go_at_call 9; refine (HA.out w2).mono ?_; rintro e w3 ⟨rfl, hb⟩; have B3 : Hid (Below w.heap.size w w3) := B2.out.trans (hb.mono B2.out.size); clear hb))
    go_ret
    exact ⟨rfl, B3.out⟩
end Go.Proofs.YtchjnfckcfikkaaDoor
