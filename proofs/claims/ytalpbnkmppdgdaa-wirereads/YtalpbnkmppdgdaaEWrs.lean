/- The walk of WireApart. -/
import Derived.Test.YtalpbnkmppdgdaaV16
namespace Go.Proofs.Ytalpbnkmppdgdaa
open Go.RowKit
set_option linter.unusedVariables false

theorem bytesW_cases (m : Msg) : (mayM m = true ∧ (msgL m).length ≤ 1048576 ∧ bytesW m = .tuple #[.string (mk (msgL m)), .int .i64 0]) ∨ ((mayM m = false ∨ ¬ (msgL m).length ≤ 1048576) ∧ ∃ k : Int, (k = 4 ∨ k = 140) ∧ bytesW m = .tuple #[.string ⟨#[]⟩, .int .i64 k]) := by
  by_cases hm : mayM m = true
  · by_cases hl : (msgL m).length ≤ 1048576
    · exact .inl ⟨hm, hl, bytesW_good hm hl⟩
    · exact .inr ⟨.inr hl, 4, .inl rfl, bytesW_long hm hl⟩
  · have hm' : mayM m = false := by simpa using hm
    exact .inr ⟨.inl hm', 140, .inr rfl, bytesW_bad hm'⟩
set_option maxHeartbeats 4000000 in
theorem apart_walk (a b : Msg) (sa sb : Spot) (w : World) (hia : MIn w a sa) (hib : MIn w b sb) :
    Calls Try.prog 8 #[a.v sa, b.v sb] w fun e w' => e = .returned (.bool true) ∧ Below w.heap.size w w' := by
  have HIA : Hid (MIn w a sa) := hia
  have HIB : Hid (MIn w b sb) := hib
  clear hia hib
  have HBA : Hid (∀ W, MIn W a sa → Calls Try.prog 9 #[a.v sa] W fun e w' => e = .returned (bytesW a) ∧ Below W.heap.size W w') := fun W h => wbytes_ok a sa W h
  have HBB : Hid (∀ W, MIn W b sb → Calls Try.prog 9 #[b.v sb] W fun e w' => e = .returned (bytesW b) ∧ Below W.heap.size W w') := fun W h => wbytes_ok b sb W h
  have hB1 : Below w.heap.size w (w.alloc (.cells (a.cs sa) 28)) := (Below.refl _ _).alloc (Nat.le_refl _) _
  have hB2 : Below w.heap.size w ((w.alloc (.cells (a.cs sa) 28)).alloc (.cells (b.cs sb) 28)) := hB1.alloc hB1.size _
  have hM1 : MB ((w.alloc (.cells (a.cs sa) 28)).alloc (.cells (b.cs sb) 28)) w.heap.size a sa := (show MB (w.alloc (.cells (a.cs sa) 28)) w.heap.size a sa from heap_alloc_new _ _).below ((Below.refl _ _).alloc (Nat.le_refl _) _)
  have hM2 : MB ((w.alloc (.cells (a.cs sa) 28)).alloc (.cells (b.cs sb) 28)) (w.alloc (.cells (a.cs sa) 28)).heap.size b sb := heap_alloc_new _ _
  have hsz : (w.alloc (.cells (a.cs sa) 28)).heap.size = w.heap.size + 1 := by simp
  rw [hsz] at hM2
  have HB2 : Hid (Below w.heap.size w ((w.alloc (.cells (a.cs sa) 28)).alloc (.cells (b.cs sb) 28))) := hB2
  have HM1 : Hid (MB ((w.alloc (.cells (a.cs sa) 28)).alloc (.cells (b.cs sb) 28)) w.heap.size a sa) := hM1
  have HM2 : Hid (MB ((w.alloc (.cells (a.cs sa) 28)).alloc (.cells (b.cs sb) 28)) (w.heap.size + 1) b sb) := hM2
  clear hB1 hB2 hM1 hM2 hsz
  generalize hWA : (w.alloc (.cells (a.cs sa) 28)).alloc (.cells (b.cs sb) 28) = wA at HB2 HM1 HM2
  have HIA1 : Hid (MIn wA a sa) := HIA.out.below HB2.out (Nat.le_refl _)
  go_enter Try.func8, Try.ntmps8
  go_upto_region 1 with fail
  clear hWA
  obtain ⟨d0, d1, d2, d3, d4, d5, d6, d7, d8, d9, d10, d11, d12⟩ := HM1.out.cells
  have HCA : Hid _ := bytesW_cases a
  have HCB : Hid _ := bytesW_cases b
  rcases HCA.out with ⟨ma, la, hva⟩ | ⟨_, ka, hka, hva⟩
  · rw [hva] at HBA
    rcases HCB.out with ⟨mb, lb, hvb⟩ | ⟨_, kb, hkb, hvb⟩
    · rw [hvb] at HBB
      have HSM : Hid (∀ W, MIn W a sa → MIn W b sb → Calls Try.prog 16 #[a.v sa, b.v sb] W fun e w' => e = .returned (.bool (eqB a b)) ∧ Below W.heap.size W w') := fun W h1 h2 => same_walk a b sa sb W h1 h2
      have HEQ : Hid (((mk (msgL a)).toList == (mk (msgL b)).toList) = eqB a b) := by
        by_cases hab : a = b
        · subst hab; rw [eqB_true rfl]; exact beq_self_eq_true _
        · rw [eqB_false hab]
          cases hx : ((mk (msgL a)).toList == (mk (msgL b)).toList) with
          | false => rfl
          | true => exact absurd (msgL_inj a b ma mb (mk_inj (toList_inj (eq_of_beq hx)))) hab
      clear hva hvb ma mb la lb HCA HCB
      generalize mk (msgL a) = za at HBA HEQ
      generalize mk (msgL b) = zb at HBB HEQ
      generalize eqB a b = qb at HSM HEQ
      go_wp2_with fail
      refine (HBA.out _ HIA1.out).mono ?_
      rintro e w1 ⟨rfl, hb1⟩
      have HMA1 : Hid (MB w1 w.heap.size a sa) := HM1.out.below hb1
      have HMB1 : Hid (MB w1 (w.heap.size + 1) b sb) := HM2.out.below hb1
      have HB3 : Hid (Below w.heap.size w w1) := HB2.out.trans (hb1.mono HB2.out.size)
      clear hb1 d0 d1 d2 d3 d4 d5 d6 d7 d8 d9 d10 d11 d12
      have HIB1 : Hid (MIn w1 b sb) := HIB.out.below HB3.out (Nat.le_refl _)
      obtain ⟨d0, d1, d2, d3, d4, d5, d6, d7, d8, d9, d10, d11, d12⟩ := HMB1.out.cells
      go_wp2_with fail
      refine (HBB.out _ HIB1.out).mono ?_
      rintro e w2 ⟨rfl, hb2⟩
      have HMA2 : Hid (MB w2 w.heap.size a sa) := HMA1.out.below hb2
      have HMB2 : Hid (MB w2 (w.heap.size + 1) b sb) := HMB1.out.below hb2
      have HB4 : Hid (Below w.heap.size w w2) := HB3.out.trans (hb2.mono HB3.out.size)
      clear hb2 d0 d1 d2 d3 d4 d5 d6 d7 d8 d9 d10 d11 d12
      have HIA2 : Hid (MIn w2 a sa) := HIA.out.below HB4.out (Nat.le_refl _)
      have HIB2 : Hid (MIn w2 b sb) := HIB.out.below HB4.out (Nat.le_refl _)
      obtain ⟨d0, d1, d2, d3, d4, d5, d6, d7, d8, d9, d10, d11, d12⟩ := HMB2.out.cells
      obtain ⟨c0, c1, c2, c3, c4, c5, c6, c7, c8, c9, c10, c11, c12⟩ := HMA2.out.cells
      go_wp2_with fail
      refine (HSM.out _ HIA2.out HIB2.out).mono ?_
      rintro e w3 ⟨rfl, hb3⟩
      have HB5 : Hid (Below w.heap.size w w3) := HB4.out.trans (hb3.mono HB4.out.size)
      clear hb3 d0 d1 d2 d3 d4 d5 d6 d7 d8 d9 d10 d11 d12 c0 c1 c2 c3 c4 c5 c6 c7 c8 c9 c10 c11 c12
      have hq : (za.toList == zb.toList) = qb := HEQ.out
      cases qb
      all_goals
        go_wp2_with fail
        refine (wawake_ok _).mono ?_
        rintro e w9 ⟨rfl, hb9⟩
        have HB9 : Hid (Below w.heap.size w w9) := HB5.out.trans (hb9.mono HB5.out.size)
        clear hb9
        go_wp2
        go_ret
        exact ⟨rfl, HB9.out⟩
    · rw [hvb] at HBB
      clear hva hvb ma la HCA HCB
      generalize mk (msgL a) = za at HBA
      go_wp2_with fail
      refine (HBA.out _ HIA1.out).mono ?_
      rintro e w1 ⟨rfl, hb1⟩
      have HMB1 : Hid (MB w1 (w.heap.size + 1) b sb) := HM2.out.below hb1
      have HB3 : Hid (Below w.heap.size w w1) := HB2.out.trans (hb1.mono HB2.out.size)
      clear hb1 d0 d1 d2 d3 d4 d5 d6 d7 d8 d9 d10 d11 d12
      have HIB1 : Hid (MIn w1 b sb) := HIB.out.below HB3.out (Nat.le_refl _)
      obtain ⟨d0, d1, d2, d3, d4, d5, d6, d7, d8, d9, d10, d11, d12⟩ := HMB1.out.cells
      go_wp2_with fail
      refine (HBB.out _ HIB1.out).mono ?_
      rintro e w2 ⟨rfl, hb2⟩
      have HB4 : Hid (Below w.heap.size w w2) := HB3.out.trans (hb2.mono HB3.out.size)
      clear hb2 d0 d1 d2 d3 d4 d5 d6 d7 d8 d9 d10 d11 d12
      rcases hkb with rfl | rfl
      all_goals
        go_wp2_with fail
        refine (wawake_ok _).mono ?_
        rintro e w9 ⟨rfl, hb9⟩
        have HB9 : Hid (Below w.heap.size w w9) := HB4.out.trans (hb9.mono HB4.out.size)
        clear hb9
        go_wp2
        go_ret
        exact ⟨rfl, HB9.out⟩
  · rw [hva] at HBA
    obtain ⟨zb, kb, hvb⟩ : ∃ zb kb, bytesW b = .tuple #[.string zb, .int .i64 kb] := by
      rcases HCB.out with ⟨_, _, h⟩ | ⟨_, k, _, h⟩
      · exact ⟨_, _, h⟩
      · exact ⟨_, _, h⟩
    rw [hvb] at HBB
    clear hva hvb HCA HCB
    go_wp2_with fail
    refine (HBA.out _ HIA1.out).mono ?_
    rintro e w1 ⟨rfl, hb1⟩
    have HMB1 : Hid (MB w1 (w.heap.size + 1) b sb) := HM2.out.below hb1
    have HB3 : Hid (Below w.heap.size w w1) := HB2.out.trans (hb1.mono HB2.out.size)
    clear hb1 d0 d1 d2 d3 d4 d5 d6 d7 d8 d9 d10 d11 d12
    have HIB1 : Hid (MIn w1 b sb) := HIB.out.below HB3.out (Nat.le_refl _)
    obtain ⟨d0, d1, d2, d3, d4, d5, d6, d7, d8, d9, d10, d11, d12⟩ := HMB1.out.cells
    go_wp2_with fail
    refine (HBB.out _ HIB1.out).mono ?_
    rintro e w2 ⟨rfl, hb2⟩
    have HB4 : Hid (Below w.heap.size w w2) := HB3.out.trans (hb2.mono HB3.out.size)
    clear hb2 d0 d1 d2 d3 d4 d5 d6 d7 d8 d9 d10 d11 d12
    rcases hka with rfl | rfl
    all_goals
      go_wp2_with fail
      refine (wawake_ok _).mono ?_
      rintro e w9 ⟨rfl, hb9⟩
      have HB9 : Hid (Below w.heap.size w w9) := HB4.out.trans (hb9.mono HB4.out.size)
      clear hb9
      go_wp2
      go_ret
      exact ⟨rfl, HB9.out⟩
end Go.Proofs.Ytalpbnkmppdgdaa
