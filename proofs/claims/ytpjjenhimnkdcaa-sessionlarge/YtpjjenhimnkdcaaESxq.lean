/- Layer 15: Ask of a table without batches; the document's Large. -/
import Derived.Test.YtpjjenhimnkdcaaESxp
import Derived.Test.YtpjjenhimnkdcaaESxm
namespace Go.Proofs.Ytpjjenhimnkdcaa
open Go.RowKit Go.Maps
set_option linter.unusedVariables false
set_option maxRecDepth 20000

theorem mayBe0 (w : World) : Calls Try.prog 27 #[.agg #[.int .i64 0, .int .i64 0]] w fun e w' => e = .returned (.bool true) ∧ Below w.heap.size w w' := by
  have HA := hide (below_a w (.cells #[.int .i64 0, .int .i64 0] 30))
  have HW : Hid (∀ W, Calls Try.prog 19 #[.int .i64 0, .int .i64 0, .int .i64 2147483647] W fun e w' => e = .returned (.bool true) ∧ w' = W) := fun W => within_ok 0 0 2147483647 W
  go_enter Try.func27, Try.ntmps27
  go_wp2_with fail
  refine (HW.out _).mono ?_
  rintro e w1 ⟨rfl, hw⟩
  obtain rfl := hw.symm
  clear hw
  go_wp2_with fail
  refine (HW.out _).mono ?_
  rintro e w1 ⟨rfl, hw⟩
  obtain rfl := hw.symm
  clear hw
  go_wp2
  go_ret
  exact ⟨rfl, HA.out⟩
def askV (f : Bool) : Value := if f then .tuple #[.agg #[.int .i64 0, .int .i64 0, .int .i64 0, .int .i64 0, .int .i64 0, .slice none 0 0], .int .i64 3, .int .i64 0] else .tuple #[.agg #[.int .i64 0, .int .i64 0, .int .i64 0, .int .i64 0, .int .i64 0, .slice none 0 0], .int .i64 0, .int .i64 152]
set_option maxHeartbeats 4000000 in
theorem ask_ok (w : World) (t mb q : Nat) (a : Option Addr) (c : Nat) (L : List Rec) (h : TS w t mb q [] []) (hq : 1 ≤ q) (hin : RIn w a L) (hsz : Sized L) (hoff : Off L) (hlen : L.length ≤ 1000) :
    Calls Try.prog 16 #[.pointer (some ⟨t, 0, none⟩), .agg #[.int .i64 0, .int .i64 0], .slice a L.length c, .int .i64 0] w fun e w' => e = .returned (askV (fitB L)) ∧ Below w.heap.size w w' := by
  obtain ⟨U, hU⟩ : ∃ U, w.heap.size = U := ⟨_, rfl⟩
  have HA : Below w.heap.size w ((w.alloc (.cells #[.int .i64 0, .int .i64 0] 30)).alloc (.cells #[.int .i64 0, .int .i64 0, .int .i64 0, .int .i64 0, .int .i64 0, .slice none 0 0] 33)) := ((Below.refl _ _).alloc (Nat.le_refl _) _).alloc (by simp) _
  have hbU : ((w.alloc (.cells #[.int .i64 0, .int .i64 0] 30)).alloc (.cells #[.int .i64 0, .int .i64 0, .int .i64 0, .int .i64 0, .int .i64 0, .slice none 0 0] 33)).heap[w.heap.size]? = some (.cells #[.int .i64 0, .int .i64 0] 30 (0, 0)) := by
    rw [(below_a _ _).block _ (by simp)]; exact heap_alloc_new _ _
  have hbU1 : ((w.alloc (.cells #[.int .i64 0, .int .i64 0] 30)).alloc (.cells #[.int .i64 0, .int .i64 0, .int .i64 0, .int .i64 0, .int .i64 0, .slice none 0 0] 33)).heap[w.heap.size + 1]? = some (.cells #[.int .i64 0, .int .i64 0, .int .i64 0, .int .i64 0, .int .i64 0, .slice none 0 0] 33 (0, 0)) := by
    have hz : (w.alloc (.cells #[.int .i64 0, .int .i64 0] 30)).heap.size = w.heap.size + 1 := by simp
    rw [← hz]; exact heap_alloc_new _ _
  have hT := h.below HA
  rw [hU] at hbU hbU1
  generalize hW : ((w.alloc (.cells #[.int .i64 0, .int .i64 0] 30)).alloc (.cells #[.int .i64 0, .int .i64 0, .int .i64 0, .int .i64 0, .int .i64 0, .slice none 0 0] 33)) = W at HA hbU hbU1 hT
  have HB : Hid (Below w.heap.size w W ∧ TS W t mb q [] [] ∧ W.heap[U]? = some (.cells #[.int .i64 0, .int .i64 0] 30 (0, 0)) ∧ W.heap[U + 1]? = some (.cells #[.int .i64 0, .int .i64 0, .int .i64 0, .int .i64 0, .int .i64 0, .slice none 0 0] 33 (0, 0))) := ⟨HA, hT, hbU, hbU1⟩
  have HG := hide (given_yes t W hT.cells.1)
  have HMB : Hid (∀ W, Calls Try.prog 27 #[.agg #[.int .i64 0, .int .i64 0]] W fun e w' => e = .returned (.bool true) ∧ Below W.heap.size W w') := fun W => mayBe0 W
  have HFT : Hid (∀ W, Below w.heap.size w W → Calls Try.prog 28 #[.slice a L.length c] W fun e w' => e = .returned (.bool (fitB L)) ∧ Below W.heap.size W w') := fun W hb => fit_ok a c L W (hin.below hb (Nat.le_refl _)) hsz hoff hlen
  have HFU : Hid (∀ W, TS W t mb q [] [] → Calls Try.prog 25 #[.pointer (some ⟨t, 0, none⟩)] W fun e w' => e = .returned (.bool false) ∧ Below W.heap.size W w') := fun W h => by
    have := full_ok W t mb q [] [] h
    rw [decide_eq_false (show ¬ q ≤ ([] : List Wt).length by simp; omega)] at this
    exact this
  have HLK : Hid (∀ W, TS W t mb q [] [] → (Instr.lookup 52 (.map (some mb)) (.agg #[.int .i64 0, .int .i64 0]) true).run Try.prog W = .ok (.tuple #[.agg #[.int .i64 0, .int .i64 0, .int .i64 0, .int .i64 0, .int .i64 0, .slice none 0 0], .bool false]) W) := fun W hW => (look_m hW.map 0 0 (by decide) (by decide) (by decide) (by decide)).1
  obtain ⟨n, hn⟩ : ∃ n, L.length = n := ⟨_, rfl⟩
  rw [hn] at HFT ⊢
  generalize fitB L = f at HFT ⊢
  have HUW : Hid (w.heap.size = U) := hU
  have hUU : w.heap.size ≤ U + 1 := by omega
  have HUU := hide hUU
  obtain ⟨z0, z1⟩ : W.cell? ⟨U, 0, none⟩ = some (.int .i64 0) ∧ W.cell? ⟨U, 1, none⟩ = some (.int .i64 0) := ⟨by simp [World.cell?, hbU], by simp [World.cell?, hbU]⟩
  clear hin hsz hoff hlen h hT HA hbU hbU1 hn hUU
  go_enter Try.func16, Try.ntmps16
  go_wp2_with fail
  try rw [hW]
  try rw [hU]
  clear hW hU
  refine HG.out.mono ?_
  rintro e w0 ⟨rfl, hw0⟩
  obtain rfl := hw0.symm
  clear HG hw0
  go_wp2_with fail
  refine (HMB.out _).mono ?_
  rintro e w1 ⟨rfl, hb1⟩
  have HB1 : Hid (Below w.heap.size w w1 ∧ TS w1 t mb q [] [] ∧ w1.heap[U]? = some (.cells #[.int .i64 0, .int .i64 0] 30 (0, 0)) ∧ w1.heap[U + 1]? = some (.cells #[.int .i64 0, .int .i64 0, .int .i64 0, .int .i64 0, .int .i64 0, .slice none 0 0] 33 (0, 0))) := ⟨HB.out.1.trans (hb1.mono HB.out.1.size), HB.out.2.1.below hb1, (hb1.block U (lt_of_block HB.out.2.2.1)).trans HB.out.2.2.1, (hb1.block _ (lt_of_block HB.out.2.2.2)).trans HB.out.2.2.2⟩
  clear hb1 HB z0 z1
  obtain ⟨z0, z1⟩ : w1.cell? ⟨U, 0, none⟩ = some (.int .i64 0) ∧ w1.cell? ⟨U, 1, none⟩ = some (.int .i64 0) := ⟨by simp [World.cell?, HB1.out.2.2.1], by simp [World.cell?, HB1.out.2.2.1]⟩
  have c2 := HB1.out.2.1.cells.2.2
  have c21 := fun o => cellB (below_ad w1 o) c2
  have z01 := fun o => cellB (below_ad w1 o) z0
  have z11 := fun o => cellB (below_ad w1 o) z1
  have l0 := HLK.out _ (HB1.out.2.1.below (below_d w1))
  have l1 := fun o => HLK.out _ (HB1.out.2.1.below (below_ad w1 o))
  go_upto_region 3 with fail
  go_region
  clear c2 c21 z0 z1 z01 z11 l0 l1
  have HB2 : Hid (Below w.heap.size w (w1.alloc (.cells #[.int .i64 0, .int .i64 0, .int .i64 0, .int .i64 0, .int .i64 0, .slice none 0 0] 33)).drew ∧ TS (w1.alloc (.cells #[.int .i64 0, .int .i64 0, .int .i64 0, .int .i64 0, .int .i64 0, .slice none 0 0] 33)).drew t mb q [] [] ∧ (w1.alloc (.cells #[.int .i64 0, .int .i64 0, .int .i64 0, .int .i64 0, .int .i64 0, .slice none 0 0] 33)).drew.heap[U + 1]? = some (.cells #[.int .i64 0, .int .i64 0, .int .i64 0, .int .i64 0, .int .i64 0, .slice none 0 0] 33 (0, 0))) := by
    have hb := below_ad w1 (.cells #[.int .i64 0, .int .i64 0, .int .i64 0, .int .i64 0, .int .i64 0, .slice none 0 0] 33)
    exact ⟨HB1.out.1.trans (hb.mono HB1.out.1.size), HB1.out.2.1.below hb, (hb.block _ (lt_of_block HB1.out.2.2.2)).trans HB1.out.2.2.2⟩
  go_upto_region 6 with fail
  generalize (w1.alloc (.cells #[.int .i64 0, .int .i64 0, .int .i64 0, .int .i64 0, .int .i64 0, .slice none 0 0] 33)).drew = w2 at HB2
  clear HB1
  go_wp2_with fail
  refine (HFT.out _ HB2.out.1).mono ?_
  rintro e w3 ⟨rfl, hb3⟩
  have HB3 : Hid (Below w.heap.size w w3 ∧ TS w3 t mb q [] [] ∧ w3.heap[U + 1]? = some (.cells #[.int .i64 0, .int .i64 0, .int .i64 0, .int .i64 0, .int .i64 0, .slice none 0 0] 33 (0, 0))) := ⟨HB2.out.1.trans (hb3.mono HB2.out.1.size), HB2.out.2.1.below hb3, (hb3.block _ (lt_of_block HB2.out.2.2)).trans HB2.out.2.2⟩
  clear hb3 HB2
  cases f
  · obtain ⟨y0, y1, y2, y3, y4, y5⟩ := cells6 HB3.out.2.2
    have hfr := frozen0 HB3.out.2.2
    go_wp2
    refine bodyPost_ret (v := ?v1) ?c1 rfl ?c2
    case c1 =>
      rw [results_cell_tmp2 rfl]
      go_simp
      all_goals exact rfl
    case c2 =>
      refine ⟨rfl, ?_⟩
      simp only [bl_set' HUU.out]
      exact HB3.out.1
  · go_wp2_with fail
    refine (HFU.out _ HB3.out.2.1).mono ?_
    rintro e w4 ⟨rfl, hb4⟩
    have HB4 : Hid (Below w.heap.size w w4 ∧ w4.heap[U + 1]? = some (.cells #[.int .i64 0, .int .i64 0, .int .i64 0, .int .i64 0, .int .i64 0, .slice none 0 0] 33 (0, 0))) := ⟨HB3.out.1.trans (hb4.mono HB3.out.1.size), (hb4.block _ (lt_of_block HB3.out.2.2)).trans HB3.out.2.2⟩
    clear hb4 HB3
    obtain ⟨y0, y1, y2, y3, y4, y5⟩ := cells6 HB4.out.2
    have hfr := frozen0 HB4.out.2
    go_wp2
    refine bodyPost_ret (v := ?v2) ?c3 rfl ?c4
    case c3 =>
      rw [results_cell_tmp2 rfl]
      go_simp
      all_goals exact rfl
    case c4 =>
      refine ⟨rfl, ?_⟩
      simp only [bl_set' HUU.out]
      exact HB4.out.1
set_option maxHeartbeats 4000000 in
theorem rlarge_ok (a : Option Addr) (c : Nat) (L : List Rec) (w : World) (hin : RIn w a L) (hsz : Sized L) (hoff : Off L) (hlen : L.length ≤ 1000) :
    Calls Try.prog 17 #[.slice a L.length c] w fun e w' => e = .returned (.bool (!fitB L)) ∧ Below w.heap.size w w' := by
  have HFB : Hid (fitB L = ((decide ((1 : Int) ≤ (L.length : Nat)) && decide (((L.length : Nat) : Int) ≤ 256)) && (comes L 0 && decide ((recsL 0 L).length ≤ 65536)))) := rfl
  have HIN : Hid (RIn w a L) := hin
  have HOF : Hid (Off L) := hoff
  have HBY : Hid (∀ n, L.length = n → Calls Try.prog 29 #[.slice a n c, .int .i64 0] w fun e w' => e = .returned (bytesV L 0) ∧ Below w.heap.size w w') := fun n hn => by subst hn; exact rbytes_ok a c L 0 w hin hsz (by omega)
  obtain ⟨n, hn⟩ : ∃ n, L.length = n := ⟨_, rfl⟩
  have HN : Hid (L.length = n) := hn
  rw [hn] at HFB hlen ⊢
  obtain ⟨rb, hrb⟩ : ∃ rb, fitB L = rb := ⟨_, rfl⟩
  rw [hrb] at HFB ⊢
  clear hin hsz hoff hn hrb
  by_cases h1 : (n : Int) < 1
  · have HV : Hid (rb = false) := by show rb = false; rw [HFB.out, decide_eq_false (by omega)]; rfl
    go_enter Try.func17, Try.ntmps17
    go_wp2
    go_ret
    exact ⟨by rw [HV.out]; rfl, Below.refl _ _⟩
  by_cases h2 : (256 : Int) < (n : Int)
  · have HV : Hid (rb = false) := by show rb = false; rw [HFB.out, decide_eq_false (show ¬ ((n : Nat) : Int) ≤ 256 by omega), Bool.and_false]; rfl
    go_enter Try.func17, Try.ntmps17
    go_wp2
    go_ret
    exact ⟨by rw [HV.out]; rfl, Below.refl _ _⟩
  have HFC : Hid (rb = (comes L 0 && decide ((recsL 0 L).length ≤ 65536))) := by show rb = _; rw [HFB.out, decide_eq_true (show (1 : Int) ≤ (n : Nat) by omega), decide_eq_true (show ((n : Nat) : Int) ≤ 256 by omega)]; rfl
  clear HFB
  go_enter Try.func17, Try.ntmps17
  go_wp2
  go_loopw [3] (fun i wr => ∃ (k : Nat), i = .int .i64 (k : Nat) ∧ k ≤ n ∧ wr = w) (fun i _ => n - (intOf i).toNat)
  case atStart => exact ⟨0, rfl, Nat.zero_le _, rfl⟩
  case round =>
    obtain ⟨k, rfl, hk, hwr⟩ := hrel
    subst hwr
    by_cases hlt : k < n
    · obtain ⟨r, hr⟩ : ∃ r, L[k]? = some r := ⟨L[k]'(by rw [HN.out]; exact hlt), List.getElem?_eq_getElem _⟩
      have ho := HOF.out _ _ hr
      obtain ⟨sb, so, rfl, hsb, c0, c1, c2, c3⟩ := HIN.out _ _ hr
      rw [ho] at c0
      have hlti : (k : Int) < (n : Int) := by omega
      clear hr ho c1 c2 c3
      go_wp2
      go_roundw
      case rel => exact ⟨k + 1, by go_num, by omega, by first | trivial | rfl⟩
      case measure => simp [intOf]; omega
    · have hlti : ¬ (k : Int) < (n : Int) := by omega
      clear hlt hk
      have HB := HBY.out n HN.out
      unfold bytesV at HB
      rw [show offB 0 = true from rfl, Bool.true_and] at HB
      cases hc : comes L 0 with
      | true =>
        rw [hc] at HB HFC
        simp only [if_true] at HB
        have HBH := hide HB
        obtain ⟨z, hz⟩ : ∃ z, mk (recsL 0 L) = z := ⟨_, rfl⟩
        have hzs : (recsL 0 L).length = z.size := by rw [← hz, mk_size]
        rw [hz] at HBH
        rw [hzs] at HFC
        have hd : decide ((65536 : Int) < ((z.size : Nat) : Int)) = !decide (z.size ≤ 65536) := by
          by_cases hs : z.size ≤ 65536
          · rw [decide_eq_true hs, decide_eq_false (by omega)]; rfl
          · rw [decide_eq_false hs, decide_eq_true (by omega)]; rfl
        have HDD := hide hd
        clear HB hc hz hzs hd
        go_wp2_with fail
        refine HBH.out.mono ?_
        rintro e w2 ⟨rfl, hb2⟩
        have HB2 := hide hb2
        clear hb2 HBH
        go_wp2
        go_ret
        exact ⟨by rw [HFC.out, Bool.true_and, ← HDD.out]; rfl, HB2.out⟩
      | false =>
        rw [hc] at HB HFC
        simp only [Bool.false_eq_true, if_false] at HB
        have HBH := hide HB
        have HV : Hid (rb = false) := by show rb = false; rw [HFC.out]; rfl
        clear HB hc
        go_wp2_with fail
        refine HBH.out.mono ?_
        rintro e w2 ⟨rfl, hb2⟩
        have HB2 := hide hb2
        clear hb2 HBH
        go_wp2
        go_ret
        exact ⟨by rw [HV.out]; rfl, HB2.out⟩
end Go.Proofs.Ytpjjenhimnkdcaa
