/- SumsTell: the law's walk. -/
import Derived.Test.YtofjkopfldgkcaaEa
namespace Go.Proofs.Ytofjkopfldgkcaa
open Go.RowKit
set_option linter.unusedVariables false

theorem hash7 (s : ByteArray) (w : World) (hs : s.size ≤ 140737488351232) : Calls Try.prog 12 #[.string s, .int .i64 7] w fun e w' => e = .returned (.int .i64 (hashOf (BL s) 7 : Nat)) ∧ Below w.heap.size w w' :=
  hash s 7 7 w hs (by decide)
set_option maxRecDepth 20000 in
theorem sumsTell_awake (s : ByteArray) (at_ by_ : Int) (w : World) (h : s.size = 0 ∨ 4096 < s.size ∨ by_ % 256 = 0) :
    Calls Try.prog 8 #[.string s, .int .i64 at_, .int .i64 by_] w fun e w' => e = .returned (.bool true) ∧ Below w.heap.size w w' := by
  have b := i64_and255 by_
  by_cases h0 : s.size = 0
  · have e0 : ((s.size : Int) == 0) = true := by rw [h0]; rfl
    go_enter Try.func8, Try.ntmps8
    go_wp2_with fail
    refine (awake _).mono ?_
    rintro e w1 ⟨rfl, hb1⟩
    go_wp2
    go_ret
    exact ⟨rfl, hb1⟩
  · have e0 : ((s.size : Int) == 0) = false := by rw [beq_eq_false_iff_ne]; omega
    by_cases h1 : 4096 < s.size
    · have e1 : (4096 : Int) < (s.size : Int) := by omega
      go_enter Try.func8, Try.ntmps8
      go_wp2_with fail
      refine (awake _).mono ?_
      rintro e w1 ⟨rfl, hb1⟩
      go_wp2
      go_ret
      exact ⟨rfl, hb1⟩
    · have e1 : ¬ ((4096 : Int) < (s.size : Int)) := by omega
      have e2 : by_ % 256 = 0 := by omega
      rw [e2] at b
      clear h
      go_enter Try.func8, Try.ntmps8
      go_wp2_with fail
      refine (awake _).mono ?_
      rintro e w1 ⟨rfl, hb1⟩
      go_wp2
      go_ret
      exact ⟨rfl, hb1⟩
set_option maxRecDepth 20000 in
set_option maxHeartbeats 1000000 in
theorem sumsTell_main (s : ByteArray) (at_ by_ : Int) (w : World) (h0 : 0 < s.size) (h1 : s.size ≤ 4096) (h2 : by_ % 256 ≠ 0) (hat : -9223372036854775808 ≤ at_ ∧ at_ < 9223372036854775808) :
    Calls Try.prog 8 #[.string s, .int .i64 at_, .int .i64 by_] w fun e w' => e = .returned (.bool true) ∧ Below w.heap.size w w' := by
  have b := i64_and255 by_
  obtain ⟨y, hy⟩ : ∃ y : Nat, (y : Int) = by_ % 256 := ⟨(by_ % 256).toNat, by omega⟩
  rw [← hy] at b
  have hyl : y < 256 := by omega
  have hy0 : ((y : Int) == 0) = false := by simp; omega
  have hym : (y : Int) % 256 = (y : Int) := by omega
  have e0 : ((s.size : Int) == 0) = false := by rw [beq_eq_false_iff_ne]; omega
  have e1 : ¬ ((4096 : Int) < (s.size : Int)) := by omega
  have hB := BL_length s
  obtain ⟨k, hk⟩ : ∃ k : Nat, k = (at_.tmod (s.size : Int)).natAbs := ⟨_, rfl⟩
  have hkl : k < s.size := by
    rw [hk]
    have h3 := Int.tmod_lt_of_pos at_ (show (0 : Int) < (s.size : Int) by omega)
    have h4 := Int.lt_tmod_of_pos at_ (show (0 : Int) < (s.size : Int) by omega)
    omega
  have hun := unlike_set (BL s) k y (BL_lt s) (by omega) hyl (by omega)
  obtain ⟨x, hx⟩ : ∃ x, (BL s).getD k 0 = x := ⟨_, rfl⟩
  have hxl : x < 256 := by rw [← hx]; exact getD_lt (BL_lt s) k
  rw [hx] at hun
  obtain ⟨z, hz⟩ : ∃ z, x ^^^ y = z := ⟨_, rfl⟩
  have hxy := u8_xor_nat x y hxl hyl
  rw [hz] at hun hxy
  obtain ⟨l', hl'⟩ : ∃ l', (BL s).set k z = l' := ⟨_, rfl⟩
  rw [hl'] at hun
  have hlen : l'.length = s.size := by rw [← hl']; simp [hB]
  have hBt := BL_toBA l' hun.rb
  have hts := toBA_size l'
  have hc1 : crcOf (BL s) ≠ crcOf l' := crcOf_other hun
  have hc2 : hashOf (BL s) 7 ≠ hashOf l' 7 := hashOf_other hun 7
  obtain ⟨c, hc⟩ : ∃ c, crcOf (BL s) = c := ⟨_, rfl⟩
  obtain ⟨c', hc'⟩ : ∃ c', crcOf l' = c' := ⟨_, rfl⟩
  obtain ⟨d, hd⟩ : ∃ d, hashOf (BL s) 7 = d := ⟨_, rfl⟩
  obtain ⟨d', hd'⟩ : ∃ d', hashOf l' 7 = d' := ⟨_, rfl⟩
  rw [hc, hc'] at hc1
  rw [hd, hd'] at hc2
  have hC := fun w1 : World => crc s w1 (by omega)
  have hC' := fun w1 : World => crc (toBA l') w1 (by omega)
  have hH := fun w1 : World => hash7 s w1 (by omega)
  have hH' := fun w1 : World => hash7 (toBA l') w1 (by omega)
  simp only [hc] at hC
  simp only [hBt, hc'] at hC'
  simp only [hd] at hH
  simp only [hBt, hd'] at hH'
  have HC : Hid _ := hC
  have HC' : Hid _ := hC'
  have HH : Hid _ := hH
  have HH' : Hid _ := hH'
  have n1 : ((c : Int) != (c' : Int)) = true := by simp; omega
  have n2 : ((d : Int) != (d' : Int)) = true := by simp; omega
  obtain ⟨cap, w1, hcv, htb, hbel, hsz⟩ := bytes_of s w
  have hcell := (htb k (by omega)).1
  have hfree := (htb k (by omega)).2
  rw [hx] at hcell
  have htb2 : TB (w1.setCell ⟨w.heap.size, k, none⟩ (.int .u8 (z : Nat))) w.heap.size l' := by
    have := htb.set k z (by omega)
    rw [hl'] at this
    exact this
  have hback := bytes_back l' w.heap.size cap _ htb2 hun.rb
  rw [hlen] at hback
  have HBE : Hid (Below w.heap.size w (w1.setCell ⟨w.heap.size, k, none⟩ (.int .u8 (z : Nat)))) := hbel.setCell (Nat.le_refl _) (p := ⟨w.heap.size, k, none⟩) _
  have hrem : (s.size : Int) ≠ 0 := by omega
  clear hC hC' hH hH' hc hc' hd hd' hBt hts hun htb htb2 hbel hl' hx hz hB hc1 hc2 h2 hy
  by_cases hneg : at_.tmod (s.size : Int) < 0
  · have hk2 : wrap64 (0 - at_.tmod (s.size : Int)) = (k : Int) := by rw [IntWalk.wrap64_in _ ⟨by omega, by omega⟩]; omega
    have hk3 : wrap64 (- at_.tmod (s.size : Int)) = (k : Int) := by rw [IntWalk.wrap64_in _ ⟨by omega, by omega⟩]; omega
    clear hk
    go_enter Try.func8, Try.ntmps8
    go_wp2_with fail
    generalize w1.setCell ⟨w.heap.size, k, none⟩ (.int .u8 (z : Nat)) = W at HBE hback ⊢
    clear hcv hcell hfree hback
    refine (HC.out _).mono ?_
    rintro e w2 ⟨rfl, hb2⟩
    have H2 : Hid (Below w.heap.size w w2) := HBE.out.trans (hb2.mono HBE.out.size)
    clear hb2
    go_wp2_with fail
    refine (HC'.out _).mono ?_
    rintro e w3 ⟨rfl, hb3⟩
    have H3 : Hid (Below w.heap.size w w3) := H2.out.trans (hb3.mono H2.out.size)
    clear hb3
    go_wp2_with fail
    refine (HH.out _).mono ?_
    rintro e w4 ⟨rfl, hb4⟩
    have H4 : Hid (Below w.heap.size w w4) := H3.out.trans (hb4.mono H3.out.size)
    clear hb4
    go_wp2_with fail
    refine (HH'.out _).mono ?_
    rintro e w5 ⟨rfl, hb5⟩
    have H5 : Hid (Below w.heap.size w w5) := H4.out.trans (hb5.mono H4.out.size)
    clear hb5
    go_wp2_with fail
    refine (awake _).mono ?_
    rintro e w6 ⟨rfl, hb6⟩
    have H6 : Hid (Below w.heap.size w w6) := H5.out.trans (hb6.mono H5.out.size)
    clear hb6
    go_wp2
    go_ret
    exact ⟨rfl, H6.out⟩
  · have hk2 : at_.tmod (s.size : Int) = (k : Int) := by omega
    clear hk
    go_enter Try.func8, Try.ntmps8
    go_wp2_with fail
    generalize w1.setCell ⟨w.heap.size, k, none⟩ (.int .u8 (z : Nat)) = W at HBE hback ⊢
    clear hcv hcell hfree hback
    refine (HC.out _).mono ?_
    rintro e w2 ⟨rfl, hb2⟩
    have H2 : Hid (Below w.heap.size w w2) := HBE.out.trans (hb2.mono HBE.out.size)
    clear hb2
    go_wp2_with fail
    refine (HC'.out _).mono ?_
    rintro e w3 ⟨rfl, hb3⟩
    have H3 : Hid (Below w.heap.size w w3) := H2.out.trans (hb3.mono H2.out.size)
    clear hb3
    go_wp2_with fail
    refine (HH.out _).mono ?_
    rintro e w4 ⟨rfl, hb4⟩
    have H4 : Hid (Below w.heap.size w w4) := H3.out.trans (hb4.mono H3.out.size)
    clear hb4
    go_wp2_with fail
    refine (HH'.out _).mono ?_
    rintro e w5 ⟨rfl, hb5⟩
    have H5 : Hid (Below w.heap.size w w5) := H4.out.trans (hb5.mono H4.out.size)
    clear hb5
    go_wp2_with fail
    refine (awake _).mono ?_
    rintro e w6 ⟨rfl, hb6⟩
    have H6 : Hid (Below w.heap.size w w6) := H5.out.trans (hb6.mono H5.out.size)
    clear hb6
    go_wp2
    go_ret
    exact ⟨rfl, H6.out⟩
theorem sumsTell_any (s : ByteArray) (at_ by_ : Int) (w : World) (hs : s.size ≤ 140737488351232) (w1 : (Lit.int .i64 at_).wf = true) (w2 : (Lit.int .i64 by_).wf = true) :
    Calls Try.prog 8 #[.string s, .int .i64 at_, .int .i64 by_] w fun e w' => e = .returned (.bool true) ∧ Below w.heap.size w w' := by
  by_cases h : s.size = 0 ∨ 4096 < s.size ∨ by_ % 256 = 0
  · exact sumsTell_awake s at_ by_ w h
  · refine sumsTell_main s at_ by_ w (by omega) (by omega) (by omega) ?_
    simp [Lit.wf, IntKind.min, IntKind.max, IntKind.signed, IntKind.bits] at w1
    omega
end Go.Proofs.Ytofjkopfldgkcaa
