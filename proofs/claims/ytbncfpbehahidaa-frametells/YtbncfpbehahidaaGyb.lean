/- FrameTells: the law's walk. -/
import Derived.Test.YtbncfpbehahidaaGy
import Derived.Test.YtbncfpbehahidaaGxx
import Derived.Test.YtbncfpbehahidaaGea
namespace Go.Proofs.Ytbncfpbehahidaa
open Go.RowKit
set_option linter.unusedVariables false
set_option maxRecDepth 20000

theorem dif_set (l : List Nat) (k y : Nat) (hl : Bytes l) (hk : k < l.length) (hy : y < 256) (hy0 : y ≠ 0) : Dif (toBA l) (toBA (l.set k (l.getD k 0 ^^^ y))) k ∧ Bytes (l.set k (l.getD k 0 ^^^ y)) := by
  have u := S2.unlike_set l k y hl hk hy hy0
  refine ⟨⟨by rw [toBA_size, toBA_size, u.len], by rw [toBA_size]; exact hk, ?_, fun i hi => ?_⟩, u.rb⟩
  · rw [bt_toBA _ u.rb, bt_toBA _ hl]; exact fun e => u.other e.symm
  · rw [bt_toBA _ u.rb, bt_toBA _ hl]; exact (u.same i hi).symm
/-- A frame in which a byte is another one, asked of Unpack. -/
theorem tells_is (s : ByteArray) (hs : s.size ≤ 4096) (k y : Nat) (hk : k < (packFr s).length) (h7 : 7 ≤ k) (h11 : 0 < s.size → 11 ≤ k) (hy : y < 256) (hy0 : y ≠ 0) :
    ∃ E : Nat, E ≠ 0 ∧ ∀ W, Calls Try.prog 9 #[.string (toBA ((packFr s).set k ((packFr s).getD k 0 ^^^ y))), .int .i64 1048576] W fun e w' => e = .returned (.tuple #[.string ⟨#[]⟩, .int .i64 0, .int .i64 (E : Nat)]) ∧ Below W.heap.size W w' := by
  obtain ⟨hd, hb⟩ := dif_set (packFr s) k y (packFr_bytes s) hk hy hy0
  have hl := packFr_length s (by omega)
  have h := frame_tells s hs _ k hd h7 h11
  refine ⟨_, h, fun W => ?_⟩
  have hu := funpack_ok (toBA ((packFr s).set k ((packFr s).getD k 0 ^^^ y))) 1048576 W (by omega) (by rw [toBA_size, List.length_set]; omega)
  unfold unpackF at hu
  rw [if_neg h] at hu
  exact hu
set_option maxHeartbeats 4000000 in
theorem frameTells_walk (s : ByteArray) (at_ by_ : Int) (w : World) (hs0 : s.size ≤ 140737488351232) (hat : (Lit.int .i64 at_).wf = true) (hby : (Lit.int .i64 by_).wf = true) :
    Calls Try.prog 6 #[.string s, .int .i64 at_, .int .i64 by_] w fun e w' => e = .returned (.bool true) ∧ Below w.heap.size w w' := by
  have b := S2.i64_and255 by_
  obtain ⟨y, hy⟩ : ∃ y : Nat, (y : Int) = by_ % 256 := ⟨(by_ % 256).toNat, by omega⟩
  rw [← hy] at b
  have hyl : y < 256 := by omega
  have hym : (y : Int) % 256 = (y : Int) := by omega
  clear hy hat hby
  by_cases hbig : 4096 < s.size
  · have hbi : (4096 : Int) < (s.size : Int) := by omega
    have hbb : decide ((4096 : Int) < (s.size : Int)) = true := by simpa using hbi
    go_enter Try.func6, Try.ntmps6
    go_wp2_with fail
    refine (awake_ok _).mono ?_
    rintro e w3 ⟨rfl, hb3⟩
    have H3 : Hid (Below w.heap.size w w3) := hb3
    clear hb3
    go_wp2
    go_ret
    exact ⟨rfl, H3.out⟩
  · have hbi : ¬ (4096 : Int) < (s.size : Int) := by omega
    have hbb : decide ((4096 : Int) < (s.size : Int)) = false := by simpa using hbi
    by_cases hy0 : y = 0
    · have hy1 : ((y : Int) == 0) = true := by rw [hy0]; rfl
      clear hy0
      go_enter Try.func6, Try.ntmps6
      go_wp2_with fail
      refine (awake_ok _).mono ?_
      rintro e w3 ⟨rfl, hb3⟩
      have H3 : Hid (Below w.heap.size w w3) := hb3
      clear hb3
      go_wp2
      go_ret
      exact ⟨rfl, H3.out⟩
    · have hy1 : ((y : Int) == 0) = false := beq_eq_false_iff_ne.2 (by omega)
      have hs : s.size ≤ 1048576 := by omega
      have hs4 : s.size ≤ 4096 := by omega
      have HP : Hid (∀ W, Calls Try.prog 12 #[.string s] W fun e w' => e = .returned (.tuple #[.string (toBA (packFr s)), .int .i64 0]) ∧ Below W.heap.size W w') := fun W => pk s hs W
      have hpos : 15 ≤ (toBA (packFr s)).size := by have := packFr_ge s; rw [toBA_size]; omega
      have hl := packFr_length s hs
      have hzl : (toBA (packFr s)).size = (packFr s).length := toBA_size _
      obtain ⟨M, hM⟩ : ∃ M, at_.tmod ((toBA (packFr s)).size : Int) = M := ⟨_, rfl⟩
      have hMb := tmodB at_ (toBA (packFr s)).size (by omega)
      rw [hM] at hMb
      obtain ⟨k, hk⟩ : ∃ k, M.natAbs = k := ⟨_, rfl⟩
      have hkl : k < (packFr s).length := by clear hM b; omega
      have HT0 : Hid (7 ≤ k → (0 < s.size → 11 ≤ k) → ∃ E : Nat, E ≠ 0 ∧ ∀ W, Calls Try.prog 9 #[.string (toBA ((packFr s).set k ((packFr s).getD k 0 ^^^ y))), .int .i64 1048576] W fun e w' => e = .returned (.tuple #[.string ⟨#[]⟩, .int .i64 0, .int .i64 (E : Nat)]) ∧ Below W.heap.size W w') := fun h7 h11 => tells_is s hs4 k y hkl h7 h11 hyl hy0
      have hdif := dif_set (packFr s) k y (packFr_bytes s) hkl hyl hy0
      have hZB : S2.BL (toBA (packFr s)) = packFr s := bytesOf_toBA _ (packFr_bytes s)
      obtain ⟨Z, hZ⟩ : ∃ Z, toBA (packFr s) = Z := ⟨_, rfl⟩
      obtain ⟨l, hll⟩ : ∃ l, packFr s = l := ⟨_, rfl⟩
      rw [hZ] at HP hpos hzl hM hMb hZB
      rw [hll] at hl hzl hkl HT0 hdif hZB
      obtain ⟨x, hx⟩ : ∃ x, l.getD k 0 = x := ⟨_, rfl⟩
      have hxl : x < 256 := by rw [← hx, ← hZB]; exact S2.getD_lt (S2.BL_lt Z) k
      rw [hx] at HT0 hdif
      obtain ⟨z, hz⟩ : ∃ z, x ^^^ y = z := ⟨_, rfl⟩
      have hxy := u8_xor_nat x y hxl hyl
      rw [hz] at hdif hxy HT0
      obtain ⟨l', hl'⟩ : ∃ l', l.set k z = l' := ⟨_, rfl⟩
      rw [hl'] at hdif HT0
      obtain ⟨TT, hTT⟩ : ∃ TT, toBA l' = TT := ⟨_, rfl⟩
      rw [hTT] at HT0
      have HZ : Hid (S2.BL Z = l ∧ k < l.length ∧ l.getD k 0 = x ∧ l.set k z = l' ∧ (∀ q ∈ l', q < 256) ∧ l'.length = Z.size ∧ S2.toBA l' = TT) := ⟨hZB, hkl, hx, hl', hdif.2, by rw [← hl', List.length_set, hzl], hTT⟩
      have hMw : IntKind.i64.wrap M = M := by clear b hxy; rw [IntKind.wrap_i64]; omega
      have hz0 : ¬ (Z.size : Int) < 15 := by clear b hxy hM; omega
      have hzb : decide ((Z.size : Int) < 15) = false := by simpa using hz0
      have hz1 : ¬ (Z.size : Int) = 0 := by clear b hxy hM; omega
      have hki : (k : Int) < (Z.size : Int) := by clear b hxy hM; omega
      have hMk : M = (k : Int) ∨ (M < 0 ∧ 0 - M = (k : Int) ∧ -M = (k : Int)) := by clear hM b hxy; omega
      have hkw := wrapN k (by clear b hxy hM; omega)
      clear hZ hk hMb hl hpos hzl hkl hdif hZB hll hx hz hl' hTT hy0
      by_cases h7 : k < 7
      · have h7i : (k : Int) < 7 := by clear b hxy hM; omega
        have h7b : decide ((k : Int) < 7) = true := by simpa using h7i
        clear HT0
        rcases hMk with rfl | ⟨hneg, hMk, hMk2⟩
        · go_enter Try.func6, Try.ntmps6
          go_wp2_with fail
          refine (HP.out _).mono ?_
          rintro e w1 ⟨rfl, hb1⟩
          have H1 : Hid (Below w.heap.size w w1) := hb1
          clear hb1
          go_wp2_with fail
          refine (awake_ok _).mono ?_
          rintro e w3 ⟨rfl, hb3⟩
          have H3 : Hid (Below w.heap.size w w3) := H1.out.trans (hb3.mono H1.out.size)
          clear hb3
          go_wp2
          go_ret
          exact ⟨rfl, H3.out⟩
        · have hMi : decide (M < 0) = true := by simpa using hneg
          go_enter Try.func6, Try.ntmps6
          go_wp2_with fail
          refine (HP.out _).mono ?_
          rintro e w1 ⟨rfl, hb1⟩
          have H1 : Hid (Below w.heap.size w w1) := hb1
          clear hb1
          go_wp2_with fail
          refine (awake_ok _).mono ?_
          rintro e w3 ⟨rfl, hb3⟩
          have H3 : Hid (Below w.heap.size w w3) := H1.out.trans (hb3.mono H1.out.size)
          clear hb3
          go_wp2
          go_ret
          exact ⟨rfl, H3.out⟩
      · have h7i : ¬ (k : Int) < 7 := by clear b hxy hM; omega
        have h7b : decide ((k : Int) < 7) = false := by simpa using h7i
        by_cases h0 : 0 < s.size
        · have h0i : (0 : Int) < (s.size : Int) := by clear b hxy hM; omega
          have h0b : decide ((0 : Int) < (s.size : Int)) = true := by simpa using h0i
          by_cases h11 : k < 11
          · have h11i : (k : Int) < 11 := by clear b hxy hM; omega
            have h11b : decide ((k : Int) < 11) = true := by simpa using h11i
            clear HT0
            rcases hMk with rfl | ⟨hneg, hMk, hMk2⟩
            · go_enter Try.func6, Try.ntmps6
              go_wp2_with fail
              refine (HP.out _).mono ?_
              rintro e w1 ⟨rfl, hb1⟩
              have H1 : Hid (Below w.heap.size w w1) := hb1
              clear hb1
              go_wp2_with fail
              refine (awake_ok _).mono ?_
              rintro e w3 ⟨rfl, hb3⟩
              have H3 : Hid (Below w.heap.size w w3) := H1.out.trans (hb3.mono H1.out.size)
              clear hb3
              go_wp2
              go_ret
              exact ⟨rfl, H3.out⟩
            · have hMi : decide (M < 0) = true := by simpa using hneg
              go_enter Try.func6, Try.ntmps6
              go_wp2_with fail
              refine (HP.out _).mono ?_
              rintro e w1 ⟨rfl, hb1⟩
              have H1 : Hid (Below w.heap.size w w1) := hb1
              clear hb1
              go_wp2_with fail
              refine (awake_ok _).mono ?_
              rintro e w3 ⟨rfl, hb3⟩
              have H3 : Hid (Below w.heap.size w w3) := H1.out.trans (hb3.mono H1.out.size)
              clear hb3
              go_wp2
              go_ret
              exact ⟨rfl, H3.out⟩
          · have h11i : ¬ (k : Int) < 11 := by clear b hxy hM; omega
            have h11b : decide ((k : Int) < 11) = false := by simpa using h11i
            obtain ⟨E, hE, hT⟩ := HT0.out (by omega) (fun _ => by omega)
            have HT : Hid _ := hT
            have hEi : ((E : Int) != 0) = true := by simp; exact hE
            clear hT hE HT0
            rcases hMk with rfl | ⟨hneg, hMk, hMk2⟩
            · go_enter Try.func6, Try.ntmps6
              go_wp2_with fail
              refine (HP.out _).mono ?_
              rintro e w1 ⟨rfl, hb1⟩
              have H1 : Hid (Below w.heap.size w w1) := hb1
              clear hb1
              obtain ⟨cap, w2, hcv, htb, hbel, hsz⟩ := S2.bytes_of Z w1
              rw [HZ.out.1] at htb
              have hcell := (htb k HZ.out.2.1).1
              have hfree := (htb k HZ.out.2.1).2
              rw [HZ.out.2.2.1] at hcell
              have hback := S2.bytes_back l' w1.heap.size cap _ (by have := htb.set k z HZ.out.2.1; rw [HZ.out.2.2.2.1] at this; exact this) HZ.out.2.2.2.2.1
              rw [HZ.out.2.2.2.2.2.1] at hback
              have HBE : Hid (Below w.heap.size w (w2.setCell ⟨w1.heap.size, k, none⟩ (.int .u8 (z : Nat)))) := H1.out.trans ((hbel.setCell (Nat.le_refl _) (p := ⟨w1.heap.size, k, none⟩) _).mono H1.out.size)
              have hTT : S2.toBA l' = TT := HZ.out.2.2.2.2.2.2
              rw [hTT] at hback
              clear htb hbel hTT
              go_wp2_with fail
              generalize w2.setCell ⟨w1.heap.size, k, none⟩ (.int .u8 (z : Nat)) = W at HBE hback ⊢
              clear hcv hcell hfree hback
              refine (HT.out _).mono ?_
              rintro e w4 ⟨rfl, hb4⟩
              have H4 : Hid (Below w.heap.size w w4) := HBE.out.trans (hb4.mono HBE.out.size)
              clear hb4
              go_wp2_with fail
              refine (awake_ok _).mono ?_
              rintro e w5 ⟨rfl, hb5⟩
              have H5 : Hid (Below w.heap.size w w5) := H4.out.trans (hb5.mono H4.out.size)
              clear hb5
              go_wp2
              go_ret
              exact ⟨rfl, H5.out⟩
            · have hMi : decide (M < 0) = true := by simpa using hneg
              go_enter Try.func6, Try.ntmps6
              go_wp2_with fail
              refine (HP.out _).mono ?_
              rintro e w1 ⟨rfl, hb1⟩
              have H1 : Hid (Below w.heap.size w w1) := hb1
              clear hb1
              obtain ⟨cap, w2, hcv, htb, hbel, hsz⟩ := S2.bytes_of Z w1
              rw [HZ.out.1] at htb
              have hcell := (htb k HZ.out.2.1).1
              have hfree := (htb k HZ.out.2.1).2
              rw [HZ.out.2.2.1] at hcell
              have hback := S2.bytes_back l' w1.heap.size cap _ (by have := htb.set k z HZ.out.2.1; rw [HZ.out.2.2.2.1] at this; exact this) HZ.out.2.2.2.2.1
              rw [HZ.out.2.2.2.2.2.1] at hback
              have HBE : Hid (Below w.heap.size w (w2.setCell ⟨w1.heap.size, k, none⟩ (.int .u8 (z : Nat)))) := H1.out.trans ((hbel.setCell (Nat.le_refl _) (p := ⟨w1.heap.size, k, none⟩) _).mono H1.out.size)
              have hTT : S2.toBA l' = TT := HZ.out.2.2.2.2.2.2
              rw [hTT] at hback
              clear htb hbel hTT
              go_wp2_with fail
              generalize w2.setCell ⟨w1.heap.size, k, none⟩ (.int .u8 (z : Nat)) = W at HBE hback ⊢
              clear hcv hcell hfree hback
              refine (HT.out _).mono ?_
              rintro e w4 ⟨rfl, hb4⟩
              have H4 : Hid (Below w.heap.size w w4) := HBE.out.trans (hb4.mono HBE.out.size)
              clear hb4
              go_wp2_with fail
              refine (awake_ok _).mono ?_
              rintro e w5 ⟨rfl, hb5⟩
              have H5 : Hid (Below w.heap.size w w5) := H4.out.trans (hb5.mono H4.out.size)
              clear hb5
              go_wp2
              go_ret
              exact ⟨rfl, H5.out⟩
        · have h0i : ¬ (0 : Int) < (s.size : Int) := by clear b hxy hM; omega
          have h0b : decide ((0 : Int) < (s.size : Int)) = false := by simpa using h0i
          obtain ⟨E, hE, hT⟩ := HT0.out (by omega) (fun h => (h0 h).elim)
          have HT : Hid _ := hT
          have hEi : ((E : Int) != 0) = true := by simp; exact hE
          clear hT hE HT0
          rcases hMk with rfl | ⟨hneg, hMk, hMk2⟩
          · go_enter Try.func6, Try.ntmps6
            go_wp2_with fail
            refine (HP.out _).mono ?_
            rintro e w1 ⟨rfl, hb1⟩
            have H1 : Hid (Below w.heap.size w w1) := hb1
            clear hb1
            obtain ⟨cap, w2, hcv, htb, hbel, hsz⟩ := S2.bytes_of Z w1
            rw [HZ.out.1] at htb
            have hcell := (htb k HZ.out.2.1).1
            have hfree := (htb k HZ.out.2.1).2
            rw [HZ.out.2.2.1] at hcell
            have hback := S2.bytes_back l' w1.heap.size cap _ (by have := htb.set k z HZ.out.2.1; rw [HZ.out.2.2.2.1] at this; exact this) HZ.out.2.2.2.2.1
            rw [HZ.out.2.2.2.2.2.1] at hback
            have HBE : Hid (Below w.heap.size w (w2.setCell ⟨w1.heap.size, k, none⟩ (.int .u8 (z : Nat)))) := H1.out.trans ((hbel.setCell (Nat.le_refl _) (p := ⟨w1.heap.size, k, none⟩) _).mono H1.out.size)
            have hTT : S2.toBA l' = TT := HZ.out.2.2.2.2.2.2
            rw [hTT] at hback
            clear htb hbel hTT
            go_wp2_with fail
            generalize w2.setCell ⟨w1.heap.size, k, none⟩ (.int .u8 (z : Nat)) = W at HBE hback ⊢
            clear hcv hcell hfree hback
            refine (HT.out _).mono ?_
            rintro e w4 ⟨rfl, hb4⟩
            have H4 : Hid (Below w.heap.size w w4) := HBE.out.trans (hb4.mono HBE.out.size)
            clear hb4
            go_wp2_with fail
            refine (awake_ok _).mono ?_
            rintro e w5 ⟨rfl, hb5⟩
            have H5 : Hid (Below w.heap.size w w5) := H4.out.trans (hb5.mono H4.out.size)
            clear hb5
            go_wp2
            go_ret
            exact ⟨rfl, H5.out⟩
          · have hMi : decide (M < 0) = true := by simpa using hneg
            go_enter Try.func6, Try.ntmps6
            go_wp2_with fail
            refine (HP.out _).mono ?_
            rintro e w1 ⟨rfl, hb1⟩
            have H1 : Hid (Below w.heap.size w w1) := hb1
            clear hb1
            obtain ⟨cap, w2, hcv, htb, hbel, hsz⟩ := S2.bytes_of Z w1
            rw [HZ.out.1] at htb
            have hcell := (htb k HZ.out.2.1).1
            have hfree := (htb k HZ.out.2.1).2
            rw [HZ.out.2.2.1] at hcell
            have hback := S2.bytes_back l' w1.heap.size cap _ (by have := htb.set k z HZ.out.2.1; rw [HZ.out.2.2.2.1] at this; exact this) HZ.out.2.2.2.2.1
            rw [HZ.out.2.2.2.2.2.1] at hback
            have HBE : Hid (Below w.heap.size w (w2.setCell ⟨w1.heap.size, k, none⟩ (.int .u8 (z : Nat)))) := H1.out.trans ((hbel.setCell (Nat.le_refl _) (p := ⟨w1.heap.size, k, none⟩) _).mono H1.out.size)
            have hTT : S2.toBA l' = TT := HZ.out.2.2.2.2.2.2
            rw [hTT] at hback
            clear htb hbel hTT
            go_wp2_with fail
            generalize w2.setCell ⟨w1.heap.size, k, none⟩ (.int .u8 (z : Nat)) = W at HBE hback ⊢
            clear hcv hcell hfree hback
            refine (HT.out _).mono ?_
            rintro e w4 ⟨rfl, hb4⟩
            have H4 : Hid (Below w.heap.size w w4) := HBE.out.trans (hb4.mono HBE.out.size)
            clear hb4
            go_wp2_with fail
            refine (awake_ok _).mono ?_
            rintro e w5 ⟨rfl, hb5⟩
            have H5 : Hid (Below w.heap.size w w5) := H4.out.trans (hb5.mono H4.out.size)
            clear hb5
            go_wp2
            go_ret
            exact ⟨rfl, H5.out⟩
end Go.Proofs.Ytbncfpbehahidaa
