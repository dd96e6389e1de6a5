/- LzAgain: the law's walk. -/
import Derived.Test.YtejdlmpbapcgcaaYzf
import Derived.Test.YtejdlmpbapcgcaaYy
namespace Go.Proofs.Ytejdlmpbapcgcaa
open Go.RowKit
set_option linter.unusedVariables false

theorem and2047 (many : Int) : ∃ x : Nat, x ≤ 2047 ∧ bits .and .i64 many 2047 = (x : Int) := by
  refine ⟨(BitVec.ofInt 64 many &&& BitVec.ofInt 64 2047).toNat, ?_, ?_⟩
  · rw [BitVec.toNat_and]
    exact Nat.le_trans Nat.and_le_right (by decide)
  · have h : (BitVec.ofInt 64 many &&& BitVec.ofInt 64 2047).toNat ≤ 2047 := by
      rw [BitVec.toNat_and]
      exact Nat.le_trans Nat.and_le_right (by decide)
    show IntKind.i64.wrap ((BitVec.ofInt 64 many &&& BitVec.ofInt 64 2047).toNat : Int) = _
    rw [IntKind.wrap_i64]
    omega
/-- All that is asked of a text that is written again and again. -/
theorem again_all (s : ByteArray) (j : Nat) (h1 : 1 ≤ s.size) (h2 : s.size ≤ 100) (h3 : 2000 ≤ j * s.size) (h4 : j * s.size ≤ 4200) :
    ∃ T Z : ByteArray, toBA (repL (bytesOf s) j) = T ∧ T.size = j * s.size ∧ Z.size ≤ 310 ∧ (∀ W, Calls Try.prog 12 #[.string T] W fun e w' => e = .returned (.tuple #[.string Z, .int .i64 0]) ∧ Below W.heap.size W w') ∧ (∀ W, Calls Try.prog 10 #[.string Z, .int .i64 ((j * s.size : Nat) : Int)] W fun e w' => e = .returned (.tuple #[.string T, .int .i64 0]) ∧ Below W.heap.size W w') := by
  have hT : (toBA (repL (bytesOf s) j)).size = j * s.size := by rw [toBA_size, repL_length, bytesOf_length]
  have hper := rep_per (bytesOf s) (by rw [bytesOf_length]; omega) (bytesOf_bytes s) j
  rw [bytesOf_length] at hper
  have hlen := again_len hper h1 h2 (by omega) (by omega)
  refine ⟨_, toBA (packL (toBA (repL (bytesOf s) j))), rfl, hT, by rw [toBA_size]; exact hlen, fun W => pack_is _ W (by omega), fun W => ?_⟩
  have := refBack_is (toBA (repL (bytesOf s) j)) W (by omega)
  rw [hT] at this
  exact this
theorem ownsRow_keep {w w' : World} {B n : Nat} {E : TypeId} {v : Value} {xs : List Value} (h : w.ownsRow B E 1 v n xs) (hb : Below w.heap.size w w') : w'.ownsRow B E 1 v n xs := by
  refine ⟨h.1, ?_⟩
  rcases h.2 with e | ⟨g, cap, cur, e1, e2, e3, e4⟩
  · exact .inl e
  · exact .inr ⟨g, cap, cur, e1, e2, (hb.block g (lt_of_block e3)).trans e3, e4⟩
def lenOf (v : Value) : Nat := match v with | .slice _ n _ => n | _ => 0
set_option maxRecDepth 20000 in
set_option maxHeartbeats 1000000 in
theorem lzAgain_walk (s : ByteArray) (many : Int) (w : World) (hs0 : s.size ≤ 140737488351232) (hmany : (Lit.int .i64 many).wf = true) :
    Calls Try.prog 6 #[.string s, .int .i64 many] w fun e w' => e = .returned (.bool true) ∧ Below w.heap.size w w' := by
  by_cases h0 : s.size = 0
  · have h0b : ((s.size : Int) == 0) = true := by rw [h0]; rfl
    clear h0
    go_enter Try.func6, Try.ntmps6
    go_wp2_with fail
    refine (awake_ok _).mono ?_
    rintro e w3 ⟨rfl, hb3⟩
    have H3 : Hid (Below w.heap.size w w3) := hb3
    clear hb3
    go_wp2
    go_ret
    exact ⟨rfl, H3.out⟩
  · have h0b : ((s.size : Int) == 0) = false := beq_eq_false_iff_ne.2 (by omega)
    have h0i : ¬ (s.size : Int) = 0 := by omega
    by_cases hbig : 100 < s.size
    · have hbi : (100 : Int) < (s.size : Int) := by omega
      have hbb : decide ((100 : Int) < (s.size : Int)) = true := by simpa using hbi
      clear h0
      go_enter Try.func6, Try.ntmps6
      go_wp2_with fail
      refine (awake_ok _).mono ?_
      rintro e w3 ⟨rfl, hb3⟩
      have H3 : Hid (Below w.heap.size w w3) := hb3
      clear hb3
      go_wp2
      go_ret
      exact ⟨rfl, H3.out⟩
    · have hbi : ¬ (100 : Int) < (s.size : Int) := by omega
      have hbb : decide ((100 : Int) < (s.size : Int)) = false := by simpa using hbi
      obtain ⟨x, hx, hand⟩ := and2047 many
      obtain ⟨n, hn⟩ : ∃ n, 2000 + x = n := ⟨_, rfl⟩
      have hni : (2000 : Int) + (x : Int) = (n : Int) := by omega
      have hnw := wrapN n (by omega)
      have hn1 : 2000 ≤ n := by omega
      have hn2 : n ≤ 4047 := by omega
      have hp1 : 1 ≤ s.size := by omega
      have hp2 : s.size ≤ 100 := by omega
      clear hn h0
      go_enter Try.func6, Try.ntmps6
      go_wp2_with fail
      go_loopw [6] (fun v6 wr => ∃ (ao : Option Addr) (cp L : Nat), v6 = .slice ao L cp ∧ L ≤ 4200 ∧ Hid (∃ j, L = j * s.size ∧ wr.ownsRow w.heap.size 5 1 (.slice ao L cp) L (bcells (repL (bytesOf s) j)) ∧ Below w.heap.size w wr)) (fun v6 _ => n - lenOf v6)
      case atStart => exact ⟨none, 0, 0, rfl, by omega, 0, by omega, World.ownsRow_nil _ _ _ _, Below.refl _ _⟩
      case round =>
        obtain ⟨ao, cp, L, rfl, hL, HS⟩ := hrel
        by_cases hlt : L < n
        · have hlti : (L : Int) < (n : Int) := by omega
          obtain ⟨i0, hi0, hz0, hz1, hz2⟩ := info_parts infoB
          obtain ⟨j, hj, hO, hF⟩ := HS.out
          have HO : Hid (L = j * s.size ∧ wr.ownsRow w.heap.size 5 1 (.slice ao L cp) L (bcells (repL (bytesOf s) j)) ∧ Below w.heap.size w wr) := ⟨hj, hO, hF⟩
          clear hj hO hF HS
          go_wp2_with (at_builtin; refine Lib.wpList_append_own_string _ rfl _ _ 29 9 rfl w.heap.size 5 i0 Try.underlying29 Try.underlying9 hi0 hz0 hz1 hz2 (.slice ao L cp) L (bcells (repL (bytesOf s) j)) rfl HO.out.2.1 s rfl (by unfold maxLen; omega) (by omega) HO.out.2.2.size ?_)
          intro v3 w3 hown hgrow _
          obtain ⟨ao3, cp3, hv⟩ : ∃ ao cp, v3 = .slice ao (L + s.size) cp := by
            rcases hown.2 with ⟨e, h0⟩ | ⟨g, cap, cur, e, _⟩
            · exact ⟨none, 0, by rw [e, h0]⟩
            · exact ⟨_, _, e⟩
          subst hv
          have HN : Hid (∃ j, L + s.size = j * s.size ∧ w3.ownsRow w.heap.size 5 1 (.slice ao3 (L + s.size) cp3) (L + s.size) (bcells (repL (bytesOf s) j)) ∧ Below w.heap.size w w3) := by
            refine ⟨j + 1, by rw [Nat.succ_mul, HO.out.1], ?_, HO.out.2.2.trans (Below.grown HO.out.2.1 hgrow HO.out.2.2.size)⟩
            unfold repL
            rw [bcells_append, ← strCells_eq]
            exact hown
          clear hown hgrow hi0 hz0 hz1 hz2
          go_wp2
          exact ⟨⟨ao3, cp3, L + s.size, rfl, by omega, HN⟩, by simp only [lenOf]; omega⟩
        · have hlti : ¬ (L : Int) < (n : Int) := by omega
          obtain ⟨j, hj, hO, hF⟩ := HS.out
          obtain ⟨T, Z, hT, hTs, hZs, hP, hU⟩ := again_all s j hp1 hp2 (by omega) (by omega)
          rw [← hj] at hTs hU
          have hB : Bytes (repL (bytesOf s) j) := repL_bytes (bytesOf_bytes s) j
          have hlen : L = (repL (bytesOf s) j).length := by rw [repL_length, bytesOf_length]; exact hj
          have hc1 : ∀ W : World, Below wr.heap.size wr W → (convert 29 9 (.slice ao L cp)).run Try.prog W = .ok (.string T) W := fun W hW => by
            rw [← hT]
            have ho := ownsRow_keep hO hW
            rw [hlen] at ho ⊢
            exact conv_row W _ _ 5 w.heap.size _ _ Try.underlying29 Try.underlying5 Try.underlying9 ho hB
          have hconv := hc1 wr (Below.refl _ _)
          have HC1 : Hid _ := hc1
          have HP : Hid _ := hP
          have HU : Hid _ := hU
          have HF : Hid (Below w.heap.size w wr) := hF
          have hzi : 10 * (Z.size : Int) < (L : Int) + 1200 := by omega
          have hzb : decide (10 * (Z.size : Int) < (L : Int) + 1200) = true := by simpa using hzi
          clear hj hO hF hT hTs hP hU hB hlen hc1 HS
          go_wp2_with fail
          refine (HP.out _).mono ?_
          rintro e w1 ⟨rfl, hb1⟩
          have H1 : Hid (Below wr.heap.size wr w1) := hb1
          clear hb1 hconv
          go_wp2_with fail
          refine (HU.out _).mono ?_
          rintro e w2 ⟨rfl, hb2⟩
          have H2 : Hid (Below wr.heap.size wr w2) := H1.out.trans (hb2.mono H1.out.size)
          have hconv2 := HC1.out w2 H2.out
          clear hb2
          go_wp2_with fail
          refine (awake_ok _).mono ?_
          rintro e w4 ⟨rfl, hb4⟩
          have H4 : Hid (Below w.heap.size w w4) := HF.out.trans ((H2.out.trans (hb4.mono H2.out.size)).mono HF.out.size)
          clear hb4
          go_wp2
          go_ret
          exact ⟨rfl, H4.out⟩
end Go.Proofs.Ytejdlmpbapcgcaa
