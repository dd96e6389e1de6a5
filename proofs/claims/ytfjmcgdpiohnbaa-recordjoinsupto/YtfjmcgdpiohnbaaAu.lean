/- The walk of RecordJoins. -/
import Derived.Test.YtfjmcgdpiohnbaaAt
import Derived.Test.YtfjmcgdpiohnbaaAr
namespace Go.Proofs.Ytfjmcgdpiohnbaa
open Go.RowKit
set_option linter.unusedVariables false

/-- What follows of the bytes of both. -/
theorem joins_bad {L M : List Rec} {base : Int} (h : (offB base && comes L base) = false ∨ (offB base && comes M base) = false) : (offB base && comes (L ++ M) base) = false := by
  rw [comes_append]
  cases hb : offB base with
  | false => rfl
  | true =>
    rw [hb] at h
    simp only [Bool.true_and] at h ⊢
    rcases h with h | h
    · rw [h]; rfl
    · cases hl : comes L base with
      | false => rfl
      | true =>
        simp only [Bool.true_and]
        cases hm : comes M (lowB L base) with
        | false => rfl
        | true =>
          have := comes_low hm (lowB_ge L base hl)
          rw [h] at this
          cases this
theorem joins_nil {L M : List Rec} {base : Int} (h1 : (offB base && comes L base) = true) (h2 : (offB base && comes M base) = true) (h : L = [] ∨ M = []) : (offB base && comes (L ++ M) base) = true := by
  rcases h with rfl | rfl
  · exact h2
  · rw [List.append_nil]; exact h1
theorem joins_both {L M : List Rec} {q r : Rec} {base : Int} (h1 : (offB base && comes (L ++ [q]) base) = true) (h2 : (offB base && comes (r :: M) base) = true) : (offB base && comes ((L ++ [q]) ++ r :: M) base) = decide (q.off < r.off) := by
  rw [Bool.and_eq_true] at h1 h2
  rw [comes_append, h1.1, h1.2, Bool.true_and, Bool.true_and, lowB_snoc]
  have h3 := h2.2
  simp only [comes, Bool.and_eq_true, decide_eq_true_eq] at h3 ⊢
  rw [h3.1.1, h3.2, Bool.true_and, Bool.and_true]
  by_cases h : q.off < r.off
  · rw [decide_eq_true h, decide_eq_true (by omega)]
  · rw [decide_eq_false h, decide_eq_false (by omega)]
theorem mk_append (a b : List UInt8) : mk a ++ mk b = mk (a ++ b) := by
  apply ByteArray.ext
  rw [ByteArray.data_append]
  simp [mk]
set_option maxHeartbeats 1000000 in
theorem joins_walk (a b : Option Addr) (ca cb : Nat) (L M : List Rec) (base : Int) (w : World) (ha : RIn w a L) (hb : RIn w b M) (hsa : Sized L) (hsb : Sized M) (hla : L.length ≤ 1048576) (hlb : M.length ≤ 1048576) (hna : a = none → ca = 0) (hnb : b = none → cb = 0) :
    Calls Try.prog 6 #[.slice a L.length ca, .slice b M.length cb, .int .i64 base] w fun e w' => e = .returned (.bool true) ∧ Below w.heap.size w w' := by
  have HA : Hid (∀ W, RIn W a L → Calls Try.prog 9 #[.slice a L.length ca, .int .i64 base] W fun e w' => e = .returned (bytesV L base) ∧ Below W.heap.size W w') := fun W h => bytes_ok a ca L base W h hsa (by omega)
  have HB : Hid (∀ W, RIn W b M → Calls Try.prog 9 #[.slice b M.length cb, .int .i64 base] W fun e w' => e = .returned (bytesV M base) ∧ Below W.heap.size W w') := fun W h => bytes_ok b cb M base W h hsb (by omega)
  have HC : Hid (∀ W c d n, n = (L ++ M).length → RIn W c (L ++ M) → Calls Try.prog 9 #[.slice c n d, .int .i64 base] W fun e w' => e = .returned (bytesV (L ++ M) base) ∧ Below W.heap.size W w') := fun W c d n hn h => by
    subst hn
    exact bytes_ok c d (L ++ M) base W h (fun r hr => by
      rcases List.mem_append.1 hr with hr | hr
      · exact hsa r hr
      · exact hsb r hr) (by rw [List.length_append]; omega)
  have HIA : Hid (RIn w a L) := ha
  have HIB : Hid (RIn w b M) := hb
  have HNA : Hid (a = none → ca = 0) := hna
  have HNB : Hid (b = none → cb = 0) := hnb
  obtain ⟨la, hl1⟩ : ∃ la, L.length = la := ⟨_, rfl⟩
  obtain ⟨lb, hl2⟩ : ∃ lb, M.length = lb := ⟨_, rfl⟩
  have HLA : Hid (L.length = la) := hl1
  have HLB : Hid (M.length = lb) := hl2
  rw [hl1] at HA hla ⊢
  rw [hl2] at HB hlb ⊢
  obtain ⟨va, ea, hva⟩ : ∃ va ea, bytesV L base = .tuple #[.string va, .int .i64 ea] := by unfold bytesV; split <;> exact ⟨_, _, rfl⟩
  obtain ⟨vb, eb, hvb⟩ : ∃ va ea, bytesV M base = .tuple #[.string va, .int .i64 ea] := by unfold bytesV; split <;> exact ⟨_, _, rfl⟩
  obtain ⟨vc, ec, hvc⟩ : ∃ va ea, bytesV (L ++ M) base = .tuple #[.string va, .int .i64 ea] := by unfold bytesV; split <;> exact ⟨_, _, rfl⟩
  have HVA : Hid (bytesV L base = .tuple #[.string va, .int .i64 ea]) := hva
  have HVB : Hid (bytesV M base = .tuple #[.string vb, .int .i64 eb]) := hvb
  have HVC : Hid (bytesV (L ++ M) base = .tuple #[.string vc, .int .i64 ec]) := hvc
  rw [hva] at HA
  rw [hvb] at HB
  rw [hvc] at HC
  clear ha hb hna hnb hl1 hl2 hva hvb hvc
  go_enter Try.func6, Try.ntmps6
  go_wp2_with fail
  refine (HA.out _ HIA.out).mono ?_
  rintro e w1 ⟨rfl, hb1⟩
  have HB1 : Hid (Below w.heap.size w w1) := hb1
  clear hb1
  go_wp2_with fail
  refine (HB.out _ (HIB.out.below HB1.out (Nat.le_refl _))).mono ?_
  rintro e w2 ⟨rfl, hb2⟩
  have HB2 : Hid (Below w.heap.size w w2) := HB1.out.trans (hb2.mono HB1.out.size)
  clear hb2
  have hs2 : w.heap.size ≤ w2.heap.size := HB2.out.size
  go_wp2_with (first
    | (at_builtin; refine wpList_append_recs rfl _ _ rfl w.heap.size (.slice none 0 0) [] rfl (Own.nil _ _) a L ca la HLA.out rfl (HIA.out.below HB2.out (Nat.le_refl _)) HNA.out (by rw [HLA.out]; simp; omega) hs2 ?_; intro v1 w3 ho3 hg3; have HO3 : Hid (Own w3 w.heap.size v1 L) := ho3; have HB3 : Hid (Below w.heap.size w w3) := HB2.out.trans (below_grown (Own.nil w2 w.heap.size) hg3 hs2); have hs3 : w.heap.size ≤ w3.heap.size := HB3.out.size; clear ho3 hg3)
    | (at_builtin; refine wpList_append_recs rfl _ _ rfl w.heap.size v1 L rfl HO3.out b M cb lb HLB.out rfl (HIB.out.below HB3.out (Nat.le_refl _)) HNB.out (by rw [HLA.out, HLB.out]; omega) hs3 ?_; intro v2 w4 ho4 hg4; have HB4 : Hid (Below w.heap.size w w4) := HB3.out.trans (below_grown HO3.out hg4 hs3); obtain ⟨sa, sc, hv2, hi4⟩ := Own.slice ho4; subst hv2; have HI4 : Hid (RIn w4 sa (L ++ M)) := hi4; clear ho4 hg4 hi4; obtain ⟨ln, hln⟩ : ∃ ln, (L ++ M).length = ln := ⟨_, rfl⟩; rw [hln]; have HLN : Hid (ln = (L ++ M).length) := hln.symm; clear hln)
    | fail)
  refine (HC.out _ _ _ _ HLN.out HI4.out).mono ?_
  rintro e w5 ⟨rfl, hb5⟩
  have HB5 : Hid (Below w.heap.size w w5) := HB4.out.trans (hb5.mono HB4.out.size)
  clear hb5
  by_cases hga : (offB base && comes L base) = true
  · obtain ⟨rfl, rfl⟩ : va = mk (recsL base L) ∧ ea = 0 := by have := HVA.out; rw [bytesV_good hga] at this; cases this; exact ⟨rfl, rfl⟩
    by_cases hgb : (offB base && comes M base) = true
    · obtain ⟨rfl, rfl⟩ : vb = mk (recsL base M) ∧ eb = 0 := by have := HVB.out; rw [bytesV_good hgb] at this; cases this; exact ⟨rfl, rfl⟩
      have hsum : (mk (recsL base L)).size + (mk (recsL base M)).size ≤ 140737488355328 := by
        rw [Bool.and_eq_true] at hga hgb
        have h1 := recsL_len base L (comes_mem L base hga.2)
        have h2 := recsL_len base M (comes_mem M base hgb.2)
        have h3 := HLA.out
        have h4 := HLB.out
        rw [mk_size, mk_size]
        omega
      have HGOOD : Hid ((offB base && comes (L ++ M) base) = true → vc = mk (recsL base L) ++ mk (recsL base M) ∧ ec = 0) := fun h => by
        have := HVC.out; rw [bytesV_good h] at this; cases this; exact ⟨by rw [recsL_append, mk_append], rfl⟩
      have HBAD : Hid ((offB base && comes (L ++ M) base) = false → ec = 90) := fun h => by
        have := HVC.out; rw [bytesV_bad h] at this; cases this; rfl
      generalize mk (recsL base L) = va at HGOOD hsum
      generalize mk (recsL base M) = vb at HGOOD hsum
      rcases List.eq_nil_or_concat L with hL | ⟨L', q, hL⟩
      · obtain ⟨rfl, rfl⟩ := HGOOD.out (joins_nil hga hgb (.inl hL))
        have hl0 : la = 0 := by rw [← HLA.out, hL]; rfl
        subst hl0
        clear hga hgb
        go_wp2_with fail
        go_region
        go_wp2_with fail
        refine (awake_ok _).mono ?_
        rintro e w6 ⟨rfl, hb6⟩
        have HB6 : Hid (Below w.heap.size w w6) := HB5.out.drew.trans (hb6.mono HB5.out.drew.size)
        clear hb6
        go_wp2
        go_ret
        exact ⟨rfl, HB6.out⟩
      · cases M with
        | nil =>
          obtain ⟨rfl, rfl⟩ := HGOOD.out (joins_nil hga hgb (.inr rfl))
          have hl0 : lb = 0 := by rw [← HLB.out]; rfl
          subst hl0
          have hlp : 0 < la := by rw [← HLA.out, hL]; simp
          clear hga hgb
          go_wp2_with fail
          go_region
          go_wp2_with fail
          refine (awake_ok _).mono ?_
          rintro e w6 ⟨rfl, hb6⟩
          have HB6 : Hid (Below w.heap.size w w6) := HB5.out.drew.trans (hb6.mono HB5.out.drew.size)
          clear hb6
          go_wp2
          go_ret
          exact ⟨rfl, HB6.out⟩
        | cons r M =>
          rw [List.concat_eq_append] at hL
          have hlp : 0 < la := by rw [← HLA.out, hL]; simp
          have hmp : 0 < lb := by rw [← HLB.out]; simp
          have hq : L[la - 1]? = some q := by rw [← HLA.out, hL]; simp
          obtain ⟨ab, ao, ha, _, c0, _⟩ := (HIA.out.below HB5.out (Nat.le_refl _)) _ _ hq
          obtain ⟨bb, bo, hbb, _, d0, _⟩ := (HIB.out.below HB5.out (Nat.le_refl _)) 0 r rfl
          subst ha hbb
          have hJ := joins_both (L := L') (q := q) (by rw [← hL]; exact hga) hgb
          rw [← hL] at hJ
          have HJ : Hid ((offB base && comes (L ++ r :: M) base) = decide (q.off < r.off)) := hJ
          obtain ⟨qo, hqo⟩ : ∃ x, q.off = x := ⟨_, rfl⟩
          obtain ⟨ro, hro⟩ : ∃ x, r.off = x := ⟨_, rfl⟩
          rw [hqo] at c0 HJ
          rw [hro] at d0 HJ
          rw [show bo + 0 * 4 = bo by omega] at d0
          obtain ⟨k, hk⟩ : ∃ k, la = k + 1 := ⟨la - 1, by omega⟩
          have hkk : la - 1 = k := by omega
          rw [hkk] at c0
          have hki : ((la : Nat) : Int) - 1 = (k : Nat) := by omega
          have hkl : k < la := by omega
          have hwk : IntKind.i64.wrap (k : Int) = (k : Int) := by rw [IntWalk.i64_left]; exact IntWalk.wrap64_in _ ⟨by omega, by omega⟩
          clear hqo hro hga hgb hJ hq hL hk hkk
          by_cases hcmp : ro ≤ qo
          · have hcb : decide (ro ≤ qo) = true := decide_eq_true hcmp
            obtain rfl := HBAD.out (by rw [HJ.out]; exact decide_eq_false (by omega))
            go_wp2_with fail
            go_region
            go_wp2_with fail
            refine (awake_ok _).mono ?_
            rintro e w6 ⟨rfl, hb6⟩
            have HB6 : Hid (Below w.heap.size w w6) := HB5.out.drew.trans (hb6.mono HB5.out.drew.size)
            clear hb6
            go_wp2
            go_ret
            exact ⟨rfl, HB6.out⟩
          · have hcb : decide (ro ≤ qo) = false := decide_eq_false hcmp
            obtain ⟨rfl, rfl⟩ := HGOOD.out (by rw [HJ.out]; exact decide_eq_true (by omega))
            go_wp2_with fail
            go_region
            go_wp2_with fail
            refine (awake_ok _).mono ?_
            rintro e w6 ⟨rfl, hb6⟩
            have HB6 : Hid (Below w.heap.size w w6) := HB5.out.drew.trans (hb6.mono HB5.out.drew.size)
            clear hb6
            go_wp2
            go_ret
            exact ⟨rfl, HB6.out⟩
    · have hgb' : (offB base && comes M base) = false := by simpa using hgb
      obtain rfl : eb = 90 := by have := HVB.out; rw [bytesV_bad hgb'] at this; cases this; rfl
      obtain rfl : ec = 90 := by have := HVC.out; rw [bytesV_bad (joins_bad (.inr hgb'))] at this; cases this; rfl
      clear hga hgb hgb'
      go_wp2_with fail
      refine (awake_ok _).mono ?_
      rintro e w6 ⟨rfl, hb6⟩
      have HB6 : Hid (Below w.heap.size w w6) := HB5.out.trans (hb6.mono HB5.out.size)
      clear hb6
      go_wp2
      go_ret
      exact ⟨rfl, HB6.out⟩
  · have hga' : (offB base && comes L base) = false := by simpa using hga
    obtain rfl : ea = 90 := by have := HVA.out; rw [bytesV_bad hga'] at this; cases this; rfl
    obtain rfl : ec = 90 := by have := HVC.out; rw [bytesV_bad (joins_bad (.inl hga'))] at this; cases this; rfl
    clear hga hga'
    go_wp2_with fail
    refine (awake_ok _).mono ?_
    rintro e w6 ⟨rfl, hb6⟩
    have HB6 : Hid (Below w.heap.size w w6) := HB5.out.trans (hb6.mono HB5.out.size)
    clear hb6
    go_wp2
    go_ret
    exact ⟨rfl, HB6.out⟩
end Go.Proofs.Ytfjmcgdpiohnbaa
