/- The document's Of. -/
import Derived.Test.YtalpbnkmppdgdaaEBb
import Derived.Deep.CutRange
namespace Go.Proofs.Ytalpbnkmppdgdaa
open Go.RowKit
set_option linter.unusedVariables false

theorem rof_bad (s : ByteArray) (base n : Int) (w : World) (h : offB base = false ∨ n < 0) :
    Calls Try.prog 31 #[.string s, .int .i64 base, .int .i64 n] w fun e w' => OfEnd w none e w' := by
  have hb : base < 0 ∨ 1099511627776 ≤ base ∨ n < 0 := by
    rcases h with h | h
    · unfold offB at h
      simp only [Bool.and_eq_false_iff, decide_eq_false_iff_not] at h
      omega
    · exact .inr (.inr h)
  clear h
  by_cases h1 : base < 0
  · go_enter Try.func31, Try.ntmps31
    go_wp2
    go_ret2
    exact .inr ⟨rfl, rfl, Below.refl _ _⟩
  · by_cases h2 : 1099511627776 ≤ base
    · go_enter Try.func31, Try.ntmps31
      go_wp2
      go_ret2
      exact .inr ⟨rfl, rfl, Below.refl _ _⟩
    · have h3 : n < 0 := by omega
      clear hb
      go_enter Try.func31, Try.ntmps31
      go_wp2
      go_ret2
      exact .inr ⟨rfl, rfl, Below.refl _ _⟩
/-- What a round keeps. -/
structure RR (w wr : World) (base : Int) (S : List UInt8) (v : Value) (M : List Rec) (at_ : Nat) : Prop where
  rd : rdN base M.length S = some (M, S.drop at_)
  own : Own wr w.heap.size v M
  bel : Below w.heap.size w wr
  may : comes M base = true
  len : at_ ≤ S.length
  sized : Sized M
set_option maxRecDepth 20000 in
set_option maxHeartbeats 4000000 in
theorem rof_walk (S : List UInt8) (base : Int) (n : Nat) (w : World) (hbo : offB base = true) (hn : n ≤ 9223372036854775807) (hS : S.length ≤ 140737488355328) :
    Calls Try.prog 31 #[.string (mk S), .int .i64 base, .int .i64 n] w fun e w' => OfEnd w (ofL base n S) e w' := by
  obtain ⟨hb0, hb1⟩ : 0 ≤ base ∧ base < 1099511627776 := by unfold offB at hbo; simpa using hbo
  obtain ⟨i0, hi, hz0, hz1, hz2⟩ := info_split recInfo
  have HI : Hid (Try.prog.info? 56 = some i0 ∧ i0.zero = some (.agg #[.int .i64 0, .string ⟨#[]⟩, .string ⟨#[]⟩, .bool false]) ∧ i0.size = 4 ∧ i0.bytes = 48) := ⟨hi, hz0, hz1, hz2⟩
  clear hi hz0 hz1 hz2
  obtain ⟨res, hres⟩ : ∃ res, ofL base n S = res := ⟨_, rfl⟩
  rw [hres]
  have HRES : Hid (ofL base n S = res) := hres
  clear hres
  obtain ⟨sz, hsz⟩ : ∃ sz, (mk S).size = sz := ⟨_, rfl⟩
  have HSL : Hid (S.length = sz) := by rw [← mk_size S]; exact hsz
  have HVR : Hid (∀ W a, Calls Try.prog 30 #[.string ((mk S).extract a sz)] W fun e w' => VarEnd (mk (S.drop a)) e ∧ w' = W) := fun W a => by
    rw [← hsz, extract_drop]
    exact rvar_ok _ (by rw [mk_size, List.length_drop]; omega) W
  have HTX : Hid (∀ W a less, a ≤ sz → less ≤ 1 → Calls Try.prog 47 #[.string (mk S), .int .i64 (a : Nat), .int .i64 (less : Nat)] W fun e w' => ((∃ p q, txtR S a less = some (p, q) ∧ e = .returned (.tuple #[.string (mk p), .int .i64 (q : Nat)])) ∨ (txtR S a less = none ∧ e = .returned (.tuple #[.string ⟨#[]⟩, .int .i64 (-1)]))) ∧ Below W.heap.size W w') := fun W a less ha hl => rtext_ok S a less W hS (by rw [HSL.out]; exact ha) hl
  have HST : Hid (RR w w base S (.slice none 0 0) [] 0) := ⟨rfl, Own.nil _ _, Below.refl _ _, rfl, Nat.zero_le _, fun r hr => by cases hr⟩
  have hS' : sz ≤ 140737488355328 := by rw [← HSL.out]; exact hS
  go_enter Try.func31, Try.ntmps31
  go_wp2
  go_loopw [8, 9, 10] (fun v av i wr => ∃ (V : Value) (M : List Rec) (at_ : Nat), V = v ∧ av = .int .i64 (at_ : Nat) ∧ i = .int .i64 (M.length : Nat) ∧ M.length ≤ n ∧ RR w wr base S V M at_) (fun _ _ i _ => n - (intOf i).toNat)
  case atStart => exact ⟨_, [], 0, rfl, rfl, rfl, Nat.zero_le _, HST.out⟩
  case round =>
    obtain ⟨V, M, at_, rfl, rfl, rfl, hMn, hr⟩ := hrel
    have HR : Hid (RR w wr base S V M at_) := hr
    have hbs := hr.bel.size
    have hcnt := comes_small M base hr.may hb0
    have hat : at_ ≤ sz := by have := hr.len; rw [HSL.out] at this; exact this
    clear hr
    by_cases hlt : M.length < n
    · have hlti : (M.length : Int) < (n : Int) := by omega
      obtain ⟨k, hk⟩ : ∃ k, n = M.length + (k + 1) := ⟨n - M.length - 1, by omega⟩
      have HKK : Hid (n = M.length + (k + 1)) := hk
      clear hk
      go_wp2_with fail
      refine (HVR.out _ at_).mono ?_
      rintro e w1 ⟨hve, hw⟩
      obtain rfl := hw.symm
      rcases hve with ⟨d, n1, hvd, rfl⟩ | ⟨hvd, he⟩
      · have hvl := varD_le hvd
        rw [mk_size, List.length_drop, HSL.out] at hvl
        obtain ⟨hdx, hn1, hn9, hns⟩ := hvl
        have HVD : Hid (varD (mk (S.drop at_)) = some (d, n1)) := hvd
        clear hvd
        by_cases hbig : 1099511627776 ≤ d
        · have hbigi : (1099511627776 : Int) ≤ (d : Int) := by omega
          have HM : Hid (res = none) := by rw [← HRES.out, HKK.out]; exact rd_big HR.out.rd hbo HVD.out hbig
          have HBE : Hid (Below w.heap.size w wr) := HR.out.bel
          go_wp2
          go_ret2
          exact .inr ⟨HM.out, rfl, HBE.out⟩
        · have hbigi : decide ((1099511627776 : Int) ≤ (d : Int)) = false := decide_eq_false (by omega)
          have hbign : decide (1099511627776 ≤ d) = false := decide_eq_false hbig
          have hdz : d ≤ 1099511627775 := by omega
          clear hbig
          obtain ⟨y, hy⟩ : ∃ y, base + (d : Int) = y := ⟨_, rfl⟩
          have HY : Hid (IntKind.i64.wrap (base + (d : Int)) = y) := by rw [← hy, IntWalk.i64_left]; exact IntWalk.wrap64_in _ ⟨by omega, by omega⟩
          obtain ⟨b1, hb1i⟩ : ∃ b1 : Nat, at_ + n1 = b1 := ⟨_, rfl⟩
          have hb1j : (at_ : Int) + (n1 : Int) = (b1 : Int) := by omega
          have hb1l : b1 ≤ sz := by omega
          have HB1 : Hid (at_ + n1 = b1) := hb1i
          have hBa : Below wr.heap.size wr (wr.alloc (.cells #[.int .i64 y, .string ⟨#[]⟩, .string ⟨#[]⟩, .bool false] 56)) := (Below.refl _ _).alloc (Nat.le_refl _) _
          have HRB : Hid (RB (wr.alloc (.cells #[.int .i64 y, .string ⟨#[]⟩, .string ⟨#[]⟩, .bool false] 56)) wr.heap.size y ⟨#[]⟩ ⟨#[]⟩ false) := heap_alloc_new _ _
          have HA : Hid (Below wr.heap.size wr (wr.alloc (.cells #[.int .i64 y, .string ⟨#[]⟩, .string ⟨#[]⟩, .bool false] 56))) := hBa
          clear hBa
          go_upto_region 12 with fail
          obtain ⟨rb, hrb⟩ : ∃ rb, wr.heap.size = rb := ⟨_, rfl⟩
          have HS0 : Hid (wr.heap.size = rb) := hrb
          generalize hWA : (wr.alloc (.cells #[.int .i64 y, .string ⟨#[]⟩, .string ⟨#[]⟩, .bool false] 56)) = wA at HRB HA ⊢
          rw [hrb] at HRB ⊢
          clear hWA hrb hb1i
          have hy' := hy
          clear hy
          go_wp2_with fail
          refine (HTX.out _ b1 0 hb1l (by omega)).mono ?_
          rintro e w2 ⟨htx, hb2⟩
          have HA2 : Hid (Below wr.heap.size wr w2) := HA.out.trans (hb2.mono HA.out.size)
          have HR2 : Hid (RB w2 rb y ⟨#[]⟩ ⟨#[]⟩ false) := (hb2.block rb (lt_of_block HRB.out)).trans HRB.out
          clear hb2
          rcases htx with ⟨p, q, htx, rfl⟩ | ⟨htx, rfl⟩
          · have hql : q ≤ sz := by have := txtR_le (by rw [HSL.out]; exact hb1l) htx; rw [HSL.out] at this; exact this
            have HTX1 : Hid (txtR S b1 0 = some (p, q)) := htx
            obtain ⟨key, hkey⟩ : ∃ key, mk p = key := ⟨_, rfl⟩
            have HKEY : Hid (mk p = key) := hkey
            have hkz : key.size ≤ 9223372036854775807 := by
              obtain ⟨x, nn, _, _, _, h5, _⟩ := txtR_some htx
              rw [← hkey, mk_size, h5, List.length_take, List.length_drop, List.length_drop]
              omega
            rw [hkey]
            clear htx hkey
            have hqn : ¬ (q : Int) < 0 := by omega
            obtain ⟨d0, d1, d2, d3⟩ := HR2.out.cells
            have df1 := HR2.out.frozen 1
            have HR3 : Hid (RB (w2.setCell ⟨rb, 1, none⟩ (.string key)) rb y key ⟨#[]⟩ false) := HR2.out.set1 _
            have HA3 : Hid (Below wr.heap.size wr (w2.setCell ⟨rb, 1, none⟩ (.string key))) := ⟨HA2.out.os, HA2.out.tape, HA2.out.output, by simpa [World.setCell] using HA2.out.size, fun j hj => (Below.heap_setCell _ _ _ _ (by have := HS0.out; show j ≠ rb; omega)).trans (HA2.out.block j hj)⟩
            generalize hw3 : w2.setCell ⟨rb, 1, none⟩ (.string key) = w3 at HR3 HA3
            go_upto_region 16 with fail
            clear hw3 d0 d1 d2 d3 df1
            cases hq : S.drop q with
            | nil =>
              have hqe : ¬ q < sz := by
                intro h
                have := congrArg List.length hq
                rw [List.length_drop, HSL.out] at this
                simp at this
                omega
              have hqei : ¬ (q : Int) < (sz : Int) := by omega
              have HNZ : Hid (∀ R, S.drop q ≠ 0 :: R) := fun R h => by rw [hq] at h; cases h
              clear hq
              go_wp2_with fail
              refine (HTX.out _ q 1 hql (by omega)).mono ?_
              rintro e w4 ⟨htx, hb4⟩
              have HA4 : Hid (Below wr.heap.size wr w4) := HA3.out.trans (hb4.mono HA3.out.size)
              have HR4 : Hid (RB w4 rb y key ⟨#[]⟩ false) := (hb4.block rb (lt_of_block HR3.out)).trans HR3.out
              clear hb4
              rcases htx with ⟨vv, en, htx, rfl⟩ | ⟨htx, rfl⟩
              · have hel : en ≤ sz := by have := txtR_le (by rw [HSL.out]; exact hql) htx; rw [HSL.out] at this; exact this
                have HTX2 : Hid (txtR S q 1 = some (vv, en)) := htx
                obtain ⟨val, hval⟩ : ∃ val, mk vv = val := ⟨_, rfl⟩
                have HVAL : Hid (mk vv = val) := hval
                have hvz : val.size ≤ 9223372036854775807 := by
                  obtain ⟨x, nn, _, _, _, h5, _⟩ := txtR_some htx
                  rw [← hval, mk_size, h5, List.length_take, List.length_drop, List.length_drop]
                  omega
                rw [hval]
                clear htx hval
                have hen : ¬ (en : Int) < 0 := by omega
                obtain ⟨d0, d1, d2, d3⟩ := HR4.out.cells
                have df2 := HR4.out.frozen 2
                have HRW : Hid (RB (w4.setCell ⟨rb, 2, none⟩ (.string val)) rb y key val false) := HR4.out.set2 _
                have HAW : Hid (Below wr.heap.size wr (w4.setCell ⟨rb, 2, none⟩ (.string val))) := ⟨HA4.out.os, HA4.out.tape, HA4.out.output, by simpa [World.setCell] using HA4.out.size, fun j hj => (Below.heap_setCell _ _ _ _ (by have := HS0.out; show j ≠ rb; omega)).trans (HA4.out.block j hj)⟩
                generalize hw5 : w4.setCell ⟨rb, 2, none⟩ (.string val) = w5 at HRW HAW
                go_upto_region 24 with fail
                clear hw5 d0 d1 d2 d3 df2
                have hq1 : en ≤ S.length := by rw [HSL.out]; exact hel
                obtain ⟨d0, d1, d2, d3⟩ := HRW.out.cells
                have HOWN : Hid (∀ o, Own (w5.alloc o) w.heap.size V M ∧ w.heap.size ≤ (w5.alloc o).heap.size) := fun o =>
                  ⟨(HR.out.own.below HAW.out).below ((Below.refl _ _).alloc (Nat.le_refl _) _), by have := HAW.out.size; have := hbs; simp; omega⟩
                go_wp2_with (first
                  | (at_builtin; refine wpList_append_lies _ rfl _ _ 26 rfl w.heap.size 56 i0 (.agg #[.int .i64 0, .string ⟨#[]⟩, .string ⟨#[]⟩, .bool false]) 4 48 Try.underlying26 HI.out.1 HI.out.2.1 HI.out.2.2.1 HI.out.2.2.2 rfl (by decide) V M.length (rcs M) rfl (HOWN.out _).1 ⟨w5.heap.size, 0, none⟩ 1 1 [.int .i64 y, .string key, .string val, .bool false] rfl rfl (news4 _ _ _ _ _ _) (one4 _ _ _ _) (by decide) (by unfold maxLen; omega) (by omega) (HOWN.out _).2 _ rfl ?_; intro g cap' w8 hown hgrow hat' hgl; have HGR := And.intro hown (And.intro hgrow hgl); clear hown hgrow hat' hgl)
                  | fail)
                have HE : Hid (Own w8 w.heap.size (.slice (some ⟨g, 0, none⟩) (M.length + 1) cap') (M ++ [⟨y, key, val, false⟩]) ∧ Below w.heap.size w w8 ∧ RIn w8 (some ⟨g, 0, none⟩) (M ++ [⟨y, key, val, false⟩])) := by
                  obtain ⟨hown, hgrow, hgl⟩ := HGR
                  have hW2 : Below wr.heap.size wr (w5.alloc (.cells #[.int .i64 y, .string key, .string val, .bool false] 56)) := HAW.out.alloc HAW.out.size _
                  have ho : Own w8 w.heap.size (.slice (some ⟨g, 0, none⟩) (M.length + 1) cap') (M ++ [⟨y, key, val, false⟩]) := by
                    show w8.ownsRow _ _ _ _ _ _
                    rw [rcs_append, List.length_append]
                    exact hown
                  have hi : w8.ownsRow w.heap.size 56 4 (.slice (some ⟨g, 0, none⟩) (M.length + 1) cap') (M.length + 1) (rcs (M ++ [⟨y, key, val, false⟩])) := by
                    rw [rcs_append]; exact hown
                  exact ⟨ho, (HR.out.bel.trans (hW2.mono hbs)).trans (below_grown (HOWN.out _).1 hgrow (HOWN.out _).2), RIn.owned hi hgl⟩
                clear HGR d0 d1 d2 d3
                have HRI : Hid (∀ W, RIn W (some ⟨g, 0, none⟩) (M ++ [⟨y, key, val, false⟩]) → Calls Try.prog 38 #[.slice (some ⟨g, 0, none⟩) (M.length + 1) cap', .int .i64 base] W fun e w' => e = .returned (.bool (comes (M ++ [⟨y, key, val, false⟩]) base)) ∧ Below W.heap.size W w') := fun W h => by
                  have h1 := rise_ok (some ⟨g, 0, none⟩) cap' (M ++ [⟨y, key, val, false⟩]) base W h (by
                    intro r hr
                    rcases List.mem_append.1 hr with hr | hr
                    · exact HR.out.sized r hr
                    · simp at hr; subst hr; exact ⟨hkz, by first | exact hvz | exact Nat.zero_le _⟩) (by rw [List.length_append]; simp; omega)
                  rw [hbo, Bool.true_and, List.length_append] at h1
                  exact h1
                have hRD : rdRec base (S.drop at_) = some (⟨y, key, val, false⟩, S.drop en) := by rw [rd_val HVD.out (by rw [HB1.out]; exact HTX1.out) HNZ.out, HTX2.out]; simp only [HY.out, HKEY.out, HVAL.out]
                have HRD : Hid (rdRec base (S.drop at_) = some (⟨y, key, val, false⟩, S.drop en)) := hRD
                clear hRD
                refine (HRI.out _ HE.out.2.2).mono ?_
                rintro e w9 ⟨rfl, hb9⟩
                have HB9 : Hid (Below w.heap.size w w9) := HE.out.2.1.trans (hb9.mono HE.out.2.1.size)
                have HO9 : Hid (Own w9 w.heap.size (.slice (some ⟨g, 0, none⟩) (M.length + 1) cap') (M ++ [⟨y, key, val, false⟩])) := HE.out.1.below hb9
                clear hb9
                by_cases hcm : comes (M ++ [⟨y, key, val, false⟩]) base = true
                · rw [hcm]
                  have HN : Hid (RR w w9 base S (.slice (some ⟨g, 0, none⟩) (M.length + 1) cap') (M ++ [⟨y, key, val, false⟩]) en) :=
                    ⟨by rw [List.length_append]; exact rdN_snoc HR.out.rd HRD.out, HO9.out, HB9.out, hcm, by omega, by
                      intro r hr
                      rcases List.mem_append.1 hr with hr | hr
                      · exact HR.out.sized r hr
                      · simp at hr; subst hr; exact ⟨hkz, by first | exact hvz | exact Nat.zero_le _⟩⟩
                  clear hcm
                  go_wp2
                  go_roundw
                  case rel => exact ⟨_, M ++ [⟨y, key, val, false⟩], _, rfl, rfl, by simp, by simp; omega, HN.out⟩
                  case measure => simp [intOf]; omega
                · have hcm' : comes (M ++ [⟨y, key, val, false⟩]) base = false := by simpa using hcm
                  rw [hcm']
                  have HM : Hid (res = none) := by
                    rw [← HRES.out, HKK.out]
                    exact ofL_bad HR.out.rd HRD.out hcm'
                  clear hcm hcm'
                  go_wp2
                  go_ret2
                  exact .inr ⟨HM.out, rfl, HB9.out⟩
              · have HM : Hid (res = none) := by
                  rw [← HRES.out, HKK.out]
                  refine ofL_more HR.out.rd ?_
                  rw [rd_val HVD.out (by rw [HB1.out]; exact HTX1.out) HNZ.out, htx]
                have HBE : Hid (Below w.heap.size w w4) := HR.out.bel.trans (HA4.out.mono hbs)
                clear htx
                go_wp2
                go_ret2
                exact .inr ⟨HM.out, rfl, HBE.out⟩
            | cons b R =>
              have hqe : q < sz := by
                rcases Nat.lt_or_ge q sz with h | h
                · exact h
                · rw [List.drop_eq_nil_of_le (by rw [HSL.out]; exact h)] at hq; cases hq
              have hqei : (q : Int) < (sz : Int) := by omega
              have hqs : q < (mk S).size := by rw [hsz]; exact hqe
              have hby : (mk S)[q].toNat = b.toNat := by
                rw [byteN_eq _ _ hqs, byteN_mk, List.getD_eq_getElem?_getD]
                have : S[q]? = some b := by
                  have h := congrArg (fun l => l[0]?) hq
                  simpa using h
                rw [this]
                rfl
              by_cases hb0' : b = 0
              · have hQ : S.drop q = 0 :: R := by rw [hq, hb0']
                have HQ : Hid (S.drop q = 0 :: R) := hQ
                clear hQ
                have hbz : (mk S)[q].toNat = 0 := by rw [hby, hb0']; rfl
                clear hq hby hb0'
                obtain ⟨d0, d1, d2, d3⟩ := HR3.out.cells
                have df3 := HR3.out.frozen 3
                have HRW : Hid (RB (w3.setCell ⟨rb, 3, none⟩ (.bool true)) rb y key ⟨#[]⟩ true) := HR3.out.set3 _
                have HAW : Hid (Below wr.heap.size wr (w3.setCell ⟨rb, 3, none⟩ (.bool true))) := ⟨HA3.out.os, HA3.out.tape, HA3.out.output, by simpa [World.setCell] using HA3.out.size, fun j hj => (Below.heap_setCell _ _ _ _ (by have := HS0.out; show j ≠ rb; omega)).trans (HA3.out.block j hj)⟩
                generalize hw4 : w3.setCell ⟨rb, 3, none⟩ (.bool true) = w4 at HRW HAW
                go_upto_region 24 with fail
                clear hw4 d0 d1 d2 d3 df3 hbz
                have hq1 : q + 1 ≤ S.length := by rw [HSL.out]; omega
                obtain ⟨d0, d1, d2, d3⟩ := HRW.out.cells
                have HOWN : Hid (∀ o, Own (w4.alloc o) w.heap.size V M ∧ w.heap.size ≤ (w4.alloc o).heap.size) := fun o =>
                  ⟨(HR.out.own.below HAW.out).below ((Below.refl _ _).alloc (Nat.le_refl _) _), by have := HAW.out.size; have := hbs; simp; omega⟩
                go_wp2_with (first
                  | (at_builtin; refine wpList_append_lies _ rfl _ _ 26 rfl w.heap.size 56 i0 (.agg #[.int .i64 0, .string ⟨#[]⟩, .string ⟨#[]⟩, .bool false]) 4 48 Try.underlying26 HI.out.1 HI.out.2.1 HI.out.2.2.1 HI.out.2.2.2 rfl (by decide) V M.length (rcs M) rfl (HOWN.out _).1 ⟨w4.heap.size, 0, none⟩ 1 1 [.int .i64 y, .string key, .string ⟨#[]⟩, .bool true] rfl rfl (news4 _ _ _ _ _ _) (one4 _ _ _ _) (by decide) (by unfold maxLen; omega) (by omega) (HOWN.out _).2 _ rfl ?_; intro g cap' w8 hown hgrow hat' hgl; have HGR := And.intro hown (And.intro hgrow hgl); clear hown hgrow hat' hgl)
                  | fail)
                have HE : Hid (Own w8 w.heap.size (.slice (some ⟨g, 0, none⟩) (M.length + 1) cap') (M ++ [⟨y, key, ⟨#[]⟩, true⟩]) ∧ Below w.heap.size w w8 ∧ RIn w8 (some ⟨g, 0, none⟩) (M ++ [⟨y, key, ⟨#[]⟩, true⟩])) := by
                  obtain ⟨hown, hgrow, hgl⟩ := HGR
                  have hW2 : Below wr.heap.size wr (w4.alloc (.cells #[.int .i64 y, .string key, .string ⟨#[]⟩, .bool true] 56)) := HAW.out.alloc HAW.out.size _
                  have ho : Own w8 w.heap.size (.slice (some ⟨g, 0, none⟩) (M.length + 1) cap') (M ++ [⟨y, key, ⟨#[]⟩, true⟩]) := by
                    show w8.ownsRow _ _ _ _ _ _
                    rw [rcs_append, List.length_append]
                    exact hown
                  have hi : w8.ownsRow w.heap.size 56 4 (.slice (some ⟨g, 0, none⟩) (M.length + 1) cap') (M.length + 1) (rcs (M ++ [⟨y, key, ⟨#[]⟩, true⟩])) := by
                    rw [rcs_append]; exact hown
                  exact ⟨ho, (HR.out.bel.trans (hW2.mono hbs)).trans (below_grown (HOWN.out _).1 hgrow (HOWN.out _).2), RIn.owned hi hgl⟩
                clear HGR d0 d1 d2 d3
                have HRI : Hid (∀ W, RIn W (some ⟨g, 0, none⟩) (M ++ [⟨y, key, ⟨#[]⟩, true⟩]) → Calls Try.prog 38 #[.slice (some ⟨g, 0, none⟩) (M.length + 1) cap', .int .i64 base] W fun e w' => e = .returned (.bool (comes (M ++ [⟨y, key, ⟨#[]⟩, true⟩]) base)) ∧ Below W.heap.size W w') := fun W h => by
                  have h1 := rise_ok (some ⟨g, 0, none⟩) cap' (M ++ [⟨y, key, ⟨#[]⟩, true⟩]) base W h (by
                    intro r hr
                    rcases List.mem_append.1 hr with hr | hr
                    · exact HR.out.sized r hr
                    · simp at hr; subst hr; exact ⟨hkz, by first | exact hvz | exact Nat.zero_le _⟩) (by rw [List.length_append]; simp; omega)
                  rw [hbo, Bool.true_and, List.length_append] at h1
                  exact h1
                have hRD : rdRec base (S.drop at_) = some (⟨y, key, ⟨#[]⟩, true⟩, S.drop (q + 1)) := by rw [rd_gone HVD.out (by rw [HB1.out]; exact HTX1.out) HQ.out]; simp only [HY.out, HKEY.out]
                have HRD : Hid (rdRec base (S.drop at_) = some (⟨y, key, ⟨#[]⟩, true⟩, S.drop (q + 1))) := hRD
                clear hRD
                refine (HRI.out _ HE.out.2.2).mono ?_
                rintro e w9 ⟨rfl, hb9⟩
                have HB9 : Hid (Below w.heap.size w w9) := HE.out.2.1.trans (hb9.mono HE.out.2.1.size)
                have HO9 : Hid (Own w9 w.heap.size (.slice (some ⟨g, 0, none⟩) (M.length + 1) cap') (M ++ [⟨y, key, ⟨#[]⟩, true⟩])) := HE.out.1.below hb9
                clear hb9
                by_cases hcm : comes (M ++ [⟨y, key, ⟨#[]⟩, true⟩]) base = true
                · rw [hcm]
                  have HN : Hid (RR w w9 base S (.slice (some ⟨g, 0, none⟩) (M.length + 1) cap') (M ++ [⟨y, key, ⟨#[]⟩, true⟩]) (q + 1)) :=
                    ⟨by rw [List.length_append]; exact rdN_snoc HR.out.rd HRD.out, HO9.out, HB9.out, hcm, by omega, by
                      intro r hr
                      rcases List.mem_append.1 hr with hr | hr
                      · exact HR.out.sized r hr
                      · simp at hr; subst hr; exact ⟨hkz, by first | exact hvz | exact Nat.zero_le _⟩⟩
                  clear hcm
                  go_wp2
                  go_roundw
                  case rel => exact ⟨_, M ++ [⟨y, key, ⟨#[]⟩, true⟩], _, rfl, rfl, by simp, by simp; omega, HN.out⟩
                  case measure => simp [intOf]; omega
                · have hcm' : comes (M ++ [⟨y, key, ⟨#[]⟩, true⟩]) base = false := by simpa using hcm
                  rw [hcm']
                  have HM : Hid (res = none) := by
                    rw [← HRES.out, HKK.out]
                    exact ofL_bad HR.out.rd HRD.out hcm'
                  clear hcm hcm'
                  go_wp2
                  go_ret2
                  exact .inr ⟨HM.out, rfl, HB9.out⟩
              · have HNZ : Hid (∀ R, S.drop q ≠ 0 :: R) := fun R h => by rw [hq] at h; cases h; exact hb0' rfl
                have hbz : ¬ (mk S)[q].toNat = 0 := by
                  rw [hby]
                  intro h
                  exact hb0' (UInt8.toNat_inj.1 (by simpa using h))
                clear hq hby hb0'
                go_wp2_with fail
                refine (HTX.out _ q 1 hql (by omega)).mono ?_
                rintro e w4 ⟨htx, hb4⟩
                have HA4 : Hid (Below wr.heap.size wr w4) := HA3.out.trans (hb4.mono HA3.out.size)
                have HR4 : Hid (RB w4 rb y key ⟨#[]⟩ false) := (hb4.block rb (lt_of_block HR3.out)).trans HR3.out
                clear hb4
                rcases htx with ⟨vv, en, htx, rfl⟩ | ⟨htx, rfl⟩
                · have hel : en ≤ sz := by have := txtR_le (by rw [HSL.out]; exact hql) htx; rw [HSL.out] at this; exact this
                  have HTX2 : Hid (txtR S q 1 = some (vv, en)) := htx
                  obtain ⟨val, hval⟩ : ∃ val, mk vv = val := ⟨_, rfl⟩
                  have HVAL : Hid (mk vv = val) := hval
                  have hvz : val.size ≤ 9223372036854775807 := by
                    obtain ⟨x, nn, _, _, _, h5, _⟩ := txtR_some htx
                    rw [← hval, mk_size, h5, List.length_take, List.length_drop, List.length_drop]
                    omega
                  rw [hval]
                  clear htx hval
                  have hen : ¬ (en : Int) < 0 := by omega
                  obtain ⟨d0, d1, d2, d3⟩ := HR4.out.cells
                  have df2 := HR4.out.frozen 2
                  have HRW : Hid (RB (w4.setCell ⟨rb, 2, none⟩ (.string val)) rb y key val false) := HR4.out.set2 _
                  have HAW : Hid (Below wr.heap.size wr (w4.setCell ⟨rb, 2, none⟩ (.string val))) := ⟨HA4.out.os, HA4.out.tape, HA4.out.output, by simpa [World.setCell] using HA4.out.size, fun j hj => (Below.heap_setCell _ _ _ _ (by have := HS0.out; show j ≠ rb; omega)).trans (HA4.out.block j hj)⟩
                  generalize hw5 : w4.setCell ⟨rb, 2, none⟩ (.string val) = w5 at HRW HAW
                  go_upto_region 24 with fail
                  clear hw5 d0 d1 d2 d3 df2
                  have hq1 : en ≤ S.length := by rw [HSL.out]; exact hel
                  obtain ⟨d0, d1, d2, d3⟩ := HRW.out.cells
                  have HOWN : Hid (∀ o, Own (w5.alloc o) w.heap.size V M ∧ w.heap.size ≤ (w5.alloc o).heap.size) := fun o =>
                    ⟨(HR.out.own.below HAW.out).below ((Below.refl _ _).alloc (Nat.le_refl _) _), by have := HAW.out.size; have := hbs; simp; omega⟩
                  go_wp2_with (first
                    | (at_builtin; refine wpList_append_lies _ rfl _ _ 26 rfl w.heap.size 56 i0 (.agg #[.int .i64 0, .string ⟨#[]⟩, .string ⟨#[]⟩, .bool false]) 4 48 Try.underlying26 HI.out.1 HI.out.2.1 HI.out.2.2.1 HI.out.2.2.2 rfl (by decide) V M.length (rcs M) rfl (HOWN.out _).1 ⟨w5.heap.size, 0, none⟩ 1 1 [.int .i64 y, .string key, .string val, .bool false] rfl rfl (news4 _ _ _ _ _ _) (one4 _ _ _ _) (by decide) (by unfold maxLen; omega) (by omega) (HOWN.out _).2 _ rfl ?_; intro g cap' w8 hown hgrow hat' hgl; have HGR := And.intro hown (And.intro hgrow hgl); clear hown hgrow hat' hgl)
                    | fail)
                  have HE : Hid (Own w8 w.heap.size (.slice (some ⟨g, 0, none⟩) (M.length + 1) cap') (M ++ [⟨y, key, val, false⟩]) ∧ Below w.heap.size w w8 ∧ RIn w8 (some ⟨g, 0, none⟩) (M ++ [⟨y, key, val, false⟩])) := by
                    obtain ⟨hown, hgrow, hgl⟩ := HGR
                    have hW2 : Below wr.heap.size wr (w5.alloc (.cells #[.int .i64 y, .string key, .string val, .bool false] 56)) := HAW.out.alloc HAW.out.size _
                    have ho : Own w8 w.heap.size (.slice (some ⟨g, 0, none⟩) (M.length + 1) cap') (M ++ [⟨y, key, val, false⟩]) := by
                      show w8.ownsRow _ _ _ _ _ _
                      rw [rcs_append, List.length_append]
                      exact hown
                    have hi : w8.ownsRow w.heap.size 56 4 (.slice (some ⟨g, 0, none⟩) (M.length + 1) cap') (M.length + 1) (rcs (M ++ [⟨y, key, val, false⟩])) := by
                      rw [rcs_append]; exact hown
                    exact ⟨ho, (HR.out.bel.trans (hW2.mono hbs)).trans (below_grown (HOWN.out _).1 hgrow (HOWN.out _).2), RIn.owned hi hgl⟩
                  clear HGR d0 d1 d2 d3
                  have HRI : Hid (∀ W, RIn W (some ⟨g, 0, none⟩) (M ++ [⟨y, key, val, false⟩]) → Calls Try.prog 38 #[.slice (some ⟨g, 0, none⟩) (M.length + 1) cap', .int .i64 base] W fun e w' => e = .returned (.bool (comes (M ++ [⟨y, key, val, false⟩]) base)) ∧ Below W.heap.size W w') := fun W h => by
                    have h1 := rise_ok (some ⟨g, 0, none⟩) cap' (M ++ [⟨y, key, val, false⟩]) base W h (by
                      intro r hr
                      rcases List.mem_append.1 hr with hr | hr
                      · exact HR.out.sized r hr
                      · simp at hr; subst hr; exact ⟨hkz, by first | exact hvz | exact Nat.zero_le _⟩) (by rw [List.length_append]; simp; omega)
                    rw [hbo, Bool.true_and, List.length_append] at h1
                    exact h1
                  have hRD : rdRec base (S.drop at_) = some (⟨y, key, val, false⟩, S.drop en) := by rw [rd_val HVD.out (by rw [HB1.out]; exact HTX1.out) HNZ.out, HTX2.out]; simp only [HY.out, HKEY.out, HVAL.out]
                  have HRD : Hid (rdRec base (S.drop at_) = some (⟨y, key, val, false⟩, S.drop en)) := hRD
                  clear hRD
                  refine (HRI.out _ HE.out.2.2).mono ?_
                  rintro e w9 ⟨rfl, hb9⟩
                  have HB9 : Hid (Below w.heap.size w w9) := HE.out.2.1.trans (hb9.mono HE.out.2.1.size)
                  have HO9 : Hid (Own w9 w.heap.size (.slice (some ⟨g, 0, none⟩) (M.length + 1) cap') (M ++ [⟨y, key, val, false⟩])) := HE.out.1.below hb9
                  clear hb9
                  by_cases hcm : comes (M ++ [⟨y, key, val, false⟩]) base = true
                  · rw [hcm]
                    have HN : Hid (RR w w9 base S (.slice (some ⟨g, 0, none⟩) (M.length + 1) cap') (M ++ [⟨y, key, val, false⟩]) en) :=
                      ⟨by rw [List.length_append]; exact rdN_snoc HR.out.rd HRD.out, HO9.out, HB9.out, hcm, by omega, by
                        intro r hr
                        rcases List.mem_append.1 hr with hr | hr
                        · exact HR.out.sized r hr
                        · simp at hr; subst hr; exact ⟨hkz, by first | exact hvz | exact Nat.zero_le _⟩⟩
                    clear hcm
                    go_wp2
                    go_roundw
                    case rel => exact ⟨_, M ++ [⟨y, key, val, false⟩], _, rfl, rfl, by simp, by simp; omega, HN.out⟩
                    case measure => simp [intOf]; omega
                  · have hcm' : comes (M ++ [⟨y, key, val, false⟩]) base = false := by simpa using hcm
                    rw [hcm']
                    have HM : Hid (res = none) := by
                      rw [← HRES.out, HKK.out]
                      exact ofL_bad HR.out.rd HRD.out hcm'
                    clear hcm hcm'
                    go_wp2
                    go_ret2
                    exact .inr ⟨HM.out, rfl, HB9.out⟩
                · have HM : Hid (res = none) := by
                    rw [← HRES.out, HKK.out]
                    refine ofL_more HR.out.rd ?_
                    rw [rd_val HVD.out (by rw [HB1.out]; exact HTX1.out) HNZ.out, htx]
                  have HBE : Hid (Below w.heap.size w w4) := HR.out.bel.trans (HA4.out.mono hbs)
                  clear htx
                  go_wp2
                  go_ret2
                  exact .inr ⟨HM.out, rfl, HBE.out⟩
          · have HM : Hid (res = none) := by
              rw [← HRES.out, HKK.out]
              exact ofL_more HR.out.rd (rd_key HVD.out (by rw [HB1.out]; exact htx))
            have HBE : Hid (Below w.heap.size w w2) := HR.out.bel.trans (HA2.out.mono hbs)
            clear htx
            go_wp2
            go_ret2
            exact .inr ⟨HM.out, rfl, HBE.out⟩
      · have HM : Hid (res = none) := by
          rw [← HRES.out, HKK.out]
          exact ofL_more HR.out.rd (rd_first hvd)
        have HBE : Hid (Below w.heap.size w wr) := HR.out.bel
        clear hvd
        rcases he with rfl | rfl
        all_goals
          go_wp2
          go_ret2
          exact .inr ⟨HM.out, rfl, HBE.out⟩
    · have hML : M.length = n := by omega
      have hnlt : ¬ (M.length : Int) < (n : Int) := by omega
      have HE : Hid (res = if (S.drop at_).isEmpty then some M else none) := by
        rw [← HRES.out, ← hML]
        exact ofL_end HR.out.rd HR.out.may
      by_cases hend : at_ = sz
      · have HX : Hid (res = some M) := by
          rw [HE.out, List.drop_eq_nil_of_le (by rw [HSL.out]; omega)]; rfl
        subst hend
        go_wp2
        go_ret2
        exact .inl ⟨M, V, HX.out, rfl, HR.out.own, HR.out.bel⟩
      · have HX : Hid (res = none) := by
          rw [HE.out]
          have hl : 0 < (S.drop at_).length := by rw [List.length_drop, HSL.out]; omega
          cases hd : S.drop at_ with
          | nil => rw [hd] at hl; simp at hl
          | cons b R => rfl
        have hendi : ¬ (at_ : Int) = (sz : Int) := by omega
        go_wp2
        go_ret2
        exact .inr ⟨HX.out, rfl, HR.out.bel⟩
/-- The document's Of of whatever bytes. -/
theorem rof_ok (S : List UInt8) (base n : Int) (w : World) (hn : n ≤ 9223372036854775807) (hsz : S.length ≤ 140737488355328) :
    Calls Try.prog 31 #[.string (mk S), .int .i64 base, .int .i64 n] w fun e w' => OfEnd w (ofO S base n) e w' := by
  unfold ofO
  by_cases h : offB base = true ∧ 0 ≤ n
  · rw [if_pos h]
    obtain ⟨N, rfl⟩ := Int.eq_ofNat_of_zero_le h.2
    exact rof_walk S base N w h.1 (by omega) hsz
  · rw [if_neg h]
    refine rof_bad (mk S) base n w ?_
    cases hb : offB base with
    | false => exact .inl rfl
    | true => exact .inr (by rw [hb] at h; simp at h; exact h)
end Go.Proofs.Ytalpbnkmppdgdaa
