/- Messages out of bytes: read. -/
/- Messages out of bytes: Of. -/
import Derived.Test.YtalpbnkmppdgdaaV14
import Derived.Deep.DeepCutAuto
import Derived.Test.YtalpbnkmppdgdaaV13
namespace Go.Proofs.Ytalpbnkmppdgdaa
open Go.RowKit
set_option linter.unusedVariables false

set_option maxHeartbeats 4000000 in
theorem read_ok (S : List UInt8) (w : World) (hS : S.length ≤ 1048576) :
    Calls Try.prog 29 #[.string (mk S)] w fun e w' => ReadE S w e w' := by
  have HST : Hid (NR w (rw7 w (mk S)) S [] (mk S) true) := nr_start w S
  have hmf : ∀ (fn : Fn) (first cap : Array Value) (w : World), (Instr.makeFunc fn first cap).run Try.prog w = .ok (.func fn first cap) w := fun _ _ _ _ => rfl
  have hms := mk_size S
  obtain ⟨i0, hi, hz0, hz1, hz2⟩ := info_split strInfo
  have HI : Hid (Try.prog.info? 9 = some i0 ∧ i0.zero = some (.string ⟨#[]⟩) ∧ i0.size = 1 ∧ i0.bytes = 16) := ⟨hi, hz0, hz1, hz2⟩
  clear hi hz0 hz1 hz2
  generalize hW7 : rw7 w (mk S) = w7 at HST
  unfold rw7 ptrs at hW7
  go_enter Try.func29, Try.ntmps29
  go_wp2
  clear hmf
  go_loopw [33] (fun i wr => ∃ (l : List Nat) (t : ByteArray) (ok : Bool), i = .int .i64 (l.length : Nat) ∧ l.length ≤ 12 ∧ NR w wr S l t ok) (fun i _ => 12 - (intOf i).toNat)
  case atStart => exact ⟨[], mk S, true, rfl, Nat.zero_le _, by first | exact HST.out | exact hW7 ▸ HST.out⟩
  case round =>
    clear hW7 HST
    obtain ⟨l, t, ok, rfl, hl12, hnr⟩ := hrel
    have HNR : Hid (NR w wr S l t ok) := hnr
    clear hnr
    by_cases hlt : l.length < 12
    · obtain ⟨pb, pj, c0, hp1, hp2, hp3, hpl⟩ := HNR.out.rm.place hlt
      have HPL : Hid (∀ w' : World, RM w' w.heap.size l → w'.cell? ⟨pb, pj, none⟩ = some (.int .i64 0) ∧ w'.frozen? ⟨pb, pj, none⟩ = false ∧ ∀ x : Nat, RM (w'.setCell ⟨pb, pj, none⟩ (.int .i64 (x : Nat))) w.heap.size (l ++ [x])) := hpl
      clear hpl
      have hts : t.size ≤ 9223372036854775807 := by have := HNR.out.sz; omega
      go_wp2_with fail
      refine (wnumber_nat w.heap.size t ok _ HNR.out.rd hts).mono ?_
      rintro e w1 ⟨x, t1, g, hN, rfl, hrd, hnf⟩
      have hrm := HNR.out.rm.nf hnf
      obtain ⟨d0, d1, d2⟩ := HPL.out w1 hrm
      have HNX : Hid (NR w (w1.setCell ⟨pb, pj, none⟩ (.int .i64 (x : Nat))) S (l ++ [x]) t1 (ok && g)) := by
        refine ⟨hrd.other hp2 hp3 _, d2 x, (HNR.out.bel.trans (hnf.below (Nat.le_refl _) HNR.out.bel.size)).setCell hp1 _, HNR.out.nums.more hlt hN, Nat.le_trans hN.le.2 HNR.out.sz, fun y hy => ?_⟩
        rcases List.mem_append.1 hy with hy | hy
        · exact HNR.out.le y hy
        · simp at hy; subst hy; exact hN.le.1
      clear hN hrd hnf hrm d2 c0 hp1 hp2 hp3
      go_wp2
      go_roundw
      case rel => exact ⟨l ++ [x], t1, ok && g, by simp, by simp; omega, HNX.out⟩
      case measure => simp [intOf]; omega
    · have hl : l.length = 12 := by omega
      clear hlt hl12
      have e7 : wr.cell? ⟨w.heap.size + 4, 0, none⟩ = some (.int .i64 (l.getD 7 0 : Nat)) := by simp [World.cell?, HNR.out.rm.he]
      have e8 : wr.cell? ⟨w.heap.size + 3, 7, none⟩ = some (.int .i64 0) := by simp [World.cell?, HNR.out.rm.hm, mc]
      have e9 : wr.frozen? ⟨w.heap.size + 3, 7, none⟩ = false := by simp [World.frozen?, HNR.out.rm.hm]
      have HLS : Hid (LR w (wr.setCell ⟨w.heap.size + 3, 7, none⟩ (.int .i64 (l.getD 7 0 : Nat))) S l (.slice none 0 0) [] t ok) := lr_start HNR.out hl
      have HNE : Hid (NumsE S l t ok) := HNR.out.nums
      have hle11 : l.getD 11 0 ≤ 9223372036854775807 := by
        refine HNR.out.le _ ?_
        rw [List.getD_eq_getElem?_getD, List.getElem?_eq_getElem (by omega)]
        exact List.getElem_mem _
      obtain ⟨n7, hn7⟩ : ∃ n7, l.getD 7 0 = n7 := ⟨_, rfl⟩
      rw [hn7] at e7 HLS
      clear hn7
      generalize hWL : wr.setCell ⟨w.heap.size + 3, 7, none⟩ (.int .i64 (n7 : Nat)) = wl at HLS
      clear HNR
      go_upto_region 12 with fail
      clear hWL e7 e8 e9
      obtain ⟨c1, c2, c3, c4, c5⟩ := HLS.out.cells
      obtain ⟨tx, htx⟩ : ∃ tx, l.getD 11 0 = tx := ⟨_, rfl⟩
      have HTX : Hid (l.getD 11 0 = tx) := htx
      rw [htx] at c4 hle11
      clear htx
      by_cases hb : tx ≤ 4096
      · have hbi : ¬ (4096 : Int) < (tx : Int) := by omega
        clear HNE
        go_wp2
        clear c1 c2 c3 c4 c5
        go_loopw [] (fun wr => ∃ (V : Value) (T : List ByteArray) (t : ByteArray) (ok : Bool), LR w wr S l V T t ok) (fun wr => lgM w.heap.size tx wr)
        case atStart => exact ⟨_, [], t, ok, HLS.out⟩
        case round =>
          clear HLS t ok
          obtain ⟨V, T, t, ok, hlr⟩ := hrel
          have HLR : Hid (LR w wr S l V T t ok) := hlr
          obtain ⟨la, lc, hV, hTI⟩ := hlr.own.slice
          obtain ⟨c1, c2, c3, c4, c5⟩ := hlr.cells
          rw [HTX.out] at c4
          have hTl : T.length ≤ tx := by have := hlr.le; rw [HTX.out] at this; exact this
          have htS := hlr.sz
          subst hV
          clear hlr hTI
          cases ok
          · have HE : Hid (rdRaw S = none) := by
              rcases HLR.out.fin with ⟨hf, _⟩ | ⟨_, h⟩
              · cases hf
              · exact h
            go_wp2_with fail
            refine (wnumber_nat w.heap.size t false _ HLR.out.rd (by omega)).mono ?_
            rintro e w1 ⟨x, t1, g, hN, rfl, hrd, hnf⟩
            rw [Bool.false_and] at hrd
            have hx := hN.le.1
            have HBE : Hid (Below w.heap.size w w1) := HLR.out.bel.trans (hnf.below (Nat.le_refl _) HLR.out.bel.size)
            have H0W : Hid (w1.heap[w.heap.size]? = some (.cells zero13 28 (0, 0))) := HLR.out.h0nf hnf
            have e2 := hrd.cells.2.1
            clear hN hrd hnf c1 c2 c3 c4 c5 HI
            obtain ⟨z0, z1, z2, z3, z4, z5, z6, z7, z8, z9, z10, z11, z12⟩ := cells13 H0W.out
            have hfr := frozen0 H0W.out
            go_wp2
            refine bodyPost_ret (v := ?v) ?c1 rfl ?c2
            case c1 =>
              rw [results_cell_tmp rfl]
              go_simp
              all_goals exact rfl
            case c2 =>
              refine .inr ⟨HE.out, ⟨zeroM, zeroS, rfl⟩, ?_⟩
              simp only [bl_set]
              exact HBE.out
          · by_cases hlt : T.length < tx
            · have hns : (mk S).size ≤ 1048576 := by rw [hms]; exact hS
              have hts1 : t.size ≤ 9223372036854775807 := by omega
              have HNUM : Hid (∀ W, RD W w.heap.size t true → Calls Try.prog 42 #[.pointer (some ⟨w.heap.size + 1, 0, none⟩), .pointer (some ⟨w.heap.size + 1 + 1, 0, none⟩)] W fun e w' => ∃ (x : Nat) (t1 : ByteArray) (g : Bool), NumN t x t1 g ∧ e = .returned (.int .i64 (x : Nat)) ∧ RD w' w.heap.size t1 g ∧ NF w.heap.size W w') := fun W h => by
                have := wnumber_nat w.heap.size t true W h hts1
                simpa using this
              have HTXT : Hid (∀ W x t1 g, NumN t x t1 g → RD W w.heap.size t1 g → Calls Try.prog 44 #[.int .i64 (x : Nat), .pointer (some ⟨w.heap.size + 1, 0, none⟩), .pointer (some ⟨w.heap.size + 1 + 1, 0, none⟩)] W fun e w' => ∃ p t2 g2, TextE t1 x p t2 g2 ∧ e = .returned (.string p) ∧ RD w' w.heap.size t2 (g && g2) ∧ NF w.heap.size W w') := fun W x t1 g hN h =>
                wtext_nat w.heap.size t1 g x W h (by have := hN.le; omega) hN.le.1
              have hbig := HLR.out.big
              go_upto_region 15 with fail
              clear c1 c2 c4 c5
              go_region_law
                (first
                  | (refine step_append_lies _ rfl _ _ 25 rfl (w.heap.size + 7) 9 i0 (.string ⟨#[]⟩) 1 16 Try.underlying25 HI.out.1 HI.out.2.1 HI.out.2.2.1 HI.out.2.2.2 rfl (by decide) (.slice la T.length lc) T.length (T.map Value.string) rfl (HOW.out _).1 ⟨w2.heap.size, 0, none⟩ 1 1 [.string p] rfl rfl (news1 _ _ _) (one1 _) (by decide) (by unfold maxLen; omega) (by omega) (HOW.out _).2 _ rfl ?_; intro g5 cap5 w5 hown hgrow hat hgl; obtain ⟨k4, k5⟩ := HLR.out.at11 (HLR.out.gr3 HNF2.out _ hgrow); have HGR : Hid (_ ∧ _) := ⟨hown, hgrow⟩; clear hown hgrow hat hgl)
                  | (go_simp; go_at_call 42; refine (HNUM.out _ HLR.out.rd.drew).mono ?_; rintro e w1 ⟨x, t1, g, hN, he, hrd, hnf⟩; subst he; have HN1 : Hid (NumN t x t1 g ∧ RD w1 w.heap.size t1 g ∧ NF w.heap.size wr w1) := ⟨hN, hrd, hnf.undrew⟩; have k1 := (HLR.out.at11 (HLR.out.nf3 hnf.undrew)).1; clear hN hrd hnf)
                  | (go_simp; go_at_call 44; refine (HTXT.out _ _ _ _ HN1.out.1 HN1.out.2.1).mono ?_; rintro e w2 ⟨p, t2, g2, hT2, he, hrd, hnf⟩; subst he; have HT2 : Hid (TextE t1 x p t2 g2 ∧ RD w2 w.heap.size t2 (g && g2) ∧ NF w.heap.size w1 w2) := ⟨hT2, hrd, hnf⟩; have hnf2 : NF w.heap.size wr w2 := HN1.out.2.2.trans hnf; have HNF2 : Hid (NF w.heap.size wr w2) := hnf2; have k2 := (HLR.out.at11 (HLR.out.nf3 hnf2)).1; have k3 := fun o => (HLR.out.at11 (HLR.out.al3 hnf2 o)).1; have HOW : Hid (∀ o, (w2.alloc o).ownsRow (w.heap.size + 7) 9 1 (.slice la T.length lc) T.length (T.map Value.string) ∧ w.heap.size + 7 ≤ (w2.alloc o).heap.size) := fun o => HLR.out.ownA hnf2 o; clear hT2 hrd hnf hnf2))
              all_goals
                have HNX : Hid (LR w (w5.setCell ⟨w.heap.size + 3, 11, none⟩ (.slice (some ⟨g5, 0, none⟩) (T.length + 1) cap5)) S l (.slice (some ⟨g5, 0, none⟩) (T.length + 1) cap5) (T ++ [p]) t2 (g && g2)) := HLR.out.more (by rw [HTX.out]; exact hlt) HN1.out.1 HT2.out.1 HN1.out.2.2 HT2.out.2.2 HT2.out.2.1 HGR.out.1 HGR.out.2
                clear HGR HOW k4 k5 k3 k2 k1
                go_wp2
                go_roundw
                case rel => exact ⟨_, T ++ [p], t2, g && g2, HNX.out⟩
                case measure => rw [lgM_eq HNX.out.cells.2.2.1, lgM_eq HLR.out.cells.2.2.1]; omega
            · have hTt : T.length = tx := by omega
              have hlti : ¬ ((T.length : Nat) : Int) < (tx : Int) := by omega
              obtain ⟨R1, R, htR, hn12, hlg⟩ : ∃ R1 R, t = mk R ∧ rdNums 12 S = some (l, R1) ∧ rdLog T.length R1 = some (T, R) := by
                rcases HLR.out.fin with ⟨_, h⟩ | ⟨hf, _⟩
                · exact h
                · cases hf
              have hRaw := raw_body hn12 (by rw [HTX.out]; exact hb) (by rw [HTX.out, ← hTt]; exact hlg)
              have HRaw : Hid (rdRaw S = match rdBody R with | none => none | some B => some (msgOf l T B)) := hRaw
              subst htR
              rw [mk_size] at htS
              clear hRaw hn12 hlg hTt
              go_wp2_with fail
              refine (wnumber_nat w.heap.size (mk R) true _ HLR.out.rd (by rw [mk_size]; omega)).mono ?_
              rintro e w1 ⟨x, t1, g, hN, rfl, hrd, hnf⟩
              rw [Bool.true_and] at hrd
              have hx := hN.le.1
              have HBE : Hid (Below w.heap.size w w1) := HLR.out.bel.trans (hnf.below (Nat.le_refl _) HLR.out.bel.size)
              have H0W : Hid (w1.heap[w.heap.size]? = some (.cells zero13 28 (0, 0))) := HLR.out.h0nf hnf
              have e2 := hrd.cells.2.1
              rcases hN with ⟨n, hv, rfl, rfl⟩ | ⟨hv, rfl, _, rfl⟩
              · by_cases hx2 : x ≤ 256
                · have e1 := hrd.cells.1
                  rw [extract_drop] at e1
                  have HOF : Hid (∀ W, Calls Try.prog 46 #[.string (mk (R.drop n)), .int .i64 0, .int .i64 (x : Nat)] W fun e w' => OfEnd W (ofL 0 x (R.drop n)) e w') := fun W => by
                    have := of_ok (R.drop n) 0 (x : Nat) W (by omega) (by rw [List.length_drop]; omega)
                    have e : ofO (R.drop n) 0 (x : Nat) = ofL 0 x (R.drop n) := by unfold ofO; rw [if_pos ⟨by decide, by omega⟩]; rfl
                    rw [e] at this
                    exact this
                  have HB : Hid (rdBody R = ofL 0 x (R.drop n)) := body_some hv hx2
                  obtain ⟨n0, n1, n2, n3, n4, n5, n6, n7', n8, n9, n10, hmc, hmo⟩ := HLR.out.mcells
                  have HMO : Hid (∀ T B, msgOf l T B = ⟨n0, n1, n2, n3, n4, n5, n6, n7', n8, n9, n10, T, B⟩) := hmo
                  have H1m : Hid (w1.heap[w.heap.size + 3]? = some (.cells #[.int .i64 n0, .int .i64 n1, .int .i64 n2, .int .i64 n3, .int .i64 n4, .int .i64 n5, .int .i64 n6, .int .i64 n7', .int .i64 n8, .int .i64 n9, .int .i64 n10, .slice la T.length lc, .slice none 0 0] 28 (0, 0))) := (hnf.block _ (lt_of_block hmc) (by omega) (by omega)).trans hmc
                  have H1O : Hid (OT w1 (w.heap.size + 7) (.slice la T.length lc) T) := HLR.out.own.keep (fun k hk hk2 => hnf.block k hk2 (by omega) (by omega))
                  have hbig : w.heap.size + 7 ≤ w1.heap.size := Nat.le_trans HLR.out.big hnf.size
                  clear hrd hnf c1 c2 c3 c4 c5 HI hv hmc hmo
                  go_wp2_with fail
                  refine (HOF.out _).mono ?_
                  rintro e w2 (⟨L, v, hof, rfl, hown, hb2⟩ | ⟨hof, rfl, hb2⟩)
                  · obtain ⟨hLx, hLs⟩ := ofL_all hof
                    obtain ⟨ba, bc, hva, hRI⟩ := hown.slice
                    subst hva
                    have hE : rdRaw S = some ⟨n0, n1, n2, n3, n4, n5, n6, n7', n8, n9, n10, T, L⟩ := by rw [HRaw.out, HB.out, hof]; simp only; rw [HMO.out]
                    have HE : Hid (rdRaw S = some ⟨n0, n1, n2, n3, n4, n5, n6, n7', n8, n9, n10, T, L⟩) := hE
                    clear hE
                    have h2m : w2.heap[w.heap.size + 3]? = some (.cells #[.int .i64 n0, .int .i64 n1, .int .i64 n2, .int .i64 n3, .int .i64 n4, .int .i64 n5, .int .i64 n6, .int .i64 n7', .int .i64 n8, .int .i64 n9, .int .i64 n10, .slice la T.length lc, .slice none 0 0] 28 (0, 0)) := (hb2.block _ (lt_of_block H1m.out)).trans H1m.out
                    have h20 : w2.heap[w.heap.size]? = some (.cells zero13 28 (0, 0)) := (hb2.block _ (lt_of_block H0W.out)).trans H0W.out
                    have y1 := (cells13 h2m).2.2.2.2.2.2.2.2.2.2.2.2
                    have y2 := frozen0 h2m 12
                    have H30 : Hid ((w2.setCell ⟨w.heap.size + 3, 12, none⟩ (.slice ba L.length bc)).heap[w.heap.size]? = some (.cells zero13 28 (0, 0))) := (Below.heap_setCell _ _ _ _ (by simp)).trans h20
                    have H3m : Hid ((w2.setCell ⟨w.heap.size + 3, 12, none⟩ (.slice ba L.length bc)).heap[w.heap.size + 3]? = some (.cells #[.int .i64 n0, .int .i64 n1, .int .i64 n2, .int .i64 n3, .int .i64 n4, .int .i64 n5, .int .i64 n6, .int .i64 n7', .int .i64 n8, .int .i64 n9, .int .i64 n10, .slice la T.length lc, .slice ba L.length bc] 28 (0, 0))) := (block_setCell h2m).trans (by simp)
                    have H3B : Hid (Below w.heap.size w (w2.setCell ⟨w.heap.size + 3, 12, none⟩ (.slice ba L.length bc))) := (HBE.out.trans (hb2.mono HBE.out.size)).setCell (by show w.heap.size ≤ w.heap.size + 3; omega) _
                    have H3O : Hid (OT (w2.setCell ⟨w.heap.size + 3, 12, none⟩ (.slice ba L.length bc)) (w.heap.size + 7) (.slice la T.length lc) T) := (H1O.out.keep (fun k hk hk2 => hb2.block k hk2)).hi ((hi_set (by omega)).2 (Hi.refl _ _))
                    have H3L : Hid (Own (w2.setCell ⟨w.heap.size + 3, 12, none⟩ (.slice ba L.length bc)) w1.heap.size (.slice ba L.length bc) L) := hown.hi ((hi_set (by omega)).2 (Hi.refl _ _))
                    have HLS : Hid (L.length = x ∧ Sized L) := ⟨hLx, hLs⟩
                    clear hof hb2 h2m h20 hown hRI hLx hLs
                    generalize hW3 : w2.setCell ⟨w.heap.size + 3, 12, none⟩ (.slice ba L.length bc) = w3 at H30 H3m H3B H3O H3L
                    go_upto_region 21 with fail
                    clear hW3
                    obtain ⟨z0, z1, z2, z3, z4, z5, z6, z7, z8, z9, z10, z11, z12⟩ := cells13 H30.out
                    obtain ⟨m0, m1, m2, m3, m4, m5, m6, m7, m8, m9, m10, m11, m12⟩ := cells13 H3m.out
                    have hfr := frozen0 H30.out
                    clear y1 y2
                    go_wp2
                    refine bodyPost_ret (v := ?vt) ?c1t rfl ?c2t
                    case c1t =>
                      rw [results_cell_tmp rfl]
                      go_simp
                      all_goals exact rfl
                    case c2t =>
                      refine .inl ⟨⟨n0, n1, n2, n3, n4, n5, n6, n7', n8, n9, n10, T, L⟩, ⟨la, lc, ba, bc⟩, HE.out, rfl, ?_, ?_⟩
                      · have k1 : w.heap.size < w.heap.size + 7 := by omega
                        have k2 : w.heap.size < w1.heap.size := by omega
                        intro W' hW'
                        have hh1 : ∀ W', Kq (w.heap.size + 7) w3 W' → TIn W' la T := fun W' h => by
                          obtain ⟨a1, b1, q1, hTI⟩ := (H3O.out.kq h).slice
                          cases q1
                          exact hTI
                        have hh2 : ∀ W', Kq w1.heap.size w3 W' → RIn W' ba L := fun W' h => by
                          obtain ⟨a2, b2, q2, hRI⟩ := (H3L.out.kq h).slice
                          cases q2
                          exact hRI
                        refine ⟨hh1 _ (Kq.trans (Kq.trans (Kq.refl _ _) (C := w.heap.size + 7) ?k1 (Nat.le_refl _)) hW' (by omega)), hh2 _ (Kq.trans (Kq.trans (Kq.refl _ _) (C := w1.heap.size) ?k2 (Nat.le_refl _)) hW' (by omega)), fun y hy => (by have := HLR.out.tsz y hy; omega), HLS.out.2, (by show T.length ≤ _; omega), (by show L.length ≤ _; rw [HLS.out.1]; omega)⟩
                        · simp only [kq_set k1]; exact Kq.refl _ _
                        · simp only [kq_set k2]; exact Kq.refl _ _
                      · simp only [bl_set]
                        exact H3B.out
                  · have HE : Hid (rdRaw S = none) := by rw [HRaw.out, HB.out, hof]; rfl
                    have h2m : w2.heap[w.heap.size + 3]? = some (.cells #[.int .i64 n0, .int .i64 n1, .int .i64 n2, .int .i64 n3, .int .i64 n4, .int .i64 n5, .int .i64 n6, .int .i64 n7', .int .i64 n8, .int .i64 n9, .int .i64 n10, .slice la T.length lc, .slice none 0 0] 28 (0, 0)) := (hb2.block _ (lt_of_block H1m.out)).trans H1m.out
                    have h20 : w2.heap[w.heap.size]? = some (.cells zero13 28 (0, 0)) := (hb2.block _ (lt_of_block H0W.out)).trans H0W.out
                    have y1 := (cells13 h2m).2.2.2.2.2.2.2.2.2.2.2.2
                    have y2 := frozen0 h2m 12
                    have H30 : Hid ((w2.setCell ⟨w.heap.size + 3, 12, none⟩ (.slice none 0 0)).heap[w.heap.size]? = some (.cells zero13 28 (0, 0))) := (Below.heap_setCell _ _ _ _ (by simp)).trans h20
                    have H3m : Hid ((w2.setCell ⟨w.heap.size + 3, 12, none⟩ (.slice none 0 0)).heap[w.heap.size + 3]? = some (.cells #[.int .i64 n0, .int .i64 n1, .int .i64 n2, .int .i64 n3, .int .i64 n4, .int .i64 n5, .int .i64 n6, .int .i64 n7', .int .i64 n8, .int .i64 n9, .int .i64 n10, .slice la T.length lc, .slice none 0 0] 28 (0, 0))) := (block_setCell h2m).trans (by simp)
                    have H3B : Hid (Below w.heap.size w (w2.setCell ⟨w.heap.size + 3, 12, none⟩ (.slice none 0 0))) := (HBE.out.trans (hb2.mono HBE.out.size)).setCell (by show w.heap.size ≤ w.heap.size + 3; omega) _
                    have H3O : Hid True := trivial
                    clear hof hb2 h2m h20
                    generalize hW3 : w2.setCell ⟨w.heap.size + 3, 12, none⟩ (.slice none 0 0) = w3 at H30 H3m H3B
                    go_upto_region 21 with fail
                    clear hW3
                    obtain ⟨z0, z1, z2, z3, z4, z5, z6, z7, z8, z9, z10, z11, z12⟩ := cells13 H30.out
                    obtain ⟨m0, m1, m2, m3, m4, m5, m6, m7, m8, m9, m10, m11, m12⟩ := cells13 H3m.out
                    have hfr := frozen0 H30.out
                    clear y1 y2
                    go_wp2
                    refine bodyPost_ret (v := ?vf) ?c1f rfl ?c2f
                    case c1f =>
                      rw [results_cell_tmp rfl]
                      go_simp
                      all_goals exact rfl
                    case c2f =>
                      refine .inr ⟨HE.out, ⟨⟨n0, n1, n2, n3, n4, n5, n6, n7', n8, n9, n10, T, []⟩, ⟨la, lc, none, 0⟩, rfl⟩, ?_⟩
                      simp only [bl_set]
                      exact H3B.out
                · have hxi : (256 : Int) < (x : Int) := by omega
                  have HE : Hid (rdRaw S = none) := by rw [HRaw.out, body_many hv hx2]; rfl
                  clear hrd hnf c1 c2 c3 c4 c5 HI hv
                  obtain ⟨z0, z1, z2, z3, z4, z5, z6, z7, z8, z9, z10, z11, z12⟩ := cells13 H0W.out
                  have hfr := frozen0 H0W.out
                  go_wp2
                  refine bodyPost_ret (v := ?v) ?c1 rfl ?c2
                  case c1 =>
                    rw [results_cell_tmp rfl]
                    go_simp
                    all_goals exact rfl
                  case c2 =>
                    refine .inr ⟨HE.out, ⟨zeroM, zeroS, rfl⟩, ?_⟩
                    simp only [bl_set]
                    exact HBE.out
              · have HE : Hid (rdRaw S = none) := by rw [HRaw.out, body_none hv]; rfl
                clear hrd hnf c1 c2 c3 c4 c5 HI hv
                obtain ⟨z0, z1, z2, z3, z4, z5, z6, z7, z8, z9, z10, z11, z12⟩ := cells13 H0W.out
                have hfr := frozen0 H0W.out
                go_wp2
                refine bodyPost_ret (v := ?v) ?c1 rfl ?c2
                case c1 =>
                  rw [results_cell_tmp rfl]
                  go_simp
                  all_goals exact rfl
                case c2 =>
                  refine .inr ⟨HE.out, ⟨zeroM, zeroS, rfl⟩, ?_⟩
                  simp only [bl_set]
                  exact HBE.out
      · have hbi : (4096 : Int) < (tx : Int) := by omega
        have HE : Hid (rdRaw S = none) := raw_many HNE.out hl (by rw [HTX.out]; exact hb)
        have HBE : Hid (Below w.heap.size w wl) := HLS.out.bel
        obtain ⟨z0, z1, z2, z3, z4, z5, z6, z7, z8, z9, z10, z11, z12⟩ := cells13 HLS.out.h0
        have hfr := frozen0 HLS.out.h0
        clear c1 c2 c3 c5 HI
        go_wp2
        refine bodyPost_ret (v := ?v) ?c1 rfl ?c2
        case c1 =>
          rw [results_cell_tmp rfl]
          go_simp
          all_goals exact rfl
        case c2 =>
          refine .inr ⟨HE.out, ⟨zeroM, zeroS, rfl⟩, ?_⟩
          simp only [bl_set]
          exact HBE.out
end Go.Proofs.Ytalpbnkmppdgdaa
namespace Go.Proofs.Ytalpbnkmppdgdaa
open Go.RowKit
set_option linter.unusedVariables false

/-- What Of answers. -/
def OfW (S : List UInt8) (w : World) (e : Ending) (w' : World) : Prop :=
  (∃ m s, rdMsg S = some m ∧ e = .returned (.tuple #[Msg.v m s, .int .i64 0]) ∧ MIn w' m s ∧ Below w.heap.size w w') ∨ (rdMsg S = none ∧ e = .returned (.tuple #[Msg.v zeroM zeroS, .int .i64 140]) ∧ Below w.heap.size w w')
theorem msg_none {S : List UInt8} (h : rdRaw S = none) : rdMsg S = none := by unfold rdMsg; rw [h]
theorem msg_bad {S : List UInt8} {m : Msg} (h : rdRaw S = some m) (hm : mayM m = false) : rdMsg S = none := by unfold rdMsg; rw [h]; simp only; rw [hm]; rfl
theorem msg_good {S : List UInt8} {m : Msg} (h : rdRaw S = some m) (hm : mayM m = true) : rdMsg S = some m := by unfold rdMsg; rw [h]; simp only; rw [hm]; rfl
set_option maxHeartbeats 4000000 in
theorem wof_long (s : ByteArray) (w : World) (h : 1048576 < s.size) :
    Calls Try.prog 14 #[.string s] w fun e w' => e = .returned (.tuple #[Msg.v zeroM zeroS, .int .i64 4]) ∧ Below w.heap.size w w' := by
  have hi : (1048576 : Int) < (s.size : Int) := by omega
  have HA : Hid (Below w.heap.size w (w.alloc (.cells zero13 28))) := (Below.refl _ _).alloc (Nat.le_refl _) _
  have HR : Hid ((w.alloc (.cells zero13 28)).heap[w.heap.size]? = some (.cells zero13 28 (0, 0))) := heap_alloc_new _ _
  go_enter Try.func14, Try.ntmps14
  go_upto_region 1 with fail
  generalize hwA : w.alloc (.cells zero13 28) = wA at HA HR
  clear hwA
  obtain ⟨z0, z1, z2, z3, z4, z5, z6, z7, z8, z9, z10, z11, z12⟩ := cells13 HR.out
  have hfr := frozen0 HR.out
  go_wp2
  refine bodyPost_ret (v := ?v) ?c1 rfl ?c2
  case c1 =>
    rw [results_cell_tmp rfl]
    go_simp
    all_goals exact rfl
  case c2 =>
    refine ⟨rfl, ?_⟩
    simp only [bl_set]
    exact HA.out
set_option maxHeartbeats 4000000 in
theorem wof_ok (S : List UInt8) (w : World) (h : S.length ≤ 1048576) :
    Calls Try.prog 14 #[.string (mk S)] w fun e w' => OfW S w e w' := by
  have hms := mk_size S
  have hi : ¬ (1048576 : Int) < ((mk S).size : Int) := by omega
  have HA : Hid (Below w.heap.size w (w.alloc (.cells zero13 28))) := (Below.refl _ _).alloc (Nat.le_refl _) _
  have HR : Hid ((w.alloc (.cells zero13 28)).heap[w.heap.size]? = some (.cells zero13 28 (0, 0))) := heap_alloc_new _ _
  have HRD : Hid (∀ W, Calls Try.prog 29 #[.string (mk S)] W fun e w' => ReadE S W e w') := fun W => read_ok S W h
  go_enter Try.func14, Try.ntmps14
  go_upto_region 3 with fail
  have HAS : Hid ((w.alloc (.cells zero13 28)).heap.size = w.heap.size + 1) := by show _ = _; simp
  generalize hwA : w.alloc (.cells zero13 28) = wA at HA HR HAS
  clear hwA hms hi
  go_wp2_with fail
  refine (HRD.out _).mono ?_
  rintro e w1 (⟨m, s, hr, rfl, hin, hb1⟩ | ⟨hr, ⟨m, s, rfl⟩, hb1⟩)
  · have HRW : Hid (rdRaw S = some m) := hr
    have HKQ : Hid (∀ W, Kq (w.heap.size + 1) w1 W → MIn W m s) := fun W hW => hin W ⟨hW.size, fun k hk hk2 => hW.block k (by rw [← HAS.out]; exact hk) hk2⟩
    have hin := hin w1 (Kq.refl _ _)
    have hBa : Below w1.heap.size w1 (w1.alloc (.cells (m.cs s) 28)) := (Below.refl _ _).alloc (Nat.le_refl _) _
    have HIN : Hid (MIn (w1.alloc (.cells (m.cs s) 28)) m s) := hin.below hBa (Nat.le_refl _)
    have h1R : w1.heap[w.heap.size]? = some (.cells zero13 28 (0, 0)) := (hb1.block _ (lt_of_block HR.out)).trans HR.out
    have H2R : Hid ((w1.alloc (.cells (m.cs s) 28)).heap[w.heap.size]? = some (.cells zero13 28 (0, 0))) := (hBa.block _ (lt_of_block h1R)).trans h1R
    have HMB : Hid (MB (w1.alloc (.cells (m.cs s) 28)) w1.heap.size m s) := heap_alloc_new _ _
    have HB2 : Hid (Below w.heap.size w (w1.alloc (.cells (m.cs s) 28))) := (HA.out.trans (hb1.mono HA.out.size)).trans (hBa.mono (HA.out.trans (hb1.mono HA.out.size)).size)
    have hne : w.heap.size < w1.heap.size := lt_of_block h1R
    have HQ2 : Hid (Kq (w.heap.size + 1) w1 (w1.alloc (.cells (m.cs s) 28))) := Kq.of_below hBa
    have HC : Hid (∀ W, MIn W m s → Calls Try.prog 11 #[m.v s] W fun e w' => e = .returned (.int .i64 (errW (mayM m))) ∧ Below W.heap.size W w') := fun W h => wcheck_ok m s W h
    clear hr hin hb1 hBa h1R HR HA
    obtain ⟨mb, hmb⟩ : ∃ mb, w1.heap.size = mb := ⟨_, rfl⟩
    rw [hmb] at HMB hne
    generalize hW2 : w1.alloc (.cells (m.cs s) 28) = w2 at HIN H2R HMB HB2 HQ2
    go_upto_region 4 with fail
    clear hW2 hmb
    obtain ⟨d0, d1, d2, d3, d4, d5, d6, d7, d8, d9, d10, d11, d12⟩ := HMB.out.cells
    go_wp2_with fail
    refine (HC.out _ HIN.out).mono ?_
    rintro e w3 ⟨rfl, hb3⟩
    have H3R : Hid (w3.heap[w.heap.size]? = some (.cells zero13 28 (0, 0))) := (hb3.block _ (lt_of_block H2R.out)).trans H2R.out
    have HM3 : Hid (MB w3 mb m s) := HMB.out.below hb3
    have HB3 : Hid (Below w.heap.size w w3) := HB2.out.trans (hb3.mono HB2.out.size)
    have HQ3 : Hid (Kq (w.heap.size + 1) w1 w3) := HQ2.out.trans (Kq.of_below (B := w.heap.size + 1) hb3) (Nat.le_refl _)
    clear hb3 d0 d1 d2 d3 d4 d5 d6 d7 d8 d9 d10 d11 d12 HC HIN H2R HMB HB2
    have h0 : errW true = 0 := rfl
    have h1 : errW false = 140 := rfl
    by_cases hm : mayM m = true
    · have HE : Hid (rdMsg S = some m) := msg_good HRW.out hm
      rw [hm, h0]
      clear hm h0 h1
      obtain ⟨d0, d1, d2, d3, d4, d5, d6, d7, d8, d9, d10, d11, d12⟩ := HM3.out.cells
      obtain ⟨z0, z1, z2, z3, z4, z5, z6, z7, z8, z9, z10, z11, z12⟩ := cells13 H3R.out
      have hfr := frozen0 H3R.out
      go_wp2
      refine bodyPost_ret (v := ?vg) ?c1g rfl ?c2g
      case c1g =>
        rw [results_cell_tmp rfl]
        go_simp
        all_goals exact rfl
      case c2g =>
        have k0 : w.heap.size < w.heap.size + 1 := by omega
        refine .inl ⟨m, s, HE.out, rfl, HKQ.out _ ?_, ?_⟩
        · simp only [kq_set k0]
          exact HQ3.out
        · simp only [bl_set]
          exact HB3.out
    · have hm' : mayM m = false := by simpa using hm
      have HE : Hid (rdMsg S = none) := msg_bad HRW.out hm'
      rw [hm', h1]
      clear hm hm' h0 h1
      obtain ⟨z0, z1, z2, z3, z4, z5, z6, z7, z8, z9, z10, z11, z12⟩ := cells13 H3R.out
      have hfr := frozen0 H3R.out
      go_wp2
      refine bodyPost_ret (v := ?v) ?c1 rfl ?c2
      case c1 =>
        rw [results_cell_tmp rfl]
        go_simp
        all_goals exact rfl
      case c2 =>
        refine .inr ⟨HE.out, rfl, ?_⟩
        simp only [bl_set]
        exact HB3.out
  · have HE : Hid (rdMsg S = none) := msg_none hr
    have hBa : Below w1.heap.size w1 (w1.alloc (.cells (m.cs s) 28)) := (Below.refl _ _).alloc (Nat.le_refl _) _
    have h1R : w1.heap[w.heap.size]? = some (.cells zero13 28 (0, 0)) := (hb1.block _ (lt_of_block HR.out)).trans HR.out
    have H2R : Hid ((w1.alloc (.cells (m.cs s) 28)).heap[w.heap.size]? = some (.cells zero13 28 (0, 0))) := (hBa.block _ (lt_of_block h1R)).trans h1R
    have HB2 : Hid (Below w.heap.size w (w1.alloc (.cells (m.cs s) 28))) := (HA.out.trans (hb1.mono HA.out.size)).trans (hBa.mono (HA.out.trans (hb1.mono HA.out.size)).size)
    have HMB : Hid (MB (w1.alloc (.cells (m.cs s) 28)) w1.heap.size m s) := heap_alloc_new _ _
    clear hr hb1 hBa h1R HR HA HRD
    obtain ⟨mb, hmb⟩ : ∃ mb, w1.heap.size = mb := ⟨_, rfl⟩
    rw [hmb] at HMB
    generalize hW2 : w1.alloc (.cells (m.cs s) 28) = w2 at H2R HB2 HMB
    go_upto_region 4 with fail
    clear hW2 hmb
    obtain ⟨d0, d1, d2, d3, d4, d5, d6, d7, d8, d9, d10, d11, d12⟩ := HMB.out.cells
    obtain ⟨z0, z1, z2, z3, z4, z5, z6, z7, z8, z9, z10, z11, z12⟩ := cells13 H2R.out
    have hfr := frozen0 H2R.out
    go_wp2
    refine bodyPost_ret (v := ?v) ?c1 rfl ?c2
    case c1 =>
      rw [results_cell_tmp rfl]
      go_simp
      all_goals exact rfl
    case c2 =>
      refine .inr ⟨HE.out, rfl, ?_⟩
      simp only [bl_set]
      exact HB2.out
end Go.Proofs.Ytalpbnkmppdgdaa
