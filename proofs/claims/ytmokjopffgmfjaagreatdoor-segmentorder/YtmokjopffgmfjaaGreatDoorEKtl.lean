/- Layer 11: told: a segment holds batches. -/
import Derived.Test.YtmokjopffgmfjaaGreatDoorEKss
namespace Go.Proofs.YtmokjopffgmfjaaGreatDoor
open Go.RowKit
set_option linter.unusedVariables false
set_option maxRecDepth 20000
set_option maxRecDepth 20000

set_option maxHeartbeats 8000000 in
theorem told_ok (w : World) (B Bd Bh s d base room cnt : Nat) (nm : ByteArray) (F : List UInt8 → Option (List Nat × Nat)) (l : List BT) (K : List Nat) (v : Value) (hS : SS w B Bd s d base room cnt nm F l K) (hv : OwnS w Bh v l) (hT : TabF w) :
    Calls Tryz.prog 19 #[.pointer (some ⟨s, 0, none⟩), v, .int .i64 (base : Nat)] w fun e w' => e = .returned (.bool true) ∧ Below w.heap.size w w' := by
  obtain ⟨hl1, hl2⟩ := hS.len
  have hbb := hS.hb
  obtain ⟨a, c, rfl⟩ := hv.form
  have HH := hide (And.intro hS (And.intro hv hT))
  have HL := hide (And.intro hl1 (And.intro hl2 hbb))
  obtain ⟨n, hn⟩ : ∃ n, l.length = n := ⟨_, rfl⟩
  have HNl := hide hn
  rw [hn] at hl1 ⊢
  have hE1 : endB base l ≤ base + 256 * n := by
    have : ∀ (m : List BT), allOK m → cnts m ≤ 256 * m.length := by
      intro m
      induction m with
      | nil => intro _; exact Nat.zero_le _
      | cons b m ih =>
        intro h
        have h1 := ih (fun x hx => h x (List.mem_cons_of_mem _ hx))
        have h2 := (h b List.mem_cons_self).ok.cnt
        have e : cnts (b :: m) = b.h.cnt + cnts m := by simp [cnts]
        rw [e, List.length_cons]
        omega
    have := this l hS.ok
    unfold endB
    rw [hn] at this
    omega
  obtain ⟨E, hE⟩ : ∃ E, endB base l = E := ⟨_, rfl⟩
  have HE := hide hE
  rw [hE] at hE1
  have hEb : E ≤ 4295032831 := by omega
  obtain ⟨Sz, hSz⟩ : ∃ S, szs l = S := ⟨_, rfl⟩
  have HSz := hide hSz
  have hpf := plAt_full base l
  rw [hE, hSz, hn] at hpf
  have HPf := hide hpf
  have HEn := hide (fun W (hW : Below w.heap.size w W) => rend_ok W Bh base (.slice a n c) l (HH.out.2.1.below hW |> fun h => by rw [HNl.out] at h; exact h) HH.out.1.ch HH.out.1.ok HL.out.1 (by have := HL.out.2.2; omega))
  clear hS hv hT hl2 hn hE hSz hpf hE1
  go_enter Tryz.func19, Tryz.ntmps19
  go_wp2
  go_loopw [7, 8] (fun x i wr => ∃ k : Nat, i = .int .i64 (k : Nat) ∧ k ≤ n ∧ x = .int .i64 (szs (l.take k) : Nat) ∧ wr = w) (fun _ i _ => n - (intOf i).toNat)
  case atStart => exact ⟨0, rfl, by omega, rfl, rfl⟩
  case round =>
    obtain ⟨k, rfl, hk, rfl, hwr⟩ := hrel
    obtain rfl := hwr.symm
    clear hwr
    by_cases hkn : k < n
    · have hkni : (k : Int) < (n : Int) := by omega
      obtain ⟨g, hga, hnl', hcell⟩ := HH.out.2.1.blk (by rw [HNl.out]; omega)
      subst hga
      clear hnl'
      obtain ⟨b, hbk⟩ : ∃ b, l[k]? = some b := ⟨_, List.getElem?_eq_getElem (by rw [HNl.out]; exact hkn)⟩
      have hc0 : w.cell? ⟨g, k, none⟩ = some (.string b.s) := hcell k b hbk
      have hsz := b.size
      have hst : szs (l.take k) + b.sz = szs (l.take (k + 1)) := by
        obtain ⟨h1, rfl⟩ := List.getElem?_eq_some_iff.1 hbk
        rw [List.take_succ_eq_append_getElem h1, szs_append, szs_one]
      have hle : szs (l.take (k + 1)) ≤ 16777216 := by
        have e : szs l = szs (l.take (k + 1)) + szs (l.drop (k + 1)) := by rw [← szs_append, List.take_append_drop]
        have := HL.out.2.1
        omega
      obtain ⟨x, hx⟩ : ∃ x, szs (l.take k) = x := ⟨_, rfl⟩
      obtain ⟨y, hy⟩ : ∃ y, szs (l.take (k + 1)) = y := ⟨_, rfl⟩
      obtain ⟨bs, hbs⟩ : ∃ bs, b.s = bs := ⟨_, rfl⟩
      rw [hx, hy] at hst
      rw [hy] at hle
      rw [hbs] at hsz hc0
      rw [hx]
      have hsum : (x : Int) + (bs.size : Int) = (y : Int) := by omega
      have HY := hide hy
      clear hcell hbk hst hx hy hbs hsz
      go_wp2
      refine ⟨⟨k + 1, by first | rfl | simp, by omega, by rw [HY.out], by first | rfl | trivial⟩, by simp [intOf]; omega⟩
    · have hke : k = n := by omega
      have hkni : ¬ (k : Int) < (n : Int) := by omega
      have hszk : szs (l.take k) = Sz := by rw [← HSz.out, hke, ← HNl.out, List.take_length]
      rw [hszk]
      clear hkn hke hk hszk
      have HEn' := hide (HEn.out w (Below.refl _ _))
      rw [HE.out] at HEn'
      go_wp2_with fail
      refine HEn'.out.mono ?_
      rintro e w1 ⟨rfl, hb1⟩
      have H1 := hide hb1
      have hsg := HH.out.1.sg.below hb1
      rw [HNl.out, HPf.out] at hsg
      have G1 : Hid (∀ _ : Unit, Calls Tryz.prog 12 #[.pointer (some ⟨s, 0, none⟩)] w1 fun e w' => e = .returned (.int .i64 (base : Nat)) ∧ w' = w1) := fun _ => sBase_ok w1 B s d base nm _ _ hsg
      have G2 : Hid (∀ _ : Unit, Calls Tryz.prog 13 #[.pointer (some ⟨s, 0, none⟩)] w1 fun e w' => e = .returned (.int .i64 (E : Nat)) ∧ w' = w1) := fun _ => sEnd_ok w1 B s d base nm _ _ hsg
      have G3 : Hid (∀ _ : Unit, Calls Tryz.prog 15 #[.pointer (some ⟨s, 0, none⟩)] w1 fun e w' => e = .returned (.int .i64 (n : Nat)) ∧ w' = w1) := fun _ => sLen_ok w1 B s d base nm _ _ hsg
      have G4 : Hid (∀ _ : Unit, Calls Tryz.prog 14 #[.pointer (some ⟨s, 0, none⟩)] w1 fun e w' => e = .returned (.int .i64 (Sz : Nat)) ∧ w' = w1) := fun _ => sSize_ok w1 B s d base nm _ _ hsg
      clear hb1 hsg HEn' HEn
      go_wp2_with fail
      refine (G1.out ()).mono ?_
      rintro e W ⟨rfl, hW⟩
      obtain rfl := hW.symm
      clear hW G1
      go_wp2_with fail
      refine (G2.out ()).mono ?_
      rintro e W ⟨rfl, hW⟩
      obtain rfl := hW.symm
      clear hW G2
      go_wp2_with fail
      refine (G3.out ()).mono ?_
      rintro e W ⟨rfl, hW⟩
      obtain rfl := hW.symm
      clear hW G3
      go_wp2_with fail
      refine (G4.out ()).mono ?_
      rintro e W ⟨rfl, hW⟩
      obtain rfl := hW.symm
      clear hW G4
      go_wp2
      have hbi : (base : Int) ≤ 65535 := by omega
      go_loopw [10] (fun x wq => ∃ o : Int, x = .int .i64 o ∧ (base : Int) - 1 ≤ o ∧ o ≤ (E : Int) + 1 ∧ Below w.heap.size w wq) (fun x _ => ((E : Int) + 1 - intOf x).toNat)
      case atStart => exact ⟨(base : Int) - 1, rfl, by omega, by have := HE.out; unfold endB at this; omega, H1.out⟩
      case round =>
        obtain ⟨o, rfl, ho1, ho2, hbel⟩ := hrel
        by_cases hoE : o ≤ (E : Int)
        · have HB := hide hbel
          have hob1 : -1 ≤ o := by omega
          have hob2 : o ≤ 4295032831 := by omega
          have hS2 := HH.out.1.below hbel
          have hv2 : OwnS wr Bh (.slice a n c) l := by have h := HH.out.2.1.below hbel; rw [HNl.out] at h; exact h
          have hT2 := HH.out.2.2.new hbel
          have HHav := hide (fun W (hW : Below wr.heap.size wr W) => rhaving_ok W Bh base (.slice a n c) l (hv2.below hW) hS2.ch hS2.ok HL.out.1 o)
          by_cases hin : (base : Int) ≤ o ∧ o < (E : Int)
          · obtain ⟨m, hm⟩ : ∃ m : Nat, o = (m : Int) := ⟨o.toNat, by omega⟩
            have hl0 : l ≠ [] := by
              rintro rfl
              have := HE.out
              simp [endB, cnts] at this
              omega
            have hfile : FileOf F nm l := by
              rcases hS2.file with h | h
              · exact absurd h.1 hl0
              · exact h.1
            have HBt := hide (batch_found wr B Bd s d base room cnt (szs l) nm F l K hS2.sg hS2.vd hS2.may hfile hS2.ch hS2.ok hS2.mks hT2 m (by omega) (by have := HE.out; omega))
            rw [← hm] at HBt
            have HM := hide hm
            have HO := hide (And.intro ho1 (And.intro ho2 (And.intro hoE hS2.ok)))
            obtain ⟨g, hga, hnl', hcell⟩ := hv2.blk (List.length_pos_iff.2 hl0)
            clear hnl'
            have HC := hide hcell
            have HGA := hide hga
            clear hga
            clear hbel hS2 hv2 hT2 ho1 ho2 hin hl0 hfile hcell hm
            go_wp2_with fail
            refine HBt.out.mono ?_
            rintro e w2 ⟨i, b, hib, hi1, hi2, rfl, hb2⟩
            obtain ⟨bs, hbs⟩ : ∃ bs, b.s = bs := ⟨_, rfl⟩
            rw [hbs]
            have HBS := hide hbs
            clear hbs
            have H2 := hide (And.intro hib (And.intro hi1 (And.intro hi2 hb2)))
            have HHv := hide (HHav.out w2 hb2)
            clear hib hi1 hi2 hb2 HBt HHav
            go_wp2_with fail
            refine HHv.out.mono ?_
            rintro e w3 ⟨hb3, hcase⟩
            rcases hcase with ⟨rfl, hno⟩ | ⟨j, cb, hj, hj1, hj2, rfl⟩
            · exact absurd ⟨by have := H2.out.2.1; have := HM.out; omega, by have := H2.out.2.2.1; have := HM.out; omega⟩ (hno i b H2.out.1)
            · have hij : i = j := only HO.out.2.2.2 H2.out.1 hj (o := o) (by have := H2.out.2.1; have := HM.out; omega) (by have := H2.out.2.2.1; have := HM.out; omega) hj1 hj2
              subst hij
              have hc3 : w3.cell? ⟨g, i, none⟩ = some (.string b.s) := cellB hb3 (cellB H2.out.2.2.2 (HC.out i b H2.out.1))
              have hil : i < n := by have := (List.getElem?_eq_some_iff.1 hj).1; have := HNl.out; omega
              have hili : (i : Int) < (n : Int) := by omega
              have hi0 : ¬ (i : Int) < 0 := by omega
              have H3 := hide ((HB.out.trans (H2.out.2.2.2.mono HB.out.size)).trans (hb3.mono (Nat.le_trans HB.out.size H2.out.2.2.2.size)))
              rw [HBS.out] at hc3
              obtain rfl := HGA.out
              have HOE := hide hoE
              clear hj hj1 hj2 hb3 HHv hoE
              have hoE' := HOE.out
              go_wp2
              refine ⟨⟨o + 1, by first | rfl | simp, by have := HO.out.1; omega, by have := HOE.out; omega, H3.out⟩, ?_⟩
              have := HOE.out
              have := HO.out.1
              simp [intOf]; omega
          · have HBt := hide (batch_out wr B s d base nm _ _ hS2.sg o (by rw [HNl.out, HPf.out]; show o < (base : Int) ∨ (E : Int) ≤ o; omega))
            have HO := hide (And.intro ho1 (And.intro ho2 (And.intro hoE (And.intro hS2.ok (And.intro hS2.ch hin)))))
            clear hbel hS2 hv2 hT2 ho1 ho2 hin
            go_wp2_with fail
            refine HBt.out.mono ?_
            rintro e w2 ⟨rfl, hb2⟩
            have H2 := hide hb2
            have HHv := hide (HHav.out w2 hb2)
            clear hb2 HBt HHav
            go_wp2_with fail
            refine HHv.out.mono ?_
            rintro e w3 ⟨hb3, hcase⟩
            rcases hcase with ⟨rfl, hno⟩ | ⟨j, cb, hj, hj1, hj2, rfl⟩
            · have H3 := hide ((HB.out.trans (H2.out.mono HB.out.size)).trans (hb3.mono (Nat.le_trans HB.out.size H2.out.size)))
              have HOE := hide hoE
              clear hb3 hno HHv hoE
              have hoE' := HOE.out
              go_wp2
              refine ⟨⟨o + 1, by first | rfl | simp, by have := HO.out.1; omega, by have := HOE.out; omega, H3.out⟩, ?_⟩
              have := HOE.out
              have := HO.out.1
              simp [intOf]; omega
            · exfalso
              have hjl := (List.getElem?_eq_some_iff.1 hj).1
              have hx1 := (plAt_le (base := base) HO.out.2.2.2.1 (Nat.zero_le j) (Nat.le_of_lt hjl)).1
              have hx2 := (plAt_le (base := base) HO.out.2.2.2.1 (show j + 1 ≤ l.length from hjl) (Nat.le_refl _)).1
              rw [plAt_zero] at hx1
              rw [HNl.out, HPf.out] at hx2
              simp only at hx1 hx2
              have := HO.out.2.2.2.2.2
              omega
        · have hoE' : ¬ o ≤ (E : Int) := hoE
          have H3 := hide hbel
          clear hbel ho1 ho2
          go_wp2
          go_ret
          exact ⟨rfl, H3.out⟩
end Go.Proofs.YtmokjopffgmfjaaGreatDoor
