/- A slice of texts that came in: what its cells hold. -/
/- What a block of the fixed code says: the walk. -/
/- A []Sym that came in. -/
import Derived.Test.YtchjnfckcfikkaaDoorZp
import Derived.Test.YtchjnfckcfikkaaDoorPm
import Derived.SliceStrings
import Derived.ProofKit
import Derived.Deep.Slices
import Derived.Laws.Strings
import Derived.Test.YtchjnfckcfikkaaDoorVS1
import Derived.Test.YtchjnfckcfikkaaDoorVH
import Derived.Deep.DeepCutAuto
import Derived.Deep.CutBlock
import Derived.OpenShut
import Derived.ChangeOld
namespace Go.Proofs.YtchjnfckcfikkaaDoor
open Go.RowKit
set_option linter.unusedVariables false

theorem text_at (b o i : Nat) : (⟨b, o, none⟩ : Addr).add i = ⟨b, o + i, none⟩ := by unfold Addr.add; split <;> simp_all
/-- The texts of a row that came in. -/
def StrsAt (W : World) (b off len : Nat) (f : Nat → ByteArray) : Prop := (∀ i, i < len → W.cell? ⟨b, off + i, none⟩ = some (.string (f i))) ∧ b < W.heap.size ∧ (∀ i, i < len → (f i).size ≤ 4611686018427387904)
theorem StrsAt.below {W w : World} {b off len : Nat} {f : Nat → ByteArray} (h : StrsAt W b off len f) (hb : Below W.heap.size W w) (i : Nat) (hi : i < len) : w.cell? ⟨b, off + i, none⟩ = some (.string (f i)) := by
  rw [hb.cell h.2.1]
  exact h.1 i hi
theorem weightsAll_mem {H : Type} {P : Program} {e : TypeId} {l : List (DataW H)} {d : DataW H} {n : Nat} (hd : d ∈ l) (hn : n ∈ d.weights P e) : n ∈ DataW.weightsAll P e l := by
  induction l with
  | nil => cases hd
  | cons x r ih =>
    simp only [DataW.weightsAll]
    rcases List.mem_cons.1 hd with h | h
    · subst h; exact List.mem_append_left _ hn
    · exact List.mem_append_right _ (ih h)
theorem cellsStr : Tryd.prog.cellsOf 9 = 1 := by kernel_rfl
open Go.ChangeShapes in
theorem open_texts {H : Type} {enc : TypeId × Value → H} {W : World} {fuel : Nat} {a0 : Option Addr} {len cap : Nat} {x : DataW H × List MemPlace} (h : DataW.trod enc Tryd.prog W 0 (fun _ => true) true fuel 41 [.slice a0 len cap] = some x) (hwt : ∀ n ∈ x.1.weights Tryd.prog 41, n ≤ 140737488351232) :
    ∃ b off f, len ≤ 9223372036854775807 ∧ (len = 0 ∨ (a0 = some ⟨b, off, none⟩ ∧ StrsAt W b off len f)) := by
  rcases open_strings Tryd.underlying41 Tryd.underlying9 cellsStr h with ⟨hcs, hx⟩ | ⟨a, len', cap', ss, hcs, _, hl, hm, hz, hx, hcell, hws⟩
  · cases hcs; exact ⟨0, 0, fun _ => ⟨#[]⟩, by omega, .inl rfl⟩
  · cases hcs
    have hle : len ≤ ss.length := by rw [hz]; simp; exact hl
    have hlm : len ≤ 9223372036854775807 := by unfold maxLen at hm; omega
    rcases Nat.eq_zero_or_pos len with h0 | hpos
    · exact ⟨0, 0, fun _ => ⟨#[]⟩, hlm, .inl h0⟩
    · obtain ⟨b, off, spot⟩ := a
      have h0 := hcell 0 (by omega)
      have hsp : spot = none := World.cell?_spot (w := W) (a := ⟨b, off, spot⟩) (v := .string (ss.getD 0 ByteArray.empty)) (by simpa [Addr.add] using h0)
      subst hsp
      refine ⟨b, off, fun i => ss.getD i ByteArray.empty, hlm, .inr ⟨rfl, ?_, ?_, ?_⟩⟩
      · intro i hi
        have := hcell i (by omega)
        rw [text_at] at this
        exact this
      · exact World.block_lt_of_cell? W ⟨b, off, none⟩ (u := .string (ss.getD 0 ByteArray.empty)) (by simpa [Addr.add] using h0)
      · intro i hi
        have hi' : i < ss.length := by omega
        have hmem : (ss[i].size : Nat) ∈ x.1.weights Tryd.prog 41 := by
          rw [hx]
          simp only [DataW.weights, Tryd.underlying41]
          refine List.mem_cons_of_mem _ (List.mem_append_left _ ?_)
          refine weightsAll_mem (d := .lit (.string ss[i].data.toList)) ?_ (by simp [DataW.weights])
          unfold strs
          exact List.mem_map_of_mem (List.mem_take_iff_getElem.2 ⟨i, by omega, rfl⟩)
        have := hwt _ hmem
        show (ss.getD i ByteArray.empty).size ≤ _
        rw [List.getD_eq_getElem?_getD, List.getElem?_eq_getElem hi']
        show ss[i].size ≤ _
        omega
end Go.Proofs.YtchjnfckcfikkaaDoor
namespace Go.Proofs.YtchjnfckcfikkaaDoor
open Go.RowKit
set_option linter.unusedVariables false

/-- Where the writing stands. -/
def SaySt (K : Nat → Prop) (W1 wr : World) (vo : Value) (O : List Nat) (vw : Value) (V : List Nat) : Prop :=
  MS K wr vo O vw V ∧ UF K W1 wr ∧ Wr O V ∧ Bits01 O ∧ O.take 3 = [1, 1, 0] ∧ O.length ≤ 3 + 60 * V.length ∧ Bytes V
theorem range_snoc (i : Nat) : (List.range (i + 1)).map fixL = (List.range i).map fixL ++ [fixL i] := by rw [List.range_succ, List.map_append]; rfl
set_option maxRecDepth 20000 in
set_option maxHeartbeats 8000000 in
theorem says_walk (a0 : Option Addr) (len cap : Nat) (f : Nat → Nat → Int) (w : World) (hA : A2 w a0 len f) (hlen : len ≤ 9223372036854775807) (ho : OrdAt w) :
    Calls Tryd.prog 6 #[.slice a0 len cap] w fun e w' => e = .returned (.bool true) ∧ Below w.heap.size w w' := by
  have HA : Hid (A2 w a0 len f) := hA
  have HO : Hid (OrdAt w) := ho
  obtain ⟨i0, hi0, hz0, hz1, hz2⟩ := info_parts infoN
  have HI : Hid (Tryd.prog.info? 3 = some i0 ∧ i0.zero = some (.int .i64 0) ∧ i0.size = 1 ∧ i0.bytes = 8) := ⟨hi0, hz0, hz1, hz2⟩
  obtain ⟨i1, hi0, hz0, hz1, hz2⟩ := info_parts infoB
  have HIB : Hid (Tryd.prog.info? 5 = some i1 ∧ i1.zero = some (.int .u8 0) ∧ i1.size = 1 ∧ i1.bytes = 1) := ⟨hi0, hz0, hz1, hz2⟩
  clear hA ho hi0 hz0 hz1 hz2
  go_enter Tryd.func6, Tryd.ntmps6
  go_upto_block 0 with fail
  go_cut [3] (fun v3 wd => ∃ g cp, v3 = .slice (some ⟨g, 0, none⟩) 288 cp ∧ Hid (RI wd (fun k => k < w.heap.size) (.slice (some ⟨g, 0, none⟩) 288 cp) fixS ∧ UF (fun k => k < w.heap.size) w wd))
  case first =>
    as_aux_lemma =>
      go_wp2_with fail
      go_loopw [3, 4] (fun v3 v4 wr => ∃ i : Nat, v4 = .int .i64 i ∧ i ≤ 288 ∧ Hid (RI wr (fun k => k < w.heap.size) v3 ((List.range i).map fixL) ∧ UF (fun k => k < w.heap.size) w wr)) (fun _ v4 _ => 288 - (intOf v4).toNat)
      case atStart => exact ⟨0, rfl, by omega, RI.nil _ _ (fun k h => h), UF.refl _ _⟩
      case round =>
        obtain ⟨i, rfl, hi, HS⟩ := hrel
        obtain ⟨ao, cp, hv⟩ := HS.out.1.form
        subst hv
        rw [List.length_map, List.length_range] at HS ⊢
        by_cases hlt : i < 288
        · have hlti : (i : Int) < 288 := by omega
          have HA2 : Hid (∀ o, RI (wr.alloc o) (fun k => k < w.heap.size) (.slice ao i cp) ((List.range i).map fixL)) := fun o => HS.out.1.alloc o
          have HO2 : Hid (∀ o, (wr.alloc o).ownsRow 0 3 1 (.slice ao i cp) i (icl ((List.range i).map fixL))) := fun o => by have := (HA2.out o).own; rw [List.length_map, List.length_range] at this; exact this
          have HN : Hid (∀ (c g3 cap3 : Nat) (wc : World), c = fixL i → wc.ownsRow 0 3 1 (.slice (some ⟨g3, 0, none⟩) (i + 1) cap3) (i + 1) (icl ((List.range i).map fixL) ++ [.int .i64 (c : Nat)]) → (wr.alloc (.cells #[.int .i64 (c : Nat)] 3)).grownBy wc (Value.slice ao i cp).ownBlock → ((Value.slice ao i cp).ownBlock = some g3 ∨ g3 = (wr.alloc (.cells #[.int .i64 (c : Nat)] 3)).heap.size) → RI wc (fun k => k < w.heap.size) (.slice (some ⟨g3, 0, none⟩) (i + 1) cap3) ((List.range (i + 1)).map fixL) ∧ UF (fun k => k < w.heap.size) w wc) := fun c g3 cap3 wc hc hown hg hat => by
            have hz := (HA2.out (.cells #[.int .i64 (c : Nat)] 3)).growL (ys := [c]) (m := i + 1) (by simp) (by exact hown) hg hat
            rw [range_snoc, ← hc]
            exact ⟨hz.1, (HS.out.2.trans (UF.below ((Below.refl _ _).alloc (Nat.le_refl _) _) HS.out.1.kb)).trans hz.2⟩
          by_cases c0 : i < 144
          · have c0i : (i : Int) < 144 := by omega
            have HF : Hid (8 = fixL i) := by show 8 = fixL i; unfold fixL; rw [if_pos c0]
            go_wp2_with (at_builtin; refine wpList_append_lies _ rfl _ _ 29 rfl 0 3 i0 (.int .i64 0) 1 8 Tryd.underlying29 HI.out.1 HI.out.2.1 HI.out.2.2.1 HI.out.2.2.2 rfl (by decide) (.slice ao i cp) i (icl ((List.range i).map fixL)) rfl (HO2.out _) ⟨wr.heap.size, 0, none⟩ 1 1 [.int .i64 (8 : Nat)] rfl rfl (newB wr _ _) (one1 _) (by decide) (by unfold maxLen; omega) (by omega) (Nat.zero_le _) _ rfl ?_; intro g3 cap3 wc hown hgrow hat hgl; have HZ : Hid (RI wc (fun k => k < w.heap.size) (.slice (some ⟨g3, 0, none⟩) (i + 1) cap3) ((List.range (i + 1)).map fixL) ∧ UF (fun k => k < w.heap.size) w wc) := HN.out 8 g3 cap3 wc HF.out hown hgrow hat; clear hown hgrow hat hgl)
            exact ⟨⟨i + 1, by go_num, by omega, HZ⟩, by simp [intOf]; omega⟩
          · have c0i : ¬ (i : Int) < 144 := by omega
            by_cases c1 : i < 256
            · have c1i : (i : Int) < 256 := by omega
              have HF : Hid (9 = fixL i) := by show 9 = fixL i; unfold fixL; rw [if_neg c0, if_pos c1]
              go_wp2_with (at_builtin; refine wpList_append_lies _ rfl _ _ 29 rfl 0 3 i0 (.int .i64 0) 1 8 Tryd.underlying29 HI.out.1 HI.out.2.1 HI.out.2.2.1 HI.out.2.2.2 rfl (by decide) (.slice ao i cp) i (icl ((List.range i).map fixL)) rfl (HO2.out _) ⟨wr.heap.size, 0, none⟩ 1 1 [.int .i64 (9 : Nat)] rfl rfl (newB wr _ _) (one1 _) (by decide) (by unfold maxLen; omega) (by omega) (Nat.zero_le _) _ rfl ?_; intro g3 cap3 wc hown hgrow hat hgl; have HZ : Hid (RI wc (fun k => k < w.heap.size) (.slice (some ⟨g3, 0, none⟩) (i + 1) cap3) ((List.range (i + 1)).map fixL) ∧ UF (fun k => k < w.heap.size) w wc) := HN.out 9 g3 cap3 wc HF.out hown hgrow hat; clear hown hgrow hat hgl)
              exact ⟨⟨i + 1, by go_num, by omega, HZ⟩, by simp [intOf]; omega⟩
            · have c1i : ¬ (i : Int) < 256 := by omega
              by_cases c2 : i < 280
              · have c2i : (i : Int) < 280 := by omega
                have HF : Hid (7 = fixL i) := by show 7 = fixL i; unfold fixL; rw [if_neg c0, if_neg c1, if_pos c2]
                go_wp2_with (at_builtin; refine wpList_append_lies _ rfl _ _ 29 rfl 0 3 i0 (.int .i64 0) 1 8 Tryd.underlying29 HI.out.1 HI.out.2.1 HI.out.2.2.1 HI.out.2.2.2 rfl (by decide) (.slice ao i cp) i (icl ((List.range i).map fixL)) rfl (HO2.out _) ⟨wr.heap.size, 0, none⟩ 1 1 [.int .i64 (7 : Nat)] rfl rfl (newB wr _ _) (one1 _) (by decide) (by unfold maxLen; omega) (by omega) (Nat.zero_le _) _ rfl ?_; intro g3 cap3 wc hown hgrow hat hgl; have HZ : Hid (RI wc (fun k => k < w.heap.size) (.slice (some ⟨g3, 0, none⟩) (i + 1) cap3) ((List.range (i + 1)).map fixL) ∧ UF (fun k => k < w.heap.size) w wc) := HN.out 7 g3 cap3 wc HF.out hown hgrow hat; clear hown hgrow hat hgl)
                exact ⟨⟨i + 1, by go_num, by omega, HZ⟩, by simp [intOf]; omega⟩
              · have c2i : ¬ (i : Int) < 280 := by omega
                have HF : Hid (8 = fixL i) := by show 8 = fixL i; unfold fixL; rw [if_neg c0, if_neg c1, if_neg c2]
                go_wp2_with (at_builtin; refine wpList_append_lies _ rfl _ _ 29 rfl 0 3 i0 (.int .i64 0) 1 8 Tryd.underlying29 HI.out.1 HI.out.2.1 HI.out.2.2.1 HI.out.2.2.2 rfl (by decide) (.slice ao i cp) i (icl ((List.range i).map fixL)) rfl (HO2.out _) ⟨wr.heap.size, 0, none⟩ 1 1 [.int .i64 (8 : Nat)] rfl rfl (newB wr _ _) (one1 _) (by decide) (by unfold maxLen; omega) (by omega) (Nat.zero_le _) _ rfl ?_; intro g3 cap3 wc hown hgrow hat hgl; have HZ : Hid (RI wc (fun k => k < w.heap.size) (.slice (some ⟨g3, 0, none⟩) (i + 1) cap3) ((List.range (i + 1)).map fixL) ∧ UF (fun k => k < w.heap.size) w wc) := HN.out 8 g3 cap3 wc HF.out hown hgrow hat; clear hown hgrow hat hgl)
                exact ⟨⟨i + 1, by go_num, by omega, HZ⟩, by simp [intOf]; omega⟩
        · have hlti : ¬ (i : Int) < 288 := by omega
          obtain rfl : i = 288 := by omega
          obtain ⟨g, hg⟩ : ∃ g, ao = some ⟨g, 0, none⟩ := by
            rcases HS.out.1.own.2 with ⟨e, h0⟩ | ⟨g, cap, cur, e, _⟩
            · simp at h0
            · cases e; exact ⟨g, rfl⟩
          subst hg
          go_wp2_with fail
          go_meet
          case rel => exact ⟨g, cp, rfl, HS⟩
  case rest =>
    obtain ⟨g0, cp0, rfl, HL⟩ := hcut
    obtain ⟨w1, hw1⟩ : ∃ w1, w1 = wc := ⟨_, rfl⟩
    subst hw1
    have hrow := HL.out.1.row
    have HCO : Hid (∀ _ : Unit, Calls Tryd.prog 12 #[.slice (some ⟨g0, 0, none⟩) 288 cp0] w1 fun e w' => CodesEnd w1 (inN fixS) e w') := fun _ => refCodes_ok (inN fixS) _ cp0 288 w1 (by rw [inN_length, fixS_len]) hrow.1 (by omega)
    go_wp2_with fail
    refine (HCO.out ()).mono ?_
    rintro e w2 ⟨⟨_, _, Lw, rfl, hLB, hLw⟩ | ⟨hbad, _⟩, hb2⟩
    rotate_left
    · exact absurd ⟨may_inN fixS_15 (by rw [fixS_len]; omega), by rw [nsOf_inN]; exact fixS_ew⟩ hbad
    rw [inN_length, fixS_len, nsOf_inN] at hLB
    rw [inN_length, fixS_len]
    obtain ⟨K, hK⟩ : ∃ K : Nat → Prop, (fun k => k < w2.heap.size) = K := ⟨_, rfl⟩
    have hg0 : g0 < w1.heap.size := (hrow.2 g0 0 rfl).2
    have HCELL : Hid (∀ W, UF K w2 W → (∀ j, j < 288 → W.cell? ⟨g0, j, none⟩ = some (.int .i64 (fixS.getD j 0 : Nat)) ∧ W.cell? ⟨Lw, j, none⟩ = some (.int .i64 (cw fixS j : Nat))) ∧ A2 W a0 len f ∧ OrdAt W ∧ Below w.heap.size w W) := fun W hW => by
      rw [← hK] at hW
      have h12 := hb2.size
      have h01 := HL.out.2.size
      have bW : Below w2.heap.size w2 W := hW.toBelow
      have b0 : Below w.heap.size w W := ((below_of_uf HL.out.2).trans (hb2.mono h01)).trans (bW.mono (by omega))
      refine ⟨fun j hj => ⟨?_, ?_⟩, ?_, ?_, b0⟩
      · rw [World.cell?_of_block (w := w2) (bW.block g0 (by omega)), World.cell?_of_block (w := w1) (hb2.block g0 hg0)]
        rcases hrow.1 with e | ⟨b, off, e, hlt, hc⟩
        · have : (inN fixS).length = 0 := by rw [e]; rfl
          rw [inN_length, fixS_len] at this; omega
        · cases e
          have := hc j (by rw [inN_length, fixS_len]; exact hj)
          rw [inN_get, Nat.zero_add] at this
          exact this
      · rw [World.cell?_of_block (w := w2) (bW.block Lw (lt_of_block hLB))]
        exact (hLB.cell hj).1
      · rcases HA.out with e | ⟨b, off, e, hlt, hc⟩
        · exact .inl e
        · exact .inr ⟨b, off, e, Nat.lt_of_lt_of_le hlt b0.size, fun i hi j hj => by rw [World.cell?_of_block (w := w) (b0.block b hlt)]; exact hc i hi j hj⟩
      · exact HO.out.below b0
    have HPU : Hid (∀ _ : Unit, Calls Tryd.prog 13 #[.slice none 0 0, .int .i64 (3 : Nat), .int .i64 (3 : Nat)] w2 fun en w' => ∃ v', en = .returned v' ∧ RI w' K v' ([] ++ bitsOf 3 3) ∧ UF K w2 w') := fun _ => put_ok [] (.slice none 0 0) 3 3 (RI.nil w2 K (fun k h => by rw [← hK] at h; exact h)) (by simp) (by omega) (by omega)
    clear hLB hLw hb2 hrow hg0 HL HCO hK HA HO
    go_wp2_with fail
    refine (HPU.out ()).mono ?_
    rintro e w3 ⟨v3, rfl, hr3, hu3⟩
    have hb3 : ([] : List Nat) ++ bitsOf 3 3 = [1, 1, 0] := by decide
    rw [hb3] at hr3
    have HS3 : Hid (SaySt K w2 w3 v3 [1, 1, 0] (.slice none 0 0) []) := ⟨⟨hr3, ⟨rfl, .inl ⟨rfl, rfl⟩⟩, fun g h => by simp [Value.ownBlock] at h⟩, hu3, Wr.nil, by intro x hx; simp at hx; omega, rfl, by simp, by intro x hx; simp at hx⟩
    clear hr3 hu3 hb3 HPU
    go_upto_block 3 with fail
    clear hi0 hz0 hz1 hz2
    go_cut [7, 8] (fun v7 v8 wd => Hid (∃ O V, SaySt K w2 wd v7 O v8 V ∧ V.length ≤ 4400))
    case first =>
      as_aux_lemma =>
        go_wp2_with fail
        go_loopw [7, 8, 9] (fun v7 v8 v9 wr => ∃ i : Nat, v9 = .int .i64 i ∧ i ≤ len ∧ Hid (∃ O V, SaySt K w2 wr v7 O v8 V ∧ V.length ≤ 4400)) (fun _ _ v9 _ => len - (intOf v9).toNat)
        case atStart => exact ⟨0, rfl, Nat.zero_le _, _, _, HS3.out, by simp⟩
        case round =>
          obtain ⟨i, rfl, hi, HS⟩ := hrel
          obtain ⟨O, V, hS, hV⟩ := HS.out
          obtain ⟨ao, cp, hvo⟩ := hS.1.oform
          obtain ⟨aw, cq, hvw⟩ := hS.1.wform
          obtain ⟨LO, hLO⟩ : ∃ n, O.length = n := ⟨_, rfl⟩
          obtain ⟨LV, hLV⟩ : ∃ n, V.length = n := ⟨_, rfl⟩
          rw [hLO] at hvo
          rw [hLV] at hvw hV
          subst hvo
          subst hvw
          by_cases hlt : i < len
          · have hlti : (i : Int) < (len : Int) := by omega
            by_cases hsm : LV < 4096
            · have hsmi : (LV : Int) < 4096 := by omega
              have hLOb : LO ≤ 300000 := by have := hS.2.2.2.2.2.1; omega
              obtain ⟨hcl, hA2, _, _⟩ := HCELL.out wr hS.2.1
              obtain ⟨b, off, ha0, c0, c1⟩ : ∃ b off, a0 = some ⟨b, off, none⟩ ∧ wr.cell? ⟨b, off + i * 2, none⟩ = some (.int .i64 (f i 0)) ∧ wr.cell? ⟨b, off + i * 2 + 1, none⟩ = some (.int .i64 (f i 1)) := by
                rcases hA2 with e | ⟨b, off, e, _, hc⟩
                · omega
                · exact ⟨b, off, e, hc i hlt 0 (by omega), hc i hlt 1 (by omega)⟩
              subst ha0
              obtain ⟨F, hF⟩ : ∃ z, f i 0 = z := ⟨_, rfl⟩
              obtain ⟨N, hN⟩ : ∃ z, f i 1 = z := ⟨_, rfl⟩
              rw [hF] at c0
              rw [hN] at c1
              have hand := i64_and15 F
              have handN := i64_and255' N
              obtain ⟨far, hfar⟩ : ∃ n : Nat, F % 32768 = (n : Int) := ⟨(F % 32768).toNat, by omega⟩
              obtain ⟨kk, hkk0⟩ : ∃ n : Nat, N % 256 = (n : Int) := ⟨(N % 256).toNat, by omega⟩
              have hfb : far < 32768 := by omega
              have hkk : kk < 256 := by omega
              rw [hfar] at hand
              rw [hkk0] at handN
              have HS2 : Hid (SaySt K w2 wr (.slice ao LO cp) O (.slice aw LV cq) V) := hS
              have HLV : Hid (V.length = LV) := hLV
              have HLOa : Hid (O.length = LO) := hLO
              have HNN : Hid (bits .and .i64 N 255 = (kk : Int)) := handN
              clear hS hA2 hF hN hfar hkk0 hcl handN hLV hLO HS
              go_upto_region 18 with fail
              go_quiet (fail)
              clear hand c0 c1
              obtain ⟨VW, hVW⟩ : ∃ z, z = Value.slice aw LV cq := ⟨_, rfl⟩
              obtain ⟨tb, htb⟩ : ∃ t, decide (far = 0 ∨ LV < far) = t := ⟨_, rfl⟩
              have HTB : Hid (decide (far = 0 ∨ LV < far) = tb) := htb
              clear htb
              obtain ⟨hcl, _, _, _⟩ := HCELL.out (wr.drewN nq) (HS2.out.2.1.trans (UF.drewN _ _ nq))
              go_upto_region 19 with fail
              go_cut [84] (fun v84 wd => v84 = .bool tb ∧ wd = wr.drewN nq)
              case first =>
                as_aux_lemma =>
                  by_cases h0 : far = 0
                  · have h0i : (far : Int) = 0 := by omega
                    have h0b : ((far : Int) == 0) = true := by simp; omega
                    have HBt : Hid (tb = true) := by show tb = true; rw [← HTB.out]; simp [h0]
                    clear h0
                    go_wp2_with fail
                    go_meet
                    case rel => exact ⟨by rw [HBt.out], rfl⟩
                  · have h0i : ¬ (far : Int) = 0 := by omega
                    have h0b : ((far : Int) == 0) = false := by simp; omega
                    by_cases h1 : LV < far
                    · have h1i : (LV : Int) < (far : Int) := by omega
                      have HBt : Hid (tb = true) := by show tb = true; rw [← HTB.out]; simp [h1]
                      go_wp2_with fail
                      go_meet
                      case rel => exact ⟨by rw [HBt.out], rfl⟩
                    · have h1i : ¬ (LV : Int) < (far : Int) := by omega
                      have HBt : Hid (tb = false) := by show tb = false; rw [← HTB.out]; simp [h0, h1]
                      go_wp2_with fail
                      go_meet
                      case rel => exact ⟨by rw [HBt.out], rfl⟩
              case rest =>
                obtain ⟨rfl, hwc⟩ := hcut
                rw [← hwc] at hcl
                have HQ : Hid (SaySt K w2 wc (.slice ao LO cp) O (.slice aw LV cq) V) := by rw [hwc]; exact ⟨HS2.out.1.drewN nq, HS2.out.2.1.trans (UF.drewN _ _ nq), HS2.out.2.2⟩
                obtain ⟨wq, hwq⟩ : ∃ z, z = wc := ⟨_, rfl⟩
                subst hwq
                clear hwc
                cases tb with
                | true =>
                  obtain ⟨cx, cwd⟩ := hcl kk (by omega)
                  obtain ⟨lk, hlk⟩ : ∃ n, fixS.getD kk 0 = n := ⟨_, rfl⟩
                  obtain ⟨wd, hwd⟩ : ∃ n, cw fixS kk = n := ⟨_, rfl⟩
                  rw [hlk] at cx
                  rw [hwd] at cwd
                  have hlk1 : 1 ≤ lk ∧ lk ≤ 15 := by rw [← hlk]; exact ⟨(fixS_fit kk (by omega)).2, fixS_15 kk⟩
                  have hwdb : wd ≤ 32768 := by rw [← hwd]; exact cw_le fixS_15 (by rw [fixS_len]; omega) fixS_ew kk (by rw [fixS_len]; omega)
                  have HWD : Hid (fixS.getD kk 0 = lk ∧ cw fixS kk = wd) := ⟨hlk, hwd⟩
                  have hkki : (kk : Int) < 288 := by omega
                  have HCK : Hid (∀ W, UF K w2 W → W.cell? ⟨g0, kk, none⟩ = some (.int .i64 (lk : Nat)) ∧ W.cell? ⟨Lw, kk, none⟩ = some (.int .i64 (wd : Nat))) := fun W hW => by have := (HCELL.out W hW).1 kk (by omega); rw [HWD.out.1, HWD.out.2] at this; exact this
                  have hk256 : (kk : Int) % 256 = (kk : Int) := by omega
                  have HS2b : Hid (MS K wq (.slice ao LO cp) O VW V) := by rw [hVW]; exact HQ.out.1
                  have handN := HNN.out
                  have HVW : Hid (VW = Value.slice aw LV cq) := hVW
                  clear hlk hwd HTB hcl hVW
                  go_upto_region 21 with fail
                  clear handN HNN
                  have HMa : Hid (MS K wq (.slice ao LO cp) O VW V ∧ UF K w2 wq) := ⟨HS2b.out, HQ.out.2.1⟩
                  go_wp2_with fail
                  go_region_held_law (fun w' => w'.cell? ⟨g0, kk, none⟩ = some (.int .i64 (lk : Nat)) ∧ w'.cell? ⟨Lw, kk, none⟩ = some (.int .i64 (wd : Nat))) (first | assumption | exact ⟨cx, cwd⟩ | go_keep)
                    (first
                      | (go_at_call 14; refine (word_cells wd lk (by omega) (by omega) (by omega) _).mono ?_; rintro e V2 ⟨gw, capw, rfl, hce, hbe⟩; have HCEa : Hid (∀ j u, (icl (wbitsOf wd lk))[j]? = some u → V2.cell? ((⟨gw, 0, none⟩ : Addr).add j) = some u) := hce; have HTa : Hid (MS K V2 (.slice ao LO cp) O VW V ∧ UF K w2 V2) := ⟨HMa.out.1.below ⟨hbe.os, hbe.tape, hbe.output, hbe.size, hbe.block⟩, HMa.out.2.trans (HMa.out.1.uf ⟨hbe.os, hbe.tape, hbe.output, hbe.size, hbe.block⟩)⟩; have HOa : Hid (V2.ownsRow 0 3 1 (.slice ao LO cp) LO (icl O)) := (by have h := HTa.out.1.out.own; rw [HLOa.out] at h; exact h); clear hce hbe; have KS := HCK.out V2 HTa.out.2)
                      | (refine step_append_lies _ rfl _ _ 29 rfl 0 3 i0 (.int .i64 0) 1 8 Tryd.underlying29 HI.out.1 HI.out.2.1 HI.out.2.2.1 HI.out.2.2.2 rfl (by decide) (.slice ao LO cp) LO (icl O) rfl HOa.out ⟨gw, 0, none⟩ lk capw (icl (wbitsOf wd lk)) rfl (by simp [icl, wbitsOf_length]) HCEa.out (one_icells _) (by omega) (by unfold maxLen; omega) (by omega) (Nat.zero_le _) _ rfl ?_; intro ga capa wa hown hgrow hat hgl; have HWa : Hid (MS K wa (.slice (some ⟨ga, 0, none⟩) (LO + lk) capa) (O ++ wbitsOf wd lk) VW V ∧ UF K w2 wa) := (by obtain ⟨m1, m2⟩ := HTa.out.1.grewO (ys := wbitsOf wd lk) (m := LO + lk) (by rw [HLOa.out, wbitsOf_length]) hown hgrow hat; exact ⟨m1, HTa.out.2.trans m2⟩); have KS1 := HCK.out wa HWa.out.2; clear hown hgrow hat hgl; (try go_simp)))
                  all_goals
                    clear HOa HCEa HTa HMa
                    have HOW : Hid (∀ o, (wa.alloc o).ownsRow 0 5 1 VW LV (bcells V)) := fun o => by have h := (HWa.out.1.alloc o).own; rw [HLV.out] at h; exact h
                    rw [HVW.out] at HOW
                    go_wp2_with (at_builtin; refine wpList_append_lies _ rfl _ _ 33 rfl 0 5 i1 (.int .u8 0) 1 1 Tryd.underlying33 HIB.out.1 HIB.out.2.1 HIB.out.2.2.1 HIB.out.2.2.2 rfl (by decide) (.slice aw LV cq) LV (bcells V) rfl (HOW.out _) ⟨wa.heap.size, 0, none⟩ 1 1 [.int .u8 (kk : Nat)] rfl rfl (newB wa _ _) (oneB _) (by decide) (by unfold maxLen; omega) (by omega) (Nat.zero_le _) _ rfl ?_; intro g6 cap6 w6 hown hgrow hat hgl; have H6 : Hid (MS K w6 (.slice (some ⟨ga, 0, none⟩) (LO + lk) capa) (O ++ wbitsOf wd lk) (.slice (some ⟨g6, 0, none⟩) (LV + 1) cap6) (V ++ [kk]) ∧ UF K w2 w6) := (by have hm := HWa.out.1; rw [HVW.out] at hm; obtain ⟨m1, m2⟩ := (hm.alloc (.cells #[.int .u8 (kk : Nat)] 5)).grewW (x := kk) (m := LV + 1) (by rw [HLV.out]) hown hgrow hat; exact ⟨m1, HWa.out.2.trans ((hm.uf ((Below.refl _ _).alloc (Nat.le_refl _) _)).trans m2)⟩); clear hown hgrow hat hgl)
                    obtain ⟨s1, s2, s3, s4, s5, s6, s7⟩ := HS2.out
                    have e1 : wd = cw fixS kk := HWD.out.2.symm
                    have e2 : lk = fixS.getD kk 0 := HWD.out.1.symm
                    refine ⟨⟨i + 1, by go_num, by omega, O ++ wbitsOf wd lk, V ++ [kk], ⟨H6.out.1, H6.out.2, ?_, s4.append (wbitsOf_01 _ _), ?_, ?_, ?_⟩, ?_⟩, by simp [intOf]; omega⟩
                    · rw [e1, e2]; exact s3.byte hkk (by have := HLV.out; omega)
                    · rw [List.take_append_of_le_length (by have := congrArg List.length s5; simp at this; omega)]; exact s5
                    · rw [List.length_append, List.length_append, wbitsOf_length, List.length_singleton]; have := HLV.out; omega
                    · intro z hz
                      rw [List.mem_append] at hz
                      rcases hz with h | h
                      · exact s7 z h
                      · simp at h; omega
                    · rw [List.length_append, List.length_singleton]; have := HLV.out; omega
                | false =>
                  obtain ⟨hf0, hfL⟩ : far ≠ 0 ∧ far ≤ LV := by have := of_decide_eq_false HTB.out; omega
                  have handN := HNN.out
                  obtain ⟨nn, hnn⟩ : ∃ n, 3 + kk = n := ⟨_, rfl⟩
                  have hnni : (3 : Int) + (kk : Int) = (nn : Int) := by omega
                  have hnb : 3 ≤ nn ∧ nn ≤ 258 := by omega
                  have HLE : Hid (∀ W, Calls Tryd.prog 15 #[.int .i64 (nn : Nat)] W fun e w' => ∃ k x b : Nat, e = .returned (.tuple #[.int .i64 (k : Nat), .int .i64 (x : Nat), .int .i64 (b : Nat)]) ∧ Hid (LenP nn k x b) ∧ ∃ q, w' = W.drewN q) := fun W => length_ok nn hnb.1 hnb.2 W
                  have HVW : Hid (VW = Value.slice aw LV cq) := hVW
                  clear hnn hVW HTB hcl
                  go_upto_region 24 with fail
                  clear handN HNN
                  go_wp2_with fail
                  refine (HLE.out wq).mono ?_
                  rintro e wl ⟨k, x, b2, rfl, HP, ql, hwl⟩
                  have HQl : Hid (SaySt K w2 wl (.slice ao LO cp) O (.slice aw LV cq) V) := by rw [hwl]; exact ⟨HQ.out.1.drewN ql, HQ.out.2.1.trans (UF.drewN _ _ ql), HQ.out.2.2⟩
                  have hsmall := HP.out.small
                  have hk1 : 256 < k := hsmall.1
                  have hk2 : k < 286 := hsmall.2.1
                  have hb5 : b2 ≤ 5 := hsmall.2.2.2.1
                  have hxb : x < 32 := Nat.lt_of_lt_of_le hsmall.2.2.1 (Nat.le_trans (Nat.pow_le_pow_right (by decide) hb5) (by decide))
                  clear hwl hsmall HLE
                  obtain ⟨cx, cwd⟩ := (HCELL.out wl HQl.out.2.1).1 k (by omega)
                  obtain ⟨lk, hlk⟩ : ∃ n, fixS.getD k 0 = n := ⟨_, rfl⟩
                  obtain ⟨wd, hwd⟩ : ∃ n, cw fixS k = n := ⟨_, rfl⟩
                  rw [hlk] at cx
                  rw [hwd] at cwd
                  have hlk1 : 1 ≤ lk ∧ lk ≤ 15 := by rw [← hlk]; exact ⟨(fixS_fit k (by omega)).2, fixS_15 k⟩
                  have hwdb : wd ≤ 32768 := by rw [← hwd]; exact cw_le fixS_15 (by rw [fixS_len]; omega) fixS_ew k (by rw [fixS_len]; omega)
                  have HWD : Hid (fixS.getD k 0 = lk ∧ cw fixS k = wd) := ⟨hlk, hwd⟩
                  have hkki : (k : Int) < 288 := by omega
                  have HCK : Hid (∀ W, UF K w2 W → W.cell? ⟨g0, k, none⟩ = some (.int .i64 (lk : Nat)) ∧ W.cell? ⟨Lw, k, none⟩ = some (.int .i64 (wd : Nat))) := fun W hW => by have := (HCELL.out W hW).1 k (by omega); rw [HWD.out.1, HWD.out.2] at this; exact this
                  have HS2b : Hid (MS K wl (.slice ao LO cp) O VW V) := by rw [HVW.out]; exact HQl.out.1
                  clear hlk hwd
                  have HMa : Hid (MS K wl (.slice ao LO cp) O VW V ∧ UF K w2 wl) := ⟨HS2b.out, HQl.out.2.1⟩
                  go_wp2_with fail
                  go_region_held_law (fun w' => w'.cell? ⟨g0, k, none⟩ = some (.int .i64 (lk : Nat)) ∧ w'.cell? ⟨Lw, k, none⟩ = some (.int .i64 (wd : Nat))) (first | assumption | exact ⟨cx, cwd⟩ | go_keep)
                    (first
                      | (go_at_call 14; refine (word_cells wd lk (by omega) (by omega) (by omega) _).mono ?_; rintro e V2 ⟨gw, capw, rfl, hce, hbe⟩; have HCEa : Hid (∀ j u, (icl (wbitsOf wd lk))[j]? = some u → V2.cell? ((⟨gw, 0, none⟩ : Addr).add j) = some u) := hce; have HTa : Hid (MS K V2 (.slice ao LO cp) O VW V ∧ UF K w2 V2) := ⟨HMa.out.1.below ⟨hbe.os, hbe.tape, hbe.output, hbe.size, hbe.block⟩, HMa.out.2.trans (HMa.out.1.uf ⟨hbe.os, hbe.tape, hbe.output, hbe.size, hbe.block⟩)⟩; have HOa : Hid (V2.ownsRow 0 3 1 (.slice ao LO cp) LO (icl O)) := (by have h := HTa.out.1.out.own; rw [HLOa.out] at h; exact h); clear hce hbe; have KS := HCK.out V2 HTa.out.2)
                      | (refine step_append_lies _ rfl _ _ 29 rfl 0 3 i0 (.int .i64 0) 1 8 Tryd.underlying29 HI.out.1 HI.out.2.1 HI.out.2.2.1 HI.out.2.2.2 rfl (by decide) (.slice ao LO cp) LO (icl O) rfl HOa.out ⟨gw, 0, none⟩ lk capw (icl (wbitsOf wd lk)) rfl (by simp [icl, wbitsOf_length]) HCEa.out (one_icells _) (by omega) (by unfold maxLen; omega) (by omega) (Nat.zero_le _) _ rfl ?_; intro ga capa wa hown hgrow hat hgl; have HWa : Hid (MS K wa (.slice (some ⟨ga, 0, none⟩) (LO + lk) capa) (O ++ wbitsOf wd lk) VW V ∧ UF K w2 wa) := (by obtain ⟨m1, m2⟩ := HTa.out.1.grewO (ys := wbitsOf wd lk) (m := LO + lk) (by rw [HLOa.out, wbitsOf_length]) hown hgrow hat; exact ⟨m1, HTa.out.2.trans m2⟩); have KS1 := HCK.out wa HWa.out.2; clear hown hgrow hat hgl; (try go_simp)))
                  all_goals
                    clear HOa HCEa HTa HMa
                    obtain ⟨O1, hO1⟩ : ∃ z, O ++ wbitsOf wd lk = z := ⟨_, rfl⟩
                    rw [hO1] at HWa
                    have hO1l : O1.length = LO + lk := by rw [← hO1, List.length_append, wbitsOf_length, HLOa.out]
                    have HPU : Hid (∀ _ : Unit, Calls Tryd.prog 13 #[.slice (some ⟨ga, 0, none⟩) (LO + lk) capa, .int .i64 (x : Nat), .int .i64 (b2 : Nat)] wa fun en w' => ∃ v', en = .returned v' ∧ Hid (MS K w' v' (O1 ++ bitsOf x b2) VW V ∧ UF K w2 w')) := fun _ => (put_ok O1 _ x b2 HWa.out.1.apart (by omega) (by omega) (by omega)).mono fun en w' hh => by
                      obtain ⟨v', h1, h2, h3⟩ := hh
                      obtain ⟨m1, m2⟩ := HWa.out.1.held h2 h3
                      exact ⟨v', h1, m1, HWa.out.2.trans m2⟩
                    have HO1 : Hid (O ++ wbitsOf wd lk = O1 ∧ O1.length = LO + lk) := ⟨hO1, hO1l⟩
                    clear hO1 hO1l
                    go_wp2_with fail
                    refine (HPU.out ()).mono ?_
                    rintro e wb ⟨vb, rfl, HWb⟩
                    clear HPU
                    have HDI : Hid (∀ W, Calls Tryd.prog 16 #[.int .i64 (far : Nat)] W fun e w' => ∃ k x b : Nat, e = .returned (.tuple #[.int .i64 (k : Nat), .int .i64 (x : Nat), .int .i64 (b : Nat)]) ∧ Hid (DistP far k x b) ∧ ∃ q, w' = W.drewN q) := fun W => distance_ok far (by omega) (by omega) W
                    go_wp2_with fail
                    refine (HDI.out wb).mono ?_
                    rintro e wd2 ⟨j, y, c, rfl, HD, qd, hwd2⟩
                    have hjb := HD.out.small
                    have hyb : y < 8192 := Nat.lt_of_lt_of_le hjb.2.1 (Nat.le_trans (Nat.pow_le_pow_right (by decide) hjb.2.2) (by decide))
                    have hj30 : j < 30 := hjb.1
                    have hc13 : c ≤ 13 := hjb.2.2
                    clear hjb
                    have HWd : Hid (MS K wd2 vb (O1 ++ bitsOf x b2) VW V ∧ UF K w2 wd2) := by rw [hwd2]; exact ⟨HWb.out.1.drewN qd, HWb.out.2.trans (UF.drewN _ _ qd)⟩
                    clear hwd2 HDI
                    obtain ⟨Ob, hOb⟩ : ∃ z, O1 ++ bitsOf x b2 = z := ⟨_, rfl⟩
                    rw [hOb] at HWd
                    obtain ⟨Lb, hLb⟩ : ∃ n, Ob.length = n := ⟨_, rfl⟩
                    have hLbv : Lb = LO + lk + b2 := by rw [← hLb, ← hOb, List.length_append, bitsOf_length, HO1.out.2]
                    have hLbb : Lb ≤ 300100 := by omega
                    obtain ⟨ab, cb, hvb⟩ := HWd.out.1.oform
                    rw [hLb] at hvb
                    subst hvb
                    have HLb : Hid (Ob.length = Lb ∧ O1 ++ bitsOf x b2 = Ob ∧ Lb = LO + lk + b2) := ⟨hLb, hOb, hLbv⟩
                    have HLb2 : Hid (Ob.length = Lb) := hLb
                    clear hLb hOb hLbv
                    go_wp2_with (first
                      | (go_at_call 14; refine (word_cells j 5 (by omega) (by omega) (by omega) _).mono ?_; rintro e V3 ⟨ge, cape, rfl, hce, hbe⟩; have HCEe : Hid (∀ j' u, (icl (wbitsOf j 5))[j']? = some u → V3.cell? ((⟨ge, 0, none⟩ : Addr).add j') = some u) := hce; have HTe : Hid (MS K V3 (.slice ab Lb cb) Ob VW V ∧ UF K w2 V3) := ⟨HWd.out.1.below hbe, HWd.out.2.trans (HWd.out.1.uf hbe)⟩; have HOe : Hid (V3.ownsRow 0 3 1 (.slice ab Lb cb) Lb (icl Ob)) := (by have h := HTe.out.1.out.own; rw [HLb2.out] at h; exact h); clear hce hbe)
                      | (at_builtin; refine wpList_append_lies _ rfl _ _ 29 rfl 0 3 i0 (.int .i64 0) 1 8 Tryd.underlying29 HI.out.1 HI.out.2.1 HI.out.2.2.1 HI.out.2.2.2 rfl (by decide) (.slice ab Lb cb) Lb (icl Ob) rfl HOe.out ⟨ge, 0, none⟩ 5 cape (icl (wbitsOf j 5)) rfl (by simp [icl, wbitsOf_length]) HCEe.out (one_icells _) (by omega) (by unfold maxLen; omega) (by omega) (Nat.zero_le _) _ rfl ?_; intro gf capf wf hown hgrow hat hgl; have HWf : Hid (MS K wf (.slice (some ⟨gf, 0, none⟩) (Lb + 5) capf) (Ob ++ wbitsOf j 5) VW V ∧ UF K w2 wf) := (by obtain ⟨m1, m2⟩ := HTe.out.1.grewO (ys := wbitsOf j 5) (m := Lb + 5) (by rw [HLb2.out, wbitsOf_length]) hown hgrow hat; exact ⟨m1, HTe.out.2.trans m2⟩); clear hown hgrow hat hgl)
                      | (go_at_call 13; refine ((fun _ => (put_ok (Ob ++ wbitsOf j 5) (.slice (some ⟨gf, 0, none⟩) (Lb + 5) capf) y c HWf.out.1.apart (by rw [List.length_append, wbitsOf_length, HLb2.out]; omega) (by omega) (by omega)) : Unit → _) ()).mono ?_; rintro e wg ⟨vg, rfl, hr1, hu1⟩; have HWg : Hid (MS K wg vg ((Ob ++ wbitsOf j 5) ++ bitsOf y c) VW V ∧ UF K w2 wg) := (by obtain ⟨m1, m2⟩ := HWf.out.1.held hr1 hu1; exact ⟨m1, HWf.out.2.trans m2⟩); clear hr1 hu1))
                    obtain ⟨Og, hOg⟩ : ∃ z, (Ob ++ wbitsOf j 5) ++ bitsOf y c = z := ⟨_, rfl⟩
                    rw [hOg] at HWg
                    have HOG : Hid (Og = O ++ (wbitsOf wd lk ++ (bitsOf x b2 ++ (wbitsOf j 5 ++ bitsOf y c))) ∧ Og.length = LO + lk + b2 + 5 + c) := by
                      obtain ⟨l1, l2, l3⟩ := HLb.out
                      refine ⟨?_, ?_⟩
                      · rw [← hOg, ← l2, ← HO1.out.1]; simp
                      · rw [← hOg, List.length_append, List.length_append, wbitsOf_length, bitsOf_length, l1, l3]
                    clear hOg
                    go_loopw [8, 19] (fun v8 v19 wr => ∃ m : Nat, v19 = .int .i64 m ∧ m ≤ nn ∧ Hid (MS K wr vg Og v8 (copyL far m V) ∧ UF K w2 wr)) (fun _ v19 _ => nn - (intOf v19).toNat)
                    case atStart => exact ⟨0, rfl, Nat.zero_le _, by have := HWg.out; rw [HVW.out] at this; exact this⟩
                    case round =>
                      obtain ⟨m, rfl, hm, HM⟩ := hrel
                      obtain ⟨M, hM⟩ : ∃ M, copyL far m V = M := ⟨_, rfl⟩
                      rw [hM] at HM
                      obtain ⟨Q, hQ⟩ : ∃ Q, M.length = Q := ⟨_, rfl⟩
                      have hQv : Q = LV + m := by rw [← hQ, ← hM, copyL_longer, HLV.out]
                      by_cases hmn : m < nn
                      · have hmni : (m : Int) < (nn : Int) := by omega
                        obtain ⟨g8, c8, hv8, cb⟩ := HM.out.1.byteAt (i := M.length - far) (by omega)
                        obtain ⟨q', hq⟩ : ∃ q', M.length - far = q' := ⟨_, rfl⟩
                        have HXC : Hid (copyL far (m + 1) V = M ++ [M.getD q' 0]) := by
                          show _ = _
                          rw [copyL_succ, hM, hq]
                        rw [hq] at cb
                        rw [hQ] at hv8 hq
                        subst hv8
                        obtain ⟨xb, hxb⟩ : ∃ z, M.getD q' 0 = z := ⟨_, rfl⟩
                        rw [hxb] at cb HXC
                        have hqi : (Q : Int) - (far : Int) = (q' : Int) := by omega
                        have hqQ : (q' : Int) < (Q : Int) := by omega
                        have hqw : IntKind.i64.wrap (q' : Int) = (q' : Int) := wrapN q' (by omega)
                        have hq0 : (0 : Int) ≤ (q' : Int) := by omega
                        have hQb : Q + 1 ≤ 5000 := by omega
                        have HQQ : Hid (M.length = Q) := hQ
                        have HOM : Hid (∀ o, (wr.alloc o).ownsRow 0 5 1 (.slice (some ⟨g8, 0, none⟩) Q c8) Q (bcells M)) := fun o => by have h := (HM.out.1.alloc o).own; rw [HQQ.out] at h; exact h
                        clear hQ hQv hq hxb hM
                        go_wp2_with (at_builtin; refine wpList_append_lies _ rfl _ _ 33 rfl 0 5 i1 (.int .u8 0) 1 1 Tryd.underlying33 HIB.out.1 HIB.out.2.1 HIB.out.2.2.1 HIB.out.2.2.2 rfl (by decide) (.slice (some ⟨g8, 0, none⟩) Q c8) Q (bcells M) rfl (HOM.out _) ⟨wr.heap.size, 0, none⟩ 1 1 [.int .u8 (xb : Nat)] rfl rfl (newB wr _ _) (oneB _) (by decide) (by unfold maxLen; omega) (by omega) (Nat.zero_le _) _ rfl ?_; intro g9 cap9 w9 hown hgrow hat hgl; have H9 : Hid (MS K w9 vg Og (.slice (some ⟨g9, 0, none⟩) (Q + 1) cap9) (M ++ [xb]) ∧ UF K w2 w9) := (by obtain ⟨m1, m2⟩ := (HM.out.1.alloc (.cells #[.int .u8 (xb : Nat)] 5)).grewW (x := xb) (m := Q + 1) (by rw [HQQ.out]) hown hgrow hat; exact ⟨m1, HM.out.2.trans ((HM.out.1.uf ((Below.refl _ _).alloc (Nat.le_refl _) _)).trans m2)⟩); clear hown hgrow hat hgl)
                        exact ⟨⟨m + 1, by go_num, by omega, by rw [HXC.out]; exact H9⟩, by simp [intOf]; omega⟩
                      · have hmni : ¬ (m : Int) < (nn : Int) := by omega
                        obtain rfl : m = nn := by omega
                        have HVL : Hid (copyL far m V = M ∧ M.length = Q ∧ Q = LV + m) := ⟨hM, hQ, hQv⟩
                        clear hM hQ hQv
                        go_wp2_with fail
                        obtain ⟨s1, s2, s3, s4, s5, s6, s7⟩ := HS2.out
                        obtain ⟨v1, v2, v3⟩ := HVL.out
                        have e1 : wd = cw fixS k := HWD.out.2.symm
                        have e2 : lk = fixS.getD k 0 := HWD.out.1.symm
                        refine ⟨⟨i + 1, by go_num, by omega, Og, M, ⟨HM.out.1, HM.out.2, ?_, ?_, ?_, ?_, ?_⟩, by omega⟩, by simp [intOf]; omega⟩
                        · rw [HOG.out.1, ← v1, e1, e2]; exact s3.copy HP.out HD.out (by rw [HLV.out]; exact hfL) (by rw [HLV.out]; omega)
                        · rw [HOG.out.1]; exact s4.append ((wbitsOf_01 _ _).append ((bitsOf_01 _ _).append ((wbitsOf_01 _ _).append (bitsOf_01 _ _))))
                        · rw [HOG.out.1, List.take_append_of_le_length (by have := congrArg List.length s5; simp at this; omega)]; exact s5
                        · rw [HOG.out.2, v2, v3]; have := HLOa.out; have := HLV.out; omega
                        · rw [← v1]; exact copyL_bytes _ s7
            · have hsmi : ¬ (LV : Int) < 4096 := by omega
              clear hS
              go_wp2_with fail
              go_meet
              case rel => exact HS
          · have hlti : ¬ (i : Int) < (len : Int) := by omega
            clear hS
            go_wp2_with fail
            go_meet
            case rel => exact HS
    case rest =>
      obtain ⟨O, V, hS, hV⟩ := hcut.out
      obtain ⟨wq, hwq⟩ : ∃ z, z = wc := ⟨_, rfl⟩
      subst hwq
      obtain ⟨ao, cp, hvo⟩ := hS.1.oform
      obtain ⟨aw, cq, hvw⟩ := hS.1.wform
      obtain ⟨LO, hLO⟩ : ∃ n, O.length = n := ⟨_, rfl⟩
      obtain ⟨LV, hLV⟩ : ∃ n, V.length = n := ⟨_, rfl⟩
      rw [hLO] at hvo
      rw [hLV] at hvw hV
      subst hvo
      subst hvw
      have hLOb : LO ≤ 300000 := by have := hS.2.2.2.2.2.1; omega
      have HSF : Hid (SaySt K w2 wq (.slice ao LO cp) O (.slice aw LV cq) V) := hS
      have HLV : Hid (V.length = LV) := hLV
      have HLOa : Hid (O.length = LO) := hLO
      obtain ⟨VW, hVW⟩ : ∃ z, z = Value.slice aw LV cq := ⟨_, rfl⟩
      have HVW : Hid (VW = Value.slice aw LV cq) := hVW
      obtain ⟨cx, cwd⟩ := (HCELL.out wq hS.2.1).1 256 (by omega)
      obtain ⟨lk, hlk⟩ : ∃ n, fixS.getD 256 0 = n := ⟨_, rfl⟩
      obtain ⟨wd, hwd⟩ : ∃ n, cw fixS 256 = n := ⟨_, rfl⟩
      rw [hlk] at cx
      rw [hwd] at cwd
      have hlk1 : 1 ≤ lk ∧ lk ≤ 15 := by rw [← hlk]; exact ⟨(fixS_fit 256 (by omega)).2, fixS_15 256⟩
      have hwdb : wd ≤ 32768 := by rw [← hwd]; exact cw_le fixS_15 (by rw [fixS_len]; omega) fixS_ew 256 (by rw [fixS_len]; omega)
      have HWD : Hid (fixS.getD 256 0 = lk ∧ cw fixS 256 = wd) := ⟨hlk, hwd⟩
      have HCK : Hid (∀ W, UF K w2 W → W.cell? ⟨g0, 256, none⟩ = some (.int .i64 (lk : Nat)) ∧ W.cell? ⟨Lw, 256, none⟩ = some (.int .i64 (wd : Nat))) := fun W hW => by have := (HCELL.out W hW).1 256 (by omega); rw [HWD.out.1, HWD.out.2] at this; exact this
      have HS2b : Hid (MS K wq (.slice ao LO cp) O VW V) := by rw [hVW]; exact hS.1
      clear hlk hwd hS hVW hLO hLV hcut HS3
      have HMa : Hid (MS K wq (.slice ao LO cp) O VW V ∧ UF K w2 wq) := ⟨HS2b.out, HSF.out.2.1⟩
      go_wp2_with fail
      go_region_held_law (fun w' => w'.cell? ⟨g0, 256, none⟩ = some (.int .i64 (lk : Nat)) ∧ w'.cell? ⟨Lw, 256, none⟩ = some (.int .i64 (wd : Nat))) (first | assumption | exact ⟨cx, cwd⟩ | go_keep)
        (first
          | (go_at_call 14; refine (word_cells wd lk (by omega) (by omega) (by omega) _).mono ?_; rintro e V2 ⟨gw, capw, rfl, hce, hbe⟩; have HCEa : Hid (∀ j u, (icl (wbitsOf wd lk))[j]? = some u → V2.cell? ((⟨gw, 0, none⟩ : Addr).add j) = some u) := hce; have HTa : Hid (MS K V2 (.slice ao LO cp) O VW V ∧ UF K w2 V2) := ⟨HMa.out.1.below ⟨hbe.os, hbe.tape, hbe.output, hbe.size, hbe.block⟩, HMa.out.2.trans (HMa.out.1.uf ⟨hbe.os, hbe.tape, hbe.output, hbe.size, hbe.block⟩)⟩; have HOa : Hid (V2.ownsRow 0 3 1 (.slice ao LO cp) LO (icl O)) := (by have h := HTa.out.1.out.own; rw [HLOa.out] at h; exact h); clear hce hbe; have KS := HCK.out V2 HTa.out.2)
          | (refine step_append_lies _ rfl _ _ 29 rfl 0 3 i0 (.int .i64 0) 1 8 Tryd.underlying29 HI.out.1 HI.out.2.1 HI.out.2.2.1 HI.out.2.2.2 rfl (by decide) (.slice ao LO cp) LO (icl O) rfl HOa.out ⟨gw, 0, none⟩ lk capw (icl (wbitsOf wd lk)) rfl (by simp [icl, wbitsOf_length]) HCEa.out (one_icells _) (by omega) (by unfold maxLen; omega) (by omega) (Nat.zero_le _) _ rfl ?_; intro ga capa wa hown hgrow hat hgl; have HWa : Hid (MS K wa (.slice (some ⟨ga, 0, none⟩) (LO + lk) capa) (O ++ wbitsOf wd lk) VW V ∧ UF K w2 wa) := (by obtain ⟨m1, m2⟩ := HTa.out.1.grewO (ys := wbitsOf wd lk) (m := LO + lk) (by rw [HLOa.out, wbitsOf_length]) hown hgrow hat; exact ⟨m1, HTa.out.2.trans m2⟩); have KS1 := HCK.out wa HWa.out.2; clear hown hgrow hat hgl; (try go_simp)))
      all_goals
        clear HOa HCEa HTa HMa
        obtain ⟨T, hT⟩ : ∃ z, O ++ wbitsOf wd lk = z := ⟨_, rfl⟩
        rw [hT] at HWa
        have hTl : T.length = LO + lk := by rw [← hT, List.length_append, wbitsOf_length, HLOa.out]
        have hT01 : Bits01 T := by rw [← hT]; exact HSF.out.2.2.2.1.append (wbitsOf_01 _ _)
        have hinf := HSF.out.2.2.1.text HSF.out.2.2.2.1 HSF.out.2.2.2.2.1 (by have := HLV.out; omega)
        rw [HWD.out.1, HWD.out.2, hT] at hinf
        have hsz : (toBA (pack T)).size = (LO + lk + 7) / 8 := by rw [toBA_long, pack_length, hTl]
        have HTX : Hid (∀ _ : Unit, Calls Tryd.prog 17 #[.slice (some ⟨ga, 0, none⟩) (LO + lk) capa] wa fun e w' => e = .returned (.string (toBA (pack T))) ∧ Below wa.heap.size wa w') := fun _ => by
          have h := refText 0 capa (some ⟨ga, 0, none⟩) T wa hT01 (by omega) (by rw [hTl]; have := HWa.out.1.out.own; rw [hTl] at this; unfold IS; rw [hTl]; exact this)
          rw [hTl] at h
          exact h
        obtain ⟨SS, hSS⟩ : ∃ z, toBA (pack T) = z := ⟨_, rfl⟩
        rw [hSS] at HTX hinf hsz
        obtain ⟨SZ, hSZ⟩ : ∃ n, SS.size = n := ⟨_, rfl⟩
        have hSZi : (SS.size : Int) = (SZ : Int) := by omega
        obtain ⟨TV, hTV⟩ : ∃ z, toBA V = z := ⟨_, rfl⟩
        have HIN : Hid (∀ W, OrdAt W → Calls Tryd.prog 10 #[.string SS, .int .i64 1048576] W fun e w' => e = .returned (.tuple #[.string TV, .int .i64 (SZ : Nat), .int .i64 0]) ∧ Below W.heap.size W w') := fun W hW => by
          have h := inflate_any SS ((1048576 : Nat) : Int) W (by omega) hW
          rw [infA_ok (by omega) (by rw [hinf]), hinf, hTl, ← hsz, hSZ, hTV] at h
          exact h
        have HCV : Hid (∀ W, UF K wa W → MS K W (.slice (some ⟨ga, 0, none⟩) (LO + lk) capa) T VW V → (convert 33 9 (.slice aw LV cq)).run Tryd.prog W = .ok (.string TV) W) := fun W _ hMS => by
          rw [← hTV, ← HVW.out]
          exact conv_row W _ _ 5 0 VW V Tryd.underlying33 Tryd.underlying5 Tryd.underlying9 hMS.own HSF.out.2.2.2.2.2.2
        clear hT hTl hT01 hinf hsz hSS hTV
        go_wp2_with fail
        refine (HTX.out ()).mono ?_
        rintro e wt ⟨rfl, hbt⟩
        have HWt : Hid (MS K wt (.slice (some ⟨ga, 0, none⟩) (LO + lk) capa) T VW V ∧ UF K w2 wt ∧ UF K wa wt) := ⟨HWa.out.1.below hbt, HWa.out.2.trans (HWa.out.1.uf hbt), HWa.out.1.uf hbt⟩
        clear hbt HTX
        go_wp2_with fail
        refine (HIN.out wt (HCELL.out wt HWt.out.2.1).2.2.1).mono ?_
        rintro e wi ⟨rfl, hbi⟩
        have HWi : Hid (MS K wi (.slice (some ⟨ga, 0, none⟩) (LO + lk) capa) T VW V ∧ UF K w2 wi ∧ UF K wa wi) := ⟨HWt.out.1.below hbi, HWt.out.2.1.trans (HWt.out.1.uf hbi), HWt.out.2.2.trans (HWt.out.1.uf hbi)⟩
        have hconv := HCV.out wi HWi.out.2.2 HWi.out.1
        have HBi : Hid (Below w.heap.size w wi) := (HCELL.out wi HWi.out.2.1).2.2.2
        have HAW : Hid (∀ _ : Unit, Calls Tryd.prog 9 #[] wi fun e w' => e = .returned (.bool true) ∧ Below wi.heap.size wi w') := fun _ => awake_ok wi
        clear hbi HIN HCV
        go_wp2_with (first | (go_at_call 9; refine (HAW.out ()).mono ?_; rintro e wz ⟨rfl, hbz⟩; have HZ : Hid (Below w.heap.size w wz) := HBi.out.trans (hbz.mono HBi.out.size); clear hbz))
        go_ret
        exact ⟨rfl, HZ.out⟩
end Go.Proofs.YtchjnfckcfikkaaDoor
namespace Go.Proofs.YtchjnfckcfikkaaDoor
open Go.RowKit
open Go.ChangeShapes Go.WideShapes Go.ChangeAt Go.Deep
set_option linter.unusedVariables false
set_option maxRecDepth 20000

theorem cellsInt1 : Tryd.prog.cellsOf 3 = 1 := by kernel_rfl
theorem cellsSym : Tryd.prog.cellsOf 35 = 2 := by kernel_rfl
theorem addr_none (b off n : Nat) : (⟨b, off, none⟩ : Addr).add n = ⟨b, off + n, none⟩ := by
  unfold Addr.add
  split
  · next h => subst h; rfl
  · rfl
theorem choose_ltS {α : Type} [Inhabited α] {n : Nat} {P : Nat → α → Prop} (h : ∀ i, i < n → ∃ x, P i x) : ∃ f : Nat → α, ∀ i, i < n → P i (f i) := by
  classical
  exact ⟨fun i => if hi : i < n then (h i hi).choose else default, fun i hi => by simp only [dif_pos hi]; exact (h i hi).choose_spec⟩
theorem open_sym {H : Type} {enc : TypeId × Value → H} {W : World} {n : Nat} {cs : List Value} {y : DataW H × List MemPlace} (h : DataW.trod enc Tryd.prog W 0 (fun _ => true) true n 35 cs = some y) :
    ∃ g : Nat → Int, ∀ j, j < 2 → cs[j]? = some (.int .i64 (g j)) := by
  obtain ⟨xs, n', _, rfl, hl, hlen, hf⟩ := DataW.trod_struct Tryd.underlying35 h
  rw [cellsSym] at hl
  match cs, hl, xs, hlen with
  | [c0, c1], _, [y0, y1], _ =>
    have f0 : DataW.trod enc Tryd.prog W 0 (fun _ => true) true n' 3 (([c0, c1].drop 0).take (Tryd.prog.cellsOf 3)) = some y0 := hf 0 _ rfl
    have f1 : DataW.trod enc Tryd.prog W 0 (fun _ => true) true n' 3 (([c0, c1].drop 1).take (Tryd.prog.cellsOf 3)) = some y1 := hf 1 _ rfl
    rw [cellsInt1] at f0 f1
    obtain ⟨k0, e0, _⟩ := DataW.trod_int Tryd.underlying3 f0
    obtain ⟨k1, e1, _⟩ := DataW.trod_int Tryd.underlying3 f1
    simp at e0 e1
    subst e0 e1
    refine ⟨fun j => match j with | 0 => k0 | _ => k1, fun j hj => ?_⟩
    match j, hj with
    | 0, _ => rfl
    | 1, _ => rfl
theorem open_syms {H : Type} {enc : TypeId × Value → H} {W : World} {fuel : Nat} {a0 : Option Addr} {len cap : Nat} {x : DataW H × List MemPlace} (h : DataW.trod enc Tryd.prog W 0 (fun _ => true) true fuel 28 [.slice a0 len cap] = some x) :
    ∃ f, A2 W a0 len f ∧ len ≤ 9223372036854775807 := by
  rcases open_slice Tryd.underlying28 h with ⟨h0, _⟩ | ⟨a, len', cap', m, n, D, Pl, hcs, _, hlc, hcm, hm, rfl, hx⟩
  · cases h0; exact ⟨fun _ _ => 0, .inl rfl, by omega⟩
  · cases hcs
    have hl63 : len ≤ 9223372036854775807 := by unfold maxLen at hcm; omega
    rcases Nat.eq_zero_or_pos len with hz | hpos
    · exact ⟨fun _ _ => 0, .inl hz, hl63⟩
    rw [cellsSym] at hx
    have hlm : len ≤ m := by rw [hm]; simp; exact hlc
    obtain ⟨b, off, spot⟩ := a
    have hcell : ∀ i, i < len → ∃ g : Nat → Int, ∀ j, j < 2 → W.cell? (((⟨b, off, spot⟩ : Addr).add (i * 2)).add j) = some (.int .i64 (g j)) := by
      intro i hi
      obtain ⟨cs', h1, h2⟩ := hx i (by omega)
      obtain ⟨g, hg⟩ := open_sym h2
      obtain ⟨_, _, h3⟩ := World.cells?_some h1
      exact ⟨g, fun j hj => by rw [h3 j hj]; exact hg j hj⟩
    have hsp : spot = none := by
      obtain ⟨g, hg⟩ := hcell 0 hpos
      have h0 := hg 0 (by omega)
      exact World.cell?_spot (w := W) (a := ⟨b, off, spot⟩) (v := .int .i64 (g 0)) (by simpa [Addr.add] using h0)
    subst hsp
    have hlt : b < W.heap.size := by
      obtain ⟨g, hg⟩ := hcell 0 hpos
      have h0 := hg 0 (by omega)
      exact World.block_lt_of_cell? W ⟨b, off, none⟩ (u := .int .i64 (g 0)) (by simpa [Addr.add] using h0)
    obtain ⟨f, hf⟩ := choose_ltS (α := Nat → Int) hcell
    refine ⟨f, .inr ⟨b, off, rfl, hlt, fun i hi j hj => ?_⟩, hl63⟩
    have := hf i hi j hj
    rw [addr_none, addr_none] at this
    exact this
end Go.Proofs.YtchjnfckcfikkaaDoor
