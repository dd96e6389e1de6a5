/- Layer 8: VdiskSurvives, the walk. -/
import Derived.Test.YtlnlhecjehapiaaQq
namespace Go.Proofs.Ytlnlhecjehapiaa
open Go.RowKit Go.Maps Go.Sort
set_option linter.unusedVariables false
set_option maxRecDepth 20000

theorem bytesOf_append (a b : ByteArray) : bytesOf (a ++ b) = bytesOf a ++ bytesOf b := by
  unfold bytesOf
  rw [← List.map_append, ByteArray.data_append, Array.toList_append]
theorem size_append (a b : ByteArray) : (a ++ b).size = a.size + b.size := by simp
theorem May_f : May ⟨#[102]⟩ := mayD_ok (by decide)
theorem take_text (A : ByteArray) (k : Nat) : toBA ((bytesOf A).take k) = A.extract 0 k := by
  have e : (bytesOf A).take k = bytesOf (A.extract 0 k) := by
    unfold bytesOf
    rw [← List.map_take, ByteArray.data_extract, Array.toList_extract]
    simp
  rw [e, toBA_bytesOf]
/-- Behind i rounds: no file yet, or the one. -/
def SurvSt (w : World) (B d : Nat) (A : ByteArray) (su i : Nat) (wr : World) : Prop :=
  Below B w wr ∧ ((i = 0 ∧ A.size = 0 ∧ su = 0 ∧ VD wr B d 1048576 (fun _ => none) 0 0) ∨ (0 < i ∧ One wr B d 1048576 [102] (bytesOf A) su))
theorem surv_append {w wr : World} {B d su i : Nat} {A P : ByteArray} (h : SurvSt w B d A su i wr) (hs : A.size + P.size ≤ 16384) :
    Calls Try.prog 9 #[.pointer (some ⟨d, 0, none⟩), .string ⟨#[102]⟩, .string P] wr fun e w' => e = .returned (.int .i64 0) ∧ SurvSt w B d (A ++ P) su (i + 1) w' := by
  obtain ⟨hb, h⟩ := h
  rcases h with ⟨rfl, hA, rfl, hv⟩ | ⟨hi, hv⟩
  · refine (one_first wr B d 1048576 hv ⟨#[102]⟩ P May_f (by omega)).mono ?_
    rintro e w' ⟨rfl, h1, h2⟩
    refine ⟨rfl, hb.trans h2.below, .inr ⟨by omega, ?_⟩⟩
    have e : bytesOf (A ++ P) = bytesOf P := by
      rw [bytesOf_append, List.eq_nil_of_length_eq_zero (l := bytesOf A) (by rw [bytesOf_length]; exact hA), List.nil_append]
    rw [e]
    exact h1
  · refine (one_append wr B d 1048576 ⟨#[102]⟩ P (bytesOf A) su hv May_f (by rw [bytesOf_length]; omega)).mono ?_
    rintro e w' ⟨rfl, h1, h2⟩
    refine ⟨rfl, hb.trans h2.below, .inr ⟨by omega, ?_⟩⟩
    rw [bytesOf_append]
    exact h1
theorem surv_sync {w wr : World} {B d su i : Nat} {A : ByteArray} (h : SurvSt w B d A su (i + 1) wr) :
    Calls Try.prog 10 #[.pointer (some ⟨d, 0, none⟩), .string ⟨#[102]⟩] wr fun e w' => e = .returned (.int .i64 0) ∧ SurvSt w B d A A.size (i + 1) w' := by
  obtain ⟨hb, h⟩ := h
  rcases h with ⟨h0, _⟩ | ⟨hi, hv⟩
  · omega
  · refine (one_sync wr B d 1048576 ⟨#[102]⟩ (bytesOf A) su hv May_f).mono ?_
    rintro e w' ⟨rfl, h1, h2⟩
    rw [bytesOf_length] at h1
    exact ⟨rfl, hb.trans h2.below, .inr ⟨by omega, h1⟩⟩
theorem want_arith (su t : Nat) (n : Int) (hn : 0 < n) (hl : su + t ≤ 16777216) : wrap64 ((su : Int) + min n (t : Int)) = ((su + min n.toNat t : Nat) : Int) := by
  have h := crash_arith su t n hl
  rw [Int.max_eq_left (by omega)] at h
  exact h
theorem crashL_le (l : List Nat) (n : Nat) (k : Int) (h : n ≤ l.length) : crashL l n k ≤ l.length := by unfold crashL; omega
theorem crashL_neg (l : List Nat) (n : Nat) (k : Int) (h : k ≤ 0) : crashL l n k = n := by
  unfold crashL
  rw [Int.toNat_of_nonpos h, Nat.zero_min, Nat.add_zero]
/-- What is asked of the disk behind the crash. -/
def SurvEnd (w : World) (d : Nat) (A : ByteArray) (K : Nat) : Prop :=
  Calls Try.prog 12 #[.pointer (some ⟨d, 0, none⟩), .string ⟨#[102]⟩, .int .i64 0, .int .i64 (K : Nat)] w (fun e w' => e = .returned (.tuple #[.string (A.extract 0 K), .int .i64 0]) ∧ w' = w) ∧
  Calls Try.prog 13 #[.pointer (some ⟨d, 0, none⟩), .string ⟨#[102]⟩] w (fun e w' => e = .returned (.int .i64 (K : Nat)) ∧ w' = w) ∧
  Calls Try.prog 14 #[.pointer (some ⟨d, 0, none⟩), .string ⟨#[102]⟩] w (fun e w' => e = .returned (.int .i64 (K : Nat)) ∧ w' = w)
theorem surv_end {w : World} {B d K : Nat} {A : ByteArray} (h : One w B d 1048576 [102] ((bytesOf A).take K) K) (hK : K ≤ A.size) : SurvEnd w d A K := by
  have hl : ((bytesOf A).take K).length = K := by rw [List.length_take, bytesOf_length]; omega
  refine ⟨?_, ?_, one_synced w B d 1048576 ⟨#[102]⟩ _ _ h May_f⟩
  · have := one_read w B d 1048576 ⟨#[102]⟩ _ _ h May_f K (by omega)
    rw [List.take_take, Nat.min_self, take_text] at this
    exact this
  · have := one_size w B d 1048576 ⟨#[102]⟩ _ _ h May_f
    rw [hl] at this
    exact this
theorem surv_crash {w wr : World} {B d su i : Nat} {A : ByteArray} {kp : Int} (h : SurvSt w B d A su i wr) (hi : i ≠ 0) (hsu : su ≤ A.size) :
    Calls Try.prog 11 #[.pointer (some ⟨d, 0, none⟩), .slice (some ⟨wr.heap.size, 0, none⟩) 1 1] (wr.alloc (.cells #[.int .i64 kp] 3)) fun e w' => e = .returned (.int .i64 0) ∧ Below B w w' ∧ SurvEnd w' d A (crashL (bytesOf A) su kp) ∧ B ≤ w'.heap.size := by
  obtain ⟨hb, h⟩ := h
  rcases h with ⟨h0, _⟩ | ⟨_, hv⟩
  · omega
  · have hbw : Below wr.heap.size wr (wr.alloc (.cells #[.int .i64 kp] 3)) := (Below.refl _ _).alloc (Nat.le_refl _) _
    have hBr : B ≤ wr.heap.size := by obtain ⟨F, h1, _⟩ := hv; exact h1.base
    have hc : (wr.alloc (.cells #[.int .i64 kp] 3)).cell? ⟨wr.heap.size, 0, none⟩ = some (.int .i64 kp) := by
      unfold World.cell?
      rw [heap_alloc_new]
      rfl
    refine (one_crash _ B d 1048576 ⟨#[102]⟩ (bytesOf A) su (hv.below hbw) May_f _ kp (.inr ⟨_, rfl, hc⟩)).mono ?_
    rintro e w' ⟨rfl, h1, h2⟩
    have h3 : Below B w w' := (hb.trans ⟨hbw.os, hbw.tape, hbw.output, hbw.size, fun k hk => hbw.block k (by omega)⟩).trans h2.below
    refine ⟨rfl, h3, surv_end h1 ?_, ?_⟩
    · have := crashL_le (bytesOf A) su kp (by rw [bytesOf_length]; exact hsu)
      rw [bytesOf_length] at this; exact this
    · obtain ⟨F, h4, _⟩ := h1; exact h4.base
set_option maxHeartbeats 4000000 in
theorem survives_walk (a : Option Addr) (b off len cap : Nat) (f : Nat → ByteArray) (a2 : Option Addr) (b2 off2 len2 cap2 : Nat) (g : Nat → Bool) (kp : Int) (w : World) (hlen : len ≤ 9223372036854775807) (hst : len = 0 ∨ (a = some ⟨b, off, none⟩ ∧ StrsAt w b off len f))
    (hlen2 : len2 ≤ 9223372036854775807) (hst2 : len2 = 0 ∨ (a2 = some ⟨b2, off2, none⟩ ∧ BoolsAt w b2 off2 len2 g)) :
    Calls Try.prog 3 #[.slice a len cap, .slice a2 len2 cap2, .int .i64 kp] w fun e w' => e = .returned (.bool true) ∧ Below w.heap.size w w' := by
  have HST : Hid (len = 0 ∨ (a = some ⟨b, off, none⟩ ∧ StrsAt w b off len f)) := hst
  have HST2 : Hid (len2 = 0 ∨ (a2 = some ⟨b2, off2, none⟩ ∧ BoolsAt w b2 off2 len2 g)) := hst2
  have H0 : Hid (∀ _ : Unit, Calls Try.prog 7 #[.int .i64 1048576] w fun e w' => e = .returned (.tuple #[.pointer (some ⟨w.heap.size + 1, 0, none⟩), .int .i64 0]) ∧ VD w' w.heap.size (w.heap.size + 1) 1048576 (fun _ => none) 0 0 ∧ Below w.heap.size w w') := fun _ => new_ok w 1048576 (by decide)
  have HAw : Hid (∀ W, Calls Try.prog 8 #[] W fun e w' => e = .returned (.bool true) ∧ Below W.heap.size W w') := fun W => awake_ok W
  obtain ⟨d, hd⟩ : ∃ d, w.heap.size + 1 = d := ⟨_, rfl⟩
  obtain ⟨B, hB⟩ : ∃ d, w.heap.size = d := ⟨_, rfl⟩
  rw [hd, hB] at H0
  have HBB : Hid (w.heap.size = B) := hB
  rw [hB]
  clear hd hB hst hst2
  go_enter Try.func3, Try.ntmps3
  go_wp2_with fail
  refine (H0.out ()).mono ?_
  rintro e w1 ⟨rfl, hv1, hb1⟩
  have H1 : Hid (SurvSt w B d ⟨#[]⟩ 0 0 w1) := ⟨hb1, .inl ⟨rfl, rfl, rfl, hv1⟩⟩
  clear hv1 hb1 H0
  go_wp2_with fail
  go_loopw [9, 10, 11] (fun v9 v10 v11 wr => ∃ (A : ByteArray) (su i : Nat), v9 = .string A ∧ v10 = .int .i64 (su : Nat) ∧ v11 = .int .i64 (i : Nat) ∧ i ≤ len ∧ A.size ≤ 16384 ∧ su ≤ A.size ∧ Hid (SurvSt w B d A su i wr)) (fun _ _ v11 _ => len - (intOf v11).toNat)
  case atStart => exact ⟨⟨#[]⟩, 0, 0, rfl, rfl, rfl, Nat.zero_le _, by decide, by decide, H1.out⟩
  case round =>
    obtain ⟨A, su, i, rfl, rfl, rfl, hi, hA, hsu, HS⟩ := hrel
    by_cases hlt : i < len
    · obtain ⟨hA0, hS⟩ : a = some ⟨b, off, none⟩ ∧ StrsAt w b off len f := by
        rcases HST.out with h | h
        · omega
        · exact h
      subst hA0
      have hbw : Below w.heap.size w wr := by rw [HBB.out]; exact HS.out.1
      have hcell := hS.below hbw i hlt
      obtain ⟨p, hp⟩ : ∃ p, f i = p := ⟨_, rfl⟩
      rw [hp] at hcell
      have hpb : p.size ≤ 4611686018427387904 := by rw [← hp]; exact hS.2.2 i hlt
      have HCL : Hid (∀ W, Below B w W → W.cell? ⟨b, off + i, none⟩ = some (.string p)) := fun W hW => by
        rw [← hp]; exact hS.below (by rw [HBB.out]; exact hW) i hlt
      have hlti : (i : Int) < (len : Int) := by omega
      clear hS hp hbw
      by_cases hbig : 16384 < A.size + p.size
      · have hbi : (16384 : Int) < (A.size : Int) + (p.size : Int) := by omega
        go_wp2_with fail
        refine (HAw.out _).mono ?_
        rintro e w4 ⟨rfl, hb4⟩
        have H4 : Hid (Below B w w4) := HS.out.1.trans (hb4.mono (by rw [← HBB.out]; exact HS.out.1.size))
        clear hb4
        go_wp2
        go_ret
        exact ⟨rfl, H4.out⟩
      · have hbi : ¬ ((16384 : Int) < (A.size : Int) + (p.size : Int)) := by omega
        have hsz : A.size + p.size ≤ 16384 := by omega
        go_wp2_with fail
        refine (surv_append HS.out hsz).mono ?_
        rintro e w2 ⟨rfl, hv2⟩
        have H2 : Hid (SurvSt w B d (A ++ p) su (i + 1) w2) := hv2
        have hcell2 := HCL.out w2 hv2.1
        clear hv2 hcell
        by_cases h2 : i < len2
        · obtain ⟨hA2, hS2⟩ : a2 = some ⟨b2, off2, none⟩ ∧ BoolsAt w b2 off2 len2 g := by
            rcases HST2.out with h | h
            · omega
            · exact h
          subst hA2
          have hcb := hS2.below (by rw [HBB.out]; exact H2.out.1) i h2
          have hlt2 : (i : Int) < (len2 : Int) := by omega
          clear hS2
          cases hgi : g i with
          | false =>
            rw [hgi] at hcb
            clear hgi
            go_wp2
            exact ⟨⟨A ++ p, su, i + 1, rfl, rfl, by go_num, by omega, by rw [size_append]; omega, by rw [size_append]; omega, H2.out⟩, by simp [intOf]; omega⟩
          | true =>
            rw [hgi] at hcb
            clear hgi
            go_wp2_with fail
            refine (surv_sync H2.out).mono ?_
            rintro e w3 ⟨rfl, hv3⟩
            have H3 : Hid (SurvSt w B d (A ++ p) (A ++ p).size (i + 1) w3) := hv3
            clear hv3
            go_wp2
            refine ⟨⟨A ++ p, (A ++ p).size, i + 1, rfl, ?_, by go_num, by omega, by rw [size_append]; omega, Nat.le_refl _, H3.out⟩, by simp [intOf]; omega⟩
            rw [size_append, Int.natCast_add]
        · have hlt2 : ¬ (i : Int) < (len2 : Int) := by omega
          go_wp2
          exact ⟨⟨A ++ p, su, i + 1, rfl, rfl, by go_num, by omega, by rw [size_append]; omega, by rw [size_append]; omega, H2.out⟩, by simp [intOf]; omega⟩
    · have hlti : ¬ (i : Int) < (len : Int) := by omega
      by_cases h0 : len = 0
      · have h0i : ((len : Int) == 0) = true := by simp [h0]
        clear h0
        go_wp2_with fail
        refine (HAw.out _).mono ?_
        rintro e w4 ⟨rfl, hb4⟩
        have H4 : Hid (Below B w w4) := HS.out.1.trans (hb4.mono (by rw [← HBB.out]; exact HS.out.1.size))
        clear hb4
        go_wp2
        go_ret
        exact ⟨rfl, H4.out⟩
      · have h0i : ((len : Int) == 0) = false := by simp [h0]
        have hKle := crashL_le (bytesOf A) su kp (by rw [bytesOf_length]; exact hsu)
        rw [bytesOf_length] at hKle
        have hi0 : i ≠ 0 := by omega
        have HC := surv_crash (kp := kp) HS.out hi0 hsu
        have HN : Hid (kp ≤ 0 → crashL (bytesOf A) su kp = su) := crashL_neg _ _ _
        have HW : Hid (0 < kp → (su : Int) + min kp ((A.size : Int) - (su : Int)) = ((crashL (bytesOf A) su kp : Nat) : Int)) := fun hk => by
          have := crash_nat su (A.size - su) kp
          rw [Int.max_eq_left (by omega), Int.natCast_sub hsu] at this
          rw [this]; unfold crashL; rw [bytesOf_length]
        obtain ⟨K, hK⟩ : ∃ K, crashL (bytesOf A) su kp = K := ⟨_, rfl⟩
        rw [hK] at hKle HW HC HN
        have HCC : Hid (∀ _ : Unit, Calls Try.prog 11 #[.pointer (some ⟨d, 0, none⟩), .slice (some ⟨wr.heap.size, 0, none⟩) 1 1] (wr.alloc (.cells #[.int .i64 kp] 3)) fun e w' => e = .returned (.int .i64 0) ∧ Below B w w' ∧ SurvEnd w' d A K ∧ B ≤ w'.heap.size) := fun _ => HC
        have hKi : (K : Int) ≤ (A.size : Int) := by omega
        clear HC hK h0 hlt hi0 hKle
        by_cases hk : 0 < kp
        · have hw := HW.out hk
          have HWW : Hid ((su : Int) + min kp ((A.size : Int) - (su : Int)) = (K : Int)) := hw
          clear HW HN hw
          go_wp2_with fail
          refine (HCC.out ()).mono ?_
          rintro e w4 ⟨rfl, hb4, hE4, hs4⟩
          have H4 : Hid (Below B w w4 ∧ SurvEnd w4 d A K ∧ B ≤ w4.heap.size) := ⟨hb4, hE4, hs4⟩
          clear hb4 hE4 hs4
          go_wp2_with fail
          rw [HWW.out]
          refine (H4.out.2.1.1).mono ?_
          rintro e W ⟨rfl, hW⟩
          obtain rfl := hW.symm
          clear hW
          go_wp2_with fail
          refine (H4.out.2.1.2.1).mono ?_
          rintro e W ⟨rfl, hW⟩
          obtain rfl := hW.symm
          clear hW
          go_wp2_with fail
          refine (H4.out.2.1.2.2).mono ?_
          rintro e W ⟨rfl, hW⟩
          obtain rfl := hW.symm
          clear hW
          go_wp2_with fail
          refine (HAw.out _).mono ?_
          rintro e w5 ⟨rfl, hb5⟩
          have H5 : Hid (Below B w w5) := H4.out.1.trans (hb5.mono H4.out.2.2)
          clear hb5
          go_wp2
          go_ret
          exact ⟨rfl, H5.out⟩
        · have hw := HN.out (by omega)
          have HWW : Hid ((su : Int) = (K : Int)) := (by rw [hw] : (su : Int) = (K : Int))
          clear HW HN hw
          go_wp2_with fail
          refine (HCC.out ()).mono ?_
          rintro e w4 ⟨rfl, hb4, hE4, hs4⟩
          have H4 : Hid (Below B w w4 ∧ SurvEnd w4 d A K ∧ B ≤ w4.heap.size) := ⟨hb4, hE4, hs4⟩
          clear hb4 hE4 hs4
          go_wp2_with fail
          rw [HWW.out]
          refine (H4.out.2.1.1).mono ?_
          rintro e W ⟨rfl, hW⟩
          obtain rfl := hW.symm
          clear hW
          go_wp2_with fail
          refine (H4.out.2.1.2.1).mono ?_
          rintro e W ⟨rfl, hW⟩
          obtain rfl := hW.symm
          clear hW
          go_wp2_with fail
          refine (H4.out.2.1.2.2).mono ?_
          rintro e W ⟨rfl, hW⟩
          obtain rfl := hW.symm
          clear hW
          go_wp2_with fail
          refine (HAw.out _).mono ?_
          rintro e w5 ⟨rfl, hb5⟩
          have H5 : Hid (Below B w w5) := H4.out.1.trans (hb5.mono H4.out.2.2)
          clear hb5
          go_wp2
          go_ret
          exact ⟨rfl, H5.out⟩
end Go.Proofs.Ytlnlhecjehapiaa
