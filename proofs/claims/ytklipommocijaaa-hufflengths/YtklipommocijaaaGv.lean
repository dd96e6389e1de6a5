/- What symbols cost: the program's and the document's. -/
import Derived.Test.YtklipommocijaaaGn
import Derived.Test.YtklipommocijaaaGk
import Derived.Test.YtklipommocijaaaGs
import Derived.BigQuiet
import Derived.Deep.QuietTactic
namespace Go.Proofs.Ytklipommocijaaa
open Go.RowKit
set_option linter.unusedVariables false

def costTo (fs xs : List Int) : Nat → Nat
  | 0 => 0
  | j + 1 => costTo fs xs j + frq fs j * (xs.getD j 0).toNat
/-- Among the first j symbols one comes that has no word. -/
def lacks (fs xs : List Int) : Nat → Bool
  | 0 => false
  | j + 1 => lacks fs xs j || (decide (0 < fs.getD j 0) && decide (xs.getD j 0 = 0))
theorem lacks_mono {fs xs : List Int} {j n : Nat} (h : lacks fs xs j = true) (hn : j ≤ n) : lacks fs xs n = true := by
  induction hn with
  | refl => exact h
  | step _ ih => simp only [lacks, ih, Bool.true_or]
def costR (fs xs : List Int) : Int × Int :=
  if fs.length = xs.length ∧ okF fs = true then (if isCode xs = true then (if lacks fs xs fs.length = true then (0, 30) else ((costTo fs xs fs.length : Nat), 0)) else (0, 30)) else (0, 1)
theorem costR_arg {fs xs : List Int} (h : ¬ (fs.length = xs.length ∧ okF fs = true)) : costR fs xs = (0, 1) := by unfold costR; rw [if_neg h]
theorem costR_code {fs xs : List Int} (h : fs.length = xs.length ∧ okF fs = true) (h2 : isCode xs = false) : costR fs xs = (0, 30) := by unfold costR; rw [if_pos h, if_neg (by rw [h2]; simp)]
theorem costR_lack {fs xs : List Int} (h : fs.length = xs.length ∧ okF fs = true) (h2 : isCode xs = true) (h3 : lacks fs xs fs.length = true) : costR fs xs = (0, 30) := by unfold costR; rw [if_pos h, if_pos h2, if_pos h3]
theorem costR_ok {fs xs : List Int} (h : fs.length = xs.length ∧ okF fs = true) (h2 : isCode xs = true) (h3 : lacks fs xs fs.length = false) : costR fs xs = (((costTo fs xs fs.length : Nat) : Int), 0) := by unfold costR; rw [if_pos h, if_pos h2, if_neg (by rw [h3]; simp)]
theorem costTo_bound {fs xs : List Int} (hf : okF fs = true) (hx : may xs = true) : ∀ j, costTo fs xs j ≤ j * 16492674416640
  | 0 => by simp [costTo]
  | j + 1 => by
    have h1 := costTo_bound hf hx j
    have h2 : frq fs j ≤ 1099511627776 := by have := okF_get hf j; unfold frq; omega
    have h3 : (xs.getD j 0).toNat ≤ 15 := by have := may_get hx j; omega
    have h4 : frq fs j * (xs.getD j 0).toNat ≤ 1099511627776 * 15 := Nat.mul_le_mul h2 h3
    simp only [costTo]; omega

set_option maxRecDepth 20000 in
set_option maxHeartbeats 1000000 in
theorem full_ok (xs : List Int) (a : Option Addr) (c N : Nat) (w : World) (hN : xs.length = N) (hrow : IRow w a xs) (hlen : N ≤ 9223372036854775807) :
    Calls Try.prog 12 #[.slice a N c] w fun e w' => e = .returned (.bool (decide (shareV xs = 32768))) ∧ w' = w := by
  have hs := fun _ : Unit => share_ok xs a c N w hN hrow hlen
  obtain ⟨V, hV⟩ : ∃ V, shareV xs = V := ⟨_, rfl⟩
  rw [hV] at hs ⊢
  have HS : Hid _ := hs
  clear hs hV hN hrow
  go_enter Try.func12, Try.ntmps12
  go_wp2_with fail
  refine (HS.out ()).mono ?_
  rintro e w1 ⟨rfl, hw⟩
  obtain rfl := hw.symm
  go_wp2
  go_ret
  exact ⟨rfl, rfl⟩

set_option maxRecDepth 20000 in
set_option maxHeartbeats 4000000 in
theorem cost_ok (fs xs : List Int) (a b : Option Addr) (c d N M : Nat) (w : World) (hN : fs.length = N) (hM : xs.length = M) (ha : IRow w a fs) (hb : IRow w b xs) (hlen : N ≤ 9223372036854775807) (hlen2 : M ≤ 9223372036854775807) :
    Calls Try.prog 26 #[.slice a N c, .slice b M d] w fun e w' => e = .returned (.tuple #[.int .i64 (costR fs xs).1, .int .i64 (costR fs xs).2]) ∧ Below w.heap.size w w' := by
  have HA : Hid (IRow w a fs) := ha
  have HB : Hid (IRow w b xs) := hb
  have HN : Hid (fs.length = N ∧ xs.length = M) := ⟨hN, hM⟩
  have HAF : Hid (∀ _ : Unit, Calls Try.prog 27 #[.slice a N c] w fun e w' => e = .returned (.bool (okF fs)) ∧ w' = w) := fun _ => areFreqs_ok fs a c N w hN ha hlen
  have HE : Hid (∀ _ : Unit, Calls Try.prog 35 #[.slice b M d] w fun e w' => EndsEnd w xs e w') := fun _ => wordEnds_ok xs b d M w hM hb hlen2
  clear ha hb hN hM
  obtain ⟨R, hR⟩ : ∃ R, costR fs xs = R := ⟨_, rfl⟩
  have HRR : Hid (costR fs xs = R) := hR
  rw [hR]
  clear hR
  go_enter Try.func26, Try.ntmps26
  by_cases hne : N = M
  · subst hne
    obtain ⟨q, hq⟩ : ∃ q, okF fs = q := ⟨_, rfl⟩
    have HQ : Hid (okF fs = q) := hq
    have HAF2 : Hid (∀ _ : Unit, Calls Try.prog 27 #[.slice a N c] w fun e w' => e = .returned (.bool q) ∧ w' = w) := fun _ => by rw [← hq]; exact HAF.out ()
    clear hq HAF
    cases q with
    | false =>
      have HR1 : Hid (R = (0, 1)) := by
        show _ = _
        rw [← HRR.out, costR_arg (by rw [HQ.out]; simp)]
      go_wp2_with (go_at_call 27; refine (HAF2.out ()).mono ?_; rintro e w1 ⟨rfl, hw⟩; obtain rfl := hw.symm)
      go_ret2
      exact ⟨by rw [HR1.out]; rfl, Below.refl _ _⟩
    | true =>
      have hboth : fs.length = xs.length ∧ okF fs = true := ⟨by rw [HN.out.1, HN.out.2], HQ.out⟩
      have HBO : Hid (fs.length = xs.length ∧ okF fs = true) := hboth
      clear hboth
      go_wp2_with (go_at_call 27; refine (HAF2.out ()).mono ?_; rintro e w1 ⟨rfl, hw⟩; obtain rfl := hw.symm)
      refine (HE.out ()).mono ?_
      rintro e w1 ⟨hcase, hb1⟩
      have HB1 : Hid (Below w.heap.size w w1) := hb1
      have hgen : ∃ (g : Nat → Nat) (q : Int), e = .returned (.tuple #[.agg (lcells 16 g), .int .i64 q]) ∧ Hid ((isCode xs = true ∧ q = 0) ∨ (isCode xs = false ∧ q = 30)) := by
        rcases hcase with ⟨h1, h2, rfl⟩ | ⟨h1, rfl⟩
        · exact ⟨_, _, rfl, .inl ⟨(isCode_iff xs).2 ⟨h1, h2⟩, rfl⟩⟩
        · refine ⟨_, _, rfl, .inr ⟨?_, rfl⟩⟩
          cases e : isCode xs with
          | false => rfl
          | true => exact absurd ((isCode_iff xs).1 e) h1
      obtain ⟨g, q, rfl, HG⟩ := hgen
      have hsv := run_storeCells_blk (P := Try.prog) (w1.alloc (.cells #[.int .i64 0, .int .i64 0, .int .i64 0, .int .i64 0, .int .i64 0, .int .i64 0, .int .i64 0, .int .i64 0, .int .i64 0, .int .i64 0, .int .i64 0, .int .i64 0, .int .i64 0, .int .i64 0, .int .i64 0, .int .i64 0] 63)) w1.heap.size 63 63 _ (lcells 16 g) (heap_alloc_last _ _) (by rw [lcells_size]; exact perSize) (by rw [lcells_size]; rfl) (lcells_one _ _)
      rw [setRow_last] at hsv
      have hAs := lcells_size 16 g
      obtain ⟨A, hA⟩ : ∃ A, lcells 16 g = A := ⟨_, rfl⟩
      rw [hA] at hsv hAs
      rw [hA]
      have HSV : Hid _ := hsv
      clear hcase hb1 hsv hA
      go_wp2
      simp only [HSV.out, Result.andThen]
      rw [Oper.upon_skip]
      clear hAs HSV
      have hbl : Below w.heap.size w (w1.alloc (.cells A 63)) := HB1.out.alloc HB1.out.size _
      obtain ⟨W, hW⟩ : ∃ W, w1.alloc (.cells A 63) = W := ⟨_, rfl⟩
      rw [hW] at hbl ⊢
      have HBL : Hid (Below w.heap.size w W) := hbl
      clear hW hbl
      rcases HG.out with ⟨hcode, rfl⟩ | ⟨hcode, rfl⟩
      · have HCD : Hid (isCode xs = true) := hcode
        have hN288 : N ≤ 288 := by rw [← HN.out.2]; exact may_len ((isCode_iff xs).1 hcode).1
        clear hcode HG
        go_wp2
        go_loop [8, 9, 10, 31] (fun v8 _ _ v31 => ∃ (j : Nat) (S : Nat), v31 = .int .i64 j ∧ j ≤ N ∧ v8 = .int .i64 (S : Int) ∧ Hid (S = costTo fs xs j ∧ lacks fs xs j = false)) (fun _ _ _ v31 => N - (intOf v31).toNat)
        case atStart => exact ⟨0, 0, rfl, by omega, rfl, rfl, rfl⟩
        case round =>
          obtain ⟨j, S, rfl, hj, rfl, HS⟩ := hrel
          have hm := ((isCode_iff xs).1 HCD.out).1
          have hSb : S ≤ 4749890231992320 := by rw [HS.out.1]; exact Nat.le_trans (costTo_bound HQ.out hm j) (by omega)
          by_cases hlt : j < N
          · have hlti : (j : Int) < (N : Int) := by omega
            obtain ⟨b1, o1, rfl, c1, _⟩ := (HA.out.below HBL.out).at (show j < fs.length by rw [HN.out.1]; exact hlt)
            obtain ⟨b2, o2, rfl, c2, _⟩ := (HB.out.below HBL.out).at (show j < xs.length by rw [HN.out.2]; exact hlt)
            obtain ⟨F, hF⟩ : ∃ F : Nat, fs.getD j 0 = (F : Int) := ⟨(fs.getD j 0).toNat, by have := (okF_get HQ.out j).1; omega⟩
            obtain ⟨l, hl⟩ : ∃ l : Nat, xs.getD j 0 = (l : Int) := ⟨(xs.getD j 0).toNat, by have := (may_get hm j).1; omega⟩
            have hFb : F ≤ 1099511627776 := by have := (okF_get HQ.out j).2; omega
            have hlb : l ≤ 15 := by have := (may_get hm j).2; omega
            have hmul : F * l ≤ 16492674416640 := Nat.mul_le_mul hFb hlb
            obtain ⟨T, hT⟩ : ∃ T, F * l = T := ⟨_, rfl⟩
            have hTi : (F : Int) * (l : Int) = (T : Int) := by rw [← hT]; simp
            have HX : Hid (S + T = costTo fs xs (j + 1) ∧ lacks fs xs (j + 1) = (decide (0 < F) && decide (l = 0))) := by
              refine ⟨?_, ?_⟩
              · simp only [costTo, frq]
                rw [hF, hl, ← HS.out.1, ← hT]; simp
              · simp only [lacks]
                rw [hF, hl, HS.out.2]
                simp
            have HJ : Hid (j + 1 ≤ fs.length) := by show _ ≤ _; rw [HN.out.1]; exact hlt
            rw [hF] at c1
            rw [hl] at c2
            rw [hT] at hmul
            have w1' : IntKind.i64.wrap ((F : Int) * (l : Int)) = (T : Int) := by rw [hTi, IntKind.wrap_i64]; omega
            clear hF hl hT hm
            by_cases hp : 0 < F
            · have hpi : (0 : Int) < (F : Int) := by omega
              by_cases hl0 : l = 0
              · subst hl0
                have HR1 : Hid (R = (0, 30)) := by
                  show _ = _
                  rw [← HRR.out]
                  refine costR_lack HBO.out HCD.out (lacks_mono ?_ HJ.out)
                  rw [HX.out.2, decide_eq_true hp]; rfl
                go_wp2
                go_ret2
                exact ⟨by rw [HR1.out]; rfl, HBL.out⟩
              · have hl0i : ¬ (l : Int) = 0 := by omega
                have hl0b : ((l : Int) == 0) = false := by simpa using hl0
                have H2 : Hid (S + T = costTo fs xs (j + 1) ∧ lacks fs xs (j + 1) = false) := ⟨HX.out.1, by rw [HX.out.2, decide_eq_false hl0]; simp⟩
                go_wp2
                exact ⟨⟨j + 1, S + T, by go_num, by omega, by go_num, H2⟩, by simp [intOf]; omega⟩
            · have hpi : ¬ (0 : Int) < (F : Int) := by omega
              have H2 : Hid (S + T = costTo fs xs (j + 1) ∧ lacks fs xs (j + 1) = false) := ⟨HX.out.1, by rw [HX.out.2, decide_eq_false hp]; rfl⟩
              go_wp2
              exact ⟨⟨j + 1, S + T, by go_num, by omega, by go_num, H2⟩, by simp [intOf]; omega⟩
          · obtain rfl : j = N := by omega
            have HR1 : Hid (R = ((S : Int), 0)) := by
              show _ = _
              rw [← HRR.out, costR_ok HBO.out HCD.out (by rw [HN.out.1]; exact HS.out.2), HN.out.1, ← HS.out.1]
            clear hm
            go_wp2
            go_ret2
            exact ⟨by rw [HR1.out]; rfl, HBL.out⟩
      · have HR1 : Hid (R = (0, 30)) := by
          show _ = _
          rw [← HRR.out, costR_code HBO.out hcode]
        clear hcode HG
        go_wp2
        go_ret2
        exact ⟨by rw [HR1.out]; rfl, HBL.out⟩
  · have hni : ¬ (N : Int) = (M : Int) := by omega
    have hnb : ((N : Int) != (M : Int)) = true := by simpa using hni
    have HR1 : Hid (R = (0, 1)) := by
      show _ = _
      rw [← HRR.out, costR_arg (by rw [HN.out.1, HN.out.2]; simp [hne])]
    go_wp2
    go_ret2
    exact ⟨by rw [HR1.out]; rfl, Below.refl _ _⟩
end Go.Proofs.Ytklipommocijaaa
