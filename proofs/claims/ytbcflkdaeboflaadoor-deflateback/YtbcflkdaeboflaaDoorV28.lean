/- What symbols cost: the program's and the document's. -/
/- What the best lengths are: a whole code, in the order of weights, and what it costs. -/
/- Two parts of a row of packs exchanged. -/
import Derived.Test.YtbcflkdaeboflaaDoorV05
import Derived.Test.YtbcflkdaeboflaaDoorV27
import Derived.Test.YtbcflkdaeboflaaDoorV14
import Derived.BigQuiet
import Derived.Deep.QuietTactic
import Derived.Test.YtbcflkdaeboflaaDoorV03
namespace Go.Proofs.YtbcflkdaeboflaaDoor
open Go.RowKit
set_option linter.unusedVariables false
set_option maxRecDepth 20000

def costTo (fs xs : List Int) : Nat → Nat
  | 0 => 0
  | j + 1 => costTo fs xs j + frq fs j * (xs.getD j 0).toNat
/-- Among the first j symbols one comes that has no word. -/
def lacks (fs xs : List Int) : Nat → Bool
  | 0 => false
  | j + 1 => lacks fs xs j || (decide (0 < fs.getD j 0) && decide (xs.getD j 0 = 0))
theorem lacks_mono {fs xs : List Int} {j n : Nat} (h : lacks fs xs j = true) (hn : j ≤ n) : lacks fs xs n = true := by
  induction hn with
  | refl => exact h
  | step _ ih => simp only [lacks, ih, Bool.true_or]
def costR (fs xs : List Int) : Int × Int :=
  if fs.length = xs.length ∧ okF fs = true then (if isCode xs = true then (if lacks fs xs fs.length = true then (0, 30) else ((costTo fs xs fs.length : Nat), 0)) else (0, 30)) else (0, 1)
theorem costR_arg {fs xs : List Int} (h : ¬ (fs.length = xs.length ∧ okF fs = true)) : costR fs xs = (0, 1) := by unfold costR; rw [if_neg h]
theorem costR_code {fs xs : List Int} (h : fs.length = xs.length ∧ okF fs = true) (h2 : isCode xs = false) : costR fs xs = (0, 30) := by unfold costR; rw [if_pos h, if_neg (by rw [h2]; simp)]
theorem costR_lack {fs xs : List Int} (h : fs.length = xs.length ∧ okF fs = true) (h2 : isCode xs = true) (h3 : lacks fs xs fs.length = true) : costR fs xs = (0, 30) := by unfold costR; rw [if_pos h, if_pos h2, if_pos h3]
theorem costR_ok {fs xs : List Int} (h : fs.length = xs.length ∧ okF fs = true) (h2 : isCode xs = true) (h3 : lacks fs xs fs.length = false) : costR fs xs = (((costTo fs xs fs.length : Nat) : Int), 0) := by unfold costR; rw [if_pos h, if_pos h2, if_neg (by rw [h3]; simp)]
theorem costTo_bound {fs xs : List Int} (hf : okF fs = true) (hx : may xs = true) : ∀ j, costTo fs xs j ≤ j * 16492674416640
  | 0 => by simp [costTo]
  | j + 1 => by
    have h1 := costTo_bound hf hx j
    have h2 : frq fs j ≤ 1099511627776 := by have := okF_get hf j; unfold frq; omega
    have h3 : (xs.getD j 0).toNat ≤ 15 := by have := may_get hx j; omega
    have h4 : frq fs j * (xs.getD j 0).toNat ≤ 1099511627776 * 15 := Nat.mul_le_mul h2 h3
    simp only [costTo]; omega

set_option maxRecDepth 20000 in
set_option maxHeartbeats 1000000 in
theorem full_ok (xs : List Int) (a : Option Addr) (c N : Nat) (w : World) (hN : xs.length = N) (hrow : IRow w a xs) (hlen : N ≤ 9223372036854775807) :
    Calls Tryd.prog 39 #[.slice a N c] w fun e w' => e = .returned (.bool (decide (shareV xs = 32768))) ∧ w' = w := by
  have hs := fun _ : Unit => share_ok xs a c N w hN hrow hlen
  obtain ⟨V, hV⟩ : ∃ V, shareV xs = V := ⟨_, rfl⟩
  rw [hV] at hs ⊢
  have HS : Hid _ := hs
  clear hs hV hN hrow
  go_enter Tryd.func39, Tryd.ntmps39
  go_wp2_with fail
  refine (HS.out ()).mono ?_
  rintro e w1 ⟨rfl, hw⟩
  obtain rfl := hw.symm
  go_wp2
  go_ret
  exact ⟨rfl, rfl⟩

set_option maxRecDepth 20000 in
set_option maxHeartbeats 4000000 in
theorem cost_ok (fs xs : List Int) (a b : Option Addr) (c d N M : Nat) (w : World) (hN : fs.length = N) (hM : xs.length = M) (ha : IRow w a fs) (hb : IRow w b xs) (hlen : N ≤ 9223372036854775807) (hlen2 : M ≤ 9223372036854775807) :
    Calls Tryd.prog 67 #[.slice a N c, .slice b M d] w fun e w' => e = .returned (.tuple #[.int .i64 (costR fs xs).1, .int .i64 (costR fs xs).2]) ∧ Below w.heap.size w w' := by
  have HA : Hid (IRow w a fs) := ha
  have HB : Hid (IRow w b xs) := hb
  have HN : Hid (fs.length = N ∧ xs.length = M) := ⟨hN, hM⟩
  have HAF : Hid (∀ _ : Unit, Calls Tryd.prog 75 #[.slice a N c] w fun e w' => e = .returned (.bool (okF fs)) ∧ w' = w) := fun _ => areFreqs_ok fs a c N w hN ha hlen
  have HE : Hid (∀ _ : Unit, Calls Tryd.prog 79 #[.slice b M d] w fun e w' => EndsEnd w xs e w') := fun _ => wordEnds_ok xs b d M w hM hb hlen2
  clear ha hb hN hM
  obtain ⟨R, hR⟩ : ∃ R, costR fs xs = R := ⟨_, rfl⟩
  have HRR : Hid (costR fs xs = R) := hR
  rw [hR]
  clear hR
  go_enter Tryd.func67, Tryd.ntmps67
  by_cases hne : N = M
  · subst hne
    obtain ⟨q, hq⟩ : ∃ q, okF fs = q := ⟨_, rfl⟩
    have HQ : Hid (okF fs = q) := hq
    have HAF2 : Hid (∀ _ : Unit, Calls Tryd.prog 75 #[.slice a N c] w fun e w' => e = .returned (.bool q) ∧ w' = w) := fun _ => by rw [← hq]; exact HAF.out ()
    clear hq HAF
    cases q with
    | false =>
      have HR1 : Hid (R = (0, 1)) := by
        show _ = _
        rw [← HRR.out, costR_arg (by rw [HQ.out]; simp)]
      go_wp2_with (go_at_call 75; refine (HAF2.out ()).mono ?_; rintro e w1 ⟨rfl, hw⟩; obtain rfl := hw.symm)
      go_ret2
      exact ⟨by rw [HR1.out]; rfl, Below.refl _ _⟩
    | true =>
      have hboth : fs.length = xs.length ∧ okF fs = true := ⟨by rw [HN.out.1, HN.out.2], HQ.out⟩
      have HBO : Hid (fs.length = xs.length ∧ okF fs = true) := hboth
      clear hboth
      go_wp2_with (go_at_call 75; refine (HAF2.out ()).mono ?_; rintro e w1 ⟨rfl, hw⟩; obtain rfl := hw.symm)
      refine (HE.out ()).mono ?_
      rintro e w1 ⟨hcase, hb1⟩
      have HB1 : Hid (Below w.heap.size w w1) := hb1
      have hgen : ∃ (g : Nat → Nat) (q : Int), e = .returned (.tuple #[.agg (lcells 16 g), .int .i64 q]) ∧ Hid ((isCode xs = true ∧ q = 0) ∨ (isCode xs = false ∧ q = 30)) := by
        rcases hcase with ⟨h1, h2, rfl⟩ | ⟨h1, rfl⟩
        · exact ⟨_, _, rfl, .inl ⟨(isCode_iff xs).2 ⟨h1, h2⟩, rfl⟩⟩
        · refine ⟨_, _, rfl, .inr ⟨?_, rfl⟩⟩
          cases e : isCode xs with
          | false => rfl
          | true => exact absurd ((isCode_iff xs).1 e) h1
      obtain ⟨g, q, rfl, HG⟩ := hgen
      have hsv := run_storeCells_blk (P := Tryd.prog) (w1.alloc (.cells #[.int .i64 0, .int .i64 0, .int .i64 0, .int .i64 0, .int .i64 0, .int .i64 0, .int .i64 0, .int .i64 0, .int .i64 0, .int .i64 0, .int .i64 0, .int .i64 0, .int .i64 0, .int .i64 0, .int .i64 0, .int .i64 0] 136)) w1.heap.size 136 136 _ (lcells 16 g) (heap_alloc_last _ _) (by rw [lcells_size]; exact perSize) (by rw [lcells_size]; rfl) (lcells_one _ _)
      rw [setRow_last] at hsv
      have hAs := lcells_size 16 g
      obtain ⟨A, hA⟩ : ∃ A, lcells 16 g = A := ⟨_, rfl⟩
      rw [hA] at hsv hAs
      rw [hA]
      have HSV : Hid _ := hsv
      clear hcase hb1 hsv hA
      go_wp2
      simp only [HSV.out, Result.andThen]
      rw [Oper.upon_skip]
      clear hAs HSV
      have hbl : Below w.heap.size w (w1.alloc (.cells A 136)) := HB1.out.alloc HB1.out.size _
      obtain ⟨W, hW⟩ : ∃ W, w1.alloc (.cells A 136) = W := ⟨_, rfl⟩
      rw [hW] at hbl ⊢
      have HBL : Hid (Below w.heap.size w W) := hbl
      clear hW hbl
      rcases HG.out with ⟨hcode, rfl⟩ | ⟨hcode, rfl⟩
      · have HCD : Hid (isCode xs = true) := hcode
        have hN288 : N ≤ 288 := by rw [← HN.out.2]; exact may_len ((isCode_iff xs).1 hcode).1
        clear hcode HG
        go_wp2
        go_loop [8, 9, 10, 31] (fun v8 _ _ v31 => ∃ (j : Nat) (S : Nat), v31 = .int .i64 j ∧ j ≤ N ∧ v8 = .int .i64 (S : Int) ∧ Hid (S = costTo fs xs j ∧ lacks fs xs j = false)) (fun _ _ _ v31 => N - (intOf v31).toNat)
        case atStart => exact ⟨0, 0, rfl, by omega, rfl, rfl, rfl⟩
        case round =>
          obtain ⟨j, S, rfl, hj, rfl, HS⟩ := hrel
          have hm := ((isCode_iff xs).1 HCD.out).1
          have hSb : S ≤ 4749890231992320 := by rw [HS.out.1]; exact Nat.le_trans (costTo_bound HQ.out hm j) (by omega)
          by_cases hlt : j < N
          · have hlti : (j : Int) < (N : Int) := by omega
            obtain ⟨b1, o1, rfl, c1, _⟩ := (HA.out.below HBL.out).at (show j < fs.length by rw [HN.out.1]; exact hlt)
            obtain ⟨b2, o2, rfl, c2, _⟩ := (HB.out.below HBL.out).at (show j < xs.length by rw [HN.out.2]; exact hlt)
            obtain ⟨F, hF⟩ : ∃ F : Nat, fs.getD j 0 = (F : Int) := ⟨(fs.getD j 0).toNat, by have := (okF_get HQ.out j).1; omega⟩
            obtain ⟨l, hl⟩ : ∃ l : Nat, xs.getD j 0 = (l : Int) := ⟨(xs.getD j 0).toNat, by have := (may_get hm j).1; omega⟩
            have hFb : F ≤ 1099511627776 := by have := (okF_get HQ.out j).2; omega
            have hlb : l ≤ 15 := by have := (may_get hm j).2; omega
            have hmul : F * l ≤ 16492674416640 := Nat.mul_le_mul hFb hlb
            obtain ⟨T, hT⟩ : ∃ T, F * l = T := ⟨_, rfl⟩
            have hTi : (F : Int) * (l : Int) = (T : Int) := by rw [← hT]; simp
            have HX : Hid (S + T = costTo fs xs (j + 1) ∧ lacks fs xs (j + 1) = (decide (0 < F) && decide (l = 0))) := by
              refine ⟨?_, ?_⟩
              · simp only [costTo, frq]
                rw [hF, hl, ← HS.out.1, ← hT]; simp
              · simp only [lacks]
                rw [hF, hl, HS.out.2]
                simp
            have HJ : Hid (j + 1 ≤ fs.length) := by show _ ≤ _; rw [HN.out.1]; exact hlt
            rw [hF] at c1
            rw [hl] at c2
            rw [hT] at hmul
            have w1' : IntKind.i64.wrap ((F : Int) * (l : Int)) = (T : Int) := by rw [hTi, IntKind.wrap_i64]; omega
            clear hF hl hT hm
            by_cases hp : 0 < F
            · have hpi : (0 : Int) < (F : Int) := by omega
              by_cases hl0 : l = 0
              · subst hl0
                have HR1 : Hid (R = (0, 30)) := by
                  show _ = _
                  rw [← HRR.out]
                  refine costR_lack HBO.out HCD.out (lacks_mono ?_ HJ.out)
                  rw [HX.out.2, decide_eq_true hp]; rfl
                go_wp2
                go_ret2
                exact ⟨by rw [HR1.out]; rfl, HBL.out⟩
              · have hl0i : ¬ (l : Int) = 0 := by omega
                have hl0b : ((l : Int) == 0) = false := by simpa using hl0
                have H2 : Hid (S + T = costTo fs xs (j + 1) ∧ lacks fs xs (j + 1) = false) := ⟨HX.out.1, by rw [HX.out.2, decide_eq_false hl0]; simp⟩
                go_wp2
                exact ⟨⟨j + 1, S + T, by go_num, by omega, by go_num, H2⟩, by simp [intOf]; omega⟩
            · have hpi : ¬ (0 : Int) < (F : Int) := by omega
              have H2 : Hid (S + T = costTo fs xs (j + 1) ∧ lacks fs xs (j + 1) = false) := ⟨HX.out.1, by rw [HX.out.2, decide_eq_false hp]; rfl⟩
              go_wp2
              exact ⟨⟨j + 1, S + T, by go_num, by omega, by go_num, H2⟩, by simp [intOf]; omega⟩
          · obtain rfl : j = N := by omega
            have HR1 : Hid (R = ((S : Int), 0)) := by
              show _ = _
              rw [← HRR.out, costR_ok HBO.out HCD.out (by rw [HN.out.1]; exact HS.out.2), HN.out.1, ← HS.out.1]
            clear hm
            go_wp2
            go_ret2
            exact ⟨by rw [HR1.out]; rfl, HBL.out⟩
      · have HR1 : Hid (R = (0, 30)) := by
          show _ = _
          rw [← HRR.out, costR_code HBO.out hcode]
        clear hcode HG
        go_wp2
        go_ret2
        exact ⟨by rw [HR1.out]; rfl, HBL.out⟩
  · have hni : ¬ (N : Int) = (M : Int) := by omega
    have hnb : ((N : Int) != (M : Int)) = true := by simpa using hni
    have HR1 : Hid (R = (0, 1)) := by
      show _ = _
      rw [← HRR.out, costR_arg (by rw [HN.out.1, HN.out.2]; simp [hne])]
    go_wp2
    go_ret2
    exact ⟨by rw [HR1.out]; rfl, Below.refl _ _⟩
end Go.Proofs.YtbcflkdaeboflaaDoor
namespace Go.Proofs.YtbcflkdaeboflaaDoor
open Go.RowKit PT
set_option linter.unusedVariables false
set_option maxRecDepth 20000

def lensOf (c : Nat → Nat) (N : Nat) : List Int := (List.range N).map fun i => ((c i : Nat) : Int)
theorem lensOf_length (c : Nat → Nat) (N : Nat) : (lensOf c N).length = N := by simp [lensOf]
theorem lensOf_get (c : Nat → Nat) {N i : Nat} (h : i < N) : (lensOf c N).getD i 0 = ((c i : Nat) : Int) := by
  rw [getD_in (by rw [lensOf_length]; exact h)]
  simp [lensOf]
theorem lensOf_out (c : Nat → Nat) {N i : Nat} (h : N ≤ i) : (lensOf c N).getD i 0 = 0 := by
  rw [List.getD_eq_getElem?_getD, List.getElem?_eq_none (by rw [lensOf_length]; exact h)]; rfl
theorem LB.rowL {w : World} {L N : Nat} {c : Nat → Nat} (h : LB w L N c) : IRow w (some ⟨L, 0, none⟩) (lensOf c N) := by
  refine .inr ⟨L, 0, rfl, lt_heap h, fun i hi => ?_⟩
  rw [lensOf_length] at hi
  rw [lensOf_get c hi, Nat.zero_add]
  exact (h.cell hi).1
theorem sum_mul {L : List Nat} {f : Nat → Nat} (K : Nat) : (L.map fun s => K * f s).sum = K * (L.map f).sum := by
  induction L with
  | nil => simp
  | cons t r ih => simp only [List.map_cons, List.sum_cons, ih, Nat.mul_add]
theorem sum_more {L : List Nat} {f : Nat → Nat} (hf : ∀ s, 1 ≤ f s) {s : Nat} (hs : s ∈ L) : f s + (L.length - 1) ≤ (L.map f).sum := by
  have hlen : ∀ M : List Nat, M.length ≤ (M.map f).sum := by
    intro M
    induction M with
    | nil => simp
    | cons t r ih => have := hf t; simp only [List.map_cons, List.sum_cons, List.length_cons]; omega
  induction L with
  | nil => simp at hs
  | cons t r ih =>
    simp only [List.map_cons, List.sum_cons, List.length_cons]
    rcases List.mem_cons.1 hs with rfl | hs
    · have := hlen r; omega
    · have := ih hs
      have := hf t
      have : 0 < r.length := List.length_pos_of_mem hs
      omega
theorem Leaves.sys {fs : List Int} : ∀ {ss : List Nat} {l : List PT}, Leaves fs ss l → l.map sy = ss
  | [], [], _ => rfl
  | [], t :: l, h => by simp [Leaves] at h
  | s :: ss, [], h => by simp [Leaves] at h
  | s :: ss, t :: l, h => by
    simp only [Leaves, List.map_cons, List.cons.injEq] at h
    have ih := Leaves.sys (fs := fs) (ss := ss) (l := l) h.2
    rw [List.map_cons, ih]
    have : t.syms = [s] := by have := h.1; simp only [Prod.mk.injEq] at this; exact this.1
    unfold sy
    rw [this]; rfl
theorem sing_of {fs : List Int} {n : Nat} {S l : List PT} (h : Leaves fs (comes fs n) l) (hp : S.Perm l) : Sing (frq fs) S := by
  refine ⟨fun t ht => ?_, ?_⟩
  · obtain ⟨s, hs, e1, e2, _⟩ := h.at (hp.mem_iff.1 ht)
    have : sy t = s := by unfold sy; rw [e1]; rfl
    rw [this]
    refine ⟨e1, e2, ?_⟩
    have := (comes_lt hs).2
    unfold frq; omega
  · refine (hp.map sy).nodup_iff.2 ?_
    rw [h.sys]
    exact List.nodup_range.sublist List.filter_sublist
theorem mem_comes {fs : List Int} {n s : Nat} : s ∈ comes fs n ↔ s < n ∧ 0 < fs.getD s 0 := by
  unfold comes
  simp only [List.mem_filter, List.mem_range, decide_eq_true_eq]
theorem shr_comes {fs : List Int} {ns : List Nat} : ∀ {j : Nat}, (∀ i, i < j → (0 < fs.getD i 0 ↔ ns.getD i 0 ≠ 0)) → shr ns j = ((comes fs j).map fun s => 2 ^ (15 - ns.getD s 0)).sum
  | 0, _ => rfl
  | j + 1, h => by
    have ih := shr_comes (fs := fs) (ns := ns) (j := j) (fun i hi => h i (by omega))
    have hj := h j (by omega)
    rw [comes_succ]
    simp only [shr, ih]
    by_cases e : 0 < fs.getD j 0
    · rw [if_pos e, if_neg (hj.1 e), List.map_append, List.sum_append]; simp
    · have : ns.getD j 0 = 0 := by
        rcases Nat.eq_zero_or_pos (ns.getD j 0) with h0 | h0
        · exact h0
        · exact absurd (hj.2 (by omega)) e
      rw [if_neg e, if_pos this]; rfl
theorem costTo_wsum {fs : List Int} {c : Nat → Nat} {N : Nat} : ∀ {j : Nat}, j ≤ N → costTo fs (lensOf c N) j = wsum (frq fs) c j
  | 0, _ => rfl
  | j + 1, h => by
    have ih := costTo_wsum (fs := fs) (c := c) (N := N) (j := j) (by omega)
    simp only [costTo, wsum, ih]
    rw [lensOf_get c (show j < N by omega)]; simp

/-- What there is to know of lengths that Lengths told. -/
structure BestL (fs : List Int) (mo : Nat) (c : Nat → Nat) (W : List Nat) : Prop where
  top : ∀ i, i < fs.length → c i ≤ mo
  has : ∀ i, i < fs.length → (0 < fs.getD i 0 ↔ 0 < c i)
  order : ∀ i k, i < fs.length → k < fs.length → fs.getD k 0 < fs.getD i 0 → 0 < fs.getD k 0 → c i ≤ c k
  code : isCode (lensOf c fs.length) = true
  whole : 2 ≤ (comes fs fs.length).length → shareV (lensOf c fs.length) = 32768
  up : Up W
  perm : W.Perm ((comes fs fs.length).map (frq fs))
  cost1 : W.length ≤ 1 → costTo fs (lensOf c fs.length) fs.length = W.sum
  cost : 2 ≤ W.length → costTo fs (lensOf c fs.length) fs.length = ((LW W (mo - 1)).take (2 * W.length - 2)).sum
  wide : 2 ≤ W.length → ∀ k d, k + d = mo - 1 → ((LW W (mo - 1)).take (2 * W.length - 2)).sum ≤ ((LW W k).take (2 * W.length - 2)).sum ∨ (LW W k).length < 2 * W.length - 2
theorem BestL.lacks {fs : List Int} {mo : Nat} {c : Nat → Nat} {W : List Nat} (h : BestL fs mo c W) : ∀ {j : Nat}, j ≤ fs.length → Go.Proofs.YtbcflkdaeboflaaDoor.lacks fs (lensOf c fs.length) j = false
  | 0, _ => rfl
  | j + 1, hj => by
    simp only [Go.Proofs.YtbcflkdaeboflaaDoor.lacks, h.lacks (j := j) (by omega), Bool.false_or]
    rw [lensOf_get c (by omega)]
    have := h.has j (by omega)
    by_cases e : 0 < fs.getD j 0
    · have := this.1 e
      rw [decide_eq_false (p := ((c j : Nat) : Int) = 0) (by omega)]; simp
    · rw [decide_eq_false e]; rfl
theorem nsOf_lens (c : Nat → Nat) {N i : Nat} (h : i < N) : (nsOf (lensOf c N)).getD i 0 = c i := by rw [nsOf_get, lensOf_get c h]; simp
theorem may_lens {c : Nat → Nat} {N : Nat} (hN : N ≤ 288) (h : ∀ i, i < N → c i ≤ 15) : may (lensOf c N) = true := by
  refine may_yes (by rw [lensOf_length]; exact hN) (fun i hi => ?_)
  rw [lensOf_length] at hi
  rw [lensOf_get c hi]
  have := h i hi
  omega
theorem share_lens {c : Nat → Nat} {fs : List Int} (h : ∀ i, i < fs.length → c i ≤ 15) (hh : ∀ i, i < fs.length → (0 < fs.getD i 0 ↔ 0 < c i)) : ew (nsOf (lensOf c fs.length)) 15 = ((comes fs fs.length).map fun s => 2 ^ (15 - c s)).sum := by
  have hl : (nsOf (lensOf c fs.length)).length = fs.length := by rw [nsOf_length, lensOf_length]
  rw [← shr_ew, hl, shr_comes (fs := fs)]
  · refine sum_congr (fun s hs => ?_)
    rw [nsOf_lens c (comes_lt hs).1]
  · intro i hi
    rw [nsOf_lens c hi, hh i hi]; omega
  · intro i
    by_cases hi : i < fs.length
    · rw [nsOf_lens c hi]; exact h i hi
    · rw [nsOf_get, lensOf_out c (by omega)]; simp
theorem best_of {fs : List Int} {mo : Nat} {c : Nat → Nat} {S l : List PT} (hN : fs.length ≤ 288) (h1 : 1 ≤ mo) (h2 : mo ≤ 15) (hasc : Asc S) (hlv : Leaves fs (comes fs fs.length) l) (hp : S.Perm l)
    (hc : (S.length ≤ 1 ∧ c = fun i => cntL i S) ∨ (2 ≤ S.length ∧ ∃ r, Lev S (mo - 1) r ∧ 2 * S.length - 2 ≤ r.length ∧ c = fun i => cntL i (r.take (2 * S.length - 2)))) : BestL fs mo c (S.map PT.wt) := by
  have hsg := sing_of hlv hp
  have hpm : (S.map sy).Perm (comes fs fs.length) := by rw [← hlv.sys]; exact hp.map sy
  have hsm : ∀ {s}, s ∈ S.map sy ↔ s < fs.length ∧ 0 < fs.getD s 0 := fun {s} => by rw [hpm.mem_iff, mem_comes]
  have hlen : S.length = (comes fs fs.length).length := by have := hpm.length_eq; simpa using this
  have hup : Up (S.map PT.wt) := asc_up hasc
  have hwp : (S.map PT.wt).Perm ((comes fs fs.length).map (frq fs)) := by
    have e : S.map PT.wt = (S.map sy).map (frq fs) := by
      rw [List.map_map]
      exact List.map_congr_left (fun t ht => (hsg.1 t ht).2.1)
    rw [e]
    exact hpm.map _
  have hsy : ∀ t ∈ S, ∀ s ∈ t.syms, s < fs.length := fun t ht s hs => by
    rw [(hsg.1 t ht).1] at hs
    simp at hs
    subst hs
    exact (hsm.1 (List.mem_map_of_mem ht)).1
  rcases hc with ⟨hS1, rfl⟩ | ⟨hS2, r, hr, hrl, rfl⟩
  · have hcnt : ∀ i, cntL i S = if i ∈ S.map sy then 1 else 0 := fun i => by
      have := cnt_take hsg i S.length
      rw [List.take_length, ← List.length_map (f := sy), List.take_length] at this
      exact this
    have htop : ∀ i, cntL i S ≤ 1 := fun i => by rw [hcnt]; split <;> omega
    have hhas : ∀ i, i < fs.length → (0 < fs.getD i 0 ↔ 0 < cntL i S) := fun i hi => by
      rw [hcnt]
      by_cases e : 0 < fs.getD i 0
      · rw [if_pos (hsm.2 ⟨hi, e⟩)]; exact ⟨fun _ => by omega, fun _ => e⟩
      · rw [if_neg (fun h => e (hsm.1 h).2)]; exact ⟨fun h => absurd h e, fun h => by omega⟩
    refine ⟨fun i _ => Nat.le_trans (htop i) h1, hhas, fun i k hi hk h3 h4 => ?_, ?_, fun h => by omega, hup, hwp, fun _ => ?_, fun h => by simp at h; omega, fun h => by simp at h; omega⟩
    · exfalso
      have m1 : i ∈ S.map sy := hsm.2 ⟨hi, by omega⟩
      have m2 : k ∈ S.map sy := hsm.2 ⟨hk, h4⟩
      obtain ⟨t, ht⟩ : ∃ t, S = [t] := List.length_eq_one_iff.1 (by
        have : 0 < (S.map sy).length := List.length_pos_of_mem m1
        rw [List.length_map] at this; omega)
      rw [ht] at m1 m2
      simp at m1 m2
      rw [← m1] at m2
      subst m2
      omega
    · rw [isCode_iff]
      refine ⟨may_lens hN (fun i _ => Nat.le_trans (htop i) (by omega)), ?_⟩
      rw [share_lens (fun i _ => Nat.le_trans (htop i) (by omega)) hhas]
      have h3 : ((comes fs fs.length).map fun s => 2 ^ (15 - cntL s S)).sum ≤ (comes fs fs.length).length * 16384 := by
        rw [sum_same (d := 16384)]
        · exact Nat.le_refl _
        · intro s hs
          rw [hcnt, if_pos (hpm.mem_iff.2 hs)]
      omega
    · rw [costTo_wsum (Nat.le_refl _), ← wtL_wsum hsg.ok hsy, wtL_sum]
  · have hk := Lev.kraft hsg hasc (2 * S.length - 2) hr hrl
    have e1 : mo - 1 + 1 = mo := by omega
    rw [e1] at hk
    have hK : (((S.map sy).map fun s => 2 ^ (mo - cntL s (r.take (2 * S.length - 2)))).sum) = 2 ^ mo := by
      have h := hk.2
      have e2 : 2 ^ mo = 2 * 2 ^ (mo - 1) := by rw [← e1, Nat.pow_succ, Nat.add_sub_cancel]; omega
      rw [e2] at h ⊢
      obtain ⟨P, hP⟩ : ∃ P, 2 ^ (mo - 1) = P := ⟨_, rfl⟩
      rw [hP] at h ⊢
      have e3 : (2 * S.length - 2) * P = 2 * (S.length * P) - 2 * P := by rw [Nat.sub_mul, Nat.mul_assoc]
      have e4 : S.length * (2 * P) = 2 * (S.length * P) := by rw [Nat.mul_left_comm]
      have e5 : 2 * P ≤ S.length * P := Nat.mul_le_mul_right P hS2
      rw [e3, e4] at h
      omega
    have htop : ∀ i, cntL i (r.take (2 * S.length - 2)) ≤ mo := hk.1
    have hone : ∀ i, i ∈ S.map sy → 0 < cntL i (r.take (2 * S.length - 2)) := fun i hi => by
      rcases Nat.eq_zero_or_pos (cntL i (r.take (2 * S.length - 2))) with h0 | h0
      · exfalso
        have := sum_more (f := fun s => 2 ^ (mo - cntL s (r.take (2 * S.length - 2)))) (fun s => Nat.pos_of_ne_zero (by simp)) hi
        rw [hK, h0, List.length_map] at this
        simp at this
        omega
      · exact h0
    have hnone : ∀ i, 0 < cntL i (r.take (2 * S.length - 2)) → i ∈ S.map sy := fun i h0 => Lev.mem hsg hr (Nat.lt_of_lt_of_le h0 (cntL_take_le i r _))
    have hhas : ∀ i, i < fs.length → (0 < fs.getD i 0 ↔ 0 < cntL i (r.take (2 * S.length - 2))) := fun i hi =>
      ⟨fun h => hone i (hsm.2 ⟨hi, h⟩), fun h => (hsm.1 (hnone i h)).2⟩
    have hshare : ew (nsOf (lensOf (fun i => cntL i (r.take (2 * S.length - 2))) fs.length)) 15 = 32768 := by
      rw [share_lens (fun i _ => Nat.le_trans (htop i) h2) hhas]
      have h3 : ((comes fs fs.length).map fun s => 2 ^ (15 - cntL s (r.take (2 * S.length - 2)))).sum = ((S.map sy).map fun s => 2 ^ (15 - cntL s (r.take (2 * S.length - 2)))).sum := (hpm.map _).sum_nat.symm
      rw [h3, sum_congr (g := fun s => 2 ^ (15 - mo) * 2 ^ (mo - cntL s (r.take (2 * S.length - 2)))) (fun s _ => by
        have := htop s
        rw [← Nat.pow_add]; congr 1; omega), sum_mul, hK, ← Nat.pow_add, show 15 - mo + mo = 15 by omega]
    have hmay := may_lens hN (fun i (_ : i < fs.length) => Nat.le_trans (htop i) h2)
    refine ⟨fun i _ => htop i, hhas, fun i k hi hk h3 h4 => ?_, ?_, fun _ => ?_, hup, hwp, fun h => by simp at h; omega, fun _ => ?_, fun _ k d hkd => ?_⟩
    · have m1 : i ∈ S.map sy := hsm.2 ⟨hi, by omega⟩
      have m2 : k ∈ S.map sy := hsm.2 ⟨hk, h4⟩
      obtain ⟨q, hq, rfl⟩ := List.getElem_of_mem m1
      obtain ⟨p, hpp, rfl⟩ := List.getElem_of_mem m2
      by_cases hpq : p ≤ q
      · exact Lev.falls hsg hasc hpq hq _ hr hrl
      · exfalso
        have hq' : q < S.length := by simpa using hq
        have hp' : p < S.length := by simpa using hpp
        have hw := List.pairwise_iff_getElem.1 hasc q p hq' hp' (by omega)
        have a1 := (hsg.1 S[q] (List.getElem_mem _)).2.1
        have a2 := (hsg.1 S[p] (List.getElem_mem _)).2.1
        have b1 : (S.map sy)[q] = sy S[q] := by simp
        have b2 : (S.map sy)[p] = sy S[p] := by simp
        rw [a1, a2] at hw
        rw [b1, b2] at h3
        unfold frq at hw
        rw [b2] at h4
        omega
    · rw [isCode_iff]
      exact ⟨hmay, by rw [hshare]; omega⟩
    · unfold shareV
      rw [if_pos hmay, hshare]; rfl
    · rw [costTo_wsum (Nat.le_refl _), ← wtL_wsum (fun t ht => Lev.ok hsg.ok hr t (List.mem_of_mem_take ht)) (fun t ht => Lev.syms hsy hr t (List.mem_of_mem_take ht)), wtL_sum, List.map_take, Lev.weights hasc hr, List.length_map]
    · rw [← hkd] at hr ⊢
      obtain ⟨l0, hl0, hpd⟩ := Lev.wider hasc d hr
      rw [← Lev.weights hasc hr, ← Lev.weights hasc hl0, List.length_map, List.length_map, ← List.map_take, ← List.map_take, ← wtL_sum, ← wtL_sum]
      by_cases hle : 2 * S.length - 2 ≤ l0.length
      · exact .inl (hpd.2 _ hle)
      · exact .inr (by omega)
end Go.Proofs.YtbcflkdaeboflaaDoor
namespace Go.Proofs.YtbcflkdaeboflaaDoor
open Go.RowKit PT Go.Sort
set_option linter.unusedVariables false
set_option maxRecDepth 20000

/-- d' is d with so many places from a on and from b on exchanged. -/
def SwR (a b n : Nat) (d d' : Array PT) : Prop := d'.size = d.size ∧ ∀ t, d'[t]! = if a ≤ t ∧ t < a + n then d[b + (t - a)]! else if b ≤ t ∧ t < b + n then d[a + (t - b)]! else d[t]!
theorem SwR.zero (a b : Nat) (d : Array PT) : SwR a b 0 d d := ⟨rfl, fun t => by rw [if_neg (by omega), if_neg (by omega)]⟩
theorem SwR.next {a b n N : Nat} {d d' : Array PT} (h : SwR a b n d d') (hd : d.size = N) (hab : a + n < b) (hb : b + n < N) : SwR a b (n + 1) d (swp d' (a + n) (b + n)) := by
  refine ⟨by rw [size_swp, h.1], fun t => ?_⟩
  have hs : d'.size = N := h.1.trans hd
  rw [swp_get d' (by omega) (by omega) t]
  by_cases e1 : t = b + n
  · subst e1
    rw [if_pos rfl, h.2, if_neg (by omega), if_neg (by omega), if_neg (by omega), if_pos (by omega), show a + (b + n - b) = a + n by omega]
  · rw [if_neg e1]
    by_cases e2 : t = a + n
    · subst e2
      rw [if_pos rfl, h.2, if_neg (by omega), if_neg (by omega), if_pos (by omega), show b + (a + n - a) = b + n by omega]
    · rw [if_neg e2, h.2]
      by_cases e3 : a ≤ t ∧ t < a + n
      · rw [if_pos e3, if_pos (by omega)]
      · by_cases e4 : b ≤ t ∧ t < b + n
        · rw [if_neg e3, if_pos e4, if_neg (show ¬ (a ≤ t ∧ t < a + (n + 1)) by omega), if_pos (show b ≤ t ∧ t < b + (n + 1) by omega)]
        · rw [if_neg e3, if_neg e4, if_neg (show ¬ (a ≤ t ∧ t < a + (n + 1)) by omega), if_neg (show ¬ (b ≤ t ∧ t < b + (n + 1)) by omega)]

theorem st_cells {w0 : World} {blk off N : Nat} {d0 d : Array PT} {w : World} (h : SortSt w0 blk off N d0 d w) {x : Nat} (hx : x < N) :
    w.cell? ⟨blk, off + x * 2, none⟩ = some (.int .i64 (d[x]!.wt : Nat)) ∧ w.frozen? ⟨blk, off + x * 2, none⟩ = false ∧ w.cell? ⟨blk, off + x * 2 + 1, none⟩ = some d[x]!.fv ∧ w.frozen? ⟨blk, off + x * 2 + 1, none⟩ = false := by
  have hh : HoldsK PT.enc 2 w blk off d := h.swk.holds h.row.hblk h.row.hH (by rw [h.size, h.size0])
  have c0 := HoldsK.cell hh (i := x) (c := 0) (by rw [h.size]; exact hx) (by omega)
  have c1 := HoldsK.cell hh (i := x) (c := 1) (by rw [h.size]; exact hx) (by omega)
  exact ⟨c0.1, c0.2, c1.1, c1.2⟩
theorem st_swap {w0 : World} {blk off N : Nat} {d0 d : Array PT} {w : World} (h : SortSt w0 blk off N d0 d w) {lo hi x y : Nat} (hx : lo ≤ x ∧ x < hi) (hy : lo ≤ y ∧ y < hi) (hN : hi ≤ N) :
    PermIn lo hi d (swp d x y) ∧ SWK PT.enc 2 w0 blk off (swp d x y) ((((w.drew.setCell ⟨blk, off + x * 2, none⟩ (.int .i64 (d[y]!.wt : Nat))).setCell ⟨blk, off + x * 2 + 1, none⟩ d[y]!.fv).setCell ⟨blk, off + y * 2, none⟩ (.int .i64 (d[x]!.wt : Nat))).setCell ⟨blk, off + y * 2 + 1, none⟩ d[x]!.fv) := by
  refine ⟨swp_permIn d lo hi x y hx.1 hx.2 hy.1 hy.2 (by rw [h.size]; exact hN), ?_⟩
  exact h.swk.swapped h.row x y (by rw [h.size]; omega) (by rw [h.size]; omega)

set_option maxRecDepth 20000 in
set_option maxHeartbeats 4000000 in
theorem swapRange_ok (w0 : World) (blk off cap N a b n : Nat) (d0 d : Array PT) (w : World) (hst : SortSt w0 blk off N d0 d w) (hN : N ≤ 100000) (hab : a + n ≤ b) (hb : b + n ≤ N) :
    Calls Tryd.prog 101 #[.slice (some ⟨blk, off, none⟩) N cap, .int .i64 a, .int .i64 b, .int .i64 n, .func (.func 86) #[] #[]] w fun e w' =>
      e = .returned (.tuple #[]) ∧ ∃ d', SwR a b n d d' ∧ PermIn a (b + n) d d' ∧ SWK PT.enc 2 w0 blk off d' w' := by
  have HST : Hid (SortSt w0 blk off N d0 d w) := hst
  clear hst
  go_enter Tryd.func101, Tryd.ntmps101
  go_wp2
  go_loopw [10] (fun v10 wr => ∃ (i : Nat) (d1 : Array PT), v10 = .int .i64 i ∧ i ≤ n ∧ Hid (SwR a b i d d1 ∧ PermIn a (b + n) d d1 ∧ SWK PT.enc 2 w0 blk off d1 wr)) (fun v10 _ => n - (intOf v10).toNat)
  case atStart => exact ⟨0, d, rfl, by omega, SwR.zero a b d, permIn_refl _ _ _, HST.out.swk⟩
  case round =>
    obtain ⟨i, d1, rfl, hi, HS⟩ := hrel
    by_cases hlt : i < n
    · have hlti : (i : Int) < (n : Int) := by omega
      have hst1 : SortSt w0 blk off N d0 d1 wr := HST.out.step hb HS.out.2.1 HS.out.2.2
      obtain ⟨x, hx⟩ : ∃ x, a + i = x := ⟨_, rfl⟩
      obtain ⟨y, hy⟩ : ∃ x, b + i = x := ⟨_, rfl⟩
      obtain ⟨c1, c2, c3, c4⟩ := st_cells hst1 (x := x) (by omega)
      obtain ⟨k1, k2, k3, k4⟩ := st_cells hst1 (x := y) (by omega)
      have hsw := st_swap hst1 (lo := a) (hi := b + n) (x := x) (y := y) (by omega) (by omega) hb
      have hnx := SwR.next HS.out.1 HST.out.size (by omega) (show b + i < N by omega)
      rw [hx, hy] at hnx
      obtain ⟨D, hD⟩ : ∃ D, swp d1 x y = D := ⟨_, rfl⟩
      rw [hD] at hsw hnx
      obtain ⟨tx, htx⟩ : ∃ t, d1[x]! = t := ⟨_, rfl⟩
      obtain ⟨ty, hty⟩ : ∃ t, d1[y]! = t := ⟨_, rfl⟩
      rw [htx] at c1 c3 hsw
      rw [hty] at k1 k3 hsw
      have HSW : Hid (SwR a b (i + 1) d D ∧ PermIn a (b + n) d D ∧ SWK PT.enc 2 w0 blk off D ((((wr.drew.setCell ⟨blk, off + x * 2, none⟩ (.int .i64 (ty.wt : Nat))).setCell ⟨blk, off + x * 2 + 1, none⟩ ty.fv).setCell ⟨blk, off + y * 2, none⟩ (.int .i64 (tx.wt : Nat))).setCell ⟨blk, off + y * 2 + 1, none⟩ tx.fv)) := ⟨hnx, permIn_trans _ _ _ _ _ HS.out.2.1 hsw.1, hsw.2⟩
      have hxi : (a : Int) + (i : Int) = (x : Int) := by omega
      have hyi : (b : Int) + (i : Int) = (y : Int) := by omega
      have wx : IntKind.i64.wrap ((a : Int) + (i : Int)) = (x : Int) := by rw [IntKind.wrap_i64]; omega
      have wy : IntKind.i64.wrap ((b : Int) + (i : Int)) = (y : Int) := by rw [IntKind.wrap_i64]; omega
      have bx : (x : Int) < (N : Int) := by omega
      have by1 : (y : Int) < (N : Int) := by omega
      have hxy : ¬ x = y := by omega
      obtain ⟨fx, hfx⟩ : ∃ v, tx.fv = .func (.func v) #[] tx.cap := ⟨_, rfl⟩
      obtain ⟨fy, hfy⟩ : ∃ v, ty.fv = .func (.func v) #[] ty.cap := ⟨_, rfl⟩
      rw [hfx] at c3 HSW
      rw [hfy] at k3 HSW
      obtain ⟨px, hpx⟩ : ∃ v, off + x * 2 = v := ⟨_, rfl⟩
      obtain ⟨py, hpy⟩ : ∃ v, off + y * 2 = v := ⟨_, rfl⟩
      have n1 : ¬ px = py := by omega
      have n2 : ¬ px = py + 1 := by omega
      have n3 : ¬ px + 1 = py := by omega
      rw [hpx] at c1 c2 c3 c4 HSW
      rw [hpy] at k1 k2 k3 k4 HSW
      clear hst1 hsw hnx hD htx hty hfx hfy hx hy
      go_wp2_with fail
      go_region
      all_goals
        go_wp2
        exact ⟨⟨i + 1, D, by go_num, by omega, HSW⟩, by simp [intOf]; omega⟩
    · obtain rfl : i = n := by omega
      go_wp2
      go_end0
      exact ⟨rfl, d1, HS.out.1, HS.out.2.1, HS.out.2.2⟩

/-- d' is d with the parts [a, m) and [m, b) one in the other's place. -/
def Rot (a m b : Nat) (d d' : Array PT) : Prop := d'.size = d.size ∧ ∀ t, d'[t]! = if a ≤ t ∧ t < a + (b - m) then d[t + (m - a)]! else if a + (b - m) ≤ t ∧ t < b then d[t - (b - m)]! else d[t]!
theorem Rot.equal {m i : Nat} {d d' : Array PT} (h : SwR (m - i) m i d d') (hi : i ≤ m) : Rot (m - i) m (m + i) d d' := by
  refine ⟨h.1, fun t => ?_⟩
  rw [h.2]
  by_cases e1 : m - i ≤ t ∧ t < m - i + i
  · rw [if_pos e1, if_pos (by omega), show m + (t - (m - i)) = t + (m - (m - i)) by omega]
  · rw [if_neg e1, if_neg (show ¬ (m - i ≤ t ∧ t < m - i + (m + i - m)) by omega)]
    by_cases e2 : m ≤ t ∧ t < m + i
    · rw [if_pos e2, if_pos (by omega), show m - i + (t - m) = t - (m + i - m) by omega]
    · rw [if_neg e2, if_neg (by omega)]
/-- The first part is the longer one. -/
theorem Rot.more {m i j : Nat} {d d1 d' : Array PT} (h : SwR (m - i) m j d d1) (h2 : Rot (m - (i - j)) m (m + j) d1 d') (hij : j < i) (him : i ≤ m) : Rot (m - i) m (m + j) d d' := by
  refine ⟨h2.1.trans h.1, fun t => ?_⟩
  rw [h2.2]
  by_cases e1 : m - i ≤ t ∧ t < m - i + (m + j - m)
  · rw [if_neg (show ¬ (m - (i - j) ≤ t ∧ t < m - (i - j) + (m + j - m)) by omega), if_neg (show ¬ (m - (i - j) + (m + j - m) ≤ t ∧ t < m + j) by omega), if_pos e1, h.2, if_pos (by omega), show m + (t - (m - i)) = t + (m - (m - i)) by omega]
  · rw [if_neg e1]
    by_cases e2 : m - (i - j) ≤ t ∧ t < m - (i - j) + (m + j - m)
    · rw [if_pos e2, if_pos (show m - i + (m + j - m) ≤ t ∧ t < m + j by omega), h.2]
      rw [if_neg (show ¬ (m - i ≤ t + (m - (m - (i - j))) ∧ t + (m - (m - (i - j))) < m - i + j) by omega), if_pos (show m ≤ t + (m - (m - (i - j))) ∧ t + (m - (m - (i - j))) < m + j by omega)]
      rw [show m - i + (t + (m - (m - (i - j))) - m) = t - (m + j - m) by omega]
    · rw [if_neg e2]
      by_cases e3 : m - (i - j) + (m + j - m) ≤ t ∧ t < m + j
      · rw [if_pos e3, if_pos (show m - i + (m + j - m) ≤ t ∧ t < m + j by omega), h.2]
        rw [if_neg (show ¬ (m - i ≤ t - (m + j - m) ∧ t - (m + j - m) < m - i + j) by omega), if_neg (show ¬ (m ≤ t - (m + j - m) ∧ t - (m + j - m) < m + j) by omega)]
      · rw [if_neg e3, if_neg (show ¬ (m - i + (m + j - m) ≤ t ∧ t < m + j) by omega), h.2]
        rw [if_neg (show ¬ (m - i ≤ t ∧ t < m - i + j) by omega), if_neg (show ¬ (m ≤ t ∧ t < m + j) by omega)]
/-- The second part is the longer one. -/
theorem Rot.less {m i j : Nat} {d d1 d' : Array PT} (h : SwR (m - i) (m + j - i) i d d1) (h2 : Rot (m - i) m (m + (j - i)) d1 d') (hij : i < j) (him : i ≤ m) : Rot (m - i) m (m + j) d d' := by
  refine ⟨h2.1.trans h.1, fun t => ?_⟩
  rw [h2.2]
  by_cases e1 : m - i ≤ t ∧ t < m - i + (m + (j - i) - m)
  · rw [if_pos e1, if_pos (show m - i ≤ t ∧ t < m - i + (m + j - m) by omega), h.2]
    rw [if_neg (show ¬ (m - i ≤ t + (m - (m - i)) ∧ t + (m - (m - i)) < m - i + i) by omega), if_neg (show ¬ (m + j - i ≤ t + (m - (m - i)) ∧ t + (m - (m - i)) < m + j - i + i) by omega)]
  · rw [if_neg e1]
    by_cases e2 : m - i + (m + (j - i) - m) ≤ t ∧ t < m + (j - i)
    · rw [if_pos e2, if_pos (show m - i ≤ t ∧ t < m - i + (m + j - m) by omega), h.2]
      rw [if_pos (show m - i ≤ t - (m + (j - i) - m) ∧ t - (m + (j - i) - m) < m - i + i by omega)]
      rw [show m + j - i + (t - (m + (j - i) - m) - (m - i)) = t + (m - (m - i)) by omega]
    · rw [if_neg e2, h.2]
      rw [if_neg (show ¬ (m - i ≤ t ∧ t < m - i + i) by omega)]
      by_cases e3 : m + j - i ≤ t ∧ t < m + j - i + i
      · rw [if_pos e3, if_neg (show ¬ (m - i ≤ t ∧ t < m - i + (m + j - m)) by omega), if_pos (show m - i + (m + j - m) ≤ t ∧ t < m + j by omega)]
        rw [show m - i + (t - (m + j - i)) = t - (m + j - m) by omega]
      · rw [if_neg e3, if_neg (show ¬ (m - i ≤ t ∧ t < m - i + (m + j - m)) by omega), if_neg (show ¬ (m - i + (m + j - m) ≤ t ∧ t < m + j) by omega)]
end Go.Proofs.YtbcflkdaeboflaaDoor
