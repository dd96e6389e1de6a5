/- Layer 5: the best kind of block. -/
/- Layer 5: best, the walk. -/
/- Layer 5: a text part by part. -/
import Derived.Test.YtlbadjfcffoakaaDoorV38
import Derived.Test.YtlbadjfcffoakaaDoorV39
namespace Go.Proofs.YtlbadjfcffoakaaDoor
open Go.RowKit
set_option linter.unusedVariables false
set_option maxRecDepth 20000

theorem sumTo_up {c d : Nat → Nat} {s : Nat} (h : ∀ i, d i ≤ c i + if s = i then 1 else 0) : ∀ j, sumTo d j ≤ sumTo c j + if s < j then 1 else 0
  | 0 => by simp [sumTo]
  | j + 1 => by
    have h1 := sumTo_up h j
    have h2 := h j
    simp only [sumTo]
    by_cases e : s = j
    · rw [if_pos e] at h2
      rw [if_neg (by omega)] at h1
      rw [if_pos (by omega)]
      omega
    · rw [if_neg e] at h2
      by_cases e2 : s < j
      · rw [if_pos e2] at h1
        rw [if_pos (by omega)]
        omega
      · rw [if_neg e2] at h1
        rw [if_neg (by omega)]
        omega
theorem sum_cntS (j : Nat) : ∀ T : List (Nat × Nat × Nat), sumTo (cntS T) j ≤ T.length
  | [] => by rw [sumTo_none (c := cntS []) j (fun i _ => rfl)]; exact Nat.zero_le _
  | t :: T => by
    have h1 := sum_cntS j T
    have h2 := sumTo_up (c := cntS T) (d := cntS (t :: T)) (s := symOf t) (fun i => by simp only [cntS]; omega) j
    rw [List.length_cons]
    split at h2 <;> omega
theorem sum_cntD (j : Nat) : ∀ T : List (Nat × Nat × Nat), sumTo (cntD T) j ≤ T.length
  | [] => by rw [sumTo_none (c := cntD []) j (fun i _ => rfl)]; exact Nat.zero_le _
  | t :: T => by
    have h1 := sum_cntD j T
    have h2 := sumTo_up (c := cntD T) (d := cntD (t :: T)) (s := (distK t.2.2).1) (fun i => by
      simp only [cntD]
      by_cases e : distB t i = true
      · rw [if_pos e]
        unfold distB at e
        simp only [Bool.and_eq_true, decide_eq_true_eq] at e
        rw [if_pos e.2]; omega
      · rw [if_neg e]; omega) j
    rw [List.length_cons]
    split at h2 <;> omega
theorem costR_le (fs xs : List Int) : ∃ c : Nat, (costR fs xs).1 = (c : Int) ∧ c ≤ costTo fs xs fs.length := by
  unfold costR
  split
  · split
    · split
      · exact ⟨0, rfl, Nat.zero_le _⟩
      · exact ⟨_, rfl, Nat.le_refl _⟩
    · exact ⟨0, rfl, Nat.zero_le _⟩
  · exact ⟨0, rfl, Nat.zero_le _⟩
theorem frq_fqL (F : Nat → Nat) {n i : Nat} (h : i < n) : frq (fqL F n) i = F i := by
  unfold frq; rw [fqL_get F h]; simp
theorem inN_nat (ns : List Nat) (i : Nat) : ((inN ns).getD i 0).toNat = ns.getD i 0 := by
  unfold inN
  rw [List.getD_eq_getElem?_getD, List.getElem?_map, List.getD_eq_getElem?_getD]
  cases ns[i]? <;> simp
theorem fixS_get {i : Nat} (h : i < 288) : fixS.getD i 0 = fixL i := by
  unfold fixS
  rw [List.getD_eq_getElem?_getD, List.getElem?_map, List.getElem?_range h]
  rfl
theorem cost_fixS (T : List (Nat × Nat × Nat)) : ∀ j, j ≤ 288 → costTo (fqL (freqS T) 288) (inN fixS) j ≤ 9 * sumTo (cntS T) j + if 256 < j then 7 else 0
  | 0, _ => by simp [costTo]
  | j + 1, hj => by
    have h1 := cost_fixS T j (by omega)
    simp only [costTo, sumTo]
    rw [frq_fqL _ (by omega), inN_nat, fixS_get (by omega)]
    by_cases e : j = 256
    · subst e
      rw [if_neg (by omega)] at h1
      rw [if_pos (by omega)]
      have e7 : fixL 256 = 7 := rfl
      have ef : freqS T 256 = cntS T 256 + 1 := by unfold freqS; rw [if_pos rfl]
      rw [e7, ef]
      omega
    · have e9 : fixL j ≤ 9 := by unfold fixL; (repeat' split) <;> omega
      have ef : freqS T j = cntS T j := by unfold freqS; rw [if_neg e]; rfl
      rw [ef]
      have hm : cntS T j * fixL j ≤ cntS T j * 9 := Nat.mul_le_mul (Nat.le_refl _) e9
      by_cases e2 : 256 < j
      · rw [if_pos e2] at h1
        rw [if_pos (by omega)]
        omega
      · rw [if_neg e2] at h1
        rw [if_neg (by omega)]
        omega
theorem cost_fix30 (T : List (Nat × Nat × Nat)) : ∀ j, j ≤ 30 → costTo (fqL (cntD T) 30) (inN fix30) j ≤ 5 * sumTo (cntD T) j
  | 0, _ => by simp [costTo]
  | j + 1, hj => by
    have h1 := cost_fix30 T j (by omega)
    simp only [costTo, sumTo]
    rw [frq_fqL _ (by omega), inN_nat]
    have e : fix30.getD j 0 = 5 := by
      unfold fix30
      rw [List.getD_eq_getElem?_getD, List.getElem?_replicate, if_pos (by omega)]
      rfl
    rw [e]
    omega
theorem cost_fixS_all (T : List (Nat × Nat × Nat)) (j : Nat) (hj : j = 288) : costTo (fqL (freqS T) 288) (inN fixS) j ≤ 9 * sumTo (cntS T) j + 7 := by
  have h := cost_fixS T j (by omega)
  rw [if_pos (by omega)] at h
  exact h
theorem fixed_sum {a b A B S1 S2 m n : Nat} (ha : a ≤ A) (hb : b ≤ B) (h1 : A ≤ 9 * S1 + 7) (h2 : B ≤ 5 * S2) (h3 : S1 ≤ n) (h4 : S2 ≤ n) (h5 : m ≤ 18 * n) (hl : n ≤ 1048576) : ∃ c : Nat, wrap64 (wrap64 ((a : Int) + (b : Int)) + (m : Int)) = (c : Int) ∧ c ≤ 32 * n + 7 := by
  refine ⟨a + b + m, ?_, by omega⟩
  have w1 := D5.wrapN64 (a + b) (by omega)
  have w2 := D5.wrapN64 (a + b + m) (by omega)
  have e1 : wrap64 ((a : Int) + (b : Int)) = ((a + b : Nat) : Int) := by
    rw [show (a : Int) + (b : Int) = ((a + b : Nat) : Int) by omega]; exact w1
  rw [e1, show ((a + b : Nat) : Int) + ((m : Nat) : Int) = ((a + b + m : Nat) : Int) by omega]
  exact w2
theorem fixed_cost {T : List (Nat × Nat × Nat)} (hf : ∀ t ∈ T, Fine t) (hl : T.length ≤ 1048576) : ∃ c : Nat, wrap64 (wrap64 (costN (freqS T) (inN fixS) + costN (cntD T) (inN fix30)) + ((moreT T : Nat) : Int)) = (c : Int) ∧ c ≤ 32 * T.length + 7 := by
  have l1 : (inN fixS).length = 288 := by rw [inN_length, fixS_len]
  have l2 : (inN fix30).length = 30 := by rw [inN_length, fix30_len]
  obtain ⟨a, ha, ha2⟩ := costR_le (fqL (freqS T) 288) (inN fixS)
  obtain ⟨b, hb, hb2⟩ := costR_le (fqL (cntD T) 30) (inN fix30)
  have e1 : costN (freqS T) (inN fixS) = (a : Int) := by unfold costN; rw [l1]; exact ha
  have e2 : costN (cntD T) (inN fix30) = (b : Int) := by unfold costN; rw [l2]; exact hb
  rw [e1, e2]
  exact fixed_sum ha2 hb2 (cost_fixS_all T _ (fqL_length _ _)) (cost_fix30 T _ (Nat.le_of_eq (fqL_length _ _))) (sum_cntS _ T) (sum_cntD _ T) (moreT_le hf) hl
theorem any_cost (f1 f2 : Nat → Nat) (xs ys : List Int) (m : Nat) (h1 : xs.length ≤ 288) (h2 : ys.length ≤ 30) (hm : m ≤ 18874368) : ∃ c : Nat, wrap64 (wrap64 (costN f1 xs + costN f2 ys) + ((m : Nat) : Int)) = (c : Int) ∧ c ≤ 5300000000000000 := by
  obtain ⟨a, ha, ha2⟩ := costR_nat (fqL f1 xs.length) xs
  obtain ⟨b, hb, hb2⟩ := costR_nat (fqL f2 ys.length) ys
  rw [fqL_length] at ha2 hb2
  have ha3 : a ≤ 288 * 16492674416640 := Nat.le_trans ha2 (Nat.mul_le_mul_right _ h1)
  have hb3 : b ≤ 30 * 16492674416640 := Nat.le_trans hb2 (Nat.mul_le_mul_right _ h2)
  unfold costN
  rw [ha, hb]
  refine ⟨a + b + m, ?_, by omega⟩
  have w1 := D5.wrapN64 (a + b) (by omega)
  have w2 := D5.wrapN64 (a + b + m) (by omega)
  have e1 : wrap64 ((a : Int) + (b : Int)) = ((a + b : Nat) : Int) := by
    rw [show (a : Int) + (b : Int) = ((a + b : Nat) : Int) by omega]; exact w1
  rw [e1, show ((a + b : Nat) : Int) + ((m : Nat) : Int) = ((a + b + m : Nat) : Int) by omega]
  exact w2
theorem bt_a {h c : Nat} (h1 : h ≤ 400000000000100) (h2 : c ≤ 5300000000000000) : ∃ a t : Nat, (3 : Int) + (h : Int) = (a : Int) ∧ IntKind.i64.wrap (a : Int) = (a : Int) ∧ (a : Int) + (c : Int) = (t : Int) ∧ IntKind.i64.wrap (t : Int) = (t : Int) ∧ 3 + h ≤ t :=
  ⟨3 + h, 3 + h + c, by omega, D5.wrapN _ (by omega), by omega, D5.wrapN _ (by omega), by omega⟩
theorem bt_b {c n : Nat} (h1 : c ≤ 32 * n + 7) (h2 : n ≤ 1048576) : ∃ f : Nat, (3 : Int) + (c : Int) = (f : Int) ∧ IntKind.i64.wrap (f : Int) = (f : Int) ∧ f ≤ 32 * n + 10 :=
  ⟨3 + c, by omega, D5.wrapN _ (by omega), by omega⟩
structure BT (w0 : World) (b U X8 X9 g1 g2 m : Nat) (O : List Nat) (ao pao : Option Addr) (pc : Nat) (T : List (Nat × Nat × Nat)) (c1 c2 cf : Nat → Nat) (m1 m2 nf A1 A2 A3 : Nat) (w : World) : Prop where
  box : w.heap[U]? = some (.cells #[.pointer (some ⟨b, 0, none⟩)] 51 (0, 0))
  often : w.heap[X8]? = some (.cells #[.slice (some ⟨g1, 0, none⟩) 288 288, .slice (some ⟨g2, 0, none⟩) 30 30, .int .i64 (m : Nat)] 91 (0, 0))
  told : w.heap[X9]? = some (.cells #[.slice (some ⟨A1, 0, none⟩) m1 288, .slice (some ⟨A2, 0, none⟩) m2 30, .slice pao (bothP c1 c2 m1 m2).length pc, .slice (some ⟨A3, 0, none⟩) 19 19, .int .i64 (nf : Nat)] 95 (0, 0))
  r1 : LB w g1 288 (freqS T)
  r2 : LB w g2 30 (cntD T)
  tc : TC T c1 c2 cf m1 m2 nf A1 A2 A3 pao w
  pw : PW w b O
  bel : Below w0.heap.size w0 w
  tok : TokR w ao T
  ord : OrdAt w
variable {w0 w w' : World} {b U X8 X9 g1 g2 m pc : Nat} {ao pao : Option Addr} {T : List (Nat × Nat × Nat)} {c1 c2 cf : Nat → Nat} {m1 m2 nf A1 A2 A3 : Nat} {O : List Nat}
theorem BT.quiet (h : BT w0 b U X8 X9 g1 g2 m O ao pao pc T c1 c2 cf m1 m2 nf A1 A2 A3 w) (hb : Below w.heap.size w w') : BT w0 b U X8 X9 g1 g2 m O ao pao pc T c1 c2 cf m1 m2 nf A1 A2 A3 w' :=
  ⟨(hb.block _ (lt_of_block h.box)).trans h.box, (hb.block _ (lt_of_block h.often)).trans h.often, (hb.block _ (lt_of_block h.told)).trans h.told, h.r1.below hb, h.r2.below hb, h.tc.below hb, WS.below h.pw hb, h.bel.trans (hb.mono h.bel.size), h.tok.below hb, h.ord.below hb⟩
def BTC (U X8 X9 b g1 g2 m : Nat) (s1 s2 s3 s4 s5 : Value) (w : World) : Prop := (w.cell? ⟨X8, 0, none⟩ = some (.slice (some ⟨g1, 0, none⟩) 288 288) ∧ w.cell? ⟨X8, 1, none⟩ = some (.slice (some ⟨g2, 0, none⟩) 30 30) ∧ w.cell? ⟨X8, 2, none⟩ = some (.int .i64 (m : Nat))) ∧ (w.cell? ⟨X9, 0, none⟩ = some s1 ∧ w.cell? ⟨X9, 1, none⟩ = some s2 ∧ w.cell? ⟨X9, 2, none⟩ = some s3 ∧ w.cell? ⟨X9, 3, none⟩ = some s4 ∧ w.cell? ⟨X9, 4, none⟩ = some s5) ∧ w.cell? ⟨U, 0, none⟩ = some (.pointer (some ⟨b, 0, none⟩))
theorem BT.cells (h : BT w0 b U X8 X9 g1 g2 m O ao pao pc T c1 c2 cf m1 m2 nf A1 A2 A3 w) : BTC U X8 X9 b g1 g2 m (.slice (some ⟨A1, 0, none⟩) m1 288) (.slice (some ⟨A2, 0, none⟩) m2 30) (.slice pao (bothP c1 c2 m1 m2).length pc) (.slice (some ⟨A3, 0, none⟩) 19 19) (.int .i64 (nf : Nat)) w := by
  have h1 := h.often
  have h2 := h.told
  have h3 := h.box
  exact ⟨⟨by simp [World.cell?, h1], by simp [World.cell?, h1], by simp [World.cell?, h1]⟩, ⟨by simp [World.cell?, h2], by simp [World.cell?, h2], by simp [World.cell?, h2], by simp [World.cell?, h2], by simp [World.cell?, h2]⟩, by simp [World.cell?, h3]⟩
def BestB (L : List Nat) (s : ByteArray) (T : List (Nat × Nat × Nat)) (last : Bool) (L' : List Nat) : Prop :=
  (s.size ≤ 65535 ∧ L' = storedB L s last) ∨ L' = fixedB L T last ∨ ∃ c d first nf P, TCok c d first nf P ∧ Cod c 256 ∧ (∀ t ∈ T, Has c d t) ∧ (pieBits first P).length ≤ 6996 ∧ L' = toldB L c d first nf P T last
end Go.Proofs.YtlbadjfcffoakaaDoor
namespace Go.Proofs.YtlbadjfcffoakaaDoor
open Go.RowKit
set_option linter.unusedVariables false
set_option maxRecDepth 20000

set_option maxHeartbeats 8000000 in
theorem pbest (b : Nat) (L : List Nat) (s : ByteArray) (T : List (Nat × Nat × Nat)) (ao : Option Addr) (cp : Nat) (last : Bool) (w : World) (hT : TokR w ao T) (hTl : T.length ≤ 16384) (hfin : ∀ t ∈ T, Fine t) (hs : s.size ≤ 1048576) (ho : OrdAt w) (h0 : 0 < b) (hL : L.length ≤ 1099510000000) (hw : PW w b L) :
    Calls Tryd.prog 27 #[pkV b, .string s, .slice ao T.length cp, .bool last] w fun e w' => e = .returned (.tuple #[]) ∧ (∃ L', BestB L s T last L' ∧ PW w' b L') ∧ PF b w w' := by
  obtain ⟨N, hN⟩ : ∃ N, T.length = N := ⟨_, rfl⟩
  obtain ⟨W, hW⟩ : ∃ W, w.alloc (.cells #[.pointer (some ⟨b, 0, none⟩)] 51) = W := ⟨_, rfl⟩
  have hbel : Below w.heap.size w W := by rw [← hW]; exact (Below.refl _ _).alloc (Nat.le_refl _) _
  obtain ⟨U, hU⟩ : ∃ U, w.heap.size = U := ⟨_, rfl⟩
  have hb0 : W.heap[U]? = some (.cells #[.pointer (some ⟨b, 0, none⟩)] 51 (0, 0)) := by rw [← hW, ← hU]; exact heap_alloc_new _ _
  have HH : Hid ((∀ t ∈ T, Fine t) ∧ T.length ≤ 16384 ∧ s.size ≤ 1048576 ∧ 0 < b ∧ L.length ≤ 1099510000000 ∧ T.length = N ∧ w.heap.size = U) := ⟨hfin, hTl, hs, h0, hL, hN, hU⟩
  have HCO : Hid (∀ W', TokR W' ao T → Calls Tryd.prog 44 #[.slice ao N cp] W' fun e w' => ∃ g1 g2, e = .returned (.agg #[.slice (some ⟨g1, 0, none⟩) 288 288, .slice (some ⟨g2, 0, none⟩) 30 30, .int .i64 (moreT T : Nat)]) ∧ LB w' g1 288 (freqS T) ∧ LB w' g2 30 (cntD T) ∧ Below W'.heap.size W' w') := fun W' h => by
    rw [← HH.out.2.2.2.2.2.1]; exact countsOf_ok T ao cp W' h (by have := HH.out.2.1; omega) HH.out.1
  have HCF : Hid (∀ W' g1 g2, LB W' g1 288 (freqS T) → LB W' g2 30 (cntD T) → OrdAt W' → Calls Tryd.prog 45 #[.agg #[.slice (some ⟨g1, 0, none⟩) 288 288, .slice (some ⟨g2, 0, none⟩) 30 30, .int .i64 (moreT T : Nat)]] W' fun e w' => ∃ c1 c2 cf m1 m2 nf A1 A2 A3 ao cp, e = .returned (.agg #[.slice (some ⟨A1, 0, none⟩) m1 288, .slice (some ⟨A2, 0, none⟩) m2 30, .slice ao (bothP c1 c2 m1 m2).length cp, .slice (some ⟨A3, 0, none⟩) 19 19, .int .i64 (nf : Nat)]) ∧ TC T c1 c2 cf m1 m2 nf A1 A2 A3 ao w' ∧ Below W'.heap.size W' w') := fun W' g1 g2 h1 h2 h3 => codesFor_ok g1 g2 (moreT T) T W' h1 h2 HH.out.1 (by have := HH.out.2.1; omega) h3
  have H1 : Hid (W.heap[U]? = some (.cells #[.pointer (some ⟨b, 0, none⟩)] 51 (0, 0)) ∧ PW W b L ∧ Below w.heap.size w W ∧ TokR W ao T ∧ OrdAt W) := ⟨hb0, WS.below hw hbel, hbel, hT.below hbel, ho.below hbel⟩
  unfold pkV
  rw [hN]
  clear hfin hTl hs h0 hL hN hU hb0 hbel hw hT ho
  go_enter Tryd.func27, Tryd.ntmps27
  go_upto_region 1 with fail
  try rw [hW]
  rw [HH.out.2.2.2.2.2.2]
  clear hW
  go_wp2_with fail
  refine (HCO.out _ H1.out.2.2.2.1).mono ?_
  rintro e w1 ⟨g1, g2, he, hg1, hg2, hb1⟩
  subst he
  obtain ⟨mo, hmo⟩ : ∃ mo, moreT T = mo := ⟨_, rfl⟩
  rw [hmo] at HCF ⊢
  have HMO : Hid (moreT T = mo ∧ mo ≤ 18874368) := ⟨hmo, by have h1 := moreT_le HH.out.1; have h2 := HH.out.2.1; omega⟩
  have H2 : Hid (w1.heap[U]? = some (.cells #[.pointer (some ⟨b, 0, none⟩)] 51 (0, 0)) ∧ PW w1 b L ∧ Below w.heap.size w w1 ∧ TokR w1 ao T ∧ OrdAt w1 ∧ LB w1 g1 288 (freqS T) ∧ LB w1 g2 30 (cntD T)) :=
    ⟨(hb1.block _ (lt_of_block H1.out.1)).trans H1.out.1, WS.below H1.out.2.1 hb1, H1.out.2.2.1.trans (hb1.mono H1.out.2.2.1.size), H1.out.2.2.2.1.below hb1, H1.out.2.2.2.2.below hb1, hg1, hg2⟩
  clear hg1 hg2 hb1 hmo H1 HCO
  go_upto_region 2 with fail
  obtain ⟨W1, hW1⟩ : ∃ W1, w1.alloc (.cells #[.slice (some ⟨g1, 0, none⟩) 288 288, .slice (some ⟨g2, 0, none⟩) 30 30, .int .i64 (mo : Nat)] 91) = W1 := ⟨_, rfl⟩
  obtain ⟨X8, hX8⟩ : ∃ X, w1.heap.size = X := ⟨_, rfl⟩
  have hbw : Below w1.heap.size w1 W1 := by rw [← hW1]; exact (Below.refl _ _).alloc (Nat.le_refl _) _
  have hx8 : W1.heap[X8]? = some (.cells #[.slice (some ⟨g1, 0, none⟩) 288 288, .slice (some ⟨g2, 0, none⟩) 30 30, .int .i64 (mo : Nat)] 91 (0, 0)) := by rw [← hW1, ← hX8]; exact heap_alloc_new _ _
  have H3 : Hid (W1.heap[U]? = some (.cells #[.pointer (some ⟨b, 0, none⟩)] 51 (0, 0)) ∧ PW W1 b L ∧ Below w.heap.size w W1 ∧ TokR W1 ao T ∧ OrdAt W1 ∧ LB W1 g1 288 (freqS T) ∧ LB W1 g2 30 (cntD T) ∧ W1.heap[X8]? = some (.cells #[.slice (some ⟨g1, 0, none⟩) 288 288, .slice (some ⟨g2, 0, none⟩) 30 30, .int .i64 (mo : Nat)] 91 (0, 0))) :=
    ⟨(hbw.block _ (lt_of_block H2.out.1)).trans H2.out.1, WS.below H2.out.2.1 hbw, H2.out.2.2.1.trans (hbw.mono H2.out.2.2.1.size), H2.out.2.2.2.1.below hbw, H2.out.2.2.2.2.1.below hbw, H2.out.2.2.2.2.2.1.below hbw, H2.out.2.2.2.2.2.2.below hbw, hx8⟩
  have z0 : W1.cell? ⟨X8, 0, none⟩ = some (.slice (some ⟨g1, 0, none⟩) 288 288) := by simp [World.cell?, hx8]
  have z1 : W1.cell? ⟨X8, 1, none⟩ = some (.slice (some ⟨g2, 0, none⟩) 30 30) := by simp [World.cell?, hx8]
  have z2 : W1.cell? ⟨X8, 2, none⟩ = some (.int .i64 (mo : Nat)) := by simp [World.cell?, hx8]
  rw [hW1, hX8]
  clear hbw hx8 hW1 hX8 H2
  go_wp2_with fail
  refine (HCF.out _ g1 g2 H3.out.2.2.2.2.2.1 H3.out.2.2.2.2.2.2.1 H3.out.2.2.2.2.1).mono ?_
  rintro e w2 ⟨c1, c2, cf, m1, m2, nf, A1, A2, A3, pao, pc, he, htc, hb2⟩
  subst he
  obtain ⟨NP, hNP⟩ : ∃ N, (bothP c1 c2 m1 m2).length = N := ⟨_, rfl⟩
  rw [hNP]
  have HNP : Hid ((bothP c1 c2 m1 m2).length = NP) := hNP
  have H4 : Hid ((w2.heap[U]? = some (.cells #[.pointer (some ⟨b, 0, none⟩)] 51 (0, 0)) ∧ PW w2 b L ∧ Below w.heap.size w w2 ∧ TokR w2 ao T ∧ OrdAt w2 ∧ LB w2 g1 288 (freqS T) ∧ LB w2 g2 30 (cntD T) ∧ w2.heap[X8]? = some (.cells #[.slice (some ⟨g1, 0, none⟩) 288 288, .slice (some ⟨g2, 0, none⟩) 30 30, .int .i64 (mo : Nat)] 91 (0, 0))) ∧ TC T c1 c2 cf m1 m2 nf A1 A2 A3 pao w2) :=
    ⟨⟨(hb2.block _ (lt_of_block H3.out.1)).trans H3.out.1, WS.below H3.out.2.1 hb2, H3.out.2.2.1.trans (hb2.mono H3.out.2.2.1.size), H3.out.2.2.2.1.below hb2, H3.out.2.2.2.2.1.below hb2, H3.out.2.2.2.2.2.1.below hb2, H3.out.2.2.2.2.2.2.1.below hb2, (hb2.block _ (lt_of_block H3.out.2.2.2.2.2.2.2)).trans H3.out.2.2.2.2.2.2.2⟩, htc⟩
  clear htc hb2 hNP z0 z1 z2 H3 HCF
  go_upto_region 3 with fail
  obtain ⟨W2, hW2⟩ : ∃ W2, w2.alloc (.cells #[.slice (some ⟨A1, 0, none⟩) m1 288, .slice (some ⟨A2, 0, none⟩) m2 30, .slice pao NP pc, .slice (some ⟨A3, 0, none⟩) 19 19, .int .i64 (nf : Nat)] 95) = W2 := ⟨_, rfl⟩
  obtain ⟨X9, hX9⟩ : ∃ X, w2.heap.size = X := ⟨_, rfl⟩
  have H5 : Hid (BT w b U X8 X9 g1 g2 mo L ao pao pc T c1 c2 cf m1 m2 nf A1 A2 A3 W2) := by
    have hbw : Below w2.heap.size w2 W2 := by rw [← hW2]; exact (Below.refl _ _).alloc (Nat.le_refl _) _
    obtain ⟨⟨q1, q2, q3, q4, q5, q6, q7, q8⟩, q9⟩ := H4.out
    exact ⟨(hbw.block _ (lt_of_block q1)).trans q1, (hbw.block _ (lt_of_block q8)).trans q8, by rw [HNP.out, ← hW2, ← hX9]; exact heap_alloc_new _ _, q6.below hbw, q7.below hbw, q9.below hbw, WS.below q2 hbw, q3.trans (hbw.mono q3.size), q4.below hbw, q5.below hbw⟩
  rw [hW2, hX9]
  clear hW2 hX9 H4
  have HK : Hid (∀ W', BT w b U X8 X9 g1 g2 mo L ao pao pc T c1 c2 cf m1 m2 nf A1 A2 A3 W' → (W'.cell? ⟨X8, 0, none⟩ = some (.slice (some ⟨g1, 0, none⟩) 288 288) ∧ W'.cell? ⟨X8, 1, none⟩ = some (.slice (some ⟨g2, 0, none⟩) 30 30) ∧ W'.cell? ⟨X8, 2, none⟩ = some (.int .i64 (mo : Nat))) ∧ (W'.cell? ⟨X9, 0, none⟩ = some (.slice (some ⟨A1, 0, none⟩) m1 288) ∧ W'.cell? ⟨X9, 1, none⟩ = some (.slice (some ⟨A2, 0, none⟩) m2 30) ∧ W'.cell? ⟨X9, 2, none⟩ = some (.slice pao NP pc) ∧ W'.cell? ⟨X9, 3, none⟩ = some (.slice (some ⟨A3, 0, none⟩) 19 19) ∧ W'.cell? ⟨X9, 4, none⟩ = some (.int .i64 (nf : Nat))) ∧ W'.cell? ⟨U, 0, none⟩ = some (.pointer (some ⟨b, 0, none⟩))) := fun W' h => by
    have h1 := h.cells
    rw [HNP.out] at h1
    exact h1
  have HC1 : Hid (∀ W', BT w b U X8 X9 g1 g2 mo L ao pao pc T c1 c2 cf m1 m2 nf A1 A2 A3 W' → Calls Tryd.prog 46 #[.agg #[.slice (some ⟨A1, 0, none⟩) m1 288, .slice (some ⟨A2, 0, none⟩) m2 30, .slice pao NP pc, .slice (some ⟨A3, 0, none⟩) 19 19, .int .i64 (nf : Nat)]] W' fun e w' => (∃ h : Nat, e = .returned (.int .i64 (h : Nat)) ∧ 14 ≤ h ∧ h ≤ 400000000000100) ∧ Below W'.heap.size W' w') := fun W' h => by
    rw [← HNP.out]
    exact headCost_ok _ _ (bothP c1 c2 m1 m2) pao _ pc 19 19 nf (inN (lrow cf 19)) W' rfl rfl h.tc.pie (by have := h.tc.len; omega) h.tc.small (h.tc.r3.inRow (Nat.le_refl _)) (by rw [inN_length, lrow_length]) (by omega) h.tc.nfb.2
  have HC2 : Hid (∀ W', BT w b U X8 X9 g1 g2 mo L ao pao pc T c1 c2 cf m1 m2 nf A1 A2 A3 W' → Calls Tryd.prog 47 #[.agg #[.slice (some ⟨g1, 0, none⟩) 288 288, .slice (some ⟨g2, 0, none⟩) 30 30, .int .i64 (mo : Nat)], .agg #[.slice (some ⟨A1, 0, none⟩) m1 288, .slice (some ⟨A2, 0, none⟩) m2 30]] W' fun e w' => (∃ c : Nat, e = .returned (.int .i64 (c : Nat)) ∧ c ≤ 5300000000000000) ∧ Below W'.heap.size W' w') := fun W' h => by
    refine (cost5_ok g1 g2 mo (freqS T) (cntD T) (some ⟨A1, 0, none⟩) (some ⟨A2, 0, none⟩) m1 m2 288 30 (inN (lrow c1 m1)) (inN (lrow c2 m2)) W' h.r1 h.r2 (h.tc.r1.inRow h.tc.m1b.2) (h.tc.r2.inRow h.tc.m2b.2) (by rw [inN_length, lrow_length]) (by rw [inN_length, lrow_length]) h.tc.m1b.2 h.tc.m2b.2).mono ?_
    rintro e w' ⟨he, hb⟩
    obtain ⟨c, hc1, hc2⟩ := any_cost (freqS T) (cntD T) (inN (lrow c1 m1)) (inN (lrow c2 m2)) mo (by rw [inN_length, lrow_length]; exact h.tc.m1b.2) (by rw [inN_length, lrow_length]; exact h.tc.m2b.2) HMO.out.2
    rw [hc1] at he
    exact ⟨⟨c, he, hc2⟩, hb⟩
  have HC3 : Hid (∀ W', Calls Tryd.prog 40 #[] W' fun e w' => ∃ g1 g2, e = .returned (.agg #[.slice (some ⟨g1, 0, none⟩) 288 288, .slice (some ⟨g2, 0, none⟩) 30 30]) ∧ IRow w' (some ⟨g1, 0, none⟩) (inN fixS) ∧ IRow w' (some ⟨g2, 0, none⟩) (inN fix30) ∧ Below W'.heap.size W' w') := fun W' => fixedCodes_ok W'
  have HC4 : Hid (∀ W' h1 h2, BT w b U X8 X9 g1 g2 mo L ao pao pc T c1 c2 cf m1 m2 nf A1 A2 A3 W' → IRow W' (some ⟨h1, 0, none⟩) (inN fixS) → IRow W' (some ⟨h2, 0, none⟩) (inN fix30) → Calls Tryd.prog 47 #[.agg #[.slice (some ⟨g1, 0, none⟩) 288 288, .slice (some ⟨g2, 0, none⟩) 30 30, .int .i64 (mo : Nat)], .agg #[.slice (some ⟨h1, 0, none⟩) 288 288, .slice (some ⟨h2, 0, none⟩) 30 30]] W' fun e w' => (∃ c : Nat, e = .returned (.int .i64 (c : Nat)) ∧ c ≤ 32 * N + 7) ∧ Below W'.heap.size W' w') := fun W' h1 h2 h i1 i2 => by
    refine (cost5_ok g1 g2 mo (freqS T) (cntD T) (some ⟨h1, 0, none⟩) (some ⟨h2, 0, none⟩) 288 30 288 30 (inN fixS) (inN fix30) W' h.r1 h.r2 i1 i2 (by rw [inN_length, fixS_len]) (by rw [inN_length, fix30_len]) (by omega) (by omega)).mono ?_
    rintro e w' ⟨he, hb⟩
    obtain ⟨c, hc1, hc2⟩ := fixed_cost HH.out.1 (by have := HH.out.2.1; omega)
    rw [← HMO.out.1, hc1] at he
    rw [HH.out.2.2.2.2.2.1] at hc2
    exact ⟨⟨c, he, hc2⟩, hb⟩
  have HNN : Hid (N ≤ 1048576) := by have h1 := HH.out.2.1; have h2 := HH.out.2.2.2.2.2.1; exact (by omega : N ≤ 1048576)
  have HS0 : Hid (BT w b U X8 X9 g1 g2 mo L ao pao pc T c1 c2 cf m1 m2 nf A1 A2 A3 W2.drew) := H5.out.quiet ⟨rfl, rfl, rfl, Nat.le_refl _, fun _ _ => rfl⟩
  have KS0 := HK.out _ HS0.out
  go_region_held_law (fun w' => (w'.cell? ⟨X8, 0, none⟩ = some (.slice (some ⟨g1, 0, none⟩) 288 288) ∧ w'.cell? ⟨X8, 1, none⟩ = some (.slice (some ⟨g2, 0, none⟩) 30 30) ∧ w'.cell? ⟨X8, 2, none⟩ = some (.int .i64 (mo : Nat))) ∧ (w'.cell? ⟨X9, 0, none⟩ = some (.slice (some ⟨A1, 0, none⟩) m1 288) ∧ w'.cell? ⟨X9, 1, none⟩ = some (.slice (some ⟨A2, 0, none⟩) m2 30) ∧ w'.cell? ⟨X9, 2, none⟩ = some (.slice pao NP pc) ∧ w'.cell? ⟨X9, 3, none⟩ = some (.slice (some ⟨A3, 0, none⟩) 19 19) ∧ w'.cell? ⟨X9, 4, none⟩ = some (.int .i64 (nf : Nat))) ∧ w'.cell? ⟨U, 0, none⟩ = some (.pointer (some ⟨b, 0, none⟩)))
    (first | assumption | go_keep)
    (first | (go_at_call 46; refine (HC1.out _ HS0.out).mono ?_; rintro e w3 ⟨⟨hc, he, hc1, hc2⟩, hb3⟩; subst he; have H6 : Hid (BT w b U X8 X9 g1 g2 mo L ao pao pc T c1 c2 cf m1 m2 nf A1 A2 A3 w3) := HS0.out.quiet hb3; have HHC : Hid (14 ≤ hc ∧ hc ≤ 400000000000100) := ⟨hc1, hc2⟩; have KS1 := HK.out _ H6.out; clear hb3 hc1 hc2) | (go_at_call 47; refine (HC2.out _ H6.out).mono ?_; rintro e w4 ⟨⟨cc, he, hc2⟩, hb4⟩; subst he; have H7 : Hid (BT w b U X8 X9 g1 g2 mo L ao pao pc T c1 c2 cf m1 m2 nf A1 A2 A3 w4) := H6.out.quiet hb4; obtain ⟨ta, tt, t1, t2, t3, t4, t5⟩ := bt_a HHC.out.2 hc2; have HTT : Hid (17 ≤ tt) := Nat.le_trans (Nat.add_le_add_left HHC.out.1 3) t5; have KS2 := HK.out _ H7.out; clear hb4 hc2 t5))
  clear KS0 KS1 KS2 H6 HS0 H5 HC1 HC2 t1 t2 t3 t4
  go_upto_region 4 with fail
  have HS1 : Hid (BT w b U X8 X9 g1 g2 mo L ao pao pc T c1 c2 cf m1 m2 nf A1 A2 A3 w4.drew) := H7.out.quiet ⟨rfl, rfl, rfl, Nat.le_refl _, fun _ _ => rfl⟩
  have KS0 := HK.out _ HS1.out
  go_region_held_law (fun w' => (w'.cell? ⟨X8, 0, none⟩ = some (.slice (some ⟨g1, 0, none⟩) 288 288) ∧ w'.cell? ⟨X8, 1, none⟩ = some (.slice (some ⟨g2, 0, none⟩) 30 30) ∧ w'.cell? ⟨X8, 2, none⟩ = some (.int .i64 (mo : Nat))) ∧ (w'.cell? ⟨X9, 0, none⟩ = some (.slice (some ⟨A1, 0, none⟩) m1 288) ∧ w'.cell? ⟨X9, 1, none⟩ = some (.slice (some ⟨A2, 0, none⟩) m2 30) ∧ w'.cell? ⟨X9, 2, none⟩ = some (.slice pao NP pc) ∧ w'.cell? ⟨X9, 3, none⟩ = some (.slice (some ⟨A3, 0, none⟩) 19 19) ∧ w'.cell? ⟨X9, 4, none⟩ = some (.int .i64 (nf : Nat))) ∧ w'.cell? ⟨U, 0, none⟩ = some (.pointer (some ⟨b, 0, none⟩)))
    (first | assumption | go_keep)
    (first | (go_at_call 40; refine (HC3.out _).mono ?_; rintro e w5 ⟨k1, k2, he, i1, i2, hb5⟩; subst he; have H8 : Hid ((BT w b U X8 X9 g1 g2 mo L ao pao pc T c1 c2 cf m1 m2 nf A1 A2 A3 w5) ∧ IRow w5 (some ⟨k1, 0, none⟩) (inN fixS) ∧ IRow w5 (some ⟨k2, 0, none⟩) (inN fix30)) := ⟨HS1.out.quiet hb5, i1, i2⟩; have KS1 := HK.out _ H8.out.1; clear hb5 i1 i2) | (go_at_call 47; refine (HC4.out _ k1 k2 H8.out.1 H8.out.2.1 H8.out.2.2).mono ?_; rintro e w6 ⟨⟨cc2, he, hc2⟩, hb6⟩; subst he; have H9 : Hid (BT w b U X8 X9 g1 g2 mo L ao pao pc T c1 c2 cf m1 m2 nf A1 A2 A3 w6) := H8.out.1.quiet hb6; obtain ⟨ff, t1, t2, t3⟩ := bt_b hc2 HNN.out; have HFF : Hid (ff ≤ 32 * N + 10) := t3; have KS2 := HK.out _ H9.out; clear hb6 hc2 t3))
  clear KS0 KS1 KS2 H8 HS1 H7 HC3 HC4 t1 t2
  have z0 := (HK.out _ H9.out).2.2
  have HC5 : Hid (∀ W', (BT w b U X8 X9 g1 g2 mo L ao pao pc T c1 c2 cf m1 m2 nf A1 A2 A3 W') → Calls Tryd.prog 48 #[.agg #[.pointer (some ⟨b, 0, none⟩)], .string s] W' fun e w' => (∃ c : Nat, e = .returned (.int .i64 (c : Nat)) ∧ 8 * s.size + 32 ≤ c ∧ c ≤ 8 * s.size + 50) ∧ Below W'.heap.size W' w') := fun W' h => storedCost_ok b L s W' HH.out.2.2.1 (by have := HH.out.2.2.2.2.1; omega) h.pw
  go_wp2_with fail
  refine (HC5.out _ H9.out).mono ?_
  rintro e w7 ⟨⟨st, he, hst1, hst2⟩, hb7⟩
  subst he
  have H10 : Hid (BT w b U X8 X9 g1 g2 mo L ao pao pc T c1 c2 cf m1 m2 nf A1 A2 A3 w7) := H9.out.quiet hb7
  have HST : Hid (8 * s.size + 32 ≤ st ∧ st ≤ 8 * s.size + 50) := ⟨hst1, hst2⟩
  clear hst1 hst2 hb7 z0 H9 HC5
  obtain ⟨⟨x0, x1, x2⟩, ⟨y0, y1, y2, y3, y4⟩, z0⟩ := HK.out _ H10.out
  have HPF : Hid (PF b w w7) := PF.below H10.out.bel
  clear x0 x1 x2
  by_cases hA : (st : Int) ≤ min (ff : Int) (tt : Int)
  · have hAb : decide ((st : Int) ≤ min (ff : Int) (tt : Int)) = true := by simp only [decide_eq_true_eq]; exact hA
    have hsz : s.size ≤ 65535 := by
      have h1 := HST.out.1
      have h2 := HFF.out
      have h3 := HH.out.2.1
      have h4 := HH.out.2.2.2.2.2.1
      omega
    have HP : Hid (∀ _ : Unit, Calls Tryd.prog 21 #[.agg #[.pointer (some ⟨b, 0, none⟩)], .string s, .bool last] w7 fun e w' => e = .returned (.tuple #[]) ∧ PW w' b (storedB L s last) ∧ PF b w7 w') := fun _ => pstored b L s last w7 hsz (by have := HH.out.2.2.2.2.1; omega) H10.out.pw
    have HSZ : Hid (s.size ≤ 65535) := hsz
    clear hA hsz y0 y1 y2 y3 y4
    go_wp2_with fail
    refine (HP.out ()).mono ?_
    rintro e w8 ⟨he, hw8, hf8⟩
    subst he
    have H11 : Hid (PW w8 b (storedB L s last) ∧ PF b w w8) := ⟨hw8, HPF.out.trans hf8⟩
    clear hw8 hf8 z0
    go_wp2
    go_end0
    exact ⟨rfl, ⟨_, .inl ⟨HSZ.out, rfl⟩, H11.out.1⟩, H11.out.2⟩
  · have hAb : decide ((st : Int) ≤ min (ff : Int) (tt : Int)) = false := by simp only [decide_eq_false_iff_not]; exact hA
    clear hA
    by_cases hB : (ff : Int) ≤ (tt : Int)
    · have hBb : decide ((ff : Int) ≤ (tt : Int)) = true := by simp only [decide_eq_true_eq]; exact hB
      have HP : Hid (∀ _ : Unit, Calls Tryd.prog 23 #[.agg #[.pointer (some ⟨b, 0, none⟩)], .slice ao N cp, .bool last] w7 fun e w' => e = .returned (.tuple #[]) ∧ PW w' b (fixedB L T last) ∧ PF b w7 w') := fun _ => by
        rw [← HH.out.2.2.2.2.2.1]; exact pfixed b L T ao cp last w7 H10.out.tok (by have := HH.out.2.1; omega) HH.out.1 (by have := HH.out.2.2.2.2.1; omega) H10.out.pw
      have hBn : ff ≤ tt := by omega
      have hBn2 : decide (ff ≤ tt) = true := by simp only [decide_eq_true_eq]; exact hBn
      clear y0 y1 y2 y3 y4
      go_wp2_with fail
      refine (HP.out ()).mono ?_
      rintro e w8 ⟨he, hw8, hf8⟩
      subst he
      have H11 : Hid (PW w8 b (fixedB L T last) ∧ PF b w w8) := ⟨hw8, HPF.out.trans hf8⟩
      clear hw8 hf8 z0
      go_wp2
      go_end0
      exact ⟨rfl, ⟨_, .inr (.inl rfl), H11.out.1⟩, H11.out.2⟩
    · have hBb : decide ((ff : Int) ≤ (tt : Int)) = false := by simp only [decide_eq_false_iff_not]; exact hB
      have hne : T ≠ [] := fun h => by
        have h1 := HFF.out
        have h2 := HTT.out
        have h3 := HH.out.2.2.2.2.2.1
        rw [h] at h3
        simp only [List.length_nil] at h3
        omega
      have HTC : Hid (TC T c1 c2 cf m1 m2 nf A1 A2 A3 pao w7 ∧ T ≠ []) := ⟨H10.out.tc, hne⟩
      have HP : Hid (∀ _ : Unit, Calls Tryd.prog 49 #[.agg #[.pointer (some ⟨b, 0, none⟩)], .slice ao N cp, .agg #[.slice (some ⟨A1, 0, none⟩) m1 288, .slice (some ⟨A2, 0, none⟩) m2 30, .slice pao NP pc, .slice (some ⟨A3, 0, none⟩) 19 19, .int .i64 (nf : Nat)], .bool last] w7 fun e w' => e = .returned (.tuple #[]) ∧ PW w' b (toldB L (lrow c1 m1) (lrow c2 m2) (lrow cf 19) nf (bothP c1 c2 m1 m2) T last) ∧ PF b w7 w') := fun _ => by
        rw [← HH.out.2.2.2.2.2.1, ← HNP.out]
        exact ptold b L T ao pao cp pc c1 c2 cf m1 m2 nf A1 A2 A3 last w7 H10.out.tok (by have := HH.out.2.1; omega) HH.out.1 hne H10.out.tc H10.out.ord HH.out.2.2.2.1 (by have := HH.out.2.2.2.2.1; omega) H10.out.pw
      have hBn : ¬ ff ≤ tt := by omega
      have hBn2 : decide (ff ≤ tt) = false := by simp only [decide_eq_false_iff_not]; exact hBn
      clear hne
      go_wp2_with fail
      refine (HP.out ()).mono ?_
      rintro e w8 ⟨he, hw8, hf8⟩
      subst he
      have H11 : Hid (PW w8 b (toldB L (lrow c1 m1) (lrow c2 m2) (lrow cf 19) nf (bothP c1 c2 m1 m2) T last) ∧ PF b w w8) := ⟨hw8, HPF.out.trans hf8⟩
      clear hw8 hf8 z0 y0 y1 y2 y3 y4
      go_wp2
      go_end0
      have hk := HTC.out.1.tc HTC.out.2
      refine ⟨rfl, ⟨_, .inr (.inr ⟨_, _, _, _, _, hk, HTC.out.1.has.1, HTC.out.1.has.2, ?_, rfl⟩), H11.out.1⟩, H11.out.2⟩
      have hl := pieBits_length (ns := lrow cf 19) (P := bothP c1 c2 m1 m2) (fun q hq => ⟨hk.cod q hq, (HTC.out.1.small q hq).2⟩)
      have hl2 := HTC.out.1.len
      omega
end Go.Proofs.YtlbadjfcffoakaaDoor
namespace Go.Proofs.YtlbadjfcffoakaaDoor
open Go.RowKit
set_option linter.unusedVariables false
set_option maxRecDepth 20000

theorem bytesL_left (s : ByteArray) (n : Nat) : bytesL (s.extract 0 n) = (bytesL s).take n := by
  unfold bytesL
  rw [← List.map_take]
  congr 1
  simp [ByteArray.data_extract]
theorem bytesL_right (s : ByteArray) (n : Nat) : bytesL (s.extract n s.size) = (bytesL s).drop n := by
  unfold bytesL
  rw [← List.map_drop]
  congr 1
  simp only [ByteArray.data_extract, Array.toList_extract]
  rw [List.extract_eq_take_drop]
  exact List.take_of_length_le (by simp)
theorem Tells.split {s : ByteArray} : ∀ {A B : List (Nat × Nat × Nat)} {k k' : Nat}, Tells s k (A ++ B) k' → ∃ m, Tells s k A m ∧ Tells s m B k'
  | [], B, k, k', h => ⟨k, rfl, h⟩
  | t :: A, B, k, k', h => by
    rcases h with ⟨h1, h2, h3⟩ | ⟨n, d, h1, h2, h3⟩
    · obtain ⟨m, a, b⟩ := Tells.split (A := A) h3
      exact ⟨m, .inl ⟨h1, h2, a⟩, b⟩
    · obtain ⟨m, a, b⟩ := Tells.split (A := A) h3
      exact ⟨m, .inr ⟨n, d, h1, h2, a⟩, b⟩
theorem TokR.take {w : World} {ao : Option Addr} {T : List (Nat × Nat × Nat)} (h : TokR w ao T) (n : Nat) : TokR w ao (T.take n) := by
  rcases h with h | ⟨g, off, cur, m, h1, h2, h3⟩
  · left; rw [h]; simp
  · refine .inr ⟨g, off, cur, m, h1, h2, fun i t hi j hj => h3 i t ?_ j hj⟩
    rw [List.getElem?_take] at hi
    split at hi
    · exact hi
    · cases hi
theorem TokR.drop {w : World} {g off : Nat} {T : List (Nat × Nat × Nat)} (h : TokR w (some ⟨g, off, none⟩) T) (n : Nat) : TokR w (some ⟨g, off + n * 3, none⟩) (T.drop n) := by
  rcases h with h | ⟨g', off', cur, m, h1, h2, h3⟩
  · left; rw [h]; simp
  · cases h1
    refine .inr ⟨g, off + n * 3, cur, m, rfl, h2, fun i t hi j hj => ?_⟩
    rw [List.getElem?_drop] at hi
    have := h3 (n + i) t hi j hj
    rw [show off + n * 3 + i * 3 + j = off + (n + i) * 3 + j by omega]
    exact this
theorem TokR.some {w : World} {ao : Option Addr} {T : List (Nat × Nat × Nat)} (h : TokR w ao T) (hn : T ≠ []) : ∃ g off, ao = some ⟨g, off, none⟩ := by
  rcases h with h | ⟨g, off, cur, m, h1, h2, h3⟩
  · exact absurd h hn
  · exact ⟨g, off, h1⟩
theorem BestB.blk {L L' : List Nat} {s A : ByteArray} {T : List (Nat × Nat × Nat)} {last : Bool} {k k' : Nat} (h : BestB L A T last L') (ht : Tells s k T k') (hk : k ≤ s.size) (hA : (bytesL s).take k ++ bytesL A = (bytesL s).take k') : Blk L L' ((bytesL s).take k) ((bytesL s).take k') (lastB last) := by
  rcases h with ⟨h1, rfl⟩ | rfl | ⟨c, d, first, nf, P, h1, h2, h3, _, rfl⟩
  · rw [← hA]; exact stored_blk h1
  · exact fixed_blk ht hk
  · exact told_blk h1 h2 ht hk h3
theorem BestB.length {L L' : List Nat} {A : ByteArray} {T : List (Nat × Nat × Nat)} {last : Bool} (h : BestB L A T last L') (hf : ∀ t ∈ T, Fine t) (hl : T.length ≤ 16384) : L'.length ≤ L.length + 1000000 := by
  rcases h with ⟨h1, rfl⟩ | rfl | ⟨c, d, first, nf, P, h1, h2, h3, h4, rfl⟩
  · have := storedB_length L A last; omega
  · have := fixedB_length (L := L) (last := last) hf; omega
  · unfold toldB
    have h5 := tokBits_length (c := c) (d := d) hf h3
    have h6 := h2.2.2.1
    have h7 := h1.nf4
    simp only [List.length_append, headB_length, bitsOf_length, fstB_length, symB_length]
    omega
theorem storedB_01 {w : World} {b : Nat} {L : List Nat} (h : PW w b L) : Bits01 L := by
  obtain ⟨v, _, _, h1, _⟩ := h
  exact h1
def PA (w0 : World) (b U : Nat) (s : ByteArray) (ao : Option Addr) (T : List (Nat × Nat × Nat)) (S : ByteArray) (w : World) : Prop :=
  ∃ L k m, BW w0 b U L w ∧ TokR w ao T ∧ OrdAt w ∧ Rd L ((bytesL s).take k) ∧ Tells s k T s.size ∧ k ≤ s.size ∧ bytesL S = (bytesL s).drop k ∧ 16384 * m + T.length ≤ 1048576 ∧ L.length ≤ 1000000 * m
def sliLen : Value → Nat
  | .slice _ n _ => n
  | _ => 0
theorem PA.size {w0 : World} {b U : Nat} {s : ByteArray} {ao : Option Addr} {T : List (Nat × Nat × Nat)} {S : ByteArray} {w : World} (h : PA w0 b U s ao T S w) : S.size ≤ s.size := by
  obtain ⟨L, k, m, _, _, _, _, _, _, h7, _⟩ := h
  have := congrArg List.length h7
  rw [bytesL_length, List.length_drop, bytesL_length] at this
  omega
theorem PA.quiet {w0 : World} {b U : Nat} {s : ByteArray} {ao : Option Addr} {T : List (Nat × Nat × Nat)} {S : ByteArray} {w w' : World} (h : PA w0 b U s ao T S w) (hb : Below w.heap.size w w') : PA w0 b U s ao T S w' := by
  obtain ⟨L, k, m, h1, h2, h3, h4⟩ := h
  exact ⟨L, k, m, h1.step (WS.below h1.pw hb) (PF.below hb), h2.below hb, h3.below hb, h4⟩
theorem PA.box {w0 : World} {b U : Nat} {s : ByteArray} {ao : Option Addr} {T : List (Nat × Nat × Nat)} {S : ByteArray} {w : World} (h : PA w0 b U s ao T S w) : w.cell? ⟨U, 0, none⟩ = Option.some (.pointer (Option.some ⟨b, 0, none⟩)) := by
  obtain ⟨L, k, m, h1, _⟩ := h
  exact box_cell h1.box
theorem PA.part {w0 : World} {b U : Nat} {s : ByteArray} {g off cp : Nat} {T : List (Nat × Nat × Nat)} {S : ByteArray} {w : World} (h : PA w0 b U s (Option.some ⟨g, off, none⟩) T S w) (h0 : 0 < b) (hs : s.size ≤ 1048576) (hn : 16384 < T.length) :
    plainN (T.take 16384) ≤ S.size ∧ 1 ≤ plainN (T.take 16384) ∧ Calls Tryd.prog 27 #[pkV b, .string (S.extract 0 (plainN (T.take 16384))), .slice (Option.some ⟨g, off, none⟩) 16384 cp, .bool false] w fun e w' => e = .returned (.tuple #[]) ∧ PA w0 b U s (Option.some ⟨g, off + 16384 * 3, none⟩) (T.drop 16384) (S.extract (plainN (T.take 16384)) S.size) w' := by
  obtain ⟨L, k, m, h1, h2, h3, h4, h5, h6, h7, h8, h9⟩ := h
  have h5' := h5
  rw [← List.take_append_drop 16384 T] at h5'
  obtain ⟨k', hA, hB⟩ := h5'.split
  have hpl := hA.plain
  have hle := hA.le.2 h6
  have hk' := hB.le.2 hle
  have hlen : (T.take 16384).length = 16384 := by rw [List.length_take]; omega
  have hcnt := tells_length hA
  have hSs : S.size = s.size - k := by
    have := congrArg List.length h7
    rw [bytesL_length, List.length_drop, bytesL_length] at this
    exact this
  obtain ⟨n, hn'⟩ : ∃ n, plainN (T.take 16384) = n := ⟨_, rfl⟩
  rw [hn'] at hpl ⊢
  have hfin : ∀ t ∈ T.take 16384, Fine t := hA.fine
  refine ⟨by omega, by omega, ?_⟩
  have hb := pbest b L (S.extract 0 n) (T.take 16384) (Option.some ⟨g, off, none⟩) cp false w (h2.take _) (by omega) hfin (by rw [(ext_left (s := S) (n := n) (by omega)).1]; omega) h3 h0 (by omega) h1.pw
  rw [hlen] at hb
  refine hb.mono ?_
  rintro e w' ⟨he, ⟨L', hL', hw'⟩, hf⟩
  refine ⟨he, L', k', m + 1, h1.step hw' hf, (h2.kept hf h1.pw).drop _, h3.low (hf.lower (Nat.le_of_lt h1.pw.lt)) h0, ?_, hB, hle, ?_, ?_, ?_⟩
  · have hblk := hL'.blk (s := s) (k := k) (k' := k') hA h6 (by
      rw [bytesL_left, h7, ← hpl, List.take_add])
    exact h4.step hblk (by rw [List.length_take, List.length_take]; omega)
  · rw [bytesL_right, h7, List.drop_drop, hpl]
  · rw [List.length_drop]; omega
  · have := hL'.length hfin (by omega); omega
theorem PA.last {w0 : World} {b U : Nat} {s : ByteArray} {ao : Option Addr} {cp : Nat} {T : List (Nat × Nat × Nat)} {S : ByteArray} {w : World} (h : PA w0 b U s ao T S w) (h0 : 0 < b) (hs : s.size ≤ 1048576) (hn : ¬ 16384 < T.length) :
    Calls Tryd.prog 27 #[pkV b, .string S, .slice ao T.length cp, .bool true] w fun e w' => e = .returned (.tuple #[]) ∧ ∃ Z, BW w0 b U Z w' ∧ ∀ most, s.size ≤ most → infF (toBA (pack Z)) most = (0, Z.length, bytesL s) := by
  have hsz := h.size
  obtain ⟨L, k, m, h1, h2, h3, h4, h5, h6, h7, h8, h9⟩ := h
  have hb := pbest b L S T ao cp true w h2 (by omega) h5.fine (by omega) h3 h0 (by omega) h1.pw
  refine hb.mono ?_
  rintro e w' ⟨he, ⟨L', hL', hw'⟩, hf⟩
  refine ⟨he, L', h1.step hw' hf, fun most hm => ?_⟩
  have hall : (bytesL s).take s.size = bytesL s := by rw [← bytesL_length s, List.take_length]
  have hblk := hL'.blk (s := s) (k := k) (k' := s.size) h5 h6 (by rw [h7, List.take_append_drop, hall])
  rw [hall] at hblk
  exact h4.fin hblk (by rw [List.length_take]; omega) (storedB_01 hw') (by rw [bytesL_length]; exact hm)
end Go.Proofs.YtlbadjfcffoakaaDoor
