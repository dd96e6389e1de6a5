/- The document's Symbol: the mathematics of bits that are taken one by one. -/
/- The document's Symbol: the walk. -/
/- The document's reader: its state; bits, ends, symbol. -/
/- The document's reader: ends, symbol, none. -/
/- The document's reader: none; one byte more. -/
import Derived.Test.YtchjnfckcfikkaaDoorUe
import Derived.Test.YtchjnfckcfikkaaDoorOa
import Derived.Test.YtchjnfckcfikkaaDoorVZ
namespace Go.Proofs.YtchjnfckcfikkaaDoor
open Go.RowKit
set_option linter.unusedVariables false

theorem ew_endW (ns : List Nat) (l : Nat) (h : 1 ≤ l) : ew ns l = endW ns l := by
  obtain ⟨k, rfl⟩ : ∃ k, l = k + 1 := ⟨l - 1, by omega⟩
  rw [ew_succ]
  unfold endW
  rw [fstW_ew ns (k + 1) (by omega)]
  simp only [Nat.add_sub_cancel]
  omega
theorem cw_code (ns : List Nat) (i : Nat) (h : 1 ≤ ns.getD i 0) : cw ns i = codeW ns i := by unfold cw; rw [if_neg (by omega)]
/-- Ends of words, each length's, in parts of 2^15. -/
theorem ew_grows (ns : List Nat) (m : Nat) (h : m ≤ 15) : ew ns m * 2 ^ (15 - m) ≤ ew ns 15 := by
  have key : ∀ d, m + d ≤ 15 → ew ns m * 2 ^ d ≤ ew ns (m + d) := by
    intro d
    induction d with
    | zero => intro _; simp
    | succ d ih =>
      intro hd
      have h1 := ih (by omega)
      rw [show m + (d + 1) = (m + d) + 1 by omega, ew_succ, Nat.pow_succ, ← Nat.mul_assoc]
      omega
  have := key (15 - m) (by omega)
  rw [show m + (15 - m) = 15 by omega] at this
  exact this
/-- A symbol whose word is just what was taken. -/
theorem hit_iff (ns : List Nat) (l x : Nat) (hl : 1 ≤ l) (hx : 2 * ew ns (l - 1) ≤ x) : (∃ i, i < ns.length ∧ ns.getD i 0 = l ∧ cw ns i = x) ↔ x < ew ns l := by
  constructor
  · rintro ⟨i, hi, h1, h2⟩
    rw [cw_code ns i (by omega)] at h2
    have := codeW_end ns i hi
    rw [h1, ← ew_endW ns l hl] at this
    omega
  · intro h
    obtain ⟨h1, h2, h3⟩ := symW_ok ns l x (by omega) (by rw [fstW_ew ns l hl]; exact hx) (by rw [← ew_endW ns l hl]; exact h)
    exact ⟨symW ns l x, h1, h2, by rw [cw_code ns _ (by omega)]; exact h3⟩
theorem hit_sym (ns : List Nat) (l x i : Nat) (hl : 1 ≤ l) (hx : 2 * ew ns (l - 1) ≤ x) (hi : i < ns.length) (h1 : ns.getD i 0 = l) (h2 : cw ns i = x) : i = symW ns l x := by
  have h := (hit_iff ns l x hl hx).1 ⟨i, hi, h1, h2⟩
  obtain ⟨e1, e2, e3⟩ := symW_ok ns l x (by omega) (by rw [fstW_ew ns l hl]; exact hx) (by rw [← ew_endW ns l hl]; exact h)
  rw [cw_code ns i (by omega)] at h2
  exact codeW_inj ns i _ hi e1 (by rw [h1, e2]) (by rw [h2, e3])
/-- A symbol whose word begins with what was taken. -/
def Beg (ns : List Nat) (l x i : Nat) : Prop := l < ns.getD i 0 ∧ cw ns i / 2 ^ (ns.getD i 0 - l) = x
theorem least_from {P : Nat → Prop} (a : Nat) : ∀ n, P (a + n) → ¬ P a → ∃ m, a < m ∧ m ≤ a + n ∧ P m ∧ ¬ P (m - 1)
  | 0, h, hn => absurd h hn
  | n + 1, h, hn => by
    by_cases h1 : P (a + n)
    · obtain ⟨m, h2, h3, h4, h5⟩ := least_from a n h1 hn
      exact ⟨m, h2, by omega, h4, h5⟩
    · exact ⟨a + (n + 1), by omega, Nat.le_refl _, h, by rw [show a + (n + 1) - 1 = a + n by omega]; exact h1⟩
theorem beg_iff (ns : List Nat) (l x : Nat) (hl : l ≤ 15) (h15 : ∀ i, ns.getD i 0 ≤ 15) (hx : ew ns l ≤ x) : (∃ i, i < ns.length ∧ Beg ns l x i) ↔ x * 2 ^ (15 - l) < ew ns 15 := by
  constructor
  · rintro ⟨i, hi, h1, h2⟩
    have hm := h15 i
    obtain ⟨m, hmm⟩ : ∃ m, ns.getD i 0 = m := ⟨_, rfl⟩
    rw [hmm] at h1 h2 hm
    rw [cw_code ns i (by rw [hmm]; omega)] at h2
    have hc := codeW_end ns i hi
    rw [hmm, ← ew_endW ns m (by omega)] at hc
    have h3 : x * 2 ^ (m - l) ≤ codeW ns i := by rw [← h2]; exact Nat.div_mul_le_self _ _
    have h4 := ew_grows ns m hm
    have h5 : x * 2 ^ (15 - l) = x * 2 ^ (m - l) * 2 ^ (15 - m) := by rw [Nat.mul_assoc, ← Nat.pow_add]; congr 2; omega
    rw [h5]
    have hpos : 0 < 2 ^ (15 - m) := Nat.pos_of_ne_zero (by simp)
    have h6 : x * 2 ^ (m - l) * 2 ^ (15 - m) < ew ns m * 2 ^ (15 - m) := Nat.mul_lt_mul_of_pos_right (by omega) hpos
    omega
  · intro h
    obtain ⟨m, h1, h2, h3, h4⟩ := least_from (P := fun m => x * 2 ^ (m - l) < ew ns m) l (15 - l) (by rw [show l + (15 - l) = 15 by omega]; exact h) (by rw [Nat.sub_self]; simp; exact hx)
    have h4' : ew ns (m - 1) ≤ x * 2 ^ (m - 1 - l) := by simpa using h4
    have h5 : x * 2 ^ (m - l) = 2 * (x * 2 ^ (m - 1 - l)) := by
      rw [show m - l = (m - 1 - l) + 1 by omega, Nat.pow_succ, ← Nat.mul_assoc]
      omega
    obtain ⟨i, hi, e1, e2⟩ := (hit_iff ns m (x * 2 ^ (m - l)) (by omega) (by omega)).2 h3
    exact ⟨i, hi, by rw [e1]; exact h1, by rw [e1, e2]; exact Nat.mul_div_cancel _ (Nat.pos_of_ne_zero (by simp))⟩
/-- What the document's Symbol tells: l bits were taken: x; k lengths are left. -/
def rsS (ns : List Nat) (s : ByteArray) (p : Nat) : Nat → Nat → Nat → Nat × Nat × Nat
  | 0, l, x => (0, 0, 30)
  | k + 1, l, x => if 8 * s.size ≤ p + l then (0, 0, 5)
      else if 2 * x + bitAt s (p + l) < ew ns (l + 1) then (symW ns (l + 1) (2 * x + bitAt s (p + l)), p + (l + 1), 0)
      else if ew ns 15 ≤ (2 * x + bitAt s (p + l)) * 2 ^ (15 - (l + 1)) then (0, 0, 30)
      else rsS ns s p k (l + 1) (2 * x + bitAt s (p + l))
/-- It is what the table tells, where there are words. -/
def asRef (p : Nat) (r : Nat × Nat × Nat) : Nat × Nat × Nat := if r.2.2 = 0 then (r.1, p + r.2.1, 0) else (0, 0, r.2.2)
theorem rsS_rd (ns : List Nat) (s : ByteArray) (p : Nat) : ∀ (k l x : Nat), ew ns l ≤ x → x * 2 ^ (15 - l) < ew ns 15 → l + k = 15 → rsS ns s p k l x = asRef p (rdS ns s p (k + 1) l x)
  | 0, l, x, h1, h2, h3 => by
    have : l = 15 := by omega
    subst this
    simp at h2
    omega
  | k + 1, l, x, h1, h2, h3 => by
    simp only [rsS]
    rw [show rdS ns s p (k + 1 + 1) l x = if x < ew ns l then (symW ns l x, l, 0) else if ew ns 15 ≤ x * 2 ^ (15 - l) then (0, l, 30) else if 8 * s.size ≤ p + l then (0, l, 5) else rdS ns s p (k + 1) (l + 1) (2 * x + bitAt s (p + l)) from rfl]
    rw [if_neg (show ¬ x < ew ns l by omega), if_neg (show ¬ ew ns 15 ≤ x * 2 ^ (15 - l) by omega)]
    by_cases a1 : 8 * s.size ≤ p + l
    · rw [if_pos a1, if_pos a1]; rfl
    · rw [if_neg a1, if_neg a1]
      obtain ⟨y, hy⟩ : ∃ y, 2 * x + bitAt s (p + l) = y := ⟨_, rfl⟩
      rw [hy]
      rw [show rdS ns s p (k + 1) (l + 1) y = if y < ew ns (l + 1) then (symW ns (l + 1) y, l + 1, 0) else if ew ns 15 ≤ y * 2 ^ (15 - (l + 1)) then (0, l + 1, 30) else if 8 * s.size ≤ p + (l + 1) then (0, l + 1, 5) else rdS ns s p k (l + 1 + 1) (2 * y + bitAt s (p + (l + 1))) from rfl]
      by_cases a2 : y < ew ns (l + 1)
      · rw [if_pos a2, if_pos a2]; rfl
      · rw [if_neg a2, if_neg a2]
        by_cases a3 : ew ns 15 ≤ y * 2 ^ (15 - (l + 1))
        · rw [if_pos a3, if_pos a3]; rfl
        · rw [if_neg a3, if_neg a3]
          have ih := rsS_rd ns s p k (l + 1) y (by omega) (by omega) (by omega)
          rw [ih]
          rw [show rdS ns s p (k + 1) (l + 1) y = if y < ew ns (l + 1) then (symW ns (l + 1) y, l + 1, 0) else if ew ns 15 ≤ y * 2 ^ (15 - (l + 1)) then (0, l + 1, 30) else if 8 * s.size ≤ p + (l + 1) then (0, l + 1, 5) else rdS ns s p k (l + 1 + 1) (2 * y + bitAt s (p + (l + 1))) from rfl]
          rw [if_neg a2, if_neg a3]
theorem rs_rd (ns : List Nat) (s : ByteArray) (p : Nat) (h : 0 < ew ns 15) : rsS ns s p 15 0 0 = asRef p (rd ns s p) := by
  unfold rd
  exact rsS_rd ns s p 15 0 0 (Nat.le_refl _) (by simp; exact h) rfl
end Go.Proofs.YtchjnfckcfikkaaDoor
namespace Go.Proofs.YtchjnfckcfikkaaDoor
open Go.RowKit
set_option linter.unusedVariables false

/-- Numbers as ints. -/
def inN (ns : List Nat) : List Int := ns.map fun (n : Nat) => (n : Int)
theorem inN_length (ns : List Nat) : (inN ns).length = ns.length := by simp [inN]
theorem inN_get (ns : List Nat) (i : Nat) : (inN ns).getD i 0 = ((ns.getD i 0 : Nat) : Int) := by
  unfold inN
  rw [List.getD_eq_getElem?_getD, List.getD_eq_getElem?_getD, List.getElem?_map]
  cases ns[i]? <;> rfl
def cwL (ns : List Nat) : List Nat := (List.range ns.length).map (cw ns)
theorem cwL_length (ns : List Nat) : (cwL ns).length = ns.length := by simp [cwL]
theorem cwL_get (ns : List Nat) (i : Nat) (h : i < ns.length) : (cwL ns).getD i 0 = cw ns i := by
  unfold cwL
  rw [List.getD_eq_getElem?_getD, List.getElem?_map, List.getElem?_range h]
  rfl
/-- Does one of the first j words begin with x, l bits long? -/
def begB (ns : List Nat) (l x : Nat) : Nat → Bool
  | 0 => false
  | j + 1 => begB ns l x j || (decide (l < ns.getD j 0) && decide (cw ns j / 2 ^ (ns.getD j 0 - l) = x))
theorem begB_iff (ns : List Nat) (l x : Nat) : ∀ j, begB ns l x j = true ↔ ∃ i, i < j ∧ Beg ns l x i
  | 0 => by simp [begB]
  | j + 1 => by
    simp only [begB, Bool.or_eq_true, Bool.and_eq_true, decide_eq_true_eq, begB_iff ns l x j]
    constructor
    · rintro (⟨i, hi, hb⟩ | hb)
      · exact ⟨i, by omega, hb⟩
      · exact ⟨j, by omega, hb⟩
    · rintro ⟨i, hi, hb⟩
      by_cases e : i = j
      · subst e; exact Or.inr hb
      · exact Or.inl ⟨i, by omega, hb⟩
theorem below_dr' {B : Nat} {w w' : World} (h : Below B w w') (k : Nat) : Below B w (w'.drewN k) := ⟨h.os, h.tape, h.output, h.size, h.block⟩
/-- What Symbol answers. -/
def symV (r : Nat × Nat × Nat) : Value := .tuple #[.int .i64 (r.1 : Nat), .int .i64 (r.2.1 : Nat), .int .i64 (r.2.2 : Nat)]
set_option maxRecDepth 20000 in
set_option maxHeartbeats 4000000 in
theorem rsym_ok (ns : List Nat) (N : Nat) (a c : Option Addr) (ca cc : Nat) (s : ByteArray) (p : Nat) (w : World) (hN : ns.length = N) (hN2 : N ≤ 288) (h15 : ∀ i, ns.getD i 0 ≤ 15) (hcb : ∀ i, i < ns.length → cw ns i ≤ 32768)
    (ha : IRow w a (inN ns)) (hc : IRow w c (inN (cwL ns))) (hp : p ≤ 8 * s.size) (hs : s.size ≤ 281474976710656) :
    Calls Tryd.prog 48 #[.slice a N ca, .slice c N cc, .string s, .int .i64 p] w fun e w' => e = .returned (symV (rsS ns s p 15 0 0)) ∧ Below w.heap.size w w' := by
  have HA : Hid (IRow w a (inN ns)) := ha
  have HC : Hid (IRow w c (inN (cwL ns))) := hc
  have HN : Hid (ns.length = N) := hN
  have HCB : Hid (∀ i, i < ns.length → cw ns i ≤ 32768) := hcb
  have H15 : Hid (∀ i, ns.getD i 0 ≤ 15) := h15
  obtain ⟨res, hres⟩ : ∃ res, rsS ns s p 15 0 0 = res := ⟨_, rfl⟩
  rw [hres]
  have HR0 : Hid (rsS ns s p 15 0 0 = res) := hres
  obtain ⟨rv, hrv⟩ : ∃ rv, symV res = rv := ⟨_, rfl⟩
  rw [hrv]
  have HRV : Hid (symV res = rv) := hrv
  clear ha hc hN h15 hcb hres hrv
  go_enter Tryd.func48, Tryd.ntmps48
  go_wp2
  go_loopw [11, 12] (fun xv lv wr => ∃ (x l L k : Nat), xv = .int .i64 (x : Nat) ∧ lv = .int .i64 (L : Nat) ∧ l + 1 = L ∧ l + k = 15 ∧ x < 2 ^ l ∧ ew ns l ≤ x ∧ rsS ns s p k l x = res ∧ p + l ≤ 8 * s.size ∧ Below w.heap.size w wr) (fun _ lv _ => 17 - (intOf lv).toNat)
  case atStart => exact ⟨0, 0, 1, 15, rfl, rfl, rfl, rfl, by simp, Nat.le_refl _, HR0.out, by omega, Below.refl _ _⟩
  case round =>
    obtain ⟨x, l, L, k, rfl, rfl, hL, hlk, hx2, hxe, hr, hpl, hbel⟩ := hrel
    have HBE : Hid (Below w.heap.size w wr) := hbel
    have hsw := hbel.size
    cases k with
    | zero =>
      have hl : L = 16 := by omega
      subst hl
      have HE : Hid (res = (0, 0, 30)) := hr.symm
      clear hr hxe hx2 hbel
      go_wp2
      go_ret3
      exact ⟨by rw [← HRV.out, HE.out]; rfl, HBE.out⟩
    | succ k =>
      have hli : (L : Int) ≤ 15 := by omega
      have hl15 : L ≤ 15 := by omega
      have hx15 : x < 32768 := Nat.lt_of_lt_of_le hx2 (Nat.pow_le_pow_right (by decide) (show l ≤ 15 by omega))
      obtain ⟨at_, hat⟩ : ∃ at_, p + l = at_ := ⟨_, rfl⟩
      have hati : (p : Int) + (L : Int) - 1 = (at_ : Nat) := by omega
      by_cases hsh : 8 * s.size ≤ p + l
      · have HB1 : Hid (∀ W, Calls Tryd.prog 33 #[.string s, .int .i64 (at_ : Nat), .int .i64 1] W fun e w' => e = .returned (.tuple #[.int .i64 0, .bool false]) ∧ w' = W) := fun W => refBits_short s at_ 1 W (by omega) (by omega) (by omega) hs
        have HE : Hid (res = (0, 0, 5)) := by
          show res = _
          rw [← hr]; simp only [rsS]; rw [if_pos hsh]
        clear hr hxe hx2 hbel
        go_wp2_with (go_at_call 33; refine (HB1.out _).mono ?_; rintro e w1 ⟨rfl, hw⟩; obtain rfl := hw.symm)
        go_ret3
        exact ⟨by rw [← HRV.out, HE.out]; rfl, HBE.out⟩
      · obtain ⟨bt, hbt⟩ : ∃ bt, bitAt s at_ = bt := ⟨_, rfl⟩
        have hb2 : bt < 2 := by rw [← hbt]; exact bitAt_lt _ _
        have HB1 : Hid (∀ W, Calls Tryd.prog 33 #[.string s, .int .i64 (at_ : Nat), .int .i64 1] W fun e w' => e = .returned (.tuple #[.int .i64 (bt : Nat), .bool true]) ∧ w' = W) := fun W => by
          have h := refBits s at_ 1 W (by omega) (by omega) hs
          rw [show num s at_ 1 = bt by simp [num, hbt]] at h
          exact h
        obtain ⟨y, hy⟩ : ∃ y, 2 * x + bt = y := ⟨_, rfl⟩
        have hyi : 2 * (x : Int) + (bt : Int) = (y : Nat) := by omega
        have hr2 : rsS ns s p (k + 1) l x = if y < ew ns L then (symW ns L y, p + L, 0) else if ew ns 15 ≤ y * 2 ^ (15 - L) then (0, 0, 30) else rsS ns s p k L y := by
          simp only [rsS]
          rw [if_neg hsh, hat, hbt, hy, hL]
        rw [hr] at hr2
        have hxy : 2 * ew ns (L - 1) ≤ y := by rw [← hL, Nat.add_sub_cancel]; omega
        have hy2 : y < 2 ^ L := by rw [← hL, Nat.pow_succ]; omega
        have HR2 : Hid (res = if y < ew ns L then (symW ns L y, p + L, 0) else if ew ns 15 ≤ y * 2 ^ (15 - L) then (0, 0, 30) else rsS ns s p k L y) := hr2
        have HXY : Hid (2 * ew ns (L - 1) ≤ y ∧ y < 2 ^ L) := ⟨hxy, hy2⟩
        have hy15 : y < 65536 := Nat.lt_of_lt_of_le hy2 (Nat.pow_le_pow_right (by decide) (show L ≤ 16 by omega))
        clear hr2 hr hxe hx2 hbel hbt hxy hy2 hy
        go_wp2_with (go_at_call 33; refine (HB1.out _).mono ?_; rintro e w1 ⟨rfl, hw⟩; obtain rfl := hw.symm)
        go_loopw [15, 16] (fun bv iv wq => ∃ (j : Nat), iv = .int .i64 (j : Nat) ∧ bv = .bool (begB ns L y j) ∧ j ≤ N ∧ (∀ i, i < j → ¬ (ns.getD i 0 = L ∧ cw ns i = y)) ∧ Below w.heap.size w wq) (fun _ iv _ => N - (intOf iv).toNat)
        case atStart => exact ⟨0, rfl, rfl, by omega, fun i hi => by omega, HBE.out⟩
        case round =>
          obtain ⟨j, rfl, rfl, hj, hno, hbq⟩ := hrel
          have HBQ : Hid (Below w.heap.size w wr) := hbq
          have HNO : Hid (∀ i, i < j → ¬ (ns.getD i 0 = L ∧ cw ns i = y)) := hno
          by_cases hlt : j < N
          · have hlti : (j : Int) < (N : Int) := by omega
            obtain ⟨b1, o1, rfl, c1, _⟩ := (HA.out.below hbq).at (show j < (inN ns).length by rw [inN_length, HN.out]; exact hlt)
            obtain ⟨b2, o2, rfl, c2, _⟩ := (HC.out.below hbq).at (show j < (inN (cwL ns)).length by rw [inN_length, cwL_length, HN.out]; exact hlt)
            rw [inN_get] at c1
            rw [inN_get, cwL_get ns j (by rw [HN.out]; exact hlt)] at c2
            have ha15 := H15.out j
            have hcb : cw ns j ≤ 32768 := HCB.out j (by rw [HN.out]; exact hlt)
            have HBN : Hid (begB ns L y (j + 1) = (begB ns L y j || (decide (L < ns.getD j 0) && decide (cw ns j / 2 ^ (ns.getD j 0 - L) = y)))) := rfl
            obtain ⟨A, hA⟩ : ∃ A, ns.getD j 0 = A := ⟨_, rfl⟩
            obtain ⟨C, hC⟩ : ∃ C, cw ns j = C := ⟨_, rfl⟩
            obtain ⟨bv, hbv⟩ : ∃ bv, begB ns L y j = bv := ⟨_, rfl⟩
            have HAC : Hid (ns.getD j 0 = A ∧ cw ns j = C) := ⟨hA, hC⟩
            rw [hA, hC, hbv] at HBN
            rw [hA] at c1 ha15
            rw [hC] at c2 hcb
            rw [hbv]
            clear hA hC hno hbq
            have HEND : ∀ (T : Bool), ((begB ns L y (j + 1)) = T) → ¬ (A = L ∧ C = y) → Hid (.bool T = Value.bool (begB ns L y (j + 1)) ∧ (∀ i, i < j + 1 → ¬ (ns.getD i 0 = L ∧ cw ns i = y))) := by
              intro T hT hn
              refine ⟨by rw [hT], fun i hi => ?_⟩
              by_cases e : i = j
              · subst e; rw [HAC.out.1, HAC.out.2]; exact hn
              · exact HNO.out i (by omega)
            by_cases hAL : A = L
            · subst hAL
              by_cases hCy : C = y
              · subst hCy
                have HE : Hid (res = (j, p + A, 0)) := by
                  show res = _
                  have h1 := (hit_iff ns A C (by omega) HXY.out.1).1 ⟨j, by rw [HN.out]; exact hlt, HAC.out⟩
                  rw [HR2.out, if_pos h1, ← hit_sym ns A C j (by omega) HXY.out.1 (by rw [HN.out]; exact hlt) HAC.out.1 HAC.out.2]
                clear HEND
                go_wp2
                go_ret3
                exact ⟨by rw [← HRV.out, HE.out]; simp [symV], HBQ.out⟩
              · have hCb : ((C : Int) == (y : Int)) = false := by simp; omega
                have hCi : ¬ (C : Int) = (y : Int) := by omega
                have hself : ¬ (A : Int) < (A : Int) := by omega
                cases bv with
                | true =>
                  have H2 := HEND true (by rw [HBN.out]; simp) (fun h => hCy h.2)
                  clear HEND
                  go_wp2_with fail
                  go_region
                  all_goals
                    go_wp2
                    exact ⟨⟨j + 1, by go_num, H2.out.1, by omega, H2.out.2, below_dr' HBQ.out 1⟩, by simp [intOf]; omega⟩
                | false =>
                  have H2 := HEND false (by rw [HBN.out]; simp; try omega) (fun h => hCy h.2)
                  clear HEND
                  go_wp2_with fail
                  go_region
                  all_goals
                    go_wp2
                    exact ⟨⟨j + 1, by go_num, H2.out.1, by omega, H2.out.2, below_dr' HBQ.out 1⟩, by simp [intOf]; omega⟩
            · have hALi : ¬ (A : Int) = (L : Int) := by omega
              have hALb : ((A : Int) == (L : Int)) = false := by simp; omega
              by_cases hgt : L < A
              · have hgti : (L : Int) < (A : Int) := by omega
                obtain ⟨d, hd⟩ : ∃ d, A - L = d := ⟨_, rfl⟩
                have hdi : (A : Int) - (L : Int) = (d : Nat) := by omega
                have hd15 : d ≤ 15 := by omega
                obtain ⟨q, hq⟩ : ∃ q, C / 2 ^ d = q := ⟨_, rfl⟩
                have hqi : (C : Int) / 2 ^ d = (q : Nat) := by rw [← hq]; simp
                have hq15 : q ≤ 32768 := by rw [← hq]; exact Nat.le_trans (Nat.div_le_self _ _) hcb
                rw [hd, hq, decide_eq_true hgt] at HBN
                clear hd hq
                by_cases hqy : q = y
                · subst hqy
                  cases bv with
                  | true =>
                    have H2 := HEND true (by rw [HBN.out]; simp) (fun h => hAL h.1)
                    clear HEND
                    go_wp2_with fail
                    go_region
                    all_goals
                      go_wp2
                      exact ⟨⟨j + 1, by go_num, H2.out.1, by omega, H2.out.2, below_dr' HBQ.out 1⟩, by simp [intOf]; omega⟩
                  | false =>
                    have H2 := HEND true (by rw [HBN.out]; simp) (fun h => hAL h.1)
                    clear HEND
                    go_wp2_with fail
                    go_region
                    all_goals
                      go_wp2
                      exact ⟨⟨j + 1, by go_num, H2.out.1, by omega, H2.out.2, below_dr' HBQ.out 1⟩, by simp [intOf]; omega⟩
                · have hqb : ((q : Int) == (y : Int)) = false := by simp; omega
                  have hqn : ¬ (q : Int) = (y : Int) := by omega
                  cases bv with
                  | true =>
                    have H2 := HEND true (by rw [HBN.out]; simp) (fun h => hAL h.1)
                    clear HEND
                    go_wp2_with fail
                    go_region
                    all_goals
                      go_wp2
                      exact ⟨⟨j + 1, by go_num, H2.out.1, by omega, H2.out.2, below_dr' HBQ.out 1⟩, by simp [intOf]; omega⟩
                  | false =>
                    have H2 := HEND false (by rw [HBN.out]; simp; omega) (fun h => hAL h.1)
                    clear HEND
                    go_wp2_with fail
                    go_region
                    all_goals
                      go_wp2
                      exact ⟨⟨j + 1, by go_num, H2.out.1, by omega, H2.out.2, below_dr' HBQ.out 1⟩, by simp [intOf]; omega⟩
              · have hgti : ¬ (L : Int) < (A : Int) := by omega
                rw [decide_eq_false hgt] at HBN
                cases bv with
                | true =>
                  have H2 := HEND true (by rw [HBN.out]; simp) (fun h => hAL h.1)
                  clear HEND
                  go_wp2_with fail
                  go_region
                  all_goals
                    go_wp2
                    exact ⟨⟨j + 1, by go_num, H2.out.1, by omega, H2.out.2, below_dr' HBQ.out 1⟩, by simp [intOf]; omega⟩
                | false =>
                  have H2 := HEND false (by rw [HBN.out]; simp; try omega) (fun h => hAL h.1)
                  clear HEND
                  go_wp2_with fail
                  go_region
                  all_goals
                    go_wp2
                    exact ⟨⟨j + 1, by go_num, H2.out.1, by omega, H2.out.2, below_dr' HBQ.out 1⟩, by simp [intOf]; omega⟩
          · obtain rfl : j = N := by omega
            have hnot : ¬ y < ew ns L := fun h => by
              obtain ⟨i, hi, h1⟩ := (hit_iff ns L y (by omega) HXY.out.1).2 h
              exact HNO.out i (by rw [← HN.out]; exact hi) h1
            have hbg0 := beg_iff ns L y (by omega) H15.out (by omega)
            rw [HN.out] at hbg0
            have hbg := (begB_iff ns L y j).trans hbg0
            clear hbg0
            obtain ⟨bv, hbv⟩ : ∃ bv, begB ns L y j = bv := ⟨_, rfl⟩
            rw [hbv] at hbg ⊢
            cases bv with
            | true =>
              have h3 := hbg.1 rfl
              have HE : Hid (rsS ns s p k L y = res ∧ ew ns L ≤ y ∧ y < 2 ^ L) := by
                refine ⟨?_, by omega, HXY.out.2⟩
                rw [HR2.out, if_neg hnot, if_neg (by omega)]
              clear h3 hbg hnot hno hbq
              go_wp2
              exact ⟨⟨y, L, L + 1, k, rfl, by go_num, rfl, by omega, HE.out.2.2, HE.out.2.1, HE.out.1, by omega, HBQ.out⟩, by simp [intOf]; omega⟩
            | false =>
              have h3 : ew ns 15 ≤ y * 2 ^ (15 - L) := by
                rcases Nat.lt_or_ge (y * 2 ^ (15 - L)) (ew ns 15) with h | h
                · have := hbg.2 h
                  simp at this
                · exact h
              have HE : Hid (res = (0, 0, 30)) := by
                show res = _
                rw [HR2.out, if_neg hnot, if_pos h3]
              clear h3 hbg hnot hno hbq
              go_wp2
              go_ret3
              exact ⟨by rw [← HRV.out, HE.out]; rfl, HBQ.out⟩
end Go.Proofs.YtchjnfckcfikkaaDoor
namespace Go.Proofs.YtchjnfckcfikkaaDoor
open Go.RowKit
set_option linter.unusedVariables false

/-- Block r is the document's reader: the bytes s, ahead of bit p, the plain bytes l, why it ended (e). -/
structure RR (w : World) (K : Nat → Prop) (r : Nat) (s : ByteArray) (p : Nat) (l : List Nat) (most e : Nat) (v : Value) : Prop where
  blk : w.heap[r]? = some (.cells #[.string s, .int .i64 (p : Nat), .int .i64 (most : Nat), v, .int .i64 (e : Nat)] 56 (0, 0))
  own : w.ownsRow 0 5 1 v l.length (bcells l)
  le : p ≤ 8 * s.size
  small : s.size ≤ 281474976710656
  kb : ∀ k, K k → k < w.heap.size
  kr : ¬ K r
  ko : ∀ g, v.ownBlock = some g → ¬ K g
variable {w w' : World} {K : Nat → Prop} {r : Nat} {s : ByteArray} {p : Nat} {l : List Nat} {most e : Nat} {v : Value}
theorem RR.cells (h : RR w K r s p l most e v) : w.cell? ⟨r, 0, none⟩ = some (.string s) ∧ w.cell? ⟨r, 1, none⟩ = some (.int .i64 (p : Nat)) ∧ w.cell? ⟨r, 2, none⟩ = some (.int .i64 (most : Nat)) ∧ w.cell? ⟨r, 3, none⟩ = some v ∧ w.cell? ⟨r, 4, none⟩ = some (.int .i64 (e : Nat)) := by
  have h1 := h.blk
  exact ⟨by simp [World.cell?, h1], by simp [World.cell?, h1], by simp [World.cell?, h1], by simp [World.cell?, h1], by simp [World.cell?, h1]⟩
theorem RR.free (h : RR w K r s p l most e v) (i : Nat) (hi : i < 5) : w.frozen? ⟨r, i, none⟩ = false := by
  have h1 := h.blk
  simp [World.frozen?, h1]
theorem RR.form (h : RR w K r s p l most e v) : ∃ ao cp, v = .slice ao l.length cp := by
  rcases h.own.2 with ⟨e, h0⟩ | ⟨g, cap, cur, e, _⟩
  · exact ⟨none, 0, by rw [e, h0]⟩
  · exact ⟨_, _, e⟩
theorem RR.drewN (h : RR w K r s p l most e v) (k : Nat) : RR (w.drewN k) K r s p l most e v := ⟨h.blk, h.own, h.le, h.small, h.kb, h.kr, h.ko⟩
theorem RR.below (h : RR w K r s p l most e v) (hb : Below w.heap.size w w') : RR w' K r s p l most e v := by
  refine ⟨by rw [hb.block r (lt_of_block h.blk)]; exact h.blk, ⟨h.own.1, ?_⟩, h.le, h.small, fun k hk => Nat.lt_of_lt_of_le (h.kb k hk) hb.size, h.kr, h.ko⟩
  rcases h.own.2 with e | ⟨g, cap, cur, e1, e2, e3, e4⟩
  · exact .inl e
  · exact .inr ⟨g, cap, cur, e1, e2, by rw [hb.block g (lt_of_block e3)]; exact e3, e4⟩
theorem RR.uf (h : RR w K r s p l most e v) (hb : Below w.heap.size w w') : UF K w w' := ⟨hb.os, hb.tape, hb.output, hb.size, fun k hk => hb.block k (h.kb k hk)⟩
theorem RR.own_set (h : RR w K r s p l most e v) (i : Nat) (u : Value) : (w.setCell ⟨r, i, none⟩ u).ownsRow 0 5 1 v l.length (bcells l) := by
  refine ⟨h.own.1, ?_⟩
  rcases h.own.2 with e | ⟨g, cap, cur, e1, e2, e3, e4⟩
  · exact .inl e
  · refine .inr ⟨g, cap, cur, e1, e2, ?_, e4⟩
    have hgu : g ≠ r := by rintro rfl; have := h.blk; rw [e3] at this; simp at this
    rw [Below.heap_setCell _ _ _ _ hgu]; exact e3
theorem RR.uf_set (h : RR w K r s p l most e v) (i : Nat) (u : Value) : UF K w (w.setCell ⟨r, i, none⟩ u) := UF.only (Only.setCell r i w u) h.kb h.kr
theorem RR.setAt (h : RR w K r s p l most e v) (q : Nat) (hq : q ≤ 8 * s.size) : RR (w.setCell ⟨r, 1, none⟩ (.int .i64 (q : Nat))) K r s q l most e v :=
  ⟨block_setCell (i := 1) h.blk, h.own_set _ _, hq, h.small, fun k hk => Nat.lt_of_lt_of_le (h.kb k hk) (Only.setCell r 1 w _).size, h.kr, h.ko⟩
theorem RR.setE (h : RR w K r s p l most e v) (q : Nat) : RR (w.setCell ⟨r, 4, none⟩ (.int .i64 (q : Nat))) K r s p l most q v :=
  ⟨block_setCell (i := 4) h.blk, h.own_set _ _, h.le, h.small, fun k hk => Nat.lt_of_lt_of_le (h.kb k hk) (Only.setCell r 4 w _).size, h.kr, h.ko⟩
/-- What the reader's bits tells: why it ended, the place, the number. -/
def rbF (s : ByteArray) (p e n : Nat) : Nat × Nat × Nat := if e ≠ 0 then (e, p, 0) else if 8 * s.size < p + n then (5, p, 0) else (0, p + n, num s p n)
/-- What comes of a call that tells a number. -/
def RNum (K : Nat → Prop) (r : Nat) (s : ByteArray) (l : List Nat) (most : Nat) (v : Value) (w : World) (x : Nat × Nat × Nat) (en : Ending) (w' : World) : Prop :=
  en = .returned (.int .i64 (x.2.2 : Nat)) ∧ RR w' K r s x.2.1 l most x.1 v ∧ UF K w w'
set_option maxRecDepth 20000 in
set_option maxHeartbeats 4000000 in
theorem rbits_ok (h : RR w K r s p l most e v) (n : Nat) (hn : n ≤ 57) :
    Calls Tryd.prog 21 #[.pointer (some ⟨r, 0, none⟩), .int .i64 n] w fun en w' => RNum K r s l most v w (rbF s p e n) en w' := by
  obtain ⟨x, hx⟩ : ∃ x, rbF s p e n = x := ⟨_, rfl⟩
  rw [hx]
  unfold rbF at hx
  have H : Hid (RR w K r s p l most e v) := h
  obtain ⟨c0, c1, c2, c3, c4⟩ := h.cells
  have f1 := h.free 1 (by omega)
  have f4 := h.free 4 (by omega)
  have hpl := h.le
  have hs := h.small
  by_cases he : e = 0
  · subst he
    rw [if_neg (by simp)] at hx
    by_cases hsh : 8 * s.size < p + n
    · rw [if_pos hsh] at hx
      have HX : Hid (x = (5, p, 0)) := hx.symm
      have HB1 : Hid (∀ W, Calls Tryd.prog 33 #[.string s, .int .i64 (p : Nat), .int .i64 n] W fun e w' => e = .returned (.tuple #[.int .i64 0, .bool false]) ∧ w' = W) := fun W => refBits_short s p n W hn hpl hsh hs
      clear hx h
      go_enter Tryd.func21, Tryd.ntmps21
      go_wp2_with fail
      go_region_with (go_at_call 33; refine (HB1.out _).mono ?_; rintro e w1 ⟨rfl, hw⟩; obtain rfl := hw.symm)
      all_goals
        go_wp2
        go_ret
        exact ⟨by rw [HX.out]; rfl, by rw [HX.out]; exact (H.out.setE 5).drewN 1, (H.out.uf_set 4 _).trans (UF.drewN _ _ 1)⟩
    · rw [if_neg hsh] at hx
      have HX : Hid (x = (0, p + n, num s p n)) := hx.symm
      obtain ⟨y, hy⟩ : ∃ y, num s p n = y := ⟨_, rfl⟩
      have HB1 : Hid (∀ W, Calls Tryd.prog 33 #[.string s, .int .i64 (p : Nat), .int .i64 n] W fun e w' => e = .returned (.tuple #[.int .i64 (y : Nat), .bool true]) ∧ w' = W) := fun W => by rw [← hy]; exact refBits s p n W hn (by omega) hs
      rw [hy] at HX
      clear hx h hy
      go_enter Tryd.func21, Tryd.ntmps21
      go_wp2_with fail
      go_region_with (go_at_call 33; refine (HB1.out _).mono ?_; rintro e w1 ⟨rfl, hw⟩; obtain rfl := hw.symm)
      all_goals
        go_wp2
        go_ret
        exact ⟨by rw [HX.out]; rfl, by rw [HX.out]; have h9 := (H.out.setAt (p + n) (by omega)).drewN 1; rw [Int.natCast_add] at h9; exact h9, (H.out.uf_set 1 _).trans (UF.drewN _ _ 1)⟩
  · rw [if_pos he] at hx
    have hei : ¬ (e : Int) = 0 := by omega
    have heb : ((e : Int) != 0) = true := by simpa using he
    have HX : Hid (x = (e, p, 0)) := hx.symm
    clear hx h
    go_enter Tryd.func21, Tryd.ntmps21
    go_wp2
    go_ret
    exact ⟨by rw [HX.out]; rfl, by rw [HX.out]; exact H.out, UF.refl _ _⟩
end Go.Proofs.YtchjnfckcfikkaaDoor
namespace Go.Proofs.YtchjnfckcfikkaaDoor
open Go.RowKit
set_option linter.unusedVariables false

variable {w w' : World} {K : Nat → Prop} {r : Nat} {s : ByteArray} {p : Nat} {l : List Nat} {most e : Nat} {v : Value}
theorem IRow.uf {a : Option Addr} {xs : List Int} (h : IRow w a xs) (hk : ∀ b o, a = some ⟨b, o, none⟩ → K b) (hf : UF K w w') : IRow w' a xs := by
  rcases h with rfl | ⟨b, off, rfl, hlt, h⟩
  · exact .inl rfl
  · refine .inr ⟨b, off, rfl, Nat.lt_of_lt_of_le hlt hf.size, fun i hi => ?_⟩
    rw [← h i hi]
    simp only [World.cell?, hf.block b (hk b off rfl)]
/-- A code of the document: its lengths and its words. -/
def CodeAt (w : World) (K : Nat → Prop) (cv : Value) (ns : List Nat) : Prop :=
  ∃ a ca c cc, cv = .agg #[.slice a ns.length ca, .slice c ns.length cc] ∧ IRow w a (inN ns) ∧ IRow w c (inN (cwL ns)) ∧ (∀ b o, a = some ⟨b, o, none⟩ → K b) ∧ (∀ b o, c = some ⟨b, o, none⟩ → K b) ∧ ns.length ≤ 288 ∧ (∀ i, ns.getD i 0 ≤ 15) ∧ (∀ i, i < ns.length → cw ns i ≤ 32768)
theorem CodeAt.uf {cv : Value} {ns : List Nat} (h : CodeAt w K cv ns) (hf : UF K w w') : CodeAt w' K cv ns := by
  obtain ⟨a, ca, c, cc, h1, h2, h3, h4, h5, h6⟩ := h
  exact ⟨a, ca, c, cc, h1, h2.uf h4 hf, h3.uf h5 hf, h4, h5, h6⟩
theorem CodeAt.more {K' : Nat → Prop} {cv : Value} {ns : List Nat} (h : CodeAt w K cv ns) (hk : ∀ k, K k → K' k) : CodeAt w K' cv ns := by
  obtain ⟨a, ca, c, cc, h1, h2, h3, h4, h5, h6⟩ := h
  exact ⟨a, ca, c, cc, h1, h2, h3, fun b o e => hk b (h4 b o e), fun b o e => hk b (h5 b o e), h6⟩
theorem rends_ok (h : RR w K r s p l most e v) (x : Nat) (hx : x ≤ 1000) :
    Calls Tryd.prog 26 #[.pointer (some ⟨r, 0, none⟩), .int .i64 x] w fun en w' => en = .returned (.tuple #[]) ∧ RR w' K r s p l most (if e = 0 then x else e) v ∧ UF K w w' := by
  have H : Hid (RR w K r s p l most e v) := h
  obtain ⟨c0, c1, c2, c3, c4⟩ := h.cells
  have f4 := h.free 4 (by omega)
  by_cases he : e = 0
  · subst he
    rw [if_pos rfl]
    clear h
    go_enter Tryd.func26, Tryd.ntmps26
    go_wp2
    go_end0
    exact ⟨rfl, H.out.setE x, H.out.uf_set 4 _⟩
  · rw [if_neg he]
    have hei : ¬ (e : Int) = 0 := by omega
    have heb : ((e : Int) == 0) = false := by simpa using he
    clear h
    go_enter Tryd.func26, Tryd.ntmps26
    go_wp2
    go_end0
    exact ⟨rfl, H.out, UF.refl _ _⟩
/-- What the reader's symbol tells. -/
def rsF (ns : List Nat) (s : ByteArray) (p e : Nat) : Nat × Nat × Nat := if e ≠ 0 then (e, p, 0) else
  if (rsS ns s p 15 0 0).2.2 = 0 then (0, (rsS ns s p 15 0 0).2.1, (rsS ns s p 15 0 0).1) else (if (rsS ns s p 15 0 0).2.2 = 30 then 40 else (rsS ns s p 15 0 0).2.2, p, 0)
theorem rsS_shape (ns : List Nat) (s : ByteArray) (p : Nat) (hn : ns.length ≤ 288) : ∀ (k l x : Nat), p + l ≤ 8 * s.size → (rsS ns s p k l x = (0, 0, 30) ∨ rsS ns s p k l x = (0, 0, 5) ∨ ∃ y q, rsS ns s p k l x = (y, q, 0) ∧ y < 288 ∧ p < q ∧ q ≤ 8 * s.size)
  | 0, l, x, h => .inl rfl
  | k + 1, l, x, h => by
    simp only [rsS]
    by_cases a1 : 8 * s.size ≤ p + l
    · rw [if_pos a1]; exact .inr (.inl rfl)
    · rw [if_neg a1]
      obtain ⟨y, hy⟩ : ∃ y, 2 * x + bitAt s (p + l) = y := ⟨_, rfl⟩
      rw [hy]
      by_cases a2 : y < ew ns (l + 1)
      · rw [if_pos a2]; exact .inr (.inr ⟨_, _, rfl, symW_le ns _ _ hn, by omega, by omega⟩)
      · rw [if_neg a2]
        by_cases a3 : ew ns 15 ≤ y * 2 ^ (15 - (l + 1))
        · rw [if_pos a3]; exact .inl rfl
        · rw [if_neg a3]; exact rsS_shape ns s p hn k (l + 1) y (by omega)
theorem RR.alloc (h : RR w K r s p l most e v) (o : Obj) : RR (w.alloc o) K r s p l most e v := h.below ((Below.refl _ _).alloc (Nat.le_refl _) _)
theorem RR.uf_alloc (h : RR w K r s p l most e v) (o : Obj) : UF K w (w.alloc o) := h.uf ((Below.refl _ _).alloc (Nat.le_refl _) _)
set_option maxRecDepth 20000 in
set_option maxHeartbeats 4000000 in
theorem rsymbol_ok (h : RR w K r s p l most e v) (cv : Value) (ns : List Nat) (hc : CodeAt w K cv ns) :
    Calls Tryd.prog 36 #[.pointer (some ⟨r, 0, none⟩), cv] w fun en w' => RNum K r s l most v w (rsF ns s p e) en w' := by
  obtain ⟨x, hx⟩ : ∃ x, rsF ns s p e = x := ⟨_, rfl⟩
  rw [hx]
  unfold rsF at hx
  have hpl := h.le
  have hs := h.small
  have hc' := hc
  obtain ⟨a, ca, c, cc, rfl, r1, r2, k1, k2, hn, h15, hcb⟩ := hc'
  obtain ⟨N, hN⟩ : ∃ N, ns.length = N := ⟨_, rfl⟩
  rw [hN] at hn ⊢
  have ha := h.alloc (.cells #[.slice a N ca, .slice c N cc] 59)
  have hua := h.uf_alloc (.cells #[.slice a N ca, .slice c N cc] 59)
  have n0 : (w.alloc (.cells #[.slice a N ca, .slice c N cc] 59)).cell? ⟨w.heap.size, 0, none⟩ = some (.slice a N ca) := by simp
  have n1 : (w.alloc (.cells #[.slice a N ca, .slice c N cc] 59)).cell? ⟨w.heap.size, 1, none⟩ = some (.slice c N cc) := by simp
  have q1 := r1.uf k1 hua
  have q2 := r2.uf k2 hua
  obtain ⟨c0, c1, c2, c3, c4⟩ := ha.cells
  have f1 := ha.free 1 (by omega)
  have f4 := ha.free 4 (by omega)
  have H : Hid (RR (w.alloc (.cells #[.slice a N ca, .slice c N cc] 59)) K r s p l most e v ∧ UF K w (w.alloc (.cells #[.slice a N ca, .slice c N cc] 59))) := ⟨ha, hua⟩
  by_cases he : e = 0
  · subst he
    rw [if_neg (by simp)] at hx
    have HS := rsym_ok ns N a c ca cc s p (w.alloc (.cells #[.slice a N ca, .slice c N cc] 59)).drew hN hn h15 hcb q1 q2 hpl hs
    have HSH := rsS_shape ns s p (by omega) 15 0 0 (by omega)
    obtain ⟨res, hres⟩ : ∃ res, rsS ns s p 15 0 0 = res := ⟨_, rfl⟩
    rw [hres] at hx HS HSH
    rcases HSH with rfl | rfl | ⟨y, q, rfl, hy, hq1, hq2⟩
    · have HX : Hid (x = (40, p, 0)) := hx.symm
      have HC : Hid (∀ _ : Unit, Calls Tryd.prog 48 #[.slice a N ca, .slice c N cc, .string s, .int .i64 (p : Nat)] (w.alloc (.cells #[.slice a N ca, .slice c N cc] 59)).drew fun e w' => e = .returned (.tuple #[.int .i64 0, .int .i64 0, .int .i64 30]) ∧ Below (w.alloc (.cells #[.slice a N ca, .slice c N cc] 59)).drew.heap.size (w.alloc (.cells #[.slice a N ca, .slice c N cc] 59)).drew w') := fun _ => HS
      have HV : Hid (∀ w1, Below (w.alloc (.cells #[.slice a N ca, .slice c N cc] 59)).drew.heap.size (w.alloc (.cells #[.slice a N ca, .slice c N cc] 59)).drew w1 → (RR w1 K r s p l most 0 v ∧ UF K w w1) ∧ w1.cell? ⟨w.heap.size, 0, none⟩ = some (.slice a N ca) ∧ w1.cell? ⟨w.heap.size, 1, none⟩ = some (.slice c N cc) ∧ w1.cell? ⟨r, 0, none⟩ = some (.string s) ∧ w1.cell? ⟨r, 1, none⟩ = some (.int .i64 (p : Nat))) := fun w1 hw => ⟨⟨(ha.drewN 1).below hw, (hua.trans (UF.drewN _ _ 1)).trans ((ha.drewN 1).uf hw)⟩, by rw [hw.cell (by simp [World.drew])]; exact n0, by rw [hw.cell (by simp [World.drew])]; exact n1, ((ha.drewN 1).below hw).cells.1, ((ha.drewN 1).below hw).cells.2.1⟩
      have HS0 : Hid ((w.alloc (.cells #[.slice a N ca, .slice c N cc] 59)).drew.cell? ⟨w.heap.size, 0, none⟩ = some (.slice a N ca) ∧ (w.alloc (.cells #[.slice a N ca, .slice c N cc] 59)).drew.cell? ⟨w.heap.size, 1, none⟩ = some (.slice c N cc) ∧ (w.alloc (.cells #[.slice a N ca, .slice c N cc] 59)).drew.cell? ⟨r, 0, none⟩ = some (.string s) ∧ (w.alloc (.cells #[.slice a N ca, .slice c N cc] 59)).drew.cell? ⟨r, 1, none⟩ = some (.int .i64 (p : Nat))) := (HV.out _ (Below.refl _ _)).2
      clear hx h hres HS ha hua r1 r2 q1 q2 hc k1 k2 h15 hcb
      go_enter Tryd.func36, Tryd.ntmps36
      go_wp2_with fail
      go_region_held_law (fun w' => w'.cell? ⟨w.heap.size, 0, none⟩ = some (.slice a N ca) ∧ w'.cell? ⟨w.heap.size, 1, none⟩ = some (.slice c N cc) ∧ w'.cell? ⟨r, 0, none⟩ = some (.string s) ∧ w'.cell? ⟨r, 1, none⟩ = some (.int .i64 (p : Nat)))
        (first | assumption | exact HS0.out | go_keep)
        (first | (go_at_call 48; refine (HC.out ()).mono ?_; rintro e w1 ⟨he1, hw⟩; subst he1; have HW : Hid (RR w1 K r s p l most 0 v ∧ UF K w w1) := (HV.out _ hw).1; have KS := (HV.out _ hw).2; obtain ⟨d0, d1, d2, d3, d4⟩ := HW.out.1.cells; have g1 := HW.out.1.free 1 (by omega); have g4 := HW.out.1.free 4 (by omega); clear hw))
      all_goals
        go_wp2
        go_ret
        exact ⟨by rw [HX.out]; rfl, by rw [HX.out]; exact HW.out.1.setE 40, HW.out.2.trans (HW.out.1.uf_set 4 _)⟩
    · have HX : Hid (x = (5, p, 0)) := hx.symm
      have HC : Hid (∀ _ : Unit, Calls Tryd.prog 48 #[.slice a N ca, .slice c N cc, .string s, .int .i64 (p : Nat)] (w.alloc (.cells #[.slice a N ca, .slice c N cc] 59)).drew fun e w' => e = .returned (.tuple #[.int .i64 0, .int .i64 0, .int .i64 5]) ∧ Below (w.alloc (.cells #[.slice a N ca, .slice c N cc] 59)).drew.heap.size (w.alloc (.cells #[.slice a N ca, .slice c N cc] 59)).drew w') := fun _ => HS
      have HV : Hid (∀ w1, Below (w.alloc (.cells #[.slice a N ca, .slice c N cc] 59)).drew.heap.size (w.alloc (.cells #[.slice a N ca, .slice c N cc] 59)).drew w1 → (RR w1 K r s p l most 0 v ∧ UF K w w1) ∧ w1.cell? ⟨w.heap.size, 0, none⟩ = some (.slice a N ca) ∧ w1.cell? ⟨w.heap.size, 1, none⟩ = some (.slice c N cc) ∧ w1.cell? ⟨r, 0, none⟩ = some (.string s) ∧ w1.cell? ⟨r, 1, none⟩ = some (.int .i64 (p : Nat))) := fun w1 hw => ⟨⟨(ha.drewN 1).below hw, (hua.trans (UF.drewN _ _ 1)).trans ((ha.drewN 1).uf hw)⟩, by rw [hw.cell (by simp [World.drew])]; exact n0, by rw [hw.cell (by simp [World.drew])]; exact n1, ((ha.drewN 1).below hw).cells.1, ((ha.drewN 1).below hw).cells.2.1⟩
      have HS0 : Hid ((w.alloc (.cells #[.slice a N ca, .slice c N cc] 59)).drew.cell? ⟨w.heap.size, 0, none⟩ = some (.slice a N ca) ∧ (w.alloc (.cells #[.slice a N ca, .slice c N cc] 59)).drew.cell? ⟨w.heap.size, 1, none⟩ = some (.slice c N cc) ∧ (w.alloc (.cells #[.slice a N ca, .slice c N cc] 59)).drew.cell? ⟨r, 0, none⟩ = some (.string s) ∧ (w.alloc (.cells #[.slice a N ca, .slice c N cc] 59)).drew.cell? ⟨r, 1, none⟩ = some (.int .i64 (p : Nat))) := (HV.out _ (Below.refl _ _)).2
      clear hx h hres HS ha hua r1 r2 q1 q2 hc k1 k2 h15 hcb
      go_enter Tryd.func36, Tryd.ntmps36
      go_wp2_with fail
      go_region_held_law (fun w' => w'.cell? ⟨w.heap.size, 0, none⟩ = some (.slice a N ca) ∧ w'.cell? ⟨w.heap.size, 1, none⟩ = some (.slice c N cc) ∧ w'.cell? ⟨r, 0, none⟩ = some (.string s) ∧ w'.cell? ⟨r, 1, none⟩ = some (.int .i64 (p : Nat)))
        (first | assumption | exact HS0.out | go_keep)
        (first | (go_at_call 48; refine (HC.out ()).mono ?_; rintro e w1 ⟨he1, hw⟩; subst he1; have HW : Hid (RR w1 K r s p l most 0 v ∧ UF K w w1) := (HV.out _ hw).1; have KS := (HV.out _ hw).2; obtain ⟨d0, d1, d2, d3, d4⟩ := HW.out.1.cells; have g1 := HW.out.1.free 1 (by omega); have g4 := HW.out.1.free 4 (by omega); clear hw))
      all_goals
        go_wp2
        go_ret
        exact ⟨by rw [HX.out]; rfl, by rw [HX.out]; exact HW.out.1.setE 5, HW.out.2.trans (HW.out.1.uf_set 4 _)⟩
    · have HX : Hid (x = (0, q, y)) := hx.symm
      have HC : Hid (∀ _ : Unit, Calls Tryd.prog 48 #[.slice a N ca, .slice c N cc, .string s, .int .i64 (p : Nat)] (w.alloc (.cells #[.slice a N ca, .slice c N cc] 59)).drew fun e w' => e = .returned (.tuple #[.int .i64 (y : Nat), .int .i64 (q : Nat), .int .i64 0]) ∧ Below (w.alloc (.cells #[.slice a N ca, .slice c N cc] 59)).drew.heap.size (w.alloc (.cells #[.slice a N ca, .slice c N cc] 59)).drew w') := fun _ => HS
      have HV : Hid (∀ w1, Below (w.alloc (.cells #[.slice a N ca, .slice c N cc] 59)).drew.heap.size (w.alloc (.cells #[.slice a N ca, .slice c N cc] 59)).drew w1 → (RR w1 K r s p l most 0 v ∧ UF K w w1) ∧ w1.cell? ⟨w.heap.size, 0, none⟩ = some (.slice a N ca) ∧ w1.cell? ⟨w.heap.size, 1, none⟩ = some (.slice c N cc) ∧ w1.cell? ⟨r, 0, none⟩ = some (.string s) ∧ w1.cell? ⟨r, 1, none⟩ = some (.int .i64 (p : Nat))) := fun w1 hw => ⟨⟨(ha.drewN 1).below hw, (hua.trans (UF.drewN _ _ 1)).trans ((ha.drewN 1).uf hw)⟩, by rw [hw.cell (by simp [World.drew])]; exact n0, by rw [hw.cell (by simp [World.drew])]; exact n1, ((ha.drewN 1).below hw).cells.1, ((ha.drewN 1).below hw).cells.2.1⟩
      have HS0 : Hid ((w.alloc (.cells #[.slice a N ca, .slice c N cc] 59)).drew.cell? ⟨w.heap.size, 0, none⟩ = some (.slice a N ca) ∧ (w.alloc (.cells #[.slice a N ca, .slice c N cc] 59)).drew.cell? ⟨w.heap.size, 1, none⟩ = some (.slice c N cc) ∧ (w.alloc (.cells #[.slice a N ca, .slice c N cc] 59)).drew.cell? ⟨r, 0, none⟩ = some (.string s) ∧ (w.alloc (.cells #[.slice a N ca, .slice c N cc] 59)).drew.cell? ⟨r, 1, none⟩ = some (.int .i64 (p : Nat))) := (HV.out _ (Below.refl _ _)).2
      clear hx h hres HS ha hua r1 r2 q1 q2 hc k1 k2 h15 hcb
      go_enter Tryd.func36, Tryd.ntmps36
      go_wp2_with fail
      go_region_held_law (fun w' => w'.cell? ⟨w.heap.size, 0, none⟩ = some (.slice a N ca) ∧ w'.cell? ⟨w.heap.size, 1, none⟩ = some (.slice c N cc) ∧ w'.cell? ⟨r, 0, none⟩ = some (.string s) ∧ w'.cell? ⟨r, 1, none⟩ = some (.int .i64 (p : Nat)))
        (first | assumption | exact HS0.out | go_keep)
        (first | (go_at_call 48; refine (HC.out ()).mono ?_; rintro e w1 ⟨he1, hw⟩; subst he1; have HW : Hid (RR w1 K r s p l most 0 v ∧ UF K w w1) := (HV.out _ hw).1; have KS := (HV.out _ hw).2; obtain ⟨d0, d1, d2, d3, d4⟩ := HW.out.1.cells; have g1 := HW.out.1.free 1 (by omega); have g4 := HW.out.1.free 4 (by omega); clear hw))
      all_goals
        go_wp2
        go_ret
        exact ⟨by rw [HX.out]; rfl, by rw [HX.out]; exact HW.out.1.setAt q hq2, HW.out.2.trans (HW.out.1.uf_set 1 _)⟩
  · rw [if_pos he] at hx
    have hei : ¬ (e : Int) = 0 := by omega
    have heb : ((e : Int) != 0) = true := by simpa using he
    have HX : Hid (x = (e, p, 0)) := hx.symm
    clear hx h ha hua r1 r2 q1 q2 hc k1 k2 h15 hcb
    go_enter Tryd.func36, Tryd.ntmps36
    go_wp2
    go_ret
    exact ⟨by rw [HX.out]; rfl, by rw [HX.out]; exact H.out.1, H.out.2⟩
end Go.Proofs.YtchjnfckcfikkaaDoor
namespace Go.Proofs.YtchjnfckcfikkaaDoor
open Go.RowKit
set_option linter.unusedVariables false

variable {w w' : World} {K : Nat → Prop} {r : Nat} {s : ByteArray} {p : Nat} {l : List Nat} {most e : Nat} {v : Value}
/-- Are the first j lengths none? -/
def zer (ns : List Nat) : Nat → Bool
  | 0 => true
  | j + 1 => zer ns j && decide (ns.getD j 0 = 0)
theorem zer_iff (ns : List Nat) : ∀ j, zer ns j = true ↔ ∀ i, i < j → ns.getD i 0 = 0
  | 0 => by simp [zer]
  | j + 1 => by
    simp only [zer, Bool.and_eq_true, decide_eq_true_eq, zer_iff ns j]
    constructor
    · rintro ⟨h1, h2⟩ i hi
      by_cases e : i = j
      · subst e; exact h2
      · exact h1 i (by omega)
    · exact fun h => ⟨fun i hi => h i (by omega), h j (by omega)⟩
theorem zer_false {ns : List Nat} {i j : Nat} (hi : i < j) (h : ns.getD i 0 ≠ 0) : zer ns j = false := by
  cases hz : zer ns j with
  | false => rfl
  | true => exact absurd ((zer_iff ns j).1 hz i hi) h
theorem zer_shr (ns : List Nat) : ∀ j, zer ns j = true ↔ shr ns j = 0
  | 0 => by simp [zer, shr]
  | j + 1 => by
    simp only [zer, shr, Bool.and_eq_true, decide_eq_true_eq, zer_shr ns j]
    by_cases h : ns.getD j 0 = 0
    · rw [if_pos h]; exact ⟨fun hh => hh.1, fun hh => ⟨hh, h⟩⟩
    · rw [if_neg h]
      have : 0 < 2 ^ (15 - ns.getD j 0) := Nat.pos_of_ne_zero (by simp)
      constructor
      · rintro ⟨_, h2⟩; exact absurd h2 h
      · intro h2; omega
/-- No words: nothing to begin with. -/
theorem zer_ew (ns : List Nat) (h15 : ∀ i, ns.getD i 0 ≤ 15) : zer ns ns.length = true ↔ ew ns 15 = 0 := by rw [zer_shr, shr_ew ns h15]
set_option maxRecDepth 20000 in
set_option maxHeartbeats 4000000 in
theorem rnone_ok (cv : Value) (ns : List Nat) (hc : CodeAt w K cv ns) :
    Calls Tryd.prog 49 #[cv] w fun en w' => en = .returned (.bool (zer ns ns.length)) ∧ Below w.heap.size w w' := by
  obtain ⟨a, ca, c, cc, rfl, r1, r2, k1, k2, hn, h15, hcb⟩ := hc
  have HA : Hid (IRow w a (inN ns)) := r1
  obtain ⟨N, hN⟩ : ∃ N, ns.length = N := ⟨_, rfl⟩
  have HN : Hid (ns.length = N) := hN
  rw [hN] at hn ⊢
  have hab : Below w.heap.size w (w.alloc (.cells #[.slice a N ca, .slice c N cc] 59)) := (Below.refl _ _).alloc (Nat.le_refl _) _
  have HAB : Hid (Below w.heap.size w (w.alloc (.cells #[.slice a N ca, .slice c N cc] 59))) := hab
  obtain ⟨zv, hz⟩ : ∃ zv, zer ns N = zv := ⟨_, rfl⟩
  rw [hz]
  have HZ : Hid (zer ns N = zv) := hz
  clear r1 r2 k1 k2 h15 hcb hN hab hz
  go_enter Tryd.func49, Tryd.ntmps49
  go_wp2_with fail
  go_loop [3] (fun v3 => ∃ j : Nat, v3 = .int .i64 j ∧ j ≤ N ∧ Hid (zer ns j = true)) (fun v3 => N - (intOf v3).toNat)
  case atStart => exact ⟨0, rfl, Nat.zero_le _, rfl⟩
  case round =>
    obtain ⟨j, rfl, hj, HJ⟩ := hrel
    by_cases hlt : j < N
    · have hlti : (j : Int) < (N : Int) := by omega
      obtain ⟨b1, o1, rfl, c1, _⟩ := (HA.out.below HAB.out).at (show j < (inN ns).length by rw [inN_length, HN.out]; exact hlt)
      rw [inN_get] at c1
      obtain ⟨A, hA⟩ : ∃ A, ns.getD j 0 = A := ⟨_, rfl⟩
      rw [hA] at c1
      have HAA : Hid (ns.getD j 0 = A) := hA
      clear hA
      by_cases h0 : 0 < A
      · have h0i : (0 : Int) < (A : Int) := by omega
        have HE : Hid (zv = false) := by
          show zv = false
          rw [← HZ.out]; exact zer_false hlt (by rw [HAA.out]; omega)
        go_wp2
        go_ret
        exact ⟨by rw [HE.out]; rfl, HAB.out⟩
      · have h0i : ¬ (0 : Int) < (A : Int) := by omega
        have H2 : Hid (zer ns (j + 1) = true) := by
          show zer ns (j + 1) = true
          simp only [zer]; rw [HJ.out, HAA.out]; simp; omega
        go_wp2
        go_round
        case rel => exact ⟨j + 1, by go_num, by omega, H2⟩
        case measure => simp [intOf]; omega
    · obtain rfl : j = N := by omega
      have HE : Hid (zv = true) := by
        show zv = true
        rw [← HZ.out]; exact HJ.out
      go_wp2
      go_ret
      exact ⟨by rw [HE.out]; rfl, HAB.out⟩
/-- One byte more. -/
theorem RR.grow1 {w1 : World} (h : RR w K r s p l most e v) {Q x g cap H : Nat} (hQ : l.length = Q) (hown : w1.ownsRow 0 5 1 (.slice (some ⟨g, 0, none⟩) (Q + 1) cap) (Q + 1) (bcells l ++ [.int .u8 (x : Nat)])) (hg : w.grownBy w1 v.ownBlock) (hat : v.ownBlock = some g ∨ g = H) (hH : w.heap.size = H) :
    w1.cell? ⟨r, 3, none⟩ = some v ∧ w1.frozen? ⟨r, 3, none⟩ = false ∧ RR (w1.setCell ⟨r, 3, none⟩ (.slice (some ⟨g, 0, none⟩) (Q + 1) cap)) K r s p (l ++ [x]) most e (.slice (some ⟨g, 0, none⟩) (Q + 1) cap) ∧ UF K w (w1.setCell ⟨r, 3, none⟩ (.slice (some ⟨g, 0, none⟩) (Q + 1) cap)) := by
  have hbl := (kept_row h.blk (by decide) h.own hg).trans h.blk
  have hkb1 : ∀ k, K k → k < w1.heap.size := fun k hk => Nat.lt_of_lt_of_le (h.kb k hk) hg.size
  refine ⟨by simp [World.cell?, hbl], by simp [World.frozen?, hbl], ⟨block_setCell (i := 3) hbl, ?_, h.le, h.small, fun k hk => Nat.lt_of_lt_of_le (hkb1 k hk) (Only.setCell r 3 w1 _).size, h.kr, ?_⟩, (UF.grown hg h.kb h.ko).trans (UF.only (Only.setCell r 3 w1 _) hkb1 h.kr)⟩
  · rw [List.length_append, bcells_append, hQ]
    refine ⟨hown.1, ?_⟩
    rcases hown.2 with e | ⟨g, cap, cur, e1, e2, e3, e4⟩
    · exact .inl e
    · refine .inr ⟨g, cap, cur, e1, e2, ?_, e4⟩
      have hgu : g ≠ r := by rintro rfl; rw [hbl] at e3; simp at e3
      rw [Below.heap_setCell _ _ _ _ hgu]; exact e3
  · intro k hk hK
    have hk' : g = k := by simpa [Value.ownBlock] using hk
    subst hk'
    rcases hat with e | e
    · exact h.ko g e hK
    · have := h.kb g hK
      omega
theorem RR.byte (h : RR w K r s p l most e v) {i : Nat} (hi : i < l.length) :
    ∃ g cp, v = .slice (some ⟨g, 0, none⟩) l.length cp ∧ w.cell? ⟨g, i, none⟩ = some (.int .u8 (l.getD i 0 : Nat)) := by
  obtain ⟨g, cp, e, _, _⟩ := h.own.form (by omega)
  refine ⟨g, cp, e, ?_⟩
  have h1 := h.own.cells (g := g) (by rw [e]; rfl) i (.int .u8 (l.getD i 0 : Nat)) (by simp [bcells, hi])
  rw [add_zero_addr] at h1
  exact h1
end Go.Proofs.YtchjnfckcfikkaaDoor
