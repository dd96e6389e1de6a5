/- Frequencies that may be; the best lengths: the function itself. -/
/- A word turned about: its last bit first. -/
/- The best lengths: the function itself. -/
import Derived.Test.YtlbadjfcffoakaaDoorV11
import Derived.Deep.OwnRows
import Derived.Test.YtlbadjfcffoakaaDoorV02
import Derived.Lib.Tables
import Derived.Deep.QuietTactic
namespace Go.Proofs.YtlbadjfcffoakaaDoor
open Go.RowKit PT Go.Sort
set_option linter.unusedVariables false
set_option maxRecDepth 20000

theorem getD_in {α : Type} {fs : List α} {z : α} {i : Nat} (hi : i < fs.length) : fs.getD i z = fs[i] := by
  rw [List.getD_eq_getElem?_getD, List.getElem?_eq_getElem hi]; rfl
theorem getD_out {α : Type} {fs : List α} {z : α} {i : Nat} (hi : fs.length ≤ i) : fs.getD i z = z := by
  rw [List.getD_eq_getElem?_getD, List.getElem?_eq_none hi]; rfl
def okF (fs : List Int) : Bool := fs.all fun f => decide (0 ≤ f) && decide (f ≤ 1099511627776)
theorem okF_get {fs : List Int} (h : okF fs = true) (i : Nat) : 0 ≤ fs.getD i 0 ∧ fs.getD i 0 ≤ 1099511627776 := by
  unfold okF at h
  rw [List.all_eq_true] at h
  rcases Nat.lt_or_ge i fs.length with hi | hi
  · have := h (fs.getD i 0) (by rw [getD_in hi]; exact List.getElem_mem hi)
    simpa using this
  · rw [getD_out hi]; omega

theorem getD_take_all {fs : List Int} {j : Nat} (hj : j < fs.length) : (fs.take (j + 1)).all (fun f => decide (0 ≤ f) && decide (f ≤ 1099511627776)) = ((fs.take j).all (fun f => decide (0 ≤ f) && decide (f ≤ 1099511627776)) && (decide (0 ≤ fs.getD j 0) && decide (fs.getD j 0 ≤ 1099511627776))) := by
  rw [List.take_succ_eq_append_getElem hj, List.all_append, getD_in hj]
  simp

set_option maxRecDepth 20000 in
theorem areFreqs_ok (fs : List Int) (a : Option Addr) (c N : Nat) (w : World) (hN : fs.length = N) (hrow : IRow w a fs) (hlen : N ≤ 9223372036854775807) :
    Calls Tryd.prog 73 #[.slice a N c] w fun e w' => e = .returned (.bool (okF fs)) ∧ w' = w := by
  have HR : Hid (IRow w a fs) := hrow
  have HN : Hid (fs.length = N) := hN
  clear hrow hN
  go_enter Tryd.func73, Tryd.ntmps73
  go_wp2
  go_loop [4, 7] (fun _ v7 => ∃ (j : Nat), v7 = .int .i64 j ∧ j ≤ N ∧ Hid (okF (fs.take j) = true)) (fun _ v7 => N - (intOf v7).toNat)
  case atStart => exact ⟨0, rfl, by omega, rfl⟩
  case round =>
    obtain ⟨j, rfl, hj, HS⟩ := hrel
    by_cases hlt : j < N
    · have hlti : (j : Int) < (N : Int) := by omega
      obtain ⟨b, off, rfl, hcell, _⟩ := HR.out.at (show j < fs.length by rw [HN.out]; exact hlt)
      obtain ⟨F, hF⟩ : ∃ F, fs.getD j 0 = F := ⟨_, rfl⟩
      have hstep := getD_take_all (fs := fs) (show j < fs.length by rw [HN.out]; exact hlt)
      rw [hF] at hcell hstep
      have HT : Hid _ := hstep
      clear hstep hF
      by_cases h0 : F < 0
      · have hbad : Hid (okF fs = false) := by
          show _ = _
          have : okF (fs.take (j + 1)) = false := by unfold okF; rw [HT.out]; simp [show ¬ 0 ≤ F by omega]
          cases e : okF fs with
          | false => rfl
          | true =>
            unfold okF at e this
            rw [List.all_eq_true] at e
            rw [List.all_eq_false] at this
            obtain ⟨x, hx, hb⟩ := this
            exact absurd (e x (List.mem_of_mem_take hx)) hb
        go_wp2
        go_ret
        exact ⟨by rw [hbad.out]; rfl, rfl⟩
      · by_cases h1 : 1099511627776 < F
        · have hbad : Hid (okF fs = false) := by
            show _ = _
            have : okF (fs.take (j + 1)) = false := by unfold okF; rw [HT.out]; simp [show ¬ F ≤ 1099511627776 by omega]
            cases e : okF fs with
            | false => rfl
            | true =>
              unfold okF at e this
              rw [List.all_eq_true] at e
              rw [List.all_eq_false] at this
              obtain ⟨x, hx, hb⟩ := this
              exact absurd (e x (List.mem_of_mem_take hx)) hb
          go_wp2
          go_ret
          exact ⟨by rw [hbad.out]; rfl, rfl⟩
        · have H2 : Hid (okF (fs.take (j + 1)) = true) := by
            show _ = _
            have := HS.out
            unfold okF at this ⊢
            rw [HT.out, this]
            simp; omega
          go_wp2
          exact ⟨⟨j + 1, by go_num, by omega, H2⟩, by simp [intOf]; omega⟩
    · obtain rfl : j = N := by omega
      have hall : Hid (okF fs = true) := by
        have := HS.out
        rw [List.take_of_length_le (by rw [HN.out]; exact Nat.le_refl _)] at this
        exact this
      go_wp2
      go_ret
      exact ⟨by rw [hall.out]; rfl, rfl⟩

theorem intInfo : (Tryd.prog.info? 3).map (fun i => (i.zero, i.size, i.bytes)) = some (some (.int .i64 0), 1, 8) := by kernel_rfl
theorem made_zero (w : World) (N : Nat) : LB (w.alloc (.cells (madeCells #[.int .i64 0] N) 3)) w.heap.size N (fun _ => 0) := by
  unfold LB
  rw [heap_alloc_new]
  congr 2
  apply Array.ext'
  rw [toList_madeCells_one]
  unfold lcells
  apply List.ext_getElem
  · simp
  · intro i h1 h2; simp
theorem row_apart {w : World} {g o L N : Nat} {t : PT} {l : List PT} {c : Nat → Nat} (h : PRow w g o (t :: l)) (hl : LB w L N c) : g ≠ L := by
  rintro rfl
  have h1 := h.cons.2.1
  rcases Nat.lt_or_ge (o + 1) N with hi | hi
  · rw [(hl.cell hi).1] at h1; cases h1
  · unfold LB at hl
    simp [World.cell?, hl, lcells, Nat.not_lt.2 hi] at h1

theorem PRow.kp {w w' : World} {g o L : Nat} {l : List PT} (h : PRow w g o l) (hk : Kp L w w') (hg : g ≠ L) : PRow w' g o l := fun i t ht => by
  rw [hk.cell hg, hk.cell hg]; exact h i t ht
theorem LB.below {w w' : World} {L N : Nat} {c : Nat → Nat} (h : LB w L N c) (hb : Below w.heap.size w w') : LB w' L N c := (hb.block L (lt_heap h)).trans h
theorem cntL_take_succ {l : List PT} {j : Nat} {t : PT} (h : l[j]? = some t) (i : Nat) : cntL i (l.take (j + 1)) = cntL i (l.take j) + t.cnt i := by
  have hj : j < l.length := by
    rcases Nat.lt_or_ge j l.length with h' | h'
    · exact h'
    · rw [List.getElem?_eq_none h'] at h; cases h
  rw [List.take_succ_eq_append_getElem hj, cntL_append]
  rw [List.getElem?_eq_getElem hj] at h
  rw [Option.some.inj h]
  simp [cntL]

structure LenSt (w wr : World) (L N g o : Nat) (l : List PT) (j : Nat) : Prop where
  lb : LB wr L N (fun i => cntL i (l.take j))
  row : PRow wr g o l
  laid : ∀ t ∈ l, Laid wr L N t
  bel : Below w.heap.size w wr
  new : w.heap.size ≤ L
theorem LenSt.step {w wr w' : World} {L N g o j : Nat} {l : List PT} {t : PT} {ob : Obj} (h : LenSt w wr L N g o l j) (ht : l[j]? = some t) (hb : ∀ i, cntL i l < 4611686018427387904) :
    Calls Tryd.prog t.fn t.cap (wr.alloc ob) fun e w' => e = .returned (.tuple #[]) ∧ LenSt w w' L N g o l (j + 1) := by
  have hal : Below wr.heap.size wr (wr.alloc ob) := (Below.refl _ _).alloc (Nat.le_refl _) _
  have hm : t ∈ l := List.mem_of_getElem? ht
  refine (lengthen L N t (wr.alloc ob) _ ((h.laid t hm).below hal) (h.lb.below hal) (fun i => ?_)).mono ?_
  · rw [← cntL_take_succ ht]
    refine Nat.lt_of_le_of_lt ?_ (hb i)
    conv => rhs; rw [← List.take_append_drop (j + 1) l]
    rw [cntL_append]; omega
  · rintro e w2 ⟨rfl, h1, h2⟩
    have hne : g ≠ L := by
      cases hl : l with
      | nil => rw [hl] at ht; simp at ht
      | cons u r => exact row_apart (by rw [← hl]; exact h.row) h.lb
    refine ⟨rfl, ⟨h1.congr (fun i _ => (cntL_take_succ ht i).symm), (PRow.below h.row hal ?_).kp h2 hne, fun u hu => ((h.laid u hu).below hal).kp h2, (h.bel.trans (hal.mono h.bel.size)).trans (h2.below h.new), h.new⟩⟩
    exact lt_cell (h.row j t ht).1

def LensEnd (w : World) (fs : List Int) (most : Int) (e : Ending) (w' : World) : Prop :=
  (fs.length ≤ 288 ∧ okF fs = true ∧ 1 ≤ most ∧ most ≤ 15 ∧ (comes fs fs.length).length ≤ 2 ^ most.toNat ∧
    ∃ L c S l, e = .returned (.tuple #[.slice (some ⟨L, 0, none⟩) fs.length fs.length, .int .i64 0]) ∧ LB w' L fs.length c ∧ w.heap.size ≤ L ∧ Below w.heap.size w w' ∧
      Asc S ∧ Leaves fs (comes fs fs.length) l ∧ S.Perm l ∧
      ((S.length ≤ 1 ∧ c = fun i => cntL i S) ∨ (2 ≤ S.length ∧ ∃ r, Lev S (most.toNat - 1) r ∧ 2 * S.length - 2 ≤ r.length ∧ c = fun i => cntL i (r.take (2 * S.length - 2))))) ∨
  (¬ (fs.length ≤ 288 ∧ okF fs = true ∧ 1 ≤ most ∧ most ≤ 15 ∧ (comes fs fs.length).length ≤ 2 ^ most.toNat) ∧ e = .returned (.tuple #[.slice none 0 0, .int .i64 1]) ∧ Below w.heap.size w w')
end Go.Proofs.YtlbadjfcffoakaaDoor
namespace Go.Proofs.YtlbadjfcffoakaaDoor
open Go.RowKit
set_option linter.unusedVariables false
set_option maxRecDepth 20000

def rv (x : Nat) : Nat → Nat
  | 0 => 0
  | n + 1 => 2 * rv x n + x / 2 ^ n % 2
theorem rv_lt (x n : Nat) : rv x n < 2 ^ n := by
  induction n with
  | zero => simp [rv]
  | succ n ih => simp only [rv, Nat.pow_succ]; have := Nat.mod_lt (x / 2 ^ n) (show 0 < 2 by omega); omega
theorem rv_low (x n k : Nat) (hk : k ≤ n) : rv (x % 2 ^ n) k = rv x k := by
  induction k with
  | zero => rfl
  | succ k ih =>
    simp only [rv, ih (by omega)]
    congr 1
    rw [← Nat.toNat_testBit, ← Nat.toNat_testBit, Nat.testBit_mod_two_pow, decide_eq_true (by omega), Bool.true_and]
theorem rv_split (x n m : Nat) : rv x (n + m) = rv x n * 2 ^ m + rv (x / 2 ^ n) m := by
  induction m with
  | zero => simp [rv]
  | succ m ih =>
    rw [show n + (m + 1) = n + m + 1 by omega]
    simp only [rv, ih]
    rw [Nat.div_div_eq_div_mul, ← Nat.pow_add, Nat.pow_succ, ← Nat.mul_assoc]
    omega
theorem rv_zero (n : Nat) : rv 0 n = 0 := by
  induction n with
  | zero => rfl
  | succ n ih => simp [rv, ih]
theorem rv_top (x n m : Nat) (h : x < 2 ^ n) : rv x (n + m) / 2 ^ m = rv x n := by
  rw [rv_split, Nat.div_eq_of_lt h, rv_zero, Nat.add_zero, Nat.mul_div_cancel _ (Nat.pos_of_ne_zero (by simp))]
theorem rev8_rv : ∀ y : Fin 256, Lib.rev8 (y.val : Int) = ((rv y.val 8 : Nat) : Int) := by decide +kernel
theorem rv_both (hi lo : Nat) (h : hi < 256) (h2 : lo < 256) : rv (hi * 256 + lo) 16 = rv lo 8 * 256 + rv hi 8 := by
  have h1 := rv_split (hi * 256 + lo) 8 8
  have h3 := rv_low (hi * 256 + lo) 8 8 (Nat.le_refl _)
  rw [← h3] at h1
  simp only [show (2 : Nat) ^ 8 = 256 from rfl, show 8 + 8 = 16 from rfl] at h1
  rw [show (hi * 256 + lo) % 256 = lo by omega, show (hi * 256 + lo) / 256 = hi by omega] at h1
  exact h1
theorem or_add (a b : Nat) (h : a < 256) : a ||| (b * 256) = b * 256 + a := by
  have e := Nat.two_pow_add_eq_or_of_lt (i := 8) (show a < 2 ^ 8 by omega) b
  rw [Nat.or_comm, show b * 256 = 2 ^ 8 * b by omega, ← e]

set_option maxRecDepth 20000 in
set_option maxHeartbeats 1000000 in
theorem reverse16_ok (x : Nat) (hx : x < 65536) (w : World) :
    Calls Tryd.prog 77 #[.int .u16 x] w fun e w' => e = .returned (.int .u16 (rv x 16 : Nat)) ∧ ∃ k, w' = w.drewN k := by
  obtain ⟨hi, hhi⟩ : ∃ hi, x / 256 = hi := ⟨_, rfl⟩
  obtain ⟨lo, hlo⟩ : ∃ lo, x % 256 = lo := ⟨_, rfl⟩
  have hsh : (x : Int) / 2 ^ 8 = (hi : Int) := by omega
  have hsh2 : (x : Int) / 256 = (hi : Int) := by omega
  have han : bits .and .u16 (x : Int) 255 = (lo : Int) := by
    have h := u16_and_nat x 255 hx (by omega)
    rw [← hlo, show (255 : Int) = ((255 : Nat) : Int) from rfl, h, show 255 = 2 ^ 8 - 1 from rfl, Nat.and_two_pow_sub_one_eq_mod]
  have hhb : hi < 256 := by omega
  have hlb : lo < 256 := by omega
  have r1 := rev8_rv ⟨hi, hhb⟩
  have r2 := rev8_rv ⟨lo, hlb⟩
  have b1 := rv_lt hi 8
  have b2 := rv_lt lo 8
  have hr := rv_both hi lo hhb hlb
  rw [show hi * 256 + lo = x by omega] at hr
  obtain ⟨p, hp⟩ : ∃ p, rv hi 8 = p := ⟨_, rfl⟩
  obtain ⟨q, hq⟩ : ∃ q, rv lo 8 = q := ⟨_, rfl⟩
  simp only [hp] at r1 b1 hr
  simp only [hq] at r2 b2 hr
  have HR : Hid (rv x 16 = q * 256 + p) := hr
  have hor : bits .or .u16 (p : Int) ((q : Int) * 256) = ((q * 256 + p : Nat) : Int) := by
    have h := u16_or_nat p (q * 256) (by omega) (by omega)
    rw [← or_add p q (by omega), ← h]; simp
  have j1 : (hi : Int) ≤ 255 := by omega
  have j2 : (lo : Int) ≤ 255 := by omega
  have j3 : (0 : Int) ≤ (hi : Int) := by omega
  have j4 : (0 : Int) ≤ (lo : Int) := by omega
  have k1 : IntKind.u16.wrap ((q : Int) * 2 ^ 8) = (q : Int) * 256 := by rw [IntKind.wrap_u16]; omega
  have k2 : IntKind.u16.wrap ((q : Int) * 256) = (q : Int) * 256 := by rw [IntKind.wrap_u16]; omega
  have k3 : (p : Int) % 65536 = (p : Int) := by omega
  have k4 : (q : Int) % 65536 = (q : Int) := by omega
  clear hp hq hr hhi hlo hx
  go_enter Tryd.func77, Tryd.ntmps77
  generalize hT : ByteArray.mk _ = T
  obtain rfl : T = Lib.rev8tab := by rw [← hT]; rfl
  clear hT
  go_wp2_with fail
  go_quiet (fail)
  go_wp2
  go_ret
  exact ⟨by rw [HR.out]; simp only [Int.natCast_add, Int.natCast_mul]; rfl, nq, rfl⟩
set_option maxRecDepth 20000 in
set_option maxHeartbeats 1000000 in
theorem turn_ok (x n : Nat) (hn : n ≤ 15) (hx : x < 2 ^ n) (w : World) :
    Calls Tryd.prog 70 #[.int .i64 x, .int .i64 n] w fun e w' => e = .returned (.int .i64 (rv x n : Nat)) ∧ ∃ k, w' = w.drewN k := by
  have hx16 : x < 65536 := Nat.lt_of_lt_of_le hx (Nat.le_trans (Nat.pow_le_pow_right (by omega) hn) (by decide))
  have HC : Hid (∀ W, Calls Tryd.prog 77 #[.int .u16 x] W fun e w' => e = .returned (.int .u16 (rv x 16 : Nat)) ∧ ∃ k, w' = W.drewN k) := fun W => reverse16_ok x hx16 W
  have htop := rv_top x n (16 - n) hx
  rw [show n + (16 - n) = 16 by omega] at htop
  have hb := rv_lt x 16
  obtain ⟨y, hy⟩ : ∃ y, rv x 16 = y := ⟨_, rfl⟩
  obtain ⟨z, hz⟩ : ∃ z, rv x n = z := ⟨_, rfl⟩
  obtain ⟨d, hd⟩ : ∃ d : Nat, 16 - n = d := ⟨_, rfl⟩
  rw [hy] at htop hb HC
  rw [hz] at htop ⊢
  rw [hd] at htop
  have hdi : (16 : Int) - (n : Int) = (d : Int) := by omega
  have hdw : IntKind.i64.wrap ((16 : Int) - (n : Int)) = (d : Int) := by rw [IntKind.wrap_i64]; omega
  have hsh : (y : Int) / 2 ^ d = (z : Int) := by rw [← htop]; simp
  have hxm : (x : Int) % 65536 = (x : Int) := by omega
  have hxw : IntKind.u16.wrap (x : Int) = (x : Int) := by rw [IntKind.wrap_u16]; omega
  have hzb : z < 65536 := by rw [← htop]; exact Nat.lt_of_le_of_lt (Nat.div_le_self _ _) hb
  have hzw : IntKind.i64.wrap (z : Int) = (z : Int) := by rw [IntKind.wrap_i64]; omega
  clear htop hy hz hd hx
  go_enter Tryd.func70, Tryd.ntmps70
  go_wp2_with fail
  refine (HC.out _).mono ?_
  rintro e w1 ⟨rfl, k, rfl⟩
  go_wp2
  go_ret
  exact ⟨rfl, k, rfl⟩
end Go.Proofs.YtlbadjfcffoakaaDoor
namespace Go.Proofs.YtlbadjfcffoakaaDoor
open Go.RowKit PT Go.Sort
set_option linter.unusedVariables false
set_option maxRecDepth 20000

def frq (fs : List Int) (s : Nat) : Nat := (fs.getD s 0).toNat
theorem Leaves.at {fs : List Int} {ss : List Nat} {l : List PT} (h : Leaves fs ss l) {t : PT} (ht : t ∈ l) : ∃ s ∈ ss, t.syms = [s] ∧ t.wt = frq fs s ∧ t.lf = true := by
  have : (t.syms, t.wt, t.lf) ∈ ss.map fun s => ([s], (fs.getD s 0).toNat, true) := by rw [← h]; exact List.mem_map_of_mem ht
  obtain ⟨s, hs, e⟩ := List.mem_map.1 this
  simp only [Prod.mk.injEq] at e
  exact ⟨s, hs, e.1.symm, e.2.1.symm, e.2.2.symm⟩
theorem Leaves.ok {fs : List Int} {n : Nat} {l : List PT} (h : Leaves fs (comes fs n) l) : OKL (frq fs) l := fun t ht => by
  obtain ⟨s, hs, e1, e2, _⟩ := h.at ht
  have hp := (comes_lt hs).2
  refine ⟨by rw [e1, e2]; simp, fun u hu => ?_, by rw [e1]; simp⟩
  rw [e1] at hu
  simp at hu
  subst hu
  unfold frq; omega
theorem wtL_bound {l : List PT} {B : Nat} (h : ∀ t ∈ l, t.wt ≤ B) : wtL l ≤ l.length * B := by
  induction l with
  | nil => simp [wtL]
  | cons t r ih =>
    have h1 := ih (fun u hu => h u (by simp [hu]))
    have h2 := h t (by simp)
    simp only [wtL, List.length_cons, Nat.add_mul, Nat.one_mul]; omega
theorem sum_len {F : Nat → Nat} : ∀ {l : List Nat}, (∀ s ∈ l, 0 < F s) → l.length ≤ (l.map F).sum
  | [], _ => by simp
  | t :: l, h => by
    have h1 := sum_len (F := F) (l := l) (fun s hs => h s (by simp [hs]))
    have h2 := h t (by simp)
    simp only [List.map_cons, List.sum_cons, List.length_cons]; omega
theorem cntL_le_wtL {F : Nat → Nat} {l : List PT} (h : OKL F l) (i : Nat) : cntL i l ≤ wtL l := by
  induction l with
  | nil => simp [cntL, wtL]
  | cons t r ih =>
    have h1 := ih (fun u hu => h u (by simp [hu]))
    have h2 := h t (by simp)
    have h3 : t.cnt i ≤ t.wt := by
      rw [h2.1]
      exact Nat.le_trans List.count_le_length (sum_len h2.2.1)
    simp only [cntL, wtL]; omega

structure SingF (W w2 : World) (L N : Nat) (fs : List Int) (ao : Option Addr) (M cp : Nat) (S l : List PT) : Prop where
  len : S.length = M
  row : M = 0 ∨ ∃ g, ao = some ⟨g, 0, none⟩ ∧ g < w2.heap.size ∧ M ≤ cp ∧ cp ≤ 9223372036854775807 ∧ PRow w2 g 0 S
  asc : Asc S
  leaves : Leaves fs (comes fs N) l
  perm : S.Perm l
  laid : ∀ t ∈ S, Laid w2 L N t
  bel : Below W.heap.size W w2
theorem SingEnd.form {W w2 : World} {L N : Nat} {fs : List Int} {e : Ending} (h : SingEnd W L N fs e w2) : ∃ ao M cp S l, e = .returned (.slice ao M cp) ∧ SingF W w2 L N fs ao M cp S l := by
  obtain ⟨v, S, rfl, hv, hasc, ⟨l, hlv, hpm⟩, hla, hbel⟩ := h
  rcases hv with ⟨rfl, rfl⟩ | ⟨g, cap, rfl, h1, h2, h3, h4⟩
  · exact ⟨none, 0, 0, [], l, rfl, rfl, .inl rfl, hasc, hlv, hpm, hla, hbel⟩
  · exact ⟨_, _, _, S, l, rfl, rfl, .inr ⟨g, rfl, h1, h2, h3, h4⟩, hasc, hlv, hpm, hla, hbel⟩
set_option maxRecDepth 20000 in
set_option maxHeartbeats 4000000 in
theorem lengths_ok (fs : List Int) (a : Option Addr) (c N : Nat) (most : Int) (w : World) (hN : fs.length = N) (hrow : IRow w a fs) (hlen : N ≤ 9223372036854775807) (hsort : N ≤ 288 → SortsTo (comes fs N).length) :
    Calls Tryd.prog 61 #[.slice a N c, .int .i64 most] w fun e w' => LensEnd w fs most e w' := by
  have HR : Hid (IRow w a fs) := hrow
  have HN : Hid (fs.length = N) := hN
  have HSO : Hid (N ≤ 288 → SortsTo (comes fs N).length) := hsort
  have HA : Hid (Calls Tryd.prog 73 #[.slice a N c] w fun e w' => e = .returned (.bool (okF fs)) ∧ w' = w) := areFreqs_ok fs a c N w hN hrow hlen
  clear hrow hN hsort
  have refuse : ¬ (fs.length ≤ 288 ∧ okF fs = true ∧ 1 ≤ most ∧ most ≤ 15 ∧ (comes fs fs.length).length ≤ 2 ^ most.toNat) → ∀ w', Below w.heap.size w w' → LensEnd w fs most (.returned (.tuple #[.slice none 0 0, .int .i64 1])) w' := fun h w' hb => .inr ⟨h, rfl, hb⟩
  have HRF : Hid _ := refuse
  clear refuse
  go_enter Tryd.func61, Tryd.ntmps61
  by_cases h1 : 288 < N
  · have h1i : (288 : Int) < (N : Int) := by omega
    go_wp2
    go_ret2
    exact HRF.out (by rw [HN.out]; omega) _ (Below.refl _ _)
  · have h1i : ¬ (288 : Int) < (N : Int) := by omega
    obtain ⟨q, hq⟩ : ∃ q, okF fs = q := ⟨_, rfl⟩
    have HQ : Hid (okF fs = q) := hq
    have HA2 : Hid (∀ _ : Unit, Calls Tryd.prog 73 #[.slice a N c] w fun e w' => e = .returned (.bool q) ∧ w' = w) := fun _ => by rw [← hq]; exact HA.out
    clear hq HA
    cases q with
    | false =>
      go_wp2_with (go_at_call 73; refine (HA2.out ()).mono ?_; rintro e w1 ⟨rfl, hw⟩; obtain rfl := hw.symm)
      go_ret2
      exact HRF.out (by rw [HQ.out]; simp) _ (Below.refl _ _)
    | true =>
      by_cases h2 : most < 1
      · go_wp2_with (go_at_call 73; refine (HA2.out ()).mono ?_; rintro e w1 ⟨rfl, hw⟩; obtain rfl := hw.symm)
        go_ret2
        exact HRF.out (by omega) _ (Below.refl _ _)
      · by_cases h3 : 15 < most
        · go_wp2_with (go_at_call 73; refine (HA2.out ()).mono ?_; rintro e w1 ⟨rfl, hw⟩; obtain rfl := hw.symm)
          go_ret2
          exact HRF.out (by omega) _ (Below.refl _ _)
        · obtain ⟨mo, hmo⟩ : ∃ mo : Nat, most = (mo : Int) := ⟨most.toNat, by omega⟩
          subst hmo
          have hm1 : 1 ≤ mo := by omega
          have hm2 : mo ≤ 15 := by omega
          obtain ⟨i0, hi, hz0, hz1, hz2⟩ := info_split intInfo
          have HI : Hid (Tryd.prog.info? 3 = some i0 ∧ i0.zero = some (.int .i64 0) ∧ i0.size = 1 ∧ i0.bytes = 8) := ⟨hi, hz0, hz1, hz2⟩
          have HSI : Hid (∀ W, W = w.alloc (.cells (madeCells #[.int .i64 0] N) 3) → Calls Tryd.prog 74 #[.slice a N c, .slice (some ⟨w.heap.size, 0, none⟩) N N] W fun e w' => SingEnd W w.heap.size N fs e w') := by
            rintro W rfl
            have hal : Below w.heap.size w (w.alloc (.cells (madeCells #[.int .i64 0] N) 3)) := (Below.refl _ _).alloc (Nat.le_refl _) _
            exact singlePacks_ok fs a c w.heap.size N _ HN.out (HR.out.below hal) (by simp) (okF_get HQ.out) (by omega) (HSO.out (by omega))
          clear hi hz0 hz1 hz2
          obtain ⟨mk, hmk⟩ : ∃ W, w.alloc (.cells (madeCells #[.int .i64 0] N) 3) = W := ⟨_, rfl⟩
          have HMK : Hid (w.alloc (.cells (madeCells #[.int .i64 0] N) 3) = mk) := hmk
          clear hmk
          go_wp2_with (first
            | (go_at_call 73; refine (HA2.out ()).mono ?_; rintro e w1 ⟨rfl, hw⟩; obtain rfl := hw.symm)
            | (at_make; refine wpList_make_row _ rfl _ _ 41 rfl 3 i0 (.int .i64 0) Tryd.underlying41 HI.out.1 HI.out.2.1 HI.out.2.2.1 rfl .i64 .i64 N rfl rfl (by rw [HI.out.2.2.2]; omega) (by omega) ?_; rw [HMK.out]))
          refine (HSI.out _ HMK.out.symm).mono ?_
          intro e w2 hE
          obtain ⟨ao, M, cp, S, l, rfl, hSF⟩ := hE.form
          have HSF : Hid (SingF mk w2 w.heap.size N fs ao M cp S l) := hSF
          have hsz : mk.heap.size = w.heap.size + 1 := by rw [← HMK.out]; simp
          have hbm : Below w.heap.size w mk := by rw [← HMK.out]; exact (Below.refl _ _).alloc (Nat.le_refl _) _
          have HB2 : Hid (Below w.heap.size w w2) := hbm.trans (hSF.bel.mono hbm.size)
          have HLB : Hid (LB w2 w.heap.size N (fun _ => 0)) := by
            have : LB mk w.heap.size N (fun _ => 0) := by rw [← HMK.out]; exact made_zero w N
            exact this.below hSF.bel
          have hMc : (comes fs N).length = M := by rw [← hSF.leaves.length, ← hSF.perm.length_eq, hSF.len]
          have hM288 : M ≤ 288 := by rw [← hMc]; exact Nat.le_trans (comes_length_le fs N) (by omega)
          have HMC : Hid ((comes fs N).length = M) := hMc
          obtain ⟨T, hT⟩ : ∃ T, 2 ^ mo = T := ⟨_, rfl⟩
          have hTb : T ≤ 32768 := by
            rw [← hT, show 32768 = 2 ^ 15 from rfl]
            exact Nat.pow_le_pow_right (by omega) hm2
          have hsh : wrap64 ((2 : Int) ^ mo) = (T : Int) := by
            rw [← hT]
            have e : ((2 : Int) ^ mo) = ((2 ^ mo : Nat) : Int) := by simp
            rw [e]
            unfold wrap64
            rw [hT]
            omega
          have HTT : Hid (2 ^ mo = T) := hT
          have HWT : Hid (wtL S ≤ 316659348799488) := by
            show _ ≤ _
            rw [wtL_perm hSF.perm]
            refine Nat.le_trans (wtL_bound (B := 1099511627776) (fun t ht => ?_)) ?_
            · obtain ⟨s, hs, _, e, _⟩ := hSF.leaves.at ht
              have := (okF_get HQ.out s).2
              rw [e]; unfold frq; omega
            · rw [← hSF.perm.length_eq, hSF.len]; omega
          have HOK : Hid (OKL (frq fs) S) := fun t ht => hSF.leaves.ok t (hSF.perm.mem_iff.1 ht)
          clear hSF hE hMc hT hsz hbm
          by_cases hgt : T < M
          · have hgti : (T : Int) < (M : Int) := by omega
            go_wp2
            go_ret2
            refine HRF.out ?_ _ HB2.out
            rw [HN.out, HMC.out]
            rintro ⟨_, _, _, _, h⟩
            rw [show ((mo : Int).toNat) = mo by simp, HTT.out] at h
            omega
          · have hgti : ¬ (T : Int) < (M : Int) := by omega
            by_cases hone : 1 < M
            · have honei : (1 : Int) < (M : Int) := by omega
              obtain ⟨g, hao, hg, hcp, hcm, hrw⟩ : ∃ g, ao = some ⟨g, 0, none⟩ ∧ g < w2.heap.size ∧ M ≤ cp ∧ cp ≤ 9223372036854775807 ∧ PRow w2 g 0 S := by
                rcases HSF.out.row with h | h
                · omega
                · exact h
              subst hao
              have hbp := fun _ : Unit => bestPacks_ok S w.heap.size N g 0 cp mo w2 hrw HSF.out.laid (by have := HB2.out.size; have := HSF.out.bel.size; have := lt_heap HLB.out; omega) hg (by rw [HSF.out.len]; exact hcp) hcm (by rw [HSF.out.len]; omega) (by rw [HSF.out.len]; exact hM288) HWT.out hm1 hm2 (by rw [HSF.out.len, HTT.out]; omega)
              rw [HSF.out.len] at hbp
              have HBP : Hid _ := hbp
              clear hbp hrw
              go_wp2_with fail
              refine (HBP.out ()).mono ?_
              rintro e w3 ⟨r, g3, o3, c3, rfl, hlev, hrl, hrow3, hlaid3, hbel3⟩
              rw [HSF.out.len] at hrl ⊢
              obtain ⟨K, hK⟩ : ∃ K, 2 * M - 2 = K := ⟨_, rfl⟩
              rw [hK] at hrl ⊢
              have hKb : K ≤ 600 := by omega
              have HK : Hid (2 * M - 2 = K) := hK
              have HLV : Hid (Lev S (mo - 1) r ∧ K ≤ r.length) := ⟨hlev, hrl⟩
              have HCB : Hid (∀ i, cntL i r < 4611686018427387904) := fun i => by
                have h1 := cntL_le_wtL (Lev.ok HOK.out hlev) i
                have h2 := hlev.wt
                have h3 : (mo - 1 + 1) * wtL S ≤ 15 * wtL S := Nat.mul_le_mul_right _ (by omega)
                have := HWT.out
                omega
              have H3 : Hid (LenSt w w3 w.heap.size N g3 o3 r 0) := ⟨(HLB.out.below hbel3).congr (fun i _ => by simp [cntL]), hrow3, hlaid3, HB2.out.trans (hbel3.mono HB2.out.size), Nat.le_refl _⟩
              clear hlev hrl hrow3 hlaid3 hbel3 hK
              go_wp2
              go_loopw [9, 45] (fun _ v45 wr => ∃ j : Nat, v45 = .int .i64 j ∧ j ≤ K ∧ Hid (LenSt w wr w.heap.size N g3 o3 r j)) (fun _ v45 _ => K - (intOf v45).toNat)
              case atStart => exact ⟨0, rfl, by omega, H3⟩
              case round =>
                obtain ⟨j, rfl, hj, HS⟩ := hrel
                by_cases hlt : j < K
                · have hlti : (j : Int) < (K : Int) := by omega
                  obtain ⟨t, ht⟩ : ∃ t, r[j]? = some t := ⟨_, List.getElem?_eq_getElem (by have := HLV.out.2; omega)⟩
                  obtain ⟨k1, k2⟩ := HS.out.row j t ht
                  have hst : Hid (∀ ob, Calls Tryd.prog t.fn t.cap (wr.alloc ob) fun e w' => e = .returned (.tuple #[]) ∧ LenSt w w' w.heap.size N g3 o3 r (j + 1)) := fun ob => HS.out.step (w' := w) ht HCB.out
                  unfold PT.fv at k2
                  obtain ⟨kf, hkf⟩ : ∃ k, t.fn = k := ⟨_, rfl⟩
                  obtain ⟨kc, hkc⟩ : ∃ k, t.cap = k := ⟨_, rfl⟩
                  obtain ⟨kw, hkw⟩ : ∃ k, t.wt = k := ⟨_, rfl⟩
                  have hk2 : kf = 79 ∨ kf = 93 := by rw [← hkf]; unfold PT.fn; split <;> simp
                  rw [hkf, hkc] at k2 hst
                  rw [hkw] at k1
                  clear hkf hkc hkw ht
                  rcases hk2 with rfl | rfl
                  all_goals
                    go_wp2_with fail
                    refine (hst.out _).mono ?_
                    rintro e w4 ⟨rfl, h4⟩
                    have H4 : Hid (LenSt w w4 w.heap.size N g3 o3 r (j + 1)) := h4
                    clear h4
                    go_wp2
                    exact ⟨⟨j + 1, by go_num, by omega, H4⟩, by simp [intOf]; omega⟩
                · obtain rfl : j = K := by omega
                  go_wp2
                  go_ret2
                  refine .inl ⟨by rw [HN.out]; omega, HQ.out, by omega, by omega, ?_, ?_⟩
                  · rw [HN.out, HMC.out, show ((mo : Int).toNat) = mo by simp, HTT.out]; omega
                  · refine ⟨w.heap.size, _, S, l, by rw [HN.out]; rfl, by rw [HN.out]; exact HS.out.lb, Nat.le_refl _, HS.out.bel, HSF.out.asc, by rw [HN.out]; exact HSF.out.leaves, HSF.out.perm, .inr ⟨by rw [HSF.out.len]; omega, r, by rw [show ((mo : Int).toNat) = mo by simp]; exact HLV.out.1, by rw [HSF.out.len, HK.out]; exact HLV.out.2, by rw [HSF.out.len, HK.out]⟩⟩
            · have honei : ¬ (1 : Int) < (M : Int) := by omega
              obtain ⟨g3, hgr, hrw⟩ : ∃ g, (M = 0 ∨ ao = some ⟨g, 0, none⟩) ∧ PRow w2 g 0 S := by
                rcases HSF.out.row with h | ⟨g, h1, _, _, _, h5⟩
                · refine ⟨0, .inl h, ?_⟩
                  rw [List.eq_nil_of_length_eq_zero (HSF.out.len.trans h)]
                  intro i t ht; simp at ht
                · exact ⟨g, .inr h1, h5⟩
              have HCB : Hid (∀ i, cntL i S < 4611686018427387904) := fun i => by
                have h1 := cntL_le_wtL HOK.out i
                have := HWT.out
                omega
              have H3 : Hid (LenSt w w2 w.heap.size N g3 0 S 0) := ⟨HLB.out.congr (fun i _ => by simp [cntL]), hrw, HSF.out.laid, HB2.out, Nat.le_refl _⟩
              clear hrw
              rcases hgr with hM0 | hao
              · go_wp2
                go_loopw [9, 45] (fun _ v45 wr => ∃ j : Nat, v45 = .int .i64 j ∧ j ≤ M ∧ Hid (LenSt w wr w.heap.size N g3 0 S j)) (fun _ v45 _ => M - (intOf v45).toNat)
                case atStart => exact ⟨0, rfl, by omega, H3⟩
                case round =>
                  obtain ⟨j, rfl, hj, HS⟩ := hrel
                  by_cases hlt : j < M
                  · omega
                  · obtain rfl : j = M := by omega
                    go_wp2
                    go_ret2
                    refine .inl ⟨by rw [HN.out]; omega, HQ.out, by omega, by omega, ?_, ?_⟩
                    · rw [HN.out, HMC.out, show ((mo : Int).toNat) = mo by simp, HTT.out]; omega
                    · refine ⟨w.heap.size, _, S, l, by rw [HN.out]; rfl, by rw [HN.out]; exact HS.out.lb, Nat.le_refl _, HS.out.bel, HSF.out.asc, by rw [HN.out]; exact HSF.out.leaves, HSF.out.perm, .inl ⟨by rw [HSF.out.len]; omega, ?_⟩⟩
                      rw [List.take_of_length_le (by rw [HSF.out.len]; exact Nat.le_refl _)]
              · subst hao
                rcases Nat.eq_zero_or_pos M with hM0 | hM0
                · subst hM0
                  have H4 := H3
                  go_wp2
                  refine wp_loop_rounds 1 ?_
                  rw [rounds_succ]
                  go_wp2
                  go_ret2
                  refine .inl ⟨by rw [HN.out]; omega, HQ.out, by omega, by omega, ?_, ?_⟩
                  · rw [HN.out, HMC.out, show ((mo : Int).toNat) = mo by simp, HTT.out]; omega
                  · refine ⟨w.heap.size, _, S, l, by rw [HN.out]; rfl, by rw [HN.out]; exact H4.out.lb, Nat.le_refl _, H4.out.bel, HSF.out.asc, by rw [HN.out]; exact HSF.out.leaves, HSF.out.perm, .inl ⟨by rw [HSF.out.len]; omega, ?_⟩⟩
                    rw [List.take_of_length_le (by rw [HSF.out.len]; exact Nat.le_refl _)]
                obtain rfl : M = 1 := by omega
                obtain ⟨t, ht⟩ : ∃ t, S[0]? = some t := ⟨_, List.getElem?_eq_getElem (by have := HSF.out.len; omega)⟩
                obtain ⟨k1, k2⟩ := H3.out.row 0 t ht
                have hst : Hid (∀ ob, Calls Tryd.prog t.fn t.cap (w2.alloc ob) fun e w' => e = .returned (.tuple #[]) ∧ LenSt w w' w.heap.size N g3 0 S 1) := fun ob => H3.out.step (w' := w) ht HCB.out
                unfold PT.fv at k2
                obtain ⟨kf, hkf⟩ : ∃ k, t.fn = k := ⟨_, rfl⟩
                obtain ⟨kc, hkc⟩ : ∃ k, t.cap = k := ⟨_, rfl⟩
                obtain ⟨kw, hkw⟩ : ∃ k, t.wt = k := ⟨_, rfl⟩
                have hk2 : kf = 79 ∨ kf = 93 := by rw [← hkf]; unfold PT.fn; split <;> simp
                rw [hkf, hkc] at k2 hst
                rw [hkw] at k1
                have k1 : w2.cell? ⟨g3, 0, none⟩ = some (.int .i64 (kw : Nat)) := k1
                have k2 : w2.cell? ⟨g3, 1, none⟩ = some (.func (.func kf) #[] kc) := k2
                clear hkf hkc hkw ht
                go_wp2
                refine wp_loop_rounds 2 ?_
                rw [rounds_succ]
                rcases hk2 with rfl | rfl
                all_goals
                  go_wp2_with fail
                  refine (hst.out _).mono ?_
                  rintro e w4 ⟨rfl, h4⟩
                  have H4 : Hid (LenSt w w4 w.heap.size N g3 0 S 1) := h4
                  clear h4
                  go_wp2
                  rw [rounds_succ]
                  go_wp2
                  go_ret2
                  refine .inl ⟨by rw [HN.out]; omega, HQ.out, by omega, by omega, ?_, ?_⟩
                  · rw [HN.out, HMC.out, show ((mo : Int).toNat) = mo by simp, HTT.out]; omega
                  · refine ⟨w.heap.size, _, S, l, by rw [HN.out]; rfl, by rw [HN.out]; exact H4.out.lb, Nat.le_refl _, H4.out.bel, HSF.out.asc, by rw [HN.out]; exact HSF.out.leaves, HSF.out.perm, .inl ⟨by rw [HSF.out.len]; omega, ?_⟩⟩
                    rw [List.take_of_length_le (by rw [HSF.out.len]; exact Nat.le_refl _)]
end Go.Proofs.YtlbadjfcffoakaaDoor
