/- The canonical words: the function itself. -/
/- A word turned about: its last bit first. -/
/- A table: what it holds, and how it is made. -/
import Derived.Test.YtbcflkdaeboflaaDoorV05
import Derived.Test.YtbcflkdaeboflaaDoorV04
import Derived.Lib.Tables
import Derived.Deep.QuietTactic
import Derived.Deep.RegionHeldLaw
import Derived.Deep.AppendLies
namespace Go.Proofs.YtbcflkdaeboflaaDoor
open Go.RowKit
set_option linter.unusedVariables false
set_option maxRecDepth 20000

theorem nx0_last (ns : List Nat) : lcells 16 (nx0 ns 16) = lcells 16 (nxt ns 0) := lcells_congr (fun i hi => by
  unfold nx0 nxt
  rw [if_pos hi]
  split
  · subst_vars; rfl
  · simp [lcnt])
theorem nx0_step (ns : List Nat) (k : Nat) : (lcells 16 (nx0 ns k)).setIfInBounds k (.int .i64 ((fstW ns k : Nat) : Int)) = lcells 16 (nx0 ns (k + 1)) := by
  rw [lcells_set]
  refine lcells_congr (fun i _ => ?_)
  unfold nx0
  by_cases e : i = k
  · subst e; rw [if_pos rfl, if_pos (by omega)]
  · rw [if_neg e]
    by_cases e2 : i < k
    · rw [if_pos e2, if_pos (by omega)]
    · rw [if_neg e2, if_neg (by omega)]
theorem nxt_step (ns : List Nat) (i l : Nat) (hl : 0 < l) (hg : ns.getD i 0 = l) : (lcells 16 (nxt ns i)).setIfInBounds l (.int .i64 ((nxt ns i l + 1 : Nat) : Int)) = lcells 16 (nxt ns (i + 1)) := by
  rw [lcells_set]
  refine lcells_congr (fun k _ => ?_)
  unfold nxt
  simp only [lcnt, hg]
  by_cases e : k = l
  · subst e; rw [if_pos rfl, if_neg (by omega), if_neg (by omega), if_pos rfl]; omega
  · rw [if_neg e, if_neg (Ne.symm e)]; simp
theorem nxt_skip (ns : List Nat) (i : Nat) (hg : ns.getD i 0 = 0) : lcells 16 (nxt ns i) = lcells 16 (nxt ns (i + 1)) := lcells_congr (fun k _ => by
  unfold nxt
  simp only [lcnt, hg]
  by_cases e : k = 0
  · rw [if_pos e, if_pos e]
  · rw [if_neg e, if_neg e, if_neg (Ne.symm e)]; rfl)
theorem wds_step (ns : List Nat) (N i l : Nat) (hl : 0 < l) (hg : ns.getD i 0 = l) : (lcells N (wds ns i)).setIfInBounds i (.int .i64 ((nxt ns i l : Nat) : Int)) = lcells N (wds ns (i + 1)) := by
  rw [lcells_set]
  refine lcells_congr (fun k _ => ?_)
  unfold wds
  by_cases e : k = i
  · subst e
    rw [if_pos rfl, if_pos (by omega)]
    unfold cw nxt codeW
    rw [if_neg (by omega), if_neg (by omega), hg]
  · rw [if_neg e]
    by_cases e2 : k < i
    · rw [if_pos e2, if_pos (by omega)]
    · rw [if_neg e2, if_neg (by omega)]
theorem wds_skip (ns : List Nat) (N i : Nat) (hg : ns.getD i 0 = 0) : lcells N (wds ns i) = lcells N (wds ns (i + 1)) := lcells_congr (fun k _ => by
  unfold wds
  by_cases e : k = i
  · subst e; rw [if_neg (by omega), if_pos (by omega)]; unfold cw; rw [if_pos hg]
  · by_cases e2 : k < i
    · rw [if_pos e2, if_pos (by omega)]
    · rw [if_neg e2, if_neg (by omega)])
theorem wds_all (ns : List Nat) (N : Nat) : lcells N (wds ns N) = lcells N (cw ns) := lcells_congr (fun k hk => by unfold wds; rw [if_pos hk])
theorem nxt_small (ns : List Nat) (h : ns.length ≤ 288) (i l : Nat) (hi : i ≤ 288) (hl : l ≤ 15) : nxt ns i l ≤ 18874656 := by
  unfold nxt
  split
  · omega
  · rw [fstW_ew ns l (by omega)]
    have h1 := ew_small ns h (l - 1) (by omega)
    have h2 := lcnt_le ns l i
    omega
theorem made_lcells (N : Nat) : madeCells #[.int .i64 0] N = lcells N (fun _ => 0) := by
  apply Array.ext'
  rw [toList_madeCells_one]
  unfold lcells
  apply List.ext_getElem
  · simp
  · intro i h1 h2; simp

set_option maxRecDepth 20000 in
set_option maxHeartbeats 4000000 in
theorem codes_ok (xs : List Int) (a : Option Addr) (c N : Nat) (w : World) (hN : xs.length = N) (hrow : IRow w a xs) (hlen : N ≤ 9223372036854775807) :
    Calls Tryd.prog 80 #[.slice a N c] w fun e w' => CodesEnd w xs e w' := by
  have HE : Hid (Calls Tryd.prog 79 #[.slice a N c] w fun e w' => EndsEnd w xs e w') := wordEnds_ok xs a c N w hN hrow hlen
  have HR : Hid (IRow w a xs) := hrow
  have HN : Hid (xs.length = N) := hN
  clear hN hrow
  go_enter Tryd.func80, Tryd.ntmps80
  go_wp2_with fail
  refine Calls.mono HE.out ?_
  rintro e w1 ⟨hcase, hb1⟩
  have HB : Hid (Below w.heap.size w w1) := hb1
  have hgen : ∃ (g : Nat → Nat) (q : Int), e = .returned (.tuple #[.agg (lcells 16 g), .int .i64 q]) ∧ Hid ((may xs = true ∧ ew (nsOf xs) 15 ≤ 32768 ∧ g = ew (nsOf xs) ∧ q = 0) ∨ (¬ (may xs = true ∧ ew (nsOf xs) 15 ≤ 32768) ∧ q = 30)) := by
    rcases hcase with ⟨h1, h2, rfl⟩ | ⟨h1, rfl⟩
    · exact ⟨_, _, rfl, .inl ⟨h1, h2, rfl, rfl⟩⟩
    · exact ⟨_, _, rfl, .inr ⟨h1, rfl⟩⟩
  obtain ⟨g, q, rfl, HG⟩ := hgen
  have hAg : ∀ i, i < 16 → (lcells 16 g)[i]? = some (.int .i64 (g i : Nat)) := fun i hi => lcells_get 16 g i hi
  have hsv := run_storeCells_blk (P := Tryd.prog) (w1.alloc (.cells #[.int .i64 0, .int .i64 0, .int .i64 0, .int .i64 0, .int .i64 0, .int .i64 0, .int .i64 0, .int .i64 0, .int .i64 0, .int .i64 0, .int .i64 0, .int .i64 0, .int .i64 0, .int .i64 0, .int .i64 0, .int .i64 0] 136)) w1.heap.size 136 136 _ (lcells 16 g) (heap_alloc_last _ _) (by rw [lcells_size]; exact perSize) (by rw [lcells_size]; rfl) (lcells_one _ _)
  rw [setRow_last] at hsv
  have hAs := lcells_size 16 g
  obtain ⟨A, hA⟩ : ∃ A, lcells 16 g = A := ⟨_, rfl⟩
  rw [hA] at hAg hsv hAs
  rw [hA]
  have HSV : Hid _ := hsv
  clear hcase hb1 hsv hA
  go_wp2
  simp only [HSV.out, Result.andThen]
  rw [Oper.upon_skip]
  clear hAs HSV
  rcases HG.out with ⟨hmay, hfit, rfl, rfl⟩ | ⟨hno, rfl⟩
  · have HM : Hid (may xs = true ∧ ew (nsOf xs) 15 ≤ 32768) := ⟨hmay, hfit⟩
    have hN288 : N ≤ 288 := by rw [← HN.out]; exact may_len hmay
    have HSM : Hid (∀ l, l ≤ 15 → ew (nsOf xs) l ≤ 9437184) := fun l hl => ew_small _ (by rw [nsOf_length, HN.out]; exact hN288) l hl
    obtain ⟨i0, hi, hz0, hz1, hz2⟩ := info_split intInfo
    have HI : Hid (Tryd.prog.info? 3 = some i0 ∧ i0.zero = some (.int .i64 0) ∧ i0.size = 1 ∧ i0.bytes = 8) := ⟨hi, hz0, hz1, hz2⟩
    clear hi hz0 hz1 hz2 hmay hfit HG HE
    go_wp2
    go_loopw [7] (fun v7 wr => ∃ l : Nat, v7 = .int .i64 l ∧ 1 ≤ l ∧ l ≤ 16 ∧ wr = (w1.alloc (.cells A 136)).alloc (.cells (lcells 16 (nx0 (nsOf xs) l)) 136)) (fun v7 _ => 17 - (intOf v7).toNat)
    case atStart =>
      refine ⟨1, rfl, by omega, by omega, ?_⟩
      have e : lcells 16 (nx0 (nsOf xs) 1) = lcells 16 (fun _ => 0) := lcells_congr (fun i _ => by
        unfold nx0; split
        · rw [show i = 0 by omega]; rfl
        · rfl)
      rw [e, ← z16]
    case round =>
      obtain ⟨l, rfl, hl1, hl2, rfl⟩ := hrel
      by_cases hll : l ≤ 15
      · have hlli : (l : Int) ≤ 15 := by omega
        have k1 := hAg (l - 1) (by omega)
        obtain ⟨v, hv⟩ : ∃ v, ew (nsOf xs) (l - 1) = v := ⟨_, rfl⟩
        have hvb : v ≤ 9437184 := by rw [← hv]; exact HSM.out _ (by omega)
        have HST : Hid ((lcells 16 (nx0 (nsOf xs) l)).setIfInBounds l (.int .i64 (2 * (v : Int))) = lcells 16 (nx0 (nsOf xs) (l + 1))) := by
          show _ = _
          rw [← nx0_step, fstW_ew _ _ hl1, hv]
          congr 2
        rw [hv] at k1
        have hBg := lcells_get 16 (nx0 (nsOf xs) l) l (by omega)
        obtain ⟨B, hBB⟩ : ∃ B, lcells 16 (nx0 (nsOf xs) l) = B := ⟨_, rfl⟩
        rw [hBB] at HST hBg
        rw [hBB]
        have p0 : (0 : Int) ≤ (l : Int) := by omega
        have p1 : (l : Int) < 16 := by omega
        have p2 : ((l : Int)).toNat = l := by simp
        have q0 : (0 : Int) ≤ (l : Int) - 1 := by omega
        have q1 : (l : Int) - 1 < 16 := by omega
        have q2 : ((l : Int) - 1).toNat = l - 1 := by omega
        have q3 : IntKind.i64.wrap ((l : Int) - 1) = (l : Int) - 1 := by rw [IntKind.wrap_i64]; omega
        have r1 : IntKind.i64.wrap (2 * (v : Int)) = 2 * (v : Int) := by rw [IntKind.wrap_i64]; omega
        clear hv hBB
        go_wp2
        refine ⟨⟨l + 1, by go_num, by omega, by omega, ?_⟩, by simp [intOf]; omega⟩
        rw [← HST.out]
      · have hlli : ¬ (l : Int) ≤ 15 := by omega
        obtain rfl : l = 16 := by omega
        rw [nx0_last]
        have HMK := made_lcells N
        clear hll hl1 hl2
        go_wp2_with (at_make; refine wpList_make_row _ rfl _ _ 44 rfl 3 i0 (.int .i64 0) Tryd.underlying44 HI.out.1 HI.out.2.1 HI.out.2.2.1 rfl .i64 .i64 N rfl rfl (by rw [HI.out.2.2.2]; omega) (by omega) ?_; rw [HMK])
        go_loopw [9, 10, 35] (fun _ _ v35 wr => ∃ i : Nat, v35 = .int .i64 i ∧ i ≤ N ∧ wr = ((w1.alloc (.cells A 136)).alloc (.cells (lcells 16 (nxt (nsOf xs) i)) 136)).alloc (.cells (lcells N (wds (nsOf xs) i)) 3)) (fun _ _ v35 _ => N - (intOf v35).toNat)
        case atStart =>
          refine ⟨0, rfl, by omega, ?_⟩
          rw [show lcells N (wds (nsOf xs) 0) = lcells N (fun _ => 0) from lcells_congr (fun i _ => by unfold wds; rw [if_neg (by omega)])]
        case round =>
          obtain ⟨i, rfl, hi, rfl⟩ := hrel
          by_cases hlt : i < N
          · have hlti : (i : Int) < (N : Int) := by omega
            obtain ⟨b, off, rfl, hcell, hb⟩ := (HR.out.below HB.out).at (show i < xs.length by rw [HN.out]; exact hlt)
            obtain ⟨f, hf⟩ : ∃ f : Nat, xs.getD i 0 = (f : Int) := ⟨(xs.getD i 0).toNat, by have := (may_get HM.out.1 i).1; omega⟩
            have hf15 : f ≤ 15 := by have := (may_get HM.out.1 i).2; omega
            have hfn : (nsOf xs).getD i 0 = f := by rw [nsOf_get, hf]; simp
            rw [hf] at hcell
            have hcell2 : ∀ o1 o2 o3, (((w1.alloc o1).alloc o2).alloc o3).cell? ⟨b, off + i, none⟩ = some (.int .i64 (f : Int)) := fun o1 o2 o3 => by
              rw [World.cell?_alloc_past _ _ _ (by simp; omega), World.cell?_alloc_past _ _ _ (by simp; omega), World.cell?_alloc_past _ _ _ hb]; exact hcell
            have HFN : Hid ((nsOf xs).getD i 0 = f) := hfn
            clear hcell hf hfn hb
            by_cases hp : 0 < f
            · have hpi : (0 : Int) < (f : Int) := by omega
              have hBg := lcells_get 16 (nxt (nsOf xs) i) f (by omega)
              have hCg := lcells_get N (wds (nsOf xs) i) i hlt
              have hvb := nxt_small (nsOf xs) (by rw [nsOf_length, HN.out]; exact hN288) i f (by omega) hf15
              have hs1 := nxt_step (nsOf xs) i f hp HFN.out
              have hs2 := wds_step (nsOf xs) N i f hp HFN.out
              obtain ⟨v, hv⟩ : ∃ v, nxt (nsOf xs) i f = v := ⟨_, rfl⟩
              obtain ⟨B, hBB⟩ : ∃ B, lcells 16 (nxt (nsOf xs) i) = B := ⟨_, rfl⟩
              obtain ⟨C, hCC⟩ : ∃ C, lcells N (wds (nsOf xs) i) = C := ⟨_, rfl⟩
              rw [hBB, hv] at hs1 hBg
              rw [hCC, hv] at hs2
              rw [hCC] at hCg
              rw [hv] at hvb
              rw [hBB, hCC]
              have HS : Hid (B.setIfInBounds f (.int .i64 ((v : Int) + 1)) = lcells 16 (nxt (nsOf xs) (i + 1)) ∧ C.setIfInBounds i (.int .i64 (v : Int)) = lcells N (wds (nsOf xs) (i + 1))) := ⟨hs1, hs2⟩
              have p1 : (f : Int) < 16 := by omega
              clear hs1 hs2 hv hBB hCC
              go_wp2
              refine ⟨⟨i + 1, by go_num, by omega, ?_⟩, by simp [intOf]; omega⟩
              rw [← HS.out.1, ← HS.out.2]
            · have hpi : ¬ (0 : Int) < (f : Int) := by omega
              have hs1 := nxt_skip (nsOf xs) i (by rw [HFN.out]; omega)
              have hs2 := wds_skip (nsOf xs) N i (by rw [HFN.out]; omega)
              rw [hs1, hs2]
              clear hs1 hs2
              go_wp2
              exact ⟨⟨i + 1, by go_num, by omega, rfl⟩, by simp [intOf]; omega⟩
          · obtain rfl : i = N := by omega
            rw [wds_all]
            go_wp2
            go_ret2
            have hbel : ∀ o1 o2 o3, Below w1.heap.size w1 (((w1.alloc o1).alloc o2).alloc o3) := fun o1 o2 o3 => (((Below.refl _ _).alloc (Nat.le_refl _) _).alloc (by simp) _).alloc (by simp; omega) _
            refine ⟨.inl ⟨HM.out.1, HM.out.2, w1.heap.size + 1 + 1, by rw [HN.out]; rfl, ?_, by have := HB.out.size; omega⟩, HB.out.trans ((hbel _ _ _).mono HB.out.size)⟩
            rw [HN.out]
            have := heap_alloc_last ((w1.alloc (.cells A 136)).alloc (.cells (lcells 16 (nxt (nsOf xs) i)) 136)) (.cells (lcells i (cw (nsOf xs))) 3)
            simpa [LB] using this
  · go_wp2
    go_ret2
    exact ⟨.inr ⟨hno, rfl⟩, HB.out.trans ((Below.refl _ _).alloc HB.out.size _)⟩
end Go.Proofs.YtbcflkdaeboflaaDoor
namespace Go.Proofs.YtbcflkdaeboflaaDoor
open Go.RowKit
set_option linter.unusedVariables false
set_option maxRecDepth 20000

/-- The lowest n bits, the lowest first, as a number whose highest bit is the first. -/
def rv (x : Nat) : Nat → Nat
  | 0 => 0
  | n + 1 => 2 * rv x n + x / 2 ^ n % 2
theorem rv_lt (x n : Nat) : rv x n < 2 ^ n := by
  induction n with
  | zero => simp [rv]
  | succ n ih => simp only [rv, Nat.pow_succ]; have := Nat.mod_lt (x / 2 ^ n) (show 0 < 2 by omega); omega
theorem rv_low (x n k : Nat) (hk : k ≤ n) : rv (x % 2 ^ n) k = rv x k := by
  induction k with
  | zero => rfl
  | succ k ih =>
    simp only [rv, ih (by omega)]
    congr 1
    rw [← Nat.toNat_testBit, ← Nat.toNat_testBit, Nat.testBit_mod_two_pow, decide_eq_true (by omega), Bool.true_and]
theorem rv_split (x n m : Nat) : rv x (n + m) = rv x n * 2 ^ m + rv (x / 2 ^ n) m := by
  induction m with
  | zero => simp [rv]
  | succ m ih =>
    rw [show n + (m + 1) = n + m + 1 by omega]
    simp only [rv, ih]
    rw [Nat.div_div_eq_div_mul, ← Nat.pow_add, Nat.pow_succ, ← Nat.mul_assoc]
    omega
theorem rv_zero (n : Nat) : rv 0 n = 0 := by
  induction n with
  | zero => rfl
  | succ n ih => simp [rv, ih]
theorem rv_top (x n m : Nat) (h : x < 2 ^ n) : rv x (n + m) / 2 ^ m = rv x n := by
  rw [rv_split, Nat.div_eq_of_lt h, rv_zero, Nat.add_zero, Nat.mul_div_cancel _ (Nat.pos_of_ne_zero (by simp))]
theorem rev8_rv : ∀ y : Fin 256, Lib.rev8 (y.val : Int) = ((rv y.val 8 : Nat) : Int) := by decide +kernel
/-- Eight bits and eight more. -/
theorem rv_both (hi lo : Nat) (h : hi < 256) (h2 : lo < 256) : rv (hi * 256 + lo) 16 = rv lo 8 * 256 + rv hi 8 := by
  have h1 := rv_split (hi * 256 + lo) 8 8
  have h3 := rv_low (hi * 256 + lo) 8 8 (Nat.le_refl _)
  rw [← h3] at h1
  simp only [show (2 : Nat) ^ 8 = 256 from rfl, show 8 + 8 = 16 from rfl] at h1
  rw [show (hi * 256 + lo) % 256 = lo by omega, show (hi * 256 + lo) / 256 = hi by omega] at h1
  exact h1
theorem or_add (a b : Nat) (h : a < 256) : a ||| (b * 256) = b * 256 + a := by
  have e := Nat.two_pow_add_eq_or_of_lt (i := 8) (show a < 2 ^ 8 by omega) b
  rw [Nat.or_comm, show b * 256 = 2 ^ 8 * b by omega, ← e]

set_option maxRecDepth 20000 in
set_option maxHeartbeats 1000000 in
theorem reverse16_ok (x : Nat) (hx : x < 65536) (w : World) :
    Calls Tryd.prog 91 #[.int .u16 x] w fun e w' => e = .returned (.int .u16 (rv x 16 : Nat)) ∧ ∃ k, w' = w.drewN k := by
  obtain ⟨hi, hhi⟩ : ∃ hi, x / 256 = hi := ⟨_, rfl⟩
  obtain ⟨lo, hlo⟩ : ∃ lo, x % 256 = lo := ⟨_, rfl⟩
  have hsh : (x : Int) / 2 ^ 8 = (hi : Int) := by omega
  have hsh2 : (x : Int) / 256 = (hi : Int) := by omega
  have han : bits .and .u16 (x : Int) 255 = (lo : Int) := by
    have h := u16_and_nat x 255 hx (by omega)
    rw [← hlo, show (255 : Int) = ((255 : Nat) : Int) from rfl, h, show 255 = 2 ^ 8 - 1 from rfl, Nat.and_two_pow_sub_one_eq_mod]
  have hhb : hi < 256 := by omega
  have hlb : lo < 256 := by omega
  have r1 := rev8_rv ⟨hi, hhb⟩
  have r2 := rev8_rv ⟨lo, hlb⟩
  have b1 := rv_lt hi 8
  have b2 := rv_lt lo 8
  have hr := rv_both hi lo hhb hlb
  rw [show hi * 256 + lo = x by omega] at hr
  obtain ⟨p, hp⟩ : ∃ p, rv hi 8 = p := ⟨_, rfl⟩
  obtain ⟨q, hq⟩ : ∃ q, rv lo 8 = q := ⟨_, rfl⟩
  simp only [hp] at r1 b1 hr
  simp only [hq] at r2 b2 hr
  have HR : Hid (rv x 16 = q * 256 + p) := hr
  have hor : bits .or .u16 (p : Int) ((q : Int) * 256) = ((q * 256 + p : Nat) : Int) := by
    have h := u16_or_nat p (q * 256) (by omega) (by omega)
    rw [← or_add p q (by omega), ← h]; simp
  have j1 : (hi : Int) ≤ 255 := by omega
  have j2 : (lo : Int) ≤ 255 := by omega
  have j3 : (0 : Int) ≤ (hi : Int) := by omega
  have j4 : (0 : Int) ≤ (lo : Int) := by omega
  have k1 : IntKind.u16.wrap ((q : Int) * 2 ^ 8) = (q : Int) * 256 := by rw [IntKind.wrap_u16]; omega
  have k2 : IntKind.u16.wrap ((q : Int) * 256) = (q : Int) * 256 := by rw [IntKind.wrap_u16]; omega
  have k3 : (p : Int) % 65536 = (p : Int) := by omega
  have k4 : (q : Int) % 65536 = (q : Int) := by omega
  clear hp hq hr hhi hlo hx
  go_enter Tryd.func91, Tryd.ntmps91
  generalize hT : ByteArray.mk _ = T
  obtain rfl : T = Lib.rev8tab := by rw [← hT]; rfl
  clear hT
  go_wp2_with fail
  go_quiet (fail)
  go_wp2
  go_ret
  exact ⟨by rw [HR.out]; simp only [Int.natCast_add, Int.natCast_mul]; rfl, nq, rfl⟩
set_option maxRecDepth 20000 in
set_option maxHeartbeats 1000000 in
theorem turn_ok (x n : Nat) (hn : n ≤ 15) (hx : x < 2 ^ n) (w : World) :
    Calls Tryd.prog 81 #[.int .i64 x, .int .i64 n] w fun e w' => e = .returned (.int .i64 (rv x n : Nat)) ∧ ∃ k, w' = w.drewN k := by
  have hx16 : x < 65536 := Nat.lt_of_lt_of_le hx (Nat.le_trans (Nat.pow_le_pow_right (by omega) hn) (by decide))
  have HC : Hid (∀ W, Calls Tryd.prog 91 #[.int .u16 x] W fun e w' => e = .returned (.int .u16 (rv x 16 : Nat)) ∧ ∃ k, w' = W.drewN k) := fun W => reverse16_ok x hx16 W
  have htop := rv_top x n (16 - n) hx
  rw [show n + (16 - n) = 16 by omega] at htop
  have hb := rv_lt x 16
  obtain ⟨y, hy⟩ : ∃ y, rv x 16 = y := ⟨_, rfl⟩
  obtain ⟨z, hz⟩ : ∃ z, rv x n = z := ⟨_, rfl⟩
  obtain ⟨d, hd⟩ : ∃ d : Nat, 16 - n = d := ⟨_, rfl⟩
  rw [hy] at htop hb HC
  rw [hz] at htop ⊢
  rw [hd] at htop
  have hdi : (16 : Int) - (n : Int) = (d : Int) := by omega
  have hdw : IntKind.i64.wrap ((16 : Int) - (n : Int)) = (d : Int) := by rw [IntKind.wrap_i64]; omega
  have hsh : (y : Int) / 2 ^ d = (z : Int) := by rw [← htop]; simp
  have hxm : (x : Int) % 65536 = (x : Int) := by omega
  have hxw : IntKind.u16.wrap (x : Int) = (x : Int) := by rw [IntKind.wrap_u16]; omega
  have hzb : z < 65536 := by rw [← htop]; exact Nat.lt_of_le_of_lt (Nat.div_le_self _ _) hb
  have hzw : IntKind.i64.wrap (z : Int) = (z : Int) := by rw [IntKind.wrap_i64]; omega
  clear htop hy hz hd hx
  go_enter Tryd.func81, Tryd.ntmps81
  go_wp2_with fail
  refine (HC.out _).mono ?_
  rintro e w1 ⟨rfl, k, rfl⟩
  go_wp2
  go_ret
  exact ⟨rfl, k, rfl⟩
end Go.Proofs.YtbcflkdaeboflaaDoor
namespace Go.Proofs.YtbcflkdaeboflaaDoor
open Go.RowKit
set_option linter.unusedVariables false
set_option maxRecDepth 20000

def ics (l : List Nat) : List Value := l.map fun x => Value.int .i64 (x : Nat)
theorem ics_length (l : List Nat) : (ics l).length = l.length := by simp [ics]
theorem ics_snoc (l : List Nat) (x : Nat) : ics (l ++ [x]) = ics l ++ [.int .i64 (x : Nat)] := by simp [ics]
/-- A table's cells: itself, eighteen rows (lengths, words, the symbols of each length), the share. -/
def tcs (t share : Nat) (R : Nat → Value) : Array Value := ((List.range 20).map fun i => if i = 0 then Value.pointer (some ⟨t, 0, none⟩) else if i = 19 then .int .i64 (share : Nat) else R (i - 1)).toArray
theorem tcs_size (t share : Nat) (R : Nat → Value) : (tcs t share R).size = 20 := by simp [tcs]
theorem tcs_get (t share : Nat) (R : Nat → Value) (i : Nat) (hi : i < 20) : (tcs t share R)[i]? = some (if i = 0 then Value.pointer (some ⟨t, 0, none⟩) else if i = 19 then .int .i64 (share : Nat) else R (i - 1)) := by simp [tcs, hi]
def upd {α : Type} (f : Nat → α) (k : Nat) (x : α) : Nat → α := fun i => if i = k then x else f i
theorem upd_at {α : Type} (f : Nat → α) (k : Nat) (x : α) : upd f k x k = x := by simp [upd]
theorem upd_ne {α : Type} (f : Nat → α) (k : Nat) (x : α) {i : Nat} (h : i ≠ k) : upd f k x i = f i := by simp [upd, h]
theorem tcs_set (t share : Nat) (R : Nat → Value) (k : Nat) (hk : k < 18) (v : Value) : (tcs t share R).setIfInBounds (k + 1) v = tcs t share (upd R k v) := by
  apply Array.ext_getElem?
  intro i
  rw [Array.getElem?_setIfInBounds]
  by_cases hi : i < 20
  · rw [tcs_get _ _ _ _ hi, tcs_get _ _ _ _ hi, tcs_size]
    by_cases e : k + 1 = i
    · subst e
      rw [if_pos rfl, if_pos (by omega), if_neg (by omega), if_neg (by omega), Nat.add_sub_cancel, upd_at]
    · rw [if_neg e]
      by_cases e0 : i = 0
      · rw [if_pos e0, if_pos e0]
      · rw [if_neg e0, if_neg e0]
        by_cases e9 : i = 19
        · rw [if_pos e9, if_pos e9]
        · rw [if_neg e9, if_neg e9, upd_ne _ _ _ (by omega)]
  · rw [Array.getElem?_eq_none (by rw [tcs_size]; omega), Array.getElem?_eq_none (by rw [tcs_size]; omega)]
    rw [if_neg (by omega)]
theorem tcs_zero (t share : Nat) : (#[.pointer (some ⟨t, 0, none⟩), .slice none 0 0, .slice none 0 0, .slice none 0 0, .slice none 0 0, .slice none 0 0, .slice none 0 0, .slice none 0 0, .slice none 0 0, .slice none 0 0, .slice none 0 0, .slice none 0 0, .slice none 0 0, .slice none 0 0, .slice none 0 0, .slice none 0 0, .slice none 0 0, .slice none 0 0, .slice none 0 0, .int .i64 (share : Nat)] : Array Value) = tcs t share (fun _ => .slice none 0 0) := by
  unfold tcs
  rw [show List.range 20 = [0, 1, 2, 3, 4, 5, 6, 7, 8, 9, 10, 11, 12, 13, 14, 15, 16, 17, 18, 19] from by decide]
  rfl

/-- A table in the making, or made: its block, its rows, none of them another one's; the words beside it. -/
structure TabSt (w wr : World) (B t L N share : Nat) (cws : Nat → Nat) (R : Nat → Value) (X : Nat → List Nat) : Prop where
  blk : wr.heap[t]? = some (.cells (tcs t share R) 141 (0, 0))
  own : ∀ k, k < 18 → wr.ownsRow B 3 1 (R k) (X k).length (ics (X k))
  apart : ∀ j k, j < 18 → k < 18 → j ≠ k → ∀ g, (R j).ownBlock = some g → (R k).ownBlock ≠ some g
  notL : ∀ k, k < 18 → (R k).ownBlock ≠ some L
  words : LB wr L N cws
  bel : Below B w wr
  tge : B ≤ t
  bsz : B ≤ wr.heap.size
theorem TabSt.cell {w wr : World} {B t L N share : Nat} {cws : Nat → Nat} {R : Nat → Value} {X : Nat → List Nat} (h : TabSt w wr B t L N share cws R X) {k : Nat} (hk : k < 18) : wr.cell? ⟨t, k + 1, none⟩ = some (R k) ∧ wr.frozen? ⟨t, k + 1, none⟩ = false := by
  have h1 := h.blk
  have h2 := tcs_get t share R (k + 1) (by omega)
  rw [if_neg (by omega), if_neg (by omega), Nat.add_sub_cancel] at h2
  exact ⟨by simp [World.cell?, h1, h2], by simp [World.frozen?, h1]⟩
theorem TabSt.notT {w wr : World} {B t L N share : Nat} {cws : Nat → Nat} {R : Nat → Value} {X : Nat → List Nat} (h : TabSt w wr B t L N share cws R X) {k : Nat} (hk : k < 18) : (R k).ownBlock ≠ some t := by
  intro e
  rcases (h.own k hk).2 with ⟨e1, _⟩ | ⟨g, cap, cur, e1, _, e2, _⟩
  · rw [e1] at e; simp [Value.ownBlock] at e
  · rw [e1] at e
    simp [Value.ownBlock] at e
    subst e
    rw [h.blk] at e2
    simp at e2
theorem TabSt.put {w wr w1 : World} {B t L N share : Nat} {cws : Nat → Nat} {R : Nat → Value} {X : Nat → List Nat} (h : TabSt w wr B t L N share cws R X) {k : Nat} (hk : k < 18) {x g cap : Nat} {o : Obj} {d : Nat} {n : Nat} (hn : n = (X k).length)
    (hown : w1.ownsRow B 3 1 (.slice (some ⟨g, 0, none⟩) (n + 1) cap) (n + 1) (ics (X k) ++ [.int .i64 (x : Nat)])) (hg : ((wr.drewN d).alloc o).grownBy w1 (R k).ownBlock) (hat : (R k).ownBlock = some g ∨ g = ((wr.drewN d).alloc o).heap.size) :
    TabSt w (w1.setCell ⟨t, k + 1, none⟩ (.slice (some ⟨g, 0, none⟩) (n + 1) cap)) B t L N share cws (upd R k (.slice (some ⟨g, 0, none⟩) (n + 1) cap)) (upd X k (X k ++ [x])) := by
  subst hn
  have hsz : ((wr.drewN d).alloc o).heap.size = wr.heap.size + 1 := by simp
  have htlt := lt_heap h.blk
  have hLlt := lt_heap h.words
  have hold : ∀ i, i < wr.heap.size → (R k).ownBlock ≠ some i → w1.heap[i]? = wr.heap[i]? := fun i hi hne => by
    rw [hg.block i (by omega) (fun e => hne e.symm)]
    exact heap_alloc_old (wr.drewN d) o hi
  have hblk1 : w1.heap[t]? = some (.cells (tcs t share R) 141 (0, 0)) := by rw [hold t htlt (h.notT hk)]; exact h.blk
  have hgt : g ≠ t := by
    rcases hat with e | e
    · intro e2; rw [e2] at e; exact h.notT hk e
    · omega
  have hgL : g ≠ L := by
    rcases hat with e | e
    · intro e2; rw [e2] at e; exact h.notL k hk e
    · omega
  have hset : ∀ i, i ≠ t → (w1.setCell ⟨t, k + 1, none⟩ (.slice (some ⟨g, 0, none⟩) ((X k).length + 1) cap)).heap[i]? = w1.heap[i]? := fun i hi => Below.heap_setCell _ _ _ _ hi
  have hsize : w1.heap.size = (w1.setCell ⟨t, k + 1, none⟩ (.slice (some ⟨g, 0, none⟩) ((X k).length + 1) cap)).heap.size := by simp [World.setCell]
  have hgs := hg.size
  refine ⟨?_, ?_, ?_, ?_, ?_, ?_, h.tge, by have := h.bsz; omega⟩
  · rw [← tcs_set t share R k hk]
    exact setCell_block hblk1
  · intro j hj
    by_cases e : j = k
    · subst e
      rw [upd_at, upd_at, ics_snoc, List.length_append]
      refine ⟨hown.1, ?_⟩
      rcases hown.2 with ⟨e1, _⟩ | ⟨g', cap', cur, e1, e2, e3, e4⟩
      · cases e1
      · refine .inr ⟨g', cap', cur, e1, e2, ?_, e4⟩
        have : g' = g := by simp at e1; exact e1.1.symm
        rw [hset g' (by omega)]; exact e3
    · rw [upd_ne _ _ _ e, upd_ne _ _ _ e]
      have ho := h.own j hj
      refine ⟨ho.1, ?_⟩
      rcases ho.2 with e1 | ⟨g', cap', cur, e1, e2, e3, e4⟩
      · exact .inl e1
      · refine .inr ⟨g', cap', cur, e1, e2, ?_, e4⟩
        have hb : (R j).ownBlock = some g' := by rw [e1]; rfl
        have hne := h.apart j k hj hk e g' hb
        have hnt : g' ≠ t := fun e' => h.notT hj (by rw [hb, e'])
        rw [hset g' hnt, hold g' (lt_heap e3) hne]; exact e3
  · intro i j hi hj hij g' hg'
    by_cases e : i = k
    · subst e
      rw [upd_at] at hg'
      simp [Value.ownBlock] at hg'
      subst hg'
      rw [upd_ne _ _ _ (Ne.symm hij)]
      rcases hat with e | e
      · exact h.apart i j hi hj hij _ e
      · intro e2
        have := ((h.own j hj).lt _ e2).2
        omega
    · rw [upd_ne _ _ _ e] at hg'
      by_cases e2 : j = k
      · subst e2
        rw [upd_at]
        simp only [Value.ownBlock, ne_eq, Option.some.injEq]
        rcases hat with e3 | e3
        · intro e4; subst e4; exact h.apart i j hi hj hij _ hg' e3
        · have := ((h.own i hi).lt _ hg').2
          omega
      · rw [upd_ne _ _ _ e2]
        exact h.apart i j hi hj hij g' hg'
  · intro j hj
    by_cases e : j = k
    · subst e
      rw [upd_at]
      simp only [Value.ownBlock, ne_eq, Option.some.injEq]
      exact hgL
    · rw [upd_ne _ _ _ e]; exact h.notL j hj
  · have htL : L ≠ t := by
      intro e
      have := h.words
      unfold LB at this
      rw [e, h.blk] at this
      simp at this
    unfold LB
    rw [hset L htL, hold L hLlt (h.notL k hk)]
    exact h.words
  · have hb := h.bel
    refine ⟨?_, ?_, ?_, ?_, ?_⟩
    · exact hg.os.trans hb.os
    · exact hg.tape.trans hb.tape
    · exact hg.output.trans hb.output
    · rw [← hsize]; have := hb.size; omega
    · intro i hi
      have h1 := h.tge
      rw [hset i (by omega), hold i (Nat.lt_of_lt_of_le hi h.bsz) (fun e => by have := ((h.own k hk).lt i e).1; omega)]
      exact hb.block i hi
theorem TabSt.drewN {w wr : World} {B t L N share : Nat} {cws : Nat → Nat} {R : Nat → Value} {X : Nat → List Nat} (h : TabSt w wr B t L N share cws R X) (k : Nat) : TabSt w (wr.drewN k) B t L N share cws R X :=
  ⟨h.blk, h.own, h.apart, h.notL, h.words, ⟨h.bel.os, h.bel.tape, h.bel.output, h.bel.size, h.bel.block⟩, h.tge, h.bsz⟩
/-- The symbols of a length among the first i. -/
def symsOf (ns : List Nat) (l i : Nat) : List Nat := (List.range i).filter fun s => decide (ns.getD s 0 = l ∧ 0 < l)
/-- What a table's rows hold, i symbols on. -/
def tX (ns : List Nat) (i k : Nat) : List Nat := if k = 0 then (List.range i).map (fun s => ns.getD s 0) else if k = 1 then (List.range i).map (fun s => rv (cw ns s) (ns.getD s 0)) else symsOf ns (k - 2) i
end Go.Proofs.YtbcflkdaeboflaaDoor
