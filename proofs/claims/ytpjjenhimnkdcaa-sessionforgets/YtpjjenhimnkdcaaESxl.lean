/- Layer 15: the walk of SessionQueue. -/
import Derived.Test.YtpjjenhimnkdcaaV10
namespace Go.Proofs.Ytpjjenhimnkdcaa
open Go.RowKit Go.Maps
set_option linter.unusedVariables false
set_option maxRecDepth 20000

theorem andN (x : Int) (k : Nat) (hk : k ≤ 8191) : ∃ a : Nat, a ≤ k ∧ bits .and .i64 x (k : Int) = (a : Int) := by
  have h : (BitVec.ofInt 64 x &&& BitVec.ofInt 64 (k : Int)).toNat ≤ k := by
    rw [BitVec.toNat_and]
    refine Nat.le_trans Nat.and_le_right ?_
    rw [BitVec.toNat_ofInt]
    omega
  refine ⟨_, h, ?_⟩
  show IntKind.i64.wrap ((BitVec.ofInt 64 x &&& BitVec.ofInt 64 (k : Int)).toNat : Int) = _
  rw [IntKind.wrap_i64]
  omega
def b11 : Bt := ⟨0, 1, 0, 1, 1⟩
theorem b11_ok : b11.OK := ⟨by decide, by decide, by decide, by decide, by decide, by decide, by decide, by decide, by decide, by decide⟩
/-- The first m who wait for the one batch. -/
def wV (m : Nat) : List Wt := (List.range m).map fun j : Nat => (⟨1, 1, 100 + (j : Int)⟩ : Wt)
theorem wV_length (m : Nat) : (wV m).length = m := by simp [wV]
theorem wV_succ (m : Nat) : wV (m + 1) = wV m ++ [⟨1, 1, 100 + (m : Int)⟩] := by simp [wV, List.range_succ]
theorem wV_mem {m : Nat} {x : Wt} (h : x ∈ wV m) : x.p = 1 ∧ x.s = 1 ∧ ∃ j : Nat, j < m ∧ x.who = 100 + (j : Int) := by
  unfold wV at h
  obtain ⟨j, hj, rfl⟩ := List.mem_map.1 h
  exact ⟨rfl, rfl, j, List.mem_range.1 hj, rfl⟩
theorem wV_get {m j : Nat} (h : j < m) : (wV m)[j]? = some ⟨1, 1, 100 + (j : Int)⟩ := by simp [wV, h]
theorem wV_has {m i : Nat} (h : m ≤ i) (k : Int) (hk : k = 100 + (i : Int)) : hasW (wV m) ⟨1, 1, k⟩ = false := by
  cases hx : hasW (wV m) ⟨1, 1, k⟩ with
  | false => rfl
  | true =>
    obtain ⟨_, _, j, hj, e⟩ := wV_mem ((hasW_iff _ _).1 hx)
    simp only at e
    omega
theorem wV_fnd {m : Nat} : ∀ x ∈ wV m, (fnd [b11] x.p x.s).isSome = true := fun x hx => by
  obtain ⟨e1, e2, _⟩ := wV_mem hx
  rw [e1, e2]; rfl
theorem wV_done {m : Nat} : (wV m).filter (isD [b11] 1) = wV m ∧ ((wV m).filter fun x => !isD [b11] 1 x) = [] := by
  have h : ∀ x ∈ wV m, isD [b11] 1 x = true := fun x hx => by
    obtain ⟨e1, e2, _⟩ := wV_mem hx
    unfold isD; rw [e1, e2]; rfl
  exact ⟨List.filter_eq_self.2 h, List.filter_eq_nil_iff.2 fun x hx => by simp [h x hx]⟩
set_option maxHeartbeats 4000000 in
theorem queue_walk (queue many : Int) (w : World) :
    Calls Try.prog 6 #[.int .i64 queue, .int .i64 many] w fun e w' => e = .returned (.bool true) ∧ Below w.heap.size w w' := by
  obtain ⟨a, ha, hae⟩ := andN queue 63 (by omega)
  obtain ⟨n, hn, hne⟩ := andN many 127 (by omega)
  have hae : bits .and .i64 queue 63 = (a : Int) := hae
  have hne : bits .and .i64 many 127 = (n : Int) := hne
  obtain ⟨q, hq⟩ : ∃ q : Nat, 1 + a = q := ⟨_, rfl⟩
  have hqi : (1 : Int) + (a : Int) = (q : Int) := by omega
  have HN : Hid (Calls Try.prog 8 #[.int .i64 (q : Nat)] w (NewE w q)) := new_ok q w (by omega) (by omega)
  have hq64 : q ≤ 64 := by omega
  have hq1 : 1 ≤ q := by omega
  clear ha hq
  go_enter Try.func6, Try.ntmps6
  go_upto_region 2 with fail
  clear hae hne
  try rw [hqi]
  clear hqi
  go_wp2_with fail
  refine HN.out.mono ?_
  rintro e w1 hNE
  obtain rfl := hNE.ret
  have HNE : Hid (NewE w q _ w1) := hNE
  have hTS1 := hNE.ts
  clear HN hNE
  obtain ⟨t, ht⟩ : ∃ t, w.heap.size + 1 = t := ⟨_, rfl⟩
  obtain ⟨mb, hmb⟩ : ∃ mb, w.heap.size = mb := ⟨_, rfl⟩
  rw [ht] at hTS1 ⊢
  rw [hmb] at hTS1
  have HT1 : Hid (TS w1 t mb q [] []) := hTS1
  have HTM : Hid (w.heap.size + 1 = t ∧ w.heap.size = mb) := ⟨ht, hmb⟩
  clear hTS1 ht hmb
  go_wp2_with fail
  refine (put_yes w1 t mb q [] [] b11 HT1.out b11_ok rfl (by decide) (by decide)).mono ?_
  rintro e w3 ⟨rfl, hT3, hF3⟩
  have HB3 : Hid (TS (w3.alloc (.cells #[.int .i64 1, .int .i64 1] 30)) t mb q [b11] [] ∧ TFr t mb w1 (w3.alloc (.cells #[.int .i64 1, .int .i64 1] 30)) ∧ Bk (w3.alloc (.cells #[.int .i64 1, .int .i64 1] 30)) t mb w3.heap.size (.cells #[.int .i64 1, .int .i64 1] 30 (0, 0))) :=
    ⟨hT3.below (below_a _ _), hF3.trans (TFr.below (below_a _ _) hT3.lt), Bk.new hT3 _ _⟩
  clear hT3 hF3 HT1
  obtain ⟨U, hU⟩ : ∃ U, w3.heap.size = U := ⟨_, rfl⟩
  rw [hU] at HB3
  go_upto_region 6 with fail
  try rw [hU]
  generalize (w3.alloc (.cells #[.int .i64 1, .int .i64 1] 30)) = w4 at HB3
  clear hU
  go_wp2
  go_loopw [10] (fun i wr => ∃ (k : Nat), i = .int .i64 (k : Nat) ∧ k ≤ n ∧ TS wr t mb q [b11] (wV (min k q)) ∧ TFr t mb w1 wr ∧ Bk wr t mb U (.cells #[.int .i64 1, .int .i64 1] 30 (0, 0))) (fun i _ => n - (intOf i).toNat)
  case atStart => exact ⟨0, rfl, Nat.zero_le _, by simpa [wV] using HB3.out.1, HB3.out.2.1, HB3.out.2.2⟩
  case round =>
    obtain ⟨k, rfl, hk, hTS, hFr, hBk⟩ := hrel
    have HS : Hid (TS wr t mb q [b11] (wV (min k q)) ∧ TFr t mb w1 wr ∧ Bk wr t mb U (.cells #[.int .i64 1, .int .i64 1] 30 (0, 0))) := ⟨hTS, hFr, hBk⟩
    have z0 : wr.cell? ⟨U, 0, none⟩ = some (.int .i64 1) := by simp [World.cell?, hBk.blk]
    have z1 : wr.cell? ⟨U, 1, none⟩ = some (.int .i64 1) := by simp [World.cell?, hBk.blk]
    clear hTS hFr hBk HB3
    by_cases hlt : k < n
    · have hlti : (k : Int) < (n : Int) := by omega
      have hwait := wait_ok wr t mb q [b11] (wV (min k q)) 1 1 (100 + (k : Int)) HS.out.1 (by decide) (by decide) (by decide) (by decide) rfl
      have hhas : hasW (wV (min k q)) ⟨1, 1, 100 + (k : Int)⟩ = false := wV_has (Nat.min_le_left _ _) _ rfl
      by_cases hkq : q ≤ k
      · have hv : waitV q (wV (min k q)) ⟨1, 1, 100 + (k : Int)⟩ = wV (min (k + 1) q) := by
          unfold waitV; rw [hhas, wV_length, Nat.min_eq_right hkq, Nat.min_eq_right (by omega)]; simp
        have hc : waitC q (wV (min k q)) ⟨1, 1, 100 + (k : Int)⟩ = 150 := by
          unfold waitC; rw [hhas, wV_length, Nat.min_eq_right hkq]; simp
        rw [hv, hc] at hwait
        have HW := hide hwait
        obtain ⟨m, hmm⟩ : ∃ m, min (k + 1) q = m := ⟨_, rfl⟩
        have hm : min ((k : Int) + 1) (q : Int) = (m : Int) := by omega
        have hge : (q : Int) ≤ (k : Int) := by omega
        have HM : Hid (min (k + 1) q = m) := hmm
        clear hwait hhas hv hc hkq hmm
        go_wp2_with fail
        refine HW.out.mono ?_
        rintro e w5 ⟨rfl, hT5, hF5⟩
        rw [HM.out] at hT5
        have HS5 : Hid (TS w5 t mb q [b11] (wV m) ∧ TFr t mb w1 w5 ∧ Bk w5 t mb U (.cells #[.int .i64 1, .int .i64 1] 30 (0, 0))) := ⟨hT5, HS.out.2.1.trans hF5, HS.out.2.2.kept hF5⟩
        have hwt := waiting_ok w5 t mb q [b11] (wV m) hT5
        rw [wV_length] at hwt
        have HWT := hide hwt
        clear hT5 hF5 hwt HW
        go_wp2_with fail
        refine HWT.out.mono ?_
        rintro e w6 ⟨rfl, hw6⟩
        obtain rfl := hw6.symm
        clear HWT hw6
        go_wp2
        go_roundw
        case rel => exact ⟨k + 1, by go_num, by omega, by rw [HM.out]; exact HS5.out.1, HS5.out.2.1, HS5.out.2.2⟩
        case measure => simp [intOf]; omega
      · have hv : waitV q (wV (min k q)) ⟨1, 1, 100 + (k : Int)⟩ = wV (min (k + 1) q) := by
          unfold waitV; rw [hhas, wV_length, Nat.min_eq_left (by omega), Nat.min_eq_left (by omega), wV_succ]; simp [hkq]
        have hc : waitC q (wV (min k q)) ⟨1, 1, 100 + (k : Int)⟩ = 0 := by
          unfold waitC; rw [hhas, wV_length, Nat.min_eq_left (by omega)]; simp [hkq]
        rw [hv, hc] at hwait
        have HW := hide hwait
        obtain ⟨m, hmm⟩ : ∃ m, min (k + 1) q = m := ⟨_, rfl⟩
        have hm : min ((k : Int) + 1) (q : Int) = (m : Int) := by omega
        have hge : ¬ (q : Int) ≤ (k : Int) := by omega
        have HM : Hid (min (k + 1) q = m) := hmm
        clear hwait hhas hv hc hkq hmm
        go_wp2_with fail
        refine HW.out.mono ?_
        rintro e w5 ⟨rfl, hT5, hF5⟩
        rw [HM.out] at hT5
        have HS5 : Hid (TS w5 t mb q [b11] (wV m) ∧ TFr t mb w1 w5 ∧ Bk w5 t mb U (.cells #[.int .i64 1, .int .i64 1] 30 (0, 0))) := ⟨hT5, HS.out.2.1.trans hF5, HS.out.2.2.kept hF5⟩
        have hwt := waiting_ok w5 t mb q [b11] (wV m) hT5
        rw [wV_length] at hwt
        have HWT := hide hwt
        clear hT5 hF5 hwt HW
        go_wp2_with fail
        refine HWT.out.mono ?_
        rintro e w6 ⟨rfl, hw6⟩
        obtain rfl := hw6.symm
        clear HWT hw6
        go_wp2
        go_roundw
        case rel => exact ⟨k + 1, by go_num, by omega, by rw [HM.out]; exact HS5.out.1, HS5.out.2.1, HS5.out.2.2⟩
        case measure => simp [intOf]; omega
    · obtain rfl : k = n := by omega
      have hlti : ¬ (k : Int) < (k : Int) := by omega
      obtain ⟨m, hmm⟩ : ∃ m, min k q = m := ⟨_, rfl⟩
      rw [hmm] at HS
      have hm : min (k : Int) (q : Int) = (m : Int) := by omega
      have hm64 : m ≤ 64 := by omega
      have HD : Hid (Calls Try.prog 13 #[.pointer (some ⟨t, 0, none⟩), .int .i64 1] wr (DoneE wr t mb q [b11] (wV m) 1)) := done_ok wr t mb q [b11] (wV m) 1 HS.out.1 wV_fnd
      clear hmm z0 z1
      go_wp2_with fail
      refine HD.out.mono ?_
      rintro e w5 ⟨v5, rfl, hr5, hT5, hF5, ha5⟩
      rw [wV_done.1] at hr5
      rw [wV_done.2] at hT5
      rw [wV_length] at hr5
      obtain ⟨a5, c5, rfl⟩ := rowForm hr5
      have HS5 : Hid (TS w5 t mb q [b11] [] ∧ TFr t mb w1 w5 ∧ Bk w5 t mb U (.cells #[.int .i64 1, .int .i64 1] 30 (0, 0))) := ⟨hT5, HS.out.2.1.trans hF5, HS.out.2.2.kept hF5⟩
      have HR5 : Hid (w5.ownsRow wr.heap.size 41 6 (.slice a5 m c5) m (acs [b11] (wV m))) := hr5
      have HWT : Hid (Calls Try.prog 14 #[.pointer (some ⟨t, 0, none⟩)] w5 fun e w' => e = .returned (.int .i64 0) ∧ w' = w5) := waiting_ok w5 t mb q [b11] [] hT5
      clear hT5 hF5 ha5 hr5 HD HS
      go_wp2_with fail
      refine HWT.out.mono ?_
      rintro e w6 ⟨rfl, hw6⟩
      obtain rfl := hw6.symm
      clear HWT hw6
      go_wp2
      go_loopw [13] (fun i wr => ∃ (j : Nat), i = .int .i64 (j : Nat) ∧ j ≤ m ∧ wr = w5) (fun i _ => m - (intOf i).toNat)
      case atStart => exact ⟨0, rfl, Nat.zero_le _, rfl⟩
      case round =>
        obtain ⟨j, rfl, hj, rfl⟩ := hrel
        by_cases hlt2 : j < m
        · have hlti2 : (j : Int) < (m : Int) := by omega
          obtain ⟨g, rfl, _⟩ := rowSome HR5.out (by omega)
          have hget := flat_get (akC [b11]) 6 (fun _ => rfl) (wV m) j _ (wV_get hlt2) 0 (by omega)
          have k0 : wr.cell? ⟨g, j * 6, none⟩ = some (.int .i64 (100 + (j : Int))) := rowCell HR5.out (by simpa [acs, akC] using hget)
          clear hget
          go_wp2
          go_roundw
          case rel => exact ⟨j + 1, by go_num, by omega, by first | trivial | rfl⟩
          case measure => simp [intOf]; omega
        · have hlti2 : ¬ (j : Int) < (m : Int) := by omega
          have z0 : wr.cell? ⟨U, 0, none⟩ = some (.int .i64 1) := by simp [World.cell?, HS5.out.2.2.blk]
          have z1 : wr.cell? ⟨U, 1, none⟩ = some (.int .i64 1) := by simp [World.cell?, HS5.out.2.2.blk]
          have hc : waitC q [] ⟨1, 1, 99⟩ = 0 := by
            unfold waitC
            have : ¬ q ≤ ([] : List Wt).length := by simp; omega
            simp only [hasW, List.any_nil, Bool.false_eq_true, if_false]
            rw [if_neg this]
          have hv : waitV q [] ⟨1, 1, 99⟩ = [⟨1, 1, 99⟩] := by
            unfold waitV
            have : ¬ q ≤ ([] : List Wt).length := by simp; omega
            simp only [hasW, List.any_nil, Bool.false_eq_true, if_false]
            rw [if_neg this]; rfl
          have hwait := wait_ok wr t mb q [b11] [] 1 1 99 HS5.out.1 (by decide) (by decide) (by decide) (by decide) rfl
          rw [hc, hv] at hwait
          have HW := hide hwait
          clear hwait hc hv hlt2
          go_wp2_with fail
          refine HW.out.mono ?_
          rintro e w7 ⟨rfl, hT7, hF7⟩
          have HWT : Hid (Calls Try.prog 14 #[.pointer (some ⟨t, 0, none⟩)] w7 fun e w' => e = .returned (.int .i64 1) ∧ w' = w7) := waiting_ok w7 t mb q [b11] [⟨1, 1, 99⟩] hT7
          have HS7 : Hid (TFr t mb w1 w7 ∧ t < w7.heap.size) := ⟨HS5.out.2.1.trans hF7, hT7.lt⟩
          clear hT7 hF7 HW
          go_wp2_with fail
          refine HWT.out.mono ?_
          rintro e w8 ⟨rfl, hw8⟩
          obtain rfl := hw8.symm
          clear HWT hw8
          go_wp2_with fail
          refine (awake15 _).mono ?_
          rintro e w9 ⟨rfl, hb9⟩
          have HB9 : Hid (TFr t mb w1 w9) := HS7.out.1.trans (TFr.below hb9 HS7.out.2)
          clear hb9
          go_wp2
          go_ret
          refine ⟨rfl, ?_⟩
          obtain ⟨rfl, rfl⟩ := HTM.out
          exact HNE.out.frame HB9.out
end Go.Proofs.Ytpjjenhimnkdcaa
