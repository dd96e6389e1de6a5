/- SumsBurst: four bytes that are others are told by CRC-32C: mathematics and walk. -/
import Derived.Test.YtofjkopfldgkcabEa
import Derived.Deep.RegionWith
namespace Go.Proofs.Ytofjkopfldgkcab
open Go.RowKit
set_option linter.unusedVariables false

/-- The list with n bytes from k on turned by the bytes of y. -/
def brt (l : List Nat) (k : Nat) (f : Nat → Nat) : Nat → List Nat
  | 0 => l
  | n + 1 => (brt l k f n).set (k + n) (l.getD (k + n) 0 ^^^ f n)
theorem brt_length (l : List Nat) (k : Nat) (f : Nat → Nat) (n : Nat) : (brt l k f n).length = l.length := by
  induction n with
  | zero => rfl
  | succ n ih => simp [brt, ih]
theorem brt_getD (l : List Nat) (k : Nat) (f : Nat → Nat) (n i : Nat) (hk : k + n ≤ l.length) : (brt l k f n).getD i 0 = if k ≤ i ∧ i < k + n then l.getD i 0 ^^^ f (i - k) else l.getD i 0 := by
  induction n with
  | zero => rw [if_neg (by omega)]; rfl
  | succ n ih =>
    simp only [brt]
    rw [getD_set _ _ _ _ (by rw [brt_length]; omega), ih (by omega)]
    by_cases e : k + n = i
    · subst e
      rw [if_pos rfl, if_pos (by omega), show k + n - k = n by omega]
    · rw [if_neg e]
      by_cases h : k ≤ i ∧ i < k + n
      · rw [if_pos h, if_pos (by omega)]
      · rw [if_neg h, if_neg (by omega)]
theorem brt_lt (l : List Nat) (k : Nat) (f : Nat → Nat) (n : Nat) (hl : ∀ x ∈ l, x < 256) (hf : ∀ i, f i < 256) : ∀ x ∈ brt l k f n, x < 256 := by
  induction n with
  | zero => exact hl
  | succ n ih =>
    intro x hx
    simp only [brt] at hx
    rcases List.mem_or_eq_of_mem_set hx with h | h
    · exact ih x h
    · rw [h]; exact Nat.xor_lt_two_pow (n := 8) (getD_lt hl _) (hf n)
theorem list_split4 (l : List Nat) (k : Nat) (h : k + 4 ≤ l.length) : l = l.take k ++ ([l.getD k 0, l.getD (k + 1) 0, l.getD (k + 2) 0, l.getD (k + 3) 0] ++ l.drop (k + 4)) := by
  apply getD_ext
  · simp; omega
  · intro i hi
    by_cases h1 : i < k
    · rw [getD_app _ _ _ (by simp; omega), getD_take _ _ _ h1]
    · rw [getD_right _ _ _ (by simp; omega)]
      have e : (l.take k).length = k := by simp; omega
      rw [e]
      by_cases h2 : i < k + 4
      · rw [getD_app _ _ _ (by simp; omega)]
        rcases (show i = k ∨ i = k + 1 ∨ i = k + 2 ∨ i = k + 3 by omega) with rfl | rfl | rfl | rfl
        · simp
        · rw [show k + 1 - k = 1 by omega]; rfl
        · rw [show k + 2 - k = 2 by omega]; rfl
        · rw [show k + 3 - k = 3 by omega]; rfl
      · rw [getD_right _ _ _ (by simp; omega), getD_drop]
        congr 1
        simp
        omega
/-- Four bytes that are others are told. -/
theorem crcOf_burst (l : List Nat) (k : Nat) (f : Nat → Nat) (hl : ∀ x ∈ l, x < 256) (hf : ∀ i, f i < 256) (hk : k + 4 ≤ l.length) (h0 : ¬ (f 0 = 0 ∧ f 1 = 0 ∧ f 2 = 0 ∧ f 3 = 0)) : crcOf l ≠ crcOf (brt l k f 4) := by
  intro e
  unfold crcOf at e
  have e1 : cM 4294967295 l = cM 4294967295 (brt l k f 4) := by have := congrArg (4294967295 ^^^ ·) e; simpa only [xor_back] using this
  have hlen := brt_length l k f 4
  have g := fun i => brt_getD l k f 4 i hk
  have ht : (brt l k f 4).take k = l.take k := getD_ext (by simp; omega) (fun i hi => by
    have hi' : i < k := by simp at hi; omega
    rw [getD_take _ _ _ hi', getD_take _ _ _ hi', g i, if_neg (by omega)])
  have hd : (brt l k f 4).drop (k + 4) = l.drop (k + 4) := getD_ext (by simp; omega) (fun i hi => by
    rw [getD_drop, getD_drop, g _, if_neg (by omega)])
  have s1 := congrArg (cM 4294967295) (list_split4 l k hk)
  have s2 := congrArg (cM 4294967295) (list_split4 (brt l k f 4) k (by omega))
  have e1 := s1.symm.trans (e1.trans s2)
  rw [ht, hd] at e1
  rw [g k, g (k + 1), g (k + 2), g (k + 3), if_pos (by omega), if_pos (by omega), if_pos (by omega), if_pos (by omega)] at e1
  rw [show k - k = 0 by omega, show k + 1 - k = 1 by omega, show k + 2 - k = 2 by omega, show k + 3 - k = 3 by omega] at e1
  obtain ⟨a0, ha0⟩ : ∃ a, l.getD k 0 = a := ⟨_, rfl⟩
  obtain ⟨a1, ha1⟩ : ∃ a, l.getD (k + 1) 0 = a := ⟨_, rfl⟩
  obtain ⟨a2, ha2⟩ : ∃ a, l.getD (k + 2) 0 = a := ⟨_, rfl⟩
  obtain ⟨a3, ha3⟩ : ∃ a, l.getD (k + 3) 0 = a := ⟨_, rfl⟩
  have b0 : a0 < 256 := by rw [← ha0]; exact getD_lt hl _
  have b1 : a1 < 256 := by rw [← ha1]; exact getD_lt hl _
  have b2 : a2 < 256 := by rw [← ha2]; exact getD_lt hl _
  have b3 : a3 < 256 := by rw [← ha3]; exact getD_lt hl _
  rw [ha0, ha1, ha2, ha3, cM_append, cM_append, cM_append, cM_append] at e1
  have htb : ∀ x ∈ l.take k, x < 256 := fun x hx => hl x (List.mem_of_mem_take hx)
  have hdb : ∀ x ∈ l.drop (k + 4), x < 256 := fun x hx => hl x (List.mem_of_mem_drop hx)
  have hc := cM_lt (l.take k) 4294967295 (by omega) htb
  obtain ⟨c, hce⟩ : ∃ c, cM 4294967295 (l.take k) = c := ⟨_, rfl⟩
  rw [hce] at e1 hc
  have x8 : ∀ a b : Nat, a < 256 → b < 256 → a ^^^ b < 256 := fun a b ha hb => Nat.xor_lt_two_pow (n := 8) ha hb
  have l1 : cM c [a0, a1, a2, a3] < 4294967296 := cM_lt _ _ hc (fun x hx => by simp at hx; rcases hx with rfl | rfl | rfl | rfl <;> assumption)
  have l2 : cM c [a0 ^^^ f 0, a1 ^^^ f 1, a2 ^^^ f 2, a3 ^^^ f 3] < 4294967296 := cM_lt _ _ hc (fun x hx => by
    simp at hx
    rcases hx with rfl | rfl | rfl | rfl
    · exact x8 _ _ b0 (hf 0)
    · exact x8 _ _ b1 (hf 1)
    · exact x8 _ _ b2 (hf 2)
    · exact x8 _ _ b3 (hf 3))
  have e2 := cM_inj _ _ _ l1 l2 hdb e1
  have e3 := cM_xor [a0, a1, a2, a3] [a0 ^^^ f 0, a1 ^^^ f 1, a2 ^^^ f 2, a3 ^^^ f 3] c c rfl
  simp only [List.zipWith_cons_cons, List.zipWith_nil_left, xor_back, Nat.xor_self] at e3
  rw [e2, Nat.xor_self] at e3
  exact h0 (cM_burst 0 (f 0) (f 1) (f 2) (f 3) (hf 0) (hf 1) (hf 2) (hf 3) e3)
set_option maxRecDepth 20000 in
theorem sumsBurst_awake (s : ByteArray) (at_ by_ : Int) (w : World) (h : s.size < 4 ∨ 4096 < s.size ∨ by_ % 4294967296 = 0) :
    Calls Try.prog 4 #[.string s, .int .i64 at_, .int .i64 by_] w fun e w' => e = .returned (.bool true) ∧ Below w.heap.size w w' := by
  have b := i64_and_all by_
  by_cases h0 : s.size < 4
  · have e0 : (s.size : Int) < 4 := by omega
    go_enter Try.func4, Try.ntmps4
    go_wp2_with fail
    refine (awake _).mono ?_
    rintro e w1 ⟨rfl, hb1⟩
    go_wp2
    go_ret
    exact ⟨rfl, hb1⟩
  · have e0 : ¬ ((s.size : Int) < 4) := by omega
    by_cases h1 : 4096 < s.size
    · have e1 : (4096 : Int) < (s.size : Int) := by omega
      go_enter Try.func4, Try.ntmps4
      go_wp2_with fail
      refine (awake _).mono ?_
      rintro e w1 ⟨rfl, hb1⟩
      go_wp2
      go_ret
      exact ⟨rfl, hb1⟩
    · have e1 : ¬ ((4096 : Int) < (s.size : Int)) := by omega
      have e2 : by_ % 4294967296 = 0 := by omega
      rw [e2] at b
      clear h
      go_enter Try.func4, Try.ntmps4
      go_wp2_with fail
      refine (awake _).mono ?_
      rintro e w1 ⟨rfl, hb1⟩
      go_wp2
      go_ret
      exact ⟨rfl, hb1⟩
/-- A byte of a number. -/
def byt (n : Int) (i : Nat) : Nat := (n / 2 ^ (8 * i) % 256).toNat
theorem byt_lt (n : Int) (i : Nat) : byt n i < 256 := by unfold byt; omega
theorem byt_eq (n : Int) (i : Nat) : ((byt n i : Nat) : Int) = n / 2 ^ (8 * i) % 256 := by unfold byt; omega
theorem byt_zero (n : Int) (h : n % 4294967296 ≠ 0) : ¬ (byt n 0 = 0 ∧ byt n 1 = 0 ∧ byt n 2 = 0 ∧ byt n 3 = 0) := by
  have h0 := byt_eq n 0
  have h1 := byt_eq n 1
  have h2 := byt_eq n 2
  have h3 := byt_eq n 3
  simp at h0 h1 h2 h3
  omega
theorem TB.below {w w' : World} {g B : Nat} {l : List Nat} (h : TB w g l) (hb : Below B w w') (hlt : g < B) : TB w' g l := by
  intro j hj
  have e := hb.block g hlt
  obtain ⟨h1, h2⟩ := h j hj
  constructor
  · rw [← h1]; simp [World.cell?, e]
  · rw [← h2]; simp [World.frozen?, e]
theorem TB.lt {w : World} {g : Nat} {l : List Nat} (h : TB w g l) (hp : 0 < l.length) : g < w.heap.size :=
  World.block_lt_of_cell? w ⟨g, 0, none⟩ (h 0 hp).1
theorem back4 {W w4 : World} {g m : Nat} {l : List Nat} (h : TB W g l) (hb : Below W.heap.size W w4) (hp : 0 < l.length) (hm : l.length = m) (hl : ∀ x ∈ l, x < 256) (cap : Nat) :
    (convert 23 9 (.slice (some ⟨g, 0, none⟩) m cap)).run Try.prog w4 = .ok (.string (toBA l)) w4 := by
  have h1 : TB w4 g l := h.below hb (h.lt hp)
  have := bytes_back l g cap w4 h1 hl
  rw [hm] at this
  exact this
theorem below_undrew1 {B : Nat} {w w' : World} (h : Below B w.drew w') : Below B w w' := ⟨h.os, h.tape, h.output, h.size, h.block⟩
theorem below_on {w W w' : World} (h : Below w.heap.size w W) (k : Below W.heap.size W w') : Below w.heap.size w w' := h.trans (k.mono h.size)
set_option maxRecDepth 20000 in
set_option maxHeartbeats 1000000 in
theorem sumsBurst_main (s : ByteArray) (at_ by_ : Int) (w : World) (h0 : 4 ≤ s.size) (h1 : s.size ≤ 4096) (h2 : by_ % 4294967296 ≠ 0) (hat : -9223372036854775808 ≤ at_ ∧ at_ < 9223372036854775808) :
    Calls Try.prog 4 #[.string s, .int .i64 at_, .int .i64 by_] w fun e w' => e = .returned (.bool true) ∧ Below w.heap.size w w' := by
  have b := i64_and_all by_
  have hb0 : (by_ % 4294967296 == 0) = false := by rw [beq_eq_false_iff_ne]; exact h2
  have e0 : ¬ ((s.size : Int) < 4) := by omega
  have e1 : ¬ ((4096 : Int) < (s.size : Int)) := by omega
  have hB := BL_length s
  obtain ⟨m, hm⟩ : ∃ m : Nat, m = s.size - 3 := ⟨_, rfl⟩
  have hm3 : wrap64 ((s.size : Int) - 3) = (m : Int) := by rw [IntWalk.wrap64_in _ ⟨by omega, by omega⟩]; omega
  have hm4 : (s.size : Int) - 3 = (m : Int) := by omega
  obtain ⟨k, hk⟩ : ∃ k : Nat, k = (at_.tmod (m : Int)).natAbs := ⟨_, rfl⟩
  have hkl : k + 4 ≤ s.size := by
    rw [hk]
    have h3 := Int.tmod_lt_of_pos at_ (show (0 : Int) < (m : Int) by omega)
    have h4 := Int.lt_tmod_of_pos at_ (show (0 : Int) < (m : Int) by omega)
    omega
  have hun := crcOf_burst (BL s) k (byt by_) (BL_lt s) (byt_lt by_) (by omega) (byt_zero by_ h2)
  obtain ⟨l', hl'⟩ : ∃ l', brt (BL s) k (byt by_) 4 = l' := ⟨_, rfl⟩
  rw [hl'] at hun
  have hlb : ∀ x ∈ l', x < 256 := by rw [← hl']; exact brt_lt _ _ _ _ (BL_lt s) (byt_lt by_)
  have hlen : l'.length = s.size := by rw [← hl', brt_length, hB]
  have hBt := BL_toBA l' hlb
  have hts := toBA_size l'
  obtain ⟨c, hc⟩ : ∃ c, crcOf (BL s) = c := ⟨_, rfl⟩
  obtain ⟨c', hc'⟩ : ∃ c', crcOf l' = c' := ⟨_, rfl⟩
  rw [hc, hc'] at hun
  have hC := fun w1 : World => crc s w1 (by omega)
  have hC' := fun w1 : World => crc (toBA l') w1 (by omega)
  simp only [hc] at hC
  simp only [hBt, hc'] at hC'
  have HC : Hid _ := hC
  have HC' : Hid _ := hC'
  have n1 : ((c : Int) != (c' : Int)) = true := by simp; omega
  obtain ⟨cap, w1, hcv, htb, hbel, hsz⟩ := bytes_of s w
  have HLL : Hid (brt (BL s) k (byt by_) 4 = l' ∧ l'.length = s.size ∧ (∀ x ∈ l', x < 256)) := ⟨hl', hlen, hlb⟩
  have HT1 : Hid (TB w1 w.heap.size (BL s) ∧ Below w.heap.size w w1) := ⟨htb, hbel⟩
  have hm0 : (m : Int) ≠ 0 := by omega
  have hm1 : 0 < m := by omega
  clear hm
  clear hC hC' hc hc' hBt hts hun htb hbel hl' hlen hlb hsz h2
  by_cases hneg : at_.tmod (m : Int) < 0
  · have hk2 : wrap64 (0 - at_.tmod (m : Int)) = (k : Int) := by rw [IntWalk.wrap64_in _ ⟨by omega, by omega⟩]; omega
    have hk3 : wrap64 (- at_.tmod (m : Int)) = (k : Int) := by rw [IntWalk.wrap64_in _ ⟨by omega, by omega⟩]; omega
    clear hk
    go_enter Try.func4, Try.ntmps4
    go_wp2
    clear hcv
    go_loopw [9] (fun i wr => ∃ j : Nat, j ≤ 4 ∧ i = .int .i64 j ∧ TB wr w.heap.size (brt (BL s) k (byt by_) j) ∧ Below w.heap.size w wr) (fun i _ => 4 - (intOf i).toNat)
    case atStart => exact ⟨0, Nat.zero_le _, rfl, HT1.out.1, HT1.out.2⟩
    case round =>
      obtain ⟨j, hj, rfl, htb, hbel⟩ := hrel
      by_cases hlt : j < 4
      · have hlj := brt_length (BL s) k (byt by_) j
        have hcf := htb (k + j) (by omega)
        have hgd : (brt (BL s) k (byt by_) j).getD (k + j) 0 = (BL s).getD (k + j) 0 := by rw [brt_getD _ _ _ _ _ (by omega), if_neg (by omega)]
        rw [hgd] at hcf
        obtain ⟨x, hx⟩ : ∃ x, (BL s).getD (k + j) 0 = x := ⟨_, rfl⟩
        have hxl : x < 256 := by rw [← hx]; exact getD_lt (BL_lt s) _
        rw [hx] at hcf
        obtain ⟨hcell, hfree⟩ := hcf
        obtain ⟨y, hy⟩ : ∃ y, byt by_ j = y := ⟨_, rfl⟩
        have hyl : y < 256 := by rw [← hy]; exact byt_lt _ _
        have hyi := byt_eq by_ j
        rw [hy] at hyi
        obtain ⟨q, hq⟩ : ∃ q : Nat, q = 8 * j := ⟨_, rfl⟩
        have hq64 : q < 64 := by omega
        have hqi : IntKind.i64.wrap (8 * (j : Int)) = (q : Int) := by rw [IntKind.wrap_i64]; omega
        have hqn : ¬ ((q : Int) < 0) := by omega
        have hql : (q : Int) < 64 := by omega
        have hb255 := i64_and255 (by_ / 2 ^ q)
        rw [hq, ← hyi, ← hq] at hb255
        have hym : IntKind.u8.wrap (y : Int) = (y : Int) := by rw [IntKind.wrap_u8']; omega
        obtain ⟨z, hz⟩ : ∃ z, x ^^^ y = z := ⟨_, rfl⟩
        have hxy := u8_xor_nat x y hxl hyl
        rw [hz] at hxy
        obtain ⟨kj, hkj⟩ : ∃ kj : Nat, kj = k + j := ⟨_, rfl⟩
        rw [← hkj] at hcell hfree
        have hkw : IntKind.i64.wrap ((k : Int) + (j : Int)) = (kj : Int) := by rw [IntKind.wrap_i64]; omega
        have hkl2 : kj < s.size := by omega
        have hkl3 : (kj : Int) < (s.size : Int) := by omega
        have HN : Hid (TB (wr.setCell ⟨w.heap.size, kj, none⟩ (.int .u8 (z : Nat))).drew w.heap.size (brt (BL s) k (byt by_) (j + 1)) ∧ Below w.heap.size w (wr.setCell ⟨w.heap.size, kj, none⟩ (.int .u8 (z : Nat))).drew) := by
          refine ⟨?_, (hbel.setCell (Nat.le_refl _) (p := ⟨w.heap.size, kj, none⟩) _).drew⟩
          simp only [brt]
          rw [hx, hy, hz, hkj]
          exact htb.set (k + j) z (by omega)
        clear htb hbel hx hy hyi hz hgd hlj hkj hq
        go_wp2
        go_region
        generalize (wr.setCell ⟨w.heap.size, kj, none⟩ (.int .u8 (z : Nat))).drew = W2 at HN ⊢
        clear hcell hfree hqi hqn hql hb255 hym hxy hkw hkl2 hkl3
        go_wp2
        exact ⟨⟨j + 1, by omega, by go_num, HN.out.1, HN.out.2⟩, by simp [intOf]; omega⟩
      · obtain rfl : j = 4 := by omega
        have hback : ∀ N, (convert 23 9 (.slice (some ⟨w.heap.size, 0, none⟩) s.size cap)).run Try.prog (wr.drewN N) = .ok (.string (toBA l')) (wr.drewN N) := fun N => by
          have := bytes_back l' w.heap.size cap (wr.drewN N) (by rw [← HLL.out.1]; exact htb.drewN N) HLL.out.2.2
          rw [HLL.out.2.1] at this
          exact this
        have HBE : Hid (Below w.heap.size w wr) := hbel
        have HTB : Hid (TB wr w.heap.size l') := by rw [← HLL.out.1]; exact htb
        clear htb hbel
        have hpos : 0 < l'.length := by have := HLL.out.2.1; omega
        go_wp2
        have hbackd := back4 (W := wr.drew) HTB.out (Below.refl _ _) hpos HLL.out.2.1 HLL.out.2.2 cap
        have HBD : Hid (Below w.heap.size w wr.drew) := HBE.out.drew
        go_region_with (first
          | (go_at_call_of 6 (Value.string s); refine (HC.out _).mono ?_; rintro e w4 ⟨rfl, hb4⟩; have H4 : Hid (Below w.heap.size w w4) := below_on HBD.out hb4; have hback4 := back4 (W := wr.drew) HTB.out hb4 hpos HLL.out.2.1 HLL.out.2.2 cap; clear hb4)
          | (go_at_call_of 6 (Value.string (toBA l')); refine (HC'.out _).mono ?_; rintro e w5 ⟨rfl, hb5⟩; have H5 : Hid (Below w.heap.size w w5) := below_on H4.out hb5; clear hb5)
          | (go_at_call 5; refine (awake _).mono ?_; rintro e w6 ⟨rfl, hb6⟩; have H6 : Hid (Below w.heap.size w w6) := below_on H5.out hb6; clear hb6))
        all_goals
          go_wp2
          go_ret
          exact ⟨rfl, H6.out⟩
  · have hk2 : at_.tmod (m : Int) = (k : Int) := by omega
    clear hk
    go_enter Try.func4, Try.ntmps4
    go_wp2
    clear hcv
    go_loopw [9] (fun i wr => ∃ j : Nat, j ≤ 4 ∧ i = .int .i64 j ∧ TB wr w.heap.size (brt (BL s) k (byt by_) j) ∧ Below w.heap.size w wr) (fun i _ => 4 - (intOf i).toNat)
    case atStart => exact ⟨0, Nat.zero_le _, rfl, HT1.out.1, HT1.out.2⟩
    case round =>
      obtain ⟨j, hj, rfl, htb, hbel⟩ := hrel
      by_cases hlt : j < 4
      · have hlj := brt_length (BL s) k (byt by_) j
        have hcf := htb (k + j) (by omega)
        have hgd : (brt (BL s) k (byt by_) j).getD (k + j) 0 = (BL s).getD (k + j) 0 := by rw [brt_getD _ _ _ _ _ (by omega), if_neg (by omega)]
        rw [hgd] at hcf
        obtain ⟨x, hx⟩ : ∃ x, (BL s).getD (k + j) 0 = x := ⟨_, rfl⟩
        have hxl : x < 256 := by rw [← hx]; exact getD_lt (BL_lt s) _
        rw [hx] at hcf
        obtain ⟨hcell, hfree⟩ := hcf
        obtain ⟨y, hy⟩ : ∃ y, byt by_ j = y := ⟨_, rfl⟩
        have hyl : y < 256 := by rw [← hy]; exact byt_lt _ _
        have hyi := byt_eq by_ j
        rw [hy] at hyi
        obtain ⟨q, hq⟩ : ∃ q : Nat, q = 8 * j := ⟨_, rfl⟩
        have hq64 : q < 64 := by omega
        have hqi : IntKind.i64.wrap (8 * (j : Int)) = (q : Int) := by rw [IntKind.wrap_i64]; omega
        have hqn : ¬ ((q : Int) < 0) := by omega
        have hql : (q : Int) < 64 := by omega
        have hb255 := i64_and255 (by_ / 2 ^ q)
        rw [hq, ← hyi, ← hq] at hb255
        have hym : IntKind.u8.wrap (y : Int) = (y : Int) := by rw [IntKind.wrap_u8']; omega
        obtain ⟨z, hz⟩ : ∃ z, x ^^^ y = z := ⟨_, rfl⟩
        have hxy := u8_xor_nat x y hxl hyl
        rw [hz] at hxy
        obtain ⟨kj, hkj⟩ : ∃ kj : Nat, kj = k + j := ⟨_, rfl⟩
        rw [← hkj] at hcell hfree
        have hkw : IntKind.i64.wrap ((k : Int) + (j : Int)) = (kj : Int) := by rw [IntKind.wrap_i64]; omega
        have hkl2 : kj < s.size := by omega
        have hkl3 : (kj : Int) < (s.size : Int) := by omega
        have HN : Hid (TB (wr.setCell ⟨w.heap.size, kj, none⟩ (.int .u8 (z : Nat))).drew w.heap.size (brt (BL s) k (byt by_) (j + 1)) ∧ Below w.heap.size w (wr.setCell ⟨w.heap.size, kj, none⟩ (.int .u8 (z : Nat))).drew) := by
          refine ⟨?_, (hbel.setCell (Nat.le_refl _) (p := ⟨w.heap.size, kj, none⟩) _).drew⟩
          simp only [brt]
          rw [hx, hy, hz, hkj]
          exact htb.set (k + j) z (by omega)
        clear htb hbel hx hy hyi hz hgd hlj hkj hq
        go_wp2
        go_region
        generalize (wr.setCell ⟨w.heap.size, kj, none⟩ (.int .u8 (z : Nat))).drew = W2 at HN ⊢
        clear hcell hfree hqi hqn hql hb255 hym hxy hkw hkl2 hkl3
        go_wp2
        exact ⟨⟨j + 1, by omega, by go_num, HN.out.1, HN.out.2⟩, by simp [intOf]; omega⟩
      · obtain rfl : j = 4 := by omega
        have hback : ∀ N, (convert 23 9 (.slice (some ⟨w.heap.size, 0, none⟩) s.size cap)).run Try.prog (wr.drewN N) = .ok (.string (toBA l')) (wr.drewN N) := fun N => by
          have := bytes_back l' w.heap.size cap (wr.drewN N) (by rw [← HLL.out.1]; exact htb.drewN N) HLL.out.2.2
          rw [HLL.out.2.1] at this
          exact this
        have HBE : Hid (Below w.heap.size w wr) := hbel
        have HTB : Hid (TB wr w.heap.size l') := by rw [← HLL.out.1]; exact htb
        clear htb hbel
        have hpos : 0 < l'.length := by have := HLL.out.2.1; omega
        go_wp2
        have hbackd := back4 (W := wr.drew) HTB.out (Below.refl _ _) hpos HLL.out.2.1 HLL.out.2.2 cap
        have HBD : Hid (Below w.heap.size w wr.drew) := HBE.out.drew
        go_region_with (first
          | (go_at_call_of 6 (Value.string s); refine (HC.out _).mono ?_; rintro e w4 ⟨rfl, hb4⟩; have H4 : Hid (Below w.heap.size w w4) := below_on HBD.out hb4; have hback4 := back4 (W := wr.drew) HTB.out hb4 hpos HLL.out.2.1 HLL.out.2.2 cap; clear hb4)
          | (go_at_call_of 6 (Value.string (toBA l')); refine (HC'.out _).mono ?_; rintro e w5 ⟨rfl, hb5⟩; have H5 : Hid (Below w.heap.size w w5) := below_on H4.out hb5; clear hb5)
          | (go_at_call 5; refine (awake _).mono ?_; rintro e w6 ⟨rfl, hb6⟩; have H6 : Hid (Below w.heap.size w w6) := below_on H5.out hb6; clear hb6))
        all_goals
          go_wp2
          go_ret
          exact ⟨rfl, H6.out⟩
theorem sumsBurst_any (s : ByteArray) (at_ by_ : Int) (w : World) (hs : s.size ≤ 140737488351232) (w1 : (Lit.int .i64 at_).wf = true) (w2 : (Lit.int .i64 by_).wf = true) :
    Calls Try.prog 4 #[.string s, .int .i64 at_, .int .i64 by_] w fun e w' => e = .returned (.bool true) ∧ Below w.heap.size w w' := by
  by_cases h : s.size < 4 ∨ 4096 < s.size ∨ by_ % 4294967296 = 0
  · exact sumsBurst_awake s at_ by_ w h
  · refine sumsBurst_main s at_ by_ w (by omega) (by omega) (by omega) ?_
    simp [Lit.wf, IntKind.min, IntKind.max, IntKind.signed, IntKind.bits] at w1
    omega
end Go.Proofs.Ytofjkopfldgkcab
