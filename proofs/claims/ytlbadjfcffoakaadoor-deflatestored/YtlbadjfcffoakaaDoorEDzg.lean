/- Layer 5: DeflateStored. -/
import Derived.Test.YtlbadjfcffoakaaDoorV46
import Derived.Lib.AppendStr
import Derived.Laws.AppendOwnNone
namespace Go.Proofs.YtlbadjfcffoakaaDoor
open Go.RowKit
set_option linter.unusedVariables false
set_option maxRecDepth 20000

def OB (w0 : World) (B : Nat) (v : Value) (l : List Nat) (w : World) : Prop := w.ownsRow B 5 1 v l.length (bcells l) ∧ Below B w0 w ∧ B ≤ w.heap.size ∧ ∀ x ∈ l, x < 256
theorem bcells_app (a b : List Nat) : bcells a ++ bcells b = bcells (a ++ b) := by simp [bcells]
theorem bcells_len (a : List Nat) : (bcells a).length = a.length := by simp [bcells]
theorem bcells_one (a : List Nat) : ∀ u ∈ bcells a, u.oneCell' = true := fun u hu => by
  obtain ⟨x, _, rfl⟩ := List.mem_map.1 hu
  rfl
theorem strCells_is (s : ByteArray) : Lib.strCells s = bcells (bytesL s) := by simp [Lib.strCells, bcells, bytesL]
theorem bytesL_256 (s : ByteArray) : ∀ x ∈ bytesL s, x < 256 := fun x hx => by
  obtain ⟨y, _, rfl⟩ := List.mem_map.1 hx
  exact UInt8.toNat_lt y
theorem OB.more {w0 w w' : World} {B : Nat} {v v' : Value} {l k : List Nat} (h : OB w0 B v l w) (hown : w'.ownsRow B 5 1 v' (l.length + k.length) (bcells l ++ bcells k)) (hg : w.grownBy w' v.ownBlock) (hk : ∀ x ∈ k, x < 256) : OB w0 B v' (l ++ k) w' := by
  refine ⟨?_, h.2.1.trans (D5.Below.grown h.1 hg h.2.2.1), Nat.le_trans h.2.2.1 hg.size, fun x hx => ?_⟩
  · rw [List.length_append, ← bcells_app]; exact hown
  · rcases List.mem_append.1 hx with a | a
    · exact h.2.2.2 x a
    · exact hk x a
theorem OB.quiet {w0 w w' : World} {B : Nat} {v : Value} {l : List Nat} (h : OB w0 B v l w) (hb : Below w.heap.size w w') : OB w0 B v l w' := ⟨D5.owns_below h.1 hb, h.2.1.trans (hb.mono h.2.2.1), Nat.le_trans h.2.2.1 hb.size, h.2.2.2⟩
theorem OB.form {w0 w : World} {B : Nat} {v : Value} {l : List Nat} (h : OB w0 B v l w) : ∃ ao cp, v = .slice ao l.length cp := D5.owns_form h.1
theorem OB.some {w0 w : World} {B : Nat} {v : Value} {l : List Nat} (h : OB w0 B v l w) (hl : 0 < l.length) : ∃ g cp, v = .slice (some ⟨g, 0, none⟩) l.length cp ∧ B ≤ g ∧ g < w.heap.size ∧ l.length ≤ cp ∧ TB w g l := by
  obtain ⟨g, cap, hv, hB, hlt⟩ := h.1.form hl
  subst hv
  refine ⟨g, cap, rfl, hB, hlt, own_cap h.1, fun j hj => ?_⟩
  have := h.1.cells (g := g) rfl j (.int .u8 (l.getD j 0 : Nat)) (by
    unfold bcells
    rw [List.getElem?_map, List.getD_eq_getElem?_getD, List.getElem?_eq_getElem hj]
    rfl)
  rw [D5.add_zero_addr] at this
  exact this
theorem TB.news {w : World} {g : Nat} {l : List Nat} (h : TB w g l) (a k : Nat) (hk : a + k ≤ l.length) : ∀ j u, (bcells ((l.drop a).take k))[j]? = Option.some u → w.cell? ((⟨g, a, none⟩ : Addr).add j) = Option.some u := fun j u hu => by
  have hj : j < k := by
    have := (List.getElem?_eq_some_iff.1 hu).1
    rw [bcells_len, List.length_take] at this
    omega
  have e : (⟨g, a, none⟩ : Addr).add j = ⟨g, a + j, none⟩ := by
    unfold Addr.add
    split
    · subst_vars; rfl
    · rfl
  rw [e, h (a + j) (by omega)]
  unfold bcells at hu
  rw [List.getElem?_map, List.getElem?_take, if_pos hj, List.getElem?_drop, List.getElem?_eq_getElem (by omega)] at hu
  rw [List.getD_eq_getElem?_getD, List.getElem?_eq_getElem (by omega)]
  exact hu
theorem and17 (n : Int) : ∃ K : Nat, K < 131072 ∧ bits .and .i64 n 131071 = (K : Int) := by
  have h := i64_mask 17 (by omega) n
  have e : ((2 ^ 17 - 1 : Nat) : Int) = 131071 := by decide
  have e2 : ((2 ^ 17 : Nat) : Int) = 131072 := by decide
  rw [e, e2] at h
  exact ⟨(n % 131072).toNat, by omega, by rw [h]; omega⟩
theorem blkB_len (a k : Nat) (A : List Nat) : (blkB a k A).length = A.length + 5 := by unfold blkB; rw [List.length_append]; show 5 + A.length = _; omega
theorem stB_len : ∀ (f : Nat) (A : List Nat), (stB f A).length ≤ A.length + 5 * (f + 1)
  | 0, A => by show (blkB 1 A.length A).length ≤ _; rw [blkB_len]; omega
  | f + 1, A => by
    unfold stB
    split
    · have h1 := stB_len f (A.drop 65535)
      rw [List.length_append, blkB_len, List.length_take]
      rw [List.length_drop] at h1
      omega
    · rw [blkB_len]; omega
theorem st_step {l A Z : List Nat} {f at_ k N b0 b1 b2 b3 : Nat} (hA : A.length = N) (hZ : l ++ stB f (A.drop at_) = Z) (hf : N - at_ ≤ 65535 * (f + 1)) (hk : k = 65535) (h2 : 65535 < N - at_) (e0 : k % 256 = b0) (e1 : k / 256 = b1) (e2 : 255 - b0 = b2) (e3 : 255 - b1 = b3) : ∃ f', ((l ++ [0, b0, b1, b2, b3]) ++ (A.drop at_).take k) ++ stB f' (A.drop (at_ + 65535)) = Z ∧ N - (at_ + 65535) ≤ 65535 * (f' + 1) := by
  obtain ⟨f, rfl⟩ : ∃ g, f = g + 1 := ⟨f - 1, by omega⟩
  refine ⟨f, ?_, by omega⟩
  rw [stB_more (by rw [List.length_drop]; omega), List.drop_drop] at hZ
  rw [← hZ]
  unfold blkB
  subst hk
  rw [← e3, ← e2, ← e1, ← e0]
  simp only [List.append_assoc]
theorem st_last {l A Z : List Nat} {f at_ k N b0 b1 b2 b3 : Nat} (hA : A.length = N) (hZ : l ++ stB f (A.drop at_) = Z) (hk : N - at_ = k) (h2 : ¬ 65535 < N - at_) (e0 : k % 256 = b0) (e1 : k / 256 = b1) (e2 : 255 - b0 = b2) (e3 : 255 - b1 = b3) : (l ++ [1, b0, b1, b2, b3]) ++ (A.drop at_).take k = Z := by
  have hl : (A.drop at_).length = k := by rw [List.length_drop]; omega
  rw [stB_end (by omega)] at hZ
  rw [← hZ]
  unfold blkB
  rw [hl, ← e3, ← e2, ← e1, ← e0, List.take_of_length_le (by omega)]
  simp only [List.append_assoc]
theorem and255k (k : Nat) : bits .and .i64 (k : Int) 255 = ((k % 256 : Nat) : Int) := by
  have h := i64_mask 8 (by omega) (k : Int)
  have e : ((2 ^ 8 - 1 : Nat) : Int) = 255 := by decide
  have e2 : ((2 ^ 8 : Nat) : Int) = 256 := by decide
  rw [e, e2] at h
  rw [h]
  omega
theorem st_nums {k b0 b1 b2 b3 : Nat} (hk : k ≤ 65535) (e0 : k % 256 = b0) (e1 : k / 256 = b1) (e2 : 255 - b0 = b2) (e3 : 255 - b1 = b3) : (b0 : Int) % 256 = (b0 : Int) ∧ (k : Int) / 256 = (b1 : Int) ∧ wrap64 (255 - (b0 : Int)) % 256 = (b2 : Int) ∧ 255 - (b1 : Int) = (b3 : Int) ∧ (b0 < 256 ∧ b1 < 256 ∧ b2 < 256 ∧ b3 < 256) := by
  refine ⟨by omega, by omega, ?_, by omega, by omega⟩
  unfold wrap64
  omega
theorem news5 (w : World) (a b c d e : Nat) : ∀ j u, (bcells [a, b, c, d, e])[j]? = some u → (w.alloc (.cells #[.int .u8 (a : Nat), .int .u8 (b : Nat), .int .u8 (c : Nat), .int .u8 (d : Nat), .int .u8 (e : Nat)] 5)).cell? ((⟨w.heap.size, 0, none⟩ : Addr).add j) = some u := fun j u hu => by
  have h := heap_alloc_new w (.cells #[.int .u8 (a : Nat), .int .u8 (b : Nat), .int .u8 (c : Nat), .int .u8 (d : Nat), .int .u8 (e : Nat)] 5)
  rw [D5.add_zero_addr]
  unfold World.cell?
  rw [h]
  match j, hu with
  | 0, hu => exact hu
  | 1, hu => exact hu
  | 2, hu => exact hu
  | 3, hu => exact hu
  | 4, hu => exact hu
theorem conv_none (W : World) : (convert 23 9 (.slice none 0 0)).run Tryd.prog W = .ok (.string ⟨#[]⟩) W := by kernel_rfl
theorem stB_pos (f : Nat) (A : List Nat) : 0 < (stB f A).length := by
  cases f with
  | zero => show 0 < (blkB 1 A.length A).length; rw [blkB_len]; omega
  | succ f =>
    unfold stB
    split
    · rw [List.length_append, blkB_len]; omega
    · rw [blkB_len]; omega
set_option maxHeartbeats 8000000 in
theorem stored_walk (s : ByteArray) (many : Int) (w : World) (hs : s.size ≤ 140737488351232) (ho : OrdAt w) :
    Calls Tryd.prog 3 #[.string s, .int .i64 many] w fun e w' => e = .returned (.bool true) ∧ Below w.heap.size w w' := by
  have HA : Hid (∀ W, OrdAt W → Calls Tryd.prog 4 #[] W fun e w' => e = .returned (.bool true) ∧ Below W.heap.size W w') := fun W h => awake5_ok W h
  have HO : Hid (OrdAt w) := ho
  obtain ⟨i0, hi0, hz0, hz1, hz2⟩ := info_parts infoU8'
  have HI : Hid (_ ∧ _ ∧ _ ∧ _) := ⟨hi0, hz0, hz1, hz2⟩
  obtain ⟨N, hN, hNe⟩ := and17 many
  clear ho hi0 hz0 hz1 hz2
  by_cases h0 : s.size = 0
  · have hb0 : ((s.size : Int) == 0) = true := by simp [h0]
    go_enter Tryd.func3, Tryd.ntmps3
    go_wp2_with fail
    refine (HA.out w HO.out).mono ?_
    rintro e w1 ⟨he, b1⟩
    subst he
    have B1 : Hid (Below w.heap.size w w1) := b1
    clear b1
    go_wp2
    go_ret
    exact ⟨rfl, B1.out⟩
  have hb0 : ((s.size : Int) == 0) = false := by simp only [beq_eq_false_iff_ne, ne_eq]; omega
  by_cases hlt : 1024 < s.size
  · have hlti : (1024 : Int) < (s.size : Int) := by omega
    go_enter Tryd.func3, Tryd.ntmps3
    go_wp2_with fail
    refine (HA.out w HO.out).mono ?_
    rintro e w1 ⟨he, b1⟩
    subst he
    have B1 : Hid (Below w.heap.size w w1) := b1
    clear b1
    go_wp2
    go_ret
    exact ⟨rfl, B1.out⟩
  have hlti : ¬ (1024 : Int) < (s.size : Int) := by omega
  have HS : Hid (1 ≤ s.size ∧ s.size ≤ 1024) := ⟨by omega, by omega⟩
  obtain ⟨B, hB⟩ : ∃ B, w.heap.size = B := ⟨_, rfl⟩
  have HB : Hid (w.heap.size = B) := hB
  have H0 : Hid (OB w B (.slice none 0 0) [] w) := ⟨World.ownsRow_nil _ _ _ _, Below.refl _ _, by omega, fun x hx => by cases hx⟩
  by_cases hN0 : N = 0
  · subst hN0
    have hNe0 : bits .and .i64 many 131071 = 0 := hNe
    have hand0 : bits .and .i64 0 255 = 0 := and255k 0
    have hmin0 : min (65535 : Int) 0 = 0 := by decide
    have HROW : Hid (∀ W : World, W.ownsRow B 5 1 (.slice none 0 0) 0 []) := fun W => World.ownsRow_nil _ _ _ _
    have HNW : Hid (∀ j u, (bcells [1, 0, 0, 255, 255])[j]? = some u → (w.alloc (.cells #[.int .u8 1, .int .u8 0, .int .u8 0, .int .u8 255, .int .u8 255] 5)).cell? ((⟨w.heap.size, 0, none⟩ : Addr).add j) = some u) := news5 w 1 0 0 255 255
    have HBs : Hid (∀ o, B ≤ (w.alloc o).heap.size) := fun o => by rw [← hB]; exact ((Below.refl w.heap.size w).alloc (Nat.le_refl _) o).size
    clear hNe hN HS hB h0 hlt H0
    go_enter Tryd.func3, Tryd.ntmps3
    go_upto_block 0 with fail
    clear hNe0 hlti hb0
    go_wp2_with fail
    refine wp_loop_rounds 1 ?_
    rw [rounds_succ]
    go_wp2_with fail
    refine wp_loop_rounds 2 ?_
    rw [rounds_succ]
    go_wp2_with (at_builtin; refine wpList_append_lies _ rfl _ _ 23 rfl B 5 i0 (.int .u8 0) 1 1 Tryd.underlying23 HI.out.1 HI.out.2.1 HI.out.2.2.1 HI.out.2.2.2 rfl (by decide) (.slice none 0 0) 0 [] rfl (HROW.out _) ⟨w.heap.size, 0, none⟩ 5 5 (bcells [1, 0, 0, 255, 255]) rfl rfl HNW.out (bcells_one _) (by decide) (by decide) (by decide) (HBs.out _) _ rfl ?_)
    intro g1 cap1 w1 hown1 hgrow1 _ _
    have hb1 : Below B w w1 := by
      have h1 := (Below.refl w.heap.size w).alloc (Nat.le_refl _) (.cells #[.int .u8 1, .int .u8 0, .int .u8 0, .int .u8 255, .int .u8 255] 5)
      rw [HB.out] at h1
      exact h1.trans ⟨hgrow1.os, hgrow1.tape, hgrow1.output, hgrow1.size, fun k hk => hgrow1.block k (Nat.lt_of_lt_of_le hk (HBs.out _)) (fun e => by cases e)⟩
    have HW1 : Hid (w1.ownsRow B 5 1 (.slice (some ⟨g1, 0, none⟩) 5 cap1) 5 (bcells [1, 0, 0, 255, 255]) ∧ Below B w w1) := ⟨hown1, hb1⟩
    have hcv : ∀ W : World, (convert 23 9 (.slice none 0 0)).run Tryd.prog W = .ok (.string ⟨#[]⟩) W := fun W => conv_none W
    clear hown1 hgrow1 hb1 HNW HBs HROW
    go_wp2_with (at_builtin; refine wpList_append_own_none rfl _ _ 23 rfl B 5 i0 1 Tryd.underlying23 HI.out.1 (.slice (some ⟨g1, 0, none⟩) 5 cap1) 5 (bcells [1, 0, 0, 255, 255]) rfl HW1.out.1 rfl ?_)
    rw [rounds_succ]
    have HSt : Hid (Calls Tryd.prog 5 #[.string ⟨#[]⟩] w1 fun e w' => e = .returned (.tuple #[.string (toBA [1, 0, 0, 255, 255]), .int .i64 0]) ∧ Below w1.heap.size w1 w') := by
      have := Stored_ok (toBA []) w1 (by decide)
      rw [stored_is (A := []) (fun x hx => by cases hx) (by decide)] at this
      exact this
    obtain ⟨sZ, hsZ⟩ : ∃ q, toBA [1, 0, 0, 255, 255] = q := ⟨_, rfl⟩
    rw [hsZ] at HSt
    have HC2 : Hid (∀ W, Below w1.heap.size w1 W → (convert 23 9 (.slice (some ⟨g1, 0, none⟩) 5 cap1)).run Tryd.prog W = .ok (.string sZ) W) := fun W hW => by
      have hb : TB w1 g1 [1, 0, 0, 255, 255] := fun j hj => by
        have := HW1.out.1.cells (g := g1) rfl j (.int .u8 (([1, 0, 0, 255, 255] : List Nat).getD j 0 : Nat)) (by
          simp only [bcells, List.getElem?_map]
          rw [List.getElem?_eq_getElem hj, List.getD_eq_getElem?_getD, List.getElem?_eq_getElem hj]
          rfl)
        rw [D5.add_zero_addr] at this
        exact this
      rw [← hsZ]
      have hgl2 : g1 < w1.heap.size := by
        obtain ⟨g', c', e, _, h2⟩ := HW1.out.1.form (by decide)
        cases e
        exact h2
      exact bytes_back [1, 0, 0, 255, 255] g1 cap1 W (fun j hj => cell_low hW hgl2 (hb j hj)) (by decide)
    go_wp2_with fail
    refine HSt.out.mono ?_
    rintro e w5 ⟨he, hb5⟩
    subst he
    have hc2 := HC2.out w5 hb5
    have hB1 : Below w.heap.size w w1 := by rw [HB.out]; exact HW1.out.2
    have HA5 : Hid (Calls Tryd.prog 4 #[] w5 fun e w' => e = .returned (.bool true) ∧ Below w5.heap.size w5 w') := HA.out w5 ((HO.out.below hB1).below hb5)
    have HB5 : Hid (Below w.heap.size w w5) := hB1.trans (hb5.mono hB1.size)
    clear hb5 hB1 HC2 HSt hcv
    go_wp2_with fail
    refine HA5.out.mono ?_
    rintro e w6 ⟨he, hb6⟩
    subst he
    have HB6 : Hid (Below w.heap.size w w6) := HB5.out.trans (hb6.mono HB5.out.size)
    clear hb6 HB5 HA5
    go_wp2
    go_ret
    exact ⟨rfl, HB6.out⟩
  clear hB h0 hlt
  go_enter Tryd.func3, Tryd.ntmps3
  go_upto_block 0 with fail
  go_cut [6] (fun v6 wc => ∃ g L cp : Nat, v6 = .slice (some ⟨g, 0, none⟩) L cp ∧ N ≤ cp ∧ Hid (∃ l, l.length = L ∧ N ≤ L ∧ TB wc g l ∧ (∀ x ∈ l, x < 256) ∧ Below w.heap.size w wc ∧ g < wc.heap.size))
  case first =>
    focus
      go_wp2_with fail
      go_loopw [6] (fun v6 wr => ∃ (ao : Option Addr) (L cp : Nat), v6 = .slice ao L cp ∧ L ≤ 140000 ∧ Hid (∃ l, l.length = L ∧ OB w B (.slice ao L cp) l wr)) (fun v6 _ => N - sliLen v6)
      case atStart => exact ⟨none, 0, 0, rfl, by omega, [], rfl, H0.out⟩
      case round =>
        obtain ⟨ao, L, cp, rfl, hL, HR⟩ := hrel
        by_cases hl : L < N
        · have hli : (L : Int) < (N : Int) := by omega
          obtain ⟨l, hll, hob⟩ := HR.out
          have HOB : Hid (OB w B (.slice ao L cp) l wr ∧ l.length = L) := ⟨hob, hll⟩
          have hown : Hid (wr.ownsRow B 5 1 (.slice ao L cp) L (bcells l) ∧ B ≤ wr.heap.size) := by have h1 := hob.1; rw [hll] at h1; exact ⟨h1, hob.2.2.1⟩
          clear hll hob HR
          go_wp2_with (at_builtin; refine Lib.wpList_append_own_string _ rfl _ _ 23 9 rfl B 5 i0 Tryd.underlying23 Tryd.underlying9 HI.out.1 HI.out.2.1 HI.out.2.2.1 HI.out.2.2.2 (.slice ao L cp) L (bcells l) rfl hown.out.1 s rfl ?c1 ?c2 hown.out.2 ?_)
          case c1 => have := HS.out.2; unfold maxLen; omega
          case c2 => have := HS.out.2; omega
          intro v1 w1 hown1 hgrow _
          rw [strCells_is] at hown1
          have hob2 : OB w B v1 (l ++ bytesL s) w1 := HOB.out.1.more (by rw [HOB.out.2, bytesL_length]; exact hown1) hgrow (bytesL_256 s)
          obtain ⟨ao1, cp1, hv1⟩ := hob2.form
          rw [List.length_append, HOB.out.2, bytesL_length] at hv1
          subst hv1
          have HF : Hid (∃ l', l'.length = L + s.size ∧ OB w B (.slice ao1 (L + s.size) cp1) l' w1) := ⟨l ++ bytesL s, by rw [List.length_append, HOB.out.2, bytesL_length], hob2⟩
          clear hown1 hgrow hob2 hown HOB
          go_wp2
          refine ⟨⟨ao1, L + s.size, cp1, rfl, by have := HS.out.2; omega, HF⟩, ?_⟩
          show N - (L + s.size) < N - L
          have := HS.out.1
          omega
        · have hli : ¬ (L : Int) < (N : Int) := by omega
          obtain ⟨l, hll, hob⟩ := HR.out
          obtain ⟨g, cp', hv, hBg, hgl, hlc, htb⟩ := hob.some (by omega)
          rw [hll] at hv hlc
          cases hv
          have HE : Hid (∃ l, l.length = L ∧ N ≤ L ∧ TB wr g l ∧ (∀ x ∈ l, x < 256) ∧ Below w.heap.size w wr ∧ g < wr.heap.size) := ⟨l, hll, by omega, htb, hob.2.2.2, by rw [HB.out]; exact hob.2.1, hgl⟩
          have hNc : N ≤ cp := by omega
          clear hll hob hBg hgl hlc htb HR
          go_wp2_with fail
          go_meet
          case rel => exact ⟨g, L, cp, rfl, hNc, HE.out⟩
  case rest =>
    obtain ⟨g, L, cp, rfl, hNc, HR⟩ := hcut
    obtain ⟨l, hll, hNL, htb, h256, hbw, hgl⟩ := HR.out
    obtain ⟨A, hA⟩ : ∃ A, l.take N = A := ⟨_, rfl⟩
    have hAl : A.length = N := by rw [← hA, List.length_take]; omega
    have htA : TB wc g A := fun j hj => by
      have h1 := htb j (by omega)
      rw [← hA, List.getD_eq_getElem?_getD, List.getElem?_take, if_pos (by omega), ← List.getD_eq_getElem?_getD]
      exact h1
    have hA256 : ∀ x ∈ A, x < 256 := fun x hx => h256 x (List.mem_of_mem_take (by rw [hA]; exact hx))
    obtain ⟨B2, hB2⟩ : ∃ B2, wc.heap.size = B2 := ⟨_, rfl⟩
    obtain ⟨Z, hZ⟩ : ∃ Z, stB 17 A = Z := ⟨_, rfl⟩
    have HALL : Hid (A.length = N ∧ TB wc g A ∧ (∀ x ∈ A, x < 256) ∧ Below w.heap.size w wc ∧ g < B2 ∧ wc.heap.size = B2 ∧ stB 17 A = Z ∧ Z.length ≤ 131161) := ⟨hAl, htA, hA256, hbw, by omega, hB2, hZ, by rw [← hZ]; have := stB_len 17 A; omega⟩
    have H1 : Hid (OB wc B2 (.slice none 0 0) [] wc) := ⟨World.ownsRow_nil _ _ _ _, Below.refl _ _, by omega, fun x hx => by cases hx⟩
    have hNci : (N : Int) ≤ (cp : Int) := by omega
    clear hll hNL htb h256 hbw hgl HR hA hAl htA hA256 hB2 hZ H0 HI
    obtain ⟨i0, hi0, hz0, hz1, hz2⟩ := info_parts infoU8'
    have HI : Hid (_ ∧ _ ∧ _ ∧ _) := ⟨hi0, hz0, hz1, hz2⟩
    clear hi0 hz0 hz1 hz2
    go_upto_block 2 with fail
    go_cut [7] (fun v7 wd => ∃ (ao : Option Addr) (cp7 : Nat), v7 = .slice ao Z.length cp7 ∧ Hid (OB wc B2 (.slice ao Z.length cp7) Z wd))
    case first =>
      focus
        go_wp2_with fail
        go_loopw [7, 8] (fun v7 v8 wr => ∃ (ao : Option Addr) (L7 cp7 at_ : Nat), v7 = .slice ao L7 cp7 ∧ v8 = .int .i64 (at_ : Nat) ∧ at_ ≤ 262140 ∧ Hid (∃ l, l.length = L7 ∧ OB wc B2 (.slice ao L7 cp7) l wr ∧ ((∃ f, at_ < N ∧ l ++ stB f (A.drop at_) = Z ∧ N - at_ ≤ 65535 * (f + 1)) ∨ (at_ ≠ 0 ∧ ¬ at_ < N ∧ l = Z)))) (fun _ v8 _ => 400000 - (intOf v8).toNat)
        case atStart => exact ⟨none, 0, 0, 0, rfl, rfl, by omega, [], rfl, H1.out, .inl ⟨17, by omega, HALL.out.2.2.2.2.2.2.1, by omega⟩⟩
        case round =>
          obtain ⟨ao, L7, cp7, at_, rfl, rfl, hat, HR⟩ := hrel
          by_cases hl : at_ < N
          · obtain ⟨l, hll, hob, hor⟩ := HR.out
            rcases hor with ⟨f, _, hZl, hfN⟩ | ⟨_, h9, _⟩
            rotate_left
            · exact absurd hl h9
            obtain ⟨r, hr⟩ : ∃ r, N - at_ = r := ⟨_, rfl⟩
            have hri : (N : Int) - (at_ : Int) = (r : Int) := by omega
            have hrw := D5.wrapN r (by omega)
            by_cases h2 : 65535 < r
            · by_cases hA0 : at_ = 0
              · focus
                obtain ⟨k, hk⟩ : ∃ k, 65535 = k := ⟨_, rfl⟩
                obtain ⟨ak, hak⟩ : ∃ ak, at_ + k = ak := ⟨_, rfl⟩
                have haki : (at_ : Int) + (k : Int) = (ak : Int) := by omega
                have hakw := D5.wrapN ak (by omega)
                have h1 : r ≤ 140000 := by omega
                have HR2 : Hid (65535 < r) := h2
                have HNB : Hid (N < 131072 ∧ N ≤ cp ∧ at_ ≤ 262140) := ⟨hN, hNc, hat⟩
                have HX : Hid ((N - at_ = r ∧ at_ + k = ak ∧ k ≤ 65535 ∧ ak ≤ N ∧ 1 ≤ k) ∧ l.length = L7 ∧ OB wc B2 (.slice ao L7 cp7) l wr ∧ l ++ stB f (A.drop at_) = Z ∧ N - at_ ≤ 65535 * (f + 1) ∧ L7 ≤ 131161 ∧ (65535 < r → k = 65535) ∧ (¬ 65535 < r → N - at_ = k)) := ⟨⟨hr, hak, by omega, by omega, by omega⟩, hll, hob, hZl, hfN, by have h7 := congrArg List.length hZl; rw [List.length_append] at h7; have h8 := HALL.out.2.2.2.2.2.2.2; omega, fun _ => by omega, fun _ => by omega⟩
                have hkb : k ≤ 65535 := by omega
                have hmin : min (65535 : Int) (r : Int) = (k : Int) := by omega
                have hlast : ((ak : Int) == (N : Int)) = false := by simp only [beq_eq_false_iff_ne, ne_eq]; omega
                have ha0 : ((at_ : Int) == 0) = true := by simp only [beq_iff_eq]; omega
                clear h2 hA0 h1 hr hk hak hll hob hZl hfN HR hN hNc hat hN0 hNe hlti hb0 hl
                go_upto_region 16 with fail
                obtain ⟨b0, e0⟩ : ∃ b, k % 256 = b := ⟨_, rfl⟩
                obtain ⟨b1, e1⟩ : ∃ b, k / 256 = b := ⟨_, rfl⟩
                obtain ⟨b2, e2⟩ : ∃ b, 255 - b0 = b := ⟨_, rfl⟩
                obtain ⟨b3, e3⟩ : ∃ b, 255 - b1 = b := ⟨_, rfl⟩
                have HLEN : Hid (L7 + 5 + k ≤ 300000 ∧ L7 + 5 ≤ 300000) := by have h1 := HX.out.2.2.2.2.2.1; have h2 := HX.out.1; exact ⟨by omega, by omega⟩
                have hand := and255k k
                rw [e0] at hand
                obtain ⟨n0, n1, n2, n3, n4⟩ := st_nums HX.out.1.2.2.1 e0 e1 e2 e3
                have HE : Hid ((k % 256 = b0 ∧ k / 256 = b1 ∧ 255 - b0 = b2 ∧ 255 - b1 = b3) ∧ (b0 < 256 ∧ b1 < 256 ∧ b2 < 256 ∧ b3 < 256)) := ⟨⟨e0, e1, e2, e3⟩, n4⟩
                have HOW : Hid (∀ o, (wr.alloc o).ownsRow B2 5 1 (.slice ao L7 cp7) L7 (bcells l) ∧ B2 ≤ (wr.alloc o).heap.size ∧ OB wc B2 (.slice ao L7 cp7) l (wr.alloc o)) := fun o => by
                  have h1 := HX.out.2.2.1.quiet (w' := wr.alloc o) ((Below.refl _ _).alloc (Nat.le_refl _) _)
                  have h2 := h1.1
                  rw [HX.out.2.1] at h2
                  exact ⟨h2, h1.2.2.1, h1⟩
                have HNW : Hid (∀ j u, (bcells [0, b0, b1, b2, b3])[j]? = some u → (wr.alloc (.cells #[.int .u8 0, .int .u8 (b0 : Nat), .int .u8 (b1 : Nat), .int .u8 (255 - (b0 : Int)), .int .u8 (b3 : Nat)] 5)).cell? ((⟨wr.heap.size, 0, none⟩ : Addr).add j) = some u) := by
                  have e9 : (255 : Int) - (b0 : Int) = (b2 : Int) := by omega
                  rw [e9]
                  exact news5 wr 0 b0 b1 b2 b3
                have HR3 : Hid (bits .and .i64 (k : Int) 255 = (b0 : Int) ∧ (b0 : Int) % 256 = (b0 : Int) ∧ (k : Int) / 256 = (b1 : Int) ∧ wrap64 (255 - (b0 : Int)) % 256 = (b2 : Int) ∧ 255 - (b1 : Int) = (b3 : Int)) := ⟨hand, n0, n1, n2, n3⟩
                clear e0 e1 e2 e3 n4
                go_wp2_with (at_builtin; refine wpList_append_lies _ rfl _ _ 23 rfl B2 5 i0 (.int .u8 0) 1 1 Tryd.underlying23 HI.out.1 HI.out.2.1 HI.out.2.2.1 HI.out.2.2.2 rfl (by decide) (.slice ao L7 cp7) L7 (bcells l) rfl (HOW.out _).1 ⟨wr.heap.size, 0, none⟩ 5 5 (bcells [0, b0, b1, b2, b3]) rfl rfl HNW.out (bcells_one _) (by decide) ?c3 ?c4 (HOW.out _).2.1 _ rfl ?_)
                case c3 => exact Nat.le_trans HLEN.out.2 (by decide)
                case c4 => rw [Nat.mul_one]; exact Nat.le_trans HLEN.out.2 (by decide)
                intro g1 cap1 w1 hown1 hgrow _ _
                have hob1 : OB wc B2 (.slice (some ⟨g1, 0, none⟩) (L7 + 5) cap1) (l ++ [0, b0, b1, b2, b3]) w1 := (HOW.out _).2.2.more (by rw [HX.out.2.1]; exact hown1) hgrow (fun x hx => by
                  have := HE.out.2
                  simp only [List.mem_cons, List.not_mem_nil, or_false] at hx
                  omega)
                have HO1 : Hid (OB wc B2 (.slice (some ⟨g1, 0, none⟩) (L7 + 5) cap1) (l ++ [0, b0, b1, b2, b3]) w1 ∧ w1.ownsRow B2 5 1 (.slice (some ⟨g1, 0, none⟩) (L7 + 5) cap1) (L7 + 5) (bcells (l ++ [0, b0, b1, b2, b3])) ∧ B2 ≤ w1.heap.size) := ⟨hob1, by have h3 := hob1.1; rw [List.length_append, HX.out.2.1] at h3; exact h3, hob1.2.2.1⟩
                have HT1 : Hid (TB w1 g A) := fun j hj => by
                  have h5 := hob1.2.1
                  rw [← HALL.out.2.2.2.2.2.1] at h5
                  exact cell_low h5 (by have := HALL.out.2.2.2.2.1; have := HALL.out.2.2.2.2.2.1; omega) (HALL.out.2.1 j hj)
                have hn2 : Hid ((bcells ((A.drop at_).take k)).length = k * 1 ∧ ∀ j u, (bcells ((A.drop at_).take k))[j]? = some u → w1.cell? ((⟨g, at_, none⟩ : Addr).add j) = some u) := by
                  have h5 := HALL.out.1
                  have h6 := HX.out.1
                  exact ⟨by rw [bcells_len, List.length_take, List.length_drop]; omega, HT1.out.news at_ k (by omega)⟩
                have hle1 : (at_ : Int) ≤ (ak : Int) := by have := HX.out.1; omega
                have hle2 : (ak : Int) ≤ (cp : Int) := by have := HX.out.1; omega
                have hle3 : (ak : Int) ≤ (N : Int) := by have := HX.out.1; omega
                have hdif : (ak : Int) - (at_ : Int) = (k : Int) := by omega
                have hdn : ak - at_ = k := by omega
                obtain ⟨c2, hc2⟩ : ∃ c2, cp - at_ = c2 := ⟨_, rfl⟩
                have hc2i : (cp : Int) - (at_ : Int) = (c2 : Int) := by omega
                obtain ⟨a2, ha2⟩ : ∃ a2, at_ + 65535 = a2 := ⟨_, rfl⟩
                have ha2i : (at_ : Int) + 65535 = (a2 : Int) := by omega
                have ha2w := D5.wrapN a2 (by have := HNB.out; omega)
                have HA2 : Hid (at_ + 65535 = a2 ∧ 1 ≤ c2) := ⟨ha2, by have := HX.out.1; omega⟩
                have hc2p : ¬ c2 = 0 := by have := HX.out.1; omega
                clear hown1 hgrow hob1 HNW HOW hc2 ha2 HR3 hand n0 n1 n2 n3
                go_wp2_with (at_builtin; refine wpList_append_lies _ rfl _ _ 23 rfl B2 5 i0 (.int .u8 0) 1 1 Tryd.underlying23 HI.out.1 HI.out.2.1 HI.out.2.2.1 HI.out.2.2.2 rfl (by decide) (.slice (some ⟨g1, 0, none⟩) (L7 + 5) cap1) (L7 + 5) (bcells (l ++ [0, b0, b1, b2, b3])) rfl HO1.out.2.1 ⟨g, at_, none⟩ k _ (bcells ((A.drop at_).take k)) rfl hn2.out.1 hn2.out.2 (bcells_one _) ?c5 ?c6 ?c7 HO1.out.2.2 _ rfl ?_)
                case c5 => exact HX.out.1.2.2.2.2
                case c6 => exact Nat.le_trans HLEN.out.1 (by decide)
                case c7 => rw [Nat.mul_one]; exact Nat.le_trans HLEN.out.1 (by decide)
                intro g2 cap2 w2 hown2 hgrow2 _ _
                have hlk : ((A.drop at_).take k).length = k := by have h9 := hn2.out.1; rw [bcells_len, Nat.mul_one] at h9; exact h9
                have hob2 : OB wc B2 (.slice (some ⟨g2, 0, none⟩) (L7 + 5 + k) cap2) ((l ++ [0, b0, b1, b2, b3]) ++ (A.drop at_).take k) w2 := HO1.out.1.more (by rw [List.length_append, HX.out.2.1, hlk]; exact hown2) hgrow2 (fun x hx => HALL.out.2.2.1 x (List.mem_of_mem_drop (List.mem_of_mem_take hx)))
                have HF : Hid (∃ l', l'.length = L7 + 5 + k ∧ OB wc B2 (.slice (some ⟨g2, 0, none⟩) (L7 + 5 + k) cap2) l' w2 ∧ ((∃ f, a2 < N ∧ l' ++ stB f (A.drop a2) = Z ∧ N - a2 ≤ 65535 * (f + 1)) ∨ (a2 ≠ 0 ∧ ¬ a2 < N ∧ l' = Z))) := by
                  clear hakw ha2w hrw haki ha2i hdif hc2i hle1 hle2 hle3 hri hmin hdn
                  refine ⟨_, by rw [List.length_append, List.length_append, HX.out.2.1, hlk]; rfl, hob2, ?_⟩
                  have h6 := HX.out.1
                  have h7 := HA2.out.1
                  obtain ⟨⟨e0, e1, e2, e3⟩, _⟩ := HE.out
                  have h2' : 65535 < N - at_ := by have := HR2.out; omega
                  obtain ⟨f', a1, a2'⟩ := st_step HALL.out.1 HX.out.2.2.2.1 HX.out.2.2.2.2.1 (HX.out.2.2.2.2.2.2.1 HR2.out) h2' e0 e1 e2 e3
                  rw [h7] at a1 a2'
                  exact .inl ⟨f', by omega, a1, a2'⟩
                clear hown2 hgrow2 hob2 hlk hn2 HO1 HT1 HE
                go_wp2
                refine ⟨⟨_, L7 + 5 + k, cap2, a2, rfl, rfl, by have h1 := HX.out.1; have h2 := HA2.out.1; have h3 := HNB.out; clear hakw ha2w; omega, HF⟩, ?_⟩
                have h7 := HA2.out.1
                have h8 := HNB.out
                clear hakw ha2w
                simp [intOf]
                omega
              · focus
                obtain ⟨k, hk⟩ : ∃ k, 65535 = k := ⟨_, rfl⟩
                obtain ⟨ak, hak⟩ : ∃ ak, at_ + k = ak := ⟨_, rfl⟩
                have haki : (at_ : Int) + (k : Int) = (ak : Int) := by omega
                have hakw := D5.wrapN ak (by omega)
                have h1 : r ≤ 140000 := by omega
                have HR2 : Hid (65535 < r) := h2
                have HNB : Hid (N < 131072 ∧ N ≤ cp ∧ at_ ≤ 262140) := ⟨hN, hNc, hat⟩
                have HX : Hid ((N - at_ = r ∧ at_ + k = ak ∧ k ≤ 65535 ∧ ak ≤ N ∧ 1 ≤ k) ∧ l.length = L7 ∧ OB wc B2 (.slice ao L7 cp7) l wr ∧ l ++ stB f (A.drop at_) = Z ∧ N - at_ ≤ 65535 * (f + 1) ∧ L7 ≤ 131161 ∧ (65535 < r → k = 65535) ∧ (¬ 65535 < r → N - at_ = k)) := ⟨⟨hr, hak, by omega, by omega, by omega⟩, hll, hob, hZl, hfN, by have h7 := congrArg List.length hZl; rw [List.length_append] at h7; have h8 := HALL.out.2.2.2.2.2.2.2; omega, fun _ => by omega, fun _ => by omega⟩
                have hkb : k ≤ 65535 := by omega
                have hmin : min (65535 : Int) (r : Int) = (k : Int) := by omega
                have hlast : ((ak : Int) == (N : Int)) = false := by simp only [beq_eq_false_iff_ne, ne_eq]; omega
                have ha0 : ((at_ : Int) == 0) = false := by simp only [beq_eq_false_iff_ne, ne_eq]; omega
                have hali : (at_ : Int) < (N : Int) := by omega
                clear h2 hA0 h1 hr hk hak hll hob hZl hfN HR hN hNc hat hN0 hNe hlti hb0 hl
                go_upto_region 16 with fail
                obtain ⟨b0, e0⟩ : ∃ b, k % 256 = b := ⟨_, rfl⟩
                obtain ⟨b1, e1⟩ : ∃ b, k / 256 = b := ⟨_, rfl⟩
                obtain ⟨b2, e2⟩ : ∃ b, 255 - b0 = b := ⟨_, rfl⟩
                obtain ⟨b3, e3⟩ : ∃ b, 255 - b1 = b := ⟨_, rfl⟩
                have HLEN : Hid (L7 + 5 + k ≤ 300000 ∧ L7 + 5 ≤ 300000) := by have h1 := HX.out.2.2.2.2.2.1; have h2 := HX.out.1; exact ⟨by omega, by omega⟩
                have hand := and255k k
                rw [e0] at hand
                obtain ⟨n0, n1, n2, n3, n4⟩ := st_nums HX.out.1.2.2.1 e0 e1 e2 e3
                have HE : Hid ((k % 256 = b0 ∧ k / 256 = b1 ∧ 255 - b0 = b2 ∧ 255 - b1 = b3) ∧ (b0 < 256 ∧ b1 < 256 ∧ b2 < 256 ∧ b3 < 256)) := ⟨⟨e0, e1, e2, e3⟩, n4⟩
                have HOW : Hid (∀ o, (wr.alloc o).ownsRow B2 5 1 (.slice ao L7 cp7) L7 (bcells l) ∧ B2 ≤ (wr.alloc o).heap.size ∧ OB wc B2 (.slice ao L7 cp7) l (wr.alloc o)) := fun o => by
                  have h1 := HX.out.2.2.1.quiet (w' := wr.alloc o) ((Below.refl _ _).alloc (Nat.le_refl _) _)
                  have h2 := h1.1
                  rw [HX.out.2.1] at h2
                  exact ⟨h2, h1.2.2.1, h1⟩
                have HNW : Hid (∀ j u, (bcells [0, b0, b1, b2, b3])[j]? = some u → (wr.alloc (.cells #[.int .u8 0, .int .u8 (b0 : Nat), .int .u8 (b1 : Nat), .int .u8 (255 - (b0 : Int)), .int .u8 (b3 : Nat)] 5)).cell? ((⟨wr.heap.size, 0, none⟩ : Addr).add j) = some u) := by
                  have e9 : (255 : Int) - (b0 : Int) = (b2 : Int) := by omega
                  rw [e9]
                  exact news5 wr 0 b0 b1 b2 b3
                have HR3 : Hid (bits .and .i64 (k : Int) 255 = (b0 : Int) ∧ (b0 : Int) % 256 = (b0 : Int) ∧ (k : Int) / 256 = (b1 : Int) ∧ wrap64 (255 - (b0 : Int)) % 256 = (b2 : Int) ∧ 255 - (b1 : Int) = (b3 : Int)) := ⟨hand, n0, n1, n2, n3⟩
                clear e0 e1 e2 e3 n4
                go_wp2_with (at_builtin; refine wpList_append_lies _ rfl _ _ 23 rfl B2 5 i0 (.int .u8 0) 1 1 Tryd.underlying23 HI.out.1 HI.out.2.1 HI.out.2.2.1 HI.out.2.2.2 rfl (by decide) (.slice ao L7 cp7) L7 (bcells l) rfl (HOW.out _).1 ⟨wr.heap.size, 0, none⟩ 5 5 (bcells [0, b0, b1, b2, b3]) rfl rfl HNW.out (bcells_one _) (by decide) ?c3 ?c4 (HOW.out _).2.1 _ rfl ?_)
                case c3 => exact Nat.le_trans HLEN.out.2 (by decide)
                case c4 => rw [Nat.mul_one]; exact Nat.le_trans HLEN.out.2 (by decide)
                intro g1 cap1 w1 hown1 hgrow _ _
                have hob1 : OB wc B2 (.slice (some ⟨g1, 0, none⟩) (L7 + 5) cap1) (l ++ [0, b0, b1, b2, b3]) w1 := (HOW.out _).2.2.more (by rw [HX.out.2.1]; exact hown1) hgrow (fun x hx => by
                  have := HE.out.2
                  simp only [List.mem_cons, List.not_mem_nil, or_false] at hx
                  omega)
                have HO1 : Hid (OB wc B2 (.slice (some ⟨g1, 0, none⟩) (L7 + 5) cap1) (l ++ [0, b0, b1, b2, b3]) w1 ∧ w1.ownsRow B2 5 1 (.slice (some ⟨g1, 0, none⟩) (L7 + 5) cap1) (L7 + 5) (bcells (l ++ [0, b0, b1, b2, b3])) ∧ B2 ≤ w1.heap.size) := ⟨hob1, by have h3 := hob1.1; rw [List.length_append, HX.out.2.1] at h3; exact h3, hob1.2.2.1⟩
                have HT1 : Hid (TB w1 g A) := fun j hj => by
                  have h5 := hob1.2.1
                  rw [← HALL.out.2.2.2.2.2.1] at h5
                  exact cell_low h5 (by have := HALL.out.2.2.2.2.1; have := HALL.out.2.2.2.2.2.1; omega) (HALL.out.2.1 j hj)
                have hn2 : Hid ((bcells ((A.drop at_).take k)).length = k * 1 ∧ ∀ j u, (bcells ((A.drop at_).take k))[j]? = some u → w1.cell? ((⟨g, at_, none⟩ : Addr).add j) = some u) := by
                  have h5 := HALL.out.1
                  have h6 := HX.out.1
                  exact ⟨by rw [bcells_len, List.length_take, List.length_drop]; omega, HT1.out.news at_ k (by omega)⟩
                have hle1 : (at_ : Int) ≤ (ak : Int) := by have := HX.out.1; omega
                have hle2 : (ak : Int) ≤ (cp : Int) := by have := HX.out.1; omega
                have hle3 : (ak : Int) ≤ (N : Int) := by have := HX.out.1; omega
                have hdif : (ak : Int) - (at_ : Int) = (k : Int) := by omega
                have hdn : ak - at_ = k := by omega
                obtain ⟨c2, hc2⟩ : ∃ c2, cp - at_ = c2 := ⟨_, rfl⟩
                have hc2i : (cp : Int) - (at_ : Int) = (c2 : Int) := by omega
                obtain ⟨a2, ha2⟩ : ∃ a2, at_ + 65535 = a2 := ⟨_, rfl⟩
                have ha2i : (at_ : Int) + 65535 = (a2 : Int) := by omega
                have ha2w := D5.wrapN a2 (by have := HNB.out; omega)
                have HA2 : Hid (at_ + 65535 = a2 ∧ 1 ≤ c2) := ⟨ha2, by have := HX.out.1; omega⟩
                have hc2p : ¬ c2 = 0 := by have := HX.out.1; omega
                clear hown1 hgrow hob1 HNW HOW hc2 ha2 HR3 hand n0 n1 n2 n3
                go_wp2_with (at_builtin; refine wpList_append_lies _ rfl _ _ 23 rfl B2 5 i0 (.int .u8 0) 1 1 Tryd.underlying23 HI.out.1 HI.out.2.1 HI.out.2.2.1 HI.out.2.2.2 rfl (by decide) (.slice (some ⟨g1, 0, none⟩) (L7 + 5) cap1) (L7 + 5) (bcells (l ++ [0, b0, b1, b2, b3])) rfl HO1.out.2.1 ⟨g, at_, none⟩ k _ (bcells ((A.drop at_).take k)) rfl hn2.out.1 hn2.out.2 (bcells_one _) ?c5 ?c6 ?c7 HO1.out.2.2 _ rfl ?_)
                case c5 => exact HX.out.1.2.2.2.2
                case c6 => exact Nat.le_trans HLEN.out.1 (by decide)
                case c7 => rw [Nat.mul_one]; exact Nat.le_trans HLEN.out.1 (by decide)
                intro g2 cap2 w2 hown2 hgrow2 _ _
                have hlk : ((A.drop at_).take k).length = k := by have h9 := hn2.out.1; rw [bcells_len, Nat.mul_one] at h9; exact h9
                have hob2 : OB wc B2 (.slice (some ⟨g2, 0, none⟩) (L7 + 5 + k) cap2) ((l ++ [0, b0, b1, b2, b3]) ++ (A.drop at_).take k) w2 := HO1.out.1.more (by rw [List.length_append, HX.out.2.1, hlk]; exact hown2) hgrow2 (fun x hx => HALL.out.2.2.1 x (List.mem_of_mem_drop (List.mem_of_mem_take hx)))
                have HF : Hid (∃ l', l'.length = L7 + 5 + k ∧ OB wc B2 (.slice (some ⟨g2, 0, none⟩) (L7 + 5 + k) cap2) l' w2 ∧ ((∃ f, a2 < N ∧ l' ++ stB f (A.drop a2) = Z ∧ N - a2 ≤ 65535 * (f + 1)) ∨ (a2 ≠ 0 ∧ ¬ a2 < N ∧ l' = Z))) := by
                  clear hakw ha2w hrw haki ha2i hdif hc2i hle1 hle2 hle3 hri hmin hdn
                  refine ⟨_, by rw [List.length_append, List.length_append, HX.out.2.1, hlk]; rfl, hob2, ?_⟩
                  have h6 := HX.out.1
                  have h7 := HA2.out.1
                  obtain ⟨⟨e0, e1, e2, e3⟩, _⟩ := HE.out
                  have h2' : 65535 < N - at_ := by have := HR2.out; omega
                  obtain ⟨f', a1, a2'⟩ := st_step HALL.out.1 HX.out.2.2.2.1 HX.out.2.2.2.2.1 (HX.out.2.2.2.2.2.2.1 HR2.out) h2' e0 e1 e2 e3
                  rw [h7] at a1 a2'
                  exact .inl ⟨f', by omega, a1, a2'⟩
                clear hown2 hgrow2 hob2 hlk hn2 HO1 HT1 HE
                go_wp2
                refine ⟨⟨_, L7 + 5 + k, cap2, a2, rfl, rfl, by have h1 := HX.out.1; have h2 := HA2.out.1; have h3 := HNB.out; clear hakw ha2w; omega, HF⟩, ?_⟩
                have h7 := HA2.out.1
                have h8 := HNB.out
                clear hakw ha2w
                simp [intOf]
                omega
            · by_cases hA0 : at_ = 0
              · focus
                obtain ⟨k, hk⟩ : ∃ k, r = k := ⟨_, rfl⟩
                obtain ⟨ak, hak⟩ : ∃ ak, at_ + k = ak := ⟨_, rfl⟩
                have haki : (at_ : Int) + (k : Int) = (ak : Int) := by omega
                have hakw := D5.wrapN ak (by omega)
                have h1 : r ≤ 140000 := by omega
                have HR2 : Hid (¬ 65535 < r) := h2
                have HNB : Hid (N < 131072 ∧ N ≤ cp ∧ at_ ≤ 262140) := ⟨hN, hNc, hat⟩
                have HX : Hid ((N - at_ = r ∧ at_ + k = ak ∧ k ≤ 65535 ∧ ak ≤ N ∧ 1 ≤ k) ∧ l.length = L7 ∧ OB wc B2 (.slice ao L7 cp7) l wr ∧ l ++ stB f (A.drop at_) = Z ∧ N - at_ ≤ 65535 * (f + 1) ∧ L7 ≤ 131161 ∧ (65535 < r → k = 65535) ∧ (¬ 65535 < r → N - at_ = k)) := ⟨⟨hr, hak, by omega, by omega, by omega⟩, hll, hob, hZl, hfN, by have h7 := congrArg List.length hZl; rw [List.length_append] at h7; have h8 := HALL.out.2.2.2.2.2.2.2; omega, fun _ => by omega, fun _ => by omega⟩
                have hkb : k ≤ 65535 := by omega
                have hmin : min (65535 : Int) (r : Int) = (k : Int) := by omega
                have hlast : ((ak : Int) == (N : Int)) = true := by simp only [beq_iff_eq]; omega
                have ha0 : ((at_ : Int) == 0) = true := by simp only [beq_iff_eq]; omega
                clear h2 hA0 h1 hr hk hak hll hob hZl hfN HR hN hNc hat hN0 hNe hlti hb0 hl
                go_upto_region 16 with fail
                obtain ⟨b0, e0⟩ : ∃ b, k % 256 = b := ⟨_, rfl⟩
                obtain ⟨b1, e1⟩ : ∃ b, k / 256 = b := ⟨_, rfl⟩
                obtain ⟨b2, e2⟩ : ∃ b, 255 - b0 = b := ⟨_, rfl⟩
                obtain ⟨b3, e3⟩ : ∃ b, 255 - b1 = b := ⟨_, rfl⟩
                have HLEN : Hid (L7 + 5 + k ≤ 300000 ∧ L7 + 5 ≤ 300000) := by have h1 := HX.out.2.2.2.2.2.1; have h2 := HX.out.1; exact ⟨by omega, by omega⟩
                have hand := and255k k
                rw [e0] at hand
                obtain ⟨n0, n1, n2, n3, n4⟩ := st_nums HX.out.1.2.2.1 e0 e1 e2 e3
                have HE : Hid ((k % 256 = b0 ∧ k / 256 = b1 ∧ 255 - b0 = b2 ∧ 255 - b1 = b3) ∧ (b0 < 256 ∧ b1 < 256 ∧ b2 < 256 ∧ b3 < 256)) := ⟨⟨e0, e1, e2, e3⟩, n4⟩
                have HOW : Hid (∀ o, (wr.alloc o).ownsRow B2 5 1 (.slice ao L7 cp7) L7 (bcells l) ∧ B2 ≤ (wr.alloc o).heap.size ∧ OB wc B2 (.slice ao L7 cp7) l (wr.alloc o)) := fun o => by
                  have h1 := HX.out.2.2.1.quiet (w' := wr.alloc o) ((Below.refl _ _).alloc (Nat.le_refl _) _)
                  have h2 := h1.1
                  rw [HX.out.2.1] at h2
                  exact ⟨h2, h1.2.2.1, h1⟩
                have HNW : Hid (∀ j u, (bcells [1, b0, b1, b2, b3])[j]? = some u → (wr.alloc (.cells #[.int .u8 1, .int .u8 (b0 : Nat), .int .u8 (b1 : Nat), .int .u8 (255 - (b0 : Int)), .int .u8 (b3 : Nat)] 5)).cell? ((⟨wr.heap.size, 0, none⟩ : Addr).add j) = some u) := by
                  have e9 : (255 : Int) - (b0 : Int) = (b2 : Int) := by omega
                  rw [e9]
                  exact news5 wr 1 b0 b1 b2 b3
                have HR3 : Hid (bits .and .i64 (k : Int) 255 = (b0 : Int) ∧ (b0 : Int) % 256 = (b0 : Int) ∧ (k : Int) / 256 = (b1 : Int) ∧ wrap64 (255 - (b0 : Int)) % 256 = (b2 : Int) ∧ 255 - (b1 : Int) = (b3 : Int)) := ⟨hand, n0, n1, n2, n3⟩
                clear e0 e1 e2 e3 n4
                go_wp2_with (at_builtin; refine wpList_append_lies _ rfl _ _ 23 rfl B2 5 i0 (.int .u8 0) 1 1 Tryd.underlying23 HI.out.1 HI.out.2.1 HI.out.2.2.1 HI.out.2.2.2 rfl (by decide) (.slice ao L7 cp7) L7 (bcells l) rfl (HOW.out _).1 ⟨wr.heap.size, 0, none⟩ 5 5 (bcells [1, b0, b1, b2, b3]) rfl rfl HNW.out (bcells_one _) (by decide) ?c3 ?c4 (HOW.out _).2.1 _ rfl ?_)
                case c3 => exact Nat.le_trans HLEN.out.2 (by decide)
                case c4 => rw [Nat.mul_one]; exact Nat.le_trans HLEN.out.2 (by decide)
                intro g1 cap1 w1 hown1 hgrow _ _
                have hob1 : OB wc B2 (.slice (some ⟨g1, 0, none⟩) (L7 + 5) cap1) (l ++ [1, b0, b1, b2, b3]) w1 := (HOW.out _).2.2.more (by rw [HX.out.2.1]; exact hown1) hgrow (fun x hx => by
                  have := HE.out.2
                  simp only [List.mem_cons, List.not_mem_nil, or_false] at hx
                  omega)
                have HO1 : Hid (OB wc B2 (.slice (some ⟨g1, 0, none⟩) (L7 + 5) cap1) (l ++ [1, b0, b1, b2, b3]) w1 ∧ w1.ownsRow B2 5 1 (.slice (some ⟨g1, 0, none⟩) (L7 + 5) cap1) (L7 + 5) (bcells (l ++ [1, b0, b1, b2, b3])) ∧ B2 ≤ w1.heap.size) := ⟨hob1, by have h3 := hob1.1; rw [List.length_append, HX.out.2.1] at h3; exact h3, hob1.2.2.1⟩
                have HT1 : Hid (TB w1 g A) := fun j hj => by
                  have h5 := hob1.2.1
                  rw [← HALL.out.2.2.2.2.2.1] at h5
                  exact cell_low h5 (by have := HALL.out.2.2.2.2.1; have := HALL.out.2.2.2.2.2.1; omega) (HALL.out.2.1 j hj)
                have hn2 : Hid ((bcells ((A.drop at_).take k)).length = k * 1 ∧ ∀ j u, (bcells ((A.drop at_).take k))[j]? = some u → w1.cell? ((⟨g, at_, none⟩ : Addr).add j) = some u) := by
                  have h5 := HALL.out.1
                  have h6 := HX.out.1
                  exact ⟨by rw [bcells_len, List.length_take, List.length_drop]; omega, HT1.out.news at_ k (by omega)⟩
                have hle1 : (at_ : Int) ≤ (ak : Int) := by have := HX.out.1; omega
                have hle2 : (ak : Int) ≤ (cp : Int) := by have := HX.out.1; omega
                have hle3 : (ak : Int) ≤ (N : Int) := by have := HX.out.1; omega
                have hdif : (ak : Int) - (at_ : Int) = (k : Int) := by omega
                have hdn : ak - at_ = k := by omega
                obtain ⟨c2, hc2⟩ : ∃ c2, cp - at_ = c2 := ⟨_, rfl⟩
                have hc2i : (cp : Int) - (at_ : Int) = (c2 : Int) := by omega
                obtain ⟨a2, ha2⟩ : ∃ a2, at_ + 65535 = a2 := ⟨_, rfl⟩
                have ha2i : (at_ : Int) + 65535 = (a2 : Int) := by omega
                have ha2w := D5.wrapN a2 (by have := HNB.out; omega)
                have HA2 : Hid (at_ + 65535 = a2 ∧ 1 ≤ c2) := ⟨ha2, by have := HX.out.1; omega⟩
                have hc2p : ¬ c2 = 0 := by have := HX.out.1; omega
                clear hown1 hgrow hob1 HNW HOW hc2 ha2 HR3 hand n0 n1 n2 n3
                go_wp2_with (at_builtin; refine wpList_append_lies _ rfl _ _ 23 rfl B2 5 i0 (.int .u8 0) 1 1 Tryd.underlying23 HI.out.1 HI.out.2.1 HI.out.2.2.1 HI.out.2.2.2 rfl (by decide) (.slice (some ⟨g1, 0, none⟩) (L7 + 5) cap1) (L7 + 5) (bcells (l ++ [1, b0, b1, b2, b3])) rfl HO1.out.2.1 ⟨g, at_, none⟩ k _ (bcells ((A.drop at_).take k)) rfl hn2.out.1 hn2.out.2 (bcells_one _) ?c5 ?c6 ?c7 HO1.out.2.2 _ rfl ?_)
                case c5 => exact HX.out.1.2.2.2.2
                case c6 => exact Nat.le_trans HLEN.out.1 (by decide)
                case c7 => rw [Nat.mul_one]; exact Nat.le_trans HLEN.out.1 (by decide)
                intro g2 cap2 w2 hown2 hgrow2 _ _
                have hlk : ((A.drop at_).take k).length = k := by have h9 := hn2.out.1; rw [bcells_len, Nat.mul_one] at h9; exact h9
                have hob2 : OB wc B2 (.slice (some ⟨g2, 0, none⟩) (L7 + 5 + k) cap2) ((l ++ [1, b0, b1, b2, b3]) ++ (A.drop at_).take k) w2 := HO1.out.1.more (by rw [List.length_append, HX.out.2.1, hlk]; exact hown2) hgrow2 (fun x hx => HALL.out.2.2.1 x (List.mem_of_mem_drop (List.mem_of_mem_take hx)))
                have HF : Hid (∃ l', l'.length = L7 + 5 + k ∧ OB wc B2 (.slice (some ⟨g2, 0, none⟩) (L7 + 5 + k) cap2) l' w2 ∧ ((∃ f, a2 < N ∧ l' ++ stB f (A.drop a2) = Z ∧ N - a2 ≤ 65535 * (f + 1)) ∨ (a2 ≠ 0 ∧ ¬ a2 < N ∧ l' = Z))) := by
                  clear hakw ha2w hrw haki ha2i hdif hc2i hle1 hle2 hle3 hri hmin hdn
                  refine ⟨_, by rw [List.length_append, List.length_append, HX.out.2.1, hlk]; rfl, hob2, ?_⟩
                  have h6 := HX.out.1
                  have h7 := HA2.out.1
                  obtain ⟨⟨e0, e1, e2, e3⟩, _⟩ := HE.out
                  have h2' : ¬ 65535 < N - at_ := by have := HR2.out; omega
                  have hz := st_last HALL.out.1 HX.out.2.2.2.1 (HX.out.2.2.2.2.2.2.2 HR2.out) h2' e0 e1 e2 e3
                  exact .inr ⟨by omega, by omega, hz⟩
                clear hown2 hgrow2 hob2 hlk hn2 HO1 HT1 HE
                go_wp2
                refine ⟨⟨_, L7 + 5 + k, cap2, a2, rfl, rfl, by have h1 := HX.out.1; have h2 := HA2.out.1; have h3 := HNB.out; clear hakw ha2w; omega, HF⟩, ?_⟩
                have h7 := HA2.out.1
                have h8 := HNB.out
                clear hakw ha2w
                simp [intOf]
                omega
              · focus
                obtain ⟨k, hk⟩ : ∃ k, r = k := ⟨_, rfl⟩
                obtain ⟨ak, hak⟩ : ∃ ak, at_ + k = ak := ⟨_, rfl⟩
                have haki : (at_ : Int) + (k : Int) = (ak : Int) := by omega
                have hakw := D5.wrapN ak (by omega)
                have h1 : r ≤ 140000 := by omega
                have HR2 : Hid (¬ 65535 < r) := h2
                have HNB : Hid (N < 131072 ∧ N ≤ cp ∧ at_ ≤ 262140) := ⟨hN, hNc, hat⟩
                have HX : Hid ((N - at_ = r ∧ at_ + k = ak ∧ k ≤ 65535 ∧ ak ≤ N ∧ 1 ≤ k) ∧ l.length = L7 ∧ OB wc B2 (.slice ao L7 cp7) l wr ∧ l ++ stB f (A.drop at_) = Z ∧ N - at_ ≤ 65535 * (f + 1) ∧ L7 ≤ 131161 ∧ (65535 < r → k = 65535) ∧ (¬ 65535 < r → N - at_ = k)) := ⟨⟨hr, hak, by omega, by omega, by omega⟩, hll, hob, hZl, hfN, by have h7 := congrArg List.length hZl; rw [List.length_append] at h7; have h8 := HALL.out.2.2.2.2.2.2.2; omega, fun _ => by omega, fun _ => by omega⟩
                have hkb : k ≤ 65535 := by omega
                have hmin : min (65535 : Int) (r : Int) = (k : Int) := by omega
                have hlast : ((ak : Int) == (N : Int)) = true := by simp only [beq_iff_eq]; omega
                have ha0 : ((at_ : Int) == 0) = false := by simp only [beq_eq_false_iff_ne, ne_eq]; omega
                have hali : (at_ : Int) < (N : Int) := by omega
                clear h2 hA0 h1 hr hk hak hll hob hZl hfN HR hN hNc hat hN0 hNe hlti hb0 hl
                go_upto_region 16 with fail
                obtain ⟨b0, e0⟩ : ∃ b, k % 256 = b := ⟨_, rfl⟩
                obtain ⟨b1, e1⟩ : ∃ b, k / 256 = b := ⟨_, rfl⟩
                obtain ⟨b2, e2⟩ : ∃ b, 255 - b0 = b := ⟨_, rfl⟩
                obtain ⟨b3, e3⟩ : ∃ b, 255 - b1 = b := ⟨_, rfl⟩
                have HLEN : Hid (L7 + 5 + k ≤ 300000 ∧ L7 + 5 ≤ 300000) := by have h1 := HX.out.2.2.2.2.2.1; have h2 := HX.out.1; exact ⟨by omega, by omega⟩
                have hand := and255k k
                rw [e0] at hand
                obtain ⟨n0, n1, n2, n3, n4⟩ := st_nums HX.out.1.2.2.1 e0 e1 e2 e3
                have HE : Hid ((k % 256 = b0 ∧ k / 256 = b1 ∧ 255 - b0 = b2 ∧ 255 - b1 = b3) ∧ (b0 < 256 ∧ b1 < 256 ∧ b2 < 256 ∧ b3 < 256)) := ⟨⟨e0, e1, e2, e3⟩, n4⟩
                have HOW : Hid (∀ o, (wr.alloc o).ownsRow B2 5 1 (.slice ao L7 cp7) L7 (bcells l) ∧ B2 ≤ (wr.alloc o).heap.size ∧ OB wc B2 (.slice ao L7 cp7) l (wr.alloc o)) := fun o => by
                  have h1 := HX.out.2.2.1.quiet (w' := wr.alloc o) ((Below.refl _ _).alloc (Nat.le_refl _) _)
                  have h2 := h1.1
                  rw [HX.out.2.1] at h2
                  exact ⟨h2, h1.2.2.1, h1⟩
                have HNW : Hid (∀ j u, (bcells [1, b0, b1, b2, b3])[j]? = some u → (wr.alloc (.cells #[.int .u8 1, .int .u8 (b0 : Nat), .int .u8 (b1 : Nat), .int .u8 (255 - (b0 : Int)), .int .u8 (b3 : Nat)] 5)).cell? ((⟨wr.heap.size, 0, none⟩ : Addr).add j) = some u) := by
                  have e9 : (255 : Int) - (b0 : Int) = (b2 : Int) := by omega
                  rw [e9]
                  exact news5 wr 1 b0 b1 b2 b3
                have HR3 : Hid (bits .and .i64 (k : Int) 255 = (b0 : Int) ∧ (b0 : Int) % 256 = (b0 : Int) ∧ (k : Int) / 256 = (b1 : Int) ∧ wrap64 (255 - (b0 : Int)) % 256 = (b2 : Int) ∧ 255 - (b1 : Int) = (b3 : Int)) := ⟨hand, n0, n1, n2, n3⟩
                clear e0 e1 e2 e3 n4
                go_wp2_with (at_builtin; refine wpList_append_lies _ rfl _ _ 23 rfl B2 5 i0 (.int .u8 0) 1 1 Tryd.underlying23 HI.out.1 HI.out.2.1 HI.out.2.2.1 HI.out.2.2.2 rfl (by decide) (.slice ao L7 cp7) L7 (bcells l) rfl (HOW.out _).1 ⟨wr.heap.size, 0, none⟩ 5 5 (bcells [1, b0, b1, b2, b3]) rfl rfl HNW.out (bcells_one _) (by decide) ?c3 ?c4 (HOW.out _).2.1 _ rfl ?_)
                case c3 => exact Nat.le_trans HLEN.out.2 (by decide)
                case c4 => rw [Nat.mul_one]; exact Nat.le_trans HLEN.out.2 (by decide)
                intro g1 cap1 w1 hown1 hgrow _ _
                have hob1 : OB wc B2 (.slice (some ⟨g1, 0, none⟩) (L7 + 5) cap1) (l ++ [1, b0, b1, b2, b3]) w1 := (HOW.out _).2.2.more (by rw [HX.out.2.1]; exact hown1) hgrow (fun x hx => by
                  have := HE.out.2
                  simp only [List.mem_cons, List.not_mem_nil, or_false] at hx
                  omega)
                have HO1 : Hid (OB wc B2 (.slice (some ⟨g1, 0, none⟩) (L7 + 5) cap1) (l ++ [1, b0, b1, b2, b3]) w1 ∧ w1.ownsRow B2 5 1 (.slice (some ⟨g1, 0, none⟩) (L7 + 5) cap1) (L7 + 5) (bcells (l ++ [1, b0, b1, b2, b3])) ∧ B2 ≤ w1.heap.size) := ⟨hob1, by have h3 := hob1.1; rw [List.length_append, HX.out.2.1] at h3; exact h3, hob1.2.2.1⟩
                have HT1 : Hid (TB w1 g A) := fun j hj => by
                  have h5 := hob1.2.1
                  rw [← HALL.out.2.2.2.2.2.1] at h5
                  exact cell_low h5 (by have := HALL.out.2.2.2.2.1; have := HALL.out.2.2.2.2.2.1; omega) (HALL.out.2.1 j hj)
                have hn2 : Hid ((bcells ((A.drop at_).take k)).length = k * 1 ∧ ∀ j u, (bcells ((A.drop at_).take k))[j]? = some u → w1.cell? ((⟨g, at_, none⟩ : Addr).add j) = some u) := by
                  have h5 := HALL.out.1
                  have h6 := HX.out.1
                  exact ⟨by rw [bcells_len, List.length_take, List.length_drop]; omega, HT1.out.news at_ k (by omega)⟩
                have hle1 : (at_ : Int) ≤ (ak : Int) := by have := HX.out.1; omega
                have hle2 : (ak : Int) ≤ (cp : Int) := by have := HX.out.1; omega
                have hle3 : (ak : Int) ≤ (N : Int) := by have := HX.out.1; omega
                have hdif : (ak : Int) - (at_ : Int) = (k : Int) := by omega
                have hdn : ak - at_ = k := by omega
                obtain ⟨c2, hc2⟩ : ∃ c2, cp - at_ = c2 := ⟨_, rfl⟩
                have hc2i : (cp : Int) - (at_ : Int) = (c2 : Int) := by omega
                obtain ⟨a2, ha2⟩ : ∃ a2, at_ + 65535 = a2 := ⟨_, rfl⟩
                have ha2i : (at_ : Int) + 65535 = (a2 : Int) := by omega
                have ha2w := D5.wrapN a2 (by have := HNB.out; omega)
                have HA2 : Hid (at_ + 65535 = a2 ∧ 1 ≤ c2) := ⟨ha2, by have := HX.out.1; omega⟩
                have hc2p : ¬ c2 = 0 := by have := HX.out.1; omega
                clear hown1 hgrow hob1 HNW HOW hc2 ha2 HR3 hand n0 n1 n2 n3
                go_wp2_with (at_builtin; refine wpList_append_lies _ rfl _ _ 23 rfl B2 5 i0 (.int .u8 0) 1 1 Tryd.underlying23 HI.out.1 HI.out.2.1 HI.out.2.2.1 HI.out.2.2.2 rfl (by decide) (.slice (some ⟨g1, 0, none⟩) (L7 + 5) cap1) (L7 + 5) (bcells (l ++ [1, b0, b1, b2, b3])) rfl HO1.out.2.1 ⟨g, at_, none⟩ k _ (bcells ((A.drop at_).take k)) rfl hn2.out.1 hn2.out.2 (bcells_one _) ?c5 ?c6 ?c7 HO1.out.2.2 _ rfl ?_)
                case c5 => exact HX.out.1.2.2.2.2
                case c6 => exact Nat.le_trans HLEN.out.1 (by decide)
                case c7 => rw [Nat.mul_one]; exact Nat.le_trans HLEN.out.1 (by decide)
                intro g2 cap2 w2 hown2 hgrow2 _ _
                have hlk : ((A.drop at_).take k).length = k := by have h9 := hn2.out.1; rw [bcells_len, Nat.mul_one] at h9; exact h9
                have hob2 : OB wc B2 (.slice (some ⟨g2, 0, none⟩) (L7 + 5 + k) cap2) ((l ++ [1, b0, b1, b2, b3]) ++ (A.drop at_).take k) w2 := HO1.out.1.more (by rw [List.length_append, HX.out.2.1, hlk]; exact hown2) hgrow2 (fun x hx => HALL.out.2.2.1 x (List.mem_of_mem_drop (List.mem_of_mem_take hx)))
                have HF : Hid (∃ l', l'.length = L7 + 5 + k ∧ OB wc B2 (.slice (some ⟨g2, 0, none⟩) (L7 + 5 + k) cap2) l' w2 ∧ ((∃ f, a2 < N ∧ l' ++ stB f (A.drop a2) = Z ∧ N - a2 ≤ 65535 * (f + 1)) ∨ (a2 ≠ 0 ∧ ¬ a2 < N ∧ l' = Z))) := by
                  clear hakw ha2w hrw haki ha2i hdif hc2i hle1 hle2 hle3 hri hmin hdn
                  refine ⟨_, by rw [List.length_append, List.length_append, HX.out.2.1, hlk]; rfl, hob2, ?_⟩
                  have h6 := HX.out.1
                  have h7 := HA2.out.1
                  obtain ⟨⟨e0, e1, e2, e3⟩, _⟩ := HE.out
                  have h2' : ¬ 65535 < N - at_ := by have := HR2.out; omega
                  have hz := st_last HALL.out.1 HX.out.2.2.2.1 (HX.out.2.2.2.2.2.2.2 HR2.out) h2' e0 e1 e2 e3
                  exact .inr ⟨by omega, by omega, hz⟩
                clear hown2 hgrow2 hob2 hlk hn2 HO1 HT1 HE
                go_wp2
                refine ⟨⟨_, L7 + 5 + k, cap2, a2, rfl, rfl, by have h1 := HX.out.1; have h2 := HA2.out.1; have h3 := HNB.out; clear hakw ha2w; omega, HF⟩, ?_⟩
                have h7 := HA2.out.1
                have h8 := HNB.out
                clear hakw ha2w
                simp [intOf]
                omega
          · obtain ⟨l, hll, hob, hor⟩ := HR.out
            rcases hor with ⟨_, h9, _⟩ | ⟨hz0, _, hlZ⟩
            · exact absurd h9 hl
            subst hlZ
            have HOB : Hid (OB wc B2 (.slice ao L7 cp7) l wr) := hob
            have ha0 : ((at_ : Int) == 0) = false := by simp only [beq_eq_false_iff_ne, ne_eq]; omega
            have hali : ¬ (at_ : Int) < (N : Int) := by omega
            subst hll
            clear hl hob hz0 HR hN hNc hat hN0 hNe hlti hb0 hNci
            go_wp2_with fail
            go_meet
            case rel => exact ⟨ao, cp7, rfl, HOB.out⟩
    case rest =>
      obtain ⟨ao, cp7, rfl, HR⟩ := hcut
      have hob := HR.out
      have hZp : 0 < Z.length := by rw [← HALL.out.2.2.2.2.2.2.1]; exact stB_pos _ _
      obtain ⟨g7, cpx, hv, hBg7, hg7l, _, htb7⟩ := hob.some hZp
      cases hv
      have htA : TB wc g A := fun j hj => by
        have h5 := hob.2.1
        rw [← HALL.out.2.2.2.2.2.1] at h5
        exact cell_low h5 (by have := HALL.out.2.2.2.2.1; have := HALL.out.2.2.2.2.2.1; omega) (HALL.out.2.1 j hj)
      have hc1 : (convert 23 9 (.slice (some ⟨g, 0, none⟩) N cp)).run Tryd.prog wc = .ok (.string (toBA A)) wc := by
        have := bytes_back A g cp wc htA HALL.out.2.2.1
        rw [HALL.out.1] at this
        exact this
      have HSt : Hid (Calls Tryd.prog 5 #[.string (toBA A)] wc fun e w' => e = .returned (.tuple #[.string (toBA Z), .int .i64 0]) ∧ Below wc.heap.size wc w') := by
        have h1 : (toBA A).size = N := by rw [← HALL.out.1]; simp [toBA, ByteArray.size]
        have := Stored_ok (toBA A) wc (by omega)
        rw [stored_is HALL.out.2.2.1 (by have := HALL.out.1; omega), HALL.out.2.2.2.2.2.2.1] at this
        exact this
      have HC2 : Hid (∀ W, Below wc.heap.size wc W → (convert 23 9 (.slice (some ⟨g7, 0, none⟩) Z.length cp7)).run Tryd.prog W = .ok (.string (toBA Z)) W) := fun W hW => bytes_back Z g7 cp7 W (fun j hj => cell_low hW hg7l (htb7 j hj)) hob.2.2.2
      have HBw : Hid (Below w.heap.size w wc) := HALL.out.2.2.2.1.trans (hob.2.1.mono (by have := HALL.out.2.2.2.1.size; have := HALL.out.2.2.2.2.2.1; omega))
      have HOd : Hid (OrdAt wc) := HO.out.below HBw.out
      obtain ⟨sA, hsA⟩ : ∃ q, toBA A = q := ⟨_, rfl⟩
      obtain ⟨sZ, hsZ⟩ : ∃ q, toBA Z = q := ⟨_, rfl⟩
      rw [hsA] at hc1 HSt
      rw [hsZ] at HSt HC2
      obtain ⟨zl, hzl⟩ : ∃ q, Z.length = q := ⟨_, rfl⟩
      rw [hzl] at HC2
      rw [hzl]
      clear hob hZp hBg7 hg7l htb7 htA hsA hsZ hzl HR HALL hN hNc hN0 hNe hlti hb0 hNci
      go_wp2_with fail
      refine HSt.out.mono ?_
      rintro e w5 ⟨he, hb5⟩
      subst he
      have hc2 := HC2.out w5 hb5
      have HA5 : Hid (Calls Tryd.prog 4 #[] w5 fun e w' => e = .returned (.bool true) ∧ Below w5.heap.size w5 w') := HA.out w5 (HOd.out.below hb5)
      have HB5 : Hid (Below w.heap.size w w5) := HBw.out.trans (hb5.mono HBw.out.size)
      clear hb5 HC2 HSt HBw HOd
      go_wp2_with fail
      refine HA5.out.mono ?_
      rintro e w6 ⟨he, hb6⟩
      subst he
      have HB6 : Hid (Below w.heap.size w w6) := HB5.out.trans (hb6.mono HB5.out.size)
      clear hb6 HB5 HA5
      go_wp2
      go_ret
      exact ⟨rfl, HB6.out⟩
end Go.Proofs.YtlbadjfcffoakaaDoor
