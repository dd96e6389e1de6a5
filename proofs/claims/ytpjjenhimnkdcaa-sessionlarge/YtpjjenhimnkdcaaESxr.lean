/- Layer 15: the walk of SessionLarge. -/
import Derived.Test.YtpjjenhimnkdcaaESxq
import Derived.Test.YtpjjenhimnkdcaaESxl
namespace Go.Proofs.Ytpjjenhimnkdcaa
open Go.RowKit Go.Maps
set_option linter.unusedVariables false
set_option maxRecDepth 20000

theorem u8Info : (Try.prog.info? 5).map (fun i => (i.zero, i.size, i.bytes)) = some (some (.int .u8 0), 1, 1) := by kernel_rfl
theorem zeros_made (n : Nat) (w : World) (hn : n ≤ 2000000) : ∃ w1, (Instr.makeSlice 45 (.int .i64 (n : Int)) (.int .i64 (n : Int))).run Try.prog w = .ok (.slice (some ⟨w.heap.size, 0, none⟩) n n) w1 ∧ OB w1 w.heap.size (.slice (some ⟨w.heap.size, 0, none⟩) n n) (List.replicate n 0) ∧ Below w.heap.size w w1 := by
  obtain ⟨i, hq, h1, h2, h3⟩ := info_split u8Info
  obtain ⟨w1, hrun, hown, hgr⟩ := run_make_full (P := Try.prog) w w.heap.size 45 5 i (.int .u8 0) 1 Try.underlying45 hq h1 h2 .i64 .i64 n (by rw [h3]; omega) (by unfold maxLen; omega) (Nat.le_refl _)
  refine ⟨w1, hrun, ?_, (Below.refl _ _).grown hgr (Nat.le_refl _) (fun k hk => by cases hk)⟩
  have e : (madeCells (Value.int .u8 0).cells (n * 1)).toList = List.replicate (n * 1) (Value.int .u8 0) := toList_madeCells_one (.int .u8 0) (n * 1)
  have e2 : Lib.byteCells (List.replicate n 0) = List.replicate (n * 1) (Value.int .u8 0) := by simp [Lib.byteCells]
  show w1.ownsRow _ _ _ _ (List.replicate n (0 : UInt8)).length _
  rw [e2, ← e, List.length_replicate]
  exact hown
/-- So many records of one value. -/
def lr (t : ByteArray) (n : Nat) : List Rec := (List.range n).map fun i : Nat => (⟨(i : Int), ⟨#[107]⟩, t, false⟩ : Rec)
theorem lr_length (t : ByteArray) (n : Nat) : (lr t n).length = n := by simp [lr]
theorem lr_succ (t : ByteArray) (n : Nat) : lr t (n + 1) = lr t n ++ [⟨(n : Int), ⟨#[107]⟩, t, false⟩] := by simp [lr, List.range_succ]
theorem lr_off (t : ByteArray) (n : Nat) : Off (lr t n) := fun i r h => by
  have hi : i < n := by have := (List.getElem?_eq_some_iff.1 h).1; simpa [lr] using this
  have e : (⟨(i : Int), ⟨#[107]⟩, t, false⟩ : Rec) = r := by simpa [lr, hi] using h
  rw [← e]
theorem lr_sized (t : ByteArray) (n : Nat) (ht : t.size ≤ 9223372036854775807) : Sized (lr t n) := fun r hr => by
  unfold lr at hr
  obtain ⟨i, _, rfl⟩ := List.mem_map.1 hr
  exact ⟨by show (1 : Nat) ≤ _; decide, ht⟩
theorem own_slice {w : World} {B : Nat} {v : Value} {L : List Rec} (h : Own w B v L) : ∃ a cap, v = .slice a L.length cap ∧ RIn w a L := by
  have h' : w.ownsRow B 47 4 v L.length (rcs L) := h
  rcases h'.2 with ⟨e, h0⟩ | ⟨g, cap, cur, e, _, h3, _⟩
  · have hL : L = [] := List.eq_nil_of_length_eq_zero h0
    subst hL
    exact ⟨none, 0, e, RIn.nil _ _⟩
  · refine ⟨some ⟨g, 0, none⟩, cap, e, ?_⟩
    rw [e] at h'
    exact RIn.owned h' (lt_of_block h3)
set_option maxHeartbeats 4000000 in
theorem large_walk (many long : Int) (w : World) :
    Calls Try.prog 4 #[.int .i64 many, .int .i64 long] w fun e w' => e = .returned (.bool true) ∧ Below w.heap.size w w' := by
  obtain ⟨n, hn, hne⟩ := andN many 511 (by omega)
  obtain ⟨k, hk, hke⟩ := andN long 8191 (by omega)
  have hne : bits .and .i64 many 511 = (n : Int) := hne
  have hke : bits .and .i64 long 8191 = (k : Int) := hke
  obtain ⟨i0, hi, hz0, hz1, hz2⟩ := info_split recInfo
  have HI : Hid (Try.prog.info? 47 = some i0 ∧ i0.zero = some (.agg #[.int .i64 0, .string ⟨#[]⟩, .string ⟨#[]⟩, .bool false]) ∧ i0.size = 4 ∧ i0.bytes = 48) := ⟨hi, hz0, hz1, hz2⟩
  clear hi hz0 hz1 hz2
  have HN : Hid (Calls Try.prog 8 #[.int .i64 1] w (NewE w 1)) := new_ok 1 w (by omega) (by omega)
  obtain ⟨tx, htx⟩ : ∃ tx, mk (List.replicate k 0) = tx := ⟨_, rfl⟩
  have HTX : Hid (tx.size ≤ 9223372036854775807) := by rw [← htx, mk_size, List.length_replicate]; show k ≤ _; omega
  have HZ : Hid (∀ W, ∃ w1, (Instr.makeSlice 45 (.int .i64 (k : Int)) (.int .i64 (k : Int))).run Try.prog W = .ok (.slice (some ⟨W.heap.size, 0, none⟩) k k) w1 ∧ (convert 45 9 (.slice (some ⟨W.heap.size, 0, none⟩) k k)).run Try.prog w1 = .ok (.string tx) w1 ∧ Below W.heap.size W w1) := fun W => by
    obtain ⟨w1, h1, h2, h3⟩ := zeros_made k W (by omega)
    exact ⟨w1, h1, by rw [← htx]; exact conv_mk w1 W.heap.size _ _ h2, h3⟩
  clear htx hk
  go_enter Try.func4, Try.ntmps4
  go_wp2_with fail
  refine HN.out.mono ?_
  rintro e w1 hNE
  obtain rfl := hNE.ret
  have HNE : Hid (NewE w 1 _ w1) := hNE
  have hTS1 := hNE.ts
  clear HN hNE
  obtain ⟨t, ht⟩ : ∃ t, w.heap.size + 1 = t := ⟨_, rfl⟩
  obtain ⟨mb, hmb⟩ : ∃ mb, w.heap.size = mb := ⟨_, rfl⟩
  rw [ht] at hTS1 ⊢
  rw [hmb] at hTS1
  have HT1 : Hid (TS w1 t mb 1 [] []) := hTS1
  have HTM : Hid (w.heap.size + 1 = t ∧ w.heap.size = mb) := ⟨ht, hmb⟩
  clear hTS1 ht hmb
  go_upto_region 6 with fail
  clear hne hke
  go_wp2
  go_loopw [9, 10] (fun v i wr => ∃ (j : Nat), i = .int .i64 (j : Nat) ∧ j ≤ n ∧ Own wr w1.heap.size v (lr tx j) ∧ Below w1.heap.size w1 wr) (fun _ i _ => n - (intOf i).toNat)
  case atStart => exact ⟨0, rfl, Nat.zero_le _, Own.nil _ _, Below.refl _ _⟩
  case round =>
    obtain ⟨j, rfl, hj, hown, hbel⟩ := hrel
    have HS : Hid (Own wr w1.heap.size u9 (lr tx j) ∧ Below w1.heap.size w1 wr) := ⟨hown, hbel⟩
    clear hown hbel
    by_cases hlt : j < n
    · have hlti : (j : Int) < (n : Int) := by omega
      obtain ⟨w2, hmk, hcv, hb2⟩ := HZ.out wr
      have HB2 := hide hb2
      have HOW : Hid (∀ o, (w2.alloc o).ownsRow w1.heap.size 47 4 u9 j (rcs (lr tx j)) ∧ w1.heap.size ≤ (w2.alloc o).heap.size) := fun o => by
        have h1 := owns_below HS.out.1 (hb2.trans ((below_a w2 o).mono hb2.size))
        rw [lr_length] at h1
        exact ⟨h1, by have := HS.out.2.size; have := hb2.size; simp; omega⟩
      clear hb2
      go_wp2_with (at_builtin; refine wpList_append_lies _ rfl _ _ 31 rfl w1.heap.size 47 i0 (.agg #[.int .i64 0, .string ⟨#[]⟩, .string ⟨#[]⟩, .bool false]) 4 48 Try.underlying31 HI.out.1 HI.out.2.1 HI.out.2.2.1 HI.out.2.2.2 rfl (by decide) u9 j (rcs (lr tx j)) rfl (HOW.out _).1 ⟨w2.heap.size, 0, none⟩ 1 1 [.int .i64 (j : Nat), .string ⟨#[107]⟩, .string tx, .bool false] rfl rfl (news4 _ _ _ _ _ _) (one4 _ _ _ _) (by decide) (by unfold maxLen; omega) (by omega) (HOW.out _).2 _ rfl ?_; intro g5 cap5 w5 hown hgrow hat hgl; have HNX : Hid (Own w5 w1.heap.size (.slice (some ⟨g5, 0, none⟩) (j + 1) cap5) (lr tx (j + 1)) ∧ Below w1.heap.size w1 w5) := (by
          have hb3 : Below w1.heap.size w1 (w2.alloc (.cells #[.int .i64 (j : Nat), .string ⟨#[107]⟩, .string tx, .bool false] 47)) := HS.out.2.trans ((HB2.out.trans ((below_a w2 _).mono HB2.out.size)).mono HS.out.2.size)
          refine ⟨?_, hb3.trans (below_grown (HOW.out _).1 hgrow (HOW.out _).2)⟩
          show w5.ownsRow _ _ _ _ (lr tx (j + 1)).length _
          rw [lr_length, lr_succ, rcs_append]
          exact hown); clear hown hgrow hat hgl)
      clear hmk hcv
      go_roundw
      case rel => exact ⟨j + 1, by go_num, by omega, HNX.out.1, HNX.out.2⟩
      case measure => simp [intOf]; omega
    · obtain rfl : j = n := by omega
      have hlti : ¬ (j : Int) < (j : Int) := by omega
      obtain ⟨a, c, rfl, hin⟩ := own_slice HS.out.1
      have hask := ask_ok wr t mb 1 a c (lr tx j) (HT1.out.below HS.out.2) (by omega) hin (lr_sized tx j HTX.out) (lr_off tx j) (by rw [lr_length]; omega)
      have HLA : Hid (∀ W, Below wr.heap.size wr W → Calls Try.prog 17 #[.slice a (lr tx j).length c] W fun e w' => e = .returned (.bool (!fitB (lr tx j))) ∧ Below W.heap.size W w') := fun W hb => rlarge_ok a c (lr tx j) W (hin.below hb (Nat.le_refl _)) (lr_sized tx j HTX.out) (lr_off tx j) (by rw [lr_length]; omega)
      rw [lr_length] at hask HLA ⊢
      generalize fitB (lr tx j) = f at hask HLA
      have HBW := hide HS.out.2
      clear hin HS hlt hj HZ HI
      cases f
      · have HASK := hide hask
        clear hask
        unfold askV at HASK
        simp only [Bool.false_eq_true, if_false] at HASK
        go_wp2_with fail
        refine HASK.out.mono ?_
        rintro e w2 ⟨rfl, hb2⟩
        have HB2 : Hid (∀ o, Below wr.heap.size wr (w2.alloc o)) := fun o => bl_alloc (Nat.le_refl _) hb2
        clear HASK hb2
        go_wp2_with fail
        refine (HLA.out _ (HB2.out _)).mono ?_
        rintro e w3 ⟨rfl, hb3⟩
        have HB3 : Hid (Below wr.heap.size wr w3) := (HB2.out _).trans (hb3.mono (HB2.out _).size)
        clear hb3 HB2
        simp only [Bool.not_false]
        go_wp2_with fail
        refine (awake15 _).mono ?_
        rintro e w4 ⟨rfl, hb4⟩
        have HB4 : Hid (Below w1.heap.size w1 w4) := HBW.out.trans ((HB3.out.trans (hb4.mono HB3.out.size)).mono HBW.out.size)
        clear hb4
        go_wp2
        go_ret
        refine ⟨rfl, ?_⟩
        obtain ⟨rfl, rfl⟩ := HTM.out
        exact HNE.out.frame (TFr.below HB4.out HT1.out.lt)
      · have HASK := hide hask
        clear hask
        unfold askV at HASK
        simp only [if_true] at HASK
        go_wp2_with fail
        refine HASK.out.mono ?_
        rintro e w2 ⟨rfl, hb2⟩
        have HB2 : Hid (∀ o, Below wr.heap.size wr (w2.alloc o)) := fun o => bl_alloc (Nat.le_refl _) hb2
        clear HASK hb2
        go_wp2_with fail
        refine (HLA.out _ (HB2.out _)).mono ?_
        rintro e w3 ⟨rfl, hb3⟩
        have HB3 : Hid (Below wr.heap.size wr w3) := (HB2.out _).trans (hb3.mono (HB2.out _).size)
        clear hb3 HB2
        simp only [Bool.not_true]
        go_wp2_with fail
        refine (awake15 _).mono ?_
        rintro e w4 ⟨rfl, hb4⟩
        have HB4 : Hid (Below w1.heap.size w1 w4) := HBW.out.trans ((HB3.out.trans (hb4.mono HB3.out.size)).mono HBW.out.size)
        clear hb4
        go_wp2
        go_ret
        refine ⟨rfl, ?_⟩
        obtain ⟨rfl, rfl⟩ := HTM.out
        exact HNE.out.frame (TFr.below HB4.out HT1.out.lt)
end Go.Proofs.Ytpjjenhimnkdcaa
