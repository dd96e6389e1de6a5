/- PutFixed and Fixed, the program's and the document's. -/
/- Fixed, the program's and the document's. -/
import Derived.Test.YtcjlcieheepegaaGreatDoorV10
namespace Go.Proofs.YtcjlcieheepegaaGreatDoor
open Go.RowKit
set_option linter.unusedVariables false
set_option maxRecDepth 20000

set_option maxHeartbeats 400000 in
theorem putFixed_bytes (n k : Int) (w : World) (h : k < 1 ∨ 8 < k) :
    Calls Tryz.prog 185 #[.int .i64 n, .int .i64 k] w fun e w' => e = .returned (.tuple #[.string ⟨#[]⟩, .int .i64 1]) ∧ w' = w := by
  rcases h with h | h
  · go_enter Tryz.func185, Tryz.ntmps185
    go_wp2
    go_ret2
    exact ⟨rfl, rfl⟩
  · have h1 : ¬ k < 1 := by omega
    go_enter Tryz.func185, Tryz.ntmps185
    go_wp2
    go_ret2
    exact ⟨rfl, rfl⟩
theorem putFixed_neg (n k : Int) (w : World) (h1 : 1 ≤ k) (h2 : k ≤ 8) (h : n < 0) :
    Calls Tryz.prog 185 #[.int .i64 n, .int .i64 k] w fun e w' => e = .returned (.tuple #[.string ⟨#[]⟩, .int .i64 1]) ∧ w' = w := by
  go_enter Tryz.func185, Tryz.ntmps185
  go_wp2
  go_ret2
  exact ⟨rfl, rfl⟩
set_option maxHeartbeats 400000 in
theorem refPutFixed_bytes (n k : Int) (w : World) (h : k < 1 ∨ 8 < k) :
    Calls Tryz.prog 47 #[.int .i64 n, .int .i64 k] w fun e w' => e = .returned (.tuple #[.string ⟨#[]⟩, .int .i64 1]) ∧ w' = w := by
  rcases h with h | h
  · go_enter Tryz.func47, Tryz.ntmps47
    go_wp2
    go_ret2
    exact ⟨rfl, rfl⟩
  · have h1 : ¬ k < 1 := by omega
    go_enter Tryz.func47, Tryz.ntmps47
    go_wp2
    go_ret2
    exact ⟨rfl, rfl⟩
theorem refPutFixed_neg (n k : Int) (w : World) (h1 : 1 ≤ k) (h2 : k ≤ 8) (h : n < 0) :
    Calls Tryz.prog 47 #[.int .i64 n, .int .i64 k] w fun e w' => e = .returned (.tuple #[.string ⟨#[]⟩, .int .i64 1]) ∧ w' = w := by
  go_enter Tryz.func47, Tryz.ntmps47
  go_wp2
  go_ret2
  exact ⟨rfl, rfl⟩
theorem putFixed_big (n k : Nat) (w : World) (h1 : 1 ≤ k) (h2 : k ≤ 8) (h : ((n : Int) / 2 ^ (8 * k) != 0) = true) :
    Calls Tryz.prog 185 #[.int .i64 n, .int .i64 k] w fun e w' => e = .returned (.tuple #[.string ⟨#[]⟩, .int .i64 1]) ∧ w' = w := by
  go_enter Tryz.func185, Tryz.ntmps185
  go_wp2
  go_ret2
  exact ⟨rfl, rfl⟩
theorem refPutFixed_big (n k : Nat) (w : World) (h1 : 1 ≤ k) (h2 : k < 8) (h : 0 < (n : Int) / 2 ^ (8 * k)) :
    Calls Tryz.prog 47 #[.int .i64 n, .int .i64 k] w fun e w' => e = .returned (.tuple #[.string ⟨#[]⟩, .int .i64 1]) ∧ w' = w := by
  go_enter Tryz.func47, Tryz.ntmps47
  go_wp2
  go_ret2
  exact ⟨rfl, rfl⟩
set_option maxHeartbeats 400000 in
theorem putFixed (n k : Nat) (w : World) (h1 : 1 ≤ k) (h2 : k ≤ 8) (hn : n ≤ 9223372036854775807) (h : ((n : Int) / 2 ^ (8 * k) != 0) = false) :
    Calls Tryz.prog 185 #[.int .i64 n, .int .i64 k] w fun e w' => e = .returned (.tuple #[.string (toBA (fixB n k)), .int .i64 0]) ∧ Below w.heap.size w w' := by
  obtain ⟨i0, hi, hz0, hz1, hz2⟩ := info_parts Tryz.infoU8
  go_enter Tryz.func185, Tryz.ntmps185
  go_wp2_with (at_make; refine wpList_make_full _ rfl _ _ 47 rfl w.heap.size 5 i0 (.int .u8 0) 1 Tryz.underlying47 hi hz0 hz1 .i64 .i64 _ _ k rfl rfl rfl rfl ?c1 ?c2 (Nat.le_refl _) ?_)
  case c1 => rw [hz2]; omega
  case c2 => unfold maxLen; omega
  intro w1 hown hgrow
  rw [made_u8 n] at hown
  have hst : Hid (w1.ownsRow w.heap.size 5 1 (.slice (some ⟨w.heap.size, 0, none⟩) k k) k (u8cells (fixB n 0 ++ List.replicate (k - 0) 0)) ∧ Below w.heap.size w w1) :=
    ⟨hown, (Below.refl _ _).grown hgrow (Nat.le_refl _) (fun k hk => by cases hk)⟩
  clear hown hgrow
  go_wp2
  go_loopw [28] (fun i wr => ∃ j : Nat, j ≤ k ∧ i = .int .i64 j ∧ wr.ownsRow w.heap.size 5 1 (.slice (some ⟨w.heap.size, 0, none⟩) k k) k (u8cells (fixB n j ++ List.replicate (k - j) 0)) ∧ Below w.heap.size w wr) (fun i _ => k - (intOf i).toNat)
  case atStart => exact ⟨0, Nat.zero_le _, rfl, hst.out.1, hst.out.2⟩
  case round =>
    obtain ⟨j, hj, rfl, hown, hbel⟩ := hrel
    by_cases hlt : j < k
    · have hfz := hown.frozenAt j
      have hc : wr.cell? ⟨w.heap.size, j, none⟩ = some (.int .u8 0) := by
        rw [hown.cellAt j (by omega)]
        unfold u8cells
        rw [List.map_append, List.getElem?_append_right (by simp [fixB_length])]
        simp [fixB_length, List.getElem?_replicate]; omega
      have HS : Hid _ := (⟨(hown.stored j (.int .u8 (n / 2 ^ (8 * j) % 256 : Nat))).1, hbel.setCell (Nat.le_refl _) (p := ⟨w.heap.size, j, none⟩) (.int .u8 (n / 2 ^ (8 * j) % 256 : Nat))⟩ : _ ∧ _)
      clear hown hbel
      go_wp2
      go_roundw
      case rel =>
        have e : ((n / 2 ^ (8 * j) % 256 : Nat) : Int) = (n : Int) / 2 ^ (8 * j) % 256 := by simp
        have hS := HS.out
        rw [fix_store n j k hlt, e] at hS
        exact ⟨j + 1, by omega, by go_num, hS.1, hS.2⟩
      case measure => simp [intOf]; omega
    · obtain rfl : j = k := by omega
      have hcv : (convert 47 9 (.slice (some ⟨w.heap.size, 0, none⟩) j j)).run Tryz.prog wr = .ok (.string (toBA (fixB n j))) wr := by
        refine conv_row wr _ _ 5 w.heap.size _ (fixB n j) Tryz.underlying47 Tryz.underlying5 Tryz.underlying9 ?_ (fixB_lt n j)
        rw [fixB_length]; simpa using hown
      have HB : Hid (Below w.heap.size w wr) := hbel
      clear hown hbel
      go_wp2
      go_ret2
      exact ⟨rfl, HB.out⟩
theorem and255 (n j : Nat) (hn : n < 9223372036854775808) : bits .and .i64 ((n : Int) / 2 ^ (8 * j)) 255 % 256 = ((n / 2 ^ (8 * j) % 256 : Nat) : Int) := by
  have e : (n : Int) / 2 ^ (8 * j) = ((n / 2 ^ (8 * j) : Nat) : Int) := by simp
  have hl : n / 2 ^ (8 * j) ≤ n := Nat.div_le_self _ _
  have h := i64_and_nat (n / 2 ^ (8 * j)) 255 (by omega) (by omega)
  rw [e, show (255 : Int) = ((255 : Nat) : Int) from rfl, h, nat_mask8]
  generalize n / 2 ^ (8 * j) = y
  omega
set_option maxHeartbeats 400000 in
theorem refPutFixed (n k : Nat) (w : World) (h1 : 1 ≤ k) (h2 : k ≤ 8) (hn : n ≤ 9223372036854775807) (h : (n : Int) / 2 ^ (8 * k) ≤ 0) :
    Calls Tryz.prog 47 #[.int .i64 n, .int .i64 k] w fun e w' => e = .returned (.tuple #[.string (toBA (fixB n k)), .int .i64 0]) ∧ Below w.heap.size w w' := by
  obtain ⟨i0, hi, hz0, hz1, hz2⟩ := info_parts Tryz.infoU8
  go_enter Tryz.func47, Tryz.ntmps47
  go_wp2
  all_goals
    go_loopw [6, 7] (fun v i wr => ∃ V : Value, ∃ j : Nat, V = v ∧ j ≤ k ∧ i = .int .i64 j ∧ wr.ownsRow w.heap.size 5 1 V j (u8cells (fixB n j)) ∧ Below w.heap.size w wr) (fun _ i _ => k - (intOf i).toNat)
    case atStart => exact ⟨_, 0, rfl, Nat.zero_le _, rfl, World.ownsRow_nil _ _ _ _, Below.refl _ _⟩
    case round =>
      obtain ⟨v, j, rfl, hj, rfl, hown, hbel⟩ := hrel
      have hBw := hbel.size
      by_cases hlt : j < k
      · go_wp2_with (at_builtin; refine wpList_append_lies _ rfl _ _ 47 rfl w.heap.size 5 i0 (.int .u8 0) 1 1 Tryz.underlying47 hi hz0 hz1 hz2 rfl (by decide) v j (u8cells (fixB n j)) rfl (hown.alloc _) ⟨wr.heap.size, 0, none⟩ 1 1 [.int .u8 (bits .and .i64 ((n : Int) / 2 ^ (8 * j)) 255 % 256)] rfl rfl ?c1 ?c2 (by decide) ?c3 ?c4 ?c5 (wr.heap.size + 1) ?c6 ?_)
        case c1 =>
          intro j u hj
          match j, hj with
          | 0, hj => simp at hj; subst hj; simp [Addr.add]
        case c2 => intro u hu; simp at hu; subst hu; rfl
        case c3 => unfold maxLen; omega
        case c4 => omega
        case c5 => simp; omega
        case c6 => simp
        intro g cap w1 hown1 hgrow hat hgl
        rw [and255 n j (by omega), u8c_snoc, ← fixB_succ] at hown1
        have HB : Hid (Below w.heap.size w w1) := (hbel.alloc hBw _).grown hgrow (by simp; omega) (fun k hk => (hown.lt k hk).1)
        have HO : Hid (w1.ownsRow w.heap.size 5 1 (.slice (some ⟨g, 0, none⟩) (j + 1) cap) (j + 1) (u8cells (fixB n (j + 1)))) := hown1
        clear hown1 hgrow hat hown hbel
        go_wp2
        go_roundw
        case rel => exact ⟨_, j + 1, rfl, by omega, by go_num, HO.out, HB.out⟩
        case measure => simp [intOf]; omega
      · obtain rfl : j = k := by omega
        have hcv : (convert 47 9 v).run Tryz.prog wr = .ok (.string (toBA (fixB n j))) wr := by
          refine conv_row wr _ _ 5 w.heap.size _ (fixB n j) Tryz.underlying47 Tryz.underlying5 Tryz.underlying9 ?_ (fixB_lt n j)
          rw [fixB_length]; exact hown
        have HB : Hid (Below w.heap.size w wr) := hbel
        clear hown hbel
        go_wp2
        go_ret2
        exact ⟨rfl, HB.out⟩
end Go.Proofs.YtcjlcieheepegaaGreatDoor
namespace Go.Proofs.YtcjlcieheepegaaGreatDoor
open Go.RowKit
set_option linter.unusedVariables false
set_option maxRecDepth 20000

theorem fixed_arg (s : ByteArray) (k : Int) (w : World) (h : k < 1 ∨ 8 < k) :
    Calls Tryz.prog 92 #[.string s, .int .i64 k] w fun e w' => e = .returned (.tuple #[.int .i64 0, .int .i64 1]) ∧ w' = w := by
  rcases h with h | h
  · go_enter Tryz.func92, Tryz.ntmps92
    go_wp2
    go_ret2
    exact ⟨rfl, rfl⟩
  · have h1 : ¬ k < 1 := by omega
    go_enter Tryz.func92, Tryz.ntmps92
    go_wp2
    go_ret2
    exact ⟨rfl, rfl⟩
theorem fixed_short (s : ByteArray) (k : Nat) (w : World) (h1 : 1 ≤ k) (h2 : k ≤ 8) (h : s.size < k) :
    Calls Tryz.prog 92 #[.string s, .int .i64 k] w fun e w' => e = .returned (.tuple #[.int .i64 0, .int .i64 5]) ∧ w' = w := by
  go_enter Tryz.func92, Tryz.ntmps92
  go_wp2
  go_ret2
  exact ⟨rfl, rfl⟩
theorem big_no (x : Nat) (h : x ≤ 9223372036854775807) : decide ((9223372036854775808 : Int) ≤ (x : Int)) = false := by
  rw [decide_eq_false_iff_not]; omega
theorem big_yes (x : Nat) (h : 9223372036854775807 < x) : decide ((9223372036854775808 : Int) ≤ (x : Int)) = true := by
  rw [decide_eq_true_iff]; omega
set_option maxHeartbeats 400000 in
theorem fixed (s : ByteArray) (k : Nat) (w : World) (h1 : 1 ≤ k) (h2 : k ≤ 8) (hs : k ≤ s.size) (hb : fixN s k ≤ 9223372036854775807) :
    Calls Tryz.prog 92 #[.string s, .int .i64 k] w fun e w' => e = .returned (.tuple #[.int .i64 (fixN s k : Nat), .int .i64 0]) ∧ w' = w := by
  have HB : Hid (fixN s k ≤ 9223372036854775807) := hb
  clear hb
  go_enter Tryz.func92, Tryz.ntmps92
  go_wp2
  go_loop [6, 19] (fun x i => ∃ j : Nat, j ≤ k ∧ i = .int .i64 j ∧ x = .int .u64 (fixN s j : Nat)) (fun _ i => k - (intOf i).toNat)
  case atStart => exact ⟨0, Nat.zero_le _, rfl, rfl⟩
  case round =>
    obtain ⟨j, hj, rfl, rfl⟩ := hrel
    by_cases hlt : j < k
    · have hix : j < s.size := by omega
      go_wp2
      go_round
      case rel =>
        refine ⟨j + 1, by omega, by go_num, congrArg (Value.int .u64) ?_⟩
        rw [wrap_u64_nat _ (by have := UInt8.toNat_lt s[j]; omega), byte_eq s j hix, or_byte _ _ _ (fixN_lt s j) (byte_lt s j) (by omega)]
        rfl
      case measure => simp [intOf]; omega
    · obtain rfl : j = k := by omega
      iterate 28 go_step
      simp only [big_no _ HB.out]
      go_wp2
      exact bodyPost_ret (v := .tuple #[.int .i64 (fixN s j : Nat), .int .i64 0]) (by simp [results, Tryz.results92, go_sem]; exact IntWalk.wrap64_in _ ⟨by omega, by have := HB.out; omega⟩) rfl ⟨rfl, rfl⟩
set_option maxHeartbeats 400000 in
theorem fixed_big (s : ByteArray) (k : Nat) (w : World) (h1 : 1 ≤ k) (h2 : k ≤ 8) (hs : k ≤ s.size) (hb : 9223372036854775807 < fixN s k) :
    Calls Tryz.prog 92 #[.string s, .int .i64 k] w fun e w' => e = .returned (.tuple #[.int .i64 0, .int .i64 10]) ∧ w' = w := by
  have HB : Hid (9223372036854775807 < fixN s k) := hb
  clear hb
  go_enter Tryz.func92, Tryz.ntmps92
  go_wp2
  go_loop [6, 19] (fun x i => ∃ j : Nat, j ≤ k ∧ i = .int .i64 j ∧ x = .int .u64 (fixN s j : Nat)) (fun _ i => k - (intOf i).toNat)
  case atStart => exact ⟨0, Nat.zero_le _, rfl, rfl⟩
  case round =>
    obtain ⟨j, hj, rfl, rfl⟩ := hrel
    by_cases hlt : j < k
    · have hix : j < s.size := by omega
      go_wp2
      go_round
      case rel =>
        refine ⟨j + 1, by omega, by go_num, congrArg (Value.int .u64) ?_⟩
        rw [wrap_u64_nat _ (by have := UInt8.toNat_lt s[j]; omega), byte_eq s j hix, or_byte _ _ _ (fixN_lt s j) (byte_lt s j) (by omega)]
        rfl
      case measure => simp [intOf]; omega
    · obtain rfl : j = k := by omega
      iterate 28 go_step
      simp only [big_yes _ HB.out]
      go_wp2
      exact bodyPost_ret (v := .tuple #[.int .i64 0, .int .i64 10]) (by simp [results, Tryz.results92, go_sem]) rfl ⟨rfl, rfl⟩
theorem add_byte (x y k : Nat) (hx : x < 2 ^ (8 * k)) (hk : k ≤ 7) (hb : x + y * 2 ^ (8 * k) < 9223372036854775808) :
    wrap64 ((x : Int) + wrap64 ((y : Int) * 2 ^ (8 * k))) = ((x + y * 2 ^ (8 * k) : Nat) : Int) := by
  have e2 : (y : Int) * 2 ^ (8 * k) = ((y * 2 ^ (8 * k) : Nat) : Int) := by simp
  obtain ⟨z, hz⟩ : ∃ z, z = y * 2 ^ (8 * k) := ⟨_, rfl⟩
  rw [e2, ← hz]
  rw [← hz] at hb
  rw [IntWalk.wrap64_in (z : Int) ⟨by omega, by omega⟩, IntWalk.wrap64_in _ ⟨by omega, by omega⟩]
  omega
end Go.Proofs.YtcjlcieheepegaaGreatDoor
