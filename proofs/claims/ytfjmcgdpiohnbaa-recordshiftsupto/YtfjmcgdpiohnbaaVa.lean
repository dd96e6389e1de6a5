/- PutVar, the program's and the document's: a number as groups of seven bits. -/
import Derived.Test.YtfjmcgdpiohnbaaWc
namespace Go.Proofs.Ytfjmcgdpiohnbaa
open Go.RowKit
set_option linter.unusedVariables false

/-- A number as groups of seven bits, the lowest first (so many groups at most). -/
def varB : Nat → Nat → List Nat
  | 0, _ => []
  | f + 1, x => if x < 128 then [x] else (x % 128 + 128) :: varB f (x / 128)
theorem varB_lt (f x : Nat) : ∀ y ∈ varB f x, y < 256 := by
  induction f generalizing x with
  | zero => intro y hy; cases hy
  | succ f ih =>
    intro y hy
    unfold varB at hy
    split at hy
    · simp at hy; omega
    · rcases List.mem_cons.1 hy with rfl | hy
      · omega
      · exact ih _ y hy
theorem varB_length (f x : Nat) : (varB f x).length ≤ f := by
  induction f generalizing x with
  | zero => simp [varB]
  | succ f ih => unfold varB; split; simp; have := ih (x / 128); simp; omega
theorem varB_step (f x : Nat) (h : 128 ≤ x) : varB (f + 1) x = (x % 128 + 128) :: varB f (x / 128) := by
  rw [varB, if_neg (by omega)]
theorem varB_last (f x : Nat) (h : x < 128) : varB (f + 1) x = [x] := by rw [varB, if_pos h]
theorem or128 (x : Nat) : bits .or .u8 ((x : Int) % 256) 128 = ((x % 128 + 128 : Nat) : Int) := by
  have e : (x : Int) % 256 = ((x % 256 : Nat) : Int) := by omega
  rw [e, show (128 : Int) = ((128 : Nat) : Int) from rfl, u8_or_nat _ _ (by omega) (by omega)]
  have h2 : x % 256 ||| 128 = x % 128 + 128 := by
    by_cases h : x % 256 < 128
    · rw [Nat.or_comm, nat_join 7 128 (x % 256) (by decide) (by omega)]; omega
    · have e1 : x % 256 = 128 + x % 128 := by omega
      rw [e1, ← nat_join 7 128 (x % 128) (by decide) (by omega), Nat.or_comm 128 (x % 128), Nat.or_assoc, Nat.or_self, Nat.or_comm, nat_join 7 128 (x % 128) (by decide) (by omega)]; omega
  rw [h2]
theorem u8c_snoc (l : List Nat) (x : Nat) : u8cells l ++ [Value.int .u8 (x : Nat)] = u8cells (l ++ [x]) := by simp [u8cells]
theorem putVar_neg (n : Int) (w : World) (h : n < 0) :
    Calls Try.prog 36 #[.int .i64 n] w fun e w' => e = .returned (.tuple #[.string ⟨#[]⟩, .int .i64 1]) ∧ w' = w := by
  go_enter Try.func36, Try.ntmps36
  go_wp2
  go_ret2
  exact ⟨rfl, rfl⟩
theorem refPutVar_neg (n : Int) (w : World) (h : n < 0) :
    Calls Try.prog 29 #[.int .i64 n] w fun e w' => e = .returned (.tuple #[.string ⟨#[]⟩, .int .i64 1]) ∧ w' = w := by
  go_enter Try.func29, Try.ntmps29
  go_wp2
  go_ret2
  exact ⟨rfl, rfl⟩
/-- What a round of either loop keeps. -/
structure VRel (w wr : World) (n : Nat) (v : Value) (acc : List Nat) (X : Nat) : Prop where
  own : wr.ownsRow w.heap.size 5 1 v acc.length (u8cells acc)
  len : acc.length ≤ 9
  lt : X < 2 ^ (63 - 7 * acc.length)
  eq : acc ++ varB (10 - acc.length) X = varB 10 n
  bel : Below w.heap.size w wr
theorem VRel.start (w : World) (n : Nat) (hn : n < 2 ^ 63) : VRel w w n (.slice none 0 0) [] n :=
  ⟨World.ownsRow_nil _ _ _ _, by simp, hn, rfl, Below.refl _ _⟩
theorem VRel.more {w wr w1 : World} {n X g cap : Nat} {v : Value} {acc : List Nat} {o : Obj} {xs : List Value} (h : VRel w wr n v acc X) (hX : 128 ≤ X) (hxs : xs = [.int .u8 ((X % 128 + 128 : Nat) : Int)])
    (ho : w1.ownsRow w.heap.size 5 1 (.slice (some ⟨g, 0, none⟩) (acc.length + 1) cap) (acc.length + 1) (u8cells acc ++ xs))
    (hg : (wr.alloc o).grownBy w1 v.ownBlock) : VRel w w1 n (.slice (some ⟨g, 0, none⟩) (acc.length + 1) cap) (acc ++ [X % 128 + 128]) (X / 128) := by
  subst hxs
  have h7 : acc.length ≤ 7 := by
    rcases Nat.lt_or_ge 7 acc.length with hl | hl
    · have : 2 ^ (63 - 7 * acc.length) ≤ 2 ^ 7 := pow_le _ _ (by omega)
      have := h.lt; omega
    · exact hl
  refine ⟨by rw [← u8c_snoc, List.length_append]; exact ho, by simp; omega, ?_, ?_, ?_⟩
  · have e : 63 - 7 * acc.length = (63 - 7 * (acc.length + 1)) + 7 := by omega
    have hl := h.lt
    rw [e, Nat.pow_add] at hl
    rw [List.length_append]
    exact Nat.div_lt_of_lt_mul (by rw [Nat.mul_comm]; exact hl)
  · have e := h.eq
    rw [show 10 - acc.length = (9 - acc.length) + 1 by omega, varB_step _ _ hX] at e
    rw [List.length_append, List.append_assoc, ← e, show 10 - (acc.length + [X % 128 + 128].length) = 9 - acc.length by simp <;> omega]
    rfl
  · refine (h.bel.alloc h.bel.size _).grown hg (by have := h.bel.size; simp; omega) (fun k hk => ?_)
    exact ((h.own.alloc o).lt k hk).1
theorem VRel.last {w wr : World} {n X : Nat} {v : Value} {acc : List Nat} (h : VRel w wr n v acc X) (hX : X < 128) : acc ++ [X] = varB 10 n := by
  rw [← h.eq, show 10 - acc.length = (9 - acc.length) + 1 by have := h.len; omega, varB_last _ _ hX]
set_option maxHeartbeats 400000 in
set_option maxRecDepth 100000 in
theorem putVar (n : Nat) (w : World) (hn : n ≤ 9223372036854775807) :
    Calls Try.prog 36 #[.int .i64 n] w fun e w' => e = .returned (.tuple #[.string (toBA (varB 10 n)), .int .i64 0]) ∧ Below w.heap.size w w' := by
  obtain ⟨i0, hi, hz0, hz1, hz2⟩ := info_parts Try.infoU8
  have hst : Hid (VRel w w n (.slice none 0 0) [] n) := VRel.start w n (by omega)
  go_enter Try.func36, Try.ntmps36
  go_wp2
  go_loopw [4, 5] (fun v x wr => ∃ V acc X, V = v ∧ x = .int .u64 (X : Nat) ∧ VRel w wr n V acc X) (fun _ x _ => (intOf x).toNat)
  case atStart => exact ⟨_, [], n, rfl, rfl, hst.out⟩
  case round =>
    obtain ⟨v, acc, X, rfl, rfl, hr⟩ := hrel
    have hlen := hr.len
    have hBw : w.heap.size ≤ wr.heap.size := hr.bel.size
    have hX64 : X < 9223372036854775808 := by have := pow_le (63 - 7 * acc.length) 63 (by omega); have := hr.lt; omega
    have HR : Hid (VRel w wr n v acc X) := hr
    have hown := hr.own
    clear hr
    obtain ⟨m, hm⟩ : ∃ m, m = acc.length := ⟨_, rfl⟩
    rw [← hm] at hown hlen
    have HM : Hid (m = acc.length) := hm
    clear hm
    by_cases hlt : 128 ≤ X
    · go_wp2_with (at_builtin; refine wpList_append_lies _ rfl _ _ 39 rfl w.heap.size 5 i0 (.int .u8 0) 1 1 Try.underlying39 hi hz0 hz1 hz2 rfl (by decide) v m (u8cells acc) rfl (hown.alloc _) ⟨wr.heap.size, 0, none⟩ 1 1 [.int .u8 (bits .or .u8 ((X : Int) % 256) 128)] rfl rfl ?c1 ?c2 (by decide) ?c3 ?c4 ?c5 (wr.heap.size + 1) ?c6 ?_)
      case c1 =>
        intro j u hj
        match j, hj with
        | 0, hj => simp at hj; subst hj; simp [Addr.add]
      case c2 => intro u hu; simp at hu; subst hu; rfl
      case c3 => unfold maxLen; omega
      case c4 => omega
      case c5 => simp; omega
      case c6 => simp
      intro g cap w1 hown1 hgrow hat hgl
      rw [HM.out] at hown1
      have hN : Hid _ := HR.out.more hlt (by rw [or128]) hown1 hgrow
      rw [← HM.out] at hN
      clear hown1 hgrow hat hown
      go_wp2
      go_roundw
      case rel =>
        exact ⟨_, _, X / 128, rfl, congrArg (Value.int .u64) (by omega), hN.out⟩
      case measure => simp [intOf]; omega
    · go_wp2_with (at_builtin; refine wpList_append_lies _ rfl _ _ 39 rfl w.heap.size 5 i0 (.int .u8 0) 1 1 Try.underlying39 hi hz0 hz1 hz2 rfl (by decide) v m (u8cells acc) rfl (hown.alloc _) ⟨wr.heap.size, 0, none⟩ 1 1 [.int .u8 (X : Nat)] rfl rfl ?d1 ?d2 (by decide) ?d3 ?d4 ?d5 (wr.heap.size + 1) ?d6 ?_)
      case d1 =>
        intro j u hj
        match j, hj with
        | 0, hj => simp at hj; subst hj; simp [Addr.add]
      case d2 => intro u hu; simp at hu; subst hu; rfl
      case d3 => unfold maxLen; omega
      case d4 => omega
      case d5 => simp; omega
      case d6 => simp
      intro g cap w1 hown1 hgrow hat hgl
      have hX : X < 128 := by omega
      have hlast := HR.out.last hX
      have e1 : u8cells acc ++ [Value.int .u8 (X : Nat)] = u8cells (varB 10 n) := by rw [← hlast, ← u8c_snoc]
      have e2 : m + 1 = (varB 10 n).length := by rw [← hlast, HM.out]; simp
      have hcv : (convert 39 9 (.slice (some ⟨g, 0, none⟩) (m + 1) cap)).run Try.prog w1 = .ok (.string (toBA (varB 10 n))) w1 := by
        refine conv_row w1 _ _ 5 w.heap.size _ (varB 10 n) Try.underlying39 Try.underlying5 Try.underlying9 ?_ (varB_lt 10 n)
        rw [← e1, ← e2]; exact hown1
      have hB : Hid (Below w.heap.size w w1) := (HR.out.bel.alloc hBw _).grown hgrow (by simp; omega) (fun k hk => (hown.lt k hk).1)
      clear hown1 hgrow hat hown e1 e2 hlast
      go_wp2
      go_ret2
      exact ⟨rfl, hB.out⟩
set_option maxHeartbeats 400000 in
set_option maxRecDepth 100000 in
theorem refPutVar (n : Nat) (w : World) (hn : n ≤ 9223372036854775807) :
    Calls Try.prog 29 #[.int .i64 n] w fun e w' => e = .returned (.tuple #[.string (toBA (varB 10 n)), .int .i64 0]) ∧ Below w.heap.size w w' := by
  obtain ⟨i0, hi, hz0, hz1, hz2⟩ := info_parts Try.infoU8
  have hst : Hid (VRel w w n (.slice none 0 0) [] n) := VRel.start w n (by omega)
  go_enter Try.func29, Try.ntmps29
  go_wp2
  go_loopw [0, 4] (fun x v wr => ∃ V acc X, V = v ∧ x = .int .i64 (X : Nat) ∧ VRel w wr n V acc X) (fun x _ _ => (intOf x).toNat)
  case atStart => exact ⟨_, [], n, rfl, rfl, hst.out⟩
  case round =>
    obtain ⟨v, acc, X, rfl, rfl, hr⟩ := hrel
    have hlen := hr.len
    have hBw : w.heap.size ≤ wr.heap.size := hr.bel.size
    have hX64 : X < 9223372036854775808 := by have := pow_le (63 - 7 * acc.length) 63 (by omega); have := hr.lt; omega
    have HR : Hid (VRel w wr n v acc X) := hr
    have hown := hr.own
    clear hr
    obtain ⟨m, hm⟩ : ∃ m, m = acc.length := ⟨_, rfl⟩
    rw [← hm] at hown hlen
    have HM : Hid (m = acc.length) := hm
    clear hm
    by_cases hlt : 128 ≤ X
    · go_wp2_with (at_builtin; refine wpList_append_lies _ rfl _ _ 39 rfl w.heap.size 5 i0 (.int .u8 0) 1 1 Try.underlying39 hi hz0 hz1 hz2 rfl (by decide) v m (u8cells acc) rfl (hown.alloc _) ⟨wr.heap.size, 0, none⟩ 1 1 [.int .u8 ((X : Int) % 128 + 128)] rfl rfl ?c1 ?c2 (by decide) ?c3 ?c4 ?c5 (wr.heap.size + 1) ?c6 ?_)
      case c1 =>
        intro j u hj
        match j, hj with
        | 0, hj => simp at hj; subst hj; simp [Addr.add]
      case c2 => intro u hu; simp at hu; subst hu; rfl
      case c3 => unfold maxLen; omega
      case c4 => omega
      case c5 => simp; omega
      case c6 => simp
      intro g cap w1 hown1 hgrow hat hgl
      rw [HM.out] at hown1
      have hN : Hid _ := HR.out.more hlt (by congr 2) hown1 hgrow
      rw [← HM.out] at hN
      clear hown1 hgrow hat hown
      go_wp2
      go_roundw
      case rel =>
        exact ⟨_, _, X / 128, rfl, congrArg (Value.int .i64) (by omega), hN.out⟩
      case measure => simp [intOf]; omega
    · go_wp2_with (at_builtin; refine wpList_append_lies _ rfl _ _ 39 rfl w.heap.size 5 i0 (.int .u8 0) 1 1 Try.underlying39 hi hz0 hz1 hz2 rfl (by decide) v m (u8cells acc) rfl (hown.alloc _) ⟨wr.heap.size, 0, none⟩ 1 1 [.int .u8 (X : Nat)] rfl rfl ?d1 ?d2 (by decide) ?d3 ?d4 ?d5 (wr.heap.size + 1) ?d6 ?_)
      case d1 =>
        intro j u hj
        match j, hj with
        | 0, hj => simp at hj; subst hj; simp [Addr.add]
      case d2 => intro u hu; simp at hu; subst hu; rfl
      case d3 => unfold maxLen; omega
      case d4 => omega
      case d5 => simp; omega
      case d6 => simp
      intro g cap w1 hown1 hgrow hat hgl
      have hX : X < 128 := by omega
      have hlast := HR.out.last hX
      have e1 : u8cells acc ++ [Value.int .u8 (X : Nat)] = u8cells (varB 10 n) := by rw [← hlast, ← u8c_snoc]
      have e2 : m + 1 = (varB 10 n).length := by rw [← hlast, HM.out]; simp
      have hcv : (convert 39 9 (.slice (some ⟨g, 0, none⟩) (m + 1) cap)).run Try.prog w1 = .ok (.string (toBA (varB 10 n))) w1 := by
        refine conv_row w1 _ _ 5 w.heap.size _ (varB 10 n) Try.underlying39 Try.underlying5 Try.underlying9 ?_ (varB_lt 10 n)
        rw [← e1, ← e2]; exact hown1
      have hB : Hid (Below w.heap.size w w1) := (HR.out.bel.alloc hBw _).grown hgrow (by simp; omega) (fun k hk => (hown.lt k hk).1)
      clear hown1 hgrow hat hown e1 e2 hlast
      go_wp2
      go_ret2
      exact ⟨rfl, hB.out⟩
end Go.Proofs.Ytfjmcgdpiohnbaa
