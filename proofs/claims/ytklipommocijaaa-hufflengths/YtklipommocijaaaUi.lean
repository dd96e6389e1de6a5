/- The document's Word: a word's bits. -/
import Derived.Test.YtklipommocijaaaUh
import Derived.Test.YtklipommocijaaaTc
namespace Go.Proofs.Ytklipommocijaaa
open Go.RowKit
set_option linter.unusedVariables false

theorem wtake (x n k : Nat) (h : k < n) : (wbitsOf x n).take (k + 1) = (wbitsOf x n).take k ++ [x / 2 ^ (n - 1 - k) % 2] := by
  rw [List.take_succ_eq_append_getElem (by rw [wbitsOf_length]; exact h)]
  have := wbitsOf_get x n k h
  rw [getD_in (by rw [wbitsOf_length]; exact h)] at this
  rw [this]
structure WordSt (w wr : World) (x n k : Nat) (v : Value) : Prop where
  own : wr.ownsRow w.heap.size 3 1 v k (icells ((wbitsOf x n).take k))
  bel : Below w.heap.size w wr
set_option maxRecDepth 20000 in
set_option maxHeartbeats 1000000 in
theorem word_ok (x n : Nat) (hn : n ≤ 57) (hx : x < 9223372036854775808) (w : World) :
    Calls Try.prog 19 #[.int .i64 n, .int .i64 x] w fun e w' => ∃ v, e = .returned v ∧ WordSt w w' x n n v := by
  obtain ⟨i0, hi, hz0, hz1, hz2⟩ := info_split intInfo
  have HI : Hid (Try.prog.info? 3 = some i0 ∧ i0.zero = some (.int .i64 0) ∧ i0.size = 1 ∧ i0.bytes = 8) := ⟨hi, hz0, hz1, hz2⟩
  clear hi hz0 hz1 hz2
  go_enter Try.func19, Try.ntmps19
  go_wp2
  go_loopw [5, 6] (fun v5 v6 wr => ∃ (k : Nat) (V : Value), V = v5 ∧ v6 = .int .i64 ((n : Int) - 1 - (k : Int)) ∧ k ≤ n ∧ Hid (WordSt w wr x n k V)) (fun _ v6 _ => (intOf v6 + 1).toNat)
  case atStart => exact ⟨0, _, rfl, by simp, by omega, World.ownsRow_nil _ _ _ _, Below.refl _ _⟩
  case round =>
    obtain ⟨k, V, rfl, rfl, hk, HS⟩ := hrel
    by_cases hlt : k < n
    · obtain ⟨m, hm⟩ : ∃ m : Nat, n - 1 - k = m := ⟨_, rfl⟩
      have hmi : (n : Int) - 1 - (k : Int) = (m : Int) := by omega
      have HMI : Hid ((n : Int) - 1 - (k : Int) = (m : Int)) := hmi
      rw [hmi]
      have hmn : m ≤ 57 := by omega
      have o1 := HS.out.own
      have HO : Hid (∀ o, (wr.alloc o).ownsRow w.heap.size 3 1 V k (icells ((wbitsOf x n).take k)) ∧ w.heap.size ≤ (wr.alloc o).heap.size) := fun o => ⟨o1.alloc o, by have := HS.out.bel.size; simp; omega⟩
      have HM : Hid (n - 1 - k = m) := hm
      clear o1 hm hmi
      go_wp2_with (at_builtin; refine wpList_append_lies _ rfl _ _ 22 rfl w.heap.size 3 i0 (.int .i64 0) 1 8 Try.underlying22 HI.out.1 HI.out.2.1 HI.out.2.2.1 HI.out.2.2.2 rfl (by decide) V k (icells ((wbitsOf x n).take k)) rfl (HO.out _).1 ⟨wr.heap.size, 0, none⟩ 1 1 [.int .i64 (bits .and .i64 ((x : Int) / 2 ^ m) 1)] rfl rfl ?c1 ?c2 (by decide) ?c3 ?c4 (HO.out _).2 _ rfl ?_)
      case c1 =>
        intro j u hj
        match j, hj with
        | 0, hj => simp at hj; subst hj; simp [Addr.add]
      case c2 => intro u hu; simp at hu; subst hu; rfl
      case c3 => unfold maxLen; omega
      case c4 => omega
      intro g cap w1 hown hgrow hat hgl
      have H2 : Hid (WordSt w w1 x n (k + 1) (.slice (some ⟨g, 0, none⟩) (k + 1) cap)) := by
        refine ⟨?_, ?_⟩
        · rw [wtake x n k hlt, ← icells_snoc, HM.out, ← and1_i64 x m hx]; exact hown
        · have hb := HS.out.bel
          exact (hb.alloc hb.size _).trans ((below_grown (HO.out _).1 hgrow (HO.out _).2).mono (Nat.le_refl _))
      clear hown hgrow hat
      go_wp2
      have hmi := HMI.out
      refine ⟨⟨k + 1, _, rfl, ?_, by omega, H2⟩, by simp [intOf]⟩
      congr 1
      omega
    · obtain rfl : k = n := by omega
      have hneg : (k : Int) - 1 - (k : Int) = -1 := by omega
      rw [hneg]
      go_wp2
      go_ret
      exact ⟨V, rfl, HS.out⟩
/-- .. as a slice whose cells are known. -/
theorem word_cells (x n : Nat) (hn : n ≤ 57) (h1 : 1 ≤ n) (hx : x < 9223372036854775808) (w : World) :
    Calls Try.prog 19 #[.int .i64 n, .int .i64 x] w fun e w' => ∃ g cap, e = .returned (.slice (some ⟨g, 0, none⟩) n cap) ∧ (∀ j u, (icells (wbitsOf x n))[j]? = some u → w'.cell? ((⟨g, 0, none⟩ : Addr).add j) = some u) ∧ Below w.heap.size w w' := by
  refine (word_ok x n hn hx w).mono ?_
  rintro e w' ⟨v, rfl, h⟩
  have ho := h.own
  rw [List.take_of_length_le (by rw [wbitsOf_length]; exact Nat.le_refl _)] at ho
  rcases ho.2 with ⟨_, h0⟩ | ⟨g, cap, cur, e1, _⟩
  · omega
  · exact ⟨g, cap, by rw [e1], fun j u hu => ho.cells (by rw [e1]; rfl) j u hu, h.bel⟩
theorem one_icells (l : List Nat) : ∀ u ∈ icells l, u.oneCell' = true := by
  intro u hu
  obtain ⟨x, _, rfl⟩ := List.mem_map.1 hu
  rfl
theorem icells_length (l : List Nat) : (icells l).length = l.length := by simp [icells]
end Go.Proofs.Ytklipommocijaaa
