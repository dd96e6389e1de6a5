/- SumsLinear: CRC-32C of two texts, one xor the other: mathematics and walk. -/
import Derived.Test.YtofjkopfldgkcabBa2
import Derived.Deep.AppendLies
namespace Go.Proofs.Ytofjkopfldgkcab
open Go.RowKit
set_option linter.unusedVariables false

/-- Linear: three sums xor'd are the fourth. -/
theorem crcOf_linear (l r : List Nat) (h : l.length = r.length) : crcOf (List.zipWith (· ^^^ ·) l r) = crcOf l ^^^ crcOf r ^^^ crcOf (List.replicate l.length 0) := by
  have h1 := cM_xor l r 4294967295 4294967295 h
  have hz : ∀ x : Nat, List.zipWith (· ^^^ ·) (List.zipWith (· ^^^ ·) l r) (List.replicate l.length 0) = List.zipWith (· ^^^ ·) l r := by
    intro _
    apply List.ext_getElem
    · simp
    · intro i a b
      simp
  have h2 := cM_xor (List.zipWith (· ^^^ ·) l r) (List.replicate l.length 0) (4294967295 ^^^ 4294967295) 4294967295 (by simp; omega)
  rw [hz 0, h1, Nat.xor_self, Nat.zero_xor] at h2
  unfold crcOf
  rw [h2]
  generalize cM 4294967295 l = a
  generalize cM 4294967295 r = b
  generalize cM 4294967295 (List.replicate l.length 0) = c
  generalize 4294967295 = n
  apply Nat.eq_of_testBit_eq
  intro i
  simp only [Nat.testBit_xor]
  cases n.testBit i <;> cases a.testBit i <;> cases b.testBit i <;> cases c.testBit i <;> rfl
theorem infoU8' : (Try.prog.info? 5).map (fun i => (i.zero, i.size, i.bytes)) = some (some (.int .u8 0), 1, 1) := by kernel_rfl
theorem make_row (n : Nat) (w : World) (hn : n ≤ 8192) : ∃ w1, (Instr.makeSlice 23 (.int .i64 (n : Int)) (.int .i64 (n : Int))).run Try.prog w = .ok (.slice (some ⟨w.heap.size, 0, none⟩) n n) w1 ∧ TB w1 w.heap.size (List.replicate n 0) ∧ Below w.heap.size w w1 ∧ w.heap.size < w1.heap.size := by
  have h := infoU8'
  cases hq : Try.prog.info? 5 with
  | none => simp [hq] at h
  | some i =>
    rw [hq] at h
    simp at h
    obtain ⟨h1, h2, h3⟩ := h
    obtain ⟨w1, hrun, hown, hgr⟩ := run_make_full (P := Try.prog) w w.heap.size 23 5 i (.int .u8 0) 1 Try.underlying23 hq h1 h2 .i64 .i64 n (by rw [h3]; omega) (by unfold maxLen; omega) (Nat.le_refl _)
    refine ⟨w1, hrun, ?_, (Below.refl _ _).grown hgr (Nat.le_refl _) (fun k hk => by cases hk), ?_⟩
    · intro j hj
      have hj' : j < n := by simpa using hj
      refine ⟨?_, hown.frozenAt j⟩
      rw [hown.cellAt j (by omega)]
      have e : (madeCells (Value.int .u8 0).cells (n * 1)).toList = List.replicate (n * 1) (Value.int .u8 0) := toList_madeCells_one (.int .u8 0) (n * 1)
      rw [e, List.getElem?_replicate, if_pos (by omega), List.getD_eq_getElem?_getD, List.getElem?_replicate, if_pos hj']
      rfl
    · rcases hown.2 with ⟨h', _⟩ | ⟨g', cap', cur, h', _, hg, _⟩
      · simp at h'
      · simp only [Value.slice.injEq, Option.some.injEq, Addr.mk.injEq, and_true, true_and] at h'
        obtain ⟨rfl, rfl⟩ := h'
        exact lt_of_block hg
def RowIn (w : World) (g : Nat) (l : List Nat) : Prop := TB w g l ∧ g < w.heap.size
theorem RowIn.on {U V : World} {g : Nat} {l : List Nat} (h : RowIn U g l) (hb : Below U.heap.size U V) : RowIn V g l := ⟨h.1.below hb h.2, Nat.lt_of_lt_of_le h.2 hb.size⟩
theorem conv_zero {w : World} {g n : Nat} (h : TB w g (List.replicate n 0)) (_ : g < w.heap.size) : (convert 23 9 (.slice (some ⟨g, 0, none⟩) n n)).run Try.prog w = .ok (.string (toBA (List.replicate n 0))) w := by
  have := bytes_back (List.replicate n 0) g n w h (fun x hx => by rw [List.eq_of_mem_replicate hx]; omega)
  rw [List.length_replicate] at this
  exact this
theorem conv_x {w : World} {g n : Nat} {l : List Nat} (h : RowIn w g l) (hl : l.length = n) (hb : ∀ x ∈ l, x < 256) : (convert 23 9 (.slice (some ⟨g, 0, none⟩) n n)).run Try.prog w = .ok (.string (toBA l)) w := by
  have := bytes_back l g n w h.1 hb
  rw [hl] at this
  exact this
/-- The bytes of two texts, xor'd up to j, noughts behind. -/
def xup (l r : List Nat) (n j : Nat) : List Nat := (List.range n).map fun i => if i < j then l.getD i 0 ^^^ r.getD i 0 else 0
theorem xup_length (l r : List Nat) (n j : Nat) : (xup l r n j).length = n := by simp [xup]
theorem xup_getD (l r : List Nat) (n j i : Nat) (hi : i < n) : (xup l r n j).getD i 0 = if i < j then l.getD i 0 ^^^ r.getD i 0 else 0 := by
  rw [List.getD_eq_getElem?_getD]
  simp [xup, hi]
theorem xup_zero (l r : List Nat) (n : Nat) : xup l r n 0 = List.replicate n 0 := by
  apply getD_ext
  · simp [xup]
  · intro i hi
    rw [xup_length] at hi
    rw [xup_getD _ _ _ _ _ hi, if_neg (by omega), List.getD_eq_getElem?_getD, List.getElem?_replicate, if_pos hi]
    rfl
theorem xup_set (l r : List Nat) (n j x : Nat) (hj : j < n) (hx : l.getD j 0 ^^^ r.getD j 0 = x) : (xup l r n j).set j x = xup l r n (j + 1) := by
  apply getD_ext
  · simp [xup]
  · intro i hi
    simp [xup_length] at hi
    rw [getD_set _ _ _ _ (by rw [xup_length]; exact hj), xup_getD _ _ _ _ _ hi, xup_getD _ _ _ _ _ hi]
    by_cases e : j = i
    · subst e
      rw [if_pos rfl, if_pos (by omega), hx]
    · rw [if_neg e]
      by_cases h : i < j
      · rw [if_pos h, if_pos (by omega)]
      · rw [if_neg h, if_neg (by omega)]
theorem xup_full (l r : List Nat) (n : Nat) (h1 : n ≤ l.length) (h2 : n ≤ r.length) : xup l r n n = List.zipWith (· ^^^ ·) (l.take n) (r.take n) := by
  apply List.ext_getElem
  · simp [xup]; omega
  · intro i a b
    have hi : i < n := by simpa [xup] using a
    have e1 : i < l.length := by omega
    have e2 : i < r.length := by omega
    simp [xup, hi, e1, e2]
theorem xup_lt (l r : List Nat) (n j : Nat) (hl : ∀ x ∈ l, x < 256) (hr : ∀ x ∈ r, x < 256) : ∀ x ∈ xup l r n j, x < 256 := by
  intro x hx
  simp only [xup, List.mem_map] at hx
  obtain ⟨i, _, rfl⟩ := hx
  split
  · exact Nat.xor_lt_two_pow (n := 8) (getD_lt hl _) (getD_lt hr _)
  · omega
theorem BL_front (s : ByteArray) (n : Nat) : BL (s.extract 0 n) = (BL s).take n := by simp [BL, List.map_take]
end Go.Proofs.Ytofjkopfldgkcab
