/- The canonical words, and whether a code is whole. -/
import Derived.Test.YtchjnfckcfikkaaDoorGm
namespace Go.Proofs.YtchjnfckcfikkaaDoor
open Go.RowKit
set_option linter.unusedVariables false

/-- The word of each symbol, 0 of one without. -/
def cw (ns : List Nat) (i : Nat) : Nat := if ns.getD i 0 = 0 then 0 else codeW ns i
/-- The next word of each length, i symbols on. -/
def nxt (ns : List Nat) (i l : Nat) : Nat := if l = 0 then 0 else fstW ns l + lcnt ns l i
def nx0 (ns : List Nat) (k l : Nat) : Nat := if l < k then fstW ns l else 0
def wds (ns : List Nat) (i s : Nat) : Nat := if s < i then cw ns s else 0
theorem fstW_ew (ns : List Nat) (l : Nat) (h : 1 ≤ l) : fstW ns l = 2 * ew ns (l - 1) := by
  obtain ⟨k, rfl⟩ : ∃ k, l = k + 1 := ⟨l - 1, by omega⟩
  cases k with
  | zero => rfl
  | succ k => rw [fstW_succ ns (k + 1) (by omega)]; rfl
theorem fstW_zero (ns : List Nat) : fstW ns 0 = 0 := rfl
theorem setRow_last (w : World) (A B : Array Value) (t : TypeId) : (w.alloc (.cells A t)).setRow w.heap.size B = w.alloc (.cells B t) := by
  have h : (w.alloc (.cells A t)).heap[w.heap.size]? = some (.cells A t (0, 0)) := heap_alloc_last w (.cells A t)
  unfold World.setRow World.alloc
  congr 1
  apply Array.ext_getElem?
  intro i
  simp only [Array.getElem?_modify, Array.getElem?_push]
  by_cases e : i = w.heap.size
  · subst e; simp
  · rw [if_neg (Ne.symm e), if_neg e, if_neg e]
def CodesEnd (w : World) (xs : List Int) (e : Ending) (w' : World) : Prop :=
  ((may xs = true ∧ ew (nsOf xs) 15 ≤ 32768 ∧ ∃ L, e = .returned (.tuple #[.slice (some ⟨L, 0, none⟩) xs.length xs.length, .int .i64 0]) ∧ LB w' L xs.length (cw (nsOf xs)) ∧ w.heap.size ≤ L) ∨
   (¬ (may xs = true ∧ ew (nsOf xs) 15 ≤ 32768) ∧ e = .returned (.tuple #[.slice none 0 0, .int .i64 30]))) ∧ Below w.heap.size w w'

set_option maxRecDepth 20000 in
set_option maxHeartbeats 4000000 in
theorem whole_ok (xs : List Int) (a : Option Addr) (c N : Nat) (w : World) (hN : xs.length = N) (hrow : IRow w a xs) (hlen : N ≤ 9223372036854775807) :
    Calls Tryd.prog 71 #[.slice a N c] w fun e w' => ((may xs = true ∧ ew (nsOf xs) 15 ≤ 32768 ∧ e = .returned (.tuple #[.bool (decide (ew (nsOf xs) 15 = 32768)), .int .i64 0])) ∨ (¬ (may xs = true ∧ ew (nsOf xs) 15 ≤ 32768) ∧ e = .returned (.tuple #[.bool false, .int .i64 30]))) ∧ Below w.heap.size w w' := by
  have HE : Hid (Calls Tryd.prog 73 #[.slice a N c] w fun e w' => EndsEnd w xs e w') := wordEnds_ok xs a c N w hN hrow hlen
  clear hN hrow
  go_enter Tryd.func71, Tryd.ntmps71
  go_wp2_with fail
  refine Calls.mono HE.out ?_
  rintro e w1 ⟨hcase, hb1⟩
  have HB : Hid (∀ o, Below w.heap.size w (w1.alloc o)) := fun o => hb1.alloc hb1.size _
  have hgen : ∃ (g : Nat → Nat) (q : Int), e = .returned (.tuple #[.agg (lcells 16 g), .int .i64 q]) ∧ Hid ((may xs = true ∧ ew (nsOf xs) 15 ≤ 32768 ∧ g 15 = ew (nsOf xs) 15 ∧ q = 0) ∨ (¬ (may xs = true ∧ ew (nsOf xs) 15 ≤ 32768) ∧ g 15 = 0 ∧ q = 30)) := by
    rcases hcase with ⟨h1, h2, rfl⟩ | ⟨h1, rfl⟩
    · exact ⟨_, _, rfl, .inl ⟨h1, h2, rfl, rfl⟩⟩
    · exact ⟨_, _, rfl, .inr ⟨h1, rfl, rfl⟩⟩
  obtain ⟨g, q, rfl, HG⟩ := hgen
  have hA15 := lcells_get 16 g 15 (by omega)
  have hsv := run_storeCells_blk (P := Tryd.prog) (w1.alloc (.cells #[.int .i64 0, .int .i64 0, .int .i64 0, .int .i64 0, .int .i64 0, .int .i64 0, .int .i64 0, .int .i64 0, .int .i64 0, .int .i64 0, .int .i64 0, .int .i64 0, .int .i64 0, .int .i64 0, .int .i64 0, .int .i64 0] 108)) w1.heap.size 108 108 _ (lcells 16 g) (heap_alloc_last _ _) (by rw [lcells_size]; exact perSize) (by rw [lcells_size]; rfl) (lcells_one _ _)
  rw [setRow_last] at hsv
  obtain ⟨G, hG⟩ : ∃ G : Int, ((g 15 : Nat) : Int) = G := ⟨_, rfl⟩
  rw [hG] at hA15
  have HGG : Hid (((g 15 : Nat) : Int) = G) := hG
  obtain ⟨A, hA⟩ : ∃ A, lcells 16 g = A := ⟨_, rfl⟩
  have hAs := lcells_size 16 g
  rw [hA] at hA15 hsv hAs
  rw [hA]
  have HSV : Hid _ := hsv
  clear hcase hb1 hsv hG hA
  go_wp2
  simp only [HSV.out, Result.andThen]
  rw [Oper.upon_skip]
  clear hAs
  have HF : Hid (((may xs = true ∧ ew (nsOf xs) 15 ≤ 32768 ∧ Ending.returned (.tuple #[.bool (decide (G = 32768)), .int .i64 q]) = .returned (.tuple #[.bool (decide (ew (nsOf xs) 15 = 32768)), .int .i64 0])) ∨ (¬ (may xs = true ∧ ew (nsOf xs) 15 ≤ 32768) ∧ Ending.returned (.tuple #[.bool (decide (G = 32768)), .int .i64 q]) = .returned (.tuple #[.bool false, .int .i64 30])))) := by
    have hG := HGG.out
    rcases HG.out with ⟨h1, h2, h3, rfl⟩ | ⟨h1, h2, rfl⟩
    · refine .inl ⟨h1, h2, ?_⟩
      rw [← hG, h3]
      congr 4
      by_cases e : ew (nsOf xs) 15 = 32768
      · rw [decide_eq_true e, decide_eq_true (by omega)]
      · rw [decide_eq_false e, decide_eq_false (by omega)]
    · refine .inr ⟨h1, ?_⟩
      rw [← hG, h2]
      rfl
  go_wp2
  go_ret2
  exact ⟨HF.out, HB.out _⟩
end Go.Proofs.YtchjnfckcfikkaaDoor
