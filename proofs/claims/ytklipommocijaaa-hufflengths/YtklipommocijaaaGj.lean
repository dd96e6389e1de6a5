/- Frequencies that may be; the best lengths: the function itself. -/
import Derived.Test.YtklipommocijaaaGi
import Derived.Deep.OwnRows
namespace Go.Proofs.Ytklipommocijaaa
open Go.RowKit PT Go.Sort
set_option linter.unusedVariables false

theorem getD_in {α : Type} {fs : List α} {z : α} {i : Nat} (hi : i < fs.length) : fs.getD i z = fs[i] := by
  rw [List.getD_eq_getElem?_getD, List.getElem?_eq_getElem hi]; rfl
theorem getD_out {α : Type} {fs : List α} {z : α} {i : Nat} (hi : fs.length ≤ i) : fs.getD i z = z := by
  rw [List.getD_eq_getElem?_getD, List.getElem?_eq_none hi]; rfl
def okF (fs : List Int) : Bool := fs.all fun f => decide (0 ≤ f) && decide (f ≤ 1099511627776)
theorem okF_get {fs : List Int} (h : okF fs = true) (i : Nat) : 0 ≤ fs.getD i 0 ∧ fs.getD i 0 ≤ 1099511627776 := by
  unfold okF at h
  rw [List.all_eq_true] at h
  rcases Nat.lt_or_ge i fs.length with hi | hi
  · have := h (fs.getD i 0) (by rw [getD_in hi]; exact List.getElem_mem hi)
    simpa using this
  · rw [getD_out hi]; omega

theorem getD_take_all {fs : List Int} {j : Nat} (hj : j < fs.length) : (fs.take (j + 1)).all (fun f => decide (0 ≤ f) && decide (f ≤ 1099511627776)) = ((fs.take j).all (fun f => decide (0 ≤ f) && decide (f ≤ 1099511627776)) && (decide (0 ≤ fs.getD j 0) && decide (fs.getD j 0 ≤ 1099511627776))) := by
  rw [List.take_succ_eq_append_getElem hj, List.all_append, getD_in hj]
  simp

set_option maxRecDepth 20000 in
theorem areFreqs_ok (fs : List Int) (a : Option Addr) (c N : Nat) (w : World) (hN : fs.length = N) (hrow : IRow w a fs) (hlen : N ≤ 9223372036854775807) :
    Calls Try.prog 27 #[.slice a N c] w fun e w' => e = .returned (.bool (okF fs)) ∧ w' = w := by
  have HR : Hid (IRow w a fs) := hrow
  have HN : Hid (fs.length = N) := hN
  clear hrow hN
  go_enter Try.func27, Try.ntmps27
  go_wp2
  go_loop [4, 7] (fun _ v7 => ∃ (j : Nat), v7 = .int .i64 j ∧ j ≤ N ∧ Hid (okF (fs.take j) = true)) (fun _ v7 => N - (intOf v7).toNat)
  case atStart => exact ⟨0, rfl, by omega, rfl⟩
  case round =>
    obtain ⟨j, rfl, hj, HS⟩ := hrel
    by_cases hlt : j < N
    · have hlti : (j : Int) < (N : Int) := by omega
      obtain ⟨b, off, rfl, hcell, _⟩ := HR.out.at (show j < fs.length by rw [HN.out]; exact hlt)
      obtain ⟨F, hF⟩ : ∃ F, fs.getD j 0 = F := ⟨_, rfl⟩
      have hstep := getD_take_all (fs := fs) (show j < fs.length by rw [HN.out]; exact hlt)
      rw [hF] at hcell hstep
      have HT : Hid _ := hstep
      clear hstep hF
      by_cases h0 : F < 0
      · have hbad : Hid (okF fs = false) := by
          show _ = _
          have : okF (fs.take (j + 1)) = false := by unfold okF; rw [HT.out]; simp [show ¬ 0 ≤ F by omega]
          cases e : okF fs with
          | false => rfl
          | true =>
            unfold okF at e this
            rw [List.all_eq_true] at e
            rw [List.all_eq_false] at this
            obtain ⟨x, hx, hb⟩ := this
            exact absurd (e x (List.mem_of_mem_take hx)) hb
        go_wp2
        go_ret
        exact ⟨by rw [hbad.out]; rfl, rfl⟩
      · by_cases h1 : 1099511627776 < F
        · have hbad : Hid (okF fs = false) := by
            show _ = _
            have : okF (fs.take (j + 1)) = false := by unfold okF; rw [HT.out]; simp [show ¬ F ≤ 1099511627776 by omega]
            cases e : okF fs with
            | false => rfl
            | true =>
              unfold okF at e this
              rw [List.all_eq_true] at e
              rw [List.all_eq_false] at this
              obtain ⟨x, hx, hb⟩ := this
              exact absurd (e x (List.mem_of_mem_take hx)) hb
          go_wp2
          go_ret
          exact ⟨by rw [hbad.out]; rfl, rfl⟩
        · have H2 : Hid (okF (fs.take (j + 1)) = true) := by
            show _ = _
            have := HS.out
            unfold okF at this ⊢
            rw [HT.out, this]
            simp; omega
          go_wp2
          exact ⟨⟨j + 1, by go_num, by omega, H2⟩, by simp [intOf]; omega⟩
    · obtain rfl : j = N := by omega
      have hall : Hid (okF fs = true) := by
        have := HS.out
        rw [List.take_of_length_le (by rw [HN.out]; exact Nat.le_refl _)] at this
        exact this
      go_wp2
      go_ret
      exact ⟨by rw [hall.out]; rfl, rfl⟩

theorem intInfo : (Try.prog.info? 3).map (fun i => (i.zero, i.size, i.bytes)) = some (some (.int .i64 0), 1, 8) := by kernel_rfl
theorem made_zero (w : World) (N : Nat) : LB (w.alloc (.cells (madeCells #[.int .i64 0] N) 3)) w.heap.size N (fun _ => 0) := by
  unfold LB
  rw [heap_alloc_new]
  congr 2
  apply Array.ext'
  rw [toList_madeCells_one]
  unfold lcells
  apply List.ext_getElem
  · simp
  · intro i h1 h2; simp
theorem row_apart {w : World} {g o L N : Nat} {t : PT} {l : List PT} {c : Nat → Nat} (h : PRow w g o (t :: l)) (hl : LB w L N c) : g ≠ L := by
  rintro rfl
  have h1 := h.cons.2.1
  rcases Nat.lt_or_ge (o + 1) N with hi | hi
  · rw [(hl.cell hi).1] at h1; cases h1
  · unfold LB at hl
    simp [World.cell?, hl, lcells, Nat.not_lt.2 hi] at h1

theorem PRow.kp {w w' : World} {g o L : Nat} {l : List PT} (h : PRow w g o l) (hk : Kp L w w') (hg : g ≠ L) : PRow w' g o l := fun i t ht => by
  rw [hk.cell hg, hk.cell hg]; exact h i t ht
theorem LB.below {w w' : World} {L N : Nat} {c : Nat → Nat} (h : LB w L N c) (hb : Below w.heap.size w w') : LB w' L N c := (hb.block L (lt_heap h)).trans h
theorem cntL_take_succ {l : List PT} {j : Nat} {t : PT} (h : l[j]? = some t) (i : Nat) : cntL i (l.take (j + 1)) = cntL i (l.take j) + t.cnt i := by
  have hj : j < l.length := by
    rcases Nat.lt_or_ge j l.length with h' | h'
    · exact h'
    · rw [List.getElem?_eq_none h'] at h; cases h
  rw [List.take_succ_eq_append_getElem hj, cntL_append]
  rw [List.getElem?_eq_getElem hj] at h
  rw [Option.some.inj h]
  simp [cntL]

/-- What lengthens the words, in memory. -/
structure LenSt (w wr : World) (L N g o : Nat) (l : List PT) (j : Nat) : Prop where
  lb : LB wr L N (fun i => cntL i (l.take j))
  row : PRow wr g o l
  laid : ∀ t ∈ l, Laid wr L N t
  bel : Below w.heap.size w wr
  new : w.heap.size ≤ L
theorem LenSt.step {w wr w' : World} {L N g o j : Nat} {l : List PT} {t : PT} {ob : Obj} (h : LenSt w wr L N g o l j) (ht : l[j]? = some t) (hb : ∀ i, cntL i l < 4611686018427387904) :
    Calls Try.prog t.fn t.cap (wr.alloc ob) fun e w' => e = .returned (.tuple #[]) ∧ LenSt w w' L N g o l (j + 1) := by
  have hal : Below wr.heap.size wr (wr.alloc ob) := (Below.refl _ _).alloc (Nat.le_refl _) _
  have hm : t ∈ l := List.mem_of_getElem? ht
  refine (lengthen L N t (wr.alloc ob) _ ((h.laid t hm).below hal) (h.lb.below hal) (fun i => ?_)).mono ?_
  · rw [← cntL_take_succ ht]
    refine Nat.lt_of_le_of_lt ?_ (hb i)
    conv => rhs; rw [← List.take_append_drop (j + 1) l]
    rw [cntL_append]; omega
  · rintro e w2 ⟨rfl, h1, h2⟩
    have hne : g ≠ L := by
      cases hl : l with
      | nil => rw [hl] at ht; simp at ht
      | cons u r => exact row_apart (by rw [← hl]; exact h.row) h.lb
    refine ⟨rfl, ⟨h1.congr (fun i _ => (cntL_take_succ ht i).symm), (PRow.below h.row hal ?_).kp h2 hne, fun u hu => ((h.laid u hu).below hal).kp h2, (h.bel.trans (hal.mono h.bel.size)).trans (h2.below h.new), h.new⟩⟩
    exact lt_cell (h.row j t ht).1

/-- What Lengths tells. -/
def LensEnd (w : World) (fs : List Int) (most : Int) (e : Ending) (w' : World) : Prop :=
  (fs.length ≤ 288 ∧ okF fs = true ∧ 1 ≤ most ∧ most ≤ 15 ∧ (comes fs fs.length).length ≤ 2 ^ most.toNat ∧
    ∃ L c S l, e = .returned (.tuple #[.slice (some ⟨L, 0, none⟩) fs.length fs.length, .int .i64 0]) ∧ LB w' L fs.length c ∧ w.heap.size ≤ L ∧ Below w.heap.size w w' ∧
      Asc S ∧ Leaves fs (comes fs fs.length) l ∧ S.Perm l ∧
      ((S.length ≤ 1 ∧ c = fun i => cntL i S) ∨ (2 ≤ S.length ∧ ∃ r, Lev S (most.toNat - 1) r ∧ 2 * S.length - 2 ≤ r.length ∧ c = fun i => cntL i (r.take (2 * S.length - 2))))) ∨
  (¬ (fs.length ≤ 288 ∧ okF fs = true ∧ 1 ≤ most ∧ most ≤ 15 ∧ (comes fs fs.length).length ≤ 2 ^ most.toNat) ∧ e = .returned (.tuple #[.slice none 0 0, .int .i64 1]) ∧ Below w.heap.size w w')
end Go.Proofs.Ytklipommocijaaa
