/- Packs of one symbol each, the rarest first: the function itself. -/
/- Frequencies that may be; the best lengths: the function itself. -/
/- Plain mathematics of canonical words: they fit, and no word begins another one. -/
import Derived.Test.YtbcflkdaeboflaaDoorV03
import Derived.Deep.OwnRows
import Derived.Laws.BitsAllLaws
import Derived.IntWalk
namespace Go.Proofs.YtbcflkdaeboflaaDoor
open Go.RowKit PT Go.Sort
set_option linter.unusedVariables false
set_option maxRecDepth 20000

def SingEnd (w : World) (L N : Nat) (fs : List Int) (e : Ending) (w' : World) : Prop :=
  ∃ v S, e = .returned v ∧ ((S = [] ∧ v = .slice none 0 0) ∨ ∃ g cap, v = .slice (some ⟨g, 0, none⟩) S.length cap ∧ g < w'.heap.size ∧ S.length ≤ cap ∧ cap ≤ 9223372036854775807 ∧ PRow w' g 0 S) ∧
    Asc S ∧ (∃ l, Leaves fs (comes fs N) l ∧ S.Perm l) ∧ (∀ t ∈ S, Laid w' L N t) ∧ Below w.heap.size w w'

theorem asc_of_sorted {d : Array PT} (h : SortedIn (ltOf cf) 0 d.size d) : Asc d.toList := by
  unfold Asc
  rw [List.pairwise_iff_getElem]
  intro i j hi hj hij
  have hi' : i < d.size := by simpa using hi
  have hj' : j < d.size := by simpa using hj
  have := h i j (by omega) hij hj'
  rw [cf_lt, getElem!_pos d i hi', getElem!_pos d j hj'] at this
  simp at this
  simpa using this
theorem perm_of_permIn {N : Nat} {d d' : Array PT} (hs : d.size = N) (h : PermIn 0 N d d') : d'.toList.Perm d.toList := by
  have := h.2.2
  rw [Array.extract_eq_self_of_le (by rw [h.1]; omega), Array.extract_eq_self_of_le (by omega)] at this
  exact this

set_option maxRecDepth 20000 in
set_option maxHeartbeats 4000000 in
theorem singlePacks_ok (fs : List Int) (a : Option Addr) (c L N : Nat) (w : World) (hN : fs.length = N) (hrow : IRow w a fs) (hL : L < w.heap.size) (hf : ∀ i, 0 ≤ fs.getD i 0 ∧ fs.getD i 0 ≤ 1099511627776) (hlen : N ≤ 288) (hsort : SortsTo (comes fs N).length) :
    Calls Tryd.prog 76 #[.slice a N c, .slice (some ⟨L, 0, none⟩) N N] w fun e w' => SingEnd w L N fs e w' := by
  obtain ⟨i0, hi, hz0, hz1, hz2⟩ := info_split packInfo
  have HI : Hid (Tryd.prog.info? 133 = some i0 ∧ i0.zero = some (.agg #[.int .i64 0, .nilFunc]) ∧ i0.size = 2 ∧ i0.bytes = 16) := ⟨hi, hz0, hz1, hz2⟩
  have HR : Hid (IRow w a fs) := hrow
  have HN : Hid (fs.length = N) := hN
  have HF : Hid (∀ i, 0 ≤ fs.getD i 0 ∧ fs.getD i 0 ≤ 1099511627776) := hf
  have HSO : Hid (SortsTo (comes fs N).length) := hsort
  clear hrow hf hsort hN hi hz0 hz1 hz2
  have H0 : Hid (SingSt w (w.alloc (.cells #[.slice (some ⟨L, 0, none⟩) N N] 44)) L N w.heap.size fs 0 [] (.slice none 0 0)) :=
    ⟨rfl, World.ownsRow_nil _ _ _ _, ⟨by simp, by simp [Value.ownBlock]⟩, by simp, (Below.refl _ _).alloc (Nat.le_refl _) _⟩
  go_enter Tryd.func76, Tryd.ntmps76
  go_wp2
  go_loopw [5, 6, 7, 10] (fun v5 _ _ v10 wr => ∃ (j : Nat) (l : List PT) (V : Value), V = v5 ∧ v10 = .int .i64 j ∧ j ≤ N ∧ Hid (SingSt w wr L N w.heap.size fs j l V)) (fun _ _ _ v10 _ => N - (intOf v10).toNat)
  case atStart => exact ⟨0, [], _, rfl, rfl, by omega, H0⟩
  case round =>
    obtain ⟨j, l, V, rfl, rfl, hj, HS⟩ := hrel
    by_cases hlt : j < N
    · have hlti : (j : Int) < (N : Int) := by omega
      obtain ⟨b, off, rfl, hcell, hb⟩ := (HR.out.below HS.out.bel).at (show j < fs.length by rw [HN.out]; exact hlt)
      obtain ⟨F, hF⟩ : ∃ F : Nat, fs.getD j 0 = (F : Int) := ⟨(fs.getD j 0).toNat, by have := (HF.out j).1; omega⟩
      have HFF : Hid (fs.getD j 0 = (F : Int)) := hF
      have hF2 : F ≤ 1099511627776 := by have := (HF.out j).2; omega
      rw [hF] at hcell
      have hcell2 : (wr.alloc (.cells #[.int .i64 (j : Int)] 3)).cell? ⟨b, off + j, none⟩ = some (.int .i64 (F : Int)) := by rw [World.cell?_alloc_past _ _ _ hb]; exact hcell
      clear hF hb
      have hll : l.length ≤ 288 := by rw [HS.out.leaves.length]; exact Nat.le_trans (comes_length_le fs j) (by omega)
      have HL2 : Hid (l.length ≤ 288) := hll
      by_cases h0 : 0 < F
      · have h0i : (0 : Int) < (F : Int) := by omega
        have HO : Hid (∀ o1 o2, ((wr.alloc o1).alloc o2).ownsRow w.heap.size 133 2 V l.length (pcs l) ∧ w.heap.size ≤ ((wr.alloc o1).alloc o2).heap.size) := fun o1 o2 => ⟨(HS.out.own.alloc o1).alloc o2, by have := HS.out.bel.size; simp; omega⟩
        obtain ⟨u, hu⟩ : ∃ u, PT.leaf j F w.heap.size wr.heap.size = u := ⟨_, rfl⟩
        have hu1 : (F : Int) = ((u.wt : Nat) : Int) := by rw [← hu]; rfl
        have hu2 : Value.func (.func 84) #[] #[.pointer (some ⟨w.heap.size, 0, none⟩), .pointer (some ⟨wr.heap.size, 0, none⟩)] = u.fv := by rw [← hu]; rfl
        have HU : Hid (PT.leaf j F w.heap.size wr.heap.size = u ∧ (F : Int) = ((u.wt : Nat) : Int) ∧ Value.func (.func 84) #[] #[.pointer (some ⟨w.heap.size, 0, none⟩), .pointer (some ⟨wr.heap.size, 0, none⟩)] = u.fv) := ⟨hu, hu1, hu2⟩
        clear hu hu1 hu2
        go_wp2_with (at_builtin; refine wpList_append_lies _ rfl _ _ 129 rfl w.heap.size 133 i0 (.agg #[.int .i64 0, .nilFunc]) 2 16 Tryd.underlying129 HI.out.1 HI.out.2.1 HI.out.2.2.1 HI.out.2.2.2 rfl (by decide) V l.length (pcs l) rfl (HO.out _ _).1 ⟨wr.heap.size + 1, 0, none⟩ 1 1 [.int .i64 (F : Int), .func (.func 84) #[] #[.pointer (some ⟨w.heap.size, 0, none⟩), .pointer (some ⟨wr.heap.size, 0, none⟩)]] rfl rfl ?c1 ?c2 (by decide) ?c3 ?c4 (HO.out _ _).2 _ rfl ?_)
        case c1 => rw [show wr.heap.size + 1 = (wr.alloc (.cells #[.int .i64 (j : Int)] 3)).heap.size by simp]; exact news2 _ _ _ _
        case c2 => intro u hu; simp only [List.mem_cons, List.not_mem_nil, or_false] at hu; rcases hu with rfl | rfl <;> rfl
        case c3 => have := HL2.out; unfold maxLen; omega
        case c4 => have := HL2.out; omega
        intro g cap w1 hown hgrow hat hgl
        have H2 : Hid (SingSt w w1 L N w.heap.size fs (j + 1) (l ++ [u]) (.slice (some ⟨g, 0, none⟩) (l.length + 1) cap)) := by
          have hG := HFF.out
          have hG2 : (fs.getD j 0).toNat = F := by omega
          rw [← HU.out.1, ← hG2]
          refine HS.out.more (by omega) hlt hL ?_ ?_ hgrow (by simpa using hat)
          · simp
          · rw [hG2, HU.out.1, ← HU.out.2.1, ← HU.out.2.2]; exact hown
        clear hown hgrow hat
        go_wp2
        exact ⟨⟨j + 1, _, _, rfl, by go_num, by omega, H2⟩, by simp [intOf]; omega⟩
      · have h0i : ¬ (0 : Int) < (F : Int) := by omega
        have H2 : Hid (SingSt w (wr.alloc (.cells #[.int .i64 (j : Int)] 3)) L N w.heap.size fs (j + 1) l V) := HS.out.skip ((Below.refl _ _).alloc (Nat.le_refl _) _) (by rw [HFF.out]; exact h0i)
        go_wp2
        exact ⟨⟨j + 1, _, _, rfl, by go_num, by omega, H2⟩, by simp [intOf]; omega⟩
    · obtain rfl : j = N := by omega
      have hll := HS.out.leaves.length
      rcases HS.out.own.2 with ⟨hv, h0⟩ | ⟨g, cap, cur, hv, hB, hh, hle, hm, _⟩
      · subst hv
        have hl0 : l = [] := List.eq_nil_of_length_eq_zero h0
        go_wp2_with fail
        refine (sort_nil _).mono ?_
        rintro e w1 ⟨rfl, hw⟩
        obtain rfl := hw.symm
        go_wp2
        go_ret
        exact ⟨_, [], rfl, .inl ⟨rfl, rfl⟩, by simp [Asc], ⟨l, HS.out.leaves, by rw [hl0]⟩, by simp, HS.out.bel⟩
      · subst hv
        obtain ⟨M, hM⟩ : ∃ M, l.length = M := ⟨_, rfl⟩
        have hown := HS.out.own
        have hst : SortSt wr g 0 M l.toArray l.toArray wr :=
          ⟨⟨PT.enc_length, PT.enc_one, row_holds hown, lt_heap hh⟩, by simpa using hM, by simpa using hM, permIn_refl _ _ _, SWK.start (row_holds hown)⟩
        have hso := fun _ : Unit => HSO.out g 0 cap l.toArray wr (by rw [← hll, hM]; exact hst)
        rw [← hll, hM] at hso
        have HSS : Hid _ := hso
        have HX : Hid (l.length = M ∧ g < wr.heap.size ∧ w.heap.size ≤ g ∧ M ≤ cap ∧ cap ≤ 9223372036854775807) := ⟨hM, lt_heap hh, hB, by rw [← hM]; exact hle, by unfold maxLen at hm; exact hm⟩
        rw [hM]
        clear hso hst hown hh hle hm hll hM
        go_wp2_with fail
        refine (HSS.out ()).mono ?_
        rintro e w1 ⟨rfl, d1, hs1, hso1⟩
        have HE : Hid (SingEnd w L j fs (.returned (.slice (some ⟨g, 0, none⟩) M cap)) w1) := by
          obtain ⟨q1, q2, q3, q4, q5⟩ := HX.out
          have hp : d1.toList.Perm l := by
            have := perm_of_permIn (by simpa using q1) hs1.perm
            simpa using this
          have hlen : d1.toList.length = M := by simpa using hs1.size
          have hblw : Below w.heap.size w w1 := HS.out.bel.trans (swk_other hs1.swk q2 q3)
          refine ⟨.slice (some ⟨g, 0, none⟩) M cap, d1.toList, rfl, .inr ⟨g, cap, by rw [hlen], hs1.swk.lt q2, by rw [hlen]; exact q4, q5, holds_row (hs1.swk.holds q2 hs1.row.hH (by rw [hs1.size, hs1.size0]))⟩, asc_of_sorted (by rw [hs1.size]; exact hso1), ⟨l, HS.out.leaves, hp⟩, fun t ht => ?_, hblw⟩
          · obtain ⟨s, f, y, rfl, h1, h2, h3, h4⟩ := HS.out.laid t (hp.mem_iff.1 ht)
            have hX := HS.out.xlens
            have ho : ∀ k, (Value.slice (some ⟨g, 0, none⟩) l.length cap).ownBlock ≠ some k → k ≠ g := fun k h e => h (by rw [e]; simp [Value.ownBlock])
            exact .leaf h1 (by omega) h2 (swk_cell hs1.swk (ho _ hX.2) hX.1) (swk_cell hs1.swk (ho _ h4) h3)
        clear hs1 hso1
        go_wp2
        go_ret
        exact HE.out
end Go.Proofs.YtbcflkdaeboflaaDoor
namespace Go.Proofs.YtbcflkdaeboflaaDoor
open Go.RowKit PT Go.Sort
set_option linter.unusedVariables false
set_option maxRecDepth 20000

theorem getD_in {α : Type} {fs : List α} {z : α} {i : Nat} (hi : i < fs.length) : fs.getD i z = fs[i] := by
  rw [List.getD_eq_getElem?_getD, List.getElem?_eq_getElem hi]; rfl
theorem getD_out {α : Type} {fs : List α} {z : α} {i : Nat} (hi : fs.length ≤ i) : fs.getD i z = z := by
  rw [List.getD_eq_getElem?_getD, List.getElem?_eq_none hi]; rfl
def okF (fs : List Int) : Bool := fs.all fun f => decide (0 ≤ f) && decide (f ≤ 1099511627776)
theorem okF_get {fs : List Int} (h : okF fs = true) (i : Nat) : 0 ≤ fs.getD i 0 ∧ fs.getD i 0 ≤ 1099511627776 := by
  unfold okF at h
  rw [List.all_eq_true] at h
  rcases Nat.lt_or_ge i fs.length with hi | hi
  · have := h (fs.getD i 0) (by rw [getD_in hi]; exact List.getElem_mem hi)
    simpa using this
  · rw [getD_out hi]; omega

theorem getD_take_all {fs : List Int} {j : Nat} (hj : j < fs.length) : (fs.take (j + 1)).all (fun f => decide (0 ≤ f) && decide (f ≤ 1099511627776)) = ((fs.take j).all (fun f => decide (0 ≤ f) && decide (f ≤ 1099511627776)) && (decide (0 ≤ fs.getD j 0) && decide (fs.getD j 0 ≤ 1099511627776))) := by
  rw [List.take_succ_eq_append_getElem hj, List.all_append, getD_in hj]
  simp

set_option maxRecDepth 20000 in
theorem areFreqs_ok (fs : List Int) (a : Option Addr) (c N : Nat) (w : World) (hN : fs.length = N) (hrow : IRow w a fs) (hlen : N ≤ 9223372036854775807) :
    Calls Tryd.prog 75 #[.slice a N c] w fun e w' => e = .returned (.bool (okF fs)) ∧ w' = w := by
  have HR : Hid (IRow w a fs) := hrow
  have HN : Hid (fs.length = N) := hN
  clear hrow hN
  go_enter Tryd.func75, Tryd.ntmps75
  go_wp2
  go_loop [4, 7] (fun _ v7 => ∃ (j : Nat), v7 = .int .i64 j ∧ j ≤ N ∧ Hid (okF (fs.take j) = true)) (fun _ v7 => N - (intOf v7).toNat)
  case atStart => exact ⟨0, rfl, by omega, rfl⟩
  case round =>
    obtain ⟨j, rfl, hj, HS⟩ := hrel
    by_cases hlt : j < N
    · have hlti : (j : Int) < (N : Int) := by omega
      obtain ⟨b, off, rfl, hcell, _⟩ := HR.out.at (show j < fs.length by rw [HN.out]; exact hlt)
      obtain ⟨F, hF⟩ : ∃ F, fs.getD j 0 = F := ⟨_, rfl⟩
      have hstep := getD_take_all (fs := fs) (show j < fs.length by rw [HN.out]; exact hlt)
      rw [hF] at hcell hstep
      have HT : Hid _ := hstep
      clear hstep hF
      by_cases h0 : F < 0
      · have hbad : Hid (okF fs = false) := by
          show _ = _
          have : okF (fs.take (j + 1)) = false := by unfold okF; rw [HT.out]; simp [show ¬ 0 ≤ F by omega]
          cases e : okF fs with
          | false => rfl
          | true =>
            unfold okF at e this
            rw [List.all_eq_true] at e
            rw [List.all_eq_false] at this
            obtain ⟨x, hx, hb⟩ := this
            exact absurd (e x (List.mem_of_mem_take hx)) hb
        go_wp2
        go_ret
        exact ⟨by rw [hbad.out]; rfl, rfl⟩
      · by_cases h1 : 1099511627776 < F
        · have hbad : Hid (okF fs = false) := by
            show _ = _
            have : okF (fs.take (j + 1)) = false := by unfold okF; rw [HT.out]; simp [show ¬ F ≤ 1099511627776 by omega]
            cases e : okF fs with
            | false => rfl
            | true =>
              unfold okF at e this
              rw [List.all_eq_true] at e
              rw [List.all_eq_false] at this
              obtain ⟨x, hx, hb⟩ := this
              exact absurd (e x (List.mem_of_mem_take hx)) hb
          go_wp2
          go_ret
          exact ⟨by rw [hbad.out]; rfl, rfl⟩
        · have H2 : Hid (okF (fs.take (j + 1)) = true) := by
            show _ = _
            have := HS.out
            unfold okF at this ⊢
            rw [HT.out, this]
            simp; omega
          go_wp2
          exact ⟨⟨j + 1, by go_num, by omega, H2⟩, by simp [intOf]; omega⟩
    · obtain rfl : j = N := by omega
      have hall : Hid (okF fs = true) := by
        have := HS.out
        rw [List.take_of_length_le (by rw [HN.out]; exact Nat.le_refl _)] at this
        exact this
      go_wp2
      go_ret
      exact ⟨by rw [hall.out]; rfl, rfl⟩

theorem intInfo : (Tryd.prog.info? 3).map (fun i => (i.zero, i.size, i.bytes)) = some (some (.int .i64 0), 1, 8) := by kernel_rfl
theorem made_zero (w : World) (N : Nat) : LB (w.alloc (.cells (madeCells #[.int .i64 0] N) 3)) w.heap.size N (fun _ => 0) := by
  unfold LB
  rw [heap_alloc_new]
  congr 2
  apply Array.ext'
  rw [toList_madeCells_one]
  unfold lcells
  apply List.ext_getElem
  · simp
  · intro i h1 h2; simp
theorem row_apart {w : World} {g o L N : Nat} {t : PT} {l : List PT} {c : Nat → Nat} (h : PRow w g o (t :: l)) (hl : LB w L N c) : g ≠ L := by
  rintro rfl
  have h1 := h.cons.2.1
  rcases Nat.lt_or_ge (o + 1) N with hi | hi
  · rw [(hl.cell hi).1] at h1; cases h1
  · unfold LB at hl
    simp [World.cell?, hl, lcells, Nat.not_lt.2 hi] at h1

theorem PRow.kp {w w' : World} {g o L : Nat} {l : List PT} (h : PRow w g o l) (hk : Kp L w w') (hg : g ≠ L) : PRow w' g o l := fun i t ht => by
  rw [hk.cell hg, hk.cell hg]; exact h i t ht
theorem LB.below {w w' : World} {L N : Nat} {c : Nat → Nat} (h : LB w L N c) (hb : Below w.heap.size w w') : LB w' L N c := (hb.block L (lt_heap h)).trans h
theorem cntL_take_succ {l : List PT} {j : Nat} {t : PT} (h : l[j]? = some t) (i : Nat) : cntL i (l.take (j + 1)) = cntL i (l.take j) + t.cnt i := by
  have hj : j < l.length := by
    rcases Nat.lt_or_ge j l.length with h' | h'
    · exact h'
    · rw [List.getElem?_eq_none h'] at h; cases h
  rw [List.take_succ_eq_append_getElem hj, cntL_append]
  rw [List.getElem?_eq_getElem hj] at h
  rw [Option.some.inj h]
  simp [cntL]

/-- What lengthens the words, in memory. -/
structure LenSt (w wr : World) (L N g o : Nat) (l : List PT) (j : Nat) : Prop where
  lb : LB wr L N (fun i => cntL i (l.take j))
  row : PRow wr g o l
  laid : ∀ t ∈ l, Laid wr L N t
  bel : Below w.heap.size w wr
  new : w.heap.size ≤ L
theorem LenSt.step {w wr w' : World} {L N g o j : Nat} {l : List PT} {t : PT} {ob : Obj} (h : LenSt w wr L N g o l j) (ht : l[j]? = some t) (hb : ∀ i, cntL i l < 4611686018427387904) :
    Calls Tryd.prog t.fn t.cap (wr.alloc ob) fun e w' => e = .returned (.tuple #[]) ∧ LenSt w w' L N g o l (j + 1) := by
  have hal : Below wr.heap.size wr (wr.alloc ob) := (Below.refl _ _).alloc (Nat.le_refl _) _
  have hm : t ∈ l := List.mem_of_getElem? ht
  refine (lengthen L N t (wr.alloc ob) _ ((h.laid t hm).below hal) (h.lb.below hal) (fun i => ?_)).mono ?_
  · rw [← cntL_take_succ ht]
    refine Nat.lt_of_le_of_lt ?_ (hb i)
    conv => rhs; rw [← List.take_append_drop (j + 1) l]
    rw [cntL_append]; omega
  · rintro e w2 ⟨rfl, h1, h2⟩
    have hne : g ≠ L := by
      cases hl : l with
      | nil => rw [hl] at ht; simp at ht
      | cons u r => exact row_apart (by rw [← hl]; exact h.row) h.lb
    refine ⟨rfl, ⟨h1.congr (fun i _ => (cntL_take_succ ht i).symm), (PRow.below h.row hal ?_).kp h2 hne, fun u hu => ((h.laid u hu).below hal).kp h2, (h.bel.trans (hal.mono h.bel.size)).trans (h2.below h.new), h.new⟩⟩
    exact lt_cell (h.row j t ht).1

/-- What Lengths tells. -/
def LensEnd (w : World) (fs : List Int) (most : Int) (e : Ending) (w' : World) : Prop :=
  (fs.length ≤ 288 ∧ okF fs = true ∧ 1 ≤ most ∧ most ≤ 15 ∧ (comes fs fs.length).length ≤ 2 ^ most.toNat ∧
    ∃ L c S l, e = .returned (.tuple #[.slice (some ⟨L, 0, none⟩) fs.length fs.length, .int .i64 0]) ∧ LB w' L fs.length c ∧ w.heap.size ≤ L ∧ Below w.heap.size w w' ∧
      Asc S ∧ Leaves fs (comes fs fs.length) l ∧ S.Perm l ∧
      ((S.length ≤ 1 ∧ c = fun i => cntL i S) ∨ (2 ≤ S.length ∧ ∃ r, Lev S (most.toNat - 1) r ∧ 2 * S.length - 2 ≤ r.length ∧ c = fun i => cntL i (r.take (2 * S.length - 2))))) ∨
  (¬ (fs.length ≤ 288 ∧ okF fs = true ∧ 1 ≤ most ∧ most ≤ 15 ∧ (comes fs fs.length).length ≤ 2 ^ most.toNat) ∧ e = .returned (.tuple #[.slice none 0 0, .int .i64 1]) ∧ Below w.heap.size w w')
end Go.Proofs.YtbcflkdaeboflaaDoor
namespace Go.Proofs.YtbcflkdaeboflaaDoor
open Go.RowKit
set_option linter.unusedVariables false
set_option maxRecDepth 20000

/-- How many of the first n lengths are l. -/
def lcnt (lens : List Nat) (l : Nat) : Nat → Nat
  | 0 => 0
  | n + 1 => lcnt lens l n + (if lens.getD n 0 = l then 1 else 0)
theorem lcnt_mono (lens : List Nat) (l n m : Nat) (h : n ≤ m) : lcnt lens l n ≤ lcnt lens l m := by
  induction m with
  | zero => rw [show n = 0 by omega]; exact Nat.le_refl _
  | succ m ih =>
    by_cases e : n = m + 1
    · rw [e]; exact Nat.le_refl _
    · simp only [lcnt]
      have := ih (by omega)
      omega
theorem lcnt_lt (lens : List Nat) (l i n : Nat) (hi : i < n) (h : lens.getD i 0 = l) : lcnt lens l i < lcnt lens l n := by
  have h1 : lcnt lens l (i + 1) = lcnt lens l i + 1 := by simp only [lcnt]; rw [if_pos h]
  have h2 := lcnt_mono lens l (i + 1) n (by omega)
  omega
/-- The first word of a length: twice what comes behind the last word of the length below; a symbol of length 0 has none. -/
def fstW (lens : List Nat) : Nat → Nat
  | 0 => 0
  | 1 => 0
  | l + 2 => 2 * (fstW lens (l + 1) + lcnt lens (l + 1) lens.length)
def endW (lens : List Nat) (l : Nat) : Nat := fstW lens l + lcnt lens l lens.length
theorem fstW_succ (lens : List Nat) (l : Nat) (h : 1 ≤ l) : fstW lens (l + 1) = 2 * endW lens l := by
  obtain ⟨k, rfl⟩ : ∃ k, l = k + 1 := ⟨l - 1, by omega⟩
  rfl
/-- The word of a symbol. -/
def codeW (lens : List Nat) (i : Nat) : Nat := fstW lens (lens.getD i 0) + lcnt lens (lens.getD i 0) i
/-- The share of the lengths 1 to l, in parts of 2^15. -/
def shareTo (lens : List Nat) : Nat → Nat
  | 0 => 0
  | l + 1 => shareTo lens l + lcnt lens (l + 1) lens.length * 2 ^ (15 - (l + 1))
theorem endW_share (lens : List Nat) (l : Nat) (h : l + 1 ≤ 15) : endW lens (l + 1) * 2 ^ (15 - (l + 1)) = shareTo lens (l + 1) := by
  induction l with
  | zero => simp [endW, fstW, shareTo]
  | succ l ih =>
    have e := ih (by omega)
    simp only [shareTo] at e ⊢
    rw [← e]
    show (fstW lens (l + 1 + 1) + lcnt lens (l + 1 + 1) lens.length) * _ = _
    rw [fstW_succ lens (l + 1) (by omega), Nat.add_mul]
    congr 1
    rw [show 15 - (l + 1) = (15 - (l + 1 + 1)) + 1 by omega, Nat.pow_succ, Nat.mul_comm 2, Nat.mul_assoc, Nat.mul_comm 2]
theorem shareTo_mono (lens : List Nat) (l m : Nat) (h : l ≤ m) : shareTo lens l ≤ shareTo lens m := by
  induction m with
  | zero => rw [show l = 0 by omega]; exact Nat.le_refl _
  | succ m ih =>
    by_cases e : l = m + 1
    · rw [e]; exact Nat.le_refl _
    · simp only [shareTo]
      have := ih (by omega)
      omega
theorem endW_le (lens : List Nat) (l : Nat) (h1 : 1 ≤ l) (h2 : l ≤ 15) (hs : shareTo lens 15 ≤ 2 ^ 15) : endW lens l ≤ 2 ^ l := by
  obtain ⟨k, rfl⟩ : ∃ k, l = k + 1 := ⟨l - 1, by omega⟩
  have e := endW_share lens k h2
  have m := shareTo_mono lens (k + 1) 15 h2
  have hp : 2 ^ 15 = 2 ^ (k + 1) * 2 ^ (15 - (k + 1)) := by rw [← Nat.pow_add]; congr 1; omega
  have hpos : 0 < 2 ^ (15 - (k + 1)) := Nat.pos_of_ne_zero (by simp)
  refine Nat.le_of_mul_le_mul_right ?_ hpos
  rw [e, ← hp]
  omega
theorem fstW_above (lens : List Nat) (l d : Nat) (h1 : 1 ≤ l) : endW lens l * 2 ^ (d + 1) ≤ fstW lens (l + d + 1) := by
  induction d with
  | zero => rw [Nat.add_zero, fstW_succ lens l h1]; omega
  | succ d ih =>
    rw [show l + (d + 1) + 1 = (l + d + 1) + 1 by omega, fstW_succ lens (l + d + 1) (by omega), Nat.pow_succ, ← Nat.mul_assoc, Nat.mul_comm _ 2]
    have : fstW lens (l + d + 1) ≤ endW lens (l + d + 1) := Nat.le_add_right _ _
    omega
theorem codeW_end (lens : List Nat) (i : Nat) (hi : i < lens.length) : codeW lens i < endW lens (lens.getD i 0) := by
  have := lcnt_lt lens _ i lens.length hi rfl
  unfold codeW endW
  omega
/-- A word fits into its length. -/
theorem codeW_fits (lens : List Nat) (i : Nat) (hi : i < lens.length) (h1 : 1 ≤ lens.getD i 0) (h2 : lens.getD i 0 ≤ 15) (hs : shareTo lens 15 ≤ 2 ^ 15) : codeW lens i < 2 ^ lens.getD i 0 :=
  Nat.lt_of_lt_of_le (codeW_end lens i hi) (endW_le lens _ h1 h2 hs)
/-- No word begins another one. -/
theorem codeW_apart (lens : List Nat) (i k : Nat) (hi : i < lens.length) (hk : k < lens.length) (hne : i ≠ k) (h1 : 1 ≤ lens.getD i 0) (hle : lens.getD i 0 ≤ lens.getD k 0) :
    codeW lens k / 2 ^ (lens.getD k 0 - lens.getD i 0) ≠ codeW lens i := by
  by_cases he : lens.getD k 0 = lens.getD i 0
  · rw [he, Nat.sub_self, Nat.pow_zero, Nat.div_one]
    unfold codeW
    rw [he]
    intro e
    have e2 : lcnt lens (lens.getD i 0) k = lcnt lens (lens.getD i 0) i := by omega
    rcases Nat.lt_or_gt_of_ne hne with h | h
    · have := lcnt_lt lens (lens.getD i 0) i k h rfl
      omega
    · have := lcnt_lt lens (lens.getD i 0) k i h he
      omega
  · obtain ⟨d, hd⟩ : ∃ d, lens.getD k 0 = lens.getD i 0 + d + 1 := ⟨lens.getD k 0 - lens.getD i 0 - 1, by omega⟩
    have ha := fstW_above lens (lens.getD i 0) d h1
    have hc : fstW lens (lens.getD k 0) ≤ codeW lens k := Nat.le_add_right _ _
    rw [hd] at hc
    have hlt := codeW_end lens i hi
    have hge : endW lens (lens.getD i 0) ≤ codeW lens k / 2 ^ (lens.getD k 0 - lens.getD i 0) := by
      rw [Nat.le_div_iff_mul_le (Nat.pos_of_ne_zero (by simp)), hd, show lens.getD i 0 + d + 1 - lens.getD i 0 = d + 1 by omega]
      omega
    omega
end Go.Proofs.YtbcflkdaeboflaaDoor
