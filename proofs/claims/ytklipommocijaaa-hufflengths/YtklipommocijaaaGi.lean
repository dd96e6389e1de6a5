/- Packs of one symbol each, the rarest first: the function itself. -/
import Derived.Test.YtklipommocijaaaGh
namespace Go.Proofs.Ytklipommocijaaa
open Go.RowKit PT Go.Sort
set_option linter.unusedVariables false

def SingEnd (w : World) (L N : Nat) (fs : List Int) (e : Ending) (w' : World) : Prop :=
  ∃ v S, e = .returned v ∧ ((S = [] ∧ v = .slice none 0 0) ∨ ∃ g cap, v = .slice (some ⟨g, 0, none⟩) S.length cap ∧ g < w'.heap.size ∧ S.length ≤ cap ∧ cap ≤ 9223372036854775807 ∧ PRow w' g 0 S) ∧
    Asc S ∧ (∃ l, Leaves fs (comes fs N) l ∧ S.Perm l) ∧ (∀ t ∈ S, Laid w' L N t) ∧ Below w.heap.size w w'

theorem asc_of_sorted {d : Array PT} (h : SortedIn (ltOf cf) 0 d.size d) : Asc d.toList := by
  unfold Asc
  rw [List.pairwise_iff_getElem]
  intro i j hi hj hij
  have hi' : i < d.size := by simpa using hi
  have hj' : j < d.size := by simpa using hj
  have := h i j (by omega) hij hj'
  rw [cf_lt, getElem!_pos d i hi', getElem!_pos d j hj'] at this
  simp at this
  simpa using this
theorem perm_of_permIn {N : Nat} {d d' : Array PT} (hs : d.size = N) (h : PermIn 0 N d d') : d'.toList.Perm d.toList := by
  have := h.2.2
  rw [Array.extract_eq_self_of_le (by rw [h.1]; omega), Array.extract_eq_self_of_le (by omega)] at this
  exact this

set_option maxRecDepth 20000 in
set_option maxHeartbeats 4000000 in
theorem singlePacks_ok (fs : List Int) (a : Option Addr) (c L N : Nat) (w : World) (hN : fs.length = N) (hrow : IRow w a fs) (hL : L < w.heap.size) (hf : ∀ i, 0 ≤ fs.getD i 0 ∧ fs.getD i 0 ≤ 1099511627776) (hlen : N ≤ 288) (hsort : SortsTo (comes fs N).length) :
    Calls Try.prog 28 #[.slice a N c, .slice (some ⟨L, 0, none⟩) N N] w fun e w' => SingEnd w L N fs e w' := by
  obtain ⟨i0, hi, hz0, hz1, hz2⟩ := info_split packInfo
  have HI : Hid (Try.prog.info? 57 = some i0 ∧ i0.zero = some (.agg #[.int .i64 0, .nilFunc]) ∧ i0.size = 2 ∧ i0.bytes = 16) := ⟨hi, hz0, hz1, hz2⟩
  have HR : Hid (IRow w a fs) := hrow
  have HN : Hid (fs.length = N) := hN
  have HF : Hid (∀ i, 0 ≤ fs.getD i 0 ∧ fs.getD i 0 ≤ 1099511627776) := hf
  have HSO : Hid (SortsTo (comes fs N).length) := hsort
  clear hrow hf hsort hN hi hz0 hz1 hz2
  have H0 : Hid (SingSt w (w.alloc (.cells #[.slice (some ⟨L, 0, none⟩) N N] 22)) L N w.heap.size fs 0 [] (.slice none 0 0)) :=
    ⟨rfl, World.ownsRow_nil _ _ _ _, ⟨by simp, by simp [Value.ownBlock]⟩, by simp, (Below.refl _ _).alloc (Nat.le_refl _) _⟩
  go_enter Try.func28, Try.ntmps28
  go_wp2
  go_loopw [5, 6, 7, 10] (fun v5 _ _ v10 wr => ∃ (j : Nat) (l : List PT) (V : Value), V = v5 ∧ v10 = .int .i64 j ∧ j ≤ N ∧ Hid (SingSt w wr L N w.heap.size fs j l V)) (fun _ _ _ v10 _ => N - (intOf v10).toNat)
  case atStart => exact ⟨0, [], _, rfl, rfl, by omega, H0⟩
  case round =>
    obtain ⟨j, l, V, rfl, rfl, hj, HS⟩ := hrel
    by_cases hlt : j < N
    · have hlti : (j : Int) < (N : Int) := by omega
      obtain ⟨b, off, rfl, hcell, hb⟩ := (HR.out.below HS.out.bel).at (show j < fs.length by rw [HN.out]; exact hlt)
      obtain ⟨F, hF⟩ : ∃ F : Nat, fs.getD j 0 = (F : Int) := ⟨(fs.getD j 0).toNat, by have := (HF.out j).1; omega⟩
      have HFF : Hid (fs.getD j 0 = (F : Int)) := hF
      have hF2 : F ≤ 1099511627776 := by have := (HF.out j).2; omega
      rw [hF] at hcell
      have hcell2 : (wr.alloc (.cells #[.int .i64 (j : Int)] 3)).cell? ⟨b, off + j, none⟩ = some (.int .i64 (F : Int)) := by rw [World.cell?_alloc_past _ _ _ hb]; exact hcell
      clear hF hb
      have hll : l.length ≤ 288 := by rw [HS.out.leaves.length]; exact Nat.le_trans (comes_length_le fs j) (by omega)
      have HL2 : Hid (l.length ≤ 288) := hll
      by_cases h0 : 0 < F
      · have h0i : (0 : Int) < (F : Int) := by omega
        have HO : Hid (∀ o1 o2, ((wr.alloc o1).alloc o2).ownsRow w.heap.size 57 2 V l.length (pcs l) ∧ w.heap.size ≤ ((wr.alloc o1).alloc o2).heap.size) := fun o1 o2 => ⟨(HS.out.own.alloc o1).alloc o2, by have := HS.out.bel.size; simp; omega⟩
        obtain ⟨u, hu⟩ : ∃ u, PT.leaf j F w.heap.size wr.heap.size = u := ⟨_, rfl⟩
        have hu1 : (F : Int) = ((u.wt : Nat) : Int) := by rw [← hu]; rfl
        have hu2 : Value.func (.func 43) #[] #[.pointer (some ⟨w.heap.size, 0, none⟩), .pointer (some ⟨wr.heap.size, 0, none⟩)] = u.fv := by rw [← hu]; rfl
        have HU : Hid (PT.leaf j F w.heap.size wr.heap.size = u ∧ (F : Int) = ((u.wt : Nat) : Int) ∧ Value.func (.func 43) #[] #[.pointer (some ⟨w.heap.size, 0, none⟩), .pointer (some ⟨wr.heap.size, 0, none⟩)] = u.fv) := ⟨hu, hu1, hu2⟩
        clear hu hu1 hu2
        go_wp2_with (at_builtin; refine wpList_append_lies _ rfl _ _ 53 rfl w.heap.size 57 i0 (.agg #[.int .i64 0, .nilFunc]) 2 16 Try.underlying53 HI.out.1 HI.out.2.1 HI.out.2.2.1 HI.out.2.2.2 rfl (by decide) V l.length (pcs l) rfl (HO.out _ _).1 ⟨wr.heap.size + 1, 0, none⟩ 1 1 [.int .i64 (F : Int), .func (.func 43) #[] #[.pointer (some ⟨w.heap.size, 0, none⟩), .pointer (some ⟨wr.heap.size, 0, none⟩)]] rfl rfl ?c1 ?c2 (by decide) ?c3 ?c4 (HO.out _ _).2 _ rfl ?_)
        case c1 => rw [show wr.heap.size + 1 = (wr.alloc (.cells #[.int .i64 (j : Int)] 3)).heap.size by simp]; exact news2 _ _ _ _
        case c2 => intro u hu; simp only [List.mem_cons, List.not_mem_nil, or_false] at hu; rcases hu with rfl | rfl <;> rfl
        case c3 => have := HL2.out; unfold maxLen; omega
        case c4 => have := HL2.out; omega
        intro g cap w1 hown hgrow hat hgl
        have H2 : Hid (SingSt w w1 L N w.heap.size fs (j + 1) (l ++ [u]) (.slice (some ⟨g, 0, none⟩) (l.length + 1) cap)) := by
          have hG := HFF.out
          have hG2 : (fs.getD j 0).toNat = F := by omega
          rw [← HU.out.1, ← hG2]
          refine HS.out.more (by omega) hlt hL ?_ ?_ hgrow (by simpa using hat)
          · simp
          · rw [hG2, HU.out.1, ← HU.out.2.1, ← HU.out.2.2]; exact hown
        clear hown hgrow hat
        go_wp2
        exact ⟨⟨j + 1, _, _, rfl, by go_num, by omega, H2⟩, by simp [intOf]; omega⟩
      · have h0i : ¬ (0 : Int) < (F : Int) := by omega
        have H2 : Hid (SingSt w (wr.alloc (.cells #[.int .i64 (j : Int)] 3)) L N w.heap.size fs (j + 1) l V) := HS.out.skip ((Below.refl _ _).alloc (Nat.le_refl _) _) (by rw [HFF.out]; exact h0i)
        go_wp2
        exact ⟨⟨j + 1, _, _, rfl, by go_num, by omega, H2⟩, by simp [intOf]; omega⟩
    · obtain rfl : j = N := by omega
      have hll := HS.out.leaves.length
      rcases HS.out.own.2 with ⟨hv, h0⟩ | ⟨g, cap, cur, hv, hB, hh, hle, hm, _⟩
      · subst hv
        have hl0 : l = [] := List.eq_nil_of_length_eq_zero h0
        go_wp2_with fail
        refine (sort_nil _).mono ?_
        rintro e w1 ⟨rfl, hw⟩
        obtain rfl := hw.symm
        go_wp2
        go_ret
        exact ⟨_, [], rfl, .inl ⟨rfl, rfl⟩, by simp [Asc], ⟨l, HS.out.leaves, by rw [hl0]⟩, by simp, HS.out.bel⟩
      · subst hv
        obtain ⟨M, hM⟩ : ∃ M, l.length = M := ⟨_, rfl⟩
        have hown := HS.out.own
        have hst : SortSt wr g 0 M l.toArray l.toArray wr :=
          ⟨⟨PT.enc_length, PT.enc_one, row_holds hown, lt_heap hh⟩, by simpa using hM, by simpa using hM, permIn_refl _ _ _, SWK.start (row_holds hown)⟩
        have hso := fun _ : Unit => HSO.out g 0 cap l.toArray wr (by rw [← hll, hM]; exact hst)
        rw [← hll, hM] at hso
        have HSS : Hid _ := hso
        have HX : Hid (l.length = M ∧ g < wr.heap.size ∧ w.heap.size ≤ g ∧ M ≤ cap ∧ cap ≤ 9223372036854775807) := ⟨hM, lt_heap hh, hB, by rw [← hM]; exact hle, by unfold maxLen at hm; exact hm⟩
        rw [hM]
        clear hso hst hown hh hle hm hll hM
        go_wp2_with fail
        refine (HSS.out ()).mono ?_
        rintro e w1 ⟨rfl, d1, hs1, hso1⟩
        have HE : Hid (SingEnd w L j fs (.returned (.slice (some ⟨g, 0, none⟩) M cap)) w1) := by
          obtain ⟨q1, q2, q3, q4, q5⟩ := HX.out
          have hp : d1.toList.Perm l := by
            have := perm_of_permIn (by simpa using q1) hs1.perm
            simpa using this
          have hlen : d1.toList.length = M := by simpa using hs1.size
          have hblw : Below w.heap.size w w1 := HS.out.bel.trans (swk_other hs1.swk q2 q3)
          refine ⟨.slice (some ⟨g, 0, none⟩) M cap, d1.toList, rfl, .inr ⟨g, cap, by rw [hlen], hs1.swk.lt q2, by rw [hlen]; exact q4, q5, holds_row (hs1.swk.holds q2 hs1.row.hH (by rw [hs1.size, hs1.size0]))⟩, asc_of_sorted (by rw [hs1.size]; exact hso1), ⟨l, HS.out.leaves, hp⟩, fun t ht => ?_, hblw⟩
          · obtain ⟨s, f, y, rfl, h1, h2, h3, h4⟩ := HS.out.laid t (hp.mem_iff.1 ht)
            have hX := HS.out.xlens
            have ho : ∀ k, (Value.slice (some ⟨g, 0, none⟩) l.length cap).ownBlock ≠ some k → k ≠ g := fun k h e => h (by rw [e]; simp [Value.ownBlock])
            exact .leaf h1 (by omega) h2 (swk_cell hs1.swk (ho _ hX.2) hX.1) (swk_cell hs1.swk (ho _ h4) h3)
        clear hs1 hso1
        go_wp2
        go_ret
        exact HE.out
end Go.Proofs.Ytklipommocijaaa
