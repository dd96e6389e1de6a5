/- Packs by twos. -/
import Derived.Test.YtklipommocijaaaGb
import Derived.Laws.NewBlocks
namespace Go.Proofs.Ytklipommocijaaa
open Go.RowKit PT
set_option linter.unusedVariables false

/-- What the loop of pairs has: the first packs by twos. -/
structure PairsSt (w wr : World) (L n : Nat) (l done rest m : List PT) (v : Value) : Prop where
  all : l = done ++ rest
  even : done.length = 2 * m.length
  pairs : Pairs done m
  own : wr.ownsRow w.heap.size 57 2 v m.length (pcs m)
  laid : ∀ u ∈ m, ∃ s t x y, u = PT.node s t x y ∧ Laid w L n s ∧ Laid w L n t ∧ x ≠ L ∧ y ≠ L ∧ wr.cell? ⟨x, 1, none⟩ = some s.fv ∧ wr.cell? ⟨y, 1, none⟩ = some t.fv ∧ v.ownBlock ≠ some x ∧ v.ownBlock ≠ some y
  bel : Below w.heap.size w wr

theorem PairsSt.all_laid {w wr : World} {L n : Nat} {l done rest m : List PT} {v : Value} (h : PairsSt w wr L n l done rest m v) : ∀ t ∈ m, Laid wr L n t := fun u hu => by
  obtain ⟨s, t, x, y, rfl, h1, h2, h3, h4, h5, h6, _⟩ := h.laid u hu
  exact .node h3 h4 h5 h6 (h1.below h.bel) (h2.below h.bel)
theorem PairsSt.more {w wr V2 w1 : World} {L n x y g cap : Nat} {l done rest m : List PT} {s t : PT} {V : Value} {o : Obj} (h : PairsSt w wr L n l done (s :: t :: rest) m V)
    (hs : Laid w L n s) (ht : Laid w L n t) (hx : wr.heap.size ≤ x) (hy : wr.heap.size ≤ y) (hu : x ≠ L ∧ y ≠ L ∧ V2.cell? ⟨x, 1, none⟩ = some s.fv ∧ V2.cell? ⟨y, 1, none⟩ = some t.fv) (hbw : Below wr.heap.size wr V2)
    (hown : w1.ownsRow w.heap.size 57 2 (.slice (some ⟨g, 0, none⟩) (m.length + 1) cap) (m.length + 1) (pcs m ++ [.int .i64 ((PT.node s t x y).wt : Nat), (PT.node s t x y).fv]))
    (hgrow : (V2.alloc o).grownBy w1 V.ownBlock) (hat : V.ownBlock = some g ∨ g = (V2.alloc o).heap.size) :
    PairsSt w w1 L n l (done ++ [s, t]) rest (m ++ [PT.node s t x y]) (.slice (some ⟨g, 0, none⟩) (m.length + 1) cap) := by
  have hal : Below V2.heap.size V2 (V2.alloc o) := (Below.refl _ _).alloc (Nat.le_refl _) _
  have hbV : Below w.heap.size w V2 := h.bel.trans (hbw.mono h.bel.size)
  have hoV : (V2.alloc o).ownsRow w.heap.size 57 2 V m.length (pcs m) := (owns_below h.own hbw).alloc o
  have hbA : Below w.heap.size w (V2.alloc o) := hbV.trans (hal.mono hbV.size)
  have hb1 : Below w.heap.size w w1 := hbA.trans (below_grown hoV hgrow hbA.size)
  have keep : ∀ {k : Nat} {u : Value}, V2.cell? ⟨k, 1, none⟩ = some u → V.ownBlock ≠ some k → w1.cell? ⟨k, 1, none⟩ = some u := fun {k u} hc hk =>
    grown_cell hgrow (by rw [hal.cell (lt_cell hc)]; exact hc) hk
  have notnew : ∀ {k : Nat} {u : Value}, V2.cell? ⟨k, 1, none⟩ = some u → V.ownBlock ≠ some k → (Value.slice (some ⟨g, 0, none⟩) (m.length + 1) cap).ownBlock ≠ some k := fun {k u} hc hk e => by
    have e' : g = k := by simpa [Value.ownBlock] using e
    subst e'
    rcases hat with h' | h'
    · exact hk h'
    · have := lt_cell hc; simp at h'; omega
  obtain ⟨n1, n2, c1, c2⟩ := hu
  refine ⟨by rw [h.all]; simp, by have := h.even; simp; omega, ?_, ?_, ?_, hb1⟩
  · exact h.pairs.append h.even ⟨_, [], rfl, ⟨x, y, rfl⟩, rfl⟩
  · rw [pcs_append, List.length_append]; exact hown
  · intro u hu
    rcases List.mem_append.1 hu with hu | hu
    · obtain ⟨s', t', x', y', rfl, q1, q2, q3, q4, q5, q6, q7, q8⟩ := h.laid u hu
      have q5' : V2.cell? ⟨x', 1, none⟩ = some s'.fv := by rw [hbw.cell (lt_cell q5)]; exact q5
      have q6' : V2.cell? ⟨y', 1, none⟩ = some t'.fv := by rw [hbw.cell (lt_cell q6)]; exact q6
      exact ⟨s', t', x', y', rfl, q1, q2, q3, q4, keep q5' q7, keep q6' q8, notnew q5' q7, notnew q6' q8⟩
    · simp only [List.mem_cons, List.not_mem_nil, or_false] at hu
      subst hu
      have ox := own_lt h.own hx
      have oy := own_lt h.own hy
      exact ⟨s, t, x, y, rfl, hs, ht, n1, n2, keep c1 ox, keep c2 oy, notnew c1 ox, notnew c2 oy⟩

theorem wtL_le {l : List PT} {t : PT} (h : t ∈ l) : t.wt ≤ wtL l := by
  induction l with
  | nil => simp at h
  | cons u r ih =>
    rcases List.mem_cons.1 h with rfl | h
    · simp only [wtL]; omega
    · have := ih h; simp only [wtL]; omega

set_option maxRecDepth 20000 in
set_option maxHeartbeats 4000000 in
theorem pairs_ok (l : List PT) (L n b off c : Nat) (w : World) (hrow : PRow w b off l) (hlaid : ∀ t ∈ l, Laid w L n t) (hL : L < w.heap.size) (hb : b < w.heap.size) (hc : l.length ≤ c) (hlen : l.length ≤ 100000) (hc2 : c ≤ 9223372036854775807) (hwt : wtL l < 4611686018427387904) :
    Calls Try.prog 48 #[.slice (some ⟨b, off, none⟩) l.length c] w fun e w' =>
      ∃ v m, e = .returned v ∧ Pairs l m ∧ w'.ownsRow w.heap.size 57 2 v m.length (pcs m) ∧ (∀ t ∈ m, Laid w' L n t) ∧ Below w.heap.size w w' := by
  obtain ⟨i0, hi, hz0, hz1, hz2⟩ := info_split packInfo
  have HROW : Hid (PRow w b off l) := hrow
  have HLAID : Hid (∀ t ∈ l, Laid w L n t) := hlaid
  have HWT : Hid (wtL l < 4611686018427387904) := hwt
  have HI : Hid (Try.prog.info? 57 = some i0 ∧ i0.zero = some (.agg #[.int .i64 0, .nilFunc]) ∧ i0.size = 2 ∧ i0.bytes = 16) := ⟨hi, hz0, hz1, hz2⟩
  clear hrow hlaid hwt hi hz0 hz1 hz2
  go_enter Try.func48, Try.ntmps48
  go_wp2
  go_loopw [0, 3] (fun v0 v3 wr => ∃ (o' c' : Nat) (done rest m : List PT) (V : Value), V = v3 ∧ v0 = .slice (some ⟨b, o', none⟩) rest.length c' ∧ rest.length ≤ c' ∧ c' ≤ 9223372036854775807 ∧ Hid (PRow w b o' rest) ∧ Hid (PairsSt w wr L n l done rest m V)) (fun v0 _ _ => match v0 with | .slice _ k _ => k | _ => 0)
  case atStart => exact ⟨off, c, [], l, [], _, rfl, rfl, hc, hc2, HROW, ⟨rfl, rfl, rfl, World.ownsRow_nil _ _ _ _, by simp, Below.refl _ _⟩⟩
  case round =>
    obtain ⟨o', c', done, rest, m, V, rfl, rfl, hcc, hc2', HR, HS⟩ := hrel
    match rest, hcc, HR, HS with
    | [], hcc, HR, HS =>
      go_wp2
      go_ret
      exact ⟨V, m, rfl, by rw [HS.out.all]; simpa using HS.out.pairs, HS.out.own, HS.out.all_laid, HS.out.bel⟩
    | [t], hcc, HR, HS =>
      go_wp2
      go_ret
      refine ⟨V, m, rfl, ?_, HS.out.own, HS.out.all_laid, HS.out.bel⟩
      rw [HS.out.all]
      simpa using HS.out.pairs.append HS.out.even (show Pairs [t] [] from rfl)
    | s :: t :: rest, hcc, HR, HS =>
      obtain ⟨r1, r2, r3⟩ := HR.out.cons
      obtain ⟨r4, r5, r6⟩ := r3.cons
      have HR6 : Hid (PRow w b (o' + 2 + 2) rest) := r6
      have hbel := HS.out.bel
      have R1 : wr.cell? ⟨b, o', none⟩ = some (.int .i64 (s.wt : Nat)) := by rw [hbel.cell hb]; exact r1
      have R2 : wr.cell? ⟨b, o' + 1, none⟩ = some s.fv := by rw [hbel.cell hb]; exact r2
      have R4 : wr.cell? ⟨b, o' + 2, none⟩ = some (.int .i64 (t.wt : Nat)) := by rw [hbel.cell hb]; exact r4
      have R5 : wr.cell? ⟨b, o' + 2 + 1, none⟩ = some t.fv := by rw [hbel.cell hb]; exact r5
      clear r1 r2 r3 r4 r5 r6 hbel
      obtain ⟨k, hk⟩ : ∃ k, rest.length = k := ⟨_, rfl⟩
      have hlk : (s :: t :: rest).length = k + 2 := by simp [hk]
      have HK : Hid (rest.length = k) := hk
      rw [hlk]
      rw [hlk] at hcc
      clear hk hlk
      have HTG : Hid (∀ W, Below wr.heap.size wr W → Calls Try.prog 53 #[.agg #[.int .i64 (s.wt : Nat), s.fv], .agg #[.int .i64 (t.wt : Nat), t.fv]] W fun e w' => ∃ x y, e = .returned (.agg #[.int .i64 ((PT.node s t x y).wt : Nat), (PT.node s t x y).fv]) ∧ (x ≠ L ∧ y ≠ L ∧ w'.cell? ⟨x, 1, none⟩ = some s.fv ∧ w'.cell? ⟨y, 1, none⟩ = some t.fv) ∧ W.heap.size ≤ x ∧ W.heap.size ≤ y ∧ Below W.heap.size W w') := fun W hW => by
        have hst := HS.out.all
        have hs : s ∈ l := by rw [hst]; simp
        have ht : t ∈ l := by rw [hst]; simp
        have hb1 := HS.out.bel.trans (hW.mono HS.out.bel.size)
        have hwl : wtL l = wtL done + (s.wt + (t.wt + wtL rest)) := by rw [hst, wtL_append]; rfl
        exact together_ok s t L n W (by have := hb1.size; omega) (by have := HWT.out; omega)
      have hmk : m.length ≤ 100000 := by
        have h1 := HS.out.even; have h2 := HS.out.all; rw [h2] at hlen; simp at hlen; omega
      go_wp2_with fail
      go_region_held_law (fun w' => w'.cell? ⟨b, o', none⟩ = some (.int .i64 (s.wt : Nat)) ∧ w'.cell? ⟨b, o' + 1, none⟩ = some s.fv ∧ w'.cell? ⟨b, o' + 2, none⟩ = some (.int .i64 (t.wt : Nat)) ∧ w'.cell? ⟨b, o' + 2 + 1, none⟩ = some t.fv)
        (first | assumption | go_keep)
        (first
          | (go_at_call 53; refine (HTG.out _ ((Below.refl _ _).drew)).mono ?_; rintro e V2 ⟨x, y, rfl, hlx, hx1, hy1, hbx⟩; have hbw : Below wr.heap.size wr V2 := ⟨hbx.os, hbx.tape, hbx.output, hbx.size, hbx.block⟩; have hbr : b < wr.heap.size := Nat.lt_of_lt_of_le hb HS.out.bel.size; have hbr2 : b < V2.heap.size := Nat.lt_of_lt_of_le hbr hbw.size; have KS := (⟨by rw [hbw.cell hbr]; exact R1, by rw [hbw.cell hbr]; exact R2, by rw [hbw.cell hbr]; exact R4, by rw [hbw.cell hbr]; exact R5⟩ : V2.cell? ⟨b, o', none⟩ = some (.int .i64 (s.wt : Nat)) ∧ V2.cell? ⟨b, o' + 1, none⟩ = some s.fv ∧ V2.cell? ⟨b, o' + 2, none⟩ = some (.int .i64 (t.wt : Nat)) ∧ V2.cell? ⟨b, o' + 2 + 1, none⟩ = some t.fv); obtain ⟨u, hu⟩ : ∃ u, PT.node s t x y = u := ⟨_, rfl⟩; have HU : Hid (PT.node s t x y = u ∧ (x ≠ L ∧ y ≠ L ∧ V2.cell? ⟨x, 1, none⟩ = some s.fv ∧ V2.cell? ⟨y, 1, none⟩ = some t.fv) ∧ Below wr.heap.size wr V2 ∧ wr.heap.size ≤ x ∧ wr.heap.size ≤ y) := ⟨hu, hlx, hbw, hx1, hy1⟩; have HO : Hid (∀ o, (V2.alloc o).ownsRow w.heap.size 57 2 V m.length (pcs m) ∧ w.heap.size ≤ (V2.alloc o).heap.size) := (fun o => ⟨(owns_below HS.out.own hbw).alloc o, by have h1 := HS.out.bel.size; have h2 := hbw.size; simp; omega⟩); rw [hu]; have KS0 := (⟨by rw [World.cell?_alloc_past _ _ _ hbr2]; exact KS.1, by rw [World.cell?_alloc_past _ _ _ hbr2]; exact KS.2.1, by rw [World.cell?_alloc_past _ _ _ hbr2]; exact KS.2.2.1, by rw [World.cell?_alloc_past _ _ _ hbr2]; exact KS.2.2.2⟩ : (V2.alloc (.cells #[.int .i64 (u.wt : Nat), u.fv] 57)).cell? ⟨b, o', none⟩ = some (.int .i64 (s.wt : Nat)) ∧ (V2.alloc (.cells #[.int .i64 (u.wt : Nat), u.fv] 57)).cell? ⟨b, o' + 1, none⟩ = some s.fv ∧ (V2.alloc (.cells #[.int .i64 (u.wt : Nat), u.fv] 57)).cell? ⟨b, o' + 2, none⟩ = some (.int .i64 (t.wt : Nat)) ∧ (V2.alloc (.cells #[.int .i64 (u.wt : Nat), u.fv] 57)).cell? ⟨b, o' + 2 + 1, none⟩ = some t.fv); clear hu hlx hbx hbw hx1 hy1)
          | (refine step_append_lies _ rfl _ _ 53 rfl w.heap.size 57 i0 (.agg #[.int .i64 0, .nilFunc]) 2 16 Try.underlying53 HI.out.1 HI.out.2.1 HI.out.2.2.1 HI.out.2.2.2 rfl (by decide) V m.length (pcs m) rfl (HO.out _).1 ⟨_, 0, none⟩ 1 1 [.int .i64 (u.wt : Nat), u.fv] rfl rfl (news2 _ _ _ _) (one2 _ _) (by decide) (by unfold maxLen; omega) (by omega) (HO.out _).2 _ rfl ?_; intro g cap w1 hown hgrow hat hgl; have hbg := below_grown (HO.out _).1 hgrow (HO.out _).2; have KS1 := (⟨by rw [hbg.cell hb]; exact KS0.1, by rw [hbg.cell hb]; exact KS0.2.1, by rw [hbg.cell hb]; exact KS0.2.2.1, by rw [hbg.cell hb]; exact KS0.2.2.2⟩ : w1.cell? ⟨b, o', none⟩ = some (.int .i64 (s.wt : Nat)) ∧ w1.cell? ⟨b, o' + 1, none⟩ = some s.fv ∧ w1.cell? ⟨b, o' + 2, none⟩ = some (.int .i64 (t.wt : Nat)) ∧ w1.cell? ⟨b, o' + 2 + 1, none⟩ = some t.fv)))
      all_goals
        have H2 : Hid (PairsSt w w1 L n l (done ++ [s, t]) rest (m ++ [u]) (.slice (some ⟨g, 0, none⟩) (m.length + 1) cap)) := by
          obtain ⟨hu, h1, h2, h3, h4⟩ := HU.out
          have hst := HS.out.all
          subst hu
          exact HS.out.more (HLAID.out s (by rw [hst]; simp)) (HLAID.out t (by rw [hst]; simp)) h3 h4 h1 h2 hown hgrow hat
        have H3 : Hid (PRow w b (o' + 2 + 2) rest) := HR6
        clear hown hgrow hat hgl hbg KS1 KS0 KS
        have hlast : (m ++ [u]).length = m.length + 1 := by simp
        go_wp2
        refine ⟨?_, by simp⟩
        by_cases hc0 : c' = 2
        · have hr : rest = [] := List.eq_nil_of_length_eq_zero (by have := HK.out; omega)
          refine ⟨o', c' - 2, done ++ [s, t], rest, m ++ [u], _, rfl, ?_, by have := HK.out; omega, by omega, ?_, H2⟩
          · rw [if_pos hc0, HK.out]
          · rw [hr]; intro i t ht; simp at ht
        · refine ⟨o' + 4, c' - 2, done ++ [s, t], rest, m ++ [u], _, rfl, ?_, by have := HK.out; omega, by omega, H3, H2⟩
          rw [if_neg hc0, HK.out]
end Go.Proofs.Ytklipommocijaaa
