/- Packs by twos. -/
/- Two lists of packs as one. -/
import Derived.Test.YtbcflkdaeboflaaDoorV01
import Derived.Laws.NewBlocks
import Derived.BigQuiet
import Derived.Deep.QuietTactic
namespace Go.Proofs.YtbcflkdaeboflaaDoor
open Go.RowKit PT
set_option linter.unusedVariables false
set_option maxRecDepth 20000

/-- What the loop of pairs has: the first packs by twos. -/
structure PairsSt (w wr : World) (L n : Nat) (l done rest m : List PT) (v : Value) : Prop where
  all : l = done ++ rest
  even : done.length = 2 * m.length
  pairs : Pairs done m
  own : wr.ownsRow w.heap.size 133 2 v m.length (pcs m)
  laid : ∀ u ∈ m, ∃ s t x y, u = PT.node s t x y ∧ Laid w L n s ∧ Laid w L n t ∧ x ≠ L ∧ y ≠ L ∧ wr.cell? ⟨x, 1, none⟩ = some s.fv ∧ wr.cell? ⟨y, 1, none⟩ = some t.fv ∧ v.ownBlock ≠ some x ∧ v.ownBlock ≠ some y
  bel : Below w.heap.size w wr

theorem PairsSt.all_laid {w wr : World} {L n : Nat} {l done rest m : List PT} {v : Value} (h : PairsSt w wr L n l done rest m v) : ∀ t ∈ m, Laid wr L n t := fun u hu => by
  obtain ⟨s, t, x, y, rfl, h1, h2, h3, h4, h5, h6, _⟩ := h.laid u hu
  exact .node h3 h4 h5 h6 (h1.below h.bel) (h2.below h.bel)
theorem PairsSt.more {w wr V2 w1 : World} {L n x y g cap : Nat} {l done rest m : List PT} {s t : PT} {V : Value} {o : Obj} (h : PairsSt w wr L n l done (s :: t :: rest) m V)
    (hs : Laid w L n s) (ht : Laid w L n t) (hx : wr.heap.size ≤ x) (hy : wr.heap.size ≤ y) (hu : x ≠ L ∧ y ≠ L ∧ V2.cell? ⟨x, 1, none⟩ = some s.fv ∧ V2.cell? ⟨y, 1, none⟩ = some t.fv) (hbw : Below wr.heap.size wr V2)
    (hown : w1.ownsRow w.heap.size 133 2 (.slice (some ⟨g, 0, none⟩) (m.length + 1) cap) (m.length + 1) (pcs m ++ [.int .i64 ((PT.node s t x y).wt : Nat), (PT.node s t x y).fv]))
    (hgrow : (V2.alloc o).grownBy w1 V.ownBlock) (hat : V.ownBlock = some g ∨ g = (V2.alloc o).heap.size) :
    PairsSt w w1 L n l (done ++ [s, t]) rest (m ++ [PT.node s t x y]) (.slice (some ⟨g, 0, none⟩) (m.length + 1) cap) := by
  have hal : Below V2.heap.size V2 (V2.alloc o) := (Below.refl _ _).alloc (Nat.le_refl _) _
  have hbV : Below w.heap.size w V2 := h.bel.trans (hbw.mono h.bel.size)
  have hoV : (V2.alloc o).ownsRow w.heap.size 133 2 V m.length (pcs m) := (owns_below h.own hbw).alloc o
  have hbA : Below w.heap.size w (V2.alloc o) := hbV.trans (hal.mono hbV.size)
  have hb1 : Below w.heap.size w w1 := hbA.trans (below_grown hoV hgrow hbA.size)
  have keep : ∀ {k : Nat} {u : Value}, V2.cell? ⟨k, 1, none⟩ = some u → V.ownBlock ≠ some k → w1.cell? ⟨k, 1, none⟩ = some u := fun {k u} hc hk =>
    grown_cell hgrow (by rw [hal.cell (lt_cell hc)]; exact hc) hk
  have notnew : ∀ {k : Nat} {u : Value}, V2.cell? ⟨k, 1, none⟩ = some u → V.ownBlock ≠ some k → (Value.slice (some ⟨g, 0, none⟩) (m.length + 1) cap).ownBlock ≠ some k := fun {k u} hc hk e => by
    have e' : g = k := by simpa [Value.ownBlock] using e
    subst e'
    rcases hat with h' | h'
    · exact hk h'
    · have := lt_cell hc; simp at h'; omega
  obtain ⟨n1, n2, c1, c2⟩ := hu
  refine ⟨by rw [h.all]; simp, by have := h.even; simp; omega, ?_, ?_, ?_, hb1⟩
  · exact h.pairs.append h.even ⟨_, [], rfl, ⟨x, y, rfl⟩, rfl⟩
  · rw [pcs_append, List.length_append]; exact hown
  · intro u hu
    rcases List.mem_append.1 hu with hu | hu
    · obtain ⟨s', t', x', y', rfl, q1, q2, q3, q4, q5, q6, q7, q8⟩ := h.laid u hu
      have q5' : V2.cell? ⟨x', 1, none⟩ = some s'.fv := by rw [hbw.cell (lt_cell q5)]; exact q5
      have q6' : V2.cell? ⟨y', 1, none⟩ = some t'.fv := by rw [hbw.cell (lt_cell q6)]; exact q6
      exact ⟨s', t', x', y', rfl, q1, q2, q3, q4, keep q5' q7, keep q6' q8, notnew q5' q7, notnew q6' q8⟩
    · simp only [List.mem_cons, List.not_mem_nil, or_false] at hu
      subst hu
      have ox := own_lt h.own hx
      have oy := own_lt h.own hy
      exact ⟨s, t, x, y, rfl, hs, ht, n1, n2, keep c1 ox, keep c2 oy, notnew c1 ox, notnew c2 oy⟩

theorem wtL_le {l : List PT} {t : PT} (h : t ∈ l) : t.wt ≤ wtL l := by
  induction l with
  | nil => simp at h
  | cons u r ih =>
    rcases List.mem_cons.1 h with rfl | h
    · simp only [wtL]; omega
    · have := ih h; simp only [wtL]; omega

set_option maxRecDepth 20000 in
set_option maxHeartbeats 4000000 in
theorem pairs_ok (l : List PT) (L n b off c : Nat) (w : World) (hrow : PRow w b off l) (hlaid : ∀ t ∈ l, Laid w L n t) (hL : L < w.heap.size) (hb : b < w.heap.size) (hc : l.length ≤ c) (hlen : l.length ≤ 100000) (hc2 : c ≤ 9223372036854775807) (hwt : wtL l < 4611686018427387904) :
    Calls Tryd.prog 89 #[.slice (some ⟨b, off, none⟩) l.length c] w fun e w' =>
      ∃ v m, e = .returned v ∧ Pairs l m ∧ w'.ownsRow w.heap.size 133 2 v m.length (pcs m) ∧ (∀ t ∈ m, Laid w' L n t) ∧ Below w.heap.size w w' := by
  obtain ⟨i0, hi, hz0, hz1, hz2⟩ := info_split packInfo
  have HROW : Hid (PRow w b off l) := hrow
  have HLAID : Hid (∀ t ∈ l, Laid w L n t) := hlaid
  have HWT : Hid (wtL l < 4611686018427387904) := hwt
  have HI : Hid (Tryd.prog.info? 133 = some i0 ∧ i0.zero = some (.agg #[.int .i64 0, .nilFunc]) ∧ i0.size = 2 ∧ i0.bytes = 16) := ⟨hi, hz0, hz1, hz2⟩
  clear hrow hlaid hwt hi hz0 hz1 hz2
  go_enter Tryd.func89, Tryd.ntmps89
  go_wp2
  go_loopw [0, 3] (fun v0 v3 wr => ∃ (o' c' : Nat) (done rest m : List PT) (V : Value), V = v3 ∧ v0 = .slice (some ⟨b, o', none⟩) rest.length c' ∧ rest.length ≤ c' ∧ c' ≤ 9223372036854775807 ∧ Hid (PRow w b o' rest) ∧ Hid (PairsSt w wr L n l done rest m V)) (fun v0 _ _ => match v0 with | .slice _ k _ => k | _ => 0)
  case atStart => exact ⟨off, c, [], l, [], _, rfl, rfl, hc, hc2, HROW, ⟨rfl, rfl, rfl, World.ownsRow_nil _ _ _ _, by simp, Below.refl _ _⟩⟩
  case round =>
    obtain ⟨o', c', done, rest, m, V, rfl, rfl, hcc, hc2', HR, HS⟩ := hrel
    match rest, hcc, HR, HS with
    | [], hcc, HR, HS =>
      go_wp2
      go_ret
      exact ⟨V, m, rfl, by rw [HS.out.all]; simpa using HS.out.pairs, HS.out.own, HS.out.all_laid, HS.out.bel⟩
    | [t], hcc, HR, HS =>
      go_wp2
      go_ret
      refine ⟨V, m, rfl, ?_, HS.out.own, HS.out.all_laid, HS.out.bel⟩
      rw [HS.out.all]
      simpa using HS.out.pairs.append HS.out.even (show Pairs [t] [] from rfl)
    | s :: t :: rest, hcc, HR, HS =>
      obtain ⟨r1, r2, r3⟩ := HR.out.cons
      obtain ⟨r4, r5, r6⟩ := r3.cons
      have HR6 : Hid (PRow w b (o' + 2 + 2) rest) := r6
      have hbel := HS.out.bel
      have R1 : wr.cell? ⟨b, o', none⟩ = some (.int .i64 (s.wt : Nat)) := by rw [hbel.cell hb]; exact r1
      have R2 : wr.cell? ⟨b, o' + 1, none⟩ = some s.fv := by rw [hbel.cell hb]; exact r2
      have R4 : wr.cell? ⟨b, o' + 2, none⟩ = some (.int .i64 (t.wt : Nat)) := by rw [hbel.cell hb]; exact r4
      have R5 : wr.cell? ⟨b, o' + 2 + 1, none⟩ = some t.fv := by rw [hbel.cell hb]; exact r5
      clear r1 r2 r3 r4 r5 r6 hbel
      obtain ⟨k, hk⟩ : ∃ k, rest.length = k := ⟨_, rfl⟩
      have hlk : (s :: t :: rest).length = k + 2 := by simp [hk]
      have HK : Hid (rest.length = k) := hk
      rw [hlk]
      rw [hlk] at hcc
      clear hk hlk
      have HTG : Hid (∀ W, Below wr.heap.size wr W → Calls Tryd.prog 96 #[.agg #[.int .i64 (s.wt : Nat), s.fv], .agg #[.int .i64 (t.wt : Nat), t.fv]] W fun e w' => ∃ x y, e = .returned (.agg #[.int .i64 ((PT.node s t x y).wt : Nat), (PT.node s t x y).fv]) ∧ (x ≠ L ∧ y ≠ L ∧ w'.cell? ⟨x, 1, none⟩ = some s.fv ∧ w'.cell? ⟨y, 1, none⟩ = some t.fv) ∧ W.heap.size ≤ x ∧ W.heap.size ≤ y ∧ Below W.heap.size W w') := fun W hW => by
        have hst := HS.out.all
        have hs : s ∈ l := by rw [hst]; simp
        have ht : t ∈ l := by rw [hst]; simp
        have hb1 := HS.out.bel.trans (hW.mono HS.out.bel.size)
        have hwl : wtL l = wtL done + (s.wt + (t.wt + wtL rest)) := by rw [hst, wtL_append]; rfl
        exact together_ok s t L n W (by have := hb1.size; omega) (by have := HWT.out; omega)
      have hmk : m.length ≤ 100000 := by
        have h1 := HS.out.even; have h2 := HS.out.all; rw [h2] at hlen; simp at hlen; omega
      go_wp2_with fail
      go_region_held_law (fun w' => w'.cell? ⟨b, o', none⟩ = some (.int .i64 (s.wt : Nat)) ∧ w'.cell? ⟨b, o' + 1, none⟩ = some s.fv ∧ w'.cell? ⟨b, o' + 2, none⟩ = some (.int .i64 (t.wt : Nat)) ∧ w'.cell? ⟨b, o' + 2 + 1, none⟩ = some t.fv)
        (first | assumption | go_keep)
        (first
          | (go_at_call 96; refine (HTG.out _ ((Below.refl _ _).drew)).mono ?_; rintro e V2 ⟨x, y, rfl, hlx, hx1, hy1, hbx⟩; have hbw : Below wr.heap.size wr V2 := ⟨hbx.os, hbx.tape, hbx.output, hbx.size, hbx.block⟩; have hbr : b < wr.heap.size := Nat.lt_of_lt_of_le hb HS.out.bel.size; have hbr2 : b < V2.heap.size := Nat.lt_of_lt_of_le hbr hbw.size; have KS := (⟨by rw [hbw.cell hbr]; exact R1, by rw [hbw.cell hbr]; exact R2, by rw [hbw.cell hbr]; exact R4, by rw [hbw.cell hbr]; exact R5⟩ : V2.cell? ⟨b, o', none⟩ = some (.int .i64 (s.wt : Nat)) ∧ V2.cell? ⟨b, o' + 1, none⟩ = some s.fv ∧ V2.cell? ⟨b, o' + 2, none⟩ = some (.int .i64 (t.wt : Nat)) ∧ V2.cell? ⟨b, o' + 2 + 1, none⟩ = some t.fv); obtain ⟨u, hu⟩ : ∃ u, PT.node s t x y = u := ⟨_, rfl⟩; have HU : Hid (PT.node s t x y = u ∧ (x ≠ L ∧ y ≠ L ∧ V2.cell? ⟨x, 1, none⟩ = some s.fv ∧ V2.cell? ⟨y, 1, none⟩ = some t.fv) ∧ Below wr.heap.size wr V2 ∧ wr.heap.size ≤ x ∧ wr.heap.size ≤ y) := ⟨hu, hlx, hbw, hx1, hy1⟩; have HO : Hid (∀ o, (V2.alloc o).ownsRow w.heap.size 133 2 V m.length (pcs m) ∧ w.heap.size ≤ (V2.alloc o).heap.size) := (fun o => ⟨(owns_below HS.out.own hbw).alloc o, by have h1 := HS.out.bel.size; have h2 := hbw.size; simp; omega⟩); rw [hu]; have KS0 := (⟨by rw [World.cell?_alloc_past _ _ _ hbr2]; exact KS.1, by rw [World.cell?_alloc_past _ _ _ hbr2]; exact KS.2.1, by rw [World.cell?_alloc_past _ _ _ hbr2]; exact KS.2.2.1, by rw [World.cell?_alloc_past _ _ _ hbr2]; exact KS.2.2.2⟩ : (V2.alloc (.cells #[.int .i64 (u.wt : Nat), u.fv] 133)).cell? ⟨b, o', none⟩ = some (.int .i64 (s.wt : Nat)) ∧ (V2.alloc (.cells #[.int .i64 (u.wt : Nat), u.fv] 133)).cell? ⟨b, o' + 1, none⟩ = some s.fv ∧ (V2.alloc (.cells #[.int .i64 (u.wt : Nat), u.fv] 133)).cell? ⟨b, o' + 2, none⟩ = some (.int .i64 (t.wt : Nat)) ∧ (V2.alloc (.cells #[.int .i64 (u.wt : Nat), u.fv] 133)).cell? ⟨b, o' + 2 + 1, none⟩ = some t.fv); clear hu hlx hbx hbw hx1 hy1)
          | (refine step_append_lies _ rfl _ _ 129 rfl w.heap.size 133 i0 (.agg #[.int .i64 0, .nilFunc]) 2 16 Tryd.underlying129 HI.out.1 HI.out.2.1 HI.out.2.2.1 HI.out.2.2.2 rfl (by decide) V m.length (pcs m) rfl (HO.out _).1 ⟨_, 0, none⟩ 1 1 [.int .i64 (u.wt : Nat), u.fv] rfl rfl (news2 _ _ _ _) (one2 _ _) (by decide) (by unfold maxLen; omega) (by omega) (HO.out _).2 _ rfl ?_; intro g cap w1 hown hgrow hat hgl; have hbg := below_grown (HO.out _).1 hgrow (HO.out _).2; have KS1 := (⟨by rw [hbg.cell hb]; exact KS0.1, by rw [hbg.cell hb]; exact KS0.2.1, by rw [hbg.cell hb]; exact KS0.2.2.1, by rw [hbg.cell hb]; exact KS0.2.2.2⟩ : w1.cell? ⟨b, o', none⟩ = some (.int .i64 (s.wt : Nat)) ∧ w1.cell? ⟨b, o' + 1, none⟩ = some s.fv ∧ w1.cell? ⟨b, o' + 2, none⟩ = some (.int .i64 (t.wt : Nat)) ∧ w1.cell? ⟨b, o' + 2 + 1, none⟩ = some t.fv)))
      all_goals
        have H2 : Hid (PairsSt w w1 L n l (done ++ [s, t]) rest (m ++ [u]) (.slice (some ⟨g, 0, none⟩) (m.length + 1) cap)) := by
          obtain ⟨hu, h1, h2, h3, h4⟩ := HU.out
          have hst := HS.out.all
          subst hu
          exact HS.out.more (HLAID.out s (by rw [hst]; simp)) (HLAID.out t (by rw [hst]; simp)) h3 h4 h1 h2 hown hgrow hat
        have H3 : Hid (PRow w b (o' + 2 + 2) rest) := HR6
        clear hown hgrow hat hgl hbg KS1 KS0 KS
        have hlast : (m ++ [u]).length = m.length + 1 := by simp
        go_wp2
        refine ⟨?_, by simp⟩
        by_cases hc0 : c' = 2
        · have hr : rest = [] := List.eq_nil_of_length_eq_zero (by have := HK.out; omega)
          refine ⟨o', c' - 2, done ++ [s, t], rest, m ++ [u], _, rfl, ?_, by have := HK.out; omega, by omega, ?_, H2⟩
          · rw [if_pos hc0, HK.out]
          · rw [hr]; intro i t ht; simp at ht
        · refine ⟨o' + 4, c' - 2, done ++ [s, t], rest, m ++ [u], _, rfl, ?_, by have := HK.out; omega, by omega, H3, H2⟩
          rw [if_neg hc0, HK.out]
end Go.Proofs.YtbcflkdaeboflaaDoor
namespace Go.Proofs.YtbcflkdaeboflaaDoor
open Go.RowKit PT
set_option linter.unusedVariables false
set_option maxRecDepth 20000

theorem add_addr (g o j : Nat) : (⟨g, o, none⟩ : Addr).add j = ⟨g, o + j, none⟩ := by
  unfold Addr.add; split
  · subst_vars; rfl
  · rfl
theorem PRow.news {w : World} {b : Nat} : ∀ {off : Nat} {l : List PT}, PRow w b off l → ∀ j u, (pcs l)[j]? = some u → w.cell? ((⟨b, off, none⟩ : Addr).add j) = some u
  | off, [], _, j, u, h => by simp [pcs] at h
  | off, t :: l, hr, j, u, h => by
    rw [add_addr]
    obtain ⟨c1, c2, c3⟩ := hr.cons
    match j, h with
    | 0, h => simp [pcs, PT.enc] at h; rw [← h]; exact c1
    | 1, h => simp [pcs, PT.enc] at h; rw [← h]; exact c2
    | j + 2, h =>
      have := PRow.news c3 j u (by simpa [pcs, PT.enc] using h)
      rw [add_addr] at this
      rw [show off + (j + 2) = off + 2 + j by omega]
      exact this
theorem pcs_one (l : List PT) : ∀ u ∈ pcs l, u.oneCell' = true := by
  intro u hu
  obtain ⟨t, _, ht⟩ := List.mem_flatMap.1 hu
  exact PT.enc_one t u ht

structure MrgSt (w wr : World) (A B done ra rb : List PT) (v : Value) : Prop where
  all : mrg A B = done ++ mrg ra rb
  len : A.length + B.length = done.length + (ra.length + rb.length)
  own : wr.ownsRow w.heap.size 133 2 v done.length (pcs done)
  bel : Below w.heap.size w wr
theorem MrgSt.more {w wr w1 : World} {A B done ra rb ra' rb' : List PT} {t : PT} {V : Value} {g cap : Nat} {o : Obj} (h : MrgSt w wr A B done ra rb V)
    (hm : mrg ra rb = t :: mrg ra' rb') (hl : ra.length + rb.length = ra'.length + rb'.length + 1)
    (hown : w1.ownsRow w.heap.size 133 2 (.slice (some ⟨g, 0, none⟩) (done.length + 1) cap) (done.length + 1) (pcs done ++ [.int .i64 (t.wt : Nat), t.fv]))
    (hgrow : (wr.drew.alloc o).grownBy w1 V.ownBlock) :
    MrgSt w w1 A B (done ++ [t]) ra' rb' (.slice (some ⟨g, 0, none⟩) (done.length + 1) cap) := by
  have hal : Below wr.heap.size wr (wr.drew.alloc o) := ((Below.refl _ _).drew).alloc (Nat.le_refl _) _
  have hbA : Below w.heap.size w (wr.drew.alloc o) := h.bel.trans (hal.mono h.bel.size)
  refine ⟨by rw [h.all, hm]; simp, by have := h.len; simp; omega, ?_, hbA.trans (below_grown (owns_below h.own hal) hgrow hbA.size)⟩
  rw [pcs_append, List.length_append]; exact hown

set_option maxRecDepth 20000 in
set_option maxHeartbeats 4000000 in
theorem merge_ok (A B : List PT) (ba offa ca bb offb cb : Nat) (w : World) (hrowA : PRow w ba offa A) (hrowB : PRow w bb offb B) (hba : ba < w.heap.size) (hbb : bb < w.heap.size)
    (hca : A.length ≤ ca) (hcb : B.length ≤ cb) (hca2 : ca ≤ 9223372036854775807) (hcb2 : cb ≤ 9223372036854775807) (hlen : A.length + B.length ≤ 100000) :
    Calls Tryd.prog 88 #[.slice (some ⟨ba, offa, none⟩) A.length ca, .slice (some ⟨bb, offb, none⟩) B.length cb] w fun e w' =>
      ∃ v, e = .returned v ∧ w'.ownsRow w.heap.size 133 2 v (mrg A B).length (pcs (mrg A B)) ∧ Below w.heap.size w w' := by
  obtain ⟨i0, hi, hz0, hz1, hz2⟩ := info_split packInfo
  have HRA : Hid (PRow w ba offa A) := hrowA
  have HRB : Hid (PRow w bb offb B) := hrowB
  have HI : Hid (Tryd.prog.info? 133 = some i0 ∧ i0.zero = some (.agg #[.int .i64 0, .nilFunc]) ∧ i0.size = 2 ∧ i0.bytes = 16) := ⟨hi, hz0, hz1, hz2⟩
  obtain ⟨N, hN⟩ : ∃ N, A.length + B.length = N := ⟨_, rfl⟩
  clear hrowA hrowB hi hz0 hz1 hz2
  go_enter Tryd.func88, Tryd.ntmps88
  go_wp2_with (at_make; refine wpList_make_own _ rfl _ _ 129 rfl w.heap.size 133 i0 (.agg #[.int .i64 0, .nilFunc]) 2 Tryd.underlying129 HI.out.1 HI.out.2.1 HI.out.2.2.1 .i64 .i64 _ N rfl rfl (by omega) (by rw [HI.out.2.2.2]; omega) (by unfold maxLen; omega) (Nat.le_refl _) ?_; intro w0 hown0 hgrow0)
  have H0 : Hid (MrgSt w w0 A B [] A B (.slice (some ⟨w.heap.size, 0, none⟩) 0 N)) := ⟨rfl, by simp, hown0, (Below.refl _ _).grown hgrow0 (Nat.le_refl _) (fun k hk => by cases hk)⟩
  clear hown0 hgrow0
  go_wp2
  go_loopw [0, 1, 5] (fun v0 v1 v5 wr => ∃ (oa ca ob cb : Nat) (done ra rb : List PT) (V : Value), V = v5 ∧ v0 = .slice (some ⟨ba, oa, none⟩) ra.length ca ∧ ra.length ≤ ca ∧ ca ≤ 9223372036854775807 ∧ v1 = .slice (some ⟨bb, ob, none⟩) rb.length cb ∧ rb.length ≤ cb ∧ cb ≤ 9223372036854775807 ∧ Hid (PRow w ba oa ra) ∧ Hid (PRow w bb ob rb) ∧ Hid (MrgSt w wr A B done ra rb V)) (fun v0 v1 _ _ => (match v0 with | .slice _ k _ => k | _ => 0) + (match v1 with | .slice _ k _ => k | _ => 0))
  case atStart => exact ⟨offa, ca, offb, cb, [], A, B, _, rfl, rfl, hca, hca2, rfl, hcb, hcb2, HRA, HRB, H0⟩
  case round =>
    obtain ⟨oa, ca, ob, cb, done, ra, rb, V, rfl, rfl, hca, hca2, rfl, hcb, hcb2, HRA, HRB, HS⟩ := hrel
    have hdl : done.length + (ra.length + rb.length) ≤ 100000 := by have := HS.out.len; omega
    have fin : (ra = [] ∨ rb = []) → Hid (mrg A B = done ++ ra ++ rb) := fun h => by
      show _ = _
      rw [HS.out.all]
      rcases h with rfl | rfl
      · simp [mrg_nil]
      · rw [mrg_nil_right]; simp
    by_cases hstop : ra = [] ∨ rb = []
    · have HF := fin hstop
      obtain ⟨na, hna⟩ : ∃ k, ra.length = k := ⟨_, rfl⟩
      obtain ⟨nb, hnb⟩ : ∃ k, rb.length = k := ⟨_, rfl⟩
      have HNA : Hid (ra.length = na ∧ rb.length = nb) := ⟨hna, hnb⟩
      have hz : na = 0 ∨ nb = 0 := by
        rcases hstop with rfl | rfl
        · left; simpa using hna.symm
        · right; simpa using hnb.symm
      rw [hna, hnb]
      rw [hna] at hca
      rw [hnb] at hcb
      rw [hna, hnb] at hdl
      clear fin hstop hna hnb
      have hnews1 : ∀ j u, (pcs ra)[j]? = some u → wr.cell? ((⟨ba, oa, none⟩ : Addr).add j) = some u := (HRA.out.below HS.out.bel hba).news
      have hl1 : (pcs ra).length = na * 2 := by rw [pcs_length, HNA.out.1]
      have hl2 : (pcs rb).length = nb * 2 := by rw [pcs_length, HNA.out.2]
      have HN1 : Hid _ := hnews1
      have hsz := HS.out.bel.size
      clear hnews1
      rcases Nat.eq_zero_or_pos na with hza | hza
      · subst hza
        go_wp2_with (first
          | (at_builtin; refine wpList_append_own _ rfl _ _ 129 rfl w.heap.size 133 i0 (.agg #[.int .i64 0, .nilFunc]) 2 16 Tryd.underlying129 HI.out.1 HI.out.2.1 HI.out.2.2.1 HI.out.2.2.2 rfl (by decide) V done.length (pcs done) rfl HS.out.own ⟨ba, oa, none⟩ 0 ca (pcs ra) rfl hl1 HN1.out (pcs_one _) (by unfold maxLen; omega) (by omega) hsz ?_; intro v1 w1 hown1 hgrow1 hnil1; have H1 : Hid (Below w.heap.size w w1) := HS.out.bel.trans (below_grown HS.out.own hgrow1 hsz); have HN2 : Hid (∀ j u, (pcs rb)[j]? = some u → w1.cell? ((⟨bb, ob, none⟩ : Addr).add j) = some u) := (HRB.out.below H1.out hbb).news; have HO1 : Hid (w1.ownsRow w.heap.size 133 2 v1 (done.length + 0) (pcs done ++ pcs ra)) := hown1; clear hown1 hgrow1 hnil1)
          | (at_builtin; refine wpList_append_own _ rfl _ _ 129 rfl w.heap.size 133 i0 (.agg #[.int .i64 0, .nilFunc]) 2 16 Tryd.underlying129 HI.out.1 HI.out.2.1 HI.out.2.2.1 HI.out.2.2.2 rfl (by decide) v1 (done.length + 0) (pcs done ++ pcs ra) rfl HO1.out ⟨bb, ob, none⟩ nb cb (pcs rb) rfl hl2 HN2.out (pcs_one _) (by unfold maxLen; omega) (by omega) H1.out.size ?_; intro v2 w2 hown2 hgrow2 hnil2; have H2 : Hid (Below w.heap.size w w2) := H1.out.trans (below_grown HO1.out hgrow2 H1.out.size); have HO2 : Hid (w2.ownsRow w.heap.size 133 2 v2 (done.length + 0 + nb) (pcs done ++ pcs ra ++ pcs rb)) := hown2; clear hown2 hgrow2 hnil2))
        go_ret
        refine ⟨v2, rfl, ?_, H2.out⟩
        have h := HO2.out
        rw [HF.out, pcs_append, pcs_append, List.length_append, List.length_append, HNA.out.1, HNA.out.2]
        exact h
      · obtain rfl : nb = 0 := by omega
        go_wp2_with (first
          | (at_builtin; refine wpList_append_own _ rfl _ _ 129 rfl w.heap.size 133 i0 (.agg #[.int .i64 0, .nilFunc]) 2 16 Tryd.underlying129 HI.out.1 HI.out.2.1 HI.out.2.2.1 HI.out.2.2.2 rfl (by decide) V done.length (pcs done) rfl HS.out.own ⟨ba, oa, none⟩ na ca (pcs ra) rfl hl1 HN1.out (pcs_one _) (by unfold maxLen; omega) (by omega) hsz ?_; intro v1 w1 hown1 hgrow1 hnil1; have H1 : Hid (Below w.heap.size w w1) := HS.out.bel.trans (below_grown HS.out.own hgrow1 hsz); have HN2 : Hid (∀ j u, (pcs rb)[j]? = some u → w1.cell? ((⟨bb, ob, none⟩ : Addr).add j) = some u) := (HRB.out.below H1.out hbb).news; have HO1 : Hid (w1.ownsRow w.heap.size 133 2 v1 (done.length + na) (pcs done ++ pcs ra)) := hown1; clear hown1 hgrow1 hnil1)
          | (at_builtin; refine wpList_append_own _ rfl _ _ 129 rfl w.heap.size 133 i0 (.agg #[.int .i64 0, .nilFunc]) 2 16 Tryd.underlying129 HI.out.1 HI.out.2.1 HI.out.2.2.1 HI.out.2.2.2 rfl (by decide) v1 (done.length + na) (pcs done ++ pcs ra) rfl HO1.out ⟨bb, ob, none⟩ 0 cb (pcs rb) rfl hl2 HN2.out (pcs_one _) (by unfold maxLen; omega) (by omega) H1.out.size ?_; intro v2 w2 hown2 hgrow2 hnil2; have H2 : Hid (Below w.heap.size w w2) := H1.out.trans (below_grown HO1.out hgrow2 H1.out.size); have HO2 : Hid (w2.ownsRow w.heap.size 133 2 v2 (done.length + na + 0) (pcs done ++ pcs ra ++ pcs rb)) := hown2; clear hown2 hgrow2 hnil2))
        go_ret
        refine ⟨v2, rfl, ?_, H2.out⟩
        have h := HO2.out
        rw [HF.out, pcs_append, pcs_append, List.length_append, List.length_append, HNA.out.1, HNA.out.2]
        exact h
    · obtain ⟨x, ra, rfl⟩ : ∃ x r, ra = x :: r := by
        cases ra with
        | nil => exact absurd (.inl rfl) hstop
        | cons x r => exact ⟨x, r, rfl⟩
      obtain ⟨y, rb, rfl⟩ : ∃ x r, rb = x :: r := by
        cases rb with
        | nil => exact absurd (.inr rfl) hstop
        | cons x r => exact ⟨x, r, rfl⟩
      clear fin hstop
      obtain ⟨r1, r2, r3⟩ := HRA.out.cons
      obtain ⟨q1, q2, q3⟩ := HRB.out.cons
      have HRA3 : Hid (PRow w ba (oa + 2) ra) := r3
      have HRB3 : Hid (PRow w bb (ob + 2) rb) := q3
      have R1 : wr.cell? ⟨ba, oa, none⟩ = some (.int .i64 (x.wt : Nat)) := by rw [HS.out.bel.cell hba]; exact r1
      have R2 : wr.cell? ⟨ba, oa + 1, none⟩ = some x.fv := by rw [HS.out.bel.cell hba]; exact r2
      have R3 : wr.cell? ⟨bb, ob, none⟩ = some (.int .i64 (y.wt : Nat)) := by rw [HS.out.bel.cell hbb]; exact q1
      have R4 : wr.cell? ⟨bb, ob + 1, none⟩ = some y.fv := by rw [HS.out.bel.cell hbb]; exact q2
      clear r1 r2 r3 q1 q2 q3
      obtain ⟨k, hk⟩ : ∃ k, ra.length = k := ⟨_, rfl⟩
      obtain ⟨j, hj⟩ : ∃ k, rb.length = k := ⟨_, rfl⟩
      have HK : Hid (ra.length = k ∧ rb.length = j) := ⟨hk, hj⟩
      have hlk : (x :: ra).length = k + 1 := by simp [hk]
      have hlj : (y :: rb).length = j + 1 := by simp [hj]
      rw [hlk, hlj]
      rw [hlk] at hca
      rw [hlj] at hcb
      rw [hlk, hlj] at hdl
      have hdl2 : done.length + 1 ≤ 100000 := by omega
      have hsz := HS.out.bel.size
      have HOW : Hid (∀ o, (wr.drew.drew.alloc o).ownsRow w.heap.size 133 2 V done.length (pcs done) ∧ w.heap.size ≤ (wr.drew.drew.alloc o).heap.size) := fun o => ⟨(owns_below HS.out.own (Below.refl _ wr).drew.drew).alloc o, by simp; omega⟩
      clear hk hj hlk hlj
      by_cases hlt : y.wt < x.wt
      · have hlti : (y.wt : Int) < (x.wt : Int) := by omega
        by_cases hc1 : cb = 1
        · obtain rfl : j = 0 := by omega
          subst hc1
          go_wp2_with fail
          go_region
          all_goals
            go_wp2_with fail
            go_region_held_law (fun w' => w'.cell? ⟨bb, ob, none⟩ = some (.int .i64 (y.wt : Nat)) ∧ w'.cell? ⟨bb, ob + 1, none⟩ = some y.fv)
              (first | assumption | go_keep)
              (first | (refine step_append_lies _ rfl _ _ 129 rfl w.heap.size 133 i0 (.agg #[.int .i64 0, .nilFunc]) 2 16 Tryd.underlying129 HI.out.1 HI.out.2.1 HI.out.2.2.1 HI.out.2.2.2 rfl (by decide) V done.length (pcs done) rfl (HOW.out _).1 ⟨_, 0, none⟩ 1 1 [.int .i64 (y.wt : Nat), y.fv] rfl rfl (news2 _ _ _ _) (one2 _ _) (by decide) (by unfold maxLen; omega) (by omega) (HOW.out _).2 _ rfl ?_; intro g cap w1 hown hgrow hat hgl; have hbg := below_grown (HOW.out _).1 hgrow (HOW.out _).2; have KS1 := (⟨by rw [hbg.cell hbb]; go_simp, by rw [hbg.cell hbb]; go_simp⟩ : w1.cell? ⟨bb, ob, none⟩ = some (.int .i64 (y.wt : Nat)) ∧ w1.cell? ⟨bb, ob + 1, none⟩ = some y.fv); (try go_simp)))
            all_goals
              have H2 : Hid (MrgSt w w1 A B (done ++ [y]) (x :: ra) rb (.slice (some ⟨g, 0, none⟩) (done.length + 1) cap)) := by
                have e1 : MrgSt w wr.drew A B done (x :: ra) (y :: rb) V := ⟨HS.out.all, HS.out.len, owns_below HS.out.own (Below.refl _ wr).drew, HS.out.bel.drew⟩
                exact e1.more (by rw [mrg_cons, if_pos hlt]) (by simp; omega) hown hgrow
              clear hown hgrow hat hgl hbg KS1
              go_wp2
              refine ⟨?_, by simp⟩
              exact ⟨oa, ca, ob, 0, done ++ [y], x :: ra, rb, _, rfl, by simp [HK.out.1], by have := HK.out.1; simp; omega, hca2, by simp [HK.out.2], by simp [HK.out.2], by omega, HRA, by rw [List.eq_nil_of_length_eq_zero HK.out.2]; intro i t ht; simp at ht, H2⟩
        · have hc1' : ¬ (cb = 1) := hc1
          go_wp2_with fail
          go_region
          all_goals
            go_wp2_with fail
            go_region_held_law (fun w' => w'.cell? ⟨bb, ob, none⟩ = some (.int .i64 (y.wt : Nat)) ∧ w'.cell? ⟨bb, ob + 1, none⟩ = some y.fv)
              (first | assumption | go_keep)
              (first | (refine step_append_lies _ rfl _ _ 129 rfl w.heap.size 133 i0 (.agg #[.int .i64 0, .nilFunc]) 2 16 Tryd.underlying129 HI.out.1 HI.out.2.1 HI.out.2.2.1 HI.out.2.2.2 rfl (by decide) V done.length (pcs done) rfl (HOW.out _).1 ⟨_, 0, none⟩ 1 1 [.int .i64 (y.wt : Nat), y.fv] rfl rfl (news2 _ _ _ _) (one2 _ _) (by decide) (by unfold maxLen; omega) (by omega) (HOW.out _).2 _ rfl ?_; intro g cap w1 hown hgrow hat hgl; have hbg := below_grown (HOW.out _).1 hgrow (HOW.out _).2; have KS1 := (⟨by rw [hbg.cell hbb]; go_simp, by rw [hbg.cell hbb]; go_simp⟩ : w1.cell? ⟨bb, ob, none⟩ = some (.int .i64 (y.wt : Nat)) ∧ w1.cell? ⟨bb, ob + 1, none⟩ = some y.fv); (try go_simp)))
            all_goals
              have H2 : Hid (MrgSt w w1 A B (done ++ [y]) (x :: ra) rb (.slice (some ⟨g, 0, none⟩) (done.length + 1) cap)) := by
                have e1 : MrgSt w wr.drew A B done (x :: ra) (y :: rb) V := ⟨HS.out.all, HS.out.len, owns_below HS.out.own (Below.refl _ wr).drew, HS.out.bel.drew⟩
                exact e1.more (by rw [mrg_cons, if_pos hlt]) (by simp; omega) hown hgrow
              clear hown hgrow hat hgl hbg KS1
              go_wp2
              refine ⟨?_, by simp⟩
              exact ⟨oa, ca, ob + 2, cb - 1, done ++ [y], x :: ra, rb, _, rfl, by simp [HK.out.1], by have := HK.out.1; simp; omega, hca2, by rw [HK.out.2], by have := HK.out.2; omega, by omega, HRA, HRB3, H2⟩
      · have hlti : ¬ (y.wt : Int) < (x.wt : Int) := by omega
        by_cases hc1 : ca = 1
        · obtain rfl : k = 0 := by omega
          subst hc1
          go_wp2_with fail
          go_region
          all_goals
            go_wp2_with fail
            go_region_held_law (fun w' => w'.cell? ⟨ba, oa, none⟩ = some (.int .i64 (x.wt : Nat)) ∧ w'.cell? ⟨ba, oa + 1, none⟩ = some x.fv)
              (first | assumption | go_keep)
              (first | (refine step_append_lies _ rfl _ _ 129 rfl w.heap.size 133 i0 (.agg #[.int .i64 0, .nilFunc]) 2 16 Tryd.underlying129 HI.out.1 HI.out.2.1 HI.out.2.2.1 HI.out.2.2.2 rfl (by decide) V done.length (pcs done) rfl (HOW.out _).1 ⟨_, 0, none⟩ 1 1 [.int .i64 (x.wt : Nat), x.fv] rfl rfl (news2 _ _ _ _) (one2 _ _) (by decide) (by unfold maxLen; omega) (by omega) (HOW.out _).2 _ rfl ?_; intro g cap w1 hown hgrow hat hgl; have hbg := below_grown (HOW.out _).1 hgrow (HOW.out _).2; have KS1 := (⟨by rw [hbg.cell hba]; go_simp, by rw [hbg.cell hba]; go_simp⟩ : w1.cell? ⟨ba, oa, none⟩ = some (.int .i64 (x.wt : Nat)) ∧ w1.cell? ⟨ba, oa + 1, none⟩ = some x.fv); (try go_simp)))
            all_goals
              have H2 : Hid (MrgSt w w1 A B (done ++ [x]) ra (y :: rb) (.slice (some ⟨g, 0, none⟩) (done.length + 1) cap)) := by
                have e1 : MrgSt w wr.drew A B done (x :: ra) (y :: rb) V := ⟨HS.out.all, HS.out.len, owns_below HS.out.own (Below.refl _ wr).drew, HS.out.bel.drew⟩
                exact e1.more (by rw [mrg_cons, if_neg hlt]) (by simp; omega) hown hgrow
              clear hown hgrow hat hgl hbg KS1
              go_wp2
              refine ⟨?_, by simp⟩
              exact ⟨oa, 0, ob, cb, done ++ [x], ra, y :: rb, _, rfl, by simp [HK.out.1], by simp [HK.out.1], by omega, by simp [HK.out.2], by have := HK.out.2; simp; omega, hcb2, by rw [List.eq_nil_of_length_eq_zero HK.out.1]; intro i t ht; simp at ht, HRB, H2⟩
        · have hc1' : ¬ (ca = 1) := hc1
          go_wp2_with fail
          go_region
          all_goals
            go_wp2_with fail
            go_region_held_law (fun w' => w'.cell? ⟨ba, oa, none⟩ = some (.int .i64 (x.wt : Nat)) ∧ w'.cell? ⟨ba, oa + 1, none⟩ = some x.fv)
              (first | assumption | go_keep)
              (first | (refine step_append_lies _ rfl _ _ 129 rfl w.heap.size 133 i0 (.agg #[.int .i64 0, .nilFunc]) 2 16 Tryd.underlying129 HI.out.1 HI.out.2.1 HI.out.2.2.1 HI.out.2.2.2 rfl (by decide) V done.length (pcs done) rfl (HOW.out _).1 ⟨_, 0, none⟩ 1 1 [.int .i64 (x.wt : Nat), x.fv] rfl rfl (news2 _ _ _ _) (one2 _ _) (by decide) (by unfold maxLen; omega) (by omega) (HOW.out _).2 _ rfl ?_; intro g cap w1 hown hgrow hat hgl; have hbg := below_grown (HOW.out _).1 hgrow (HOW.out _).2; have KS1 := (⟨by rw [hbg.cell hba]; go_simp, by rw [hbg.cell hba]; go_simp⟩ : w1.cell? ⟨ba, oa, none⟩ = some (.int .i64 (x.wt : Nat)) ∧ w1.cell? ⟨ba, oa + 1, none⟩ = some x.fv); (try go_simp)))
            all_goals
              have H2 : Hid (MrgSt w w1 A B (done ++ [x]) ra (y :: rb) (.slice (some ⟨g, 0, none⟩) (done.length + 1) cap)) := by
                have e1 : MrgSt w wr.drew A B done (x :: ra) (y :: rb) V := ⟨HS.out.all, HS.out.len, owns_below HS.out.own (Below.refl _ wr).drew, HS.out.bel.drew⟩
                exact e1.more (by rw [mrg_cons, if_neg hlt]) (by simp; omega) hown hgrow
              clear hown hgrow hat hgl hbg KS1
              go_wp2
              refine ⟨?_, by simp⟩
              exact ⟨oa + 2, ca - 1, ob, cb, done ++ [x], ra, y :: rb, _, rfl, by rw [HK.out.1], by have := HK.out.1; omega, by omega, by simp [HK.out.2], by have := HK.out.2; simp; omega, hcb2, HRA3, HRB, H2⟩
end Go.Proofs.YtbcflkdaeboflaaDoor
