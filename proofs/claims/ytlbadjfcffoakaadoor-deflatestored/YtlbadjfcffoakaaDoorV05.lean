/- Two lists of packs as one. -/
/- The best packs. -/
import Derived.Test.YtlbadjfcffoakaaDoorV04
import Derived.BigQuiet
import Derived.Deep.QuietTactic
namespace Go.Proofs.YtlbadjfcffoakaaDoor
open Go.RowKit PT
set_option linter.unusedVariables false
set_option maxRecDepth 20000

theorem add_addr (g o j : Nat) : (⟨g, o, none⟩ : Addr).add j = ⟨g, o + j, none⟩ := by
  unfold Addr.add; split
  · subst_vars; rfl
  · rfl
theorem PRow.news {w : World} {b : Nat} : ∀ {off : Nat} {l : List PT}, PRow w b off l → ∀ j u, (pcs l)[j]? = some u → w.cell? ((⟨b, off, none⟩ : Addr).add j) = some u
  | off, [], _, j, u, h => by simp [pcs] at h
  | off, t :: l, hr, j, u, h => by
    rw [add_addr]
    obtain ⟨c1, c2, c3⟩ := hr.cons
    match j, h with
    | 0, h => simp [pcs, PT.enc] at h; rw [← h]; exact c1
    | 1, h => simp [pcs, PT.enc] at h; rw [← h]; exact c2
    | j + 2, h =>
      have := PRow.news c3 j u (by simpa [pcs, PT.enc] using h)
      rw [add_addr] at this
      rw [show off + (j + 2) = off + 2 + j by omega]
      exact this
theorem pcs_one (l : List PT) : ∀ u ∈ pcs l, u.oneCell' = true := by
  intro u hu
  obtain ⟨t, _, ht⟩ := List.mem_flatMap.1 hu
  exact PT.enc_one t u ht

structure MrgSt (w wr : World) (A B done ra rb : List PT) (v : Value) : Prop where
  all : mrg A B = done ++ mrg ra rb
  len : A.length + B.length = done.length + (ra.length + rb.length)
  own : wr.ownsRow w.heap.size 138 2 v done.length (pcs done)
  bel : Below w.heap.size w wr
theorem MrgSt.more {w wr w1 : World} {A B done ra rb ra' rb' : List PT} {t : PT} {V : Value} {g cap : Nat} {o : Obj} (h : MrgSt w wr A B done ra rb V)
    (hm : mrg ra rb = t :: mrg ra' rb') (hl : ra.length + rb.length = ra'.length + rb'.length + 1)
    (hown : w1.ownsRow w.heap.size 138 2 (.slice (some ⟨g, 0, none⟩) (done.length + 1) cap) (done.length + 1) (pcs done ++ [.int .i64 (t.wt : Nat), t.fv]))
    (hgrow : (wr.drew.alloc o).grownBy w1 V.ownBlock) :
    MrgSt w w1 A B (done ++ [t]) ra' rb' (.slice (some ⟨g, 0, none⟩) (done.length + 1) cap) := by
  have hal : Below wr.heap.size wr (wr.drew.alloc o) := ((Below.refl _ _).drew).alloc (Nat.le_refl _) _
  have hbA : Below w.heap.size w (wr.drew.alloc o) := h.bel.trans (hal.mono h.bel.size)
  refine ⟨by rw [h.all, hm]; simp, by have := h.len; simp; omega, ?_, hbA.trans (below_grown (owns_below h.own hal) hgrow hbA.size)⟩
  rw [pcs_append, List.length_append]; exact hown

set_option maxRecDepth 20000 in
set_option maxHeartbeats 4000000 in
theorem merge_ok (A B : List PT) (ba offa ca bb offb cb : Nat) (w : World) (hrowA : PRow w ba offa A) (hrowB : PRow w bb offb B) (hba : ba < w.heap.size) (hbb : bb < w.heap.size)
    (hca : A.length ≤ ca) (hcb : B.length ≤ cb) (hca2 : ca ≤ 9223372036854775807) (hcb2 : cb ≤ 9223372036854775807) (hlen : A.length + B.length ≤ 100000) :
    Calls Tryd.prog 83 #[.slice (some ⟨ba, offa, none⟩) A.length ca, .slice (some ⟨bb, offb, none⟩) B.length cb] w fun e w' =>
      ∃ v, e = .returned v ∧ w'.ownsRow w.heap.size 138 2 v (mrg A B).length (pcs (mrg A B)) ∧ Below w.heap.size w w' := by
  obtain ⟨i0, hi, hz0, hz1, hz2⟩ := info_split packInfo
  have HRA : Hid (PRow w ba offa A) := hrowA
  have HRB : Hid (PRow w bb offb B) := hrowB
  have HI : Hid (Tryd.prog.info? 138 = some i0 ∧ i0.zero = some (.agg #[.int .i64 0, .nilFunc]) ∧ i0.size = 2 ∧ i0.bytes = 16) := ⟨hi, hz0, hz1, hz2⟩
  obtain ⟨N, hN⟩ : ∃ N, A.length + B.length = N := ⟨_, rfl⟩
  clear hrowA hrowB hi hz0 hz1 hz2
  go_enter Tryd.func83, Tryd.ntmps83
  go_wp2_with (at_make; refine wpList_make_own _ rfl _ _ 134 rfl w.heap.size 138 i0 (.agg #[.int .i64 0, .nilFunc]) 2 Tryd.underlying134 HI.out.1 HI.out.2.1 HI.out.2.2.1 .i64 .i64 _ N rfl rfl (by omega) (by rw [HI.out.2.2.2]; omega) (by unfold maxLen; omega) (Nat.le_refl _) ?_; intro w0 hown0 hgrow0)
  have H0 : Hid (MrgSt w w0 A B [] A B (.slice (some ⟨w.heap.size, 0, none⟩) 0 N)) := ⟨rfl, by simp, hown0, (Below.refl _ _).grown hgrow0 (Nat.le_refl _) (fun k hk => by cases hk)⟩
  clear hown0 hgrow0
  go_wp2
  go_loopw [0, 1, 5] (fun v0 v1 v5 wr => ∃ (oa ca ob cb : Nat) (done ra rb : List PT) (V : Value), V = v5 ∧ v0 = .slice (some ⟨ba, oa, none⟩) ra.length ca ∧ ra.length ≤ ca ∧ ca ≤ 9223372036854775807 ∧ v1 = .slice (some ⟨bb, ob, none⟩) rb.length cb ∧ rb.length ≤ cb ∧ cb ≤ 9223372036854775807 ∧ Hid (PRow w ba oa ra) ∧ Hid (PRow w bb ob rb) ∧ Hid (MrgSt w wr A B done ra rb V)) (fun v0 v1 _ _ => (match v0 with | .slice _ k _ => k | _ => 0) + (match v1 with | .slice _ k _ => k | _ => 0))
  case atStart => exact ⟨offa, ca, offb, cb, [], A, B, _, rfl, rfl, hca, hca2, rfl, hcb, hcb2, HRA, HRB, H0⟩
  case round =>
    obtain ⟨oa, ca, ob, cb, done, ra, rb, V, rfl, rfl, hca, hca2, rfl, hcb, hcb2, HRA, HRB, HS⟩ := hrel
    have hdl : done.length + (ra.length + rb.length) ≤ 100000 := by have := HS.out.len; omega
    have fin : (ra = [] ∨ rb = []) → Hid (mrg A B = done ++ ra ++ rb) := fun h => by
      show _ = _
      rw [HS.out.all]
      rcases h with rfl | rfl
      · simp [mrg_nil]
      · rw [mrg_nil_right]; simp
    by_cases hstop : ra = [] ∨ rb = []
    · have HF := fin hstop
      obtain ⟨na, hna⟩ : ∃ k, ra.length = k := ⟨_, rfl⟩
      obtain ⟨nb, hnb⟩ : ∃ k, rb.length = k := ⟨_, rfl⟩
      have HNA : Hid (ra.length = na ∧ rb.length = nb) := ⟨hna, hnb⟩
      have hz : na = 0 ∨ nb = 0 := by
        rcases hstop with rfl | rfl
        · left; simpa using hna.symm
        · right; simpa using hnb.symm
      rw [hna, hnb]
      rw [hna] at hca
      rw [hnb] at hcb
      rw [hna, hnb] at hdl
      clear fin hstop hna hnb
      have hnews1 : ∀ j u, (pcs ra)[j]? = some u → wr.cell? ((⟨ba, oa, none⟩ : Addr).add j) = some u := (HRA.out.below HS.out.bel hba).news
      have hl1 : (pcs ra).length = na * 2 := by rw [pcs_length, HNA.out.1]
      have hl2 : (pcs rb).length = nb * 2 := by rw [pcs_length, HNA.out.2]
      have HN1 : Hid _ := hnews1
      have hsz := HS.out.bel.size
      clear hnews1
      rcases Nat.eq_zero_or_pos na with hza | hza
      · subst hza
        go_wp2_with (first
          | (at_builtin; refine wpList_append_own _ rfl _ _ 134 rfl w.heap.size 138 i0 (.agg #[.int .i64 0, .nilFunc]) 2 16 Tryd.underlying134 HI.out.1 HI.out.2.1 HI.out.2.2.1 HI.out.2.2.2 rfl (by decide) V done.length (pcs done) rfl HS.out.own ⟨ba, oa, none⟩ 0 ca (pcs ra) rfl hl1 HN1.out (pcs_one _) (by unfold maxLen; omega) (by omega) hsz ?_; intro v1 w1 hown1 hgrow1 hnil1; have H1 : Hid (Below w.heap.size w w1) := HS.out.bel.trans (below_grown HS.out.own hgrow1 hsz); have HN2 : Hid (∀ j u, (pcs rb)[j]? = some u → w1.cell? ((⟨bb, ob, none⟩ : Addr).add j) = some u) := (HRB.out.below H1.out hbb).news; have HO1 : Hid (w1.ownsRow w.heap.size 138 2 v1 (done.length + 0) (pcs done ++ pcs ra)) := hown1; clear hown1 hgrow1 hnil1)
          | (at_builtin; refine wpList_append_own _ rfl _ _ 134 rfl w.heap.size 138 i0 (.agg #[.int .i64 0, .nilFunc]) 2 16 Tryd.underlying134 HI.out.1 HI.out.2.1 HI.out.2.2.1 HI.out.2.2.2 rfl (by decide) v1 (done.length + 0) (pcs done ++ pcs ra) rfl HO1.out ⟨bb, ob, none⟩ nb cb (pcs rb) rfl hl2 HN2.out (pcs_one _) (by unfold maxLen; omega) (by omega) H1.out.size ?_; intro v2 w2 hown2 hgrow2 hnil2; have H2 : Hid (Below w.heap.size w w2) := H1.out.trans (below_grown HO1.out hgrow2 H1.out.size); have HO2 : Hid (w2.ownsRow w.heap.size 138 2 v2 (done.length + 0 + nb) (pcs done ++ pcs ra ++ pcs rb)) := hown2; clear hown2 hgrow2 hnil2))
        go_ret
        refine ⟨v2, rfl, ?_, H2.out⟩
        have h := HO2.out
        rw [HF.out, pcs_append, pcs_append, List.length_append, List.length_append, HNA.out.1, HNA.out.2]
        exact h
      · obtain rfl : nb = 0 := by omega
        go_wp2_with (first
          | (at_builtin; refine wpList_append_own _ rfl _ _ 134 rfl w.heap.size 138 i0 (.agg #[.int .i64 0, .nilFunc]) 2 16 Tryd.underlying134 HI.out.1 HI.out.2.1 HI.out.2.2.1 HI.out.2.2.2 rfl (by decide) V done.length (pcs done) rfl HS.out.own ⟨ba, oa, none⟩ na ca (pcs ra) rfl hl1 HN1.out (pcs_one _) (by unfold maxLen; omega) (by omega) hsz ?_; intro v1 w1 hown1 hgrow1 hnil1; have H1 : Hid (Below w.heap.size w w1) := HS.out.bel.trans (below_grown HS.out.own hgrow1 hsz); have HN2 : Hid (∀ j u, (pcs rb)[j]? = some u → w1.cell? ((⟨bb, ob, none⟩ : Addr).add j) = some u) := (HRB.out.below H1.out hbb).news; have HO1 : Hid (w1.ownsRow w.heap.size 138 2 v1 (done.length + na) (pcs done ++ pcs ra)) := hown1; clear hown1 hgrow1 hnil1)
          | (at_builtin; refine wpList_append_own _ rfl _ _ 134 rfl w.heap.size 138 i0 (.agg #[.int .i64 0, .nilFunc]) 2 16 Tryd.underlying134 HI.out.1 HI.out.2.1 HI.out.2.2.1 HI.out.2.2.2 rfl (by decide) v1 (done.length + na) (pcs done ++ pcs ra) rfl HO1.out ⟨bb, ob, none⟩ 0 cb (pcs rb) rfl hl2 HN2.out (pcs_one _) (by unfold maxLen; omega) (by omega) H1.out.size ?_; intro v2 w2 hown2 hgrow2 hnil2; have H2 : Hid (Below w.heap.size w w2) := H1.out.trans (below_grown HO1.out hgrow2 H1.out.size); have HO2 : Hid (w2.ownsRow w.heap.size 138 2 v2 (done.length + na + 0) (pcs done ++ pcs ra ++ pcs rb)) := hown2; clear hown2 hgrow2 hnil2))
        go_ret
        refine ⟨v2, rfl, ?_, H2.out⟩
        have h := HO2.out
        rw [HF.out, pcs_append, pcs_append, List.length_append, List.length_append, HNA.out.1, HNA.out.2]
        exact h
    · obtain ⟨x, ra, rfl⟩ : ∃ x r, ra = x :: r := by
        cases ra with
        | nil => exact absurd (.inl rfl) hstop
        | cons x r => exact ⟨x, r, rfl⟩
      obtain ⟨y, rb, rfl⟩ : ∃ x r, rb = x :: r := by
        cases rb with
        | nil => exact absurd (.inr rfl) hstop
        | cons x r => exact ⟨x, r, rfl⟩
      clear fin hstop
      obtain ⟨r1, r2, r3⟩ := HRA.out.cons
      obtain ⟨q1, q2, q3⟩ := HRB.out.cons
      have HRA3 : Hid (PRow w ba (oa + 2) ra) := r3
      have HRB3 : Hid (PRow w bb (ob + 2) rb) := q3
      have R1 : wr.cell? ⟨ba, oa, none⟩ = some (.int .i64 (x.wt : Nat)) := by rw [HS.out.bel.cell hba]; exact r1
      have R2 : wr.cell? ⟨ba, oa + 1, none⟩ = some x.fv := by rw [HS.out.bel.cell hba]; exact r2
      have R3 : wr.cell? ⟨bb, ob, none⟩ = some (.int .i64 (y.wt : Nat)) := by rw [HS.out.bel.cell hbb]; exact q1
      have R4 : wr.cell? ⟨bb, ob + 1, none⟩ = some y.fv := by rw [HS.out.bel.cell hbb]; exact q2
      clear r1 r2 r3 q1 q2 q3
      obtain ⟨k, hk⟩ : ∃ k, ra.length = k := ⟨_, rfl⟩
      obtain ⟨j, hj⟩ : ∃ k, rb.length = k := ⟨_, rfl⟩
      have HK : Hid (ra.length = k ∧ rb.length = j) := ⟨hk, hj⟩
      have hlk : (x :: ra).length = k + 1 := by simp [hk]
      have hlj : (y :: rb).length = j + 1 := by simp [hj]
      rw [hlk, hlj]
      rw [hlk] at hca
      rw [hlj] at hcb
      rw [hlk, hlj] at hdl
      have hdl2 : done.length + 1 ≤ 100000 := by omega
      have hsz := HS.out.bel.size
      have HOW : Hid (∀ o, (wr.drew.drew.alloc o).ownsRow w.heap.size 138 2 V done.length (pcs done) ∧ w.heap.size ≤ (wr.drew.drew.alloc o).heap.size) := fun o => ⟨(owns_below HS.out.own (Below.refl _ wr).drew.drew).alloc o, by simp; omega⟩
      clear hk hj hlk hlj
      by_cases hlt : y.wt < x.wt
      · have hlti : (y.wt : Int) < (x.wt : Int) := by omega
        by_cases hc1 : cb = 1
        · obtain rfl : j = 0 := by omega
          subst hc1
          go_wp2_with fail
          go_region
          all_goals
            go_wp2_with fail
            go_region_held_law (fun w' => w'.cell? ⟨bb, ob, none⟩ = some (.int .i64 (y.wt : Nat)) ∧ w'.cell? ⟨bb, ob + 1, none⟩ = some y.fv)
              (first | assumption | go_keep)
              (first | (refine step_append_lies _ rfl _ _ 134 rfl w.heap.size 138 i0 (.agg #[.int .i64 0, .nilFunc]) 2 16 Tryd.underlying134 HI.out.1 HI.out.2.1 HI.out.2.2.1 HI.out.2.2.2 rfl (by decide) V done.length (pcs done) rfl (HOW.out _).1 ⟨_, 0, none⟩ 1 1 [.int .i64 (y.wt : Nat), y.fv] rfl rfl (news2 _ _ _ _) (one2 _ _) (by decide) (by unfold maxLen; omega) (by omega) (HOW.out _).2 _ rfl ?_; intro g cap w1 hown hgrow hat hgl; have hbg := below_grown (HOW.out _).1 hgrow (HOW.out _).2; have KS1 := (⟨by rw [hbg.cell hbb]; go_simp, by rw [hbg.cell hbb]; go_simp⟩ : w1.cell? ⟨bb, ob, none⟩ = some (.int .i64 (y.wt : Nat)) ∧ w1.cell? ⟨bb, ob + 1, none⟩ = some y.fv); (try go_simp)))
            all_goals
              have H2 : Hid (MrgSt w w1 A B (done ++ [y]) (x :: ra) rb (.slice (some ⟨g, 0, none⟩) (done.length + 1) cap)) := by
                have e1 : MrgSt w wr.drew A B done (x :: ra) (y :: rb) V := ⟨HS.out.all, HS.out.len, owns_below HS.out.own (Below.refl _ wr).drew, HS.out.bel.drew⟩
                exact e1.more (by rw [mrg_cons, if_pos hlt]) (by simp; omega) hown hgrow
              clear hown hgrow hat hgl hbg KS1
              go_wp2
              refine ⟨?_, by simp⟩
              exact ⟨oa, ca, ob, 0, done ++ [y], x :: ra, rb, _, rfl, by simp [HK.out.1], by have := HK.out.1; simp; omega, hca2, by simp [HK.out.2], by simp [HK.out.2], by omega, HRA, by rw [List.eq_nil_of_length_eq_zero HK.out.2]; intro i t ht; simp at ht, H2⟩
        · have hc1' : ¬ (cb = 1) := hc1
          go_wp2_with fail
          go_region
          all_goals
            go_wp2_with fail
            go_region_held_law (fun w' => w'.cell? ⟨bb, ob, none⟩ = some (.int .i64 (y.wt : Nat)) ∧ w'.cell? ⟨bb, ob + 1, none⟩ = some y.fv)
              (first | assumption | go_keep)
              (first | (refine step_append_lies _ rfl _ _ 134 rfl w.heap.size 138 i0 (.agg #[.int .i64 0, .nilFunc]) 2 16 Tryd.underlying134 HI.out.1 HI.out.2.1 HI.out.2.2.1 HI.out.2.2.2 rfl (by decide) V done.length (pcs done) rfl (HOW.out _).1 ⟨_, 0, none⟩ 1 1 [.int .i64 (y.wt : Nat), y.fv] rfl rfl (news2 _ _ _ _) (one2 _ _) (by decide) (by unfold maxLen; omega) (by omega) (HOW.out _).2 _ rfl ?_; intro g cap w1 hown hgrow hat hgl; have hbg := below_grown (HOW.out _).1 hgrow (HOW.out _).2; have KS1 := (⟨by rw [hbg.cell hbb]; go_simp, by rw [hbg.cell hbb]; go_simp⟩ : w1.cell? ⟨bb, ob, none⟩ = some (.int .i64 (y.wt : Nat)) ∧ w1.cell? ⟨bb, ob + 1, none⟩ = some y.fv); (try go_simp)))
            all_goals
              have H2 : Hid (MrgSt w w1 A B (done ++ [y]) (x :: ra) rb (.slice (some ⟨g, 0, none⟩) (done.length + 1) cap)) := by
                have e1 : MrgSt w wr.drew A B done (x :: ra) (y :: rb) V := ⟨HS.out.all, HS.out.len, owns_below HS.out.own (Below.refl _ wr).drew, HS.out.bel.drew⟩
                exact e1.more (by rw [mrg_cons, if_pos hlt]) (by simp; omega) hown hgrow
              clear hown hgrow hat hgl hbg KS1
              go_wp2
              refine ⟨?_, by simp⟩
              exact ⟨oa, ca, ob + 2, cb - 1, done ++ [y], x :: ra, rb, _, rfl, by simp [HK.out.1], by have := HK.out.1; simp; omega, hca2, by rw [HK.out.2], by have := HK.out.2; omega, by omega, HRA, HRB3, H2⟩
      · have hlti : ¬ (y.wt : Int) < (x.wt : Int) := by omega
        by_cases hc1 : ca = 1
        · obtain rfl : k = 0 := by omega
          subst hc1
          go_wp2_with fail
          go_region
          all_goals
            go_wp2_with fail
            go_region_held_law (fun w' => w'.cell? ⟨ba, oa, none⟩ = some (.int .i64 (x.wt : Nat)) ∧ w'.cell? ⟨ba, oa + 1, none⟩ = some x.fv)
              (first | assumption | go_keep)
              (first | (refine step_append_lies _ rfl _ _ 134 rfl w.heap.size 138 i0 (.agg #[.int .i64 0, .nilFunc]) 2 16 Tryd.underlying134 HI.out.1 HI.out.2.1 HI.out.2.2.1 HI.out.2.2.2 rfl (by decide) V done.length (pcs done) rfl (HOW.out _).1 ⟨_, 0, none⟩ 1 1 [.int .i64 (x.wt : Nat), x.fv] rfl rfl (news2 _ _ _ _) (one2 _ _) (by decide) (by unfold maxLen; omega) (by omega) (HOW.out _).2 _ rfl ?_; intro g cap w1 hown hgrow hat hgl; have hbg := below_grown (HOW.out _).1 hgrow (HOW.out _).2; have KS1 := (⟨by rw [hbg.cell hba]; go_simp, by rw [hbg.cell hba]; go_simp⟩ : w1.cell? ⟨ba, oa, none⟩ = some (.int .i64 (x.wt : Nat)) ∧ w1.cell? ⟨ba, oa + 1, none⟩ = some x.fv); (try go_simp)))
            all_goals
              have H2 : Hid (MrgSt w w1 A B (done ++ [x]) ra (y :: rb) (.slice (some ⟨g, 0, none⟩) (done.length + 1) cap)) := by
                have e1 : MrgSt w wr.drew A B done (x :: ra) (y :: rb) V := ⟨HS.out.all, HS.out.len, owns_below HS.out.own (Below.refl _ wr).drew, HS.out.bel.drew⟩
                exact e1.more (by rw [mrg_cons, if_neg hlt]) (by simp; omega) hown hgrow
              clear hown hgrow hat hgl hbg KS1
              go_wp2
              refine ⟨?_, by simp⟩
              exact ⟨oa, 0, ob, cb, done ++ [x], ra, y :: rb, _, rfl, by simp [HK.out.1], by simp [HK.out.1], by omega, by simp [HK.out.2], by have := HK.out.2; simp; omega, hcb2, by rw [List.eq_nil_of_length_eq_zero HK.out.1]; intro i t ht; simp at ht, HRB, H2⟩
        · have hc1' : ¬ (ca = 1) := hc1
          go_wp2_with fail
          go_region
          all_goals
            go_wp2_with fail
            go_region_held_law (fun w' => w'.cell? ⟨ba, oa, none⟩ = some (.int .i64 (x.wt : Nat)) ∧ w'.cell? ⟨ba, oa + 1, none⟩ = some x.fv)
              (first | assumption | go_keep)
              (first | (refine step_append_lies _ rfl _ _ 134 rfl w.heap.size 138 i0 (.agg #[.int .i64 0, .nilFunc]) 2 16 Tryd.underlying134 HI.out.1 HI.out.2.1 HI.out.2.2.1 HI.out.2.2.2 rfl (by decide) V done.length (pcs done) rfl (HOW.out _).1 ⟨_, 0, none⟩ 1 1 [.int .i64 (x.wt : Nat), x.fv] rfl rfl (news2 _ _ _ _) (one2 _ _) (by decide) (by unfold maxLen; omega) (by omega) (HOW.out _).2 _ rfl ?_; intro g cap w1 hown hgrow hat hgl; have hbg := below_grown (HOW.out _).1 hgrow (HOW.out _).2; have KS1 := (⟨by rw [hbg.cell hba]; go_simp, by rw [hbg.cell hba]; go_simp⟩ : w1.cell? ⟨ba, oa, none⟩ = some (.int .i64 (x.wt : Nat)) ∧ w1.cell? ⟨ba, oa + 1, none⟩ = some x.fv); (try go_simp)))
            all_goals
              have H2 : Hid (MrgSt w w1 A B (done ++ [x]) ra (y :: rb) (.slice (some ⟨g, 0, none⟩) (done.length + 1) cap)) := by
                have e1 : MrgSt w wr.drew A B done (x :: ra) (y :: rb) V := ⟨HS.out.all, HS.out.len, owns_below HS.out.own (Below.refl _ wr).drew, HS.out.bel.drew⟩
                exact e1.more (by rw [mrg_cons, if_neg hlt]) (by simp; omega) hown hgrow
              clear hown hgrow hat hgl hbg KS1
              go_wp2
              refine ⟨?_, by simp⟩
              exact ⟨oa + 2, ca - 1, ob, cb, done ++ [x], ra, y :: rb, _, rfl, by rw [HK.out.1], by have := HK.out.1; omega, by omega, by simp [HK.out.2], by have := HK.out.2; simp; omega, hcb2, HRA3, HRB, H2⟩
end Go.Proofs.YtlbadjfcffoakaaDoor
namespace Go.Proofs.YtlbadjfcffoakaaDoor
open Go.RowKit PT
set_option linter.unusedVariables false
set_option maxRecDepth 20000

theorem wtL_pairs {l : List PT} : ∀ {m}, Pairs l m → wtL m ≤ wtL l := by
  induction l using two_ind with
  | h0 => intro m h; have e : m = [] := h; subst e; exact Nat.le_refl _
  | h1 t => intro m h; have e : m = [] := h; subst e; simp [wtL]
  | h2 a b l ih =>
    rintro m ⟨u, m', rfl, ⟨x, y, rfl⟩, h⟩
    have := ih h
    simp only [wtL, PT.wt_node]; omega
theorem wtL_mrg (a b : List PT) : wtL (mrg a b) = wtL a + wtL b := by rw [wtL_perm (mrg_perm a b), wtL_append]
theorem Lev.wt {S : List PT} : ∀ {k : Nat} {l : List PT}, Lev S k l → wtL l ≤ (k + 1) * wtL S
  | 0, l, h => by rw [show l = S from h]; omega
  | k + 1, r, ⟨l, m, h, hp, e⟩ => by
    have h1 := Lev.wt h
    have := wtL_pairs hp
    rw [e, wtL_mrg, Nat.add_mul (k + 1) 1]; omega

structure BestSt (w wr : World) (L n k : Nat) (S l : List PT) (b off c : Nat) : Prop where
  lev : Lev S k l
  row : PRow wr b off l
  lt : b < wr.heap.size
  cap : l.length ≤ c ∧ c ≤ 9223372036854775807
  laid : ∀ t ∈ l, Laid wr L n t
  bel : Below w.heap.size w wr

theorem row_form {w : World} {B n : Nat} {v : Value} {l : List PT} (h : w.ownsRow B 138 2 v n (pcs l)) (h0 : 0 < n) : ∃ g cap, v = .slice (some ⟨g, 0, none⟩) n cap ∧ g < w.heap.size ∧ n ≤ cap ∧ cap ≤ 9223372036854775807 ∧ PRow w g 0 l := by
  have h' := h
  rcases h.2 with ⟨rfl, e⟩ | ⟨g, cap, cur, rfl, _, hh, hle, hm, _⟩
  · omega
  · exact ⟨g, cap, rfl, lt_heap hh, hle, by unfold maxLen at hm; exact hm, PRow.owned h'⟩

def BestEnd (w : World) (L n most : Nat) (S : List PT) (e : Ending) (w' : World) : Prop :=
  ∃ l g o cap, e = .returned (.slice (some ⟨g, o, none⟩) (2 * S.length - 2) cap) ∧ Lev S (most - 1) l ∧ 2 * S.length - 2 ≤ l.length ∧ PRow w' g o l ∧ (∀ t ∈ l, Laid w' L n t) ∧ Below w.heap.size w w'
set_option maxRecDepth 20000 in
set_option maxHeartbeats 4000000 in
theorem bestPacks_ok (S : List PT) (L n b off c most : Nat) (w : World) (hrow : PRow w b off S) (hlaid : ∀ t ∈ S, Laid w L n t) (hL : L < w.heap.size) (hb : b < w.heap.size) (hc : S.length ≤ c) (hc2 : c ≤ 9223372036854775807)
    (h2 : 2 ≤ S.length) (hlen : S.length ≤ 288) (hwt : wtL S ≤ 316659348799488) (hm1 : 1 ≤ most) (hm2 : most ≤ 15) (hmn : S.length ≤ 2 ^ most) :
    Calls Tryd.prog 75 #[.slice (some ⟨b, off, none⟩) S.length c, .int .i64 most] w fun e w' => BestEnd w L n most S e w' := by
  have H0 : Hid (BestSt w w L n 0 S S b off c) := ⟨rfl, hrow, hb, ⟨hc, hc2⟩, hlaid, Below.refl _ _⟩
  have HH : Hid (PRow w b off S ∧ (∀ t ∈ S, Laid w L n t)) := ⟨hrow, hlaid⟩
  obtain ⟨N, hN⟩ : ∃ N, S.length = N := ⟨_, rfl⟩
  have HN : Hid (S.length = N) := hN
  rw [hN]
  rw [hN] at hc h2 hlen hmn
  have HMN : Hid (N ≤ 2 ^ most) := hmn
  clear hrow hlaid hN hmn
  go_enter Tryd.func75, Tryd.ntmps75
  go_wp2
  go_loopw [5, 9] (fun v5 v9 wr => ∃ (k b' o' c' : Nat) (l : List PT), v9 = .int .i64 k ∧ k ≤ most - 1 ∧ v5 = .slice (some ⟨b', o', none⟩) l.length c' ∧ Hid (BestSt w wr L n k S l b' o' c')) (fun _ v9 _ => most - (intOf v9).toNat)
  case atStart => exact ⟨0, b, off, c, S, rfl, by omega, by rw [HN.out], H0⟩
  case round =>
    obtain ⟨k, b', o', c', l, rfl, hk, rfl, HS⟩ := hrel
    have hll := HS.out.lev.length_lt (by rw [HN.out]; exact h2)
    rw [HN.out] at hll
    have hl2 : 2 * N - 2 ≤ l.length ∨ k < most - 1 := by
      by_cases e : k < most - 1
      · exact .inr e
      · left
        have hp : 2 * 2 ^ k = 2 ^ most := by
          rw [show most = k + 1 by omega, Nat.pow_succ, Nat.mul_comm]
        have := HS.out.lev.length 2 (by rw [HN.out, hp]; exact HMN.out)
        rw [HN.out] at this
        omega
    have hcap := HS.out.cap
    have HLL : Hid (N ≤ l.length ∧ l.length < 2 * N) := hll
    obtain ⟨M, hM⟩ : ∃ M, l.length = M := ⟨_, rfl⟩
    have HM : Hid (l.length = M) := hM
    rw [hM] at hl2 hcap hll
    rw [hM]
    clear hM
    by_cases hlt : k < most - 1
    · have hlti : (k : Int) < (most : Int) - 1 := by omega
      have hwl := HS.out.lev.wt
      have hwl2 : wtL l < 4611686018427387904 := by
        have : (k + 1) * wtL S ≤ 15 * wtL S := Nat.mul_le_mul_right _ (by omega)
        omega
      have hp := fun (_ : Unit) => pairs_ok l L n b' o' c' wr HS.out.row HS.out.laid (by have := HS.out.bel.size; omega) HS.out.lt (by rw [HM.out]; exact hcap.1) (by rw [HM.out]; omega) hcap.2 hwl2
      rw [HM.out] at hp
      have HP : Hid _ := hp
      clear hp hwl hwl2
      go_wp2_with fail
      refine (HP.out ()).mono ?_
      rintro e w1 ⟨v1, m, rfl, hpm, hown, hlm, hb1⟩
      have hml := hpm.length
      rw [HM.out] at hml
      obtain ⟨g, cap, rfl, hg, hgc, hgm, hgr⟩ := row_form hown (by omega)
      have hb1w : Below w.heap.size w w1 := HS.out.bel.trans (hb1.mono HS.out.bel.size)
      have hmg := fun (_ : Unit) => merge_ok S m b off c g 0 cap w1 (HH.out.1.below hb1w hb) hgr (by have := hb1w.size; omega) hg (by rw [HN.out]; exact hc) hgc hc2 hgm (by rw [HN.out]; omega)
      obtain ⟨J, hJ⟩ : ∃ J, m.length = J := ⟨_, rfl⟩
      rw [HN.out, hJ] at hmg
      have HMG : Hid _ := hmg
      have HX : Hid (Pairs l m ∧ m.length = J ∧ (∀ t ∈ m, Laid w1 L n t) ∧ Below w.heap.size w w1) := ⟨hpm, hJ, hlm, hb1w⟩
      rw [hJ]
      clear hmg hpm hown hlm hb1 hml hg hgc hgr hb1w hJ
      go_wp2_with fail
      refine (HMG.out ()).mono ?_
      rintro e w2 ⟨v2, rfl, hown2, hb2⟩
      obtain ⟨g2, cap2, rfl, hg2, hgc2, hgm2, hgr2⟩ := row_form hown2 (by rw [mrg_length, HN.out]; omega)
      have H2 : Hid (BestSt w w2 L n (k + 1) S (mrg S m) g2 0 cap2) := by
        refine ⟨⟨l, m, HS.out.lev, HX.out.1, rfl⟩, hgr2, hg2, ⟨hgc2, hgm2⟩, fun t ht => ?_, HX.out.2.2.2.trans (hb2.mono HX.out.2.2.2.size)⟩
        rcases List.mem_append.1 ((mrg_perm _ _).mem_iff.1 ht) with h | h
        · exact ((HH.out.2 t h).below HX.out.2.2.2).below hb2
        · exact (HX.out.2.2.1 t h).below hb2
      obtain ⟨M2, hM2⟩ : ∃ M, (mrg S m).length = M := ⟨_, rfl⟩
      have HM2 : Hid ((mrg S m).length = M2) := hM2
      rw [hM2]
      clear hown2 hb2 hg2 hgc2 hgr2 hM2
      go_wp2
      exact ⟨⟨k + 1, g2, 0, cap2, mrg S m, by go_num, by omega, by rw [HM2.out], H2⟩, by simp [intOf]; omega⟩
    · have hlti : ¬ (k : Int) < (most : Int) - 1 := by omega
      have hN2 : 2 * N - 2 ≤ M := by omega
      have hcN : 2 * N - 2 ≤ c' := by omega
      obtain ⟨Q, hQ⟩ : ∃ Q, 2 * N - 2 = Q := ⟨_, rfl⟩
      have hQi : 2 * (N : Int) - 2 = (Q : Int) := by omega
      rw [hQ] at hN2 hcN
      have e1 : IntKind.i64.wrap (2 * (N : Int)) = 2 * (N : Int) := by rw [IntKind.wrap_i64]; omega
      have e2 : IntKind.i64.wrap (2 * (N : Int) - 2) = (Q : Int) := by rw [IntKind.wrap_i64]; omega
      go_wp2
      go_ret
      refine ⟨l, b', o', c', ?_, by rw [show most - 1 = k by omega]; exact HS.out.lev, by rw [HM.out, HN.out, hQ]; exact hN2, HS.out.row, HS.out.laid, HS.out.bel⟩
      rw [HN.out, hQ]; rfl
end Go.Proofs.YtlbadjfcffoakaaDoor
