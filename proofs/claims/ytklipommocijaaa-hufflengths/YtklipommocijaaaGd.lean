/- Two lists of packs as one. -/
import Derived.Test.YtklipommocijaaaGc
import Derived.BigQuiet
import Derived.Deep.QuietTactic
namespace Go.Proofs.Ytklipommocijaaa
open Go.RowKit PT
set_option linter.unusedVariables false

theorem add_addr (g o j : Nat) : (⟨g, o, none⟩ : Addr).add j = ⟨g, o + j, none⟩ := by
  unfold Addr.add; split
  · subst_vars; rfl
  · rfl
theorem PRow.news {w : World} {b : Nat} : ∀ {off : Nat} {l : List PT}, PRow w b off l → ∀ j u, (pcs l)[j]? = some u → w.cell? ((⟨b, off, none⟩ : Addr).add j) = some u
  | off, [], _, j, u, h => by simp [pcs] at h
  | off, t :: l, hr, j, u, h => by
    rw [add_addr]
    obtain ⟨c1, c2, c3⟩ := hr.cons
    match j, h with
    | 0, h => simp [pcs, PT.enc] at h; rw [← h]; exact c1
    | 1, h => simp [pcs, PT.enc] at h; rw [← h]; exact c2
    | j + 2, h =>
      have := PRow.news c3 j u (by simpa [pcs, PT.enc] using h)
      rw [add_addr] at this
      rw [show off + (j + 2) = off + 2 + j by omega]
      exact this
theorem pcs_one (l : List PT) : ∀ u ∈ pcs l, u.oneCell' = true := by
  intro u hu
  obtain ⟨t, _, ht⟩ := List.mem_flatMap.1 hu
  exact PT.enc_one t u ht

structure MrgSt (w wr : World) (A B done ra rb : List PT) (v : Value) : Prop where
  all : mrg A B = done ++ mrg ra rb
  len : A.length + B.length = done.length + (ra.length + rb.length)
  own : wr.ownsRow w.heap.size 57 2 v done.length (pcs done)
  bel : Below w.heap.size w wr
theorem MrgSt.more {w wr w1 : World} {A B done ra rb ra' rb' : List PT} {t : PT} {V : Value} {g cap : Nat} {o : Obj} (h : MrgSt w wr A B done ra rb V)
    (hm : mrg ra rb = t :: mrg ra' rb') (hl : ra.length + rb.length = ra'.length + rb'.length + 1)
    (hown : w1.ownsRow w.heap.size 57 2 (.slice (some ⟨g, 0, none⟩) (done.length + 1) cap) (done.length + 1) (pcs done ++ [.int .i64 (t.wt : Nat), t.fv]))
    (hgrow : (wr.drew.alloc o).grownBy w1 V.ownBlock) :
    MrgSt w w1 A B (done ++ [t]) ra' rb' (.slice (some ⟨g, 0, none⟩) (done.length + 1) cap) := by
  have hal : Below wr.heap.size wr (wr.drew.alloc o) := ((Below.refl _ _).drew).alloc (Nat.le_refl _) _
  have hbA : Below w.heap.size w (wr.drew.alloc o) := h.bel.trans (hal.mono h.bel.size)
  refine ⟨by rw [h.all, hm]; simp, by have := h.len; simp; omega, ?_, hbA.trans (below_grown (owns_below h.own hal) hgrow hbA.size)⟩
  rw [pcs_append, List.length_append]; exact hown

set_option maxRecDepth 20000 in
set_option maxHeartbeats 4000000 in
theorem merge_ok (A B : List PT) (ba offa ca bb offb cb : Nat) (w : World) (hrowA : PRow w ba offa A) (hrowB : PRow w bb offb B) (hba : ba < w.heap.size) (hbb : bb < w.heap.size)
    (hca : A.length ≤ ca) (hcb : B.length ≤ cb) (hca2 : ca ≤ 9223372036854775807) (hcb2 : cb ≤ 9223372036854775807) (hlen : A.length + B.length ≤ 100000) :
    Calls Try.prog 47 #[.slice (some ⟨ba, offa, none⟩) A.length ca, .slice (some ⟨bb, offb, none⟩) B.length cb] w fun e w' =>
      ∃ v, e = .returned v ∧ w'.ownsRow w.heap.size 57 2 v (mrg A B).length (pcs (mrg A B)) ∧ Below w.heap.size w w' := by
  obtain ⟨i0, hi, hz0, hz1, hz2⟩ := info_split packInfo
  have HRA : Hid (PRow w ba offa A) := hrowA
  have HRB : Hid (PRow w bb offb B) := hrowB
  have HI : Hid (Try.prog.info? 57 = some i0 ∧ i0.zero = some (.agg #[.int .i64 0, .nilFunc]) ∧ i0.size = 2 ∧ i0.bytes = 16) := ⟨hi, hz0, hz1, hz2⟩
  obtain ⟨N, hN⟩ : ∃ N, A.length + B.length = N := ⟨_, rfl⟩
  clear hrowA hrowB hi hz0 hz1 hz2
  go_enter Try.func47, Try.ntmps47
  go_wp2_with (at_make; refine wpList_make_own _ rfl _ _ 53 rfl w.heap.size 57 i0 (.agg #[.int .i64 0, .nilFunc]) 2 Try.underlying53 HI.out.1 HI.out.2.1 HI.out.2.2.1 .i64 .i64 _ N rfl rfl (by omega) (by rw [HI.out.2.2.2]; omega) (by unfold maxLen; omega) (Nat.le_refl _) ?_; intro w0 hown0 hgrow0)
  have H0 : Hid (MrgSt w w0 A B [] A B (.slice (some ⟨w.heap.size, 0, none⟩) 0 N)) := ⟨rfl, by simp, hown0, (Below.refl _ _).grown hgrow0 (Nat.le_refl _) (fun k hk => by cases hk)⟩
  clear hown0 hgrow0
  go_wp2
  go_loopw [0, 1, 5] (fun v0 v1 v5 wr => ∃ (oa ca ob cb : Nat) (done ra rb : List PT) (V : Value), V = v5 ∧ v0 = .slice (some ⟨ba, oa, none⟩) ra.length ca ∧ ra.length ≤ ca ∧ ca ≤ 9223372036854775807 ∧ v1 = .slice (some ⟨bb, ob, none⟩) rb.length cb ∧ rb.length ≤ cb ∧ cb ≤ 9223372036854775807 ∧ Hid (PRow w ba oa ra) ∧ Hid (PRow w bb ob rb) ∧ Hid (MrgSt w wr A B done ra rb V)) (fun v0 v1 _ _ => (match v0 with | .slice _ k _ => k | _ => 0) + (match v1 with | .slice _ k _ => k | _ => 0))
  case atStart => exact ⟨offa, ca, offb, cb, [], A, B, _, rfl, rfl, hca, hca2, rfl, hcb, hcb2, HRA, HRB, H0⟩
  case round =>
    obtain ⟨oa, ca, ob, cb, done, ra, rb, V, rfl, rfl, hca, hca2, rfl, hcb, hcb2, HRA, HRB, HS⟩ := hrel
    have hdl : done.length + (ra.length + rb.length) ≤ 100000 := by have := HS.out.len; omega
    have fin : (ra = [] ∨ rb = []) → Hid (mrg A B = done ++ ra ++ rb) := fun h => by
      show _ = _
      rw [HS.out.all]
      rcases h with rfl | rfl
      · simp [mrg_nil]
      · rw [mrg_nil_right]; simp
    by_cases hstop : ra = [] ∨ rb = []
    · have HF := fin hstop
      obtain ⟨na, hna⟩ : ∃ k, ra.length = k := ⟨_, rfl⟩
      obtain ⟨nb, hnb⟩ : ∃ k, rb.length = k := ⟨_, rfl⟩
      have HNA : Hid (ra.length = na ∧ rb.length = nb) := ⟨hna, hnb⟩
      have hz : na = 0 ∨ nb = 0 := by
        rcases hstop with rfl | rfl
        · left; simpa using hna.symm
        · right; simpa using hnb.symm
      rw [hna, hnb]
      rw [hna] at hca
      rw [hnb] at hcb
      rw [hna, hnb] at hdl
      clear fin hstop hna hnb
      have hnews1 : ∀ j u, (pcs ra)[j]? = some u → wr.cell? ((⟨ba, oa, none⟩ : Addr).add j) = some u := (HRA.out.below HS.out.bel hba).news
      have hl1 : (pcs ra).length = na * 2 := by rw [pcs_length, HNA.out.1]
      have hl2 : (pcs rb).length = nb * 2 := by rw [pcs_length, HNA.out.2]
      have HN1 : Hid _ := hnews1
      have hsz := HS.out.bel.size
      clear hnews1
      rcases Nat.eq_zero_or_pos na with hza | hza
      · subst hza
        go_wp2_with (first
          | (at_builtin; refine wpList_append_own _ rfl _ _ 53 rfl w.heap.size 57 i0 (.agg #[.int .i64 0, .nilFunc]) 2 16 Try.underlying53 HI.out.1 HI.out.2.1 HI.out.2.2.1 HI.out.2.2.2 rfl (by decide) V done.length (pcs done) rfl HS.out.own ⟨ba, oa, none⟩ 0 ca (pcs ra) rfl hl1 HN1.out (pcs_one _) (by unfold maxLen; omega) (by omega) hsz ?_; intro v1 w1 hown1 hgrow1 hnil1; have H1 : Hid (Below w.heap.size w w1) := HS.out.bel.trans (below_grown HS.out.own hgrow1 hsz); have HN2 : Hid (∀ j u, (pcs rb)[j]? = some u → w1.cell? ((⟨bb, ob, none⟩ : Addr).add j) = some u) := (HRB.out.below H1.out hbb).news; have HO1 : Hid (w1.ownsRow w.heap.size 57 2 v1 (done.length + 0) (pcs done ++ pcs ra)) := hown1; clear hown1 hgrow1 hnil1)
          | (at_builtin; refine wpList_append_own _ rfl _ _ 53 rfl w.heap.size 57 i0 (.agg #[.int .i64 0, .nilFunc]) 2 16 Try.underlying53 HI.out.1 HI.out.2.1 HI.out.2.2.1 HI.out.2.2.2 rfl (by decide) v1 (done.length + 0) (pcs done ++ pcs ra) rfl HO1.out ⟨bb, ob, none⟩ nb cb (pcs rb) rfl hl2 HN2.out (pcs_one _) (by unfold maxLen; omega) (by omega) H1.out.size ?_; intro v2 w2 hown2 hgrow2 hnil2; have H2 : Hid (Below w.heap.size w w2) := H1.out.trans (below_grown HO1.out hgrow2 H1.out.size); have HO2 : Hid (w2.ownsRow w.heap.size 57 2 v2 (done.length + 0 + nb) (pcs done ++ pcs ra ++ pcs rb)) := hown2; clear hown2 hgrow2 hnil2))
        go_ret
        refine ⟨v2, rfl, ?_, H2.out⟩
        have h := HO2.out
        rw [HF.out, pcs_append, pcs_append, List.length_append, List.length_append, HNA.out.1, HNA.out.2]
        exact h
      · obtain rfl : nb = 0 := by omega
        go_wp2_with (first
          | (at_builtin; refine wpList_append_own _ rfl _ _ 53 rfl w.heap.size 57 i0 (.agg #[.int .i64 0, .nilFunc]) 2 16 Try.underlying53 HI.out.1 HI.out.2.1 HI.out.2.2.1 HI.out.2.2.2 rfl (by decide) V done.length (pcs done) rfl HS.out.own ⟨ba, oa, none⟩ na ca (pcs ra) rfl hl1 HN1.out (pcs_one _) (by unfold maxLen; omega) (by omega) hsz ?_; intro v1 w1 hown1 hgrow1 hnil1; have H1 : Hid (Below w.heap.size w w1) := HS.out.bel.trans (below_grown HS.out.own hgrow1 hsz); have HN2 : Hid (∀ j u, (pcs rb)[j]? = some u → w1.cell? ((⟨bb, ob, none⟩ : Addr).add j) = some u) := (HRB.out.below H1.out hbb).news; have HO1 : Hid (w1.ownsRow w.heap.size 57 2 v1 (done.length + na) (pcs done ++ pcs ra)) := hown1; clear hown1 hgrow1 hnil1)
          | (at_builtin; refine wpList_append_own _ rfl _ _ 53 rfl w.heap.size 57 i0 (.agg #[.int .i64 0, .nilFunc]) 2 16 Try.underlying53 HI.out.1 HI.out.2.1 HI.out.2.2.1 HI.out.2.2.2 rfl (by decide) v1 (done.length + na) (pcs done ++ pcs ra) rfl HO1.out ⟨bb, ob, none⟩ 0 cb (pcs rb) rfl hl2 HN2.out (pcs_one _) (by unfold maxLen; omega) (by omega) H1.out.size ?_; intro v2 w2 hown2 hgrow2 hnil2; have H2 : Hid (Below w.heap.size w w2) := H1.out.trans (below_grown HO1.out hgrow2 H1.out.size); have HO2 : Hid (w2.ownsRow w.heap.size 57 2 v2 (done.length + na + 0) (pcs done ++ pcs ra ++ pcs rb)) := hown2; clear hown2 hgrow2 hnil2))
        go_ret
        refine ⟨v2, rfl, ?_, H2.out⟩
        have h := HO2.out
        rw [HF.out, pcs_append, pcs_append, List.length_append, List.length_append, HNA.out.1, HNA.out.2]
        exact h
    · obtain ⟨x, ra, rfl⟩ : ∃ x r, ra = x :: r := by
        cases ra with
        | nil => exact absurd (.inl rfl) hstop
        | cons x r => exact ⟨x, r, rfl⟩
      obtain ⟨y, rb, rfl⟩ : ∃ x r, rb = x :: r := by
        cases rb with
        | nil => exact absurd (.inr rfl) hstop
        | cons x r => exact ⟨x, r, rfl⟩
      clear fin hstop
      obtain ⟨r1, r2, r3⟩ := HRA.out.cons
      obtain ⟨q1, q2, q3⟩ := HRB.out.cons
      have HRA3 : Hid (PRow w ba (oa + 2) ra) := r3
      have HRB3 : Hid (PRow w bb (ob + 2) rb) := q3
      have R1 : wr.cell? ⟨ba, oa, none⟩ = some (.int .i64 (x.wt : Nat)) := by rw [HS.out.bel.cell hba]; exact r1
      have R2 : wr.cell? ⟨ba, oa + 1, none⟩ = some x.fv := by rw [HS.out.bel.cell hba]; exact r2
      have R3 : wr.cell? ⟨bb, ob, none⟩ = some (.int .i64 (y.wt : Nat)) := by rw [HS.out.bel.cell hbb]; exact q1
      have R4 : wr.cell? ⟨bb, ob + 1, none⟩ = some y.fv := by rw [HS.out.bel.cell hbb]; exact q2
      clear r1 r2 r3 q1 q2 q3
      obtain ⟨k, hk⟩ : ∃ k, ra.length = k := ⟨_, rfl⟩
      obtain ⟨j, hj⟩ : ∃ k, rb.length = k := ⟨_, rfl⟩
      have HK : Hid (ra.length = k ∧ rb.length = j) := ⟨hk, hj⟩
      have hlk : (x :: ra).length = k + 1 := by simp [hk]
      have hlj : (y :: rb).length = j + 1 := by simp [hj]
      rw [hlk, hlj]
      rw [hlk] at hca
      rw [hlj] at hcb
      rw [hlk, hlj] at hdl
      have hdl2 : done.length + 1 ≤ 100000 := by omega
      have hsz := HS.out.bel.size
      have HOW : Hid (∀ o, (wr.drew.drew.alloc o).ownsRow w.heap.size 57 2 V done.length (pcs done) ∧ w.heap.size ≤ (wr.drew.drew.alloc o).heap.size) := fun o => ⟨(owns_below HS.out.own (Below.refl _ wr).drew.drew).alloc o, by simp; omega⟩
      clear hk hj hlk hlj
      by_cases hlt : y.wt < x.wt
      · have hlti : (y.wt : Int) < (x.wt : Int) := by omega
        by_cases hc1 : cb = 1
        · obtain rfl : j = 0 := by omega
          subst hc1
          go_wp2_with fail
          go_region
          all_goals
            go_wp2_with fail
            go_region_held_law (fun w' => w'.cell? ⟨bb, ob, none⟩ = some (.int .i64 (y.wt : Nat)) ∧ w'.cell? ⟨bb, ob + 1, none⟩ = some y.fv)
              (first | assumption | go_keep)
              (first | (refine step_append_lies _ rfl _ _ 53 rfl w.heap.size 57 i0 (.agg #[.int .i64 0, .nilFunc]) 2 16 Try.underlying53 HI.out.1 HI.out.2.1 HI.out.2.2.1 HI.out.2.2.2 rfl (by decide) V done.length (pcs done) rfl (HOW.out _).1 ⟨_, 0, none⟩ 1 1 [.int .i64 (y.wt : Nat), y.fv] rfl rfl (news2 _ _ _ _) (one2 _ _) (by decide) (by unfold maxLen; omega) (by omega) (HOW.out _).2 _ rfl ?_; intro g cap w1 hown hgrow hat hgl; have hbg := below_grown (HOW.out _).1 hgrow (HOW.out _).2; have KS1 := (⟨by rw [hbg.cell hbb]; go_simp, by rw [hbg.cell hbb]; go_simp⟩ : w1.cell? ⟨bb, ob, none⟩ = some (.int .i64 (y.wt : Nat)) ∧ w1.cell? ⟨bb, ob + 1, none⟩ = some y.fv); (try go_simp)))
            all_goals
              have H2 : Hid (MrgSt w w1 A B (done ++ [y]) (x :: ra) rb (.slice (some ⟨g, 0, none⟩) (done.length + 1) cap)) := by
                have e1 : MrgSt w wr.drew A B done (x :: ra) (y :: rb) V := ⟨HS.out.all, HS.out.len, owns_below HS.out.own (Below.refl _ wr).drew, HS.out.bel.drew⟩
                exact e1.more (by rw [mrg_cons, if_pos hlt]) (by simp; omega) hown hgrow
              clear hown hgrow hat hgl hbg KS1
              go_wp2
              refine ⟨?_, by simp⟩
              exact ⟨oa, ca, ob, 0, done ++ [y], x :: ra, rb, _, rfl, by simp [HK.out.1], by have := HK.out.1; simp; omega, hca2, by simp [HK.out.2], by simp [HK.out.2], by omega, HRA, by rw [List.eq_nil_of_length_eq_zero HK.out.2]; intro i t ht; simp at ht, H2⟩
        · have hc1' : ¬ (cb = 1) := hc1
          go_wp2_with fail
          go_region
          all_goals
            go_wp2_with fail
            go_region_held_law (fun w' => w'.cell? ⟨bb, ob, none⟩ = some (.int .i64 (y.wt : Nat)) ∧ w'.cell? ⟨bb, ob + 1, none⟩ = some y.fv)
              (first | assumption | go_keep)
              (first | (refine step_append_lies _ rfl _ _ 53 rfl w.heap.size 57 i0 (.agg #[.int .i64 0, .nilFunc]) 2 16 Try.underlying53 HI.out.1 HI.out.2.1 HI.out.2.2.1 HI.out.2.2.2 rfl (by decide) V done.length (pcs done) rfl (HOW.out _).1 ⟨_, 0, none⟩ 1 1 [.int .i64 (y.wt : Nat), y.fv] rfl rfl (news2 _ _ _ _) (one2 _ _) (by decide) (by unfold maxLen; omega) (by omega) (HOW.out _).2 _ rfl ?_; intro g cap w1 hown hgrow hat hgl; have hbg := below_grown (HOW.out _).1 hgrow (HOW.out _).2; have KS1 := (⟨by rw [hbg.cell hbb]; go_simp, by rw [hbg.cell hbb]; go_simp⟩ : w1.cell? ⟨bb, ob, none⟩ = some (.int .i64 (y.wt : Nat)) ∧ w1.cell? ⟨bb, ob + 1, none⟩ = some y.fv); (try go_simp)))
            all_goals
              have H2 : Hid (MrgSt w w1 A B (done ++ [y]) (x :: ra) rb (.slice (some ⟨g, 0, none⟩) (done.length + 1) cap)) := by
                have e1 : MrgSt w wr.drew A B done (x :: ra) (y :: rb) V := ⟨HS.out.all, HS.out.len, owns_below HS.out.own (Below.refl _ wr).drew, HS.out.bel.drew⟩
                exact e1.more (by rw [mrg_cons, if_pos hlt]) (by simp; omega) hown hgrow
              clear hown hgrow hat hgl hbg KS1
              go_wp2
              refine ⟨?_, by simp⟩
              exact ⟨oa, ca, ob + 2, cb - 1, done ++ [y], x :: ra, rb, _, rfl, by simp [HK.out.1], by have := HK.out.1; simp; omega, hca2, by rw [HK.out.2], by have := HK.out.2; omega, by omega, HRA, HRB3, H2⟩
      · have hlti : ¬ (y.wt : Int) < (x.wt : Int) := by omega
        by_cases hc1 : ca = 1
        · obtain rfl : k = 0 := by omega
          subst hc1
          go_wp2_with fail
          go_region
          all_goals
            go_wp2_with fail
            go_region_held_law (fun w' => w'.cell? ⟨ba, oa, none⟩ = some (.int .i64 (x.wt : Nat)) ∧ w'.cell? ⟨ba, oa + 1, none⟩ = some x.fv)
              (first | assumption | go_keep)
              (first | (refine step_append_lies _ rfl _ _ 53 rfl w.heap.size 57 i0 (.agg #[.int .i64 0, .nilFunc]) 2 16 Try.underlying53 HI.out.1 HI.out.2.1 HI.out.2.2.1 HI.out.2.2.2 rfl (by decide) V done.length (pcs done) rfl (HOW.out _).1 ⟨_, 0, none⟩ 1 1 [.int .i64 (x.wt : Nat), x.fv] rfl rfl (news2 _ _ _ _) (one2 _ _) (by decide) (by unfold maxLen; omega) (by omega) (HOW.out _).2 _ rfl ?_; intro g cap w1 hown hgrow hat hgl; have hbg := below_grown (HOW.out _).1 hgrow (HOW.out _).2; have KS1 := (⟨by rw [hbg.cell hba]; go_simp, by rw [hbg.cell hba]; go_simp⟩ : w1.cell? ⟨ba, oa, none⟩ = some (.int .i64 (x.wt : Nat)) ∧ w1.cell? ⟨ba, oa + 1, none⟩ = some x.fv); (try go_simp)))
            all_goals
              have H2 : Hid (MrgSt w w1 A B (done ++ [x]) ra (y :: rb) (.slice (some ⟨g, 0, none⟩) (done.length + 1) cap)) := by
                have e1 : MrgSt w wr.drew A B done (x :: ra) (y :: rb) V := ⟨HS.out.all, HS.out.len, owns_below HS.out.own (Below.refl _ wr).drew, HS.out.bel.drew⟩
                exact e1.more (by rw [mrg_cons, if_neg hlt]) (by simp; omega) hown hgrow
              clear hown hgrow hat hgl hbg KS1
              go_wp2
              refine ⟨?_, by simp⟩
              exact ⟨oa, 0, ob, cb, done ++ [x], ra, y :: rb, _, rfl, by simp [HK.out.1], by simp [HK.out.1], by omega, by simp [HK.out.2], by have := HK.out.2; simp; omega, hcb2, by rw [List.eq_nil_of_length_eq_zero HK.out.1]; intro i t ht; simp at ht, HRB, H2⟩
        · have hc1' : ¬ (ca = 1) := hc1
          go_wp2_with fail
          go_region
          all_goals
            go_wp2_with fail
            go_region_held_law (fun w' => w'.cell? ⟨ba, oa, none⟩ = some (.int .i64 (x.wt : Nat)) ∧ w'.cell? ⟨ba, oa + 1, none⟩ = some x.fv)
              (first | assumption | go_keep)
              (first | (refine step_append_lies _ rfl _ _ 53 rfl w.heap.size 57 i0 (.agg #[.int .i64 0, .nilFunc]) 2 16 Try.underlying53 HI.out.1 HI.out.2.1 HI.out.2.2.1 HI.out.2.2.2 rfl (by decide) V done.length (pcs done) rfl (HOW.out _).1 ⟨_, 0, none⟩ 1 1 [.int .i64 (x.wt : Nat), x.fv] rfl rfl (news2 _ _ _ _) (one2 _ _) (by decide) (by unfold maxLen; omega) (by omega) (HOW.out _).2 _ rfl ?_; intro g cap w1 hown hgrow hat hgl; have hbg := below_grown (HOW.out _).1 hgrow (HOW.out _).2; have KS1 := (⟨by rw [hbg.cell hba]; go_simp, by rw [hbg.cell hba]; go_simp⟩ : w1.cell? ⟨ba, oa, none⟩ = some (.int .i64 (x.wt : Nat)) ∧ w1.cell? ⟨ba, oa + 1, none⟩ = some x.fv); (try go_simp)))
            all_goals
              have H2 : Hid (MrgSt w w1 A B (done ++ [x]) ra (y :: rb) (.slice (some ⟨g, 0, none⟩) (done.length + 1) cap)) := by
                have e1 : MrgSt w wr.drew A B done (x :: ra) (y :: rb) V := ⟨HS.out.all, HS.out.len, owns_below HS.out.own (Below.refl _ wr).drew, HS.out.bel.drew⟩
                exact e1.more (by rw [mrg_cons, if_neg hlt]) (by simp; omega) hown hgrow
              clear hown hgrow hat hgl hbg KS1
              go_wp2
              refine ⟨?_, by simp⟩
              exact ⟨oa + 2, ca - 1, ob, cb, done ++ [x], ra, y :: rb, _, rfl, by rw [HK.out.1], by have := HK.out.1; omega, by omega, by simp [HK.out.2], by have := HK.out.2; simp; omega, hcb2, HRA3, HRB, H2⟩
end Go.Proofs.Ytklipommocijaaa
