/- Layer 5: lengths without the noughts at their end; the symbol that repeats a length. -/
/- Layer 5: one length so many times, as pieces. -/
/- Layer 5: lengths as pieces. -/
import Derived.Test.YtbcflkdaeboflaaDoorV24
namespace Go.Proofs.YtbcflkdaeboflaaDoor
open Go.RowKit
set_option linter.unusedVariables false
set_option maxRecDepth 20000

set_option maxHeartbeats 1000000 in
theorem trimmed_ok (g N cap least : Nat) (f : Nat → Nat) (w : World) (hr : LB w g N f) (hN : N ≤ 1000) (hl : least ≤ N) (hc : N ≤ cap) (hf : ∀ i, f i ≤ 15) :
    Calls Tryd.prog 64 #[.slice (some ⟨g, 0, none⟩) N cap, .int .i64 (least : Nat)] w fun e w' => (∃ m, least ≤ m ∧ m ≤ N ∧ (∀ i, m ≤ i → i < N → f i = 0) ∧ e = .returned (.slice (some ⟨g, 0, none⟩) m cap)) ∧ ∃ k, w' = w.drewN k := by
  have HR : Hid (LB w g N f ∧ ∀ i, f i ≤ 15) := ⟨hr, hf⟩
  clear hr hf
  go_enter Tryd.func64, Tryd.ntmps64
  go_wp2_with fail
  go_loopw [5] (fun v5 wr => ∃ m : Nat, v5 = .int .i64 (m : Nat) ∧ least ≤ m ∧ m ≤ N ∧ Hid ((∀ i, m ≤ i → i < N → f i = 0) ∧ ∃ k, wr = w.drewN k)) (fun v5 _ => (intOf v5).toNat)
  case atStart => exact ⟨N, rfl, hl, Nat.le_refl _, fun i h1 h2 => by omega, 0, rfl⟩
  case round =>
    obtain ⟨m, rfl, h1, h2, HS⟩ := hrel
    obtain ⟨hz, k, hk⟩ := HS.out
    subst hk
    clear HS
    by_cases hgt : least < m
    · have hgti : (least : Int) < (m : Int) := by omega
      obtain ⟨q, hq⟩ : ∃ q, m = q + 1 := ⟨m - 1, by omega⟩
      subst hq
      have hqi : ((q + 1 : Nat) : Int) - 1 = (q : Int) := by omega
      have hqw := D5.wrapN q (by omega)
      have hqN : (q : Int) < (N : Int) := by omega
      have hc0 : (w.drewN k).cell? ⟨g, q, none⟩ = some (.int .i64 (f q : Nat)) := (HR.out.1.cell (i := q) (by omega)).1
      obtain ⟨x, hx⟩ : ∃ x, f q = x := ⟨_, rfl⟩
      rw [hx] at hc0
      obtain ⟨M, hM⟩ : ∃ M, q + 1 = M := ⟨_, rfl⟩
      rw [hM] at hgti hqi ⊢
      by_cases h0 : x = 0
      · have h0b : ((x : Int) == 0) = true := by simp [h0]
        have HZ : Hid ((∀ i, q ≤ i → i < N → f i = 0) ∧ ∃ k', w.drewN k = w.drewN k') := ⟨fun i a b => by
          by_cases e : i = q
          · rw [e, hx, h0]
          · exact hz i (by omega) b, k, rfl⟩
        clear hz h0 hx
        go_wp2
        exact ⟨⟨q, rfl, by omega, by omega, HZ⟩, by simp [intOf]; omega⟩
      · have h0b : ((x : Int) == 0) = false := by simp; omega
        have HZ : Hid ((∀ i, M ≤ i → i < N → f i = 0) ∧ ∃ k', w.drewN k = w.drewN k') := ⟨by rw [← hM]; exact hz, k, rfl⟩
        have hMc : (M : Int) ≤ (cap : Int) := by omega
        have hMN : M ≤ N ∧ least ≤ M := ⟨by omega, by omega⟩
        clear hz h0 hx
        go_wp2
        go_ret
        exact ⟨⟨M, hMN.2, hMN.1, HZ.out.1, rfl⟩, HZ.out.2⟩
    · have hgti : ¬ (least : Int) < (m : Int) := by omega
      have HZ : Hid ((∀ i, m ≤ i → i < N → f i = 0) ∧ ∃ k', w.drewN k = w.drewN k') := ⟨hz, k, rfl⟩
      have hMc : (m : Int) ≤ (cap : Int) := by omega
      clear hz
      go_wp2
      go_ret
      exact ⟨⟨m, h1, h2, HZ.out.1, rfl⟩, HZ.out.2⟩
/-- The symbol that repeats, and how often it does. -/
def repK (len times : Nat) : (Nat × Nat × Nat) × Nat := if 0 < len then ((16, min times 6 - 3, 2), min times 6) else if times ≤ 10 then ((17, times - 3, 3), times) else ((18, min times 138 - 11, 7), min times 138)
set_option maxHeartbeats 1000000 in
theorem repeated_ok (len times : Nat) (h3 : 3 ≤ times) (ht : times ≤ 1000) (w : World) : Calls Tryd.prog 90 #[.int .i64 (len : Nat), .int .i64 (times : Nat)] w fun e w' => e = .returned (.tuple #[D5.pieceV (repK len times).1, .int .i64 ((repK len times).2 : Nat)]) ∧ Below w.heap.size w w' := by
  have HRET : Hid (∀ (a b c n : Nat) (A : Act), A.defers = [] → A.tmps.getD 4 undef = .pointer (some ⟨w.heap.size, 0, none⟩) → A.tmps.getD 5 undef = .int .i64 (n : Nat) → repK len times = ((a, b, c), n) → bodyPost Tryd.prog Tryd.f90 (fun e w' => e = .returned (.tuple #[D5.pieceV (repK len times).1, .int .i64 ((repK len times).2 : Nat)]) ∧ Below w.heap.size w w') .ret A (w.alloc (.cells #[.int .i64 (a : Nat), .int .i64 (b : Nat), .int .i64 (c : Nat)] 113))) := fun a b c n A hd h4 h5 hr => by
    have hb := heap_alloc_new w (.cells #[.int .i64 (a : Nat), .int .i64 (b : Nat), .int .i64 (c : Nat)] 113)
    obtain ⟨W, hW⟩ : ∃ W, w.alloc (.cells #[.int .i64 (a : Nat), .int .i64 (b : Nat), .int .i64 (c : Nat)] 113) = W := ⟨_, rfl⟩
    have hbl : Below w.heap.size w W := by rw [← hW]; exact (Below.refl _ _).alloc (Nat.le_refl _) _
    rw [hW] at hb ⊢
    have x0 : W.cell? ⟨w.heap.size, 0, none⟩ = some (.int .i64 (a : Nat)) := by simp [World.cell?, hb]
    have x1 : W.cell? ⟨w.heap.size, 1, none⟩ = some (.int .i64 (b : Nat)) := by simp [World.cell?, hb]
    have x2 : W.cell? ⟨w.heap.size, 2, none⟩ = some (.int .i64 (c : Nat)) := by simp [World.cell?, hb]
    refine bodyPost_ret (v := .tuple #[D5.pieceV (a, b, c), .int .i64 (n : Nat)]) ?_ hd ?_
    · rw [D5.results_cell_tmp rfl, h4, h5]
      go_simp
      rfl
    rw [hr]
    exact ⟨rfl, hbl⟩
  by_cases hl : 0 < len
  · have hli : (0 : Int) < (len : Int) := by omega
    have hr : repK len times = ((16, min times 6 - 3, 2), min times 6) := by unfold repK; rw [if_pos hl]
    obtain ⟨n, hn⟩ : ∃ n, min times 6 = n := ⟨_, rfl⟩
    have hni : min (times : Int) 6 = (n : Int) := by omega
    obtain ⟨y, hy⟩ : ∃ y, n - 3 = y := ⟨_, rfl⟩
    have hyi : (n : Int) - 3 = (y : Int) := by omega
    have hyw := D5.wrapN y (by omega)
    rw [hn, hy] at hr
    have HR : Hid (repK len times = ((16, y, 2), n)) := hr
    clear hr hn hy
    go_enter Tryd.func90, Tryd.ntmps90
    go_wp2
    refine HRET.out 16 y 2 n _ ?_ ?_ ?_ HR.out <;> rfl
  · have hli : ¬ (0 : Int) < (len : Int) := by omega
    by_cases h10 : times ≤ 10
    · have h10i : (times : Int) ≤ 10 := by omega
      have hr : repK len times = ((17, times - 3, 3), times) := by unfold repK; rw [if_neg hl, if_pos h10]
      obtain ⟨y, hy⟩ : ∃ y, times - 3 = y := ⟨_, rfl⟩
      have hyi : (times : Int) - 3 = (y : Int) := by omega
      have hyw := D5.wrapN y (by omega)
      rw [hy] at hr
      have HR : Hid (repK len times = ((17, y, 3), times)) := hr
      clear hr hy
      go_enter Tryd.func90, Tryd.ntmps90
      go_wp2
      refine HRET.out 17 y 3 times _ ?_ ?_ ?_ HR.out <;> rfl
    · have h10i : ¬ (times : Int) ≤ 10 := by omega
      have hr : repK len times = ((18, min times 138 - 11, 7), min times 138) := by unfold repK; rw [if_neg hl, if_neg h10]
      obtain ⟨n, hn⟩ : ∃ n, min times 138 = n := ⟨_, rfl⟩
      have hni : min (times : Int) 138 = (n : Int) := by omega
      obtain ⟨y, hy⟩ : ∃ y, n - 11 = y := ⟨_, rfl⟩
      have hyi : (n : Int) - 11 = (y : Int) := by omega
      have hyw := D5.wrapN y (by omega)
      rw [hn, hy] at hr
      have HR : Hid (repK len times = ((18, y, 7), n)) := hr
      clear hr hn hy
      go_enter Tryd.func90, Tryd.ntmps90
      go_wp2
      refine HRET.out 18 y 7 n _ ?_ ?_ ?_ HR.out <;> rfl
end Go.Proofs.YtbcflkdaeboflaaDoor
namespace Go.Proofs.YtbcflkdaeboflaaDoor
open Go.RowKit
set_option linter.unusedVariables false
set_option maxRecDepth 20000

theorem pieInfo : (Tryd.prog.info? 113).map (fun i => (i.zero, i.size, i.bytes)) = some (some (.agg #[.int .i64 0, .int .i64 0, .int .i64 0]), 3, 24) := by kernel_rfl
/-- A piece's cells. -/
def qc (p : Nat × Nat × Nat) : List Value := [.int .i64 (p.1 : Nat), .int .i64 (p.2.1 : Nat), .int .i64 (p.2.2 : Nat)]
def qcs : List (Nat × Nat × Nat) → List Value
  | [] => []
  | p :: P => qc p ++ qcs P
theorem qcs_append (L M : List (Nat × Nat × Nat)) : qcs (L ++ M) = qcs L ++ qcs M := by
  induction L with
  | nil => rfl
  | cons x L ih => simp [qcs, ih]
theorem qcs_length (L : List (Nat × Nat × Nat)) : (qcs L).length = L.length * 3 := by
  induction L with
  | nil => rfl
  | cons x L ih => simp only [qcs, List.length_append, ih, List.length_cons]; show 3 + _ = _; omega
theorem qcs_get (L : List (Nat × Nat × Nat)) (i : Nat) (r : Nat × Nat × Nat) (h : L[i]? = some r) (j : Nat) (hj : j < 3) : (qcs L)[i * 3 + j]? = (qc r)[j]? := by
  induction L generalizing i with
  | nil => simp at h
  | cons x L ih =>
    cases i with
    | zero =>
      simp at h
      subst h
      rw [qcs, List.getElem?_append_left (by show 0 * 3 + j < 3; omega)]
      simp
    | succ i =>
      simp at h
      rw [qcs, List.getElem?_append_right (by show 3 ≤ _; omega), show (i + 1) * 3 + j - (qc x).length = i * 3 + j by show (i + 1) * 3 + j - 3 = _; omega]
      exact ih i h
theorem newsPie (W : World) (p : Nat × Nat × Nat) : ∀ j u, (qc p)[j]? = some u → (W.alloc (.cells #[.int .i64 (p.1 : Nat), .int .i64 (p.2.1 : Nat), .int .i64 (p.2.2 : Nat)] 113)).cell? ((⟨W.heap.size, 0, none⟩ : Addr).add j) = some u := by
  intro j u h
  rw [D5.add_zero_addr]
  unfold World.cell?
  rw [heap_alloc_new]
  match j, h with
  | 0, h => simpa [qc] using h
  | 1, h => simpa [qc] using h
  | 2, h => simpa [qc] using h
  | j + 3, h => simp [qc] at h
theorem onePie (p : Nat × Nat × Nat) : ∀ u ∈ qc p, u.oneCell' = true := by
  intro u hu
  simp only [qc, List.mem_cons, List.not_mem_nil, or_false] at hu
  rcases hu with rfl | rfl | rfl <;> rfl
/-- A row of pieces of the call's own, from block B on. -/
def QR (w0 : World) (B : Nat) (v : Value) (P : List (Nat × Nat × Nat)) (w : World) : Prop := w.ownsRow B 113 3 v P.length (qcs P) ∧ Below B w0 w ∧ B ≤ w.heap.size
theorem QR.quiet {w0 w w' : World} {B : Nat} {v : Value} {P : List (Nat × Nat × Nat)} (h : QR w0 B v P w) (hb : Below w.heap.size w w') : QR w0 B v P w' := ⟨D5.owns_below h.1 hb, h.2.1.trans (hb.mono h.2.2), Nat.le_trans h.2.2 hb.size⟩
theorem QR.form {w0 w : World} {B : Nat} {v : Value} {P : List (Nat × Nat × Nat)} (h : QR w0 B v P w) : ∃ ao cp, v = .slice ao P.length cp := D5.owns_form h.1
theorem QR.more {w0 w w' : World} {B : Nat} {v : Value} {P : List (Nat × Nat × Nat)} {p : Nat × Nat × Nat} {g cap : Nat} (h : QR w0 B v P w) (hown : w'.ownsRow B 113 3 (.slice (some ⟨g, 0, none⟩) (P.length + 1) cap) (P.length + 1) (qcs P ++ qc p)) (hg : w.grownBy w' v.ownBlock) : QR w0 B (.slice (some ⟨g, 0, none⟩) (P.length + 1) cap) (P ++ [p]) w' := by
  refine ⟨?_, h.2.1.trans (D5.Below.grown h.1 hg h.2.2), Nat.le_trans h.2.2 hg.size⟩
  rw [List.length_append, List.length_singleton, qcs_append]
  have : qcs [p] = qc p := by simp [qcs]
  rw [this]; exact hown
/-- So many times a length, by symbols that repeat it where they can. -/
def reps (len : Nat) : Nat → Nat → List (Nat × Nat × Nat)
  | 0, t => List.replicate t (len, 0, 0)
  | f + 1, t => if 3 ≤ t then (repK len t).1 :: reps len f (t - (repK len t).2) else List.replicate t (len, 0, 0)
def runP (len times : Nat) : List (Nat × Nat × Nat) := if 0 < len then (len, 0, 0) :: reps len times (times - 1) else reps len times times
theorem repK_b (len t : Nat) (h : 3 ≤ t) : 3 ≤ (repK len t).2 ∧ (repK len t).2 ≤ t := by
  unfold repK
  split
  · simp only; omega
  · split
    · simp only; omega
    · simp only; omega
theorem reps_end {len f t : Nat} (h : ¬ 3 ≤ t) : reps len f t = List.replicate t (len, 0, 0) := by
  cases f with
  | zero => rfl
  | succ f => unfold reps; rw [if_neg h]
theorem reps_length (len : Nat) : ∀ f t, (reps len f t).length ≤ t
  | 0, t => by simp [reps]
  | f + 1, t => by
    unfold reps
    split
    · rename_i h
      have h1 := repK_b len t h
      have h2 := reps_length len f (t - (repK len t).2)
      simp only [List.length_cons]; omega
    · simp
theorem runP_length (len times : Nat) (h : 1 ≤ times) : (runP len times).length ≤ times := by
  unfold runP
  split
  · have := reps_length len times (times - 1); simp only [List.length_cons]; omega
  · exact reps_length len times times
theorem pie_room {L : Nat} (h : L ≤ 100000) : L + 1 ≤ maxLen ∧ (L + 1) * 24 ≤ 140737488355328 := by
  unfold maxLen; exact ⟨by omega, by omega⟩
set_option maxHeartbeats 4000000 in
theorem appendRun_ok (len times : Nat) (v : Value) (P : List (Nat × Nat × Nat)) (B : Nat) (w0 w : World) (hq : QR w0 B v P w) (ht : 1 ≤ times) (ht2 : times ≤ 1000) (hP : P.length ≤ 10000) (hl : len ≤ 15) :
    Calls Tryd.prog 78 #[v, .int .i64 (len : Nat), .int .i64 (times : Nat)] w fun e w' => ∃ v', e = .returned v' ∧ QR w0 B v' (P ++ runP len times) w' := by
  obtain ⟨i0, hi0, hz0, hz1, hz2⟩ := D5.info_split pieInfo
  have HI : Hid (Tryd.prog.info? 113 = some i0 ∧ i0.zero = some (.agg #[.int .i64 0, .int .i64 0, .int .i64 0]) ∧ i0.size = 3 ∧ i0.bytes = 24) := ⟨hi0, hz0, hz1, hz2⟩
  clear hi0 hz0 hz1 hz2
  have HQ : Hid (QR w0 B v P w ∧ P.length ≤ 10000) := ⟨hq, hP⟩
  obtain ⟨R, hR⟩ : ∃ R, P ++ runP len times = R := ⟨_, rfl⟩
  rw [hR]
  have HR : Hid (P ++ runP len times = R) := hR
  clear hq hP hR
  go_enter Tryd.func78, Tryd.ntmps78
  have hRl : R.length ≤ 11001 := by
    rw [← HR.out, List.length_append]
    have := runP_length len times ht
    have := HQ.out.2
    omega
  have HRL : Hid (R.length ≤ 11001) := hRl
  clear hRl
  obtain ⟨ao, cp, hv⟩ := HQ.out.1.form
  obtain ⟨LP, hLP⟩ : ∃ LP, P.length = LP := ⟨_, rfl⟩
  rw [hLP] at hv
  subst hv
  go_upto_if 10 with fail
  go_cut [0, 2] (fun v0 v2 wc => ∃ t : Nat, v2 = .int .i64 (t : Nat) ∧ t ≤ times ∧ Hid (∃ Q, QR w0 B v0 Q wc ∧ Q ++ reps len times t = R))
  case first =>
    as_aux_lemma =>
      by_cases h0 : 0 < len
      · have h0i : (0 : Int) < (len : Int) := by omega
        obtain ⟨t, ht1⟩ : ∃ t, times - 1 = t := ⟨_, rfl⟩
        have ht1i : (times : Int) - 1 = (t : Int) := by omega
        have ht1w := D5.wrapN t (by omega)
        have HOW : Hid (∀ o, (w.alloc o).ownsRow B 113 3 (.slice ao LP cp) LP (qcs P) ∧ B ≤ (w.alloc o).heap.size) := fun o => by
          have := HQ.out.1.quiet (w' := w.alloc o) ((Below.refl _ _).alloc (Nat.le_refl _) _)
          rw [← hLP]
          refine ⟨?_, this.2.2⟩
          have h9 := this.1
          rw [hLP] at h9
          rw [hLP]
          exact h9
        have hroom : LP ≤ 100000 := by rw [← hLP]; have := HQ.out.2; omega
        have HX : Hid (P ++ ((len, 0, 0) :: reps len times t) = R) := by
          have := HR.out
          unfold runP at this
          rw [if_pos h0, ht1] at this
          exact this
        clear h0
        go_wp2_with (at_builtin; refine wpList_append_lies _ rfl _ _ 90 rfl B 113 i0 (.agg #[.int .i64 0, .int .i64 0, .int .i64 0]) 3 24 Tryd.underlying90 HI.out.1 HI.out.2.1 HI.out.2.2.1 HI.out.2.2.2 rfl (by decide) (.slice ao LP cp) LP (qcs P) rfl (HOW.out _).1 ⟨w.heap.size, 0, none⟩ 1 1 (qc (len, 0, 0)) rfl rfl ?c1 ?c2 (by decide) ?c3 ?c4 (HOW.out _).2 _ rfl ?_)
        case c1 => first | exact newsPie _ (len, 0, 0) | exact fun j u h => h
        case c2 => exact onePie _
        case c3 => exact (pie_room hroom).1
        case c4 => exact (pie_room hroom).2
        intro g cap w5 hown hgrow hat hgl
        have H5 : Hid (QR w0 B (.slice (some ⟨g, 0, none⟩) (LP + 1) cap) (P ++ [(len, 0, 0)]) w5) := by
          have hq0 := HQ.out.1.quiet (w' := w.alloc (.cells #[.int .i64 (len : Nat), .int .i64 0, .int .i64 0] 113)) ((Below.refl _ _).alloc (Nat.le_refl _) _)
          rw [← hLP]
          refine QR.more hq0 ?_ ?_
          · rw [hLP]; exact hown
          · exact hgrow
        clear hown hgrow hat hgl HOW
        go_wp2_with fail
        go_meet
        case rel => exact ⟨t, rfl, by omega, P ++ [(len, 0, 0)], H5.out, by rw [List.append_assoc]; exact HX.out⟩
      · have h0i : ¬ (0 : Int) < (len : Int) := by omega
        have HX : Hid (P ++ reps len times times = R) := by
          have := HR.out
          unfold runP at this
          rw [if_neg h0] at this
          exact this
        clear h0
        go_wp2_with fail
        go_meet
        case rel => exact ⟨times, rfl, Nat.le_refl _, P, HQ.out.1, HX.out⟩
  case rest =>
    obtain ⟨t0, rfl, ht0, HS0⟩ := hcut
    clear HQ HR
    go_upto_block 0 with fail
    go_cut [0, 2] (fun v0 v2 wd => ∃ t : Nat, v2 = .int .i64 (t : Nat) ∧ t < 3 ∧ Hid (∃ Q, QR w0 B v0 Q wd ∧ Q ++ List.replicate t (len, 0, 0) = R))
    case first =>
      as_aux_lemma =>
        go_wp2_with fail
        go_loopw [0, 2] (fun v0 v2 wr => ∃ t : Nat, v2 = .int .i64 (t : Nat) ∧ t ≤ 1000 ∧ Hid (∃ Q f, QR w0 B v0 Q wr ∧ Q ++ reps len f t = R ∧ t ≤ f)) (fun _ v2 _ => (intOf v2).toNat)
        case atStart =>
          obtain ⟨Q, h1, h2⟩ := HS0.out
          exact ⟨t0, rfl, by omega, Q, times, h1, h2, ht0⟩
        case round =>
          obtain ⟨t, rfl, ht9, HS⟩ := hrel
          by_cases h3 : 3 ≤ t
          · have h3i : (3 : Int) ≤ (t : Int) := by omega
            obtain ⟨Q, f, hq, hQ, hf⟩ := HS.out
            obtain ⟨f, rfl⟩ : ∃ f', f = f' + 1 := ⟨f - 1, by omega⟩
            unfold reps at hQ
            rw [if_pos h3] at hQ
            have hrb := repK_b len t h3
            obtain ⟨ao2, cp2, hv⟩ := hq.form
            subst hv
            obtain ⟨LQ, hLQ⟩ : ∃ LQ, Q.length = LQ := ⟨_, rfl⟩
            have hroom : LQ ≤ 100000 := by
              rw [← hLQ]
              have h8 := HRL.out
              rw [← hQ, List.length_append] at h8
              omega
            have HRE : Hid (∀ W', Calls Tryd.prog 90 #[.int .i64 (len : Nat), .int .i64 (t : Nat)] W' fun e w' => e = .returned (.tuple #[D5.pieceV (repK len t).1, .int .i64 ((repK len t).2 : Nat)]) ∧ Below W'.heap.size W' w') := fun W' => repeated_ok len t h3 ht9 W'
            obtain ⟨⟨⟨a, b, c⟩, n⟩, hk⟩ : ∃ p, repK len t = p := ⟨_, rfl⟩
            rw [hk] at HRE hQ hrb
            simp only at HRE hQ hrb
            obtain ⟨t2, ht2'⟩ : ∃ t2, t - n = t2 := ⟨_, rfl⟩
            have ht2i : (t : Int) - (n : Int) = (t2 : Int) := by omega
            have ht2w := D5.wrapN t2 (by omega)
            have ht2l : t2 < t ∧ t2 ≤ f := ⟨by omega, by omega⟩
            rw [ht2'] at hQ
            have HQ : Hid (QR w0 B (.slice ao2 LQ cp2) Q wr ∧ Q ++ (a, b, c) :: reps len f t2 = R ∧ Q.length = LQ) := ⟨by rw [← hLQ]; exact hq, hQ, hLQ⟩
            have ep : D5.pieceV (a, b, c) = .agg #[.int .i64 (a : Nat), .int .i64 (b : Nat), .int .i64 (c : Nat)] := rfl
            rw [ep] at HRE
            rw [hLQ]
            clear hq hQ hLQ hk ht2' hrb HS ep h3
            go_upto_region 6 with (go_at_call 90; refine (HRE.out _).mono ?_; rintro e w3 ⟨rfl, hb3⟩)
            have H3 : Hid (QR w0 B (.slice ao2 LQ cp2) Q (w3.alloc (.cells #[.int .i64 (a : Nat), .int .i64 (b : Nat), .int .i64 (c : Nat)] 113))) := (HQ.out.1.quiet hb3).quiet ((Below.refl _ _).alloc (Nat.le_refl _) _)
            have hb4 := heap_alloc_new w3 (.cells #[.int .i64 (a : Nat), .int .i64 (b : Nat), .int .i64 (c : Nat)] 113)
            obtain ⟨W4, hW4⟩ : ∃ W4, w3.alloc (.cells #[.int .i64 (a : Nat), .int .i64 (b : Nat), .int .i64 (c : Nat)] 113) = W4 := ⟨_, rfl⟩
            obtain ⟨X, hX⟩ : ∃ X, w3.heap.size = X := ⟨_, rfl⟩
            rw [hW4] at H3
            rw [hW4, hX] at hb4
            try rw [hW4]
            try rw [hX]
            have y0 : W4.cell? ⟨X, 0, none⟩ = some (.int .i64 (a : Nat)) := by simp [World.cell?, hb4]
            have y1 : W4.cell? ⟨X, 1, none⟩ = some (.int .i64 (b : Nat)) := by simp [World.cell?, hb4]
            have y2 : W4.cell? ⟨X, 2, none⟩ = some (.int .i64 (c : Nat)) := by simp [World.cell?, hb4]
            have HOW : Hid (∀ o, (W4.alloc o).ownsRow B 113 3 (.slice ao2 LQ cp2) LQ (qcs Q) ∧ B ≤ (W4.alloc o).heap.size) := fun o => by
              have h9 := H3.out.quiet (w' := W4.alloc o) ((Below.refl _ _).alloc (Nat.le_refl _) _)
              have h10 := h9.1
              rw [HQ.out.2.2] at h10
              exact ⟨h10, h9.2.2⟩
            clear hb3 hb4 hW4 HRE
            go_wp2_with (at_builtin; refine wpList_append_lies _ rfl _ _ 90 rfl B 113 i0 (.agg #[.int .i64 0, .int .i64 0, .int .i64 0]) 3 24 Tryd.underlying90 HI.out.1 HI.out.2.1 HI.out.2.2.1 HI.out.2.2.2 rfl (by decide) (.slice ao2 LQ cp2) LQ (qcs Q) rfl (HOW.out _).1 ⟨W4.heap.size, 0, none⟩ 1 1 (qc (a, b, c)) rfl rfl ?c1 ?c2 (by decide) ?c3 ?c4 (HOW.out _).2 _ rfl ?_)
            case c1 => first | exact newsPie _ (a, b, c) | exact fun j u h => h
            case c2 => exact onePie _
            case c3 => exact (pie_room hroom).1
            case c4 => exact (pie_room hroom).2
            intro g cap w5 hown hgrow hat hgl
            have H5 : Hid (QR w0 B (.slice (some ⟨g, 0, none⟩) (LQ + 1) cap) (Q ++ [(a, b, c)]) w5) := by
              have hq0 := H3.out.quiet (w' := W4.alloc (.cells #[.int .i64 (a : Nat), .int .i64 (b : Nat), .int .i64 (c : Nat)] 113)) ((Below.refl _ _).alloc (Nat.le_refl _) _)
              have h6 := QR.more (p := (a, b, c)) (g := g) (cap := cap) hq0 (by rw [HQ.out.2.2]; exact hown) (by exact hgrow)
              rw [HQ.out.2.2] at h6
              exact h6
            clear hown hgrow hat hgl HOW y0 y1 y2
            go_wp2
            exact ⟨⟨t2, rfl, by omega, Q ++ [(a, b, c)], f, H5.out, by rw [List.append_assoc]; exact HQ.out.2.1, ht2l.2⟩, by simp [intOf]; omega⟩
          · have h3i : ¬ (3 : Int) ≤ (t : Int) := by omega
            have HE : Hid (∃ Q, QR w0 B u0 Q wr ∧ Q ++ List.replicate t (len, 0, 0) = R) := by
              obtain ⟨Q, f, hq, hQ, hf⟩ := HS.out
              rw [reps_end h3] at hQ
              exact ⟨Q, hq, hQ⟩
            go_wp2_with fail
            go_meet
            case rel => exact ⟨t, rfl, by omega, HE.out⟩
    case rest =>
      obtain ⟨t1, rfl, ht1, HS1⟩ := hcut
      clear HS0
      go_wp2_with fail
      go_loopw [0, 34] (fun v0 v34 wr => ∃ i : Nat, v34 = .int .i64 (i : Nat) ∧ i ≤ t1 ∧ Hid (∃ Q, QR w0 B v0 Q wr ∧ Q ++ List.replicate (t1 - i) (len, 0, 0) = R)) (fun _ v34 _ => t1 - (intOf v34).toNat)
      case atStart => exact ⟨0, rfl, Nat.zero_le _, HS1.out⟩
      case round =>
        obtain ⟨i, rfl, hi, HS⟩ := hrel
        by_cases hlt : i < t1
        · have hlti : (i : Int) < (t1 : Int) := by omega
          obtain ⟨Q, hq, hQ⟩ := HS.out
          rw [show t1 - i = (t1 - (i + 1)) + 1 by omega, List.replicate_succ] at hQ
          obtain ⟨ao2, cp2, hv⟩ := hq.form
          subst hv
          obtain ⟨LQ, hLQ⟩ : ∃ LQ, Q.length = LQ := ⟨_, rfl⟩
          have hroom : LQ ≤ 100000 := by
            rw [← hLQ]
            have h8 := HRL.out
            rw [← hQ, List.length_append] at h8
            omega
          have HQ : Hid (QR w0 B (.slice ao2 LQ cp2) Q wr ∧ Q ++ (len, 0, 0) :: List.replicate (t1 - (i + 1)) (len, 0, 0) = R ∧ Q.length = LQ) := ⟨by rw [← hLQ]; exact hq, hQ, hLQ⟩
          have HOW : Hid (∀ o, (wr.alloc o).ownsRow B 113 3 (.slice ao2 LQ cp2) LQ (qcs Q) ∧ B ≤ (wr.alloc o).heap.size) := fun o => by
            have h9 := HQ.out.1.quiet (w' := wr.alloc o) ((Below.refl _ _).alloc (Nat.le_refl _) _)
            have h10 := h9.1
            rw [HQ.out.2.2] at h10
            exact ⟨h10, h9.2.2⟩
          rw [hLQ]
          clear hq hQ hLQ HS
          go_wp2_with (at_builtin; refine wpList_append_lies _ rfl _ _ 90 rfl B 113 i0 (.agg #[.int .i64 0, .int .i64 0, .int .i64 0]) 3 24 Tryd.underlying90 HI.out.1 HI.out.2.1 HI.out.2.2.1 HI.out.2.2.2 rfl (by decide) (.slice ao2 LQ cp2) LQ (qcs Q) rfl (HOW.out _).1 ⟨wr.heap.size, 0, none⟩ 1 1 (qc (len, 0, 0)) rfl rfl ?c1 ?c2 (by decide) ?c3 ?c4 (HOW.out _).2 _ rfl ?_)
          case c1 => first | exact newsPie _ (len, 0, 0) | exact fun j u h => h
          case c2 => exact onePie _
          case c3 => exact (pie_room hroom).1
          case c4 => exact (pie_room hroom).2
          intro g cap w5 hown hgrow hat hgl
          have H5 : Hid (QR w0 B (.slice (some ⟨g, 0, none⟩) (LQ + 1) cap) (Q ++ [(len, 0, 0)]) w5) := by
            have hq0 := HQ.out.1.quiet (w' := wr.alloc (.cells #[.int .i64 (len : Nat), .int .i64 0, .int .i64 0] 113)) ((Below.refl _ _).alloc (Nat.le_refl _) _)
            have h6 := QR.more (p := (len, 0, 0)) (g := g) (cap := cap) hq0 (by rw [HQ.out.2.2]; exact hown) (by exact hgrow)
            rw [HQ.out.2.2] at h6
            exact h6
          clear hown hgrow hat hgl HOW
          go_wp2
          exact ⟨⟨i + 1, by go_num, by omega, Q ++ [(len, 0, 0)], H5.out, by rw [List.append_assoc]; exact HQ.out.2.1⟩, by simp [intOf]; omega⟩
        · obtain rfl : i = t1 := by omega
          have hlti : ¬ (i : Int) < (i : Int) := by omega
          have HE : Hid (QR w0 B u0 R wr) := by
            obtain ⟨Q, hq, hQ⟩ := HS.out
            rw [Nat.sub_self, List.replicate_zero, List.append_nil] at hQ
            rw [← hQ]; exact hq
          go_wp2
          go_ret
          exact ⟨_, rfl, HE.out⟩
end Go.Proofs.YtbcflkdaeboflaaDoor
namespace Go.Proofs.YtbcflkdaeboflaaDoor
open Go.RowKit
set_option linter.unusedVariables false
set_option maxRecDepth 20000

/-- From n on: how far a length comes again, at most m more. -/
def sameL (f : Nat → Nat) (k : Nat) : Nat → Nat → Nat
  | 0, n => n
  | m + 1, n => if f (k + n) = f k then sameL f k m (n + 1) else n
theorem sameL_b (f : Nat → Nat) (k : Nat) : ∀ m n, n ≤ sameL f k m n ∧ sameL f k m n ≤ n + m ∧ ∀ i, n ≤ i → i < sameL f k m n → f (k + i) = f k
  | 0, n => ⟨Nat.le_refl _, Nat.le_refl _, fun i h1 h2 => by simp [sameL] at h2; omega⟩
  | m + 1, n => by
    unfold sameL
    split
    · rename_i h
      have h1 := sameL_b f k m (n + 1)
      refine ⟨by omega, by omega, fun i hi h2 => ?_⟩
      by_cases e : i = n
      · subst e; exact h
      · exact h1.2.2 i (by omega) h2
    · exact ⟨Nat.le_refl _, by omega, fun i h1 h2 => by omega⟩
/-- How often the length at k comes from there on. -/
def timesAt (f : Nat → Nat) (N k : Nat) : Nat := sameL f k (N - k - 1) 1
theorem timesAt_b {f : Nat → Nat} {N k : Nat} (h : k < N) : 1 ≤ timesAt f N k ∧ k + timesAt f N k ≤ N ∧ ∀ i, i < timesAt f N k → f (k + i) = f k := by
  have h1 := sameL_b f k (N - k - 1) 1
  unfold timesAt
  refine ⟨h1.1, by omega, fun i hi => ?_⟩
  by_cases e : i = 0
  · subst e; rfl
  · exact h1.2.2 i (by omega) hi
/-- Lengths as pieces, from a place on. -/
def runsL (f : Nat → Nat) (N : Nat) : Nat → Nat → List (Nat × Nat × Nat)
  | 0, _ => []
  | F + 1, k => if k < N then runP (f k) (timesAt f N k) ++ runsL f N F (k + timesAt f N k) else []
theorem runsL_end {f : Nat → Nat} {N F k : Nat} (h : ¬ k < N) : runsL f N F k = [] := by
  cases F with
  | zero => rfl
  | succ F => unfold runsL; rw [if_neg h]
theorem runsL_length (f : Nat → Nat) (N : Nat) : ∀ F k, k ≤ N → (runsL f N F k).length ≤ N - k
  | 0, k, _ => by simp [runsL]
  | F + 1, k, h => by
    unfold runsL
    split
    · rename_i hk
      have h1 := timesAt_b (f := f) hk
      have h2 := runsL_length f N F (k + timesAt f N k) h1.2.1
      have h3 := runP_length (f k) (timesAt f N k) h1.1
      rw [List.length_append]; omega
    · simp
/-- A row of numbers: the first N cells of a block. -/
def LR (w : World) (g N : Nat) (f : Nat → Nat) : Prop := ∃ cur m, w.heap[g]? = some (.cells cur 3 m) ∧ ∀ i, i < N → cur[i]? = some (.int .i64 (f i : Nat))
theorem LR.below {w w' : World} {g N : Nat} {f : Nat → Nat} (h : LR w g N f) (hb : Below w.heap.size w w') : LR w' g N f := by
  obtain ⟨cur, m, h1, h2⟩ := h
  exact ⟨cur, m, (hb.block g (lt_of_block h1)).trans h1, h2⟩
theorem LR.cell {w : World} {g N : Nat} {f : Nat → Nat} (h : LR w g N f) {i : Nat} (hi : i < N) : w.cell? ⟨g, i, none⟩ = some (.int .i64 (f i : Nat)) := by
  obtain ⟨cur, m, h1, h2⟩ := h
  simp [World.cell?, h1, h2 i hi]
set_option maxHeartbeats 4000000 in
theorem runs_ok (g N cap : Nat) (f : Nat → Nat) (w : World) (hr : LR w g N f) (hN : N ≤ 1000) (hc : N ≤ cap) (hcb : cap ≤ 9223372036854775807) (hf : ∀ i, f i ≤ 15) :
    Calls Tryd.prog 65 #[.slice (some ⟨g, 0, none⟩) N cap] w fun e w' => ∃ v, e = .returned v ∧ QR w w.heap.size v (runsL f N N 0) w' := by
  obtain ⟨R, hR⟩ : ∃ R, runsL f N N 0 = R := ⟨_, rfl⟩
  rw [hR]
  have HALL : Hid (LR w g N f ∧ (∀ i, f i ≤ 15) ∧ runsL f N N 0 = R ∧ R.length ≤ N) := ⟨hr, hf, hR, by rw [← hR]; have := runsL_length f N N 0 (Nat.zero_le _); omega⟩
  have HA : Hid (∀ (l t : Nat) (v : Value) (P : List (Nat × Nat × Nat)) (W : World), QR w w.heap.size v P W → 1 ≤ t → t ≤ 1000 → P.length ≤ 10000 → l ≤ 15 → Calls Tryd.prog 78 #[v, .int .i64 (l : Nat), .int .i64 (t : Nat)] W fun e w' => ∃ v', e = .returned v' ∧ QR w w.heap.size v' (P ++ runP l t) w') := fun l t v P W h1 h2 h3 h4 h5 => appendRun_ok l t v P w.heap.size w W h1 h2 h3 h4 h5
  have HQ0 : Hid (QR w w.heap.size (.slice none 0 0) [] w) := ⟨World.ownsRow_nil _ _ _ _, Below.refl _ _, Nat.le_refl _⟩
  obtain ⟨B, hB⟩ : ∃ B, w.heap.size = B := ⟨_, rfl⟩
  rw [hB] at HA HQ0
  clear hr hf hR
  go_enter Tryd.func65, Tryd.ntmps65
  go_wp2_with fail
  go_loopw [0, 3] (fun v0 v3 wr => ∃ (a : Option Addr) (k n c : Nat), v0 = .slice a n c ∧ k + n = N ∧ n ≤ c ∧ c ≤ 9223372036854775807 ∧ (0 < n → a = some ⟨g, k, none⟩) ∧ Hid (∃ Q F, QR w B v3 Q wr ∧ Q ++ runsL f N F k = R ∧ n ≤ F)) (fun v0 _ _ => (match v0 with | .slice _ n _ => n | _ => 0))
  case atStart => exact ⟨_, 0, N, cap, rfl, by omega, hc, hcb, fun _ => rfl, [], N, HQ0.out, HALL.out.2.2.1, Nat.le_refl _⟩
  case round =>
    obtain ⟨a, k, n, c, rfl, hkn, hnc, hc1, hav, HS⟩ := hrel
    by_cases h0 : 0 < n
    · have hav' := hav h0
      subst hav'
      clear hav
      have h0i : (0 : Int) < (n : Int) := by omega
      have hkN : k < N := by omega
      have htb := timesAt_b (f := f) hkN
      obtain ⟨T, hT⟩ : ∃ T, timesAt f N k = T := ⟨_, rfl⟩
      have HT : Hid (timesAt f N k = T) := hT
      rw [hT] at htb
      have htb' : 1 ≤ T ∧ T ≤ n := ⟨htb.1, by omega⟩
      have hrow : ∀ i, i < n → wr.cell? ⟨g, k + i, none⟩ = some (.int .i64 (f (k + i) : Nat)) := fun i hi => by
        obtain ⟨Q, F, hq, _⟩ := HS.out
        have hl : LR wr g N f := HALL.out.1.below (by rw [hB]; exact hq.2.1)
        exact hl.cell (i := k + i) (by omega)
      have HROW : Hid (∀ i, i < n → wr.cell? ⟨g, k + i, none⟩ = some (.int .i64 (f (k + i) : Nat))) := hrow
      clear hrow htb hT
      go_upto_block 2 with fail
      go_cut [4] (fun v4 wc => v4 = .int .i64 (T : Nat) ∧ ∃ j, wc = wr.drewN j)
      case first =>
        as_aux_lemma =>
          go_wp2_with fail
          go_loopw [4] (fun v4 ws => ∃ m : Nat, v4 = .int .i64 (m : Nat) ∧ 1 ≤ m ∧ m ≤ n ∧ Hid (sameL f k (n - m) m = T ∧ ∃ j, ws = wr.drewN j)) (fun v4 _ => n - (intOf v4).toNat)
          case atStart => exact ⟨1, rfl, by omega, by omega, by have := HT.out; unfold timesAt at this; rw [show N - k - 1 = n - 1 by omega] at this; exact this, 0, rfl⟩
          case round =>
            obtain ⟨m, rfl, hm1, hmn, HM⟩ := hrel
            obtain ⟨hs, j, hj⟩ := HM.out
            subst hj
            by_cases hlt : m < n
            · have hlti : (m : Int) < (n : Int) := by omega
              have hltb : decide ((m : Int) < (n : Int)) = true := by simp; omega
              have c0 : wr.cell? ⟨g, k, none⟩ = some (.int .i64 (f k : Nat)) := by have := HROW.out 0 h0; rw [Nat.add_zero] at this; exact this
              have c1 : wr.cell? ⟨g, k + m, none⟩ = some (.int .i64 (f (k + m) : Nat)) := HROW.out m hlt
              rw [show n - m = (n - (m + 1)) + 1 by omega, sameL] at hs
              obtain ⟨x, hx⟩ : ∃ x, f k = x := ⟨_, rfl⟩
              obtain ⟨y, hy⟩ : ∃ y, f (k + m) = y := ⟨_, rfl⟩
              rw [hx] at c0 hs
              rw [hy] at c1 hs
              clear hx hy HM
              by_cases hxy : y = x
              · rw [if_pos hxy] at hs
                have hxb : ((y : Int) == (x : Int)) = true := by simp [hxy]
                have HN : Hid (sameL f k (n - (m + 1)) (m + 1) = T) := hs
                clear hs hxy
                go_wp2_with fail
                go_quiet (fail)
                go_wp2
                exact ⟨⟨m + 1, by go_num, by omega, by omega, HN.out, j + nq, by first | rfl | exact World.drewN_drewN _ _ _⟩, by simp [intOf]; omega⟩
              · rw [if_neg hxy] at hs
                subst hs
                have hxb : ((y : Int) == (x : Int)) = false := by simp; omega
                clear hxy
                go_wp2_with fail
                go_quiet (fail)
                go_wp2_with fail
                go_meet
                case rel => exact ⟨rfl, j + nq, by first | rfl | exact World.drewN_drewN _ _ _⟩
            · obtain rfl : m = n := by omega
              have hltb : decide ((m : Int) < (m : Int)) = false := by simp
              rw [Nat.sub_self] at hs
              have hs2 : m = T := hs
              subst hs2
              clear hs HM
              go_wp2_with fail
              go_quiet (fail)
              go_wp2_with fail
              go_meet
              case rel => exact ⟨rfl, j + nq, by first | rfl | exact World.drewN_drewN _ _ _⟩
      case rest =>
        obtain ⟨rfl, j, rfl⟩ := hcut
        have c0 : (wr.drewN j).cell? ⟨g, k, none⟩ = some (.int .i64 (f k : Nat)) := by have := HROW.out 0 h0; rw [Nat.add_zero] at this; exact this
        obtain ⟨Q, F, hq, hQ, hF⟩ := HS.out
        obtain ⟨F, rfl⟩ : ∃ F', F = F' + 1 := ⟨F - 1, by omega⟩
        unfold runsL at hQ
        rw [if_pos hkN, HT.out] at hQ
        have hqd : QR w B u3 Q (wr.drewN j) := hq.quiet ⟨rfl, rfl, rfl, Nat.le_refl _, fun _ _ => rfl⟩
        have hQl : Q.length ≤ 10000 := by
          have h8 := HALL.out.2.2.2
          rw [← hQ, List.length_append] at h8
          omega
        have HC : Hid (∀ _ : Unit, Calls Tryd.prog 78 #[u3, .int .i64 (f k : Nat), .int .i64 (T : Nat)] (wr.drewN j) fun e w' => ∃ v', e = .returned v' ∧ QR w B v' (Q ++ runP (f k) T) w') := fun _ => HA.out (f k) T u3 Q (wr.drewN j) hqd htb'.1 (by omega) hQl (HALL.out.2.1 k)
        obtain ⟨x, hx⟩ : ∃ x, f k = x := ⟨_, rfl⟩
        rw [hx] at c0 HC hQ
        obtain ⟨k2, hk2⟩ : ∃ k2, k + T = k2 := ⟨_, rfl⟩
        obtain ⟨n2, hn2⟩ : ∃ n2, n - T = n2 := ⟨_, rfl⟩
        obtain ⟨c2, hc2⟩ : ∃ c2, c - T = c2 := ⟨_, rfl⟩
        rw [hk2] at hQ
        have HX : Hid ((Q ++ runP x T) ++ runsL f N F k2 = R ∧ n2 ≤ F) := ⟨by rw [List.append_assoc]; exact hQ, by omega⟩
        have hTi : (T : Int) ≤ (n : Int) := by omega
        have hni : (n : Int) - (T : Int) = (n2 : Int) := by omega
        have hci : (c : Int) - (T : Int) = (c2 : Int) := by omega
        have hTc : (T : Int) ≤ (c : Int) := by omega
        clear hq hqd hQ hx hQl HS
        go_wp2_with fail
        refine (HC.out ()).mono ?_
        rintro e w3 ⟨v3, rfl, hq3⟩
        have H3 : Hid (QR w B v3 (Q ++ runP x T) w3) := hq3
        clear hq3 HC c0
        go_wp2
        exact ⟨⟨_, k2, n2, c2, rfl, by omega, by omega, by omega, fun hn => by rw [if_neg (by omega)], Q ++ runP x T, F, H3.out, HX.out.1, HX.out.2⟩, by show n2 < n; omega⟩
    · clear hav
      obtain rfl : n = 0 := by omega
      have h0i : ¬ (0 : Int) < ((0 : Nat) : Int) := by omega
      have HE : Hid (QR w B u3 R wr) := by
        obtain ⟨Q, F, hq, hQ, hF⟩ := HS.out
        rw [runsL_end (by omega), List.append_nil] at hQ
        rw [← hQ]; exact hq
      go_wp2
      go_ret
      exact ⟨_, rfl, by first | exact HE.out | (rw [hB]; exact HE.out)⟩
end Go.Proofs.YtbcflkdaeboflaaDoor
