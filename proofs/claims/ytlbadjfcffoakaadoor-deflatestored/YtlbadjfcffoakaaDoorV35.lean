/- Layer 5: how often the first code's symbols come. -/
/- Layer 5: what symbols cost by codes. -/
/- Layer 5: what it costs to tell codes. -/
/- Layer 5: the first code has two words at least, so that it is whole. -/
/- Layer 5: trimmed once more: it stops at the last length above 0. -/
/- Layer 5: what codesFor makes are codes that can be told. -/
/- Layer 5: codes for how often symbols come have words for all tokens. -/
import Derived.Test.YtlbadjfcffoakaaDoorV34
import Derived.Test.YtlbadjfcffoakaaDoorV17
import Derived.Test.YtlbadjfcffoakaaDoorV33
namespace Go.Proofs.YtlbadjfcffoakaaDoor
open Go.RowKit
set_option linter.unusedVariables false
set_option maxRecDepth 20000

def PieR (w : World) (ao : Option Addr) (P : List (Nat × Nat × Nat)) : Prop := P = [] ∨ ∃ g cur m, ao = some ⟨g, 0, none⟩ ∧ w.heap[g]? = some (.cells cur 115 m) ∧ ∀ i t, P[i]? = some t → ∀ j, j < 3 → cur[i * 3 + j]? = (qc t)[j]?
theorem PieR.below {w w' : World} {ao : Option Addr} {T : List (Nat × Nat × Nat)} (h : PieR w ao T) (hb : Below w.heap.size w w') : PieR w' ao T := by
  rcases h with h | ⟨g, cur, m, h1, h2, h3⟩
  · exact .inl h
  · exact .inr ⟨g, cur, m, h1, (hb.block g (lt_of_block h2)).trans h2, h3⟩
theorem PieR.kept {w w' : World} {b : Nat} {L : List Nat} {ao : Option Addr} {T : List (Nat × Nat × Nat)} (h : PieR w ao T) (hf : PF b w w') (hw : PW w b L) : PieR w' ao T := by
  rcases h with h | ⟨g, cur, m, h1, h2, h3⟩
  · exact .inl h
  · exact .inr ⟨g, cur, m, h1, hf.kept hw h2 (by decide) (by decide), h3⟩
theorem PieR.set {w : World} {ao : Option Addr} {T : List (Nat × Nat × Nat)} {k i : Nat} {v : Value} {cs : Array Value} {E : TypeId} {m : Nat × Nat} (h : PieR w ao T) (hk : w.heap[k]? = some (.cells cs E m)) (hE : E ≠ 115) : PieR (w.setCell ⟨k, i, none⟩ v) ao T := by
  rcases h with h | ⟨g, cur, m', h1, h2, h3⟩
  · exact .inl h
  · refine .inr ⟨g, cur, m', h1, ?_, h3⟩
    rw [Below.heap_setCell _ _ _ _ (fun e => by
      have e' : g = k := e
      rw [e', hk] at h2
      cases h2
      exact hE rfl)]
    exact h2
theorem PieR.at {w : World} {ao : Option Addr} {T : List (Nat × Nat × Nat)} (h : PieR w ao T) {i : Nat} {t : Nat × Nat × Nat} (ht : T[i]? = some t) : ∃ g, ao = some ⟨g, 0, none⟩ ∧ w.cell? ⟨g, i * 3, none⟩ = some (.int .i64 (t.1 : Nat)) ∧ w.cell? ⟨g, i * 3 + 1, none⟩ = some (.int .i64 (t.2.1 : Nat)) ∧ w.cell? ⟨g, i * 3 + 2, none⟩ = some (.int .i64 (t.2.2 : Nat)) := by
  rcases h with h | ⟨g, cur, m, h1, h2, h3⟩
  · subst h; simp at ht
  · refine ⟨g, h1, ?_, ?_, ?_⟩
    · have := h3 i t ht 0 (by omega); simp [World.cell?, h2]; simpa [qc] using this
    · have := h3 i t ht 1 (by omega); simp [World.cell?, h2]; simpa [qc] using this
    · have := h3 i t ht 2 (by omega); simp [World.cell?, h2]; simpa [qc] using this
theorem QR.row {w0 w : World} {B : Nat} {v : Value} {P : List (Nat × Nat × Nat)} (h : QR w0 B v P w) : ∃ ao cp, v = .slice ao P.length cp ∧ PieR w ao P := by
  have ho := h.1
  rcases ho.2 with ⟨rfl, h0⟩ | ⟨g, cap, cur, rfl, hB, hh, hnc, hcm, hcs, htk⟩
  · have : P = [] := List.length_eq_zero_iff.1 h0
    subst this
    exact ⟨none, 0, rfl, .inl rfl⟩
  · refine ⟨_, cap, rfl, .inr ⟨g, cur, (0, 0), rfl, hh, fun i t ht j hj => ?_⟩⟩
    have h1 := qcs_get P i t ht j hj
    obtain ⟨u, hu⟩ : ∃ u, (qc t)[j]? = some u := ⟨(qc t)[j]'(by show j < 3; exact hj), List.getElem?_eq_getElem _⟩
    rw [hu] at h1
    have h2 := ho.cells (g := g) rfl (i * 3 + j) u h1
    rw [D5.add_zero_addr] at h2
    unfold World.cell? at h2
    rw [hh] at h2
    rw [hu]
    simpa using h2
def cntP : List (Nat × Nat × Nat) → Nat → Nat
  | [], _ => 0
  | t :: T, i => cntP T i + if t.1 = i then 1 else 0
theorem cntP_snoc (t : Nat × Nat × Nat) (i : Nat) : ∀ T, cntP (T ++ [t]) i = cntP T i + if t.1 = i then 1 else 0
  | [] => rfl
  | x :: T => by show cntP (T ++ [t]) i + _ = (cntP T i + _) + _; rw [cntP_snoc t i T]; omega
theorem cntP_le (i : Nat) : ∀ T, cntP T i ≤ T.length
  | [] => by simp [cntP]
  | t :: T => by have := cntP_le i T; simp only [cntP, List.length_cons]; split <;> omega
structure FQ (w0 : World) (g : Nat) (ao : Option Addr) (P A : List (Nat × Nat × Nat)) (w : World) : Prop where
  row : LB w g 19 (cntP A)
  pie : PieR w ao P
  bel : Below w0.heap.size w0 w
  lo : w0.heap.size ≤ g
theorem FQ.quiet {w0 w w' : World} {g : Nat} {ao : Option Addr} {P A : List (Nat × Nat × Nat)} (h : FQ w0 g ao P A w) (hb : Below w.heap.size w w') : FQ w0 g ao P A w' := ⟨h.row.below hb, h.pie.below hb, h.bel.trans (hb.mono h.bel.size), h.lo⟩
theorem FQ.count {w0 w : World} {g : Nat} {ao : Option Addr} {P A : List (Nat × Nat × Nat)} {p : Nat × Nat × Nat} {y : Nat} (h : FQ w0 g ao P A w) (hy : cntP A p.1 + 1 = y) : FQ w0 g ao P (A ++ [p]) (w.setCell ⟨g, p.1, none⟩ (.int .i64 (y : Nat))) := by
  refine ⟨(h.row.set p.1 y).congr (fun i _ => ?_), h.pie.set h.row (by decide), h.bel.trans (D5.Below.setCell' _ _ h.lo), h.lo⟩
  rw [cntP_snoc]
  by_cases e : i = p.1
  · rw [if_pos e, if_pos e.symm, e, hy]
  · rw [if_neg e, if_neg (fun h => e h.symm)]; rfl
set_option maxHeartbeats 2000000 in
theorem firstCounts_ok (s1 s2 s4 s5 : Value) (P : List (Nat × Nat × Nat)) (ao : Option Addr) (cp : Nat) (w : World) (h1 : s1.oneCell' = true) (h2 : s2.oneCell' = true) (h4 : s4.oneCell' = true) (h5 : s5.oneCell' = true) (hP : PieR w ao P) (hPl : P.length ≤ 100000) (hlt : ∀ p ∈ P, p.1 < 19) :
    Calls Tryd.prog 64 #[.agg #[s1, s2, .slice ao P.length cp, s4, s5]] w fun e w' => ∃ g, e = .returned (.slice (some ⟨g, 0, none⟩) 19 19) ∧ LB w' g 19 (cntP P) ∧ Below w.heap.size w w' := by
  have hmk : ∀ W : World, (Instr.makeSlice 41 (.int .i64 19) (.int .i64 19)).run Tryd.prog W = .ok (.slice (some ⟨W.heap.size, 0, none⟩) 19 19) (W.alloc (.cells (lcells 19 (fun _ => 0)) 3)) := fun W => make_ints 19 (by omega) W
  obtain ⟨N, hN⟩ : ∃ N, P.length = N := ⟨_, rfl⟩
  have HALL : Hid ((∀ p ∈ P, p.1 < 19) ∧ P.length ≤ 100000 ∧ P.length = N ∧ PieR w ao P) := ⟨hlt, hPl, hN, hP⟩
  have hNb : N ≤ 100000 := by omega
  rw [hN]
  clear hlt hPl hN hP
  go_enter Tryd.func64, Tryd.ntmps64
  go_upto_block 0 with fail
  obtain ⟨W, hW⟩ : ∃ W, (w.alloc (.cells #[s1, s2, .slice ao N cp, s4, s5] 95)).alloc (.cells (lcells 19 fun _ => 0) 3) = W := ⟨_, rfl⟩
  have hbl : Below w.heap.size w W := by rw [← hW]; exact ((Below.refl _ _).alloc (Nat.le_refl _) _).alloc (by simp) _
  have H0 : Hid (FQ w (w.heap.size + 1) ao P [] W) := by
    refine ⟨?_, HALL.out.2.2.2.below hbl, hbl, by omega⟩
    have := heap_alloc_new (w.alloc (.cells #[s1, s2, .slice ao N cp, s4, s5] 95)) (.cells (lcells 19 fun _ => 0) 3)
    rw [hW, show (w.alloc (.cells #[s1, s2, .slice ao N cp, s4, s5] 95)).heap.size = w.heap.size + 1 by simp] at this
    exact this
  rw [hW]
  obtain ⟨g, hg⟩ : ∃ g, w.heap.size + 1 = g := ⟨_, rfl⟩
  rw [hg] at H0 ⊢
  clear hW hbl hmk h1 h2 h4 h5
  go_wp2_with fail
  go_loopw [10] (fun v10 wr => ∃ i : Nat, v10 = .int .i64 (i : Nat) ∧ i ≤ N ∧ Hid (FQ w g ao P (P.take i) wr)) (fun v10 _ => N - (intOf v10).toNat)
  case atStart => exact ⟨0, rfl, Nat.zero_le _, by rw [List.take_zero]; exact H0.out⟩
  case round =>
    obtain ⟨i, rfl, hi, HR⟩ := hrel
    by_cases hlt : i < N
    · have hlti : (i : Int) < (N : Int) := by omega
      obtain ⟨hfin, hTl, hN, _⟩ := HALL.out
      have hiT : i < P.length := by omega
      obtain ⟨t, ht⟩ : ∃ t, P[i]? = some t := ⟨P[i], List.getElem?_eq_getElem hiT⟩
      have hft := hfin t (List.mem_of_getElem? ht)
      have htake : P.take (i + 1) = P.take i ++ [t] := by rw [List.take_add_one, ht]; rfl
      obtain ⟨A, hA⟩ : ∃ A, P.take i = A := ⟨_, rfl⟩
      have hAl : A.length ≤ 100000 := by rw [← hA, List.length_take]; omega
      rw [hA] at HR htake
      obtain ⟨gp, hao, y0, y1, y2⟩ := HR.out.pie.at ht
      obtain ⟨x, n, dd⟩ := t
      simp only at y0 y1 y2 hft
      have hcl := cntP_le x A
      obtain ⟨c, hc⟩ : ∃ c, cntP A x = c := ⟨_, rfl⟩
      rw [hc] at hcl
      obtain ⟨y, hy⟩ : ∃ y, c + 1 = y := ⟨_, rfl⟩
      have hyi : (c : Int) + 1 = (y : Int) := by omega
      have hyw := D5.wrapN y (by omega)
      have hx19 : (x : Int) < 19 := by omega
      obtain ⟨wt, hwt⟩ : ∃ wt, wr.alloc (.cells #[.int .i64 (x : Nat), .int .i64 (n : Nat), .int .i64 (dd : Nat)] 115) = wt := ⟨_, rfl⟩
      have HQ : Hid (FQ w g ao P A wt) := by rw [← hwt]; exact HR.out.quiet ((Below.refl _ _).alloc (Nat.le_refl _) _)
      have HZ : Hid (FQ w g ao P (P.take (i + 1)) (wt.setCell ⟨g, x, none⟩ (.int .i64 (y : Nat)))) := by
        rw [htake]
        exact FQ.count (p := (x, n, dd)) HQ.out (by show cntP A x + 1 = y; rw [hc, hy])
      obtain ⟨e0, e1⟩ := HQ.out.row.cell (i := x) hft
      rw [hc] at e0
      have hbt := heap_alloc_new wr (.cells #[.int .i64 (x : Nat), .int .i64 (n : Nat), .int .i64 (dd : Nat)] 115)
      obtain ⟨X, hX⟩ : ∃ X, wr.heap.size = X := ⟨_, rfl⟩
      rw [hwt, hX] at hbt
      have x0 : wt.cell? ⟨X, 0, none⟩ = some (.int .i64 (x : Nat)) := by simp [World.cell?, hbt]
      subst hao
      clear hiT htake ht hfin hTl hN hcl hc hy hAl hA HR hbt HQ
      go_wp2
      exact ⟨⟨i + 1, by go_num, by omega, HZ⟩, by simp [intOf]; omega⟩
    · obtain rfl : i = N := by omega
      have hlti : ¬ (i : Int) < (i : Int) := by omega
      have HE : Hid (FQ w g ao P P wr) := by
        have := HR.out
        rw [← HALL.out.2.2.1, List.take_length] at this
        exact this
      go_wp2
      go_ret
      exact ⟨g, rfl, HE.out.row, HE.out.bel⟩
end Go.Proofs.YtlbadjfcffoakaaDoor
namespace Go.Proofs.YtlbadjfcffoakaaDoor
open Go.RowKit
set_option linter.unusedVariables false
set_option maxRecDepth 20000

def fqL (f : Nat → Nat) (n : Nat) : List Int := (List.range n).map fun i => (f i : Int)
theorem fqL_length (f : Nat → Nat) (n : Nat) : (fqL f n).length = n := by simp [fqL]
theorem LB.part {w : World} {g N n : Nat} {f : Nat → Nat} (h : LB w g N f) (hn : n ≤ N) : IRow w (some ⟨g, 0, none⟩) (fqL f n) := by
  refine .inr ⟨g, 0, rfl, lt_of_block h, fun i hi => ?_⟩
  rw [fqL_length] at hi
  rw [Nat.zero_add, (h.cell (i := i) (by omega)).1]
  unfold fqL
  rw [List.getD_eq_getElem?_getD, List.getElem?_map, List.getElem?_range hi]
  rfl
def costN (f : Nat → Nat) (xs : List Int) : Int := (costR (fqL f xs.length) xs).1
set_option maxHeartbeats 2000000 in
theorem cost5_ok (g1 g2 m : Nat) (f1 f2 : Nat → Nat) (b1 b2 : Option Addr) (n1 n2 c1 c2 : Nat) (xs ys : List Int) (w : World) (h1 : LB w g1 288 f1) (h2 : LB w g2 30 f2) (hx : IRow w b1 xs) (hy : IRow w b2 ys) (hn1 : xs.length = n1) (hn2 : ys.length = n2) (hl1 : n1 ≤ 288) (hl2 : n2 ≤ 30) :
    Calls Tryd.prog 47 #[.agg #[.slice (some ⟨g1, 0, none⟩) 288 288, .slice (some ⟨g2, 0, none⟩) 30 30, .int .i64 (m : Nat)], .agg #[.slice b1 n1 c1, .slice b2 n2 c2]] w fun e w' => e = .returned (.int .i64 (wrap64 (wrap64 (costN f1 xs + costN f2 ys) + (m : Int)))) ∧ Below w.heap.size w w' := by
  obtain ⟨W, hW⟩ : ∃ W, (w.alloc (.cells #[.slice (some ⟨g1, 0, none⟩) 288 288, .slice (some ⟨g2, 0, none⟩) 30 30, .int .i64 (m : Nat)] 91)).alloc (.cells #[.slice b1 n1 c1, .slice b2 n2 c2] 81) = W := ⟨_, rfl⟩
  have hbel : Below w.heap.size w W := by rw [← hW]; exact ((Below.refl _ _).alloc (Nat.le_refl _) _).alloc (by simp) _
  obtain ⟨U, hU⟩ : ∃ U, w.heap.size = U := ⟨_, rfl⟩
  have hb0 : W.heap[U]? = some (.cells #[.slice (some ⟨g1, 0, none⟩) 288 288, .slice (some ⟨g2, 0, none⟩) 30 30, .int .i64 (m : Nat)] 91 (0, 0)) := by rw [← hW, heap_alloc_old _ _ (by simp; omega), ← hU]; exact heap_alloc_new _ _
  have hb1 : W.heap[U + 1]? = some (.cells #[.slice b1 n1 c1, .slice b2 n2 c2] 81 (0, 0)) := by
    rw [← hW]
    have := heap_alloc_new (w.alloc (.cells #[.slice (some ⟨g1, 0, none⟩) 288 288, .slice (some ⟨g2, 0, none⟩) 30 30, .int .i64 (m : Nat)] 91)) (.cells #[.slice b1 n1 c1, .slice b2 n2 c2] 81)
    rw [show (w.alloc (.cells #[.slice (some ⟨g1, 0, none⟩) 288 288, .slice (some ⟨g2, 0, none⟩) 30 30, .int .i64 (m : Nat)] 91)).heap.size = U + 1 by simp; omega] at this
    exact this
  have HV : Hid (∀ W', Below W.heap.size W W' → W'.cell? ⟨U, 0, none⟩ = some (.slice (some ⟨g1, 0, none⟩) 288 288) ∧ W'.cell? ⟨U, 1, none⟩ = some (.slice (some ⟨g2, 0, none⟩) 30 30) ∧ W'.cell? ⟨U, 2, none⟩ = some (.int .i64 (m : Nat)) ∧ W'.cell? ⟨U + 1, 0, none⟩ = some (.slice b1 n1 c1) ∧ W'.cell? ⟨U + 1, 1, none⟩ = some (.slice b2 n2 c2)) := fun W' hb => by
    have a0 := (hb.block U (lt_of_block hb0)).trans hb0
    have a1 := (hb.block (U + 1) (lt_of_block hb1)).trans hb1
    exact ⟨by simp [World.cell?, a0], by simp [World.cell?, a0], by simp [World.cell?, a0], by simp [World.cell?, a1], by simp [World.cell?, a1]⟩
  have HC1 : Hid (∀ W', Below W.heap.size W W' → Calls Tryd.prog 65 #[.slice (some ⟨g1, 0, none⟩) n1 288, .slice b1 n1 c1] W' fun e w' => (∃ k : Int, e = .returned (.tuple #[.int .i64 (costN f1 xs), .int .i64 k])) ∧ Below W'.heap.size W' w') := fun W' hb => by
    have := cost_ok (fqL f1 n1) xs (some ⟨g1, 0, none⟩) b1 288 c1 n1 n1 W' (fqL_length _ _) hn1 (((h1.below hbel).below hb).part hl1) ((hx.below hbel).below hb) (by omega) (by omega)
    exact this.mono fun e w' h => ⟨⟨(costR (fqL f1 n1) xs).2, by rw [h.1]; unfold costN; rw [hn1]⟩, h.2⟩
  have HC2 : Hid (∀ W', Below W.heap.size W W' → Calls Tryd.prog 65 #[.slice (some ⟨g2, 0, none⟩) n2 30, .slice b2 n2 c2] W' fun e w' => (∃ k : Int, e = .returned (.tuple #[.int .i64 (costN f2 ys), .int .i64 k])) ∧ Below W'.heap.size W' w') := fun W' hb => by
    have := cost_ok (fqL f2 n2) ys (some ⟨g2, 0, none⟩) b2 30 c2 n2 n2 W' (fqL_length _ _) hn2 (((h2.below hbel).below hb).part hl2) ((hy.below hbel).below hb) (by omega) (by omega)
    exact this.mono fun e w' h => ⟨⟨(costR (fqL f2 n2) ys).2, by rw [h.1]; unfold costN; rw [hn2]⟩, h.2⟩
  obtain ⟨p, hp⟩ : ∃ p, costN f1 xs = p := ⟨_, rfl⟩
  obtain ⟨q, hq⟩ : ∃ q, costN f2 ys = q := ⟨_, rfl⟩
  rw [hp] at HC1
  rw [hq] at HC2
  rw [hp, hq]
  have hl1i : (n1 : Int) ≤ 288 := by omega
  have hl2i : (n2 : Int) ≤ 30 := by omega
  have HBL : Hid (Below w.heap.size w W) := hbel
  have HS0 : Hid (W.drew.cell? ⟨U, 0, none⟩ = some (.slice (some ⟨g1, 0, none⟩) 288 288) ∧ W.drew.cell? ⟨U, 1, none⟩ = some (.slice (some ⟨g2, 0, none⟩) 30 30) ∧ W.drew.cell? ⟨U, 2, none⟩ = some (.int .i64 (m : Nat)) ∧ W.drew.cell? ⟨U + 1, 0, none⟩ = some (.slice b1 n1 c1) ∧ W.drew.cell? ⟨U + 1, 1, none⟩ = some (.slice b2 n2 c2)) := HV.out W.drew ⟨rfl, rfl, rfl, Nat.le_refl _, fun _ _ => rfl⟩
  clear h1 h2 hx hy hn1 hn2 hb0 hb1 hbel hp hq
  go_enter Tryd.func47, Tryd.ntmps47
  go_upto_region 1 with fail
  go_cut [5] (fun v5 wc => v5 = .int .i64 p ∧ Hid (Below W.heap.size W wc))
  case first =>
    go_region_held_law (fun w' => w'.cell? ⟨U, 0, none⟩ = some (.slice (some ⟨g1, 0, none⟩) 288 288) ∧ w'.cell? ⟨U, 1, none⟩ = some (.slice (some ⟨g2, 0, none⟩) 30 30) ∧ w'.cell? ⟨U, 2, none⟩ = some (.int .i64 (m : Nat)) ∧ w'.cell? ⟨U + 1, 0, none⟩ = some (.slice b1 n1 c1) ∧ w'.cell? ⟨U + 1, 1, none⟩ = some (.slice b2 n2 c2))
      (first | assumption | exact HS0.out | go_keep)
      (first | (go_at_call 65; refine (HC1.out W.drew ⟨rfl, rfl, rfl, Nat.le_refl _, fun _ _ => rfl⟩).mono ?_; rintro e w3 ⟨⟨k, he3⟩, hb3⟩; subst he3; have H3 : Hid (Below W.heap.size W w3) := ⟨hb3.os, hb3.tape, hb3.output, hb3.size, hb3.block⟩; have KS := HV.out w3 H3.out; clear hb3))
    clear KS HS0 HC1 HC2
    go_wp2_with fail
    go_meet
    case rel => exact ⟨rfl, H3.out⟩
  case rest =>
    obtain ⟨rfl, H3⟩ := hcut
    obtain ⟨w3, hw3⟩ : ∃ w3, w3 = wc := ⟨_, rfl⟩
    rw [← hw3] at H3 ⊢
    clear hw3 HS0 HC1
    go_upto_region 2 with fail
    have HS1 : Hid (w3.drew.cell? ⟨U, 0, none⟩ = some (.slice (some ⟨g1, 0, none⟩) 288 288) ∧ w3.drew.cell? ⟨U, 1, none⟩ = some (.slice (some ⟨g2, 0, none⟩) 30 30) ∧ w3.drew.cell? ⟨U, 2, none⟩ = some (.int .i64 (m : Nat)) ∧ w3.drew.cell? ⟨U + 1, 0, none⟩ = some (.slice b1 n1 c1) ∧ w3.drew.cell? ⟨U + 1, 1, none⟩ = some (.slice b2 n2 c2)) := HV.out w3.drew ⟨H3.out.os, H3.out.tape, H3.out.output, H3.out.size, H3.out.block⟩
    go_cut [7] (fun v7 wc => v7 = .int .i64 q ∧ Hid (Below W.heap.size W wc))
    case first =>
      go_region_held_law (fun w' => w'.cell? ⟨U, 0, none⟩ = some (.slice (some ⟨g1, 0, none⟩) 288 288) ∧ w'.cell? ⟨U, 1, none⟩ = some (.slice (some ⟨g2, 0, none⟩) 30 30) ∧ w'.cell? ⟨U, 2, none⟩ = some (.int .i64 (m : Nat)) ∧ w'.cell? ⟨U + 1, 0, none⟩ = some (.slice b1 n1 c1) ∧ w'.cell? ⟨U + 1, 1, none⟩ = some (.slice b2 n2 c2))
        (first | assumption | exact HS1.out | go_keep)
        (first | (go_at_call 65; refine (HC2.out w3.drew ⟨H3.out.os, H3.out.tape, H3.out.output, H3.out.size, H3.out.block⟩).mono ?_; rintro e w4 ⟨⟨k2, he4⟩, hb4⟩; subst he4; have H4 : Hid (Below W.heap.size W w4) := H3.out.trans ((show Below w3.heap.size w3 w4 from ⟨hb4.os, hb4.tape, hb4.output, hb4.size, hb4.block⟩).mono H3.out.size); have KS2 := HV.out w4 H4.out; clear hb4))
      clear KS2 HS1 HC2
      go_wp2_with fail
      go_meet
      case rel => exact ⟨rfl, H4.out⟩
    case rest =>
      obtain ⟨rfl, H4⟩ := hcut
      obtain ⟨d0, d1, d2, d3, d4⟩ := HV.out wc H4.out
      clear HS1 HC2
      go_wp2
      go_ret
      refine ⟨rfl, ?_⟩
      have h9 := HBL.out.trans (H4.out.mono HBL.out.size)
      first | exact h9 | (rw [hU]; exact h9)
end Go.Proofs.YtlbadjfcffoakaaDoor
namespace Go.Proofs.YtlbadjfcffoakaaDoor
open Go.RowKit
set_option linter.unusedVariables false
set_option maxRecDepth 20000

theorem costR_nat (fs xs : List Int) : ∃ c : Nat, (costR fs xs).1 = (c : Int) ∧ c ≤ fs.length * 16492674416640 := by
  unfold costR
  split
  · rename_i h
    split
    · rename_i h2
      split
      · exact ⟨0, rfl, Nat.zero_le _⟩
      · refine ⟨_, rfl, costTo_bound h.2 ?_ _⟩
        unfold isCode at h2
        simp only [Bool.and_eq_true] at h2
        exact h2.1
    · exact ⟨0, rfl, Nat.zero_le _⟩
  · exact ⟨0, rfl, Nat.zero_le _⟩
def moreP : List (Nat × Nat × Nat) → Nat
  | [] => 0
  | t :: T => moreP T + t.2.2
theorem moreP_snoc (t : Nat × Nat × Nat) : ∀ T, moreP (T ++ [t]) = moreP T + t.2.2
  | [] => by simp [moreP]
  | x :: T => by show moreP (T ++ [t]) + _ = (moreP T + _) + _; rw [moreP_snoc t T]; omega
theorem moreP_le : ∀ {T : List (Nat × Nat × Nat)}, (∀ t ∈ T, t.2.2 ≤ 7) → moreP T ≤ 7 * T.length
  | [], _ => by simp [moreP]
  | t :: T, h => by
    have a := h t (List.mem_cons_self ..)
    have b := moreP_le (T := T) (fun x hx => h x (List.mem_cons_of_mem _ hx))
    simp only [moreP, List.length_cons]; omega
theorem hc_nums {m q i N c0 : Nat} (h1 : m ≤ c0 + 7 * i) (h2 : q ≤ 7) (h3 : i < N) (h4 : N ≤ 100000) (h5 : c0 ≤ 313360813916160) : ∃ m2 : Nat, m + q = m2 ∧ (m : Int) + (q : Int) = (m2 : Int) ∧ IntKind.i64.wrap (m2 : Int) = (m2 : Int) ∧ m2 ≤ 400000000000000 :=
  ⟨m + q, rfl, by omega, D5.wrapN _ (by omega), by omega⟩
theorem hc_end {m fi : Nat} (h1 : m ≤ 400000000000000) (h2 : fi ≤ 19) : ∃ a b r : Nat, (fi : Int) * 3 = (a : Int) ∧ IntKind.i64.wrap (a : Int) = (a : Int) ∧ 14 + (a : Int) = (b : Int) ∧ IntKind.i64.wrap (b : Int) = (b : Int) ∧ (b : Int) + (m : Int) = (r : Int) ∧ IntKind.i64.wrap (r : Int) = (r : Int) ∧ 14 ≤ r ∧ r ≤ 400000000000100 :=
  ⟨fi * 3, 14 + fi * 3, 14 + fi * 3 + m, by omega, D5.wrapN _ (by omega), by omega, D5.wrapN _ (by omega), by omega, D5.wrapN _ (by omega), by omega, by omega⟩
set_option maxHeartbeats 2000000 in
theorem headCost_ok (s1 s2 : Value) (P : List (Nat × Nat × Nat)) (ao a4 : Option Addr) (cp n4 c4 fi : Nat) (xs : List Int) (w : World) (h1 : s1.oneCell' = true) (h2 : s2.oneCell' = true) (hP : PieR w ao P) (hPl : P.length ≤ 100000) (hlt : ∀ p ∈ P, p.1 < 19 ∧ p.2.2 ≤ 7) (hx : IRow w a4 xs) (hxl : xs.length = n4) (hn4 : n4 ≤ 288) (hfi : fi ≤ 19) :
    Calls Tryd.prog 46 #[.agg #[s1, s2, .slice ao P.length cp, .slice a4 n4 c4, .int .i64 (fi : Nat)]] w fun e w' => (∃ h : Nat, e = .returned (.int .i64 (h : Nat)) ∧ 14 ≤ h ∧ h ≤ 400000000000100) ∧ Below w.heap.size w w' := by
  obtain ⟨N, hN⟩ : ∃ N, P.length = N := ⟨_, rfl⟩
  obtain ⟨W, hW⟩ : ∃ W, w.alloc (.cells #[s1, s2, .slice ao N cp, .slice a4 n4 c4, .int .i64 (fi : Nat)] 95) = W := ⟨_, rfl⟩
  have hbel : Below w.heap.size w W := by rw [← hW]; exact (Below.refl _ _).alloc (Nat.le_refl _) _
  obtain ⟨U, hU⟩ : ∃ U, w.heap.size = U := ⟨_, rfl⟩
  have hb0 : W.heap[U]? = some (.cells #[s1, s2, .slice ao N cp, .slice a4 n4 c4, .int .i64 (fi : Nat)] 95 (0, 0)) := by rw [← hW, ← hU]; exact heap_alloc_new _ _
  have HV : Hid (∀ W', Below W.heap.size W W' → W'.cell? ⟨U, 0, none⟩ = some s1 ∧ W'.cell? ⟨U, 1, none⟩ = some s2 ∧ W'.cell? ⟨U, 2, none⟩ = some (.slice ao N cp) ∧ W'.cell? ⟨U, 3, none⟩ = some (.slice a4 n4 c4) ∧ W'.cell? ⟨U, 4, none⟩ = some (.int .i64 (fi : Nat))) := fun W' hb => by
    have a0 := (hb.block U (lt_of_block hb0)).trans hb0
    exact ⟨by simp [World.cell?, a0], by simp [World.cell?, a0], by simp [World.cell?, a0], by simp [World.cell?, a0], by simp [World.cell?, a0]⟩
  have HC1 : Hid (∀ W', Below W.heap.size W W' → Calls Tryd.prog 64 #[.agg #[s1, s2, .slice ao N cp, .slice a4 n4 c4, .int .i64 (fi : Nat)]] W' fun e w' => ∃ g, e = .returned (.slice (some ⟨g, 0, none⟩) 19 19) ∧ LB w' g 19 (cntP P) ∧ Below W'.heap.size W' w') := fun W' hb => by
    rw [← hN]
    exact firstCounts_ok s1 s2 _ _ P ao cp W' h1 h2 rfl rfl ((hP.below hbel).below hb) hPl (fun p hp => (hlt p hp).1)
  have HC2 : Hid (∀ W' g, Below W.heap.size W W' → LB W' g 19 (cntP P) → Calls Tryd.prog 65 #[.slice (some ⟨g, 0, none⟩) 19 19, .slice a4 n4 c4] W' fun e w' => (∃ (c : Nat) (k : Int), e = .returned (.tuple #[.int .i64 (c : Nat), .int .i64 k]) ∧ c ≤ 313360813916160) ∧ Below W'.heap.size W' w') := fun W' g hb hg => by
    have := cost_ok (fqL (cntP P) 19) xs (some ⟨g, 0, none⟩) a4 19 c4 19 n4 W' (fqL_length _ _) hxl (hg.part (Nat.le_refl _)) ((hx.below hbel).below hb) (by omega) (by omega)
    obtain ⟨c, hc1, hc2⟩ := costR_nat (fqL (cntP P) 19) xs
    rw [fqL_length] at hc2
    exact this.mono fun e w' h => ⟨⟨c, (costR (fqL (cntP P) 19) xs).2, by rw [h.1, hc1], by omega⟩, h.2⟩
  have HALL : Hid ((∀ p ∈ P, p.1 < 19 ∧ p.2.2 ≤ 7) ∧ P.length = N ∧ PieR W ao P) := ⟨hlt, hN, hP.below hbel⟩
  have hNb : N ≤ 100000 := by omega
  have HBL : Hid (Below w.heap.size w W) := hbel
  have HS0 : Hid (W.drew.cell? ⟨U, 0, none⟩ = some s1 ∧ W.drew.cell? ⟨U, 1, none⟩ = some s2 ∧ W.drew.cell? ⟨U, 2, none⟩ = some (.slice ao N cp) ∧ W.drew.cell? ⟨U, 3, none⟩ = some (.slice a4 n4 c4) ∧ W.drew.cell? ⟨U, 4, none⟩ = some (.int .i64 (fi : Nat))) := HV.out W.drew ⟨rfl, rfl, rfl, Nat.le_refl _, fun _ _ => rfl⟩
  rw [hN]
  clear hlt hPl hN hP hx hxl hb0 hbel hn4
  go_enter Tryd.func46, Tryd.ntmps46
  go_upto_region 1 with fail
  go_cut [3] (fun v3 wc => ∃ c : Nat, v3 = .int .i64 (c : Nat) ∧ c ≤ 313360813916160 ∧ Hid (Below W.heap.size W wc))
  case first =>
    go_region_held_law (fun w' => w'.cell? ⟨U, 0, none⟩ = some s1 ∧ w'.cell? ⟨U, 1, none⟩ = some s2 ∧ w'.cell? ⟨U, 2, none⟩ = some (.slice ao N cp) ∧ w'.cell? ⟨U, 3, none⟩ = some (.slice a4 n4 c4) ∧ w'.cell? ⟨U, 4, none⟩ = some (.int .i64 (fi : Nat)))
      (first | assumption | exact HS0.out | go_keep)
      (first | (go_at_call 64; refine (HC1.out W.drew ⟨rfl, rfl, rfl, Nat.le_refl _, fun _ _ => rfl⟩).mono ?_; rintro e w3 ⟨g, he3, hg3, hb3⟩; subst he3; have H3 : Hid (Below W.heap.size W w3 ∧ LB w3 g 19 (cntP P)) := ⟨⟨hb3.os, hb3.tape, hb3.output, hb3.size, hb3.block⟩, hg3⟩; have KS := HV.out w3 H3.out.1; clear hb3 hg3) | (go_at_call 65; refine (HC2.out w3 g H3.out.1 H3.out.2).mono ?_; rintro e w4 ⟨⟨c0, k0, he4, hc0⟩, hb4⟩; subst he4; have H4 : Hid (Below W.heap.size W w4 ∧ c0 ≤ 313360813916160) := ⟨H3.out.1.trans (hb4.mono H3.out.1.size), hc0⟩; have KS2 := HV.out w4 H4.out.1; clear hb4 hc0))
    clear KS KS2 HS0 HC1 HC2 H3
    go_wp2_with fail
    go_meet
    case rel => exact ⟨c0, rfl, H4.out.2, H4.out.1⟩
  case rest =>
    obtain ⟨c0, rfl, hc0, H3⟩ := hcut
    obtain ⟨d0, d1, d2, d3, d4⟩ := HV.out wc H3.out
    clear HS0 HC1 HC2 d0 d1 d3
    go_wp2_with fail
    clear d2 d4
    go_loopw [3, 18] (fun v3 v18 wr => ∃ i m : Nat, v3 = .int .i64 (m : Nat) ∧ v18 = .int .i64 (i : Nat) ∧ i ≤ N ∧ m ≤ 400000000000000 ∧ Hid (c0 + moreP (P.take i) = m ∧ Below W.heap.size W wr)) (fun _ v18 _ => N - (intOf v18).toNat)
    case atStart => exact ⟨0, c0, rfl, rfl, Nat.zero_le _, by omega, by rw [List.take_zero]; exact ⟨rfl, H3.out⟩⟩
    case round =>
      obtain ⟨i, m, rfl, rfl, hi, hm, HR⟩ := hrel
      by_cases hlt : i < N
      · have hlti : (i : Int) < (N : Int) := by omega
        obtain ⟨hfin, hN, hP⟩ := HALL.out
        have hiT : i < P.length := by omega
        obtain ⟨t, ht⟩ : ∃ t, P[i]? = some t := ⟨P[i], List.getElem?_eq_getElem hiT⟩
        have hft := (hfin t (List.mem_of_getElem? ht)).2
        have htake : P.take (i + 1) = P.take i ++ [t] := by rw [List.take_add_one, ht]; rfl
        have hmb : m ≤ c0 + 7 * i := by
          rw [← HR.out.1]
          have := moreP_le (T := P.take i) (fun x hx => (hfin x (List.mem_of_mem_take hx)).2)
          rw [List.length_take] at this
          omega
        obtain ⟨gp, hao, y0, y1, y2⟩ := (hP.below HR.out.2).at ht
        obtain ⟨x, n, q⟩ := t
        simp only at y0 y1 y2 hft
        obtain ⟨m2, hm2, hm2i, hm2w, hm2b⟩ := hc_nums hmb hft hlt hNb hc0
        have HZ : Hid (c0 + moreP (P.take (i + 1)) = m2 ∧ Below W.heap.size W (wr.alloc (.cells #[.int .i64 (x : Nat), .int .i64 (n : Nat), .int .i64 (q : Nat)] 115)) ∧ m2 ≤ 400000000000000) := ⟨by rw [htake, moreP_snoc, ← Nat.add_assoc, HR.out.1]; exact hm2, HR.out.2.alloc HR.out.2.size _, hm2b⟩
        subst hao
        clear hiT htake hft ht hfin hN hP hmb hm2 hm2b HR
        go_wp2
        exact ⟨⟨i + 1, m2, rfl, by go_num, by omega, HZ.out.2.2, HZ.out.1, HZ.out.2.1⟩, by simp [intOf]; omega⟩
      · obtain rfl : i = N := by omega
        have hlti : ¬ (i : Int) < (i : Int) := by omega
        obtain ⟨d0, d1, d2, d3, d4⟩ := HV.out wr HR.out.2
        obtain ⟨a, b, r, e1, f1, e2, f2, e3, f3, hr1, hr2⟩ := hc_end hm hfi
        have HF : Hid (14 ≤ r ∧ r ≤ 400000000000100) := ⟨hr1, hr2⟩
        clear hr1 hr2 d0 d1 d2 d3
        go_wp2
        go_ret
        refine ⟨⟨r, rfl, HF.out⟩, ?_⟩
        have h9 := HBL.out.trans (HR.out.2.mono HBL.out.size)
        first | exact h9 | (rw [hU] at h9; exact h9)
end Go.Proofs.YtlbadjfcffoakaaDoor
namespace Go.Proofs.YtlbadjfcffoakaaDoor
open Go.RowKit
set_option linter.unusedVariables false
set_option maxRecDepth 20000

theorem says_same {x y : Nat} (hy : y = if x = 17 ∨ x = 18 then 0 else x) (h16 : x ≠ 16) : ∀ {P : List (Nat × Nat × Nat)} {L M : List Nat}, Says L P M → (∀ q ∈ P, q.1 = x) → (∀ z ∈ L, z = y) → ∀ z ∈ M, z = y
  | [], L, M, h, _, hL => by have h : L = M := h; subst h; exact hL
  | q :: P, L, M, h, hq, hL => by
    refine says_same hy h16 h.2.2 (fun r hr => hq r (List.mem_cons_of_mem _ hr)) (fun z hz => ?_)
    rcases List.mem_append.1 hz with hz | hz
    · exact hL z hz
    · have e := hq q (List.mem_cons_self)
      unfold tellP at hz
      rw [e, if_neg h16] at hz
      by_cases e17 : x = 17
      · rw [if_pos e17] at hz
        rw [hy, if_pos (.inl e17)]; exact (List.mem_replicate.1 hz).2
      · rw [if_neg e17] at hz
        by_cases e18 : x = 18
        · rw [if_pos e18] at hz
          rw [hy, if_pos (.inr e18)]; exact (List.mem_replicate.1 hz).2
        · rw [if_neg e18] at hz
          rw [hy, if_neg (by omega)]; exact (List.mem_replicate.1 hz).2
theorem shr_const {c : List Nat} {y : Nat} (hy : y ≠ 0) : ∀ j, (∀ i, i < j → c.getD i 0 = y) → shr c j = j * 2 ^ (15 - y)
  | 0, _ => by simp [shr]
  | j + 1, h => by
    simp only [shr]
    rw [shr_const hy j (fun i hi => h i (by omega)), h j (by omega), if_neg hy, Nat.add_mul, Nat.one_mul]
theorem two_syms {c d : List Nat} {P : List (Nat × Nat × Nat)} (hs : Says [] P (c ++ d)) (hcl : 257 ≤ c.length ∧ c.length ≤ 286) (h256 : c.getD 256 0 ≠ 0) (hw : wholeB (intsOf c) = true) : ∃ p ∈ P, ∃ q ∈ P, p.1 ≠ q.1 := by
  match P, hs with
  | [], hs =>
    have hs : [] = c ++ d := hs
    have := congrArg List.length hs
    simp only [List.length_nil, List.length_append] at this
    omega
  | p :: P, hs =>
    refine ⟨p, List.mem_cons_self, ?_⟩
    refine Classical.byContradiction fun hn => ?_
    have hall : ∀ q ∈ p :: P, q.1 = p.1 := fun q hq => Classical.byContradiction fun e => hn ⟨q, hq, fun e2 => e e2.symm⟩
    have h16 : p.1 ≠ 16 := fun e => hs.2.1 e rfl
    obtain ⟨y, hy⟩ : ∃ y, y = if p.1 = 17 ∨ p.1 = 18 then 0 else p.1 := ⟨_, rfl⟩
    have hM := says_same hy h16 hs hall (fun z hz => by simp at hz)
    have hg : ∀ i, i < c.length → c.getD i 0 = y := fun i hi => by
      rw [getD_in hi]
      exact hM _ (List.mem_append_left _ (List.getElem_mem hi))
    have hy0 : y ≠ 0 := by rw [← hg 256 (by omega)]; exact h256
    unfold wholeB at hw
    rw [Bool.and_eq_true, decide_eq_true_eq, nsOf_ints] at hw
    obtain ⟨hmay, he⟩ := hw
    have h15 : ∀ i, c.getD i 0 ≤ 15 := fun i => by
      have h1 := (may_get hmay i).2
      have h2 : (nsOf (intsOf c)).getD i 0 = ((intsOf c).getD i 0).toNat := nsOf_get _ _
      rw [nsOf_ints] at h2
      omega
    have hy15 : y ≤ 15 := by rw [← hg 256 (by omega)]; exact h15 256
    rw [← shr_ew c h15, shr_const hy0 _ hg] at he
    obtain ⟨m, hm⟩ : ∃ m, c.length = m := ⟨_, rfl⟩
    rw [hm] at he hcl
    have h16 : y = 1 ∨ y = 2 ∨ y = 3 ∨ y = 4 ∨ y = 5 ∨ y = 6 ∨ y = 7 ∨ y = 8 ∨ y = 9 ∨ y = 10 ∨ y = 11 ∨ y = 12 ∨ y = 13 ∨ y = 14 ∨ y = 15 := by omega
    clear hy hM hg hn hall hs h15 hy0 hy15
    rcases h16 with rfl | rfl | rfl | rfl | rfl | rfl | rfl | rfl | rfl | rfl | rfl | rfl | rfl | rfl | rfl <;> simp only [Nat.reduceSub, Nat.reducePow] at he <;> omega
theorem cntP_pos {i : Nat} : ∀ {P : List (Nat × Nat × Nat)}, 0 < cntP P i ↔ ∃ p ∈ P, p.1 = i
  | [] => by simp [cntP]
  | p :: P => by
    have ih := cntP_pos (i := i) (P := P)
    simp only [cntP, List.mem_cons]
    by_cases e : p.1 = i
    · rw [if_pos e]
      exact ⟨fun _ => ⟨p, .inl rfl, e⟩, fun _ => by omega⟩
    · rw [if_neg e, Nat.add_zero, ih]
      exact ⟨fun ⟨q, h1, h2⟩ => ⟨q, .inr h1, h2⟩, fun ⟨q, h1, h2⟩ => by
        rcases h1 with rfl | h1
        · exact absurd h2 e
        · exact ⟨q, h1, h2⟩⟩
theorem two_mem {l : List Nat} {a b : Nat} (ha : a ∈ l) (hb : b ∈ l) (h : a ≠ b) : 2 ≤ l.length := by
  match l with
  | [] => simp at ha
  | [x] => simp only [List.mem_singleton] at ha hb; omega
  | x :: y :: r => simp
end Go.Proofs.YtlbadjfcffoakaaDoor
namespace Go.Proofs.YtlbadjfcffoakaaDoor
open Go.RowKit
set_option linter.unusedVariables false
set_option maxRecDepth 20000

set_option maxHeartbeats 1000000 in
theorem trimmedT_ok (g N cap least : Nat) (f : Nat → Nat) (w : World) (hr : LB w g N f) (hN : N ≤ 1000) (hl : least ≤ N) (hc : N ≤ cap) (hf : ∀ i, f i ≤ 15) :
    Calls Tryd.prog 62 #[.slice (some ⟨g, 0, none⟩) N cap, .int .i64 (least : Nat)] w fun e w' => (∃ m, least ≤ m ∧ m ≤ N ∧ (∀ i, m ≤ i → i < N → f i = 0) ∧ (m = least ∨ f (m - 1) ≠ 0) ∧ e = .returned (.slice (some ⟨g, 0, none⟩) m cap)) ∧ ∃ k, w' = w.drewN k := by
  have HR : Hid (LB w g N f ∧ ∀ i, f i ≤ 15) := ⟨hr, hf⟩
  clear hr hf
  go_enter Tryd.func62, Tryd.ntmps62
  go_wp2_with fail
  go_loopw [5] (fun v5 wr => ∃ m : Nat, v5 = .int .i64 (m : Nat) ∧ least ≤ m ∧ m ≤ N ∧ Hid ((∀ i, m ≤ i → i < N → f i = 0) ∧ ∃ k, wr = w.drewN k)) (fun v5 _ => (intOf v5).toNat)
  case atStart => exact ⟨N, rfl, hl, Nat.le_refl _, fun i h1 h2 => by omega, 0, rfl⟩
  case round =>
    obtain ⟨m, rfl, h1, h2, HS⟩ := hrel
    obtain ⟨hz, k, hk⟩ := HS.out
    subst hk
    clear HS
    by_cases hgt : least < m
    · have hgti : (least : Int) < (m : Int) := by omega
      obtain ⟨q, hq⟩ : ∃ q, m = q + 1 := ⟨m - 1, by omega⟩
      subst hq
      have hqi : ((q + 1 : Nat) : Int) - 1 = (q : Int) := by omega
      have hqw := D5.wrapN q (by omega)
      have hqN : (q : Int) < (N : Int) := by omega
      have hc0 : (w.drewN k).cell? ⟨g, q, none⟩ = some (.int .i64 (f q : Nat)) := (HR.out.1.cell (i := q) (by omega)).1
      obtain ⟨x, hx⟩ : ∃ x, f q = x := ⟨_, rfl⟩
      rw [hx] at hc0
      obtain ⟨M, hM⟩ : ∃ M, q + 1 = M := ⟨_, rfl⟩
      rw [hM] at hgti hqi ⊢
      by_cases h0 : x = 0
      · have h0b : ((x : Int) == 0) = true := by simp [h0]
        have HZ : Hid ((∀ i, q ≤ i → i < N → f i = 0) ∧ ∃ k', w.drewN k = w.drewN k') := ⟨fun i a b => by
          by_cases e : i = q
          · rw [e, hx, h0]
          · exact hz i (by omega) b, k, rfl⟩
        clear hz h0 hx
        go_wp2
        exact ⟨⟨q, rfl, by omega, by omega, HZ⟩, by simp [intOf]; omega⟩
      · have h0b : ((x : Int) == 0) = false := by simp; omega
        have HZ : Hid ((∀ i, M ≤ i → i < N → f i = 0) ∧ ∃ k', w.drewN k = w.drewN k') := ⟨by rw [← hM]; exact hz, k, rfl⟩
        have hMc : (M : Int) ≤ (cap : Int) := by omega
        have hMN : M ≤ N ∧ least ≤ M := ⟨by omega, by omega⟩
        have HL : Hid (f (M - 1) ≠ 0) := by
          show f (M - 1) ≠ 0
          rw [← hM, Nat.add_sub_cancel, hx]; exact h0
        clear hz h0 hx
        go_wp2
        go_ret
        exact ⟨⟨M, hMN.2, hMN.1, HZ.out.1, .inr HL.out, rfl⟩, HZ.out.2⟩
    · have hgti : ¬ (least : Int) < (m : Int) := by omega
      have HZ : Hid ((∀ i, m ≤ i → i < N → f i = 0) ∧ ∃ k', w.drewN k = w.drewN k') := ⟨hz, k, rfl⟩
      have hMc : (m : Int) ≤ (cap : Int) := by omega
      clear hz
      go_wp2
      go_ret
      exact ⟨⟨m, h1, h2, HZ.out.1, .inl (by omega), rfl⟩, HZ.out.2⟩
theorem trim_le {m least k N : Nat} {f : Nat → Nat} (hm : m = least ∨ f (m - 1) ≠ 0) (hmN : m ≤ N) (hl : least ≤ k) (hz : ∀ i, k ≤ i → i < N → f i = 0) : m ≤ k := by
  rcases hm with rfl | hm
  · exact hl
  · rcases Nat.lt_or_ge k m with a | a
    · exact absurd (hz (m - 1) (by omega) (by omega)) hm
    · exact a
end Go.Proofs.YtlbadjfcffoakaaDoor
namespace Go.Proofs.YtlbadjfcffoakaaDoor
open Go.RowKit
set_option linter.unusedVariables false
set_option maxRecDepth 20000

theorem map_getD (B : List Nat) : (List.range B.length).map (fun i => B.getD i 0) = B := by
  refine List.ext_getElem (by simp) (fun i h1 h2 => ?_)
  rw [List.getElem_map, List.getElem_range, getD_in h2]
theorem fqL_get (F : Nat → Nat) {n i : Nat} (h : i < n) : (fqL F n).getD i 0 = ((F i : Nat) : Int) := lensOf_get F h
theorem lrow_le {c : Nat → Nat} {m x : Nat} (h : ∀ i, i < m → c i ≤ x) (i : Nat) : (lrow c m).getD i 0 ≤ x := by
  rcases Nat.lt_or_ge i m with a | a
  · rw [lrow_get c a]; exact h i a
  · rw [lrow_out c a]; exact Nat.zero_le _
theorem append_le {A B : List Nat} {x : Nat} (ha : ∀ i, A.getD i 0 ≤ x) (hb : ∀ i, B.getD i 0 ≤ x) (i : Nat) : (A ++ B).getD i 0 ≤ x := by
  rcases Nat.lt_or_ge i (A ++ B).length with a | a
  · rw [getD_in a]
    rcases List.mem_append.1 (List.getElem_mem a) with h | h
    · obtain ⟨k, hk, e⟩ := List.getElem_of_mem h
      rw [← e, ← getD_in hk]; exact ha k
    · obtain ⟨k, hk, e⟩ := List.getElem_of_mem h
      rw [← e, ← getD_in hk]; exact hb k
  · rw [List.getD_eq_getElem?_getD, List.getElem?_eq_none a]; exact Nat.zero_le _
def bothL (c1 c2 : Nat → Nat) (m1 m2 : Nat) : List Nat := lrow c1 m1 ++ lrow c2 m2
theorem bothL_length (c1 c2 : Nat → Nat) (m1 m2 : Nat) : (bothL c1 c2 m1 m2).length = m1 + m2 := by
  unfold bothL; rw [List.length_append, lrow_length, lrow_length]
def bothP (c1 c2 : Nat → Nat) (m1 m2 : Nat) : List (Nat × Nat × Nat) := runsL (fun i => (bothL c1 c2 m1 m2).getD i 0) (m1 + m2) (m1 + m2) 0
theorem bothP_says {c1 c2 : Nat → Nat} {m1 m2 : Nat} (h1 : ∀ i, i < m1 → c1 i ≤ 15) (h2 : ∀ i, i < m2 → c2 i ≤ 15) : Says [] (bothP c1 c2 m1 m2) (lrow c1 m1 ++ lrow c2 m2) := by
  have h := runs_says (f := fun i => (bothL c1 c2 m1 m2).getD i 0) (N := m1 + m2) (append_le (lrow_le h1) (lrow_le h2)) (m1 + m2) 0 (Nat.zero_le _) (by omega)
  have e : (List.range (m1 + m2)).map (fun i => (bothL c1 c2 m1 m2).getD i 0) = bothL c1 c2 m1 m2 := by
    rw [← bothL_length c1 c2 m1 m2]; exact map_getD _
  rw [e] at h
  exact h
theorem tcok {F1 F2 c1 c2 cf : Nat → Nat} {m1 m2 nf : Nat} {W1 W2 W3 : List Nat} (h1 : BestL (fqL F1 288) 15 c1 W1) (h2 : BestL (fqL F2 30) 15 c2 W2) (h3 : BestL (fqL (cntP (bothP c1 c2 m1 m2)) 19) 7 cf W3)
    (h256 : 0 < F1 256) (hx : ∃ s, s ≠ 256 ∧ s < 288 ∧ 0 < F1 s) (hz : ∀ i, 286 ≤ i → F1 i = 0) (hm1 : 257 ≤ m1 ∧ m1 ≤ 288) (hz1 : ∀ i, m1 ≤ i → i < 288 → c1 i = 0) (hl1 : m1 = 257 ∨ c1 (m1 - 1) ≠ 0)
    (hm2 : 1 ≤ m2 ∧ m2 ≤ 30) (hz2 : ∀ i, m2 ≤ i → i < 30 → c2 i = 0) (hnf : 4 ≤ nf ∧ nf ≤ 19) (hfz : ∀ j, nf ≤ j → j < 19 → cf (ordL.getD j 0) = 0) (hord : ∀ j, j < 19 → ordL.getD j 0 < 19) : TCok (lrow c1 m1) (lrow c2 m2) (lrow cf 19) nf (bothP c1 c2 m1 m2) := by
  have l1 : (fqL F1 288).length = 288 := fqL_length _ _
  have l2 : (fqL F2 30).length = 30 := fqL_length _ _
  have l3 : (fqL (cntP (bothP c1 c2 m1 m2)) 19).length = 19 := fqL_length _ _
  have t1 : ∀ i, i < 288 → c1 i ≤ 15 := fun i hi => h1.top i (by omega)
  have t2 : ∀ i, i < 30 → c2 i ≤ 15 := fun i hi => h2.top i (by omega)
  have t3 : ∀ i, i < 19 → cf i ≤ 7 := fun i hi => h3.top i (by omega)
  have hsays := bothP_says (c1 := c1) (c2 := c2) (m1 := m1) (m2 := m2) (fun i hi => t1 i (by omega)) (fun i hi => t2 i (by omega))
  have hm286 : m1 ≤ 286 := trim_le hl1 hm1.2 (by omega) (fun i a b => by
    have := h1.has i (by omega)
    rw [fqL_get F1 b, hz i a] at this
    omega)
  have hin : ∀ s, s < 288 → 0 < F1 s → s ∈ comes (fqL F1 288) (fqL F1 288).length := fun s a b => mem_comes.2 ⟨by omega, by rw [fqL_get F1 a]; omega⟩
  have hwc : wholeB (intsOf (lrow c1 m1)) = true := by
    obtain ⟨s, s1, s2, s3⟩ := hx
    exact h1.trim (by omega) (by omega) (two_mem (hin s s2 s3) (hin 256 (by omega) h256) s1) (by omega) (fun i a b => hz1 i a (by omega))
  have hc256 : (lrow c1 m1).getD 256 0 ≠ 0 := by
    rw [lrow_get c1 (by omega)]
    have := (h1.has 256 (by omega)).1 (by rw [fqL_get F1 (by omega)]; omega)
    omega
  have hsy : ∀ q ∈ bothP c1 c2 m1 m2, q.1 < 19 := fun q hq => by
    have := Says.ok hsays q hq
    unfold PieOK at this
    omega
  have hinP : ∀ q ∈ bothP c1 c2 m1 m2, 0 < (fqL (cntP (bothP c1 c2 m1 m2)) 19).getD q.1 0 := fun q hq => by
    rw [fqL_get _ (hsy q hq)]
    have := cntP_pos.2 ⟨q, hq, rfl⟩
    omega
  refine ⟨?_, ?_, hwc, ?_, hc256, lrow_length _ _, ?_, ?_, hnf, ?_, hsays, ?_⟩
  · rw [lrow_length]; omega
  · rw [lrow_length]; exact hm2
  · by_cases e : 2 ≤ (comes (fqL F2 30) (fqL F2 30).length).length
    · exact .inl (h2.trim (by omega) (by omega) e (by omega) (fun i a b => hz2 i a (by omega)))
    · refine .inr ?_
      rw [lrow_length]
      exact h2.lone (by omega) (by omega)
  · exact fun i => Nat.lt_succ_of_le (lrow_le t3 i)
  · obtain ⟨p, hp, q, hq, hne⟩ := two_syms hsays ⟨by rw [lrow_length]; omega, by rw [lrow_length]; omega⟩ hc256 hwc
    exact h3.trim (by omega) (by omega) (two_mem (mem_comes.2 ⟨by rw [l3]; exact hsy p hp, hinP p hp⟩) (mem_comes.2 ⟨by rw [l3]; exact hsy q hq, hinP q hq⟩) hne) (by omega) (fun i a b => by omega)
  · intro j a b
    rw [lrow_get cf (hord j b)]; exact hfz j a b
  · intro q hq
    exact h3.cod (by omega) (by omega) (by omega) (fun i a b => by omega) (by rw [l3]; exact hsy q hq) (hinP q hq)
end Go.Proofs.YtlbadjfcffoakaaDoor
namespace Go.Proofs.YtlbadjfcffoakaaDoor
open Go.RowKit
set_option linter.unusedVariables false
set_option maxRecDepth 20000

def freqS (T : List (Nat × Nat × Nat)) (i : Nat) : Nat := cntS T i + if i = 256 then 1 else 0
theorem cntS_pos {i : Nat} : ∀ {T : List (Nat × Nat × Nat)}, 0 < cntS T i ↔ ∃ t ∈ T, symOf t = i
  | [] => by simp [cntS]
  | t :: T => by
    have ih := cntS_pos (i := i) (T := T)
    simp only [cntS, List.mem_cons]
    by_cases e : symOf t = i
    · rw [if_pos e]
      exact ⟨fun _ => ⟨t, .inl rfl, e⟩, fun _ => by omega⟩
    · rw [if_neg e, Nat.add_zero, ih]
      exact ⟨fun ⟨q, h1, h2⟩ => ⟨q, .inr h1, h2⟩, fun ⟨q, h1, h2⟩ => by
        rcases h1 with rfl | h1
        · exact absurd h2 e
        · exact ⟨q, h1, h2⟩⟩
theorem cntD_pos {t : Nat × Nat × Nat} (h0 : t.2.2 ≠ 0) : ∀ {T : List (Nat × Nat × Nat)}, t ∈ T → 0 < cntD T (distK t.2.2).1
  | [], h => by simp at h
  | x :: T, h => by
    simp only [cntD]
    rcases List.mem_cons.1 h with rfl | h
    · rw [if_pos (by unfold distB; simp [h0])]; omega
    · have := cntD_pos h0 (T := T) h; omega
theorem symOf_ne {t : Nat × Nat × Nat} (h : Fine t) : symOf t ≠ 256 := by
  unfold symOf
  split
  · rename_i h0
    rcases h with h | h
    · omega
    · have := h.2.2.1; omega
  · unfold lenK
    split
    · simp
    · show _ + 257 ≠ 256
      omega
theorem freqS_end (T : List (Nat × Nat × Nat)) : 0 < freqS T 256 := by unfold freqS; rw [if_pos rfl]; omega
theorem freqS_zero {T : List (Nat × Nat × Nat)} (h : ∀ t ∈ T, Fine t) : ∀ i, 286 ≤ i → freqS T i = 0 := fun i hi => by
  unfold freqS
  rw [if_neg (by omega)]
  rcases Nat.eq_zero_or_pos (cntS T i) with e | e
  · rw [e]
  · obtain ⟨t, ht, e⟩ := cntS_pos.1 e
    have := symOf_lt (h t ht)
    omega
theorem freqS_other {T : List (Nat × Nat × Nat)} (h : ∀ t ∈ T, Fine t) (hne : T ≠ []) : ∃ s, s ≠ 256 ∧ s < 288 ∧ 0 < freqS T s := by
  match T, hne with
  | t :: T, _ =>
    have hf := h t (List.mem_cons_self)
    refine ⟨symOf t, symOf_ne hf, by have := symOf_lt hf; omega, ?_⟩
    have := cntS_pos.2 ⟨t, List.mem_cons_self (l := T), rfl⟩
    unfold freqS; omega
theorem has_all {T : List (Nat × Nat × Nat)} (hf : ∀ t ∈ T, Fine t) {c1 c2 : Nat → Nat} {m1 m2 : Nat} {W1 W2 : List Nat} (h1 : BestL (fqL (freqS T) 288) 15 c1 W1) (h2 : BestL (fqL (cntD T) 30) 15 c2 W2) (hm1 : m1 ≤ 288) (hz1 : ∀ i, m1 ≤ i → i < 288 → c1 i = 0) (hm2 : m2 ≤ 30) (hz2 : ∀ i, m2 ≤ i → i < 30 → c2 i = 0) : Cod (lrow c1 m1) 256 ∧ ∀ t ∈ T, Has (lrow c1 m1) (lrow c2 m2) t := by
  have l1 : (fqL (freqS T) 288).length = 288 := fqL_length _ _
  have l2 : (fqL (cntD T) 30).length = 30 := fqL_length _ _
  have k1 : ∀ i, i < 288 → 0 < freqS T i → Cod (lrow c1 m1) i := fun i a b => h1.cod (by omega) (by omega) (by omega) (fun i a b => hz1 i a (by omega)) (by omega) (by rw [fqL_get _ a]; omega)
  have k2 : ∀ i, i < 30 → 0 < cntD T i → Cod (lrow c2 m2) i := fun i a b => h2.cod (by omega) (by omega) (by omega) (fun i a b => hz2 i a (by omega)) (by omega) (by rw [fqL_get _ a]; omega)
  refine ⟨k1 256 (by omega) (freqS_end T), fun t ht => ?_⟩
  have hs := symOf_lt (hf t ht)
  have hp : 0 < freqS T (symOf t) := by have := cntS_pos.2 ⟨t, ht, rfl⟩; unfold freqS; omega
  have hc := k1 (symOf t) (by omega) hp
  unfold Has
  unfold symOf at hc
  split
  · rename_i h0; rw [if_pos h0] at hc; exact hc
  · rename_i h0
    rw [if_neg h0] at hc
    refine ⟨hc, k2 _ ?_ (cntD_pos h0 ht)⟩
    rcases hf t ht with h | h
    · exact absurd h.1 h0
    · exact (distK_ok h.2.2.1 h.2.2.2).small.1
end Go.Proofs.YtlbadjfcffoakaaDoor
