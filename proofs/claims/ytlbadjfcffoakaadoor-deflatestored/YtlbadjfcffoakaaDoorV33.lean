/- Layer 5: how often symbols come. -/
/- Layer 5: how many bytes tokens tell; what stored bytes cost; lengths without the noughts at their end. -/
/- Layer 5: lengths without the noughts at their end; the symbol that repeats a length. -/
/- Layer 5: one length so many times, as pieces. -/
import Derived.Test.YtlbadjfcffoakaaDoorV32
namespace Go.Proofs.YtlbadjfcffoakaaDoor
open Go.RowKit
set_option linter.unusedVariables false
set_option maxRecDepth 20000

def symOf (t : Nat × Nat × Nat) : Nat := if t.2.2 = 0 then t.1 else (lenK t.2.1).1
def distB (t : Nat × Nat × Nat) (i : Nat) : Bool := decide (t.2.2 ≠ 0) && decide ((distK t.2.2).1 = i)
def moreOf (t : Nat × Nat × Nat) : Nat := if t.2.2 = 0 then 0 else (lenK t.2.1).2.2 + (distK t.2.2).2.2
def cntS : List (Nat × Nat × Nat) → Nat → Nat
  | [], _ => 0
  | t :: T, i => cntS T i + if symOf t = i then 1 else 0
def cntD : List (Nat × Nat × Nat) → Nat → Nat
  | [], _ => 0
  | t :: T, i => cntD T i + if distB t i = true then 1 else 0
def moreT : List (Nat × Nat × Nat) → Nat
  | [] => 0
  | t :: T => moreT T + moreOf t
theorem cntS_snoc (t : Nat × Nat × Nat) (i : Nat) : ∀ T, cntS (T ++ [t]) i = cntS T i + if symOf t = i then 1 else 0
  | [] => rfl
  | x :: T => by show cntS (T ++ [t]) i + _ = (cntS T i + _) + _; rw [cntS_snoc t i T]; omega
theorem cntD_snoc (t : Nat × Nat × Nat) (i : Nat) : ∀ T, cntD (T ++ [t]) i = cntD T i + if distB t i = true then 1 else 0
  | [] => rfl
  | x :: T => by show cntD (T ++ [t]) i + _ = (cntD T i + _) + _; rw [cntD_snoc t i T]; omega
theorem moreT_snoc (t : Nat × Nat × Nat) : ∀ T, moreT (T ++ [t]) = moreT T + moreOf t
  | [] => by simp [moreT]
  | x :: T => by show moreT (T ++ [t]) + _ = (moreT T + _) + _; rw [moreT_snoc t T]; omega
theorem cntS_le (i : Nat) : ∀ T, cntS T i ≤ T.length
  | [] => by simp [cntS]
  | t :: T => by have := cntS_le i T; simp only [cntS, List.length_cons]; split <;> omega
theorem cntD_le (i : Nat) : ∀ T, cntD T i ≤ T.length
  | [] => by simp [cntD]
  | t :: T => by have := cntD_le i T; simp only [cntD, List.length_cons]; split <;> omega
theorem moreOf_le {t : Nat × Nat × Nat} (h : Fine t) : moreOf t ≤ 18 := by
  unfold moreOf
  split
  · omega
  · rename_i h0
    rcases h with h | h
    · exact absurd h.1 h0
    · have a := (lenK_ok h.1 h.2.1).small
      have b := (distK_ok h.2.2.1 h.2.2.2).small
      omega
theorem moreT_le : ∀ {T : List (Nat × Nat × Nat)}, (∀ t ∈ T, Fine t) → moreT T ≤ 18 * T.length
  | [], _ => by simp [moreT]
  | t :: T, h => by
    have a := moreOf_le (h t (List.mem_cons_self ..))
    have b := moreT_le (T := T) (fun x hx => h x (List.mem_cons_of_mem _ hx))
    simp only [moreT, List.length_cons]; omega
theorem symOf_lt {t : Nat × Nat × Nat} (h : Fine t) : symOf t < 286 := by
  unfold symOf
  split
  · rename_i h0
    rcases h with h | h
    · omega
    · have := h.2.2.1; omega
  · rename_i h0
    rcases h with h | h
    · exact absurd h.1 h0
    · exact (lenK_ok h.1 h.2.1).small.2.1
structure CN (w0 w : World) (U X g1 g2 : Nat) (f1 f2 : Nat → Nat) (m : Nat) : Prop where
  res : w.heap[U]? = some (.cells #[.slice none 0 0, .slice none 0 0, .int .i64 0] 91 (0, 0))
  by_ : w.heap[X]? = some (.cells #[.slice (some ⟨g1, 0, none⟩) 288 288, .slice (some ⟨g2, 0, none⟩) 30 30, .int .i64 (m : Nat)] 91 (0, 0))
  r1 : LB w g1 288 f1
  r2 : LB w g2 30 f2
  ne : g1 ≠ g2
  neX : U ≠ X
  l1 : U ≤ g1
  l2 : U ≤ g2
  lX : U ≤ X
  bel : Below U w0 w
variable {w0 w w' : World} {U X g1 g2 : Nat} {f1 f2 : Nat → Nat} {m : Nat}
theorem CN.quiet (h : CN w0 w U X g1 g2 f1 f2 m) (hb : Below w.heap.size w w') : CN w0 w' U X g1 g2 f1 f2 m :=
  ⟨(hb.block _ (lt_of_block h.res)).trans h.res, (hb.block _ (lt_of_block h.by_)).trans h.by_, h.r1.below hb, h.r2.below hb, h.ne, h.neX, h.l1, h.l2, h.lX, h.bel.trans (hb.mono (by have := lt_of_block h.res; omega))⟩
theorem CN.apart (h : CN w0 w U X g1 g2 f1 f2 m) : U ≠ g1 ∧ U ≠ g2 ∧ X ≠ g1 ∧ X ≠ g2 := by
  have h1 := h.r1
  have h2 := h.r2
  unfold LB at h1 h2
  refine ⟨?_, ?_, ?_, ?_⟩
  · rintro rfl; rw [h.res] at h1; simp at h1
  · rintro rfl; rw [h.res] at h2; simp at h2
  · rintro rfl; rw [h.by_] at h1; simp at h1
  · rintro rfl; rw [h.by_] at h2; simp at h2
theorem CN.cells (h : CN w0 w U X g1 g2 f1 f2 m) : w.cell? ⟨X, 0, none⟩ = some (.slice (some ⟨g1, 0, none⟩) 288 288) ∧ w.cell? ⟨X, 1, none⟩ = some (.slice (some ⟨g2, 0, none⟩) 30 30) ∧ w.cell? ⟨X, 2, none⟩ = some (.int .i64 (m : Nat)) ∧ w.frozen? ⟨X, 2, none⟩ = false := by
  have := h.by_
  exact ⟨by simp [World.cell?, this], by simp [World.cell?, this], by simp [World.cell?, this], by simp [World.frozen?, this]⟩
theorem CN.up1 (h : CN w0 w U X g1 g2 f1 f2 m) (k x : Nat) : CN w0 (w.setCell ⟨g1, k, none⟩ (.int .i64 (x : Nat))) U X g1 g2 (fun i => if i = k then x else f1 i) f2 m := by
  obtain ⟨a1, a2, a3, a4⟩ := h.apart
  refine ⟨?_, ?_, h.r1.set k x, ?_, h.ne, h.neX, h.l1, h.l2, h.lX, h.bel.trans (D5.Below.setCell' _ _ h.l1)⟩
  · rw [Below.heap_setCell _ _ _ _ (by exact a1)]; exact h.res
  · rw [Below.heap_setCell _ _ _ _ (by exact a3)]; exact h.by_
  · unfold LB; rw [Below.heap_setCell _ _ _ _ (by exact h.ne.symm)]; exact h.r2
theorem CN.up2 (h : CN w0 w U X g1 g2 f1 f2 m) (k x : Nat) : CN w0 (w.setCell ⟨g2, k, none⟩ (.int .i64 (x : Nat))) U X g1 g2 f1 (fun i => if i = k then x else f2 i) m := by
  obtain ⟨a1, a2, a3, a4⟩ := h.apart
  refine ⟨?_, ?_, ?_, h.r2.set k x, h.ne, h.neX, h.l1, h.l2, h.lX, h.bel.trans (D5.Below.setCell' _ _ h.l2)⟩
  · rw [Below.heap_setCell _ _ _ _ (by exact a2)]; exact h.res
  · rw [Below.heap_setCell _ _ _ _ (by exact a4)]; exact h.by_
  · unfold LB; rw [Below.heap_setCell _ _ _ _ (by exact h.ne)]; exact h.r1
theorem CN.upM (h : CN w0 w U X g1 g2 f1 f2 m) (x : Nat) : CN w0 (w.setCell ⟨X, 2, none⟩ (.int .i64 (x : Nat))) U X g1 g2 f1 f2 x := by
  obtain ⟨a1, a2, a3, a4⟩ := h.apart
  refine ⟨?_, D5.block_setCell (i := 2) h.by_, ?_, ?_, h.ne, h.neX, h.l1, h.l2, h.lX, h.bel.trans (D5.Below.setCell' _ _ h.lX)⟩
  · rw [Below.heap_setCell _ _ _ _ (by exact h.neX)]; exact h.res
  · unfold LB; rw [Below.heap_setCell _ _ _ _ (by exact a3.symm)]; exact h.r1
  · unfold LB; rw [Below.heap_setCell _ _ _ _ (by exact a4.symm)]; exact h.r2
theorem CN.congr {d1 d2 : Nat → Nat} (h : CN w0 w U X g1 g2 f1 f2 m) (e1 : ∀ i, i < 288 → f1 i = d1 i) (e2 : ∀ i, i < 30 → f2 i = d2 i) : CN w0 w U X g1 g2 d1 d2 m :=
  ⟨h.res, h.by_, h.r1.congr e1, h.r2.congr e2, h.ne, h.neX, h.l1, h.l2, h.lX, h.bel⟩
theorem CN.done (h : CN w0 w U X g1 g2 f1 f2 m) (a b c : Value) : LB (((w.setCell ⟨U, 0, none⟩ a).setCell ⟨U, 1, none⟩ b).setCell ⟨U, 2, none⟩ c) g1 288 f1 ∧ LB (((w.setCell ⟨U, 0, none⟩ a).setCell ⟨U, 1, none⟩ b).setCell ⟨U, 2, none⟩ c) g2 30 f2 ∧ Below U w0 (((w.setCell ⟨U, 0, none⟩ a).setCell ⟨U, 1, none⟩ b).setCell ⟨U, 2, none⟩ c) ∧ (((w.setCell ⟨U, 0, none⟩ a).setCell ⟨U, 1, none⟩ b).setCell ⟨U, 2, none⟩ c).heap[U]? = some (.cells #[a, b, c] 91 (0, 0)) := by
  obtain ⟨a1, a2, a3, a4⟩ := h.apart
  refine ⟨?_, ?_, ((h.bel.trans (D5.Below.setCell' _ _ (Nat.le_refl _))).trans (D5.Below.setCell' _ _ (Nat.le_refl _))).trans (D5.Below.setCell' _ _ (Nat.le_refl _)), D5.block_setCell (i := 2) (D5.block_setCell (i := 1) (D5.block_setCell (i := 0) h.res))⟩
  · unfold LB; rw [Below.heap_setCell _ _ _ _ (by exact a1.symm), Below.heap_setCell _ _ _ _ (by exact a1.symm), Below.heap_setCell _ _ _ _ (by exact a1.symm)]; exact h.r1
  · unfold LB; rw [Below.heap_setCell _ _ _ _ (by exact a2.symm), Below.heap_setCell _ _ _ _ (by exact a2.symm), Below.heap_setCell _ _ _ _ (by exact a2.symm)]; exact h.r2
theorem counts_ret {fn : Func} {p : Tmp} {W : World} {U : Nat} {a b c : Value} {tmps : Array Value} (ha : a.oneCell' = true) (hb : b.oneCell' = true) (hc : c.oneCell' = true) (hr : fn.results = #[.cell p 91]) (hp : tmps.getD p undef = .pointer (some ⟨U, 0, none⟩)) (hbk : W.heap[U]? = some (.cells #[a, b, c] 91 (0, 0))) : (results fn tmps).run Tryd.prog W = .ok (.agg #[a, b, c]) W := by
  have x0 : W.cell? ⟨U, 0, none⟩ = some a := by simp [World.cell?, hbk]
  have x1 : W.cell? ⟨U, 1, none⟩ = some b := by simp [World.cell?, hbk]
  have x2 : W.cell? ⟨U, 2, none⟩ = some c := by simp [World.cell?, hbk]
  rw [D5.results_cell hr, hp]
  go_simp
def PieB (w : World) (b : Nat) (p : Nat × Nat × Nat) : Prop := w.heap[b]? = some (.cells #[.int .i64 (p.1 : Nat), .int .i64 (p.2.1 : Nat), .int .i64 (p.2.2 : Nat)] 115 (0, 0))
end Go.Proofs.YtlbadjfcffoakaaDoor
namespace Go.Proofs.YtlbadjfcffoakaaDoor
open Go.RowKit
set_option linter.unusedVariables false
set_option maxRecDepth 20000

def plainN : List (Nat × Nat × Nat) → Nat
  | [] => 0
  | t :: T => plainN T + max 1 t.2.1
theorem plainN_snoc (t : Nat × Nat × Nat) : ∀ T, plainN (T ++ [t]) = plainN T + max 1 t.2.1
  | [] => by simp [plainN]
  | x :: T => by show plainN (T ++ [t]) + _ = (plainN T + _) + _; rw [plainN_snoc t T]; omega
theorem Tells.plain {s : ByteArray} : ∀ {T : List (Nat × Nat × Nat)} {k k' : Nat}, Tells s k T k' → k + plainN T = k'
  | [], k, k', h => by have h : k = k' := h; subst h; rfl
  | t :: T, k, k', h => by
    rcases h with ⟨rfl, _, h2⟩ | ⟨n, d, rfl, h1, h2⟩
    · have := h2.plain; simp only [plainN]; omega
    · have := h2.plain; have := h1.long; simp only [plainN]; omega
theorem plainN_le {t : Nat × Nat × Nat} : ∀ {T : List (Nat × Nat × Nat)}, (∀ t ∈ T, t.2.1 ≤ 258) → plainN T ≤ 258 * T.length
  | [], _ => by simp [plainN]
  | t :: T, h => by
    have a := h t (List.mem_cons_self ..)
    have b := plainN_le (t := t) (T := T) (fun x hx => h x (List.mem_cons_of_mem _ hx))
    simp only [plainN, List.length_cons]; omega
theorem pl_nums {m n i N : Nat} (h1 : m ≤ 258 * i) (h2 : n ≤ 258) (h3 : i < N) (h4 : N ≤ 1048576) : ∃ q m2 : Nat, max 1 n = q ∧ m + q = m2 ∧ max 1 (n : Int) = (q : Int) ∧ (m : Int) + (q : Int) = (m2 : Int) ∧ IntKind.i64.wrap (m2 : Int) = (m2 : Int) ∧ wrap64 (n : Int) = (n : Int) ∧ m2 ≤ 300000000 :=
  ⟨max 1 n, m + max 1 n, rfl, rfl, by omega, by omega, D5.wrapN _ (by omega), D5.wrapN64 _ (by omega), by omega⟩
theorem sc_nums {p S : Nat} (hp : p ≤ 1099511627776) (hS : S ≤ 1048576) : ∃ p3 p11 p10 q q8 r r2 S8 c : Nat, (p : Int) + 3 = (p3 : Int) ∧ IntKind.i64.wrap (p3 : Int) = (p3 : Int) ∧ (p3 : Int) + 8 = (p11 : Int) ∧ IntKind.i64.wrap (p11 : Int) = (p11 : Int) ∧ (p11 : Int) - 1 = (p10 : Int) ∧ IntKind.i64.wrap (p10 : Int) = (p10 : Int) ∧ (p10 : Int) / 8 = (q : Int) ∧ (p10 : Int).tdiv 8 = (q : Int) ∧ IntKind.i64.wrap (q : Int) = (q : Int) ∧ (q : Int) * 8 = (q8 : Int) ∧ IntKind.i64.wrap (q8 : Int) = (q8 : Int) ∧ (q8 : Int) - (p : Int) = (r : Int) ∧ IntKind.i64.wrap (r : Int) = (r : Int) ∧ (r : Int) + 32 = (r2 : Int) ∧ IntKind.i64.wrap (r2 : Int) = (r2 : Int) ∧ (S : Int) * 8 = (S8 : Int) ∧ IntKind.i64.wrap (S8 : Int) = (S8 : Int) ∧ (r2 : Int) + (S8 : Int) = (c : Int) ∧ IntKind.i64.wrap (c : Int) = (c : Int) ∧ 8 * S + 32 ≤ c ∧ c ≤ 8 * S + 50 :=
  ⟨p + 3, p + 11, p + 10, (p + 10) / 8, (p + 10) / 8 * 8, (p + 10) / 8 * 8 - p, (p + 10) / 8 * 8 - p + 32, S * 8, (p + 10) / 8 * 8 - p + 32 + S * 8, by omega, D5.wrapN _ (by omega), by omega, D5.wrapN _ (by omega), by omega, D5.wrapN _ (by omega), by omega, by rw [Int.tdiv_eq_ediv_of_nonneg (by omega)]; omega, D5.wrapN _ (by omega), by omega, D5.wrapN _ (by omega), by omega, D5.wrapN _ (by omega), by omega, D5.wrapN _ (by omega), by omega, D5.wrapN _ (by omega), by omega, D5.wrapN _ (by omega), by omega, by omega⟩
set_option maxHeartbeats 1000000 in
theorem plainBytes_ok (T : List (Nat × Nat × Nat)) (ao : Option Addr) (cp : Nat) (w : World) (hT : TokR w ao T) (hTl : T.length ≤ 1048576) (hfin : ∀ t ∈ T, t.2.1 ≤ 258) : Calls Tryd.prog 26 #[.slice ao T.length cp] w fun e w' => e = .returned (.int .i64 (plainN T : Nat)) ∧ Below w.heap.size w w' := by
  obtain ⟨N, hN⟩ : ∃ N, T.length = N := ⟨_, rfl⟩
  obtain ⟨P, hP⟩ : ∃ P, plainN T = P := ⟨_, rfl⟩
  have HALL : Hid ((∀ t ∈ T, t.2.1 ≤ 258) ∧ T.length ≤ 1048576 ∧ T.length = N ∧ TokR w ao T ∧ plainN T = P) := ⟨hfin, hTl, hN, hT, hP⟩
  have hNb : N ≤ 1048576 := by omega
  rw [hN, hP]
  clear hfin hTl hN hT hP
  go_enter Tryd.func26, Tryd.ntmps26
  go_wp2_with fail
  go_loopw [3, 8] (fun v3 v8 wr => ∃ i m : Nat, v3 = .int .i64 (m : Nat) ∧ v8 = .int .i64 (i : Nat) ∧ i ≤ N ∧ m ≤ 300000000 ∧ Hid (plainN (T.take i) = m ∧ Below w.heap.size w wr)) (fun _ v8 _ => N - (intOf v8).toNat)
  case atStart => exact ⟨0, 0, rfl, rfl, Nat.zero_le _, by omega, by rw [List.take_zero]; exact ⟨rfl, Below.refl _ _⟩⟩
  case round =>
    obtain ⟨i, m, rfl, rfl, hi, hm, HR⟩ := hrel
    by_cases hlt : i < N
    · have hlti : (i : Int) < (N : Int) := by omega
      obtain ⟨hfin, hTl, hN, hT, hP⟩ := HALL.out
      have hiT : i < T.length := by omega
      obtain ⟨t, ht⟩ : ∃ t, T[i]? = some t := ⟨T[i], List.getElem?_eq_getElem hiT⟩
      have hft := hfin t (List.mem_of_getElem? ht)
      have htake : T.take (i + 1) = T.take i ++ [t] := by rw [List.take_add_one, ht]; rfl
      have hmb : m ≤ 258 * i := by
        rw [← HR.out.1]
        have := plainN_le (t := t) (T := T.take i) (fun x hx => hfin x (List.mem_of_mem_take hx))
        rw [List.length_take] at this
        omega
      obtain ⟨g, off, hao, y0, y1, y2⟩ := (hT.below HR.out.2).at ht
      obtain ⟨x, n, dd⟩ := t
      simp only at y0 y1 y2 hft
      obtain ⟨q, m2, hq, hm2, hqi, hm2i, hm2w, hnw, hm2b⟩ := pl_nums hmb hft hlt hNb
      have HZ : Hid (plainN (T.take (i + 1)) = m2 ∧ Below w.heap.size w (wr.alloc (.cells #[.int .u8 (x : Nat), .int .u16 (n : Nat), .int .u16 (dd : Nat)] 61)) ∧ m2 ≤ 300000000) := ⟨by rw [htake, plainN_snoc, HR.out.1]; show m + max 1 n = m2; rw [hq, hm2], HR.out.2.alloc HR.out.2.size _, hm2b⟩
      subst hao
      clear hiT htake hft ht hfin hTl hN hT hP hmb hq hm2 hm2b HR
      go_wp2
      exact ⟨⟨i + 1, m2, rfl, by go_num, by omega, HZ.out.2.2, HZ.out.1, HZ.out.2.1⟩, by simp [intOf]; omega⟩
    · obtain rfl : i = N := by omega
      have hlti : ¬ (i : Int) < (i : Int) := by omega
      have HE : Hid (P = m ∧ Below w.heap.size w wr) := by
        have := HR.out
        rw [← HALL.out.2.2.1, List.take_length, HALL.out.2.2.2.2] at this
        exact this
      go_wp2
      go_ret
      rw [HE.out.1]
      exact ⟨rfl, HE.out.2⟩
set_option maxHeartbeats 1000000 in
theorem storedCost_ok (b : Nat) (L : List Nat) (s : ByteArray) (w : World) (hs : s.size ≤ 1048576) (hL : L.length ≤ 1099511627776) (hw : PW w b L) :
    Calls Tryd.prog 48 #[pkV b, .string s] w fun e w' => (∃ c : Nat, e = .returned (.int .i64 (c : Nat)) ∧ 8 * s.size + 32 ≤ c ∧ c ≤ 8 * s.size + 50) ∧ Below w.heap.size w w' := by
  obtain ⟨W, hW⟩ : ∃ W, w.alloc (.cells #[.pointer (some ⟨b, 0, none⟩)] 51) = W := ⟨_, rfl⟩
  have hbel : Below w.heap.size w W := by rw [← hW]; exact (Below.refl _ _).alloc (Nat.le_refl _) _
  obtain ⟨U, hU⟩ : ∃ U, w.heap.size = U := ⟨_, rfl⟩
  have hb0 : W.heap[U]? = some (.cells #[.pointer (some ⟨b, 0, none⟩)] 51 (0, 0)) := by rw [← hW, ← hU]; exact heap_alloc_new _ _
  have hPW := WS.below hw hbel
  obtain ⟨p, hp⟩ : ∃ p, L.length = p := ⟨_, rfl⟩
  have hpl := hPW.place
  rw [hp] at hpl
  have HC : Hid (∀ _ : Unit, Calls Tryd.prog 66 #[.pointer (some ⟨b, 0, none⟩)] W fun e w' => e = .returned (.int .i64 (p : Nat)) ∧ w' = W) := fun _ => wplace b p W hPW.self hpl
  have z0 := box_cell hb0
  have HB : Hid (Below w.heap.size w W) := hbel
  obtain ⟨S, hS⟩ : ∃ S, s.size = S := ⟨_, rfl⟩
  obtain ⟨p3, p11, p10, q, q8, r, r2, S8, c, e1, f1, e2, f2, e3, f3, e4, e4t, f4, e5, f5, e6, f6, e7, f7, e8, f8, e9, f9, hc1, hc2⟩ := sc_nums (p := p) (S := S) (by omega) (by omega)
  have HFIN : Hid (8 * s.size + 32 ≤ c ∧ c ≤ 8 * s.size + 50) := by rw [hS]; exact ⟨hc1, hc2⟩
  clear hc1 hc2 hp hL hs
  unfold pkV
  clear hbel hb0 hPW hpl hw
  go_enter Tryd.func48, Tryd.ntmps48
  go_wp2_with fail
  refine (HC.out ()).mono ?_
  rintro e w1 ⟨rfl, rfl⟩
  clear HC z0
  go_wp2
  go_ret
  exact ⟨⟨c, rfl, HFIN.out⟩, HB.out⟩
end Go.Proofs.YtlbadjfcffoakaaDoor
namespace Go.Proofs.YtlbadjfcffoakaaDoor
open Go.RowKit
set_option linter.unusedVariables false
set_option maxRecDepth 20000

set_option maxHeartbeats 1000000 in
theorem trimmed_ok (g N cap least : Nat) (f : Nat → Nat) (w : World) (hr : LB w g N f) (hN : N ≤ 1000) (hl : least ≤ N) (hc : N ≤ cap) (hf : ∀ i, f i ≤ 15) :
    Calls Tryd.prog 62 #[.slice (some ⟨g, 0, none⟩) N cap, .int .i64 (least : Nat)] w fun e w' => (∃ m, least ≤ m ∧ m ≤ N ∧ (∀ i, m ≤ i → i < N → f i = 0) ∧ e = .returned (.slice (some ⟨g, 0, none⟩) m cap)) ∧ ∃ k, w' = w.drewN k := by
  have HR : Hid (LB w g N f ∧ ∀ i, f i ≤ 15) := ⟨hr, hf⟩
  clear hr hf
  go_enter Tryd.func62, Tryd.ntmps62
  go_wp2_with fail
  go_loopw [5] (fun v5 wr => ∃ m : Nat, v5 = .int .i64 (m : Nat) ∧ least ≤ m ∧ m ≤ N ∧ Hid ((∀ i, m ≤ i → i < N → f i = 0) ∧ ∃ k, wr = w.drewN k)) (fun v5 _ => (intOf v5).toNat)
  case atStart => exact ⟨N, rfl, hl, Nat.le_refl _, fun i h1 h2 => by omega, 0, rfl⟩
  case round =>
    obtain ⟨m, rfl, h1, h2, HS⟩ := hrel
    obtain ⟨hz, k, hk⟩ := HS.out
    subst hk
    clear HS
    by_cases hgt : least < m
    · have hgti : (least : Int) < (m : Int) := by omega
      obtain ⟨q, hq⟩ : ∃ q, m = q + 1 := ⟨m - 1, by omega⟩
      subst hq
      have hqi : ((q + 1 : Nat) : Int) - 1 = (q : Int) := by omega
      have hqw := D5.wrapN q (by omega)
      have hqN : (q : Int) < (N : Int) := by omega
      have hc0 : (w.drewN k).cell? ⟨g, q, none⟩ = some (.int .i64 (f q : Nat)) := (HR.out.1.cell (i := q) (by omega)).1
      obtain ⟨x, hx⟩ : ∃ x, f q = x := ⟨_, rfl⟩
      rw [hx] at hc0
      obtain ⟨M, hM⟩ : ∃ M, q + 1 = M := ⟨_, rfl⟩
      rw [hM] at hgti hqi ⊢
      by_cases h0 : x = 0
      · have h0b : ((x : Int) == 0) = true := by simp [h0]
        have HZ : Hid ((∀ i, q ≤ i → i < N → f i = 0) ∧ ∃ k', w.drewN k = w.drewN k') := ⟨fun i a b => by
          by_cases e : i = q
          · rw [e, hx, h0]
          · exact hz i (by omega) b, k, rfl⟩
        clear hz h0 hx
        go_wp2
        exact ⟨⟨q, rfl, by omega, by omega, HZ⟩, by simp [intOf]; omega⟩
      · have h0b : ((x : Int) == 0) = false := by simp; omega
        have HZ : Hid ((∀ i, M ≤ i → i < N → f i = 0) ∧ ∃ k', w.drewN k = w.drewN k') := ⟨by rw [← hM]; exact hz, k, rfl⟩
        have hMc : (M : Int) ≤ (cap : Int) := by omega
        have hMN : M ≤ N ∧ least ≤ M := ⟨by omega, by omega⟩
        clear hz h0 hx
        go_wp2
        go_ret
        exact ⟨⟨M, hMN.2, hMN.1, HZ.out.1, rfl⟩, HZ.out.2⟩
    · have hgti : ¬ (least : Int) < (m : Int) := by omega
      have HZ : Hid ((∀ i, m ≤ i → i < N → f i = 0) ∧ ∃ k', w.drewN k = w.drewN k') := ⟨hz, k, rfl⟩
      have hMc : (m : Int) ≤ (cap : Int) := by omega
      clear hz
      go_wp2
      go_ret
      exact ⟨⟨m, h1, h2, HZ.out.1, rfl⟩, HZ.out.2⟩
def repK (len times : Nat) : (Nat × Nat × Nat) × Nat := if 0 < len then ((16, min times 6 - 3, 2), min times 6) else if times ≤ 10 then ((17, times - 3, 3), times) else ((18, min times 138 - 11, 7), min times 138)
set_option maxHeartbeats 1000000 in
theorem repeated_ok (len times : Nat) (h3 : 3 ≤ times) (ht : times ≤ 1000) (w : World) : Calls Tryd.prog 85 #[.int .i64 (len : Nat), .int .i64 (times : Nat)] w fun e w' => e = .returned (.tuple #[D5.pieceV (repK len times).1, .int .i64 ((repK len times).2 : Nat)]) ∧ Below w.heap.size w w' := by
  have HRET : Hid (∀ (a b c n : Nat) (A : Act), A.defers = [] → A.tmps.getD 4 undef = .pointer (some ⟨w.heap.size, 0, none⟩) → A.tmps.getD 5 undef = .int .i64 (n : Nat) → repK len times = ((a, b, c), n) → bodyPost Tryd.prog Tryd.f85 (fun e w' => e = .returned (.tuple #[D5.pieceV (repK len times).1, .int .i64 ((repK len times).2 : Nat)]) ∧ Below w.heap.size w w') .ret A (w.alloc (.cells #[.int .i64 (a : Nat), .int .i64 (b : Nat), .int .i64 (c : Nat)] 115))) := fun a b c n A hd h4 h5 hr => by
    have hb := heap_alloc_new w (.cells #[.int .i64 (a : Nat), .int .i64 (b : Nat), .int .i64 (c : Nat)] 115)
    obtain ⟨W, hW⟩ : ∃ W, w.alloc (.cells #[.int .i64 (a : Nat), .int .i64 (b : Nat), .int .i64 (c : Nat)] 115) = W := ⟨_, rfl⟩
    have hbl : Below w.heap.size w W := by rw [← hW]; exact (Below.refl _ _).alloc (Nat.le_refl _) _
    rw [hW] at hb ⊢
    have x0 : W.cell? ⟨w.heap.size, 0, none⟩ = some (.int .i64 (a : Nat)) := by simp [World.cell?, hb]
    have x1 : W.cell? ⟨w.heap.size, 1, none⟩ = some (.int .i64 (b : Nat)) := by simp [World.cell?, hb]
    have x2 : W.cell? ⟨w.heap.size, 2, none⟩ = some (.int .i64 (c : Nat)) := by simp [World.cell?, hb]
    refine bodyPost_ret (v := .tuple #[D5.pieceV (a, b, c), .int .i64 (n : Nat)]) ?_ hd ?_
    · rw [D5.results_cell_tmp rfl, h4, h5]
      go_simp
      rfl
    rw [hr]
    exact ⟨rfl, hbl⟩
  by_cases hl : 0 < len
  · have hli : (0 : Int) < (len : Int) := by omega
    have hr : repK len times = ((16, min times 6 - 3, 2), min times 6) := by unfold repK; rw [if_pos hl]
    obtain ⟨n, hn⟩ : ∃ n, min times 6 = n := ⟨_, rfl⟩
    have hni : min (times : Int) 6 = (n : Int) := by omega
    obtain ⟨y, hy⟩ : ∃ y, n - 3 = y := ⟨_, rfl⟩
    have hyi : (n : Int) - 3 = (y : Int) := by omega
    have hyw := D5.wrapN y (by omega)
    rw [hn, hy] at hr
    have HR : Hid (repK len times = ((16, y, 2), n)) := hr
    clear hr hn hy
    go_enter Tryd.func85, Tryd.ntmps85
    go_wp2
    refine HRET.out 16 y 2 n _ ?_ ?_ ?_ HR.out <;> rfl
  · have hli : ¬ (0 : Int) < (len : Int) := by omega
    by_cases h10 : times ≤ 10
    · have h10i : (times : Int) ≤ 10 := by omega
      have hr : repK len times = ((17, times - 3, 3), times) := by unfold repK; rw [if_neg hl, if_pos h10]
      obtain ⟨y, hy⟩ : ∃ y, times - 3 = y := ⟨_, rfl⟩
      have hyi : (times : Int) - 3 = (y : Int) := by omega
      have hyw := D5.wrapN y (by omega)
      rw [hy] at hr
      have HR : Hid (repK len times = ((17, y, 3), times)) := hr
      clear hr hy
      go_enter Tryd.func85, Tryd.ntmps85
      go_wp2
      refine HRET.out 17 y 3 times _ ?_ ?_ ?_ HR.out <;> rfl
    · have h10i : ¬ (times : Int) ≤ 10 := by omega
      have hr : repK len times = ((18, min times 138 - 11, 7), min times 138) := by unfold repK; rw [if_neg hl, if_neg h10]
      obtain ⟨n, hn⟩ : ∃ n, min times 138 = n := ⟨_, rfl⟩
      have hni : min (times : Int) 138 = (n : Int) := by omega
      obtain ⟨y, hy⟩ : ∃ y, n - 11 = y := ⟨_, rfl⟩
      have hyi : (n : Int) - 11 = (y : Int) := by omega
      have hyw := D5.wrapN y (by omega)
      rw [hn, hy] at hr
      have HR : Hid (repK len times = ((18, y, 7), n)) := hr
      clear hr hn hy
      go_enter Tryd.func85, Tryd.ntmps85
      go_wp2
      refine HRET.out 18 y 7 n _ ?_ ?_ ?_ HR.out <;> rfl
end Go.Proofs.YtlbadjfcffoakaaDoor
namespace Go.Proofs.YtlbadjfcffoakaaDoor
open Go.RowKit
set_option linter.unusedVariables false
set_option maxRecDepth 20000

theorem pieInfo : (Tryd.prog.info? 115).map (fun i => (i.zero, i.size, i.bytes)) = some (some (.agg #[.int .i64 0, .int .i64 0, .int .i64 0]), 3, 24) := by kernel_rfl
def qc (p : Nat × Nat × Nat) : List Value := [.int .i64 (p.1 : Nat), .int .i64 (p.2.1 : Nat), .int .i64 (p.2.2 : Nat)]
def qcs : List (Nat × Nat × Nat) → List Value
  | [] => []
  | p :: P => qc p ++ qcs P
theorem qcs_append (L M : List (Nat × Nat × Nat)) : qcs (L ++ M) = qcs L ++ qcs M := by
  induction L with
  | nil => rfl
  | cons x L ih => simp [qcs, ih]
theorem qcs_length (L : List (Nat × Nat × Nat)) : (qcs L).length = L.length * 3 := by
  induction L with
  | nil => rfl
  | cons x L ih => simp only [qcs, List.length_append, ih, List.length_cons]; show 3 + _ = _; omega
theorem qcs_get (L : List (Nat × Nat × Nat)) (i : Nat) (r : Nat × Nat × Nat) (h : L[i]? = some r) (j : Nat) (hj : j < 3) : (qcs L)[i * 3 + j]? = (qc r)[j]? := by
  induction L generalizing i with
  | nil => simp at h
  | cons x L ih =>
    cases i with
    | zero =>
      simp at h
      subst h
      rw [qcs, List.getElem?_append_left (by show 0 * 3 + j < 3; omega)]
      simp
    | succ i =>
      simp at h
      rw [qcs, List.getElem?_append_right (by show 3 ≤ _; omega), show (i + 1) * 3 + j - (qc x).length = i * 3 + j by show (i + 1) * 3 + j - 3 = _; omega]
      exact ih i h
theorem newsPie (W : World) (p : Nat × Nat × Nat) : ∀ j u, (qc p)[j]? = some u → (W.alloc (.cells #[.int .i64 (p.1 : Nat), .int .i64 (p.2.1 : Nat), .int .i64 (p.2.2 : Nat)] 115)).cell? ((⟨W.heap.size, 0, none⟩ : Addr).add j) = some u := by
  intro j u h
  rw [D5.add_zero_addr]
  unfold World.cell?
  rw [heap_alloc_new]
  match j, h with
  | 0, h => simpa [qc] using h
  | 1, h => simpa [qc] using h
  | 2, h => simpa [qc] using h
  | j + 3, h => simp [qc] at h
theorem onePie (p : Nat × Nat × Nat) : ∀ u ∈ qc p, u.oneCell' = true := by
  intro u hu
  simp only [qc, List.mem_cons, List.not_mem_nil, or_false] at hu
  rcases hu with rfl | rfl | rfl <;> rfl
def QR (w0 : World) (B : Nat) (v : Value) (P : List (Nat × Nat × Nat)) (w : World) : Prop := w.ownsRow B 115 3 v P.length (qcs P) ∧ Below B w0 w ∧ B ≤ w.heap.size
theorem QR.quiet {w0 w w' : World} {B : Nat} {v : Value} {P : List (Nat × Nat × Nat)} (h : QR w0 B v P w) (hb : Below w.heap.size w w') : QR w0 B v P w' := ⟨D5.owns_below h.1 hb, h.2.1.trans (hb.mono h.2.2), Nat.le_trans h.2.2 hb.size⟩
theorem QR.form {w0 w : World} {B : Nat} {v : Value} {P : List (Nat × Nat × Nat)} (h : QR w0 B v P w) : ∃ ao cp, v = .slice ao P.length cp := D5.owns_form h.1
theorem QR.more {w0 w w' : World} {B : Nat} {v : Value} {P : List (Nat × Nat × Nat)} {p : Nat × Nat × Nat} {g cap : Nat} (h : QR w0 B v P w) (hown : w'.ownsRow B 115 3 (.slice (some ⟨g, 0, none⟩) (P.length + 1) cap) (P.length + 1) (qcs P ++ qc p)) (hg : w.grownBy w' v.ownBlock) : QR w0 B (.slice (some ⟨g, 0, none⟩) (P.length + 1) cap) (P ++ [p]) w' := by
  refine ⟨?_, h.2.1.trans (D5.Below.grown h.1 hg h.2.2), Nat.le_trans h.2.2 hg.size⟩
  rw [List.length_append, List.length_singleton, qcs_append]
  have : qcs [p] = qc p := by simp [qcs]
  rw [this]; exact hown
def reps (len : Nat) : Nat → Nat → List (Nat × Nat × Nat)
  | 0, t => List.replicate t (len, 0, 0)
  | f + 1, t => if 3 ≤ t then (repK len t).1 :: reps len f (t - (repK len t).2) else List.replicate t (len, 0, 0)
def runP (len times : Nat) : List (Nat × Nat × Nat) := if 0 < len then (len, 0, 0) :: reps len times (times - 1) else reps len times times
theorem repK_b (len t : Nat) (h : 3 ≤ t) : 3 ≤ (repK len t).2 ∧ (repK len t).2 ≤ t := by
  unfold repK
  split
  · simp only; omega
  · split
    · simp only; omega
    · simp only; omega
theorem reps_end {len f t : Nat} (h : ¬ 3 ≤ t) : reps len f t = List.replicate t (len, 0, 0) := by
  cases f with
  | zero => rfl
  | succ f => unfold reps; rw [if_neg h]
theorem reps_length (len : Nat) : ∀ f t, (reps len f t).length ≤ t
  | 0, t => by simp [reps]
  | f + 1, t => by
    unfold reps
    split
    · rename_i h
      have h1 := repK_b len t h
      have h2 := reps_length len f (t - (repK len t).2)
      simp only [List.length_cons]; omega
    · simp
theorem runP_length (len times : Nat) (h : 1 ≤ times) : (runP len times).length ≤ times := by
  unfold runP
  split
  · have := reps_length len times (times - 1); simp only [List.length_cons]; omega
  · exact reps_length len times times
theorem pie_room {L : Nat} (h : L ≤ 100000) : L + 1 ≤ maxLen ∧ (L + 1) * 24 ≤ 140737488355328 := by
  unfold maxLen; exact ⟨by omega, by omega⟩
set_option maxHeartbeats 4000000 in
theorem appendRun_ok (len times : Nat) (v : Value) (P : List (Nat × Nat × Nat)) (B : Nat) (w0 w : World) (hq : QR w0 B v P w) (ht : 1 ≤ times) (ht2 : times ≤ 1000) (hP : P.length ≤ 10000) (hl : len ≤ 15) :
    Calls Tryd.prog 76 #[v, .int .i64 (len : Nat), .int .i64 (times : Nat)] w fun e w' => ∃ v', e = .returned v' ∧ QR w0 B v' (P ++ runP len times) w' := by
  obtain ⟨i0, hi0, hz0, hz1, hz2⟩ := D5.info_split pieInfo
  have HI : Hid (Tryd.prog.info? 115 = some i0 ∧ i0.zero = some (.agg #[.int .i64 0, .int .i64 0, .int .i64 0]) ∧ i0.size = 3 ∧ i0.bytes = 24) := ⟨hi0, hz0, hz1, hz2⟩
  clear hi0 hz0 hz1 hz2
  have HQ : Hid (QR w0 B v P w ∧ P.length ≤ 10000) := ⟨hq, hP⟩
  obtain ⟨R, hR⟩ : ∃ R, P ++ runP len times = R := ⟨_, rfl⟩
  rw [hR]
  have HR : Hid (P ++ runP len times = R) := hR
  clear hq hP hR
  go_enter Tryd.func76, Tryd.ntmps76
  have hRl : R.length ≤ 11001 := by
    rw [← HR.out, List.length_append]
    have := runP_length len times ht
    have := HQ.out.2
    omega
  have HRL : Hid (R.length ≤ 11001) := hRl
  clear hRl
  obtain ⟨ao, cp, hv⟩ := HQ.out.1.form
  obtain ⟨LP, hLP⟩ : ∃ LP, P.length = LP := ⟨_, rfl⟩
  rw [hLP] at hv
  subst hv
  go_upto_if 10 with fail
  go_cut [0, 2] (fun v0 v2 wc => ∃ t : Nat, v2 = .int .i64 (t : Nat) ∧ t ≤ times ∧ Hid (∃ Q, QR w0 B v0 Q wc ∧ Q ++ reps len times t = R))
  case first =>
    as_aux_lemma =>
      by_cases h0 : 0 < len
      · have h0i : (0 : Int) < (len : Int) := by omega
        obtain ⟨t, ht1⟩ : ∃ t, times - 1 = t := ⟨_, rfl⟩
        have ht1i : (times : Int) - 1 = (t : Int) := by omega
        have ht1w := D5.wrapN t (by omega)
        have HOW : Hid (∀ o, (w.alloc o).ownsRow B 115 3 (.slice ao LP cp) LP (qcs P) ∧ B ≤ (w.alloc o).heap.size) := fun o => by
          have := HQ.out.1.quiet (w' := w.alloc o) ((Below.refl _ _).alloc (Nat.le_refl _) _)
          rw [← hLP]
          refine ⟨?_, this.2.2⟩
          have h9 := this.1
          rw [hLP] at h9
          rw [hLP]
          exact h9
        have hroom : LP ≤ 100000 := by rw [← hLP]; have := HQ.out.2; omega
        have HX : Hid (P ++ ((len, 0, 0) :: reps len times t) = R) := by
          have := HR.out
          unfold runP at this
          rw [if_pos h0, ht1] at this
          exact this
        clear h0
        go_wp2_with (at_builtin; refine wpList_append_lies _ rfl _ _ 93 rfl B 115 i0 (.agg #[.int .i64 0, .int .i64 0, .int .i64 0]) 3 24 Tryd.underlying93 HI.out.1 HI.out.2.1 HI.out.2.2.1 HI.out.2.2.2 rfl (by decide) (.slice ao LP cp) LP (qcs P) rfl (HOW.out _).1 ⟨w.heap.size, 0, none⟩ 1 1 (qc (len, 0, 0)) rfl rfl ?c1 ?c2 (by decide) ?c3 ?c4 (HOW.out _).2 _ rfl ?_)
        case c1 => first | exact newsPie _ (len, 0, 0) | exact fun j u h => h
        case c2 => exact onePie _
        case c3 => exact (pie_room hroom).1
        case c4 => exact (pie_room hroom).2
        intro g cap w5 hown hgrow hat hgl
        have H5 : Hid (QR w0 B (.slice (some ⟨g, 0, none⟩) (LP + 1) cap) (P ++ [(len, 0, 0)]) w5) := by
          have hq0 := HQ.out.1.quiet (w' := w.alloc (.cells #[.int .i64 (len : Nat), .int .i64 0, .int .i64 0] 115)) ((Below.refl _ _).alloc (Nat.le_refl _) _)
          rw [← hLP]
          refine QR.more hq0 ?_ ?_
          · rw [hLP]; exact hown
          · exact hgrow
        clear hown hgrow hat hgl HOW
        go_wp2_with fail
        go_meet
        case rel => exact ⟨t, rfl, by omega, P ++ [(len, 0, 0)], H5.out, by rw [List.append_assoc]; exact HX.out⟩
      · have h0i : ¬ (0 : Int) < (len : Int) := by omega
        have HX : Hid (P ++ reps len times times = R) := by
          have := HR.out
          unfold runP at this
          rw [if_neg h0] at this
          exact this
        clear h0
        go_wp2_with fail
        go_meet
        case rel => exact ⟨times, rfl, Nat.le_refl _, P, HQ.out.1, HX.out⟩
  case rest =>
    obtain ⟨t0, rfl, ht0, HS0⟩ := hcut
    clear HQ HR
    go_upto_block 0 with fail
    go_cut [0, 2] (fun v0 v2 wd => ∃ t : Nat, v2 = .int .i64 (t : Nat) ∧ t < 3 ∧ Hid (∃ Q, QR w0 B v0 Q wd ∧ Q ++ List.replicate t (len, 0, 0) = R))
    case first =>
      as_aux_lemma =>
        go_wp2_with fail
        go_loopw [0, 2] (fun v0 v2 wr => ∃ t : Nat, v2 = .int .i64 (t : Nat) ∧ t ≤ 1000 ∧ Hid (∃ Q f, QR w0 B v0 Q wr ∧ Q ++ reps len f t = R ∧ t ≤ f)) (fun _ v2 _ => (intOf v2).toNat)
        case atStart =>
          obtain ⟨Q, h1, h2⟩ := HS0.out
          exact ⟨t0, rfl, by omega, Q, times, h1, h2, ht0⟩
        case round =>
          obtain ⟨t, rfl, ht9, HS⟩ := hrel
          by_cases h3 : 3 ≤ t
          · have h3i : (3 : Int) ≤ (t : Int) := by omega
            obtain ⟨Q, f, hq, hQ, hf⟩ := HS.out
            obtain ⟨f, rfl⟩ : ∃ f', f = f' + 1 := ⟨f - 1, by omega⟩
            unfold reps at hQ
            rw [if_pos h3] at hQ
            have hrb := repK_b len t h3
            obtain ⟨ao2, cp2, hv⟩ := hq.form
            subst hv
            obtain ⟨LQ, hLQ⟩ : ∃ LQ, Q.length = LQ := ⟨_, rfl⟩
            have hroom : LQ ≤ 100000 := by
              rw [← hLQ]
              have h8 := HRL.out
              rw [← hQ, List.length_append] at h8
              omega
            have HRE : Hid (∀ W', Calls Tryd.prog 85 #[.int .i64 (len : Nat), .int .i64 (t : Nat)] W' fun e w' => e = .returned (.tuple #[D5.pieceV (repK len t).1, .int .i64 ((repK len t).2 : Nat)]) ∧ Below W'.heap.size W' w') := fun W' => repeated_ok len t h3 ht9 W'
            obtain ⟨⟨⟨a, b, c⟩, n⟩, hk⟩ : ∃ p, repK len t = p := ⟨_, rfl⟩
            rw [hk] at HRE hQ hrb
            simp only at HRE hQ hrb
            obtain ⟨t2, ht2'⟩ : ∃ t2, t - n = t2 := ⟨_, rfl⟩
            have ht2i : (t : Int) - (n : Int) = (t2 : Int) := by omega
            have ht2w := D5.wrapN t2 (by omega)
            have ht2l : t2 < t ∧ t2 ≤ f := ⟨by omega, by omega⟩
            rw [ht2'] at hQ
            have HQ : Hid (QR w0 B (.slice ao2 LQ cp2) Q wr ∧ Q ++ (a, b, c) :: reps len f t2 = R ∧ Q.length = LQ) := ⟨by rw [← hLQ]; exact hq, hQ, hLQ⟩
            have ep : D5.pieceV (a, b, c) = .agg #[.int .i64 (a : Nat), .int .i64 (b : Nat), .int .i64 (c : Nat)] := rfl
            rw [ep] at HRE
            rw [hLQ]
            clear hq hQ hLQ hk ht2' hrb HS ep h3
            go_upto_region 6 with (go_at_call 85; refine (HRE.out _).mono ?_; rintro e w3 ⟨rfl, hb3⟩)
            have H3 : Hid (QR w0 B (.slice ao2 LQ cp2) Q (w3.alloc (.cells #[.int .i64 (a : Nat), .int .i64 (b : Nat), .int .i64 (c : Nat)] 115))) := (HQ.out.1.quiet hb3).quiet ((Below.refl _ _).alloc (Nat.le_refl _) _)
            have hb4 := heap_alloc_new w3 (.cells #[.int .i64 (a : Nat), .int .i64 (b : Nat), .int .i64 (c : Nat)] 115)
            obtain ⟨W4, hW4⟩ : ∃ W4, w3.alloc (.cells #[.int .i64 (a : Nat), .int .i64 (b : Nat), .int .i64 (c : Nat)] 115) = W4 := ⟨_, rfl⟩
            obtain ⟨X, hX⟩ : ∃ X, w3.heap.size = X := ⟨_, rfl⟩
            rw [hW4] at H3
            rw [hW4, hX] at hb4
            try rw [hW4]
            try rw [hX]
            have y0 : W4.cell? ⟨X, 0, none⟩ = some (.int .i64 (a : Nat)) := by simp [World.cell?, hb4]
            have y1 : W4.cell? ⟨X, 1, none⟩ = some (.int .i64 (b : Nat)) := by simp [World.cell?, hb4]
            have y2 : W4.cell? ⟨X, 2, none⟩ = some (.int .i64 (c : Nat)) := by simp [World.cell?, hb4]
            have HOW : Hid (∀ o, (W4.alloc o).ownsRow B 115 3 (.slice ao2 LQ cp2) LQ (qcs Q) ∧ B ≤ (W4.alloc o).heap.size) := fun o => by
              have h9 := H3.out.quiet (w' := W4.alloc o) ((Below.refl _ _).alloc (Nat.le_refl _) _)
              have h10 := h9.1
              rw [HQ.out.2.2] at h10
              exact ⟨h10, h9.2.2⟩
            clear hb3 hb4 hW4 HRE
            go_wp2_with (at_builtin; refine wpList_append_lies _ rfl _ _ 93 rfl B 115 i0 (.agg #[.int .i64 0, .int .i64 0, .int .i64 0]) 3 24 Tryd.underlying93 HI.out.1 HI.out.2.1 HI.out.2.2.1 HI.out.2.2.2 rfl (by decide) (.slice ao2 LQ cp2) LQ (qcs Q) rfl (HOW.out _).1 ⟨W4.heap.size, 0, none⟩ 1 1 (qc (a, b, c)) rfl rfl ?c1 ?c2 (by decide) ?c3 ?c4 (HOW.out _).2 _ rfl ?_)
            case c1 => first | exact newsPie _ (a, b, c) | exact fun j u h => h
            case c2 => exact onePie _
            case c3 => exact (pie_room hroom).1
            case c4 => exact (pie_room hroom).2
            intro g cap w5 hown hgrow hat hgl
            have H5 : Hid (QR w0 B (.slice (some ⟨g, 0, none⟩) (LQ + 1) cap) (Q ++ [(a, b, c)]) w5) := by
              have hq0 := H3.out.quiet (w' := W4.alloc (.cells #[.int .i64 (a : Nat), .int .i64 (b : Nat), .int .i64 (c : Nat)] 115)) ((Below.refl _ _).alloc (Nat.le_refl _) _)
              have h6 := QR.more (p := (a, b, c)) (g := g) (cap := cap) hq0 (by rw [HQ.out.2.2]; exact hown) (by exact hgrow)
              rw [HQ.out.2.2] at h6
              exact h6
            clear hown hgrow hat hgl HOW y0 y1 y2
            go_wp2
            exact ⟨⟨t2, rfl, by omega, Q ++ [(a, b, c)], f, H5.out, by rw [List.append_assoc]; exact HQ.out.2.1, ht2l.2⟩, by simp [intOf]; omega⟩
          · have h3i : ¬ (3 : Int) ≤ (t : Int) := by omega
            have HE : Hid (∃ Q, QR w0 B u0 Q wr ∧ Q ++ List.replicate t (len, 0, 0) = R) := by
              obtain ⟨Q, f, hq, hQ, hf⟩ := HS.out
              rw [reps_end h3] at hQ
              exact ⟨Q, hq, hQ⟩
            go_wp2_with fail
            go_meet
            case rel => exact ⟨t, rfl, by omega, HE.out⟩
    case rest =>
      obtain ⟨t1, rfl, ht1, HS1⟩ := hcut
      clear HS0
      go_wp2_with fail
      go_loopw [0, 34] (fun v0 v34 wr => ∃ i : Nat, v34 = .int .i64 (i : Nat) ∧ i ≤ t1 ∧ Hid (∃ Q, QR w0 B v0 Q wr ∧ Q ++ List.replicate (t1 - i) (len, 0, 0) = R)) (fun _ v34 _ => t1 - (intOf v34).toNat)
      case atStart => exact ⟨0, rfl, Nat.zero_le _, HS1.out⟩
      case round =>
        obtain ⟨i, rfl, hi, HS⟩ := hrel
        by_cases hlt : i < t1
        · have hlti : (i : Int) < (t1 : Int) := by omega
          obtain ⟨Q, hq, hQ⟩ := HS.out
          rw [show t1 - i = (t1 - (i + 1)) + 1 by omega, List.replicate_succ] at hQ
          obtain ⟨ao2, cp2, hv⟩ := hq.form
          subst hv
          obtain ⟨LQ, hLQ⟩ : ∃ LQ, Q.length = LQ := ⟨_, rfl⟩
          have hroom : LQ ≤ 100000 := by
            rw [← hLQ]
            have h8 := HRL.out
            rw [← hQ, List.length_append] at h8
            omega
          have HQ : Hid (QR w0 B (.slice ao2 LQ cp2) Q wr ∧ Q ++ (len, 0, 0) :: List.replicate (t1 - (i + 1)) (len, 0, 0) = R ∧ Q.length = LQ) := ⟨by rw [← hLQ]; exact hq, hQ, hLQ⟩
          have HOW : Hid (∀ o, (wr.alloc o).ownsRow B 115 3 (.slice ao2 LQ cp2) LQ (qcs Q) ∧ B ≤ (wr.alloc o).heap.size) := fun o => by
            have h9 := HQ.out.1.quiet (w' := wr.alloc o) ((Below.refl _ _).alloc (Nat.le_refl _) _)
            have h10 := h9.1
            rw [HQ.out.2.2] at h10
            exact ⟨h10, h9.2.2⟩
          rw [hLQ]
          clear hq hQ hLQ HS
          go_wp2_with (at_builtin; refine wpList_append_lies _ rfl _ _ 93 rfl B 115 i0 (.agg #[.int .i64 0, .int .i64 0, .int .i64 0]) 3 24 Tryd.underlying93 HI.out.1 HI.out.2.1 HI.out.2.2.1 HI.out.2.2.2 rfl (by decide) (.slice ao2 LQ cp2) LQ (qcs Q) rfl (HOW.out _).1 ⟨wr.heap.size, 0, none⟩ 1 1 (qc (len, 0, 0)) rfl rfl ?c1 ?c2 (by decide) ?c3 ?c4 (HOW.out _).2 _ rfl ?_)
          case c1 => first | exact newsPie _ (len, 0, 0) | exact fun j u h => h
          case c2 => exact onePie _
          case c3 => exact (pie_room hroom).1
          case c4 => exact (pie_room hroom).2
          intro g cap w5 hown hgrow hat hgl
          have H5 : Hid (QR w0 B (.slice (some ⟨g, 0, none⟩) (LQ + 1) cap) (Q ++ [(len, 0, 0)]) w5) := by
            have hq0 := HQ.out.1.quiet (w' := wr.alloc (.cells #[.int .i64 (len : Nat), .int .i64 0, .int .i64 0] 115)) ((Below.refl _ _).alloc (Nat.le_refl _) _)
            have h6 := QR.more (p := (len, 0, 0)) (g := g) (cap := cap) hq0 (by rw [HQ.out.2.2]; exact hown) (by exact hgrow)
            rw [HQ.out.2.2] at h6
            exact h6
          clear hown hgrow hat hgl HOW
          go_wp2
          exact ⟨⟨i + 1, by go_num, by omega, Q ++ [(len, 0, 0)], H5.out, by rw [List.append_assoc]; exact HQ.out.2.1⟩, by simp [intOf]; omega⟩
        · obtain rfl : i = t1 := by omega
          have hlti : ¬ (i : Int) < (i : Int) := by omega
          have HE : Hid (QR w0 B u0 R wr) := by
            obtain ⟨Q, hq, hQ⟩ := HS.out
            rw [Nat.sub_self, List.replicate_zero, List.append_nil] at hQ
            rw [← hQ]; exact hq
          go_wp2
          go_ret
          exact ⟨_, rfl, HE.out⟩
end Go.Proofs.YtlbadjfcffoakaaDoor
