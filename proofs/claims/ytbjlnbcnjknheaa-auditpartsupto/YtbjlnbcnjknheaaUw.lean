/- Layer 18: words walked. -/
import Derived.Test.YtbjlnbcnjknheaaUh
import Derived.Deep.RegionHeldLaw
namespace Go.Proofs.Ytbjlnbcnjknheaa
open Go.RowKit Go.Maps
set_option linter.unusedVariables false
set_option maxRecDepth 20000

theorem info_split {t : TypeId} {z : Option Value} {n m : Nat} (h : (Try.prog.info? t).map (fun i => (i.zero, i.size, i.bytes)) = some (z, n, m)) : ∃ i, Try.prog.info? t = some i ∧ i.zero = z ∧ i.size = n ∧ i.bytes = m := by
  cases e : Try.prog.info? t with
  | none => rw [e] at h; simp at h
  | some i => rw [e] at h; simp at h; exact ⟨i, rfl, h.1, h.2.1, h.2.2⟩
theorem saidInfo : (Try.prog.info? 63).map (fun i => (i.zero, i.size, i.bytes)) = some (some (.agg #[.int .i64 0, .int .i64 0, .slice none 0 0]), 3, 40) := by kernel_rfl
theorem owns_below {w w' : World} {B : Nat} {E : TypeId} {size n : Nat} {v : Value} {xs : List Value} (h : w.ownsRow B E size v n xs) (hb : Below w.heap.size w w') : w'.ownsRow B E size v n xs := by
  refine ⟨h.1, ?_⟩
  rcases h.2 with hn | ⟨g, cap, cur, hv, hg, hh, r⟩
  · exact .inl hn
  · exact .inr ⟨g, cap, cur, hv, hg, (hb.block g (lt_of_block hh)).trans hh, r⟩
theorem below_grown {w w1 : World} {B : Nat} {E : TypeId} {size n : Nat} {v : Value} {xs : List Value} (h : w.ownsRow B E size v n xs) (hg : w.grownBy w1 v.ownBlock) (hB : B ≤ w.heap.size) : Below B w w1 := by
  refine ⟨hg.os, hg.tape, hg.output, hg.size, fun k hk => hg.block k (Nat.lt_of_lt_of_le hk hB) ?_⟩
  rcases h.2 with ⟨rfl, _⟩ | ⟨g, cap, cur, rfl, h1, _⟩
  · simp [Value.ownBlock]
  · intro e
    have e' : k = g := by simpa [Value.ownBlock] using e
    omega
/-- What was said, as it lies in cells. -/
abbrev SVal := Sd × Option Addr × Nat
def svc (X : List SVal) : List Value := X.flatMap fun x => [.int .i64 x.1.prod, .int .i64 x.1.seq, .slice x.2.1 x.1.rec'.length x.2.2]
theorem svc_snoc (X : List SVal) (x : SVal) : svc (X ++ [x]) = svc X ++ [.int .i64 x.1.prod, .int .i64 x.1.seq, .slice x.2.1 x.1.rec'.length x.2.2] := by simp [svc]
theorem svc_get : ∀ (X : List SVal) (i : Nat) (x : SVal), X[i]? = some x → ∀ j, j < 3 → (svc X)[i * 3 + j]? = [Value.int .i64 x.1.prod, .int .i64 x.1.seq, .slice x.2.1 x.1.rec'.length x.2.2][j]?
  | [], i, x, h, j, hj => by simp at h
  | y :: X, 0, x, h, j, hj => by
    have e : y = x := by simpa using h
    subst e
    unfold svc
    rw [List.flatMap_cons, Nat.zero_mul, Nat.zero_add, List.getElem?_append_left (by simpa using hj)]
  | y :: X, i + 1, x, h, j, hj => by
    have e : X[i]? = some x := by simpa using h
    have := svc_get X i x e j hj
    unfold svc at this ⊢
    rw [List.flatMap_cons, List.getElem?_append_right (by simp; omega)]
    rw [← this]
    congr 1
    simp
    omega
theorem addz (g j : Nat) : (⟨g, 0, none⟩ : Addr).add j = ⟨g, j, none⟩ := by
  unfold Addr.add; split
  · subst_vars; rfl
  · simp
/-- The call's own row of what was said. -/
structure WS (w wr : World) (v : Value) (P : List Sd) : Prop where
  row : ∃ X : List SVal, X.map Prod.fst = P ∧ (∀ x ∈ X, RIn w x.2.1 x.1.rec') ∧ wr.ownsRow w.heap.size 63 3 v P.length (svc X)
  bel : Below w.heap.size w wr
theorem WS.form {w wr : World} {v : Value} {P : List Sd} (h : WS w wr v P) : ∃ a c, v = .slice a P.length c := by
  obtain ⟨X, _, _, h3⟩ := h.row
  rcases h3.2 with ⟨e, h0⟩ | ⟨g, cap, cur, e, _⟩
  · exact ⟨none, 0, by rw [e, h0]⟩
  · exact ⟨_, _, e⟩
theorem WS.sin {w wr : World} {a : Option Addr} {c : Nat} {P : List Sd} (h : WS w wr (.slice a P.length c) P) : SIn wr a P := by
  intro i s hs
  obtain ⟨X, h1, h2, h3⟩ := h.row
  have hX : ∃ x, X[i]? = some x ∧ x.1 = s := by
    rw [← h1, List.getElem?_map, Option.map_eq_some_iff] at hs
    exact hs
  obtain ⟨x, hx, rfl⟩ := hX
  have hr := h2 x (List.mem_of_getElem? hx)
  rcases h3.2 with ⟨e, h0⟩ | ⟨g, cap, cur, e, _, hb, _⟩
  · have : P = [] := List.eq_nil_of_length_eq_zero h0
    subst this
    have : X = [] := by simpa using h1
    subst this
    simp at hx
  · simp only [Value.slice.injEq] at e
    obtain ⟨rfl, _, rfl⟩ := e
    have hc := h3.cells (g := g) rfl
    refine ⟨g, 0, x.2.1, x.2.2, rfl, lt_of_block hb, ?_, ?_, ?_, hr.below h.bel (Nat.le_refl _)⟩
    · have := hc (i * 3 + 0) _ (svc_get X i x hx 0 (by omega)); rw [addz] at this; simpa using this
    · have := hc (i * 3 + 1) _ (svc_get X i x hx 1 (by omega)); rw [addz] at this; simpa using this
    · have := hc (i * 3 + 2) _ (svc_get X i x hx 2 (by omega)); rw [addz] at this; simpa using this
theorem news3 (W : World) (a b c : Value) (t : TypeId) : ∀ j u, [a, b, c][j]? = some u → (W.alloc (.cells #[a, b, c] t)).drew.cell? ((⟨W.heap.size, 0, none⟩ : Addr).add j) = some u := by
  show ∀ j u, [a, b, c][j]? = some u → (W.alloc (.cells #[a, b, c] t)).cell? ((⟨W.heap.size, 0, none⟩ : Addr).add j) = some u
  intro j u h
  match j, h with
  | 0, h => simp at h; subst h; simp [Addr.add]
  | 1, h => simp at h; subst h; simp [Addr.add]
  | 2, h => simp at h; subst h; simp [Addr.add]
theorem one3 (p s : Int) (a : Option Addr) (n c : Nat) : ∀ u ∈ [Value.int .i64 p, .int .i64 s, .slice a n c], u.oneCell' = true := by
  intro u hu
  simp only [List.mem_cons, List.not_mem_nil, or_false] at hu
  rcases hu with rfl | rfl | rfl <;> rfl
set_option maxHeartbeats 4000000 in
theorem words_ok (b : Option Addr) (cap : Nat) (S : List Sd) (w : World) (hin : SIn w b S) (hlen : S.length ≤ 1048576) :
    Calls Try.prog 11 #[.slice b S.length cap] w fun e w' => ∃ v, e = .returned v ∧ WS w w' v S := by
  have HIN : Hid (SIn w b S) := hin
  obtain ⟨len, hl⟩ : ∃ len, S.length = len := ⟨_, rfl⟩
  have HL : Hid (S.length = len) := hl
  rw [hl] at hlen ⊢
  clear hin hl
  obtain ⟨i0, hi, hz0, hz1, hz2⟩ := info_split saidInfo
  have HI : Hid (Try.prog.info? 63 = some i0 ∧ i0.zero = some (.agg #[.int .i64 0, .int .i64 0, .slice none 0 0]) ∧ i0.size = 3 ∧ i0.bytes = 40) := ⟨hi, hz0, hz1, hz2⟩
  clear hi hz0 hz1 hz2
  go_enter Try.func11, Try.ntmps11
  go_wp2_with fail
  go_loopw [3, 4] (fun v i wr => ∃ V P R, V = v ∧ S = P ++ R ∧ i = .int .i64 (P.length : Nat) ∧ WS w wr V P) (fun _ i _ => len - (intOf i).toNat)
  case atStart => exact ⟨_, [], S, rfl, rfl, rfl, ⟨⟨[], rfl, fun x hx => by simp at hx, World.ownsRow_nil _ _ _ _⟩, Below.refl _ _⟩⟩
  case round =>
    obtain ⟨v0, P, R, rfl, hPR, rfl, hW⟩ := hrel
    have HW : Hid (WS w wr v0 P) := hW
    have hwr : w.heap.size ≤ wr.heap.size := hW.bel.size
    clear hW
    cases R with
    | nil =>
      have hPS : P = S := by rw [hPR, List.append_nil]
      subst hPS
      have hPL : P.length = len := HL.out
      clear hPR
      go_wp2_with fail
      go_ret
      exact ⟨v0, rfl, HW.out⟩
    | cons x R =>
      have hlt : P.length < len := by have := HL.out; rw [hPR] at this; simp at this; omega
      have hx : S[P.length]? = some x := by rw [hPR]; simp
      obtain ⟨sb, so, ra, rc, rfl, hsb, c0, c1, c2, hri⟩ := HIN.out _ _ hx
      have HRI : Hid (RIn w ra x.rec') := hri
      obtain ⟨c0, c1, c2⟩ : _ ∧ _ ∧ _ := ⟨cellB HW.out.bel c0, cellB HW.out.bel c1, cellB HW.out.bel c2⟩
      have HPR : Hid (S = P ++ x :: R) := hPR
      clear hPR hx hri
      obtain ⟨p, s, M⟩ := x
      simp only at c0 c1 c2
      obtain ⟨ml, hml⟩ : ∃ ml, M.length = ml := ⟨_, rfl⟩
      have HML : Hid (M.length = ml) := hml
      rw [hml] at c2
      clear hml
      obtain ⟨X, hX1, hX2, hX3⟩ := HW.out.row
      have HX : Hid (X.map Prod.fst = P ∧ (∀ x ∈ X, RIn w x.2.1 x.1.rec')) := ⟨hX1, hX2⟩
      have HOW : Hid (∀ o, (wr.alloc o).drew.ownsRow w.heap.size 63 3 v0 P.length (svc X) ∧ w.heap.size ≤ (wr.alloc o).drew.heap.size) := fun o => ⟨owns_below hX3 (below_ad _ _), by simp; omega⟩
      clear hX1 hX2 hX3
      go_wp2_with fail
      go_region_held_law (fun w' => w'.cell? ⟨sb, so + P.length * 3, none⟩ = some (.int .i64 p) ∧ w'.cell? ⟨sb, so + P.length * 3 + 1, none⟩ = some (.int .i64 s) ∧ w'.cell? ⟨sb, so + P.length * 3 + 2, none⟩ = some (.slice ra ml rc)) (first | assumption | exact ⟨c0, c1, c2⟩ | go_keep)
        (first | (refine step_append_lies _ rfl _ _ 31 rfl w.heap.size 63 i0 (.agg #[.int .i64 0, .int .i64 0, .slice none 0 0]) 3 40 Try.underlying31 HI.out.1 HI.out.2.1 HI.out.2.2.1 HI.out.2.2.2 rfl (by decide) v0 P.length (svc X) rfl (HOW.out _).1 ⟨_, 0, none⟩ 1 1 [.int .i64 p, .int .i64 s, .slice ra ml rc] rfl rfl (news3 _ _ _ _ _) (one3 _ _ _ _ _) (by decide) (by unfold maxLen; omega) (by omega) (HOW.out _).2 _ rfl ?_; intro g cap w1 hown hgrow hat hgl; have hbg := below_grown (HOW.out _).1 hgrow (HOW.out _).2; have KS1 := (⟨(cell_below hbg hsb).trans (cellB (below_ad _ _) c0), (cell_below hbg hsb).trans (cellB (below_ad _ _) c1), (cell_below hbg hsb).trans (cellB (below_ad _ _) c2)⟩ : w1.cell? ⟨sb, so + P.length * 3, none⟩ = some (.int .i64 p) ∧ w1.cell? ⟨sb, so + P.length * 3 + 1, none⟩ = some (.int .i64 s) ∧ w1.cell? ⟨sb, so + P.length * 3 + 2, none⟩ = some (.slice ra ml rc))))
      all_goals
        have HE : Hid (WS w w1 (.slice (some ⟨g, 0, none⟩) (P.length + 1) cap) (P ++ [⟨p, s, M⟩])) := by
          refine ⟨⟨X ++ [(⟨p, s, M⟩, ra, rc)], by rw [List.map_append, HX.out.1]; rfl, fun y hy => ?_, ?_⟩, HW.out.bel.trans (((below_ad wr _).mono hwr).trans hbg)⟩
          · rw [List.mem_append, List.mem_singleton] at hy
            rcases hy with hy | rfl
            · exact HX.out.2 y hy
            · exact HRI.out
          · rw [svc_snoc, List.length_append]
            have hm := HML.out
            simp only [hm]
            exact hown
        clear hown hgrow hat hgl hbg KS1
        go_wp2_with fail
        exact ⟨⟨_, P ++ [⟨p, s, M⟩], R, rfl, by rw [HPR.out, List.append_assoc]; rfl, by simp, HE.out⟩, by simp [intOf]; omega⟩
end Go.Proofs.Ytbjlnbcnjknheaa
