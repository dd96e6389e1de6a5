/- Layer 18: parts of the log in rows of their own; the fetches of AuditLogs. -/
import Derived.Test.YtebfpffilepfaaaKv
import Derived.Deep.Upon
namespace Go.Proofs.Ytebfpffilepfaaa
open Go.RowKit Go.Maps Go.Shelf
set_option linter.unusedVariables false
set_option maxRecDepth 20000

theorem wpList_append_nothing {P : Program} {w : World} {ops : Array Oper} {rest : List Oper} {o : Oper} {a : Act} {Q : Exit → Act → World → Prop} (hgd : o.guard = none) (s x : Operand) (t : TypeId)
    (ho : o.op = .call { callee := .builtin .append, args := #[s, x], argTypes := #[t, t] }) (e : TypeId) (i : TypeInfo) (ht : P.underlying t = some (.slice e)) (hi : P.info? e = some i)
    (va : Option Addr) (n c : Nat) (hle : n ≤ c) (hs : a.eval s = .slice va n c) (xa : Option Addr) (xc : Nat) (hx : a.eval x = .slice xa 0 xc) (hxc : xa = none → xc = xc)
    (h : wpList P ops Q rest (a.put o.dst (.slice va n c)) w) : wpList P ops Q (o :: rest) a w := by
  refine wpList_plain hgd fun _ hK => ?_
  have hsrc : Src P i.size t (.slice xa 0 xc) 0 [] w := by
    cases xa with
    | none => exact Src.ofNil w ht xc
    | some ad => exact Src.ofSlice w ht ad 0 xc [] (by simp) (fun j u h => by simp at h) (fun u h => by cases h)
  have hr := run_append_nothing (P := P) w t t o.type e i ht hi va n c hle _ hsrc
  unfold Oper.wp execOp
  simp only [ho, resolve, invoke, builtin, Sem.run_bind, Sem.run_pure, Result.andThen_ok, List.map_toArray, List.map_cons, List.map_nil, hs, hx, hr]
  exact hK _ _ h
theorem rcs_append (X Y : List Rec) : rcs (X ++ Y) = rcs X ++ rcs Y := by simp [rcs]
theorem rcs_length (X : List Rec) : (rcs X).length = X.length * 4 := by
  induction X with
  | nil => rfl
  | cons x X ih =>
    have e : rcs (x :: X) = rc4 x ++ rcs X := by simp [rcs]
    have h4 : (rc4 x).length = 4 := rfl
    have h5 : (x :: X).length = X.length + 1 := rfl
    rw [e, List.length_append, ih, h4, h5]
    omega
theorem rcs_one (X : List Rec) : ∀ u ∈ rcs X, u.oneCell' = true := fun u hu => by
  unfold rcs at hu
  rw [List.mem_flatMap] at hu
  obtain ⟨x, _, h⟩ := hu
  exact one4 x u h
theorem rcs_part {A : List Rec} {fr m j : Nat} {u : Value} (hl : fr ≤ A.length) (h : (rcs ((A.drop fr).take m))[j]? = some u) : (rcs A)[fr * 4 + j]? = some u := by
  have e : A = A.take fr ++ ((A.drop fr).take m ++ (A.drop fr).drop m) := by rw [List.take_append_drop, List.take_append_drop]
  rw [e, rcs_append, rcs_append]
  have hf : (rcs (A.take fr)).length = fr * 4 := by rw [rcs_length, List.length_take]; omega
  rw [List.getElem?_append_right (by omega), hf, Nat.add_sub_cancel_left, List.getElem?_append_left (List.getElem?_eq_some_iff.1 h).1]
  exact h
theorem row_cell {w : World} {B g n c : Nat} {A : List Rec} (h : w.ownsRow B 36 4 (.slice (some ⟨g, 0, none⟩) n c) n (rcs A)) {fr m : Nat} (hl : fr ≤ A.length) : ∀ j u, (rcs ((A.drop fr).take m))[j]? = some u → w.cell? ((⟨g, fr * 4, none⟩ : Addr).add j) = some u := fun j u hu => by
  have := h.cells (g := g) rfl (fr * 4 + j) u (rcs_part hl hu)
  rw [adz] at this
  have e : (⟨g, fr * 4, none⟩ : Addr).add j = ⟨g, fr * 4 + j, none⟩ := by
    unfold Addr.add
    split
    · subst_vars; rfl
    · rfl
  rw [e]; exact this
/-- What the second loop knows. -/
structure W2 (w wr : World) (va vk vm vf : Value) (J : Nat) (A : List Rec) (L : List Ak) (X : List SV) (Y : List FV) : Prop where
  rows : R3 w wr va vk vm A L X
  fets : wr.ownsRow w.heap.size 40 5 vf Y.length (Y.flatMap fe5)
  lists : ∀ y ∈ Y, RIn wr y.2.1 y.1.rec' ∧ ∀ g o s, y.2.1 = some ⟨g, o, s⟩ → vf.ownBlock ≠ some g ∧ g < wr.heap.size
  parts : ∀ y ∈ Y, Part A y.1
  len : Y.length ≤ J
  sum : fsum (Y.map Prod.fst) ≤ J * 255
theorem W2.below {w wr w' : World} {va vk vm vf : Value} {J : Nat} {A : List Rec} {L : List Ak} {X : List SV} {Y : List FV} (h : W2 w wr va vk vm vf J A L X Y) (hb : Below wr.heap.size wr w') : W2 w w' va vk vm vf J A L X Y :=
  ⟨h.rows.below hb, own_keep h.fets fun k _ hk => hb.block k hk, fun y hy => ⟨(h.lists y hy).1.bel hb, fun g o s e => ⟨((h.lists y hy).2 g o s e).1, Nat.lt_of_lt_of_le ((h.lists y hy).2 g o s e).2 hb.size⟩⟩, h.parts, h.len, h.sum⟩
theorem RIn.lt {w : World} {g o : Nat} {s : Option _} {M : List Rec} (h : RIn w (some ⟨g, o, s⟩) M) (hM : M ≠ []) : g < w.heap.size := by
  cases M with
  | nil => exact absurd rfl hM
  | cons x M =>
    obtain ⟨b, off, e, hl, _⟩ := h 0 x rfl
    cases e
    exact hl
theorem RIn.same {w w' : World} {a : Option Addr} {M : List Rec} (h : RIn w a M) (hk : ∀ g o s, a = some ⟨g, o, s⟩ → g < w.heap.size → w'.heap[g]? = w.heap[g]?) (hs : w.heap.size ≤ w'.heap.size) : RIn w' a M := fun i r hr => by
  obtain ⟨b, off, e, hlt, h1, h2, h3, h4⟩ := h i r hr
  have hb := hk b off none e hlt
  have hc : ∀ j, w'.cell? ⟨b, j, none⟩ = w.cell? ⟨b, j, none⟩ := fun j => by simp only [World.cell?, hb]
  exact ⟨b, off, e, Nat.lt_of_lt_of_le hlt hs, by rw [hc]; exact h1, by rw [hc]; exact h2, by rw [hc]; exact h3, by rw [hc]; exact h4⟩
theorem fsum_snoc (F : List Fe) (f : Fe) : fsum (F ++ [f]) = fsum F + f.rec'.length := by rw [fsum_append]; simp [fsum]
theorem W2.next {w wr W w' : World} {va vk vm vf : Value} {J g cap : Nat} {A : List Rec} {L : List Ak} {X : List SV} {Y : List FV} {d : FV} (h : W2 w wr va vk vm vf J A L X Y) (hb : Below wr.heap.size wr W) (hg : W.grownBy w' vf.ownBlock)
    (ho : w'.ownsRow w.heap.size 40 5 (.slice (some ⟨g, 0, none⟩) (Y.length + 1) cap) (Y.length + 1) (Y.flatMap fe5 ++ fe5 d)) (hat : vf.ownBlock = some g ∨ g = W.heap.size)
    (hr : RIn W d.2.1 d.1.rec') (hd : ∀ g' o s, d.2.1 = some ⟨g', o, s⟩ → wr.heap.size ≤ g' ∧ g' < W.heap.size) (hp : Part A d.1) (hl : d.1.rec'.length ≤ 255) :
    W2 w w' va vk vm (.slice (some ⟨g, 0, none⟩) (Y.length + 1) cap) (J + 1) A L X (Y ++ [d]) := by
  have hW := h.below hb
  have hfl : ∀ k, vf.ownBlock = some k → k < wr.heap.size := fun k hk => (own_block h.fets hk).2
  refine ⟨⟨own_same hW.rows.all fun k hk => hg.block k (own_block hW.rows.all hk).2 (fun e => own_apart hW.rows.all hW.fets (by decide) hk e.symm), own_same hW.rows.aks fun k hk => hg.block k (own_block hW.rows.aks hk).2 (fun e => own_apart hW.rows.aks hW.fets (by decide) hk e.symm), own_same hW.rows.said fun k hk => hg.block k (own_block hW.rows.said hk).2 (fun e => own_apart hW.rows.said hW.fets (by decide) hk e.symm), bel_own hW.fets hW.rows.bel hg⟩, by rw [List.length_append, List.flatMap_append, List.flatMap_singleton]; exact ho, fun y hy => ?_, fun y hy => ?_, by rw [List.length_append]; have := h.len; simp; omega, by rw [List.map_append, List.map_singleton, fsum_snoc]; have := h.sum; omega⟩
  · rw [List.mem_append, List.mem_singleton] at hy
    rcases hy with hy | rfl
    · obtain ⟨h1, h2⟩ := hW.lists y hy
      obtain ⟨h1', _⟩ := h.lists y hy
      refine ⟨h1.same (fun g' o s e hlt => hg.block g' hlt (fun e' => (h2 g' o s e).1 e'.symm)) hg.size, fun g' o s e => ⟨fun e' => ?_, Nat.lt_of_lt_of_le (h2 g' o s e).2 hg.size⟩⟩
      have eg : g = g' := by simpa [Value.ownBlock] using e'
      subst eg
      rcases hat with ha | ha
      · exact (h2 g o s e).1 ha
      · have := (h2 g o s e).2
        omega
    · refine ⟨hr.same (fun g' o s e hlt => hg.block g' hlt (fun e' => ?_)) hg.size, fun g' o s e => ⟨fun e' => ?_, Nat.lt_of_lt_of_le (hd g' o s e).2 hg.size⟩⟩
      · have h1 := hfl g' e'.symm
        have h2 := (hd g' o s e).1
        omega
      · have eg : g = g' := by simpa [Value.ownBlock] using e'
        subst eg
        have h2 := hd g o s e
        rcases hat with ha | ha
        · have := hfl g ha
          omega
        · omega
  · rw [List.mem_append, List.mem_singleton] at hy
    rcases hy with hy | rfl
    · exact h.parts y hy
    · exact hp
end Go.Proofs.Ytebfpffilepfaaa
