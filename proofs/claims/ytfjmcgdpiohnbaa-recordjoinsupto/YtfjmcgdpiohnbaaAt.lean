/- Records that came in are appended to records of the call's own; the walk of RecordJoins. -/
import Derived.Test.YtfjmcgdpiohnbaaAp
import Derived.Laws.AppendOwnNone
import Derived.Deep.CutRange
namespace Go.Proofs.Ytfjmcgdpiohnbaa
open Go.RowKit
set_option linter.unusedVariables false

theorem open_nil {H : Type} {enc : TypeId × Value → H} {W : World} {fuel : Nat} {a0 : Option Addr} {len cap : Nat} {x : DataW H × List MemPlace} (h : DataW.trod enc Try.prog W 0 (fun _ => true) true fuel 22 [.slice a0 len cap] = some x) : a0 = none → cap = 0 := by
  rcases Go.Deep.open_slice Try.underlying22 h with ⟨h0, _⟩ | ⟨a, len', cap', m, n, D, Pl, hcs, _⟩
  · cases h0; exact fun _ => rfl
  · cases hcs; exact fun h => by cases h
theorem rcs_cell (L : List Rec) (j : Nat) (u : Value) (h : (rcs L)[j]? = some u) : ∃ r, L[j / 4]? = some r ∧ r.cs[j % 4]? = some u := by
  have hj : j < L.length * 4 := by
    rcases Nat.lt_or_ge j (L.length * 4) with hl | hl
    · exact hl
    · rw [List.getElem?_eq_none (by rw [rcs_length]; exact hl)] at h; cases h
  have hd : j / 4 < L.length := by omega
  refine ⟨L[j / 4], List.getElem?_eq_getElem hd, ?_⟩
  have := rcs_get L (j / 4) (L[j / 4]) (List.getElem?_eq_getElem hd) (j % 4) (Nat.mod_lt _ (by omega))
  rw [show j / 4 * 4 + j % 4 = j by omega, h] at this
  exact this.symm
theorem rcs_one (L : List Rec) : ∀ u ∈ rcs L, u.oneCell' = true := by
  intro u hu
  obtain ⟨j, hj⟩ := List.getElem?_of_mem hu
  obtain ⟨r, _, hr⟩ := rcs_cell L j u hj
  have := List.mem_of_getElem? hr
  simp only [Rec.cs, List.mem_cons, List.not_mem_nil, or_false] at this
  rcases this with rfl | rfl | rfl | rfl <;> rfl
theorem RIn.cells {w : World} {ad : Addr} {L : List Rec} (h : RIn w (some ad) L) : ∀ j u, (rcs L)[j]? = some u → w.cell? (ad.add j) = some u := by
  intro j u hj
  obtain ⟨r, hr, hu⟩ := rcs_cell L j u hj
  obtain ⟨b, off, hb, _, c0, c1, c2, c3⟩ := h _ _ hr
  cases hb
  rw [add_none]
  have e : off + j = off + j / 4 * 4 + j % 4 := by omega
  rw [e]
  have h4 : j % 4 < 4 := Nat.mod_lt _ (by omega)
  match hm : j % 4, h4, hu with
  | 0, _, hu => simp [Rec.cs] at hu; subst hu; exact c0
  | 1, _, hu => simp [Rec.cs] at hu; subst hu; exact c1
  | 2, _, hu => simp [Rec.cs] at hu; subst hu; exact c2
  | 3, _, hu => simp [Rec.cs] at hu; subst hu; exact c3
theorem wpList_append_recs {ops : Array Oper} {rest : List Oper} {o : Oper} {a : Act} {w : World} {Q : Exit → Act → World → Prop} (hgd : o.guard = none) (s x : Operand)
    (ho : o.op = .call { callee := .builtin .append, args := #[s, x], argTypes := #[22, 22] })
    (B : Nat) (v : Value) (M : List Rec) (hs : a.eval s = v) (hown : Own w B v M) (sa : Option Addr) (L : List Rec) (c n : Nat) (hn : L.length = n) (hx : a.eval x = .slice sa n c) (hin : RIn w sa L) (hnil : sa = none → c = 0)
    (h63 : M.length + L.length ≤ 10485760) (hB : B ≤ w.heap.size)
    (h : ∀ v' w', Own w' B v' (M ++ L) → w.grownBy w' v.ownBlock → wpList Try.prog ops Q rest (a.put o.dst v') w') : wpList Try.prog ops Q (o :: rest) a w := by
  subst hn
  obtain ⟨i0, hi, hz0, hz1, hz2⟩ := info_split recInfo
  cases sa with
  | none =>
    have hL : L = [] := by
      cases L with
      | nil => rfl
      | cons r L =>
        obtain ⟨b, off, hb, _⟩ := hin 0 r rfl
        cases hb
    subst hL
    have hc := hnil rfl
    subst hc
    refine wpList_append_own_none hgd s x 22 ho B 28 i0 4 Try.underlying22 hi v M.length (rcs M) hs hown hx ?_
    exact h v w (by rw [List.append_nil]; exact hown) (World.grownBy.refl _ _)
  | some ad =>
    refine wpList_append_own w hgd s x 22 ho B 28 i0 (.agg #[.int .i64 0, .string ⟨#[]⟩, .string ⟨#[]⟩, .bool false]) 4 48 Try.underlying22 hi hz0 hz1 hz2 rfl (by decide) v M.length (rcs M) hs hown ad L.length c (rcs L) hx (rcs_length L) hin.cells (rcs_one L) (by unfold maxLen; omega) (by omega) hB ?_
    intro v' w' h1 h2 _
    refine h v' w' ?_ h2
    show w'.ownsRow _ _ _ _ _ _
    rw [rcs_append, List.length_append]
    exact h1
end Go.Proofs.Ytfjmcgdpiohnbaa
