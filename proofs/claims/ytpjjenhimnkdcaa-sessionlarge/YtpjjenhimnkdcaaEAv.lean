/- The document's Bytes. -/
import Derived.Test.YtpjjenhimnkdcaaEAn
import Derived.Lib.AppendStr
import Derived.Lib.UnsafeStr
import Derived.Deep.CutRange
namespace Go.Proofs.Ytpjjenhimnkdcaa
open Go.RowKit
set_option linter.unusedVariables false

/-- A row of bytes of the call's own. -/
def OB (w : World) (B : Nat) (v : Value) (l : List UInt8) : Prop := w.ownsRow B 5 1 v l.length (Lib.byteCells l)
theorem OB.nil (w : World) (B : Nat) : OB w B (.slice none 0 0) [] := World.ownsRow_nil _ _ _ _
theorem OB.below {w w' : World} {B : Nat} {v : Value} {l : List UInt8} (h : OB w B v l) (hb : Below w.heap.size w w') : OB w' B v l := owns_below h hb
theorem OB.frame {w w' : World} {B : Nat} {v : Value} {l : List UInt8} (h : OB w B v l) (hg : w.grownBy w' v.ownBlock) (hB : B ≤ w.heap.size) : Below B w w' := below_grown h hg hB
theorem RB.grownB {w w' : World} {B rb : Nat} {v : Value} {l : List UInt8} {off : Int} {key val : ByteArray} {gone : Bool} (h : RB w rb off key val gone) (ho : OB w B v l) (hg : w.grownBy w' v.ownBlock) : RB w' rb off key val gone := by
  refine (hg.block rb (lt_of_block h) (fun e => ?_)).trans h
  rcases ho.2 with ⟨rfl, _⟩ | ⟨g, cap, cur, rfl, _, hh, _⟩
  · simp [Value.ownBlock] at e
  · have e' : rb = g := by simpa [Value.ownBlock] using e
    subst e'
    unfold RB at h
    rw [h] at hh
    cases hh
theorem wpList_append_txt {ops : Array Oper} {rest : List Oper} {o : Oper} {a : Act} {w : World} {Q : Exit → Act → World → Prop} (hgd : o.guard = none) (s x : Operand)
    (ho : o.op = .call { callee := .builtin .append, args := #[s, x], argTypes := #[45, 9] })
    (B : Nat) (v : Value) (l : List UInt8) (hs : a.eval s = v) (hown : OB w B v l) (t : ByteArray) (hx : a.eval x = .string t) (hlen : l.length + t.size ≤ 140737488355328) (hB : B ≤ w.heap.size)
    (h : ∀ v' w', OB w' B v' (l ++ t.data.toList) → w.grownBy w' v.ownBlock → wpList Try.prog ops Q rest (a.put o.dst v') w') : wpList Try.prog ops Q (o :: rest) a w := by
  obtain ⟨i0, hi, hz0, hz1, hz2⟩ := info_split Try.infoU8
  refine Lib.wpList_append_own_string w hgd s x 45 9 ho B 5 i0 Try.underlying45 Try.underlying9 hi hz0 hz1 hz2 v l.length (Lib.byteCells l) hs hown t hx (by unfold maxLen; omega) hlen hB ?_
  intro v' w' h1 h2 _
  refine h v' w' ?_ h2
  show w'.ownsRow _ _ _ _ _ _
  rw [Lib.byteCells_append, ← Lib.strCells_eq, List.length_append, data_len]
  exact h1
theorem wpList_append_nought {ops : Array Oper} {rest : List Oper} {o : Oper} {a : Act} {w : World} {Q : Exit → Act → World → Prop} (hgd : o.guard = none) (s x : Operand)
    (ho : o.op = .call { callee := .builtin .append, args := #[s, x], argTypes := #[45, 45] })
    (B : Nat) (v : Value) (l : List UInt8) (hs : a.eval s = v) (hown : OB w B v l) (g : Nat) (hx : a.eval x = .slice (some ⟨g, 0, none⟩) 1 1) (hc : w.cell? ⟨g, 0, none⟩ = some (.int .u8 0)) (hlen : l.length + 1 ≤ 140737488355328) (hB : B ≤ w.heap.size)
    (h : ∀ v' w', OB w' B v' (l ++ [0]) → w.grownBy w' v.ownBlock → wpList Try.prog ops Q rest (a.put o.dst v') w') : wpList Try.prog ops Q (o :: rest) a w := by
  obtain ⟨i0, hi, hz0, hz1, hz2⟩ := info_split Try.infoU8
  refine wpList_append_own w hgd s x 45 ho B 5 i0 (.int .u8 0) 1 1 Try.underlying45 hi hz0 hz1 hz2 rfl (by decide) v l.length (Lib.byteCells l) hs hown ⟨g, 0, none⟩ 1 1 [.int .u8 0] hx rfl ?_ ?_ (by unfold maxLen; omega) (by omega) hB ?_
  · intro j u hj
    cases j with
    | zero => simp at hj; subst hj; rw [add_zero_addr]; exact hc
    | succ j => simp at hj
  · intro u hu; simp at hu; subst hu; rfl
  · intro v' w' h1 h2 _
    refine h v' w' ?_ h2
    show w'.ownsRow _ _ _ _ _ _
    rw [Lib.byteCells_append, List.length_append]
    exact h1
theorem conv_mk (w : World) (B : Nat) (v : Value) (l : List UInt8) (h : OB w B v l) : (convert 45 9 v).run Try.prog w = .ok (.string (mk l)) w := by
  have hc : u8cells (l.map UInt8.toNat) = Lib.byteCells l := by simp [u8cells, Lib.byteCells]
  have := conv_row (P := Try.prog) w 45 9 5 B v (l.map UInt8.toNat) Try.underlying45 Try.underlying5 Try.underlying9 (by rw [hc, List.length_map]; exact h) (fun x hx => by
    simp only [List.mem_map] at hx
    obtain ⟨b, _, rfl⟩ := hx
    exact UInt8.toNat_lt b)
  rw [this]
  have e : toBA (l.map UInt8.toNat) = mk l := by
    unfold toBA mk
    rw [List.map_map]
    congr 1
    have : (UInt8.ofNat ∘ UInt8.toNat) = id := by funext x; simp
    rw [this, List.map_id]
  rw [e]
end Go.Proofs.Ytpjjenhimnkdcaa
