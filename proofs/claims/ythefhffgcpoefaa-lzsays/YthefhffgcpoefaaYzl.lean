/- Bytes appended to one of two rows: the steps of a walk. -/
import Derived.Test.YthefhffgcpoefaaYzk
import Derived.Test.YthefhffgcpoefaaYt
namespace Go.Proofs.Ythefhffgcpoefaa
open Go.RowKit
set_option linter.unusedVariables false

/-- One byte more in the first row. -/
theorem wp_two1 {ops : Array Oper} {rest : List Oper} {o : Oper} {a : Act} {Q : Exit → Act → World → Prop} (w0 W : World) (hgd : o.guard = none) (sl x : Operand)
    (ho : o.op = .call { callee := .builtin .append, args := #[sl, x], argTypes := #[23, 23] }) (B : Nat) (az : Option Addr) (L cz : Nat) (z : List Nat) (vw : Value) (want : List Nat) (y : Nat)
    (hT : Two w0 W B (.slice az L cz) z vw want) (hL : z.length = L) (hb : L ≤ 1000000) (hs : a.eval sl = .slice az L cz) (hx : a.eval x = .slice (some ⟨W.heap.size, 0, none⟩) 1 1)
    (h : ∀ g cap wc, Two w0 wc B (.slice (some ⟨g, 0, none⟩) (L + 1) cap) (z ++ [y]) vw want → wpList Try.prog ops Q rest (a.put o.dst (.slice (some ⟨g, 0, none⟩) (L + 1) cap)) wc) :
    wpList Try.prog ops Q (o :: rest) a (W.alloc (.cells #[.int .u8 (y : Nat)] 5)) := by
  obtain ⟨i0, hi0, hz0, hz1, hz2⟩ := info_parts infoB
  refine wpList_append_lies _ hgd sl x 23 ho B 5 i0 (.int .u8 0) 1 1 Try.underlying23 hi0 hz0 hz1 hz2 rfl (by decide) (.slice az L cz) L (bcells z) hs (by have := (hT.oz.alloc (.cells #[.int .u8 (y : Nat)] 5)); rw [hL] at this; exact this) ⟨W.heap.size, 0, none⟩ 1 1 [.int .u8 (y : Nat)] hx rfl (news1 W _ _) (oneB _) (by decide) (by unfold maxLen; omega) (by omega) (Nat.le_trans hT.hB (by simp)) _ rfl ?_
  intro g cap wc hown hg hat _
  exact h g cap wc (hT.left (x := [y]) hL hown hg hat)
/-- Two bytes more in the first row. -/
theorem wp_two2 {ops : Array Oper} {rest : List Oper} {o : Oper} {a : Act} {Q : Exit → Act → World → Prop} (w0 W : World) (hgd : o.guard = none) (sl x : Operand)
    (ho : o.op = .call { callee := .builtin .append, args := #[sl, x], argTypes := #[23, 23] }) (B : Nat) (az : Option Addr) (L cz : Nat) (z : List Nat) (vw : Value) (want : List Nat) (y y' : Nat)
    (hT : Two w0 W B (.slice az L cz) z vw want) (hL : z.length = L) (hb : L ≤ 1000000) (hs : a.eval sl = .slice az L cz) (hx : a.eval x = .slice (some ⟨W.heap.size, 0, none⟩) 2 2)
    (h : ∀ g cap wc, Two w0 wc B (.slice (some ⟨g, 0, none⟩) (L + 2) cap) (z ++ [y, y']) vw want → wpList Try.prog ops Q rest (a.put o.dst (.slice (some ⟨g, 0, none⟩) (L + 2) cap)) wc) :
    wpList Try.prog ops Q (o :: rest) a (W.alloc (.cells #[.int .u8 (y : Nat), .int .u8 (y' : Nat)] 5)) := by
  obtain ⟨i0, hi0, hz0, hz1, hz2⟩ := info_parts infoB
  refine wpList_append_lies _ hgd sl x 23 ho B 5 i0 (.int .u8 0) 1 1 Try.underlying23 hi0 hz0 hz1 hz2 rfl (by decide) (.slice az L cz) L (bcells z) hs (by have := (hT.oz.alloc (.cells #[.int .u8 (y : Nat), .int .u8 (y' : Nat)] 5)); rw [hL] at this; exact this) ⟨W.heap.size, 0, none⟩ 2 2 [.int .u8 (y : Nat), .int .u8 (y' : Nat)] hx rfl (news2 W _ _ _) (twoB _ _) (by decide) (by unfold maxLen; omega) (by omega) (Nat.le_trans hT.hB (by simp)) _ rfl ?_
  intro g cap wc hown hg hat _
  exact h g cap wc (hT.left (x := [y, y']) hL hown hg hat)
/-- One byte more in the second row. -/
theorem wp_two1' {ops : Array Oper} {rest : List Oper} {o : Oper} {a : Act} {Q : Exit → Act → World → Prop} (w0 W : World) (hgd : o.guard = none) (sl x : Operand)
    (ho : o.op = .call { callee := .builtin .append, args := #[sl, x], argTypes := #[23, 23] }) (B : Nat) (aw : Option Addr) (L cw : Nat) (want : List Nat) (vz : Value) (z : List Nat) (y : Nat)
    (hT : Two w0 W B vz z (.slice aw L cw) want) (hL : want.length = L) (hb : L ≤ 1000000) (hs : a.eval sl = .slice aw L cw) (hx : a.eval x = .slice (some ⟨W.heap.size, 0, none⟩) 1 1)
    (h : ∀ g cap wc, Two w0 wc B vz z (.slice (some ⟨g, 0, none⟩) (L + 1) cap) (want ++ [y]) → wpList Try.prog ops Q rest (a.put o.dst (.slice (some ⟨g, 0, none⟩) (L + 1) cap)) wc) :
    wpList Try.prog ops Q (o :: rest) a (W.alloc (.cells #[.int .u8 (y : Nat)] 5)) :=
  wp_two1 w0 W hgd sl x ho B aw L cw want vz z y hT.swap hL hb hs hx fun g cap wc hh => h g cap wc hh.swap
theorem Two.drewN {w0 w : World} {B : Nat} {vz vw : Value} {z want : List Nat} (h : Two w0 w B vz z vw want) (k : Nat) : Two w0 (w.drewN k) B vz z vw want :=
  ⟨h.oz, h.ow, h.ap, h.bel.trans (Below.drewN' _ _ _), h.hB⟩
/-- A number of so many low bits. -/
theorem andN (x : Int) (k : Nat) (hk : k ≤ 4095) : ∃ a : Nat, a ≤ k ∧ bits .and .i64 x (k : Int) = (a : Int) := by
  have h : (BitVec.ofInt 64 x &&& BitVec.ofInt 64 (k : Int)).toNat ≤ k := by
    rw [BitVec.toNat_and]
    refine Nat.le_trans Nat.and_le_right ?_
    rw [BitVec.toNat_ofInt]
    omega
  refine ⟨_, h, ?_⟩
  show IntKind.i64.wrap ((BitVec.ofInt 64 x &&& BitVec.ofInt 64 (k : Int)).toNat : Int) = _
  rw [IntKind.wrap_i64]
  omega
end Go.Proofs.Ythefhffgcpoefaa
