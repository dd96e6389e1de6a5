/- LzSays: bytes appended to one of two rows, told by their numbers. -/
import Derived.Test.YthefhffgcpoefaaYzm
import Derived.Deep.CutRange
namespace Go.Proofs.Ythefhffgcpoefaa
open Go.RowKit
set_option linter.unusedVariables false

theorem Two.lenz {w0 w : World} {B : Nat} {az : Option Addr} {L cz : Nat} {z : List Nat} {vw : Value} {want : List Nat} (h : Two w0 w B (.slice az L cz) z vw want) : z.length = L := by
  rcases h.oz.2 with ⟨e, h0⟩ | ⟨g, cap, cur, e, _⟩
  · cases e; exact h0
  · cases e; rfl
theorem Two.lenw {w0 w : World} {B : Nat} {vz : Value} {aw : Option Addr} {L cw : Nat} {z want : List Nat} (h : Two w0 w B vz z (.slice aw L cw) want) : want.length = L := h.swap.lenz
theorem Two.below {w0 w w' : World} {B : Nat} {vz vw : Value} {z want : List Nat} (h : Two w0 w B vz z vw want) (hb : Below w.heap.size w w') : Two w0 w' B vz z vw want := by
  have keep : ∀ {v : Value} {n : Nat} {xs : List Value}, w.ownsRow B 5 1 v n xs → w'.ownsRow B 5 1 v n xs := fun hv => by
    refine ⟨hv.1, ?_⟩
    rcases hv.2 with e | ⟨g, cap, cur, e1, e2, e3, e4⟩
    · exact .inl e
    · exact .inr ⟨g, cap, cur, e1, e2, (hb.block g (lt_of_block e3)).trans e3, e4⟩
  exact ⟨keep h.oz, keep h.ow, h.ap, h.bel.trans ⟨hb.os, hb.tape, hb.output, hb.size, fun k hk => hb.block k (Nat.lt_of_lt_of_le hk h.hB)⟩, Nat.le_trans h.hB hb.size⟩
/-- Behind all sequences: what is unpacked. -/
theorem says_unpack (z want : List Nat) (h : Says z want) (hz : Bytes z) (hzl : z.length ≤ 1000000) (hwl : want.length ≤ 1000000) (W : World) (N : Nat) (hN : want.length + 1 = N) :
    Calls Try.prog 4 #[.string (toBA (z ++ [16, 101])), .int .i64 (N : Nat)] W fun e w' => e = .returned (.tuple #[.string (toBA (want ++ [101])), .int .i64 0]) ∧ Below W.heap.size W w' := by
  have hB : Bytes (z ++ headL [101] 0) := hz.append (fun x hx => by have hx' : x ∈ [16, 101] := hx; simp at hx'; omega)
  have hu := h.last (p := [101]) hB N (by simp; omega)
  have hc := unpack_ok (toBA (z ++ [16, 101])) N W (by omega) (by rw [toBA_size]; simp; omega)
  rw [show z ++ [16, 101] = z ++ headL [101] 0 from rfl] at hc ⊢
  rw [hu] at hc
  exact hc
section
variable {ops : Array Oper} {rest : List Oper} {o : Oper} {a : Act} {Q : Exit → Act → World → Prop} (w0 W : World) (hgd : o.guard = none) (sl x : Operand)
  (ho : o.op = .call { callee := .builtin .append, args := #[sl, x], argTypes := #[23, 23] }) (B : Nat)
include hgd ho
theorem wq1 (az : Option Addr) (L cz : Nat) (z : List Nat) (vw : Value) (want : List Nat) (v : Int) (y : Nat) (hv : v = (y : Int))
    (hT : Hid (Two w0 W B (.slice az L cz) z vw want)) (hb : Hid (L ≤ 1000000)) (hs : a.eval sl = .slice az L cz) (hx : a.eval x = .slice (some ⟨W.heap.size, 0, none⟩) 1 1)
    (h : ∀ ao L' cap wc, Hid (L' = L + 1) → Hid (Two w0 wc B (.slice ao L' cap) (z ++ [y]) vw want) → wpList Try.prog ops Q rest (a.put o.dst (.slice ao L' cap)) wc) :
    wpList Try.prog ops Q (o :: rest) a (W.alloc (.cells #[.int .u8 v] 5)) := by
  subst hv
  exact wp_two1 w0 W hgd sl x ho B az L cz z vw want y hT.out hT.out.lenz hb.out hs hx fun g cap wc hh => h _ _ cap wc rfl hh
theorem wq1' (aw : Option Addr) (L cw : Nat) (want : List Nat) (vz : Value) (z : List Nat) (v : Int) (y : Nat) (hv : v = (y : Int))
    (hT : Hid (Two w0 W B vz z (.slice aw L cw) want)) (hb : Hid (L ≤ 1000000)) (hs : a.eval sl = .slice aw L cw) (hx : a.eval x = .slice (some ⟨W.heap.size, 0, none⟩) 1 1)
    (h : ∀ ao L' cap wc, Hid (L' = L + 1) → Hid (Two w0 wc B vz z (.slice ao L' cap) (want ++ [y])) → wpList Try.prog ops Q rest (a.put o.dst (.slice ao L' cap)) wc) :
    wpList Try.prog ops Q (o :: rest) a (W.alloc (.cells #[.int .u8 v] 5)) := by
  subst hv
  exact wp_two1' w0 W hgd sl x ho B aw L cw want vz z y hT.out hT.out.lenw hb.out hs hx fun g cap wc hh => h _ _ cap wc rfl hh
theorem wq2 (az : Option Addr) (L cz : Nat) (z : List Nat) (vw : Value) (want : List Nat) (v v' : Int) (y y' : Nat) (hv : v = (y : Int)) (hv' : v' = (y' : Int))
    (hT : Hid (Two w0 W B (.slice az L cz) z vw want)) (hb : Hid (L ≤ 1000000)) (hs : a.eval sl = .slice az L cz) (hx : a.eval x = .slice (some ⟨W.heap.size, 0, none⟩) 2 2)
    (h : ∀ ao L' cap wc, Hid (L' = L + 2) → Hid (Two w0 wc B (.slice ao L' cap) (z ++ [y, y']) vw want) → wpList Try.prog ops Q rest (a.put o.dst (.slice ao L' cap)) wc) :
    wpList Try.prog ops Q (o :: rest) a (W.alloc (.cells #[.int .u8 v, .int .u8 v'] 5)) := by
  subst hv
  subst hv'
  exact wp_two2 w0 W hgd sl x ho B az L cz z vw want y y' hT.out hT.out.lenz hb.out hs hx fun g cap wc hh => h _ _ cap wc rfl hh
end
end Go.Proofs.Ythefhffgcpoefaa
