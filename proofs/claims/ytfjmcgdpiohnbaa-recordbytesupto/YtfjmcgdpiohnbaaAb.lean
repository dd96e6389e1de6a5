/- A record's bytes are written into a builder: putNumber, put. -/
import Derived.Test.YtfjmcgdpiohnbaaAa
namespace Go.Proofs.Ytfjmcgdpiohnbaa
open Go.RowKit
set_option linter.unusedVariables false

/-- Block b is a builder of the bytes l; its own row lies from block B on. -/
def BS (w : World) (B b : Nat) (l : List UInt8) : Prop := Lib.IsBuilderF 41 5 B b (Lib.byteCells l) w
theorem atF_below {T e : TypeId} {B b : Nat} {p : Value} {bs : List Value} {w w' : World} (h : Lib.BuilderAtF T e B b p bs w) (hb : Below w.heap.size w w') : Lib.BuilderAtF T e B b p bs w' := by
  obtain ⟨h1, v, h2, h3, h4⟩ := h
  refine ⟨h1, v, (hb.block b (lt_of_block h2)).trans h2, ⟨h3.1, ?_⟩, h4⟩
  rcases h3.2 with hn | ⟨g, cap, cur, fz, hv, hg, hh, r⟩
  · exact .inl hn
  · exact .inr ⟨g, cap, cur, fz, hv, hg, (hb.block g (lt_of_block hh)).trans hh, r⟩
theorem BS.below {w w' : World} {B b : Nat} {l : List UInt8} (h : BS w B b l) (hb : Below w.heap.size w w') : BS w' B b l :=
  h.elim (fun x => .inl (atF_below x hb)) (fun x => .inr (atF_below x hb))
theorem BS.lt {w : World} {B b : Nat} {l : List UInt8} (h : BS w B b l) : b < w.heap.size := by
  rcases h with h | h <;> exact h.lt
theorem BS.new (w : World) : BS (w.alloc (.cells #[.pointer none, .slice none 0 0] 41)) w.heap.size w.heap.size [] := Lib.IsBuilderF.of (Lib.fresh_isBuilder _ _ w)
theorem BS.size {w : World} {B b : Nat} {l : List UInt8} (h : BS w B b l) : B ≤ b := by
  rcases h with h | h <;> exact h.1
theorem kept_of_below {e : TypeId} {b : Option Nat} {w w' : World} (h : Below w.heap.size w w') : Lib.OthersKept e b w w' :=
  fun k o hk _ _ => (h.block k (by rcases Nat.lt_or_ge k w.heap.size with hl | hl; exact hl; simp [Array.getElem?_eq_none hl] at hk)).trans hk
/-- What a call that writes into the builder keeps. -/
structure BF (B b : Nat) (w w' : World) : Prop where
  below : Below B w w'
  kept : Lib.OthersKept 5 (some b) w w'
theorem BF.refl (B b : Nat) (w : World) : BF B b w w := ⟨Below.refl _ _, Lib.OthersKept.refl _ _ _⟩
theorem BF.trans {B b : Nat} {u v w : World} (h : BF B b u v) (k : BF B b v w) : BF B b u w := ⟨h.below.trans k.below, h.kept.trans k.kept⟩
theorem BF.of_below {B b : Nat} {w w' : World} (h : Below w.heap.size w w') (hB : B ≤ w.heap.size) : BF B b w w' := ⟨h.mono hB, kept_of_below h⟩
theorem BF.size {B b : Nat} {w w' : World} (h : BF B b w w') : w.heap.size ≤ w'.heap.size := h.below.size
/-- A number's bytes. -/
def vb (n : Nat) : List UInt8 := (varB 10 n).map UInt8.ofNat
theorem vb_length (n : Nat) : (vb n).length ≤ 10 := by simp only [vb, List.length_map]; exact varB_length 10 n
def mk (l : List UInt8) : ByteArray := ⟨l.toArray⟩
theorem mk_size (l : List UInt8) : (mk l).size = l.length := by show l.toArray.size = _; simp
theorem mk_toList (l : List UInt8) : (mk l).data.toList = l := by simp [mk]
theorem toBA_vb (n : Nat) : toBA (varB 10 n) = mk (vb n) := rfl
theorem write_ok (B b : Nat) (l : List UInt8) (s : ByteArray) (w : World) (h : BS w B b l) (hlen : l.length + s.size ≤ 140737488355328) (hB : B ≤ w.heap.size) :
    Calls Try.prog 28 #[.pointer (some ⟨b, 0, none⟩), .string s] w fun e w' => e = .returned (.tuple #[.int .i64 s.size, .nilIface]) ∧ BS w' B b (l ++ s.data.toList) ∧ BF B b w w' := by
  refine (Try.Builder_WriteString_k B b (Lib.byteCells l) s w h (by rw [Lib.byteCells_length]; exact hlen) hB).mono ?_
  rintro e w' ⟨rfl, h1, h2, h3⟩
  refine ⟨rfl, .inr ?_, h2, h3⟩
  rw [Lib.byteCells_append, ← Lib.strCells_eq]
  exact h1
set_option maxHeartbeats 400000 in
theorem putNumber_ok (B b : Nat) (l : List UInt8) (n : Nat) (w : World) (h : BS w B b l) (hn : n ≤ 9223372036854775807) (hlen : l.length + 10 ≤ 140737488355328) (hB : B ≤ w.heap.size) :
    Calls Try.prog 27 #[.pointer (some ⟨b, 0, none⟩), .int .i64 n] w fun e w' => e = .returned (.tuple #[]) ∧ BS w' B b (l ++ vb n) ∧ BF B b w w' := by
  have HW : Hid (BS w B b l) := h
  have HL : Hid (∀ W, BS W B b l → B ≤ W.heap.size → Calls Try.prog 28 #[.pointer (some ⟨b, 0, none⟩), .string (mk (vb n))] W fun e w' => e = .returned (.tuple #[.int .i64 (mk (vb n)).size, .nilIface]) ∧ BS w' B b (l ++ vb n) ∧ BF B b W w') := fun W h hB => by
    have := write_ok B b l (mk (vb n)) W h (by rw [mk_size]; have := vb_length n; omega) hB
    rw [mk_toList] at this
    exact this
  have HP : Hid (∀ W, Calls Try.prog 36 #[.int .i64 n] W fun e w' => e = .returned (.tuple #[.string (mk (vb n)), .int .i64 0]) ∧ Below W.heap.size W w') := fun W => putVar n W hn
  obtain ⟨z, hz⟩ : ∃ z, mk (vb n) = z := ⟨_, rfl⟩
  rw [hz] at HL HP
  clear hz h hlen
  go_enter Try.func27, Try.ntmps27
  go_wp2_with fail
  refine (HP.out _).mono ?_
  rintro e w1 ⟨rfl, hb1⟩
  have H1 : Hid (BS w1 B b l) := HW.out.below hb1
  have F1 : Hid (BF B b w w1) := BF.of_below hb1 hB
  have hs1 : B ≤ w1.heap.size := Nat.le_trans hB hb1.size
  clear hb1
  go_wp2_with fail
  refine (HL.out _ H1.out hs1).mono ?_
  rintro e w2 ⟨rfl, hb2, hf2⟩
  have H2 : Hid (BS w2 B b (l ++ vb n)) := hb2
  have F2 : Hid (BF B b w w2) := F1.out.trans hf2
  clear hb2 hf2
  go_wp2
  first | go_ret | go_end0 | skip
  exact ⟨rfl, H2.out, F2.out⟩
end Go.Proofs.Ytfjmcgdpiohnbaa
