/- An unpacker's state; room for more plain bytes, or none. -/
import Derived.Test.YtchjnfckcfikkaaDoorZb
import Derived.Laws.AppendOwn
namespace Go.Proofs.YtchjnfckcfikkaaDoor
open Go.RowKit
set_option linter.unusedVariables false

def bcells (l : List Nat) : List Value := l.map fun x => Value.int .u8 (x : Nat)
/-- Block u is an unpacker that reads by block b (the bytes s, ahead of bit p), has told the plain bytes l (they lie from block B on), at most so many; two tables or none. -/
structure US (w : World) (K : Nat → Prop) (u b : Nat) (s : ByteArray) (p : Nat) (l : List Nat) (most : Nat) (v f1 f2 : Value) : Prop where
  blk : w.heap[u]? = some (.cells #[.pointer (some ⟨b, 0, none⟩), v, .int .i64 (most : Nat), f1, f2] 51 (0, 0))
  own : w.ownsRow 0 5 1 v l.length (bcells l)
  rs : RS w b s p
  le : p ≤ 8 * s.size
  small : s.size ≤ 281474976710656
  kb : ∀ k, K k → k < w.heap.size
  ku : ¬ K u
  kr : ¬ K b
  ko : ∀ g, v.ownBlock = some g → ¬ K g
theorem US.cells {w : World} {K : Nat → Prop} {u b : Nat} {s : ByteArray} {p : Nat} {l : List Nat} {most : Nat} {v f1 f2 : Value} (h : US w K u b s p l most v f1 f2) :
    w.cell? ⟨u, 0, none⟩ = some (.pointer (some ⟨b, 0, none⟩)) ∧ w.cell? ⟨u, 1, none⟩ = some v ∧ w.cell? ⟨u, 2, none⟩ = some (.int .i64 (most : Nat)) ∧ w.cell? ⟨u, 3, none⟩ = some f1 ∧ w.cell? ⟨u, 4, none⟩ = some f2 ∧ w.frozen? ⟨u, 1, none⟩ = false := by
  have h1 := h.blk
  exact ⟨by simp [World.cell?, h1], by simp [World.cell?, h1], by simp [World.cell?, h1], by simp [World.cell?, h1], by simp [World.cell?, h1], by simp [World.frozen?, h1]⟩
theorem US.ne {w : World} {K : Nat → Prop} {u b : Nat} {s : ByteArray} {p : Nat} {l : List Nat} {most : Nat} {v f1 f2 : Value} (h : US w K u b s p l most v f1 f2) : u ≠ b := by
  intro e
  have h1 := h.rs
  unfold RS at h1
  rw [← e, h.blk] at h1
  simp at h1
/-- A reader's call keeps the rest. -/
theorem US.read {w w' : World} {K : Nat → Prop} {u b : Nat} {s : ByteArray} {p q : Nat} {l : List Nat} {most : Nat} {v f1 f2 : Value} (h : US w K u b s p l most v f1 f2) (hr : RS w' b s q) (ho : Only b w w') (hq : q ≤ 8 * s.size) : US w' K u b s q l most v f1 f2 := by
  refine ⟨by rw [ho.block u (lt_of_block h.blk) h.ne]; exact h.blk, ?_, hr, hq, h.small, fun k hk => Nat.lt_of_lt_of_le (h.kb k hk) ho.size, h.ku, h.kr, h.ko⟩
  refine ⟨h.own.1, ?_⟩
  rcases h.own.2 with e | ⟨g, cap, cur, e1, e2, e3, e4⟩
  · exact .inl e
  · refine .inr ⟨g, cap, cur, e1, e2, ?_, e4⟩
    rw [ho.block g (lt_of_block e3) (fun e => ?_)]
    · exact e3
    · have h1 := h.rs
      unfold RS at h1
      rw [← e, e3] at h1
      simp at h1
theorem US.drewN {w : World} {K : Nat → Prop} {u b : Nat} {s : ByteArray} {p : Nat} {l : List Nat} {most : Nat} {v f1 f2 : Value} (h : US w K u b s p l most v f1 f2) (k : Nat) : US (w.drewN k) K u b s p l most v f1 f2 :=
  ⟨h.blk, h.own, h.rs, h.le, h.small, h.kb, h.ku, h.kr, h.ko⟩
theorem US.form {w : World} {K : Nat → Prop} {u b : Nat} {s : ByteArray} {p : Nat} {l : List Nat} {most : Nat} {v f1 f2 : Value} (h : US w K u b s p l most v f1 f2) : ∃ ao cp, v = .slice ao l.length cp := by
  rcases h.own.2 with ⟨e, h0⟩ | ⟨g, cap, cur, e, _⟩
  · exact ⟨none, 0, by rw [e, h0]⟩
  · exact ⟨_, _, e⟩
set_option maxRecDepth 20000 in
set_option maxHeartbeats 1000000 in
theorem room_ok (w : World) (K : Nat → Prop) (u b : Nat) (s : ByteArray) (p : Nat) (l : List Nat) (most : Nat) (v f1 f2 : Value) (h : US w K u b s p l most v f1 f2) (n : Nat) (hm : most ≤ 1048576) (hl : l.length ≤ most) (hn : n ≤ 1048576) :
    Calls Tryd.prog 53 #[.pointer (some ⟨u, 0, none⟩), .int .i64 n] w fun e w' => (l.length + n ≤ most ∧ e = .returned (.tuple #[]) ∨ most < l.length + n ∧ e = .panicked (gave 4)) ∧ ∃ k, w' = w.drewN k := by
  obtain ⟨ao, cp, rfl⟩ := h.form
  obtain ⟨_, c1, c2, _⟩ := h.cells
  obtain ⟨L, hL⟩ : ∃ L, l.length = L := ⟨_, rfl⟩
  rw [hL] at c1 hl ⊢
  obtain ⟨d, hd⟩ : ∃ d, most - L = d := ⟨_, rfl⟩
  have hdi : (most : Int) - (L : Int) = (d : Int) := by omega
  have hdw : IntKind.i64.wrap ((most : Int) - (L : Int)) = (d : Int) := by rw [IntKind.wrap_i64]; omega
  have hdw2 : IntKind.i64.wrap (d : Int) = (d : Int) := by rw [IntKind.wrap_i64]; omega
  have HX : Hid (most - L = d) := hd
  clear h hL hd
  by_cases hr : n ≤ d
  · have hri : ¬ (d : Int) < (n : Int) := by omega
    go_enter Tryd.func53, Tryd.ntmps53
    go_wp2_with fail
    go_quiet (fail)
    go_wp2
    go_end0
    exact ⟨.inl ⟨by have := HX.out; omega, rfl⟩, nq, rfl⟩
  · have hri : (d : Int) < (n : Int) := by omega
    go_enter Tryd.func53, Tryd.ntmps53
    go_wp2_with fail
    go_quiet (fail)
    go_wp2_with fail
    refine (check_no 4 (by decide) _).mono ?_
    rintro e w2 ⟨rfl, hw⟩
    obtain rfl := hw.symm
    go_wp2
    exact ⟨rfl, .inr ⟨by have := HX.out; omega, rfl⟩, nq, rfl⟩
end Go.Proofs.YtchjnfckcfikkaaDoor
