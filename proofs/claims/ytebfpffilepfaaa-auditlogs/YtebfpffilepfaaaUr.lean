/- Layer 18: slices of acks, fetches, and of what was said, that came in. -/
import Derived.Test.YtebfpffilepfaaaRows
import Derived.Test.YtebfpffilepfaaaUh
import Derived.ProofKit
import Derived.Deep.Slices
import Derived.ChangeArms
namespace Go.Proofs.Ytebfpffilepfaaa
open Go.RowKit Go.Deep
set_option linter.unusedVariables false

theorem add_none (b off n : Nat) : (⟨b, off, none⟩ : Addr).add n = ⟨b, off + n, none⟩ := by
  unfold Addr.add
  split
  · next h => subst h; rfl
  · rfl
/-- A slice that came in, element by element. -/
theorem open_row {H α : Type} {enc : TypeId × Value → H} {W : World} {fuel : Nat} {a0 : Option Addr} {len cap : Nat} {x : DataW H × List MemPlace} (E T : TypeId) (c : Nat) (hc : Try.prog.cellsOf E = c) (hc0 : 0 < c) (hT : Try.prog.underlying T = some (.slice E)) (Ψ : α → List Value → DataW H → Prop)
    (hΨ : ∀ n cs y, DataW.trod enc Try.prog W 0 (fun _ => true) true n E cs = some y → ∃ q, Ψ q cs y.1) (h : DataW.trod enc Try.prog W 0 (fun _ => true) true fuel T [.slice a0 len cap] = some x) :
    ∃ (L : List α) (ds spare : List (DataW H)), L.length = len ∧ ds.length = len ∧ len ≤ 9223372036854775807 ∧ (x.1 = .slice ds spare ∨ x.1 = .nil) ∧ (x.1 = .nil → len = 0) ∧
      ∀ i q, L[i]? = some q → ∃ b off cs d, a0 = some ⟨b, off, none⟩ ∧ b < W.heap.size ∧ (∀ j v, j < c → cs[j]? = some v → W.cell? ⟨b, off + i * c + j, none⟩ = some v) ∧ ds[i]? = some d ∧ Ψ q cs d := by
  rcases open_slice hT h with ⟨h0, h1⟩ | ⟨a, len', cap', m, n, D, Pl, hcs, _, hlc, hcm, hm, rfl, hx⟩
  · cases h0
    exact ⟨[], [], [], rfl, rfl, by omega, .inr (by rw [h1]), fun _ => rfl, fun i q hq => by simp at hq⟩
  · cases hcs
    rw [hc] at hx
    have hlm : len ≤ m := by rw [hm]; simp; exact hlc
    obtain ⟨b, off, spot⟩ := a
    have hcell : ∀ i, i < len → ∃ q : α, ∃ cs, Ψ q cs (D i) ∧ cs.length = c ∧ ∀ j, j < c → W.cell? (((⟨b, off, spot⟩ : Addr).add (i * c)).add j) = cs[j]? := by
      intro i hi
      obtain ⟨cs', h1, h2⟩ := hx i (by omega)
      obtain ⟨q, hq⟩ := hΨ _ _ _ h2
      obtain ⟨_, h3', h3⟩ := World.cells?_some h1
      exact ⟨q, cs', hq, h3', h3⟩
    have hlmx : len ≤ 9223372036854775807 := by unfold maxLen at hcm; omega
    rcases Nat.eq_zero_or_pos len with hz | hpos
    · subst hz
      exact ⟨[], _, _, rfl, by simp, by omega, .inl rfl, fun _ => rfl, fun i q hq => by simp at hq⟩
    · have hspot : spot = none := by
        obtain ⟨q, cs, _, hcl, h3⟩ := hcell 0 hpos
        have h4 := h3 0 hc0
        rw [List.getElem?_eq_getElem (by omega)] at h4
        exact World.cell?_spot (w := W) (a := ⟨b, off, spot⟩) (v := cs[0]) (by simpa [Addr.add] using h4)
      subst hspot
      have hnz : Nonempty α := ⟨(hcell 0 hpos).choose⟩
      have hch : ∃ Q : Nat → α, ∀ i, i < len → ∃ cs, Ψ (Q i) cs (D i) ∧ cs.length = c ∧ ∀ j, j < c → W.cell? (((⟨b, off, none⟩ : Addr).add (i * c)).add j) = cs[j]? := by
        refine ⟨fun i => open Classical in if hi : i < len then (hcell i hi).choose else Classical.choice hnz, fun i hi => ?_⟩
        simp only [dif_pos hi]
        exact (hcell i hi).choose_spec
      obtain ⟨Q, hQ⟩ := hch
      refine ⟨(List.range len).map Q, (List.range len).map D, _, by simp, by simp, hlmx, .inl rfl, fun h => (by cases h), fun i q hq => ?_⟩
      have hi : i < len := by have := (List.getElem?_eq_some_iff.1 hq).1; simpa using this
      have e : Q i = q := by simpa [hi] using hq
      subst e
      obtain ⟨cs, hp, hcl, h3⟩ := hQ i hi
      refine ⟨b, off, cs, D i, rfl, ?_, fun j v hj hv => ?_, by simp [hi], hp⟩
      · have h4 := h3 0 hc0
        rw [List.getElem?_eq_getElem (by omega), add_none, add_none] at h4
        exact World.block_lt_of_cell? W ⟨b, off + i * c + 0, none⟩ h4
      · have h4 := h3 j hj
        rw [add_none, add_none, hv] at h4
        exact h4
theorem Try.cellsInt : Try.prog.cellsOf 3 = 1 := by kernel_rfl
theorem Try.cellsErr : Try.prog.cellsOf 31 = 1 := by kernel_rfl
theorem Try.cellsAck : Try.prog.cellsOf 33 = 6 := by kernel_rfl
theorem Try.cellsFet : Try.prog.cellsOf 40 = 5 := by kernel_rfl
theorem Try.cellsSaid : Try.prog.cellsOf 30 = 3 := by kernel_rfl
theorem Try.cellsRecs : Try.prog.cellsOf 24 = 1 := by kernel_rfl
theorem wf_int {k : Int} (h : (Lit.int .i64 k).wf = true) : isInt k := by
  have h1 : IntKind.i64.min = -9223372036854775808 := rfl
  have h2 : IntKind.i64.max = 9223372036854775807 := rfl
  simp [Lit.wf, h1, h2] at h
  exact ⟨by omega, by omega⟩
theorem open_id {H : Type} {enc : TypeId × Value → H} {W : World} {n : Nat} {cs : List Value} {y : DataW H × List MemPlace} (h : DataW.trod enc Try.prog W 0 (fun _ => true) true n 28 cs = some y) :
    ∃ p s : Int, cs = [.int .i64 p, .int .i64 s] ∧ isInt p ∧ isInt s := by
  obtain ⟨xs, n', _, rfl, hl, hlen, hf⟩ := DataW.trod_struct Try.underlying28 h
  rw [cellsI] at hl
  match cs, hl, xs, hlen with
  | [c0, c1], _, [y0, y1], _ =>
    have f0 : DataW.trod enc Try.prog W 0 (fun _ => true) true n' 3 (([c0, c1].drop 0).take (Try.prog.cellsOf 3)) = some y0 := hf 0 _ rfl
    have f1 : DataW.trod enc Try.prog W 0 (fun _ => true) true n' 3 (([c0, c1].drop 1).take (Try.prog.cellsOf 3)) = some y1 := hf 1 _ rfl
    rw [Try.cellsInt] at f0 f1
    obtain ⟨k, e0, _, w0⟩ := DataW.trod_int Try.underlying3 f0
    obtain ⟨l, e1, _, w1⟩ := DataW.trod_int Try.underlying3 f1
    simp at e0 e1
    subst e0 e1
    exact ⟨k, l, rfl, wf_int w0, wf_int w1⟩
theorem open_ack {H : Type} {enc : TypeId × Value → H} {W : World} {n : Nat} {cs : List Value} {y : DataW H × List MemPlace} (h : DataW.trod enc Try.prog W 0 (fun _ => true) true n 33 cs = some y) :
    ∃ q : Ak, cs = [.int .i64 q.step, .int .i64 q.prod, .int .i64 q.seq, .int .i64 q.err, .int .i64 q.base, .int .i64 q.cnt] ∧ isInt q.prod ∧ isInt q.seq := by
  obtain ⟨xs, n', _, rfl, hl, hlen, hf⟩ := DataW.trod_struct Try.underlying33 h
  rw [Try.cellsAck] at hl
  match cs, hl, xs, hlen with
  | [c0, c1, c2, c3, c4, c5], _, [y0, y1, y2, y3, y4], _ =>
    have f0 : DataW.trod enc Try.prog W 0 (fun _ => true) true n' 3 (([c0, c1, c2, c3, c4, c5].drop 0).take (Try.prog.cellsOf 3)) = some y0 := hf 0 _ rfl
    have f1 : DataW.trod enc Try.prog W 0 (fun _ => true) true n' 28 (([c0, c1, c2, c3, c4, c5].drop 1).take (Try.prog.cellsOf 28)) = some y1 := hf 1 _ rfl
    have f2 : DataW.trod enc Try.prog W 0 (fun _ => true) true n' 31 (([c0, c1, c2, c3, c4, c5].drop 3).take (Try.prog.cellsOf 31)) = some y2 := hf 2 _ rfl
    have f3 : DataW.trod enc Try.prog W 0 (fun _ => true) true n' 3 (([c0, c1, c2, c3, c4, c5].drop 4).take (Try.prog.cellsOf 3)) = some y3 := hf 3 _ rfl
    have f4 : DataW.trod enc Try.prog W 0 (fun _ => true) true n' 3 (([c0, c1, c2, c3, c4, c5].drop 5).take (Try.prog.cellsOf 3)) = some y4 := hf 4 _ rfl
    rw [Try.cellsInt] at f0 f3 f4
    rw [cellsI] at f1
    rw [Try.cellsErr] at f2
    obtain ⟨k0, e0, _, _⟩ := DataW.trod_int Try.underlying3 f0
    obtain ⟨p, s, e1, hp, hs⟩ := open_id f1
    obtain ⟨k2, e2, _, _⟩ := DataW.trod_int Try.underlying31 f2
    obtain ⟨k3, e3, _, _⟩ := DataW.trod_int Try.underlying3 f3
    obtain ⟨k4, e4, _, _⟩ := DataW.trod_int Try.underlying3 f4
    simp at e0 e1 e2 e3 e4
    obtain ⟨e1, e1'⟩ := e1
    subst e0 e1 e1' e2 e3 e4
    exact ⟨⟨k0, p, s, k2, k3, k4⟩, rfl, hp, hs⟩
theorem open_acks {H : Type} {enc : TypeId × Value → H} {W : World} {fuel : Nat} {a0 : Option Addr} {len cap : Nat} {x : DataW H × List MemPlace} (h : DataW.trod enc Try.prog W 0 (fun _ => true) true fuel 25 [.slice a0 len cap] = some x) :
    ∃ L : List Ak, L.length = len ∧ AIn W a0 L ∧ AOk L ∧ len ≤ 9223372036854775807 ∧ ((x.1 = .nil ∧ len = 0) ∨ ∃ ds sp, x.1 = .slice ds sp ∧ ds.length = len) := by
  obtain ⟨L, ds, sp, h1, h2, h3, h4, h5, h6⟩ := open_row 33 25 6 Try.cellsAck (by omega) Try.underlying25 (fun (q : Ak) cs _ => cs = [.int .i64 q.step, .int .i64 q.prod, .int .i64 q.seq, .int .i64 q.err, .int .i64 q.base, .int .i64 q.cnt] ∧ isInt q.prod ∧ isInt q.seq) (fun n cs y hy => open_ack hy) h
  refine ⟨L, h1, fun i q hq => ?_, fun q hq => ?_, h3, ?_⟩
  · obtain ⟨b, off, cs, d, ha, hb, hc, _, rfl, _⟩ := h6 i q hq
    refine ⟨b, off, ha, hb, ?_, hc 1 _ (by omega) rfl, hc 2 _ (by omega) rfl, hc 3 _ (by omega) rfl, hc 4 _ (by omega) rfl, hc 5 _ (by omega) rfl⟩
    have := hc 0 _ (by omega) rfl
    simpa using this
  · obtain ⟨i, hi, rfl⟩ := List.mem_iff_getElem.1 hq
    obtain ⟨b, off, cs, d, ha, hb, hc, _, _, h7⟩ := h6 i _ (List.getElem?_eq_getElem hi)
    exact h7
  · rcases h4 with h4 | h4
    · exact .inr ⟨ds, sp, h4, h2⟩
    · exact .inl ⟨h4, h5 h4⟩
end Go.Proofs.Ytebfpffilepfaaa
