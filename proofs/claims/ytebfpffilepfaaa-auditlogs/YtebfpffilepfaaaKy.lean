/- Layer 18: what was said, and pairs of numbers, that came in. -/
import Derived.Test.YtebfpffilepfaaaUr
import Derived.Test.YtebfpffilepfaaaKw
import Derived.OpenShut
namespace Go.Proofs.Ytebfpffilepfaaa
open Go.RowKit Go.Deep
set_option linter.unusedVariables false

theorem open_recC {H : Type} {enc : TypeId × Value → H} {W : World} {n : Nat} {cs : List Value} {y : DataW H × List MemPlace} (h : DataW.trod enc Try.prog W 0 (fun _ => true) true n 36 cs = some y) :
    ∃ r : Rec, cs = [.int .i64 r.off, .string r.key, .string r.val, .bool r.gone] ∧ r.ok := by
  obtain ⟨xs, n', _, rfl, hl, hlen, hf⟩ := DataW.trod_struct Try.underlying36 h
  rw [cellsR] at hl
  match cs, hl, xs, hlen with
  | [c0, c1, c2, c3], _, [y0, y1, y2, y3], _ =>
    have f0 : DataW.trod enc Try.prog W 0 (fun _ => true) true n' 3 (([c0, c1, c2, c3].drop 0).take (Try.prog.cellsOf 3)) = some y0 := hf 0 _ rfl
    have f1 : DataW.trod enc Try.prog W 0 (fun _ => true) true n' 9 (([c0, c1, c2, c3].drop 1).take (Try.prog.cellsOf 9)) = some y1 := hf 1 _ rfl
    have f2 : DataW.trod enc Try.prog W 0 (fun _ => true) true n' 9 (([c0, c1, c2, c3].drop 2).take (Try.prog.cellsOf 9)) = some y2 := hf 2 _ rfl
    have f3 : DataW.trod enc Try.prog W 0 (fun _ => true) true n' 4 (([c0, c1, c2, c3].drop 3).take (Try.prog.cellsOf 4)) = some y3 := hf 3 _ rfl
    rw [Try.cellsInt] at f0
    rw [cellsS] at f1 f2
    rw [cellsB] at f3
    obtain ⟨k, e0, z0, w0⟩ := DataW.trod_int Try.underlying3 f0
    obtain ⟨s, e1, z1, hs⟩ := DataW.trod_string Try.underlying9 f1
    obtain ⟨t, e2, z2, ht⟩ := DataW.trod_string Try.underlying9 f2
    obtain ⟨g, e3, z3⟩ := DataW.trod_bool Try.underlying4 f3
    simp at e0 e1 e2 e3
    subst e0 e1 e2 e3
    exact ⟨⟨k, s, t, g⟩, rfl, ⟨wf_int w0, hs, ht⟩⟩
theorem open_recsC {H : Type} {enc : TypeId × Value → H} {W : World} {fuel : Nat} {c : Value} {x : DataW H × List MemPlace} (h : DataW.trod enc Try.prog W 0 (fun _ => true) true fuel 24 [c] = some x) :
    ∃ (L : List Rec) (a : Option Addr) (cap : Nat), c = .slice a L.length cap ∧ RIn W a L ∧ ROk L ∧ L.length ≤ cap := by
  have hf : ∃ a len cap, c = .slice a len cap ∧ len ≤ cap := by
    rcases open_slice Try.underlying24 h with ⟨h0, _⟩ | ⟨a, len', cap', m, n, D, Pl, hcs, _, hlc, _⟩
    · exact ⟨none, 0, 0, by simpa using h0, Nat.le_refl _⟩
    · exact ⟨some a, len', cap', by simpa using hcs, hlc⟩
  obtain ⟨a, len, cap, rfl, hlc⟩ := hf
  obtain ⟨L, ds, sp, h1, h2, h3, h4, h5, h6⟩ := open_row 36 24 4 cellsR (by omega) Try.underlying24 (fun (r : Rec) cs d => cs = [.int .i64 r.off, .string r.key, .string r.val, .bool r.gone] ∧ r.ok) (fun n cs y hy => open_recC hy) h
  subst h1
  refine ⟨L, a, cap, rfl, fun i q hq => ?_, fun q hq => ?_, hlc⟩
  · obtain ⟨b, off, cs, d, ha, hb, hc, _, rfl, _⟩ := h6 i q hq
    refine ⟨b, off, ha, hb, ?_, hc 1 _ (by omega) rfl, hc 2 _ (by omega) rfl, hc 3 _ (by omega) rfl⟩
    have := hc 0 _ (by omega) rfl
    simpa using this
  · obtain ⟨i, hi, rfl⟩ := List.mem_iff_getElem.1 hq
    obtain ⟨b, off, cs, d, ha, hb, hc, _, _, h7⟩ := h6 i _ (List.getElem?_eq_getElem hi)
    exact h7
theorem open_saidC {H : Type} {enc : TypeId × Value → H} {W : World} {n : Nat} {cs : List Value} {y : DataW H × List MemPlace} (h : DataW.trod enc Try.prog W 0 (fun _ => true) true n 30 cs = some y) :
    ∃ f : Sd, ∃ ra rc, cs = [.int .i64 f.prod, .int .i64 f.seq, .slice ra f.rec'.length rc] ∧ RIn W ra f.rec' ∧ ROk f.rec' ∧ f.rec'.length ≤ rc := by
  obtain ⟨xs, n', _, rfl, hl, hlen, hf⟩ := DataW.trod_struct Try.underlying30 h
  rw [Try.cellsSaid] at hl
  match cs, hl, xs, hlen with
  | [c0, c1, c2], _, [y0, y1], _ =>
    have f0 : DataW.trod enc Try.prog W 0 (fun _ => true) true n' 28 (([c0, c1, c2].drop 0).take (Try.prog.cellsOf 28)) = some y0 := hf 0 _ rfl
    have f1 : DataW.trod enc Try.prog W 0 (fun _ => true) true n' 24 (([c0, c1, c2].drop 2).take (Try.prog.cellsOf 24)) = some y1 := hf 1 _ rfl
    rw [cellsI] at f0
    rw [Try.cellsRecs] at f1
    obtain ⟨p, s, e0, _, _⟩ := open_id f0
    obtain ⟨L, ra, rc, e1, hr, ho, hm⟩ := open_recsC (c := c2) f1
    simp at e0
    obtain ⟨e0, e0'⟩ := e0
    subst e0 e0' e1
    exact ⟨⟨p, s, L⟩, ra, rc, rfl, hr, ho, hm⟩
theorem open_saids {H : Type} {enc : TypeId × Value → H} {W : World} {fuel : Nat} {a0 : Option Addr} {len cap : Nat} {x : DataW H × List MemPlace} (h : DataW.trod enc Try.prog W 0 (fun _ => true) true fuel 22 [.slice a0 len cap] = some x) :
    ∃ L : List Sd, L.length = len ∧ SInC W a0 L ∧ ∀ s ∈ L, ROk s.rec' := by
  obtain ⟨L, ds, sp, h1, h2, h3, h4, h5, h6⟩ := open_row 30 22 3 Try.cellsSaid (by omega) Try.underlying22 (fun (f : Sd) cs d => ∃ ra rc, cs = [.int .i64 f.prod, .int .i64 f.seq, .slice ra f.rec'.length rc] ∧ RIn W ra f.rec' ∧ ROk f.rec' ∧ f.rec'.length ≤ rc) (fun n cs y hy => open_saidC hy) h
  refine ⟨L, h1, fun i q hq => ?_, fun q hq => ?_⟩
  · obtain ⟨b, off, cs, d, ha, hb, hc, _, ra, rc, rfl, hr, _, hm⟩ := h6 i q hq
    refine ⟨b, off, ra, rc, ha, hb, ?_, hc 1 _ (by omega) rfl, hc 2 _ (by omega) rfl, hm, hr⟩
    have := hc 0 _ (by omega) rfl
    simpa using this
  · obtain ⟨i, hi, rfl⟩ := List.mem_iff_getElem.1 hq
    obtain ⟨b, off, cs, d, ha, hb, hc, _, ra, rc, _, _, h7, _⟩ := h6 i _ (List.getElem?_eq_getElem hi)
    exact h7
theorem cellsP : Try.prog.cellsOf 38 = 2 := by kernel_rfl
theorem open_pairs {H : Type} {enc : TypeId × Value → H} {W : World} {fuel : Nat} {a0 : Option Addr} {len cap : Nat} {x : DataW H × List MemPlace} (h : DataW.trod enc Try.prog W 0 (fun _ => true) true fuel 23 [.slice a0 len cap] = some x) :
    ∃ L : List (Int × Int), L.length = len ∧ PIn W a0 L := by
  obtain ⟨L, ds, sp, h1, h2, h3, h4, h5, h6⟩ := open_row 38 23 2 cellsP (by omega) Try.underlying23 (fun (f : Int × Int) cs d => cs = [.int .i64 f.1, .int .i64 f.2]) (fun n cs y hy => by
    obtain ⟨xs, n', _, rfl, hl, hlen, hf⟩ := DataW.trod_array Try.underlying38 hy
    rw [cellsP] at hl
    simp only [Try.cellsInt] at hf
    match cs, hl, xs, hlen with
    | [c0, c1], _, [y0, y1], _ =>
      have f0 : DataW.trod enc Try.prog W 0 (fun _ => true) true n' 3 [c0] = some y0 := hf 0 (by omega)
      have f1 : DataW.trod enc Try.prog W 0 (fun _ => true) true n' 3 [c1] = some y1 := hf 1 (by omega)
      obtain ⟨k0, e0, _, _⟩ := DataW.trod_int Try.underlying3 f0
      obtain ⟨k1, e1, _, _⟩ := DataW.trod_int Try.underlying3 f1
      simp at e0 e1
      subst e0 e1
      exact ⟨(k0, k1), rfl⟩) h
  refine ⟨L, h1, fun i q hq => ?_⟩
  obtain ⟨b, off, cs, d, ha, hb, hc, _, rfl⟩ := h6 i q hq
  refine ⟨b, off, ha, hb, ?_, hc 1 _ (by omega) rfl⟩
  have := hc 0 _ (by omega) rfl
  simpa using this
end Go.Proofs.Ytebfpffilepfaaa
