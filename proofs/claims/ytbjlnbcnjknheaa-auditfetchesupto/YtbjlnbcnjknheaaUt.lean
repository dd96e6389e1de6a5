/- Layer 18: fetches, and what was said, that came in, where what they hold is bounded. -/
import Derived.Test.YtbjlnbcnjknheaaUr
namespace Go.Proofs.Ytbjlnbcnjknheaa
open Go.RowKit Go.Deep
set_option linter.unusedVariables false

theorem cap_of {H : Type} {enc : TypeId × Value → H} {W : World} {fuel : Nat} {a0 : Option Addr} {len cap : Nat} {x : DataW H × List MemPlace} {E T : TypeId} (hT : Try.prog.underlying T = some (.slice E)) (h : DataW.trod enc Try.prog W 0 (fun _ => true) true fuel T [.slice a0 len cap] = some x) : len ≤ cap := by
  rcases open_slice hT h with ⟨h0, _⟩ | ⟨a, len', cap', m, n, D, Pl, hcs, _, hlc, _⟩
  · cases h0; omega
  · cases hcs; exact hlc
theorem bulk_sum {H α : Type} (f : α → Nat) : ∀ (L : List α) (ds : List (DataW H)), ds.length = L.length → (∀ (i : Nat) q, L[i]? = some q → ∃ d, ds[i]? = some d ∧ f q ≤ Rows.uptoBulk d) → (L.map f).sum ≤ Rows.uptoBulkAll ds
  | [], ds, _, _ => by simp
  | q :: L, [], h, _ => by simp at h
  | q :: L, d :: ds, h, hf => by
    obtain ⟨d', h1, h2⟩ := hf 0 q rfl
    have e : d = d' := by simpa using h1
    subst e
    have := bulk_sum f L ds (by simpa using h) (fun i q' hq => by
      have := hf (i + 1) q' (by simpa using hq)
      simpa using this)
    simp only [List.map_cons, List.sum_cons, Rows.uptoBulkAll]
    omega
theorem bulk_row {H α : Type} (f : α → Nat) {L : List α} {ds sp : List (DataW H)} {x : DataW H} {len : Nat} (h1 : L.length = len) (h2 : ds.length = len) (h4 : x = .slice ds sp ∨ x = .nil) (h5 : x = .nil → len = 0) (h6 : ∀ (i : Nat) q, L[i]? = some q → ∃ d, ds[i]? = some d ∧ f q ≤ Rows.uptoBulk d) : (L.map f).sum ≤ Rows.uptoBulk x := by
  rcases h4 with rfl | rfl
  · have := bulk_sum f L ds (by omega) h6
    simp only [Rows.uptoBulk]
    omega
  · have := h5 rfl
    have : L = [] := List.eq_nil_of_length_eq_zero (by omega)
    subst this
    simp
theorem sum_ge {α : Type} (f : α → Nat) (hf : ∀ x, 1 ≤ f x) : ∀ L : List α, L.length ≤ (L.map f).sum
  | [] => by simp
  | x :: L => by
    have := sum_ge f hf L
    have := hf x
    simp only [List.map_cons, List.sum_cons, List.length_cons]
    omega
theorem open_rec {H : Type} {enc : TypeId × Value → H} {W : World} {n : Nat} {cs : List Value} {y : DataW H × List MemPlace} (h : DataW.trod enc Try.prog W 0 (fun _ => true) true n 51 cs = some y) :
    ∃ r : Rec, cs = [.int .i64 r.off, .string r.key, .string r.val, .bool r.gone] ∧ r.ok ∧ 1 ≤ Rows.uptoBulk y.1 := by
  obtain ⟨xs, n', _, rfl, hl, hlen, hf⟩ := DataW.trod_struct Try.underlying51 h
  rw [cellsR] at hl
  match cs, hl, xs, hlen with
  | [c0, c1, c2, c3], _, [y0, y1, y2, y3], _ =>
    have f0 : DataW.trod enc Try.prog W 0 (fun _ => true) true n' 3 (([c0, c1, c2, c3].drop 0).take (Try.prog.cellsOf 3)) = some y0 := hf 0 _ rfl
    have f1 : DataW.trod enc Try.prog W 0 (fun _ => true) true n' 9 (([c0, c1, c2, c3].drop 1).take (Try.prog.cellsOf 9)) = some y1 := hf 1 _ rfl
    have f2 : DataW.trod enc Try.prog W 0 (fun _ => true) true n' 9 (([c0, c1, c2, c3].drop 2).take (Try.prog.cellsOf 9)) = some y2 := hf 2 _ rfl
    have f3 : DataW.trod enc Try.prog W 0 (fun _ => true) true n' 4 (([c0, c1, c2, c3].drop 3).take (Try.prog.cellsOf 4)) = some y3 := hf 3 _ rfl
    rw [Try.cellsInt] at f0
    rw [cellsS] at f1 f2
    rw [cellsB] at f3
    obtain ⟨k, e0, z0, w0⟩ := DataW.trod_int Try.underlying3 f0
    obtain ⟨s, e1, z1, hs⟩ := DataW.trod_string Try.underlying9 f1
    obtain ⟨t, e2, z2, ht⟩ := DataW.trod_string Try.underlying9 f2
    obtain ⟨g, e3, z3⟩ := DataW.trod_bool Try.underlying4 f3
    simp at e0 e1 e2 e3
    subst e0 e1 e2 e3
    exact ⟨⟨k, s, t, g⟩, rfl, ⟨wf_int w0, hs, ht⟩, by simp only [Rows.uptoBulk]; omega⟩
theorem open_recs {H : Type} {enc : TypeId × Value → H} {W : World} {fuel : Nat} {a0 : Option Addr} {len cap : Nat} {x : DataW H × List MemPlace} (h : DataW.trod enc Try.prog W 0 (fun _ => true) true fuel 52 [.slice a0 len cap] = some x) :
    ∃ L : List Rec, L.length = len ∧ RIn W a0 L ∧ ROk L ∧ len ≤ 9223372036854775807 ∧ len ≤ Rows.uptoBulk x.1 := by
  obtain ⟨L, ds, sp, h1, h2, h3, h4, h5, h6⟩ := open_row 51 52 4 cellsR (by omega) Try.underlying52 (fun (r : Rec) cs d => cs = [.int .i64 r.off, .string r.key, .string r.val, .bool r.gone] ∧ r.ok ∧ 1 ≤ Rows.uptoBulk d) (fun n cs y hy => open_rec hy) h
  refine ⟨L, h1, fun i q hq => ?_, fun q hq => ?_, h3, ?_⟩
  · obtain ⟨b, off, cs, d, ha, hb, hc, _, rfl, _⟩ := h6 i q hq
    refine ⟨b, off, ha, hb, ?_, hc 1 _ (by omega) rfl, hc 2 _ (by omega) rfl, hc 3 _ (by omega) rfl⟩
    have := hc 0 _ (by omega) rfl
    simpa using this
  · obtain ⟨i, hi, rfl⟩ := List.mem_iff_getElem.1 hq
    obtain ⟨b, off, cs, d, ha, hb, hc, _, _, h7, _⟩ := h6 i _ (List.getElem?_eq_getElem hi)
    exact h7
  · have := bulk_row (fun _ => 1) h1 h2 h4 h5 (fun i q hq => by
      obtain ⟨b, off, cs, d, _, _, _, hd, _, _, h8⟩ := h6 i q hq
      exact ⟨d, hd, h8⟩)
    have h7 := sum_ge (fun _ : Rec => 1) (fun _ => Nat.le_refl _) L
    omega
theorem open_recs1 {H : Type} {enc : TypeId × Value → H} {W : World} {fuel : Nat} {c : Value} {x : DataW H × List MemPlace} (h : DataW.trod enc Try.prog W 0 (fun _ => true) true fuel 52 [c] = some x) :
    ∃ (L : List Rec) (a : Option Addr) (cap : Nat), c = .slice a L.length cap ∧ RIn W a L ∧ ROk L ∧ L.length ≤ 9223372036854775807 ∧ L.length ≤ Rows.uptoBulk x.1 := by
  have hf : ∃ a len cap, c = .slice a len cap := by
    rcases open_slice Try.underlying52 h with ⟨h0, _⟩ | ⟨a, len', cap', m, n, D, Pl, hcs, _⟩
    · exact ⟨none, 0, 0, by simpa using h0⟩
    · exact ⟨some a, len', cap', by simpa using hcs⟩
  obtain ⟨a, len, cap, rfl⟩ := hf
  obtain ⟨L, h1, h2, h3, h4, h5⟩ := open_recs h
  subst h1
  exact ⟨L, a, cap, rfl, h2, h3, h4, h5⟩
theorem open_fet {H : Type} {enc : TypeId × Value → H} {W : World} {n : Nat} {cs : List Value} {y : DataW H × List MemPlace} (h : DataW.trod enc Try.prog W 0 (fun _ => true) true n 54 cs = some y) :
    ∃ f : Fe, ∃ ra rc, cs = [.int .i64 f.step, .int .i64 f.node, .int .i64 f.from', .int .i64 f.err, .slice ra f.rec'.length rc] ∧ RIn W ra f.rec' ∧ ROk f.rec' ∧ f.rec'.length ≤ 9223372036854775807 ∧ f.rec'.length + 1 ≤ Rows.uptoBulk y.1 := by
  obtain ⟨xs, n', _, rfl, hl, hlen, hf⟩ := DataW.trod_struct Try.underlying54 h
  rw [Try.cellsFet] at hl
  match cs, hl, xs, hlen with
  | [c0, c1, c2, c3, c4], _, [y0, y1, y2, y3, y4], _ =>
    have f0 : DataW.trod enc Try.prog W 0 (fun _ => true) true n' 3 (([c0, c1, c2, c3, c4].drop 0).take (Try.prog.cellsOf 3)) = some y0 := hf 0 _ rfl
    have f1 : DataW.trod enc Try.prog W 0 (fun _ => true) true n' 3 (([c0, c1, c2, c3, c4].drop 1).take (Try.prog.cellsOf 3)) = some y1 := hf 1 _ rfl
    have f2 : DataW.trod enc Try.prog W 0 (fun _ => true) true n' 3 (([c0, c1, c2, c3, c4].drop 2).take (Try.prog.cellsOf 3)) = some y2 := hf 2 _ rfl
    have f3 : DataW.trod enc Try.prog W 0 (fun _ => true) true n' 23 (([c0, c1, c2, c3, c4].drop 3).take (Try.prog.cellsOf 23)) = some y3 := hf 3 _ rfl
    have f4 : DataW.trod enc Try.prog W 0 (fun _ => true) true n' 52 (([c0, c1, c2, c3, c4].drop 4).take (Try.prog.cellsOf 52)) = some y4 := hf 4 _ rfl
    rw [Try.cellsInt] at f0 f1 f2
    rw [Try.cellsErr] at f3
    rw [Try.cellsRecs] at f4
    obtain ⟨k0, e0, _, _⟩ := DataW.trod_int Try.underlying3 f0
    obtain ⟨k1, e1, _, _⟩ := DataW.trod_int Try.underlying3 f1
    obtain ⟨k2, e2, _, _⟩ := DataW.trod_int Try.underlying3 f2
    obtain ⟨k3, e3, _, _⟩ := DataW.trod_int Try.underlying23 f3
    obtain ⟨L, ra, rc, e4, hr, ho, hm, hb⟩ := open_recs1 (c := c4) f4
    simp at e0 e1 e2 e3
    subst e0 e1 e2 e3 e4
    exact ⟨⟨k0, k1, k2, k3, L⟩, ra, rc, rfl, hr, ho, hm, by simp only [Rows.uptoBulk, Rows.uptoBulkAll, List.map_cons, List.map_nil]; omega⟩
theorem open_fets_upto {H : Type} {enc : TypeId × Value → H} {W : World} {fuel : Nat} {a0 : Option Addr} {len cap : Nat} {x : DataW H × List MemPlace} (h : DataW.trod enc Try.prog W 0 (fun _ => true) true fuel 28 [.slice a0 len cap] = some x) :
    ∃ L : List Fe, L.length = len ∧ FIn W a0 L ∧ FOk L ∧ len ≤ 9223372036854775807 ∧ (fsum L + L.length ≤ Rows.uptoBulk x.1 ∧ L.length ≤ Rows.uptoBulk x.1) := by
  obtain ⟨L, ds, sp, h1, h2, h3, h4, h5, h6⟩ := open_row 54 28 5 Try.cellsFet (by omega) Try.underlying28 (fun (f : Fe) cs d => ∃ ra rc, cs = [.int .i64 f.step, .int .i64 f.node, .int .i64 f.from', .int .i64 f.err, .slice ra f.rec'.length rc] ∧ RIn W ra f.rec' ∧ ROk f.rec' ∧ f.rec'.length ≤ 9223372036854775807 ∧ f.rec'.length + 1 ≤ Rows.uptoBulk d) (fun n cs y hy => open_fet hy) h
  have hs : ∀ M : List Fe, (M.map fun f => f.rec'.length + 1).sum = fsum M + M.length := fun M => by
    induction M with
    | nil => rfl
    | cons f M ih => simp only [List.map_cons, List.sum_cons, fsum, List.length_cons, ih]; omega
  have hb := bulk_row (fun f : Fe => f.rec'.length + 1) h1 h2 h4 h5 (fun i q hq => by
    obtain ⟨b, off, cs, d, _, _, _, hd, ra, rc, _, _, _, _, h8⟩ := h6 i q hq
    exact ⟨d, hd, h8⟩)
  rw [hs] at hb
  refine ⟨L, h1, fun i q hq => ?_, fun q hq => ?_, h3, hb, by omega⟩
  · obtain ⟨b, off, cs, d, ha, hb, hc, _, ra, rc, rfl, hr, _⟩ := h6 i q hq
    refine ⟨b, off, ra, rc, ha, hb, ?_, hc 1 _ (by omega) rfl, hc 2 _ (by omega) rfl, hc 3 _ (by omega) rfl, hc 4 _ (by omega) rfl, hr⟩
    have := hc 0 _ (by omega) rfl
    simpa using this
  · obtain ⟨i, hi, rfl⟩ := List.mem_iff_getElem.1 hq
    obtain ⟨b, off, cs, d, ha, hb, hc, _, ra, rc, _, _, h7, h8, _⟩ := h6 i _ (List.getElem?_eq_getElem hi)
    exact ⟨h7, h8⟩
theorem open_said {H : Type} {enc : TypeId × Value → H} {W : World} {n : Nat} {cs : List Value} {y : DataW H × List MemPlace} (h : DataW.trod enc Try.prog W 0 (fun _ => true) true n 62 cs = some y) :
    ∃ f : Sd, ∃ ra rc, cs = [.int .i64 f.prod, .int .i64 f.seq, .slice ra f.rec'.length rc] ∧ RIn W ra f.rec' ∧ ROk f.rec' ∧ f.rec'.length ≤ 9223372036854775807 ∧ f.rec'.length + 1 ≤ Rows.uptoBulk y.1 := by
  obtain ⟨xs, n', _, rfl, hl, hlen, hf⟩ := DataW.trod_struct Try.underlying62 h
  rw [Try.cellsSaid] at hl
  match cs, hl, xs, hlen with
  | [c0, c1, c2], _, [y0, y1], _ =>
    have f0 : DataW.trod enc Try.prog W 0 (fun _ => true) true n' 36 (([c0, c1, c2].drop 0).take (Try.prog.cellsOf 36)) = some y0 := hf 0 _ rfl
    have f1 : DataW.trod enc Try.prog W 0 (fun _ => true) true n' 52 (([c0, c1, c2].drop 2).take (Try.prog.cellsOf 52)) = some y1 := hf 1 _ rfl
    rw [cellsI] at f0
    rw [Try.cellsRecs] at f1
    obtain ⟨p, s, e0, _, _⟩ := open_id f0
    obtain ⟨L, ra, rc, e1, hr, ho, hm, hb⟩ := open_recs1 (c := c2) f1
    simp at e0
    obtain ⟨e0, e0'⟩ := e0
    subst e0 e0' e1
    exact ⟨⟨p, s, L⟩, ra, rc, rfl, hr, ho, hm, by simp only [Rows.uptoBulk, Rows.uptoBulkAll, List.map_cons, List.map_nil]; omega⟩
theorem open_saids_upto {H : Type} {enc : TypeId × Value → H} {W : World} {fuel : Nat} {a0 : Option Addr} {len cap : Nat} {x : DataW H × List MemPlace} (h : DataW.trod enc Try.prog W 0 (fun _ => true) true fuel 29 [.slice a0 len cap] = some x) :
    ∃ L : List Sd, L.length = len ∧ SIn W a0 L ∧ SOk L ∧ len ≤ 9223372036854775807 ∧ (ssum L + L.length ≤ Rows.uptoBulk x.1 ∧ L.length ≤ Rows.uptoBulk x.1) := by
  obtain ⟨L, ds, sp, h1, h2, h3, h4, h5, h6⟩ := open_row 62 29 3 Try.cellsSaid (by omega) Try.underlying29 (fun (f : Sd) cs d => ∃ ra rc, cs = [.int .i64 f.prod, .int .i64 f.seq, .slice ra f.rec'.length rc] ∧ RIn W ra f.rec' ∧ ROk f.rec' ∧ f.rec'.length ≤ 9223372036854775807 ∧ f.rec'.length + 1 ≤ Rows.uptoBulk d) (fun n cs y hy => open_said hy) h
  have hs : ∀ M : List Sd, (M.map fun f => f.rec'.length + 1).sum = ssum M + M.length := fun M => by
    induction M with
    | nil => rfl
    | cons f M ih => simp only [List.map_cons, List.sum_cons, ssum, List.length_cons, ih]; omega
  have hb := bulk_row (fun f : Sd => f.rec'.length + 1) h1 h2 h4 h5 (fun i q hq => by
    obtain ⟨b, off, cs, d, _, _, _, hd, ra, rc, _, _, _, _, h8⟩ := h6 i q hq
    exact ⟨d, hd, h8⟩)
  rw [hs] at hb
  refine ⟨L, h1, fun i q hq => ?_, fun q hq => ?_, h3, hb, by omega⟩
  · obtain ⟨b, off, cs, d, ha, hb, hc, _, ra, rc, rfl, hr, _⟩ := h6 i q hq
    refine ⟨b, off, ra, rc, ha, hb, ?_, hc 1 _ (by omega) rfl, hc 2 _ (by omega) rfl, hr⟩
    have := hc 0 _ (by omega) rfl
    simpa using this
  · obtain ⟨i, hi, rfl⟩ := List.mem_iff_getElem.1 hq
    obtain ⟨b, off, cs, d, ha, hb, hc, _, ra, rc, _, _, h7, h8, _⟩ := h6 i _ (List.getElem?_eq_getElem hi)
    exact ⟨h7, h8⟩
theorem open_acks_upto {H : Type} {enc : TypeId × Value → H} {W : World} {fuel : Nat} {a0 : Option Addr} {len cap : Nat} {x : DataW H × List MemPlace} (h : DataW.trod enc Try.prog W 0 (fun _ => true) true fuel 22 [.slice a0 len cap] = some x) :
    ∃ L : List Ak, L.length = len ∧ AIn W a0 L ∧ AOk L ∧ len ≤ 9223372036854775807 ∧ L.length ≤ Rows.uptoBulk x.1 := by
  obtain ⟨L, h1, h2, h3, h4, h5⟩ := open_acks h
  refine ⟨L, h1, h2, h3, h4, ?_⟩
  rcases h5 with ⟨_, h0⟩ | ⟨ds, sp, e, hl⟩
  · omega
  · rw [e]
    have : ∀ l : List (DataW H), l.length ≤ Rows.uptoBulkAll l := fun l => by
      induction l with
      | nil => simp
      | cons d l ih =>
        have h1 : 1 ≤ Rows.uptoBulk d := by
          unfold Rows.uptoBulk
          split <;> omega
        simp only [Rows.uptoBulkAll, List.length_cons]
        omega
    have := this ds
    simp only [Rows.uptoBulk]
    omega
end Go.Proofs.Ytbjlnbcnjknheaa
