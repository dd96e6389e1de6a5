/- A message that came in: what its cells hold. -/
import Derived.Test.YtalpbnkmppdgdaaRows
import Derived.Test.YtalpbnkmppdgdaaV12
import Derived.SliceStrings
namespace Go.Proofs.Ytalpbnkmppdgdaa
open Go.RowKit Go.Deep
set_option linter.unusedVariables false

theorem Try.cellsMsg : Try.prog.cellsOf 28 = 13 := by kernel_rfl
theorem Try.cellsId : Try.prog.cellsOf 24 = 2 := by kernel_rfl
theorem Try.cellsErr : Try.prog.cellsOf 22 = 1 := by kernel_rfl
theorem Try.cellsTxts : Try.prog.cellsOf 25 = 1 := by kernel_rfl
theorem Try.cellsRecs : Try.prog.cellsOf 26 = 1 := by kernel_rfl
theorem open_txts {H : Type} {enc : TypeId × Value → H} {W : World} {fuel : Nat} {c : Value} {x : DataW H × List MemPlace} (h : DataW.trod enc Try.prog W 0 (fun _ => true) true fuel 25 [c] = some x) :
    ∃ a len cap, ∃ L : List ByteArray, c = .slice a len cap ∧ L.length = len ∧ TIn W a L ∧ TSized L ∧ len ≤ 9223372036854775807 := by
  rcases Go.ChangeShapes.open_strings Try.underlying25 Try.underlying9 Try.cellsStr h with ⟨hcs, hx⟩ | ⟨a, len, cap, ss, hcs, _, hl, hm, hz, hx, hcell, hws⟩
  · cases hcs; exact ⟨none, 0, 0, [], rfl, rfl, TIn.nil _ _, (fun t ht => by cases ht), by omega⟩
  · cases hcs
    have hle : len ≤ ss.length := by rw [hz]; simp; exact hl
    have hlm : len ≤ 9223372036854775807 := by unfold maxLen at hm; omega
    refine ⟨some a, len, cap, ss.take len, rfl, by rw [List.length_take]; omega, ?_, ?_, hlm⟩
    · intro i t ht
      have hi : i < len := by
        rcases Nat.lt_or_ge i len with h | h
        · exact h
        · rw [List.getElem?_eq_none (by rw [List.length_take]; omega)] at ht; cases ht
      have hst : ss[i]? = some t := by rw [List.getElem?_take] at ht; simpa [hi] using ht
      have hc := hcell i (by omega)
      rw [List.getD_eq_getElem?_getD, hst] at hc
      simp only [Option.getD_some] at hc
      obtain ⟨b, off, spot⟩ := a
      have h0 := hcell 0 (by omega)
      have hsp : spot = none := World.cell?_spot (w := W) (a := ⟨b, off, spot⟩) (v := .string (ss.getD 0 ByteArray.empty)) (by simpa [Addr.add] using h0)
      subst hsp
      rw [add_none] at hc
      exact ⟨b, off, rfl, World.block_lt_of_cell? W ⟨b, off + i, none⟩ hc, hc⟩
    · intro t ht
      have := hws t (List.mem_of_mem_take ht)
      unfold maxLen at this
      exact this
theorem open_msg {H : Type} {enc : TypeId × Value → H} {W : World} {n : Nat} {cs : List Value} {y : DataW H × List MemPlace} (h : DataW.trod enc Try.prog W 0 (fun _ => true) true n 28 cs = some y) :
    ∃ m s, cs = (Msg.cs m s).toList ∧ MIn W m s := by
  obtain ⟨xs, n', _, rfl, hl, hlen, hf⟩ := DataW.trod_struct Try.underlying28 h
  rw [Try.cellsMsg] at hl
  match cs, hl, xs, hlen with
  | [c0, c1, c2, c3, c4, c5, c6, c7, c8, c9, c10, c11, c12], _, [y0, y1, y2, y3, y4, y5, y6, y7, y8, y9, y10, y11], _ =>
    have f0 : DataW.trod enc Try.prog W 0 (fun _ => true) true n' 3 (([c0, c1, c2, c3, c4, c5, c6, c7, c8, c9, c10, c11, c12].drop 0).take (Try.prog.cellsOf 3)) = some y0 := hf 0 _ rfl
    have f1 : DataW.trod enc Try.prog W 0 (fun _ => true) true n' 3 (([c0, c1, c2, c3, c4, c5, c6, c7, c8, c9, c10, c11, c12].drop 1).take (Try.prog.cellsOf 3)) = some y1 := hf 1 _ rfl
    have f2 : DataW.trod enc Try.prog W 0 (fun _ => true) true n' 3 (([c0, c1, c2, c3, c4, c5, c6, c7, c8, c9, c10, c11, c12].drop 2).take (Try.prog.cellsOf 3)) = some y2 := hf 2 _ rfl
    have f3 : DataW.trod enc Try.prog W 0 (fun _ => true) true n' 3 (([c0, c1, c2, c3, c4, c5, c6, c7, c8, c9, c10, c11, c12].drop 3).take (Try.prog.cellsOf 3)) = some y3 := hf 3 _ rfl
    have f4 : DataW.trod enc Try.prog W 0 (fun _ => true) true n' 3 (([c0, c1, c2, c3, c4, c5, c6, c7, c8, c9, c10, c11, c12].drop 4).take (Try.prog.cellsOf 3)) = some y4 := hf 4 _ rfl
    have f5 : DataW.trod enc Try.prog W 0 (fun _ => true) true n' 3 (([c0, c1, c2, c3, c4, c5, c6, c7, c8, c9, c10, c11, c12].drop 5).take (Try.prog.cellsOf 3)) = some y5 := hf 5 _ rfl
    have f6 : DataW.trod enc Try.prog W 0 (fun _ => true) true n' 3 (([c0, c1, c2, c3, c4, c5, c6, c7, c8, c9, c10, c11, c12].drop 6).take (Try.prog.cellsOf 3)) = some y6 := hf 6 _ rfl
    have f7 : DataW.trod enc Try.prog W 0 (fun _ => true) true n' 22 (([c0, c1, c2, c3, c4, c5, c6, c7, c8, c9, c10, c11, c12].drop 7).take (Try.prog.cellsOf 22)) = some y7 := hf 7 _ rfl
    have f8 : DataW.trod enc Try.prog W 0 (fun _ => true) true n' 24 (([c0, c1, c2, c3, c4, c5, c6, c7, c8, c9, c10, c11, c12].drop 8).take (Try.prog.cellsOf 24)) = some y8 := hf 8 _ rfl
    have f9 : DataW.trod enc Try.prog W 0 (fun _ => true) true n' 3 (([c0, c1, c2, c3, c4, c5, c6, c7, c8, c9, c10, c11, c12].drop 10).take (Try.prog.cellsOf 3)) = some y9 := hf 9 _ rfl
    have f10 : DataW.trod enc Try.prog W 0 (fun _ => true) true n' 25 (([c0, c1, c2, c3, c4, c5, c6, c7, c8, c9, c10, c11, c12].drop 11).take (Try.prog.cellsOf 25)) = some y10 := hf 10 _ rfl
    have f11 : DataW.trod enc Try.prog W 0 (fun _ => true) true n' 26 (([c0, c1, c2, c3, c4, c5, c6, c7, c8, c9, c10, c11, c12].drop 12).take (Try.prog.cellsOf 26)) = some y11 := hf 11 _ rfl
    rw [Try.cellsInt] at f0 f1 f2 f3 f4 f5 f6 f9
    rw [Try.cellsErr] at f7
    rw [Try.cellsId] at f8
    rw [Try.cellsTxts] at f10
    rw [Try.cellsRecs] at f11
    obtain ⟨k0, e0, _, _⟩ := DataW.trod_int Try.underlying3 f0
    obtain ⟨k1, e1, _, _⟩ := DataW.trod_int Try.underlying3 f1
    obtain ⟨k2, e2, _, _⟩ := DataW.trod_int Try.underlying3 f2
    obtain ⟨k3, e3, _, _⟩ := DataW.trod_int Try.underlying3 f3
    obtain ⟨k4, e4, _, _⟩ := DataW.trod_int Try.underlying3 f4
    obtain ⟨k5, e5, _, _⟩ := DataW.trod_int Try.underlying3 f5
    obtain ⟨k6, e6, _, _⟩ := DataW.trod_int Try.underlying3 f6
    obtain ⟨k7, e7, _, _⟩ := DataW.trod_int Try.underlying22 f7
    obtain ⟨k10, e10, _, _⟩ := DataW.trod_int Try.underlying3 f9
    obtain ⟨zs, n2, _, hy8, hl2, hlen2, hg⟩ := DataW.trod_struct Try.underlying24 f8
    have g0 : ∃ k8, c8 = .int .i64 k8 := by
      match zs, hlen2 with
      | [z0, z1], _ =>
        have q0 : DataW.trod enc Try.prog W 0 (fun _ => true) true n2 3 (([c8, c9].drop 0).take (Try.prog.cellsOf 3)) = some z0 := hg 0 _ rfl
        rw [Try.cellsInt] at q0
        obtain ⟨k, e, _, _⟩ := DataW.trod_int Try.underlying3 q0
        exact ⟨k, by simpa using e⟩
    have g1 : ∃ k9, c9 = .int .i64 k9 := by
      match zs, hlen2 with
      | [z0, z1], _ =>
        have q1 : DataW.trod enc Try.prog W 0 (fun _ => true) true n2 3 (([c8, c9].drop 1).take (Try.prog.cellsOf 3)) = some z1 := hg 1 _ rfl
        rw [Try.cellsInt] at q1
        obtain ⟨k, e, _, _⟩ := DataW.trod_int Try.underlying3 q1
        exact ⟨k, by simpa using e⟩
    obtain ⟨k8, e8⟩ := g0
    obtain ⟨k9, e9⟩ := g1
    have f10' : DataW.trod enc Try.prog W 0 (fun _ => true) true n' 25 [c11] = some y10 := f10
    have f11' : DataW.trod enc Try.prog W 0 (fun _ => true) true n' 26 [c12] = some y11 := f11
    obtain ⟨la, ll, lc, L, e11, hLl, hTI, hTS, hll⟩ := open_txts f10'
    obtain ⟨ba, bl, bc, e12⟩ : ∃ ba bl bc, c12 = .slice ba bl bc := by
      rcases open_slice Try.underlying26 f11' with ⟨h0, _⟩ | ⟨a, len', cap', m, n, D, Pl, hcs, _⟩
      · cases h0; exact ⟨none, 0, 0, rfl⟩
      · cases hcs; exact ⟨some a, len', cap', rfl⟩
    subst e12
    obtain ⟨M, hMl, hRI, hRS, hbl, _, _⟩ := open_recs f11'
    simp at e0 e1 e2 e3 e4 e5 e6 e7 e10
    subst e0 e1 e2 e3 e4 e5 e6 e7 e8 e9 e10 e11 hLl hMl
    exact ⟨⟨k0, k1, k2, k3, k4, k5, k6, k7, k8, k9, k10, L, M⟩, ⟨la, lc, ba, bc⟩, rfl, ⟨hTI, hRI, hTS, hRS, hll, hbl⟩⟩
end Go.Proofs.Ytalpbnkmppdgdaa
