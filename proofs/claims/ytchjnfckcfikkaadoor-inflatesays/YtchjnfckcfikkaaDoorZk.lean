/- The fixed codes, made once. -/
import Derived.Test.YtchjnfckcfikkaaDoorZj
namespace Go.Proofs.YtchjnfckcfikkaaDoor
open Go.RowKit
set_option linter.unusedVariables false

/-- An unpacker's fixed codes: not made yet, or two tables. -/
def Fix (w : World) (K : Nat → Prop) (f1 f2 : Value) : Prop := (f1 = .pointer none ∧ f2 = .pointer none) ∨ ∃ t1 t2, f1 = .pointer (some ⟨t1, 0, none⟩) ∧ f2 = .pointer (some ⟨t2, 0, none⟩) ∧ TabK w K t1 fixS ∧ TabK w K t2 fixD
def FixEnd (w : World) (K : Nat → Prop) (u b : Nat) (s : ByteArray) (p : Nat) (l : List Nat) (most : Nat) (v : Value) (e : Ending) (w' : World) : Prop :=
  ∃ K' t1 t2, e = .returned (.agg #[.pointer (some ⟨t1, 0, none⟩), .pointer (some ⟨t2, 0, none⟩)]) ∧ (∀ k, K k → K' k) ∧ US w' K' u b s p l most v (.pointer (some ⟨t1, 0, none⟩)) (.pointer (some ⟨t2, 0, none⟩)) ∧ UF K w w' ∧ TabK w' K' t1 fixS ∧ TabK w' K' t2 fixD
theorem US.beside {w w' : World} {K : Nat → Prop} {u b : Nat} {s : ByteArray} {p : Nat} {l : List Nat} {most : Nat} {v f1 f2 : Value} (h : US w K u b s p l most v f1 f2) {g : Nat} {cs : Array Value} {T : TypeId} {mk : Nat × Nat} (hg : w.heap[g]? = some (.cells cs T mk)) (hT : T ≠ 5) (hT2 : T ≠ 67) (hgu : u ≠ g) (ho : Only g w w') : US w' K u b s p l most v f1 f2 := by
  refine ⟨by rw [ho.block u (lt_of_block h.blk) hgu]; exact h.blk, ⟨h.own.1, ?_⟩, ?_, h.le, h.small, fun k hk => Nat.lt_of_lt_of_le (h.kb k hk) ho.size, h.ku, h.kr, h.ko⟩
  · rcases h.own.2 with e | ⟨g', cap, cur, e1, e2, e3, e4⟩
    · exact .inl e
    · refine .inr ⟨g', cap, cur, e1, e2, ?_, e4⟩
      rw [ho.block g' (lt_of_block e3) (fun e => ?_)]
      · exact e3
      · rw [e, hg] at e3; cases e3; exact hT rfl
  · have h1 := h.rs
    unfold RS at h1 ⊢
    rw [ho.block b (lt_of_block h1) (fun e => ?_)]
    · exact h1
    · rw [e, hg] at h1; cases h1; exact hT2 rfl
theorem US.fixed {w : World} {K : Nat → Prop} {u b : Nat} {s : ByteArray} {p : Nat} {l : List Nat} {most : Nat} {v f1 f2 : Value} (h : US w K u b s p l most v f1 f2) (x y : Value) : US ((w.setCell ⟨u, 3, none⟩ x).setCell ⟨u, 4, none⟩ y) K u b s p l most v x y ∧ UF K w ((w.setCell ⟨u, 3, none⟩ x).setCell ⟨u, 4, none⟩ y) := by
  have ho : Only u w ((w.setCell ⟨u, 3, none⟩ x).setCell ⟨u, 4, none⟩ y) := (Only.setCell u 3 w x).trans (Only.setCell u 4 _ y)
  refine ⟨⟨?_, ⟨h.own.1, ?_⟩, ?_, h.le, h.small, fun k hk => Nat.lt_of_lt_of_le (h.kb k hk) ho.size, h.ku, h.kr, h.ko⟩, UF.only ho h.kb h.ku⟩
  · have := block_setCell (i := 4) (u := y) (block_setCell (i := 3) (u := x) h.blk)
    exact this
  · rcases h.own.2 with e | ⟨g', cap, cur, e1, e2, e3, e4⟩
    · exact .inl e
    · refine .inr ⟨g', cap, cur, e1, e2, ?_, e4⟩
      rw [ho.block g' (lt_of_block e3) (fun e => ?_)]
      · exact e3
      · rw [e, h.blk] at e3; cases e3
  · have h1 := h.rs
    unfold RS at h1 ⊢
    rw [ho.block b (lt_of_block h1) (fun e => h.ne e.symm)]
    exact h1
set_option maxRecDepth 20000 in
set_option maxHeartbeats 4000000 in
theorem fixedCodes_ok (w : World) (K : Nat → Prop) (u b : Nat) (s : ByteArray) (p : Nat) (l : List Nat) (most : Nat) (v f1 f2 : Value) (h : US w K u b s p l most v f1 f2) (hx : Fix w K f1 f2) :
    Calls Tryd.prog 44 #[.pointer (some ⟨u, 0, none⟩)] w fun e w' => FixEnd w K u b s p l most v e w' := by
  rcases hx with ⟨rfl, rfl⟩ | ⟨t1, t2, rfl, rfl, hT1, hT2⟩
  · have hbelow : Below w.heap.size w (w.alloc (.cells #[.pointer none, .pointer none] 49)) := (Below.refl _ _).alloc (Nat.le_refl _) _
    have h0 := (h.newer hbelow).less (KX.in (K := K))
    have c3 := h0.cells.2.2.2.1
    have c4 := h0.cells.2.2.2.2.1
    have HFL : Hid (∀ W, Calls Tryd.prog 60 #[] W fun e w' => e = .returned (.slice (some ⟨W.heap.size, 0, none⟩) 288 288) ∧ LB w' W.heap.size 288 fixL ∧ Below W.heap.size W w') := fun W => fixLens_ok W
    have HFD : Hid (∀ W, Calls Tryd.prog 61 #[] W fun e w' => e = .returned (.slice (some ⟨W.heap.size, 0, none⟩) 32 32) ∧ LB w' W.heap.size 32 (fun _ => 5) ∧ Below W.heap.size W w') := fun W => fixDists_ok W
    have H0 : Hid (US (w.alloc (.cells #[.pointer none, .pointer none] 49)) K u b s p l most v (.pointer none) (.pointer none) ∧ Below w.heap.size w (w.alloc (.cells #[.pointer none, .pointer none] 49))) := ⟨h0, hbelow⟩
    have HKB : Hid (∀ k, K k → k < w.heap.size) := h.kb
    clear h h0 hbelow
    go_enter Tryd.func44, Tryd.ntmps44
    go_wp2_with fail
    obtain ⟨W0, hW0⟩ : ∃ W, w.alloc (.cells #[.pointer none, .pointer none] 49) = W := ⟨_, rfl⟩
    have hWB : W0.heap[w.heap.size]? = some (.cells #[.pointer none, .pointer none] 49) := by rw [← hW0]; exact heap_alloc_new w _
    have hWs : W0.heap.size = w.heap.size + 1 := by rw [← hW0]; simp
    rw [hW0] at H0 ⊢
    have HWB : Hid (W0.heap[w.heap.size]? = some (.cells #[.pointer none, .pointer none] 49) ∧ W0.heap.size = w.heap.size + 1) := ⟨hWB, hWs⟩
    clear hW0 c3 c4 hWB hWs
    refine (HFL.out W0).mono ?_
    rintro e w1 ⟨rfl, h1, h2⟩
    have HT1 : Hid (∀ _ : Unit, Calls Tryd.prog 59 #[.slice (some ⟨W0.heap.size, 0, none⟩) 288 288] w1 fun e w' => ∃ t R, e = .returned (.pointer (some ⟨t, 0, none⟩)) ∧ Tab w' w1.heap.size w'.heap.size t fixS R ∧ Below w1.heap.size w1 w') := fun _ => by
      have := tableOf_ok _ _ 288 288 w1 (by simp) h1.row (by omega) fixS_code
      rw [nsOf_range] at this
      exact this
    have H1 : Hid (Below W0.heap.size W0 w1) := h2
    clear h1 h2
    go_wp2_with fail
    refine (HT1.out ()).mono ?_
    rintro e w2 ⟨t1, R1, rfl, h1, h2⟩
    have H2 : Hid (Tab w2 w1.heap.size w2.heap.size t1 fixS R1 ∧ Below w1.heap.size w1 w2) := ⟨h1, h2⟩
    clear h1 h2 HT1
    go_wp2_with fail
    refine (HFD.out w2).mono ?_
    rintro e w3 ⟨rfl, h1, h2⟩
    have HT1 : Hid (∀ _ : Unit, Calls Tryd.prog 59 #[.slice (some ⟨w2.heap.size, 0, none⟩) 32 32] w3 fun e w' => ∃ t R, e = .returned (.pointer (some ⟨t, 0, none⟩)) ∧ Tab w' w3.heap.size w'.heap.size t fixD R ∧ Below w3.heap.size w3 w') := fun _ => by
      have := tableOf_ok _ _ 32 32 w3 (by simp) h1.row (by omega) fixD_code
      rw [nsOf_range] at this
      exact this
    have H3 : Hid (Below w2.heap.size w2 w3) := h2
    clear h1 h2
    go_wp2_with fail
    refine (HT1.out ()).mono ?_
    rintro e w4 ⟨t2, R2, rfl, h1, h2⟩
    have hb1 := H1.out
    have hb2 := H2.out.2
    have hb3 := H3.out
    have hs1 := hb1.size
    have hs2 := hb2.size
    have hs3 := hb3.size
    have hs4 := h2.size
    have hbel : Below W0.heap.size W0 w4 := hb1.trans ((hb2.mono hs1).trans ((hb3.mono (by omega)).trans (h2.mono (by omega))))
    obtain ⟨K', hK'⟩ : ∃ K', KX K W0.heap.size w4.heap.size = K' := ⟨_, rfl⟩
    have hus : US w4 K' u b s p l most v (.pointer none) (.pointer none) := by rw [← hK']; exact H0.out.1.newer hbel
    have hin : ∀ k, K k → K' k := by rw [← hK']; exact KX.in
    have hT1 : TabK w4 K' t1 fixS := ⟨w1.heap.size, w2.heap.size, R1, H2.out.1.keep (fun k _ hk => (h2.block k (by omega)).trans (hb3.block k hk)), fun k a c => by rw [← hK']; exact .inr ⟨by omega, by omega⟩, by simp [fixS], by have := fixS_code.2; rw [nsOf_range] at this; exact this⟩
    have hT2 : TabK w4 K' t2 fixD := ⟨w3.heap.size, w4.heap.size, R2, h1, fun k a c => by rw [← hK']; exact .inr ⟨by omega, by omega⟩, by simp [fixD], by have := fixD_code.2; rw [nsOf_range] at this; exact this⟩
    have huB : u ≠ w.heap.size := by
      intro e
      have := lt_of_block H0.out.1.blk
      have h5 := HWB.out.1
      rw [← e, H0.out.1.blk] at h5
      simp at h5
    have hKB : ¬ K' w.heap.size := by
      rw [← hK']
      rintro (a | a)
      · have := HKB.out _ a
        omega
      · have := HWB.out.2; omega
    have hblkB : w4.heap[w.heap.size]? = some (.cells #[.pointer none, .pointer none] 49) := by rw [hbel.block _ (by have := HWB.out.2; omega)]; exact HWB.out.1
    have H4 : Hid (US w4 K' u b s p l most v (.pointer none) (.pointer none) ∧ TabK w4 K' t1 fixS ∧ TabK w4 K' t2 fixD ∧ (∀ k, K k → K' k) ∧ UF K w w4 ∧ u ≠ w.heap.size ∧ ¬ K' w.heap.size ∧ w4.heap[w.heap.size]? = some (.cells #[.pointer none, .pointer none] 49)) := ⟨hus, hT1, hT2, hin, UF.below (H0.out.2.trans (hbel.mono (by have := HWB.out.2; omega))) HKB.out, huB, hKB, hblkB⟩
    have g1 := hus.blk
    have c3 : w4.cell? ⟨u, 3, none⟩ = some (.pointer none) := by simp [World.cell?, g1]
    have c4 : w4.cell? ⟨u, 4, none⟩ = some (.pointer none) := by simp [World.cell?, g1]
    have z3 : w4.frozen? ⟨u, 3, none⟩ = false := by simp [World.frozen?, g1]
    have z4 : w4.frozen? ⟨u, 4, none⟩ = false := by simp [World.frozen?, g1]
    have b0 : w4.cell? ⟨w.heap.size, 0, none⟩ = some (.pointer none) := by simp [World.cell?, hblkB]
    have b1 : w4.cell? ⟨w.heap.size, 1, none⟩ = some (.pointer none) := by simp [World.cell?, hblkB]
    have y0 : w4.frozen? ⟨w.heap.size, 0, none⟩ = false := by simp [World.frozen?, hblkB]
    have y1 : w4.frozen? ⟨w.heap.size, 1, none⟩ = false := by simp [World.frozen?, hblkB]
    have huB2 : w.heap.size ≠ u := fun e => huB e.symm
    clear hus hT1 hT2 hin hKB hblkB hK' hbel hb1 hb2 hb3 hs1 hs2 hs3 hs4 h1 h2 HT1 g1 HFL HFD
    go_wp2_with fail
    refine bodyPost_ret (v := .agg #[.pointer (some ⟨t1, 0, none⟩), .pointer (some ⟨t2, 0, none⟩)]) ?_ rfl ?_
    · rw [results_cell rfl]
      go_simp
    obtain ⟨k1, k2, k3, k4, k5, k6, k7, k8⟩ := H4.out
    obtain ⟨m1, m2⟩ := k1.fixed (.pointer (some ⟨t1, 0, none⟩)) (.pointer (some ⟨t2, 0, none⟩))
    obtain ⟨W5, hW5⟩ : ∃ W, (w4.setCell ⟨u, 3, none⟩ (.pointer (some ⟨t1, 0, none⟩))).setCell ⟨u, 4, none⟩ (.pointer (some ⟨t2, 0, none⟩)) = W := ⟨_, rfl⟩
    have k9 : W5.heap[w.heap.size]? = some (.cells #[.pointer none, .pointer none] 49) := by
      rw [← hW5, Below.heap_setCell _ _ _ _ huB2, Below.heap_setCell _ _ _ _ huB2]; exact k8
    rw [hW5] at m1 m2 ⊢
    have ho : Only w.heap.size W5 ((W5.setCell ⟨w.heap.size, 0, none⟩ (.pointer (some ⟨t1, 0, none⟩))).setCell ⟨w.heap.size, 1, none⟩ (.pointer (some ⟨t2, 0, none⟩))) := (Only.setCell _ 0 W5 _).trans (Only.setCell _ 1 _ _)
    have huf := m2.trans (UF.only ho m1.kb k7)
    exact ⟨K', t1, t2, rfl, k4, m1.beside k9 (by decide) (by decide) huB ho, k5.trans (huf.less k4), k2.keep huf, k3.keep huf⟩
  · have hbelow : Below w.heap.size w (w.alloc (.cells #[.pointer none, .pointer none] 49)) := (Below.refl _ _).alloc (Nat.le_refl _) _
    have h0 := (h.newer hbelow).less (KX.in (K := K))
    have c3 := h0.cells.2.2.2.1
    have c4 := h0.cells.2.2.2.2.1
    have H4 : Hid (US w K u b s p l most v (.pointer (some ⟨t1, 0, none⟩)) (.pointer (some ⟨t2, 0, none⟩)) ∧ TabK w K t1 fixS ∧ TabK w K t2 fixD) := ⟨h, hT1, hT2⟩
    clear h h0 hbelow hT1 hT2
    go_enter Tryd.func44, Tryd.ntmps44
    go_wp2_with fail
    refine bodyPost_ret (v := .agg #[.pointer (some ⟨t1, 0, none⟩), .pointer (some ⟨t2, 0, none⟩)]) ?_ rfl ?_
    · rw [results_cell rfl]
      go_simp
    obtain ⟨h, hT1, hT2⟩ := H4.out
    have hb : Below w.heap.size w (w.alloc (.cells #[.pointer (some ⟨t1, 0, none⟩), .pointer (some ⟨t2, 0, none⟩)] 49)) := (Below.refl _ _).alloc (Nat.le_refl _) _
    have huf := UF.below hb h.kb
    exact ⟨K, t1, t2, rfl, fun k a => a, (h.newer hb).less KX.in, huf, hT1.keep huf, hT2.keep huf⟩
end Go.Proofs.YtchjnfckcfikkaaDoor
