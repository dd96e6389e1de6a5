/- Blocks, one behind the other. -/
import Derived.Test.YtchjnfckcfikkaaDoorZl
namespace Go.Proofs.YtchjnfckcfikkaaDoor
open Go.RowKit
set_option linter.unusedVariables false

theorem packF_mono (c d : List Nat) (s : ByteArray) (most : Nat) (hc : c.length ≤ 288) (hd : d.length ≤ 288) : ∀ (k p : Nat) (l : List Nat), p ≤ 8 * s.size → l.length ≤ most → (packF c d s most k p l).1 = 0 → p ≤ (packF c d s most k p l).2.1 ∧ (packF c d s most k p l).2.1 ≤ 8 * s.size ∧ (packF c d s most k p l).2.2.length ≤ most
  | 0, p, l, hp, hl, h => by simp [packF] at h
  | k + 1, p, l, hp, hl, h => by
    unfold packF at h ⊢
    by_cases a1 : (usym c s p).1 ≠ 0
    · rw [if_pos a1] at h; exact (a1 h).elim
    · rw [if_neg a1] at h ⊢
      obtain ⟨b1, b2, b3⟩ := usym_ok' hc (by omega : (usym c s p).1 = 0)
      have b3 := b3 hp
      obtain ⟨⟨e1, p1, y⟩, hu⟩ : ∃ r, usym c s p = r := ⟨_, rfl⟩
      rw [hu] at b1 b2 b3 h ⊢
      have b2 : p < p1 := b2
      have b3 : p1 ≤ 8 * s.size := b3
      by_cases a2 : y < 256
      · rw [if_pos a2] at h ⊢
        by_cases a3 : most < l.length + 1
        · rw [if_pos a3] at h; simp at h
        · rw [if_neg a3] at h ⊢
          obtain ⟨g1, g2, g3⟩ := packF_mono c d s most hc hd k p1 (l ++ [y]) b3 (by rw [List.length_append, List.length_singleton]; omega) h
          exact ⟨Nat.le_trans (Nat.le_of_lt b2) g1, g2, g3⟩
      · rw [if_neg a2] at h ⊢
        by_cases a4 : y = 256
        · rw [if_pos a4]; exact ⟨Nat.le_of_lt b2, b3, hl⟩
        · rw [if_neg a4] at h ⊢
          have hum := ulen_mono (s := s) (p := p1) (y := y)
          obtain ⟨⟨e2, p2, n⟩, hn⟩ : ∃ r, ulen s p1 y = r := ⟨_, rfl⟩
          have hn' : ulen s (e1, p1, y).2.1 (e1, p1, y).2.2 = (e2, p2, n) := hn
          rw [hn'] at h ⊢
          rw [hn] at hum
          by_cases a5 : e2 ≠ 0
          · rw [if_pos a5] at h; exact (a5 h).elim
          · rw [if_neg a5] at h ⊢
            obtain ⟨c1, c2⟩ := hum (by show e2 = 0; omega)
            have c1 : p1 ≤ p2 := c1
            have c2 : p2 ≤ 8 * s.size := c2 b3
            have hdm := udist_mono (s := s) (p := p2) hd
            obtain ⟨⟨e3, p3, x⟩, ht⟩ : ∃ r, udist d s p2 = r := ⟨_, rfl⟩
            have ht' : udist d s (e2, p2, n).2.1 = (e3, p3, x) := ht
            rw [ht'] at h ⊢
            rw [ht] at hdm
            by_cases a6 : e3 ≠ 0
            · rw [if_pos a6] at h; exact (a6 h).elim
            · rw [if_neg a6] at h ⊢
              obtain ⟨d1, d2⟩ := hdm (by show e3 = 0; omega)
              have d1 : p2 ≤ p3 := d1
              have d2 : p3 ≤ 8 * s.size := d2 c2
              have hrl := repF_len (p := 0) (l := l) (most := most) (n := n) (d := x)
              obtain ⟨⟨e4, p4, m⟩, hr⟩ : ∃ r, repF 0 l most n x = r := ⟨_, rfl⟩
              have hr' : repF 0 l most (e2, p2, n).2.2 (e3, p3, x).2.2 = (e4, p4, m) := hr
              rw [hr'] at h ⊢
              rw [hr] at hrl
              by_cases a7 : e4 ≠ 0
              · rw [if_pos a7] at h; exact (a7 h).elim
              · rw [if_neg a7] at h ⊢
                obtain ⟨g1, g2, g3⟩ := packF_mono c d s most hc hd k p3 m d2 (hrl (by show e4 = 0; omega)).1 h
                exact ⟨by show p ≤ _; exact Nat.le_trans (by omega) g1, g2, g3⟩
theorem storedF_mono {s : ByteArray} {p most : Nat} {l : List Nat} (h : (storedF s p l most).1 = 0) : p ≤ (storedF s p l most).2.1 ∧ (storedF s p l most).2.1 ≤ 8 * s.size ∧ (storedF s p l most).2.2.length ≤ most := by
  unfold storedF at h ⊢
  simp only at h ⊢
  obtain ⟨q, hq⟩ : ∃ q, (p + 7) / 8 * 8 = q := ⟨_, rfl⟩
  rw [hq] at h ⊢
  by_cases a1 : 8 * s.size < q + 16
  · rw [if_pos a1] at h; simp at h
  · rw [if_neg a1] at h ⊢
    by_cases a2 : 8 * s.size < q + 32
    · rw [if_pos a2] at h; simp at h
    · rw [if_neg a2] at h ⊢
      split at h
      · simp at h
      · rename_i a3
        rw [if_neg a3]
        split at h
        · simp at h
        · rename_i a4
          rw [if_neg a4]
          split at h
          · simp at h
          · rename_i a5
            rw [if_neg a5]
            refine ⟨by show p ≤ q + 32 + 8 * num s q 16; omega, by show q + 32 + 8 * num s q 16 ≤ 8 * s.size; omega, ?_⟩
            show (l ++ _).length ≤ most
            rw [List.length_append, List.length_map]
            have : (s.extract ((q + 32) / 8) ((q + 32) / 8 + num s q 16)).data.toList.length = num s q 16 := by
              show (s.extract ((q + 32) / 8) ((q + 32) / 8 + num s q 16)).size = _
              rw [ByteArray.size_extract]; omega
            rw [this]; omega
theorem fixS_len : fixS.length = 288 := by simp [fixS]
theorem fixD_len : fixD.length = 32 := by simp [fixD]
/-- What told codes keep to. -/
def ToldOK (told : Nat → Nat × Nat × List Nat × List Nat) (s : ByteArray) : Prop := ∀ p, p ≤ 8 * s.size → (told p).1 = 0 → p ≤ (told p).2.1 ∧ (told p).2.1 ≤ 8 * s.size ∧ (told p).2.2.1.length ≤ 288 ∧ (told p).2.2.2.length ≤ 288
theorem blockF_mono {told : Nat → Nat × Nat × List Nat × List Nat} {s : ByteArray} (ht : ToldOK told s) {most p : Nat} {l : List Nat} (hl : l.length ≤ most) (h : (blockF told s most p l).1 = 0) : p < (blockF told s most p l).2.1 ∧ (blockF told s most p l).2.1 ≤ 8 * s.size ∧ (blockF told s most p l).2.2.length ≤ most := by
  unfold blockF at h ⊢
  by_cases a1 : 8 * s.size < p + 1
  · rw [if_pos a1] at h; simp at h
  · rw [if_neg a1] at h ⊢
    by_cases a2 : 8 * s.size < p + 3
    · rw [if_pos a2] at h; simp at h
    · rw [if_neg a2] at h ⊢
      by_cases a3 : num s (p + 1) 2 = 0
      · rw [if_pos a3] at h ⊢
        obtain ⟨b1, b2, b3⟩ := storedF_mono h
        exact ⟨by omega, b2, b3⟩
      · rw [if_neg a3] at h ⊢
        by_cases a4 : num s (p + 1) 2 = 1
        · rw [if_pos a4] at h ⊢
          obtain ⟨b1, b2, b3⟩ := packF_mono fixS fixD s most (by rw [fixS_len]; omega) (by rw [fixD_len]; omega) _ (p + 3) l (by omega) hl h
          exact ⟨by omega, b2, b3⟩
        · rw [if_neg a4] at h ⊢
          by_cases a5 : num s (p + 1) 2 = 2
          · rw [if_pos a5] at h ⊢
            by_cases a6 : (told (p + 3)).1 ≠ 0
            · rw [if_pos a6] at h; exact (a6 h).elim
            · rw [if_neg a6] at h ⊢
              obtain ⟨c1, c2, c3, c4⟩ := ht (p + 3) (by omega) (by omega)
              obtain ⟨b1, b2, b3⟩ := packF_mono _ _ s most c3 c4 _ (told (p + 3)).2.1 l c2 hl h
              exact ⟨by omega, b2, b3⟩
          · rw [if_neg a5] at h; simp at h
def blocksF (told : Nat → Nat × Nat × List Nat × List Nat) (s : ByteArray) (most : Nat) : Nat → Nat → List Nat → Nat × Nat × List Nat
  | 0, p, l => (99, p, l)
  | k + 1, p, l => if (blockF told s most p l).1 ≠ 0 then ((blockF told s most p l).1, p, l) else if num s p 1 = 1 then (0, (blockF told s most p l).2.1, (blockF told s most p l).2.2) else blocksF told s most k (blockF told s most p l).2.1 (blockF told s most p l).2.2
theorem blocksF_fuel {told : Nat → Nat × Nat × List Nat × List Nat} {s : ByteArray} (ht : ToldOK told s) (most : Nat) : ∀ (k k' p : Nat) (l : List Nat), l.length ≤ most → p ≤ 8 * s.size → 8 * s.size + 1 - p ≤ k → 8 * s.size + 1 - p ≤ k' → blocksF told s most k p l = blocksF told s most k' p l
  | 0, k', p, l, hl, hp, h1, h2 => by omega
  | k + 1, 0, p, l, hl, hp, h1, h2 => by omega
  | k + 1, k' + 1, p, l, hl, hp, h1, h2 => by
    unfold blocksF
    by_cases a1 : (blockF told s most p l).1 ≠ 0
    · rw [if_pos a1, if_pos a1]
    · rw [if_neg a1, if_neg a1]
      by_cases a2 : num s p 1 = 1
      · rw [if_pos a2, if_pos a2]
      · rw [if_neg a2, if_neg a2]
        obtain ⟨b1, b2, b3⟩ := blockF_mono ht hl (by omega : (blockF told s most p l).1 = 0)
        exact blocksF_fuel ht most k k' _ _ b3 b2 (by omega) (by omega)
section
variable {told : Nat → Nat × Nat × List Nat × List Nat} {s : ByteArray} {most p : Nat} {l : List Nat}
theorem blocks_bad (hp : p ≤ 8 * s.size) (h : (blockF told s most p l).1 ≠ 0) : blocksF told s most (8 * s.size + 1 - p) p l = ((blockF told s most p l).1, p, l) := by
  obtain ⟨k, hk⟩ := pack_open hp
  rw [hk]; unfold blocksF; rw [if_pos h]
theorem blocks_end (hp : p ≤ 8 * s.size) (h : (blockF told s most p l).1 = 0) (h1 : num s p 1 = 1) : blocksF told s most (8 * s.size + 1 - p) p l = (0, (blockF told s most p l).2.1, (blockF told s most p l).2.2) := by
  obtain ⟨k, hk⟩ := pack_open hp
  rw [hk]; unfold blocksF; rw [if_neg (by omega), if_pos h1]
theorem blocks_more (ht : ToldOK told s) (hl : l.length ≤ most) (hp : p ≤ 8 * s.size) (h : (blockF told s most p l).1 = 0) (h1 : num s p 1 ≠ 1) : blocksF told s most (8 * s.size + 1 - p) p l = blocksF told s most (8 * s.size + 1 - (blockF told s most p l).2.1) (blockF told s most p l).2.1 (blockF told s most p l).2.2 := by
  obtain ⟨k, hk⟩ := pack_open hp
  obtain ⟨b1, b2, b3⟩ := blockF_mono ht hl h
  rw [hk]; conv => lhs; unfold blocksF
  rw [if_neg (by omega), if_neg h1]
  exact blocksF_fuel ht most k _ _ _ b3 b2 (by omega) (by omega)
end
/-- Where the blocks' reading stands: what it will come to is r. -/
def BlkSt (told : Nat → Nat × Nat × List Nat × List Nat) (J : Nat → List Nat → Prop) (K : Nat → Prop) (u b : Nat) (s : ByteArray) (most : Nat) (w0 : World) (r : Nat × Nat × List Nat) (W : World) : Prop :=
  ∃ K' p l v f1 f2, (∀ k, K k → K' k) ∧ US W K' u b s p l most v f1 f2 ∧ Fix W K' f1 f2 ∧ UF K w0 W ∧ l.length ≤ most ∧ J p l ∧ blocksF told s most (8 * s.size + 1 - p) p l = r
theorem blocksOf_ok (told : Nat → Nat × Nat × List Nat × List Nat) (J : Nat → List Nat → Prop) (w : World) (K : Nat → Prop) (u b : Nat) (s : ByteArray) (p : Nat) (l : List Nat) (most : Nat) (v f1 f2 : Value) (h : US w K u b s p l most v f1 f2) (hx : Fix w K f1 f2) (hm : most ≤ 1048576) (hl : l.length ≤ most) (ht : ToldOK told s) (hJ : J p l)
    (hJs : ∀ p l, J p l → l.length ≤ most → p ≤ 8 * s.size → (blockF told s most p l).1 = 0 → num s p 1 ≠ 1 → J (blockF told s most p l).2.1 (blockF told s most p l).2.2)
    (hT : ∀ p l, J p l → num s (p + 1) 2 = 2 → ∀ W K' v f1 f2, (∀ k, K k → K' k) → UF K w W → US W K' u b s (p + 3) l most v f1 f2 → Calls Tryd.prog 45 #[.pointer (some ⟨u, 0, none⟩)] W fun e w' => ToldEnd K' u b s l most v f1 f2 W (told (p + 3)) e w') :
    Calls Tryd.prog 19 #[.pointer (some ⟨u, 0, none⟩)] w fun e w' => ∃ q, e = .returned (.int .i64 (q : Nat)) ∧ UF K w w' ∧ q = (blocksF told s most (8 * s.size + 1 - p) p l).1 ∧ (q = 0 → ∃ v f1 f2, US w' K u b s (blocksF told s most (8 * s.size + 1 - p) p l).2.1 (blocksF told s most (8 * s.size + 1 - p) p l).2.2 most v f1 f2) := by
  obtain ⟨r, hr⟩ : ∃ r, blocksF told s most (8 * s.size + 1 - p) p l = r := ⟨_, rfl⟩
  rw [hr]
  obtain ⟨o, ho⟩ : ∃ o, Obj.cells #[Value.int .i64 0] 23 = o := ⟨_, rfl⟩
  have hbel : Below w.heap.size w (w.alloc o) := (Below.refl _ _).alloc (Nat.le_refl _) _
  have huf : UF K w (w.alloc o) := UF.below hbel h.kb
  obtain ⟨K1, hK1⟩ : ∃ K', KX K w.heap.size (w.alloc o).heap.size = K' := ⟨_, rfl⟩
  have hin : ∀ k, K k → K1 k := by rw [← hK1]; exact KX.in
  have hnew : K1 w.heap.size := by rw [← hK1]; exact .inr ⟨Nat.le_refl _, by simp⟩
  have h1 : US (w.alloc o) K1 u b s p l most v f1 f2 := by rw [← hK1]; exact h.newer hbel
  have hblk : (w.alloc o).heap[w.heap.size]? = some o := heap_alloc_new w o
  have hcell : ∀ W, UF K1 (w.alloc o) W → W.cell? ⟨w.heap.size, 0, none⟩ = some (.int .i64 0) ∧ W.frozen? ⟨w.heap.size, 0, none⟩ = false := fun W hW => by
    have e : W.heap[w.heap.size]? = some (.cells #[.int .i64 0] 23) := by rw [hW.block _ hnew, hblk, ho]
    exact ⟨by simp [World.cell?, e], by simp [World.frozen?, e]⟩
  have huw : u ≠ w.heap.size := by have := lt_of_block h.blk; omega
  refine (blocks_ok (fun W => BlkSt told J K1 u b s most (w.alloc o) r W) (fun W => 8 * s.size + 1 - placeOf W b)
    (fun W => UF K1 (w.alloc o) W ∧ r.1 = 0 ∧ ∃ K' v f1 f2, (∀ k, K1 k → K' k) ∧ US W K' u b s r.2.1 r.2.2 most v f1 f2)
    (fun q W => UF K1 (w.alloc o) W ∧ q = ((r.1 : Nat) : Int) ∧ r.1 ≠ 0) u w ?_ ?_ ?_ ?_).mono ?_
  · rw [ho]
    exact ⟨K1, p, l, v, f1, f2, fun k a => a, h1, hx.keep huf hin, UF.refl _ _, hl, hJ, hr⟩
  · rintro W ⟨K', p, l, v, f1, f2, hk, hu, hfx, hf, hl, hJ, hr⟩
    refine (block_ok told W K' u b s p l most v f1 f2 hu hfx hm hl (fun hn W2 hf2 hu2 => hT p l hJ hn W2 K' v f1 f2 (fun k a => hk k (hin k a)) (huf.trans ((hf.trans (hf2.less hk)).less hin)) hu2)).mono ?_
    rintro e w' ⟨hf2, ⟨hq, rfl⟩ | ⟨h0, rfl, K2, v2, g1, g2, hk2, hu2, hfx2⟩⟩
    · refine .inr ⟨_, rfl, hf.trans (hf2.less hk), ?_, ?_⟩
      · rw [← hr, blocks_bad hu.le hq]
      · rw [← hr, blocks_bad hu.le hq]; exact hq
    · left
      refine ⟨_, rfl, ?_⟩
      by_cases hla : num s p 1 = 1
      · left
        refine ⟨decide_eq_true hla, hf.trans (hf2.less hk), ?_, K2, v2, g1, g2, fun k a => hk2 k (hk k a), ?_⟩
        · rw [← hr, blocks_end hu.le h0 hla]
        · rw [← hr, blocks_end hu.le h0 hla]; exact hu2
      · right
        obtain ⟨b1, b2, b3⟩ := blockF_mono ht hl h0
        refine ⟨decide_eq_false hla, ?_, K2, _, _, v2, g1, g2, fun k a => hk2 k (hk k a), hu2, hfx2, hf.trans (hf2.less hk), b3, hJs p l hJ hl hu.le h0 hla, ?_⟩
        · rw [hu2.rs.placeOf, hu.rs.placeOf]; omega
        · rw [← blocks_more ht hl hu.le h0 hla]; exact hr
  · rintro W ⟨hf, _⟩; exact hcell W hf
  · rintro q W ⟨hf, _⟩; exact hcell W hf
  · rintro e w' ⟨q, W, rfl, rfl, hor⟩
    rcases hor with ⟨rfl, hf, h0, K', v', g1, g2, hk, hu⟩ | ⟨hf, rfl, hq⟩
    · have ho2 : Only w.heap.size W (W.setCell ⟨w.heap.size, 0, none⟩ (.int .i64 0)) := Only.setCell _ 0 W _
      have eB : W.heap[w.heap.size]? = some (.cells #[.int .i64 0] 23) := by rw [hf.block _ hnew, hblk, ho]
      have hKw : ¬ K w.heap.size := fun a => by have := h.kb _ a; omega
      have huK : US W K u b s r.2.1 r.2.2 most v' g1 g2 := hu.less (fun k a => hk k (hin k a))
      refine ⟨0, rfl, huf.trans ((hf.less hin).trans (UF.only ho2 huK.kb hKw)), h0.symm, fun _ => ⟨v', g1, g2, huK.beside eB (by decide) (by decide) huw ho2⟩⟩
    · have ho2 : Only w.heap.size W (W.setCell ⟨w.heap.size, 0, none⟩ (.int .i64 ((r.1 : Nat) : Int))) := Only.setCell _ 0 W _
      have hKw : ¬ K w.heap.size := fun a => by have := h.kb _ a; omega
      have hkW : ∀ k, K k → k < W.heap.size := fun k a => by have := h.kb k a; have := (huf.trans (hf.less hin)).size; omega
      exact ⟨r.1, rfl, huf.trans ((hf.less hin).trans (UF.only ho2 hkW hKw)), rfl, fun e => (hq e).elim⟩
end Go.Proofs.YtchjnfckcfikkaaDoor
