/- Symbols up to a block's end: the walk. -/
import Derived.Test.YtchjnfckcfikkaaDoorZh
namespace Go.Proofs.YtchjnfckcfikkaaDoor
open Go.RowKit
set_option linter.unusedVariables false

theorem repF_at (p : Nat) (l : List Nat) (most n d : Nat) : repF p l most n d = ((repF 0 l most n d).1, p, (repF 0 l most n d).2.2) := by
  unfold repF
  by_cases h1 : l.length < d
  · rw [if_pos h1, if_pos h1]
  · rw [if_neg h1, if_neg h1]
    by_cases h2 : most < l.length + n
    · rw [if_pos h2, if_pos h2]
    · rw [if_neg h2, if_neg h2]
section
variable {c d : List Nat} {s : ByteArray} {most p : Nat} {l : List Nat} {er p1 y e2 p2 n e3 p3 x e4 p4 : Nat} {m : List Nat}
theorem pack_open (hp : p ≤ 8 * s.size) : ∃ k, 8 * s.size + 1 - p = k + 1 := ⟨8 * s.size - p, by omega⟩
theorem pack_bad (hp : p ≤ 8 * s.size) (hu : usym c s p = (er, p1, y)) (h : er ≠ 0) : packF c d s most (8 * s.size + 1 - p) p l = (er, p, l) := by
  obtain ⟨k, hk⟩ := pack_open hp
  rw [hk]; unfold packF; rw [hu, if_pos h]
theorem pack_full (hp : p ≤ 8 * s.size) (hu : usym c s p = (0, p1, y)) (hy : y < 256) (h : most < l.length + 1) : packF c d s most (8 * s.size + 1 - p) p l = (4, p, l) := by
  obtain ⟨k, hk⟩ := pack_open hp
  rw [hk]; unfold packF; rw [hu, if_neg (by simp), if_pos hy, if_pos h]
theorem pack_byte (hp : p ≤ 8 * s.size) (hc : c.length ≤ 288) (hd : d.length ≤ 288) (hu : usym c s p = (0, p1, y)) (hy : y < 256) (h : ¬ most < l.length + 1) : packF c d s most (8 * s.size + 1 - p) p l = packF c d s most (8 * s.size + 1 - p1) p1 (l ++ [y]) := by
  have hb := usym_ok' (s := s) (p := p) hc (by rw [hu])
  rw [hu] at hb
  obtain ⟨_, b2, b3⟩ := hb
  have b2 : p < p1 := b2
  have b3 : p1 ≤ 8 * s.size := b3 hp
  obtain ⟨k, hk⟩ := pack_open hp
  rw [hk]; conv => lhs; unfold packF
  rw [hu, if_neg (by simp), if_pos hy, if_neg h]
  exact packF_fuel c d s most hc hd k _ p1 _ b3 (by omega) (by omega)
theorem pack_end (hp : p ≤ 8 * s.size) (hu : usym c s p = (0, p1, 256)) : packF c d s most (8 * s.size + 1 - p) p l = (0, p1, l) := by
  obtain ⟨k, hk⟩ := pack_open hp
  rw [hk]; unfold packF; rw [hu, if_neg (by simp), if_neg (by simp), if_pos rfl]
theorem pack_len (hp : p ≤ 8 * s.size) (hu : usym c s p = (0, p1, y)) (hy : 256 < y) (hn : ulen s p1 y = (e2, p2, n)) (h : e2 ≠ 0) : packF c d s most (8 * s.size + 1 - p) p l = (e2, p, l) := by
  obtain ⟨k, hk⟩ := pack_open hp
  rw [hk]; unfold packF; rw [hu, if_neg (by simp), if_neg (by show ¬ y < 256; omega), if_neg (by show ¬ y = 256; omega), hn, if_pos h]
theorem pack_dist (hp : p ≤ 8 * s.size) (hu : usym c s p = (0, p1, y)) (hy : 256 < y) (hn : ulen s p1 y = (0, p2, n)) (ht : udist d s p2 = (e3, p3, x)) (h : e3 ≠ 0) : packF c d s most (8 * s.size + 1 - p) p l = (e3, p, l) := by
  obtain ⟨k, hk⟩ := pack_open hp
  rw [hk]; unfold packF; rw [hu, if_neg (by simp), if_neg (by show ¬ y < 256; omega), if_neg (by show ¬ y = 256; omega), hn, if_neg (by simp), ht, if_pos h]
theorem pack_rep (hp : p ≤ 8 * s.size) (hu : usym c s p = (0, p1, y)) (hy : 256 < y) (hn : ulen s p1 y = (0, p2, n)) (ht : udist d s p2 = (0, p3, x)) (hr : repF p3 l most n x = (e4, p4, m)) (h : e4 ≠ 0) : packF c d s most (8 * s.size + 1 - p) p l = (e4, p, l) := by
  obtain ⟨k, hk⟩ := pack_open hp
  rw [repF_at] at hr
  have hr1 : (repF 0 l most n x).1 = e4 := congrArg Prod.fst hr
  rw [hk]; unfold packF; rw [hu, if_neg (by simp), if_neg (by show ¬ y < 256; omega), if_neg (by show ¬ y = 256; omega), hn, if_neg (by simp), ht, if_neg (by simp)]
  show (if (repF 0 l most n x).1 ≠ 0 then _ else _) = _
  rw [if_pos (by rw [hr1]; exact h), ← hr1]
theorem pack_copy (hp : p ≤ 8 * s.size) (hc : c.length ≤ 288) (hd : d.length ≤ 288) (hu : usym c s p = (0, p1, y)) (hy : 256 < y) (hn : ulen s p1 y = (0, p2, n)) (ht : udist d s p2 = (0, p3, x)) (hr : repF p3 l most n x = (0, p4, m)) : packF c d s most (8 * s.size + 1 - p) p l = packF c d s most (8 * s.size + 1 - p3) p3 m := by
  have hb := usym_ok' (s := s) (p := p) hc (by rw [hu])
  rw [hu] at hb
  obtain ⟨_, b2, b3⟩ := hb
  have b2 : p < p1 := b2
  have b3 : p1 ≤ 8 * s.size := b3 hp
  have hb := ulen_mono (s := s) (p := p1) (y := y) (by rw [hn])
  rw [hn] at hb
  obtain ⟨b4, b5⟩ := hb
  have b4 : p1 ≤ p2 := b4
  have b5 : p2 ≤ 8 * s.size := b5 b3
  have hb := udist_mono (s := s) (p := p2) hd (by rw [ht])
  rw [ht] at hb
  obtain ⟨b6, b7⟩ := hb
  have b6 : p2 ≤ p3 := b6
  have b7 : p3 ≤ 8 * s.size := b7 b5
  obtain ⟨k, hk⟩ := pack_open hp
  rw [repF_at] at hr
  have hr1 : (repF 0 l most n x).1 = 0 := congrArg Prod.fst hr
  have hr2 : (repF 0 l most n x).2.2 = m := congrArg (fun r => r.2.2) hr
  rw [hk]; conv => lhs; unfold packF
  rw [hu, if_neg (by simp), if_neg (by show ¬ y < 256; omega), if_neg (by show ¬ y = 256; omega), hn, if_neg (by simp), ht, if_neg (by simp)]
  show (if (repF 0 l most n x).1 ≠ 0 then _ else packF c d s most k p3 (repF 0 l most n x).2.2) = _
  rw [if_neg (by rw [hr1]; simp), hr2]
  exact packF_fuel c d s most hc hd k _ p3 _ b7 (by omega) (by omega)
end
/-- K, and the blocks from lo up to hi. -/
def KX (K : Nat → Prop) (lo hi : Nat) : Nat → Prop := fun k => K k ∨ (lo ≤ k ∧ k < hi)
theorem US.newer {w w' : World} {K : Nat → Prop} {u b : Nat} {s : ByteArray} {p : Nat} {l : List Nat} {most : Nat} {v f1 f2 : Value} (h : US w K u b s p l most v f1 f2) (hb : Below w.heap.size w w') : US w' (KX K w.heap.size w'.heap.size) u b s p l most v f1 f2 := by
  have hu := lt_of_block h.blk
  have hr := lt_of_block h.rs
  refine ⟨by rw [hb.block u hu]; exact h.blk, ?_, by show _ = _; rw [hb.block b hr]; exact h.rs, h.le, h.small, ?_, ?_, ?_, ?_⟩
  · refine ⟨h.own.1, ?_⟩
    rcases h.own.2 with e | ⟨g, cap, cur, e1, e2, e3, e4⟩
    · exact .inl e
    · exact .inr ⟨g, cap, cur, e1, e2, by rw [hb.block g (lt_of_block e3)]; exact e3, e4⟩
  · rintro k (hk | hk)
    · exact Nat.lt_of_lt_of_le (h.kb k hk) hb.size
    · exact hk.2
  · rintro (hk | hk)
    · exact h.ku hk
    · omega
  · rintro (hk | hk)
    · exact h.kr hk
    · omega
  · rintro g hg (hk | hk)
    · exact h.ko g hg hk
    · have := (h.own.lt g hg).2; omega
theorem US.less {w : World} {K K' : Nat → Prop} {u b : Nat} {s : ByteArray} {p : Nat} {l : List Nat} {most : Nat} {v f1 f2 : Value} (h : US w K' u b s p l most v f1 f2) (hk : ∀ k, K k → K' k) : US w K u b s p l most v f1 f2 :=
  ⟨h.blk, h.own, h.rs, h.le, h.small, fun k a => h.kb k (hk k a), fun a => h.ku (hk _ a), fun a => h.kr (hk _ a), fun g a c => h.ko g a (hk _ c)⟩
theorem UF.below {w w' : World} {K : Nat → Prop} (hb : Below w.heap.size w w') (hk : ∀ k, K k → k < w.heap.size) : UF K w w' := ⟨hb.os, hb.tape, hb.output, hb.size, fun k a => hb.block k (hk k a)⟩
theorem KX.in {K : Nat → Prop} {lo hi : Nat} : ∀ k, K k → KX K lo hi k := fun k h => .inl h
theorem StoredEnd.less {w W w' : World} {K K' : Nat → Prop} {u b : Nat} {s : ByteArray} {most : Nat} {f1 f2 : Value} {r : Nat × Nat × List Nat} {e : Ending} (hk : ∀ k, K k → K' k) (hw : UF K w W) (h : StoredEnd K' u b s most f1 f2 W r e w') : StoredEnd K u b s most f1 f2 w r e w' := by
  refine ⟨hw.trans (h.1.less hk), ?_⟩
  rcases h.2 with a | ⟨a, c, v', d⟩
  · exact .inl a
  · exact .inr ⟨a, c, v', d.less hk⟩
/-- How a block's reading stands: what it will come to is r. -/
def PackSt (K : Nat → Prop) (u b : Nat) (c d : List Nat) (s : ByteArray) (most : Nat) (f1 f2 : Value) (w : World) (r : Nat × Nat × List Nat) (t1 t2 : Nat) (wr : World) : Prop :=
  ∃ p l v', US wr K u b s p l most v' f1 f2 ∧ UF K w wr ∧ l.length ≤ most ∧ packF c d s most (8 * s.size + 1 - p) p l = r ∧ TabK wr K t1 c ∧ TabK wr K t2 d
set_option maxRecDepth 20000 in
set_option maxHeartbeats 4000000 in
theorem packed_ok (w : World) (K : Nat → Prop) (u b : Nat) (s : ByteArray) (p : Nat) (l : List Nat) (most : Nat) (v f1 f2 : Value) (h : US w K u b s p l most v f1 f2) (hm : most ≤ 1048576) (hl : l.length ≤ most) (t1 t2 : Nat) (c d : List Nat) (h1 : TabK w K t1 c) (h2 : TabK w K t2 d) :
    Calls Tryd.prog 43 #[.pointer (some ⟨u, 0, none⟩), .agg #[.pointer (some ⟨t1, 0, none⟩), .pointer (some ⟨t2, 0, none⟩)]] w fun e w' => StoredEnd K u b s most f1 f2 w (packF c d s most (8 * s.size + 1 - p) p l) e w' := by
  obtain ⟨r, hr⟩ : ∃ r, packF c d s most (8 * s.size + 1 - p) p l = r := ⟨_, rfl⟩
  rw [hr]
  have HC : Hid (c.length ≤ 288 ∧ d.length ≤ 288) := ⟨by obtain ⟨_, _, _, _, _, a, _⟩ := h1; exact a, by obtain ⟨_, _, _, _, _, a, _⟩ := h2; exact a⟩
  obtain ⟨o, ho⟩ : ∃ o, Obj.cells #[Value.pointer (some ⟨t1, 0, none⟩), Value.pointer (some ⟨t2, 0, none⟩)] 49 = o := ⟨_, rfl⟩
  have hbel : Below w.heap.size w (w.alloc o) := (Below.refl _ _).alloc (Nat.le_refl _) _
  have huf : UF K w (w.alloc o) := UF.below hbel h.kb
  obtain ⟨K', hK'⟩ : ∃ K', KX K w.heap.size (w.alloc o).heap.size = K' := ⟨_, rfl⟩
  have hin : ∀ k, K k → K' k := by rw [← hK']; exact KX.in
  have hnew : K' w.heap.size := by rw [← hK']; exact .inr ⟨Nat.le_refl _, by simp⟩
  have H0 : Hid (PackSt K' u b c d s most f1 f2 (w.alloc o) r t1 t2 (w.alloc o)) := ⟨p, l, v, by rw [← hK']; exact h.newer hbel, UF.refl _ _, hl, hr, (h1.keep huf).more hin, (h2.keep huf).more hin⟩
  have HK : Hid ((∀ k, K k → K' k) ∧ UF K w (w.alloc o) ∧ K' w.heap.size) := ⟨hin, huf, hnew⟩
  have HB : Hid ((w.alloc o).heap[w.heap.size]? = some o) := heap_alloc_new w o
  obtain ⟨B, hB⟩ : ∃ B, w.heap.size = B := ⟨_, rfl⟩
  rw [hB] at HB HK
  have HO : Hid (Obj.cells #[Value.pointer (some ⟨t1, 0, none⟩), Value.pointer (some ⟨t2, 0, none⟩)] 49 = o) := ho
  clear h h1 h2 hr hl hK' hin hnew huf hbel
  go_enter Tryd.func43, Tryd.ntmps43
  go_wp2_with fail
  try rw [ho]
  obtain ⟨W0, hW0⟩ : ∃ W, w.alloc o = W := ⟨_, rfl⟩
  rw [hW0] at H0 HK HB ⊢
  clear hW0 hB ho
  go_loopw [4] (fun _ wr => Hid (PackSt K' u b c d s most f1 f2 W0 r t1 t2 wr)) (fun _ wr => 8 * s.size + 1 - placeOf wr b)
  case atStart => exact H0
  case round =>
    have HS := hrel
    clear hrel
    obtain ⟨p, l, V, hS, hF, hl, hr, hT1, hT2⟩ := HS.out
    have hp := hS.le
    have hblk : wr.heap[B]? = some (.cells #[.pointer (some ⟨t1, 0, none⟩), .pointer (some ⟨t2, 0, none⟩)] 49) := by rw [hF.block B HK.out.2.2, HB.out, HO.out]
    have q1 : wr.cell? ⟨B, 0, none⟩ = some (.pointer (some ⟨t1, 0, none⟩)) := by simp [World.cell?, hblk]
    have HSY := usym_ok wr K' u b s p l most V f1 f2 hS t1 c hT1
    have hus' := fun h => usym_ok' (ns := c) (s := s) (p := p) HC.out.1 h
    have HPL : Hid (placeOf wr b = p) := hS.rs.placeOf
    have hpl := HPL.out
    rw [show placeOf wr b = p from hpl]
    obtain ⟨⟨er, p1, y⟩, hu⟩ : ∃ r, usym c s p = r := ⟨_, rfl⟩
    rw [hu] at HSY hus'
    have HU : Hid (usym c s p = (er, p1, y)) := hu
    have HSY : Hid (∀ _ : Unit, Calls Tryd.prog 55 #[.pointer (some ⟨u, 0, none⟩), .pointer (some ⟨t1, 0, none⟩)] wr fun e w' => NumEnd K' u b s l most V f1 f2 wr (er, p1, y) e w') := fun _ => HSY
    have HR : Hid (packF c d s most (8 * s.size + 1 - p) p l = r ∧ p ≤ 8 * s.size) := ⟨hr, hp⟩
    have H1 : Hid (UF K' W0 wr ∧ l.length ≤ most ∧ TabK wr K' t1 c ∧ TabK wr K' t2 d) := ⟨hF, hl, hT1, hT2⟩
    have HBL : Hid (wr.heap[B]? = some (.cells #[.pointer (some ⟨t1, 0, none⟩), .pointer (some ⟨t2, 0, none⟩)] 49)) := hblk
    clear hS hF hl hr hT1 hT2 hp hu hblk HS H0 hpl HPL
    go_wp2_with fail
    refine (HSY.out ()).mono ?_
    rintro e w1 ⟨hf, ⟨hq, rfl⟩ | ⟨h0, rfl, hu1⟩⟩
    · have HF : Hid (UF K' wr w1 ∧ er ≠ 0) := ⟨hf, hq⟩
      clear hf hq HSY
      go_wp2
      exact ⟨rfl, StoredEnd.less HK.out.1 HK.out.2.1 (stored_bad (H1.out.1.trans HF.out.1) (by rw [← HR.out.1]; exact pack_bad HR.out.2 HU.out HF.out.2) HF.out.2)⟩
    · have h0 : er = 0 := h0
      subst h0
      obtain ⟨hy288, hpp, _⟩ := hus' rfl
      have hy288 : y < 288 := hy288
      have hpp : p < p1 := hpp
      have HF : Hid (UF K' wr w1 ∧ US w1 K' u b s p1 l most V f1 f2 ∧ p1 ≤ 8 * s.size) := ⟨hf, hu1, hu1.le⟩
      clear hf hu1 HSY hus'
      by_cases y1 : y < 256
      · have y1i : (y : Int) < 256 := by omega
        have HRO : Hid (∀ _ : Unit, Calls Tryd.prog 53 #[.pointer (some ⟨u, 0, none⟩), .int .i64 (1 : Nat)] w1 fun e w' => (l.length + 1 ≤ most ∧ e = .returned (.tuple #[]) ∨ most < l.length + 1 ∧ e = .panicked (gave 4)) ∧ ∃ k, w' = w1.drewN k) := fun _ => room_ok w1 K' u b s p1 l most V f1 f2 HF.out.2.1 1 hm H1.out.2.1 (by omega)
        go_wp2_with fail
        refine (HRO.out ()).mono ?_
        rintro e w2 ⟨⟨s4, rfl⟩ | ⟨s4, rfl⟩, k, rfl⟩
        · have H2 : Hid (US (w1.drewN k) K' u b s p1 l most V f1 f2 ∧ UF K' wr (w1.drewN k) ∧ l.length + 1 ≤ most) := ⟨HF.out.2.1.drewN k, HF.out.1.trans (UF.drewN _ _ k), s4⟩
          obtain ⟨w2, hw2⟩ : ∃ w2, w1.drewN k = w2 := ⟨_, rfl⟩
          rw [hw2] at H2 ⊢
          clear hw2 s4 HRO
          obtain ⟨ao, cp, hV⟩ := H2.out.1.form
          obtain ⟨Q, hQ⟩ : ∃ Q, l.length = Q := ⟨_, rfl⟩
          have HQ : Hid (l.length = Q ∧ V = .slice ao Q cp) := ⟨hQ, by rw [← hQ]; exact hV⟩
          have hQb : Q + 1 ≤ 1048576 := by have := H2.out.2.2; omega
          have c1 := H2.out.1.cells.2.1
          rw [HQ.out.2] at c1
          have HA : Hid (∀ o, US (w2.alloc o) K' u b s p1 l most (.slice ao Q cp) f1 f2) := fun o => by have := H2.out.1.alloc o; rw [HQ.out.2] at this; exact this
          have HO2 : Hid (∀ o, (w2.alloc o).ownsRow 0 5 1 (.slice ao Q cp) Q (bcells l)) := fun o => by have := (HA.out o).own; rw [HQ.out.1] at this; exact this
          obtain ⟨i0, hi0, hz0, hz1, hz2⟩ := info_parts infoB
          have HI : Hid (_ ∧ _ ∧ _ ∧ _) := ⟨hi0, hz0, hz1, hz2⟩
          have hy8 : IntKind.u8.wrap (y : Int) = (y : Int) := by rw [show IntKind.u8.wrap (y : Int) = (y : Int) % 256 from rfl]; omega
          clear hQ hV hi0 hz0 hz1 hz2
          go_wp2_with (at_builtin; refine wpList_append_lies _ rfl _ _ 33 rfl 0 5 i0 (.int .u8 0) 1 1 Tryd.underlying33 HI.out.1 HI.out.2.1 HI.out.2.2.1 HI.out.2.2.2 rfl (by decide) (.slice ao Q cp) Q (bcells l) rfl (HO2.out _) ⟨w2.heap.size, 0, none⟩ 1 1 [.int .u8 (y : Nat)] rfl rfl (newB w2 _ _) (oneB _) (by decide) ?c1 ?c2 (Nat.zero_le _) _ rfl ?_)
          case c1 => unfold maxLen; omega
          case c2 => omega
          intro g3 cap3 wc hown hgrow hat hgl
          obtain ⟨z1, z2, z3, z4⟩ := (HA.out (.cells #[.int .u8 (y : Nat)] 5)).grow1 HQ.out.1 hown hgrow hat (by simp)
          have HZ : Hid _ := (⟨z3, z4⟩ : _ ∧ _)
          clear z3 z4 hown hgrow hat hgl
          have HN : Hid (PackSt K' u b c d s most f1 f2 W0 r t1 t2 (wc.setCell ⟨u, 1, none⟩ (.slice (some ⟨g3, 0, none⟩) (Q + 1) cap3))) := by
            have hall : UF K' wr (wc.setCell ⟨u, 1, none⟩ (.slice (some ⟨g3, 0, none⟩) (Q + 1) cap3)) := H2.out.2.1.trans ((UF.below ((Below.refl _ _).alloc (Nat.le_refl _) _) H2.out.1.kb).trans HZ.out.2)
            refine ⟨p1, l ++ [y], _, HZ.out.1, H1.out.1.trans hall, by rw [List.length_append]; exact H2.out.2.2, ?_, H1.out.2.2.1.keep hall, H1.out.2.2.2.keep hall⟩
            rw [← HR.out.1]
            exact (pack_byte HR.out.2 HC.out.1 HC.out.2 HU.out y1 (by have := H2.out.2.2; omega)).symm
          have HPL : Hid (placeOf (wc.setCell ⟨u, 1, none⟩ (.slice (some ⟨g3, 0, none⟩) (Q + 1) cap3)) b = p1) := HZ.out.1.rs.placeOf
          clear c1
          go_wp2
          refine ⟨HN, ?_⟩
          rw [HPL.out]
          have := HF.out.2.2
          omega
        · clear HRO
          go_wp2
          exact ⟨rfl, StoredEnd.less HK.out.1 HK.out.2.1 (stored_bad (q := 4) (H1.out.1.trans (HF.out.1.trans (UF.drewN _ _ k))) (by rw [← HR.out.1]; exact pack_full HR.out.2 HU.out y1 s4) (by decide))⟩
      · have y1i : ¬ (y : Int) < 256 := by omega
        by_cases y2 : y = 256
        · subst y2
          go_wp2
          go_end0
          refine StoredEnd.less HK.out.1 HK.out.2.1 ⟨H1.out.1.trans HF.out.1, .inr ?_⟩
          rw [← HR.out.1, pack_end HR.out.2 HU.out]
          exact ⟨rfl, rfl, V, HF.out.2.1⟩
        · have y2i : ¬ (y : Int) = 256 := by omega
          have y2b : ((y : Int) == 256) = false := by simpa using y2i
          have HLN := ulen_ok w1 K' u b s p1 l most V f1 f2 HF.out.2.1 y (by omega) (by omega)
          have hnle := ulen_le (s := s) (p := p1) (y := y) (by omega)
          obtain ⟨⟨e2, p2, n⟩, hn⟩ : ∃ r, ulen s p1 y = r := ⟨_, rfl⟩
          rw [hn] at HLN hnle
          have hnle : n ≤ 400003 := hnle
          have HNN : Hid (ulen s p1 y = (e2, p2, n)) := hn
          have HLN : Hid (∀ _ : Unit, Calls Tryd.prog 56 #[.pointer (some ⟨u, 0, none⟩), .int .i64 y] w1 fun e w' => NumEnd K' u b s l most V f1 f2 w1 (e2, p2, n) e w') := fun _ => HLN
          clear hn
          go_wp2_with fail
          refine (HLN.out ()).mono ?_
          rintro e w2 ⟨hf, ⟨hq, rfl⟩ | ⟨h0, rfl, hu1⟩⟩
          · have HF2 : Hid (UF K' wr w2 ∧ e2 ≠ 0) := ⟨HF.out.1.trans hf, hq⟩
            clear hf hq HLN
            go_wp2
            exact ⟨rfl, StoredEnd.less HK.out.1 HK.out.2.1 (stored_bad (H1.out.1.trans HF2.out.1) (by rw [← HR.out.1]; exact pack_len HR.out.2 HU.out (by omega) HNN.out HF2.out.2) HF2.out.2)⟩
          · have h0 : e2 = 0 := h0
            subst h0
            have HF2 : Hid (UF K' wr w2 ∧ US w2 K' u b s p2 l most V f1 f2) := ⟨HF.out.1.trans hf, hu1⟩
            have q2 : w2.cell? ⟨B, 1, none⟩ = some (.pointer (some ⟨t2, 0, none⟩)) := by
              have : w2.heap[B]? = _ := (HF2.out.1.block B HK.out.2.2).trans HBL.out
              simp [World.cell?, this]
            have HDI := udist_ok w2 K' u b s p2 l most V f1 f2 hu1 t2 d (H1.out.2.2.2.keep HF2.out.1)
            have hdle := fun h => udist_pos (ns := d) (s := s) (p := p2) h
            obtain ⟨⟨e3, p3, x⟩, ht⟩ : ∃ r, udist d s p2 = r := ⟨_, rfl⟩
            rw [ht] at HDI hdle
            have HTT : Hid (udist d s p2 = (e3, p3, x)) := ht
            have HDI : Hid (∀ _ : Unit, Calls Tryd.prog 57 #[.pointer (some ⟨u, 0, none⟩), .pointer (some ⟨t2, 0, none⟩)] w2 fun e w' => NumEnd K' u b s l most V f1 f2 w2 (e3, p3, x) e w') := fun _ => HDI
            clear ht hf hu1 HLN
            go_wp2_with fail
            refine (HDI.out ()).mono ?_
            rintro e w3 ⟨hf, ⟨hq, rfl⟩ | ⟨h0, rfl, hu1⟩⟩
            · have HF3 : Hid (UF K' wr w3 ∧ e3 ≠ 0) := ⟨HF2.out.1.trans hf, hq⟩
              clear hf hq HDI hdle
              go_wp2
              exact ⟨rfl, StoredEnd.less HK.out.1 HK.out.2.1 (stored_bad (H1.out.1.trans HF3.out.1) (by rw [← HR.out.1]; exact pack_dist HR.out.2 HU.out (by omega) HNN.out HTT.out HF3.out.2) HF3.out.2)⟩
            · have h0 : e3 = 0 := h0
              subst h0
              obtain ⟨hx1, hx2⟩ := hdle rfl
              have hx1 : 1 ≤ x := hx1
              have hx2 : x ≤ 400003 := hx2
              have HF3 : Hid (UF K' wr w3 ∧ p3 ≤ 8 * s.size) := ⟨HF2.out.1.trans hf, hu1.le⟩
              have HRE := urep_ok w3 K' u b s p3 l most V f1 f2 hu1 hm H1.out.2.1 n x hnle hx1 hx2
              have hrl := fun h => repF_len (p := p3) (l := l) (most := most) (n := n) (d := x) h
              obtain ⟨⟨e4, p4, m⟩, hre⟩ : ∃ r, repF p3 l most n x = r := ⟨_, rfl⟩
              rw [hre] at HRE hrl
              have HRR : Hid (repF p3 l most n x = (e4, p4, m)) := hre
              have HRE : Hid (∀ _ : Unit, Calls Tryd.prog 58 #[.pointer (some ⟨u, 0, none⟩), .int .i64 n, .int .i64 x] w3 fun e w' => StoredEnd K' u b s most f1 f2 w3 (e4, p4, m) e w') := fun _ => HRE
              clear hre hf hu1 HDI hdle
              go_wp2_with fail
              refine (HRE.out ()).mono ?_
              rintro e w4 ⟨hf, ⟨hq, rfl⟩ | ⟨h0, rfl, v4, hu1⟩⟩
              · have HF4 : Hid (UF K' wr w4 ∧ e4 ≠ 0) := ⟨HF3.out.1.trans hf, hq⟩
                clear hf hq HRE hrl
                go_wp2
                exact ⟨rfl, StoredEnd.less HK.out.1 HK.out.2.1 (stored_bad (H1.out.1.trans HF4.out.1) (by rw [← HR.out.1]; exact pack_rep HR.out.2 HU.out (by omega) HNN.out HTT.out HRR.out HF4.out.2) HF4.out.2)⟩
              · have h0 : e4 = 0 := h0
                subst h0
                obtain ⟨hrl1, hrl2⟩ := hrl rfl
                have hrl2 : p4 = p3 := hrl2
                subst hrl2
                have HN : Hid (PackSt K' u b c d s most f1 f2 W0 r t1 t2 w4 ∧ placeOf w4 b = p4) := by
                  have hall : UF K' wr w4 := HF3.out.1.trans hf
                  refine ⟨⟨p4, m, v4, hu1, H1.out.1.trans hall, hrl1, ?_, H1.out.2.2.1.keep hall, H1.out.2.2.2.keep hall⟩, hu1.rs.placeOf⟩
                  rw [← HR.out.1]
                  exact (pack_copy HR.out.2 HC.out.1 HC.out.2 HU.out (by omega) HNN.out HTT.out HRR.out).symm
                have HMO : Hid (p < p4) := by
                  have a1 := ulen_mono (s := s) (p := p1) (y := y) (by rw [HNN.out])
                  have a2 := udist_mono (ns := d) (s := s) (p := p2) HC.out.2 (by rw [HTT.out])
                  rw [HNN.out] at a1
                  rw [HTT.out] at a2
                  have a1 : p1 ≤ p2 := a1.1
                  have a2 : p2 ≤ p4 := a2.1
                  show p < p4
                  omega
                clear hf hu1 HRE hrl1
                go_wp2
                refine ⟨HN.out.1, ?_⟩
                rw [HN.out.2]
                have := HF3.out.2
                have := HMO.out
                omega
end Go.Proofs.YtchjnfckcfikkaaDoor
