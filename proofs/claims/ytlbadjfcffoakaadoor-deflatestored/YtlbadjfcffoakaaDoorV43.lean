/- The document's reader: packed: its mathematics, and a reader that ended already. -/
/- The document's reader: stored: its mathematics. -/
/- The document's reader: stored. -/
import Derived.Test.YtlbadjfcffoakaaDoorV42
import Derived.Test.YtlbadjfcffoakaaDoorV29
namespace Go.Proofs.YtlbadjfcffoakaaDoor
open Go.RowKit
set_option linter.unusedVariables false
set_option maxRecDepth 20000

section
variable {c d : List Nat} {s : ByteArray} {most p : Nat} {l : List Nat} {p1 y p2 : Nat} {m : List Nat}
theorem copF_mono (hd : d.length ≤ 288) (h : copF d s most p1 y l = (0, p2, m)) : p1 ≤ p2 ∧ (p1 ≤ 8 * s.size → p2 ≤ 8 * s.size) ∧ m.length ≤ most := by
  unfold copF at h
  by_cases a1 : (ulen s p1 y).1 ≠ 0
  · rw [if_pos a1] at h; injection h with h1 h2; exact absurd h1 a1
  · rw [if_neg a1] at h
    have a1' : (ulen s p1 y).1 = 0 := by omega
    obtain ⟨b1, b2⟩ := ulen_mono a1'
    by_cases a2 : (udist d s (ulen s p1 y).2.1).1 ≠ 0
    · rw [if_pos a2] at h; injection h with h1 h2; exact absurd h1 a2
    · rw [if_neg a2] at h
      have a2' : (udist d s (ulen s p1 y).2.1).1 = 0 := by omega
      obtain ⟨c1, c2⟩ := udist_mono hd a2'
      by_cases a3 : (repF 0 l most (ulen s p1 y).2.2 (udist d s (ulen s p1 y).2.1).2.2).1 ≠ 0
      · rw [if_pos a3] at h; injection h with h1 h2; exact absurd h1 a3
      · rw [if_neg a3] at h
        have a3' : (repF 0 l most (ulen s p1 y).2.2 (udist d s (ulen s p1 y).2.1).2.2).1 = 0 := by omega
        have d1 := (repF_len a3').1
        injection h with h1 h2
        injection h2 with h2 h3
        rw [h2] at c1 c2
        rw [h3] at d1
        exact ⟨Nat.le_trans b1 c1, fun hp => c2 (b2 hp), d1⟩
theorem pack_round (hp : p ≤ 8 * s.size) (hu : usym c s p = (0, p1, y)) (hy : 256 < y) : packF c d s most (8 * s.size + 1 - p) p l = if (copF d s most p1 y l).1 ≠ 0 then ((copF d s most p1 y l).1, p, l) else packF c d s most (8 * s.size - p) (copF d s most p1 y l).2.1 (copF d s most p1 y l).2.2 := by
  rw [show 8 * s.size + 1 - p = (8 * s.size - p) + 1 by omega]
  rw [packF.eq_def]
  simp only [hu]
  rw [if_neg (by simp), if_neg (by omega), if_neg (by omega)]
  unfold copF
  by_cases a1 : (ulen s p1 y).1 ≠ 0
  · simp only [if_pos a1]
  · simp only [if_neg a1]
    by_cases a2 : (udist d s (ulen s p1 y).2.1).1 ≠ 0
    · simp only [if_pos a2]
    · simp only [if_neg a2]
      by_cases a3 : (repF 0 l most (ulen s p1 y).2.2 (udist d s (ulen s p1 y).2.1).2.2).1 ≠ 0
      · simp only [if_pos a3]
      · simp only [if_neg a3]
        rw [if_neg (by simp)]
theorem pack_cop_bad (hp : p ≤ 8 * s.size) (hu : usym c s p = (0, p1, y)) (hy : 256 < y) (h : (copF d s most p1 y l).1 ≠ 0) : packF c d s most (8 * s.size + 1 - p) p l = ((copF d s most p1 y l).1, p, l) := by
  rw [pack_round hp hu hy, if_pos h]
theorem pack_cop (hp : p ≤ 8 * s.size) (hc : c.length ≤ 288) (hd : d.length ≤ 288) (hu : usym c s p = (0, p1, y)) (hy : 256 < y) (h : copF d s most p1 y l = (0, p2, m)) : packF c d s most (8 * s.size + 1 - p) p l = packF c d s most (8 * s.size + 1 - p2) p2 m := by
  have hq := usym_ok' hc (by rw [hu] : (usym c s p).1 = 0)
  rw [hu] at hq
  have h1 : p < p1 := hq.2.1
  have h2 : p1 ≤ 8 * s.size := hq.2.2 hp
  obtain ⟨b1, b2, _⟩ := copF_mono hd h
  have b2 := b2 h2
  rw [pack_round hp hu hy, h, if_neg (by simp)]
  exact packF_fuel c d s most hc hd _ _ p2 m b2 (by omega) (by omega)
end
variable {w w' : World} {K : Nat → Prop} {r : Nat} {s : ByteArray} {p : Nat} {l : List Nat} {most e : Nat} {v : Value}
set_option maxRecDepth 20000 in
set_option maxHeartbeats 1000000 in
theorem rpacked_dead (h : RR w K r s p l most e v) (he : e ≠ 0) (a1 a2 b1 b2 : Value) :
    Calls Tryd.prog 16 #[.pointer (some ⟨r, 0, none⟩), .agg #[a1, a2], .agg #[b1, b2]] w fun en w' => RDone K r s most w (e, p, l) en w' := by
  have g := (h.alloc (.cells #[a1, a2] 43)).alloc (.cells #[b1, b2] 43)
  have gu := (h.uf_alloc (.cells #[a1, a2] 43)).trans ((h.alloc (.cells #[a1, a2] 43)).uf_alloc (.cells #[b1, b2] 43))
  have c4 := g.cells.2.2.2.2
  obtain ⟨W0, hW0⟩ : ∃ W0, (w.alloc (.cells #[a1, a2] 43)).alloc (.cells #[b1, b2] 43) = W0 := ⟨_, rfl⟩
  rw [hW0] at g gu c4
  have H : Hid (RR W0 K r s p l most e v ∧ UF K w W0) := ⟨g, gu⟩
  have hei : ¬ (e : Int) = 0 := by omega
  have heb : ((e : Int) == 0) = false := by simpa using he
  have HE : Hid (e ≠ 0) := he
  clear g gu h he
  go_enter Tryd.func16, Tryd.ntmps16
  go_wp2_with fail
  try rw [hW0]
  clear hW0
  go_loopw [6] (fun _ wr => wr = W0) (fun _ _ => 0)
  case atStart => rfl
  case round =>
    obtain rfl := hrel
    go_wp2
    go_end0
    exact ⟨rfl, H.out.2, p, l, v, H.out.1, fun h => absurd h HE.out⟩
def rAt (w : World) (r : Nat) : Nat := match w.cell? ⟨r, 1, none⟩ with | some v => (intOf v).toNat | none => 0
def rErr (w : World) (r : Nat) : Nat := match w.cell? ⟨r, 4, none⟩ with | some v => (intOf v).toNat | none => 0
theorem RR.at_ (h : RR w K r s p l most e v) : rAt w r = p := by unfold rAt; rw [h.cells.2.1]; simp [intOf]
theorem RR.err_ (h : RR w K r s p l most e v) : rErr w r = e := by unfold rErr; rw [h.cells.2.2.2.2]; simp [intOf]
def rMu (s : ByteArray) (r : Nat) (w : World) : Nat := if rErr w r = 0 then 8 * s.size + 1 - rAt w r else 0
theorem RR.mu (h : RR w K r s p l most e v) : rMu s r w = if e = 0 then 8 * s.size + 1 - p else 0 := by unfold rMu; rw [h.at_, h.err_]
def PSt (K : Nat → Prop) (r : Nat) (c d : List Nat) (s : ByteArray) (most : Nat) (x : Nat × Nat × List Nat) (w0 w : World) : Prop :=
  ∃ p l e v, RR w K r s p l most e v ∧ UF K w0 w ∧ (e = 0 → l.length ≤ most) ∧ (e = 0 → packF c d s most (8 * s.size + 1 - p) p l = x) ∧ (e ≠ 0 → x.1 = e)
set_option maxRecDepth 20000 in
set_option maxHeartbeats 4000000 in
theorem rpacked_ok (h : RR w K r s p l most 0 v) (cv dv : Value) (c d : List Nat) (hc : CodeAt w K cv c) (hd : CodeAt w K dv d) (hz : zer c c.length = false) (hm : most ≤ 1048576) (hl : l.length ≤ most) :
    Calls Tryd.prog 16 #[.pointer (some ⟨r, 0, none⟩), cv, dv] w fun en w' => RDone K r s most w (packF c d s most (8 * s.size + 1 - p) p l) en w' := by
  obtain ⟨x, hx⟩ : ∃ x, packF c d s most (8 * s.size + 1 - p) p l = x := ⟨_, rfl⟩
  rw [hx]
  have hc0 := hc
  have hd0 := hd
  obtain ⟨a1, a2, a3, a4, hcv, _, _, _, _, hcn, hc15, _⟩ := hc0
  obtain ⟨b1, b2, b3, b4, hdv, _, _, _, _, hdn, _⟩ := hd0
  obtain ⟨N, hN⟩ : ∃ N, c.length = N := ⟨_, rfl⟩
  obtain ⟨M, hM⟩ : ∃ M, d.length = M := ⟨_, rfl⟩
  rw [hN] at hcv
  rw [hM] at hdv
  subst hcv
  subst hdv
  have g := (h.plus (.cells #[.slice a1 N a2, .slice a3 N a4] 43)).plus (.cells #[.slice b1 M b2, .slice b3 M b4] 43)
  have gu := (h.uf_alloc (.cells #[.slice a1 N a2, .slice a3 N a4] 43)).trans ((h.alloc (.cells #[.slice a1 N a2, .slice a3 N a4] 43)).uf_alloc (.cells #[.slice b1 M b2, .slice b3 M b4] 43))
  have e1 : (w.alloc (.cells #[.slice a1 N a2, .slice a3 N a4] 43)).heap.size = w.heap.size + 1 := by simp
  have n2 : ((w.alloc (.cells #[.slice a1 N a2, .slice a3 N a4] 43)).alloc (.cells #[.slice b1 M b2, .slice b3 M b4] 43)).heap[w.heap.size + 1]? = some (.cells #[.slice b1 M b2, .slice b3 M b4] 43) := by rw [← e1]; exact heap_alloc_new _ _
  have n1 : ((w.alloc (.cells #[.slice a1 N a2, .slice a3 N a4] 43)).alloc (.cells #[.slice b1 M b2, .slice b3 M b4] 43)).heap[w.heap.size]? = some (.cells #[.slice a1 N a2, .slice a3 N a4] 43) := by
    rw [heap_alloc_old _ _ (by rw [e1]; omega)]; exact heap_alloc_new _ _
  rw [e1] at g
  obtain ⟨K', hK'⟩ : ∃ K' : Nat → Prop, (fun k => (K k ∨ k = w.heap.size) ∨ k = w.heap.size + 1) = K' := ⟨_, rfl⟩
  rw [hK'] at g
  have HK : Hid (∀ k, K k → K' k) := fun k hk => by rw [← hK']; exact .inl (.inl hk)
  have hk1 : K' w.heap.size := by rw [← hK']; exact .inl (.inr rfl)
  have hk2 : K' (w.heap.size + 1) := by rw [← hK']; exact .inr rfl
  have hc1 := (hc.uf gu).more HK.out
  have hd1 := (hd.uf gu).more HK.out
  obtain ⟨W0, hW0⟩ : ∃ W0, (w.alloc (.cells #[.slice a1 N a2, .slice a3 N a4] 43)).alloc (.cells #[.slice b1 M b2, .slice b3 M b4] 43) = W0 := ⟨_, rfl⟩
  rw [hW0] at g gu n1 n2 hc1 hd1
  have HU0 : Hid (UF K w W0) := gu
  have H0 : Hid (PSt K' r c d s most x W0 W0) := ⟨p, l, 0, v, g, UF.refl _ _, fun _ => hl, fun _ => hx, fun h => absurd rfl h⟩
  have HH : Hid (∀ wc, UF K' W0 wc → CodeAt wc K' (.agg #[.slice a1 N a2, .slice a3 N a4]) c ∧ CodeAt wc K' (.agg #[.slice b1 M b2, .slice b3 M b4]) d ∧ wc.cell? ⟨w.heap.size, 0, none⟩ = some (.slice a1 N a2) ∧ wc.cell? ⟨w.heap.size, 1, none⟩ = some (.slice a3 N a4) ∧ wc.cell? ⟨w.heap.size + 1, 0, none⟩ = some (.slice b1 M b2) ∧ wc.cell? ⟨w.heap.size + 1, 1, none⟩ = some (.slice b3 M b4)) := fun wc hf => by
    have f1 := (hf.block _ hk1).trans n1
    have f2 := (hf.block _ hk2).trans n2
    exact ⟨hc1.uf hf, hd1.uf hf, by simp [World.cell?, f1], by simp [World.cell?, f1], by simp [World.cell?, f2], by simp [World.cell?, f2]⟩
  have HP : Hid (zer c c.length = false ∧ (∀ i, c.getD i 0 ≤ 15) ∧ c.length ≤ 288 ∧ d.length ≤ 288) := ⟨hz, hc15, hcn, hdn⟩
  clear h hc hd hz hl hx hcn hc15 hdn hN hM g gu e1 n1 n2 hK' hk1 hk2 hc1 hd1
  go_enter Tryd.func16, Tryd.ntmps16
  go_wp2_with fail
  try rw [hW0]
  clear hW0
  go_loopw [6] (fun _ wr => Hid (PSt K' r c d s most x W0 wr)) (fun _ wr => rMu s r wr)
  case atStart => exact H0
  case round =>
    obtain ⟨p', l', e', v', hR, hU, hl', hx0, hx1⟩ := hrel.out
    obtain ⟨g0, g1, g2, g3, g4⟩ := hR.cells
    by_cases he : e' = 0
    · subst he
      have hmu := hR.mu
      rw [if_pos rfl] at hmu
      have HMU : Hid (rMu s r wr = 8 * s.size + 1 - p') := hmu
      clear hmu
      obtain ⟨hCA, hDA, k1, k2, k3, k4⟩ := HH.out wr hU
      have HSY := rsymbol_ok hR _ c hCA
      rw [rsF_usym HP.out.2.1 HP.out.1] at HSY
      obtain ⟨⟨e3, p3, k⟩, hus⟩ : ∃ z, usym c s p' = z := ⟨_, rfl⟩
      rw [hus] at HSY
      have HSYM : Hid (∀ _ : Unit, Calls Tryd.prog 31 #[.pointer (some ⟨r, 0, none⟩), .agg #[.slice a1 N a2, .slice a3 N a4]] wr fun en w' => en = .returned (.int .i64 (k : Nat)) ∧ RR w' K' r s p3 l' most e3 v' ∧ UF K' wr w') := fun _ => HSY
      have HR : Hid (p' ≤ 8 * s.size ∧ l'.length ≤ most ∧ UF K' W0 wr ∧ packF c d s most (8 * s.size + 1 - p') p' l' = x ∧ usym c s p' = (e3, p3, k)) := ⟨hR.le, hl' rfl, hU, hx0 rfl, hus⟩
      clear hCA hDA HSY hus hR hU hl' hx0 hx1
      go_wp2_with fail
      refine (HSYM.out ()).mono ?_
      rintro en wE ⟨rfl, hrE, huE⟩
      have HE : Hid (RR wE K' r s p3 l' most e3 v' ∧ UF K' W0 wE) := ⟨hrE, HR.out.2.2.1.trans huE⟩
      clear hrE huE
      clear g0 g1 g2 g3 g4 k1 k2 k3 k4
      obtain ⟨g0, g1, g2, g3, g4⟩ := HE.out.1.cells
      by_cases h3 : e3 = 0
      · subst h3
        have hk288 : k < 288 ∧ p' < p3 := by
          have := usym_ok' HP.out.2.2.1 (by rw [HR.out.2.2.2.2] : (usym c s p').1 = 0)
          rw [HR.out.2.2.2.2] at this
          exact ⟨this.1, this.2.1⟩
        obtain ⟨hk288, hpp⟩ := hk288
        by_cases h256 : k = 256
        · have h256b : ((k : Int) == 256) = true := by simp; omega
          have HX2 : Hid (x = (0, p3, l')) := by
            show x = _
            rw [← HR.out.2.2.2.1]
            exact pack_end HR.out.1 (by rw [HR.out.2.2.2.2, h256])
          clear h256
          go_wp2
          go_end0
          exact ⟨rfl, HU0.out.trans (HE.out.2.less HK.out), p3, l', v', by rw [HX2.out]; exact HE.out.1.less HK.out, fun _ => by rw [HX2.out]; exact ⟨rfl, rfl⟩⟩
        · have h256b : ((k : Int) == 256) = false := by simp; omega
          by_cases hgt : 256 < k
          · have hgti : (256 : Int) < (k : Int) := by omega
            obtain ⟨hCA, hDA, k1, k2, k3, k4⟩ := HH.out wE HE.out.2
            have HCO : Hid (∀ _ : Unit, Calls Tryd.prog 32 #[.pointer (some ⟨r, 0, none⟩), .int .i64 (k : Nat), .agg #[.slice b1 M b2, .slice b3 M b4]] wE fun en w' => RDone K' r s most wE (copF d s most p3 k l') en w') := fun _ => rcopies_ok HE.out.1 k hgt hk288 _ d hDA hm HR.out.2.1
            clear hCA hDA h256
            go_wp2_with fail
            refine (HCO.out ()).mono ?_
            rintro en wF ⟨rfl, huF, p4, l4, v4, hr4, h4⟩
            have hle := hr4.le
            have HN : Hid (PSt K' r c d s most x W0 wF ∧ rMu s r wF < 8 * s.size + 1 - p') := by
              obtain ⟨⟨er, q, m⟩, hco⟩ : ∃ z, copF d s most p3 k l' = z := ⟨_, rfl⟩
              rw [hco] at hr4 h4
              have hr4 : RR wF K' r s p4 l4 most er v4 := hr4
              by_cases her : er = 0
              · subst her
                obtain ⟨rfl, rfl⟩ := h4 rfl
                obtain ⟨m1, m2, m3⟩ := copF_mono HP.out.2.2.2 hco
                refine ⟨⟨p4, l4, 0, v4, hr4, HE.out.2.trans huF, fun _ => m3, fun _ => ?_, fun h => absurd rfl h⟩, ?_⟩
                · rw [← HR.out.2.2.2.1]
                  exact (pack_cop HR.out.1 HP.out.2.2.1 HP.out.2.2.2 HR.out.2.2.2.2 hgt hco).symm
                · rw [hr4.mu, if_pos rfl]
                  have := hr4.le
                  show 8 * s.size + 1 - p4 < 8 * s.size + 1 - p'
                  have h9 : p4 ≤ 8 * s.size := this
                  omega
              · have hb := pack_cop_bad (c := c) (d := d) (most := most) (l := l') HR.out.1 HR.out.2.2.2.2 hgt (by rw [hco]; exact her)
                rw [HR.out.2.2.2.1, hco] at hb
                refine ⟨⟨p4, l4, er, v4, hr4, HE.out.2.trans huF, fun h => absurd h her, fun h => absurd h her, fun _ => by rw [hb]⟩, ?_⟩
                rw [hr4.mu, if_neg her]
                have := HR.out.1
                omega
            clear hr4 h4 huF
            go_wp2
            exact ⟨HN.out.1, by rw [HMU.out]; exact HN.out.2⟩
          · have hgti : ¬ (256 : Int) < (k : Int) := by omega
            have hk256 : k < 256 := by omega
            obtain ⟨ao, cp, hv⟩ := HE.out.1.form
            obtain ⟨L, hL⟩ : ∃ L, l'.length = L := ⟨_, rfl⟩
            rw [hL] at hv
            subst hv
            have HL : Hid (l'.length = L) := hL
            have hLm : L ≤ most := by rw [← hL]; exact HR.out.2.1
            have hku : IntKind.u8.wrap (k : Int) = (k : Nat) := by rw [IntKind.wrap_u8]; omega
            have fz := HE.out.1.free 4 (by omega)
            have fz3 := HE.out.1.free 3 (by omega)
            clear hL h256 hgt
            by_cases hfull : L = most
            · have hfb : ((L : Int) == (most : Int)) = true := by simp; omega
              have HX2 : Hid (x.1 = 4) := by
                show x.1 = 4
                rw [← HR.out.2.2.2.1, pack_full HR.out.1 HR.out.2.2.2.2 hk256 (by rw [HL.out]; omega)]
              clear hfull
              go_wp2_with fail
              go_region
              all_goals
                go_wp2
                go_end0
                exact ⟨rfl, HU0.out.trans ((HE.out.2.trans ((HE.out.1.uf_set 4 (.int .i64 ((4 : Nat) : Int))).trans (UF.drewN _ _ 1))).less HK.out), p3, l', _, by rw [HX2.out]; exact ((HE.out.1.setE 4).drewN 1).less HK.out, fun h => absurd (HX2.out.symm.trans h) (by decide)⟩
            · have hfb : ((L : Int) == (most : Int)) = false := by simp; omega
              have hfi : ¬ (L : Int) = (most : Int) := by omega
              go_wp2_with fail
              go_region
              all_goals
                obtain ⟨wG, hwG⟩ : ∃ wG, wE.drew = wG := ⟨_, rfl⟩
                have HSS : Hid (RR wG K' r s p3 l' most 0 (.slice ao L cp) ∧ UF K' W0 wG) := by rw [← hwG]; exact ⟨HE.out.1.drewN 1, HE.out.2.trans (UF.drewN _ _ 1)⟩
                rw [hwG]
                clear hwG g0 g1 g2 g3 g4 fz fz3 hfb hfi
                have d1 := HSS.out.1.cells.2.2.2.1
                have d2 := HSS.out.1.free 3 (by omega)
                obtain ⟨i0, hi0, hz0, hz1, hz2⟩ := info_parts infoB
                have HI : Hid (_ ∧ _ ∧ _ ∧ _) := ⟨hi0, hz0, hz1, hz2⟩
                have HA : Hid (∀ o, RR (wG.alloc o) K' r s p3 l' most 0 (.slice ao L cp)) := fun o => HSS.out.1.alloc o
                have HO : Hid (∀ o, (wG.alloc o).ownsRow 0 5 1 (.slice ao L cp) L (bcells l')) := fun o => by have := (HA.out o).own; rw [HL.out] at this; exact this
                have e1 : (wG.alloc (.cells #[.int .u8 (k : Nat)] 5)).cell? ⟨r, 3, none⟩ = some (.slice ao L cp) := (HA.out _).cells.2.2.2.1
                have e2 : (wG.alloc (.cells #[.int .u8 (k : Nat)] 5)).frozen? ⟨r, 3, none⟩ = false := (HA.out _).free 3 (by omega)
                clear hi0 hz0 hz1 hz2
                have hLb : L + 1 ≤ 1048577 := by omega
                go_wp2_with (at_builtin; refine wpList_append_lies _ rfl _ _ 23 rfl 0 5 i0 (.int .u8 0) 1 1 Tryd.underlying23 HI.out.1 HI.out.2.1 HI.out.2.2.1 HI.out.2.2.2 rfl (by decide) (.slice ao L cp) L (bcells l') rfl (HO.out _) ⟨wG.heap.size, 0, none⟩ 1 1 [.int .u8 (k : Nat)] rfl rfl (newB wG _ _) (oneB _) (by decide) (by unfold maxLen; omega) (by omega) (Nat.zero_le _) _ rfl ?_; intro g3 cap3 wc hown hgrow hat hgl; obtain ⟨z1, z2, z3, z4⟩ := (HA.out (.cells #[.int .u8 (k : Nat)] 5)).grow1 HL.out hown hgrow hat rfl; have HZ : Hid _ := (⟨z3, z4⟩ : _ ∧ _); clear z3 z4 hown hgrow hat hgl)
                refine ⟨⟨p3, l' ++ [k], 0, _, HZ.out.1, (HSS.out.2.trans (HSS.out.1.uf_alloc _)).trans HZ.out.2, fun _ => ?_, fun _ => ?_, fun h => absurd rfl h⟩, ?_⟩
                · rw [List.length_append, HL.out]; show L + 1 ≤ most; omega
                · rw [← HR.out.2.2.2.1]
                  exact (pack_byte HR.out.1 HP.out.2.2.1 HP.out.2.2.2 HR.out.2.2.2.2 hk256 (by rw [HL.out]; omega)).symm
                · rw [HMU.out, HZ.out.1.mu, if_pos rfl]
                  have := HZ.out.1.le
                  omega
      · have heb : ((e3 : Int) != 0) = true := by simp; omega
        have hei : ¬ (e3 : Int) = 0 := by omega
        have HX2 : Hid (x = (e3, p', l') ∧ e3 ≠ 0) := ⟨by rw [← HR.out.2.2.2.1]; exact pack_bad HR.out.1 HR.out.2.2.2.2 h3, h3⟩
        clear h3
        go_wp2
        go_end0
        exact ⟨rfl, HU0.out.trans (HE.out.2.less HK.out), p3, l', v', by rw [HX2.out.1]; exact HE.out.1.less HK.out, fun h => absurd (by rw [HX2.out.1] at h; exact h) HX2.out.2⟩
    · have HE : Hid (x.1 = e') := hx1 he
      have hei : ¬ (e' : Int) = 0 := by omega
      have heb : ((e' : Int) == 0) = false := by simpa using he
      have HR : Hid (RR wr K' r s p' l' most e' v' ∧ UF K' W0 wr ∧ e' ≠ 0) := ⟨hR, hU, he⟩
      clear hR hU hl' hx0 hx1 he
      go_wp2
      go_end0
      exact ⟨rfl, HU0.out.trans (HR.out.2.1.less HK.out), p', l', v', by rw [HE.out]; exact HR.out.1.less HK.out, fun h => absurd (HE.out.symm.trans h) HR.out.2.2⟩
end Go.Proofs.YtlbadjfcffoakaaDoor
namespace Go.Proofs.YtlbadjfcffoakaaDoor
open Go.RowKit
set_option linter.unusedVariables false
set_option maxRecDepth 20000

theorem xor_ones (n : Nat) (h : n < 65536) : n ^^^ 65535 = 65535 - n := by
  apply Nat.eq_of_testBit_eq
  intro i
  rw [Nat.testBit_xor, show (65535 : Nat) = 2 ^ 16 - 1 from rfl, Nat.testBit_two_pow_sub_one, show 2 ^ 16 - 1 - n = 2 ^ 16 - (n + 1) by omega, Nat.testBit_two_pow_sub_succ (by omega)]
  by_cases hi : i < 16
  · simp [hi]
  · have hb : n.testBit i = false := Nat.testBit_lt_two_pow (Nat.lt_of_lt_of_le (show n < 2 ^ 16 from h) (Nat.pow_le_pow_right (by decide) (by omega)))
    simp [hi, hb]
theorem xor_not (n m : Nat) (hn : n < 65536) (hm : m < 65536) : n ^^^ m = 65535 ↔ m = 65535 - n := by
  rw [← xor_ones n hn]
  constructor
  · intro h; rw [← h, ← Nat.xor_assoc, Nat.xor_self, Nat.zero_xor]
  · intro h; rw [h, ← Nat.xor_assoc, Nat.xor_self, Nat.zero_xor]
end Go.Proofs.YtlbadjfcffoakaaDoor
namespace Go.Proofs.YtlbadjfcffoakaaDoor
open Go.RowKit
set_option linter.unusedVariables false
set_option maxRecDepth 20000

variable {w w' : World} {K : Nat → Prop} {r : Nat} {s : ByteArray} {p : Nat} {l : List Nat} {most e : Nat} {v : Value}
theorem ext_snoc (s : ByteArray) (a i : Nat) (h : a + i < s.size) : (s.extract a (a + (i + 1))).data.toList.map UInt8.toNat = (s.extract a (a + i)).data.toList.map UInt8.toNat ++ [byteAt s (a + i)] := by
  have e : ∀ j, (s.extract a (a + j)).data.toList = (s.data.toList.drop a).take j := fun j => by
    simp [ByteArray.data_extract, Array.toList_extract, List.extract]
  have hl : a + i < s.data.toList.length := by simpa using h
  rw [e, e, List.take_add_one, List.map_append]
  congr 1
  rw [List.getElem?_drop, List.getElem?_eq_getElem hl]
  simp [byteAt, List.getD_eq_getElem?_getD, List.getElem?_eq_getElem hl]
def SSt (K : Nat → Prop) (r : Nat) (s : ByteArray) (most : Nat) (x : Nat × Nat × List Nat) (l : List Nat) (q i : Nat) (w0 w : World) : Prop :=
  ∃ p e l' v, RR w K r s p l' most e v ∧ UF K w0 w ∧ l'.length ≤ l.length + i ∧ (e = 0 → p = q + 32 + 8 * i ∧ l' = l ++ (s.extract ((q + 32) / 8) ((q + 32) / 8 + i)).data.toList.map UInt8.toNat) ∧ (e ≠ 0 → x.1 = e)
theorem rbF_lt : (rbF s p e 16).2.2 < 65536 := by
  unfold rbF
  split
  · show 0 < 65536; omega
  · split
    · show 0 < 65536; omega
    · exact num_lt s p 16
set_option maxRecDepth 20000 in
set_option maxHeartbeats 2000000 in
theorem rstored_ok (h : RR w K r s p l most 0 v) (hm : most ≤ 1048576) (hl : l.length ≤ most) :
    Calls Tryd.prog 14 #[.pointer (some ⟨r, 0, none⟩)] w fun en w' => RDone K r s most w (storedF s p l most) en w' := by
  obtain ⟨x, hx⟩ : ∃ x, storedF s p l most = x := ⟨_, rfl⟩
  rw [hx]
  have HX : Hid (storedF s p l most = x) := hx
  have H : Hid (RR w K r s p l most 0 v) := h
  have hle := h.le
  have hsm := h.small
  obtain ⟨c0, c1, c2, c3, c4⟩ := h.cells
  have f1 := h.free 1 (by omega)
  obtain ⟨q, hq⟩ : ∃ q, (p + 7) / 8 * 8 = q := ⟨_, rfl⟩
  have hqle : q ≤ 8 * s.size := by omega
  have hqi : ((p : Int) + 7) / 8 * 8 = (q : Nat) := by omega
  have HQ : Hid ((p + 7) / 8 * 8 = q) := hq
  have HAL : Hid (∀ W, Calls Tryd.prog 19 #[.int .i64 (p : Nat)] W fun e w' => e = .returned (.int .i64 (q : Nat)) ∧ w' = W) := fun W => by
    have := refAligned (p : Int) W (by omega) (by omega)
    rw [hqi] at this; exact this
  clear h hx hq hqi
  go_enter Tryd.func14, Tryd.ntmps14
  go_wp2_with (first | (go_at_call 19; refine (HAL.out _).mono ?_; rintro e w1 ⟨rfl, hw⟩; obtain rfl := hw.symm))
  have H1 : Hid (RR (w.setCell ⟨r, 1, none⟩ (.int .i64 (q : Nat))) K r s q l most 0 v ∧ UF K w (w.setCell ⟨r, 1, none⟩ (.int .i64 (q : Nat)))) := ⟨H.out.setAt q hqle, H.out.uf_set 1 _⟩
  obtain ⟨wA, hwA⟩ : ∃ wA, w.setCell ⟨r, 1, none⟩ (.int .i64 (q : Nat)) = wA := ⟨_, rfl⟩
  rw [hwA] at H1 ⊢
  clear hwA c0 c1 c2 c3 c4 f1 HAL
  have hn1 : (rbF s q 0 16).2.2 < 65536 := rbF_lt
  obtain ⟨⟨e1, p1, n⟩, hb1⟩ : ∃ z, rbF s q 0 16 = z := ⟨_, rfl⟩
  have HB1 := rbits_ok H1.out.1 16 (by decide)
  rw [hb1] at HB1 hn1
  have hn : n < 65536 := hn1
  refine HB1.mono ?_
  rintro en wB ⟨rfl, hrB, huB⟩
  have H2 : Hid (RR wB K r s p1 l most e1 v ∧ UF K w wB) := ⟨hrB, H1.out.2.trans huB⟩
  have HB2 := rbits_ok hrB 16 (by decide)
  have hm1 : (rbF s p1 e1 16).2.2 < 65536 := rbF_lt
  obtain ⟨⟨e2, p2, m⟩, hb2⟩ : ∃ z, rbF s p1 e1 16 = z := ⟨_, rfl⟩
  rw [hb2] at HB2 hm1
  have hmm : m < 65536 := hm1
  have HBB : Hid (rbF s q 0 16 = (e1, p1, n) ∧ rbF s p1 e1 16 = (e2, p2, m)) := ⟨hb1, hb2⟩
  have HBC : Hid (∀ _ : Unit, Calls Tryd.prog 13 #[.pointer (some ⟨r, 0, none⟩), .int .i64 16] wB fun en w' => en = .returned (.int .i64 (m : Nat)) ∧ RR w' K r s p2 l most e2 v ∧ UF K wB w') := fun _ => HB2
  clear hrB huB HB1 HB2 hb1 hb2 hn1 hm1
  go_wp2_with fail
  refine (HBC.out ()).mono ?_
  rintro en wC ⟨rfl, hrC, huC⟩
  have HS : Hid (CSt K r s l most v x.1 w wC p2 e2 (p2 = q + 32 ∧ n = num s q 16 ∧ m = num s (q + 16) 16 ∧ q + 32 ≤ 8 * s.size)) := by
    obtain ⟨hb1, hb2⟩ := HBB.out
    refine ⟨hrC, H2.out.2.trans huC, ?_, ?_⟩
    · intro h2
      rw [← HX.out]
      unfold storedF
      simp only [HQ.out]
      unfold rbF at hb1
      rw [if_neg (by simp)] at hb1
      by_cases a1 : 8 * s.size < q + 16
      · rw [if_pos a1] at hb1; cases hb1
        rw [rbF_dead (by decide)] at hb2; cases hb2
        rw [if_pos a1]
      · rw [if_neg a1] at hb1; cases hb1
        unfold rbF at hb2
        rw [if_neg (by simp)] at hb2
        by_cases a2 : 8 * s.size < q + 16 + 16
        · rw [if_pos a2] at hb2; cases hb2
          rw [if_neg a1, if_pos (by omega)]
        · rw [if_neg a2] at hb2; cases hb2; exact absurd rfl h2
    · intro h2
      unfold rbF at hb1
      rw [if_neg (by simp)] at hb1
      by_cases a1 : 8 * s.size < q + 16
      · rw [if_pos a1] at hb1; cases hb1
        rw [rbF_dead (by decide)] at hb2; cases hb2; exact absurd h2 (by decide)
      · rw [if_neg a1] at hb1; cases hb1
        unfold rbF at hb2
        rw [if_neg (by simp)] at hb2
        by_cases a2 : 8 * s.size < q + 16 + 16
        · rw [if_pos a2] at hb2; cases hb2; exact absurd h2 (by decide)
        · rw [if_neg a2] at hb2; cases hb2
          exact ⟨by omega, rfl, rfl, by omega⟩
  clear hrC huC H1 H2 HBC HBB
  obtain ⟨z, hz⟩ : ∃ z, 65535 - n = z := ⟨_, rfl⟩
  have hzi : (65535 : Int) - (n : Int) = (z : Nat) := by omega
  obtain ⟨ao, cp, hv⟩ := HS.out.1.form
  obtain ⟨L, hL⟩ : ∃ L, l.length = L := ⟨_, rfl⟩
  rw [hL] at hv
  have HL : Hid (l.length = L) := hL
  have hLm : L ≤ 1048576 := by omega
  have HVV : Hid (v = .slice ao L cp) := hv
  have HLL : Hid (l.length ≤ most) := hl
  have HZ : Hid (65535 - n = z ∧ n < 65536 ∧ m < 65536) := ⟨hz, hn, hmm⟩
  clear hL hl hv hz
  obtain ⟨g0, g1, g2, g3, g4⟩ := HS.out.1.cells
  have fz := HS.out.1.free 4 (by omega)
  obtain ⟨t1, ht1⟩ : ∃ t1, decide (e2 = 0 ∧ m ≠ z) = t1 := ⟨_, rfl⟩
  have HT1 : Hid (decide (e2 = 0 ∧ m ≠ z) = t1) := ht1
  clear ht1
  go_upto_region 3 with fail
  go_cut [27] (fun v27 wd => v27 = .bool t1 ∧ wd = wC)
  case first =>
    as_aux_lemma =>
      by_cases he : e2 = 0
      · subst he
        by_cases hmz : m = z
        · have HB : Hid (t1 = false) := by show t1 = false; rw [← HT1.out]; simp [hmz]
          have hb : ((m : Int) != (z : Int)) = false := by simp; omega
          clear hmz
          go_wp2_with fail
          go_meet
          case rel => exact ⟨by rw [HB.out], rfl⟩
        · have HB : Hid (t1 = true) := by show t1 = true; rw [← HT1.out]; simp [hmz]
          have hb : ((m : Int) != (z : Int)) = true := by simp; omega
          have hb2 : ¬ (m : Int) = (z : Int) := by omega
          clear hmz
          go_wp2_with fail
          go_meet
          case rel => exact ⟨by rw [HB.out], rfl⟩
      · have HB : Hid (t1 = false) := by show t1 = false; rw [← HT1.out]; simp [he]
        have hei : ¬ (e2 : Int) = 0 := by omega
        have heb : ((e2 : Int) == 0) = false := by simp; omega
        go_wp2_with fail
        go_meet
        case rel => exact ⟨by rw [HB.out], rfl⟩
  case rest =>
    obtain ⟨rfl, hwd⟩ := hcut
    obtain rfl := hwd.symm
    go_upto_if 27 with fail
    go_cut [] (fun wd => ∃ (e3 : Nat), Hid (CSt K r s l most v x.1 w wd p2 e3 (p2 = q + 32 ∧ n = num s q 16 ∧ num s q 16 ^^^ num s (q + 16) 16 = 65535 ∧ q + 32 ≤ 8 * s.size)))
    case first =>
      as_aux_lemma =>
        cases t1 with
        | true =>
          obtain ⟨he, hne⟩ := of_decide_eq_true HT1.out
          subst he
          have HBAD : Hid (x.1 = 40) := by
            show x.1 = 40
            obtain ⟨h1, h2, h3, h4⟩ := HS.out.2.2.2 rfl
            rw [← HX.out]
            unfold storedF
            simp only [HQ.out]
            rw [if_neg (by omega), if_neg (by omega), if_pos]
            rw [← h2, ← h3]
            intro hc
            exact hne (by rw [(xor_not n m HZ.out.2.1 HZ.out.2.2).1 hc]; exact HZ.out.1)
          clear hne
          go_wp2_with fail
          go_meet
          case rel => exact ⟨40, HS.out.1.setE 40, HS.out.2.1.trans (HS.out.1.uf_set 4 _), fun _ => HBAD.out, fun h => absurd h (by simp)⟩
        | false =>
          have HG : Hid (CSt K r s l most v x.1 w wC p2 e2 (p2 = q + 32 ∧ n = num s q 16 ∧ num s q 16 ^^^ num s (q + 16) 16 = 65535 ∧ q + 32 ≤ 8 * s.size)) := ⟨HS.out.1, HS.out.2.1, HS.out.2.2.1, fun he => by
            obtain ⟨h1, h2, h3, h4⟩ := HS.out.2.2.2 he
            refine ⟨h1, h2, ?_, h4⟩
            rw [← h2, ← h3]
            refine (xor_not n m HZ.out.2.1 HZ.out.2.2).2 ?_
            have := of_decide_eq_false HT1.out
            rw [HZ.out.1]
            apply Classical.byContradiction
            exact fun hc => this ⟨he, hc⟩⟩
          go_wp2_with fail
          go_meet
          case rel => exact ⟨e2, HG⟩
    case rest =>
      obtain ⟨e3, HS2⟩ := hcut
      obtain ⟨wD, hwD⟩ : ∃ wD, wD = wc := ⟨_, rfl⟩
      subst hwD
      clear HS HT1 g0 g1 g2 g3 g4 fz
      obtain ⟨g0, g1, g2, g3, g4⟩ := HS2.out.1.cells
      rw [HVV.out] at g3
      obtain ⟨S, hS⟩ : ∃ S, L + n = S := ⟨_, rfl⟩
      have hSi : (L : Int) + (n : Int) = (S : Nat) := by omega
      have hSw := wrapN S (by omega)
      obtain ⟨tG, htG⟩ : ∃ tG, decide (e3 = 0 ∧ most < S) = tG := ⟨_, rfl⟩
      have HTG : Hid (decide (e3 = 0 ∧ most < S) = tG) := htG
      clear htG
      go_upto_region 5 with fail
      go_cut [49] (fun v49 wd => v49 = .bool tG ∧ ∃ j, wd = wD.drewN j)
      case first =>
        as_aux_lemma =>
          by_cases he : e3 = 0
          · subst he
            by_cases hLf : most < S
            · have hLfi : (most : Int) < (S : Int) := by omega
              have HB : Hid (tG = true) := by show tG = true; rw [← HTG.out]; simp [hLf]
              go_region
              all_goals
                go_wp2_with fail
                go_meet
                case rel => exact ⟨by rw [HB.out], 1, rfl⟩
            · have hLfi : ¬ (most : Int) < (S : Int) := by omega
              have HB : Hid (tG = false) := by show tG = false; rw [← HTG.out]; simp [hLf]
              go_region
              all_goals
                go_wp2_with fail
                go_meet
                case rel => exact ⟨by rw [HB.out], 1, rfl⟩
          · have HB : Hid (tG = false) := by show tG = false; rw [← HTG.out]; simp [he]
            have hei : ¬ (e3 : Int) = 0 := by omega
            have heb : ((e3 : Int) == 0) = false := by simp; omega
            go_region
            all_goals
              go_wp2_with fail
              go_meet
              case rel => exact ⟨by rw [HB.out], 1, rfl⟩
      case rest =>
        obtain ⟨rfl, j, hwd⟩ := hcut
        have HSa : Hid (CSt K r s l most v x.1 w wc p2 e3 (p2 = q + 32 ∧ n = num s q 16 ∧ num s q 16 ^^^ num s (q + 16) 16 = 65535 ∧ q + 32 ≤ 8 * s.size)) := by
          rw [hwd]; exact ⟨HS2.out.1.drewN j, HS2.out.2.1.trans (UF.drewN _ _ j), HS2.out.2.2⟩
        clear hwd HS2 g0 g1 g2 g3 g4
        obtain ⟨wE, hwE⟩ : ∃ wE, wE = wc := ⟨_, rfl⟩
        subst hwE
        obtain ⟨g0, g1, g2, g3, g4⟩ := HSa.out.1.cells
        have fz := HSa.out.1.free 4 (by omega)
        go_upto_if 49 with fail
        go_cut [] (fun wd => ∃ (e4 : Nat), Hid (CSt K r s l most v x.1 w wd p2 e4 ((p2 = q + 32 ∧ n = num s q 16 ∧ num s q 16 ^^^ num s (q + 16) 16 = 65535 ∧ q + 32 ≤ 8 * s.size) ∧ S ≤ most)))
        case first =>
          as_aux_lemma =>
            cases tG with
            | true =>
              obtain ⟨he, hLf⟩ := of_decide_eq_true HTG.out
              subst he
              have HBAD : Hid (x.1 = 4) := by
                show x.1 = 4
                obtain ⟨h1, h2, h3, h4⟩ := HSa.out.2.2.2 rfl
                rw [← HX.out]
                unfold storedF
                simp only [HQ.out]
                rw [if_neg (by omega), if_neg (by omega), if_neg (by rw [h3]; simp), if_pos (by rw [← h2, HL.out]; omega)]
              clear hLf
              go_wp2_with fail
              go_meet
              case rel => exact ⟨4, HSa.out.1.setE 4, HSa.out.2.1.trans (HSa.out.1.uf_set 4 _), fun _ => HBAD.out, fun h => absurd h (by simp)⟩
            | false =>
              have HG : Hid (CSt K r s l most v x.1 w wE p2 e3 ((p2 = q + 32 ∧ n = num s q 16 ∧ num s q 16 ^^^ num s (q + 16) 16 = 65535 ∧ q + 32 ≤ 8 * s.size) ∧ S ≤ most)) := ⟨HSa.out.1, HSa.out.2.1, HSa.out.2.2.1, fun he => ⟨HSa.out.2.2.2 he, by have := of_decide_eq_false HTG.out; omega⟩⟩
              go_wp2_with fail
              go_meet
              case rel => exact ⟨e3, HG⟩
        case rest =>
          obtain ⟨e4, HSb⟩ := hcut
          obtain ⟨wJ, hwJ⟩ : ∃ wJ, wJ = wc := ⟨_, rfl⟩
          subst hwJ
          clear HSa HTG g0 g1 g2 g3 g4 fz
          go_wp2_with fail
          have HG : Hid (e4 = 0 → (p2 = q + 32 ∧ n = num s q 16 ∧ num s q 16 ^^^ num s (q + 16) 16 = 65535 ∧ q + 32 ≤ 8 * s.size) ∧ S ≤ most) := HSb.out.2.2.2
          have H0 : Hid (SSt K r s most x l q 0 w wJ) := ⟨p2, e4, l, v, HSb.out.1, HSb.out.2.1, Nat.le_refl _, fun he => ⟨((HG.out he).1.1), by simp⟩, HSb.out.2.2.1⟩
          go_loopw [4] (fun v4 wr => ∃ i : Nat, v4 = .int .i64 i ∧ i ≤ n ∧ Hid (SSt K r s most x l q i w wr ∧ (rErr wr r = 0 → e4 = 0))) (fun v4 _ => n - (intOf v4).toNat)
          case atStart => exact ⟨0, rfl, Nat.zero_le _, H0.out, fun h => by rw [HSb.out.1.err_] at h; exact h⟩
          case round =>
            obtain ⟨i, rfl, hi, HSS⟩ := hrel
            obtain ⟨⟨p', e', l', v', hR, hU, hll, hg, hb⟩, hi4⟩ := HSS.out
            obtain ⟨g0, g1, g2, g3, g4⟩ := hR.cells
            have HR : Hid (RR wr K r s p' l' most e' v' ∧ UF K w wr ∧ l'.length ≤ l.length + i ∧ (e' = 0 → p' = q + 32 + 8 * i ∧ l' = l ++ (s.extract ((q + 32) / 8) ((q + 32) / 8 + i)).data.toList.map UInt8.toNat) ∧ (e' ≠ 0 → x.1 = e')) := ⟨hR, hU, hll, hg, hb⟩
            by_cases he : e' = 0
            · subst he
              obtain ⟨⟨hp2, hnn, hxx, hq32⟩, hSm⟩ := HG.out (hi4 (by rw [hR.err_]))
              obtain ⟨hp', hl''⟩ := hg rfl
              have hq8 : q % 8 = 0 := by have := HQ.out; omega
              have hple := hR.le
              obtain ⟨A, hA⟩ : ∃ A, (q + 32) / 8 = A := ⟨_, rfl⟩
              by_cases hlt : i < n
              · have hlti : (i : Int) < (n : Int) := by omega
                obtain ⟨Q, hQ⟩ : ∃ Q, l'.length = Q := ⟨_, rfl⟩
                obtain ⟨ao', cq, hv'⟩ := hR.form
                rw [hQ] at hv'
                subst hv'
                have HQL : Hid (l'.length = Q) := hQ
                have hQb : Q + 1 ≤ 1048577 := by have := HL.out; omega
                have HBT := rbits_ok (hR.drewN 1) 8 (by decide)
                have HF : Hid (∃ er q2 y, rbF s p' 0 8 = (er, q2, y) ∧ y < 256 ∧ (er = 0 → q2 = q + 32 + 8 * (i + 1) ∧ y = byteAt s (A + i) ∧ A + i < s.size) ∧ (er ≠ 0 → x.1 = er)) := by
                  unfold rbF
                  rw [if_neg (by simp)]
                  by_cases hsh : 8 * s.size < p' + 8
                  · rw [if_pos hsh]
                    refine ⟨5, p', 0, rfl, by decide, fun h => absurd h (by decide), fun _ => ?_⟩
                    rw [← HX.out]
                    unfold storedF
                    simp only [HQ.out]
                    rw [if_neg (by omega), if_neg (by omega), if_neg (by rw [hxx]; simp), if_neg (by rw [← hnn, HL.out]; omega), if_pos (by rw [← hnn]; omega)]
                  · rw [if_neg hsh]
                    refine ⟨0, p' + 8, num s p' 8, rfl, num_lt s p' 8, fun _ => ⟨by omega, ?_, by omega⟩, fun h => absurd rfl h⟩
                    rw [show p' = 8 * (A + i) by omega]
                    exact num_byte s (A + i)
                obtain ⟨er, q2, y, hrb, hy, hok, hbad⟩ := HF.out
                rw [hrb] at HBT
                have HBC : Hid (∀ _ : Unit, Calls Tryd.prog 13 #[.pointer (some ⟨r, 0, none⟩), .int .i64 8] wr.drew fun en w' => en = .returned (.int .i64 (y : Nat)) ∧ RR w' K r s q2 l' most er (.slice ao' Q cq) ∧ UF K wr.drew w') := fun _ => HBT
                have hyu : IntKind.u8.wrap (y : Int) = (y : Nat) := by rw [IntKind.wrap_u8]; omega
                have HNX : Hid (∀ wn V, RR wn K r s q2 (l' ++ [y]) most er V → UF K w wn → SSt K r s most x l q (i + 1) w wn ∧ (rErr wn r = 0 → e4 = 0)) := fun wn V h1 h2 => by
                  refine ⟨⟨q2, er, l' ++ [y], V, h1, h2, ?_, fun h => ⟨(hok h).1, ?_⟩, hbad⟩, fun _ => hi4 (by rw [hR.err_])⟩
                  · rw [List.length_append]; have := HR.out.2.2.1; show l'.length + 1 ≤ _; omega
                  · rw [hl'', List.append_assoc, hA, ext_snoc s A i (hok h).2.2, (hok h).2.1]
                obtain ⟨i0, hi0, hz0, hz1, hz2⟩ := info_parts infoB
                have HI : Hid (_ ∧ _ ∧ _ ∧ _) := ⟨hi0, hz0, hz1, hz2⟩
                clear hR hU hll hg hb hi4 hp' hl'' hA hQ HBT hrb hok hbad hi0 hz0 hz1 hz2 hp2 hnn hxx hq32 hSm hq8 hple
                go_wp2_with fail
                go_region_law
                  (first
                    | (refine step_append_lies _ rfl _ _ 23 rfl 0 5 i0 (.int .u8 0) 1 1 Tryd.underlying23 HI.out.1 HI.out.2.1 HI.out.2.2.1 HI.out.2.2.2 rfl (by decide) (.slice ao' Q cq) Q (bcells l') rfl (HO.out _) ⟨wB.heap.size, 0, none⟩ 1 1 [.int .u8 (y : Nat)] rfl rfl (newB wB _ _) (oneB _) (by decide) (by unfold maxLen; omega) (by omega) (Nat.zero_le _) _ rfl ?_; intro g3 cap3 wc hown hgrow hat hgl; obtain ⟨z1, z2, z3, z4⟩ := (HA.out (.cells #[.int .u8 (y : Nat)] 5)).grow1 HQL.out hown hgrow hat rfl; have HZ2 : Hid _ := (⟨z3, z4⟩ : _ ∧ _); clear z3 z4 hown hgrow hat hgl)
                    | (go_simp; go_at_call 13; refine (HBC.out ()).mono ?_; rintro e wB ⟨rfl, hrB, huB⟩; have HWB : Hid (RR wB K r s q2 l' most er (.slice ao' Q cq) ∧ UF K w wB) := ⟨hrB, (HR.out.2.1.trans (UF.drewN _ _ 1)).trans huB⟩; have d1 := hrB.cells.2.2.2.1; have d2 := hrB.free 3 (by omega); have HA : Hid (∀ o, RR (wB.alloc o) K r s q2 l' most er (.slice ao' Q cq)) := fun o => HWB.out.1.alloc o; have HO : Hid (∀ o, (wB.alloc o).ownsRow 0 5 1 (.slice ao' Q cq) Q (bcells l')) := fun o => (by have := (HA.out o).own; rw [HQL.out] at this; exact this); have e1 : (wB.alloc (.cells #[.int .u8 (y : Nat)] 5)).cell? ⟨r, 3, none⟩ = some (.slice ao' Q cq) := (HA.out _).cells.2.2.2.1; have e2 : (wB.alloc (.cells #[.int .u8 (y : Nat)] 5)).frozen? ⟨r, 3, none⟩ = false := (HA.out _).free 3 (by omega); clear hrB huB))
                all_goals
                  have HN := HNX.out _ _ HZ2.out.1 ((HWB.out.2.trans (HWB.out.1.uf_alloc _)).trans HZ2.out.2)
                  have HNN : Hid (_ ∧ _) := HN
                  clear HN
                  go_wp2
                  exact ⟨⟨i + 1, by go_num, by omega, HNN⟩, by simp [intOf]; omega⟩
              · have hlti : ¬ (i : Int) < (n : Int) := by omega
                obtain rfl : i = n := by omega
                have HXE : Hid (x = (0, p', l')) := by
                  show x = _
                  rw [← HX.out]
                  unfold storedF
                  simp only [HQ.out]
                  rw [if_neg (by omega), if_neg (by omega), if_neg (by rw [hxx]; simp), if_neg (by rw [← hnn, HL.out]; omega), if_neg (by rw [← hnn]; omega), ← hnn, hp', ← hl'']
                clear hR hU hll hg hb hi4 hp' hl'' hA hp2 hnn hxx hq32 hSm hq8 hple
                go_wp2
                go_end0
                exact ⟨rfl, HR.out.2.1, p', l', v', by rw [HXE.out]; exact HR.out.1, fun _ => by rw [HXE.out]; exact ⟨rfl, rfl⟩⟩
            · have hei : ¬ (e' : Int) = 0 := by omega
              have heb : ((e' : Int) == 0) = false := by simp; omega
              have HXE : Hid (x.1 = e' ∧ x.1 ≠ 0) := ⟨hb he, by rw [hb he]; exact he⟩
              clear hR hU hll hg hb hi4 he
              by_cases hlt : i < n
              · have hlti : (i : Int) < (n : Int) := by omega
                go_wp2
                go_end0
                exact ⟨rfl, HR.out.2.1, p', l', v', by rw [HXE.out.1]; exact HR.out.1, fun h => absurd h HXE.out.2⟩
              · have hlti : ¬ (i : Int) < (n : Int) := by omega
                go_wp2
                go_end0
                exact ⟨rfl, HR.out.2.1, p', l', v', by rw [HXE.out.1]; exact HR.out.1, fun h => absurd h HXE.out.2⟩
end Go.Proofs.YtlbadjfcffoakaaDoor
