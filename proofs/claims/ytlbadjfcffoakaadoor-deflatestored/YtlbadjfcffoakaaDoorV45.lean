/- The document's Inflate. -/
import Derived.Test.YtlbadjfcffoakaaDoorV44
import Derived.Test.YtlbadjfcffoakaaDoorV43
namespace Go.Proofs.YtlbadjfcffoakaaDoor
open Go.RowKit
set_option linter.unusedVariables false
set_option maxRecDepth 20000

variable {w w' : World} {K : Nat → Prop} {r : Nat} {s : ByteArray} {p : Nat} {l : List Nat} {most e : Nat} {v : Value}
def ISt (K : Nat → Prop) (r : Nat) (s : ByteArray) (most : Nat) (x : Nat × Nat × List Nat) (w0 wr : World) (last : Nat) : Prop :=
  ∃ p l e v, RR wr K r s p l most e v ∧ UF K w0 wr ∧ (e ≠ 0 → x.1 = e) ∧ (e = 0 → l.length ≤ most ∧ (last = 0 → blocksF (toldF s) s most (8 * s.size + 1 - p) p l = x) ∧ (last ≠ 0 → x = (0, p, l)))
theorem ISt.next {x z : Nat × Nat × List Nat} {w0 wr : World} {last p' : Nat} {l' : List Nat} {v' : Value} (hp : p ≤ 8 * s.size) (hl : l.length ≤ most) (hx : blocksF (toldF s) s most (8 * s.size + 1 - p) p l = x) (hb : blockF (toldF s) s most p l = z) (hlast : z.1 = 0 → last = num s p 1) (hr : RR wr K r s p' l' most z.1 v') (hz : z.1 = 0 → p' = z.2.1 ∧ l' = z.2.2) (hf : UF K w0 wr) : ISt K r s most x w0 wr last ∧ rMu s r wr < 8 * s.size + 1 - p := by
  have hn1 : num s p 1 < 2 := num_lt s p 1
  by_cases h0 : z.1 = 0
  · obtain ⟨rfl, rfl⟩ := hz h0
    have hm := blockF_mono (toldF_ok s) hl (by rw [hb]; exact h0)
    rw [hb] at hm
    refine ⟨⟨z.2.1, z.2.2, z.1, v', hr, hf, fun h => absurd h0 h, fun _ => ⟨hm.2.2, fun h1 => ?_, fun h1 => ?_⟩⟩, ?_⟩
    · rw [← hx, blocks_more (toldF_ok s) hl hp (by rw [hb]; exact h0) (by rw [← hlast h0]; omega), hb]
    · rw [← hx, blocks_end hp (by rw [hb]; exact h0) (by have := hlast h0; omega), hb]
    · rw [hr.mu, if_pos h0]; have := hm.1; have := hm.2.1; omega
  · refine ⟨⟨p', l', z.1, v', hr, hf, fun _ => ?_, fun h => absurd h h0⟩, ?_⟩
    · rw [← hx, blocks_bad hp (by rw [hb]; exact h0), hb]
    · rw [hr.mu, if_neg h0]; omega
theorem two_bits {e1 p1 y1 e2 p2 y2 : Nat} (h1 : rbF s p 0 1 = (e1, p1, y1)) (h2 : rbF s p1 e1 2 = (e2, p2, y2)) :
    (e2 = 0 → p + 3 ≤ 8 * s.size ∧ p2 = p + 3 ∧ y1 = num s p 1 ∧ y2 = num s (p + 1) 2) ∧ (e2 ≠ 0 → e2 = 5 ∧ 8 * s.size < p + 3 ∧ y2 = 0) := by
  unfold rbF at h1 h2
  rw [if_neg (by simp)] at h1
  by_cases a : 8 * s.size < p + 1
  · rw [if_pos a] at h1; cases h1
    rw [if_pos (by simp)] at h2; cases h2
    exact ⟨fun h => by simp at h, fun _ => ⟨rfl, by omega, rfl⟩⟩
  · rw [if_neg a] at h1; cases h1
    rw [if_neg (by simp)] at h2
    by_cases b : 8 * s.size < p + 1 + 2
    · rw [if_pos b] at h2; cases h2
      exact ⟨fun h => by simp at h, fun _ => ⟨rfl, by omega, rfl⟩⟩
    · rw [if_neg b] at h2; cases h2
      exact ⟨fun _ => ⟨by omega, rfl, rfl, rfl⟩, fun h => absurd rfl h⟩
theorem RDone.lessK {K' : Nat → Prop} {w0 : World} {x : Nat × Nat × List Nat} {en : Ending} (h : RDone K' r s most w x en w') (hk : ∀ k, K k → K' k) (hw : UF K w0 w) : RDone K r s most w0 x en w' := by
  obtain ⟨h1, h2, p', l', v', h3, h4⟩ := h
  exact ⟨h1, hw.trans (h2.less hk), p', l', v', h3.lessK hk, h4⟩
theorem inf_arg (s : ByteArray) (most : Int) (w : World) (h : most < 0 ∨ 1048576 < most) : Calls Tryd.prog 8 #[.string s, .int .i64 most] w fun e w' => e = .returned (.tuple #[.string ⟨#[]⟩, .int .i64 0, .int .i64 1]) ∧ Below w.heap.size w w' := by
  go_enter Tryd.func8, Tryd.ntmps8
  by_cases h0 : most < 0
  · go_wp2
    go_ret3
    exact ⟨rfl, Below.refl _ _⟩
  · have h1 : (1048576 : Int) < most := by omega
    go_wp2
    go_ret3
    exact ⟨rfl, Below.refl _ _⟩
set_option maxRecDepth 20000 in
set_option maxHeartbeats 4000000 in
theorem rinflate_ok (s : ByteArray) (most : Nat) (w : World) (hm : most ≤ 1048576) (hs : s.size ≤ 281474976710656) :
    Calls Tryd.prog 8 #[.string s, .int .i64 most] w fun en w' => en = .returned (infR (infF s most)) ∧ Below w.heap.size w w' := by
  obtain ⟨x, hx⟩ : ∃ x, infF s most = x := ⟨_, rfl⟩
  have hbytes : Bytes x.2.2 := by rw [← hx]; exact blocksF_bytes _ _ _ (fun y hy => by simp at hy)
  rw [hx]
  obtain ⟨K, hK⟩ : ∃ K : Nat → Prop, (fun k => k < w.heap.size) = K := ⟨_, rfl⟩
  obtain ⟨r, hr⟩ : ∃ r, w.heap.size = r := ⟨_, rfl⟩
  have h0 : ISt K r s most x w (w.alloc (.cells #[.string s, .int .i64 0, .int .i64 (most : Nat), .slice none 0 0, .int .i64 0] 39)) 0 := by
    refine ⟨0, [], 0, .slice none 0 0, ⟨by rw [← hr]; exact heap_alloc_new _ _, ⟨rfl, .inl ⟨rfl, rfl⟩⟩, Nat.zero_le _, hs, fun k hk => ?_, ?_, fun g hg => by simp [Value.ownBlock] at hg⟩, ?_, fun h => absurd rfl h, fun _ => ⟨Nat.zero_le _, fun _ => hx, fun h => absurd rfl h⟩⟩
    · rw [← hK] at hk; have hk : k < w.heap.size := hk; simp; omega
    · rw [← hK, ← hr]; exact Nat.lt_irrefl _
    · rw [← hK]; exact UF.below ((Below.refl _ _).alloc (Nat.le_refl _) _) (fun k h => h)
  obtain ⟨W0, hW0⟩ : ∃ W0, w.alloc (.cells #[.string s, .int .i64 0, .int .i64 (most : Nat), .slice none 0 0, .int .i64 0] 39) = W0 := ⟨_, rfl⟩
  rw [hW0] at h0
  have H0 : Hid (ISt K r s most x w W0 0) := h0
  have HX : Hid (Bytes x.2.2 ∧ (∀ W, UF K w W → Below w.heap.size w W)) := ⟨hbytes, fun W h => by rw [← hK] at h; exact h.toBelow⟩
  have hmi : (most : Int) ≤ 1048576 := by omega
  clear h0 hx hbytes hK
  go_enter Tryd.func8, Tryd.ntmps8
  go_wp2_with fail
  try rw [hW0]
  try rw [hr]
  clear hW0
  go_loopw [8] (fun v8 wr => ∃ last : Nat, v8 = .int .i64 last ∧ last ≤ 1 ∧ Hid (ISt K r s most x w wr last)) (fun _ wr => rMu s r wr)
  case atStart => exact ⟨0, rfl, by omega, H0.out⟩
  case round =>
    obtain ⟨last, rfl, hlast1, HS⟩ := hrel
    obtain ⟨p, l, e, v, hR, hU, hbad, hgood⟩ := HS.out
    have d4 := hR.cells.2.2.2.2
    by_cases hl0 : last = 0
    · subst hl0
      by_cases he : e = 0
      · subst he
        obtain ⟨hl, hxb, _⟩ := hgood rfl
        have hxb := hxb rfl
        have hp := hR.le
        have HB1 := rbits_ok hR 1 (by omega)
        obtain ⟨⟨e1, p1, y1⟩, hr1⟩ : ∃ z, rbF s p 0 1 = z := ⟨_, rfl⟩
        rw [hr1] at HB1
        have hy1 : y1 < 2 := rbF_num hr1
        have HB1 : Hid (∀ _ : Unit, Calls Tryd.prog 13 #[.pointer (some ⟨r, 0, none⟩), .int .i64 (1 : Nat)] wr fun en w' => RNum K r s l most v wr (e1, p1, y1) en w') := fun _ => HB1
        have HMU : Hid (rMu s r wr = 8 * s.size + 1 - p) := by show _ = _; rw [hR.mu, if_pos rfl]
        have HP : Hid (UF K w wr ∧ rbF s p 0 1 = (e1, p1, y1) ∧ l.length ≤ most ∧ blocksF (toldF s) s most (8 * s.size + 1 - p) p l = x ∧ p ≤ 8 * s.size) := ⟨hU, hr1, hl, hxb, hp⟩
        clear hR hU hbad hgood hl hxb hp hr1 HS
        go_wp2_with fail
        refine (HB1.out ()).mono ?_
        rintro en w1 ⟨rfl, hR1, hU1⟩
        have HB2 := rbits_ok hR1 2 (by omega)
        obtain ⟨⟨e2, p2, y2⟩, hr2⟩ : ∃ z, rbF s p1 e1 2 = z := ⟨_, rfl⟩
        rw [hr2] at HB2
        have hy2 : y2 < 4 := rbF_num hr2
        have HB2 : Hid (∀ _ : Unit, Calls Tryd.prog 13 #[.pointer (some ⟨r, 0, none⟩), .int .i64 (2 : Nat)] w1 fun en w' => RNum K r s l most v w1 (e2, p2, y2) en w') := fun _ => HB2
        obtain ⟨tb1, tb2⟩ := two_bits HP.out.2.1 hr2
        have HTB : Hid ((e2 = 0 → p + 3 ≤ 8 * s.size ∧ p2 = p + 3 ∧ y1 = num s p 1 ∧ y2 = num s (p + 1) 2) ∧ (e2 ≠ 0 → e2 = 5 ∧ 8 * s.size < p + 3 ∧ y2 = 0) ∧ UF K wr w1) := ⟨tb1, tb2, hU1⟩
        clear hR1 hU1 hr2 tb1 tb2 HB1
        go_wp2_with fail
        refine (HB2.out ()).mono ?_
        rintro en w2 ⟨rfl, hR2, hU2⟩
        have HS2 : Hid (RR w2 K r s p2 l most e2 v ∧ UF K w w2) := ⟨hR2, (HP.out.1.trans HTB.out.2.2).trans hU2⟩
        have d4 := hR2.cells.2.2.2.2
        clear HB2 hR2 hU2
        by_cases he2 : e2 = 0
        · subst he2
          obtain ⟨hp3, hp2, hy1n, hy2n⟩ := HTB.out.1 rfl
          subst hp2
          have HG : Hid (p + 3 ≤ 8 * s.size ∧ y1 = num s p 1 ∧ y2 = num s (p + 1) 2) := ⟨hp3, hy1n, hy2n⟩
          have HFIN : Hid (∀ (z : Nat × Nat × List Nat) (en : Ending) (W : World), blockF (toldF s) s most p l = z → RDone K r s most w2 z en W → ISt K r s most x w W y1 ∧ rMu s r W < rMu s r wr) := fun z en W hb hd => by
            obtain ⟨_, hu, p', l', v', hr', hz⟩ := hd
            rw [HMU.out]
            exact ISt.next HP.out.2.2.2.2 HP.out.2.2.1 HP.out.2.2.2.1 hb (fun _ => HG.out.2.1) hr' hz (HS2.out.2.trans hu)
          have HBF : Hid (∀ z, (y2 = 0 → storedF s (p + 3) l most = z) → (y2 = 1 → packF fixS fixD s most (8 * s.size + 1 - (p + 3)) (p + 3) l = z) → (y2 = 2 → (if (toldF s (p + 3)).1 ≠ 0 then ((toldF s (p + 3)).1, p, l) else packF (toldF s (p + 3)).2.2.1 (toldF s (p + 3)).2.2.2 s most (8 * s.size + 1 - (toldF s (p + 3)).2.1) (toldF s (p + 3)).2.1 l) = z) → (y2 = 3 → (40, p, l) = z) → blockF (toldF s) s most p l = z) := fun z a0 a1 a2 a3 => by
            obtain ⟨g1, g2, g3⟩ := HG.out
            unfold blockF
            rw [if_neg (by omega), if_neg (by omega), ← g3]
            by_cases c0 : y2 = 0
            · rw [if_pos c0]; exact a0 c0
            · rw [if_neg c0]
              by_cases c1 : y2 = 1
              · rw [if_pos c1]; exact a1 c1
              · rw [if_neg c1]
                by_cases c2 : y2 = 2
                · rw [if_pos c2]; exact a2 c2
                · rw [if_neg c2]; exact a3 (by omega)
          clear hp3 hy1n hy2n HTB
          by_cases c0 : y2 = 0
          · subst c0
            have HST : Hid (∀ _ : Unit, Calls Tryd.prog 14 #[.pointer (some ⟨r, 0, none⟩)] w2 fun en w' => RDone K r s most w2 (storedF s (p + 3) l most) en w') := fun _ => rstored_ok HS2.out.1 hm HP.out.2.2.1
            have HN : Hid (blockF (toldF s) s most p l = storedF s (p + 3) l most) := HBF.out _ (fun _ => rfl) (fun h => by simp at h) (fun h => by simp at h) (fun h => by simp at h)
            go_wp2_with (first | (go_at_call 14; refine (HST.out ()).mono ?_; rintro en w3 ⟨rfl, hd⟩; have HD : Hid (ISt K r s most x w w3 y1 ∧ rMu s r w3 < rMu s r wr) := HFIN.out _ _ w3 HN.out ⟨rfl, hd⟩; clear hd))
            exact ⟨⟨y1, rfl, by omega, HD.out.1⟩, HD.out.2⟩
          · have c0i : ¬ (y2 : Int) = 0 := by omega
            have c0b : ((y2 : Int) == 0) = false := by simp; omega
            by_cases c1 : y2 = 1
            · subst c1
              have HFX : Hid (∀ _ : Unit, Calls Tryd.prog 15 #[] w2 fun en w' => FixdEnd w2 en w') := fun _ => rfixed_ok w2
              have HN : Hid (blockF (toldF s) s most p l = packF fixS fixD s most (8 * s.size + 1 - (p + 3)) (p + 3) l) := HBF.out _ (fun h => by simp at h) (fun _ => rfl) (fun h => by simp at h) (fun h => by simp at h)
              go_wp2_with fail
              refine (HFX.out ()).mono ?_
              rintro en w3 ⟨hb3, cv, dv, rfl, hcA, hdA⟩
              obtain ⟨x1, x2, x3, x4, hcv⟩ : ∃ x1 x2 x3 x4, cv = .agg #[.slice x1 288 x2, .slice x3 288 x4] := by
                obtain ⟨x1, x2, x3, x4, e, -⟩ := hcA
                rw [fixS_len] at e
                exact ⟨x1, x2, x3, x4, e⟩
              obtain ⟨z1, z2, z3, z4, hdv⟩ : ∃ x1 x2 x3 x4, dv = .agg #[.slice x1 32 x2, .slice x3 32 x4] := by
                obtain ⟨x1, x2, x3, x4, e, -⟩ := hdA
                rw [fixD_len] at e
                exact ⟨x1, x2, x3, x4, e⟩
              subst hcv
              subst hdv
              have HPK : Hid (∀ o1 o2, Calls Tryd.prog 16 #[.pointer (some ⟨r, 0, none⟩), .agg #[.slice x1 288 x2, .slice x3 288 x4], .agg #[.slice z1 32 z2, .slice z3 32 z4]] ((w3.alloc o1).alloc o2) fun en w' => RDone K r s most w2 (packF fixS fixD s most (8 * s.size + 1 - (p + 3)) (p + 3) l) en w') := fun o1 o2 => by
                have hb5 : Below w2.heap.size w2 ((w3.alloc o1).alloc o2) := (hb3.alloc hb3.size _).alloc (by simp; have := hb3.size; omega) _
                have u35 : UF (Bet w2.heap.size w3.heap.size) w3 ((w3.alloc o1).alloc o2) := UF.below (((Below.refl _ _).alloc (Nat.le_refl _) _).alloc (by simp) _) (fun k hk => hk.2)
                have hrn := HS2.out.1.newer hb5
                have hin : ∀ k, Bet w2.heap.size w3.heap.size k → KX K w2.heap.size ((w3.alloc o1).alloc o2).heap.size k := fun k hk => .inr ⟨hk.1, by have := hk.2; simp; omega⟩
                exact (rpacked_ok hrn _ _ fixS fixD ((hcA.uf u35).more hin) ((hdA.uf u35).more hin) fixS_zer hm HP.out.2.2.1).mono fun en w' hd => hd.lessK KX.in (UF.below hb5 HS2.out.1.kb)
              clear hb3 hcA hdA HFX
              go_wp2_with (first | (go_at_call 16; refine (HPK.out _ _).mono ?_; rintro en w6 ⟨rfl, hd⟩; have HD : Hid (ISt K r s most x w w6 y1 ∧ rMu s r w6 < rMu s r wr) := HFIN.out _ _ w6 HN.out ⟨rfl, hd⟩; clear hd))
              exact ⟨⟨y1, rfl, by omega, HD.out.1⟩, HD.out.2⟩
            · have c1i : ¬ (y2 : Int) = 1 := by omega
              have c1b : ((y2 : Int) == 1) = false := by simp; omega
              by_cases c2 : y2 = 2
              · subst c2
                have HDY : Hid (∀ _ : Unit, Calls Tryd.prog 17 #[.pointer (some ⟨r, 0, none⟩)] w2 fun en w' => DynEnd K r s l most v w2 (toldF s (p + 3)) en w') := fun _ => rdynamic_ok HS2.out.1
                have HN : Hid (blockF (toldF s) s most p l = if (toldF s (p + 3)).1 ≠ 0 then ((toldF s (p + 3)).1, p, l) else packF (toldF s (p + 3)).2.2.1 (toldF s (p + 3)).2.2.2 s most (8 * s.size + 1 - (toldF s (p + 3)).2.1) (toldF s (p + 3)).2.1 l) := HBF.out _ (fun h => by simp at h) (fun h => by simp at h) (fun _ => rfl) (fun h => by simp at h)
                obtain ⟨td, htd⟩ : ∃ t, toldF s (p + 3) = t := ⟨_, rfl⟩
                rw [htd] at HDY HN
                clear htd
                go_wp2_with fail
                refine (HDY.out ()).mono ?_
                rintro en w3 ⟨hu3, ⟨hne, q, rfl, hr3⟩ | ⟨hz, cv, dv, K', rfl, hkk, hr3, hcA, hdA, hzer⟩⟩
                · have hN2 := HN.out
                  rw [if_pos hne] at hN2
                  have HN2 : Hid (blockF (toldF s) s most p l = (td.1, p, l)) := hN2
                  have HPK : Hid (∀ o1 o2, Calls Tryd.prog 16 #[.pointer (some ⟨r, 0, none⟩), .agg #[.slice none 0 0, .slice none 0 0], .agg #[.slice none 0 0, .slice none 0 0]] ((w3.alloc o1).alloc o2) fun en w' => RDone K r s most w2 (td.1, p, l) en w') := fun o1 o2 => by
                    have u35 : UF K w3 ((w3.alloc o1).alloc o2) := (hr3.uf_alloc o1).trans ((hr3.alloc o1).uf_alloc o2)
                    refine (rpacked_dead ((hr3.alloc o1).alloc o2) hne _ _ _ _).mono fun en w' hd => ?_
                    obtain ⟨g1, g2, p', l', v', g3, g4⟩ := hd
                    exact ⟨g1, (hu3.trans u35).trans g2, p', l', v', g3, fun h => absurd h hne⟩
                  clear hu3 hr3 HDY hN2
                  go_wp2_with (first | (go_at_call 16; refine (HPK.out _ _).mono ?_; rintro en w6 ⟨rfl, hd⟩; have HD : Hid (ISt K r s most x w w6 y1 ∧ rMu s r w6 < rMu s r wr) := HFIN.out _ _ w6 HN2.out ⟨rfl, hd⟩; clear hd))
                  exact ⟨⟨y1, rfl, by omega, HD.out.1⟩, HD.out.2⟩
                · have hN2 := HN.out
                  rw [if_neg (by omega)] at hN2
                  have HN2 : Hid (blockF (toldF s) s most p l = packF td.2.2.1 td.2.2.2 s most (8 * s.size + 1 - td.2.1) td.2.1 l) := hN2
                  obtain ⟨x1, x2, x3, x4, hcv⟩ : ∃ x1 x2 x3 x4, cv = .agg #[.slice x1 td.2.2.1.length x2, .slice x3 td.2.2.1.length x4] := by
                    obtain ⟨x1, x2, x3, x4, e, -⟩ := hcA
                    exact ⟨x1, x2, x3, x4, e⟩
                  obtain ⟨z1, z2, z3, z4, hdv⟩ : ∃ x1 x2 x3 x4, dv = .agg #[.slice x1 td.2.2.2.length x2, .slice x3 td.2.2.2.length x4] := by
                    obtain ⟨x1, x2, x3, x4, e, -⟩ := hdA
                    exact ⟨x1, x2, x3, x4, e⟩
                  obtain ⟨N1, hN1⟩ : ∃ n, td.2.2.1.length = n := ⟨_, rfl⟩
                  obtain ⟨M1, hM1⟩ : ∃ n, td.2.2.2.length = n := ⟨_, rfl⟩
                  rw [hN1] at hcv
                  rw [hM1] at hdv
                  subst hcv
                  subst hdv
                  have HPK : Hid (∀ o1 o2, Calls Tryd.prog 16 #[.pointer (some ⟨r, 0, none⟩), .agg #[.slice x1 N1 x2, .slice x3 N1 x4], .agg #[.slice z1 M1 z2, .slice z3 M1 z4]] ((w3.alloc o1).alloc o2) fun en w' => RDone K r s most w2 (packF td.2.2.1 td.2.2.2 s most (8 * s.size + 1 - td.2.1) td.2.1 l) en w') := fun o1 o2 => by
                    have u35 : UF K' w3 ((w3.alloc o1).alloc o2) := (hr3.uf_alloc o1).trans ((hr3.alloc o1).uf_alloc o2)
                    exact (rpacked_ok ((hr3.alloc o1).alloc o2) _ _ td.2.2.1 td.2.2.2 (hcA.uf u35) (hdA.uf u35) hzer hm HP.out.2.2.1).mono fun en w' hd => hd.lessK hkk (hu3.trans (u35.less hkk))
                  clear hcA hdA HDY hu3 hr3 hkk hzer hN1 hM1 hz hN2
                  go_wp2_with (first | (go_at_call 16; refine (HPK.out _ _).mono ?_; rintro en w6 ⟨rfl, hd⟩; have HD : Hid (ISt K r s most x w w6 y1 ∧ rMu s r w6 < rMu s r wr) := HFIN.out _ _ w6 HN2.out ⟨rfl, hd⟩; clear hd))
                  exact ⟨⟨y1, rfl, by omega, HD.out.1⟩, HD.out.2⟩
              · have c2i : ¬ (y2 : Int) = 2 := by omega
                have c2b : ((y2 : Int) == 2) = false := by simp; omega
                have HEN : Hid (∀ _ : Unit, Calls Tryd.prog 18 #[.pointer (some ⟨r, 0, none⟩), .int .i64 40] w2 fun en w' => en = .returned (.tuple #[]) ∧ RR w' K r s (p + 3) l most (if 0 = 0 then 40 else 0) v ∧ UF K w2 w') := fun _ => rends_ok HS2.out.1 40 (by omega)
                have HN : Hid (blockF (toldF s) s most p l = (40, p, l)) := HBF.out _ (fun h => absurd h c0) (fun h => absurd h c1) (fun h => absurd h c2) (fun _ => rfl)
                go_wp2_with (first | (go_at_call 18; refine (HEN.out ()).mono ?_; rintro en w3 ⟨rfl, hd1, hd2⟩; have HD : Hid (ISt K r s most x w w3 y1 ∧ rMu s r w3 < rMu s r wr) := HFIN.out _ (.returned (.tuple #[])) w3 HN.out ⟨rfl, hd2, p + 3, l, v, hd1, fun h => by simp at h⟩; clear hd1 hd2))
                exact ⟨⟨y1, rfl, by omega, HD.out.1⟩, HD.out.2⟩
        · obtain ⟨h5, hlt3, hy20⟩ := HTB.out.2.1 he2
          subst hy20
          have hei : ¬ (e2 : Int) = 0 := by omega
          have heb : ((e2 : Int) == 0) = false := by simp; omega
          have HD : Hid (ISt K r s most x w w2 y1 ∧ rMu s r w2 < rMu s r wr) := by
            have hb : blockF (toldF s) s most p l = (5, p, l) := by
              unfold blockF
              by_cases a : 8 * s.size < p + 1
              · rw [if_pos a]
              · rw [if_neg a, if_pos (by omega)]
            have hr := HS2.out.1
            rw [h5] at hr
            show _ ∧ _
            rw [HMU.out]
            exact ISt.next HP.out.2.2.2.2 HP.out.2.2.1 HP.out.2.2.2.1 hb (fun h => by simp at h) hr (fun h => by simp at h) HS2.out.2
          clear HTB HP h5 hlt3
          go_wp2_with fail
          exact ⟨⟨y1, rfl, by omega, HD.out.1⟩, HD.out.2⟩
      · have hei : ¬ (e : Int) = 0 := by omega
        have heb : ((e : Int) == 0) = false := by simp; omega
        have heb2 : ((e : Int) != 0) = true := by simp; omega
        have HRR : Hid (infR x = .tuple #[.string ⟨#[]⟩, .int .i64 0, .int .i64 (e : Nat)] ∧ Below w.heap.size w wr) := ⟨by unfold infR; rw [hbad he, if_neg he], HX.out.2 _ hU⟩
        clear hR hU hbad hgood HS
        go_wp2_with fail
        go_quiet (fail)
        go_wp2
        go_ret3
        rw [HRR.out.1]
        exact ⟨rfl, HRR.out.2.os, HRR.out.2.tape, HRR.out.2.output, HRR.out.2.size, HRR.out.2.block⟩
    · have hl0i : ¬ (last : Int) = 0 := by omega
      have hl0b : ((last : Int) == 0) = false := by simp; omega
      by_cases he : e = 0
      · subst he
        have hxx := (hgood rfl).2.2 hl0
        obtain ⟨c0, c1, c2, c3, c4⟩ := hR.cells
        have hle := hR.le
        have hsm := hR.small
        have hbl : Bytes l := by have := HX.out.1; rw [hxx] at this; exact this
        have hconv : (convert 23 9 v).run Tryd.prog wr.drew = .ok (.string (toBA l)) wr.drew := conv_row wr.drew _ _ 5 0 v l Tryd.underlying23 Tryd.underlying5 Tryd.underlying9 (hR.drewN 1).own hbl
        have HAL : Hid (∀ _ : Unit, Calls Tryd.prog 19 #[.int .i64 (p : Nat)] wr.drew fun e w' => e = .returned (.int .i64 (((p : Int) + 7) / 8 * 8)) ∧ w' = wr.drew) := fun _ => refAligned (p : Int) wr.drew (by omega) (by omega)
        obtain ⟨PP, hPP⟩ : ∃ P, (p + 7) / 8 = P := ⟨_, rfl⟩
        have hPi : ((p : Int) + 7) / 8 * 8 = ((8 * PP : Nat) : Int) := by omega
        have hPt : Int.tdiv ((8 * PP : Nat) : Int) 8 = (PP : Nat) := by rw [Int.tdiv_eq_ediv_of_nonneg (by omega)]; omega
        rw [hPi] at HAL
        obtain ⟨E8, hE8⟩ : ∃ n, 8 * PP = n := ⟨_, rfl⟩
        have hE8b : E8 ≤ 4611686018427387904 := by omega
        have hPPw : IntKind.i64.wrap (PP : Int) = (PP : Int) := wrapN PP (by omega)
        rw [hE8] at HAL hPt
        have HRR : Hid (infR x = .tuple #[.string (toBA l), .int .i64 (PP : Nat), .int .i64 0] ∧ Below w.heap.size w wr) := ⟨by unfold infR; rw [hxx, if_pos rfl, ← hPP], HX.out.2 _ hU⟩
        obtain ⟨T, hT⟩ : ∃ T, toBA l = T := ⟨_, rfl⟩
        rw [hT] at hconv HRR
        clear hR hU hbad hgood HS hbl hT hPP hPi hE8 hxx hle hsm
        go_wp2_with fail
        go_region_with (go_at_call 19; refine (HAL.out ()).mono ?_; rintro e w3 ⟨rfl, hw⟩; obtain rfl := hw.symm; clear hw)
        all_goals
          go_wp2_with fail
          go_ret3
          rw [HRR.out.1]
          exact ⟨rfl, HRR.out.2.os, HRR.out.2.tape, HRR.out.2.output, HRR.out.2.size, HRR.out.2.block⟩
      · have hei : ¬ (e : Int) = 0 := by omega
        have heb : ((e : Int) == 0) = false := by simp; omega
        have heb2 : ((e : Int) != 0) = true := by simp; omega
        have HRR : Hid (infR x = .tuple #[.string ⟨#[]⟩, .int .i64 0, .int .i64 (e : Nat)] ∧ Below w.heap.size w wr) := ⟨by unfold infR; rw [hbad he, if_neg he], HX.out.2 _ hU⟩
        clear hR hU hbad hgood HS
        go_wp2_with fail
        go_quiet (fail)
        go_wp2
        go_ret3
        rw [HRR.out.1]
        exact ⟨rfl, HRR.out.2.os, HRR.out.2.tape, HRR.out.2.output, HRR.out.2.size, HRR.out.2.block⟩
end Go.Proofs.YtlbadjfcffoakaaDoor
