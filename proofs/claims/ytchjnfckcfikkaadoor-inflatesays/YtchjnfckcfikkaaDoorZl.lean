/- One block. -/
import Derived.Test.YtchjnfckcfikkaaDoorZk
namespace Go.Proofs.YtchjnfckcfikkaaDoor
open Go.RowKit
set_option linter.unusedVariables false

theorem Fix.keep {w w' : World} {K K' : Nat → Prop} {f1 f2 : Value} (h : Fix w K f1 f2) (hf : UF K w w') (hk : ∀ k, K k → K' k) : Fix w' K' f1 f2 := by
  rcases h with h | ⟨t1, t2, h1, h2, h3, h4⟩
  · exact .inl h
  · exact .inr ⟨t1, t2, h1, h2, (h3.keep hf).more hk, (h4.keep hf).more hk⟩
/-- What comes of told codes: an error, or the place behind them and their lengths. -/
def ToldEnd (K : Nat → Prop) (u b : Nat) (s : ByteArray) (l : List Nat) (most : Nat) (v f1 f2 : Value) (w : World) (r : Nat × Nat × List Nat × List Nat) (e : Ending) (w' : World) : Prop :=
  UF K w w' ∧ ((r.1 ≠ 0 ∧ e = .panicked (gave (r.1 : Nat))) ∨ (r.1 = 0 ∧ ∃ K' t1 t2, e = .returned (.agg #[.pointer (some ⟨t1, 0, none⟩), .pointer (some ⟨t2, 0, none⟩)]) ∧ (∀ k, K k → K' k) ∧ US w' K' u b s r.2.1 l most v f1 f2 ∧ TabK w' K' t1 r.2.2.1 ∧ TabK w' K' t2 r.2.2.2))
/-- What comes of a block. -/
def BlockEnd (K : Nat → Prop) (u b : Nat) (s : ByteArray) (most : Nat) (w : World) (r : Nat × Nat × List Nat) (last : Bool) (e : Ending) (w' : World) : Prop :=
  UF K w w' ∧ ((r.1 ≠ 0 ∧ e = .panicked (gave (r.1 : Nat))) ∨ (r.1 = 0 ∧ e = .returned (.bool last) ∧ ∃ K' v f1 f2, (∀ k, K k → K' k) ∧ US w' K' u b s r.2.1 r.2.2 most v f1 f2 ∧ Fix w' K' f1 f2))
theorem block_bad {K : Nat → Prop} {u b : Nat} {s : ByteArray} {most : Nat} {w w' : World} {r : Nat × Nat × List Nat} {last : Bool} {q p' : Nat} {l' : List Nat} (hf : UF K w w') (hr : r = (q, p', l')) (hq : q ≠ 0) : BlockEnd K u b s most w r last (.panicked (gave (q : Nat))) w' := by
  subst hr
  exact ⟨hf, .inl ⟨hq, rfl⟩⟩
def blockF (told : Nat → Nat × Nat × List Nat × List Nat) (s : ByteArray) (most p : Nat) (l : List Nat) : Nat × Nat × List Nat :=
  if 8 * s.size < p + 1 then (5, p, l) else if 8 * s.size < p + 3 then (5, p, l)
  else if num s (p + 1) 2 = 0 then storedF s (p + 3) l most
  else if num s (p + 1) 2 = 1 then packF fixS fixD s most (8 * s.size + 1 - (p + 3)) (p + 3) l
  else if num s (p + 1) 2 = 2 then (if (told (p + 3)).1 ≠ 0 then ((told (p + 3)).1, p, l) else packF (told (p + 3)).2.2.1 (told (p + 3)).2.2.2 s most (8 * s.size + 1 - (told (p + 3)).2.1) (told (p + 3)).2.1 l)
  else (40, p, l)
set_option maxRecDepth 20000 in
set_option maxHeartbeats 4000000 in
theorem block_ok (told : Nat → Nat × Nat × List Nat × List Nat) (w : World) (K : Nat → Prop) (u b : Nat) (s : ByteArray) (p : Nat) (l : List Nat) (most : Nat) (v f1 f2 : Value) (h : US w K u b s p l most v f1 f2) (hx : Fix w K f1 f2) (hm : most ≤ 1048576) (hl : l.length ≤ most)
    (hT : num s (p + 1) 2 = 2 → ∀ W, UF K w W → US W K u b s (p + 3) l most v f1 f2 → Calls Tryd.prog 45 #[.pointer (some ⟨u, 0, none⟩)] W fun e w' => ToldEnd K u b s l most v f1 f2 W (told (p + 3)) e w') :
    Calls Tryd.prog 31 #[.pointer (some ⟨u, 0, none⟩)] w fun e w' => BlockEnd K u b s most w (blockF told s most p l) (decide (num s p 1 = 1)) e w' := by
  obtain ⟨r, hr⟩ : ∃ r, blockF told s most p l = r := ⟨_, rfl⟩
  rw [hr]
  unfold blockF at hr
  have HT : Hid _ := hT
  have H0 : Hid (US w K u b s p l most v f1 f2 ∧ Fix w K f1 f2 ∧ l.length ≤ most) := ⟨h, hx, hl⟩
  have H1 := unum_ok w K u b s p l most v f1 f2 h 1 (by omega)
  have hp := h.le
  clear hT h hx hl
  by_cases s1 : 8 * s.size < p + 1
  · rw [if_pos s1] at hr
    have HE : Hid (r = (5, p, l)) := hr.symm
    have hub : ub s p 1 = (5, p, 0) := by unfold ub; rw [if_pos s1]
    rw [hub] at H1
    have H1 : Hid (∀ _ : Unit, Calls Tryd.prog 41 #[.pointer (some ⟨u, 0, none⟩), .int .i64 (1 : Nat)] w fun e w' => UF K w w' ∧ e = .panicked (gave (5 : Nat))) := fun _ => H1.mono fun e w' hh => ⟨hh.1, by rcases hh.2 with a | a; exact a.2; exact (by cases a.1)⟩
    clear hr hub HT
    go_enter Tryd.func31, Tryd.ntmps31
    go_wp2_with fail
    refine (H1.out ()).mono ?_
    rintro e w1 ⟨hf, rfl⟩
    have HF : Hid (UF K w w1) := hf
    clear hf
    go_wp2
    exact ⟨rfl, block_bad HF.out HE.out (by decide)⟩
  · rw [if_neg s1] at hr
    have hub : ub s p 1 = (0, p + 1, num s p 1) := by unfold ub; rw [if_neg s1]
    rw [hub] at H1
    have H1 : Hid (∀ _ : Unit, Calls Tryd.prog 41 #[.pointer (some ⟨u, 0, none⟩), .int .i64 (1 : Nat)] w fun e w' => UF K w w' ∧ e = .returned (.int .i64 (num s p 1 : Nat)) ∧ US w' K u b s (p + 1) l most v f1 f2) := fun _ => H1.mono fun e w' hh => ⟨hh.1, by rcases hh.2 with a | a; exact (a.1 rfl).elim; exact a.2⟩
    obtain ⟨la, hla⟩ : ∃ x, num s p 1 = x := ⟨_, rfl⟩
    have hla2 : la < 2 := by rw [← hla]; exact num_lt s p 1
    rw [hla] at H1 ⊢
    have hdec : decide ((la : Int) = 1) = decide (la = 1) := by
      by_cases e : la = 1
      · rw [e]; rfl
      · rw [decide_eq_false e, decide_eq_false (by omega)]
    have hdec2 : ((la : Int) == 1) = decide (la = 1) := by rw [← hdec]; rfl
    obtain ⟨lb, hlb⟩ : ∃ x, decide (la = 1) = x := ⟨_, rfl⟩
    rw [hlb] at hdec hdec2 ⊢
    clear hub hla hlb
    by_cases s2 : 8 * s.size < p + 3
    · rw [if_pos s2] at hr
      have HE : Hid (r = (5, p, l)) := hr.symm
      have H2 : Hid (∀ W, US W K u b s (p + 1) l most v f1 f2 → Calls Tryd.prog 41 #[.pointer (some ⟨u, 0, none⟩), .int .i64 (2 : Nat)] W fun e w' => UF K W w' ∧ e = .panicked (gave (5 : Nat))) := fun W hW => (unum_ok W K u b s (p + 1) l most v f1 f2 hW 2 (by omega)).mono fun e w' hh => by
        have hub : ub s (p + 1) 2 = (5, p + 1, 0) := by unfold ub; rw [if_pos (by omega)]
        rw [hub] at hh
        exact ⟨hh.1, by rcases hh.2 with a | a; exact a.2; exact (by cases a.1)⟩
      clear hr HT
      go_enter Tryd.func31, Tryd.ntmps31
      go_wp2_with fail
      refine (H1.out ()).mono ?_
      rintro e w1 ⟨hf, rfl, hu⟩
      have HC : Hid (∀ _ : Unit, Calls Tryd.prog 41 #[.pointer (some ⟨u, 0, none⟩), .int .i64 (2 : Nat)] w1 fun e w' => UF K w1 w' ∧ e = .panicked (gave (5 : Nat))) := fun _ => H2.out w1 hu
      have HF : Hid (UF K w w1) := hf
      clear hf hu H1 H2
      go_wp2_with fail
      refine (HC.out ()).mono ?_
      rintro e w2 ⟨hf, rfl⟩
      have HF2 : Hid (UF K w w2) := HF.out.trans hf
      clear hf
      go_wp2
      exact ⟨rfl, block_bad HF2.out HE.out (by decide)⟩
    · rw [if_neg s2] at hr
      have H2 : Hid (∀ W, US W K u b s (p + 1) l most v f1 f2 → Calls Tryd.prog 41 #[.pointer (some ⟨u, 0, none⟩), .int .i64 (2 : Nat)] W fun e w' => UF K W w' ∧ e = .returned (.int .i64 (num s (p + 1) 2 : Nat)) ∧ US w' K u b s (p + 3) l most v f1 f2) := fun W hW => (unum_ok W K u b s (p + 1) l most v f1 f2 hW 2 (by omega)).mono fun e w' hh => by
        have hub : ub s (p + 1) 2 = (0, p + 3, num s (p + 1) 2) := by unfold ub; rw [if_neg (by omega)]
        rw [hub] at hh
        exact ⟨hh.1, by rcases hh.2 with a | a; exact (a.1 rfl).elim; exact a.2⟩
      obtain ⟨kd, hkd⟩ : ∃ x, num s (p + 1) 2 = x := ⟨_, rfl⟩
      have hk4 : kd < 4 := by rw [← hkd]; exact num_lt s (p + 1) 2
      rw [hkd] at H2 hr HT
      clear hkd
      go_enter Tryd.func31, Tryd.ntmps31
      go_wp2_with fail
      refine (H1.out ()).mono ?_
      rintro e w1 ⟨hf, rfl, hu⟩
      have HC : Hid (∀ _ : Unit, Calls Tryd.prog 41 #[.pointer (some ⟨u, 0, none⟩), .int .i64 (2 : Nat)] w1 fun e w' => UF K w1 w' ∧ e = .returned (.int .i64 (kd : Nat)) ∧ US w' K u b s (p + 3) l most v f1 f2) := fun _ => H2.out w1 hu
      have HF : Hid (UF K w w1) := hf
      clear hf hu H1 H2
      go_wp2_with fail
      refine (HC.out ()).mono ?_
      rintro e w2 ⟨hf, rfl, hu⟩
      have HF2 : Hid (UF K w w2 ∧ US w2 K u b s (p + 3) l most v f1 f2) := ⟨HF.out.trans hf, hu⟩
      clear hf hu HC HF
      by_cases k0 : kd = 0
      · rw [if_pos k0] at hr
        subst k0
        have HR : Hid (storedF s (p + 3) l most = r) := hr
        have HS : Hid (∀ _ : Unit, Calls Tryd.prog 42 #[.pointer (some ⟨u, 0, none⟩)] w2 fun e w' => StoredEnd K u b s most f1 f2 w2 r e w') := fun _ => by rw [← HR.out]; exact stored_ok w2 K u b s (p + 3) l most v f1 f2 HF2.out.2 hm H0.out.2.2
        clear hr HT
        go_wp2_with fail
        refine (HS.out ()).mono ?_
        rintro e w3 ⟨hf, ⟨hq, rfl⟩ | ⟨h0, rfl, v4, hu1⟩⟩
        · have HF3 : Hid (UF K w w3 ∧ r.1 ≠ 0) := ⟨HF2.out.1.trans hf, hq⟩
          clear hf hq HS
          go_wp2
          exact ⟨rfl, HF3.out.1, .inl ⟨HF3.out.2, rfl⟩⟩
        · have HF3 : Hid (BlockEnd K u b s most w r lb (.returned (.bool lb)) w3) := ⟨HF2.out.1.trans hf, .inr ⟨h0, rfl, K, v4, f1, f2, fun k a => a, hu1, H0.out.2.1.keep (HF2.out.1.trans hf) (fun k a => a)⟩⟩
          clear hf h0 hu1 HS
          go_wp2
          go_ret
          exact HF3.out
      · rw [if_neg k0] at hr
        have k0i : ¬ (kd : Int) = 0 := by omega
        have k0b : ((kd : Int) == 0) = false := by simpa using k0i
        by_cases k1 : kd = 1
        · rw [if_pos k1] at hr
          subst k1
          have HR : Hid (packF fixS fixD s most (8 * s.size + 1 - (p + 3)) (p + 3) l = r) := hr
          have HS : Hid (∀ _ : Unit, Calls Tryd.prog 44 #[.pointer (some ⟨u, 0, none⟩)] w2 fun e w' => FixEnd w2 K u b s (p + 3) l most v e w') := fun _ => fixedCodes_ok w2 K u b s (p + 3) l most v f1 f2 HF2.out.2 (H0.out.2.1.keep HF2.out.1 (fun k a => a))
          clear hr HT k0i k0b
          go_wp2_with fail
          refine (HS.out ()).mono ?_
          rintro e w3 ⟨K', t1, t2, rfl, hk, hu, hf, hT1, hT2⟩
          have HPK : Hid (∀ _ : Unit, Calls Tryd.prog 43 #[.pointer (some ⟨u, 0, none⟩), .agg #[.pointer (some ⟨t1, 0, none⟩), .pointer (some ⟨t2, 0, none⟩)]] w3 fun e w' => StoredEnd K' u b s most (.pointer (some ⟨t1, 0, none⟩)) (.pointer (some ⟨t2, 0, none⟩)) w3 r e w') := fun _ => by rw [← HR.out]; exact packed_ok w3 K' u b s (p + 3) l most v _ _ hu hm H0.out.2.2 t1 t2 fixS fixD hT1 hT2
          have HF3 : Hid (UF K w w3 ∧ (∀ k, K k → K' k) ∧ TabK w3 K' t1 fixS ∧ TabK w3 K' t2 fixD) := ⟨HF2.out.1.trans hf, hk, hT1, hT2⟩
          clear hk hu hf hT1 hT2 HS
          go_wp2_with fail
          refine (HPK.out ()).mono ?_
          rintro e w4 ⟨hf, ⟨hq, rfl⟩ | ⟨h0, rfl, v4, hu1⟩⟩
          · have HF4 : Hid (UF K w w4 ∧ r.1 ≠ 0) := ⟨HF3.out.1.trans (hf.less HF3.out.2.1), hq⟩
            clear hf hq HPK
            go_wp2
            exact ⟨rfl, HF4.out.1, .inl ⟨HF4.out.2, rfl⟩⟩
          · have HF4 : Hid (BlockEnd K u b s most w r lb (.returned (.bool lb)) w4) := ⟨HF3.out.1.trans (hf.less HF3.out.2.1), .inr ⟨h0, rfl, K', v4, _, _, HF3.out.2.1, hu1, .inr ⟨t1, t2, rfl, rfl, HF3.out.2.2.1.keep hf, HF3.out.2.2.2.keep hf⟩⟩⟩
            clear hf h0 hu1 HPK
            go_wp2
            go_ret
            exact HF4.out
        · rw [if_neg k1] at hr
          have k1i : ¬ (kd : Int) = 1 := by omega
          have k1b : ((kd : Int) == 1) = false := by simpa using k1i
          by_cases k2 : kd = 2
          · rw [if_pos k2] at hr
            have HTC : Hid (∀ _ : Unit, Calls Tryd.prog 45 #[.pointer (some ⟨u, 0, none⟩)] w2 fun e w' => ToldEnd K u b s l most v f1 f2 w2 (told (p + 3)) e w') := fun _ => HT.out k2 w2 HF2.out.1 HF2.out.2
            subst k2
            obtain ⟨⟨er, p1, c, d⟩, htd⟩ : ∃ r, told (p + 3) = r := ⟨_, rfl⟩
            rw [htd] at hr HTC
            have HR : Hid ((if er ≠ 0 then ((er, p, l) : Nat × Nat × List Nat) else packF c d s most (8 * s.size + 1 - p1) p1 l) = r) := hr
            clear hr HT k0i k0b k1i k1b htd
            go_wp2_with fail
            refine (HTC.out ()).mono ?_
            rintro e w3 ⟨hf, ⟨hq, rfl⟩ | ⟨h0, K', t1, t2, rfl, hk, hu, hT1, hT2⟩⟩
            · have HF3 : Hid (UF K w w3 ∧ er ≠ 0) := ⟨HF2.out.1.trans hf, hq⟩
              clear hf hq HTC
              go_wp2
              have hr := HR.out
              rw [if_pos HF3.out.2] at hr
              exact ⟨rfl, block_bad HF3.out.1 hr.symm HF3.out.2⟩
            · have h0 : er = 0 := h0
              have hr := HR.out
              rw [if_neg (fun h => h h0)] at hr
              have HR : Hid (packF c d s most (8 * s.size + 1 - p1) p1 l = r) := hr
              have HPK : Hid (∀ _ : Unit, Calls Tryd.prog 43 #[.pointer (some ⟨u, 0, none⟩), .agg #[.pointer (some ⟨t1, 0, none⟩), .pointer (some ⟨t2, 0, none⟩)]] w3 fun e w' => StoredEnd K' u b s most f1 f2 w3 r e w') := fun _ => by rw [← HR.out]; exact packed_ok w3 K' u b s p1 l most v _ _ hu hm H0.out.2.2 t1 t2 c d hT1 hT2
              have HF3 : Hid (UF K w w3 ∧ (∀ k, K k → K' k)) := ⟨HF2.out.1.trans hf, hk⟩
              clear hk hu hf hT1 hT2 HTC hr h0
              go_wp2_with fail
              refine (HPK.out ()).mono ?_
              rintro e w4 ⟨hf, ⟨hq, rfl⟩ | ⟨h0, rfl, v4, hu1⟩⟩
              · have HF4 : Hid (UF K w w4 ∧ r.1 ≠ 0) := ⟨HF3.out.1.trans (hf.less HF3.out.2), hq⟩
                clear hf hq HPK
                go_wp2
                exact ⟨rfl, HF4.out.1, .inl ⟨HF4.out.2, rfl⟩⟩
              · have HF4 : Hid (BlockEnd K u b s most w r lb (.returned (.bool lb)) w4) := ⟨HF3.out.1.trans (hf.less HF3.out.2), .inr ⟨h0, rfl, K', v4, _, _, HF3.out.2, hu1, H0.out.2.1.keep (HF3.out.1.trans (hf.less HF3.out.2)) HF3.out.2⟩⟩
                clear hf h0 hu1 HPK
                go_wp2
                go_ret
                exact HF4.out
          · rw [if_neg k2] at hr
            have k2i : ¬ (kd : Int) = 2 := by omega
            have k2b : ((kd : Int) == 2) = false := by simpa using k2i
            have HE : Hid (r = (40, p, l)) := hr.symm
            clear hr HT
            go_wp2_with fail
            refine (check_no 40 (by decide) w2).mono ?_
            rintro e w3 ⟨rfl, hw⟩
            obtain rfl := hw.symm
            go_wp2
            exact ⟨rfl, block_bad HF2.out.1 HE.out (by decide)⟩
end Go.Proofs.YtchjnfckcfikkaaDoor
