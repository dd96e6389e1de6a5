/- A symbol is read by a table. -/
import Derived.Test.YtchjnfckcfikkaaDoorUd
namespace Go.Proofs.YtchjnfckcfikkaaDoor
open Go.RowKit
set_option linter.unusedVariables false

theorem Tab.cell {w : World} {lo hi t : Nat} {ns : List Nat} {R : Nat → Value} (h : Tab w lo hi t ns R) {k : Nat} (hk : k < 18) : w.cell? ⟨t, k + 1, none⟩ = some (R k) := by
  have h1 := h.blk
  have h2 := tcs_get t (ew ns 15) R (k + 1) (by omega)
  rw [if_neg (by omega), if_neg (by omega), Nat.add_sub_cancel] at h2
  unfold World.cell?
  rw [h1]; exact h2
theorem Tab.self {w : World} {lo hi t : Nat} {ns : List Nat} {R : Nat → Value} (h : Tab w lo hi t ns R) : w.cell? ⟨t, 0, none⟩ = some (.pointer (some ⟨t, 0, none⟩)) := by
  have h1 := h.blk
  have h2 := tcs_get t (ew ns 15) R 0 (by omega)
  unfold World.cell?
  rw [h1]; exact h2
theorem Tab.share {w : World} {lo hi t : Nat} {ns : List Nat} {R : Nat → Value} (h : Tab w lo hi t ns R) : w.cell? ⟨t, 19, none⟩ = some (.int .i64 (ew ns 15 : Nat)) := by
  have h1 := h.blk
  have h2 := tcs_get t (ew ns 15) R 19 (by omega)
  unfold World.cell?
  rw [h1]; exact h2
theorem eqSelfT (a : Addr) (w : World) : (binOp .eql 47 (.pointer (some a)) (.pointer (some a))).run Tryd.prog w = .ok (.bool true) w := by
  obtain ⟨j, hj⟩ : ∃ j, Tryd.prog.info? 106 = some j := Option.isSome_iff_exists.1 (by kernel_rfl)
  exact run_eql_ptr_same w a Tryd.underlying47 hj
theorem eqNilT (a : Addr) (w : World) : (binOp .eql 47 (.pointer none) (.pointer (some a))).run Tryd.prog w = .ok (.bool false) w :=
  eql_nil_ptr w a Tryd.underlying47
theorem tgiven_yes (b : Nat) (w : World) (h0 : w.cell? ⟨b, 0, none⟩ = some (.pointer (some ⟨b, 0, none⟩))) :
    Calls Tryd.prog 72 #[.pointer (some ⟨b, 0, none⟩)] w fun e w' => e = .returned (.bool true) ∧ w' = w := by
  have e1 := eqSelfT ⟨b, 0, none⟩
  go_enter Tryd.func72, Tryd.ntmps72
  go_wp2
  go_ret
  exact ⟨rfl, rfl⟩
theorem tgiven_zero (b : Nat) (w : World) (h0 : w.cell? ⟨b, 0, none⟩ = some (.pointer none)) :
    Calls Tryd.prog 72 #[.pointer (some ⟨b, 0, none⟩)] w fun e w' => e = .returned (.bool false) ∧ w' = w := by
  have e1 := eqNilT ⟨b, 0, none⟩
  go_enter Tryd.func72, Tryd.ntmps72
  go_wp2
  go_ret
  exact ⟨rfl, rfl⟩
theorem tgiven_nil (w : World) :
    Calls Tryd.prog 72 #[.pointer none] w fun e w' => e = .returned (.bool false) ∧ w' = w := by
  go_enter Tryd.func72, Tryd.ntmps72
  go_wp2
  go_ret
  exact ⟨rfl, rfl⟩

theorem sym_len (ns : List Nat) (l : Nat) : fstW ns l + (symsOf ns l ns.length).length = ew ns l := by
  cases l with
  | zero => rw [symsOf_zero]; rfl
  | succ l => rw [symsOf_length ns (l + 1) (by omega)]; rfl
/-- How a reading of a symbol stands: l bits taken, x. -/
structure SymSt (w wr : World) (lo hi t b : Nat) (ns : List Nat) (R : Nat → Value) (s : ByteArray) (p l x : Nat) : Prop where
  tab : Tab wr lo hi t ns R
  rs : RS wr b s (p + l)
  only : Only b w wr
  ge : fstW ns l ≤ x
  lt : x < 2 ^ l
  pl : p + l ≤ 8 * s.size
  same : rdS ns s p (16 - l) l x = rd ns s p
set_option maxRecDepth 20000 in
set_option maxHeartbeats 4000000 in
theorem symbol_ok (lo hi t b : Nat) (ns : List Nat) (R : Nat → Value) (s : ByteArray) (p : Nat) (w : World) (ht : Tab w lo hi t ns R) (hr : RS w b s p) (hbn : b < lo ∨ hi ≤ b) (hp : p ≤ 8 * s.size) (hs : s.size ≤ 281474976710656) (hn : ns.length ≤ 288) (hfit : ew ns 15 ≤ 32768) (hhi : hi ≤ w.heap.size) :
    Calls Tryd.prog 67 #[.pointer (some ⟨t, 0, none⟩), .pointer (some ⟨b, 0, none⟩)] w fun e w' =>
      e = .returned (.tuple #[.int .i64 ((rd ns s p).1 : Nat), .int .i64 ((rd ns s p).2.2 : Nat)]) ∧ RS w' b s (p + (rd ns s p).2.1) ∧ p + (rd ns s p).2.1 ≤ 8 * s.size ∧ Only b w w' := by
  have HT : Hid (Tab w lo hi t ns R) := ht
  have HR : Hid (RS w b s p) := hr
  have HRB : Hid (∀ _ : Unit, Calls Tryd.prog 50 #[.pointer (some ⟨b, 0, none⟩), .int .i64 (0 : Nat)] w fun e w' => e = .returned (.tuple #[.int .i64 (num s p 0 : Nat), .int .i64 0]) ∧ RS w' b s (p + 0) ∧ Only b w w') := fun _ => rbits b s p 0 w (by omega) (by omega) hs hr
  clear ht hr
  go_enter Tryd.func67, Tryd.ntmps67
  go_wp2_with fail
  refine (HRB.out ()).mono ?_
  rintro e w1 ⟨rfl, hr1, ho1⟩
  have h1 : SymSt w w1 lo hi t b ns R s p 0 0 := ⟨HT.out.keep (fun k h2 h3 => ho1.block k (by omega) (by omega)), hr1, ho1, Nat.le_refl _, by simp, by omega, rfl⟩
  have H1 : Hid (SymSt w w1 lo hi t b ns R s p 0 0) := h1
  have hself := h1.tab.self
  clear h1 hr1 ho1
  go_wp2_with (go_at_call 72; refine (tgiven_yes _ _ hself).mono ?_; rintro e w' ⟨rfl, hw⟩; obtain rfl := hw.symm)
  clear hw hself HRB HT HR
  go_loopw [8, 9, 10, 11, 12, 13, 14, 27] (fun v8 v9 _ _ _ _ _ v27 wr => ∃ l x F : Nat, v27 = .int .i64 l ∧ v8 = .int .i64 x ∧ v9 = .int .i64 F ∧ l ≤ 16 ∧ x < 65536 ∧ F ≤ x ∧ Hid (SymSt w wr lo hi t b ns R s p l x ∧ fstW ns l = F)) (fun _ _ _ _ _ _ _ v27 _ => 17 - (intOf v27).toNat)
  case atStart => exact ⟨0, 0, 0, rfl, rfl, rfl, by omega, by omega, by omega, H1.out, rfl⟩
  case round =>
    obtain ⟨l, x, F, rfl, rfl, rfl, hl, hx16, hFx, HS⟩ := hrel
    by_cases hlt : l < 16
    · have hlti : (l : Int) < 16 := by omega
      obtain ⟨ao, cap, hRv, hrow⟩ := HS.out.1.tab.rows (l + 2) (by omega)
      have c1 := HS.out.1.tab.cell (k := l + 2) (by omega)
      have htx : tX ns ns.length (l + 2) = symsOf ns l ns.length := by unfold tX; rw [if_neg (by omega), if_neg (by omega), Nat.add_sub_cancel]
      rw [htx] at hrow hRv
      have hsl := sym_len ns l
      obtain ⟨n, hnn⟩ : ∃ n, (symsOf ns l ns.length).length = n := ⟨_, rfl⟩
      rw [hnn] at hRv hrow hsl
      rw [hRv, show l + 2 + 1 = 3 + l by omega] at c1
      have hn288 : n ≤ 288 := by rw [← hnn]; exact Nat.le_trans (Nat.le_trans (List.length_filter_le _ _) (by simp)) hn
      have hF := HS.out.2
      rw [hF] at hsl
      obtain ⟨at_, hat⟩ : ∃ a, x - F = a := ⟨_, rfl⟩
      have hati : (x : Int) - (F : Int) = (at_ : Int) := by omega
      have wat : IntKind.i64.wrap ((x : Int) - (F : Int)) = (at_ : Int) := by rw [IntKind.wrap_i64]; omega
      have hrd := HS.out.1.same
      rw [show 16 - l = (15 - l) + 1 by omega] at hrd
      simp only [rdS] at hrd
      by_cases hin : at_ < n
      · have hini : (at_ : Int) < (n : Int) := by omega
        rw [if_pos (by omega)] at hrd
        rcases hrow with h0 | ⟨g, hao, hg1, hg2, hcells⟩
        · omega
        · subst hao
          have c2 := hcells at_ hin
          have hsw : (symsOf ns l ns.length).getD at_ 0 = symW ns l x := by unfold symW; rw [hF, hat]
          rw [hsw] at c2
          have HE : Hid (rd ns s p = (symW ns l x, l, 0) ∧ SymSt w wr lo hi t b ns R s p l x) := ⟨hrd.symm, HS.out.1⟩
          obtain ⟨sy, hsy⟩ : ∃ y, symW ns l x = y := ⟨_, rfl⟩
          rw [hsy] at c2 HE
          clear hrd hcells hsw hsy hat hati hnn htx hRv hsl hF
          go_wp2
          go_ret2
          refine ⟨by rw [HE.out.1]; rfl, ?_, ?_, HE.out.2.only⟩
          · rw [HE.out.1]; exact HE.out.2.rs
          · rw [HE.out.1]; exact HE.out.2.pl
      · have hini : ¬ (at_ : Int) < (n : Int) := by omega
        rw [if_neg (by omega)] at hrd
        have c3 := HS.out.1.tab.share
        obtain ⟨S, hS⟩ : ∃ S, ew ns 15 = S := ⟨_, rfl⟩
        rw [hS] at c3 hrd hfit
        obtain ⟨d, hd⟩ : ∃ d : Nat, 15 - l = d := ⟨_, rfl⟩
        have hdi : (15 : Int) - (l : Int) = (d : Int) := by omega
        have hdw : IntKind.i64.wrap ((15 : Int) - (l : Int)) = (d : Int) := by rw [IntKind.wrap_i64]; omega
        rw [hd] at hrd
        obtain ⟨T, hT⟩ : ∃ T, x * 2 ^ d = T := ⟨_, rfl⟩
        have hTb : T ≤ 32768 := by
          rw [← hT, ← hd, show 32768 = 2 ^ l * 2 ^ (15 - l) by rw [← Nat.pow_add, show l + (15 - l) = 15 by omega]]
          exact Nat.mul_le_mul_right _ (Nat.le_of_lt HS.out.1.lt)
        have hsh : IntKind.i64.wrap ((x : Int) * 2 ^ d) = (T : Int) := by
          have e : ((x : Int) * 2 ^ d) = ((x * 2 ^ d : Nat) : Int) := by simp
          rw [e, hT, IntKind.wrap_i64]; omega
        have hsh2 : wrap64 ((x : Int) * 2 ^ d) = (T : Int) := by
          have e : ((x : Int) * 2 ^ d) = ((x * 2 ^ d : Nat) : Int) := by simp
          rw [e, hT]; unfold wrap64; omega
        rw [hT] at hrd
        by_cases hge : S ≤ T
        · have hgei : (S : Int) ≤ (T : Int) := Int.ofNat_le.2 hge
          rw [if_pos hge] at hrd
          have HE : Hid (rd ns s p = (0, l, 30) ∧ SymSt w wr lo hi t b ns R s p l x) := ⟨hrd.symm, HS.out.1⟩
          clear hrd hT hd hS hat hnn htx hRv hsl hF hrow
          go_wp2
          go_quiet (fail)
          go_wp2
          go_ret2
          refine ⟨by rw [HE.out.1]; rfl, ?_, ?_, HE.out.2.only.drewN nq⟩
          · rw [HE.out.1]; exact HE.out.2.rs.drewN nq
          · rw [HE.out.1]; exact HE.out.2.pl
        · have hgei : ¬ (S : Int) ≤ (T : Int) := fun h => hge (Int.ofNat_le.1 h)
          rw [if_neg hge] at hrd
          have HRD : Hid ((if 8 * s.size ≤ p + l then ((0, l, 5) : Nat × Nat × Nat) else rdS ns s p d (l + 1) (2 * x + bitAt s (p + l))) = rd ns s p ∧ 15 - l = d ∧ fstW ns (l + 1) = 2 * (F + n)) := ⟨hrd, hd, by rw [fstW_ew ns (l + 1) (by omega), Nat.add_sub_cancel, ← hsl]⟩
          have HXX : Hid (F + n ≤ x) := by show _ ≤ _; omega
          have hl15 : l < 15 := by
            rcases Nat.lt_or_ge l 15 with h | h
            · exact h
            · exfalso
              have e : l = 15 := by omega
              subst e
              apply hge
              rw [← hT, ← hd, ← hS, ← hsl]
              simp
              omega
          clear hrd hT hd hS hat hnn htx hRv hsl hF hrow
          by_cases hsh5 : 8 * s.size ≤ p + l
          · have HE : Hid (rd ns s p = (0, l, 5)) := by
              show _ = _
              rw [← HRD.out.1, if_pos hsh5]
            have HB : Hid (∀ nq, Calls Tryd.prog 50 #[.pointer (some ⟨b, 0, none⟩), .int .i64 (1 : Nat)] (wr.drewN nq) fun e w' => e = .returned (.tuple #[.int .i64 0, .int .i64 5]) ∧ ∃ k, w' = (wr.drewN nq).drewN k) := fun nq => rbits_short b s (p + l) 1 _ (by omega) HS.out.1.pl (by omega) hs (HS.out.1.rs.drewN nq)
            go_wp2
            go_quiet (fail)
            go_wp2_with fail
            refine (HB.out nq).mono ?_
            rintro e w2 ⟨rfl, k, rfl⟩
            go_wp2
            go_ret2
            refine ⟨by rw [HE.out]; rfl, ?_, ?_, HS.out.1.only.drewN (nq + k)⟩
            · rw [HE.out]; exact HS.out.1.rs.drewN (nq + k)
            · rw [HE.out]; exact HS.out.1.pl
          · have HB : Hid (∀ nq, Calls Tryd.prog 50 #[.pointer (some ⟨b, 0, none⟩), .int .i64 (1 : Nat)] (wr.drewN nq) fun e w' => e = .returned (.tuple #[.int .i64 (bitAt s (p + l) : Nat), .int .i64 0]) ∧ RS w' b s (p + l + 1) ∧ Only b (wr.drewN nq) w') := fun nq => by
              have h := rbits b s (p + l) 1 (wr.drewN nq) (by omega) (by omega) hs (HS.out.1.rs.drewN nq)
              rw [show num s (p + l) 1 = bitAt s (p + l) by simp [num]] at h
              exact h
            have hbt := bitAt_lt s (p + l)
            have hrd2 := HRD.out.1
            rw [if_neg hsh5] at hrd2
            obtain ⟨bt, hbb⟩ : ∃ y, bitAt s (p + l) = y := ⟨_, rfl⟩
            rw [hbb] at HB hbt hrd2
            have NX : Hid (∀ nq w2, RS w2 b s (p + l + 1) → Only b (wr.drewN nq) w2 → SymSt w w2 lo hi t b ns R s p (l + 1) (2 * x + bt) ∧ fstW ns (l + 1) = 2 * (F + n)) := fun nq w2 h1 h2 => by
              refine ⟨⟨HS.out.1.tab.keep (fun k h3 h4 => ?_), h1, HS.out.1.only.trans h2.undrew, ?_, ?_, by omega, ?_⟩, HRD.out.2.2⟩
              · exact h2.block k (show k < wr.heap.size by have := HS.out.1.only.size; omega) (by omega)
              · rw [HRD.out.2.2]; have := HXX.out; omega
              · have := HS.out.1.lt; rw [Nat.pow_succ]; omega
              · rw [show 16 - (l + 1) = d by have := HRD.out.2.1; omega]; exact hrd2
            have hx15 : x < 32768 := Nat.lt_of_lt_of_le HS.out.1.lt (Nat.le_trans (Nat.pow_le_pow_right (by omega) (show l ≤ 15 by omega)) (by decide))
            have HXB : Hid (F + n ≤ x ∧ 2 * (F + n) ≤ 2 * x + bt) := ⟨HXX.out, by have := HXX.out; omega⟩
            clear hbb hrd2
            go_wp2
            go_quiet (fail)
            go_wp2_with fail
            refine (HB.out nq).mono ?_
            rintro e w2 ⟨rfl, h1, h2⟩
            have H2 := NX.out nq w2 h1 h2
            have H2 : Hid _ := H2
            clear h1 h2
            go_wp2
            exact ⟨⟨l + 1, 2 * x + bt, 2 * (F + n), by go_num, by go_num, by go_num, by omega, by omega, HXB.out.2, H2⟩, by simp [intOf]; omega⟩
    · obtain rfl : l = 16 := by omega
      have HE : Hid (rd ns s p = (0, 16, 30)) := by
        show _ = _
        rw [← HS.out.1.same]; rfl
      go_wp2
      go_ret2
      refine ⟨by rw [HE.out]; rfl, ?_, ?_, HS.out.1.only⟩
      · rw [HE.out]; exact HS.out.1.rs
      · rw [HE.out]; exact HS.out.1.pl
end Go.Proofs.YtchjnfckcfikkaaDoor
