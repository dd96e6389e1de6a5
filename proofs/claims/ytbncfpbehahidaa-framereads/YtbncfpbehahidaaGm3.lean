/- Layer 7: the document's Unpack of whatever bytes, the walk. -/
import Derived.Test.YtbncfpbehahidaaGm2
import Derived.Deep.CutRange
namespace Go.Proofs.Ytbncfpbehahidaa
open Go.RowKit
set_option linter.unusedVariables false
set_option maxRecDepth 20000

theorem unpack_len (s : ByteArray) (most : Nat) : (unpack s most).2.length ≤ most := unpF_len s most _ _ _ (Nat.zero_le _)
theorem if_min20 (M : Nat) : (if (1048576 : Int) < (M : Int) then (1048576 : Int) else (M : Int)) = ((min M 1048576 : Nat) : Int) := by split <;> omega
theorem lzR_bad2 {r : Nat × List Nat} {q : Nat} (h : r.1 = q) (hq : q ≠ 0) : lzR r = .tuple #[.string ⟨#[]⟩, .int .i64 (q : Nat)] := by
  unfold lzR; rw [if_neg (by rw [h]; exact hq), h]
theorem bl_arith (S : ByteArray) (a4 n : Nat) (hS : S.size ≤ 140737488351232) (h4 : a4 ≤ S.size) (hn : n ≤ 4294967296) : ∃ q a5 a6 : Nat, q = S.size - a4 ∧ a4 + n = a5 ∧ a5 + 4 = a6 ∧ ((S.size : Int) - (a4 : Int) = (q : Int) ∧ wrap64 (q : Int) = (q : Int)) ∧ ((a4 : Int) + (n : Int) = (a5 : Int) ∧ wrap64 (a5 : Int) = (a5 : Int)) ∧ ((a5 : Int) + 4 = (a6 : Int) ∧ wrap64 (a6 : Int) = (a6 : Int)) :=
  ⟨S.size - a4, a4 + n, a4 + n + 4, rfl, rfl, rfl, ⟨by omega, wrapN64 _ (by omega)⟩, ⟨by omega, wrapN64 _ (by omega)⟩, ⟨by omega, wrapN64 _ (by omega)⟩⟩
theorem hcells4 {w W : World} {hb : Nat} {bk al : Bool} {sv : Int} {M P : Nat} (h : W.heap[hb]? = some (.cells #[.bool bk, .bool al, .int .i64 sv, .int .i64 (M : Nat), .int .i64 (P : Nat)] 41 (0, 0)) ∧ Below w.heap.size w W) : W.cell? ⟨hb, 0, none⟩ = some (.bool bk) ∧ W.cell? ⟨hb, 1, none⟩ = some (.bool al) ∧ W.cell? ⟨hb, 2, none⟩ = some (.int .i64 sv) ∧ W.cell? ⟨hb, 3, none⟩ = some (.int .i64 (M : Nat)) := by
  have h := h.1
  exact ⟨by simp [World.cell?, h], by simp [World.cell?, h], by simp [World.cell?, h], by simp [World.cell?, h]⟩
theorem meas_lt {s a b : Nat} (h1 : b ≤ s) (h2 : a < b) : s - b < s - a := by omega
/-- A head that begins told, in memory. -/
theorem frame_on {w wr w' : World} {hb : Nat} {cs : Array Value} (h : wr.heap[hb]? = some (.cells cs 41 (0, 0)) ∧ Below w.heap.size w wr) (hb' : Below wr.heap.size wr w') : w'.heap[hb]? = some (.cells cs 41 (0, 0)) ∧ Below w.heap.size w w' :=
  ⟨(hb'.block _ (lt_of_block h.1)).trans h.1, h.2.trans (hb'.mono h.2.size)⟩
set_option maxHeartbeats 8000000 in
theorem runpack_ok (S : ByteArray) (most : Nat) (w : World) (hS : S.size ≤ 140737488351232) (hm : most ≤ 1048576) :
    Calls Try.prog 10 #[.string S, .int .i64 (most : Nat)] w fun e w' => e = .returned (frR (unpackF S most)) ∧ Below w.heap.size w w' := by
  have hm0 : decide ((most : Int) < 0) = false := by simp
  have hm1 : ¬ (most : Int) < 0 := by omega
  have hm2 : ¬ (1048576 : Int) < (most : Int) := by omega
  have hB := begins_ok S most w hS
  obtain ⟨qh, hqh⟩ : ∃ q, turnF headP (d0 S most) = q := ⟨_, rfl⟩
  rw [hqh] at hB
  by_cases h0 : qh.1 = 0
  case neg =>
    obtain ⟨E, hE⟩ : ∃ E, qh.1 = E := ⟨_, rfl⟩
    rw [hE] at h0
    rw [bgR_bad hE h0] at hB
    have HB : Hid (∀ _ : Unit, Calls Try.prog 23 #[.string S] w fun e w' => e = .returned (.tuple #[bzero, .int .i64 (E : Nat)]) ∧ Below w.heap.size w w') := fun _ => hB
    have hEb : ((E : Int) != 0) = true := by simp; exact h0
    have HR : Hid (frR (unpackF S most) = .tuple #[.string ⟨#[]⟩, .int .i64 0, .int .i64 (E : Nat)]) := fin_head (by rw [hqh]; exact hE) h0
    rw [HR.out]
    clear hB hqh hE h0 hS hm
    go_enter Try.func10, Try.ntmps10
    go_wp2_with fail
    refine (HB.out ()).mono ?_
    rintro e w1 ⟨rfl, hb1⟩
    have H1 : Hid (Below w.heap.size w w1) := hb1
    clear hb1
    unfold bzero
    go_wp2
    go_ret3
    exact ⟨rfl, H1.out.alloc H1.out.size _⟩
  case pos =>
    obtain ⟨P, f, M, sz, hsh, hP, hM1, hM2, hszl⟩ := head_shape S most (by rw [hqh]; exact h0)
    rw [hqh] at hsh
    obtain ⟨q0, q1⟩ := qh
    simp only at h0 hsh
    subst h0
    subst hsh
    obtain ⟨G, hG⟩ : ∃ G, gBlocks ⟨S, P, most, f, M, sz, 0, ⟨#[]⟩, []⟩ = G := ⟨_, rfl⟩
    have h01 : (turnF headP (d0 S most)).1 = 0 := by rw [hqh]
    have h02 : (turnF headP (d0 S most)).2 = ⟨S, P, most, f, M, sz, 0, ⟨#[]⟩, []⟩ := by rw [hqh]
    have HFin : Hid (∀ E, E ≠ 0 → G.1 = E → frR (unpackF S most) = .tuple #[.string ⟨#[]⟩, .int .i64 0, .int .i64 (E : Nat)]) := fun E hE hg => fin_bad h01 h02 (t3_bad (by rw [hG]; exact hg) hE) hE
    have HSzB : Hid (∀ d, G = (0, d) → (d.flags / 8 % 2 = 1 ∧ d.size ≠ d.plain.length) → frR (unpackF S most) = .tuple #[.string ⟨#[]⟩, .int .i64 0, .int .i64 70]) := fun d hg hs => fin_bad h01 h02 (t3_size (hG.trans hg) hs) (by decide)
    have HAll : Hid (∀ d, G = (0, d) → ¬ (d.flags / 8 % 2 = 1 ∧ d.size ≠ d.plain.length) → turnF tail3 ⟨S, P, most, f, M, sz, 0, ⟨#[]⟩, []⟩ = gAll d) := fun d hg hs => t3_all (hG.trans hg) hs
    have HFB : Hid (∀ E, E ≠ 0 → (turnF tail3 ⟨S, P, most, f, M, sz, 0, ⟨#[]⟩, []⟩).1 = E → frR (unpackF S most) = .tuple #[.string ⟨#[]⟩, .int .i64 0, .int .i64 (E : Nat)]) := fun E hE hg => fin_bad h01 h02 hg hE
    have HFG : Hid (∀ d, turnF tail3 ⟨S, P, most, f, M, sz, 0, ⟨#[]⟩, []⟩ = (0, d) → frR (unpackF S most) = .tuple #[.string (toBA d.plain), .int .i64 (d.pos : Nat), .int .i64 0]) := fun d hg => fin_good h01 h02 hg
    have HR0 : Hid (RdSt S most f M sz G P ⟨#[]⟩) := ⟨S.size + 1, ⟨S, P, most, f, M, sz, 0, ⟨#[]⟩, []⟩, rfl, rfl, rfl, rfl, rfl, rfl, rfl, Nat.zero_le _, hP, by omega, hG⟩
    obtain ⟨bk, hbk⟩ : ∃ b, decide (f / 16 % 2 = 1) = b := ⟨_, rfl⟩
    obtain ⟨al, hal⟩ : ∃ b, decide (f / 4 % 2 = 1) = b := ⟨_, rfl⟩
    obtain ⟨sv, hsv⟩ : ∃ v : Int, (if f / 8 % 2 = 1 then ((sz : Nat) : Int) else -1) = v := ⟨_, rfl⟩
    have HB : Hid (∀ _ : Unit, Calls Try.prog 23 #[.string S] w fun e w' => e = .returned (.tuple #[.agg #[.bool bk, .bool al, .int .i64 sv, .int .i64 (M : Nat), .int .i64 (P : Nat)], .int .i64 0]) ∧ Below w.heap.size w w') := fun _ => by
      rw [← hbk, ← hal, ← hsv]
      exact hB
    have HBk : Hid (decide (f / 16 % 2 = 1) = bk ∧ decide (f / 4 % 2 = 1) = al ∧ (if f / 8 % 2 = 1 then ((sz : Nat) : Int) else -1) = sv) := ⟨hbk, hal, hsv⟩
    have HM : Hid (M ≤ 4194304 ∧ 65536 ≤ M ∧ S.size ≤ 140737488351232 ∧ most ≤ 1048576 ∧ sz ≤ 4611686018427387904) := ⟨hM1, hM2, hS, hm, hszl⟩
    clear hB hqh hsv hbk hal hG h01 h02 hM2 hszl
    go_enter Try.func10, Try.ntmps10
    go_wp2_with fail
    refine (HB.out ()).mono ?_
    rintro e w1 ⟨rfl, hb1⟩
    have H1 : Hid (Below w.heap.size w w1) := hb1
    clear hb1
    go_wp2_with fail
    obtain ⟨hb, hhb⟩ : ∃ x, w1.heap.size = x := ⟨_, rfl⟩
    obtain ⟨W2, hW2⟩ : ∃ W2, w1.alloc (.cells #[.bool bk, .bool al, .int .i64 sv, .int .i64 (M : Nat), .int .i64 (P : Nat)] 41) = W2 := ⟨_, rfl⟩
    have HW2 : Hid (W2.heap[hb]? = some (.cells #[.bool bk, .bool al, .int .i64 sv, .int .i64 (M : Nat), .int .i64 (P : Nat)] 41 (0, 0)) ∧ Below w.heap.size w W2) := ⟨by rw [← hW2, ← hhb]; exact heap_alloc_new _ _, by rw [← hW2]; exact H1.out.alloc H1.out.size _⟩
    try rw [hW2]
    try rw [hhb]
    clear hW2 hhb hm0 hm1 hm2 HB
    go_loopw [9, 10] (fun v9 v10 wl => ∃ (a : Nat) (out : ByteArray), v9 = .int .i64 (a : Nat) ∧ v10 = .string out ∧ a ≤ S.size ∧ out.size ≤ most ∧ Hid (RdSt S most f M sz G a out ∧ (wl.heap[hb]? = some (.cells #[.bool bk, .bool al, .int .i64 sv, .int .i64 (M : Nat), .int .i64 (P : Nat)] 41 (0, 0)) ∧ Below w.heap.size w wl))) (fun v9 _ _ => S.size - (intOf v9).toNat)
    case atStart => exact ⟨P, ⟨#[]⟩, rfl, rfl, hP, Nat.zero_le _, HR0.out, HW2.out⟩
    case round =>
      obtain ⟨a, out, rfl, rfl, haS, hout, HRd⟩ := hrel
      have hai : (a : Int) ≤ (S.size : Int) := by omega
      by_cases hs4 : S.size < a + 4
      · have HFx : Hid (∀ W, Calls Try.prog 13 #[.string (S.extract a S.size), .int .i64 4] W fun e w' => e = .returned (.tuple #[.int .i64 0, .int .i64 5]) ∧ w' = W) := fun W => rnum_short S a 4 (by omega) (by omega) hs4 W
        have HE : Hid (G.1 = 5) := rd_short HRd.out.1 hs4
        go_wp2_with fail
        refine (HFx.out _).mono ?_
        rintro e W ⟨rfl, hW⟩
        obtain rfl := hW.symm
        clear hW
        go_wp2
        go_ret3
        refine ⟨?_, HRd.out.2.2⟩
        rw [HFin.out 5 (by decide) HE.out]; rfl
      · have hs4' : a + 4 ≤ S.size := by omega
        have HFx : Hid (∀ W, Calls Try.prog 13 #[.string (S.extract a S.size), .int .i64 4] W fun e w' => e = .returned (.tuple #[.int .i64 (nF S a 4 : Nat), .int .i64 0]) ∧ w' = W) := fun W => rnum4 S a hs4' W
        have hNl := nF4_lt S a
        obtain ⟨N, hN⟩ : ∃ N, nF S a 4 = N := ⟨_, rfl⟩
        rw [hN] at HFx hNl
        have HN : Hid (nF S a 4 = N) := hN
        obtain ⟨k0, k1, k2, k3⟩ : wr.cell? ⟨hb, 0, none⟩ = some (.bool bk) ∧ wr.cell? ⟨hb, 1, none⟩ = some (.bool al) ∧ wr.cell? ⟨hb, 2, none⟩ = some (.int .i64 sv) ∧ wr.cell? ⟨hb, 3, none⟩ = some (.int .i64 (M : Nat)) := by
          have h := HRd.out.2.1
          exact ⟨by simp [World.cell?, h], by simp [World.cell?, h], by simp [World.cell?, h], by simp [World.cell?, h]⟩
        obtain ⟨a4, ha4⟩ : ∃ x, a + 4 = x := ⟨_, rfl⟩
        have HA4 : Hid (a + 4 = a4) := ha4
        have ha4i : (a : Int) + 4 = (a4 : Int) := by omega
        have ha4S : a4 ≤ S.size := by omega
        have ha4j : (a4 : Int) ≤ (S.size : Int) := by omega
        clear hN
        by_cases hN0 : N = 0
        · subst hN0
          obtain ⟨d, hd⟩ := rd_end HRd.out.1 hs4' HN.out
          have HD : Hid (G = (0, d) ∧ d.s = S ∧ d.pos = a + 4 ∧ d.flags = f ∧ d.size = sz ∧ toBA d.plain = out ∧ d.plain.length ≤ most) := hd
          clear hd
          go_wp2_with fail
          refine (HFx.out _).mono ?_
          rintro e W ⟨rfl, hW⟩
          obtain rfl := hW.symm
          clear hW
          have hoi : (out.size : Int) ≤ 1048576 := by have := HM.out.2.2.2.1; omega
          by_cases hf8 : f / 8 % 2 = 1
          · have hsvz : sv = ((sz : Nat) : Int) := by rw [← HBk.out.2.2, if_pos hf8]
            rw [hsvz] at k2
            clear hsvz
            have hsz0 : (0 : Int) ≤ (sz : Int) := by omega
            by_cases hne : sz = out.size
            · have hneb : ((sz : Int) != (out.size : Int)) = false := by rw [hne]; simp
              have HT3 : Hid (turnF tail3 ⟨S, P, most, f, M, sz, 0, ⟨#[]⟩, []⟩ = gAll d) := HAll.out d HD.out.1 (fun hh => hh.2 (by rw [HD.out.2.2.2.2.1, hne, ← HD.out.2.2.2.2.2.1, toBA_size]))
              clear hne
              by_cases hf4 : f / 4 % 2 = 1
              · have halv : al = true := by rw [← HBk.out.2.1, decide_eq_true hf4]
                rw [halv] at k1
                clear halv
                have HSm : Hid (∀ W, Calls Try.prog 24 #[.string S, .int .i64 (a4 : Nat), .string out] W fun e w' => e = .returned (.int .i64 (sumE S a4 out : Nat)) ∧ Below W.heap.size W w') := fun W => rsum_ok S out a4 ha4S HM.out.2.2.1 (Nat.le_trans hout (Nat.le_trans HM.out.2.2.2.1 (by decide))) W
                have HG : Hid ((gAll d).1 = sumE S a4 out ∧ (sumE S a4 out = 0 → gAll d = (0, { d with pos := d.pos + 4 }))) := by
                  have hg : gAll d = gSum (toBA d.plain) d := by unfold gAll; rw [if_pos (by rw [HD.out.2.2.2.1]; exact hf4)]
                  have h := gSum_is (toBA d.plain) d
                  rw [← hg, HD.out.2.1, HD.out.2.2.1, HD.out.2.2.2.2.2.1, HA4.out] at h
                  exact ⟨h.1, fun h0 => by rw [(h.2 h0).1, HD.out.2.2.1, HA4.out, HD.out.2.1]⟩
                obtain ⟨E, hEe⟩ : ∃ E, sumE S a4 out = E := ⟨_, rfl⟩
                rw [hEe] at HSm HG
                clear hEe
                by_cases hE0 : E = 0
                · subst hE0
                  obtain ⟨c8, hc8⟩ : ∃ x, a4 + 4 = x := ⟨_, rfl⟩
                  have HE : Hid (frR (unpackF S most) = .tuple #[.string out, .int .i64 (c8 : Nat), .int .i64 0]) := by
                    have h := HFG.out _ (HT3.out.trans (HG.out.2 rfl))
                    rw [← hc8]
                    simp only at h
                    rw [HD.out.2.2.2.2.2.1, HD.out.2.2.1, HA4.out] at h
                    exact h
                  go_wp2_with fail
                  refine (HSm.out _).mono ?_
                  rintro e w5 ⟨rfl, hbb⟩
                  have H5 : Hid _ := frame_on HRd.out.2 hbb
                  clear hbb
                  have hw8 : (a4 : Int) + 4 = (c8 : Int) := by omega
                  have hww8 : c8 ≤ 140737488351240 := by have := HM.out.2.2.1; omega
                  clear hc8
                  go_wp2
                  go_ret3
                  refine ⟨?_, H5.out.2⟩
                  rw [HE.out]; rfl
                · have HE : Hid (frR (unpackF S most) = .tuple #[.string ⟨#[]⟩, .int .i64 0, .int .i64 (E : Nat)]) := HFB.out E hE0 (by rw [HT3.out]; exact HG.out.1)
                  have hEb : ((E : Int) != 0) = true := by simp; exact hE0
                  clear hE0
                  go_wp2_with fail
                  refine (HSm.out _).mono ?_
                  rintro e w5 ⟨rfl, hbb⟩
                  have H5 : Hid _ := frame_on HRd.out.2 hbb
                  clear hbb
                  go_wp2
                  go_ret3
                  refine ⟨?_, H5.out.2⟩
                  rw [HE.out]; rfl
              · have halv : al = false := by rw [← HBk.out.2.1, decide_eq_false hf4]
                rw [halv] at k1
                clear halv
                have HE : Hid (frR (unpackF S most) = .tuple #[.string out, .int .i64 (a4 : Nat), .int .i64 0]) := by
                  have hg : gAll d = (0, d) := by unfold gAll; rw [if_neg (by rw [HD.out.2.2.2.1]; exact hf4)]
                  have h := HFG.out d (HT3.out.trans hg)
                  rw [HD.out.2.2.2.2.2.1, HD.out.2.2.1, HA4.out] at h
                  exact h
                go_wp2
                go_ret3
                refine ⟨?_, HRd.out.2.2⟩
                rw [HE.out]; rfl
            · have hneb : ((sz : Int) != (out.size : Int)) = true := by simp; omega
              have HE : Hid (frR (unpackF S most) = .tuple #[.string ⟨#[]⟩, .int .i64 0, .int .i64 70]) := HSzB.out d HD.out.1 ⟨by rw [HD.out.2.2.2.1]; exact hf8, by rw [HD.out.2.2.2.2.1]; intro hc; apply hne; rw [hc, ← HD.out.2.2.2.2.2.1, toBA_size]⟩
              go_wp2
              go_ret3
              refine ⟨?_, HRd.out.2.2⟩
              rw [HE.out]; rfl
          · have hsvz : sv = -1 := by rw [← HBk.out.2.2, if_neg hf8]
            rw [hsvz] at k2
            clear hsvz
            have HT3 : Hid (turnF tail3 ⟨S, P, most, f, M, sz, 0, ⟨#[]⟩, []⟩ = gAll d) := HAll.out d HD.out.1 (fun hh => hf8 (by rw [← HD.out.2.2.2.1]; exact hh.1))
            by_cases hf4 : f / 4 % 2 = 1
            · have halv : al = true := by rw [← HBk.out.2.1, decide_eq_true hf4]
              rw [halv] at k1
              clear halv
              have HSm : Hid (∀ W, Calls Try.prog 24 #[.string S, .int .i64 (a4 : Nat), .string out] W fun e w' => e = .returned (.int .i64 (sumE S a4 out : Nat)) ∧ Below W.heap.size W w') := fun W => rsum_ok S out a4 ha4S HM.out.2.2.1 (Nat.le_trans hout (Nat.le_trans HM.out.2.2.2.1 (by decide))) W
              have HG : Hid ((gAll d).1 = sumE S a4 out ∧ (sumE S a4 out = 0 → gAll d = (0, { d with pos := d.pos + 4 }))) := by
                have hg : gAll d = gSum (toBA d.plain) d := by unfold gAll; rw [if_pos (by rw [HD.out.2.2.2.1]; exact hf4)]
                have h := gSum_is (toBA d.plain) d
                rw [← hg, HD.out.2.1, HD.out.2.2.1, HD.out.2.2.2.2.2.1, HA4.out] at h
                exact ⟨h.1, fun h0 => by rw [(h.2 h0).1, HD.out.2.2.1, HA4.out, HD.out.2.1]⟩
              obtain ⟨E, hEe⟩ : ∃ E, sumE S a4 out = E := ⟨_, rfl⟩
              rw [hEe] at HSm HG
              clear hEe
              by_cases hE0 : E = 0
              · subst hE0
                obtain ⟨c8, hc8⟩ : ∃ x, a4 + 4 = x := ⟨_, rfl⟩
                have HE : Hid (frR (unpackF S most) = .tuple #[.string out, .int .i64 (c8 : Nat), .int .i64 0]) := by
                  have h := HFG.out _ (HT3.out.trans (HG.out.2 rfl))
                  rw [← hc8]
                  simp only at h
                  rw [HD.out.2.2.2.2.2.1, HD.out.2.2.1, HA4.out] at h
                  exact h
                go_wp2_with fail
                refine (HSm.out _).mono ?_
                rintro e w5 ⟨rfl, hbb⟩
                have H5 : Hid _ := frame_on HRd.out.2 hbb
                clear hbb
                have hw8 : (a4 : Int) + 4 = (c8 : Int) := by omega
                have hww8 : c8 ≤ 140737488351240 := by have := HM.out.2.2.1; omega
                clear hc8
                go_wp2
                go_ret3
                refine ⟨?_, H5.out.2⟩
                rw [HE.out]; rfl
              · have HE : Hid (frR (unpackF S most) = .tuple #[.string ⟨#[]⟩, .int .i64 0, .int .i64 (E : Nat)]) := HFB.out E hE0 (by rw [HT3.out]; exact HG.out.1)
                have hEb : ((E : Int) != 0) = true := by simp; exact hE0
                clear hE0
                go_wp2_with fail
                refine (HSm.out _).mono ?_
                rintro e w5 ⟨rfl, hbb⟩
                have H5 : Hid _ := frame_on HRd.out.2 hbb
                clear hbb
                go_wp2
                go_ret3
                refine ⟨?_, H5.out.2⟩
                rw [HE.out]; rfl
            · have halv : al = false := by rw [← HBk.out.2.1, decide_eq_false hf4]
              rw [halv] at k1
              clear halv
              have HE : Hid (frR (unpackF S most) = .tuple #[.string out, .int .i64 (a4 : Nat), .int .i64 0]) := by
                have hg : gAll d = (0, d) := by unfold gAll; rw [if_neg (by rw [HD.out.2.2.2.1]; exact hf4)]
                have h := HFG.out d (HT3.out.trans hg)
                rw [HD.out.2.2.2.2.2.1, HD.out.2.2.1, HA4.out] at h
                exact h
              go_wp2
              go_ret3
              refine ⟨?_, HRd.out.2.2⟩
              rw [HE.out]; rfl
        · by_cases hp : 2147483648 ≤ N
          · have HKeep : Hid (out.size ≤ most) := hout
            have hN0b : ((N : Int) == 0) = false := beq_eq_false_iff_ne.2 (by omega)
            obtain ⟨n, hn⟩ : ∃ x, N % 2147483648 = x := ⟨_, rfl⟩
            have hpq : (N : Int) / 2147483648 = 1 := div_one N hp hNl
            have HP : Hid (2147483648 ≤ N) := hp
            have HAND : Hid (bits .and .i64 (N : Int) 2147483647 = (n : Int)) := by rw [← hn]; exact and31m N hNl
            have HNL : Hid (N < 4294967296) := hNl
            have HNn : Hid (N % 2147483648 = n ∧ N ≠ 0) := ⟨hn, hN0⟩
            have hn32 : n ≤ 4294967296 := by omega
            have HR0' : Hid (wrap64 (a4 : Int) = (a4 : Int)) := wrapN64 _ (by have := HM.out.2.2.1; omega)
            obtain ⟨q, a5, a6, hq, ha5, ha6, hr1, hr2, hr3⟩ := bl_arith S a4 n HM.out.2.2.1 ha4S hn32
            have HR1 : Hid _ := hr1
            have HR2 : Hid _ := hr2
            have HR3 : Hid _ := hr3
            have HA5 : Hid (a4 + n = a5) := ha5
            have HA6 : Hid (a5 + 4 = a6) := ha6
            have hqb : q ≤ 140737488351232 := by have h1 := HM.out.2.2.1; clear hr1 hr2 hr3; omega
            clear hr1 hr2 hr3 ha6 hp
            by_cases hbad : N = 2147483648 ∨ M < n
            · have HE : Hid (G.1 = 70) := rd_bad HRd.out.1 hs4' (by rw [HN.out, hn]; exact hbad)
              by_cases hn0 : n = 0
              · as_aux_lemma =>
                have hnb : ((n : Int) == 0) = true := by rw [hn0]; rfl
                clear hbad hn hn0 hn32 ha5 hq hNl
                go_wp2_with fail
                refine (HFx.out _).mono ?_
                rintro e W ⟨rfl, hW⟩
                obtain rfl := hW.symm
                clear hW
                go_upto_region 14 with fail
                have hand := HAND.out
                go_upto_region 15 with fail
                clear hand
                go_wp2
                go_ret3
                refine ⟨?_, HRd.out.2.2⟩
                rw [HFin.out 70 (by decide) HE.out]; rfl
              · as_aux_lemma =>
                have hnb : ((n : Int) == 0) = false := beq_eq_false_iff_ne.2 (by omega)
                have hxm : (M : Int) < (n : Int) := by omega
                clear hbad hn hn0 hn32 ha5 hq hNl
                go_wp2_with fail
                refine (HFx.out _).mono ?_
                rintro e W ⟨rfl, hW⟩
                obtain rfl := hW.symm
                clear hW
                go_upto_region 14 with fail
                have hand := HAND.out
                go_upto_region 15 with fail
                clear hand
                go_wp2
                go_ret3
                refine ⟨?_, HRd.out.2.2⟩
                rw [HFin.out 70 (by decide) HE.out]; rfl
            · have hn0 : n ≠ 0 := by omega
              have hnb : ((n : Int) == 0) = false := beq_eq_false_iff_ne.2 (by omega)
              have hxm : ¬ (M : Int) < (n : Int) := by omega
              by_cases hqn' : S.size < a4 + n
              · as_aux_lemma =>
                have HE : Hid (G.1 = 5) := rd_held_short HRd.out.1 hs4' (by rw [HN.out, hn]; exact hbad) (by rw [HN.out]; exact hN0) (by rw [HN.out, hn, HA4.out]; exact hqn')
                have hqn : (q : Int) < (n : Int) := by omega
                clear hbad hn hn0 hn32 ha5 hq hNl hqn'
                go_wp2_with fail
                refine (HFx.out _).mono ?_
                rintro e W ⟨rfl, hW⟩
                obtain rfl := hW.symm
                clear hW
                go_upto_region 14 with fail
                have hand := HAND.out
                go_upto_region 15 with fail
                clear hand
                have r1 := HR1.out.1
                go_upto_if 67 with fail
                clear r1
                go_wp2
                go_ret3
                refine ⟨?_, HRd.out.2.2⟩
                rw [HFin.out 5 (by decide) HE.out]; rfl
              · obtain ⟨lo, kf, hlo1, hlo2, hBl⟩ := rd_block HRd.out.1 hs4' (by rw [HN.out, hn]; exact hbad) (by rw [HN.out]; exact hN0) (by rw [HN.out, hn, HA4.out]; omega)
                rw [HN.out, hn, HA4.out, ha5] at hBl
                have HLo : Hid (toBA lo = out ∧ lo.length ≤ most) := ⟨hlo1, hlo2⟩
                have hqn : ¬ (q : Int) < (n : Int) := by omega
                have hXs : (S.extract a4 a5).size = n := by rw [ByteArray.size_extract, Nat.min_eq_left (by omega)]; omega
                obtain ⟨X, hX⟩ : ∃ X, S.extract a4 a5 = X := ⟨_, rfl⟩
                rw [hX] at hBl hXs
                have HB1 : Hid (BlSt S most f M sz G [pS, pU, pM] N a5 X lo kf) := hBl
                have HXz : Hid (X.size ≤ 4194304) := by rw [hXs]; have := HM.out.1; show n ≤ 4194304; omega
                have hj1 : (a4 : Int) ≤ (a5 : Int) := by omega
                have hj2 : (a5 : Int) ≤ (S.size : Int) := by omega
                clear hbad hn hn0 hn32 ha5 hq hNl hqn' hlo1 hlo2 hBl hXs
                go_wp2_with fail
                refine (HFx.out _).mono ?_
                rintro e W ⟨rfl, hW⟩
                obtain rfl := hW.symm
                clear hW
                go_upto_region 14 with fail
                have hand := HAND.out
                go_upto_region 15 with fail
                clear hand
                have r1 := HR1.out.1
                go_upto_if 67 with fail
                clear r1
                have r3 := HR2.out.1
                go_upto_region 21 with fail
                clear r3 hX hj1 hnb hxm hqn hN0b ha4i hpq
                by_cases hf16 : f / 16 % 2 = 1
                · have hbkv : bk = true := by rw [← HBk.out.1, decide_eq_true hf16]
                  rw [hbkv] at k0
                  clear hbkv
                  have HSm : Hid (∀ W, Calls Try.prog 24 #[.string S, .int .i64 (a5 : Nat), .string X] W fun e w' => e = .returned (.int .i64 (sumE S a5 X : Nat)) ∧ Below W.heap.size W w') := fun W => rsum_ok S X a5 HB1.out.le HM.out.2.2.1 (Nat.le_trans HXz.out (by decide)) W
                  obtain ⟨E, hEe⟩ : ∃ E, sumE S a5 X = E := ⟨_, rfl⟩
                  rw [hEe] at HSm
                  by_cases hE0 : E = 0
                  · subst hE0
                    have HA6l : Hid (a6 ≤ 140737488351240) := by have h1 := HA6.out; have h2 := HB1.out.le; show a6 ≤ 140737488351240; omega
                    have HB2 : Hid (BlSt S most f M sz G [pU, pM] N a6 X lo kf) := by rw [← HA6.out]; exact bl_sum_ok HB1.out hf16 hEe
                    have HaF : Hid (a < a6) := by have h1 := HA6.out; have h2 := HA5.out; have h3 := HA4.out; show a < a6; omega
                    clear hEe hf16
                    go_wp2_with fail
                    refine (HSm.out _).mono ?_
                    rintro e w5 ⟨rfl, hbb⟩
                    have H5 : Hid _ := frame_on HRd.out.2 hbb
                    clear hbb HSm k0 k1 k2 k3
                    have r5 := HR3.out.1
                    have r6 := HA6l.out
                    go_upto_if 89 with fail
                    clear r5 r6
                    obtain ⟨q1, q2, q3, q4⟩ := hcells4 H5.out
                    have HB3 : Hid (BlSt S most f M sz G [pM] N a6 X (lo ++ bytesOf X) kf) := bl_plain HB2.out HP.out
                    have HTl : Hid (X.size ≤ 4194304 ∧ (bytesOf X).length = X.size) := ⟨HXz.out, bytesOf_length X⟩
                    have HTt : Hid (toBA (bytesOf X) = X) := toBA_bytesOf X
                    have HLn : Hid ((lo ++ bytesOf X).length = out.size + X.size) := by
                      have h : (lo ++ bytesOf X).length = out.size + X.size := by rw [List.length_append, ← HLo.out.1, toBA_size, HTl.out.2]
                      exact h
                    have htl := HTl.out.1
                    obtain ⟨ot, hot⟩ : ∃ x, out.size + X.size = x := ⟨_, rfl⟩
                    have HOt : Hid (out.size + X.size = ot) := hot
                    have hoi : (out.size : Int) + (X.size : Int) = (ot : Int) := by omega
                    have hotl : ot ≤ 10000000 := by have h1 := HM.out.2.2.2.1; have h2 := HKeep.out; omega
                    clear hot htl
                    by_cases hlo : most < ot
                    · as_aux_lemma =>
                      have HE : Hid (G.1 = 4) := bl_long HB3.out (by rw [HLn.out, HOt.out]; exact hlo)
                      have hloi : (most : Int) < (ot : Int) := by omega
                      clear hlo
                      go_wp2
                      go_ret3
                      refine ⟨?_, H5.out.2⟩
                      rw [HFin.out 4 (by decide) HE.out]; rfl
                    · as_aux_lemma =>
                      have hcat : (out ++ X).size = ot := by rw [ByteArray.size_append]; exact HOt.out
                      have HRd2 : Hid (RdSt S most f M sz G a6 (out ++ X)) := by
                        have h := bl_done HB3.out (by rw [HLn.out, HOt.out]; exact hlo)
                        rw [toBA_append, HLo.out.1, HTt.out] at h
                        exact h
                      have hloi : ¬ (most : Int) < (ot : Int) := by omega
                      have HLast : Hid (a6 ≤ S.size ∧ (out ++ X).size ≤ most ∧ a < a6 ∧ a + 4 ≤ S.size) := ⟨HB3.out.le, by rw [hcat]; omega, HaF.out, hs4'⟩
                      have hsg : ¬ (9223372036854775807 : Int) < ((out ++ X).size : Int) := by rw [hcat]; omega
                      have hsg2 : ¬ (9223372036854775807 : Int) < (ot : Int) := by omega
                      clear hlo hcat
                      go_wp2
                      go_roundw
                      case rel => exact ⟨a6, out ++ X, rfl, rfl, HLast.out.1, HLast.out.2.1, HRd2.out, H5.out⟩
                      case measure => exact meas_lt HLast.out.1 HLast.out.2.2.1
                  · as_aux_lemma =>
                    have HE : Hid (G.1 = E) := bl_sum_bad HB1.out hf16 hEe hE0
                    have HNE : Hid (E ≠ 0) := hE0
                    have hEb : ((E : Int) != 0) = true := by simp; exact hE0
                    clear hE0 hEe hf16
                    go_wp2_with fail
                    refine (HSm.out _).mono ?_
                    rintro e w5 ⟨rfl, hbb⟩
                    have H5 : Hid _ := frame_on HRd.out.2 hbb
                    clear hbb
                    go_wp2
                    go_ret3
                    refine ⟨?_, H5.out.2⟩
                    rw [HFin.out E HNE.out HE.out]; rfl
                · have hbkv : bk = false := by rw [← HBk.out.1, decide_eq_false hf16]
                  rw [hbkv] at k0
                  clear hbkv
                  have HB2 : Hid (BlSt S most f M sz G [pU, pM] N a5 X lo kf) := bl_sum_no HB1.out hf16
                  have HaF : Hid (a < a5) := by have h2 := HA5.out; have h3 := HA4.out; show a < a5; omega
                  have H5 : Hid _ := HRd.out.2
                  clear hf16
                  go_upto_if 89 with fail
                  clear k0 k1 k2 k3
                  obtain ⟨q1, q2, q3, q4⟩ := hcells4 H5.out
                  have HB3 : Hid (BlSt S most f M sz G [pM] N a5 X (lo ++ bytesOf X) kf) := bl_plain HB2.out HP.out
                  have HTl : Hid (X.size ≤ 4194304 ∧ (bytesOf X).length = X.size) := ⟨HXz.out, bytesOf_length X⟩
                  have HTt : Hid (toBA (bytesOf X) = X) := toBA_bytesOf X
                  have HLn : Hid ((lo ++ bytesOf X).length = out.size + X.size) := by
                    have h : (lo ++ bytesOf X).length = out.size + X.size := by rw [List.length_append, ← HLo.out.1, toBA_size, HTl.out.2]
                    exact h
                  have htl := HTl.out.1
                  obtain ⟨ot, hot⟩ : ∃ x, out.size + X.size = x := ⟨_, rfl⟩
                  have HOt : Hid (out.size + X.size = ot) := hot
                  have hoi : (out.size : Int) + (X.size : Int) = (ot : Int) := by omega
                  have hotl : ot ≤ 10000000 := by have h1 := HM.out.2.2.2.1; have h2 := HKeep.out; omega
                  clear hot htl
                  by_cases hlo : most < ot
                  · as_aux_lemma =>
                    have HE : Hid (G.1 = 4) := bl_long HB3.out (by rw [HLn.out, HOt.out]; exact hlo)
                    have hloi : (most : Int) < (ot : Int) := by omega
                    clear hlo
                    go_wp2
                    go_ret3
                    refine ⟨?_, H5.out.2⟩
                    rw [HFin.out 4 (by decide) HE.out]; rfl
                  · as_aux_lemma =>
                    have hcat : (out ++ X).size = ot := by rw [ByteArray.size_append]; exact HOt.out
                    have HRd2 : Hid (RdSt S most f M sz G a5 (out ++ X)) := by
                      have h := bl_done HB3.out (by rw [HLn.out, HOt.out]; exact hlo)
                      rw [toBA_append, HLo.out.1, HTt.out] at h
                      exact h
                    have hloi : ¬ (most : Int) < (ot : Int) := by omega
                    have HLast : Hid (a5 ≤ S.size ∧ (out ++ X).size ≤ most ∧ a < a5 ∧ a + 4 ≤ S.size) := ⟨HB3.out.le, by rw [hcat]; omega, HaF.out, hs4'⟩
                    have hsg : ¬ (9223372036854775807 : Int) < ((out ++ X).size : Int) := by rw [hcat]; omega
                    have hsg2 : ¬ (9223372036854775807 : Int) < (ot : Int) := by omega
                    clear hlo hcat
                    go_wp2
                    go_roundw
                    case rel => exact ⟨a5, out ++ X, rfl, rfl, HLast.out.1, HLast.out.2.1, HRd2.out, H5.out⟩
                    case measure => exact meas_lt HLast.out.1 HLast.out.2.2.1
          · have HKeep : Hid (out.size ≤ most) := hout
            have hN0b : ((N : Int) == 0) = false := beq_eq_false_iff_ne.2 (by omega)
            obtain ⟨n, hn⟩ : ∃ x, N % 2147483648 = x := ⟨_, rfl⟩
            have hpq : (N : Int) / 2147483648 = 0 := div_nil N hp
            have HP : Hid (¬ 2147483648 ≤ N) := hp
            have HAND : Hid (bits .and .i64 (N : Int) 2147483647 = (n : Int)) := by rw [← hn]; exact and31m N hNl
            have HNL : Hid (N < 4294967296) := hNl
            have HNn : Hid (N % 2147483648 = n ∧ N ≠ 0) := ⟨hn, hN0⟩
            have hn32 : n ≤ 4294967296 := by omega
            have HR0' : Hid (wrap64 (a4 : Int) = (a4 : Int)) := wrapN64 _ (by have := HM.out.2.2.1; omega)
            obtain ⟨q, a5, a6, hq, ha5, ha6, hr1, hr2, hr3⟩ := bl_arith S a4 n HM.out.2.2.1 ha4S hn32
            have HR1 : Hid _ := hr1
            have HR2 : Hid _ := hr2
            have HR3 : Hid _ := hr3
            have HA5 : Hid (a4 + n = a5) := ha5
            have HA6 : Hid (a5 + 4 = a6) := ha6
            have hqb : q ≤ 140737488351232 := by have h1 := HM.out.2.2.1; clear hr1 hr2 hr3; omega
            clear hr1 hr2 hr3 ha6 hp
            by_cases hbad : N = 2147483648 ∨ M < n
            · have HE : Hid (G.1 = 70) := rd_bad HRd.out.1 hs4' (by rw [HN.out, hn]; exact hbad)
              by_cases hn0 : n = 0
              · have hp := HP.out
                omega
              · as_aux_lemma =>
                have hnb : ((n : Int) == 0) = false := beq_eq_false_iff_ne.2 (by omega)
                have hxm : (M : Int) < (n : Int) := by omega
                clear hbad hn hn0 hn32 ha5 hq hNl
                go_wp2_with fail
                refine (HFx.out _).mono ?_
                rintro e W ⟨rfl, hW⟩
                obtain rfl := hW.symm
                clear hW
                go_upto_region 14 with fail
                have hand := HAND.out
                go_upto_region 15 with fail
                clear hand
                go_wp2
                go_ret3
                refine ⟨?_, HRd.out.2.2⟩
                rw [HFin.out 70 (by decide) HE.out]; rfl
            · have hn0 : n ≠ 0 := by omega
              have hnb : ((n : Int) == 0) = false := beq_eq_false_iff_ne.2 (by omega)
              have hxm : ¬ (M : Int) < (n : Int) := by omega
              by_cases hqn' : S.size < a4 + n
              · as_aux_lemma =>
                have HE : Hid (G.1 = 5) := rd_held_short HRd.out.1 hs4' (by rw [HN.out, hn]; exact hbad) (by rw [HN.out]; exact hN0) (by rw [HN.out, hn, HA4.out]; exact hqn')
                have hqn : (q : Int) < (n : Int) := by omega
                clear hbad hn hn0 hn32 ha5 hq hNl hqn'
                go_wp2_with fail
                refine (HFx.out _).mono ?_
                rintro e W ⟨rfl, hW⟩
                obtain rfl := hW.symm
                clear hW
                go_upto_region 14 with fail
                have hand := HAND.out
                go_upto_region 15 with fail
                clear hand
                have r1 := HR1.out.1
                go_upto_if 67 with fail
                clear r1
                go_wp2
                go_ret3
                refine ⟨?_, HRd.out.2.2⟩
                rw [HFin.out 5 (by decide) HE.out]; rfl
              · obtain ⟨lo, kf, hlo1, hlo2, hBl⟩ := rd_block HRd.out.1 hs4' (by rw [HN.out, hn]; exact hbad) (by rw [HN.out]; exact hN0) (by rw [HN.out, hn, HA4.out]; omega)
                rw [HN.out, hn, HA4.out, ha5] at hBl
                have HLo : Hid (toBA lo = out ∧ lo.length ≤ most) := ⟨hlo1, hlo2⟩
                have hqn : ¬ (q : Int) < (n : Int) := by omega
                have hXs : (S.extract a4 a5).size = n := by rw [ByteArray.size_extract, Nat.min_eq_left (by omega)]; omega
                obtain ⟨X, hX⟩ : ∃ X, S.extract a4 a5 = X := ⟨_, rfl⟩
                rw [hX] at hBl hXs
                have HB1 : Hid (BlSt S most f M sz G [pS, pU, pM] N a5 X lo kf) := hBl
                have HXz : Hid (X.size ≤ 4194304) := by rw [hXs]; have := HM.out.1; show n ≤ 4194304; omega
                have hj1 : (a4 : Int) ≤ (a5 : Int) := by omega
                have hj2 : (a5 : Int) ≤ (S.size : Int) := by omega
                clear hbad hn hn0 hn32 ha5 hq hNl hqn' hlo1 hlo2 hBl hXs
                go_wp2_with fail
                refine (HFx.out _).mono ?_
                rintro e W ⟨rfl, hW⟩
                obtain rfl := hW.symm
                clear hW
                go_upto_region 14 with fail
                have hand := HAND.out
                go_upto_region 15 with fail
                clear hand
                have r1 := HR1.out.1
                go_upto_if 67 with fail
                clear r1
                have r3 := HR2.out.1
                go_upto_region 21 with fail
                clear r3 hX hj1 hnb hxm hqn hN0b ha4i hpq
                by_cases hf16 : f / 16 % 2 = 1
                · have hbkv : bk = true := by rw [← HBk.out.1, decide_eq_true hf16]
                  rw [hbkv] at k0
                  clear hbkv
                  have HSm : Hid (∀ W, Calls Try.prog 24 #[.string S, .int .i64 (a5 : Nat), .string X] W fun e w' => e = .returned (.int .i64 (sumE S a5 X : Nat)) ∧ Below W.heap.size W w') := fun W => rsum_ok S X a5 HB1.out.le HM.out.2.2.1 (Nat.le_trans HXz.out (by decide)) W
                  obtain ⟨E, hEe⟩ : ∃ E, sumE S a5 X = E := ⟨_, rfl⟩
                  rw [hEe] at HSm
                  by_cases hE0 : E = 0
                  · subst hE0
                    have HA6l : Hid (a6 ≤ 140737488351240) := by have h1 := HA6.out; have h2 := HB1.out.le; show a6 ≤ 140737488351240; omega
                    have HB2 : Hid (BlSt S most f M sz G [pU, pM] N a6 X lo kf) := by rw [← HA6.out]; exact bl_sum_ok HB1.out hf16 hEe
                    have HaF : Hid (a < a6) := by have h1 := HA6.out; have h2 := HA5.out; have h3 := HA4.out; show a < a6; omega
                    clear hEe hf16
                    go_wp2_with fail
                    refine (HSm.out _).mono ?_
                    rintro e w5 ⟨rfl, hbb⟩
                    have H5 : Hid _ := frame_on HRd.out.2 hbb
                    clear hbb HSm k0 k1 k2 k3
                    have r5 := HR3.out.1
                    have r6 := HA6l.out
                    go_upto_if 89 with fail
                    clear r5 r6
                    obtain ⟨q1, q2, q3, q4⟩ := hcells4 H5.out
                    obtain ⟨mm, hmm⟩ : ∃ x, min M 1048576 = x := ⟨_, rfl⟩
                    have hmin : (if (1048576 : Int) < (M : Int) then (1048576 : Int) else (M : Int)) = (mm : Int) := by rw [← hmm]; exact if_min20 M
                    have HU : Hid (∀ W, Calls Try.prog 25 #[.string X, .int .i64 (mm : Nat)] W fun e w' => e = .returned (lzR (unpack X mm)) ∧ Below W.heap.size W w') := fun W => refUnpack_ok X mm W (by omega) (by have := HXz.out; omega)
                    have HMm : Hid (min M 1048576 = mm) := hmm
                    clear hmm
                    by_cases hr : (unpack X mm).1 = 0
                    · obtain ⟨m, hm⟩ : ∃ m, unpack X mm = (0, m) := ⟨_, Prod.ext hr rfl⟩
                      have HB3 : Hid (BlSt S most f M sz G [pM] N a6 X (lo ++ m) kf) := bl_unp_ok HB2.out HP.out (by rw [HMm.out]; exact hm)
                      have hml := unpack_len X mm
                      rw [hm] at hml
                      rw [hm, lzR_good rfl] at HU
                      obtain ⟨t, ht⟩ : ∃ t, toBA m = t := ⟨_, rfl⟩
                      rw [ht] at HU
                      have HTt : Hid (toBA m = t) := ht
                      have HTl : Hid (t.size ≤ 4194304 ∧ m.length = t.size) := by
                        rw [← ht, toBA_size]
                        have h := HMm.out
                        have hml' : m.length ≤ mm := hml
                        exact ⟨by omega, rfl⟩
                      clear hr hm hml ht
                      go_wp2_with fail
                      refine (HU.out _).mono ?_
                      rintro e w6 ⟨rfl, hbb⟩
                      have H6 : Hid _ := frame_on H5.out hbb
                      obtain ⟨g1, g2, g3, g4⟩ := hcells4 H6.out
                      clear hbb hmin HU
                      clear q1 q2 q3 q4
                      have HLn : Hid ((lo ++ m).length = out.size + t.size) := by
                        have h : (lo ++ m).length = out.size + t.size := by rw [List.length_append, ← HLo.out.1, toBA_size, HTl.out.2]
                        exact h
                      have htl := HTl.out.1
                      obtain ⟨ot, hot⟩ : ∃ x, out.size + t.size = x := ⟨_, rfl⟩
                      have HOt : Hid (out.size + t.size = ot) := hot
                      have hoi : (out.size : Int) + (t.size : Int) = (ot : Int) := by omega
                      have hotl : ot ≤ 10000000 := by have h1 := HM.out.2.2.2.1; have h2 := HKeep.out; omega
                      clear hot htl
                      by_cases hlo : most < ot
                      · as_aux_lemma =>
                        have HE : Hid (G.1 = 4) := bl_long HB3.out (by rw [HLn.out, HOt.out]; exact hlo)
                        have hloi : (most : Int) < (ot : Int) := by omega
                        clear hlo
                        go_wp2
                        go_ret3
                        refine ⟨?_, H6.out.2⟩
                        rw [HFin.out 4 (by decide) HE.out]; rfl
                      · as_aux_lemma =>
                        have hcat : (out ++ t).size = ot := by rw [ByteArray.size_append]; exact HOt.out
                        have HRd2 : Hid (RdSt S most f M sz G a6 (out ++ t)) := by
                          have h := bl_done HB3.out (by rw [HLn.out, HOt.out]; exact hlo)
                          rw [toBA_append, HLo.out.1, HTt.out] at h
                          exact h
                        have hloi : ¬ (most : Int) < (ot : Int) := by omega
                        have HLast : Hid (a6 ≤ S.size ∧ (out ++ t).size ≤ most ∧ a < a6 ∧ a + 4 ≤ S.size) := ⟨HB3.out.le, by rw [hcat]; omega, HaF.out, hs4'⟩
                        have hsg : ¬ (9223372036854775807 : Int) < ((out ++ t).size : Int) := by rw [hcat]; omega
                        have hsg2 : ¬ (9223372036854775807 : Int) < (ot : Int) := by omega
                        clear hlo hcat
                        go_wp2
                        go_roundw
                        case rel => exact ⟨a6, out ++ t, rfl, rfl, HLast.out.1, HLast.out.2.1, HRd2.out, H6.out⟩
                        case measure => exact meas_lt HLast.out.1 HLast.out.2.2.1
                    · obtain ⟨E, hE⟩ : ∃ E, (unpack X mm).1 = E := ⟨_, rfl⟩
                      have HGE : Hid (G.1 = if E = 4 ∧ M ≤ 1048576 then 70 else E) := bl_unp_bad HB2.out HP.out (by rw [HMm.out]; exact hE) (by rw [← hE]; exact hr)
                      rw [hE] at hr
                      rw [lzR_bad2 hE hr] at HU
                      clear hE
                      by_cases h4 : E = 4
                      · subst h4
                        clear hr
                        by_cases hM2 : M ≤ 1048576
                        · as_aux_lemma =>
                          have HE : Hid (G.1 = 70) := HGE.out.trans (if_pos ⟨rfl, hM2⟩)
                          have hMi : ¬ (1048576 : Int) < (M : Int) := by omega
                          have HMi : Hid _ := decide_eq_false hMi
                          clear hM2 hMi
                          go_wp2_with fail
                          refine (HU.out _).mono ?_
                          rintro e w6 ⟨rfl, hbb⟩
                          have H6 : Hid _ := frame_on H5.out hbb
                          obtain ⟨g1, g2, g3, g4⟩ := hcells4 H6.out
                          clear hbb hmin HU
                          clear q1 q2 q3 q4
                          have hMi := HMi.out
                          go_wp2
                          go_ret3
                          refine ⟨?_, H6.out.2⟩
                          rw [HFin.out 70 (by decide) HE.out]; rfl
                        · as_aux_lemma =>
                          have HE : Hid (G.1 = 4) := HGE.out.trans (if_neg (fun hh => hM2 hh.2))
                          have hMi : (1048576 : Int) < (M : Int) := by omega
                          have HMi : Hid _ := decide_eq_true hMi
                          clear hM2 hMi
                          go_wp2_with fail
                          refine (HU.out _).mono ?_
                          rintro e w6 ⟨rfl, hbb⟩
                          have H6 : Hid _ := frame_on H5.out hbb
                          obtain ⟨g1, g2, g3, g4⟩ := hcells4 H6.out
                          clear hbb hmin HU
                          clear q1 q2 q3 q4
                          have hMi := HMi.out
                          go_wp2
                          go_ret3
                          refine ⟨?_, H6.out.2⟩
                          rw [HFin.out 4 (by decide) HE.out]; rfl
                      · as_aux_lemma =>
                        have HE : Hid (G.1 = E) := HGE.out.trans (if_neg (fun hh => h4 hh.1))
                        have HNE : Hid (E ≠ 0) := hr
                        have hE4 : ((E : Int) == 4) = false := beq_eq_false_iff_ne.2 (by omega)
                        have hE0 : ((E : Int) != 0) = true := by simp; exact hr
                        clear hr h4
                        go_wp2_with fail
                        refine (HU.out _).mono ?_
                        rintro e w6 ⟨rfl, hbb⟩
                        have H6 : Hid _ := frame_on H5.out hbb
                        obtain ⟨g1, g2, g3, g4⟩ := hcells4 H6.out
                        clear hbb hmin HU
                        clear q1 q2 q3 q4
                        go_wp2
                        go_ret3
                        refine ⟨?_, H6.out.2⟩
                        rw [HFin.out E HNE.out HE.out]; rfl
                  · as_aux_lemma =>
                    have HE : Hid (G.1 = E) := bl_sum_bad HB1.out hf16 hEe hE0
                    have HNE : Hid (E ≠ 0) := hE0
                    have hEb : ((E : Int) != 0) = true := by simp; exact hE0
                    clear hE0 hEe hf16
                    go_wp2_with fail
                    refine (HSm.out _).mono ?_
                    rintro e w5 ⟨rfl, hbb⟩
                    have H5 : Hid _ := frame_on HRd.out.2 hbb
                    clear hbb
                    go_wp2
                    go_ret3
                    refine ⟨?_, H5.out.2⟩
                    rw [HFin.out E HNE.out HE.out]; rfl
                · have hbkv : bk = false := by rw [← HBk.out.1, decide_eq_false hf16]
                  rw [hbkv] at k0
                  clear hbkv
                  have HB2 : Hid (BlSt S most f M sz G [pU, pM] N a5 X lo kf) := bl_sum_no HB1.out hf16
                  have HaF : Hid (a < a5) := by have h2 := HA5.out; have h3 := HA4.out; show a < a5; omega
                  have H5 : Hid _ := HRd.out.2
                  clear hf16
                  go_upto_if 89 with fail
                  clear k0 k1 k2 k3
                  obtain ⟨q1, q2, q3, q4⟩ := hcells4 H5.out
                  obtain ⟨mm, hmm⟩ : ∃ x, min M 1048576 = x := ⟨_, rfl⟩
                  have hmin : (if (1048576 : Int) < (M : Int) then (1048576 : Int) else (M : Int)) = (mm : Int) := by rw [← hmm]; exact if_min20 M
                  have HU : Hid (∀ W, Calls Try.prog 25 #[.string X, .int .i64 (mm : Nat)] W fun e w' => e = .returned (lzR (unpack X mm)) ∧ Below W.heap.size W w') := fun W => refUnpack_ok X mm W (by omega) (by have := HXz.out; omega)
                  have HMm : Hid (min M 1048576 = mm) := hmm
                  clear hmm
                  by_cases hr : (unpack X mm).1 = 0
                  · obtain ⟨m, hm⟩ : ∃ m, unpack X mm = (0, m) := ⟨_, Prod.ext hr rfl⟩
                    have HB3 : Hid (BlSt S most f M sz G [pM] N a5 X (lo ++ m) kf) := bl_unp_ok HB2.out HP.out (by rw [HMm.out]; exact hm)
                    have hml := unpack_len X mm
                    rw [hm] at hml
                    rw [hm, lzR_good rfl] at HU
                    obtain ⟨t, ht⟩ : ∃ t, toBA m = t := ⟨_, rfl⟩
                    rw [ht] at HU
                    have HTt : Hid (toBA m = t) := ht
                    have HTl : Hid (t.size ≤ 4194304 ∧ m.length = t.size) := by
                      rw [← ht, toBA_size]
                      have h := HMm.out
                      have hml' : m.length ≤ mm := hml
                      exact ⟨by omega, rfl⟩
                    clear hr hm hml ht
                    go_wp2_with fail
                    refine (HU.out _).mono ?_
                    rintro e w6 ⟨rfl, hbb⟩
                    have H6 : Hid _ := frame_on H5.out hbb
                    obtain ⟨g1, g2, g3, g4⟩ := hcells4 H6.out
                    clear hbb hmin HU
                    clear q1 q2 q3 q4
                    have HLn : Hid ((lo ++ m).length = out.size + t.size) := by
                      have h : (lo ++ m).length = out.size + t.size := by rw [List.length_append, ← HLo.out.1, toBA_size, HTl.out.2]
                      exact h
                    have htl := HTl.out.1
                    obtain ⟨ot, hot⟩ : ∃ x, out.size + t.size = x := ⟨_, rfl⟩
                    have HOt : Hid (out.size + t.size = ot) := hot
                    have hoi : (out.size : Int) + (t.size : Int) = (ot : Int) := by omega
                    have hotl : ot ≤ 10000000 := by have h1 := HM.out.2.2.2.1; have h2 := HKeep.out; omega
                    clear hot htl
                    by_cases hlo : most < ot
                    · as_aux_lemma =>
                      have HE : Hid (G.1 = 4) := bl_long HB3.out (by rw [HLn.out, HOt.out]; exact hlo)
                      have hloi : (most : Int) < (ot : Int) := by omega
                      clear hlo
                      go_wp2
                      go_ret3
                      refine ⟨?_, H6.out.2⟩
                      rw [HFin.out 4 (by decide) HE.out]; rfl
                    · as_aux_lemma =>
                      have hcat : (out ++ t).size = ot := by rw [ByteArray.size_append]; exact HOt.out
                      have HRd2 : Hid (RdSt S most f M sz G a5 (out ++ t)) := by
                        have h := bl_done HB3.out (by rw [HLn.out, HOt.out]; exact hlo)
                        rw [toBA_append, HLo.out.1, HTt.out] at h
                        exact h
                      have hloi : ¬ (most : Int) < (ot : Int) := by omega
                      have HLast : Hid (a5 ≤ S.size ∧ (out ++ t).size ≤ most ∧ a < a5 ∧ a + 4 ≤ S.size) := ⟨HB3.out.le, by rw [hcat]; omega, HaF.out, hs4'⟩
                      have hsg : ¬ (9223372036854775807 : Int) < ((out ++ t).size : Int) := by rw [hcat]; omega
                      have hsg2 : ¬ (9223372036854775807 : Int) < (ot : Int) := by omega
                      clear hlo hcat
                      go_wp2
                      go_roundw
                      case rel => exact ⟨a5, out ++ t, rfl, rfl, HLast.out.1, HLast.out.2.1, HRd2.out, H6.out⟩
                      case measure => exact meas_lt HLast.out.1 HLast.out.2.2.1
                  · obtain ⟨E, hE⟩ : ∃ E, (unpack X mm).1 = E := ⟨_, rfl⟩
                    have HGE : Hid (G.1 = if E = 4 ∧ M ≤ 1048576 then 70 else E) := bl_unp_bad HB2.out HP.out (by rw [HMm.out]; exact hE) (by rw [← hE]; exact hr)
                    rw [hE] at hr
                    rw [lzR_bad2 hE hr] at HU
                    clear hE
                    by_cases h4 : E = 4
                    · subst h4
                      clear hr
                      by_cases hM2 : M ≤ 1048576
                      · as_aux_lemma =>
                        have HE : Hid (G.1 = 70) := HGE.out.trans (if_pos ⟨rfl, hM2⟩)
                        have hMi : ¬ (1048576 : Int) < (M : Int) := by omega
                        have HMi : Hid _ := decide_eq_false hMi
                        clear hM2 hMi
                        go_wp2_with fail
                        refine (HU.out _).mono ?_
                        rintro e w6 ⟨rfl, hbb⟩
                        have H6 : Hid _ := frame_on H5.out hbb
                        obtain ⟨g1, g2, g3, g4⟩ := hcells4 H6.out
                        clear hbb hmin HU
                        clear q1 q2 q3 q4
                        have hMi := HMi.out
                        go_wp2
                        go_ret3
                        refine ⟨?_, H6.out.2⟩
                        rw [HFin.out 70 (by decide) HE.out]; rfl
                      · as_aux_lemma =>
                        have HE : Hid (G.1 = 4) := HGE.out.trans (if_neg (fun hh => hM2 hh.2))
                        have hMi : (1048576 : Int) < (M : Int) := by omega
                        have HMi : Hid _ := decide_eq_true hMi
                        clear hM2 hMi
                        go_wp2_with fail
                        refine (HU.out _).mono ?_
                        rintro e w6 ⟨rfl, hbb⟩
                        have H6 : Hid _ := frame_on H5.out hbb
                        obtain ⟨g1, g2, g3, g4⟩ := hcells4 H6.out
                        clear hbb hmin HU
                        clear q1 q2 q3 q4
                        have hMi := HMi.out
                        go_wp2
                        go_ret3
                        refine ⟨?_, H6.out.2⟩
                        rw [HFin.out 4 (by decide) HE.out]; rfl
                    · as_aux_lemma =>
                      have HE : Hid (G.1 = E) := HGE.out.trans (if_neg (fun hh => h4 hh.1))
                      have HNE : Hid (E ≠ 0) := hr
                      have hE4 : ((E : Int) == 4) = false := beq_eq_false_iff_ne.2 (by omega)
                      have hE0 : ((E : Int) != 0) = true := by simp; exact hr
                      clear hr h4
                      go_wp2_with fail
                      refine (HU.out _).mono ?_
                      rintro e w6 ⟨rfl, hbb⟩
                      have H6 : Hid _ := frame_on H5.out hbb
                      obtain ⟨g1, g2, g3, g4⟩ := hcells4 H6.out
                      clear hbb hmin HU
                      clear q1 q2 q3 q4
                      go_wp2
                      go_ret3
                      refine ⟨?_, H6.out.2⟩
                      rw [HFin.out E HNE.out HE.out]; rfl
end Go.Proofs.Ytbncfpbehahidaa
