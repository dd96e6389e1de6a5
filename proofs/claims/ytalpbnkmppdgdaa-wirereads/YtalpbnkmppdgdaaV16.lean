/- The document's Same of messages. -/
/- Layer 14: what must come, whatever the arguments are: awake. -/
import Derived.Test.YtalpbnkmppdgdaaV14
import Derived.Deep.RegionHeldLaw
import Derived.Deep.DeepCutAuto
import Derived.Test.YtalpbnkmppdgdaaV13
import Derived.Test.YtalpbnkmppdgdaaV15
namespace Go.Proofs.Ytalpbnkmppdgdaa
open Go.RowKit
set_option linter.unusedVariables false

theorem msg_ns {a b : Msg} (h1 : a.ns = b.ns) (h2 : a.log = b.log) (h3 : a.body = b.body) : a = b := by
  obtain ⟨kind, frm, dst, view, norm, fin, com, err, prod, seq, base, log, body⟩ := a
  obtain ⟨kind', frm', dst', view', norm', fin', com', err', prod', seq', base', log', body'⟩ := b
  simp only [Msg.ns, List.cons.injEq] at h1
  obtain ⟨rfl, rfl, rfl, rfl, rfl, rfl, rfl, rfl, rfl, rfl, rfl, _⟩ := h1
  cases h2
  cases h3
  rfl
/-- What is known of two messages in memory, and of their numbers. -/
structure SS (w wr : World) (a b : Msg) (sa sb : Spot) (x y nx ny : Nat) : Prop where
  ma : MB wr x a sa
  mb : MB wr y b sb
  na : NB wr nx a
  nb : NB wr ny b
  bel : Below w.heap.size w wr
theorem SS.drew {w wr : World} {a b : Msg} {sa sb : Spot} {x y nx ny : Nat} (h : SS w wr a b sa sb x y nx ny) : SS w wr.drew a b sa sb x y nx ny := ⟨h.ma, h.mb, h.na, h.nb, h.bel.drew⟩
set_option maxHeartbeats 4000000 in
theorem same_walk (a b : Msg) (sa sb : Spot) (w : World) (hia : MIn w a sa) (hib : MIn w b sb) :
    Calls Try.prog 16 #[a.v sa, b.v sb] w fun e w' => e = .returned (.bool (eqB a b)) ∧ Below w.heap.size w w' := by
  have HIA : Hid (MIn w a sa) := hia
  have HIB : Hid (MIn w b sb) := hib
  obtain ⟨rv, hrv⟩ : ∃ rv, eqB a b = rv := ⟨_, rfl⟩
  have HRV : Hid (eqB a b = rv) := hrv
  rw [hrv]
  clear hrv hia hib
  have hB1 : Below w.heap.size w (w.alloc (.cells (a.cs sa) 28)) := (Below.refl _ _).alloc (Nat.le_refl _) _
  have hB2 : Below w.heap.size w ((w.alloc (.cells (a.cs sa) 28)).alloc (.cells (b.cs sb) 28)) := hB1.alloc hB1.size _
  have hM1 : MB ((w.alloc (.cells (a.cs sa) 28)).alloc (.cells (b.cs sb) 28)) w.heap.size a sa := (show MB (w.alloc (.cells (a.cs sa) 28)) w.heap.size a sa from heap_alloc_new _ _).below ((Below.refl _ _).alloc (Nat.le_refl _) _)
  have hM2 : MB ((w.alloc (.cells (a.cs sa) 28)).alloc (.cells (b.cs sb) 28)) (w.alloc (.cells (a.cs sa) 28)).heap.size b sb := heap_alloc_new _ _
  have hsz : (w.alloc (.cells (a.cs sa) 28)).heap.size = w.heap.size + 1 := by simp
  rw [hsz] at hM2
  have HB2 : Hid (Below w.heap.size w ((w.alloc (.cells (a.cs sa) 28)).alloc (.cells (b.cs sb) 28))) := hB2
  have HM1 : Hid (MB ((w.alloc (.cells (a.cs sa) 28)).alloc (.cells (b.cs sb) 28)) w.heap.size a sa) := hM1
  have HM2 : Hid (MB ((w.alloc (.cells (a.cs sa) 28)).alloc (.cells (b.cs sb) 28)) (w.heap.size + 1) b sb) := hM2
  clear hB1 hB2 hM1 hM2 hsz
  generalize hWA : (w.alloc (.cells (a.cs sa) 28)).alloc (.cells (b.cs sb) 28) = wA at HB2 HM1 HM2
  have HNA : Hid (∀ W, Calls Try.prog 23 #[a.v sa] W fun e w' => ∃ nb, e = .returned (.slice (some ⟨nb, 0, none⟩) 11 11) ∧ W.heap.size ≤ nb ∧ NB w' nb a ∧ Below W.heap.size W w') := fun W => rnumbers_ok a sa W
  have HNB : Hid (∀ W, Calls Try.prog 23 #[b.v sb] W fun e w' => ∃ nb, e = .returned (.slice (some ⟨nb, 0, none⟩) 11 11) ∧ W.heap.size ≤ nb ∧ NB w' nb b ∧ Below W.heap.size W w') := fun W => rnumbers_ok b sb W
  go_enter Try.func16, Try.ntmps16
  go_upto_region 1 with fail
  clear hWA
  have KA := HM1.out.cells
  have KB := HM2.out.cells
  refine wp_region_held_drew (S := fun w' => (w'.cell? ⟨w.heap.size, 0, none⟩ = some (.int .i64 a.kind) ∧ w'.cell? ⟨w.heap.size, 1, none⟩ = some (.int .i64 a.frm) ∧ w'.cell? ⟨w.heap.size, 2, none⟩ = some (.int .i64 a.dst) ∧ w'.cell? ⟨w.heap.size, 3, none⟩ = some (.int .i64 a.view) ∧ w'.cell? ⟨w.heap.size, 4, none⟩ = some (.int .i64 a.norm) ∧ w'.cell? ⟨w.heap.size, 5, none⟩ = some (.int .i64 a.fin) ∧ w'.cell? ⟨w.heap.size, 6, none⟩ = some (.int .i64 a.com) ∧ w'.cell? ⟨w.heap.size, 7, none⟩ = some (.int .i64 a.err) ∧ w'.cell? ⟨w.heap.size, 8, none⟩ = some (.int .i64 a.prod) ∧ w'.cell? ⟨w.heap.size, 9, none⟩ = some (.int .i64 a.seq) ∧ w'.cell? ⟨w.heap.size, 10, none⟩ = some (.int .i64 a.base) ∧ w'.cell? ⟨w.heap.size, 11, none⟩ = some (.slice sa.la a.log.length sa.lc) ∧ w'.cell? ⟨w.heap.size, 12, none⟩ = some (.slice sa.ba a.body.length sa.bc)) ∧ (w'.cell? ⟨w.heap.size + 1, 0, none⟩ = some (.int .i64 b.kind) ∧ w'.cell? ⟨w.heap.size + 1, 1, none⟩ = some (.int .i64 b.frm) ∧ w'.cell? ⟨w.heap.size + 1, 2, none⟩ = some (.int .i64 b.dst) ∧ w'.cell? ⟨w.heap.size + 1, 3, none⟩ = some (.int .i64 b.view) ∧ w'.cell? ⟨w.heap.size + 1, 4, none⟩ = some (.int .i64 b.norm) ∧ w'.cell? ⟨w.heap.size + 1, 5, none⟩ = some (.int .i64 b.fin) ∧ w'.cell? ⟨w.heap.size + 1, 6, none⟩ = some (.int .i64 b.com) ∧ w'.cell? ⟨w.heap.size + 1, 7, none⟩ = some (.int .i64 b.err) ∧ w'.cell? ⟨w.heap.size + 1, 8, none⟩ = some (.int .i64 b.prod) ∧ w'.cell? ⟨w.heap.size + 1, 9, none⟩ = some (.int .i64 b.seq) ∧ w'.cell? ⟨w.heap.size + 1, 10, none⟩ = some (.int .i64 b.base) ∧ w'.cell? ⟨w.heap.size + 1, 11, none⟩ = some (.slice sb.la b.log.length sb.lc) ∧ w'.cell? ⟨w.heap.size + 1, 12, none⟩ = some (.slice sb.ba b.body.length sb.bc))) (by kernel_rfl) ⟨KA, KB⟩ (fun hHeld => ?_)
  clear KA KB
  refine wpAnyH_take (i := 0) (v := ?v0) rfl (by kernel_rfl) (by kernel_rfl) (by kernel_rfl) (fun _ _ _ h => h) (Or.inl ⟨by rfl, fun w hSw => ?hy0⟩) hHeld ?rest0
  case hy0 =>
    try dsimp only at hSw
    go_simp
    try with_reducible rfl
  simp only [Act.put, List.setIfInBounds_toArray, List.set_cons_zero, List.set_cons_succ, List.getElem_toArray, List.getElem_cons_zero]
  refine wpAnyH_take (i := 2) (v := ?v2) rfl (by kernel_rfl) (by kernel_rfl) (by kernel_rfl) (fun _ _ _ h => h) (Or.inl ⟨by rfl, fun w hSw => ?hy2⟩) hHeld ?rest2
  case hy2 =>
    try dsimp only at hSw
    go_simp
    try with_reducible rfl
  simp only [Act.put, List.setIfInBounds_toArray, List.set_cons_zero, List.set_cons_succ, List.getElem_toArray, List.getElem_cons_zero, List.getElem_cons_succ]
  refine wpAnyH_ready (rs := [1]) (by kernel_rfl) (by simp) ?_
  refine AllReadyH.cons rfl (fun K hK => ?_) AllReadyH.nil
  go_simp
  refine (HNA.out _).mono ?_
  rintro e w1 ⟨nx, rfl, hnx, hna, hb1⟩
  have hb1' : Below wA.heap.size wA w1 := ⟨hb1.os, hb1.tape, hb1.output, hb1.size, hb1.block⟩
  have HB1 : Hid (Below w.heap.size w w1) := HB2.out.trans (hb1'.mono HB2.out.size)
  have HMA1 : Hid (MB w1 w.heap.size a sa) := HM1.out.below hb1'
  have HMB1 : Hid (MB w1 (w.heap.size + 1) b sb) := HM2.out.below hb1'
  have HN1 : Hid (NB w1 nx a) := hna
  clear hHeld hb1 hb1' hnx hna
  go_simp
  refine hK.out _ _ ⟨HMA1.out.cells, HMB1.out.cells⟩ (fun hHeld => ?_)
  clear hK
  refine wpAnyH_ready (rs := [3]) (by kernel_rfl) (by simp) ?_
  refine AllReadyH.cons rfl (fun K hK => ?_) AllReadyH.nil
  go_simp
  refine (HNB.out _).mono ?_
  rintro e w2 ⟨ny, rfl, hny, hnb, hb2⟩
  have HSS : Hid (SS w w2 a b sa sb w.heap.size (w.heap.size + 1) nx ny) := ⟨HMA1.out.below hb2, HMB1.out.below hb2, (hb2.block _ (lt_of_block HN1.out)).trans HN1.out, hnb, HB1.out.trans (hb2.mono HB1.out.size)⟩
  clear hHeld hb2 hny hnb
  go_simp
  refine hK.out _ _ ⟨HSS.out.ma.cells, HSS.out.mb.cells⟩ (fun hHeld => ?_)
  clear hK
  refine wpAnyH_take (i := 4) (v := ?v4) rfl (by kernel_rfl) (by kernel_rfl) (by kernel_rfl) (fun _ _ _ h => h) (Or.inl ⟨by rfl, fun w hSw => ?hy4⟩) hHeld ?rest4
  case hy4 =>
    try dsimp only at hSw
    go_simp
    try with_reducible rfl
  simp only [Act.put, List.setIfInBounds_toArray, List.set_cons_zero, List.set_cons_succ, List.getElem_toArray, List.getElem_cons_zero, List.getElem_cons_succ]
  refine wpAnyH_take (i := 5) (v := ?v5) rfl (by kernel_rfl) (by kernel_rfl) (by kernel_rfl) (fun _ _ _ h => h) (Or.inl ⟨by rfl, fun w hSw => ?hy5⟩) hHeld ?rest5
  case hy5 =>
    try dsimp only at hSw
    go_simp
    try with_reducible rfl
  simp only [Act.put, List.setIfInBounds_toArray, List.set_cons_zero, List.set_cons_succ, List.getElem_toArray, List.getElem_cons_zero, List.getElem_cons_succ]
  refine wpAnyH_done (by kernel_rfl) ?_ _
  clear hHeld HB1 HMA1 HMB1 HN1 HNA HNB HB2 HM1 HM2
  go_wp2
  go_loopw [7] (fun i wr => ∃ (j : Nat), i = .int .i64 (j : Nat) ∧ j ≤ 11 ∧ (∀ k, k < j → a.ns[k]? = b.ns[k]?) ∧ SS w wr a b sa sb w.heap.size (w.heap.size + 1) nx ny) (fun i _ => 11 - (intOf i).toNat)
  case atStart => exact ⟨0, rfl, Nat.zero_le _, (fun k hk => by omega), HSS.out⟩
  case round =>
    clear HSS
    obtain ⟨j, rfl, hj, hall, hss⟩ := hrel
    have HSS : Hid (SS w wr a b sa sb w.heap.size (w.heap.size + 1) nx ny) := hss
    have HALL : Hid (∀ k, k < j → a.ns[k]? = b.ns[k]?) := hall
    clear hall hss
    by_cases hlt : j < 11
    · obtain ⟨p, hp⟩ : ∃ p, a.ns[j]? = some p := ⟨a.ns[j]'(by show j < 11; exact hlt), List.getElem?_eq_getElem _⟩
      obtain ⟨q, hq⟩ : ∃ q, b.ns[j]? = some q := ⟨b.ns[j]'(by show j < 11; exact hlt), List.getElem?_eq_getElem _⟩
      have c0 := (NIn.of HSS.out.na) j p hp
      have d0 := (NIn.of HSS.out.nb) j q hq
      have hlti : (j : Int) < 11 := by omega
      by_cases hpq : p = q
      · subst hpq
        have HN : Hid (∀ k, k < j + 1 → a.ns[k]? = b.ns[k]?) := fun k hk => by
          rcases Nat.lt_or_ge k j with h | h
          · exact HALL.out k h
          · obtain rfl : k = j := by omega
            rw [hp, hq]
        clear hp hq
        go_wp2_with fail
        go_region
        go_wp2
        go_roundw
        case rel => exact ⟨j + 1, by go_num, by omega, HN.out, HSS.out.drew⟩
        case measure => simp [intOf]; omega
      · have HV : Hid (rv = false) := by
          rw [← HRV.out]
          refine eqB_false ?_
          intro hab
          exact get_ne hp hq hpq (by rw [hab])
        have hne : ((p : Int) != (q : Int)) = true := by simp [hpq]
        clear hp hq hpq
        go_wp2_with fail
        go_region
        go_wp2
        go_ret
        exact ⟨by rw [HV.out]; rfl, HSS.out.bel.drew⟩
    · obtain rfl : j = 11 := by omega
      have HNS : Hid (a.ns = b.ns) := eq_get (n := 11) rfl rfl HALL.out
      clear HALL
      obtain ⟨d0, d1, d2, d3, d4, d5, d6, d7, d8, d9, d10, c11, c12⟩ := HSS.out.ma.cells
      clear d0 d1 d2 d3 d4 d5 d6 d7 d8 d9 d10
      obtain ⟨d0, d1, d2, d3, d4, d5, d6, d7, d8, d9, d10, d11, d12⟩ := HSS.out.mb.cells
      clear d0 d1 d2 d3 d4 d5 d6 d7 d8 d9 d10
      have hla := HIA.out.ll
      have hlb := HIB.out.ll
      have HIA1 : Hid (MIn wr a sa) := HIA.out.below HSS.out.bel (Nat.le_refl _)
      have HIB1 : Hid (MIn wr b sb) := HIB.out.below HSS.out.bel (Nat.le_refl _)
      by_cases hll : a.log.length = b.log.length
      · have hne : (((a.log.length : Nat) : Int) != ((b.log.length : Nat) : Int)) = false := by simp [hll]
        have HSM : Hid (∀ W, MIn W a sa → MIn W b sb → Calls Try.prog 32 #[.slice sa.ba a.body.length sa.bc, .slice sb.ba b.body.length sb.bc] W fun e w' => e = .returned (.bool (eqB a.body b.body)) ∧ Below W.heap.size W w') := fun W h1 h2 => same9_ok sa.ba sb.ba sa.bc sb.bc a.body b.body W h1.body h2.body h1.bl h2.bl
        go_wp2_with fail
        refine (HSM.out _ HIA1.out HIB1.out).mono ?_
        rintro e w3 ⟨rfl, hb3⟩
        have HS3 : Hid (SS w w3 a b sa sb w.heap.size (w.heap.size + 1) nx ny) := ⟨HSS.out.ma.below hb3, HSS.out.mb.below hb3, (hb3.block _ (lt_of_block HSS.out.na)).trans HSS.out.na, (hb3.block _ (lt_of_block HSS.out.nb)).trans HSS.out.nb, HSS.out.bel.trans (hb3.mono HSS.out.bel.size)⟩
        clear hb3 c11 c12 d11 d12 HSS HIA1 HIB1 hne
        by_cases hbo : a.body = b.body
        · rw [eqB_true hbo]
          obtain ⟨len, hlen⟩ : ∃ len, a.log.length = len := ⟨_, rfl⟩
          have HLE : Hid (a.log.length = len ∧ b.log.length = len ∧ a.body = b.body) := ⟨hlen, by rw [← hll]; exact hlen, hbo⟩
          rw [hlen] at hla
          clear hbo hll hlb
          go_wp2
          go_loopw [8] (fun i wr => ∃ (j : Nat), i = .int .i64 (j : Nat) ∧ j ≤ len ∧ (∀ k, k < j → a.log[k]? = b.log[k]?) ∧ SS w wr a b sa sb w.heap.size (w.heap.size + 1) nx ny) (fun i _ => len - (intOf i).toNat)
          case atStart => exact ⟨0, rfl, Nat.zero_le _, (fun k hk => by omega), HS3.out⟩
          case round =>
            clear HS3
            obtain ⟨j, rfl, hj, hall, hss⟩ := hrel
            have HSS : Hid (SS w wr a b sa sb w.heap.size (w.heap.size + 1) nx ny) := hss
            have HALL : Hid (∀ k, k < j → a.log[k]? = b.log[k]?) := hall
            clear hall hss
            obtain ⟨d0, d1, d2, d3, d4, d5, d6, d7, d8, d9, d10, c11, c12⟩ := HSS.out.ma.cells
            clear d0 d1 d2 d3 d4 d5 d6 d7 d8 d9 d10 c12
            obtain ⟨d0, d1, d2, d3, d4, d5, d6, d7, d8, d9, d10, d11, d12⟩ := HSS.out.mb.cells
            clear d0 d1 d2 d3 d4 d5 d6 d7 d8 d9 d10 d12
            rw [HLE.out.1] at c11
            rw [HLE.out.2.1] at d11
            by_cases hlt : j < len
            · have hlti : (j : Int) < (len : Int) := by omega
              obtain ⟨p, hp⟩ : ∃ p, a.log[j]? = some p := ⟨a.log[j]'(by rw [HLE.out.1]; exact hlt), List.getElem?_eq_getElem _⟩
              obtain ⟨q, hq⟩ : ∃ q, b.log[j]? = some q := ⟨b.log[j]'(by rw [HLE.out.2.1]; exact hlt), List.getElem?_eq_getElem _⟩
              obtain ⟨ab, ao, hsa, _, c0⟩ := (HIA.out.log.below HSS.out.bel (Nat.le_refl _)) j p hp
              obtain ⟨bb, bo, hsb, _, d0⟩ := (HIB.out.log.below HSS.out.bel (Nat.le_refl _)) j q hq
              rw [hsa] at c11
              rw [hsb] at d11
              clear hsa hsb
              by_cases hpq : p = q
              · subst hpq
                have HN : Hid (∀ k, k < j + 1 → a.log[k]? = b.log[k]?) := fun k hk => by
                  rcases Nat.lt_or_ge k j with h | h
                  · exact HALL.out k h
                  · obtain rfl : k = j := by omega
                    rw [hp, hq]
                clear hp hq
                go_wp2_with fail
                go_region
                go_wp2
                go_roundw
                case rel => exact ⟨j + 1, by go_num, by omega, HN.out, HSS.out.drew⟩
                case measure => simp [intOf]; omega
              · have HV : Hid (rv = false) := by
                  rw [← HRV.out]
                  refine eqB_false ?_
                  intro hab
                  exact get_ne hp hq hpq (by rw [hab])
                have hne : (p.toList == q.toList) = false := by
                  cases hx : (p.toList == q.toList) with
                  | false => rfl
                  | true => exact absurd (toList_inj (eq_of_beq hx)) hpq
                clear hp hq hpq
                go_wp2_with fail
                go_region
                go_wp2
                go_ret
                exact ⟨by rw [HV.out]; rfl, HSS.out.bel.drew⟩
            · obtain rfl : j = len := by omega
              have HV : Hid (rv = true) := by rw [← HRV.out]; exact eqB_true (msg_ns HNS.out (eq_get HLE.out.1 HLE.out.2.1 HALL.out) HLE.out.2.2)
              go_wp2
              go_ret
              exact ⟨by rw [HV.out]; rfl, HSS.out.bel⟩
        · rw [eqB_false hbo]
          have HV : Hid (rv = false) := by
            rw [← HRV.out]
            refine eqB_false ?_
            intro hab
            exact hbo (by rw [hab])
          clear hbo
          go_wp2
          go_ret
          exact ⟨by rw [HV.out]; rfl, HS3.out.bel⟩
      · have hne : (((a.log.length : Nat) : Int) != ((b.log.length : Nat) : Int)) = true := by simp; omega
        have HV : Hid (rv = false) := by
          rw [← HRV.out]
          refine eqB_false ?_
          intro hab
          exact hll (by rw [hab])
        clear hll
        go_wp2
        go_ret
        exact ⟨by rw [HV.out]; rfl, HSS.out.bel⟩
end Go.Proofs.Ytalpbnkmppdgdaa
namespace Go.Proofs.Ytalpbnkmppdgdaa
open Go.RowKit
set_option linter.unusedVariables false

abbrev awM : Msg := ⟨3, 1, 2, 300, 0, 0, 0, 0, 0, 0, 0, [⟨#[120]⟩], [⟨0, ⟨#[107]⟩, ⟨#[]⟩, false⟩]⟩
abbrev fiveM : Msg := ⟨5, 0, 0, 0, 0, 0, 0, 0, 0, 0, 0, [], []⟩
theorem awM_may : mayM awM = true := by decide +kernel
theorem awM_len : (msgL awM).length ≤ 1048576 := by decide +kernel
theorem fiveM_bytes : bytesW fiveM = .tuple #[.string ⟨#[5, 0, 0, 0, 0, 0, 0, 0, 0, 0, 0, 0, 0]⟩, .int .i64 0] := by
  rw [bytesW_good (by decide +kernel) (by rw [msgL_nil]; decide), msgL_nil]
  rfl
theorem MIn.five (w : World) : MIn w fiveM zeroS := ⟨TIn.nil _ _, RIn.nil _ _, (fun t ht => by cases ht), (fun t ht => by cases ht), by decide, by decide⟩
/-- What Of answers where there is a message. -/
theorem of_msg (S : List UInt8) (m : Msg) (w : World) (h : S.length ≤ 1048576) (hr : rdMsg S = some m) :
    Calls Try.prog 14 #[.string (mk S)] w fun e w' => ∃ s, e = .returned (.tuple #[Msg.v m s, .int .i64 0]) ∧ MIn w' m s ∧ Below w.heap.size w w' := by
  refine (wof_ok S w h).mono ?_
  rintro e w' (⟨m', s, h1, rfl, h3, h4⟩ | ⟨h1, _⟩)
  · rw [hr] at h1
    cases h1
    exact ⟨s, rfl, h3, h4⟩
  · rw [hr] at h1; cases h1
theorem of_no (S : List UInt8) (w : World) (h : S.length ≤ 1048576) (hr : rdMsg S = none) :
    Calls Try.prog 14 #[.string (mk S)] w fun e w' => e = .returned (.tuple #[Msg.v zeroM zeroS, .int .i64 140]) ∧ Below w.heap.size w w' := by
  refine (wof_ok S w h).mono ?_
  rintro e w' (⟨m', s, h1, _⟩ | ⟨_, rfl, h4⟩)
  · rw [hr] at h1; cases h1
  · exact ⟨rfl, h4⟩
set_option maxHeartbeats 4000000 in
theorem wawake_ok (w : World) : Calls Try.prog 13 #[] w fun e w' => e = .returned (.bool true) ∧ Below w.heap.size w w' := by
  have hB1 : Below w.heap.size w (w.alloc (.cells #[.string ⟨#[120]⟩] 9)) := (Below.refl _ _).alloc (Nat.le_refl _) _
  have hs1 : (w.alloc (.cells #[.string ⟨#[120]⟩] 9)).heap.size = w.heap.size + 1 := by simp
  have hT1 : TIn (w.alloc (.cells #[.string ⟨#[120]⟩] 9)) (some ⟨w.heap.size, 0, none⟩) [⟨#[120]⟩] := by
    intro i t ht
    cases i with
    | zero => simp at ht; subst ht; exact ⟨w.heap.size, 0, rfl, by rw [hs1]; omega, by simp⟩
    | succ i => simp at ht
  generalize hW1 : w.alloc (.cells #[.string ⟨#[120]⟩] 9) = w1 at hB1 hs1 hT1
  have hB2 : Below w1.heap.size w1 (w1.alloc (.cells #[.int .i64 0, .string ⟨#[107]⟩, .string ⟨#[]⟩, .bool false] 56)) := (Below.refl _ _).alloc (Nat.le_refl _) _
  have hR2 : RIn (w1.alloc (.cells #[.int .i64 0, .string ⟨#[107]⟩, .string ⟨#[]⟩, .bool false] 56)) (some ⟨w1.heap.size, 0, none⟩) [⟨0, ⟨#[107]⟩, ⟨#[]⟩, false⟩] := rin_new w1 ⟨0, ⟨#[107]⟩, ⟨#[]⟩, false⟩
  have hs2 : (w1.alloc (.cells #[.int .i64 0, .string ⟨#[107]⟩, .string ⟨#[]⟩, .bool false] 56)).heap.size = w.heap.size + 2 := by simp [hs1]
  rw [hs1] at hR2
  generalize hW2 : w1.alloc (.cells #[.int .i64 0, .string ⟨#[107]⟩, .string ⟨#[]⟩, .bool false] 56) = w2 at hB2 hR2 hs2
  obtain ⟨sp, hsp⟩ : ∃ sp : Spot, sp = ⟨some ⟨w.heap.size, 0, none⟩, 1, some ⟨w.heap.size + 1, 0, none⟩, 1⟩ := ⟨_, rfl⟩
  have hB3 : Below w2.heap.size w2 (w2.alloc (.cells (awM.cs sp) 28)) := (Below.refl _ _).alloc (Nat.le_refl _) _
  have hI3 : MIn (w2.alloc (.cells (awM.cs sp) 28)) awM sp := by
    have h0 : MIn w2 awM sp := by
      subst hsp
      exact ⟨hT1.below hB2 (Nat.le_refl _), hR2, (fun t ht => by simp at ht; subst ht; decide), (fun r hr => by simp at hr; subst hr; decide), by decide, by decide⟩
    exact h0.below hB3 (Nat.le_refl _)
  have hM3 : MB (w2.alloc (.cells (awM.cs sp) 28)) w2.heap.size awM sp := heap_alloc_new _ _
  rw [hs2] at hM3
  have hBw : Below w.heap.size w (w2.alloc (.cells (awM.cs sp) 28)) := (hB1.trans (hB2.mono hB1.size)).trans (hB3.mono (hB1.trans (hB2.mono hB1.size)).size)
  have HI3 : Hid (MIn (w2.alloc (.cells (awM.cs sp) 28)) awM sp) := hI3
  have HM3 : Hid (MB (w2.alloc (.cells (awM.cs sp) 28)) (w.heap.size + 2) awM sp) := hM3
  have HBW : Hid (Below w.heap.size w (w2.alloc (.cells (awM.cs sp) 28))) := hBw
  clear hB1 hs1 hT1 hB2 hR2 hs2 hB3 hI3 hM3 hBw
  subst hW1 hW2 hsp
  have HI4' : Hid (MIn (((w.alloc (.cells #[.string ⟨#[120]⟩] 9)).alloc (.cells #[.int .i64 0, .string ⟨#[107]⟩, .string ⟨#[]⟩, .bool false] 56)).alloc (.cells #[.int .i64 3, .int .i64 1, .int .i64 2, .int .i64 300, .int .i64 0, .int .i64 0, .int .i64 0, .int .i64 0, .int .i64 0, .int .i64 0, .int .i64 0, .slice (some ⟨w.heap.size, 0, none⟩) 1 1, .slice (some ⟨w.heap.size + 1, 0, none⟩) 1 1] 28)) awM ⟨some ⟨w.heap.size, 0, none⟩, 1, some ⟨w.heap.size + 1, 0, none⟩, 1⟩) := HI3.out
  have HM4' : Hid (MB (((w.alloc (.cells #[.string ⟨#[120]⟩] 9)).alloc (.cells #[.int .i64 0, .string ⟨#[107]⟩, .string ⟨#[]⟩, .bool false] 56)).alloc (.cells #[.int .i64 3, .int .i64 1, .int .i64 2, .int .i64 300, .int .i64 0, .int .i64 0, .int .i64 0, .int .i64 0, .int .i64 0, .int .i64 0, .int .i64 0, .slice (some ⟨w.heap.size, 0, none⟩) 1 1, .slice (some ⟨w.heap.size + 1, 0, none⟩) 1 1] 28)) (w.heap.size + 2) awM ⟨some ⟨w.heap.size, 0, none⟩, 1, some ⟨w.heap.size + 1, 0, none⟩, 1⟩) := HM3.out
  have HBW' : Hid (Below w.heap.size w (((w.alloc (.cells #[.string ⟨#[120]⟩] 9)).alloc (.cells #[.int .i64 0, .string ⟨#[107]⟩, .string ⟨#[]⟩, .bool false] 56)).alloc (.cells #[.int .i64 3, .int .i64 1, .int .i64 2, .int .i64 300, .int .i64 0, .int .i64 0, .int .i64 0, .int .i64 0, .int .i64 0, .int .i64 0, .int .i64 0, .slice (some ⟨w.heap.size, 0, none⟩) 1 1, .slice (some ⟨w.heap.size + 1, 0, none⟩) 1 1] 28))) := HBW.out
  clear HI3 HM3 HBW
  generalize hWA : ((w.alloc (.cells #[.string ⟨#[120]⟩] 9)).alloc (.cells #[.int .i64 0, .string ⟨#[107]⟩, .string ⟨#[]⟩, .bool false] 56)).alloc (.cells #[.int .i64 3, .int .i64 1, .int .i64 2, .int .i64 300, .int .i64 0, .int .i64 0, .int .i64 0, .int .i64 0, .int .i64 0, .int .i64 0, .int .i64 0, .slice (some ⟨w.heap.size, 0, none⟩) 1 1, .slice (some ⟨w.heap.size + 1, 0, none⟩) 1 1] 28) = wA at HI4' HM4' HBW'
  obtain ⟨sp, hsp⟩ : ∃ sp : Spot, ⟨some ⟨w.heap.size, 0, none⟩, 1, some ⟨w.heap.size + 1, 0, none⟩, 1⟩ = sp := ⟨_, rfl⟩
  have HI : Hid (MIn wA awM sp) := by rw [← hsp]; exact HI4'.out
  have HM : Hid (MB wA (w.heap.size + 2) awM sp) := by rw [← hsp]; exact HM4'.out
  have e1 : sp.la = some ⟨w.heap.size, 0, none⟩ := by rw [← hsp]
  have e2 : sp.lc = 1 := by rw [← hsp]
  have e3 : sp.ba = some ⟨w.heap.size + 1, 0, none⟩ := by rw [← hsp]
  have e4 : sp.bc = 1 := by rw [← hsp]
  have HBW : Hid (Below w.heap.size w wA) := HBW'.out
  clear HI4' HM4' HBW' hsp
  have HBY : Hid (∀ W, MIn W awM sp → Calls Try.prog 9 #[awM.v sp] W fun e w' => e = .returned (.tuple #[.string (mk (msgL awM)), .int .i64 0]) ∧ Below W.heap.size W w') := fun W h => by
    have := wbytes_ok awM sp W h
    rw [bytesW_good awM_may awM_len] at this
    exact this
  have HOF : Hid (∀ W, Calls Try.prog 14 #[.string (mk (msgL awM))] W fun e w' => ∃ s, e = .returned (.tuple #[Msg.v awM s, .int .i64 0]) ∧ MIn w' awM s ∧ Below W.heap.size W w') := fun W => of_msg _ awM W awM_len (rdMsg_msgL awM awM_may)
  have HB5 : Hid (∀ W, Calls Try.prog 9 #[fiveM.v zeroS] W fun e w' => e = .returned (.tuple #[.string ⟨#[5, 0, 0, 0, 0, 0, 0, 0, 0, 0, 0, 0, 0]⟩, .int .i64 0]) ∧ Below W.heap.size W w') := fun W => by
    have := wbytes_ok fiveM zeroS W (MIn.five W)
    rw [fiveM_bytes] at this
    exact this
  have HSM : Hid (∀ W s, MIn W awM sp → MIn W awM s → Calls Try.prog 16 #[awM.v sp, awM.v s] W fun e w' => e = .returned (.bool true) ∧ Below W.heap.size W w') := fun W s h1 h2 => by
    have := same_walk awM awM sp s W h1 h2
    rw [eqB_true rfl] at this
    exact this
  generalize mk (msgL awM) = z at HBY HOF
  go_enter Try.func13, Try.ntmps13
  go_upto_region 2 with fail
  clear hWA e1 e2 e3 e4
  obtain ⟨d0, d1, d2, d3, d4, d5, d6, d7, d8, d9, d10, d11, d12⟩ := HM.out.cells
  go_wp2_with fail
  refine (HBY.out _ HI.out).mono ?_
  rintro e w1 ⟨rfl, hb1⟩
  have HM1 : Hid (MB w1 (w.heap.size + 2) awM sp) := HM.out.below hb1
  have HI1 : Hid (MIn w1 awM sp) := HI.out.below hb1 (Nat.le_refl _)
  have HBW1 : Hid (Below w.heap.size w w1) := HBW.out.trans (hb1.mono HBW.out.size)
  clear hb1 d0 d1 d2 d3 d4 d5 d6 d7 d8 d9 d10 d11 d12
  go_wp2_with fail
  refine (HOF.out _).mono ?_
  rintro e w2 ⟨s, rfl, hin2, hb2⟩
  have hBa : Below w2.heap.size w2 (w2.alloc (.cells #[.int .i64 3, .int .i64 1, .int .i64 2, .int .i64 300, .int .i64 0, .int .i64 0, .int .i64 0, .int .i64 0, .int .i64 0, .int .i64 0, .int .i64 0, .slice s.la 1 s.lc, .slice s.ba 1 s.bc] 28)) := (Below.refl _ _).alloc (Nat.le_refl _) _
  have HM2 : Hid (MB (w2.alloc (.cells #[.int .i64 3, .int .i64 1, .int .i64 2, .int .i64 300, .int .i64 0, .int .i64 0, .int .i64 0, .int .i64 0, .int .i64 0, .int .i64 0, .int .i64 0, .slice s.la 1 s.lc, .slice s.ba 1 s.bc] 28)) (w.heap.size + 2) awM sp) := (HM1.out.below hb2).below hBa
  have HI2 : Hid (MIn (w2.alloc (.cells #[.int .i64 3, .int .i64 1, .int .i64 2, .int .i64 300, .int .i64 0, .int .i64 0, .int .i64 0, .int .i64 0, .int .i64 0, .int .i64 0, .int .i64 0, .slice s.la 1 s.lc, .slice s.ba 1 s.bc] 28)) awM sp) := (HI1.out.below hb2 (Nat.le_refl _)).below hBa (Nat.le_refl _)
  have HJ2 : Hid (MIn (w2.alloc (.cells #[.int .i64 3, .int .i64 1, .int .i64 2, .int .i64 300, .int .i64 0, .int .i64 0, .int .i64 0, .int .i64 0, .int .i64 0, .int .i64 0, .int .i64 0, .slice s.la 1 s.lc, .slice s.ba 1 s.bc] 28)) awM s) := hin2.below hBa (Nat.le_refl _)
  have HN2 : Hid (MB (w2.alloc (.cells #[.int .i64 3, .int .i64 1, .int .i64 2, .int .i64 300, .int .i64 0, .int .i64 0, .int .i64 0, .int .i64 0, .int .i64 0, .int .i64 0, .int .i64 0, .slice s.la 1 s.lc, .slice s.ba 1 s.bc] 28)) w2.heap.size awM s) := heap_alloc_new _ _
  have HBW2 : Hid (Below w.heap.size w (w2.alloc (.cells #[.int .i64 3, .int .i64 1, .int .i64 2, .int .i64 300, .int .i64 0, .int .i64 0, .int .i64 0, .int .i64 0, .int .i64 0, .int .i64 0, .int .i64 0, .slice s.la 1 s.lc, .slice s.ba 1 s.bc] 28))) := (HBW1.out.trans (hb2.mono HBW1.out.size)).trans (hBa.mono (HBW1.out.trans (hb2.mono HBW1.out.size)).size)
  obtain ⟨nb, hnb⟩ : ∃ nb, w2.heap.size = nb := ⟨_, rfl⟩
  rw [hnb] at HN2
  clear hBa hb2 hin2
  generalize hW3 : w2.alloc (.cells #[.int .i64 3, .int .i64 1, .int .i64 2, .int .i64 300, .int .i64 0, .int .i64 0, .int .i64 0, .int .i64 0, .int .i64 0, .int .i64 0, .int .i64 0, .slice s.la 1 s.lc, .slice s.ba 1 s.bc] 28) = w3 at HM2 HI2 HJ2 HN2 HBW2
  go_upto_region 4 with fail
  clear hW3 hnb
  go_wp2_with fail
  refine (HB5.out _).mono ?_
  rintro e w4 ⟨rfl, hb4⟩
  have HM4 : Hid (MB w4 (w.heap.size + 2) awM sp) := HM2.out.below hb4
  have HI4 : Hid (MIn w4 awM sp) := HI2.out.below hb4 (Nat.le_refl _)
  have HJ4 : Hid (MIn w4 awM s) := HJ2.out.below hb4 (Nat.le_refl _)
  have HN4 : Hid (MB w4 nb awM s) := HN2.out.below hb4
  have HBW4 : Hid (Below w.heap.size w w4) := HBW2.out.trans (hb4.mono HBW2.out.size)
  clear hb4
  obtain ⟨d0, d1, d2, d3, d4, d5, d6, d7, d8, d9, d10, d11, d12⟩ := HM4.out.cells
  obtain ⟨c0, c1, c2, c3, c4, c5, c6, c7, c8, c9, c10, c11, c12⟩ := HN4.out.cells
  go_wp2_with fail
  refine (HSM.out _ _ HI4.out HJ4.out).mono ?_
  rintro e w5 ⟨rfl, hb5⟩
  have HBW5 : Hid (Below w.heap.size w w5) := HBW4.out.trans (hb5.mono HBW4.out.size)
  clear hb5 d0 d1 d2 d3 d4 d5 d6 d7 d8 d9 d10 d11 d12 c0 c1 c2 c3 c4 c5 c6 c7 c8 c9 c10 c11 c12
  have hq : ((⟨#[5, 0, 0, 0, 0, 0, 0, 0, 0, 0, 0, 0, 0]⟩ : ByteArray).toList == [5, 0, 0, 0, 0, 0, 0, 0, 0, 0, 0, 0, 0]) = true := by decide +kernel
  go_wp2
  go_ret
  exact ⟨rfl, HBW5.out⟩
end Go.Proofs.Ytalpbnkmppdgdaa
