/- Layer 5: the longest copy that tells what stands at a place. -/
/- Layer 5: tokens in a row of the call's own; the state of tokensOf. -/
import Derived.Test.YtlbadjfcffoakaaDoorV07
import Derived.Deep.DeepCutAuto
import Derived.Deep.CutBlock
import Derived.Carry
namespace Go.Proofs.YtlbadjfcffoakaaDoor.D5
open Go.RowKit
set_option linter.unusedVariables false
set_option maxRecDepth 20000

structure CpS (w : World) (f mb ob : Nat) (s : ByteArray) (k U : Nat) (W : World) : Prop where
  fs : FS W f mb ob s k
  bel : Below U w W
  own : W.heap[U]? = some (.cells #[.int .u8 0, .int .u16 0, .int .u16 0] 61 (0, 0))
theorem CpS.drewN {w : World} {f mb ob : Nat} {s : ByteArray} {k U : Nat} {W : World} (h : CpS w f mb ob s k U W) (n : Nat) : CpS w f mb ob s k U (W.drewN n) := ⟨h.fs.drewN n, h.bel.trans (Below.drewN' _ _ _), h.own⟩
def tokV (b n d : Nat) : Value := .agg #[.int .u8 (b : Nat), .int .u16 (n : Nat), .int .u16 (d : Nat)]
theorem results_cell {fn : Func} {p : Tmp} {ty : TypeId} (h : fn.results = #[.cell p ty]) (tmps : Array Value) (P : Program) (w : World) :
    (results fn tmps).run P w = ((asAddr (tmps.getD p undef)).run P w).andThen fun a w₁ => (loadVar ty a).run P w₁ := by
  simp only [results, h]
  simp [Sem.run_bind, Result.andThen]
theorem wrapU16 (n : Nat) (h : n ≤ 65535) : IntKind.u16.wrap (n : Int) = (n : Int) := by rw [IntKind.wrap_u16]; omega
set_option maxHeartbeats 1000000 in
theorem cpAt_no (w : World) (f : Nat) (s : ByteArray) (p : Nat) (hc : w.cell? ⟨f, 0, none⟩ = some (.string s)) (hp : s.size < p + 3) (hp2 : p ≤ 4194304) (hs : s.size ≤ 1048576) :
    Calls Tryd.prog 24 #[.pointer (some ⟨f, 0, none⟩), .int .i64 p] w fun e w' => e = .returned (tokV 0 0 0) ∧ Below w.heap.size w w' := by
  have HF : Hid (∀ W, W.cell? ⟨f, 0, none⟩ = some (.string s) → Calls Tryd.prog 41 #[.pointer (some ⟨f, 0, none⟩), .int .i64 p] W fun e w' => e = .returned (.tuple #[v3 0 0 0, .bool false]) ∧ Below W.heap.size W w') := fun W hW => threeAt_no W f s p hW hp hp2 hs
  have hc2 : ∀ o, (w.alloc o).cell? ⟨f, 0, none⟩ = some (.string s) := fun o => by rw [World.cell?_alloc_some w ⟨f, 0, none⟩ o (by rw [hc]; rfl)]; exact hc
  go_enter Tryd.func24, Tryd.ntmps24
  go_wp2_with fail
  obtain ⟨W, hW⟩ : ∃ W, w.alloc (.cells #[.int .u8 0, .int .u16 0, .int .u16 0] 61) = W := ⟨_, rfl⟩
  have hbW : W.heap[w.heap.size]? = some (.cells #[.int .u8 0, .int .u16 0, .int .u16 0] 61 (0, 0)) := by rw [← hW]; exact heap_alloc_new _ _
  have hBW : Below w.heap.size w W := by rw [← hW]; exact (Below.refl _ _).alloc (Nat.le_refl _) _
  have hcW : W.cell? ⟨f, 0, none⟩ = some (.string s) := by rw [← hW]; exact hc2 _
  rw [hW]
  refine (HF.out _ hcW).mono ?_
  rintro e w1 ⟨rfl, hb1⟩
  have hv : v3 0 0 0 = .agg #[.int .u8 0, .int .u8 0, .int .u8 0] := rfl
  rw [hv]
  have hb1' := (hb1.block _ (lt_of_block hbW)).trans hbW
  have H1 : Hid (Below w.heap.size w w1) := hBW.trans (hb1.mono hBW.size)
  have HB1 : Hid (w1.heap[w.heap.size]? = some (.cells #[.int .u8 0, .int .u16 0, .int .u16 0] 61 (0, 0))) := hb1'
  obtain ⟨U, hU⟩ : ∃ U, w.heap.size = U := ⟨_, rfl⟩
  rw [hU] at hb1' H1 HB1 ⊢
  have z : ∀ o, ((w1.alloc o).cell? ⟨U, 0, none⟩ = some (.int .u8 0) ∧ (w1.alloc o).cell? ⟨U, 1, none⟩ = some (.int .u16 0) ∧ (w1.alloc o).cell? ⟨U, 2, none⟩ = some (.int .u16 0)) ∧ ((w1.alloc o).frozen? ⟨U, 0, none⟩ = false ∧ (w1.alloc o).frozen? ⟨U, 1, none⟩ = false ∧ (w1.alloc o).frozen? ⟨U, 2, none⟩ = false) := fun o => by
    have : (w1.alloc o).heap[U]? = some (.cells #[.int .u8 0, .int .u16 0, .int .u16 0] 61 (0, 0)) := by rw [heap_alloc_old _ _ (lt_of_block hb1')]; exact hb1'
    exact ⟨⟨by simp [World.cell?, this], by simp [World.cell?, this], by simp [World.cell?, this]⟩, by simp [World.frozen?, this], by simp [World.frozen?, this], by simp [World.frozen?, this]⟩
  obtain ⟨⟨z0, z1, z2⟩, q0, q1, q2⟩ := z (.cells #[.int .u8 0, .int .u8 0, .int .u8 0] 85)
  clear z hb1' hb1 hBW hbW hcW hc2 hv
  go_wp2
  try simp only [Exit.inBlock, Exit.then]
  obtain ⟨W4, hW4⟩ : ∃ W4, ((((w1.alloc (.cells #[.int .u8 0, .int .u8 0, .int .u8 0] 85)).setCell ⟨U, 0, none⟩ (.int .u8 0)).setCell ⟨U, 1, none⟩ (.int .u16 0)).setCell ⟨U, 2, none⟩ (.int .u16 0)) = W4 := ⟨_, rfl⟩
  have hb4 : W4.heap[U]? = some (.cells #[.int .u8 0, .int .u16 0, .int .u16 0] 61 (0, 0)) := by
    rw [← hW4]
    have h0 : (w1.alloc (.cells #[.int .u8 0, .int .u8 0, .int .u8 0] 85)).heap[U]? = some (.cells #[.int .u8 0, .int .u16 0, .int .u16 0] 61 (0, 0)) := by rw [heap_alloc_old _ _ (lt_of_block HB1.out)]; exact HB1.out
    exact block_setCell (i := 2) (block_setCell (i := 1) (block_setCell (i := 0) h0))
  have HB4 : Hid (Below U w W4) := by
    have h1 := (((H1.out.alloc (by rw [← hU]; exact H1.out.size) (.cells #[.int .u8 0, .int .u8 0, .int .u8 0] 85)).trans (Below.setCell' (b := U) (i := 0) _ (.int .u8 0) (Nat.le_refl _))).trans (Below.setCell' (b := U) (i := 1) _ (.int .u16 0) (Nat.le_refl _))).trans (Below.setCell' (b := U) (i := 2) _ (.int .u16 0) (Nat.le_refl _))
    rw [← hW4]
    exact h1
  have x0 : W4.cell? ⟨U, 0, none⟩ = some (.int .u8 0) := by simp [World.cell?, hb4]
  have x1 : W4.cell? ⟨U, 1, none⟩ = some (.int .u16 0) := by simp [World.cell?, hb4]
  have x2 : W4.cell? ⟨U, 2, none⟩ = some (.int .u16 0) := by simp [World.cell?, hb4]
  rw [hW4]
  clear z0 z1 z2 q0 q1 q2 hW4 hb4
  refine bodyPost_ret (v := tokV 0 0 0) ?_ rfl ?_
  · rw [results_cell rfl]
    go_simp
    rfl
  exact ⟨rfl, by rw [hU]; exact HB4.out⟩
set_option maxHeartbeats 4000000 in
theorem cpAt_yes (w : World) (f mb ob : Nat) (s : ByteArray) (k : Nat) (h : FS w f mb ob s k) (hk : k + 3 ≤ s.size) :
    Calls Tryd.prog 24 #[.pointer (some ⟨f, 0, none⟩), .int .i64 k] w fun e w' => e = .returned (tokV 0 (copyAt s k).1 (copyAt s k).2) ∧ Below w.heap.size w w' := by
  obtain ⟨r, hr⟩ : ∃ r, rawAt s k = r := ⟨_, rfl⟩
  have HCP : Hid (copyAt s k = if r.1 = 3 ∧ 4096 < r.2 then (0, 0) else r) := by
    show _ = _
    unfold copyAt
    rw [if_neg (by omega), hr]
  have hrb : r.1 ≤ 258 ∧ r.2 ≤ 32768 := by
    rcases rawAt_ok (s := s) (k := k) hk with e | e
    · rw [← hr, e]; simp
    · rw [← hr]; exact ⟨e.most, e.far⟩
  unfold rawAt at hr
  rw [met_lt hk] at hr
  have hs := h.small
  obtain ⟨most, hmost⟩ : ∃ m, min 258 (s.size - k) = m := ⟨_, rfl⟩
  rw [hmost] at hr
  have HR : Hid (chain s k most 64 (lastP s k (three s k)) 0 0 = r) := hr
  have H : Hid (FS w f mb ob s k) := h
  have hm3 : 3 ≤ most := by omega
  have hm258 : most ≤ 258 := by omega
  have hmb : k + most ≤ s.size := by omega
  obtain ⟨M, hM⟩ : ∃ M, s.size - k = M := ⟨_, rfl⟩
  have hMi : (s.size : Int) - (k : Int) = (M : Int) := by omega
  have hMw := wrapN M (by omega)
  have hmin : min 258 M = most := by rw [← hM]; exact hmost
  have hmini : (if (M : Int) < 258 then (M : Int) else 258) = (most : Int) := by split <;> omega
  have HF4 : Hid (∀ W, FS W f mb ob s k → Calls Tryd.prog 41 #[.pointer (some ⟨f, 0, none⟩), .int .i64 k] W fun e w' => e = .returned (.tuple #[threeV s k, .bool true]) ∧ Below W.heap.size W w') := fun W hW => threeAt_ok W f s k hW.cells.1 hk hs
  clear h hr hmost hM
  go_enter Tryd.func24, Tryd.ntmps24
  go_wp2_with fail
  obtain ⟨W, hW⟩ : ∃ W, w.alloc (.cells #[.int .u8 0, .int .u16 0, .int .u16 0] 61) = W := ⟨_, rfl⟩
  have hbW : W.heap[w.heap.size]? = some (.cells #[.int .u8 0, .int .u16 0, .int .u16 0] 61 (0, 0)) := by rw [← hW]; exact heap_alloc_new _ _
  have hBW : Below w.heap.size w W := by rw [← hW]; exact (Below.refl _ _).alloc (Nat.le_refl _) _
  rw [hW]
  refine (HF4.out _ (H.out.below hBW)).mono ?_
  rintro e w1 ⟨rfl, hb1⟩
  obtain ⟨U, hU⟩ : ∃ U, w.heap.size = U := ⟨_, rfl⟩
  have H1 : Hid (FS w1 f mb ob s k ∧ Below U w w1 ∧ w1.heap[U]? = some (.cells #[.int .u8 0, .int .u16 0, .int .u16 0] 61 (0, 0))) :=
    ⟨(H.out.below hBW).below hb1, by rw [← hU]; exact hBW.trans (hb1.mono hBW.size), by rw [← hU]; exact (hb1.block _ (lt_of_block hbW)).trans hbW⟩
  rw [hU]
  obtain ⟨a0, a1, a2, hV⟩ : ∃ a0 a1 a2 : Nat, threeV s k = .agg #[.int .u8 (a0 : Nat), .int .u8 (a1 : Nat), .int .u8 (a2 : Nat)] := ⟨_, _, _, rfl⟩
  obtain ⟨o, ho⟩ : ∃ o, lastP s k (three s k) = o := ⟨_, rfl⟩
  have hop : ∀ p, o = some p → p < k := fun p hp => (lastP_some (ho.trans hp)).1
  obtain ⟨E, hE⟩ : ∃ E, enc32 o = E := ⟨_, rfl⟩
  have HLM : Hid (∀ W', FS W' f mb ob s k → Calls Tryd.prog 42 #[.pointer (some ⟨f, 0, none⟩), .agg #[.int .u8 (a0 : Nat), .int .u8 (a1 : Nat), .int .u8 (a2 : Nat)]] W' fun e w' => e = .returned (.int .i32 E) ∧ Below W'.heap.size W' w') := fun W' hW' => by
    have h1 := lastMet_ok W' f mb ob s k k hW'
    rw [ho, hE, hV] at h1
    exact h1
  have hEb := enc_b o (k := k) hop
  rw [hE] at hEb
  have HEW : Hid (wrap64 E = E) := by show wrap64 E = E; unfold wrap64; omega
  have HO : Hid (enc32 o = E ∧ (∀ p, o = some p → p < k) ∧ chain s k most 64 o 0 0 = r) := ⟨hE, hop, by rw [← ho]; exact HR.out⟩
  rw [hV]
  obtain ⟨W2, hW2⟩ : ∃ W2, w1.alloc (.cells #[.int .u8 (a0 : Nat), .int .u8 (a1 : Nat), .int .u8 (a2 : Nat)] 85) = W2 := ⟨_, rfl⟩
  have hb2 : W2.heap[w1.heap.size]? = some (.cells #[.int .u8 (a0 : Nat), .int .u8 (a1 : Nat), .int .u8 (a2 : Nat)] 85 (0, 0)) := by rw [← hW2]; exact heap_alloc_new _ _
  have hB2 : Below w1.heap.size w1 W2 := by rw [← hW2]; exact (Below.refl _ _).alloc (Nat.le_refl _) _
  obtain ⟨X, hX⟩ : ∃ X, w1.heap.size = X := ⟨_, rfl⟩
  rw [hX] at hb2
  have z0 : W2.cell? ⟨X, 0, none⟩ = some (.int .u8 (a0 : Nat)) := by simp [World.cell?, hb2]
  have z1 : W2.cell? ⟨X, 1, none⟩ = some (.int .u8 (a1 : Nat)) := by simp [World.cell?, hb2]
  have z2 : W2.cell? ⟨X, 2, none⟩ = some (.int .u8 (a2 : Nat)) := by simp [World.cell?, hb2]
  have H2 : Hid (FS W2 f mb ob s k ∧ Below U w W2 ∧ W2.heap[U]? = some (.cells #[.int .u8 0, .int .u16 0, .int .u16 0] 61 (0, 0))) :=
    ⟨H1.out.1.below hB2, H1.out.2.1.trans (hB2.mono (by rw [← hU]; exact H1.out.2.1.size)), (hB2.block _ (lt_of_block H1.out.2.2)).trans H1.out.2.2⟩
  obtain ⟨c0, c1, c2⟩ := H2.out.1.cells
  clear hbW hBW hb1 hV ho hop hE hb2 hB2 HF4 HR
  clear hmin hEb
  go_upto_region 7 with (go_at_call 42; refine (HLM.out _ H2.out.1).mono ?_; rintro e w2 ⟨rfl, hb2⟩)
  have H3 : Hid (CpS w f mb ob s k U w2) :=
    ⟨H2.out.1.below hb2, H2.out.2.1.trans (hb2.mono (by rw [← hU]; exact H2.out.2.1.size)), (hb2.block _ (lt_of_block H2.out.2.2)).trans H2.out.2.2⟩
  clear hb2 z0 z1 z2 c0 c1 c2 hW2
  go_upto_block 0 with fail
  go_cut [8, 9] (fun v8 v9 wc => v8 = .int .i64 (r.1 : Nat) ∧ v9 = .int .i64 (r.2 : Nat) ∧ Hid (CpS w f mb ob s k U wc))
  case first =>
    as_aux_lemma =>
      go_wp2_with fail
      go_loopw [8, 9, 10, 11] (fun x4 x5 x7 x8 wr => ∃ (len dist t : Nat) (o : Option Nat), x4 = .int .i64 (len : Nat) ∧ x5 = .int .i64 (dist : Nat) ∧ x7 = .int .i64 (enc32 o) ∧ x8 = .int .i64 (t : Nat) ∧ t ≤ 64 ∧ len < most ∧ Hid ((∀ p, o = some p → p < k) ∧ chain s k most (64 - t) o len dist = r ∧ CpS w f mb ob s k U wr)) (fun _ _ _ x8 _ => 64 - (intOf x8).toNat)
      case atStart => exact ⟨0, 0, 0, o, rfl, rfl, by rw [HO.out.1, HEW.out], rfl, by omega, by omega, HO.out.2.1, HO.out.2.2, H3.out⟩
      case round =>
        obtain ⟨len, dist, t, o', rfl, rfl, rfl, rfl, ht, hlen, HS⟩ := hrel
        cases o' with
        | none =>
          have hch := HS.out.2.1
          rw [chain_none] at hch
          have HE : Hid (r = (len, dist)) := hch.symm
          have hen : enc32 none = -1 := rfl
          clear hch
          rw [hen]
          go_wp2_with fail
          go_meet
          case rel => exact ⟨by rw [HE.out], by rw [HE.out], HS.out.2.2⟩
        | some p =>
          have hpk := HS.out.1 p rfl
          have hen : enc32 (some p) = (p : Int) := rfl
          rw [hen]
          have hp1 : ((p : Int) != -1) = true := by simp
          obtain ⟨d, hd⟩ : ∃ d, k - p = d := ⟨_, rfl⟩
          have hdi : (k : Int) - (p : Int) = (d : Int) := by omega
          have hdw := wrapN d (by omega)
          clear hen
          by_cases hfar : 32768 < d
          · have hch := HS.out.2.1
            rw [chain_far _ _ _ _ _ _ (by rw [hd]; exact hfar)] at hch
            have HE : Hid (r = (len, dist)) := hch.symm
            have hfi : decide ((d : Int) ≤ 32768) = false := by simp; omega
            have hfj : ¬ (d : Int) ≤ 32768 := by omega
            clear hch
            go_wp2_with fail
            go_meet
            case rel => exact ⟨by rw [HE.out], by rw [HE.out], HS.out.2.2⟩
          · have hfi : decide ((d : Int) ≤ 32768) = true := by simp; omega
            have hfj : (d : Int) ≤ 32768 := by omega
            by_cases h64 : t < 64
            · have hti : decide ((t : Int) < 64) = true := by simp; omega
              have htj : (t : Int) < 64 := by omega
              have hFS : FS wr f mb ob s k := HS.out.2.2.fs
              have HA : Hid (∀ _ : Unit, Calls Tryd.prog 43 #[.pointer (some ⟨f, 0, none⟩), .int .i64 p, .int .i64 k, .int .i64 len, .int .i64 most] wr fun e w' => e = .returned (.int .i64 (alikeF s p k len most : Nat)) ∧ ∃ j, w' = wr.drewN j) := fun _ => alike_ok wr f s p k len most hFS.cells.1 (by omega) hlen hmb hs
              have hal := alikeF_le s p k len most
              have hch := HS.out.2.1
              rw [show 64 - t = (64 - (t + 1)) + 1 by omega, chain, hd, if_neg (by omega)] at hch
              obtain ⟨n, hn⟩ : ∃ n, alikeF s p k len most = n := ⟨_, rfl⟩
              rw [hn] at HA hal hch
              have HCH : Hid (_ = r) := hch
              have hold := hFS.oldAt hpk
              have hE2 := enc_b (lastP s p (three s p)) (k := k) (fun q hq => by have := (lastP_some hq).1; omega)
              obtain ⟨E2, hE2'⟩ : ∃ E, enc32 (lastP s p (three s p)) = E := ⟨_, rfl⟩
              rw [hE2'] at hold hE2
              have hE2w : wrap64 E2 = E2 := by unfold wrap64; omega
              have HE2 : Hid (enc32 (lastP s p (three s p)) = E2 ∧ ∀ q, lastP s p (three s p) = some q → q < k) := ⟨hE2', fun q hq => by have := (lastP_some hq).1; omega⟩
              obtain ⟨c0, c1, c2⟩ := hFS.cells
              have hpi : (p : Int) < (s.size : Int) := by omega
              have hps : p < s.size := by omega
              clear hch hn hE2' hFS hE2
              go_wp2_with fail
              refine (HA.out ()).mono ?_
              rintro e w3 ⟨rfl, j, rfl⟩
              have HB3 : Hid (CpS w f mb ob s k U (wr.drewN j)) := HS.out.2.2.drewN j
              by_cases hgt : len < n
              · have hgi : (len : Int) < (n : Int) := by omega
                have hch := HCH.out
                rw [if_pos hgt] at hch
                by_cases hmx : n = most
                · rw [if_pos hmx] at hch
                  have HE : Hid (r = (most, d)) := by show _ = _; rw [← hmx]; exact hch.symm
                  have hmb : ((n : Int) == (most : Int)) = true := by simp [hmx]
                  clear hch HCH
                  go_wp2_with fail
                  go_meet
                  case rel => exact ⟨by rw [HE.out], by rw [HE.out], HB3.out⟩
                · rw [if_neg hmx] at hch
                  have HN : Hid ((∀ q, lastP s p (three s p) = some q → q < k) ∧ chain s k most (64 - (t + 1)) (lastP s p (three s p)) n d = r ∧ CpS w f mb ob s k U (wr.drewN j)) := ⟨HE2.out.2, hch, HB3.out⟩
                  have hmb : ((n : Int) == (most : Int)) = false := by simp; omega
                  clear hch HCH
                  go_wp2
                  exact ⟨⟨n, d, t + 1, lastP s p (three s p), rfl, rfl, by rw [HE2.out.1, hE2w], by go_num, by omega, by omega, HN⟩, by simp [intOf]; omega⟩
              · have hgi : ¬ (len : Int) < (n : Int) := by omega
                have hch := HCH.out
                rw [if_neg hgt] at hch
                have HN : Hid ((∀ q, lastP s p (three s p) = some q → q < k) ∧ chain s k most (64 - (t + 1)) (lastP s p (three s p)) len dist = r ∧ CpS w f mb ob s k U (wr.drewN j)) := ⟨HE2.out.2, hch, HB3.out⟩
                have hmb : ((len : Int) == (most : Int)) = false := by simp; omega
                clear hch HCH
                go_wp2
                exact ⟨⟨len, dist, t + 1, lastP s p (three s p), rfl, rfl, by rw [HE2.out.1, hE2w], by go_num, by omega, by omega, HN⟩, by simp [intOf]; omega⟩
            · obtain rfl : t = 64 := by omega
              have hch := HS.out.2.1
              have hch2 : (len, dist) = r := hch
              have HE : Hid (r = (len, dist)) := hch2.symm
              clear hch hch2
              go_wp2_with fail
              go_meet
              case rel => exact ⟨by rw [HE.out], by rw [HE.out], HS.out.2.2⟩
  case rest =>
    obtain ⟨rfl, rfl, HS⟩ := hcut
    obtain ⟨n, d⟩ := r
    simp only at hrb HCP ⊢
    have hb := HS.out.own
    have z0 : wc.cell? ⟨U, 0, none⟩ = some (.int .u8 0) := by simp [World.cell?, hb]
    have z1 : wc.cell? ⟨U, 1, none⟩ = some (.int .u16 0) := by simp [World.cell?, hb]
    have z2 : wc.cell? ⟨U, 2, none⟩ = some (.int .u16 0) := by simp [World.cell?, hb]
    have q0 : wc.frozen? ⟨U, 0, none⟩ = false := by simp [World.frozen?, hb]
    have q1 : wc.frozen? ⟨U, 1, none⟩ = false := by simp [World.frozen?, hb]
    have q2 : wc.frozen? ⟨U, 2, none⟩ = false := by simp [World.frozen?, hb]
    have HFIN : Hid (∀ x y N : Nat, N = U → copyAt s k = (x, y) → ∀ a : Act, a.defers = [] → a.tmps.getD 4 undef = .pointer (some ⟨U, 0, none⟩) → bodyPost Tryd.prog Tryd.f24 (fun e w' => e = .returned (tokV 0 (copyAt s k).1 (copyAt s k).2) ∧ Below N w w') .ret a (((wc.setCell ⟨U, 0, none⟩ (.int .u8 0)).setCell ⟨U, 1, none⟩ (.int .u16 (x : Nat))).setCell ⟨U, 2, none⟩ (.int .u16 (y : Nat)))) := fun x y N hN hxy a ha hat => by
      obtain ⟨W4, hW4⟩ : ∃ W4, (((wc.setCell ⟨U, 0, none⟩ (.int .u8 0)).setCell ⟨U, 1, none⟩ (.int .u16 (x : Nat))).setCell ⟨U, 2, none⟩ (.int .u16 (y : Nat))) = W4 := ⟨_, rfl⟩
      have hb4 : W4.heap[U]? = some (.cells #[.int .u8 0, .int .u16 (x : Nat), .int .u16 (y : Nat)] 61 (0, 0)) := by
        rw [← hW4]
        exact block_setCell (i := 2) (block_setCell (i := 1) (block_setCell (i := 0) hb))
      have HB4 : Below U w W4 := by
        rw [← hW4]
        exact ((HS.out.bel.trans (Below.setCell' (b := U) (i := 0) _ (.int .u8 0) (Nat.le_refl _))).trans (Below.setCell' (b := U) (i := 1) _ (.int .u16 (x : Nat)) (Nat.le_refl _))).trans (Below.setCell' (b := U) (i := 2) _ (.int .u16 (y : Nat)) (Nat.le_refl _))
      have x0 : W4.cell? ⟨U, 0, none⟩ = some (.int .u8 0) := by simp [World.cell?, hb4]
      have x1 : W4.cell? ⟨U, 1, none⟩ = some (.int .u16 (x : Nat)) := by simp [World.cell?, hb4]
      have x2 : W4.cell? ⟨U, 2, none⟩ = some (.int .u16 (y : Nat)) := by simp [World.cell?, hb4]
      rw [hW4]
      refine bodyPost_ret (v := tokV 0 x y) ?_ ha ?_
      · rw [results_cell rfl, hat]
        go_simp
        rfl
      rw [hxy]
      exact ⟨rfl, by rw [hN]; exact HB4⟩
    have hnw := wrapU16 n (by omega)
    have hdw := wrapU16 d (by omega)
    clear hb
    by_cases h3 : n = 3
    · have h3b : ((n : Int) == 3) = true := by simp [h3]
      by_cases h4 : 4096 < d
      · have h4i : (4096 : Int) < (d : Int) := by omega
        have HX : Hid (copyAt s k = (0, 0)) := by show _ = _; rw [HCP.out, if_pos ⟨h3, h4⟩]
        clear h3
        go_wp2
        refine HFIN.out 0 0 _ (by first | rfl | exact hU) HX.out _ ?_ ?_ <;> rfl
      · have h4i : ¬ (4096 : Int) < (d : Int) := by omega
        have HX : Hid (copyAt s k = (n, d)) := by show _ = _; rw [HCP.out, if_neg (by omega)]
        clear h3
        go_wp2
        refine HFIN.out n d _ (by first | rfl | exact hU) HX.out _ ?_ ?_ <;> rfl
    · have h3b : ((n : Int) == 3) = false := by simp; omega
      have HX : Hid (copyAt s k = (n, d)) := by show _ = _; rw [HCP.out, if_neg (by omega)]
      go_wp2
      refine HFIN.out n d _ (by first | rfl | exact hU) HX.out _ ?_ ?_ <;> rfl
theorem cpAt_ok (w : World) (f mb ob : Nat) (s : ByteArray) (k : Nat) (h : FS w f mb ob s (met s k)) (hk : k ≤ 4194304) :
    Calls Tryd.prog 24 #[.pointer (some ⟨f, 0, none⟩), .int .i64 k] w fun e w' => e = .returned (tokV 0 (copyAt s k).1 (copyAt s k).2) ∧ Below w.heap.size w w' := by
  by_cases h3 : k + 3 ≤ s.size
  · rw [met_lt h3] at h
    exact cpAt_yes w f mb ob s k h h3
  · have e : copyAt s k = (0, 0) := by unfold copyAt; rw [if_pos (by omega)]
    rw [e]
    exact cpAt_no w f s k h.cells.1 (by omega) hk h.small
end Go.Proofs.YtlbadjfcffoakaaDoor.D5
namespace Go.Proofs.YtlbadjfcffoakaaDoor.D5
open Go.RowKit Go.Maps
set_option linter.unusedVariables false
set_option maxRecDepth 20000

theorem info32 : (Tryd.prog.info? 21).map (fun i => (i.zero, i.size, i.bytes)) = some (some (.int .i32 0), 1, 4) := by kernel_rfl
theorem tokInfo : (Tryd.prog.info? 61).map (fun i => (i.zero, i.size, i.bytes)) = some (some (.agg #[.int .u8 0, .int .u16 0, .int .u16 0]), 3, 6) := by kernel_rfl
theorem info_split {t : TypeId} {z : Option Value} {n m : Nat} (h : (Tryd.prog.info? t).map (fun i => (i.zero, i.size, i.bytes)) = some (z, n, m)) : ∃ i, Tryd.prog.info? t = some i ∧ i.zero = z ∧ i.size = n ∧ i.bytes = m := by
  cases e : Tryd.prog.info? t with
  | none => rw [e] at h; simp at h
  | some i => rw [e] at h; simp at h; exact ⟨i, rfl, h.1, h.2.1, h.2.2⟩
def tc (t : Nat × Nat × Nat) : List Value := [.int .u8 (t.1 : Nat), .int .u16 (t.2.1 : Nat), .int .u16 (t.2.2 : Nat)]
def tcs : List (Nat × Nat × Nat) → List Value
  | [] => []
  | t :: T => tc t ++ tcs T
theorem tcs_append (L M : List (Nat × Nat × Nat)) : tcs (L ++ M) = tcs L ++ tcs M := by
  induction L with
  | nil => rfl
  | cons x L ih => simp [tcs, ih]
theorem tcs_length (L : List (Nat × Nat × Nat)) : (tcs L).length = L.length * 3 := by
  induction L with
  | nil => rfl
  | cons x L ih => simp only [tcs, List.length_append, ih, List.length_cons]; show 3 + _ = _; omega
theorem tcs_get (L : List (Nat × Nat × Nat)) (i : Nat) (r : Nat × Nat × Nat) (h : L[i]? = some r) (j : Nat) (hj : j < 3) : (tcs L)[i * 3 + j]? = (tc r)[j]? := by
  induction L generalizing i with
  | nil => simp at h
  | cons x L ih =>
    cases i with
    | zero =>
      simp at h
      subst h
      rw [tcs, List.getElem?_append_left (by show 0 * 3 + j < 3; omega)]
      simp
    | succ i =>
      simp at h
      rw [tcs, List.getElem?_append_right (by show 3 ≤ _; omega), show (i + 1) * 3 + j - (tc x).length = i * 3 + j by show (i + 1) * 3 + j - 3 = _; omega]
      exact ih i h
theorem owns_below {w w' : World} {B : Nat} {E : TypeId} {size n : Nat} {v : Value} {xs : List Value} (h : w.ownsRow B E size v n xs) (hb : Below w.heap.size w w') : w'.ownsRow B E size v n xs := by
  refine ⟨h.1, ?_⟩
  rcases h.2 with hn | ⟨g, cap, cur, hv, hg, hh, r⟩
  · exact .inl hn
  · exact .inr ⟨g, cap, cur, hv, hg, (hb.block g (lt_of_block hh)).trans hh, r⟩
theorem owns_kept {w w' : World} {B : Nat} {E : TypeId} {size n : Nat} {v : Value} {xs : List Value} (h : w.ownsRow B E size v n xs) (hb : ∀ g, v.ownBlock = some g → w'.heap[g]? = w.heap[g]?) : w'.ownsRow B E size v n xs := by
  refine ⟨h.1, ?_⟩
  rcases h.2 with hn | ⟨g, cap, cur, hv, hg, hh, r⟩
  · exact .inl hn
  · exact .inr ⟨g, cap, cur, hv, hg, (hb g (by rw [hv]; rfl)).trans hh, r⟩
theorem owns_form {w : World} {B : Nat} {E : TypeId} {size n : Nat} {v : Value} {xs : List Value} (h : w.ownsRow B E size v n xs) : ∃ ao cap, v = .slice ao n cap := by
  rcases h.2 with ⟨rfl, h0⟩ | ⟨g, cap, cur, rfl, _⟩
  · subst h0; exact ⟨_, _, rfl⟩
  · exact ⟨_, _, rfl⟩
def TokB (w : World) (b x n d : Nat) : Prop := w.heap[b]? = some (.cells #[.int .u8 (x : Nat), .int .u16 (n : Nat), .int .u16 (d : Nat)] 61 (0, 0))
theorem TokB.cells {w : World} {b x n d : Nat} (h : TokB w b x n d) : (w.cell? ⟨b, 0, none⟩ = some (.int .u8 (x : Nat)) ∧ w.cell? ⟨b, 1, none⟩ = some (.int .u16 (n : Nat)) ∧ w.cell? ⟨b, 2, none⟩ = some (.int .u16 (d : Nat))) ∧ w.frozen? ⟨b, 0, none⟩ = false ∧ w.frozen? ⟨b, 1, none⟩ = false ∧ w.frozen? ⟨b, 2, none⟩ = false := by
  unfold TokB at h
  exact ⟨⟨by simp [World.cell?, h], by simp [World.cell?, h], by simp [World.cell?, h]⟩, by simp [World.frozen?, h], by simp [World.frozen?, h], by simp [World.frozen?, h]⟩
structure TS (w0 w : World) (h : Nat) (s : ByteArray) (m : Nat) (T : List (Nat × Nat × Nat)) (v : Value) (b n d : Nat) : Prop where
  fs : FS w (h + 2) h (h + 1) s (met s m)
  own : w.ownsRow (h + 3) 61 3 v T.length (tcs T)
  here : TokB w b 0 n d
  apart : v.ownBlock ≠ some b
  lo : h + 3 ≤ b
  bel : Below h w0 w
variable {w0 w w' : World} {h : Nat} {s : ByteArray} {m : Nat} {T : List (Nat × Nat × Nat)} {v : Value} {b n d : Nat}
theorem TS.quiet (p : TS w0 w h s m T v b n d) (hb : Below w.heap.size w w') : TS w0 w' h s m T v b n d :=
  ⟨p.fs.below hb, owns_below p.own hb, (hb.block b (lt_of_block p.here)).trans p.here, p.apart, p.lo, p.bel.trans (hb.mono (by have := p.fs.lt; omega))⟩
theorem TS.met' (p : TS w0 w h s m T v b n d) {m' : Nat} (hf : FS w' (h + 2) h (h + 1) s (met s m')) (ht : TF h (h + 1) w w') : TS w0 w' h s m' T v b n d :=
  ⟨hf, owns_kept p.own (fun g hg => ht.block g (p.own.lt g hg).2 (by have := (p.own.lt g hg).1; omega) (by have := (p.own.lt g hg).1; omega)), (ht.block b (lt_of_block p.here) (by have := p.lo; omega) (by have := p.lo; omega)).trans p.here, p.apart, p.lo, p.bel.trans ⟨ht.os, ht.tape, ht.output, ht.size, fun k hk => ht.block k (by have := p.fs.lt; omega) (by omega) (by omega)⟩⟩
theorem TS.alloc (p : TS w0 w h s m T v b n d) (o : Obj) : TS w0 (w.alloc o) h s m T v b n d := p.quiet ((Below.refl _ _).alloc (Nat.le_refl _) _)
theorem TS.hand (p : TS w0 w h s m T v b n d) (n' d' : Nat) : TS w0 (((w.setCell ⟨b, 0, none⟩ (.int .u8 (0 : Nat))).setCell ⟨b, 1, none⟩ (.int .u16 (n' : Nat))).setCell ⟨b, 2, none⟩ (.int .u16 (d' : Nat))) h s m T v b n' d' := by
  have lo := p.lo
  have hne : ∀ k, k ≠ b → (((w.setCell ⟨b, 0, none⟩ (.int .u8 (0 : Nat))).setCell ⟨b, 1, none⟩ (.int .u16 (n' : Nat))).setCell ⟨b, 2, none⟩ (.int .u16 (d' : Nat))).heap[k]? = w.heap[k]? := fun k hk => by
    rw [Below.heap_setCell _ _ _ _ hk, Below.heap_setCell _ _ _ _ hk, Below.heap_setCell _ _ _ _ hk]
  refine ⟨p.fs.kept (hne _ (by omega)) (hne _ (by omega)) (hne _ (by omega)), owns_kept p.own (fun g hg => hne g (fun e => p.apart (by rw [hg, e]))), ?_, p.apart, lo, ?_⟩
  · exact block_setCell (i := 2) (block_setCell (i := 1) (block_setCell (i := 0) p.here))
  · exact ((p.bel.trans (Below.setCell' _ _ (by omega))).trans (Below.setCell' _ _ (by omega))).trans (Below.setCell' _ _ (by omega))
theorem TS.more (p : TS w0 w h s m T v b n d) {t : Nat × Nat × Nat} {g cap : Nat} (hown : w'.ownsRow (h + 3) 61 3 (.slice (some ⟨g, 0, none⟩) (T.length + 1) cap) (T.length + 1) (tcs T ++ tc t)) (hg : w.grownBy w' v.ownBlock) (hat : v.ownBlock = some g ∨ g = w.heap.size) :
    TS w0 w' h s m (T ++ [t]) (.slice (some ⟨g, 0, none⟩) (T.length + 1) cap) b n d := by
  have hl := p.fs.lt
  have hlo : ∀ k, v.ownBlock = some k → h + 3 ≤ k := fun k hk => (p.own.lt k hk).1
  refine ⟨p.fs.kept (hg.block _ hl.1 (fun e => ?_)) (hg.block _ hl.2.1 (fun e => ?_)) (hg.block _ hl.2.2 (fun e => ?_)), ?_, (hg.block b (lt_of_block p.here) (fun e => p.apart e.symm)).trans p.here, ?_, p.lo, p.bel.trans ⟨hg.os, hg.tape, hg.output, hg.size, fun k hk => hg.block k (by omega) (fun e => ?_)⟩⟩
  · have := hlo _ e.symm; omega
  · have := hlo _ e.symm; omega
  · have := hlo _ e.symm; omega
  · rw [List.length_append, List.length_singleton, tcs_append]
    have : tcs [t] = tc t := by simp [tcs]
    rw [this]; exact hown
  · intro e
    have e' : g = b := by simpa [Value.ownBlock] using e
    rcases hat with h1 | h1
    · exact p.apart (by rw [h1, e'])
    · have := lt_of_block p.here; omega
  · have := hlo _ e.symm; omega
theorem ts_start (w : World) (s : ByteArray) (hs : s.size ≤ 1048576) : FS (((w.alloc (.map #[] 0)).alloc (.cells (madeCells #[.int .i32 0] s.size) 21)).alloc (.cells #[.string s, .map (some w.heap.size), .slice (some ⟨w.heap.size + 1, 0, none⟩) s.size s.size] 58)) (w.heap.size + 2) w.heap.size (w.heap.size + 1) s 0 ∧ Below w.heap.size w (((w.alloc (.map #[] 0)).alloc (.cells (madeCells #[.int .i32 0] s.size) 21)).alloc (.cells #[.string s, .map (some w.heap.size), .slice (some ⟨w.heap.size + 1, 0, none⟩) s.size s.size] 58)) := by
  obtain ⟨w1, e1⟩ : ∃ w1, w.alloc (.map #[] 0) = w1 := ⟨_, rfl⟩
  have s1 : w1.heap.size = w.heap.size + 1 := by rw [← e1]; simp
  have m1 : w1.ownsMap Tryd.prog 85 (plainElem Tryd.prog 21) w.heap.size 0 (.map [] : DataW Unit) := by rw [← e1]; exact World.ownsMap_made w _ _ _
  have b1 : Below w.heap.size w w1 := by rw [← e1]; exact (Below.refl _ _).alloc (Nat.le_refl _) _
  rw [e1]
  obtain ⟨w2, e2⟩ : ∃ w2, w1.alloc (.cells (madeCells #[.int .i32 0] s.size) 21) = w2 := ⟨_, rfl⟩
  have s2 : w2.heap.size = w.heap.size + 2 := by rw [← e2]; simp [s1]
  have o2 : w2.heap[w.heap.size + 1]? = some (.cells (madeCells #[.int .i32 0] s.size) 21 (0, 0)) := by rw [← e2, ← s1]; exact heap_alloc_new _ _
  have m2 : w2.ownsMap Tryd.prog 85 (plainElem Tryd.prog 21) w.heap.size 0 (.map [] : DataW Unit) := by rw [← e2]; exact m1.alloc _
  have b2 : Below w.heap.size w w2 := by rw [← e2]; exact b1.alloc (by omega) _
  rw [e2]
  refine ⟨⟨?_, ⟨_, m2.alloc _, mapOK_nil s, isMap_empty⟩, ⟨madeCells #[.int .i32 0] s.size, ?_, ?_, fun i hi => by omega⟩, hs⟩, b2.alloc (by omega) _⟩
  · rw [← s2]; exact heap_alloc_new _ _
  · rw [heap_alloc_old _ _ (by omega)]; exact o2
  · simp [madeCells]
theorem newsTok (W : World) (t : Nat × Nat × Nat) : ∀ j u, (tc t)[j]? = some u → (W.alloc (.cells #[.int .u8 (t.1 : Nat), .int .u16 (t.2.1 : Nat), .int .u16 (t.2.2 : Nat)] 61)).cell? ((⟨W.heap.size, 0, none⟩ : Addr).add j) = some u := by
  intro j u h
  rw [add_zero_addr]
  unfold World.cell?
  rw [heap_alloc_new]
  match j, h with
  | 0, h => simpa [tc] using h
  | 1, h => simpa [tc] using h
  | 2, h => simpa [tc] using h
  | j + 3, h => simp [tc] at h
theorem oneTok (t : Nat × Nat × Nat) : ∀ u ∈ tc t, u.oneCell' = true := by
  intro u hu
  simp only [tc, List.mem_cons, List.not_mem_nil, or_false] at hu
  rcases hu with rfl | rfl | rfl <;> rfl
end Go.Proofs.YtlbadjfcffoakaaDoor.D5
