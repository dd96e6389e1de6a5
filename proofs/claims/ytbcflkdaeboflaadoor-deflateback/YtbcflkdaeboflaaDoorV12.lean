/- Layer 5: the longest copy that tells what stands at a place. -/
/- Plain mathematics: bits that were packed are the bits that are read. -/
/- A word's bits, highest first; a word that stands there is read as its symbol (plain mathematics). -/
/- Giving up: a panic that carries an error, and the deferred closure that catches it. -/
/- An unpacker's bits, or why they are not there. -/
/- An unpacker's state; room for more plain bytes, or none. -/
import Derived.Test.YtbcflkdaeboflaaDoorV11
import Derived.Deep.DeepCutAuto
import Derived.Deep.CutBlock
import Derived.Test.YtbcflkdaeboflaaDoorV08
import Derived.Test.YtbcflkdaeboflaaDoorChecked
import Derived.Tactics2
import Derived.WalkKit
import Derived.WalkLawsBesides
import Derived.ProofKit
import Derived.Defers
import Derived.Recover
import Derived.Laws.Pointers
import Derived.Test.YtbcflkdaeboflaaDoorV07
import Derived.Laws.AppendOwn
namespace Go.Proofs.YtbcflkdaeboflaaDoor.D5
open Go.RowKit
set_option linter.unusedVariables false
set_option maxRecDepth 20000

/-- A finder behind a call that has turned none of it; the call's own block of a token. -/
structure CpS (w : World) (f mb ob : Nat) (s : ByteArray) (k U : Nat) (W : World) : Prop where
  fs : FS W f mb ob s k
  bel : Below U w W
  own : W.heap[U]? = some (.cells #[.int .u8 0, .int .u16 0, .int .u16 0] 57 (0, 0))
theorem CpS.drewN {w : World} {f mb ob : Nat} {s : ByteArray} {k U : Nat} {W : World} (h : CpS w f mb ob s k U W) (n : Nat) : CpS w f mb ob s k U (W.drewN n) := ⟨h.fs.drewN n, h.bel.trans (Below.drewN' _ _ _), h.own⟩
def tokV (b n d : Nat) : Value := .agg #[.int .u8 (b : Nat), .int .u16 (n : Nat), .int .u16 (d : Nat)]
theorem results_cell {fn : Func} {p : Tmp} {ty : TypeId} (h : fn.results = #[.cell p ty]) (tmps : Array Value) (P : Program) (w : World) :
    (results fn tmps).run P w = ((asAddr (tmps.getD p undef)).run P w).andThen fun a w₁ => (loadVar ty a).run P w₁ := by
  simp only [results, h]
  simp [Sem.run_bind, Result.andThen]
theorem wrapU16 (n : Nat) (h : n ≤ 65535) : IntKind.u16.wrap (n : Int) = (n : Int) := by rw [IntKind.wrap_u16]; omega
set_option maxHeartbeats 1000000 in
theorem cpAt_no (w : World) (f : Nat) (s : ByteArray) (p : Nat) (hc : w.cell? ⟨f, 0, none⟩ = some (.string s)) (hp : s.size < p + 3) (hp2 : p ≤ 4194304) (hs : s.size ≤ 1048576) :
    Calls Tryd.prog 26 #[.pointer (some ⟨f, 0, none⟩), .int .i64 p] w fun e w' => e = .returned (tokV 0 0 0) ∧ Below w.heap.size w w' := by
  have HF : Hid (∀ W, W.cell? ⟨f, 0, none⟩ = some (.string s) → Calls Tryd.prog 40 #[.pointer (some ⟨f, 0, none⟩), .int .i64 p] W fun e w' => e = .returned (.tuple #[v3 0 0 0, .bool false]) ∧ Below W.heap.size W w') := fun W hW => threeAt_no W f s p hW hp hp2 hs
  have hc2 : ∀ o, (w.alloc o).cell? ⟨f, 0, none⟩ = some (.string s) := fun o => by rw [World.cell?_alloc_some w ⟨f, 0, none⟩ o (by rw [hc]; rfl)]; exact hc
  go_enter Tryd.func26, Tryd.ntmps26
  go_wp2_with fail
  obtain ⟨W, hW⟩ : ∃ W, w.alloc (.cells #[.int .u8 0, .int .u16 0, .int .u16 0] 57) = W := ⟨_, rfl⟩
  have hbW : W.heap[w.heap.size]? = some (.cells #[.int .u8 0, .int .u16 0, .int .u16 0] 57 (0, 0)) := by rw [← hW]; exact heap_alloc_new _ _
  have hBW : Below w.heap.size w W := by rw [← hW]; exact (Below.refl _ _).alloc (Nat.le_refl _) _
  have hcW : W.cell? ⟨f, 0, none⟩ = some (.string s) := by rw [← hW]; exact hc2 _
  rw [hW]
  refine (HF.out _ hcW).mono ?_
  rintro e w1 ⟨rfl, hb1⟩
  have hv : v3 0 0 0 = .agg #[.int .u8 0, .int .u8 0, .int .u8 0] := rfl
  rw [hv]
  have hb1' := (hb1.block _ (lt_of_block hbW)).trans hbW
  have H1 : Hid (Below w.heap.size w w1) := hBW.trans (hb1.mono hBW.size)
  have HB1 : Hid (w1.heap[w.heap.size]? = some (.cells #[.int .u8 0, .int .u16 0, .int .u16 0] 57 (0, 0))) := hb1'
  obtain ⟨U, hU⟩ : ∃ U, w.heap.size = U := ⟨_, rfl⟩
  rw [hU] at hb1' H1 HB1 ⊢
  have z : ∀ o, ((w1.alloc o).cell? ⟨U, 0, none⟩ = some (.int .u8 0) ∧ (w1.alloc o).cell? ⟨U, 1, none⟩ = some (.int .u16 0) ∧ (w1.alloc o).cell? ⟨U, 2, none⟩ = some (.int .u16 0)) ∧ ((w1.alloc o).frozen? ⟨U, 0, none⟩ = false ∧ (w1.alloc o).frozen? ⟨U, 1, none⟩ = false ∧ (w1.alloc o).frozen? ⟨U, 2, none⟩ = false) := fun o => by
    have : (w1.alloc o).heap[U]? = some (.cells #[.int .u8 0, .int .u16 0, .int .u16 0] 57 (0, 0)) := by rw [heap_alloc_old _ _ (lt_of_block hb1')]; exact hb1'
    exact ⟨⟨by simp [World.cell?, this], by simp [World.cell?, this], by simp [World.cell?, this]⟩, by simp [World.frozen?, this], by simp [World.frozen?, this], by simp [World.frozen?, this]⟩
  obtain ⟨⟨z0, z1, z2⟩, q0, q1, q2⟩ := z (.cells #[.int .u8 0, .int .u8 0, .int .u8 0] 78)
  clear z hb1' hb1 hBW hbW hcW hc2 hv
  go_wp2
  try simp only [Exit.inBlock, Exit.then]
  obtain ⟨W4, hW4⟩ : ∃ W4, ((((w1.alloc (.cells #[.int .u8 0, .int .u8 0, .int .u8 0] 78)).setCell ⟨U, 0, none⟩ (.int .u8 0)).setCell ⟨U, 1, none⟩ (.int .u16 0)).setCell ⟨U, 2, none⟩ (.int .u16 0)) = W4 := ⟨_, rfl⟩
  have hb4 : W4.heap[U]? = some (.cells #[.int .u8 0, .int .u16 0, .int .u16 0] 57 (0, 0)) := by
    rw [← hW4]
    have h0 : (w1.alloc (.cells #[.int .u8 0, .int .u8 0, .int .u8 0] 78)).heap[U]? = some (.cells #[.int .u8 0, .int .u16 0, .int .u16 0] 57 (0, 0)) := by rw [heap_alloc_old _ _ (lt_of_block HB1.out)]; exact HB1.out
    exact block_setCell (i := 2) (block_setCell (i := 1) (block_setCell (i := 0) h0))
  have HB4 : Hid (Below U w W4) := by
    have h1 := (((H1.out.alloc (by rw [← hU]; exact H1.out.size) (.cells #[.int .u8 0, .int .u8 0, .int .u8 0] 78)).trans (Below.setCell' (b := U) (i := 0) _ (.int .u8 0) (Nat.le_refl _))).trans (Below.setCell' (b := U) (i := 1) _ (.int .u16 0) (Nat.le_refl _))).trans (Below.setCell' (b := U) (i := 2) _ (.int .u16 0) (Nat.le_refl _))
    rw [← hW4]
    exact h1
  have x0 : W4.cell? ⟨U, 0, none⟩ = some (.int .u8 0) := by simp [World.cell?, hb4]
  have x1 : W4.cell? ⟨U, 1, none⟩ = some (.int .u16 0) := by simp [World.cell?, hb4]
  have x2 : W4.cell? ⟨U, 2, none⟩ = some (.int .u16 0) := by simp [World.cell?, hb4]
  rw [hW4]
  clear z0 z1 z2 q0 q1 q2 hW4 hb4
  refine bodyPost_ret (v := tokV 0 0 0) ?_ rfl ?_
  · rw [results_cell rfl]
    go_simp
    rfl
  exact ⟨rfl, by rw [hU]; exact HB4.out⟩
set_option maxHeartbeats 4000000 in
theorem cpAt_yes (w : World) (f mb ob : Nat) (s : ByteArray) (k : Nat) (h : FS w f mb ob s k) (hk : k + 3 ≤ s.size) :
    Calls Tryd.prog 26 #[.pointer (some ⟨f, 0, none⟩), .int .i64 k] w fun e w' => e = .returned (tokV 0 (copyAt s k).1 (copyAt s k).2) ∧ Below w.heap.size w w' := by
  obtain ⟨r, hr⟩ : ∃ r, rawAt s k = r := ⟨_, rfl⟩
  have HCP : Hid (copyAt s k = if r.1 = 3 ∧ 4096 < r.2 then (0, 0) else r) := by
    show _ = _
    unfold copyAt
    rw [if_neg (by omega), hr]
  have hrb : r.1 ≤ 258 ∧ r.2 ≤ 32768 := by
    rcases rawAt_ok (s := s) (k := k) hk with e | e
    · rw [← hr, e]; simp
    · rw [← hr]; exact ⟨e.most, e.far⟩
  unfold rawAt at hr
  rw [met_lt hk] at hr
  have hs := h.small
  obtain ⟨most, hmost⟩ : ∃ m, min 258 (s.size - k) = m := ⟨_, rfl⟩
  rw [hmost] at hr
  have HR : Hid (chain s k most 64 (lastP s k (three s k)) 0 0 = r) := hr
  have H : Hid (FS w f mb ob s k) := h
  have hm3 : 3 ≤ most := by omega
  have hm258 : most ≤ 258 := by omega
  have hmb : k + most ≤ s.size := by omega
  obtain ⟨M, hM⟩ : ∃ M, s.size - k = M := ⟨_, rfl⟩
  have hMi : (s.size : Int) - (k : Int) = (M : Int) := by omega
  have hMw := wrapN M (by omega)
  have hmin : min 258 M = most := by rw [← hM]; exact hmost
  have hmini : (if (M : Int) < 258 then (M : Int) else 258) = (most : Int) := by split <;> omega
  have HF4 : Hid (∀ W, FS W f mb ob s k → Calls Tryd.prog 40 #[.pointer (some ⟨f, 0, none⟩), .int .i64 k] W fun e w' => e = .returned (.tuple #[threeV s k, .bool true]) ∧ Below W.heap.size W w') := fun W hW => threeAt_ok W f s k hW.cells.1 hk hs
  clear h hr hmost hM
  go_enter Tryd.func26, Tryd.ntmps26
  go_wp2_with fail
  obtain ⟨W, hW⟩ : ∃ W, w.alloc (.cells #[.int .u8 0, .int .u16 0, .int .u16 0] 57) = W := ⟨_, rfl⟩
  have hbW : W.heap[w.heap.size]? = some (.cells #[.int .u8 0, .int .u16 0, .int .u16 0] 57 (0, 0)) := by rw [← hW]; exact heap_alloc_new _ _
  have hBW : Below w.heap.size w W := by rw [← hW]; exact (Below.refl _ _).alloc (Nat.le_refl _) _
  rw [hW]
  refine (HF4.out _ (H.out.below hBW)).mono ?_
  rintro e w1 ⟨rfl, hb1⟩
  obtain ⟨U, hU⟩ : ∃ U, w.heap.size = U := ⟨_, rfl⟩
  have H1 : Hid (FS w1 f mb ob s k ∧ Below U w w1 ∧ w1.heap[U]? = some (.cells #[.int .u8 0, .int .u16 0, .int .u16 0] 57 (0, 0))) :=
    ⟨(H.out.below hBW).below hb1, by rw [← hU]; exact hBW.trans (hb1.mono hBW.size), by rw [← hU]; exact (hb1.block _ (lt_of_block hbW)).trans hbW⟩
  rw [hU]
  obtain ⟨a0, a1, a2, hV⟩ : ∃ a0 a1 a2 : Nat, threeV s k = .agg #[.int .u8 (a0 : Nat), .int .u8 (a1 : Nat), .int .u8 (a2 : Nat)] := ⟨_, _, _, rfl⟩
  obtain ⟨o, ho⟩ : ∃ o, lastP s k (three s k) = o := ⟨_, rfl⟩
  have hop : ∀ p, o = some p → p < k := fun p hp => (lastP_some (ho.trans hp)).1
  obtain ⟨E, hE⟩ : ∃ E, enc32 o = E := ⟨_, rfl⟩
  have HLM : Hid (∀ W', FS W' f mb ob s k → Calls Tryd.prog 41 #[.pointer (some ⟨f, 0, none⟩), .agg #[.int .u8 (a0 : Nat), .int .u8 (a1 : Nat), .int .u8 (a2 : Nat)]] W' fun e w' => e = .returned (.int .i32 E) ∧ Below W'.heap.size W' w') := fun W' hW' => by
    have h1 := lastMet_ok W' f mb ob s k k hW'
    rw [ho, hE, hV] at h1
    exact h1
  have hEb := enc_b o (k := k) hop
  rw [hE] at hEb
  have HEW : Hid (wrap64 E = E) := by show wrap64 E = E; unfold wrap64; omega
  have HO : Hid (enc32 o = E ∧ (∀ p, o = some p → p < k) ∧ chain s k most 64 o 0 0 = r) := ⟨hE, hop, by rw [← ho]; exact HR.out⟩
  rw [hV]
  obtain ⟨W2, hW2⟩ : ∃ W2, w1.alloc (.cells #[.int .u8 (a0 : Nat), .int .u8 (a1 : Nat), .int .u8 (a2 : Nat)] 78) = W2 := ⟨_, rfl⟩
  have hb2 : W2.heap[w1.heap.size]? = some (.cells #[.int .u8 (a0 : Nat), .int .u8 (a1 : Nat), .int .u8 (a2 : Nat)] 78 (0, 0)) := by rw [← hW2]; exact heap_alloc_new _ _
  have hB2 : Below w1.heap.size w1 W2 := by rw [← hW2]; exact (Below.refl _ _).alloc (Nat.le_refl _) _
  obtain ⟨X, hX⟩ : ∃ X, w1.heap.size = X := ⟨_, rfl⟩
  rw [hX] at hb2
  have z0 : W2.cell? ⟨X, 0, none⟩ = some (.int .u8 (a0 : Nat)) := by simp [World.cell?, hb2]
  have z1 : W2.cell? ⟨X, 1, none⟩ = some (.int .u8 (a1 : Nat)) := by simp [World.cell?, hb2]
  have z2 : W2.cell? ⟨X, 2, none⟩ = some (.int .u8 (a2 : Nat)) := by simp [World.cell?, hb2]
  have H2 : Hid (FS W2 f mb ob s k ∧ Below U w W2 ∧ W2.heap[U]? = some (.cells #[.int .u8 0, .int .u16 0, .int .u16 0] 57 (0, 0))) :=
    ⟨H1.out.1.below hB2, H1.out.2.1.trans (hB2.mono (by rw [← hU]; exact H1.out.2.1.size)), (hB2.block _ (lt_of_block H1.out.2.2)).trans H1.out.2.2⟩
  obtain ⟨c0, c1, c2⟩ := H2.out.1.cells
  clear hbW hBW hb1 hV ho hop hE hb2 hB2 HF4 HR
  clear hmin hEb
  go_upto_region 7 with (go_at_call 41; refine (HLM.out _ H2.out.1).mono ?_; rintro e w2 ⟨rfl, hb2⟩)
  have H3 : Hid (CpS w f mb ob s k U w2) :=
    ⟨H2.out.1.below hb2, H2.out.2.1.trans (hb2.mono (by rw [← hU]; exact H2.out.2.1.size)), (hb2.block _ (lt_of_block H2.out.2.2)).trans H2.out.2.2⟩
  clear hb2 z0 z1 z2 c0 c1 c2 hW2
  go_upto_block 0 with fail
  go_cut [8, 9] (fun v8 v9 wc => v8 = .int .i64 (r.1 : Nat) ∧ v9 = .int .i64 (r.2 : Nat) ∧ Hid (CpS w f mb ob s k U wc))
  case first =>
    as_aux_lemma =>
      go_wp2_with fail
      go_loopw [8, 9, 10, 11] (fun x4 x5 x7 x8 wr => ∃ (len dist t : Nat) (o : Option Nat), x4 = .int .i64 (len : Nat) ∧ x5 = .int .i64 (dist : Nat) ∧ x7 = .int .i64 (enc32 o) ∧ x8 = .int .i64 (t : Nat) ∧ t ≤ 64 ∧ len < most ∧ Hid ((∀ p, o = some p → p < k) ∧ chain s k most (64 - t) o len dist = r ∧ CpS w f mb ob s k U wr)) (fun _ _ _ x8 _ => 64 - (intOf x8).toNat)
      case atStart => exact ⟨0, 0, 0, o, rfl, rfl, by rw [HO.out.1, HEW.out], rfl, by omega, by omega, HO.out.2.1, HO.out.2.2, H3.out⟩
      case round =>
        obtain ⟨len, dist, t, o', rfl, rfl, rfl, rfl, ht, hlen, HS⟩ := hrel
        cases o' with
        | none =>
          have hch := HS.out.2.1
          rw [chain_none] at hch
          have HE : Hid (r = (len, dist)) := hch.symm
          have hen : enc32 none = -1 := rfl
          clear hch
          rw [hen]
          go_wp2_with fail
          go_meet
          case rel => exact ⟨by rw [HE.out], by rw [HE.out], HS.out.2.2⟩
        | some p =>
          have hpk := HS.out.1 p rfl
          have hen : enc32 (some p) = (p : Int) := rfl
          rw [hen]
          have hp1 : ((p : Int) != -1) = true := by simp
          obtain ⟨d, hd⟩ : ∃ d, k - p = d := ⟨_, rfl⟩
          have hdi : (k : Int) - (p : Int) = (d : Int) := by omega
          have hdw := wrapN d (by omega)
          clear hen
          by_cases hfar : 32768 < d
          · have hch := HS.out.2.1
            rw [chain_far _ _ _ _ _ _ (by rw [hd]; exact hfar)] at hch
            have HE : Hid (r = (len, dist)) := hch.symm
            have hfi : decide ((d : Int) ≤ 32768) = false := by simp; omega
            have hfj : ¬ (d : Int) ≤ 32768 := by omega
            clear hch
            go_wp2_with fail
            go_meet
            case rel => exact ⟨by rw [HE.out], by rw [HE.out], HS.out.2.2⟩
          · have hfi : decide ((d : Int) ≤ 32768) = true := by simp; omega
            have hfj : (d : Int) ≤ 32768 := by omega
            by_cases h64 : t < 64
            · have hti : decide ((t : Int) < 64) = true := by simp; omega
              have htj : (t : Int) < 64 := by omega
              have hFS : FS wr f mb ob s k := HS.out.2.2.fs
              have HA : Hid (∀ _ : Unit, Calls Tryd.prog 42 #[.pointer (some ⟨f, 0, none⟩), .int .i64 p, .int .i64 k, .int .i64 len, .int .i64 most] wr fun e w' => e = .returned (.int .i64 (alikeF s p k len most : Nat)) ∧ ∃ j, w' = wr.drewN j) := fun _ => alike_ok wr f s p k len most hFS.cells.1 (by omega) hlen hmb hs
              have hal := alikeF_le s p k len most
              have hch := HS.out.2.1
              rw [show 64 - t = (64 - (t + 1)) + 1 by omega, chain, hd, if_neg (by omega)] at hch
              obtain ⟨n, hn⟩ : ∃ n, alikeF s p k len most = n := ⟨_, rfl⟩
              rw [hn] at HA hal hch
              have HCH : Hid (_ = r) := hch
              have hold := hFS.oldAt hpk
              have hE2 := enc_b (lastP s p (three s p)) (k := k) (fun q hq => by have := (lastP_some hq).1; omega)
              obtain ⟨E2, hE2'⟩ : ∃ E, enc32 (lastP s p (three s p)) = E := ⟨_, rfl⟩
              rw [hE2'] at hold hE2
              have hE2w : wrap64 E2 = E2 := by unfold wrap64; omega
              have HE2 : Hid (enc32 (lastP s p (three s p)) = E2 ∧ ∀ q, lastP s p (three s p) = some q → q < k) := ⟨hE2', fun q hq => by have := (lastP_some hq).1; omega⟩
              obtain ⟨c0, c1, c2⟩ := hFS.cells
              have hpi : (p : Int) < (s.size : Int) := by omega
              have hps : p < s.size := by omega
              clear hch hn hE2' hFS hE2
              go_wp2_with fail
              refine (HA.out ()).mono ?_
              rintro e w3 ⟨rfl, j, rfl⟩
              have HB3 : Hid (CpS w f mb ob s k U (wr.drewN j)) := HS.out.2.2.drewN j
              by_cases hgt : len < n
              · have hgi : (len : Int) < (n : Int) := by omega
                have hch := HCH.out
                rw [if_pos hgt] at hch
                by_cases hmx : n = most
                · rw [if_pos hmx] at hch
                  have HE : Hid (r = (most, d)) := by show _ = _; rw [← hmx]; exact hch.symm
                  have hmb : ((n : Int) == (most : Int)) = true := by simp [hmx]
                  clear hch HCH
                  go_wp2_with fail
                  go_meet
                  case rel => exact ⟨by rw [HE.out], by rw [HE.out], HB3.out⟩
                · rw [if_neg hmx] at hch
                  have HN : Hid ((∀ q, lastP s p (three s p) = some q → q < k) ∧ chain s k most (64 - (t + 1)) (lastP s p (three s p)) n d = r ∧ CpS w f mb ob s k U (wr.drewN j)) := ⟨HE2.out.2, hch, HB3.out⟩
                  have hmb : ((n : Int) == (most : Int)) = false := by simp; omega
                  clear hch HCH
                  go_wp2
                  exact ⟨⟨n, d, t + 1, lastP s p (three s p), rfl, rfl, by rw [HE2.out.1, hE2w], by go_num, by omega, by omega, HN⟩, by simp [intOf]; omega⟩
              · have hgi : ¬ (len : Int) < (n : Int) := by omega
                have hch := HCH.out
                rw [if_neg hgt] at hch
                have HN : Hid ((∀ q, lastP s p (three s p) = some q → q < k) ∧ chain s k most (64 - (t + 1)) (lastP s p (three s p)) len dist = r ∧ CpS w f mb ob s k U (wr.drewN j)) := ⟨HE2.out.2, hch, HB3.out⟩
                have hmb : ((len : Int) == (most : Int)) = false := by simp; omega
                clear hch HCH
                go_wp2
                exact ⟨⟨len, dist, t + 1, lastP s p (three s p), rfl, rfl, by rw [HE2.out.1, hE2w], by go_num, by omega, by omega, HN⟩, by simp [intOf]; omega⟩
            · obtain rfl : t = 64 := by omega
              have hch := HS.out.2.1
              have hch2 : (len, dist) = r := hch
              have HE : Hid (r = (len, dist)) := hch2.symm
              clear hch hch2
              go_wp2_with fail
              go_meet
              case rel => exact ⟨by rw [HE.out], by rw [HE.out], HS.out.2.2⟩
  case rest =>
    obtain ⟨rfl, rfl, HS⟩ := hcut
    obtain ⟨n, d⟩ := r
    simp only at hrb HCP ⊢
    have hb := HS.out.own
    have z0 : wc.cell? ⟨U, 0, none⟩ = some (.int .u8 0) := by simp [World.cell?, hb]
    have z1 : wc.cell? ⟨U, 1, none⟩ = some (.int .u16 0) := by simp [World.cell?, hb]
    have z2 : wc.cell? ⟨U, 2, none⟩ = some (.int .u16 0) := by simp [World.cell?, hb]
    have q0 : wc.frozen? ⟨U, 0, none⟩ = false := by simp [World.frozen?, hb]
    have q1 : wc.frozen? ⟨U, 1, none⟩ = false := by simp [World.frozen?, hb]
    have q2 : wc.frozen? ⟨U, 2, none⟩ = false := by simp [World.frozen?, hb]
    have HFIN : Hid (∀ x y N : Nat, N = U → copyAt s k = (x, y) → ∀ a : Act, a.defers = [] → a.tmps.getD 4 undef = .pointer (some ⟨U, 0, none⟩) → bodyPost Tryd.prog Tryd.f26 (fun e w' => e = .returned (tokV 0 (copyAt s k).1 (copyAt s k).2) ∧ Below N w w') .ret a (((wc.setCell ⟨U, 0, none⟩ (.int .u8 0)).setCell ⟨U, 1, none⟩ (.int .u16 (x : Nat))).setCell ⟨U, 2, none⟩ (.int .u16 (y : Nat)))) := fun x y N hN hxy a ha hat => by
      obtain ⟨W4, hW4⟩ : ∃ W4, (((wc.setCell ⟨U, 0, none⟩ (.int .u8 0)).setCell ⟨U, 1, none⟩ (.int .u16 (x : Nat))).setCell ⟨U, 2, none⟩ (.int .u16 (y : Nat))) = W4 := ⟨_, rfl⟩
      have hb4 : W4.heap[U]? = some (.cells #[.int .u8 0, .int .u16 (x : Nat), .int .u16 (y : Nat)] 57 (0, 0)) := by
        rw [← hW4]
        exact block_setCell (i := 2) (block_setCell (i := 1) (block_setCell (i := 0) hb))
      have HB4 : Below U w W4 := by
        rw [← hW4]
        exact ((HS.out.bel.trans (Below.setCell' (b := U) (i := 0) _ (.int .u8 0) (Nat.le_refl _))).trans (Below.setCell' (b := U) (i := 1) _ (.int .u16 (x : Nat)) (Nat.le_refl _))).trans (Below.setCell' (b := U) (i := 2) _ (.int .u16 (y : Nat)) (Nat.le_refl _))
      have x0 : W4.cell? ⟨U, 0, none⟩ = some (.int .u8 0) := by simp [World.cell?, hb4]
      have x1 : W4.cell? ⟨U, 1, none⟩ = some (.int .u16 (x : Nat)) := by simp [World.cell?, hb4]
      have x2 : W4.cell? ⟨U, 2, none⟩ = some (.int .u16 (y : Nat)) := by simp [World.cell?, hb4]
      rw [hW4]
      refine bodyPost_ret (v := tokV 0 x y) ?_ ha ?_
      · rw [results_cell rfl, hat]
        go_simp
        rfl
      rw [hxy]
      exact ⟨rfl, by rw [hN]; exact HB4⟩
    have hnw := wrapU16 n (by omega)
    have hdw := wrapU16 d (by omega)
    clear hb
    by_cases h3 : n = 3
    · have h3b : ((n : Int) == 3) = true := by simp [h3]
      by_cases h4 : 4096 < d
      · have h4i : (4096 : Int) < (d : Int) := by omega
        have HX : Hid (copyAt s k = (0, 0)) := by show _ = _; rw [HCP.out, if_pos ⟨h3, h4⟩]
        clear h3
        go_wp2
        refine HFIN.out 0 0 _ (by first | rfl | exact hU) HX.out _ ?_ ?_ <;> rfl
      · have h4i : ¬ (4096 : Int) < (d : Int) := by omega
        have HX : Hid (copyAt s k = (n, d)) := by show _ = _; rw [HCP.out, if_neg (by omega)]
        clear h3
        go_wp2
        refine HFIN.out n d _ (by first | rfl | exact hU) HX.out _ ?_ ?_ <;> rfl
    · have h3b : ((n : Int) == 3) = false := by simp; omega
      have HX : Hid (copyAt s k = (n, d)) := by show _ = _; rw [HCP.out, if_neg (by omega)]
      go_wp2
      refine HFIN.out n d _ (by first | rfl | exact hU) HX.out _ ?_ ?_ <;> rfl
theorem cpAt_ok (w : World) (f mb ob : Nat) (s : ByteArray) (k : Nat) (h : FS w f mb ob s (met s k)) (hk : k ≤ 4194304) :
    Calls Tryd.prog 26 #[.pointer (some ⟨f, 0, none⟩), .int .i64 k] w fun e w' => e = .returned (tokV 0 (copyAt s k).1 (copyAt s k).2) ∧ Below w.heap.size w w' := by
  by_cases h3 : k + 3 ≤ s.size
  · rw [met_lt h3] at h
    exact cpAt_yes w f mb ob s k h h3
  · have e : copyAt s k = (0, 0) := by unfold copyAt; rw [if_pos (by omega)]
    rw [e]
    exact cpAt_no w f s k h.cells.1 (by omega) hk h.small
end Go.Proofs.YtbcflkdaeboflaaDoor.D5
namespace Go.Proofs.YtbcflkdaeboflaaDoor
open Go.RowKit
set_option linter.unusedVariables false
set_option maxRecDepth 20000

theorem i64_mask (k : Nat) (hk : k ≤ 62) (n : Int) : bits .and .i64 n ((2 ^ k - 1 : Nat) : Int) = n % ((2 ^ k : Nat) : Int) := by
  have hp := pow_le k 62 hk
  have hpos : 0 < 2 ^ k := Nat.pos_of_ne_zero (by simp)
  have hm : (BitVec.ofInt 64 ((2 ^ k - 1 : Nat) : Int)).toNat = 2 ^ k - 1 := ofInt_u64 _ (by omega)
  have key : (BitVec.ofInt 64 n &&& BitVec.ofInt 64 ((2 ^ k - 1 : Nat) : Int)).toNat = (n % ((2 ^ 64 : Nat) : Int)).toNat % 2 ^ k := by
    rw [BitVec.toNat_and, BitVec.toNat_ofInt, hm, Nat.and_two_pow_sub_one_eq_mod]
  show IntKind.i64.wrap ((BitVec.ofInt 64 n &&& BitVec.ofInt 64 ((2 ^ k - 1 : Nat) : Int)).toNat : Nat) = _
  rw [key, IntKind.wrap_i64]
  have hd : (n % ((2 ^ 64 : Nat) : Int)) % ((2 ^ k : Nat) : Int) = n % ((2 ^ k : Nat) : Int) := by
    apply Int.emod_emod_of_dvd
    exact ⟨((2 ^ (64 - k) : Nat) : Int), by rw [← Int.natCast_mul, ← Nat.pow_add, show k + (64 - k) = 64 by omega]⟩
  have h0 : 0 ≤ n % ((2 ^ 64 : Nat) : Int) := Int.emod_nonneg _ (by omega)
  obtain ⟨y, hy⟩ := Int.eq_ofNat_of_zero_le h0
  rw [hy] at hd ⊢
  rw [← hd]
  have e : ((y : Int).toNat % 2 ^ k : Nat) = y % 2 ^ k := by simp
  have hlt : y % 2 ^ k < 2 ^ k := Nat.mod_lt _ hpos
  rw [e]
  have e2 : (y : Int) % ((2 ^ k : Nat) : Int) = ((y % 2 ^ k : Nat) : Int) := by simp
  rw [e2]
  omega
theorem and63 (n : Int) : ∃ K : Nat, K < 64 ∧ bits .and .i64 n 63 = (K : Int) := by
  have h := i64_mask 6 (by omega) n
  have h0 : 0 ≤ n % 64 := Int.emod_nonneg _ (by omega)
  have h1 : n % 64 < 64 := Int.emod_lt_of_pos _ (by omega)
  exact ⟨(n % 64).toNat, by omega, by rw [show ((63 : Int)) = ((2 ^ 6 - 1 : Nat) : Int) from rfl, h]; show n % 64 = _; omega⟩
theorem and255i (n : Int) : ∃ K : Nat, K < 256 ∧ bits .and .i64 n 255 = (K : Int) := by
  have h := i64_mask 8 (by omega) n
  have h0 : 0 ≤ n % 256 := Int.emod_nonneg _ (by omega)
  have h1 : n % 256 < 256 := Int.emod_lt_of_pos _ (by omega)
  exact ⟨(n % 256).toNat, by omega, by rw [show ((255 : Int)) = ((2 ^ 8 - 1 : Nat) : Int) from rfl, h]; show n % 256 = _; omega⟩
theorem and31 (n : Int) : ∃ K : Nat, K < 32 ∧ bits .and .i64 n 31 = (K : Int) := by
  have h := i64_mask 5 (by omega) n
  have h0 : 0 ≤ n % 32 := Int.emod_nonneg _ (by omega)
  have h1 : n % 32 < 32 := Int.emod_lt_of_pos _ (by omega)
  exact ⟨(n % 32).toNat, by omega, by rw [show ((31 : Int)) = ((2 ^ 5 - 1 : Nat) : Int) from rfl, h]; show n % 32 = _; omega⟩
theorem low_mask (x a : Nat) (ha : a ≤ 57) : bits .and .i64 (x : Int) (wrap64 (wrap64 (2 ^ a) - 1)) = ((x % 2 ^ a : Nat) : Int) := by
  have hp := pow_le a 57 ha
  have hpos : 0 < 2 ^ a := Nat.pos_of_ne_zero (by simp)
  have e : ((2 ^ a : Nat) : Int) = 2 ^ a := by simp
  rw [wrap_pow a ha, ← e, IntWalk.wrap64_in _ ⟨by omega, by omega⟩]
  have e2 : ((2 ^ a : Nat) : Int) - 1 = ((2 ^ a - 1 : Nat) : Int) := by omega
  rw [e2, i64_mask a (by omega)]
  simp
/-- A digit of a number that was put together. -/
theorem bsum_digit {f : Nat → Nat} {n r : Nat} (h : ∀ i, i < n → f i < 2) (hr : r < n) : bsum f n / 2 ^ r % 2 = f r := by
  induction n with
  | zero => omega
  | succ n ih =>
    simp only [bsum]
    by_cases e : r = n
    · subst e
      have hl := bsum_lt (f := f) (n := r) (fun i hi => h i (by omega))
      have hf := h r (by omega)
      rw [Nat.add_mul_div_right _ _ (Nat.pos_of_ne_zero (by simp)), Nat.div_eq_of_lt hl]
      omega
    · have e2 : f n * 2 ^ n = (f n * 2 ^ (n - r - 1) * 2) * 2 ^ r := by
        rw [Nat.mul_assoc, Nat.mul_assoc, ← Nat.pow_succ', ← Nat.pow_add, show n - r - 1 + r.succ = n by omega]
      rw [e2, Nat.add_mul_div_right _ _ (Nat.pos_of_ne_zero (by simp))]
      have := ih (fun i hi => h i (by omega)) (by omega)
      omega
theorem bitAt_pack {L : List Nat} (h : Bits01 L) (i : Nat) (hi : i < 8 * ((L.length + 7) / 8)) : bitAt (toBA (pack L)) i = L.getD i 0 := by
  unfold bitAt
  have e : (toBA (pack L)).data.toList.getD (i / 8) 0 = UInt8.ofNat (byteOf L (i / 8)) := by
    show ((pack L).map UInt8.ofNat).getD (i / 8) 0 = _
    rw [List.getD_eq_getElem?_getD, List.getElem?_map, pack_get L (i / 8) (by omega)]; rfl
  have hb := byteOf_lt h (i / 8)
  rw [e, UInt8.toNat_ofNat', Nat.mod_eq_of_lt hb]
  unfold byteOf
  rw [bsum_digit (fun j _ => h.getD _) (by omega), show 8 * (i / 8) + i % 8 = i by omega]
theorem num_pack {L : List Nat} (h : Bits01 L) (p n : Nat) (hp : p + n ≤ L.length) : num (toBA (pack L)) p n = bsum (fun i => L.getD (p + i) 0) n := by
  rw [num_bsum]
  exact bsum_congr (fun i hi => bitAt_pack h (p + i) (by omega))
theorem bitsOf_getD (x k i : Nat) (h : i < k) : (bitsOf x k).getD i 0 = x / 2 ^ i % 2 := by
  rw [List.getD_eq_getElem?_getD, bitsOf_get x k i h]; rfl
theorem num_bitsOf (x k p n : Nat) (hp : p + n ≤ k) : num (toBA (pack (bitsOf x k))) p n = x / 2 ^ p % 2 ^ n := by
  rw [num_pack (bitsOf_01 x k) p n (by rw [bitsOf_length]; exact hp)]
  have e : bsum (fun i => (bitsOf x k).getD (p + i) 0) n = bsum (fun i => x / 2 ^ p % 2 ^ n / 2 ^ i % 2) n := by
    refine bsum_congr (fun i hi => ?_)
    rw [bitsOf_getD x k (p + i) (by omega), Nat.pow_add, ← Nat.div_div_eq_div_mul]
    have hd : 2 ^ n = 2 ^ i * 2 ^ (n - i) := by rw [← Nat.pow_add]; congr 1; omega
    rw [hd, Nat.mod_mul_right_div_self, show n - i = (n - i - 1) + 1 by omega, Nat.pow_succ, Nat.mod_mul_left_mod]
  rw [e, bsum_bits _ n (Nat.mod_lt _ (Nat.pos_of_ne_zero (by simp)))]
theorem bitsOf_split (x a k : Nat) (h : a ≤ k) : bitsOf (x % 2 ^ a) a ++ bitsOf (x / 2 ^ a) (k - a) = bitsOf x k := by
  refine List.ext_getElem? (fun i => ?_)
  by_cases hi : i < k
  · rw [bitsOf_get x k i hi]
    by_cases h1 : i < a
    · rw [List.getElem?_append_left (by rw [bitsOf_length]; exact h1), bitsOf_get _ _ _ h1]
      have hd : 2 ^ a = 2 ^ i * 2 ^ (a - i) := by rw [← Nat.pow_add]; congr 1; omega
      rw [hd, Nat.mod_mul_right_div_self, show a - i = (a - i - 1) + 1 by omega, Nat.pow_succ, Nat.mod_mul_left_mod]
    · rw [List.getElem?_append_right (by rw [bitsOf_length]; omega), bitsOf_length, bitsOf_get _ _ _ (by omega), Nat.div_div_eq_div_mul, ← Nat.pow_add, show a + (i - a) = i by omega]
  · rw [List.getElem?_eq_none (by rw [List.length_append, bitsOf_length, bitsOf_length]; omega), List.getElem?_eq_none (by rw [bitsOf_length]; omega)]
end Go.Proofs.YtbcflkdaeboflaaDoor
namespace Go.Proofs.YtbcflkdaeboflaaDoor
open Go.RowKit
set_option linter.unusedVariables false
set_option maxRecDepth 20000

/-- The bits of a word of length n, highest first. -/
def wbitsOf (x : Nat) : Nat → List Nat
  | 0 => []
  | n + 1 => (x / 2 ^ n % 2) :: wbitsOf x n
theorem wbitsOf_length (x n : Nat) : (wbitsOf x n).length = n := by
  induction n with
  | zero => rfl
  | succ n ih => simp [wbitsOf, ih]
theorem wbitsOf_get (x n i : Nat) (h : i < n) : (wbitsOf x n).getD i 0 = x / 2 ^ (n - 1 - i) % 2 := by
  induction n generalizing i with
  | zero => omega
  | succ n ih =>
    cases i with
    | zero => simp [wbitsOf]
    | succ i =>
      show (wbitsOf x n).getD i 0 = _
      rw [ih i (by omega)]
      congr 3
      omega
theorem wbitsOf_01 (x n : Nat) : Bits01 (wbitsOf x n) := by
  induction n with
  | zero => intro y hy; simp [wbitsOf] at hy
  | succ n ih =>
    intro y hy
    rcases List.mem_cons.1 hy with rfl | hy
    · exact Nat.mod_lt _ (by omega)
    · exact ih y hy
theorem rv_bit (x n i : Nat) (h : i < n) : rv x n / 2 ^ i % 2 = x / 2 ^ (n - 1 - i) % 2 := by
  induction n generalizing i with
  | zero => omega
  | succ n ih =>
    simp only [rv]
    cases i with
    | zero => simp
    | succ i =>
      have := ih i (by omega)
      rw [Nat.pow_succ, Nat.mul_comm (2 ^ i) 2, ← Nat.div_div_eq_div_mul, show (2 * rv x n + x / 2 ^ n % 2) / 2 = rv x n by have := Nat.mod_lt (x / 2 ^ n) (show 0 < 2 by omega); omega, this]
      congr 3
      omega
/-- What the program writes are the word's bits. -/
theorem bitsOf_rv (x n : Nat) : bitsOf (rv x n) n = wbitsOf x n := by
  refine List.ext_getElem? (fun i => ?_)
  by_cases h : i < n
  · rw [bitsOf_get _ _ _ h, rv_bit x n i h, List.getElem?_eq_getElem (by rw [wbitsOf_length]; exact h)]
    have := wbitsOf_get x n i h
    rw [getD_in (by rw [wbitsOf_length]; exact h)] at this
    rw [this]
  · rw [List.getElem?_eq_none (by rw [bitsOf_length]; omega), List.getElem?_eq_none (by rw [wbitsOf_length]; omega)]

theorem endW_above (ns : List Nat) (l d : Nat) (h1 : 1 ≤ l) : endW ns l * 2 ^ d ≤ endW ns (l + d) := by
  cases d with
  | zero => simp
  | succ d => exact Nat.le_trans (fstW_above ns l d h1) (Nat.le_add_right _ _)
/-- A beginning of a word, shorter than it: no word yet, and more may come. -/
theorem begins {ns : List Nat} {i l k : Nat} (hi : i < ns.length) (hl : ns.getD i 0 = l) (h15 : l ≤ 15) (hk : k < l) : ew ns k ≤ codeW ns i / 2 ^ (l - k) ∧ codeW ns i / 2 ^ (l - k) * 2 ^ (15 - k) < ew ns 15 := by
  have hend := codeW_end ns i hi
  rw [hl] at hend
  have hge : fstW ns l ≤ codeW ns i := by unfold codeW; rw [hl]; exact Nat.le_add_right _ _
  refine ⟨?_, ?_⟩
  · cases k with
    | zero => simp [ew]
    | succ k =>
      rw [Nat.le_div_iff_mul_le (Nat.pos_of_ne_zero (by simp))]
      have := fstW_above ns (k + 1) (l - (k + 1) - 1) (by omega)
      rw [show k + 1 + (l - (k + 1) - 1) + 1 = l by omega, show l - (k + 1) - 1 + 1 = l - (k + 1) by omega] at this
      exact Nat.le_trans this hge
  · have h1 : codeW ns i / 2 ^ (l - k) * 2 ^ (l - k) ≤ codeW ns i := Nat.div_mul_le_self _ _
    have h2 := endW_above ns l (15 - l) (by omega)
    rw [show l + (15 - l) = 15 by omega] at h2
    have h3 : codeW ns i / 2 ^ (l - k) * 2 ^ (15 - k) = codeW ns i / 2 ^ (l - k) * 2 ^ (l - k) * 2 ^ (15 - l) := by rw [Nat.mul_assoc, ← Nat.pow_add, show l - k + (15 - l) = 15 - k by omega]
    rw [h3]
    have h4 : codeW ns i / 2 ^ (l - k) * 2 ^ (l - k) * 2 ^ (15 - l) ≤ codeW ns i * 2 ^ (15 - l) := Nat.mul_le_mul_right _ h1
    have h5 : codeW ns i * 2 ^ (15 - l) < endW ns l * 2 ^ (15 - l) := Nat.mul_lt_mul_of_pos_right hend (Nat.pos_of_ne_zero (by simp))
    have h6 : endW ns 15 = ew ns 15 := rfl
    omega
theorem rd_word {ns : List Nat} {s : ByteArray} {p i l : Nat} (hi : i < ns.length) (hl : ns.getD i 0 = l) (h1 : 1 ≤ l) (h15 : l ≤ 15) (hp : p + l ≤ 8 * s.size) (hb : ∀ j, j < l → bitAt s (p + j) = codeW ns i / 2 ^ (l - 1 - j) % 2) (hlt : codeW ns i < 2 ^ l) : rd ns s p = (i, l, 0) := by
  have key : ∀ m k, k + m = l → rdS ns s p (16 - k) k (codeW ns i / 2 ^ (l - k)) = (i, l, 0) := by
    intro m
    induction m with
    | zero =>
      intro k hk
      obtain rfl : k = l := by omega
      rw [Nat.sub_self, Nat.pow_zero, Nat.div_one, show 16 - k = (15 - k) + 1 by omega]
      simp only [rdS]
      have hend := codeW_end ns i hi
      rw [hl] at hend
      have hew : ew ns k = endW ns k := by
        cases k with
        | zero => omega
        | succ k => rfl
      rw [if_pos (by rw [hew]; exact hend)]
      have hge : fstW ns k ≤ codeW ns i := by unfold codeW; rw [hl]; exact Nat.le_add_right _ _
      obtain ⟨a1, a2, a3⟩ := symW_ok ns k (codeW ns i) (by omega) hge hend
      rw [codeW_inj ns _ i a1 hi (by rw [a2, hl]) a3]
    | succ m ih =>
      intro k hk
      rw [show 16 - k = (16 - (k + 1)) + 1 by omega]
      simp only [rdS]
      obtain ⟨b1, b2⟩ := begins hi hl h15 (show k < l by omega)
      rw [if_neg (by omega), if_neg (by omega), if_neg (by omega), hb k (by omega)]
      have e : 2 * (codeW ns i / 2 ^ (l - k)) + codeW ns i / 2 ^ (l - 1 - k) % 2 = codeW ns i / 2 ^ (l - (k + 1)) := by
        rw [show l - k = (l - 1 - k) + 1 by omega, Nat.pow_succ, ← Nat.div_div_eq_div_mul, show l - (k + 1) = l - 1 - k by omega]
        omega
      rw [e]
      exact ih (k + 1) (by omega)
  have h := key l 0 (by omega)
  rw [show l - 0 = l from rfl, Nat.div_eq_of_lt hlt] at h
  exact h
end Go.Proofs.YtbcflkdaeboflaaDoor
namespace Go.Proofs.YtbcflkdaeboflaaDoor
open Go.RowKit
set_option linter.unusedVariables false
set_option maxRecDepth 20000

end Go.Proofs.YtbcflkdaeboflaaDoor
namespace Go.Proofs.YtbcflkdaeboflaaDoor
open Go.RowKit
set_option linter.unusedVariables false
set_option maxRecDepth 20000

end Go.Proofs.YtbcflkdaeboflaaDoor
namespace Go.Proofs.YtbcflkdaeboflaaDoor
open Go.RowKit
set_option linter.unusedVariables false
set_option maxRecDepth 20000

def bcells (l : List Nat) : List Value := l.map fun x => Value.int .u8 (x : Nat)
end Go.Proofs.YtbcflkdaeboflaaDoor
