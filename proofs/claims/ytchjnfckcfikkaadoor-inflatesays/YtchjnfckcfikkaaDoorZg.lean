/- A copy, byte by byte. -/
import Derived.Test.YtchjnfckcfikkaaDoorZf
namespace Go.Proofs.YtchjnfckcfikkaaDoor
open Go.RowKit
set_option linter.unusedVariables false

def copyL (d : Nat) : Nat → List Nat → List Nat
  | 0, l => l
  | n + 1, l => copyL d n (l ++ [l.getD (l.length - d) 0])
theorem copyL_succ (d : Nat) : ∀ (n : Nat) (l : List Nat), copyL d (n + 1) l = copyL d n l ++ [(copyL d n l).getD ((copyL d n l).length - d) 0]
  | 0, l => rfl
  | n + 1, l => by
    have := copyL_succ d n (l ++ [l.getD (l.length - d) 0])
    exact this
theorem copyL_length (d : Nat) : ∀ (n : Nat) (l : List Nat), (copyL d n l).length = l.length + n
  | 0, l => rfl
  | n + 1, l => by
    show (copyL d n (l ++ [l.getD (l.length - d) 0])).length = _
    rw [copyL_length d n, List.length_append, List.length_singleton]; omega
theorem US.byte {w : World} {K : Nat → Prop} {u b : Nat} {s : ByteArray} {p : Nat} {l : List Nat} {most : Nat} {v f1 f2 : Value} (h : US w K u b s p l most v f1 f2) {i : Nat} (hi : i < l.length) :
    ∃ g cp, v = .slice (some ⟨g, 0, none⟩) l.length cp ∧ w.cell? ⟨g, i, none⟩ = some (.int .u8 (l.getD i 0 : Nat)) := by
  obtain ⟨g, cp, e, _, _⟩ := h.own.form (by omega)
  refine ⟨g, cp, e, ?_⟩
  have h1 := h.own.cells (g := g) (by rw [e]; rfl) i (.int .u8 (l.getD i 0 : Nat)) (by simp [bcells, hi])
  rw [add_zero_addr] at h1
  exact h1
def repF (p : Nat) (l : List Nat) (most n d : Nat) : Nat × Nat × List Nat :=
  if l.length < d then (40, p, l) else if most < l.length + n then (4, p, l) else (0, p, copyL d n l)
theorem newB (W : World) (p : Value) (t : TypeId) : ∀ j u, [p][j]? = some u → (W.alloc (.cells #[p] t)).cell? ((⟨W.heap.size, 0, none⟩ : Addr).add j) = some u := news1 W p t
theorem oneB (x : Int) : ∀ u ∈ [Value.int .u8 x], u.oneCell' = true := by
  intro u hu; simp at hu; subst hu; rfl
theorem US.alloc {w : World} {K : Nat → Prop} {u b : Nat} {s : ByteArray} {p : Nat} {l : List Nat} {most : Nat} {v f1 f2 : Value} (h : US w K u b s p l most v f1 f2) (o : Obj) : US (w.alloc o) K u b s p l most v f1 f2 := by
  have hk : ∀ k, k < w.heap.size → (w.alloc o).heap[k]? = w.heap[k]? := fun k hk => heap_alloc_old w o hk
  refine ⟨by rw [hk u (lt_of_block h.blk)]; exact h.blk, h.own.alloc o, ?_, h.le, h.small, fun k hk => Nat.lt_of_lt_of_le (h.kb k hk) (by simp), h.ku, h.kr, h.ko⟩
  show _ = _
  rw [hk b (lt_of_block h.rs)]; exact h.rs
/-- One byte more. -/
theorem US.grow1 {w w1 : World} {K : Nat → Prop} {u b : Nat} {s : ByteArray} {p : Nat} {l : List Nat} {most : Nat} {v f1 f2 : Value} (h : US w K u b s p l most v f1 f2) {Q x g cap H : Nat} (hQ : l.length = Q) (hown : w1.ownsRow 0 5 1 (.slice (some ⟨g, 0, none⟩) (Q + 1) cap) (Q + 1) (bcells l ++ [.int .u8 (x : Nat)])) (hg : w.grownBy w1 v.ownBlock) (hat : v.ownBlock = some g ∨ g = H) (hH : w.heap.size = H) :
    w1.cell? ⟨u, 1, none⟩ = some v ∧ w1.frozen? ⟨u, 1, none⟩ = false ∧ US (w1.setCell ⟨u, 1, none⟩ (.slice (some ⟨g, 0, none⟩) (Q + 1) cap)) K u b s p (l ++ [x]) most (.slice (some ⟨g, 0, none⟩) (Q + 1) cap) f1 f2 ∧ UF K w (w1.setCell ⟨u, 1, none⟩ (.slice (some ⟨g, 0, none⟩) (Q + 1) cap)) := by
  have h1 := h.grow (m := [x]) (v1 := .slice (some ⟨g, 0, none⟩) (Q + 1) cap) (by rw [hQ]; exact hown) hg (by
    rcases hat with e | e
    · left; rw [e]; rfl
    · right; rw [e, ← hH]; rfl)
  exact ⟨h1.1, h1.2.1, h1.2.2.2.1, h1.2.2.2.2⟩
set_option maxRecDepth 20000 in
set_option maxHeartbeats 4000000 in
theorem urep_ok (w : World) (K : Nat → Prop) (u b : Nat) (s : ByteArray) (p : Nat) (l : List Nat) (most : Nat) (v f1 f2 : Value) (h : US w K u b s p l most v f1 f2) (hm : most ≤ 1048576) (hl : l.length ≤ most) (n d : Nat) (hn : n ≤ 400003) (hd1 : 1 ≤ d) (hd : d ≤ 400003) :
    Calls Tryd.prog 58 #[.pointer (some ⟨u, 0, none⟩), .int .i64 n, .int .i64 d] w fun e w' => StoredEnd K u b s most f1 f2 w (repF p l most n d) e w' := by
  obtain ⟨r, hr⟩ : ∃ r, repF p l most n d = r := ⟨_, rfl⟩
  rw [hr]
  unfold repF at hr
  have H : Hid (US w K u b s p l most v f1 f2) := h
  have HRO : Hid (∀ _ : Unit, Calls Tryd.prog 53 #[.pointer (some ⟨u, 0, none⟩), .int .i64 n] w fun e w' => (l.length + n ≤ most ∧ e = .returned (.tuple #[]) ∨ most < l.length + n ∧ e = .panicked (gave 4)) ∧ ∃ k, w' = w.drewN k) := fun _ => room_ok w K u b s p l most v f1 f2 h n hm hl (by omega)
  obtain ⟨ao, cp, hv⟩ := h.form
  subst hv
  have c1 := h.cells.2.1
  obtain ⟨L, hL⟩ : ∃ L, l.length = L := ⟨_, rfl⟩
  rw [hL] at c1 hr
  have HL : Hid (l.length = L) := hL
  have hLm : L ≤ 1048576 := by omega
  by_cases h1 : L < d
  · rw [if_pos h1] at hr
    have HE : Hid (r = (40, p, l)) := hr.symm
    have h1i : decide (d ≤ L) = false := by simp; omega
    clear hr h hL
    go_enter Tryd.func58, Tryd.ntmps58
    go_wp2_with fail
    refine (insist_no w).mono ?_
    rintro e w2 ⟨rfl, hw⟩
    obtain rfl := hw.symm
    go_wp2
    exact ⟨rfl, stored_bad (UF.refl _ _) HE.out (by decide)⟩
  · rw [if_neg h1] at hr
    have h1i : decide (d ≤ L) = true := by simp; omega
    have HR : Hid ((if most < L + n then ((4, p, l) : Nat × Nat × List Nat) else (0, p, copyL d n l)) = r) := hr
    clear hr h hL
    go_enter Tryd.func58, Tryd.ntmps58
    go_wp2_with fail
    refine (insist_ok w).mono ?_
    rintro e w2 ⟨rfl, hw⟩
    obtain rfl := hw.symm
    clear hw
    go_wp2_with fail
    refine (HRO.out ()).mono ?_
    rintro e w3 ⟨⟨h2, rfl⟩ | ⟨h2, rfl⟩, k, rfl⟩
    · have hr := HR.out
      rw [if_neg (by rw [← HL.out]; omega)] at hr
      have HE : Hid (r = (0, p, copyL d n l)) := hr.symm
      have H3 : Hid (US (w.drewN k) K u b s p l most (.slice ao l.length cp) f1 f2 ∧ UF K w (w.drewN k)) := ⟨H.out.drewN k, UF.drewN _ _ k⟩
      obtain ⟨w4, hw4⟩ : ∃ w4, w.drewN k = w4 := ⟨_, rfl⟩
      rw [hw4] at H3 ⊢
      have hsum : L + n ≤ 1048576 := by rw [← HL.out]; omega
      clear hw4 hr HR HRO c1 h2
      go_wp2_with fail
      go_loopw [18] (fun v18 wr => ∃ i : Nat, v18 = .int .i64 i ∧ i ≤ n ∧ Hid (∃ v', US wr K u b s p (copyL d i l) most v' f1 f2 ∧ UF K w wr)) (fun v18 _ => n - (intOf v18).toNat)
      case atStart => exact ⟨0, rfl, Nat.zero_le _, _, H3.out⟩
      case round =>
        obtain ⟨i, rfl, hi, HS⟩ := hrel
        by_cases hlt : i < n
        · have hlti : (i : Int) < (n : Int) := by omega
          obtain ⟨V, hS, hF⟩ := HS.out
          obtain ⟨M, hM⟩ : ∃ M, copyL d i l = M := ⟨_, rfl⟩
          have hML : M.length = L + i := by rw [← hM, copyL_length, HL.out]
          rw [hM] at hS
          obtain ⟨g, cq, rfl, cb⟩ := hS.byte (i := M.length - d) (by omega)
          obtain ⟨q, hq⟩ : ∃ q, M.length - d = q := ⟨_, rfl⟩
          have HX : Hid (copyL d (i + 1) l = M ++ [M.getD q 0]) := by
            show _ = _
            rw [copyL_succ, hM, hq]
          rw [hq] at cb
          obtain ⟨x, hx⟩ : ∃ x, M.getD q 0 = x := ⟨_, rfl⟩
          rw [hx] at cb HX
          obtain ⟨Q, hQ⟩ : ∃ Q, M.length = Q := ⟨_, rfl⟩
          have HQ : Hid (M.length = Q) := hQ
          rw [hQ] at hML
          have d1 := hS.cells.2.1
          have d2 := hS.cells.2.2.2.2.2
          rw [hQ] at d1
          have HSS : Hid (US wr K u b s p M most (.slice (some ⟨g, 0, none⟩) Q cq) f1 f2 ∧ UF K w wr) := ⟨by rw [← hQ]; exact hS, hF⟩
          have hqi : (Q : Int) - (d : Int) = (q : Int) := by rw [hQ] at hq; omega
          have hqQ : (q : Int) < (Q : Int) := by rw [hQ] at hq; omega
          have hqw : IntKind.i64.wrap (q : Int) = (q : Int) := wrapN q (by rw [hQ] at hq; omega)
          have hQb : Q + 1 ≤ 1048577 := by omega
          have hq0 : (0 : Int) ≤ (q : Int) := by omega
          clear hML
          obtain ⟨i0, hi0, hz0, hz1, hz2⟩ := info_parts infoB
          have HI : Hid (_ ∧ _ ∧ _ ∧ _) := ⟨hi0, hz0, hz1, hz2⟩
          have HA : Hid (∀ o, US (wr.drew.alloc o) K u b s p M most (.slice (some ⟨g, 0, none⟩) Q cq) f1 f2) := fun o => (HSS.out.1.drewN 1).alloc o
          have HO : Hid (∀ o, (wr.drew.alloc o).ownsRow 0 5 1 (.slice (some ⟨g, 0, none⟩) Q cq) Q (bcells M)) := fun o => by have := (HA.out o).own; rw [HQ.out] at this; exact this
          have e1 : (wr.alloc (.cells #[.int .u8 (x : Nat)] 5)).cell? ⟨u, 1, none⟩ = some (.slice (some ⟨g, 0, none⟩) Q cq) := (HA.out _).cells.2.1
          have e2 : (wr.alloc (.cells #[.int .u8 (x : Nat)] 5)).frozen? ⟨u, 1, none⟩ = false := (HA.out _).cells.2.2.2.2.2
          clear hS hF hM hq hx hQ HS hi0 hz0 hz1 hz2
          go_wp2_with fail
          go_region_law
            (refine step_append_lies _ rfl _ _ 33 rfl 0 5 i0 (.int .u8 0) 1 1 Tryd.underlying33 HI.out.1 HI.out.2.1 HI.out.2.2.1 HI.out.2.2.2 rfl (by decide) (.slice (some ⟨g, 0, none⟩) Q cq) Q (bcells M) rfl (by first | exact HO.out _) ⟨wr.heap.size, 0, none⟩ 1 1 [.int .u8 (x : Nat)] rfl rfl (by first | exact newB wr _ _ | exact newB wr.drew _ _) (oneB _) (by decide) (by unfold maxLen; omega) (by omega) (Nat.zero_le _) _ rfl ?_; intro g3 cap3 wc hown hgrow hat hgl; obtain ⟨z1, z2, z3, z4⟩ := (HA.out (.cells #[.int .u8 (x : Nat)] 5)).grow1 HQ.out hown hgrow hat rfl; have HZ : Hid _ := (⟨z3, z4⟩ : _ ∧ _); clear z3 z4 hown hgrow hat hgl)
          all_goals
            have hz3 := HZ.out.1
            rw [← HX.out] at hz3
            have HN : Hid (∃ v', US (wc.setCell ⟨u, 1, none⟩ (.slice (some ⟨g3, 0, none⟩) (Q + 1) cap3)) K u b s p (copyL d (i + 1) l) most v' f1 f2 ∧ UF K w (wc.setCell ⟨u, 1, none⟩ (.slice (some ⟨g3, 0, none⟩) (Q + 1) cap3))) := ⟨_, hz3, HSS.out.2.trans ⟨HZ.out.2.os, HZ.out.2.tape, HZ.out.2.output, Nat.le_trans (by simp) HZ.out.2.size, fun k hk => (HZ.out.2.block k hk).trans (heap_alloc_old wr.drew _ (HSS.out.1.kb k hk))⟩⟩
            clear hz3
            go_wp2
            exact ⟨⟨i + 1, by go_num, by omega, HN⟩, by simp [intOf]; omega⟩
        · have hlti : ¬ (i : Int) < (n : Int) := by omega
          obtain rfl : i = n := by omega
          go_wp2
          go_end0
          obtain ⟨v', h1, h2⟩ := HS.out
          refine ⟨h2, .inr ⟨by rw [HE.out], rfl, v', ?_⟩⟩
          rw [HE.out]
          exact h1
    · have hr := HR.out
      rw [if_pos (by rw [← HL.out]; exact h2)] at hr
      have HE : Hid (r = (4, p, l)) := hr.symm
      clear hr HRO HR
      go_wp2
      exact ⟨rfl, stored_bad (UF.drewN _ _ k) HE.out (by decide)⟩
end Go.Proofs.YtchjnfckcfikkaaDoor
