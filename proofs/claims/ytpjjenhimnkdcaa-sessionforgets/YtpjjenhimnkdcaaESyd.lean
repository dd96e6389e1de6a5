/- Layer 15: DeleteFunc and dropForgotten, where those who wait no more stand behind those who do. -/
import Derived.Test.YtpjjenhimnkdcaaESyc
namespace Go.Proofs.Ytpjjenhimnkdcaa
open Go.RowKit Go.Maps
set_option linter.unusedVariables false
set_option maxRecDepth 20000

theorem wpList_clear_run {P : Program} {w w' : World} {ops : Array Oper} {rest : List Oper} {o : Oper} {a : Act} {Q : Exit → Act → World → Prop} (hgd : o.guard = none) (x : Operand) (t : TypeId)
    (ho : o.op = .call { callee := .builtin .clear, args := #[x], argTypes := #[t] }) (v v' : Value) (hx : a.eval x = v)
    (hr : (Builtin.clear_ #[t] o.type #[v]).run P w = .ok v' w') (h : wpList P ops Q rest (a.put o.dst v') w') : wpList P ops Q (o :: rest) a w := by
  refine wpList_plain hgd fun K hK => ?_
  unfold Oper.wp execOp
  simp only [ho, resolve, invoke, builtin, Sem.run_bind, Sem.run_pure, Result.andThen_ok, List.map_toArray, List.map_cons, List.map_nil, hx, hr]
  exact hK _ _ h
theorem grown_of_below {w w' : World} (h : Below w.heap.size w w') (r : Option Nat) : w.grownBy w' r := ⟨h.os, h.tape, h.output, h.size, fun k hk _ => h.block k hk⟩
set_option maxHeartbeats 1000000 in
theorem delf_ok (w : World) (t mb q : Nat) (L : List Bt) (V A B : List Wt) (U : Nat) (a : Option Addr) (c n : Nat) (h : BX w t mb q L V U) (hrow : w.ownsRow 0 63 3 (.slice a n c) n (wcs (A ++ B))) (hn : (A ++ B).length = n) (hl : n ≤ 64) (hA : ∀ x ∈ A, (fnd L x.p x.s).isSome = true) (hB : ∀ x ∈ B, (fnd L x.p x.s).isSome = false) (hbd : ∀ x ∈ A ++ B, 0 ≤ x.p ∧ x.p ≤ 2147483647 ∧ 0 ≤ x.s ∧ x.s ≤ 2147483647) :
    Calls Try.prog 37 #[.slice a n c, .func (Fn.func 38) #[] #[.pointer (some ⟨U, 0, none⟩)]] w fun e w' => e = .returned (.slice a A.length c) ∧ w'.ownsRow 0 63 3 (.slice a A.length c) A.length (wcs A) ∧ w.grownBy w' (Value.slice a n c).ownBlock := by
  have hin : WIn w a (A ++ B) := WIn.of (c := c) (by rw [hn]; exact hrow)
  have hix := indexf_ok w t mb q L V A B U a c n h hin hn hl hA hB hbd
  have HH := hide (And.intro h (And.intro hin hrow))
  have HAB := hide (And.intro hA (And.intro hB hbd))
  have hal : A.length + B.length = n := by rw [← hn]; simp
  clear h hin hn hA hB hbd
  by_cases hB0 : B.length = 0
  · rw [if_pos hB0] at hix
    have HI := hide hix
    clear hix hrow
    go_enter Try.func37, Try.ntmps37
    go_wp2_with fail
    refine HI.out.mono ?_
    rintro e w1 ⟨rfl, hb1⟩
    have HB1 := hide hb1
    clear hb1 HI
    go_wp2
    go_ret
    have e : B = [] := List.length_eq_zero_iff.1 hB0
    have hr := HH.out.2.2
    subst e
    rw [List.append_nil] at hr
    have hnl : n = A.length := by rw [← hal]; rfl
    subst hnl
    exact ⟨rfl, owns_below hr HB1.out, grown_of_below HB1.out _⟩
  · rw [if_neg hB0] at hix
    obtain ⟨g, rfl, _⟩ := rowSome hrow (by omega)
    have hcap : n ≤ c := by
      rcases hrow.2 with ⟨e, _⟩ | ⟨g', cap, cur, e, _, _, h3, _⟩
      · cases e
      · cases e; exact h3
    have hcm : c ≤ 9223372036854775807 := by
      rcases hrow.2 with ⟨e, _⟩ | ⟨g', cap, cur, e, _, _, _, h4, _⟩
      · cases e
      · cases e; unfold maxLen at h4; omega
    have HI := hide hix
    clear hix hrow
    obtain ⟨m, hm⟩ : ∃ m, A.length = m := ⟨_, rfl⟩
    have HM := hide hm
    rw [hm] at HI hal ⊢
    clear hm
    go_enter Try.func37, Try.ntmps37
    go_wp2_with fail
    refine HI.out.mono ?_
    rintro e w1 ⟨rfl, hb1⟩
    have HB1 := hide hb1
    clear hb1 HI
    go_wp2
    go_loopw [5, 6] (fun i j wr => i = .int .i64 (m : Nat) ∧ ∃ k : Nat, j = .int .i64 (k : Nat) ∧ m < k ∧ k ≤ n ∧ BX wr t mb q L V U ∧ WIn wr (some ⟨g, 0, none⟩) (A ++ B) ∧ Below w.heap.size w wr) (fun _ j _ => n - (intOf j).toNat)
    case atStart => exact ⟨rfl, m + 1, by go_num, by omega, by omega, HH.out.1.below HB1.out, HH.out.2.1.below HB1.out, HB1.out⟩
    case round =>
      obtain ⟨rfl, k, rfl, hmk, hk, hbx, hwin, hbel⟩ := hrel
      have HS := hide (And.intro hbx (And.intro hwin hbel))
      clear HB1 hbx hbel
      by_cases hlt : k < n
      · have hlti : (k : Int) < (n : Int) := by omega
        obtain ⟨y, hy⟩ : ∃ y, (A ++ B)[k]? = some y := ⟨_, List.getElem?_eq_getElem (by rw [List.length_append, HM.out]; omega)⟩
        obtain ⟨g', e', _, c0, c1, c2⟩ := hwin _ _ hy
        cases e'
        obtain ⟨b0, b1, b2, b3⟩ := HAB.out.2.2 y (List.mem_of_getElem? hy)
        have hf : (fnd L y.p y.s).isSome = false := HAB.out.2.1 y (by rw [List.getElem?_append_right (by rw [HM.out]; omega)] at hy; exact List.mem_of_getElem? hy)
        obtain ⟨X, hX⟩ : ∃ X, wr.heap.size = X := ⟨_, rfl⟩
        have hba := below_a wr (.cells #[.int .i64 y.p, .int .i64 y.s, .int .i64 y.who] 63)
        have hcl := clo_ok _ t mb q L V U (HS.out.1.below hba) y.p y.s y.who b0 b1 b2 b3
        rw [hf] at hcl
        have HN := hide (And.intro hcl (And.intro (HS.out.1.below hba) (And.intro (HS.out.2.1.below hba) (And.intro (HS.out.2.2.trans (hba.mono HS.out.2.2.size)) (heap_alloc_new wr (.cells #[.int .i64 y.p, .int .i64 y.s, .int .i64 y.who] 63))))))
        obtain ⟨yp, ys, yw⟩ := y
        simp only [Bool.not_false] at HN c0 c1 c2
        rw [hX] at HN
        clear hcl hf b0 b1 b2 b3 hy hwin hba HS
        go_upto_region 8 with fail
        try rw [hX]
        generalize (wr.alloc (.cells #[.int .i64 yp, .int .i64 ys, .int .i64 yw] 63)) = w2 at HN
        have z0 : w2.cell? ⟨X, 0, none⟩ = some (.int .i64 yp) := by simp [World.cell?, HN.out.2.2.2.2]
        have z1 : w2.cell? ⟨X, 1, none⟩ = some (.int .i64 ys) := by simp [World.cell?, HN.out.2.2.2.2]
        have z2 : w2.cell? ⟨X, 2, none⟩ = some (.int .i64 yw) := by simp [World.cell?, HN.out.2.2.2.2]
        clear c0 c1 c2 hX
        go_wp2_with fail
        refine HN.out.1.mono ?_
        rintro e w3 ⟨rfl, hb3⟩
        have HN2 := hide (And.intro (HN.out.2.1.below hb3) (And.intro (HN.out.2.2.1.below hb3) (HN.out.2.2.2.1.trans (hb3.mono HN.out.2.2.2.1.size))))
        clear hb3 HN z0 z1 z2
        go_wp2
        go_roundw
        case rel => exact ⟨_, _, _, _, _, _, _, _, _, _, _, _, _, _, _, _, _, _, _, _, _, _, _, ⟨rfl, k + 1, by go_num, by omega, by omega, HN2.out.1, HN2.out.2.1, HN2.out.2.2⟩, rfl⟩
        case measure => simp [intOf]; omega
      · obtain rfl : k = n := by omega
        have hlti : ¬ (k : Int) < (k : Int) := by omega
        obtain ⟨w4, hrun, hg4, hr4⟩ := clear_ok (owns_below HH.out.2.2 HS.out.2.2) (by rw [HM.out]; exact hal.symm) (by omega) 0 (c - m)
        rw [HM.out] at hrun hr4
        have hmi : (m : Int) ≤ (k : Int) := by omega
        have hbl : B.length = k - m := by omega
        rw [hbl] at hrun
        have HR := hide hrun
        have HF := hide (And.intro hr4 ((grown_of_below HS.out.2.2 (some g)).trans hg4))
        clear hrun hg4 hr4 hwin HS hbl
        have hrun := HR.out
        go_wp2
        go_ret
        exact ⟨rfl, HF.out.1, HF.out.2⟩
end Go.Proofs.Ytpjjenhimnkdcaa
